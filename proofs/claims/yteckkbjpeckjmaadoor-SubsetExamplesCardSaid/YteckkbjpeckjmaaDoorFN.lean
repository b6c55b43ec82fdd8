/- The kit's EqualEdges, EqualNFA, EqualSet; Long; the chapter's example. -/
import Derived.Test.YteckkbjpeckjmaaDoorFM
import Derived.BigQuiet
import Derived.Deep.QuietTactic
namespace Go.Proofs.YteckkbjpeckjmaaDoor.Nf
open Go Go.RowKit Go.Proofs.YteckkbjpeckjmaaDoor Go.Proofs.YteckkbjpeckjmaaDoor.Cb
set_option linter.unusedVariables false
set_option linter.unusedSimpArgs false
set_option maxRecDepth 100000
theorem eds_four {w wr : World} {A : Option Addr} {l : List Ed} (h : EdsAt w A l) (hb : Below w.heap.size w wr) {k : Nat} (hk : k < l.length) : ∃ ad, A = some ad ∧ (wr.cell? (ad.add (k * 4)) = some (.int .i64 (ed l k).fr) ∧ wr.cell? ⟨(ad.add (k * 4)).block, (ad.add (k * 4)).off + 1, none⟩ = some (.int .i64 (ed l k).to) ∧ wr.cell? ⟨(ad.add (k * 4)).block, (ad.add (k * 4)).off + 2, none⟩ = some (.int .u8 (ed l k).p) ∧
    wr.cell? ⟨(ad.add (k * 4)).block, (ad.add (k * 4)).off + 3, none⟩ = some (.int .u8 (ed l k).q)) := by
  obtain ⟨_, ad, e, _, hc⟩ := (h.below hb) k hk
  exact ⟨ad, e, four_at hc⟩
set_option maxHeartbeats 4000000 in
theorem EqualEdges_same (A B : Option Addr) (l : List Ed) (c d : Nat) (w : World) (hx : EdsAt w A l) (hy : EdsAt w B l) (hl : l.length ≤ 1000000) :
    Calls Tryd.prog 50 #[.slice A l.length c, .slice B l.length d] w fun e w' => e = .returned (.bool true) ∧ ∃ n, w' = w.drewN n := by
  go_enter Tryd.func50, Tryd.ntmps50
  have hn0 : ((l.length : Int) != (l.length : Int)) = false := by simp
  have HX := Lib.hid fun (q : Nat) k (hk : k < l.length) => eds_four (wr := w) hx (Below.refl _ _) hk
  have HY := Lib.hid fun (q : Nat) k (hk : k < l.length) => eds_four (wr := w) hy (Below.refl _ _) hk
  clear hx hy
  generalize ed l = f at *
  generalize l.length = n at *
  go_wp2
  go_loopw [5] (fun i wr => ∃ k q : Nat, k ≤ n ∧ i = .int .i64 k ∧ wr = w.drewN q) (fun i _ => n - (intOf i).toNat)
  case atStart => exact ⟨0, 0, by omega, rfl, rfl⟩
  case round =>
    obtain ⟨k, q, hk, rfl, rfl⟩ := hrel
    by_cases hlt : k < n
    · obtain ⟨ad, rfl, f0, f1, f2, f3⟩ := HX.out q k hlt
      obtain ⟨bd, rfl, g0, g1, g2, g3⟩ := HY.out q k hlt
      have hlt2 : (k : Int) < n := by omega
      clear HX HY
      generalize f k = x at *
      go_wp2
      go_quiet (fail)
      go_wp2
      go_roundw
      case rel => exact ⟨k + 1, _, by omega, by go_num, rfl⟩
      case measure => simp [intOf]; omega
    · obtain rfl : k = n := by omega
      clear HX HY
      go_wp2
      go_ret
      exact ⟨rfl, _, rfl⟩
set_option maxHeartbeats 4000000 in
theorem EqualNFA_same (n : Na) (A B C A' B' C' : Option Addr) (a b c a' b' c' : Nat) (w : World) (hx : NaAt w n A B C) (hy : NaAt w n A' B' C') (hl : NaLen n) :
    Calls Tryd.prog 17 #[.agg #[.int .i64 n.V, .int .i64 n.S, .slice A n.st.length a, .slice B n.fi.length b, .slice C n.es.length c], .agg #[.int .i64 n.V, .int .i64 n.S, .slice A' n.st.length a', .slice B' n.fi.length b', .slice C' n.es.length c']] w fun e w' =>
      e = .returned (.bool true) ∧ Below w.heap.size w w' := by
  have hB1 := (Boxed5.new w 26 (.int .i64 n.V) (.int .i64 n.S) (.slice A n.st.length a) (.slice B n.fi.length b) (.slice C n.es.length c)).below (bal (Below.refl _ _) (.cells #[.int .i64 n.V, .int .i64 n.S, .slice A' n.st.length a', .slice B' n.fi.length b', .slice C' n.es.length c'] 26))
  have hB2 := Boxed5.new (w.alloc (.cells #[.int .i64 n.V, .int .i64 n.S, .slice A n.st.length a, .slice B n.fi.length b, .slice C n.es.length c] 26)) 26 (.int .i64 n.V) (.int .i64 n.S) (.slice A' n.st.length a') (.slice B' n.fi.length b') (.slice C' n.es.length c')
  have hb0 := bal (bal (Below.refl w.heap.size w) (.cells #[.int .i64 n.V, .int .i64 n.S, .slice A n.st.length a, .slice B n.fi.length b, .slice C n.es.length c] 26)) (.cells #[.int .i64 n.V, .int .i64 n.S, .slice A' n.st.length a', .slice B' n.fi.length b', .slice C' n.es.length c'] 26)
  simp only [World.size_alloc] at hB2
  have H1 : Hid (∀ X, Below w.heap.size w X → Calls Tryd.prog 30 #[.slice A n.st.length a, .slice A' n.st.length a'] X fun e w' => e = .returned (.bool true) ∧ Below X.heap.size X w') := fun X hX => by
    have := Dg.EqualInts_any A A' n.st n.st a a' X (hx.st.below hX) (hy.st.below hX) (by have := hl.st; unfold maxLen; omega)
    rw [decide_eq_true rfl] at this
    exact this
  have H2 : Hid (∀ X, Below w.heap.size w X → Calls Tryd.prog 30 #[.slice B n.fi.length b, .slice B' n.fi.length b'] X fun e w' => e = .returned (.bool true) ∧ Below X.heap.size X w') := fun X hX => by
    have := Dg.EqualInts_any B B' n.fi n.fi b b' X (hx.fi.below hX) (hy.fi.below hX) (by have := hl.fi; unfold maxLen; omega)
    rw [decide_eq_true rfl] at this
    exact this
  have H3 := Lib.hid fun X (hX : Below w.heap.size w X) => EqualEdges_same C C' n.es c c' X (hx.es.below hX) (hy.es.below hX) hl.es
  obtain ⟨V, S, st, fi, es⟩ := n
  dsimp only at *
  clear hx hy hl
  generalize st.length = ns at *
  generalize fi.length = nf at *
  generalize es.length = ne at *
  have hV : (V == V) = true := beq_self_eq_true V
  have hS : (S == S) = true := beq_self_eq_true S
  go_enter Tryd.func17, Tryd.ntmps17
  go_wp2_with (first
    | (go_at_call 30; ((with_reducible refine (H1.out _ hb0).mono ?_); rintro e w2 ⟨rfl, hb2⟩); replace hB1 := hB1.below hb2; replace hB2 := hB2.below hb2; replace hb0 := stepB hb0 hb2; clear H1; obtain ⟨z0, z1, z2, z3, z4⟩ := hB1.cells; obtain ⟨y0, y1, y2, y3, y4⟩ := hB2.cells)
    | (go_at_call 30; ((with_reducible refine (H2.out _ hb0).mono ?_); rintro e w3 ⟨rfl, hb3⟩); clear z0 z1 z2 z3 z4 y0 y1 y2 y3 y4; replace hB1 := hB1.below hb3; replace hB2 := hB2.below hb3; replace hb0 := stepB hb0 hb3; clear H2; obtain ⟨z0, z1, z2, z3, z4⟩ := hB1.cells; obtain ⟨y0, y1, y2, y3, y4⟩ := hB2.cells)
    | (go_at_call 50; ((with_reducible refine (H3.out _ hb0).mono ?_); rintro e w4 ⟨rfl, nq, rfl⟩)))
  go_ret
  exact ⟨rfl, stepB hb0 (Ap.drewN_below _ _)⟩
set_option maxHeartbeats 2000000 in
theorem EqualSet_same (A B : Option Addr) (xs : List Nat) (c d : Nat) (w : World) (hx : Words w A xs) (hy : Words w B xs) (hl : xs.length ≤ 1000000) :
    Calls Tryd.prog 13 #[.slice A xs.length c, .slice B xs.length d] w fun e w' => e = .returned (.bool true) ∧ ∃ n, w' = w.drewN n := by
  have hn0 : ((xs.length : Int) != (xs.length : Int)) = false := by simp
  go_enter Tryd.func13, Tryd.ntmps13
  go_wp2
  go_loopw [5] (fun i wr => ∃ k q : Nat, k ≤ xs.length ∧ i = .int .i64 k ∧ wr = w.drewN q) (fun i _ => xs.length - (intOf i).toNat)
  case atStart => exact ⟨0, 0, by omega, rfl, rfl⟩
  case round =>
    obtain ⟨k, q, hk, rfl, rfl⟩ := hrel
    by_cases hlt : k < xs.length
    · obtain ⟨ad, rfl, hcell⟩ := hx.at_ hlt
      obtain ⟨bd, rfl, hcell'⟩ := hy.at_ hlt
      generalize wd xs k = x at *
      have hne : ((x : Int) != (x : Int)) = false := by simp
      go_wp2
      go_quiet (fail)
      go_wp2
      go_roundw
      case rel => exact ⟨k + 1, _, by omega, by go_num, rfl⟩
      case measure => simp [intOf]; omega
    · obtain rfl : k = xs.length := by omega
      go_wp2
      go_ret
      exact ⟨rfl, _, rfl⟩
/-- Whether an automaton has more elements than the statements examine. -/
def longB (n : Na) : Bool := decide (100 < n.st.length) || decide (100 < n.fi.length) || decide (520 < n.es.length)
theorem long_no {n : Na} (h : longB n = false) : n.st.length ≤ 100 ∧ n.fi.length ≤ 100 ∧ n.es.length ≤ 520 := by
  unfold longB at h
  simp only [Bool.or_eq_false_iff, decide_eq_false_iff_not] at h
  omega
theorem long_len {n : Na} (h : longB n = false) : NaLen n := by
  have := long_no h
  exact ⟨by omega, by omega, by omega⟩
set_option maxHeartbeats 2000000 in
theorem Long1_any (n : Na) (A B C : Option Addr) (a b c : Nat) (w : World) (hst : n.st.length ≤ maxLen) (hfi : n.fi.length ≤ maxLen) (hes : n.es.length ≤ maxLen) :
    Calls Tryd.prog 14 #[.slice (some ⟨w.heap.size, 0, none⟩) 1 1] (w.alloc (.cells #[.int .i64 n.V, .int .i64 n.S, .slice A n.st.length a, .slice B n.fi.length b, .slice C n.es.length c] 26)) fun e w' => e = .returned (.bool (longB n)) ∧ Below w.heap.size w w' := by
  have hb0 := bal (Below.refl w.heap.size w) (.cells #[.int .i64 n.V, .int .i64 n.S, .slice A n.st.length a, .slice B n.fi.length b, .slice C n.es.length c] 26)
  obtain ⟨z0, z1, z2, z3, z4⟩ := (Boxed5.mk0 w n A B C a b c).cells
  unfold maxLen at hst hfi hes
  have hL : Hid (longB n = (decide (100 < n.st.length) || decide (100 < n.fi.length) || decide (520 < n.es.length))) := rfl
  generalize longB n = L at *
  obtain ⟨V, S, st, fi, es⟩ := n
  dsimp only at *
  generalize st.length = ns at *
  generalize fi.length = nf at *
  generalize es.length = ne at *
  generalize World.alloc w (.cells #[.int .i64 V, .int .i64 S, .slice A ns a, .slice B nf b, .slice C ne c] 26) = W at *
  generalize w.heap.size = g at *
  go_enter Tryd.func14, Tryd.ntmps14
  go_wp2
  go_loopw [3] (fun i wr => (i = .int .i64 0 ∨ (i = .int .i64 1 ∧ Hid (L = false))) ∧ wr = W) (fun i _ => 1 - (intOf i).toNat)
  case atStart => exact ⟨.inl rfl, rfl⟩
  case round =>
    obtain ⟨rfl | ⟨rfl, hF⟩, rfl⟩ := hrel
    · by_cases h1 : 100 < ns
      · have hT : Hid (L = true) := by show _ = _; rw [hL.out, decide_eq_true h1]; rfl
        have d1 : decide ((100 : Int) < (ns : Int)) = true := decide_eq_true (by omega)
        clear hL
        go_wp2
        go_ret
        exact ⟨ret_b hT.out.symm, hb0⟩
      · have d1 : decide ((100 : Int) < (ns : Int)) = false := decide_eq_false (by omega)
        by_cases h2 : 100 < nf
        · have hT : Hid (L = true) := by show _ = _; rw [hL.out, decide_eq_true h2]; simp
          have d2 : decide ((100 : Int) < (nf : Int)) = true := decide_eq_true (by omega)
          clear hL
          go_wp2
          go_ret
          exact ⟨ret_b hT.out.symm, hb0⟩
        · have d2 : decide ((100 : Int) < (nf : Int)) = false := decide_eq_false (by omega)
          by_cases h3 : 520 < ne
          · have hT : Hid (L = true) := by show _ = _; rw [hL.out, decide_eq_true h3]; simp
            have d3 : decide ((520 : Int) < (ne : Int)) = true := decide_eq_true (by omega)
            clear hL
            go_wp2
            go_ret
            exact ⟨ret_b hT.out.symm, hb0⟩
          · have hF : Hid (L = false) := by show _ = _; rw [hL.out, decide_eq_false h1, decide_eq_false h2, decide_eq_false h3]; rfl
            have d3 : decide ((520 : Int) < (ne : Int)) = false := decide_eq_false (by omega)
            clear hL
            go_wp2
            go_roundw
            case rel => exact ⟨.inr ⟨rfl, hF⟩, trivial⟩
            case measure => simp [intOf]
    · clear hL
      go_wp2
      go_ret
      exact ⟨ret_b hF.out.symm, hb0⟩
/-- The chapter's automaton. -/
def exN : Na := ⟨1, 3, [0], [2], [⟨0, 0, 0, 0⟩, ⟨0, 1, 1, 0⟩, ⟨1, 2, 0, 0⟩]⟩
theorem ex_ok : chkN exN = 0 := by kernel_rfl
theorem ex_len : NaLen exN := ⟨by decide, by decide, by decide⟩
def exCells : Array Value := #[.int .i64 0, .int .i64 0, .int .u8 0, .int .u8 0, .int .i64 0, .int .i64 1, .int .u8 1, .int .u8 0, .int .i64 1, .int .i64 2, .int .u8 0, .int .u8 0]
theorem ex_cells : (evs exN.es).toArray = exCells := by kernel_rfl
theorem ex_fine : ∀ x ∈ exN.es, EdOk x := by
  intro x hx
  simp [exN] at hx
  rcases hx with rfl | rfl | rfl <;> exact ⟨by unfold InJ; decide, by unfold InJ; decide, by decide, by decide⟩
theorem eds_new (W : World) (l : List Ed) (hl : l.length ≤ 1000000) (hf : ∀ x ∈ l, EdOk x) : EdsAt (W.alloc (.cells (evs l).toArray 30)) (some ⟨W.heap.size, 0, none⟩) l :=
  eds_of_own (B := W.heap.size) (n := l.length) (c := l.length) ⟨evs_len l, .inr ⟨W.heap.size, l.length, (evs l).toArray, rfl, Nat.le_refl _, World.alloc_heap_new W _, Nat.le_refl _, by unfold maxLen; omega, by simp [evs_len], by rw [← evs_len l]; simp⟩⟩ hf
set_option maxHeartbeats 2000000 in
theorem second_any (w : World) : Calls Tryd.prog 11 #[] w fun e w' => ∃ A B C, e = .returned (.agg #[.int .i64 1, .int .i64 3, .slice A 1 1, .slice B 1 1, .slice C 3 3]) ∧ NaAt w' exN A B C ∧ Below w.heap.size w w' := by
  go_enter Tryd.func11, Tryd.ntmps11
  go_wp2
  have hst : Ints ((((w.alloc (.cells #[.int .i64 1, .int .i64 3, .slice (some ⟨w.heap.size + 1, 0, none⟩) 1 1, .slice (some ⟨w.heap.size + 1 + 1, 0, none⟩) 1 1, .slice (some ⟨w.heap.size + 1 + 1 + 1, 0, none⟩) 3 3] 26)).alloc (.cells #[.int .i64 0] 3)).alloc (.cells #[.int .i64 2] 3)).alloc (.cells exCells 30)) (some ⟨w.heap.size + 1, 0, none⟩) [0] := by
    have h1 := Dg.ints_new (w.alloc (.cells #[.int .i64 1, .int .i64 3, .slice (some ⟨w.heap.size + 1, 0, none⟩) 1 1, .slice (some ⟨w.heap.size + 1 + 1, 0, none⟩) 1 1, .slice (some ⟨w.heap.size + 1 + 1 + 1, 0, none⟩) 3 3] 26)) 3 [0]
    rw [World.size_alloc] at h1
    exact (h1.below (bal (Below.refl _ _) _)).below (bal (Below.refl _ _) _)
  have hfi : Ints ((((w.alloc (.cells #[.int .i64 1, .int .i64 3, .slice (some ⟨w.heap.size + 1, 0, none⟩) 1 1, .slice (some ⟨w.heap.size + 1 + 1, 0, none⟩) 1 1, .slice (some ⟨w.heap.size + 1 + 1 + 1, 0, none⟩) 3 3] 26)).alloc (.cells #[.int .i64 0] 3)).alloc (.cells #[.int .i64 2] 3)).alloc (.cells exCells 30)) (some ⟨w.heap.size + 1 + 1, 0, none⟩) [2] := by
    have h1 := Dg.ints_new ((w.alloc (.cells #[.int .i64 1, .int .i64 3, .slice (some ⟨w.heap.size + 1, 0, none⟩) 1 1, .slice (some ⟨w.heap.size + 1 + 1, 0, none⟩) 1 1, .slice (some ⟨w.heap.size + 1 + 1 + 1, 0, none⟩) 3 3] 26)).alloc (.cells #[.int .i64 0] 3)) 3 [2]
    rw [World.size_alloc, World.size_alloc] at h1
    exact h1.below (bal (Below.refl _ _) _)
  have hes := eds_new (((w.alloc (.cells #[.int .i64 1, .int .i64 3, .slice (some ⟨w.heap.size + 1, 0, none⟩) 1 1, .slice (some ⟨w.heap.size + 1 + 1, 0, none⟩) 1 1, .slice (some ⟨w.heap.size + 1 + 1 + 1, 0, none⟩) 3 3] 26)).alloc (.cells #[.int .i64 0] 3)).alloc (.cells #[.int .i64 2] 3)) exN.es (by decide) ex_fine
  rw [ex_cells, World.size_alloc, World.size_alloc, World.size_alloc] at hes
  refine bodyPost_ret (v := .agg #[.int .i64 1, .int .i64 3, .slice (some ⟨w.heap.size + 1, 0, none⟩) 1 1, .slice (some ⟨w.heap.size + 1 + 1, 0, none⟩) 1 1, .slice (some ⟨w.heap.size + 1 + 1 + 1, 0, none⟩) 3 3]) (by simp [results, Tryd.results11, go_sem]) rfl ?_
  exact ⟨_, _, _, rfl, ⟨by unfold InJ; decide, by unfold InJ; decide, hst, hfi, hes⟩, bal (bal (bal (bal (Below.refl _ _) _) _) _) _⟩
theorem bys_new (W : World) (l : List Nat) : Bys (W.alloc (.cells (bvs l).toArray 5)) (some ⟨W.heap.size, 0, none⟩) l :=
  Ap.vals_new_ W _ _ _ _ fun j hj => by simp [bvs, wd, hj]
theorem awake_acc (l : List Nat) (h8 : ∀ y ∈ l, y < 256) (hl : l.length ≤ 100) (b0 : Bool) (h0 : wrongN exN l = 0) (ha : accW exN l = b0) (w : World) (A B C : Option Addr) (hx : NaAt w exN A B C) (X : World) (hX : Below w.heap.size w X) :
    Calls Tryd.prog 7 #[.agg #[.int .i64 1, .int .i64 3, .slice A 1 1, .slice B 1 1, .slice C 3 3], .slice (some ⟨X.heap.size, 0, none⟩) l.length l.length] (X.alloc (.cells (bvs l).toArray 5)) fun e w' =>
      e = .returned (.tuple #[.bool b0, .int .i64 0]) ∧ Below X.heap.size X w' := by
  have hb := bal (Below.refl X.heap.size X) (.cells (bvs l).toArray 5)
  have := Accepts_good exN A B C 1 1 3 (X.alloc (.cells (bvs l).toArray 5)) (hx.below (hX.trans (hb.mono hX.size))) ex_len (some ⟨X.heap.size, 0, none⟩) l l.length (bys_new X l) h8 (by omega) h0
  rw [ha] at this
  exact this.mono fun e w' h => ⟨h.1, stepB hb h.2⟩
set_option maxHeartbeats 8000000 in
theorem awake_any6 (w : World) : Calls Tryd.prog 6 #[] w fun e w' => e = .returned (.bool true) ∧ Below w.heap.size w w' := by
  have H1 : Hid (∀ (w : World) (A B C : Option Addr) (hx : NaAt w exN A B C) (X : World) (hX : Below w.heap.size w X) (g : Nat) (hg : g = X.heap.size), Calls Tryd.prog 7 #[.agg #[.int .i64 1, .int .i64 3, .slice A 1 1, .slice B 1 1, .slice C 3 3], .slice (some ⟨g, 0, none⟩) 2 2] (X.alloc (.cells #[.int .u8 1, .int .u8 0] 5)) fun e w' => e = .returned (.tuple #[.bool true, .int .i64 0]) ∧ Below X.heap.size X w') := fun w A B C hx X hX g hg => by
    subst hg
    exact awake_acc [1, 0] (by decide) (by decide) true (by kernel_rfl) (by kernel_rfl) w A B C hx X hX
  have H2 : Hid (∀ (w : World) (A B C : Option Addr) (hx : NaAt w exN A B C) (X : World) (hX : Below w.heap.size w X) (g : Nat) (hg : g = X.heap.size), Calls Tryd.prog 7 #[.agg #[.int .i64 1, .int .i64 3, .slice A 1 1, .slice B 1 1, .slice C 3 3], .slice (some ⟨g, 0, none⟩) 3 3] (X.alloc (.cells #[.int .u8 0, .int .u8 1, .int .u8 1] 5)) fun e w' => e = .returned (.tuple #[.bool true, .int .i64 0]) ∧ Below X.heap.size X w') := fun w A B C hx X hX g hg => by
    subst hg
    exact awake_acc [0, 1, 1] (by decide) (by decide) true (by kernel_rfl) (by kernel_rfl) w A B C hx X hX
  have H3 : Hid (∀ (w : World) (A B C : Option Addr) (hx : NaAt w exN A B C) (X : World) (hX : Below w.heap.size w X) (g : Nat) (hg : g = X.heap.size), Calls Tryd.prog 7 #[.agg #[.int .i64 1, .int .i64 3, .slice A 1 1, .slice B 1 1, .slice C 3 3], .slice (some ⟨g, 0, none⟩) 2 2] (X.alloc (.cells #[.int .u8 0, .int .u8 1] 5)) fun e w' => e = .returned (.tuple #[.bool false, .int .i64 0]) ∧ Below X.heap.size X w') := fun w A B C hx X hX g hg => by
    subst hg
    exact awake_acc [0, 1] (by decide) (by decide) false (by kernel_rfl) (by kernel_rfl) w A B C hx X hX
  have H4 : Hid (∀ (w : World) (A B C : Option Addr) (hx : NaAt w exN A B C) (X : World) (hX : Below w.heap.size w X), Calls Tryd.prog 7 #[.agg #[.int .i64 1, .int .i64 3, .slice A 1 1, .slice B 1 1, .slice C 3 3], .slice none 0 0] X fun e w' =>
      e = .returned (.tuple #[.bool false, .int .i64 0]) ∧ Below X.heap.size X w') := fun w A B C hx X hX => by
    have := Accepts_good exN A B C 1 1 3 X (hx.below hX) ex_len none [] 0 Vals.nil_ (by simp) (by simp) (by kernel_rfl)
    rw [show accW exN [] = false by kernel_rfl] at this
    exact this
  have H5 : Hid (∀ (w : World) (A B C : Option Addr) (hx : NaAt w exN A B C) (X : World) (hX : Below w.heap.size w X), Calls Tryd.prog 28 #[.agg #[.int .i64 1, .int .i64 3, .slice A 1 1, .slice B 1 1, .slice C 3 3], .slice (some ⟨X.heap.size, 0, none⟩) 1 1] (X.alloc (.cells #[.int .u8 1] 5)) fun e w' =>
      ∃ A' c', e = .returned (.tuple #[.slice A' 1 c', .int .i64 0]) ∧ Words w' A' [3] ∧ Below X.heap.size X w') := fun w A B C hx X hX => by
    have hb := bal (Below.refl X.heap.size X) (.cells #[.int .u8 1] 5)
    have := Run_good exN A B C 1 1 3 (X.alloc (.cells #[.int .u8 1] 5)) (hx.below (hX.trans (hb.mono hX.size))) ex_len (some ⟨X.heap.size, 0, none⟩) [1] 1 (bys_new X [1]) (by decide) (by decide) (by kernel_rfl)
    rw [show runW exN [1] = [3] by kernel_rfl] at this
    exact this.mono fun e w' ⟨A', c', h1, h2, h3⟩ => ⟨A', c', h1, h2.words, stepB hb h3⟩
  have H6 : Hid (∀ (w : World) (A B C : Option Addr) (hx : NaAt w exN A B C) (X : World) (hX : Below w.heap.size w X), Calls Tryd.prog 29 #[.agg #[.int .i64 1, .int .i64 3, .slice A 1 1, .slice B 1 1, .slice C 3 3]] X fun e w' =>
      ∃ A' B' C' a' b' c', e = .returned (.tuple #[.agg #[.int .i64 1, .int .i64 3, .slice A' 1 a', .slice B' 1 b', .slice C' 3 c'], .int .i64 0]) ∧ Below X.heap.size X w' ∧ Ints w' A' [2] ∧ Ints w' B' [0]) := fun w A B C hx X hX => by
    have := Reverse_good exN A B C 1 1 3 X (hx.below hX) ex_len ex_ok
    exact this.mono fun e w' ⟨A', B', C', a', b', c', h1, h2, h3⟩ => ⟨A', B', C', a', b', c', h1, h2, Dg.ints_row h3.o1 rfl, Dg.ints_row h3.o2 rfl⟩
  have HE : Hid (∀ (X : World) A c, Words X A [3] → ∀ g, g = X.heap.size → Calls Tryd.prog 13 #[.slice A 1 c, .slice (some ⟨g, 0, none⟩) 1 1] (X.alloc (.cells #[.int .u64 3] 44)) fun e w' => e = .returned (.bool true) ∧ Below X.heap.size X w') := fun X A c hA g hg => by
    subst hg
    have hb := bal (Below.refl X.heap.size X) (.cells #[.int .u64 3] 44)
    exact (EqualSet_same A (some ⟨X.heap.size, 0, none⟩) [3] c 1 _ (hA.below hb) (words_new X 44 [3]) (by decide)).mono fun e w' ⟨h1, n, h2⟩ => ⟨h1, h2 ▸ stepB hb (Ap.drewN_below _ n)⟩
  have HI : Hid (∀ (X : World) A c z, Ints X A [z] → ∀ g, g = X.heap.size → Calls Tryd.prog 30 #[.slice A 1 c, .slice (some ⟨g, 0, none⟩) 1 1] (X.alloc (.cells #[.int .i64 z] 3)) fun e w' => e = .returned (.bool true) ∧ Below X.heap.size X w') := fun X A c z hA g hg => by
    subst hg
    have hb := bal (Below.refl X.heap.size X) (.cells #[.int .i64 z] 3)
    have := Dg.EqualInts_any A (some ⟨X.heap.size, 0, none⟩) [z] [z] c 1 _ (hA.below hb) (Dg.ints_new X 3 [z]) (by unfold maxLen; simp)
    rw [decide_eq_true rfl] at this
    exact this.mono fun e w' ⟨h1, h2⟩ => ⟨h1, stepB hb h2⟩
  have H0 := Lib.hid fun X => second_any X
  go_enter Tryd.func6, Tryd.ntmps6
  go_wp2_with (first
    | (go_at_call 11; ((with_reducible refine (H0.out _).mono ?_); rintro e w2 ⟨A, B, C, rfl, hx, hb2⟩); have hB := Boxed5.new w2 26 (.int .i64 1) (.int .i64 3) (.slice A 1 1) (.slice B 1 1) (.slice C 3 3); have K := bal (Below.refl w2.heap.size w2) (.cells #[.int .i64 1, .int .i64 3, .slice A 1 1, .slice B 1 1, .slice C 3 3] 26); obtain ⟨z0, z1, z2, z3, z4⟩ := hB.cells)
    | (go_at_call 7; ((with_reducible refine (H1.out w2 A B C hx _ K _ (by simp)).mono ?_); rintro e w3 ⟨rfl, hb3⟩); clear H1; replace K := stepB K hb3; replace hB := hB.below hb3; clear z0 z1 z2 z3 z4; obtain ⟨z0, z1, z2, z3, z4⟩ := hB.cells)
    | (go_at_call 7; ((with_reducible refine (H2.out w2 A B C hx _ K _ rfl).mono ?_); rintro e w4 ⟨rfl, hb4⟩); clear H2; replace K := stepB K hb4; replace hB := hB.below hb4; clear z0 z1 z2 z3 z4; obtain ⟨z0, z1, z2, z3, z4⟩ := hB.cells)
    | (go_at_call 7; ((with_reducible refine (H3.out w2 A B C hx _ K _ rfl).mono ?_); rintro e w5 ⟨rfl, hb5⟩); clear H3; replace K := stepB K hb5; replace hB := hB.below hb5; clear z0 z1 z2 z3 z4; obtain ⟨z0, z1, z2, z3, z4⟩ := hB.cells)
    | (go_at_call 7; ((with_reducible refine (H4.out w2 A B C hx _ K).mono ?_); rintro e w6 ⟨rfl, hb6⟩); clear H4; replace K := stepB K hb6; replace hB := hB.below hb6; clear z0 z1 z2 z3 z4; obtain ⟨z0, z1, z2, z3, z4⟩ := hB.cells)
    | (go_at_call 28; ((with_reducible refine (H5.out w2 A B C hx _ K).mono ?_); rintro e w7 ⟨A7, c7, rfl, hw7, hb7⟩); clear H5; replace K := stepB K hb7; replace hB := hB.below hb7; clear z0 z1 z2 z3 z4; obtain ⟨z0, z1, z2, z3, z4⟩ := hB.cells)
    | (go_at_call 29; ((with_reducible refine (H6.out w2 A B C hx _ K).mono ?_); rintro e w8 ⟨A8, B8, C8, a8, b8, c8, rfl, hb8, hi8, hj8⟩); clear H6; replace K := stepB K hb8; have hM := Boxed5.new w8 26 (.int .i64 1) (.int .i64 3) (.slice A8 1 a8) (.slice B8 1 b8) (.slice C8 3 c8); have hb9 := bal (Below.refl w8.heap.size w8) (.cells #[.int .i64 1, .int .i64 3, .slice A8 1 a8, .slice B8 1 b8, .slice C8 3 c8] 26); clear z0 z1 z2 z3 z4 hB; replace hw7 := (hw7.below hb8).below hb9; replace hi8 := hi8.below hb9; replace hj8 := hj8.below hb9; replace K := stepB K hb9)
    | (go_at_call 13; ((with_reducible refine (HE.out _ _ _ hw7 _ (by simp)).mono ?_); rintro e w9 ⟨rfl, hb10⟩); replace K := stepB K hb10; replace hM := hM.below hb10; replace hi8 := hi8.below hb10; replace hj8 := hj8.below hb10; obtain ⟨z0, z1, z2, z3, z4⟩ := hM.cells)
    | (go_at_call 30; ((with_reducible refine (HI.out _ _ _ _ hi8 _ rfl).mono ?_); rintro e w10 ⟨rfl, hb11⟩); replace K := stepB K hb11; replace hM := hM.below hb11; replace hj8 := hj8.below hb11; clear z0 z1 z2 z3 z4; obtain ⟨z0, z1, z2, z3, z4⟩ := hM.cells)
    | (go_at_call 30; ((with_reducible refine (HI.out _ _ _ _ hj8 _ rfl).mono ?_); rintro e w11 ⟨rfl, hb12⟩); replace K := stepB K hb12))
  go_ret
  exact ⟨rfl, stepB hb2 K⟩
end Go.Proofs.YteckkbjpeckjmaaDoor.Nf
