/- The walk of the law BitsetMatches. -/
import Derived.Test.YtnjagdocgmbmiaaDoorMA
namespace Go.Proofs.YtnjagdocgmbmiaaDoor
open Go Go.RowKit
set_option maxRecDepth 100000
set_option linter.unusedVariables false
/-- What every round reads: the copy, the set, the list, the wanted lists. -/
structure Rd0 (X : World) (Xa A B A1 A9 : Option Addr) (xs : List Nat) (l wl ls : List Int) (n1 n9 nl : Nat) : Prop where
  i : Words X Xa xs
  s : Words X A xs
  l : Vals X B nl fun j => .int .i64 (nd l j)
  w : Vals X A1 n1 fun j => .int .i64 (nd wl j)
  e : Vals X A9 n9 fun j => .int .i64 (nd ls j)
  t : Tab X
theorem Rd0.step {X Y : World} {Xa A B A1 A9 : Option Addr} {xs : List Nat} {l wl ls : List Int} {n1 n9 nl : Nat} (h : Rd0 X Xa A B A1 A9 xs l wl ls n1 n9 nl) (hb : Below X.heap.size X Y) : Rd0 Y Xa A B A1 A9 xs l wl ls n1 n9 nl :=
  ⟨h.i.below hb, h.s.below hb, h.l.below hb, h.w.below hb, h.e.below hb, h.t.below hb⟩
/-- The sets of a round, each of its own, at or above the round's first world. -/
def Owns (r0 : Nat) (X : World) (L : List (Option Addr × Nat × List Nat)) : Prop := ∀ q ∈ L, OwnW r0 X q.1 q.2.1 q.2.2
theorem Owns.step {r0 : Nat} {X Y : World} {L : List (Option Addr × Nat × List Nat)} (h : Owns r0 X L) (hb : Below X.heap.size X Y) : Owns r0 Y L := fun q hq => ⟨own_bel (h q hq).1 hb, (h q hq).2⟩
theorem Owns.push {r0 : Nat} {X Y : World} {L : List (Option Addr × Nat × List Nat)} (h : Owns r0 X L) (hb : Below X.heap.size X Y) (hr : r0 ≤ X.heap.size) {A : Option Addr} {c : Nat} {xs : List Nat} (o : OwnW X.heap.size Y A c xs) : Owns r0 Y ((A, c, xs) :: L) := fun q hq => by
  rcases List.mem_cons.1 hq with rfl | h1
  · exact ⟨own_low o.1 hr, o.2⟩
  · exact h.step hb q h1
theorem Owns.get {r0 : Nat} {X : World} {L : List (Option Addr × Nat × List Nat)} (h : Owns r0 X L) {A : Option Addr} {c : Nat} {xs : List Nat} (hm : (A, c, xs) ∈ L) : Words X A xs := (h _ hm).words
theorem spoil_four (r0 : Nat) (w : World) (L : List (Option Addr × Nat × List Nat)) (E : Option Addr) (em ec : Nat) (xe : List Value) (H : Owns r0 w L) (hr : r0 ≤ w.heap.size) (he : w.ownsRow r0 3 1 (.slice E em ec) em xe) (hn : L.length ≤ 1000) (hs : ∀ q ∈ L, q.2.2.length ≤ 64) (t : TypeId) (m : Nat) :
    Calls Tryd.prog 27 #[.slice (some ⟨w.heap.size, 0, none⟩) L.length m] (w.alloc (.cells (slices (L.map fun q => (q.1, q.2.2.length, q.2.1))) t)) fun e w' => e = .returned (.tuple #[]) ∧ Below r0 w w' ∧ CanW r0 w.heap.size w' E em := by
  have ha : Below w.heap.size w (w.alloc (.cells (slices (L.map fun q => (q.1, q.2.2.length, q.2.1))) t)) := alloc_below w _
  refine (spoil_any2 r0 ⟨w.heap.size, 0, none⟩ L.length m (fun j => (L.getD j default).1) (fun j => (L.getD j default).2.2.length) (fun j => (L.getD j default).2.1) _ E em ?_ hn ?_ ?_ ?_).mono ?_
  · intro j hj
    refine ⟨_, rfl, by simp, ?_⟩
    rw [addr_add, World.cell?_alloc_at _ _ _ _ rfl]
    simp [slices, hj]
  · intro j hj
    have := hs _ (List.getElem_mem hj)
    simp only [List.getD_eq_getElem?_getD, List.getElem?_eq_getElem hj, Option.getD_some]
    unfold maxLen; omega
  · intro i hi
    have hq := H _ (List.getElem_mem hi)
    simp only [List.getD_eq_getElem?_getD, List.getElem?_eq_getElem hi, Option.getD_some]
    refine CanW.own (own_bel hq.1 ha) ?_
    intro ad had
    have := (hq.1.lt ad.block (by rw [had]; rfl)).2
    show ad.block ≠ w.heap.size
    omega
  · refine CanW.own (own_bel he ha) ?_
    intro ad had
    have := (he.lt ad.block (by rw [had]; rfl)).2
    show ad.block ≠ w.heap.size
    omega
  · rintro e w' ⟨rfl, h, hc⟩
    exact ⟨rfl, (ha.mono hr).trans h, hc⟩
theorem Owns.sub {r0 : Nat} {X : World} {L L' : List (Option Addr × Nat × List Nat)} (h : Owns r0 X L) (hs : ∀ q ∈ L', q ∈ L) : Owns r0 X L' := fun q hq => h q (hs q hq)
theorem Of_n (A : Option Addr) (l : List Int) (n c : Nat) (w : World) (hn : n = l.length) (hx : Vals w A n fun j => .int .i64 (nd l j)) (hl : n ≤ maxLen) :
    Calls Tryd.prog 15 #[.slice A n c] w fun e w' =>
      ∃ A' c', e = .returned (.slice A' (ofL l).length c') ∧ OwnW w.heap.size w' A' c' (ofL l) ∧ Below w.heap.size w w' := by
  subst hn
  exact Of_own A l c w hx hl
theorem refOf_n (A : Option Addr) (l : List Int) (n c : Nat) (w : World) (Z : List Nat) (hz : ofL l = Z) (hn : n = l.length) (hx : Vals w A n fun j => .int .i64 (nd l j)) (hl : n ≤ maxLen) :
    Calls Tryd.prog 23 #[.slice A n c] w fun e w' =>
      ∃ A' c', e = .returned (.slice A' Z.length c') ∧ Words w' A' Z ∧ Below w.heap.size w w' := by
  subst hz
  refine (refOf_own A l n c w hn (by subst hn; exact hx) (by rw [← hn]; exact hl)).mono ?_
  rintro e w' ⟨A', c', he, ho, hb⟩
  exact ⟨A', c', he, ho.words, hb⟩
theorem same_n (A B : Option Addr) (Z : List Nat) (c d : Nat) (w : World) (hx : Words w A Z) (hy : Words w B Z) (hl : Z.length ≤ maxLen) :
    Calls Tryd.prog 22 #[.slice A Z.length c, .slice B Z.length d] w fun e w' => e = .returned (.bool true) ∧ Below w.heap.size w w' := by
  refine (Same_any A B Z Z c d w hx hy hl).mono ?_
  rintro e w' ⟨rfl, m, rfl⟩
  exact ⟨by rw [decide_eq_true rfl], drewN_below _ _⟩
theorem copy_vals {X : World} {B : Nat} {A : Option Addr} {n c : Nat} {f : Nat → Int} (h : X.ownsRow B 3 1 (.slice A n c) n ((List.range n).map fun j => Value.int .i64 (f j))) : Vals X A n fun j => .int .i64 (f j) :=
  Vals.of_own h fun j hj => by simp [hj]
theorem wpList_unguard {P : Program} {ops : Array Oper} {Q : Exit → Act → World → Prop} {a : Act} {w : World} {rest : List Oper} {o : Oper} (hw : Region.wanted o (yielded ops a.tmps) = true) (h : wpList P ops Q ({ o with guard := none } :: rest) a w) : wpList P ops Q (o :: rest) a w := by
  unfold wpList at h ⊢
  rw [if_pos hw]
  rw [if_pos (show Region.wanted { o with guard := none } (yielded ops a.tmps) = true from rfl)] at h
  exact h
theorem app_vals {X : World} {b : Nat} {A : Option Addr} {wl : List Int} {n c : Nat} {k : Int} (hn : wl.length = n) (h : X.ownsRow b 3 1 (.slice A (n + 1) c) (n + 1) (((List.range n).map fun j => Value.int .i64 (nd wl j)) ++ [.int .i64 k])) : Vals X A (n + 1) fun j => .int .i64 (nd (wl ++ [k]) j) := by
  have e : ((List.range n).map fun j => Value.int .i64 (nd wl j)) ++ [Value.int .i64 k] = (wl ++ [k]).map (Value.int .i64) := by
    rw [← hn, ivs_range, List.map_append]; rfl
  rw [e] at h
  have := ints_own h (by rw [List.length_append, hn]; rfl)
  unfold Ints at this
  rwa [List.length_append, hn] at this
theorem row_vals {X : World} {b : Nat} {A : Option Addr} {xs : List Nat} {wl : List Int} {n c : Nat} (he : elsI xs = wl) (hn : n = (els xs).length) (h : X.ownsRow b 3 1 (.slice A n c) n (ivs (els xs))) : Vals X A n fun j => .int .i64 (nd wl j) := by
  have := own_ints h hn
  unfold Ints at this
  rw [List.length_map, ← hn] at this
  rw [← he]
  exact this
set_option maxHeartbeats 16000000 in
theorem bitsetMatches_walk (A : Option Addr) (xs : List Nat) (c : Nat) (k : Int) (B : Option Addr) (l : List Int) (d : Nat) (w : World) (hx : Words w A xs) (ux : U64 xs) (lx : xs.length ≤ c) (mx : c ≤ maxLen) (hkb : -9223372036854775808 ≤ k ∧ k ≤ 9223372036854775807) (hl : Ints w B l) (ll : l.length ≤ d) (ml : d ≤ maxLen) (hT : Tab w) :
    Calls Tryd.prog 3 #[.slice A xs.length c, .int .i64 k, .slice B l.length d] w fun e w' => e = .returned (.bool true) ∧ Below w.heap.size w w' := by
  obtain ⟨k0, k1⟩ := hkb
  have mll : l.length ≤ maxLen := Nat.le_trans ll ml
  have E00 : Env w w [] := ⟨Below.refl _ _, hT, (fun q hq => by cases hq)⟩
  have E0 : Env w w [(A, c, xs)] := E00.push hx ux lx
  clear E00
  have hm : ∀ q ∈ [(A, xs.length, c)], q.2.1 ≤ maxLen := by
    intro q hq
    simp only [List.mem_cons, List.not_mem_nil, or_false] at hq
    subst hq
    simp only; omega
  by_cases hlo : (!([(A, xs.length, c)] : List (Option Addr × Nat × Nat)).all fun q => decide (q.2.1 ≤ 80)) = true
  · have HL := Lib.hid (Long_env E0 [(A, xs.length, c)] 23 1 (by simp) hm hlo)
    clear hlo hm hx
    unfold maxLen at mll
    go_enter Tryd.func3, Tryd.ntmps3
    go_wp2_with (first
      | (go_at_call 11; refine HL.out.mono ?_; rintro e w1 ⟨rfl, E⟩)
      | (go_at_call 12; refine (awake_env E).mono ?_; rintro e w2 ⟨rfl, E2⟩))
    exact bodyPost_ret (v := .bool true) (by simp [results, Tryd.f3, go_sem]) rfl ⟨rfl, E2.1⟩
  · have hl' : (!([(A, xs.length, c)] : List (Option Addr × Nat × Nat)).all fun q => decide (q.2.1 ≤ 80)) = false := by simpa using hlo
    have HL := Lib.hid (Long_env E0 [(A, xs.length, c)] 23 1 (by simp) hm hl')
    have x80 : xs.length ≤ 80 := by simpa using hl'
    clear hlo hl' hm
    by_cases h100 : 100 < l.length
    · unfold maxLen at mll
      go_enter Tryd.func3, Tryd.ntmps3
      go_wp2_with (first
        | (go_at_call 11; refine HL.out.mono ?_; rintro e w1 ⟨rfl, E⟩)
        | (go_at_call 12; refine (awake_env E).mono ?_; rintro e w2 ⟨rfl, E2⟩))
      exact bodyPost_ret (v := .bool true) (by simp [results, Tryd.f3, go_sem]) rfl ⟨rfl, E2.1⟩
    · have h100' : l.length ≤ 100 := by omega
      obtain ⟨i0, hi, hz0, hz1, hz2⟩ := info_parts info_int
      obtain ⟨n, hn⟩ : ∃ n, n = (els xs).length := ⟨_, rfl⟩
      have hn4 : n ≤ 4096 := by rw [hn]; exact els_le xs
      have HNx := Lib.hid hn
      have HWL : Hid ((elsI xs).length = n) := by show _ = _; rw [elsI_len, hn]
      obtain ⟨nl, hnl⟩ : ∃ nl, nl = l.length := ⟨_, rfl⟩
      have hl2 : Vals w B nl fun j => .int .i64 (nd l j) := by rw [hnl]; exact hl
      have HNl := Lib.hid hnl
      rw [← hnl] at h100' h100 mll ll ⊢
      have CO := Lib.hid fun X (h : Words X A xs) => Own_any A xs c X h ux x80
      have CL := Lib.hid fun X (h : Words X A xs) => refList_n A xs c n X h ux x80 hn
      clear hn hnl hl
      generalize hwl : elsI xs = wl at *
      have HEl := Lib.hid hwl
      clear hwl
      go_enter Tryd.func3, Tryd.ntmps3
      go_wp2_with (first
        | (go_at_call 11; refine HL.out.mono ?_; rintro e w1 ⟨rfl, E⟩; have hx1 := hx.below E.1; have b1 := E.1)
        | (go_at_call 13; ((with_reducible refine (CO.out _ hx1).mono ?_); rintro e w2 ⟨Xa, xc, rfl, ho2, hb2⟩); have hx2 := hx1.below hb2; have b2 := stepB b1 hb2; have hi2 := ho2.words; have hxc := ho2.2.2)
        | (go_at_call 14; ((with_reducible refine (CL.out _ hx2).mono ?_); rintro e w3 ⟨A1, c1, rfl, hw3, hc1, hb3⟩); have hx3 := hx2.below hb3; have b3 := stepB b2 hb3; have hi3 := hi2.below hb3))
      clear E E0 HL hx1 hx2 b1 b2 hi2 ho2 hb2 hb3
      have HB3 := Lib.hid b3
      clear b3
      go_loopw [9, 10] (fun u i wr => ∃ j m : Nat, j ≤ n ∧ i = .int .i64 j ∧ m ≤ j ∧ Hid (m = ((wl.take j).filter fun x => x != k).length) ∧ wr.ownsRow w3.heap.size 3 1 u m (((wl.take j).filter fun x => x != k).map (Value.int .i64)) ∧ Below w3.heap.size w3 wr) (fun _ i _ => n - (intOf i).toNat)
      case atStart => exact ⟨0, 0, by omega, rfl, by omega, rfl, ⟨rfl, .inl ⟨rfl, rfl⟩⟩, Below.refl _ _⟩
      case round =>
        obtain ⟨j, m, hj, rfl, hmj, HM, ho, hb⟩ := hrel
        obtain ⟨vA, vc, rfl, hvc⟩ := own_form ho
        by_cases hjn : j < n
        · have HF := Lib.hid (filter_take_i (fun x => x != k) wl (j := j) (by rw [HWL.out]; exact hjn))
          obtain ⟨ad, rfl, hcell⟩ := (hw3.below hb).at_ hjn
          generalize nd wl j = y at *
          by_cases hyk : y = k
          · have hyb : (y != k) = false := by rw [hyk]; simp
            have HE : Hid ((wl.take (j + 1)).filter (fun x => x != k) = (wl.take j).filter fun x => x != k) := by
              show _ = _
              rw [HF.out, hyb]; simp
            clear hyk HF
            go_wp2
            go_roundw
            case rel => exact ⟨j + 1, m, by omega, by go_num, by omega, by show _ = _; rw [HE.out]; exact HM.out, by rw [HE.out]; exact ho, hb⟩
            case measure => simp [intOf]; omega
          · have hyb : (y != k) = true := by rw [bne_iff_ne]; exact hyk
            have HE : Hid ((wl.take (j + 1)).filter (fun x => x != k) = ((wl.take j).filter fun x => x != k) ++ [y]) := by
              show _ = _
              rw [HF.out, hyb]; rfl
            clear hyk HF
            go_wp2_with (at_builtin; refine wpList_append_own _ rfl _ _ 24 rfl w3.heap.size 3 i0 (.int .i64 0) 1 8 Tryd.underlying24 hi hz0 hz1 hz2 rfl (by decide) _ _ _ rfl (ho.alloc _) ⟨wr.heap.size, 0, none⟩ 1 1 [.int .i64 y] rfl rfl (cell_one_new _ _ _) (by simp [Value.oneCell']) (by unfold maxLen; omega) (by omega) (by have := hb.size; simp; omega) ?_; intro v' w4 hown' hgrow _)
            have hb4 : Below w3.heap.size w3 w4 := (hb.alloc hb.size _).grown hgrow (by have := hb.size; simp; omega) (fun q hq => (ho.lt q hq).1)
            have hown2 : w4.ownsRow w3.heap.size 3 1 v' (m + 1) (((wl.take (j + 1)).filter fun x => x != k).map (Value.int .i64)) := by
              rw [HE.out, List.map_append]; exact hown'
            go_roundw
            case rel => exact ⟨j + 1, m + 1, by omega, by go_num, by omega, by show _ = _; rw [HE.out, List.length_append, ← HM.out]; rfl, hown2, hb4⟩
            case measure => simp [intOf]; omega
        · obtain rfl : j = n := by omega
          have hT2 : wl.take j = wl := List.take_of_length_le (by rw [HWL.out]; omega)
          rw [hT2] at HM ho
          have HEf := HEl.out
          have hZ4 : ofL (wl.filter fun x => x != k) = canon (zipW andNot xs (ofL [k])) := by rw [← HEf]; exact without_is ux
          obtain ⟨ls, hls⟩ : ∃ ls, ls = wl.filter fun x => x != k := ⟨_, rfl⟩
          rw [← hls] at HM ho hZ4
          have HLs := HM
          have hes : Vals wr vA m fun j => .int .i64 (nd ls j) := by
            have := ints_own ho HM.out
            unfold Ints at this
            rwa [← HM.out] at this
          have R : Rd0 wr Xa A B A1 vA xs l wl ls j m nl := ⟨hi3.below hb, hx3.below hb, (hl2.below HB3.out).below hb, hw3.below hb, hes, (hT.below HB3.out).below hb⟩
          have hbt : Below w.heap.size w wr := stepB HB3.out hb
          have HZ4 := Lib.hid hZ4
          have HZ2w : Hid (ofL wl = canon xs) := by show _ = _; rw [← HEf]; exact ofL_els ux
          have HZ3 : Hid (ofL (wl ++ [k]) = canon (zipW (· ||| ·) xs (ofL [k]))) := by show _ = _; rw [← HEf]; exact with_is ux
          have HZ1b : Hid ((ofL l).length ≤ 64) := (ofTo_ok l _).2
          have HZ1 : Hid ((ofL l).length ≤ maxLen) := by
            have := HZ1b.out
            show _ ≤ _
            unfold maxLen; omega
          have HZx : Hid (xs.length ≤ maxLen) := by show _ ≤ _; unfold maxLen; omega
          have HHb : Hid (decide (k ∈ wl) = hasB xs k) := by show _ = _; rw [← HEf]; exact has_in
          obtain ⟨mo, hmo⟩ : ∃ mo, minOf (els xs) = mo := ⟨_, rfl⟩
          have HMo := Lib.hid hmo
          have HMz : Hid (j = 0 → mo = (0, false)) := fun h => by rw [← hmo]; exact minOf_nil (by rw [← HNx.out]; exact h)
          have HMp : Hid (0 < j → ((mo.1 : Nat) : Int) = nd wl 0 ∧ mo.2 = true) := fun h => by rw [← hmo, ← HEf]; exact minOf_pos (by rw [← HNx.out]; exact h)
          have HIn : Hid (∀ A' c' X, Vals X A' j (fun i => .int .i64 (nd wl i)) → Vals X A1 j (fun i => .int .i64 (nd wl i)) → Calls Tryd.prog 24 #[.slice A' j c', .slice A1 j c1] X fun e w' => e = .returned (.int .i64 0) ∧ Below X.heap.size X w') := fun A' c' X h1 h2 => by
            have hq := HWL.out
            have h3 := Ints_any A' A1 wl wl c' c1 X (by unfold Ints; rw [hq]; exact h1) (by unfold Ints; rw [hq]; exact h2) (by unfold maxLen; omega) (by unfold maxLen; omega)
            rw [cmp_self, hq] at h3
            refine h3.mono ?_
            rintro e w' ⟨rfl, mq, rfl⟩
            exact ⟨rfl, drewN_below _ _⟩
          clear hmo hls hZ4 HM HEf ho hes hw3 hx3 hi3 hl2 hb CO CL hT2
          obtain ⟨n, hnj⟩ : ∃ n, n = j := ⟨_, rfl⟩
          subst hnj
          go_wp2
          go_loopw [11] (fun i wr => ∃ t : Nat, t ≤ 2 ∧ i = .int .i64 t ∧ Rd0 wr Xa A B A1 vA xs l wl ls n m nl ∧ Below w.heap.size w wr) (fun i _ => 2 - (intOf i).toNat)
          case atStart => exact ⟨0, by omega, rfl, R, hbt⟩
          case round =>
            clear R hbt
            obtain ⟨t, ht, rfl, R, hbt⟩ := hrel
            by_cases ht2 : t < 2
            · have M := R
              have Bq := Below.refl wr.heap.size wr
              have O : Owns wr.heap.size wr [] := fun q hq => by cases hq
              go_wp2_with (at_builtin; refine wpList_copy rfl _ _ _ rfl 3 i0 (.int .i64 0) 8 Tryd.underlying24 hi hz0 hz1 hz2 rfl rfl B nl d (fun j => .int .i64 (nd l j)) rfl R.l (fun _ _ => rfl) (by unfold maxLen; omega) (by omega) ?_; intro Ac cc u0 hoc hcc hb)
              replace O := O.step hb
              replace M := M.step hb
              replace Bq := stepB Bq hb
              clear hb
              refine (Of_n Ac l nl cc u0 HNl.out (copy_vals hoc) (by unfold maxLen; omega)).mono ?_
              rintro e u1 ⟨C1, q1, rfl, o1, hb⟩
              replace O := O.push hb Bq.size o1
              replace M := M.step hb
              replace Bq := stepB Bq hb
              clear hb
              clear o1 hoc hcc
              go_wp2_with fail
              refine (Canonical_own Xa xs xc u1 M.i ux hxc).mono ?_
              rintro e u2 ⟨C2, q2, rfl, o2, hb⟩
              replace O := O.push hb Bq.size o2
              replace M := M.step hb
              replace Bq := stepB Bq hb
              clear hb
              clear o2
              go_wp2_with fail
              refine (With_own Xa xs xc k u2 M.i ux hxc).mono ?_
              rintro e u3 ⟨C3, q3, rfl, o3, hb⟩
              replace O := O.push hb Bq.size o3
              replace M := M.step hb
              replace Bq := stepB Bq hb
              clear hb
              clear o3
              go_wp2_with fail
              refine (Without_own Xa xs xc k u3 M.i ux hxc).mono ?_
              rintro e u4 ⟨C4, q4, rfl, o4, hb⟩
              replace O := O.push hb Bq.size o4
              replace M := M.step hb
              replace Bq := stepB Bq hb
              clear hb
              clear o4
              go_wp2_with fail
              refine (List_any Xa xs xc u4 M.i ux hxc M.t).mono ?_
              rintro e u5 ⟨v8, rfl, He0, hb⟩
              rw [← HNx.out] at He0
              have He : u5.ownsRow wr.heap.size 3 1 v8 n (ivs (els xs)) := own_low He0 Bq.size
              clear He0
              replace O := O.step hb
              replace M := M.step hb
              replace Bq := stepB Bq hb
              clear hb
              obtain ⟨A8, c8, rfl, hc8⟩ := own_form He
              go_wp2_with fail
              have HLn := Len_any Xa xs xc u5 M.i ux hxc
              rw [← HNx.out] at HLn
              refine HLn.mono ?_
              rintro e u6 ⟨rfl, rfl⟩
              clear HLn
              go_wp2_with fail
              have HMn := Min_any Xa xs xc u5 M.i ux hxc M.t
              rw [HMo.out] at HMn
              refine HMn.mono ?_
              rintro e u7 ⟨rfl, hb⟩
              clear HMn
              replace O := O.step hb
              replace M := M.step hb
              replace He := own_bel He hb
              replace Bq := stepB Bq hb
              clear hb
              go_wp2_with fail
              refine (refOf_n B l nl d u7 (ofL l) rfl HNl.out M.l (by unfold maxLen; omega)).mono ?_
              rintro e u8 ⟨R1, pR1, rfl, W, hb⟩
              replace O := O.step hb
              replace M := M.step hb
              replace He := own_bel He hb
              replace Bq := stepB Bq hb
              clear hb
              go_wp2_with fail
              refine (same_n C1 R1 (ofL l) q1 pR1 u8 (O.get (by repeat (first | with_reducible exact List.mem_cons_self | apply List.mem_cons_of_mem))) W HZ1.out).mono ?_
              rintro e u9 ⟨rfl, hb⟩
              replace O := O.step hb
              replace M := M.step hb
              replace He := own_bel He hb
              replace Bq := stepB Bq hb
              clear hb
              clear W
              go_wp2_with fail
              refine (refOf_n A1 wl n c1 u9 (canon xs) HZ2w.out HWL.out.symm M.w (by unfold maxLen; omega)).mono ?_
              rintro e u10 ⟨R2, pR2, rfl, W, hb⟩
              replace O := O.step hb
              replace M := M.step hb
              replace He := own_bel He hb
              replace Bq := stepB Bq hb
              clear hb
              go_wp2_with fail
              refine (same_n C2 R2 (canon xs) q2 pR2 u10 (O.get (by repeat (first | with_reducible exact List.mem_cons_self | apply List.mem_cons_of_mem))) W (canon_max _)).mono ?_
              rintro e u11 ⟨rfl, hb⟩
              replace O := O.step hb
              replace M := M.step hb
              replace He := own_bel He hb
              replace Bq := stepB Bq hb
              clear hb
              clear W
              go_wp2_with (first | (at_builtin; refine wpList_unguard (by rfl) ?_; refine wpList_copy rfl _ _ _ rfl 3 i0 (.int .i64 0) 8 Tryd.underlying24 hi hz0 hz1 hz2 rfl rfl A1 n c1 (fun j => .int .i64 (nd wl j)) rfl M.w (fun _ _ => rfl) (by unfold maxLen; omega) (by omega) ?_; intro Ad cd u12 hod hcd hbd) | (at_builtin; refine wpList_unguard (by rfl) ?_; refine wpList_append_own _ rfl _ _ 24 rfl u11.heap.size 3 i0 (.int .i64 0) 1 8 Tryd.underlying24 hi hz0 hz1 hz2 rfl (by decide) _ _ _ rfl (hod.alloc _) ⟨u12.heap.size, 0, none⟩ 1 1 [.int .i64 k] rfl rfl (cell_one_new _ _ _) (by simp [Value.oneCell']) (by unfold maxLen; omega) (by omega) (by have := hbd.size; simp; omega) ?_; intro v13 u13 ho13 hgrow _))
              have hb : Below u11.heap.size u11 u13 := (hbd.alloc hbd.size _).grown hgrow (by have := hbd.size; simp; omega) (fun q hq => (hod.lt q hq).1)
              obtain ⟨g13, c13, rfl⟩ := ownsRow_succ ho13
              have hv13 : Vals u13 (some ⟨g13, 0, none⟩) (n + 1) fun j => .int .i64 (nd (wl ++ [k]) j) := app_vals HWL.out ho13
              clear hod hcd hbd hgrow ho13
              replace O := O.step hb
              replace M := M.step hb
              replace He := own_bel He hb
              replace Bq := stepB Bq hb
              clear hb
              go_wp2_with fail
              refine (refOf_n (some ⟨g13, 0, none⟩) (wl ++ [k]) (n + 1) c13 u13 (canon (zipW (· ||| ·) xs (ofL [k]))) HZ3.out (by rw [List.length_append, HWL.out]; rfl) hv13 (by unfold maxLen; omega)).mono ?_
              rintro e u14 ⟨R3, pR3, rfl, W, hb⟩
              replace O := O.step hb
              replace M := M.step hb
              replace He := own_bel He hb
              replace Bq := stepB Bq hb
              clear hb
              clear hv13
              go_wp2_with fail
              refine (same_n C3 R3 (canon (zipW (· ||| ·) xs (ofL [k]))) q3 pR3 u14 (O.get (by repeat (first | with_reducible exact List.mem_cons_self | apply List.mem_cons_of_mem))) W (canon_max _)).mono ?_
              rintro e u15 ⟨rfl, hb⟩
              replace O := O.step hb
              replace M := M.step hb
              replace He := own_bel He hb
              replace Bq := stepB Bq hb
              clear hb
              clear W
              go_wp2_with fail
              refine (refOf_n vA ls m vc u15 (canon (zipW andNot xs (ofL [k]))) HZ4.out HLs.out M.e (by unfold maxLen; omega)).mono ?_
              rintro e u16 ⟨R4, pR4, rfl, W, hb⟩
              replace O := O.step hb
              replace M := M.step hb
              replace He := own_bel He hb
              replace Bq := stepB Bq hb
              clear hb
              go_wp2_with fail
              refine (same_n C4 R4 (canon (zipW andNot xs (ofL [k]))) q4 pR4 u16 (O.get (by repeat (first | with_reducible exact List.mem_cons_self | apply List.mem_cons_of_mem))) W (canon_max _)).mono ?_
              rintro e u17 ⟨rfl, hb⟩
              replace O := O.step hb
              replace M := M.step hb
              replace He := own_bel He hb
              replace Bq := stepB Bq hb
              clear hb
              clear W
              go_wp2_with fail
              refine (HIn.out A8 c8 u17 (row_vals HEl.out HNx.out He) M.w).mono ?_
              rintro e u18 ⟨rfl, hb⟩
              replace O := O.step hb
              replace M := M.step hb
              replace He := own_bel He hb
              replace Bq := stepB Bq hb
              clear hb
              go_wp2_with fail
              refine (Has_any Xa xs xc k u18 M.i ux).mono ?_
              rintro e u19 ⟨rfl, mq, rfl⟩
              have hb := drewN_below u18 mq
              replace O := O.step hb
              replace M := M.step hb
              replace He := own_bel He hb
              replace Bq := stepB Bq hb
              clear hb
              go_wp2_with fail
              have HRh := refHas_m A1 wl n c1 k _ HWL.out M.w hn4
              rw [HHb.out] at HRh
              refine HRh.mono ?_
              rintro e u20 ⟨rfl, rfl⟩
              clear HRh
              go_wp2_with fail
              refine (same_n Xa A xs xc c _ M.i M.s HZx.out).mono ?_
              rintro e u21 ⟨rfl, hb⟩
              replace O := O.step hb
              replace M := M.step hb
              replace He := own_bel He hb
              replace Bq := stepB Bq hb
              clear hb
              rcases Nat.eq_zero_or_pos n with hn0 | hn0
              · have hmo := HMz.out hn0
                have hdec : decide (0 < n) = false := decide_eq_false (by omega)
                have hdeci : decide ((0 : Int) < (n : Int)) = false := decide_eq_false (by omega)
                clear hn0
                obtain ⟨mi, mb⟩ := mo
                injection hmo with hm1 hm2
                subst hm2
                have hmq : ((mi : Int) != 0) = false := by rw [hm1]; simp
                clear hm1
                go_wp2_with fail
                have HSp := spoil_four wr.heap.size u21 [(C1, q1, ofL l), (C2, q2, canon xs), (C3, q3, canon (zipW (· ||| ·) xs (ofL [k]))), (C4, q4, canon (zipW andNot xs (ofL [k])))] A8 n c8 _ (O.sub (by simp only [List.mem_cons, List.not_mem_nil, or_false]; rintro q (rfl | rfl | rfl | rfl) <;> simp)) Bq.size He (by simp) (by simp only [List.mem_cons, List.not_mem_nil, or_false]; rintro q (rfl | rfl | rfl | rfl) <;> (first | with_reducible exact HZ1b.out | exact canon_64 _)) 23 4
                refine HSp.mono ?_
                rintro e u22 ⟨rfl, hb, hcan⟩
                clear HSp O M He
                have HB2 := Lib.hid (Bq.trans hb)
                clear Bq hb
                generalize u21.heap.size = bx at *
                go_wp2
                go_loopw [20] (fun i wx => ∃ j : Nat, j ≤ n ∧ i = .int .i64 j ∧ CanW wr.heap.size bx wx A8 n ∧ Below wr.heap.size wr wx) (fun i _ => n - (intOf i).toNat)
                case atStart => exact ⟨0, by omega, rfl, hcan, HB2.out⟩
                case round =>
                  clear hcan HB2
                  obtain ⟨j, hj, rfl, hcan, hbq⟩ := hrel
                  by_cases hjn : j < n
                  · obtain ⟨ad2, rfl, g1, g2, g3, uu, g4⟩ := hcan j hjn
                    have hcan2 := hcan.set (ad2.add j) (.int .i64 (-1))
                    have hbq2 := hbq.setCell (p := ad2.add j) (by rw [addr_block]; exact g1) (.int .i64 (-1))
                    clear hcan hbq g1 g2
                    go_wp2
                    go_roundw
                    case rel => exact ⟨j + 1, by omega, by go_num, hcan2, hbq2⟩
                    case measure => simp [intOf]; omega
                  · obtain rfl : j = n := by omega
                    go_wp2
                    go_roundw
                    case rel => exact ⟨t + 1, by omega, by go_num, R.step hbq, stepB hbt hbq⟩
                    case measure => simp [intOf]; omega
              · obtain ⟨hm1, hm2⟩ := HMp.out hn0
                obtain ⟨ad1, rfl, hcell⟩ := M.w.at_ hn0
                have hcell0 : u21.cell? ad1 = some (.int .i64 (nd wl 0)) := hcell
                clear hcell
                have hn0i : (0 : Int) < (n : Int) := by omega
                have hdec : decide (0 < n) = true := decide_eq_true hn0
                generalize nd wl 0 = y0 at *
                obtain ⟨mi, mb⟩ := mo
                simp only at hm1 hm2
                subst hm2
                have hmq : ((mi : Int) != y0) = false := by rw [hm1]; simp
                clear hm1
                go_wp2_with fail
                have HSp := spoil_four wr.heap.size u21 [(C1, q1, ofL l), (C2, q2, canon xs), (C3, q3, canon (zipW (· ||| ·) xs (ofL [k]))), (C4, q4, canon (zipW andNot xs (ofL [k])))] A8 n c8 _ (O.sub (by simp only [List.mem_cons, List.not_mem_nil, or_false]; rintro q (rfl | rfl | rfl | rfl) <;> simp)) Bq.size He (by simp) (by simp only [List.mem_cons, List.not_mem_nil, or_false]; rintro q (rfl | rfl | rfl | rfl) <;> (first | with_reducible exact HZ1b.out | exact canon_64 _)) 23 4
                refine HSp.mono ?_
                rintro e u22 ⟨rfl, hb, hcan⟩
                clear HSp O M He
                have HB2 := Lib.hid (Bq.trans hb)
                clear Bq hb
                generalize u21.heap.size = bx at *
                go_wp2
                go_loopw [20] (fun i wx => ∃ j : Nat, j ≤ n ∧ i = .int .i64 j ∧ CanW wr.heap.size bx wx A8 n ∧ Below wr.heap.size wr wx) (fun i _ => n - (intOf i).toNat)
                case atStart => exact ⟨0, by omega, rfl, hcan, HB2.out⟩
                case round =>
                  clear hcan HB2
                  obtain ⟨j, hj, rfl, hcan, hbq⟩ := hrel
                  by_cases hjn : j < n
                  · obtain ⟨ad2, rfl, g1, g2, g3, uu, g4⟩ := hcan j hjn
                    have hcan2 := hcan.set (ad2.add j) (.int .i64 (-1))
                    have hbq2 := hbq.setCell (p := ad2.add j) (by rw [addr_block]; exact g1) (.int .i64 (-1))
                    clear hcan hbq g1 g2
                    go_wp2
                    go_roundw
                    case rel => exact ⟨j + 1, by omega, by go_num, hcan2, hbq2⟩
                    case measure => simp [intOf]; omega
                  · obtain rfl : j = n := by omega
                    go_wp2
                    go_roundw
                    case rel => exact ⟨t + 1, by omega, by go_num, R.step hbq, stepB hbt hbq⟩
                    case measure => simp [intOf]; omega
            · obtain rfl : t = 2 := by omega
              go_wp2_with (go_at_call 12; refine (awake_any _ R.t).mono ?_; rintro e w9 ⟨rfl, hb⟩; have k9 := stepB hbt hb)
              exact bodyPost_ret (v := .bool true) (by simp [results, Tryd.f3, go_sem]) rfl ⟨rfl, k9⟩
end Go.Proofs.YtnjagdocgmbmiaaDoor
