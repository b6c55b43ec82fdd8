/- The kit's CopyDFA, with what it makes; the law's from; the kit's CompareWords. -/
import Derived.Test.YtkgeihambgbjdaaDoorPJ
namespace Go.Proofs.YtkgeihambgbjdaaDoor.Mi
open Go Go.RowKit Go.Proofs.YtkgeihambgbjdaaDoor Go.Proofs.YtkgeihambgbjdaaDoor.Cb Go.Proofs.YtkgeihambgbjdaaDoor.Sb
open Go.Proofs.YtkgeihambgbjdaaDoor.Nf (zvs ret_int ret_b hnext drew_below Bys bvs)
open Go.Proofs.YtkgeihambgbjdaaDoor.Dg (Tabs tb tb_mem)
set_option linter.unusedVariables false
set_option linter.unusedSimpArgs false
set_option linter.unusedSectionVars false
set_option maxRecDepth 100000
/-- An automaton of one's own. -/
structure OwnE (B : Nat) (w : World) (d : Da) (A' B' : Option Addr) (a' b' : Nat) : Prop where
  nx : SetsO B w (.slice A' d.nx.length a') d.nx
  fi : w.ownsRow B 4 1 (.slice B' d.fi.length b') d.fi.length (d.fi.map Value.bool)
theorem OwnE.below {B : Nat} {w Y : World} {d : Da} {A' B' : Option Addr} {a' b' : Nat} (h : OwnE B w d A' B' a' b') (hb : Below w.heap.size w Y) : OwnE B Y d A' B' a' b' := ⟨h.nx.below hb, h.fi.below hb⟩
theorem OwnE.at_ {B : Nat} {w : World} {d : Da} {A' B' : Option Addr} {a' b' : Nat} (h : OwnE B w d A' B' a' b') : DaAt w d A' B' := ⟨h.nx.tabs rfl, bools_own h.fi rfl⟩
set_option maxHeartbeats 8000000 in
theorem CopyDFA_own (d : Da) (A B : Option Addr) (a b : Nat) (w : World) (hx : DaAt w d A B) (hl : DaLen d) :
    Calls Tryd.prog 13 #[.agg #[.int .i64 d.V, .int .i64 d.q0, .slice A d.nx.length a, .slice B d.fi.length b]] w fun e w' =>
      ∃ A' B' a' b', e = .returned (.agg #[.int .i64 d.V, .int .i64 d.q0, .slice A' d.nx.length a', .slice B' d.fi.length b']) ∧ OwnE w.heap.size w' d A' B' a' b' ∧ Below w.heap.size w w' := by
  have hB0 := bal (bal (Below.refl w.heap.size w) (.cells #[.int .i64 d.V, .int .i64 d.q0, .slice A d.nx.length a, .slice B d.fi.length b] 25)) (.cells #[.int .i64 0, .int .i64 0, .slice none 0 0, .slice none 0 0] 25)
  have hN0 := (Blk4.new w (.int .i64 d.V) (.int .i64 d.q0) (.slice A d.nx.length a) (.slice B d.fi.length b)).below (bal (Below.refl _ _) (.cells #[.int .i64 0, .int .i64 0, .slice none 0 0, .slice none 0 0] 25))
  have hR0 := Blk4.new (w.alloc (.cells #[.int .i64 d.V, .int .i64 d.q0, .slice A d.nx.length a, .slice B d.fi.length b] 25)) (.int .i64 0) (.int .i64 0) (.slice none 0 0) (.slice none 0 0)
  rw [World.size_alloc] at hR0
  have H1 := Lib.hid fun X (hX : Below w.heap.size w X) => CopyRows_any A d.nx a X (hx.nx.below hX) hl.nx hl.row
  have H2 := Lib.hid fun X (hX : Below w.heap.size w X) => CopyBools_any B d.fi b X (hx.fi.below hX) hl.fi
  clear hx hl
  go_enter Tryd.func13, Tryd.ntmps13
  go_wp2
  generalize ((w.alloc (.cells #[.int .i64 d.V, .int .i64 d.q0, .slice A d.nx.length a, .slice B d.fi.length b] 25)).alloc (.cells #[.int .i64 0, .int .i64 0, .slice none 0 0, .slice none 0 0] 25)) = w1 at *
  refine wp_region_any (by kernel_rfl) ?_
  change wpAny _ _ _ _ _ _ _ (World.drew _)
  have hS0 : (fun X : World => Blk4 X w.heap.size (.int .i64 d.V) (.int .i64 d.q0) (.slice A d.nx.length a) (.slice B d.fi.length b)) w1.drew := hN0.below (drew_below w1)
  have hlY : ∀ Y : World, Below w1.heap.size w1 Y → (fun X : World => Blk4 X w.heap.size (.int .i64 d.V) (.int .i64 d.q0) (.slice A d.nx.length a) (.slice B d.fi.length b)) Y := fun Y hY => hN0.below hY
  have hD : Below w1.heap.size w1 w1.drew := drew_below w1
  generalize w1.drew = X0 at *
  refine wpAny_head 11 11 (fun X : World => Blk4 X w.heap.size (.int .i64 d.V) (.int .i64 d.q0) (.slice A d.nx.length a) (.slice B d.fi.length b)) rfl rfl (by kernel_rfl) (by kernel_rfl) (by kernel_rfl) (fun hA => ?_)
  refine wpHead_take (i := 0) (v := ?_) (by kernel_rfl) hA (at_drop rfl) (by decide) (by kernel_rfl) (by kernel_rfl) (by kernel_rfl) (fun _ _ _ h => h) (Or.inl ⟨by rfl, ?_⟩) hS0 (fun hA => ?_)
  rotate_left
  · (intro Y hSw; obtain ⟨s0, s1, s2, s3⟩ := Blk4.cells hSw; go_simp <;> with_reducible rfl)
  simp only [Act.put, List.setIfInBounds_toArray, List.set_cons_zero, List.set_cons_succ]
  refine wpHead_take (i := 1) (v := ?_) (by kernel_rfl) hA (at_drop rfl) (by decide) (by kernel_rfl) (by kernel_rfl) (by kernel_rfl) (fun _ _ _ h => h) (Or.inl ⟨by rfl, ?_⟩) hS0 (fun hA => ?_)
  rotate_left
  · (intro Y hSw; obtain ⟨s0, s1, s2, s3⟩ := Blk4.cells hSw; go_simp <;> with_reducible rfl)
  simp only [Act.put, List.setIfInBounds_toArray, List.set_cons_zero, List.set_cons_succ]
  refine wpHead_take (i := 2) (v := ?_) (by kernel_rfl) hA (at_drop rfl) (by decide) (by kernel_rfl) (by kernel_rfl) (by kernel_rfl) (fun _ _ _ h => h) (Or.inl ⟨by rfl, ?_⟩) hS0 (fun hA => ?_)
  rotate_left
  · (intro Y hSw; obtain ⟨s0, s1, s2, s3⟩ := Blk4.cells hSw; go_simp <;> with_reducible rfl)
  simp only [Act.put, List.setIfInBounds_toArray, List.set_cons_zero, List.set_cons_succ]
  refine wpHead_take (i := 3) (v := ?_) (by kernel_rfl) hA (at_drop rfl) (by decide) (by kernel_rfl) (by kernel_rfl) (by kernel_rfl) (fun _ _ _ h => h) (Or.inl ⟨by rfl, ?_⟩) hS0 (fun hA => ?_)
  rotate_left
  · (intro Y hSw; obtain ⟨s0, s1, s2, s3⟩ := Blk4.cells hSw; go_simp <;> with_reducible rfl)
  simp only [Act.put, List.setIfInBounds_toArray, List.set_cons_zero, List.set_cons_succ]
  refine wpHead_take (i := 4) (v := ?_) (by kernel_rfl) hA (at_drop rfl) (by decide) (by kernel_rfl) (by kernel_rfl) (by kernel_rfl) (fun _ _ _ h => h) (Or.inl ⟨by rfl, ?_⟩) hS0 (fun hA => ?_)
  rotate_left
  · (intro Y hSw; obtain ⟨s0, s1, s2, s3⟩ := Blk4.cells hSw; go_simp <;> with_reducible rfl)
  simp only [Act.put, List.setIfInBounds_toArray, List.set_cons_zero, List.set_cons_succ]
  refine wpHead_take (i := 5) (v := ?_) (by kernel_rfl) hA (at_drop rfl) (by decide) (by kernel_rfl) (by kernel_rfl) (by kernel_rfl) (fun _ _ _ h => h) (Or.inl ⟨by rfl, ?_⟩) hS0 (fun hA => ?_)
  rotate_left
  · (intro Y hSw; obtain ⟨s0, s1, s2, s3⟩ := Blk4.cells hSw; go_simp <;> with_reducible rfl)
  simp only [Act.put, List.setIfInBounds_toArray, List.set_cons_zero, List.set_cons_succ]
  refine wpHead_take (i := 7) (v := ?_) (by kernel_rfl) hA (at_drop rfl) (by decide) (by kernel_rfl) (by kernel_rfl) (by kernel_rfl) (fun _ _ _ h => h) (Or.inl ⟨by rfl, ?_⟩) hS0 (fun hA => ?_)
  rotate_left
  · (intro Y hSw; obtain ⟨s0, s1, s2, s3⟩ := Blk4.cells hSw; go_simp <;> with_reducible rfl)
  simp only [Act.put, List.setIfInBounds_toArray, List.set_cons_zero, List.set_cons_succ]
  refine wpHead_take (i := 8) (v := ?_) (by kernel_rfl) hA (at_drop rfl) (by decide) (by kernel_rfl) (by kernel_rfl) (by kernel_rfl) (fun _ _ _ h => h) (Or.inl ⟨by rfl, ?_⟩) hS0 (fun hA => ?_)
  rotate_left
  · (intro Y hSw; obtain ⟨s0, s1, s2, s3⟩ := Blk4.cells hSw; go_simp <;> with_reducible rfl)
  simp only [Act.put, List.setIfInBounds_toArray, List.set_cons_zero, List.set_cons_succ]
  have hA6 := hnext hA (rs := [6]) (i := 6) (by kernel_rfl) (by decide) (by decide)
  refine wpHead_ready (rs := [6]) (by kernel_rfl) (by decide) (AllHead.cons (at_drop rfl) (by decide) (fun KK hK => ?_) AllHead.nil)
  replace hA := hA6
  go_simp
  refine (H1.out X0 (stepB hB0 hD)).mono ?_
  rintro e X1 ⟨A1, a1, rfl, o1, d1⟩
  have HX1 := stepB hD d1
  refine hK _ _ (hlY _ HX1) ?_
  clear hK KK
  try simp only [Act.put, List.setIfInBounds_toArray, List.set_cons_zero, List.set_cons_succ]
  have hA9 := hnext hA (rs := [9]) (i := 9) (by kernel_rfl) (by decide) (by decide)
  refine wpHead_ready (rs := [9]) (by kernel_rfl) (by decide) (AllHead.cons (at_drop rfl) (by decide) (fun KK hK => ?_) AllHead.nil)
  replace hA := hA9
  go_simp
  refine (H2.out X1 (stepB hB0 HX1)).mono ?_
  rintro e X2 ⟨B1, b1, rfl, o2, d2⟩
  have HX2 := stepB HX1 d2
  refine hK _ _ (hlY _ HX2) ?_
  clear hK KK
  try simp only [Act.put, List.setIfInBounds_toArray, List.set_cons_zero, List.set_cons_succ]
  refine wpHead_take (i := 10) (v := ?_) (by kernel_rfl) hA (at_drop rfl) (by decide) (by kernel_rfl) (by kernel_rfl) (by kernel_rfl) (fun _ _ _ h => h) (Or.inl ⟨by rfl, ?_⟩) (hlY _ HX2) (fun hA => ?_)
  rotate_left
  · (intro Y hSw; obtain ⟨s0, s1, s2, s3⟩ := Blk4.cells hSw; go_simp <;> with_reducible rfl)
  simp only [Act.put, List.setIfInBounds_toArray, List.set_cons_zero, List.set_cons_succ]
  have hR := hR0.below HX2
  have hbX := stepB hB0 HX2
  have p1 := o1.below d2
  obtain ⟨⟨q0, f0⟩, ⟨q1, f1⟩, ⟨q2, f2⟩, ⟨q3, f3⟩, hR5, hB5⟩ := store4 hR (.int .i64 d.V) (.int .i64 d.q0) (.slice A1 d.nx.length a1) (.slice B1 d.fi.length b1)
  have hsz1 := hB0.size
  have hsz2 := hD.size
  have hsz3 := d1.size
  have hT5 := (p1.keep (w' := put4 X2 (w.heap.size + 1) (.int .i64 d.V) (.int .i64 d.q0) (.slice A1 d.nx.length a1) (.slice B1 d.fi.length b1)) hR (by decide) (by decide) fun k hk => put4_other _ _ _ _ hk).low (B' := w.heap.size) (by omega)
  have hF5 := ownsRow_mono (own_eq o2 (w' := put4 X2 (w.heap.size + 1) (.int .i64 d.V) (.int .i64 d.q0) (.slice A1 d.nx.length a1) (.slice B1 d.fi.length b1)) fun g hg => put4_other _ _ _ _ (fun e => own_ne hR o2 (by decide) (e ▸ hg))) (show w.heap.size ≤ _ by omega)
  have HF := Lib.hid (And.intro hR5.cells (And.intro (hbX.trans (hB5 w.heap.size (by omega))) (OwnE.mk hT5 hF5)))
  clear hR5 hB5 hR hbX p1 o1 o2 d1 d2 HX1 HX2 hD hA hT5 hF5 hsz1 hsz2 hsz3
  clear hlY hN0 hR0 H1 H2 hS0 hB0
  refine wpHead_end (by kernel_rfl) ?_
  simp only [List.drop_succ_cons, List.drop_zero]
  go_wp2
  obtain ⟨⟨y0, y1, y2, y3⟩, hb5, hN⟩ := HF.out
  unfold put4 at y0 y1 y2 y3 hb5 hN
  refine bodyPost_ret (v := .agg #[.int .i64 d.V, .int .i64 d.q0, .slice A1 d.nx.length a1, .slice B1 d.fi.length b1]) (by simp [results, Tryd.results13, go_sem, y0, y1, y2, y3]) rfl ?_
  exact ⟨_, _, _, _, rfl, hN, hb5⟩

/-- A store into a block of four cells leaves an automaton of one's own as it is. -/
theorem OwnE.put {B : Nat} {w : World} {d : Da} {A' B' : Option Addr} {a' b' : Nat} (h : OwnE B w d A' B' a' b') {g : Nat} {v0 v1 v2 v3 : Value} (hb : Blk4 w g v0 v1 v2 v3) (j : Nat) (u : Value) : OwnE B (w.setCell ⟨g, j, none⟩ u) d A' B' a' b' :=
  ⟨h.nx.put hb (by decide) (by decide) j u, row_put h.fi (own_ne hb h.fi (by decide)) _ _⟩

set_option maxHeartbeats 8000000 in
theorem from_any (m : Da) (A B : Option Addr) (a b : Nat) (q : Int) (w : World) (hx : DaAt w m A B) (hl : DaLen m) :
    Calls Tryd.prog 34 #[.agg #[.int .i64 m.V, .int .i64 m.q0, .slice A m.nx.length a, .slice B m.fi.length b], .int .i64 q] w fun e w' =>
      ∃ A' B' a' b', e = .returned (.agg #[.int .i64 m.V, .int .i64 q, .slice A' m.nx.length a', .slice B' m.fi.length b']) ∧ DaAt w' ⟨m.V, q, m.nx, m.fi⟩ A' B' ∧ Below w.heap.size w w' := by
  have hB0 := bal (bal (Below.refl w.heap.size w) (.cells #[.int .i64 m.V, .int .i64 m.q0, .slice A m.nx.length a, .slice B m.fi.length b] 25)) (.cells #[.int .i64 0, .int .i64 0, .slice none 0 0, .slice none 0 0] 25)
  have hN0 := (Blk4.new w (.int .i64 m.V) (.int .i64 m.q0) (.slice A m.nx.length a) (.slice B m.fi.length b)).below (bal (Below.refl _ _) (.cells #[.int .i64 0, .int .i64 0, .slice none 0 0, .slice none 0 0] 25))
  have hR0 := Blk4.new (w.alloc (.cells #[.int .i64 m.V, .int .i64 m.q0, .slice A m.nx.length a, .slice B m.fi.length b] 25)) (.int .i64 0) (.int .i64 0) (.slice none 0 0) (.slice none 0 0)
  rw [World.size_alloc] at hR0
  have H1 := Lib.hid fun X (hX : Below w.heap.size w X) => CopyDFA_own m A B a b X (hx.below hX) hl
  clear hx hl
  obtain ⟨z0, z1, z2, z3⟩ := hN0.cells
  go_enter Tryd.func34, Tryd.ntmps34
  go_wp2_with (first
    | (go_at_call 13; ((with_reducible refine (H1.out _ hB0).mono ?_); rintro e w3 ⟨A3, B3, a3, b3, rfl, ho, hb3⟩);
          have K := bal (Below.refl w3.heap.size w3) (.cells #[.int .i64 m.V, .int .i64 q, .slice A3 m.nx.length a3, .slice B3 m.fi.length b3] 25);
          have hR := (hR0.below hb3).below K;
          have ho2 := ho.below K;
          obtain ⟨⟨q0, f0⟩, ⟨q1, f1⟩, ⟨q2, f2⟩, ⟨q3, f3⟩, hR5, hB5⟩ := store4 hR (.int .i64 m.V) (.int .i64 q) (.slice A3 m.nx.length a3) (.slice B3 m.fi.length b3);
          have hT5 := tabs_put4 hR ho2.nx (.int .i64 m.V) (.int .i64 q) (.slice A3 m.nx.length a3) (.slice B3 m.fi.length b3);
          have hF5 := bools_put4 hR ho2.fi (.int .i64 m.V) (.int .i64 q) (.slice A3 m.nx.length a3) (.slice B3 m.fi.length b3);
          have HF := Lib.hid (And.intro hR5.cells (And.intro ((stepB (stepB hB0 hb3) K).trans (hB5 w.heap.size (by omega))) (DaAt.mk (d := ⟨m.V, q, m.nx, m.fi⟩) hT5 hF5)));
          clear hR5 hB5 hR ho ho2 hT5 hF5 K hb3 z0 z1 z2 z3 hN0 hR0 hB0 H1))
  obtain ⟨⟨y0, y1, y2, y3⟩, hb5, hN⟩ := HF.out
  unfold put4 at y0 y1 y2 y3 hb5 hN
  refine bodyPost_ret (v := .agg #[.int .i64 m.V, .int .i64 q, .slice A3 m.nx.length a3, .slice B3 m.fi.length b3]) (by simp [results, Tryd.results34, go_sem, y0, y1, y2, y3]) rfl ?_
  exact ⟨_, _, _, _, rfl, hN, hb5⟩
theorem wd_lt {l : List Nat} (h : ∀ y ∈ l, y < 256) (j : Nat) : wd l j < 256 := by
  unfold wd
  rw [List.getD_eq_getElem?_getD]
  by_cases hj : j < l.length
  · rw [List.getElem?_eq_getElem hj]; exact h _ (List.getElem_mem hj)
  · rw [List.getElem?_eq_none (by omega)]; decide
theorem lex_cut {u v : List Nat} {k : Nat} (hl : u.length = v.length) (hk : k < u.length) (h : ∀ j, j < k → wd u j = wd v j) : ∃ p x y a b, u = p ++ x :: a ∧ v = p ++ y :: b ∧ x = wd u k ∧ y = wd v k ∧ a.length = b.length := by
  have hkv : k < v.length := by omega
  refine ⟨u.take k, u[k], v[k], u.drop (k + 1), v.drop (k + 1), ?_, ?_, ?_, ?_, ?_⟩
  · rw [← List.drop_eq_getElem_cons, List.take_append_drop]
  · have e : u.take k = v.take k := by
      apply List.ext_getElem
      · rw [List.length_take, List.length_take]; omega
      · intro j h1 h2
        have hj : j < k := by rw [List.length_take] at h1; omega
        rw [List.getElem_take, List.getElem_take]
        have := h j hj
        unfold wd at this
        rwa [List.getD_eq_getElem?_getD, List.getD_eq_getElem?_getD, List.getElem?_eq_getElem (by omega), List.getElem?_eq_getElem (by omega)] at this
    rw [e, ← List.drop_eq_getElem_cons, List.take_append_drop]
  · unfold wd; rw [List.getD_eq_getElem?_getD, List.getElem?_eq_getElem hk]; rfl
  · unfold wd; rw [List.getD_eq_getElem?_getD, List.getElem?_eq_getElem hkv]; rfl
  · rw [List.length_drop, List.length_drop]; omega
/-- What CompareWords says of the words' numbers. -/
def CmpOk (u v : List Nat) (z : Int) : Prop := ∀ L : Nat, 0 < L → (∀ y ∈ u, y < L) → (∀ y ∈ v, y < L) → ext L 0 u ≤ ext L 0 v → z ≤ 0
theorem cmp_long {u v : List Nat} (h : v.length < u.length) (z : Int) : CmpOk u v z := fun L hL h1 h2 h3 => by
  have := ext_short L hL h2 h
  omega
theorem cmp_more {u v : List Nat} {k : Nat} (hl : u.length = v.length) (hk : k < u.length) (h : ∀ j, j < k → wd u j = wd v j) (hg : wd v k < wd u k) (z : Int) : CmpOk u v z := fun L hL h1 h2 h3 => by
  obtain ⟨p, x, y, a, b, rfl, rfl, e1, e2, e3⟩ := lex_cut hl hk h
  have := ext_lex L (show y < x by omega) (a := b) (b := a) (fun z hz => h2 z (by simp [hz])) e3.symm p 0
  omega
set_option maxHeartbeats 4000000 in
theorem CompareWords_any (A B : Option Addr) (u v : List Nat) (c d : Nat) (w : World) (hx : Bys w A u) (hy : Bys w B v) (hu : u.length ≤ 1000000) (hv : v.length ≤ 1000000) (h8 : ∀ y ∈ u, y < 256) (h8' : ∀ y ∈ v, y < 256) :
    Calls Tryd.prog 35 #[.slice A u.length c, .slice B v.length d] w fun e w' => ∃ z : Int, e = .returned (.int .i64 z) ∧ CmpOk u v z ∧ -1 ≤ z ∧ z ≤ 1 ∧ Below w.heap.size w w' := by
  by_cases hlt : u.length < v.length
  · have hd : decide ((u.length : Int) < (v.length : Int)) = true := decide_eq_true (by omega)
    have HC : Hid (CmpOk u v (-1)) := fun _ _ _ _ _ => by decide
    clear hx hy h8 h8'
    generalize u.length = nu at *
    generalize v.length = nv at *
    go_enter Tryd.func35, Tryd.ntmps35
    go_wp2
    go_ret
    exact ⟨_, rfl, HC.out, by decide, by decide, Below.refl _ _⟩
  by_cases hgt : v.length < u.length
  · have hd : decide ((u.length : Int) < (v.length : Int)) = false := decide_eq_false (by omega)
    have hd2 : decide ((v.length : Int) < (u.length : Int)) = true := decide_eq_true (by omega)
    have HC : Hid (CmpOk u v 1) := cmp_long hgt 1
    clear hx hy h8 h8'
    generalize u.length = nu at *
    generalize v.length = nv at *
    go_enter Tryd.func35, Tryd.ntmps35
    go_wp2
    go_ret
    exact ⟨_, rfl, HC.out, by decide, by decide, Below.refl _ _⟩
  have hl : u.length = v.length := by omega
  have HM := Lib.hid fun k hk h hg => cmp_more (u := u) (v := v) (k := k) hl hk h hg 1
  have HZ : Hid (CmpOk u v 0) := fun _ _ _ _ _ => by decide
  have HN : Hid (CmpOk u v (-1)) := fun _ _ _ _ _ => by decide
  have HU := Lib.hid fun j => wd_lt (l := u) h8 j
  have HV := Lib.hid fun j => wd_lt (l := v) h8' j
  have hy2 : Vals w B u.length fun j => .int .u8 (wd v j : Nat) := by rw [hl]; exact hy
  rw [← hl]
  clear hlt hgt hy h8 h8' hl hv
  replace hx : Vals w A u.length fun j => .int .u8 (wd u j : Nat) := hx
  generalize hnu : u.length = nu at *
  clear hnu
  have h00 : ((nu : Int) < (nu : Int)) = False := by simp
  go_enter Tryd.func35, Tryd.ntmps35
  go_wp2
  go_loopw [5] (fun i wr => ∃ k q : Nat, k ≤ nu ∧ i = .int .i64 k ∧ wr = w.drewN q ∧ Hid (∀ j, j < k → wd u j = wd v j)) (fun i _ => nu - (intOf i).toNat)
  case atStart => exact ⟨0, 0, by omega, rfl, rfl, fun j hj => by omega⟩
  case round =>
    obtain ⟨k, q, hk, rfl, rfl, hA⟩ := hrel
    by_cases hlt : k < nu
    · obtain ⟨ad, rfl, hcell⟩ := Vals.at_ hx hlt
      obtain ⟨bd, rfl, hcell'⟩ := Vals.at_ hy2 hlt
      replace hcell : w.cell? (ad.add k) = some (.int .u8 (wd u k : Nat)) := hcell
      replace hcell' : w.cell? (bd.add k) = some (.int .u8 (wd v k : Nat)) := hcell'
      have hlt2 : (k : Int) < (nu : Int) := by omega
      have hMk := Lib.hid (HM.out k hlt hA.out)
      have hA2 : Hid (wd u k = wd v k → ∀ j, j < k + 1 → wd u j = wd v j) := fun he j hj => by
        by_cases h1 : j < k
        · exact hA.out j h1
        · rw [show j = k by omega]; exact he
      have hu8 := HU.out k
      have hv8 := HV.out k
      clear hA HM HU HV
      generalize wd u k = x at *
      generalize wd v k = y at *
      rcases Nat.lt_trichotomy x y with h | h | h
      · have hd1 : decide ((x : Int) < (y : Int)) = true := decide_eq_true (by omega)
        have hd2 : decide (x < y) = true := decide_eq_true h
        clear hMk hA2
        go_wp2
        go_quiet (fail)
        go_wp2
        go_ret
        exact ⟨_, rfl, HN.out, by decide, by decide, stepB (Ap.drewN_below _ _) (Ap.drewN_below _ _)⟩
      · subst h
        have hA3 := Lib.hid (hA2.out rfl)
        clear hMk hA2
        go_wp2
        go_quiet (fail)
        go_wp2
        go_quiet (fail)
        go_wp2
        go_roundw
        case rel => exact ⟨k + 1, _, by omega, by go_num, rfl, hA3⟩
        case measure => simp [intOf]; omega
      · have hd1 : decide ((x : Int) < (y : Int)) = false := decide_eq_false (by omega)
        have hd2 : decide (x < y) = false := decide_eq_false (by omega)
        have hd3 : decide ((y : Int) < (x : Int)) = true := decide_eq_true (by omega)
        have hd4 : decide (y < x) = true := decide_eq_true h
        have HO := Lib.hid (hMk.out h)
        clear hMk hA2
        go_wp2
        go_quiet (fail)
        go_wp2
        go_quiet (fail)
        go_wp2
        go_ret
        exact ⟨_, rfl, HO.out, by decide, by decide, stepB (stepB (Ap.drewN_below _ _) (Ap.drewN_below _ _)) (Ap.drewN_below _ _)⟩
    · obtain rfl : k = nu := by omega
      go_wp2
      go_ret
      exact ⟨_, rfl, HZ.out, by decide, by decide, Ap.drewN_below _ _⟩
end Go.Proofs.YtkgeihambgbjdaaDoor.Mi
