/- The kit's CopyDFA; the law's Long. -/
import Derived.Test.YtlaagjmfgaccjaaDoorJT
namespace Go.Proofs.YtlaagjmfgaccjaaDoor.Sb
open Go Go.RowKit Go.Proofs.YtlaagjmfgaccjaaDoor Go.Proofs.YtlaagjmfgaccjaaDoor.Cb
open Go.Proofs.YtlaagjmfgaccjaaDoor.Nf (zvs ret_int ret_b hnext drew_below)
open Go.Proofs.YtlaagjmfgaccjaaDoor.Dg (Tabs tb tb_mem)
set_option linter.unusedVariables false
set_option linter.unusedSimpArgs false
set_option maxRecDepth 100000
theorem tabs_put4 {Y : World} {b : Nat} {u0 u1 u2 u3 : Value} (hb : Blk4 Y b u0 u1 u2 u3) {B : Nat} {A : Option Addr} {c : Nat} {L : List (List Int)} (h : SetsO B Y (.slice A L.length c) L) (v0 v1 v2 v3 : Value) : Tabs (put4 Y b v0 v1 v2 v3) A L :=
  (h.keep hb (by decide) (by decide) fun k hk => put4_other _ _ _ _ hk).tabs rfl
theorem bools_put4 {Y : World} {b : Nat} {u0 u1 u2 u3 : Value} (hb : Blk4 Y b u0 u1 u2 u3) {B : Nat} {A : Option Addr} {c : Nat} {l : List Bool} (h : Y.ownsRow B 4 1 (.slice A l.length c) l.length (l.map Value.bool)) (v0 v1 v2 v3 : Value) : Bools (put4 Y b v0 v1 v2 v3) A l :=
  bools_own (own_eq h (w' := put4 Y b v0 v1 v2 v3) fun g hg => put4_other _ _ _ _ (fun e => own_ne hb h (by decide) (e ▸ hg))) rfl
set_option maxHeartbeats 8000000 in
theorem CopyDFA_any (d : Da) (A B : Option Addr) (a b : Nat) (w : World) (hx : DaAt w d A B) (hl : DaLen d) :
    Calls Tryd.prog 24 #[.agg #[.int .i64 d.V, .int .i64 d.q0, .slice A d.nx.length a, .slice B d.fi.length b]] w fun e w' =>
      ∃ A' B' a' b', e = .returned (.agg #[.int .i64 d.V, .int .i64 d.q0, .slice A' d.nx.length a', .slice B' d.fi.length b']) ∧ DaAt w' d A' B' ∧ Below w.heap.size w w' := by
  have hB0 := bal (bal (Below.refl w.heap.size w) (.cells #[.int .i64 d.V, .int .i64 d.q0, .slice A d.nx.length a, .slice B d.fi.length b] 54)) (.cells #[.int .i64 0, .int .i64 0, .slice none 0 0, .slice none 0 0] 54)
  have hN0 := (Blk4.new w (.int .i64 d.V) (.int .i64 d.q0) (.slice A d.nx.length a) (.slice B d.fi.length b)).below (bal (Below.refl _ _) (.cells #[.int .i64 0, .int .i64 0, .slice none 0 0, .slice none 0 0] 54))
  have hR0 := Blk4.new (w.alloc (.cells #[.int .i64 d.V, .int .i64 d.q0, .slice A d.nx.length a, .slice B d.fi.length b] 54)) (.int .i64 0) (.int .i64 0) (.slice none 0 0) (.slice none 0 0)
  rw [World.size_alloc] at hR0
  have H1 := Lib.hid fun X (hX : Below w.heap.size w X) => CopyRows_any A d.nx a X (hx.nx.below hX) hl.nx hl.row
  have H2 := Lib.hid fun X (hX : Below w.heap.size w X) => CopyBools_any B d.fi b X (hx.fi.below hX) hl.fi
  clear hx hl
  go_enter Tryd.func24, Tryd.ntmps24
  go_wp2
  generalize ((w.alloc (.cells #[.int .i64 d.V, .int .i64 d.q0, .slice A d.nx.length a, .slice B d.fi.length b] 54)).alloc (.cells #[.int .i64 0, .int .i64 0, .slice none 0 0, .slice none 0 0] 54)) = w1 at *
  refine wp_region_any (by kernel_rfl) ?_
  change wpAny _ _ _ _ _ _ _ (World.drew _)
  have hS0 : (fun X : World => Blk4 X w.heap.size (.int .i64 d.V) (.int .i64 d.q0) (.slice A d.nx.length a) (.slice B d.fi.length b)) w1.drew := hN0.below (drew_below w1)
  have hlY : ∀ Y : World, Below w1.heap.size w1 Y → (fun X : World => Blk4 X w.heap.size (.int .i64 d.V) (.int .i64 d.q0) (.slice A d.nx.length a) (.slice B d.fi.length b)) Y := fun Y hY => hN0.below hY
  have hD : Below w1.heap.size w1 w1.drew := drew_below w1
  generalize w1.drew = X0 at *
  refine wpAny_head 11 11 (fun X : World => Blk4 X w.heap.size (.int .i64 d.V) (.int .i64 d.q0) (.slice A d.nx.length a) (.slice B d.fi.length b)) rfl rfl (by kernel_rfl) (by kernel_rfl) (by kernel_rfl) (fun hA => ?_)
  refine wpHead_take (i := 0) (v := ?_) (by kernel_rfl) hA (at_drop rfl) (by decide) (by kernel_rfl) (by kernel_rfl) (by kernel_rfl) (fun _ _ _ h => h) (Or.inl ⟨by rfl, ?_⟩) hS0 (fun hA => ?_)
  rotate_left
  · (intro Y hSw; obtain ⟨s0, s1, s2, s3⟩ := Blk4.cells hSw; go_simp <;> with_reducible rfl)
  simp only [Act.put, List.setIfInBounds_toArray, List.set_cons_zero, List.set_cons_succ]
  refine wpHead_take (i := 1) (v := ?_) (by kernel_rfl) hA (at_drop rfl) (by decide) (by kernel_rfl) (by kernel_rfl) (by kernel_rfl) (fun _ _ _ h => h) (Or.inl ⟨by rfl, ?_⟩) hS0 (fun hA => ?_)
  rotate_left
  · (intro Y hSw; obtain ⟨s0, s1, s2, s3⟩ := Blk4.cells hSw; go_simp <;> with_reducible rfl)
  simp only [Act.put, List.setIfInBounds_toArray, List.set_cons_zero, List.set_cons_succ]
  refine wpHead_take (i := 2) (v := ?_) (by kernel_rfl) hA (at_drop rfl) (by decide) (by kernel_rfl) (by kernel_rfl) (by kernel_rfl) (fun _ _ _ h => h) (Or.inl ⟨by rfl, ?_⟩) hS0 (fun hA => ?_)
  rotate_left
  · (intro Y hSw; obtain ⟨s0, s1, s2, s3⟩ := Blk4.cells hSw; go_simp <;> with_reducible rfl)
  simp only [Act.put, List.setIfInBounds_toArray, List.set_cons_zero, List.set_cons_succ]
  refine wpHead_take (i := 3) (v := ?_) (by kernel_rfl) hA (at_drop rfl) (by decide) (by kernel_rfl) (by kernel_rfl) (by kernel_rfl) (fun _ _ _ h => h) (Or.inl ⟨by rfl, ?_⟩) hS0 (fun hA => ?_)
  rotate_left
  · (intro Y hSw; obtain ⟨s0, s1, s2, s3⟩ := Blk4.cells hSw; go_simp <;> with_reducible rfl)
  simp only [Act.put, List.setIfInBounds_toArray, List.set_cons_zero, List.set_cons_succ]
  refine wpHead_take (i := 4) (v := ?_) (by kernel_rfl) hA (at_drop rfl) (by decide) (by kernel_rfl) (by kernel_rfl) (by kernel_rfl) (fun _ _ _ h => h) (Or.inl ⟨by rfl, ?_⟩) hS0 (fun hA => ?_)
  rotate_left
  · (intro Y hSw; obtain ⟨s0, s1, s2, s3⟩ := Blk4.cells hSw; go_simp <;> with_reducible rfl)
  simp only [Act.put, List.setIfInBounds_toArray, List.set_cons_zero, List.set_cons_succ]
  refine wpHead_take (i := 5) (v := ?_) (by kernel_rfl) hA (at_drop rfl) (by decide) (by kernel_rfl) (by kernel_rfl) (by kernel_rfl) (fun _ _ _ h => h) (Or.inl ⟨by rfl, ?_⟩) hS0 (fun hA => ?_)
  rotate_left
  · (intro Y hSw; obtain ⟨s0, s1, s2, s3⟩ := Blk4.cells hSw; go_simp <;> with_reducible rfl)
  simp only [Act.put, List.setIfInBounds_toArray, List.set_cons_zero, List.set_cons_succ]
  refine wpHead_take (i := 7) (v := ?_) (by kernel_rfl) hA (at_drop rfl) (by decide) (by kernel_rfl) (by kernel_rfl) (by kernel_rfl) (fun _ _ _ h => h) (Or.inl ⟨by rfl, ?_⟩) hS0 (fun hA => ?_)
  rotate_left
  · (intro Y hSw; obtain ⟨s0, s1, s2, s3⟩ := Blk4.cells hSw; go_simp <;> with_reducible rfl)
  simp only [Act.put, List.setIfInBounds_toArray, List.set_cons_zero, List.set_cons_succ]
  refine wpHead_take (i := 8) (v := ?_) (by kernel_rfl) hA (at_drop rfl) (by decide) (by kernel_rfl) (by kernel_rfl) (by kernel_rfl) (fun _ _ _ h => h) (Or.inl ⟨by rfl, ?_⟩) hS0 (fun hA => ?_)
  rotate_left
  · (intro Y hSw; obtain ⟨s0, s1, s2, s3⟩ := Blk4.cells hSw; go_simp <;> with_reducible rfl)
  simp only [Act.put, List.setIfInBounds_toArray, List.set_cons_zero, List.set_cons_succ]
  have hA6 := hnext hA (rs := [6]) (i := 6) (by kernel_rfl) (by decide) (by decide)
  refine wpHead_ready (rs := [6]) (by kernel_rfl) (by decide) (AllHead.cons (at_drop rfl) (by decide) (fun KK hK => ?_) AllHead.nil)
  replace hA := hA6
  go_simp
  refine (H1.out X0 (stepB hB0 hD)).mono ?_
  rintro e X1 ⟨A1, a1, rfl, o1, d1⟩
  have HX1 := stepB hD d1
  refine hK _ _ (hlY _ HX1) ?_
  clear hK KK
  try simp only [Act.put, List.setIfInBounds_toArray, List.set_cons_zero, List.set_cons_succ]
  have hA9 := hnext hA (rs := [9]) (i := 9) (by kernel_rfl) (by decide) (by decide)
  refine wpHead_ready (rs := [9]) (by kernel_rfl) (by decide) (AllHead.cons (at_drop rfl) (by decide) (fun KK hK => ?_) AllHead.nil)
  replace hA := hA9
  go_simp
  refine (H2.out X1 (stepB hB0 HX1)).mono ?_
  rintro e X2 ⟨B1, b1, rfl, o2, d2⟩
  have HX2 := stepB HX1 d2
  refine hK _ _ (hlY _ HX2) ?_
  clear hK KK
  try simp only [Act.put, List.setIfInBounds_toArray, List.set_cons_zero, List.set_cons_succ]
  refine wpHead_take (i := 10) (v := ?_) (by kernel_rfl) hA (at_drop rfl) (by decide) (by kernel_rfl) (by kernel_rfl) (by kernel_rfl) (fun _ _ _ h => h) (Or.inl ⟨by rfl, ?_⟩) (hlY _ HX2) (fun hA => ?_)
  rotate_left
  · (intro Y hSw; obtain ⟨s0, s1, s2, s3⟩ := Blk4.cells hSw; go_simp <;> with_reducible rfl)
  simp only [Act.put, List.setIfInBounds_toArray, List.set_cons_zero, List.set_cons_succ]
  have hR := hR0.below HX2
  have hbX := stepB hB0 HX2
  have p1 := o1.below d2
  obtain ⟨⟨q0, f0⟩, ⟨q1, f1⟩, ⟨q2, f2⟩, ⟨q3, f3⟩, hR5, hB5⟩ := store4 hR (.int .i64 d.V) (.int .i64 d.q0) (.slice A1 d.nx.length a1) (.slice B1 d.fi.length b1)
  have hT5 := tabs_put4 hR p1 (.int .i64 d.V) (.int .i64 d.q0) (.slice A1 d.nx.length a1) (.slice B1 d.fi.length b1)
  have hF5 := bools_put4 hR o2 (.int .i64 d.V) (.int .i64 d.q0) (.slice A1 d.nx.length a1) (.slice B1 d.fi.length b1)
  have HF := Lib.hid (And.intro hR5.cells (And.intro (hbX.trans (hB5 w.heap.size (by omega))) (DaAt.mk hT5 hF5)))
  clear hR5 hB5 hR hbX p1 o1 o2 d1 d2 HX1 HX2 hD hA hT5 hF5
  clear hlY hN0 hR0 H1 H2 hS0 hB0
  refine wpHead_end (by kernel_rfl) ?_
  simp only [List.drop_succ_cons, List.drop_zero]
  go_wp2
  obtain ⟨⟨y0, y1, y2, y3⟩, hb5, hN⟩ := HF.out
  unfold put4 at y0 y1 y2 y3 hb5 hN
  refine bodyPost_ret (v := .agg #[.int .i64 d.V, .int .i64 d.q0, .slice A1 d.nx.length a1, .slice B1 d.fi.length b1]) (by simp [results, Tryd.results24, go_sem, y0, y1, y2, y3]) rfl ?_
  exact ⟨_, _, _, _, rfl, hN, hb5⟩
end Go.Proofs.YtlaagjmfgaccjaaDoor.Sb
