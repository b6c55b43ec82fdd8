/- The kit's CopyNFA. -/
import Derived.Test.YtbmamkackigdaaaFT
namespace Go.Proofs.Ytbmamkackigdaaa.Nf
open Go Go.RowKit Go.Proofs.Ytbmamkackigdaaa Go.Proofs.Ytbmamkackigdaaa.Cb
set_option linter.unusedVariables false
set_option linter.unusedSimpArgs false
set_option maxRecDepth 100000
set_option maxHeartbeats 8000000 in
theorem CopyNFA_any (n : Na) (A B C : Option Addr) (a b c : Nat) (w : World) (hx : NaAt w n A B C) (hl : NaLen n) :
    Calls Try.prog 11 #[.agg #[.int .i64 n.V, .int .i64 n.S, .slice A n.st.length a, .slice B n.fi.length b, .slice C n.es.length c]] w fun e w' =>
      ∃ A' B' C' a' b' c', e = .returned (.agg #[.int .i64 n.V, .int .i64 n.S, .slice A' n.st.length a', .slice B' n.fi.length b', .slice C' n.es.length c']) ∧ Below w.heap.size w w' ∧ NaAt w' n A' B' C' := by
  have hB0 := bal (bal (Below.refl w.heap.size w) (.cells #[.int .i64 n.V, .int .i64 n.S, .slice A n.st.length a, .slice B n.fi.length b, .slice C n.es.length c] 25)) (.cells #[.int .i64 0, .int .i64 0, .slice none 0 0, .slice none 0 0, .slice none 0 0] 25)
  have hN0 := (Blk.new w (.int .i64 n.V) (.int .i64 n.S) (.slice A n.st.length a) (.slice B n.fi.length b) (.slice C n.es.length c)).below (bal (Below.refl _ _) (.cells #[.int .i64 0, .int .i64 0, .slice none 0 0, .slice none 0 0, .slice none 0 0] 25))
  have hR0 := Blk.new (w.alloc (.cells #[.int .i64 n.V, .int .i64 n.S, .slice A n.st.length a, .slice B n.fi.length b, .slice C n.es.length c] 25)) (.int .i64 0) (.int .i64 0) (.slice none 0 0) (.slice none 0 0) (.slice none 0 0)
  rw [World.size_alloc] at hR0
  have H1 := Lib.hid fun X (hX : Below w.heap.size w X) => Dg.CopyInts_any A n.st a X (hx.st.below hX) hl.st
  have H2 := Lib.hid fun X (hX : Below w.heap.size w X) => Dg.CopyInts_any B n.fi b X (hx.fi.below hX) hl.fi
  have H3 := Lib.hid fun X (hX : Below w.heap.size w X) => CopyEdges_any C n.es c X (hx.es.below hX) hl.es
  have HP : Hid (∀ X A' B' C' a' b' c' B1 B2 B3, X.ownsRow B1 3 1 (.slice A' n.st.length a') n.st.length (n.st.map (Value.int .i64)) → X.ownsRow B2 3 1 (.slice B' n.fi.length b') n.fi.length (n.fi.map (Value.int .i64)) → X.ownsRow B3 73 4 (.slice C' n.es.length c') n.es.length (evs n.es) → NaAt X n A' B' C') := fun X A' B' C' a' b' c' B1 B2 B3 h1 h2 h3 => ⟨hx.v, hx.s, Dg.ints_row h1 rfl, Dg.ints_row h2 rfl, eds_of_own h3 (eds_mem hx.es)⟩
  clear hx hl
  go_enter Try.func11, Try.ntmps11
  go_wp2
  generalize ((w.alloc (.cells #[.int .i64 n.V, .int .i64 n.S, .slice A n.st.length a, .slice B n.fi.length b, .slice C n.es.length c] 25)).alloc (.cells #[.int .i64 0, .int .i64 0, .slice none 0 0, .slice none 0 0, .slice none 0 0] 25)) = w1 at *
  refine wp_region_any (by kernel_rfl) ?_
  change wpAny _ _ _ _ _ _ _ (World.drew _)
  have hS0 : (fun X : World => Blk X w.heap.size (.int .i64 n.V) (.int .i64 n.S) (.slice A n.st.length a) (.slice B n.fi.length b) (.slice C n.es.length c)) w1.drew := hN0
  have hlY : ∀ Y : World, Below w1.heap.size w1 Y → (fun X : World => Blk X w.heap.size (.int .i64 n.V) (.int .i64 n.S) (.slice A n.st.length a) (.slice B n.fi.length b) (.slice C n.es.length c)) Y := fun Y hY => hN0.below hY
  have hD : Below w1.heap.size w1 w1.drew := drew_below w1
  generalize w1.drew = X0 at *
  refine wpAny_head 14 14 (fun X : World => Blk X w.heap.size (.int .i64 n.V) (.int .i64 n.S) (.slice A n.st.length a) (.slice B n.fi.length b) (.slice C n.es.length c)) rfl rfl (by kernel_rfl) (by kernel_rfl) (by kernel_rfl) (fun hA => ?_)
  refine wpHead_take (i := 0) (v := ?_) (by kernel_rfl) hA (at_drop rfl) (by decide) (by kernel_rfl) (by kernel_rfl) (by kernel_rfl) (fun _ _ _ h => h) (Or.inl ⟨by rfl, ?_⟩) hS0 (fun hA => ?_)
  rotate_left
  · (intro w hSw; obtain ⟨s0, s1, s2, s3, s4⟩ := hSw.cells; go_simp <;> with_reducible rfl)
  simp only [Act.put, List.setIfInBounds_toArray, List.set_cons_zero, List.set_cons_succ]
  refine wpHead_take (i := 1) (v := ?_) (by kernel_rfl) hA (at_drop rfl) (by decide) (by kernel_rfl) (by kernel_rfl) (by kernel_rfl) (fun _ _ _ h => h) (Or.inl ⟨by rfl, ?_⟩) hS0 (fun hA => ?_)
  rotate_left
  · (intro w hSw; obtain ⟨s0, s1, s2, s3, s4⟩ := hSw.cells; go_simp <;> with_reducible rfl)
  simp only [Act.put, List.setIfInBounds_toArray, List.set_cons_zero, List.set_cons_succ]
  refine wpHead_take (i := 2) (v := ?_) (by kernel_rfl) hA (at_drop rfl) (by decide) (by kernel_rfl) (by kernel_rfl) (by kernel_rfl) (fun _ _ _ h => h) (Or.inl ⟨by rfl, ?_⟩) hS0 (fun hA => ?_)
  rotate_left
  · (intro w hSw; obtain ⟨s0, s1, s2, s3, s4⟩ := hSw.cells; go_simp <;> with_reducible rfl)
  simp only [Act.put, List.setIfInBounds_toArray, List.set_cons_zero, List.set_cons_succ]
  refine wpHead_take (i := 3) (v := ?_) (by kernel_rfl) hA (at_drop rfl) (by decide) (by kernel_rfl) (by kernel_rfl) (by kernel_rfl) (fun _ _ _ h => h) (Or.inl ⟨by rfl, ?_⟩) hS0 (fun hA => ?_)
  rotate_left
  · (intro w hSw; obtain ⟨s0, s1, s2, s3, s4⟩ := hSw.cells; go_simp <;> with_reducible rfl)
  simp only [Act.put, List.setIfInBounds_toArray, List.set_cons_zero, List.set_cons_succ]
  refine wpHead_take (i := 4) (v := ?_) (by kernel_rfl) hA (at_drop rfl) (by decide) (by kernel_rfl) (by kernel_rfl) (by kernel_rfl) (fun _ _ _ h => h) (Or.inl ⟨by rfl, ?_⟩) hS0 (fun hA => ?_)
  rotate_left
  · (intro w hSw; obtain ⟨s0, s1, s2, s3, s4⟩ := hSw.cells; go_simp <;> with_reducible rfl)
  simp only [Act.put, List.setIfInBounds_toArray, List.set_cons_zero, List.set_cons_succ]
  refine wpHead_take (i := 5) (v := ?_) (by kernel_rfl) hA (at_drop rfl) (by decide) (by kernel_rfl) (by kernel_rfl) (by kernel_rfl) (fun _ _ _ h => h) (Or.inl ⟨by rfl, ?_⟩) hS0 (fun hA => ?_)
  rotate_left
  · (intro w hSw; obtain ⟨s0, s1, s2, s3, s4⟩ := hSw.cells; go_simp <;> with_reducible rfl)
  simp only [Act.put, List.setIfInBounds_toArray, List.set_cons_zero, List.set_cons_succ]
  refine wpHead_take (i := 7) (v := ?_) (by kernel_rfl) hA (at_drop rfl) (by decide) (by kernel_rfl) (by kernel_rfl) (by kernel_rfl) (fun _ _ _ h => h) (Or.inl ⟨by rfl, ?_⟩) hS0 (fun hA => ?_)
  rotate_left
  · (intro w hSw; obtain ⟨s0, s1, s2, s3, s4⟩ := hSw.cells; go_simp <;> with_reducible rfl)
  simp only [Act.put, List.setIfInBounds_toArray, List.set_cons_zero, List.set_cons_succ]
  refine wpHead_take (i := 8) (v := ?_) (by kernel_rfl) hA (at_drop rfl) (by decide) (by kernel_rfl) (by kernel_rfl) (by kernel_rfl) (fun _ _ _ h => h) (Or.inl ⟨by rfl, ?_⟩) hS0 (fun hA => ?_)
  rotate_left
  · (intro w hSw; obtain ⟨s0, s1, s2, s3, s4⟩ := hSw.cells; go_simp <;> with_reducible rfl)
  simp only [Act.put, List.setIfInBounds_toArray, List.set_cons_zero, List.set_cons_succ]
  refine wpHead_take (i := 10) (v := ?_) (by kernel_rfl) hA (at_drop rfl) (by decide) (by kernel_rfl) (by kernel_rfl) (by kernel_rfl) (fun _ _ _ h => h) (Or.inl ⟨by rfl, ?_⟩) hS0 (fun hA => ?_)
  rotate_left
  · (intro w hSw; obtain ⟨s0, s1, s2, s3, s4⟩ := hSw.cells; go_simp <;> with_reducible rfl)
  simp only [Act.put, List.setIfInBounds_toArray, List.set_cons_zero, List.set_cons_succ]
  refine wpHead_take (i := 11) (v := ?_) (by kernel_rfl) hA (at_drop rfl) (by decide) (by kernel_rfl) (by kernel_rfl) (by kernel_rfl) (fun _ _ _ h => h) (Or.inl ⟨by rfl, ?_⟩) hS0 (fun hA => ?_)
  rotate_left
  · (intro w hSw; obtain ⟨s0, s1, s2, s3, s4⟩ := hSw.cells; go_simp <;> with_reducible rfl)
  simp only [Act.put, List.setIfInBounds_toArray, List.set_cons_zero, List.set_cons_succ]
  have hA6 := hnext hA (rs := [6]) (i := 6) (by kernel_rfl) (by decide) (by decide)
  refine wpHead_ready (rs := [6]) (by kernel_rfl) (by decide) (AllHead.cons (at_drop rfl) (by decide) (fun KK hK => ?_) AllHead.nil)
  replace hA := hA6
  go_simp
  refine (H1.out X0 (stepB hB0 hD)).mono ?_
  rintro e X1 ⟨A1, a1, rfl, o1, k1, d1⟩
  have HX1 := stepB hD d1
  refine hK _ _ (hlY _ HX1) ?_
  clear hK KK
  try simp only [Act.put, List.setIfInBounds_toArray, List.set_cons_zero, List.set_cons_succ]
  have hA9 := hnext hA (rs := [9]) (i := 9) (by kernel_rfl) (by decide) (by decide)
  refine wpHead_ready (rs := [9]) (by kernel_rfl) (by decide) (AllHead.cons (at_drop rfl) (by decide) (fun KK hK => ?_) AllHead.nil)
  replace hA := hA9
  go_simp
  refine (H2.out X1 (stepB hB0 HX1)).mono ?_
  rintro e X2 ⟨B1, b1, rfl, o2, k2, d2⟩
  have HX2 := stepB HX1 d2
  refine hK _ _ (hlY _ HX2) ?_
  clear hK KK
  try simp only [Act.put, List.setIfInBounds_toArray, List.set_cons_zero, List.set_cons_succ]
  have hA12 := hnext hA (rs := [12]) (i := 12) (by kernel_rfl) (by decide) (by decide)
  refine wpHead_ready (rs := [12]) (by kernel_rfl) (by decide) (AllHead.cons (at_drop rfl) (by decide) (fun KK hK => ?_) AllHead.nil)
  replace hA := hA12
  go_simp
  refine (H3.out X2 (stepB hB0 HX2)).mono ?_
  rintro e X3 ⟨C1, c1, rfl, o3, d3⟩
  have HX3 := stepB HX2 d3
  refine hK _ _ (hlY _ HX3) ?_
  clear hK KK
  try simp only [Act.put, List.setIfInBounds_toArray, List.set_cons_zero, List.set_cons_succ]
  refine wpHead_take (i := 13) (v := ?_) (by kernel_rfl) hA (at_drop rfl) (by decide) (by kernel_rfl) (by kernel_rfl) (by kernel_rfl) (fun _ _ _ h => h) (Or.inl ⟨by rfl, ?_⟩) (hlY _ HX3) (fun hA => ?_)
  rotate_left
  · (intro w hSw; obtain ⟨s0, s1, s2, s3, s4⟩ := hSw.cells; go_simp <;> with_reducible rfl)
  simp only [Act.put, List.setIfInBounds_toArray, List.set_cons_zero, List.set_cons_succ]
  have hR := hR0.below HX3
  have hbX := stepB hB0 HX3
  have p1 := (o1.below d2).below d3
  have p2 := o2.below d3
  obtain ⟨⟨q0, f0⟩, ⟨q1, f1⟩, ⟨q2, f2⟩, ⟨q3, f3⟩, ⟨q4, f4⟩, hR5, hB5, hO5⟩ := store5 hR (.int .i64 n.V) (.int .i64 n.S) (.slice A1 n.st.length a1) (.slice B1 n.fi.length b1) (.slice C1 n.es.length c1)
  have HF := Lib.hid (And.intro hR5.cells (And.intro (hbX.trans (hB5 w.heap.size (by omega))) (HP.out _ _ _ _ _ _ _ _ _ _ (hO5 _ _ _ _ _ _ p1 (by decide)) (hO5 _ _ _ _ _ _ p2 (by decide)) (hO5 _ _ _ _ _ _ o3 (by decide)))))
  clear hR5 hB5 hO5 hR hbX p1 p2 o1 o2 o3 d1 d2 d3 HX1 HX2 HX3 hD hA HP k1 k2
  clear hlY hN0 hR0 H1 H2 H3 hS0 hB0
  refine wpHead_end (by kernel_rfl) ?_
  simp only [List.drop_succ_cons, List.drop_zero]
  go_wp2
  obtain ⟨⟨y0, y1, y2, y3, y4⟩, hb5, hN⟩ := HF.out
  unfold put5 at y0 y1 y2 y3 y4 hb5 hN
  refine bodyPost_ret (v := .agg #[.int .i64 n.V, .int .i64 n.S, .slice A1 n.st.length a1, .slice B1 n.fi.length b1, .slice C1 n.es.length c1]) (by simp [results, Try.results11, go_sem, y0, y1, y2, y3, y4]) rfl ?_
  exact ⟨_, _, _, _, _, _, rfl, hb5, hN⟩
end Go.Proofs.Ytbmamkackigdaaa.Nf
