/- Union (package nfa). -/
import Derived.Test.YteckkbjpeckjmaaDoorGD
namespace Go.Proofs.YteckkbjpeckjmaaDoor.Nf
open Go Go.RowKit Go.Proofs.YteckkbjpeckjmaaDoor Go.Proofs.YteckkbjpeckjmaaDoor.Cb
set_option linter.unusedVariables false
set_option linter.unusedSimpArgs false
set_option maxRecDepth 100000
set_option maxHeartbeats 16000000 in
theorem Union_good (n m : Na) (A B C D E F : Option Addr) (a b c d e f : Nat) (w : World) (hx : NaAt w n A B C) (hl : NaLen n) (hy : NaAt w m D E F) (hk : NaLen m) (h0 : uniE n m = 0) (hn0 : chkN n = 0) (hm0 : chkN m = 0) (hst : n.st.length ≤ 100 ∧ n.fi.length ≤ 100 ∧ m.st.length ≤ 100 ∧ m.fi.length ≤ 100) :
    Calls Tryd.prog 9 #[.agg #[.int .i64 n.V, .int .i64 n.S, .slice A n.st.length a, .slice B n.fi.length b, .slice C n.es.length c], .agg #[.int .i64 m.V, .int .i64 m.S, .slice D m.st.length d, .slice E m.fi.length e, .slice F m.es.length f]] w fun r w' => ∃ A' B' C' a' b' c', r = .returned (.tuple #[.agg #[.int .i64 n.V, .int .i64 (n.S + m.S), .slice A' (n.st.length + m.st.length) a', .slice B' (n.fi.length + m.fi.length) b', .slice C' (n.es.length + m.es.length) c'], .int .i64 0]) ∧ Below w.heap.size w w' ∧ NaAt w' (uniN n m) A' B' C' := by
  have o1 := ok_of hn0
  have o2 := ok_of hm0
  have s1 := o1.s0
  have s2 := o1.s64
  have s3 := o2.s0
  have s4 := o2.s64
  have e1 := o1.es
  have e2 := o2.es
  have hB0 := bal (bal (bal (Below.refl w.heap.size w) (.cells #[.int .i64 n.V, .int .i64 n.S, .slice A n.st.length a, .slice B n.fi.length b, .slice C n.es.length c] 26)) (.cells #[.int .i64 m.V, .int .i64 m.S, .slice D m.st.length d, .slice E m.fi.length e, .slice F m.es.length f] 26)) (.cells #[.int .i64 0, .int .i64 0, .slice none 0 0, .slice none 0 0, .slice none 0 0] 26)
  have hN0 := ((Blk.new w (.int .i64 n.V) (.int .i64 n.S) (.slice A n.st.length a) (.slice B n.fi.length b) (.slice C n.es.length c)).below (bal (Below.refl _ _) (.cells #[.int .i64 m.V, .int .i64 m.S, .slice D m.st.length d, .slice E m.fi.length e, .slice F m.es.length f] 26))).below (bal (Below.refl _ _) (.cells #[.int .i64 0, .int .i64 0, .slice none 0 0, .slice none 0 0, .slice none 0 0] 26))
  have hM0 := (Blk.new (w.alloc (.cells #[.int .i64 n.V, .int .i64 n.S, .slice A n.st.length a, .slice B n.fi.length b, .slice C n.es.length c] 26)) (.int .i64 m.V) (.int .i64 m.S) (.slice D m.st.length d) (.slice E m.fi.length e) (.slice F m.es.length f)).below (bal (Below.refl _ _) (.cells #[.int .i64 0, .int .i64 0, .slice none 0 0, .slice none 0 0, .slice none 0 0] 26))
  have hR0 := Blk.new ((w.alloc (.cells #[.int .i64 n.V, .int .i64 n.S, .slice A n.st.length a, .slice B n.fi.length b, .slice C n.es.length c] 26)).alloc (.cells #[.int .i64 m.V, .int .i64 m.S, .slice D m.st.length d, .slice E m.fi.length e, .slice F m.es.length f] 26)) (.int .i64 0) (.int .i64 0) (.slice none 0 0) (.slice none 0 0) (.slice none 0 0)
  simp only [World.size_alloc] at hM0 hR0
  have HC := Lib.hid fun X (hX : Below w.heap.size w X) => checkUnion_any n m A B C D E F a b c d e f X (hx.below hX) hl (hy.below hX) hk
  rw [h0] at HC
  have HRn := Lib.hid fun X (hX : Below w.heap.size w X) hS => renumbered_any m D E F d e f n.S m.S w.heap.size X (hy.below hX) hk o2 (by omega) (World.block_lt_of_cell? X _ hS) hS
  have hw1 : IntKind.i64.wrap (n.S + m.S) = n.S + m.S := by rw [IntKind.wrap_i64]; omega
  clear h0
  go_enter Tryd.func9, Tryd.ntmps9
  obtain ⟨z0, z1, z2, z3, z4⟩ := hN0.cells
  obtain ⟨t0, t1, t2, t3, t4⟩ := hM0.cells
  go_wp2_with (first
    | (go_at_call 42; ((with_reducible refine (HC.out _ hB0).mono ?_); rintro r w2 ⟨rfl, hb2⟩); clear z0 z1 z2 z3 z4 t0 t1 t2 t3 t4; replace hN0 := hN0.below hb2; replace hM0 := hM0.below hb2; replace hR0 := hR0.below hb2; replace hB0 := stepB hB0 hb2; obtain ⟨z0, z1, z2, z3, z4⟩ := hN0.cells; obtain ⟨t0, t1, t2, t3, t4⟩ := hM0.cells)
    | (go_at_call 41; ((with_reducible refine (HRn.out _ hB0 z1).mono ?_); rintro r w3 ⟨D1, E1, F1, d1, e1', f1', rfl, hb3, q1, q2, q3⟩); clear z0 z1 z2 z3 z4 t0 t1 t2 t3 t4; have hS3 := Blk.new w3 (.int .i64 m.V) (.int .i64 m.S) (.slice D1 m.st.length d1) (.slice E1 m.fi.length e1') (.slice F1 m.es.length f1'); have hR0' := hR0.below hb3; have hb4 := bal (Below.refl w3.heap.size w3) (.cells #[.int .i64 m.V, .int .i64 m.S, .slice D1 m.st.length d1, .slice E1 m.fi.length e1', .slice F1 m.es.length f1'] 26); replace hN0 := (hN0.below hb3).below hb4; replace hM0 := (hM0.below hb3).below hb4; replace hR0 := (hR0.below hb3).below hb4; replace hB0 := stepB (stepB hB0 hb3) hb4; have i1 := Ints.below (Dg.ints_row q1 (List.length_map _).symm) hb4; have i2 := Ints.below (Dg.ints_row q2 (List.length_map _).symm) hb4; replace q3 := q3.below hb4))
  generalize hb7 : w3.heap.size = b7 at *
  generalize hW0 : World.alloc w3 (.cells #[.int .i64 m.V, .int .i64 m.S, .slice D1 m.st.length d1, .slice E1 m.fi.length e1', .slice F1 m.es.length f1'] 26) = W0 at *
  have hbw := hB0.size
  have hlt7 : w.heap.size + 2 < b7 := by have := hb3.size; have := hR0'.lt; omega
  have HC1 : Hid (∀ X, Below W0.heap.size W0 X → ∀ g, g < X.heap.size → X.cell? ⟨g, 0, none⟩ = some (.slice A n.st.length a) → X.cell? ⟨g, 1, none⟩ = some (.slice D1 m.st.length d1) → Calls Tryd.prog 44 #[.slice (some ⟨g, 0, none⟩) 2 2] X fun e w' => ∃ A' c', e = .returned (.slice A' (n.st.length + m.st.length) c') ∧ w'.ownsRow X.heap.size 3 1 (.slice A' (n.st.length + m.st.length) c') (n.st.length + m.st.length) (zvs (n.st ++ m.st.map (· + n.S))) ∧ Below X.heap.size X w') := fun X hX g hg p0 p1 => by
    have := ConcatInts_any A D1 n.st (m.st.map (· + n.S)) a d1 g X (hx.st.below (stepB hB0 hX)) (i1.below hX) (by omega) (by rw [List.length_map]; omega) hg p0 (by rw [List.length_map]; exact p1)
    rwa [List.length_map] at this
  have HC2 : Hid (∀ X, Below W0.heap.size W0 X → ∀ g, g < X.heap.size → X.cell? ⟨g, 0, none⟩ = some (.slice B n.fi.length b) → X.cell? ⟨g, 1, none⟩ = some (.slice E1 m.fi.length e1') → Calls Tryd.prog 44 #[.slice (some ⟨g, 0, none⟩) 2 2] X fun e w' => ∃ A' c', e = .returned (.slice A' (n.fi.length + m.fi.length) c') ∧ w'.ownsRow X.heap.size 3 1 (.slice A' (n.fi.length + m.fi.length) c') (n.fi.length + m.fi.length) (zvs (n.fi ++ m.fi.map (· + n.S))) ∧ Below X.heap.size X w') := fun X hX g hg p0 p1 => by
    have := ConcatInts_any B E1 n.fi (m.fi.map (· + n.S)) b e1' g X (hx.fi.below (stepB hB0 hX)) (i2.below hX) (by omega) (by rw [List.length_map]; omega) hg p0 (by rw [List.length_map]; exact p1)
    rwa [List.length_map] at this
  have hfe : ∀ x ∈ m.es.map (shiftE n.S), EdOk x := fun x hxe => by
    obtain ⟨y, hy1, rfl⟩ := List.mem_map.1 hxe
    have h1 := edE_in (o2.ed y hy1)
    have h2 := eds_mem hy.es y hy1
    exact ⟨by show InJ (y.fr + n.S); unfold InJ; omega, by show InJ (y.to + n.S); unfold InJ; omega, h2.p, h2.q⟩
  have i3 : EdsAt W0 F1 (m.es.map (shiftE n.S)) := by
    exact eds_of_own q3 hfe
  have HC3 : Hid (∀ X, Below W0.heap.size W0 X → ∀ g, g < X.heap.size → X.cell? ⟨g, 0, none⟩ = some (.slice C n.es.length c) → X.cell? ⟨g, 1, none⟩ = some (.slice F1 m.es.length f1') → Calls Tryd.prog 45 #[.slice (some ⟨g, 0, none⟩) 2 2] X fun e w' => ∃ A' c', e = .returned (.slice A' (n.es.length + m.es.length) c') ∧ w'.ownsRow X.heap.size 30 4 (.slice A' (n.es.length + m.es.length) c') (n.es.length + m.es.length) (evs (n.es ++ m.es.map (shiftE n.S))) ∧ Below X.heap.size X w') := fun X hX g hg p0 p1 => by
    have := ConcatEdges_any C F1 n.es (m.es.map (shiftE n.S)) c f1' g X (hx.es.below (stepB hB0 hX)) (i3.below hX) (by omega) (by rw [List.length_map]; omega) hg p0 (by rw [List.length_map]; exact p1)
    rwa [List.length_map] at this
  have hIJ : InJ (n.S + m.S) := by unfold InJ; omega
  have HNa : Hid (∀ Z G1 G2 G3 g1 g2 g3, Z.ownsRow w.heap.size 3 1 (.slice G1 (n.st.length + m.st.length) g1) (n.st.length + m.st.length) (zvs (n.st ++ m.st.map (· + n.S))) → Z.ownsRow w.heap.size 3 1 (.slice G2 (n.fi.length + m.fi.length) g2) (n.fi.length + m.fi.length) (zvs (n.fi ++ m.fi.map (· + n.S))) → Z.ownsRow w.heap.size 30 4 (.slice G3 (n.es.length + m.es.length) g3) (n.es.length + m.es.length) (evs (n.es ++ m.es.map (shiftE n.S))) → NaAt Z (uniN n m) G1 G2 G3) := fun Z G1 G2 G3 g1 g2 g3 h1 h2 h3 =>
    ⟨hx.v, hIJ, Dg.ints_row h1 (by show _ = (n.st ++ m.st.map (· + n.S)).length; rw [List.length_append, List.length_map]), Dg.ints_row h2 (by show _ = (n.fi ++ m.fi.map (· + n.S)).length; rw [List.length_append, List.length_map]), eds_of_own h3 fun x hxe => (List.mem_append.1 hxe).elim (eds_mem hx.es x) (hfe x)⟩
  have HEnd := Lib.hid fun X6 (hX : Below W0.heap.size W0 X6) G1 G2 G3 g1 g2 g3 h1 h2 h3 =>
    have S := store5 (hR0.below hX) (.int .i64 n.V) (.int .i64 (n.S + m.S)) (.slice G1 (n.st.length + m.st.length) g1) (.slice G2 (n.fi.length + m.fi.length) g2) (.slice G3 (n.es.length + m.es.length) g3)
    And.intro S.1 (And.intro S.2.1 (And.intro S.2.2.1 (And.intro S.2.2.2.1 (And.intro S.2.2.2.2.1 (And.intro S.2.2.2.2.2.1.cells (And.intro ((stepB hB0 hX).trans (S.2.2.2.2.2.2.1 w.heap.size (by omega))) (HNa.out _ G1 G2 G3 g1 g2 g3 (S.2.2.2.2.2.2.2 _ _ _ _ _ _ h1 (by decide)) (S.2.2.2.2.2.2.2 _ _ _ _ _ _ h2 (by decide)) (S.2.2.2.2.2.2.2 _ _ _ _ _ _ h3 (by decide)))))))))
  have hS0 : (fun X : World => Blk X w.heap.size (.int .i64 n.V) (.int .i64 n.S) (.slice A n.st.length a) (.slice B n.fi.length b) (.slice C n.es.length c) ∧ Blk X (w.heap.size + 1) (.int .i64 m.V) (.int .i64 m.S) (.slice D m.st.length d) (.slice E m.fi.length e) (.slice F m.es.length f) ∧ Blk X b7 (.int .i64 m.V) (.int .i64 m.S) (.slice D1 m.st.length d1) (.slice E1 m.fi.length e1') (.slice F1 m.es.length f1')) W0.drew := ⟨hN0, hM0, hS3⟩
  have hS1 : Blk W0 b7 (.int .i64 m.V) (.int .i64 m.S) (.slice D1 m.st.length d1) (.slice E1 m.fi.length e1') (.slice F1 m.es.length f1') := hS3
  have hlY : ∀ Y : World, Below W0.heap.size W0 Y → (fun X : World => Blk X w.heap.size (.int .i64 n.V) (.int .i64 n.S) (.slice A n.st.length a) (.slice B n.fi.length b) (.slice C n.es.length c) ∧ Blk X (w.heap.size + 1) (.int .i64 m.V) (.int .i64 m.S) (.slice D m.st.length d) (.slice E m.fi.length e) (.slice F m.es.length f) ∧ Blk X b7 (.int .i64 m.V) (.int .i64 m.S) (.slice D1 m.st.length d1) (.slice E1 m.fi.length e1') (.slice F1 m.es.length f1')) Y := fun Y hY => ⟨hN0.below hY, hM0.below hY, hS1.below hY⟩
  have hD : Below W0.heap.size W0 W0.drew := drew_below W0
  clear hS3 hb4 hb3 i1 i2 i3 q1 q2 q3 hx hy hl hk hW0 hb7 HNa hfe o1 o2 hn0 hm0 hIJ HC
  refine wp_region_any (by kernel_rfl) ?_
  change wpAny _ _ _ _ _ _ _ (World.drew _)
  generalize W0.drew = X0 at *
  refine wpAny_head 26 26 (fun X : World => Blk X w.heap.size (.int .i64 n.V) (.int .i64 n.S) (.slice A n.st.length a) (.slice B n.fi.length b) (.slice C n.es.length c) ∧ Blk X (w.heap.size + 1) (.int .i64 m.V) (.int .i64 m.S) (.slice D m.st.length d) (.slice E m.fi.length e) (.slice F m.es.length f) ∧ Blk X b7 (.int .i64 m.V) (.int .i64 m.S) (.slice D1 m.st.length d1) (.slice E1 m.fi.length e1') (.slice F1 m.es.length f1')) rfl rfl (by kernel_rfl) (by kernel_rfl) (by kernel_rfl) (fun hA => ?_)
  refine wpHead_take (i := 0) (v := ?_) (by kernel_rfl) hA (at_drop rfl) (by decide) (by kernel_rfl) (by kernel_rfl) (by kernel_rfl) (fun _ _ _ h => h) (Or.inl ⟨by rfl, ?_⟩) hS0 (fun hA => ?_)
  rotate_left
  · (intro w hSw; obtain ⟨s0, s1, s2, s3, s4⟩ := hSw.1.cells; obtain ⟨t0, t1, t2, t3, t4⟩ := hSw.2.1.cells; obtain ⟨u0, u1, u2, u3, u4⟩ := hSw.2.2.cells; go_simp <;> with_reducible rfl)
  simp only [Act.put, List.setIfInBounds_toArray, List.set_cons_zero, List.set_cons_succ]
  refine wpHead_take (i := 1) (v := ?_) (by kernel_rfl) hA (at_drop rfl) (by decide) (by kernel_rfl) (by kernel_rfl) (by kernel_rfl) (fun _ _ _ h => h) (Or.inl ⟨by rfl, ?_⟩) hS0 (fun hA => ?_)
  rotate_left
  · (intro w hSw; obtain ⟨s0, s1, s2, s3, s4⟩ := hSw.1.cells; obtain ⟨t0, t1, t2, t3, t4⟩ := hSw.2.1.cells; obtain ⟨u0, u1, u2, u3, u4⟩ := hSw.2.2.cells; go_simp <;> with_reducible rfl)
  simp only [Act.put, List.setIfInBounds_toArray, List.set_cons_zero, List.set_cons_succ]
  refine wpHead_take (i := 2) (v := ?_) (by kernel_rfl) hA (at_drop rfl) (by decide) (by kernel_rfl) (by kernel_rfl) (by kernel_rfl) (fun _ _ _ h => h) (Or.inl ⟨by rfl, ?_⟩) hS0 (fun hA => ?_)
  rotate_left
  · (intro w hSw; obtain ⟨s0, s1, s2, s3, s4⟩ := hSw.1.cells; obtain ⟨t0, t1, t2, t3, t4⟩ := hSw.2.1.cells; obtain ⟨u0, u1, u2, u3, u4⟩ := hSw.2.2.cells; go_simp <;> with_reducible rfl)
  simp only [Act.put, List.setIfInBounds_toArray, List.set_cons_zero, List.set_cons_succ]
  refine wpHead_take (i := 3) (v := ?_) (by kernel_rfl) hA (at_drop rfl) (by decide) (by kernel_rfl) (by kernel_rfl) (by kernel_rfl) (fun _ _ _ h => h) (Or.inl ⟨by rfl, ?_⟩) hS0 (fun hA => ?_)
  rotate_left
  · (intro w hSw; obtain ⟨s0, s1, s2, s3, s4⟩ := hSw.1.cells; obtain ⟨t0, t1, t2, t3, t4⟩ := hSw.2.1.cells; obtain ⟨u0, u1, u2, u3, u4⟩ := hSw.2.2.cells; go_simp <;> with_reducible rfl)
  simp only [Act.put, List.setIfInBounds_toArray, List.set_cons_zero, List.set_cons_succ]
  refine wpHead_take (i := 4) (v := ?_) (by kernel_rfl) hA (at_drop rfl) (by decide) (by kernel_rfl) (by kernel_rfl) (by kernel_rfl) (fun _ _ _ h => h) (Or.inl ⟨by rfl, ?_⟩) hS0 (fun hA => ?_)
  rotate_left
  · (intro w hSw; obtain ⟨s0, s1, s2, s3, s4⟩ := hSw.1.cells; obtain ⟨t0, t1, t2, t3, t4⟩ := hSw.2.1.cells; obtain ⟨u0, u1, u2, u3, u4⟩ := hSw.2.2.cells; go_simp <;> with_reducible rfl)
  simp only [Act.put, List.setIfInBounds_toArray, List.set_cons_zero, List.set_cons_succ]
  refine wpHead_take (i := 5) (v := ?_) (by kernel_rfl) hA (at_drop rfl) (by decide) (by kernel_rfl) (by kernel_rfl) (by kernel_rfl) (fun _ _ _ h => h) (Or.inl ⟨by rfl, ?_⟩) hS0 (fun hA => ?_)
  rotate_left
  · (intro w hSw; obtain ⟨s0, s1, s2, s3, s4⟩ := hSw.1.cells; obtain ⟨t0, t1, t2, t3, t4⟩ := hSw.2.1.cells; obtain ⟨u0, u1, u2, u3, u4⟩ := hSw.2.2.cells; go_simp <;> with_reducible rfl)
  simp only [Act.put, List.setIfInBounds_toArray, List.set_cons_zero, List.set_cons_succ]
  refine wpHead_take (i := 6) (v := ?_) (by kernel_rfl) hA (at_drop rfl) (by decide) (by kernel_rfl) (by kernel_rfl) (by kernel_rfl) (fun _ _ _ h => h) (Or.inl ⟨by rfl, ?_⟩) hS0 (fun hA => ?_)
  rotate_left
  · (intro w hSw; obtain ⟨s0, s1, s2, s3, s4⟩ := hSw.1.cells; obtain ⟨t0, t1, t2, t3, t4⟩ := hSw.2.1.cells; obtain ⟨u0, u1, u2, u3, u4⟩ := hSw.2.2.cells; go_simp <;> with_reducible rfl)
  simp only [Act.put, List.setIfInBounds_toArray, List.set_cons_zero, List.set_cons_succ]
  refine wpHead_take (i := 7) (v := ?_) (by kernel_rfl) hA (at_drop rfl) (by decide) (by kernel_rfl) (by kernel_rfl) (by kernel_rfl) (fun _ _ _ h => h) (Or.inl ⟨by rfl, ?_⟩) hS0 (fun hA => ?_)
  rotate_left
  · (intro w hSw; obtain ⟨s0, s1, s2, s3, s4⟩ := hSw.1.cells; obtain ⟨t0, t1, t2, t3, t4⟩ := hSw.2.1.cells; obtain ⟨u0, u1, u2, u3, u4⟩ := hSw.2.2.cells; go_simp <;> with_reducible rfl)
  simp only [Act.put, List.setIfInBounds_toArray, List.set_cons_zero, List.set_cons_succ]
  refine wpHead_take (i := 8) (v := ?_) (by kernel_rfl) hA (at_drop rfl) (by decide) (by kernel_rfl) (by kernel_rfl) (by kernel_rfl) (fun _ _ _ h => h) (Or.inl ⟨by rfl, ?_⟩) hS0 (fun hA => ?_)
  rotate_left
  · (intro w hSw; obtain ⟨s0, s1, s2, s3, s4⟩ := hSw.1.cells; obtain ⟨t0, t1, t2, t3, t4⟩ := hSw.2.1.cells; obtain ⟨u0, u1, u2, u3, u4⟩ := hSw.2.2.cells; go_simp <;> with_reducible rfl)
  simp only [Act.put, List.setIfInBounds_toArray, List.set_cons_zero, List.set_cons_succ]
  refine wpHead_take (i := 9) (v := ?_) (by kernel_rfl) hA (at_drop rfl) (by decide) (by kernel_rfl) (by kernel_rfl) (by kernel_rfl) (fun _ _ _ h => h) (Or.inl ⟨by rfl, ?_⟩) hS0 (fun hA => ?_)
  rotate_left
  · (intro w hSw; obtain ⟨s0, s1, s2, s3, s4⟩ := hSw.1.cells; obtain ⟨t0, t1, t2, t3, t4⟩ := hSw.2.1.cells; obtain ⟨u0, u1, u2, u3, u4⟩ := hSw.2.2.cells; go_simp <;> with_reducible rfl)
  simp only [Act.put, List.setIfInBounds_toArray, List.set_cons_zero, List.set_cons_succ]
  refine wpHead_take (i := 10) (v := ?_) (by kernel_rfl) hA (at_drop rfl) (by decide) (by kernel_rfl) (by kernel_rfl) (by kernel_rfl) (fun _ _ _ h => h) (Or.inl ⟨by rfl, ?_⟩) hS0 (fun hA => ?_)
  rotate_left
  · (intro w hSw; obtain ⟨s0, s1, s2, s3, s4⟩ := hSw.1.cells; obtain ⟨t0, t1, t2, t3, t4⟩ := hSw.2.1.cells; obtain ⟨u0, u1, u2, u3, u4⟩ := hSw.2.2.cells; go_simp <;> with_reducible rfl)
  simp only [Act.put, List.setIfInBounds_toArray, List.set_cons_zero, List.set_cons_succ]
  refine wpHead_take (i := 13) (v := ?_) (by kernel_rfl) hA (at_drop rfl) (by decide) (by kernel_rfl) (by kernel_rfl) (by kernel_rfl) (fun _ _ _ h => h) (Or.inl ⟨by rfl, ?_⟩) hS0 (fun hA => ?_)
  rotate_left
  · (intro w hSw; obtain ⟨s0, s1, s2, s3, s4⟩ := hSw.1.cells; obtain ⟨t0, t1, t2, t3, t4⟩ := hSw.2.1.cells; obtain ⟨u0, u1, u2, u3, u4⟩ := hSw.2.2.cells; go_simp <;> with_reducible rfl)
  simp only [Act.put, List.setIfInBounds_toArray, List.set_cons_zero, List.set_cons_succ]
  refine wpHead_take (i := 14) (v := ?_) (by kernel_rfl) hA (at_drop rfl) (by decide) (by kernel_rfl) (by kernel_rfl) (by kernel_rfl) (fun _ _ _ h => h) (Or.inl ⟨by rfl, ?_⟩) hS0 (fun hA => ?_)
  rotate_left
  · (intro w hSw; obtain ⟨s0, s1, s2, s3, s4⟩ := hSw.1.cells; obtain ⟨t0, t1, t2, t3, t4⟩ := hSw.2.1.cells; obtain ⟨u0, u1, u2, u3, u4⟩ := hSw.2.2.cells; go_simp <;> with_reducible rfl)
  simp only [Act.put, List.setIfInBounds_toArray, List.set_cons_zero, List.set_cons_succ]
  refine wpHead_take (i := 15) (v := ?_) (by kernel_rfl) hA (at_drop rfl) (by decide) (by kernel_rfl) (by kernel_rfl) (by kernel_rfl) (fun _ _ _ h => h) (Or.inl ⟨by rfl, ?_⟩) hS0 (fun hA => ?_)
  rotate_left
  · (intro w hSw; obtain ⟨s0, s1, s2, s3, s4⟩ := hSw.1.cells; obtain ⟨t0, t1, t2, t3, t4⟩ := hSw.2.1.cells; obtain ⟨u0, u1, u2, u3, u4⟩ := hSw.2.2.cells; go_simp <;> with_reducible rfl)
  simp only [Act.put, List.setIfInBounds_toArray, List.set_cons_zero, List.set_cons_succ]
  refine wpHead_take (i := 16) (v := ?_) (by kernel_rfl) hA (at_drop rfl) (by decide) (by kernel_rfl) (by kernel_rfl) (by kernel_rfl) (fun _ _ _ h => h) (Or.inl ⟨by rfl, ?_⟩) hS0 (fun hA => ?_)
  rotate_left
  · (intro w hSw; obtain ⟨s0, s1, s2, s3, s4⟩ := hSw.1.cells; obtain ⟨t0, t1, t2, t3, t4⟩ := hSw.2.1.cells; obtain ⟨u0, u1, u2, u3, u4⟩ := hSw.2.2.cells; go_simp <;> with_reducible rfl)
  simp only [Act.put, List.setIfInBounds_toArray, List.set_cons_zero, List.set_cons_succ]
  refine wpHead_take (i := 19) (v := ?_) (by kernel_rfl) hA (at_drop rfl) (by decide) (by kernel_rfl) (by kernel_rfl) (by kernel_rfl) (fun _ _ _ h => h) (Or.inl ⟨by rfl, ?_⟩) hS0 (fun hA => ?_)
  rotate_left
  · (intro w hSw; obtain ⟨s0, s1, s2, s3, s4⟩ := hSw.1.cells; obtain ⟨t0, t1, t2, t3, t4⟩ := hSw.2.1.cells; obtain ⟨u0, u1, u2, u3, u4⟩ := hSw.2.2.cells; go_simp <;> with_reducible rfl)
  simp only [Act.put, List.setIfInBounds_toArray, List.set_cons_zero, List.set_cons_succ]
  refine wpHead_take (i := 20) (v := ?_) (by kernel_rfl) hA (at_drop rfl) (by decide) (by kernel_rfl) (by kernel_rfl) (by kernel_rfl) (fun _ _ _ h => h) (Or.inl ⟨by rfl, ?_⟩) hS0 (fun hA => ?_)
  rotate_left
  · (intro w hSw; obtain ⟨s0, s1, s2, s3, s4⟩ := hSw.1.cells; obtain ⟨t0, t1, t2, t3, t4⟩ := hSw.2.1.cells; obtain ⟨u0, u1, u2, u3, u4⟩ := hSw.2.2.cells; go_simp <;> with_reducible rfl)
  simp only [Act.put, List.setIfInBounds_toArray, List.set_cons_zero, List.set_cons_succ]
  refine wpHead_take (i := 21) (v := ?_) (by kernel_rfl) hA (at_drop rfl) (by decide) (by kernel_rfl) (by kernel_rfl) (by kernel_rfl) (fun _ _ _ h => h) (Or.inl ⟨by rfl, ?_⟩) hS0 (fun hA => ?_)
  rotate_left
  · (intro w hSw; obtain ⟨s0, s1, s2, s3, s4⟩ := hSw.1.cells; obtain ⟨t0, t1, t2, t3, t4⟩ := hSw.2.1.cells; obtain ⟨u0, u1, u2, u3, u4⟩ := hSw.2.2.cells; go_simp <;> with_reducible rfl)
  simp only [Act.put, List.setIfInBounds_toArray, List.set_cons_zero, List.set_cons_succ]
  refine wpHead_take (i := 22) (v := ?_) (by kernel_rfl) hA (at_drop rfl) (by decide) (by kernel_rfl) (by kernel_rfl) (by kernel_rfl) (fun _ _ _ h => h) (Or.inl ⟨by rfl, ?_⟩) hS0 (fun hA => ?_)
  rotate_left
  · (intro w hSw; obtain ⟨s0, s1, s2, s3, s4⟩ := hSw.1.cells; obtain ⟨t0, t1, t2, t3, t4⟩ := hSw.2.1.cells; obtain ⟨u0, u1, u2, u3, u4⟩ := hSw.2.2.cells; go_simp <;> with_reducible rfl)
  simp only [Act.put, List.setIfInBounds_toArray, List.set_cons_zero, List.set_cons_succ]
  have hA11 := hnext hA (rs := [11, 17, 23]) (i := 11) (by kernel_rfl) (by decide) (by decide)
  have hA17 := hnext hA (rs := [11, 17, 23]) (i := 17) (by kernel_rfl) (by decide) (by decide)
  have hA23 := hnext hA (rs := [11, 17, 23]) (i := 23) (by kernel_rfl) (by decide) (by decide)
  refine wpHead_ready (rs := [11, 17, 23]) (by kernel_rfl) (by decide) (AllHead.cons (at_drop rfl) (by decide) (fun KK hK => ?_) (AllHead.cons (at_drop rfl) (by decide) (fun KK hK => ?_) (AllHead.cons (at_drop rfl) (by decide) (fun KK hK => ?_) AllHead.nil)))
  · replace hA := hA11
    go_simp
    have d_1 := bal (Below.refl X0.heap.size X0) (.cells #[.slice A n.st.length a, .slice D1 m.st.length d1] 23)
    have s_1 : X0.heap.size < (World.alloc X0 (.cells #[.slice A n.st.length a, .slice D1 m.st.length d1] 23)).heap.size := by simp
    have p10 : (World.alloc X0 (.cells #[.slice A n.st.length a, .slice D1 m.st.length d1] 23)).cell? ⟨X0.heap.size, 0, none⟩ = some (Value.slice A n.st.length a) := World.cell?_alloc_at _ _ _ _ rfl
    have p11 : (World.alloc X0 (.cells #[.slice A n.st.length a, .slice D1 m.st.length d1] 23)).cell? ⟨X0.heap.size, 1, none⟩ = some (Value.slice D1 m.st.length d1) := World.cell?_alloc_at _ _ _ _ rfl
    generalize (World.alloc X0 (.cells #[.slice A n.st.length a, .slice D1 m.st.length d1] 23)) = X1 at *
    have HX1 := stepB hD d_1
    refine hK _ _ (hlY _ HX1) ?_
    clear hK KK
    try simp only [Act.put, List.setIfInBounds_toArray, List.set_cons_zero, List.set_cons_succ]
    have hA12 := hnext hA (rs := [12, 17, 23]) (i := 12) (by kernel_rfl) (by decide) (by decide)
    have hA17 := hnext hA (rs := [12, 17, 23]) (i := 17) (by kernel_rfl) (by decide) (by decide)
    have hA23 := hnext hA (rs := [12, 17, 23]) (i := 23) (by kernel_rfl) (by decide) (by decide)
    refine wpHead_ready (rs := [12, 17, 23]) (by kernel_rfl) (by decide) (AllHead.cons (at_drop rfl) (by decide) (fun KK hK => ?_) (AllHead.cons (at_drop rfl) (by decide) (fun KK hK => ?_) (AllHead.cons (at_drop rfl) (by decide) (fun KK hK => ?_) AllHead.nil)))
    · replace hA := hA12
      go_simp
      refine (HC1.out X1 HX1 X0.heap.size (show X0.heap.size < X1.heap.size by have := s_1; omega) p10 p11).mono ?_
      rintro e X2 ⟨G1, g1, rfl, o1, d_2⟩
      have HX2 := stepB HX1 d_2
      refine hK _ _ (hlY _ HX2) ?_
      clear hK KK
      try simp only [Act.put, List.setIfInBounds_toArray, List.set_cons_zero, List.set_cons_succ]
      have hA17 := hnext hA (rs := [17, 23]) (i := 17) (by kernel_rfl) (by decide) (by decide)
      have hA23 := hnext hA (rs := [17, 23]) (i := 23) (by kernel_rfl) (by decide) (by decide)
      refine wpHead_ready (rs := [17, 23]) (by kernel_rfl) (by decide) (AllHead.cons (at_drop rfl) (by decide) (fun KK hK => ?_) (AllHead.cons (at_drop rfl) (by decide) (fun KK hK => ?_) AllHead.nil))
      · replace hA := hA17
        go_simp
        have d_3 := bal (Below.refl X2.heap.size X2) (.cells #[.slice B n.fi.length b, .slice E1 m.fi.length e1'] 23)
        have s_3 : X2.heap.size < (World.alloc X2 (.cells #[.slice B n.fi.length b, .slice E1 m.fi.length e1'] 23)).heap.size := by simp
        have p20 : (World.alloc X2 (.cells #[.slice B n.fi.length b, .slice E1 m.fi.length e1'] 23)).cell? ⟨X2.heap.size, 0, none⟩ = some (Value.slice B n.fi.length b) := World.cell?_alloc_at _ _ _ _ rfl
        have p21 : (World.alloc X2 (.cells #[.slice B n.fi.length b, .slice E1 m.fi.length e1'] 23)).cell? ⟨X2.heap.size, 1, none⟩ = some (Value.slice E1 m.fi.length e1') := World.cell?_alloc_at _ _ _ _ rfl
        generalize (World.alloc X2 (.cells #[.slice B n.fi.length b, .slice E1 m.fi.length e1'] 23)) = X3 at *
        have HX3 := stepB HX2 d_3
        refine hK _ _ (hlY _ HX3) ?_
        clear hK KK
        try simp only [Act.put, List.setIfInBounds_toArray, List.set_cons_zero, List.set_cons_succ]
        have hA18 := hnext hA (rs := [18, 23]) (i := 18) (by kernel_rfl) (by decide) (by decide)
        have hA23 := hnext hA (rs := [18, 23]) (i := 23) (by kernel_rfl) (by decide) (by decide)
        refine wpHead_ready (rs := [18, 23]) (by kernel_rfl) (by decide) (AllHead.cons (at_drop rfl) (by decide) (fun KK hK => ?_) (AllHead.cons (at_drop rfl) (by decide) (fun KK hK => ?_) AllHead.nil))
        · replace hA := hA18
          go_simp
          refine (HC2.out X3 HX3 X2.heap.size (show X2.heap.size < X3.heap.size by have := s_3; omega) p20 p21).mono ?_
          rintro e X4 ⟨G2, g2, rfl, o2, d_4⟩
          have HX4 := stepB HX3 d_4
          refine hK _ _ (hlY _ HX4) ?_
          clear hK KK
          try simp only [Act.put, List.setIfInBounds_toArray, List.set_cons_zero, List.set_cons_succ]
          have hA23 := hnext hA (rs := [23]) (i := 23) (by kernel_rfl) (by decide) (by decide)
          refine wpHead_ready (rs := [23]) (by kernel_rfl) (by decide) (AllHead.cons (at_drop rfl) (by decide) (fun KK hK => ?_) AllHead.nil)
          replace hA := hA23
          go_simp
          have d_5 := bal (Below.refl X4.heap.size X4) (.cells #[.slice C n.es.length c, .slice F1 m.es.length f1'] 24)
          have s_5 : X4.heap.size < (World.alloc X4 (.cells #[.slice C n.es.length c, .slice F1 m.es.length f1'] 24)).heap.size := by simp
          have p30 : (World.alloc X4 (.cells #[.slice C n.es.length c, .slice F1 m.es.length f1'] 24)).cell? ⟨X4.heap.size, 0, none⟩ = some (Value.slice C n.es.length c) := World.cell?_alloc_at _ _ _ _ rfl
          have p31 : (World.alloc X4 (.cells #[.slice C n.es.length c, .slice F1 m.es.length f1'] 24)).cell? ⟨X4.heap.size, 1, none⟩ = some (Value.slice F1 m.es.length f1') := World.cell?_alloc_at _ _ _ _ rfl
          generalize (World.alloc X4 (.cells #[.slice C n.es.length c, .slice F1 m.es.length f1'] 24)) = X5 at *
          have HX5 := stepB HX4 d_5
          refine hK _ _ (hlY _ HX5) ?_
          clear hK KK
          try simp only [Act.put, List.setIfInBounds_toArray, List.set_cons_zero, List.set_cons_succ]
          have hA24 := hnext hA (rs := [24]) (i := 24) (by kernel_rfl) (by decide) (by decide)
          refine wpHead_ready (rs := [24]) (by kernel_rfl) (by decide) (AllHead.cons (at_drop rfl) (by decide) (fun KK hK => ?_) AllHead.nil)
          replace hA := hA24
          go_simp
          refine (HC3.out X5 HX5 X4.heap.size (show X4.heap.size < X5.heap.size by have := s_5; omega) p30 p31).mono ?_
          rintro e X6 ⟨G3, g3, rfl, o3, d_6⟩
          have HX6 := stepB HX5 d_6
          refine hK _ _ (hlY _ HX6) ?_
          clear hK KK
          try simp only [Act.put, List.setIfInBounds_toArray, List.set_cons_zero, List.set_cons_succ]
          refine wpHead_take (i := 25) (v := ?_) (by kernel_rfl) hA (at_drop rfl) (by decide) (by kernel_rfl) (by kernel_rfl) (by kernel_rfl) (fun _ _ _ h => h) (Or.inl ⟨by rfl, ?_⟩) (hlY _ HX6) (fun hA => ?_)
          rotate_left
          · (intro w hSw; obtain ⟨s0, s1, s2, s3, s4⟩ := hSw.1.cells; obtain ⟨t0, t1, t2, t3, t4⟩ := hSw.2.1.cells; obtain ⟨u0, u1, u2, u3, u4⟩ := hSw.2.2.cells; go_simp <;> with_reducible rfl)
          simp only [Act.put, List.setIfInBounds_toArray, List.set_cons_zero, List.set_cons_succ]
          refine wpHead_end (by kernel_rfl) ?_
          simp only [List.drop_succ_cons, List.drop_zero]
          have HF := HEnd.out X6 HX6 G1 G2 G3 g1 g2 g3 (ownsRow_mono ((((o1.below d_3).below d_4).below d_5).below d_6) (stepB hB0 HX1).size) (ownsRow_mono ((o2.below d_5).below d_6) (stepB hB0 HX3).size) (ownsRow_mono o3 (stepB hB0 HX5).size)
          clear hlY
          obtain ⟨⟨x0, f0⟩, ⟨x1, f1⟩, ⟨x2, f2⟩, ⟨x3, f3⟩, ⟨x4, f4⟩, hR⟩ := HF
          go_wp2
          obtain ⟨⟨y0, y1, y2, y3, y4⟩, hb5, hN⟩ := hR
          unfold put5 at y0 y1 y2 y3 y4 hb5 hN
          refine bodyPost_ret (v := .tuple #[.agg #[.int .i64 n.V, .int .i64 (n.S + m.S), .slice G1 (n.st.length + m.st.length) g1, .slice G2 (n.fi.length + m.fi.length) g2, .slice G3 (n.es.length + m.es.length) g3], .int .i64 0]) (by simp [results, Tryd.results9, go_sem, y0, y1, y2, y3, y4]) rfl ?_
          exact ⟨_, _, _, ⟨_, _, _, rfl⟩, hb5, hN⟩
        · replace hA := hA23
          go_simp
          have d_4 := bal (Below.refl X3.heap.size X3) (.cells #[.slice C n.es.length c, .slice F1 m.es.length f1'] 24)
          have s_4 : X3.heap.size < (World.alloc X3 (.cells #[.slice C n.es.length c, .slice F1 m.es.length f1'] 24)).heap.size := by simp
          have p30 : (World.alloc X3 (.cells #[.slice C n.es.length c, .slice F1 m.es.length f1'] 24)).cell? ⟨X3.heap.size, 0, none⟩ = some (Value.slice C n.es.length c) := World.cell?_alloc_at _ _ _ _ rfl
          have p31 : (World.alloc X3 (.cells #[.slice C n.es.length c, .slice F1 m.es.length f1'] 24)).cell? ⟨X3.heap.size, 1, none⟩ = some (Value.slice F1 m.es.length f1') := World.cell?_alloc_at _ _ _ _ rfl
          generalize (World.alloc X3 (.cells #[.slice C n.es.length c, .slice F1 m.es.length f1'] 24)) = X4 at *
          have HX4 := stepB HX3 d_4
          refine hK _ _ (hlY _ HX4) ?_
          clear hK KK
          try simp only [Act.put, List.setIfInBounds_toArray, List.set_cons_zero, List.set_cons_succ]
          have hA18 := hnext hA (rs := [18]) (i := 18) (by kernel_rfl) (by decide) (by decide)
          refine wpHead_ready (rs := [18]) (by kernel_rfl) (by decide) (AllHead.cons (at_drop rfl) (by decide) (fun KK hK => ?_) AllHead.nil)
          replace hA := hA18
          go_simp
          refine (HC2.out X4 HX4 X2.heap.size (show X2.heap.size < X4.heap.size by have := s_3; have := d_4.size; omega) ((d_4.cell (p := ⟨X2.heap.size, 0, none⟩) (show X2.heap.size < X3.heap.size by have := s_3; omega)).trans p20) ((d_4.cell (p := ⟨X2.heap.size, 1, none⟩) (show X2.heap.size < X3.heap.size by have := s_3; omega)).trans p21)).mono ?_
          rintro e X5 ⟨G2, g2, rfl, o2, d_5⟩
          have HX5 := stepB HX4 d_5
          refine hK _ _ (hlY _ HX5) ?_
          clear hK KK
          try simp only [Act.put, List.setIfInBounds_toArray, List.set_cons_zero, List.set_cons_succ]
          have hA24 := hnext hA (rs := [24]) (i := 24) (by kernel_rfl) (by decide) (by decide)
          refine wpHead_ready (rs := [24]) (by kernel_rfl) (by decide) (AllHead.cons (at_drop rfl) (by decide) (fun KK hK => ?_) AllHead.nil)
          replace hA := hA24
          go_simp
          refine (HC3.out X5 HX5 X3.heap.size (show X3.heap.size < X5.heap.size by have := s_4; have := d_5.size; omega) ((d_5.cell (p := ⟨X3.heap.size, 0, none⟩) (show X3.heap.size < X4.heap.size by have := s_4; omega)).trans p30) ((d_5.cell (p := ⟨X3.heap.size, 1, none⟩) (show X3.heap.size < X4.heap.size by have := s_4; omega)).trans p31)).mono ?_
          rintro e X6 ⟨G3, g3, rfl, o3, d_6⟩
          have HX6 := stepB HX5 d_6
          refine hK _ _ (hlY _ HX6) ?_
          clear hK KK
          try simp only [Act.put, List.setIfInBounds_toArray, List.set_cons_zero, List.set_cons_succ]
          refine wpHead_take (i := 25) (v := ?_) (by kernel_rfl) hA (at_drop rfl) (by decide) (by kernel_rfl) (by kernel_rfl) (by kernel_rfl) (fun _ _ _ h => h) (Or.inl ⟨by rfl, ?_⟩) (hlY _ HX6) (fun hA => ?_)
          rotate_left
          · (intro w hSw; obtain ⟨s0, s1, s2, s3, s4⟩ := hSw.1.cells; obtain ⟨t0, t1, t2, t3, t4⟩ := hSw.2.1.cells; obtain ⟨u0, u1, u2, u3, u4⟩ := hSw.2.2.cells; go_simp <;> with_reducible rfl)
          simp only [Act.put, List.setIfInBounds_toArray, List.set_cons_zero, List.set_cons_succ]
          refine wpHead_end (by kernel_rfl) ?_
          simp only [List.drop_succ_cons, List.drop_zero]
          have HF := HEnd.out X6 HX6 G1 G2 G3 g1 g2 g3 (ownsRow_mono ((((o1.below d_3).below d_4).below d_5).below d_6) (stepB hB0 HX1).size) (ownsRow_mono (o2.below d_6) (stepB hB0 HX4).size) (ownsRow_mono o3 (stepB hB0 HX5).size)
          clear hlY
          obtain ⟨⟨x0, f0⟩, ⟨x1, f1⟩, ⟨x2, f2⟩, ⟨x3, f3⟩, ⟨x4, f4⟩, hR⟩ := HF
          go_wp2
          obtain ⟨⟨y0, y1, y2, y3, y4⟩, hb5, hN⟩ := hR
          unfold put5 at y0 y1 y2 y3 y4 hb5 hN
          refine bodyPost_ret (v := .tuple #[.agg #[.int .i64 n.V, .int .i64 (n.S + m.S), .slice G1 (n.st.length + m.st.length) g1, .slice G2 (n.fi.length + m.fi.length) g2, .slice G3 (n.es.length + m.es.length) g3], .int .i64 0]) (by simp [results, Tryd.results9, go_sem, y0, y1, y2, y3, y4]) rfl ?_
          exact ⟨_, _, _, ⟨_, _, _, rfl⟩, hb5, hN⟩
      · replace hA := hA23
        go_simp
        have d_3 := bal (Below.refl X2.heap.size X2) (.cells #[.slice C n.es.length c, .slice F1 m.es.length f1'] 24)
        have s_3 : X2.heap.size < (World.alloc X2 (.cells #[.slice C n.es.length c, .slice F1 m.es.length f1'] 24)).heap.size := by simp
        have p30 : (World.alloc X2 (.cells #[.slice C n.es.length c, .slice F1 m.es.length f1'] 24)).cell? ⟨X2.heap.size, 0, none⟩ = some (Value.slice C n.es.length c) := World.cell?_alloc_at _ _ _ _ rfl
        have p31 : (World.alloc X2 (.cells #[.slice C n.es.length c, .slice F1 m.es.length f1'] 24)).cell? ⟨X2.heap.size, 1, none⟩ = some (Value.slice F1 m.es.length f1') := World.cell?_alloc_at _ _ _ _ rfl
        generalize (World.alloc X2 (.cells #[.slice C n.es.length c, .slice F1 m.es.length f1'] 24)) = X3 at *
        have HX3 := stepB HX2 d_3
        refine hK _ _ (hlY _ HX3) ?_
        clear hK KK
        try simp only [Act.put, List.setIfInBounds_toArray, List.set_cons_zero, List.set_cons_succ]
        have hA17 := hnext hA (rs := [17]) (i := 17) (by kernel_rfl) (by decide) (by decide)
        refine wpHead_ready (rs := [17]) (by kernel_rfl) (by decide) (AllHead.cons (at_drop rfl) (by decide) (fun KK hK => ?_) AllHead.nil)
        replace hA := hA17
        go_simp
        have d_4 := bal (Below.refl X3.heap.size X3) (.cells #[.slice B n.fi.length b, .slice E1 m.fi.length e1'] 23)
        have s_4 : X3.heap.size < (World.alloc X3 (.cells #[.slice B n.fi.length b, .slice E1 m.fi.length e1'] 23)).heap.size := by simp
        have p20 : (World.alloc X3 (.cells #[.slice B n.fi.length b, .slice E1 m.fi.length e1'] 23)).cell? ⟨X3.heap.size, 0, none⟩ = some (Value.slice B n.fi.length b) := World.cell?_alloc_at _ _ _ _ rfl
        have p21 : (World.alloc X3 (.cells #[.slice B n.fi.length b, .slice E1 m.fi.length e1'] 23)).cell? ⟨X3.heap.size, 1, none⟩ = some (Value.slice E1 m.fi.length e1') := World.cell?_alloc_at _ _ _ _ rfl
        generalize (World.alloc X3 (.cells #[.slice B n.fi.length b, .slice E1 m.fi.length e1'] 23)) = X4 at *
        have HX4 := stepB HX3 d_4
        refine hK _ _ (hlY _ HX4) ?_
        clear hK KK
        try simp only [Act.put, List.setIfInBounds_toArray, List.set_cons_zero, List.set_cons_succ]
        have hA18 := hnext hA (rs := [18]) (i := 18) (by kernel_rfl) (by decide) (by decide)
        refine wpHead_ready (rs := [18]) (by kernel_rfl) (by decide) (AllHead.cons (at_drop rfl) (by decide) (fun KK hK => ?_) AllHead.nil)
        replace hA := hA18
        go_simp
        refine (HC2.out X4 HX4 X3.heap.size (show X3.heap.size < X4.heap.size by have := s_4; omega) p20 p21).mono ?_
        rintro e X5 ⟨G2, g2, rfl, o2, d_5⟩
        have HX5 := stepB HX4 d_5
        refine hK _ _ (hlY _ HX5) ?_
        clear hK KK
        try simp only [Act.put, List.setIfInBounds_toArray, List.set_cons_zero, List.set_cons_succ]
        have hA24 := hnext hA (rs := [24]) (i := 24) (by kernel_rfl) (by decide) (by decide)
        refine wpHead_ready (rs := [24]) (by kernel_rfl) (by decide) (AllHead.cons (at_drop rfl) (by decide) (fun KK hK => ?_) AllHead.nil)
        replace hA := hA24
        go_simp
        refine (HC3.out X5 HX5 X2.heap.size (show X2.heap.size < X5.heap.size by have := s_3; have := d_4.size; have := d_5.size; omega) ((d_5.cell (p := ⟨X2.heap.size, 0, none⟩) (show X2.heap.size < X4.heap.size by have := s_3; have := d_4.size; omega)).trans ((d_4.cell (p := ⟨X2.heap.size, 0, none⟩) (show X2.heap.size < X3.heap.size by have := s_3; omega)).trans p30)) ((d_5.cell (p := ⟨X2.heap.size, 1, none⟩) (show X2.heap.size < X4.heap.size by have := s_3; have := d_4.size; omega)).trans ((d_4.cell (p := ⟨X2.heap.size, 1, none⟩) (show X2.heap.size < X3.heap.size by have := s_3; omega)).trans p31))).mono ?_
        rintro e X6 ⟨G3, g3, rfl, o3, d_6⟩
        have HX6 := stepB HX5 d_6
        refine hK _ _ (hlY _ HX6) ?_
        clear hK KK
        try simp only [Act.put, List.setIfInBounds_toArray, List.set_cons_zero, List.set_cons_succ]
        refine wpHead_take (i := 25) (v := ?_) (by kernel_rfl) hA (at_drop rfl) (by decide) (by kernel_rfl) (by kernel_rfl) (by kernel_rfl) (fun _ _ _ h => h) (Or.inl ⟨by rfl, ?_⟩) (hlY _ HX6) (fun hA => ?_)
        rotate_left
        · (intro w hSw; obtain ⟨s0, s1, s2, s3, s4⟩ := hSw.1.cells; obtain ⟨t0, t1, t2, t3, t4⟩ := hSw.2.1.cells; obtain ⟨u0, u1, u2, u3, u4⟩ := hSw.2.2.cells; go_simp <;> with_reducible rfl)
        simp only [Act.put, List.setIfInBounds_toArray, List.set_cons_zero, List.set_cons_succ]
        refine wpHead_end (by kernel_rfl) ?_
        simp only [List.drop_succ_cons, List.drop_zero]
        have HF := HEnd.out X6 HX6 G1 G2 G3 g1 g2 g3 (ownsRow_mono ((((o1.below d_3).below d_4).below d_5).below d_6) (stepB hB0 HX1).size) (ownsRow_mono (o2.below d_6) (stepB hB0 HX4).size) (ownsRow_mono o3 (stepB hB0 HX5).size)
        clear hlY
        obtain ⟨⟨x0, f0⟩, ⟨x1, f1⟩, ⟨x2, f2⟩, ⟨x3, f3⟩, ⟨x4, f4⟩, hR⟩ := HF
        go_wp2
        obtain ⟨⟨y0, y1, y2, y3, y4⟩, hb5, hN⟩ := hR
        unfold put5 at y0 y1 y2 y3 y4 hb5 hN
        refine bodyPost_ret (v := .tuple #[.agg #[.int .i64 n.V, .int .i64 (n.S + m.S), .slice G1 (n.st.length + m.st.length) g1, .slice G2 (n.fi.length + m.fi.length) g2, .slice G3 (n.es.length + m.es.length) g3], .int .i64 0]) (by simp [results, Tryd.results9, go_sem, y0, y1, y2, y3, y4]) rfl ?_
        exact ⟨_, _, _, ⟨_, _, _, rfl⟩, hb5, hN⟩
    · replace hA := hA17
      go_simp
      have d_2 := bal (Below.refl X1.heap.size X1) (.cells #[.slice B n.fi.length b, .slice E1 m.fi.length e1'] 23)
      have s_2 : X1.heap.size < (World.alloc X1 (.cells #[.slice B n.fi.length b, .slice E1 m.fi.length e1'] 23)).heap.size := by simp
      have p20 : (World.alloc X1 (.cells #[.slice B n.fi.length b, .slice E1 m.fi.length e1'] 23)).cell? ⟨X1.heap.size, 0, none⟩ = some (Value.slice B n.fi.length b) := World.cell?_alloc_at _ _ _ _ rfl
      have p21 : (World.alloc X1 (.cells #[.slice B n.fi.length b, .slice E1 m.fi.length e1'] 23)).cell? ⟨X1.heap.size, 1, none⟩ = some (Value.slice E1 m.fi.length e1') := World.cell?_alloc_at _ _ _ _ rfl
      generalize (World.alloc X1 (.cells #[.slice B n.fi.length b, .slice E1 m.fi.length e1'] 23)) = X2 at *
      have HX2 := stepB HX1 d_2
      refine hK _ _ (hlY _ HX2) ?_
      clear hK KK
      try simp only [Act.put, List.setIfInBounds_toArray, List.set_cons_zero, List.set_cons_succ]
      have hA12 := hnext hA (rs := [12, 23]) (i := 12) (by kernel_rfl) (by decide) (by decide)
      have hA23 := hnext hA (rs := [12, 23]) (i := 23) (by kernel_rfl) (by decide) (by decide)
      refine wpHead_ready (rs := [12, 23]) (by kernel_rfl) (by decide) (AllHead.cons (at_drop rfl) (by decide) (fun KK hK => ?_) (AllHead.cons (at_drop rfl) (by decide) (fun KK hK => ?_) AllHead.nil))
      · replace hA := hA12
        go_simp
        refine (HC1.out X2 HX2 X0.heap.size (show X0.heap.size < X2.heap.size by have := s_1; have := d_2.size; omega) ((d_2.cell (p := ⟨X0.heap.size, 0, none⟩) (show X0.heap.size < X1.heap.size by have := s_1; omega)).trans p10) ((d_2.cell (p := ⟨X0.heap.size, 1, none⟩) (show X0.heap.size < X1.heap.size by have := s_1; omega)).trans p11)).mono ?_
        rintro e X3 ⟨G1, g1, rfl, o1, d_3⟩
        have HX3 := stepB HX2 d_3
        refine hK _ _ (hlY _ HX3) ?_
        clear hK KK
        try simp only [Act.put, List.setIfInBounds_toArray, List.set_cons_zero, List.set_cons_succ]
        have hA18 := hnext hA (rs := [18, 23]) (i := 18) (by kernel_rfl) (by decide) (by decide)
        have hA23 := hnext hA (rs := [18, 23]) (i := 23) (by kernel_rfl) (by decide) (by decide)
        refine wpHead_ready (rs := [18, 23]) (by kernel_rfl) (by decide) (AllHead.cons (at_drop rfl) (by decide) (fun KK hK => ?_) (AllHead.cons (at_drop rfl) (by decide) (fun KK hK => ?_) AllHead.nil))
        · replace hA := hA18
          go_simp
          refine (HC2.out X3 HX3 X1.heap.size (show X1.heap.size < X3.heap.size by have := s_2; have := d_3.size; omega) ((d_3.cell (p := ⟨X1.heap.size, 0, none⟩) (show X1.heap.size < X2.heap.size by have := s_2; omega)).trans p20) ((d_3.cell (p := ⟨X1.heap.size, 1, none⟩) (show X1.heap.size < X2.heap.size by have := s_2; omega)).trans p21)).mono ?_
          rintro e X4 ⟨G2, g2, rfl, o2, d_4⟩
          have HX4 := stepB HX3 d_4
          refine hK _ _ (hlY _ HX4) ?_
          clear hK KK
          try simp only [Act.put, List.setIfInBounds_toArray, List.set_cons_zero, List.set_cons_succ]
          have hA23 := hnext hA (rs := [23]) (i := 23) (by kernel_rfl) (by decide) (by decide)
          refine wpHead_ready (rs := [23]) (by kernel_rfl) (by decide) (AllHead.cons (at_drop rfl) (by decide) (fun KK hK => ?_) AllHead.nil)
          replace hA := hA23
          go_simp
          have d_5 := bal (Below.refl X4.heap.size X4) (.cells #[.slice C n.es.length c, .slice F1 m.es.length f1'] 24)
          have s_5 : X4.heap.size < (World.alloc X4 (.cells #[.slice C n.es.length c, .slice F1 m.es.length f1'] 24)).heap.size := by simp
          have p30 : (World.alloc X4 (.cells #[.slice C n.es.length c, .slice F1 m.es.length f1'] 24)).cell? ⟨X4.heap.size, 0, none⟩ = some (Value.slice C n.es.length c) := World.cell?_alloc_at _ _ _ _ rfl
          have p31 : (World.alloc X4 (.cells #[.slice C n.es.length c, .slice F1 m.es.length f1'] 24)).cell? ⟨X4.heap.size, 1, none⟩ = some (Value.slice F1 m.es.length f1') := World.cell?_alloc_at _ _ _ _ rfl
          generalize (World.alloc X4 (.cells #[.slice C n.es.length c, .slice F1 m.es.length f1'] 24)) = X5 at *
          have HX5 := stepB HX4 d_5
          refine hK _ _ (hlY _ HX5) ?_
          clear hK KK
          try simp only [Act.put, List.setIfInBounds_toArray, List.set_cons_zero, List.set_cons_succ]
          have hA24 := hnext hA (rs := [24]) (i := 24) (by kernel_rfl) (by decide) (by decide)
          refine wpHead_ready (rs := [24]) (by kernel_rfl) (by decide) (AllHead.cons (at_drop rfl) (by decide) (fun KK hK => ?_) AllHead.nil)
          replace hA := hA24
          go_simp
          refine (HC3.out X5 HX5 X4.heap.size (show X4.heap.size < X5.heap.size by have := s_5; omega) p30 p31).mono ?_
          rintro e X6 ⟨G3, g3, rfl, o3, d_6⟩
          have HX6 := stepB HX5 d_6
          refine hK _ _ (hlY _ HX6) ?_
          clear hK KK
          try simp only [Act.put, List.setIfInBounds_toArray, List.set_cons_zero, List.set_cons_succ]
          refine wpHead_take (i := 25) (v := ?_) (by kernel_rfl) hA (at_drop rfl) (by decide) (by kernel_rfl) (by kernel_rfl) (by kernel_rfl) (fun _ _ _ h => h) (Or.inl ⟨by rfl, ?_⟩) (hlY _ HX6) (fun hA => ?_)
          rotate_left
          · (intro w hSw; obtain ⟨s0, s1, s2, s3, s4⟩ := hSw.1.cells; obtain ⟨t0, t1, t2, t3, t4⟩ := hSw.2.1.cells; obtain ⟨u0, u1, u2, u3, u4⟩ := hSw.2.2.cells; go_simp <;> with_reducible rfl)
          simp only [Act.put, List.setIfInBounds_toArray, List.set_cons_zero, List.set_cons_succ]
          refine wpHead_end (by kernel_rfl) ?_
          simp only [List.drop_succ_cons, List.drop_zero]
          have HF := HEnd.out X6 HX6 G1 G2 G3 g1 g2 g3 (ownsRow_mono (((o1.below d_4).below d_5).below d_6) (stepB hB0 HX2).size) (ownsRow_mono ((o2.below d_5).below d_6) (stepB hB0 HX3).size) (ownsRow_mono o3 (stepB hB0 HX5).size)
          clear hlY
          obtain ⟨⟨x0, f0⟩, ⟨x1, f1⟩, ⟨x2, f2⟩, ⟨x3, f3⟩, ⟨x4, f4⟩, hR⟩ := HF
          go_wp2
          obtain ⟨⟨y0, y1, y2, y3, y4⟩, hb5, hN⟩ := hR
          unfold put5 at y0 y1 y2 y3 y4 hb5 hN
          refine bodyPost_ret (v := .tuple #[.agg #[.int .i64 n.V, .int .i64 (n.S + m.S), .slice G1 (n.st.length + m.st.length) g1, .slice G2 (n.fi.length + m.fi.length) g2, .slice G3 (n.es.length + m.es.length) g3], .int .i64 0]) (by simp [results, Tryd.results9, go_sem, y0, y1, y2, y3, y4]) rfl ?_
          exact ⟨_, _, _, ⟨_, _, _, rfl⟩, hb5, hN⟩
        · replace hA := hA23
          go_simp
          have d_4 := bal (Below.refl X3.heap.size X3) (.cells #[.slice C n.es.length c, .slice F1 m.es.length f1'] 24)
          have s_4 : X3.heap.size < (World.alloc X3 (.cells #[.slice C n.es.length c, .slice F1 m.es.length f1'] 24)).heap.size := by simp
          have p30 : (World.alloc X3 (.cells #[.slice C n.es.length c, .slice F1 m.es.length f1'] 24)).cell? ⟨X3.heap.size, 0, none⟩ = some (Value.slice C n.es.length c) := World.cell?_alloc_at _ _ _ _ rfl
          have p31 : (World.alloc X3 (.cells #[.slice C n.es.length c, .slice F1 m.es.length f1'] 24)).cell? ⟨X3.heap.size, 1, none⟩ = some (Value.slice F1 m.es.length f1') := World.cell?_alloc_at _ _ _ _ rfl
          generalize (World.alloc X3 (.cells #[.slice C n.es.length c, .slice F1 m.es.length f1'] 24)) = X4 at *
          have HX4 := stepB HX3 d_4
          refine hK _ _ (hlY _ HX4) ?_
          clear hK KK
          try simp only [Act.put, List.setIfInBounds_toArray, List.set_cons_zero, List.set_cons_succ]
          have hA18 := hnext hA (rs := [18]) (i := 18) (by kernel_rfl) (by decide) (by decide)
          refine wpHead_ready (rs := [18]) (by kernel_rfl) (by decide) (AllHead.cons (at_drop rfl) (by decide) (fun KK hK => ?_) AllHead.nil)
          replace hA := hA18
          go_simp
          refine (HC2.out X4 HX4 X1.heap.size (show X1.heap.size < X4.heap.size by have := s_2; have := d_3.size; have := d_4.size; omega) ((d_4.cell (p := ⟨X1.heap.size, 0, none⟩) (show X1.heap.size < X3.heap.size by have := s_2; have := d_3.size; omega)).trans ((d_3.cell (p := ⟨X1.heap.size, 0, none⟩) (show X1.heap.size < X2.heap.size by have := s_2; omega)).trans p20)) ((d_4.cell (p := ⟨X1.heap.size, 1, none⟩) (show X1.heap.size < X3.heap.size by have := s_2; have := d_3.size; omega)).trans ((d_3.cell (p := ⟨X1.heap.size, 1, none⟩) (show X1.heap.size < X2.heap.size by have := s_2; omega)).trans p21))).mono ?_
          rintro e X5 ⟨G2, g2, rfl, o2, d_5⟩
          have HX5 := stepB HX4 d_5
          refine hK _ _ (hlY _ HX5) ?_
          clear hK KK
          try simp only [Act.put, List.setIfInBounds_toArray, List.set_cons_zero, List.set_cons_succ]
          have hA24 := hnext hA (rs := [24]) (i := 24) (by kernel_rfl) (by decide) (by decide)
          refine wpHead_ready (rs := [24]) (by kernel_rfl) (by decide) (AllHead.cons (at_drop rfl) (by decide) (fun KK hK => ?_) AllHead.nil)
          replace hA := hA24
          go_simp
          refine (HC3.out X5 HX5 X3.heap.size (show X3.heap.size < X5.heap.size by have := s_4; have := d_5.size; omega) ((d_5.cell (p := ⟨X3.heap.size, 0, none⟩) (show X3.heap.size < X4.heap.size by have := s_4; omega)).trans p30) ((d_5.cell (p := ⟨X3.heap.size, 1, none⟩) (show X3.heap.size < X4.heap.size by have := s_4; omega)).trans p31)).mono ?_
          rintro e X6 ⟨G3, g3, rfl, o3, d_6⟩
          have HX6 := stepB HX5 d_6
          refine hK _ _ (hlY _ HX6) ?_
          clear hK KK
          try simp only [Act.put, List.setIfInBounds_toArray, List.set_cons_zero, List.set_cons_succ]
          refine wpHead_take (i := 25) (v := ?_) (by kernel_rfl) hA (at_drop rfl) (by decide) (by kernel_rfl) (by kernel_rfl) (by kernel_rfl) (fun _ _ _ h => h) (Or.inl ⟨by rfl, ?_⟩) (hlY _ HX6) (fun hA => ?_)
          rotate_left
          · (intro w hSw; obtain ⟨s0, s1, s2, s3, s4⟩ := hSw.1.cells; obtain ⟨t0, t1, t2, t3, t4⟩ := hSw.2.1.cells; obtain ⟨u0, u1, u2, u3, u4⟩ := hSw.2.2.cells; go_simp <;> with_reducible rfl)
          simp only [Act.put, List.setIfInBounds_toArray, List.set_cons_zero, List.set_cons_succ]
          refine wpHead_end (by kernel_rfl) ?_
          simp only [List.drop_succ_cons, List.drop_zero]
          have HF := HEnd.out X6 HX6 G1 G2 G3 g1 g2 g3 (ownsRow_mono (((o1.below d_4).below d_5).below d_6) (stepB hB0 HX2).size) (ownsRow_mono (o2.below d_6) (stepB hB0 HX4).size) (ownsRow_mono o3 (stepB hB0 HX5).size)
          clear hlY
          obtain ⟨⟨x0, f0⟩, ⟨x1, f1⟩, ⟨x2, f2⟩, ⟨x3, f3⟩, ⟨x4, f4⟩, hR⟩ := HF
          go_wp2
          obtain ⟨⟨y0, y1, y2, y3, y4⟩, hb5, hN⟩ := hR
          unfold put5 at y0 y1 y2 y3 y4 hb5 hN
          refine bodyPost_ret (v := .tuple #[.agg #[.int .i64 n.V, .int .i64 (n.S + m.S), .slice G1 (n.st.length + m.st.length) g1, .slice G2 (n.fi.length + m.fi.length) g2, .slice G3 (n.es.length + m.es.length) g3], .int .i64 0]) (by simp [results, Tryd.results9, go_sem, y0, y1, y2, y3, y4]) rfl ?_
          exact ⟨_, _, _, ⟨_, _, _, rfl⟩, hb5, hN⟩
      · replace hA := hA23
        go_simp
        have d_3 := bal (Below.refl X2.heap.size X2) (.cells #[.slice C n.es.length c, .slice F1 m.es.length f1'] 24)
        have s_3 : X2.heap.size < (World.alloc X2 (.cells #[.slice C n.es.length c, .slice F1 m.es.length f1'] 24)).heap.size := by simp
        have p30 : (World.alloc X2 (.cells #[.slice C n.es.length c, .slice F1 m.es.length f1'] 24)).cell? ⟨X2.heap.size, 0, none⟩ = some (Value.slice C n.es.length c) := World.cell?_alloc_at _ _ _ _ rfl
        have p31 : (World.alloc X2 (.cells #[.slice C n.es.length c, .slice F1 m.es.length f1'] 24)).cell? ⟨X2.heap.size, 1, none⟩ = some (Value.slice F1 m.es.length f1') := World.cell?_alloc_at _ _ _ _ rfl
        generalize (World.alloc X2 (.cells #[.slice C n.es.length c, .slice F1 m.es.length f1'] 24)) = X3 at *
        have HX3 := stepB HX2 d_3
        refine hK _ _ (hlY _ HX3) ?_
        clear hK KK
        try simp only [Act.put, List.setIfInBounds_toArray, List.set_cons_zero, List.set_cons_succ]
        have hA12 := hnext hA (rs := [12]) (i := 12) (by kernel_rfl) (by decide) (by decide)
        refine wpHead_ready (rs := [12]) (by kernel_rfl) (by decide) (AllHead.cons (at_drop rfl) (by decide) (fun KK hK => ?_) AllHead.nil)
        replace hA := hA12
        go_simp
        refine (HC1.out X3 HX3 X0.heap.size (show X0.heap.size < X3.heap.size by have := s_1; have := d_2.size; have := d_3.size; omega) ((d_3.cell (p := ⟨X0.heap.size, 0, none⟩) (show X0.heap.size < X2.heap.size by have := s_1; have := d_2.size; omega)).trans ((d_2.cell (p := ⟨X0.heap.size, 0, none⟩) (show X0.heap.size < X1.heap.size by have := s_1; omega)).trans p10)) ((d_3.cell (p := ⟨X0.heap.size, 1, none⟩) (show X0.heap.size < X2.heap.size by have := s_1; have := d_2.size; omega)).trans ((d_2.cell (p := ⟨X0.heap.size, 1, none⟩) (show X0.heap.size < X1.heap.size by have := s_1; omega)).trans p11))).mono ?_
        rintro e X4 ⟨G1, g1, rfl, o1, d_4⟩
        have HX4 := stepB HX3 d_4
        refine hK _ _ (hlY _ HX4) ?_
        clear hK KK
        try simp only [Act.put, List.setIfInBounds_toArray, List.set_cons_zero, List.set_cons_succ]
        have hA18 := hnext hA (rs := [18]) (i := 18) (by kernel_rfl) (by decide) (by decide)
        refine wpHead_ready (rs := [18]) (by kernel_rfl) (by decide) (AllHead.cons (at_drop rfl) (by decide) (fun KK hK => ?_) AllHead.nil)
        replace hA := hA18
        go_simp
        refine (HC2.out X4 HX4 X1.heap.size (show X1.heap.size < X4.heap.size by have := s_2; have := d_3.size; have := d_4.size; omega) ((d_4.cell (p := ⟨X1.heap.size, 0, none⟩) (show X1.heap.size < X3.heap.size by have := s_2; have := d_3.size; omega)).trans ((d_3.cell (p := ⟨X1.heap.size, 0, none⟩) (show X1.heap.size < X2.heap.size by have := s_2; omega)).trans p20)) ((d_4.cell (p := ⟨X1.heap.size, 1, none⟩) (show X1.heap.size < X3.heap.size by have := s_2; have := d_3.size; omega)).trans ((d_3.cell (p := ⟨X1.heap.size, 1, none⟩) (show X1.heap.size < X2.heap.size by have := s_2; omega)).trans p21))).mono ?_
        rintro e X5 ⟨G2, g2, rfl, o2, d_5⟩
        have HX5 := stepB HX4 d_5
        refine hK _ _ (hlY _ HX5) ?_
        clear hK KK
        try simp only [Act.put, List.setIfInBounds_toArray, List.set_cons_zero, List.set_cons_succ]
        have hA24 := hnext hA (rs := [24]) (i := 24) (by kernel_rfl) (by decide) (by decide)
        refine wpHead_ready (rs := [24]) (by kernel_rfl) (by decide) (AllHead.cons (at_drop rfl) (by decide) (fun KK hK => ?_) AllHead.nil)
        replace hA := hA24
        go_simp
        refine (HC3.out X5 HX5 X2.heap.size (show X2.heap.size < X5.heap.size by have := s_3; have := d_4.size; have := d_5.size; omega) ((d_5.cell (p := ⟨X2.heap.size, 0, none⟩) (show X2.heap.size < X4.heap.size by have := s_3; have := d_4.size; omega)).trans ((d_4.cell (p := ⟨X2.heap.size, 0, none⟩) (show X2.heap.size < X3.heap.size by have := s_3; omega)).trans p30)) ((d_5.cell (p := ⟨X2.heap.size, 1, none⟩) (show X2.heap.size < X4.heap.size by have := s_3; have := d_4.size; omega)).trans ((d_4.cell (p := ⟨X2.heap.size, 1, none⟩) (show X2.heap.size < X3.heap.size by have := s_3; omega)).trans p31))).mono ?_
        rintro e X6 ⟨G3, g3, rfl, o3, d_6⟩
        have HX6 := stepB HX5 d_6
        refine hK _ _ (hlY _ HX6) ?_
        clear hK KK
        try simp only [Act.put, List.setIfInBounds_toArray, List.set_cons_zero, List.set_cons_succ]
        refine wpHead_take (i := 25) (v := ?_) (by kernel_rfl) hA (at_drop rfl) (by decide) (by kernel_rfl) (by kernel_rfl) (by kernel_rfl) (fun _ _ _ h => h) (Or.inl ⟨by rfl, ?_⟩) (hlY _ HX6) (fun hA => ?_)
        rotate_left
        · (intro w hSw; obtain ⟨s0, s1, s2, s3, s4⟩ := hSw.1.cells; obtain ⟨t0, t1, t2, t3, t4⟩ := hSw.2.1.cells; obtain ⟨u0, u1, u2, u3, u4⟩ := hSw.2.2.cells; go_simp <;> with_reducible rfl)
        simp only [Act.put, List.setIfInBounds_toArray, List.set_cons_zero, List.set_cons_succ]
        refine wpHead_end (by kernel_rfl) ?_
        simp only [List.drop_succ_cons, List.drop_zero]
        have HF := HEnd.out X6 HX6 G1 G2 G3 g1 g2 g3 (ownsRow_mono ((o1.below d_5).below d_6) (stepB hB0 HX3).size) (ownsRow_mono (o2.below d_6) (stepB hB0 HX4).size) (ownsRow_mono o3 (stepB hB0 HX5).size)
        clear hlY
        obtain ⟨⟨x0, f0⟩, ⟨x1, f1⟩, ⟨x2, f2⟩, ⟨x3, f3⟩, ⟨x4, f4⟩, hR⟩ := HF
        go_wp2
        obtain ⟨⟨y0, y1, y2, y3, y4⟩, hb5, hN⟩ := hR
        unfold put5 at y0 y1 y2 y3 y4 hb5 hN
        refine bodyPost_ret (v := .tuple #[.agg #[.int .i64 n.V, .int .i64 (n.S + m.S), .slice G1 (n.st.length + m.st.length) g1, .slice G2 (n.fi.length + m.fi.length) g2, .slice G3 (n.es.length + m.es.length) g3], .int .i64 0]) (by simp [results, Tryd.results9, go_sem, y0, y1, y2, y3, y4]) rfl ?_
        exact ⟨_, _, _, ⟨_, _, _, rfl⟩, hb5, hN⟩
    · replace hA := hA23
      go_simp
      have d_2 := bal (Below.refl X1.heap.size X1) (.cells #[.slice C n.es.length c, .slice F1 m.es.length f1'] 24)
      have s_2 : X1.heap.size < (World.alloc X1 (.cells #[.slice C n.es.length c, .slice F1 m.es.length f1'] 24)).heap.size := by simp
      have p30 : (World.alloc X1 (.cells #[.slice C n.es.length c, .slice F1 m.es.length f1'] 24)).cell? ⟨X1.heap.size, 0, none⟩ = some (Value.slice C n.es.length c) := World.cell?_alloc_at _ _ _ _ rfl
      have p31 : (World.alloc X1 (.cells #[.slice C n.es.length c, .slice F1 m.es.length f1'] 24)).cell? ⟨X1.heap.size, 1, none⟩ = some (Value.slice F1 m.es.length f1') := World.cell?_alloc_at _ _ _ _ rfl
      generalize (World.alloc X1 (.cells #[.slice C n.es.length c, .slice F1 m.es.length f1'] 24)) = X2 at *
      have HX2 := stepB HX1 d_2
      refine hK _ _ (hlY _ HX2) ?_
      clear hK KK
      try simp only [Act.put, List.setIfInBounds_toArray, List.set_cons_zero, List.set_cons_succ]
      have hA12 := hnext hA (rs := [12, 17]) (i := 12) (by kernel_rfl) (by decide) (by decide)
      have hA17 := hnext hA (rs := [12, 17]) (i := 17) (by kernel_rfl) (by decide) (by decide)
      refine wpHead_ready (rs := [12, 17]) (by kernel_rfl) (by decide) (AllHead.cons (at_drop rfl) (by decide) (fun KK hK => ?_) (AllHead.cons (at_drop rfl) (by decide) (fun KK hK => ?_) AllHead.nil))
      · replace hA := hA12
        go_simp
        refine (HC1.out X2 HX2 X0.heap.size (show X0.heap.size < X2.heap.size by have := s_1; have := d_2.size; omega) ((d_2.cell (p := ⟨X0.heap.size, 0, none⟩) (show X0.heap.size < X1.heap.size by have := s_1; omega)).trans p10) ((d_2.cell (p := ⟨X0.heap.size, 1, none⟩) (show X0.heap.size < X1.heap.size by have := s_1; omega)).trans p11)).mono ?_
        rintro e X3 ⟨G1, g1, rfl, o1, d_3⟩
        have HX3 := stepB HX2 d_3
        refine hK _ _ (hlY _ HX3) ?_
        clear hK KK
        try simp only [Act.put, List.setIfInBounds_toArray, List.set_cons_zero, List.set_cons_succ]
        have hA17 := hnext hA (rs := [17]) (i := 17) (by kernel_rfl) (by decide) (by decide)
        refine wpHead_ready (rs := [17]) (by kernel_rfl) (by decide) (AllHead.cons (at_drop rfl) (by decide) (fun KK hK => ?_) AllHead.nil)
        replace hA := hA17
        go_simp
        have d_4 := bal (Below.refl X3.heap.size X3) (.cells #[.slice B n.fi.length b, .slice E1 m.fi.length e1'] 23)
        have s_4 : X3.heap.size < (World.alloc X3 (.cells #[.slice B n.fi.length b, .slice E1 m.fi.length e1'] 23)).heap.size := by simp
        have p20 : (World.alloc X3 (.cells #[.slice B n.fi.length b, .slice E1 m.fi.length e1'] 23)).cell? ⟨X3.heap.size, 0, none⟩ = some (Value.slice B n.fi.length b) := World.cell?_alloc_at _ _ _ _ rfl
        have p21 : (World.alloc X3 (.cells #[.slice B n.fi.length b, .slice E1 m.fi.length e1'] 23)).cell? ⟨X3.heap.size, 1, none⟩ = some (Value.slice E1 m.fi.length e1') := World.cell?_alloc_at _ _ _ _ rfl
        generalize (World.alloc X3 (.cells #[.slice B n.fi.length b, .slice E1 m.fi.length e1'] 23)) = X4 at *
        have HX4 := stepB HX3 d_4
        refine hK _ _ (hlY _ HX4) ?_
        clear hK KK
        try simp only [Act.put, List.setIfInBounds_toArray, List.set_cons_zero, List.set_cons_succ]
        have hA18 := hnext hA (rs := [18]) (i := 18) (by kernel_rfl) (by decide) (by decide)
        refine wpHead_ready (rs := [18]) (by kernel_rfl) (by decide) (AllHead.cons (at_drop rfl) (by decide) (fun KK hK => ?_) AllHead.nil)
        replace hA := hA18
        go_simp
        refine (HC2.out X4 HX4 X3.heap.size (show X3.heap.size < X4.heap.size by have := s_4; omega) p20 p21).mono ?_
        rintro e X5 ⟨G2, g2, rfl, o2, d_5⟩
        have HX5 := stepB HX4 d_5
        refine hK _ _ (hlY _ HX5) ?_
        clear hK KK
        try simp only [Act.put, List.setIfInBounds_toArray, List.set_cons_zero, List.set_cons_succ]
        have hA24 := hnext hA (rs := [24]) (i := 24) (by kernel_rfl) (by decide) (by decide)
        refine wpHead_ready (rs := [24]) (by kernel_rfl) (by decide) (AllHead.cons (at_drop rfl) (by decide) (fun KK hK => ?_) AllHead.nil)
        replace hA := hA24
        go_simp
        refine (HC3.out X5 HX5 X1.heap.size (show X1.heap.size < X5.heap.size by have := s_2; have := d_3.size; have := d_4.size; have := d_5.size; omega) ((d_5.cell (p := ⟨X1.heap.size, 0, none⟩) (show X1.heap.size < X4.heap.size by have := s_2; have := d_3.size; have := d_4.size; omega)).trans ((d_4.cell (p := ⟨X1.heap.size, 0, none⟩) (show X1.heap.size < X3.heap.size by have := s_2; have := d_3.size; omega)).trans ((d_3.cell (p := ⟨X1.heap.size, 0, none⟩) (show X1.heap.size < X2.heap.size by have := s_2; omega)).trans p30))) ((d_5.cell (p := ⟨X1.heap.size, 1, none⟩) (show X1.heap.size < X4.heap.size by have := s_2; have := d_3.size; have := d_4.size; omega)).trans ((d_4.cell (p := ⟨X1.heap.size, 1, none⟩) (show X1.heap.size < X3.heap.size by have := s_2; have := d_3.size; omega)).trans ((d_3.cell (p := ⟨X1.heap.size, 1, none⟩) (show X1.heap.size < X2.heap.size by have := s_2; omega)).trans p31)))).mono ?_
        rintro e X6 ⟨G3, g3, rfl, o3, d_6⟩
        have HX6 := stepB HX5 d_6
        refine hK _ _ (hlY _ HX6) ?_
        clear hK KK
        try simp only [Act.put, List.setIfInBounds_toArray, List.set_cons_zero, List.set_cons_succ]
        refine wpHead_take (i := 25) (v := ?_) (by kernel_rfl) hA (at_drop rfl) (by decide) (by kernel_rfl) (by kernel_rfl) (by kernel_rfl) (fun _ _ _ h => h) (Or.inl ⟨by rfl, ?_⟩) (hlY _ HX6) (fun hA => ?_)
        rotate_left
        · (intro w hSw; obtain ⟨s0, s1, s2, s3, s4⟩ := hSw.1.cells; obtain ⟨t0, t1, t2, t3, t4⟩ := hSw.2.1.cells; obtain ⟨u0, u1, u2, u3, u4⟩ := hSw.2.2.cells; go_simp <;> with_reducible rfl)
        simp only [Act.put, List.setIfInBounds_toArray, List.set_cons_zero, List.set_cons_succ]
        refine wpHead_end (by kernel_rfl) ?_
        simp only [List.drop_succ_cons, List.drop_zero]
        have HF := HEnd.out X6 HX6 G1 G2 G3 g1 g2 g3 (ownsRow_mono (((o1.below d_4).below d_5).below d_6) (stepB hB0 HX2).size) (ownsRow_mono (o2.below d_6) (stepB hB0 HX4).size) (ownsRow_mono o3 (stepB hB0 HX5).size)
        clear hlY
        obtain ⟨⟨x0, f0⟩, ⟨x1, f1⟩, ⟨x2, f2⟩, ⟨x3, f3⟩, ⟨x4, f4⟩, hR⟩ := HF
        go_wp2
        obtain ⟨⟨y0, y1, y2, y3, y4⟩, hb5, hN⟩ := hR
        unfold put5 at y0 y1 y2 y3 y4 hb5 hN
        refine bodyPost_ret (v := .tuple #[.agg #[.int .i64 n.V, .int .i64 (n.S + m.S), .slice G1 (n.st.length + m.st.length) g1, .slice G2 (n.fi.length + m.fi.length) g2, .slice G3 (n.es.length + m.es.length) g3], .int .i64 0]) (by simp [results, Tryd.results9, go_sem, y0, y1, y2, y3, y4]) rfl ?_
        exact ⟨_, _, _, ⟨_, _, _, rfl⟩, hb5, hN⟩
      · replace hA := hA17
        go_simp
        have d_3 := bal (Below.refl X2.heap.size X2) (.cells #[.slice B n.fi.length b, .slice E1 m.fi.length e1'] 23)
        have s_3 : X2.heap.size < (World.alloc X2 (.cells #[.slice B n.fi.length b, .slice E1 m.fi.length e1'] 23)).heap.size := by simp
        have p20 : (World.alloc X2 (.cells #[.slice B n.fi.length b, .slice E1 m.fi.length e1'] 23)).cell? ⟨X2.heap.size, 0, none⟩ = some (Value.slice B n.fi.length b) := World.cell?_alloc_at _ _ _ _ rfl
        have p21 : (World.alloc X2 (.cells #[.slice B n.fi.length b, .slice E1 m.fi.length e1'] 23)).cell? ⟨X2.heap.size, 1, none⟩ = some (Value.slice E1 m.fi.length e1') := World.cell?_alloc_at _ _ _ _ rfl
        generalize (World.alloc X2 (.cells #[.slice B n.fi.length b, .slice E1 m.fi.length e1'] 23)) = X3 at *
        have HX3 := stepB HX2 d_3
        refine hK _ _ (hlY _ HX3) ?_
        clear hK KK
        try simp only [Act.put, List.setIfInBounds_toArray, List.set_cons_zero, List.set_cons_succ]
        have hA12 := hnext hA (rs := [12]) (i := 12) (by kernel_rfl) (by decide) (by decide)
        refine wpHead_ready (rs := [12]) (by kernel_rfl) (by decide) (AllHead.cons (at_drop rfl) (by decide) (fun KK hK => ?_) AllHead.nil)
        replace hA := hA12
        go_simp
        refine (HC1.out X3 HX3 X0.heap.size (show X0.heap.size < X3.heap.size by have := s_1; have := d_2.size; have := d_3.size; omega) ((d_3.cell (p := ⟨X0.heap.size, 0, none⟩) (show X0.heap.size < X2.heap.size by have := s_1; have := d_2.size; omega)).trans ((d_2.cell (p := ⟨X0.heap.size, 0, none⟩) (show X0.heap.size < X1.heap.size by have := s_1; omega)).trans p10)) ((d_3.cell (p := ⟨X0.heap.size, 1, none⟩) (show X0.heap.size < X2.heap.size by have := s_1; have := d_2.size; omega)).trans ((d_2.cell (p := ⟨X0.heap.size, 1, none⟩) (show X0.heap.size < X1.heap.size by have := s_1; omega)).trans p11))).mono ?_
        rintro e X4 ⟨G1, g1, rfl, o1, d_4⟩
        have HX4 := stepB HX3 d_4
        refine hK _ _ (hlY _ HX4) ?_
        clear hK KK
        try simp only [Act.put, List.setIfInBounds_toArray, List.set_cons_zero, List.set_cons_succ]
        have hA18 := hnext hA (rs := [18]) (i := 18) (by kernel_rfl) (by decide) (by decide)
        refine wpHead_ready (rs := [18]) (by kernel_rfl) (by decide) (AllHead.cons (at_drop rfl) (by decide) (fun KK hK => ?_) AllHead.nil)
        replace hA := hA18
        go_simp
        refine (HC2.out X4 HX4 X2.heap.size (show X2.heap.size < X4.heap.size by have := s_3; have := d_4.size; omega) ((d_4.cell (p := ⟨X2.heap.size, 0, none⟩) (show X2.heap.size < X3.heap.size by have := s_3; omega)).trans p20) ((d_4.cell (p := ⟨X2.heap.size, 1, none⟩) (show X2.heap.size < X3.heap.size by have := s_3; omega)).trans p21)).mono ?_
        rintro e X5 ⟨G2, g2, rfl, o2, d_5⟩
        have HX5 := stepB HX4 d_5
        refine hK _ _ (hlY _ HX5) ?_
        clear hK KK
        try simp only [Act.put, List.setIfInBounds_toArray, List.set_cons_zero, List.set_cons_succ]
        have hA24 := hnext hA (rs := [24]) (i := 24) (by kernel_rfl) (by decide) (by decide)
        refine wpHead_ready (rs := [24]) (by kernel_rfl) (by decide) (AllHead.cons (at_drop rfl) (by decide) (fun KK hK => ?_) AllHead.nil)
        replace hA := hA24
        go_simp
        refine (HC3.out X5 HX5 X1.heap.size (show X1.heap.size < X5.heap.size by have := s_2; have := d_3.size; have := d_4.size; have := d_5.size; omega) ((d_5.cell (p := ⟨X1.heap.size, 0, none⟩) (show X1.heap.size < X4.heap.size by have := s_2; have := d_3.size; have := d_4.size; omega)).trans ((d_4.cell (p := ⟨X1.heap.size, 0, none⟩) (show X1.heap.size < X3.heap.size by have := s_2; have := d_3.size; omega)).trans ((d_3.cell (p := ⟨X1.heap.size, 0, none⟩) (show X1.heap.size < X2.heap.size by have := s_2; omega)).trans p30))) ((d_5.cell (p := ⟨X1.heap.size, 1, none⟩) (show X1.heap.size < X4.heap.size by have := s_2; have := d_3.size; have := d_4.size; omega)).trans ((d_4.cell (p := ⟨X1.heap.size, 1, none⟩) (show X1.heap.size < X3.heap.size by have := s_2; have := d_3.size; omega)).trans ((d_3.cell (p := ⟨X1.heap.size, 1, none⟩) (show X1.heap.size < X2.heap.size by have := s_2; omega)).trans p31)))).mono ?_
        rintro e X6 ⟨G3, g3, rfl, o3, d_6⟩
        have HX6 := stepB HX5 d_6
        refine hK _ _ (hlY _ HX6) ?_
        clear hK KK
        try simp only [Act.put, List.setIfInBounds_toArray, List.set_cons_zero, List.set_cons_succ]
        refine wpHead_take (i := 25) (v := ?_) (by kernel_rfl) hA (at_drop rfl) (by decide) (by kernel_rfl) (by kernel_rfl) (by kernel_rfl) (fun _ _ _ h => h) (Or.inl ⟨by rfl, ?_⟩) (hlY _ HX6) (fun hA => ?_)
        rotate_left
        · (intro w hSw; obtain ⟨s0, s1, s2, s3, s4⟩ := hSw.1.cells; obtain ⟨t0, t1, t2, t3, t4⟩ := hSw.2.1.cells; obtain ⟨u0, u1, u2, u3, u4⟩ := hSw.2.2.cells; go_simp <;> with_reducible rfl)
        simp only [Act.put, List.setIfInBounds_toArray, List.set_cons_zero, List.set_cons_succ]
        refine wpHead_end (by kernel_rfl) ?_
        simp only [List.drop_succ_cons, List.drop_zero]
        have HF := HEnd.out X6 HX6 G1 G2 G3 g1 g2 g3 (ownsRow_mono ((o1.below d_5).below d_6) (stepB hB0 HX3).size) (ownsRow_mono (o2.below d_6) (stepB hB0 HX4).size) (ownsRow_mono o3 (stepB hB0 HX5).size)
        clear hlY
        obtain ⟨⟨x0, f0⟩, ⟨x1, f1⟩, ⟨x2, f2⟩, ⟨x3, f3⟩, ⟨x4, f4⟩, hR⟩ := HF
        go_wp2
        obtain ⟨⟨y0, y1, y2, y3, y4⟩, hb5, hN⟩ := hR
        unfold put5 at y0 y1 y2 y3 y4 hb5 hN
        refine bodyPost_ret (v := .tuple #[.agg #[.int .i64 n.V, .int .i64 (n.S + m.S), .slice G1 (n.st.length + m.st.length) g1, .slice G2 (n.fi.length + m.fi.length) g2, .slice G3 (n.es.length + m.es.length) g3], .int .i64 0]) (by simp [results, Tryd.results9, go_sem, y0, y1, y2, y3, y4]) rfl ?_
        exact ⟨_, _, _, ⟨_, _, _, rfl⟩, hb5, hN⟩
  · replace hA := hA17
    go_simp
    have d_1 := bal (Below.refl X0.heap.size X0) (.cells #[.slice B n.fi.length b, .slice E1 m.fi.length e1'] 23)
    have s_1 : X0.heap.size < (World.alloc X0 (.cells #[.slice B n.fi.length b, .slice E1 m.fi.length e1'] 23)).heap.size := by simp
    have p20 : (World.alloc X0 (.cells #[.slice B n.fi.length b, .slice E1 m.fi.length e1'] 23)).cell? ⟨X0.heap.size, 0, none⟩ = some (Value.slice B n.fi.length b) := World.cell?_alloc_at _ _ _ _ rfl
    have p21 : (World.alloc X0 (.cells #[.slice B n.fi.length b, .slice E1 m.fi.length e1'] 23)).cell? ⟨X0.heap.size, 1, none⟩ = some (Value.slice E1 m.fi.length e1') := World.cell?_alloc_at _ _ _ _ rfl
    generalize (World.alloc X0 (.cells #[.slice B n.fi.length b, .slice E1 m.fi.length e1'] 23)) = X1 at *
    have HX1 := stepB hD d_1
    refine hK _ _ (hlY _ HX1) ?_
    clear hK KK
    try simp only [Act.put, List.setIfInBounds_toArray, List.set_cons_zero, List.set_cons_succ]
    have hA11 := hnext hA (rs := [11, 23]) (i := 11) (by kernel_rfl) (by decide) (by decide)
    have hA23 := hnext hA (rs := [11, 23]) (i := 23) (by kernel_rfl) (by decide) (by decide)
    refine wpHead_ready (rs := [11, 23]) (by kernel_rfl) (by decide) (AllHead.cons (at_drop rfl) (by decide) (fun KK hK => ?_) (AllHead.cons (at_drop rfl) (by decide) (fun KK hK => ?_) AllHead.nil))
    · replace hA := hA11
      go_simp
      have d_2 := bal (Below.refl X1.heap.size X1) (.cells #[.slice A n.st.length a, .slice D1 m.st.length d1] 23)
      have s_2 : X1.heap.size < (World.alloc X1 (.cells #[.slice A n.st.length a, .slice D1 m.st.length d1] 23)).heap.size := by simp
      have p10 : (World.alloc X1 (.cells #[.slice A n.st.length a, .slice D1 m.st.length d1] 23)).cell? ⟨X1.heap.size, 0, none⟩ = some (Value.slice A n.st.length a) := World.cell?_alloc_at _ _ _ _ rfl
      have p11 : (World.alloc X1 (.cells #[.slice A n.st.length a, .slice D1 m.st.length d1] 23)).cell? ⟨X1.heap.size, 1, none⟩ = some (Value.slice D1 m.st.length d1) := World.cell?_alloc_at _ _ _ _ rfl
      generalize (World.alloc X1 (.cells #[.slice A n.st.length a, .slice D1 m.st.length d1] 23)) = X2 at *
      have HX2 := stepB HX1 d_2
      refine hK _ _ (hlY _ HX2) ?_
      clear hK KK
      try simp only [Act.put, List.setIfInBounds_toArray, List.set_cons_zero, List.set_cons_succ]
      have hA12 := hnext hA (rs := [12, 23]) (i := 12) (by kernel_rfl) (by decide) (by decide)
      have hA23 := hnext hA (rs := [12, 23]) (i := 23) (by kernel_rfl) (by decide) (by decide)
      refine wpHead_ready (rs := [12, 23]) (by kernel_rfl) (by decide) (AllHead.cons (at_drop rfl) (by decide) (fun KK hK => ?_) (AllHead.cons (at_drop rfl) (by decide) (fun KK hK => ?_) AllHead.nil))
      · replace hA := hA12
        go_simp
        refine (HC1.out X2 HX2 X1.heap.size (show X1.heap.size < X2.heap.size by have := s_2; omega) p10 p11).mono ?_
        rintro e X3 ⟨G1, g1, rfl, o1, d_3⟩
        have HX3 := stepB HX2 d_3
        refine hK _ _ (hlY _ HX3) ?_
        clear hK KK
        try simp only [Act.put, List.setIfInBounds_toArray, List.set_cons_zero, List.set_cons_succ]
        have hA18 := hnext hA (rs := [18, 23]) (i := 18) (by kernel_rfl) (by decide) (by decide)
        have hA23 := hnext hA (rs := [18, 23]) (i := 23) (by kernel_rfl) (by decide) (by decide)
        refine wpHead_ready (rs := [18, 23]) (by kernel_rfl) (by decide) (AllHead.cons (at_drop rfl) (by decide) (fun KK hK => ?_) (AllHead.cons (at_drop rfl) (by decide) (fun KK hK => ?_) AllHead.nil))
        · replace hA := hA18
          go_simp
          refine (HC2.out X3 HX3 X0.heap.size (show X0.heap.size < X3.heap.size by have := s_1; have := d_2.size; have := d_3.size; omega) ((d_3.cell (p := ⟨X0.heap.size, 0, none⟩) (show X0.heap.size < X2.heap.size by have := s_1; have := d_2.size; omega)).trans ((d_2.cell (p := ⟨X0.heap.size, 0, none⟩) (show X0.heap.size < X1.heap.size by have := s_1; omega)).trans p20)) ((d_3.cell (p := ⟨X0.heap.size, 1, none⟩) (show X0.heap.size < X2.heap.size by have := s_1; have := d_2.size; omega)).trans ((d_2.cell (p := ⟨X0.heap.size, 1, none⟩) (show X0.heap.size < X1.heap.size by have := s_1; omega)).trans p21))).mono ?_
          rintro e X4 ⟨G2, g2, rfl, o2, d_4⟩
          have HX4 := stepB HX3 d_4
          refine hK _ _ (hlY _ HX4) ?_
          clear hK KK
          try simp only [Act.put, List.setIfInBounds_toArray, List.set_cons_zero, List.set_cons_succ]
          have hA23 := hnext hA (rs := [23]) (i := 23) (by kernel_rfl) (by decide) (by decide)
          refine wpHead_ready (rs := [23]) (by kernel_rfl) (by decide) (AllHead.cons (at_drop rfl) (by decide) (fun KK hK => ?_) AllHead.nil)
          replace hA := hA23
          go_simp
          have d_5 := bal (Below.refl X4.heap.size X4) (.cells #[.slice C n.es.length c, .slice F1 m.es.length f1'] 24)
          have s_5 : X4.heap.size < (World.alloc X4 (.cells #[.slice C n.es.length c, .slice F1 m.es.length f1'] 24)).heap.size := by simp
          have p30 : (World.alloc X4 (.cells #[.slice C n.es.length c, .slice F1 m.es.length f1'] 24)).cell? ⟨X4.heap.size, 0, none⟩ = some (Value.slice C n.es.length c) := World.cell?_alloc_at _ _ _ _ rfl
          have p31 : (World.alloc X4 (.cells #[.slice C n.es.length c, .slice F1 m.es.length f1'] 24)).cell? ⟨X4.heap.size, 1, none⟩ = some (Value.slice F1 m.es.length f1') := World.cell?_alloc_at _ _ _ _ rfl
          generalize (World.alloc X4 (.cells #[.slice C n.es.length c, .slice F1 m.es.length f1'] 24)) = X5 at *
          have HX5 := stepB HX4 d_5
          refine hK _ _ (hlY _ HX5) ?_
          clear hK KK
          try simp only [Act.put, List.setIfInBounds_toArray, List.set_cons_zero, List.set_cons_succ]
          have hA24 := hnext hA (rs := [24]) (i := 24) (by kernel_rfl) (by decide) (by decide)
          refine wpHead_ready (rs := [24]) (by kernel_rfl) (by decide) (AllHead.cons (at_drop rfl) (by decide) (fun KK hK => ?_) AllHead.nil)
          replace hA := hA24
          go_simp
          refine (HC3.out X5 HX5 X4.heap.size (show X4.heap.size < X5.heap.size by have := s_5; omega) p30 p31).mono ?_
          rintro e X6 ⟨G3, g3, rfl, o3, d_6⟩
          have HX6 := stepB HX5 d_6
          refine hK _ _ (hlY _ HX6) ?_
          clear hK KK
          try simp only [Act.put, List.setIfInBounds_toArray, List.set_cons_zero, List.set_cons_succ]
          refine wpHead_take (i := 25) (v := ?_) (by kernel_rfl) hA (at_drop rfl) (by decide) (by kernel_rfl) (by kernel_rfl) (by kernel_rfl) (fun _ _ _ h => h) (Or.inl ⟨by rfl, ?_⟩) (hlY _ HX6) (fun hA => ?_)
          rotate_left
          · (intro w hSw; obtain ⟨s0, s1, s2, s3, s4⟩ := hSw.1.cells; obtain ⟨t0, t1, t2, t3, t4⟩ := hSw.2.1.cells; obtain ⟨u0, u1, u2, u3, u4⟩ := hSw.2.2.cells; go_simp <;> with_reducible rfl)
          simp only [Act.put, List.setIfInBounds_toArray, List.set_cons_zero, List.set_cons_succ]
          refine wpHead_end (by kernel_rfl) ?_
          simp only [List.drop_succ_cons, List.drop_zero]
          have HF := HEnd.out X6 HX6 G1 G2 G3 g1 g2 g3 (ownsRow_mono (((o1.below d_4).below d_5).below d_6) (stepB hB0 HX2).size) (ownsRow_mono ((o2.below d_5).below d_6) (stepB hB0 HX3).size) (ownsRow_mono o3 (stepB hB0 HX5).size)
          clear hlY
          obtain ⟨⟨x0, f0⟩, ⟨x1, f1⟩, ⟨x2, f2⟩, ⟨x3, f3⟩, ⟨x4, f4⟩, hR⟩ := HF
          go_wp2
          obtain ⟨⟨y0, y1, y2, y3, y4⟩, hb5, hN⟩ := hR
          unfold put5 at y0 y1 y2 y3 y4 hb5 hN
          refine bodyPost_ret (v := .tuple #[.agg #[.int .i64 n.V, .int .i64 (n.S + m.S), .slice G1 (n.st.length + m.st.length) g1, .slice G2 (n.fi.length + m.fi.length) g2, .slice G3 (n.es.length + m.es.length) g3], .int .i64 0]) (by simp [results, Tryd.results9, go_sem, y0, y1, y2, y3, y4]) rfl ?_
          exact ⟨_, _, _, ⟨_, _, _, rfl⟩, hb5, hN⟩
        · replace hA := hA23
          go_simp
          have d_4 := bal (Below.refl X3.heap.size X3) (.cells #[.slice C n.es.length c, .slice F1 m.es.length f1'] 24)
          have s_4 : X3.heap.size < (World.alloc X3 (.cells #[.slice C n.es.length c, .slice F1 m.es.length f1'] 24)).heap.size := by simp
          have p30 : (World.alloc X3 (.cells #[.slice C n.es.length c, .slice F1 m.es.length f1'] 24)).cell? ⟨X3.heap.size, 0, none⟩ = some (Value.slice C n.es.length c) := World.cell?_alloc_at _ _ _ _ rfl
          have p31 : (World.alloc X3 (.cells #[.slice C n.es.length c, .slice F1 m.es.length f1'] 24)).cell? ⟨X3.heap.size, 1, none⟩ = some (Value.slice F1 m.es.length f1') := World.cell?_alloc_at _ _ _ _ rfl
          generalize (World.alloc X3 (.cells #[.slice C n.es.length c, .slice F1 m.es.length f1'] 24)) = X4 at *
          have HX4 := stepB HX3 d_4
          refine hK _ _ (hlY _ HX4) ?_
          clear hK KK
          try simp only [Act.put, List.setIfInBounds_toArray, List.set_cons_zero, List.set_cons_succ]
          have hA18 := hnext hA (rs := [18]) (i := 18) (by kernel_rfl) (by decide) (by decide)
          refine wpHead_ready (rs := [18]) (by kernel_rfl) (by decide) (AllHead.cons (at_drop rfl) (by decide) (fun KK hK => ?_) AllHead.nil)
          replace hA := hA18
          go_simp
          refine (HC2.out X4 HX4 X0.heap.size (show X0.heap.size < X4.heap.size by have := s_1; have := d_2.size; have := d_3.size; have := d_4.size; omega) ((d_4.cell (p := ⟨X0.heap.size, 0, none⟩) (show X0.heap.size < X3.heap.size by have := s_1; have := d_2.size; have := d_3.size; omega)).trans ((d_3.cell (p := ⟨X0.heap.size, 0, none⟩) (show X0.heap.size < X2.heap.size by have := s_1; have := d_2.size; omega)).trans ((d_2.cell (p := ⟨X0.heap.size, 0, none⟩) (show X0.heap.size < X1.heap.size by have := s_1; omega)).trans p20))) ((d_4.cell (p := ⟨X0.heap.size, 1, none⟩) (show X0.heap.size < X3.heap.size by have := s_1; have := d_2.size; have := d_3.size; omega)).trans ((d_3.cell (p := ⟨X0.heap.size, 1, none⟩) (show X0.heap.size < X2.heap.size by have := s_1; have := d_2.size; omega)).trans ((d_2.cell (p := ⟨X0.heap.size, 1, none⟩) (show X0.heap.size < X1.heap.size by have := s_1; omega)).trans p21)))).mono ?_
          rintro e X5 ⟨G2, g2, rfl, o2, d_5⟩
          have HX5 := stepB HX4 d_5
          refine hK _ _ (hlY _ HX5) ?_
          clear hK KK
          try simp only [Act.put, List.setIfInBounds_toArray, List.set_cons_zero, List.set_cons_succ]
          have hA24 := hnext hA (rs := [24]) (i := 24) (by kernel_rfl) (by decide) (by decide)
          refine wpHead_ready (rs := [24]) (by kernel_rfl) (by decide) (AllHead.cons (at_drop rfl) (by decide) (fun KK hK => ?_) AllHead.nil)
          replace hA := hA24
          go_simp
          refine (HC3.out X5 HX5 X3.heap.size (show X3.heap.size < X5.heap.size by have := s_4; have := d_5.size; omega) ((d_5.cell (p := ⟨X3.heap.size, 0, none⟩) (show X3.heap.size < X4.heap.size by have := s_4; omega)).trans p30) ((d_5.cell (p := ⟨X3.heap.size, 1, none⟩) (show X3.heap.size < X4.heap.size by have := s_4; omega)).trans p31)).mono ?_
          rintro e X6 ⟨G3, g3, rfl, o3, d_6⟩
          have HX6 := stepB HX5 d_6
          refine hK _ _ (hlY _ HX6) ?_
          clear hK KK
          try simp only [Act.put, List.setIfInBounds_toArray, List.set_cons_zero, List.set_cons_succ]
          refine wpHead_take (i := 25) (v := ?_) (by kernel_rfl) hA (at_drop rfl) (by decide) (by kernel_rfl) (by kernel_rfl) (by kernel_rfl) (fun _ _ _ h => h) (Or.inl ⟨by rfl, ?_⟩) (hlY _ HX6) (fun hA => ?_)
          rotate_left
          · (intro w hSw; obtain ⟨s0, s1, s2, s3, s4⟩ := hSw.1.cells; obtain ⟨t0, t1, t2, t3, t4⟩ := hSw.2.1.cells; obtain ⟨u0, u1, u2, u3, u4⟩ := hSw.2.2.cells; go_simp <;> with_reducible rfl)
          simp only [Act.put, List.setIfInBounds_toArray, List.set_cons_zero, List.set_cons_succ]
          refine wpHead_end (by kernel_rfl) ?_
          simp only [List.drop_succ_cons, List.drop_zero]
          have HF := HEnd.out X6 HX6 G1 G2 G3 g1 g2 g3 (ownsRow_mono (((o1.below d_4).below d_5).below d_6) (stepB hB0 HX2).size) (ownsRow_mono (o2.below d_6) (stepB hB0 HX4).size) (ownsRow_mono o3 (stepB hB0 HX5).size)
          clear hlY
          obtain ⟨⟨x0, f0⟩, ⟨x1, f1⟩, ⟨x2, f2⟩, ⟨x3, f3⟩, ⟨x4, f4⟩, hR⟩ := HF
          go_wp2
          obtain ⟨⟨y0, y1, y2, y3, y4⟩, hb5, hN⟩ := hR
          unfold put5 at y0 y1 y2 y3 y4 hb5 hN
          refine bodyPost_ret (v := .tuple #[.agg #[.int .i64 n.V, .int .i64 (n.S + m.S), .slice G1 (n.st.length + m.st.length) g1, .slice G2 (n.fi.length + m.fi.length) g2, .slice G3 (n.es.length + m.es.length) g3], .int .i64 0]) (by simp [results, Tryd.results9, go_sem, y0, y1, y2, y3, y4]) rfl ?_
          exact ⟨_, _, _, ⟨_, _, _, rfl⟩, hb5, hN⟩
      · replace hA := hA23
        go_simp
        have d_3 := bal (Below.refl X2.heap.size X2) (.cells #[.slice C n.es.length c, .slice F1 m.es.length f1'] 24)
        have s_3 : X2.heap.size < (World.alloc X2 (.cells #[.slice C n.es.length c, .slice F1 m.es.length f1'] 24)).heap.size := by simp
        have p30 : (World.alloc X2 (.cells #[.slice C n.es.length c, .slice F1 m.es.length f1'] 24)).cell? ⟨X2.heap.size, 0, none⟩ = some (Value.slice C n.es.length c) := World.cell?_alloc_at _ _ _ _ rfl
        have p31 : (World.alloc X2 (.cells #[.slice C n.es.length c, .slice F1 m.es.length f1'] 24)).cell? ⟨X2.heap.size, 1, none⟩ = some (Value.slice F1 m.es.length f1') := World.cell?_alloc_at _ _ _ _ rfl
        generalize (World.alloc X2 (.cells #[.slice C n.es.length c, .slice F1 m.es.length f1'] 24)) = X3 at *
        have HX3 := stepB HX2 d_3
        refine hK _ _ (hlY _ HX3) ?_
        clear hK KK
        try simp only [Act.put, List.setIfInBounds_toArray, List.set_cons_zero, List.set_cons_succ]
        have hA12 := hnext hA (rs := [12]) (i := 12) (by kernel_rfl) (by decide) (by decide)
        refine wpHead_ready (rs := [12]) (by kernel_rfl) (by decide) (AllHead.cons (at_drop rfl) (by decide) (fun KK hK => ?_) AllHead.nil)
        replace hA := hA12
        go_simp
        refine (HC1.out X3 HX3 X1.heap.size (show X1.heap.size < X3.heap.size by have := s_2; have := d_3.size; omega) ((d_3.cell (p := ⟨X1.heap.size, 0, none⟩) (show X1.heap.size < X2.heap.size by have := s_2; omega)).trans p10) ((d_3.cell (p := ⟨X1.heap.size, 1, none⟩) (show X1.heap.size < X2.heap.size by have := s_2; omega)).trans p11)).mono ?_
        rintro e X4 ⟨G1, g1, rfl, o1, d_4⟩
        have HX4 := stepB HX3 d_4
        refine hK _ _ (hlY _ HX4) ?_
        clear hK KK
        try simp only [Act.put, List.setIfInBounds_toArray, List.set_cons_zero, List.set_cons_succ]
        have hA18 := hnext hA (rs := [18]) (i := 18) (by kernel_rfl) (by decide) (by decide)
        refine wpHead_ready (rs := [18]) (by kernel_rfl) (by decide) (AllHead.cons (at_drop rfl) (by decide) (fun KK hK => ?_) AllHead.nil)
        replace hA := hA18
        go_simp
        refine (HC2.out X4 HX4 X0.heap.size (show X0.heap.size < X4.heap.size by have := s_1; have := d_2.size; have := d_3.size; have := d_4.size; omega) ((d_4.cell (p := ⟨X0.heap.size, 0, none⟩) (show X0.heap.size < X3.heap.size by have := s_1; have := d_2.size; have := d_3.size; omega)).trans ((d_3.cell (p := ⟨X0.heap.size, 0, none⟩) (show X0.heap.size < X2.heap.size by have := s_1; have := d_2.size; omega)).trans ((d_2.cell (p := ⟨X0.heap.size, 0, none⟩) (show X0.heap.size < X1.heap.size by have := s_1; omega)).trans p20))) ((d_4.cell (p := ⟨X0.heap.size, 1, none⟩) (show X0.heap.size < X3.heap.size by have := s_1; have := d_2.size; have := d_3.size; omega)).trans ((d_3.cell (p := ⟨X0.heap.size, 1, none⟩) (show X0.heap.size < X2.heap.size by have := s_1; have := d_2.size; omega)).trans ((d_2.cell (p := ⟨X0.heap.size, 1, none⟩) (show X0.heap.size < X1.heap.size by have := s_1; omega)).trans p21)))).mono ?_
        rintro e X5 ⟨G2, g2, rfl, o2, d_5⟩
        have HX5 := stepB HX4 d_5
        refine hK _ _ (hlY _ HX5) ?_
        clear hK KK
        try simp only [Act.put, List.setIfInBounds_toArray, List.set_cons_zero, List.set_cons_succ]
        have hA24 := hnext hA (rs := [24]) (i := 24) (by kernel_rfl) (by decide) (by decide)
        refine wpHead_ready (rs := [24]) (by kernel_rfl) (by decide) (AllHead.cons (at_drop rfl) (by decide) (fun KK hK => ?_) AllHead.nil)
        replace hA := hA24
        go_simp
        refine (HC3.out X5 HX5 X2.heap.size (show X2.heap.size < X5.heap.size by have := s_3; have := d_4.size; have := d_5.size; omega) ((d_5.cell (p := ⟨X2.heap.size, 0, none⟩) (show X2.heap.size < X4.heap.size by have := s_3; have := d_4.size; omega)).trans ((d_4.cell (p := ⟨X2.heap.size, 0, none⟩) (show X2.heap.size < X3.heap.size by have := s_3; omega)).trans p30)) ((d_5.cell (p := ⟨X2.heap.size, 1, none⟩) (show X2.heap.size < X4.heap.size by have := s_3; have := d_4.size; omega)).trans ((d_4.cell (p := ⟨X2.heap.size, 1, none⟩) (show X2.heap.size < X3.heap.size by have := s_3; omega)).trans p31))).mono ?_
        rintro e X6 ⟨G3, g3, rfl, o3, d_6⟩
        have HX6 := stepB HX5 d_6
        refine hK _ _ (hlY _ HX6) ?_
        clear hK KK
        try simp only [Act.put, List.setIfInBounds_toArray, List.set_cons_zero, List.set_cons_succ]
        refine wpHead_take (i := 25) (v := ?_) (by kernel_rfl) hA (at_drop rfl) (by decide) (by kernel_rfl) (by kernel_rfl) (by kernel_rfl) (fun _ _ _ h => h) (Or.inl ⟨by rfl, ?_⟩) (hlY _ HX6) (fun hA => ?_)
        rotate_left
        · (intro w hSw; obtain ⟨s0, s1, s2, s3, s4⟩ := hSw.1.cells; obtain ⟨t0, t1, t2, t3, t4⟩ := hSw.2.1.cells; obtain ⟨u0, u1, u2, u3, u4⟩ := hSw.2.2.cells; go_simp <;> with_reducible rfl)
        simp only [Act.put, List.setIfInBounds_toArray, List.set_cons_zero, List.set_cons_succ]
        refine wpHead_end (by kernel_rfl) ?_
        simp only [List.drop_succ_cons, List.drop_zero]
        have HF := HEnd.out X6 HX6 G1 G2 G3 g1 g2 g3 (ownsRow_mono ((o1.below d_5).below d_6) (stepB hB0 HX3).size) (ownsRow_mono (o2.below d_6) (stepB hB0 HX4).size) (ownsRow_mono o3 (stepB hB0 HX5).size)
        clear hlY
        obtain ⟨⟨x0, f0⟩, ⟨x1, f1⟩, ⟨x2, f2⟩, ⟨x3, f3⟩, ⟨x4, f4⟩, hR⟩ := HF
        go_wp2
        obtain ⟨⟨y0, y1, y2, y3, y4⟩, hb5, hN⟩ := hR
        unfold put5 at y0 y1 y2 y3 y4 hb5 hN
        refine bodyPost_ret (v := .tuple #[.agg #[.int .i64 n.V, .int .i64 (n.S + m.S), .slice G1 (n.st.length + m.st.length) g1, .slice G2 (n.fi.length + m.fi.length) g2, .slice G3 (n.es.length + m.es.length) g3], .int .i64 0]) (by simp [results, Tryd.results9, go_sem, y0, y1, y2, y3, y4]) rfl ?_
        exact ⟨_, _, _, ⟨_, _, _, rfl⟩, hb5, hN⟩
    · replace hA := hA23
      go_simp
      have d_2 := bal (Below.refl X1.heap.size X1) (.cells #[.slice C n.es.length c, .slice F1 m.es.length f1'] 24)
      have s_2 : X1.heap.size < (World.alloc X1 (.cells #[.slice C n.es.length c, .slice F1 m.es.length f1'] 24)).heap.size := by simp
      have p30 : (World.alloc X1 (.cells #[.slice C n.es.length c, .slice F1 m.es.length f1'] 24)).cell? ⟨X1.heap.size, 0, none⟩ = some (Value.slice C n.es.length c) := World.cell?_alloc_at _ _ _ _ rfl
      have p31 : (World.alloc X1 (.cells #[.slice C n.es.length c, .slice F1 m.es.length f1'] 24)).cell? ⟨X1.heap.size, 1, none⟩ = some (Value.slice F1 m.es.length f1') := World.cell?_alloc_at _ _ _ _ rfl
      generalize (World.alloc X1 (.cells #[.slice C n.es.length c, .slice F1 m.es.length f1'] 24)) = X2 at *
      have HX2 := stepB HX1 d_2
      refine hK _ _ (hlY _ HX2) ?_
      clear hK KK
      try simp only [Act.put, List.setIfInBounds_toArray, List.set_cons_zero, List.set_cons_succ]
      have hA11 := hnext hA (rs := [11]) (i := 11) (by kernel_rfl) (by decide) (by decide)
      refine wpHead_ready (rs := [11]) (by kernel_rfl) (by decide) (AllHead.cons (at_drop rfl) (by decide) (fun KK hK => ?_) AllHead.nil)
      replace hA := hA11
      go_simp
      have d_3 := bal (Below.refl X2.heap.size X2) (.cells #[.slice A n.st.length a, .slice D1 m.st.length d1] 23)
      have s_3 : X2.heap.size < (World.alloc X2 (.cells #[.slice A n.st.length a, .slice D1 m.st.length d1] 23)).heap.size := by simp
      have p10 : (World.alloc X2 (.cells #[.slice A n.st.length a, .slice D1 m.st.length d1] 23)).cell? ⟨X2.heap.size, 0, none⟩ = some (Value.slice A n.st.length a) := World.cell?_alloc_at _ _ _ _ rfl
      have p11 : (World.alloc X2 (.cells #[.slice A n.st.length a, .slice D1 m.st.length d1] 23)).cell? ⟨X2.heap.size, 1, none⟩ = some (Value.slice D1 m.st.length d1) := World.cell?_alloc_at _ _ _ _ rfl
      generalize (World.alloc X2 (.cells #[.slice A n.st.length a, .slice D1 m.st.length d1] 23)) = X3 at *
      have HX3 := stepB HX2 d_3
      refine hK _ _ (hlY _ HX3) ?_
      clear hK KK
      try simp only [Act.put, List.setIfInBounds_toArray, List.set_cons_zero, List.set_cons_succ]
      have hA12 := hnext hA (rs := [12]) (i := 12) (by kernel_rfl) (by decide) (by decide)
      refine wpHead_ready (rs := [12]) (by kernel_rfl) (by decide) (AllHead.cons (at_drop rfl) (by decide) (fun KK hK => ?_) AllHead.nil)
      replace hA := hA12
      go_simp
      refine (HC1.out X3 HX3 X2.heap.size (show X2.heap.size < X3.heap.size by have := s_3; omega) p10 p11).mono ?_
      rintro e X4 ⟨G1, g1, rfl, o1, d_4⟩
      have HX4 := stepB HX3 d_4
      refine hK _ _ (hlY _ HX4) ?_
      clear hK KK
      try simp only [Act.put, List.setIfInBounds_toArray, List.set_cons_zero, List.set_cons_succ]
      have hA18 := hnext hA (rs := [18]) (i := 18) (by kernel_rfl) (by decide) (by decide)
      refine wpHead_ready (rs := [18]) (by kernel_rfl) (by decide) (AllHead.cons (at_drop rfl) (by decide) (fun KK hK => ?_) AllHead.nil)
      replace hA := hA18
      go_simp
      refine (HC2.out X4 HX4 X0.heap.size (show X0.heap.size < X4.heap.size by have := s_1; have := d_2.size; have := d_3.size; have := d_4.size; omega) ((d_4.cell (p := ⟨X0.heap.size, 0, none⟩) (show X0.heap.size < X3.heap.size by have := s_1; have := d_2.size; have := d_3.size; omega)).trans ((d_3.cell (p := ⟨X0.heap.size, 0, none⟩) (show X0.heap.size < X2.heap.size by have := s_1; have := d_2.size; omega)).trans ((d_2.cell (p := ⟨X0.heap.size, 0, none⟩) (show X0.heap.size < X1.heap.size by have := s_1; omega)).trans p20))) ((d_4.cell (p := ⟨X0.heap.size, 1, none⟩) (show X0.heap.size < X3.heap.size by have := s_1; have := d_2.size; have := d_3.size; omega)).trans ((d_3.cell (p := ⟨X0.heap.size, 1, none⟩) (show X0.heap.size < X2.heap.size by have := s_1; have := d_2.size; omega)).trans ((d_2.cell (p := ⟨X0.heap.size, 1, none⟩) (show X0.heap.size < X1.heap.size by have := s_1; omega)).trans p21)))).mono ?_
      rintro e X5 ⟨G2, g2, rfl, o2, d_5⟩
      have HX5 := stepB HX4 d_5
      refine hK _ _ (hlY _ HX5) ?_
      clear hK KK
      try simp only [Act.put, List.setIfInBounds_toArray, List.set_cons_zero, List.set_cons_succ]
      have hA24 := hnext hA (rs := [24]) (i := 24) (by kernel_rfl) (by decide) (by decide)
      refine wpHead_ready (rs := [24]) (by kernel_rfl) (by decide) (AllHead.cons (at_drop rfl) (by decide) (fun KK hK => ?_) AllHead.nil)
      replace hA := hA24
      go_simp
      refine (HC3.out X5 HX5 X1.heap.size (show X1.heap.size < X5.heap.size by have := s_2; have := d_3.size; have := d_4.size; have := d_5.size; omega) ((d_5.cell (p := ⟨X1.heap.size, 0, none⟩) (show X1.heap.size < X4.heap.size by have := s_2; have := d_3.size; have := d_4.size; omega)).trans ((d_4.cell (p := ⟨X1.heap.size, 0, none⟩) (show X1.heap.size < X3.heap.size by have := s_2; have := d_3.size; omega)).trans ((d_3.cell (p := ⟨X1.heap.size, 0, none⟩) (show X1.heap.size < X2.heap.size by have := s_2; omega)).trans p30))) ((d_5.cell (p := ⟨X1.heap.size, 1, none⟩) (show X1.heap.size < X4.heap.size by have := s_2; have := d_3.size; have := d_4.size; omega)).trans ((d_4.cell (p := ⟨X1.heap.size, 1, none⟩) (show X1.heap.size < X3.heap.size by have := s_2; have := d_3.size; omega)).trans ((d_3.cell (p := ⟨X1.heap.size, 1, none⟩) (show X1.heap.size < X2.heap.size by have := s_2; omega)).trans p31)))).mono ?_
      rintro e X6 ⟨G3, g3, rfl, o3, d_6⟩
      have HX6 := stepB HX5 d_6
      refine hK _ _ (hlY _ HX6) ?_
      clear hK KK
      try simp only [Act.put, List.setIfInBounds_toArray, List.set_cons_zero, List.set_cons_succ]
      refine wpHead_take (i := 25) (v := ?_) (by kernel_rfl) hA (at_drop rfl) (by decide) (by kernel_rfl) (by kernel_rfl) (by kernel_rfl) (fun _ _ _ h => h) (Or.inl ⟨by rfl, ?_⟩) (hlY _ HX6) (fun hA => ?_)
      rotate_left
      · (intro w hSw; obtain ⟨s0, s1, s2, s3, s4⟩ := hSw.1.cells; obtain ⟨t0, t1, t2, t3, t4⟩ := hSw.2.1.cells; obtain ⟨u0, u1, u2, u3, u4⟩ := hSw.2.2.cells; go_simp <;> with_reducible rfl)
      simp only [Act.put, List.setIfInBounds_toArray, List.set_cons_zero, List.set_cons_succ]
      refine wpHead_end (by kernel_rfl) ?_
      simp only [List.drop_succ_cons, List.drop_zero]
      have HF := HEnd.out X6 HX6 G1 G2 G3 g1 g2 g3 (ownsRow_mono ((o1.below d_5).below d_6) (stepB hB0 HX3).size) (ownsRow_mono (o2.below d_6) (stepB hB0 HX4).size) (ownsRow_mono o3 (stepB hB0 HX5).size)
      clear hlY
      obtain ⟨⟨x0, f0⟩, ⟨x1, f1⟩, ⟨x2, f2⟩, ⟨x3, f3⟩, ⟨x4, f4⟩, hR⟩ := HF
      go_wp2
      obtain ⟨⟨y0, y1, y2, y3, y4⟩, hb5, hN⟩ := hR
      unfold put5 at y0 y1 y2 y3 y4 hb5 hN
      refine bodyPost_ret (v := .tuple #[.agg #[.int .i64 n.V, .int .i64 (n.S + m.S), .slice G1 (n.st.length + m.st.length) g1, .slice G2 (n.fi.length + m.fi.length) g2, .slice G3 (n.es.length + m.es.length) g3], .int .i64 0]) (by simp [results, Tryd.results9, go_sem, y0, y1, y2, y3, y4]) rfl ?_
      exact ⟨_, _, _, ⟨_, _, _, rfl⟩, hb5, hN⟩
  · replace hA := hA23
    go_simp
    have d_1 := bal (Below.refl X0.heap.size X0) (.cells #[.slice C n.es.length c, .slice F1 m.es.length f1'] 24)
    have s_1 : X0.heap.size < (World.alloc X0 (.cells #[.slice C n.es.length c, .slice F1 m.es.length f1'] 24)).heap.size := by simp
    have p30 : (World.alloc X0 (.cells #[.slice C n.es.length c, .slice F1 m.es.length f1'] 24)).cell? ⟨X0.heap.size, 0, none⟩ = some (Value.slice C n.es.length c) := World.cell?_alloc_at _ _ _ _ rfl
    have p31 : (World.alloc X0 (.cells #[.slice C n.es.length c, .slice F1 m.es.length f1'] 24)).cell? ⟨X0.heap.size, 1, none⟩ = some (Value.slice F1 m.es.length f1') := World.cell?_alloc_at _ _ _ _ rfl
    generalize (World.alloc X0 (.cells #[.slice C n.es.length c, .slice F1 m.es.length f1'] 24)) = X1 at *
    have HX1 := stepB hD d_1
    refine hK _ _ (hlY _ HX1) ?_
    clear hK KK
    try simp only [Act.put, List.setIfInBounds_toArray, List.set_cons_zero, List.set_cons_succ]
    have hA11 := hnext hA (rs := [11, 17]) (i := 11) (by kernel_rfl) (by decide) (by decide)
    have hA17 := hnext hA (rs := [11, 17]) (i := 17) (by kernel_rfl) (by decide) (by decide)
    refine wpHead_ready (rs := [11, 17]) (by kernel_rfl) (by decide) (AllHead.cons (at_drop rfl) (by decide) (fun KK hK => ?_) (AllHead.cons (at_drop rfl) (by decide) (fun KK hK => ?_) AllHead.nil))
    · replace hA := hA11
      go_simp
      have d_2 := bal (Below.refl X1.heap.size X1) (.cells #[.slice A n.st.length a, .slice D1 m.st.length d1] 23)
      have s_2 : X1.heap.size < (World.alloc X1 (.cells #[.slice A n.st.length a, .slice D1 m.st.length d1] 23)).heap.size := by simp
      have p10 : (World.alloc X1 (.cells #[.slice A n.st.length a, .slice D1 m.st.length d1] 23)).cell? ⟨X1.heap.size, 0, none⟩ = some (Value.slice A n.st.length a) := World.cell?_alloc_at _ _ _ _ rfl
      have p11 : (World.alloc X1 (.cells #[.slice A n.st.length a, .slice D1 m.st.length d1] 23)).cell? ⟨X1.heap.size, 1, none⟩ = some (Value.slice D1 m.st.length d1) := World.cell?_alloc_at _ _ _ _ rfl
      generalize (World.alloc X1 (.cells #[.slice A n.st.length a, .slice D1 m.st.length d1] 23)) = X2 at *
      have HX2 := stepB HX1 d_2
      refine hK _ _ (hlY _ HX2) ?_
      clear hK KK
      try simp only [Act.put, List.setIfInBounds_toArray, List.set_cons_zero, List.set_cons_succ]
      have hA12 := hnext hA (rs := [12, 17]) (i := 12) (by kernel_rfl) (by decide) (by decide)
      have hA17 := hnext hA (rs := [12, 17]) (i := 17) (by kernel_rfl) (by decide) (by decide)
      refine wpHead_ready (rs := [12, 17]) (by kernel_rfl) (by decide) (AllHead.cons (at_drop rfl) (by decide) (fun KK hK => ?_) (AllHead.cons (at_drop rfl) (by decide) (fun KK hK => ?_) AllHead.nil))
      · replace hA := hA12
        go_simp
        refine (HC1.out X2 HX2 X1.heap.size (show X1.heap.size < X2.heap.size by have := s_2; omega) p10 p11).mono ?_
        rintro e X3 ⟨G1, g1, rfl, o1, d_3⟩
        have HX3 := stepB HX2 d_3
        refine hK _ _ (hlY _ HX3) ?_
        clear hK KK
        try simp only [Act.put, List.setIfInBounds_toArray, List.set_cons_zero, List.set_cons_succ]
        have hA17 := hnext hA (rs := [17]) (i := 17) (by kernel_rfl) (by decide) (by decide)
        refine wpHead_ready (rs := [17]) (by kernel_rfl) (by decide) (AllHead.cons (at_drop rfl) (by decide) (fun KK hK => ?_) AllHead.nil)
        replace hA := hA17
        go_simp
        have d_4 := bal (Below.refl X3.heap.size X3) (.cells #[.slice B n.fi.length b, .slice E1 m.fi.length e1'] 23)
        have s_4 : X3.heap.size < (World.alloc X3 (.cells #[.slice B n.fi.length b, .slice E1 m.fi.length e1'] 23)).heap.size := by simp
        have p20 : (World.alloc X3 (.cells #[.slice B n.fi.length b, .slice E1 m.fi.length e1'] 23)).cell? ⟨X3.heap.size, 0, none⟩ = some (Value.slice B n.fi.length b) := World.cell?_alloc_at _ _ _ _ rfl
        have p21 : (World.alloc X3 (.cells #[.slice B n.fi.length b, .slice E1 m.fi.length e1'] 23)).cell? ⟨X3.heap.size, 1, none⟩ = some (Value.slice E1 m.fi.length e1') := World.cell?_alloc_at _ _ _ _ rfl
        generalize (World.alloc X3 (.cells #[.slice B n.fi.length b, .slice E1 m.fi.length e1'] 23)) = X4 at *
        have HX4 := stepB HX3 d_4
        refine hK _ _ (hlY _ HX4) ?_
        clear hK KK
        try simp only [Act.put, List.setIfInBounds_toArray, List.set_cons_zero, List.set_cons_succ]
        have hA18 := hnext hA (rs := [18]) (i := 18) (by kernel_rfl) (by decide) (by decide)
        refine wpHead_ready (rs := [18]) (by kernel_rfl) (by decide) (AllHead.cons (at_drop rfl) (by decide) (fun KK hK => ?_) AllHead.nil)
        replace hA := hA18
        go_simp
        refine (HC2.out X4 HX4 X3.heap.size (show X3.heap.size < X4.heap.size by have := s_4; omega) p20 p21).mono ?_
        rintro e X5 ⟨G2, g2, rfl, o2, d_5⟩
        have HX5 := stepB HX4 d_5
        refine hK _ _ (hlY _ HX5) ?_
        clear hK KK
        try simp only [Act.put, List.setIfInBounds_toArray, List.set_cons_zero, List.set_cons_succ]
        have hA24 := hnext hA (rs := [24]) (i := 24) (by kernel_rfl) (by decide) (by decide)
        refine wpHead_ready (rs := [24]) (by kernel_rfl) (by decide) (AllHead.cons (at_drop rfl) (by decide) (fun KK hK => ?_) AllHead.nil)
        replace hA := hA24
        go_simp
        refine (HC3.out X5 HX5 X0.heap.size (show X0.heap.size < X5.heap.size by have := s_1; have := d_2.size; have := d_3.size; have := d_4.size; have := d_5.size; omega) ((d_5.cell (p := ⟨X0.heap.size, 0, none⟩) (show X0.heap.size < X4.heap.size by have := s_1; have := d_2.size; have := d_3.size; have := d_4.size; omega)).trans ((d_4.cell (p := ⟨X0.heap.size, 0, none⟩) (show X0.heap.size < X3.heap.size by have := s_1; have := d_2.size; have := d_3.size; omega)).trans ((d_3.cell (p := ⟨X0.heap.size, 0, none⟩) (show X0.heap.size < X2.heap.size by have := s_1; have := d_2.size; omega)).trans ((d_2.cell (p := ⟨X0.heap.size, 0, none⟩) (show X0.heap.size < X1.heap.size by have := s_1; omega)).trans p30)))) ((d_5.cell (p := ⟨X0.heap.size, 1, none⟩) (show X0.heap.size < X4.heap.size by have := s_1; have := d_2.size; have := d_3.size; have := d_4.size; omega)).trans ((d_4.cell (p := ⟨X0.heap.size, 1, none⟩) (show X0.heap.size < X3.heap.size by have := s_1; have := d_2.size; have := d_3.size; omega)).trans ((d_3.cell (p := ⟨X0.heap.size, 1, none⟩) (show X0.heap.size < X2.heap.size by have := s_1; have := d_2.size; omega)).trans ((d_2.cell (p := ⟨X0.heap.size, 1, none⟩) (show X0.heap.size < X1.heap.size by have := s_1; omega)).trans p31))))).mono ?_
        rintro e X6 ⟨G3, g3, rfl, o3, d_6⟩
        have HX6 := stepB HX5 d_6
        refine hK _ _ (hlY _ HX6) ?_
        clear hK KK
        try simp only [Act.put, List.setIfInBounds_toArray, List.set_cons_zero, List.set_cons_succ]
        refine wpHead_take (i := 25) (v := ?_) (by kernel_rfl) hA (at_drop rfl) (by decide) (by kernel_rfl) (by kernel_rfl) (by kernel_rfl) (fun _ _ _ h => h) (Or.inl ⟨by rfl, ?_⟩) (hlY _ HX6) (fun hA => ?_)
        rotate_left
        · (intro w hSw; obtain ⟨s0, s1, s2, s3, s4⟩ := hSw.1.cells; obtain ⟨t0, t1, t2, t3, t4⟩ := hSw.2.1.cells; obtain ⟨u0, u1, u2, u3, u4⟩ := hSw.2.2.cells; go_simp <;> with_reducible rfl)
        simp only [Act.put, List.setIfInBounds_toArray, List.set_cons_zero, List.set_cons_succ]
        refine wpHead_end (by kernel_rfl) ?_
        simp only [List.drop_succ_cons, List.drop_zero]
        have HF := HEnd.out X6 HX6 G1 G2 G3 g1 g2 g3 (ownsRow_mono (((o1.below d_4).below d_5).below d_6) (stepB hB0 HX2).size) (ownsRow_mono (o2.below d_6) (stepB hB0 HX4).size) (ownsRow_mono o3 (stepB hB0 HX5).size)
        clear hlY
        obtain ⟨⟨x0, f0⟩, ⟨x1, f1⟩, ⟨x2, f2⟩, ⟨x3, f3⟩, ⟨x4, f4⟩, hR⟩ := HF
        go_wp2
        obtain ⟨⟨y0, y1, y2, y3, y4⟩, hb5, hN⟩ := hR
        unfold put5 at y0 y1 y2 y3 y4 hb5 hN
        refine bodyPost_ret (v := .tuple #[.agg #[.int .i64 n.V, .int .i64 (n.S + m.S), .slice G1 (n.st.length + m.st.length) g1, .slice G2 (n.fi.length + m.fi.length) g2, .slice G3 (n.es.length + m.es.length) g3], .int .i64 0]) (by simp [results, Tryd.results9, go_sem, y0, y1, y2, y3, y4]) rfl ?_
        exact ⟨_, _, _, ⟨_, _, _, rfl⟩, hb5, hN⟩
      · replace hA := hA17
        go_simp
        have d_3 := bal (Below.refl X2.heap.size X2) (.cells #[.slice B n.fi.length b, .slice E1 m.fi.length e1'] 23)
        have s_3 : X2.heap.size < (World.alloc X2 (.cells #[.slice B n.fi.length b, .slice E1 m.fi.length e1'] 23)).heap.size := by simp
        have p20 : (World.alloc X2 (.cells #[.slice B n.fi.length b, .slice E1 m.fi.length e1'] 23)).cell? ⟨X2.heap.size, 0, none⟩ = some (Value.slice B n.fi.length b) := World.cell?_alloc_at _ _ _ _ rfl
        have p21 : (World.alloc X2 (.cells #[.slice B n.fi.length b, .slice E1 m.fi.length e1'] 23)).cell? ⟨X2.heap.size, 1, none⟩ = some (Value.slice E1 m.fi.length e1') := World.cell?_alloc_at _ _ _ _ rfl
        generalize (World.alloc X2 (.cells #[.slice B n.fi.length b, .slice E1 m.fi.length e1'] 23)) = X3 at *
        have HX3 := stepB HX2 d_3
        refine hK _ _ (hlY _ HX3) ?_
        clear hK KK
        try simp only [Act.put, List.setIfInBounds_toArray, List.set_cons_zero, List.set_cons_succ]
        have hA12 := hnext hA (rs := [12]) (i := 12) (by kernel_rfl) (by decide) (by decide)
        refine wpHead_ready (rs := [12]) (by kernel_rfl) (by decide) (AllHead.cons (at_drop rfl) (by decide) (fun KK hK => ?_) AllHead.nil)
        replace hA := hA12
        go_simp
        refine (HC1.out X3 HX3 X1.heap.size (show X1.heap.size < X3.heap.size by have := s_2; have := d_3.size; omega) ((d_3.cell (p := ⟨X1.heap.size, 0, none⟩) (show X1.heap.size < X2.heap.size by have := s_2; omega)).trans p10) ((d_3.cell (p := ⟨X1.heap.size, 1, none⟩) (show X1.heap.size < X2.heap.size by have := s_2; omega)).trans p11)).mono ?_
        rintro e X4 ⟨G1, g1, rfl, o1, d_4⟩
        have HX4 := stepB HX3 d_4
        refine hK _ _ (hlY _ HX4) ?_
        clear hK KK
        try simp only [Act.put, List.setIfInBounds_toArray, List.set_cons_zero, List.set_cons_succ]
        have hA18 := hnext hA (rs := [18]) (i := 18) (by kernel_rfl) (by decide) (by decide)
        refine wpHead_ready (rs := [18]) (by kernel_rfl) (by decide) (AllHead.cons (at_drop rfl) (by decide) (fun KK hK => ?_) AllHead.nil)
        replace hA := hA18
        go_simp
        refine (HC2.out X4 HX4 X2.heap.size (show X2.heap.size < X4.heap.size by have := s_3; have := d_4.size; omega) ((d_4.cell (p := ⟨X2.heap.size, 0, none⟩) (show X2.heap.size < X3.heap.size by have := s_3; omega)).trans p20) ((d_4.cell (p := ⟨X2.heap.size, 1, none⟩) (show X2.heap.size < X3.heap.size by have := s_3; omega)).trans p21)).mono ?_
        rintro e X5 ⟨G2, g2, rfl, o2, d_5⟩
        have HX5 := stepB HX4 d_5
        refine hK _ _ (hlY _ HX5) ?_
        clear hK KK
        try simp only [Act.put, List.setIfInBounds_toArray, List.set_cons_zero, List.set_cons_succ]
        have hA24 := hnext hA (rs := [24]) (i := 24) (by kernel_rfl) (by decide) (by decide)
        refine wpHead_ready (rs := [24]) (by kernel_rfl) (by decide) (AllHead.cons (at_drop rfl) (by decide) (fun KK hK => ?_) AllHead.nil)
        replace hA := hA24
        go_simp
        refine (HC3.out X5 HX5 X0.heap.size (show X0.heap.size < X5.heap.size by have := s_1; have := d_2.size; have := d_3.size; have := d_4.size; have := d_5.size; omega) ((d_5.cell (p := ⟨X0.heap.size, 0, none⟩) (show X0.heap.size < X4.heap.size by have := s_1; have := d_2.size; have := d_3.size; have := d_4.size; omega)).trans ((d_4.cell (p := ⟨X0.heap.size, 0, none⟩) (show X0.heap.size < X3.heap.size by have := s_1; have := d_2.size; have := d_3.size; omega)).trans ((d_3.cell (p := ⟨X0.heap.size, 0, none⟩) (show X0.heap.size < X2.heap.size by have := s_1; have := d_2.size; omega)).trans ((d_2.cell (p := ⟨X0.heap.size, 0, none⟩) (show X0.heap.size < X1.heap.size by have := s_1; omega)).trans p30)))) ((d_5.cell (p := ⟨X0.heap.size, 1, none⟩) (show X0.heap.size < X4.heap.size by have := s_1; have := d_2.size; have := d_3.size; have := d_4.size; omega)).trans ((d_4.cell (p := ⟨X0.heap.size, 1, none⟩) (show X0.heap.size < X3.heap.size by have := s_1; have := d_2.size; have := d_3.size; omega)).trans ((d_3.cell (p := ⟨X0.heap.size, 1, none⟩) (show X0.heap.size < X2.heap.size by have := s_1; have := d_2.size; omega)).trans ((d_2.cell (p := ⟨X0.heap.size, 1, none⟩) (show X0.heap.size < X1.heap.size by have := s_1; omega)).trans p31))))).mono ?_
        rintro e X6 ⟨G3, g3, rfl, o3, d_6⟩
        have HX6 := stepB HX5 d_6
        refine hK _ _ (hlY _ HX6) ?_
        clear hK KK
        try simp only [Act.put, List.setIfInBounds_toArray, List.set_cons_zero, List.set_cons_succ]
        refine wpHead_take (i := 25) (v := ?_) (by kernel_rfl) hA (at_drop rfl) (by decide) (by kernel_rfl) (by kernel_rfl) (by kernel_rfl) (fun _ _ _ h => h) (Or.inl ⟨by rfl, ?_⟩) (hlY _ HX6) (fun hA => ?_)
        rotate_left
        · (intro w hSw; obtain ⟨s0, s1, s2, s3, s4⟩ := hSw.1.cells; obtain ⟨t0, t1, t2, t3, t4⟩ := hSw.2.1.cells; obtain ⟨u0, u1, u2, u3, u4⟩ := hSw.2.2.cells; go_simp <;> with_reducible rfl)
        simp only [Act.put, List.setIfInBounds_toArray, List.set_cons_zero, List.set_cons_succ]
        refine wpHead_end (by kernel_rfl) ?_
        simp only [List.drop_succ_cons, List.drop_zero]
        have HF := HEnd.out X6 HX6 G1 G2 G3 g1 g2 g3 (ownsRow_mono ((o1.below d_5).below d_6) (stepB hB0 HX3).size) (ownsRow_mono (o2.below d_6) (stepB hB0 HX4).size) (ownsRow_mono o3 (stepB hB0 HX5).size)
        clear hlY
        obtain ⟨⟨x0, f0⟩, ⟨x1, f1⟩, ⟨x2, f2⟩, ⟨x3, f3⟩, ⟨x4, f4⟩, hR⟩ := HF
        go_wp2
        obtain ⟨⟨y0, y1, y2, y3, y4⟩, hb5, hN⟩ := hR
        unfold put5 at y0 y1 y2 y3 y4 hb5 hN
        refine bodyPost_ret (v := .tuple #[.agg #[.int .i64 n.V, .int .i64 (n.S + m.S), .slice G1 (n.st.length + m.st.length) g1, .slice G2 (n.fi.length + m.fi.length) g2, .slice G3 (n.es.length + m.es.length) g3], .int .i64 0]) (by simp [results, Tryd.results9, go_sem, y0, y1, y2, y3, y4]) rfl ?_
        exact ⟨_, _, _, ⟨_, _, _, rfl⟩, hb5, hN⟩
    · replace hA := hA17
      go_simp
      have d_2 := bal (Below.refl X1.heap.size X1) (.cells #[.slice B n.fi.length b, .slice E1 m.fi.length e1'] 23)
      have s_2 : X1.heap.size < (World.alloc X1 (.cells #[.slice B n.fi.length b, .slice E1 m.fi.length e1'] 23)).heap.size := by simp
      have p20 : (World.alloc X1 (.cells #[.slice B n.fi.length b, .slice E1 m.fi.length e1'] 23)).cell? ⟨X1.heap.size, 0, none⟩ = some (Value.slice B n.fi.length b) := World.cell?_alloc_at _ _ _ _ rfl
      have p21 : (World.alloc X1 (.cells #[.slice B n.fi.length b, .slice E1 m.fi.length e1'] 23)).cell? ⟨X1.heap.size, 1, none⟩ = some (Value.slice E1 m.fi.length e1') := World.cell?_alloc_at _ _ _ _ rfl
      generalize (World.alloc X1 (.cells #[.slice B n.fi.length b, .slice E1 m.fi.length e1'] 23)) = X2 at *
      have HX2 := stepB HX1 d_2
      refine hK _ _ (hlY _ HX2) ?_
      clear hK KK
      try simp only [Act.put, List.setIfInBounds_toArray, List.set_cons_zero, List.set_cons_succ]
      have hA11 := hnext hA (rs := [11]) (i := 11) (by kernel_rfl) (by decide) (by decide)
      refine wpHead_ready (rs := [11]) (by kernel_rfl) (by decide) (AllHead.cons (at_drop rfl) (by decide) (fun KK hK => ?_) AllHead.nil)
      replace hA := hA11
      go_simp
      have d_3 := bal (Below.refl X2.heap.size X2) (.cells #[.slice A n.st.length a, .slice D1 m.st.length d1] 23)
      have s_3 : X2.heap.size < (World.alloc X2 (.cells #[.slice A n.st.length a, .slice D1 m.st.length d1] 23)).heap.size := by simp
      have p10 : (World.alloc X2 (.cells #[.slice A n.st.length a, .slice D1 m.st.length d1] 23)).cell? ⟨X2.heap.size, 0, none⟩ = some (Value.slice A n.st.length a) := World.cell?_alloc_at _ _ _ _ rfl
      have p11 : (World.alloc X2 (.cells #[.slice A n.st.length a, .slice D1 m.st.length d1] 23)).cell? ⟨X2.heap.size, 1, none⟩ = some (Value.slice D1 m.st.length d1) := World.cell?_alloc_at _ _ _ _ rfl
      generalize (World.alloc X2 (.cells #[.slice A n.st.length a, .slice D1 m.st.length d1] 23)) = X3 at *
      have HX3 := stepB HX2 d_3
      refine hK _ _ (hlY _ HX3) ?_
      clear hK KK
      try simp only [Act.put, List.setIfInBounds_toArray, List.set_cons_zero, List.set_cons_succ]
      have hA12 := hnext hA (rs := [12]) (i := 12) (by kernel_rfl) (by decide) (by decide)
      refine wpHead_ready (rs := [12]) (by kernel_rfl) (by decide) (AllHead.cons (at_drop rfl) (by decide) (fun KK hK => ?_) AllHead.nil)
      replace hA := hA12
      go_simp
      refine (HC1.out X3 HX3 X2.heap.size (show X2.heap.size < X3.heap.size by have := s_3; omega) p10 p11).mono ?_
      rintro e X4 ⟨G1, g1, rfl, o1, d_4⟩
      have HX4 := stepB HX3 d_4
      refine hK _ _ (hlY _ HX4) ?_
      clear hK KK
      try simp only [Act.put, List.setIfInBounds_toArray, List.set_cons_zero, List.set_cons_succ]
      have hA18 := hnext hA (rs := [18]) (i := 18) (by kernel_rfl) (by decide) (by decide)
      refine wpHead_ready (rs := [18]) (by kernel_rfl) (by decide) (AllHead.cons (at_drop rfl) (by decide) (fun KK hK => ?_) AllHead.nil)
      replace hA := hA18
      go_simp
      refine (HC2.out X4 HX4 X1.heap.size (show X1.heap.size < X4.heap.size by have := s_2; have := d_3.size; have := d_4.size; omega) ((d_4.cell (p := ⟨X1.heap.size, 0, none⟩) (show X1.heap.size < X3.heap.size by have := s_2; have := d_3.size; omega)).trans ((d_3.cell (p := ⟨X1.heap.size, 0, none⟩) (show X1.heap.size < X2.heap.size by have := s_2; omega)).trans p20)) ((d_4.cell (p := ⟨X1.heap.size, 1, none⟩) (show X1.heap.size < X3.heap.size by have := s_2; have := d_3.size; omega)).trans ((d_3.cell (p := ⟨X1.heap.size, 1, none⟩) (show X1.heap.size < X2.heap.size by have := s_2; omega)).trans p21))).mono ?_
      rintro e X5 ⟨G2, g2, rfl, o2, d_5⟩
      have HX5 := stepB HX4 d_5
      refine hK _ _ (hlY _ HX5) ?_
      clear hK KK
      try simp only [Act.put, List.setIfInBounds_toArray, List.set_cons_zero, List.set_cons_succ]
      have hA24 := hnext hA (rs := [24]) (i := 24) (by kernel_rfl) (by decide) (by decide)
      refine wpHead_ready (rs := [24]) (by kernel_rfl) (by decide) (AllHead.cons (at_drop rfl) (by decide) (fun KK hK => ?_) AllHead.nil)
      replace hA := hA24
      go_simp
      refine (HC3.out X5 HX5 X0.heap.size (show X0.heap.size < X5.heap.size by have := s_1; have := d_2.size; have := d_3.size; have := d_4.size; have := d_5.size; omega) ((d_5.cell (p := ⟨X0.heap.size, 0, none⟩) (show X0.heap.size < X4.heap.size by have := s_1; have := d_2.size; have := d_3.size; have := d_4.size; omega)).trans ((d_4.cell (p := ⟨X0.heap.size, 0, none⟩) (show X0.heap.size < X3.heap.size by have := s_1; have := d_2.size; have := d_3.size; omega)).trans ((d_3.cell (p := ⟨X0.heap.size, 0, none⟩) (show X0.heap.size < X2.heap.size by have := s_1; have := d_2.size; omega)).trans ((d_2.cell (p := ⟨X0.heap.size, 0, none⟩) (show X0.heap.size < X1.heap.size by have := s_1; omega)).trans p30)))) ((d_5.cell (p := ⟨X0.heap.size, 1, none⟩) (show X0.heap.size < X4.heap.size by have := s_1; have := d_2.size; have := d_3.size; have := d_4.size; omega)).trans ((d_4.cell (p := ⟨X0.heap.size, 1, none⟩) (show X0.heap.size < X3.heap.size by have := s_1; have := d_2.size; have := d_3.size; omega)).trans ((d_3.cell (p := ⟨X0.heap.size, 1, none⟩) (show X0.heap.size < X2.heap.size by have := s_1; have := d_2.size; omega)).trans ((d_2.cell (p := ⟨X0.heap.size, 1, none⟩) (show X0.heap.size < X1.heap.size by have := s_1; omega)).trans p31))))).mono ?_
      rintro e X6 ⟨G3, g3, rfl, o3, d_6⟩
      have HX6 := stepB HX5 d_6
      refine hK _ _ (hlY _ HX6) ?_
      clear hK KK
      try simp only [Act.put, List.setIfInBounds_toArray, List.set_cons_zero, List.set_cons_succ]
      refine wpHead_take (i := 25) (v := ?_) (by kernel_rfl) hA (at_drop rfl) (by decide) (by kernel_rfl) (by kernel_rfl) (by kernel_rfl) (fun _ _ _ h => h) (Or.inl ⟨by rfl, ?_⟩) (hlY _ HX6) (fun hA => ?_)
      rotate_left
      · (intro w hSw; obtain ⟨s0, s1, s2, s3, s4⟩ := hSw.1.cells; obtain ⟨t0, t1, t2, t3, t4⟩ := hSw.2.1.cells; obtain ⟨u0, u1, u2, u3, u4⟩ := hSw.2.2.cells; go_simp <;> with_reducible rfl)
      simp only [Act.put, List.setIfInBounds_toArray, List.set_cons_zero, List.set_cons_succ]
      refine wpHead_end (by kernel_rfl) ?_
      simp only [List.drop_succ_cons, List.drop_zero]
      have HF := HEnd.out X6 HX6 G1 G2 G3 g1 g2 g3 (ownsRow_mono ((o1.below d_5).below d_6) (stepB hB0 HX3).size) (ownsRow_mono (o2.below d_6) (stepB hB0 HX4).size) (ownsRow_mono o3 (stepB hB0 HX5).size)
      clear hlY
      obtain ⟨⟨x0, f0⟩, ⟨x1, f1⟩, ⟨x2, f2⟩, ⟨x3, f3⟩, ⟨x4, f4⟩, hR⟩ := HF
      go_wp2
      obtain ⟨⟨y0, y1, y2, y3, y4⟩, hb5, hN⟩ := hR
      unfold put5 at y0 y1 y2 y3 y4 hb5 hN
      refine bodyPost_ret (v := .tuple #[.agg #[.int .i64 n.V, .int .i64 (n.S + m.S), .slice G1 (n.st.length + m.st.length) g1, .slice G2 (n.fi.length + m.fi.length) g2, .slice G3 (n.es.length + m.es.length) g3], .int .i64 0]) (by simp [results, Tryd.results9, go_sem, y0, y1, y2, y3, y4]) rfl ?_
      exact ⟨_, _, _, ⟨_, _, _, rfl⟩, hb5, hN⟩
end Go.Proofs.YteckkbjpeckjmaaDoor.Nf
