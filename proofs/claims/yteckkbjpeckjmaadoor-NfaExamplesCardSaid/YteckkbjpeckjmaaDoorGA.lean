/- checkUnion (package nfa). -/
import Derived.Test.YteckkbjpeckjmaaDoorFN
namespace Go.Proofs.YteckkbjpeckjmaaDoor.Nf
open Go Go.RowKit Go.Proofs.YteckkbjpeckjmaaDoor Go.Proofs.YteckkbjpeckjmaaDoor.Cb
set_option linter.unusedVariables false
set_option linter.unusedSimpArgs false
set_option maxRecDepth 100000
/-- A block of two automata. -/
structure Ten (w : World) (g : Nat) (u0 u1 u2 u3 u4 v0 v1 v2 v3 v4 : Value) : Prop where
  lt : g < w.heap.size
  c0 : w.cell? ⟨g, 0, none⟩ = some u0
  c1 : w.cell? ⟨g, 1, none⟩ = some u1
  c2 : w.cell? ⟨g, 2, none⟩ = some u2
  c3 : w.cell? ⟨g, 3, none⟩ = some u3
  c4 : w.cell? ⟨g, 4, none⟩ = some u4
  d0 : w.cell? ⟨g, 5, none⟩ = some v0
  d1 : w.cell? ⟨g, 6, none⟩ = some v1
  d2 : w.cell? ⟨g, 7, none⟩ = some v2
  d3 : w.cell? ⟨g, 8, none⟩ = some v3
  d4 : w.cell? ⟨g, 9, none⟩ = some v4
theorem Ten.new (w : World) (t : TypeId) (u0 u1 u2 u3 u4 v0 v1 v2 v3 v4 : Value) : Ten (w.alloc (.cells #[u0, u1, u2, u3, u4, v0, v1, v2, v3, v4] t)) w.heap.size u0 u1 u2 u3 u4 v0 v1 v2 v3 v4 := by
  refine ⟨by simp, ?_, ?_, ?_, ?_, ?_, ?_, ?_, ?_, ?_, ?_⟩ <;> rw [World.cell?_alloc_at _ _ _ _ rfl] <;> rfl
theorem Ten.below {w w' : World} {g : Nat} {u0 u1 u2 u3 u4 v0 v1 v2 v3 v4 : Value} (h : Ten w g u0 u1 u2 u3 u4 v0 v1 v2 v3 v4) (hb : Below w.heap.size w w') : Ten w' g u0 u1 u2 u3 u4 v0 v1 v2 v3 v4 :=
  ⟨Nat.lt_of_lt_of_le h.lt hb.size, (hb.cell (p := ⟨g, 0, none⟩) h.lt).trans h.c0, (hb.cell (p := ⟨g, 1, none⟩) h.lt).trans h.c1, (hb.cell (p := ⟨g, 2, none⟩) h.lt).trans h.c2, (hb.cell (p := ⟨g, 3, none⟩) h.lt).trans h.c3, (hb.cell (p := ⟨g, 4, none⟩) h.lt).trans h.c4,
   (hb.cell (p := ⟨g, 5, none⟩) h.lt).trans h.d0, (hb.cell (p := ⟨g, 6, none⟩) h.lt).trans h.d1, (hb.cell (p := ⟨g, 7, none⟩) h.lt).trans h.d2, (hb.cell (p := ⟨g, 8, none⟩) h.lt).trans h.d3, (hb.cell (p := ⟨g, 9, none⟩) h.lt).trans h.d4⟩
set_option maxHeartbeats 8000000 in
theorem checkUnion_any (n m : Na) (A B C D E F : Option Addr) (a b c d e f : Nat) (w : World) (hx : NaAt w n A B C) (hl : NaLen n) (hy : NaAt w m D E F) (hk : NaLen m) :
    Calls Tryd.prog 42 #[.agg #[.int .i64 n.V, .int .i64 n.S, .slice A n.st.length a, .slice B n.fi.length b, .slice C n.es.length c], .agg #[.int .i64 m.V, .int .i64 m.S, .slice D m.st.length d, .slice E m.fi.length e, .slice F m.es.length f]] w fun r w' => r = .returned (.int .i64 (uniE n m)) ∧ Below w.heap.size w w' := by
  have H1 := Lib.hid fun X (hX : Below w.heap.size w X) => Check6_any n A B C a b c X (hx.below hX) hl
  have H2 := Lib.hid fun X (hX : Below w.heap.size w X) => Check6_any m D E F d e f X (hy.below hX) hk
  have hle := hl.es
  have hke := hk.es
  clear hx hy hl hk
  have hB1 := (Boxed5.new w 26 (.int .i64 n.V) (.int .i64 n.S) (.slice A n.st.length a) (.slice B n.fi.length b) (.slice C n.es.length c)).below (bal (Below.refl _ _) (.cells #[.int .i64 m.V, .int .i64 m.S, .slice D m.st.length d, .slice E m.fi.length e, .slice F m.es.length f] 26))
  have hB2 := Boxed5.new (w.alloc (.cells #[.int .i64 n.V, .int .i64 n.S, .slice A n.st.length a, .slice B n.fi.length b, .slice C n.es.length c] 26)) 26 (.int .i64 m.V) (.int .i64 m.S) (.slice D m.st.length d) (.slice E m.fi.length e) (.slice F m.es.length f)
  have hb0 := bal (bal (Below.refl w.heap.size w) (.cells #[.int .i64 n.V, .int .i64 n.S, .slice A n.st.length a, .slice B n.fi.length b, .slice C n.es.length c] 26)) (.cells #[.int .i64 m.V, .int .i64 m.S, .slice D m.st.length d, .slice E m.fi.length e, .slice F m.es.length f] 26)
  simp only [World.size_alloc] at hB2
  go_enter Tryd.func42, Tryd.ntmps42
  obtain ⟨y0, y1, y2, y3, y4⟩ := hB1.cells
  obtain ⟨z0, z1, z2, z3, z4⟩ := hB2.cells
  go_wp2
  generalize hW2 : ((w.alloc (.cells #[.int .i64 n.V, .int .i64 n.S, .slice A n.st.length a, .slice B n.fi.length b, .slice C n.es.length c] 26)).alloc (.cells #[.int .i64 m.V, .int .i64 m.S, .slice D m.st.length d, .slice E m.fi.length e, .slice F m.es.length f] 26)) = W2 at *
  have hsz2 : W2.heap.size = w.heap.size + 1 + 1 := by rw [← hW2]; simp
  clear hW2
  have hbt := bal (Below.refl W2.heap.size W2) (.cells #[.int .i64 n.V, .int .i64 n.S, .slice A n.st.length a, .slice B n.fi.length b, .slice C n.es.length c, .int .i64 m.V, .int .i64 m.S, .slice D m.st.length d, .slice E m.fi.length e, .slice F m.es.length f] 26)
  have hT := Ten.new W2 26 (.int .i64 n.V) (.int .i64 n.S) (.slice A n.st.length a) (.slice B n.fi.length b) (.slice C n.es.length c) (.int .i64 m.V) (.int .i64 m.S) (.slice D m.st.length d) (.slice E m.fi.length e) (.slice F m.es.length f)
  rw [hsz2] at hT
  replace hb0 := stepB hb0 hbt
  replace hB1 := hB1.below hbt
  replace hB2 := hB2.below hbt
  clear hbt y0 y1 y2 y3 y4 z0 z1 z2 z3 z4
  generalize World.alloc W2 (.cells #[.int .i64 n.V, .int .i64 n.S, .slice A n.st.length a, .slice B n.fi.length b, .slice C n.es.length c, .int .i64 m.V, .int .i64 m.S, .slice D m.st.length d, .slice E m.fi.length e, .slice F m.es.length f] 26) = W3 at *
  go_loopw [12] (fun i wr => ∃ k : Nat, k ≤ 2 ∧ i = .int .i64 k ∧ Hid ((1 ≤ k → chkN n = 0) ∧ (2 ≤ k → chkN m = 0)) ∧ Boxed5 wr w.heap.size (.int .i64 n.V) (.int .i64 n.S) (.slice A n.st.length a) (.slice B n.fi.length b) (.slice C n.es.length c) ∧ Boxed5 wr (w.heap.size + 1) (.int .i64 m.V) (.int .i64 m.S) (.slice D m.st.length d) (.slice E m.fi.length e) (.slice F m.es.length f) ∧ Ten wr (w.heap.size + 1 + 1) (.int .i64 n.V) (.int .i64 n.S) (.slice A n.st.length a) (.slice B n.fi.length b) (.slice C n.es.length c) (.int .i64 m.V) (.int .i64 m.S) (.slice D m.st.length d) (.slice E m.fi.length e) (.slice F m.es.length f) ∧ Below w.heap.size w wr) (fun i _ => 2 - (intOf i).toNat)
  case atStart => exact ⟨0, by omega, rfl, ⟨fun h => absurd h (by omega), fun h => absurd h (by omega)⟩, hB1, hB2, hT, hb0⟩
  case round =>
    clear hB1 hB2 hT hb0
    obtain ⟨k, hk, rfl, H, hB1, hB2, hT, hb0⟩ := hrel
    have hk3 : k = 0 ∨ k = 1 ∨ k = 2 := by omega
    obtain ⟨t0, t1, t2, t3, t4, t5, t6, t7, t8, t9⟩ := And.intro hT.c0 (And.intro hT.c1 (And.intro hT.c2 (And.intro hT.c3 (And.intro hT.c4 (And.intro hT.d0 (And.intro hT.d1 (And.intro hT.d2 (And.intro hT.d3 hT.d4))))))))
    rcases hk3 with rfl | rfl | rfl
    · have hba := bal (Below.refl wr.heap.size wr) (.cells #[.int .i64 n.V, .int .i64 n.S, .slice A n.st.length a, .slice B n.fi.length b, .slice C n.es.length c] 26)
      have hBn := Boxed5.new wr 26 (.int .i64 n.V) (.int .i64 n.S) (.slice A n.st.length a) (.slice B n.fi.length b) (.slice C n.es.length c)
      have hb1 := stepB hb0 hba
      obtain ⟨x0, x1, x2, x3, x4⟩ := hBn.cells
      by_cases h0 : chkN n = 0
      · have HC := Lib.hid fun X (hX : Below w.heap.size w X) => H1.out X hX
        rw [h0] at HC
        go_wp2_with (go_at_call 10; ((with_reducible refine (HC.out _ hb1).mono ?_); rintro r w2 ⟨rfl, hb2⟩))
        have K := stepB hba hb2
        go_roundw
        case rel => exact ⟨0 + 1, by omega, by go_num, ⟨fun _ => h0, fun h => absurd h (by omega)⟩, hB1.below K, hB2.below K, hT.below K, stepB hb0 K⟩
        case measure => simp [intOf]
      · have hE : Hid (uniE n m = chkN n) := if_pos h0
        have hne : (chkN n != 0) = true := by rw [bne_iff_ne]; exact h0
        have HC := Lib.hid fun X (hX : Below w.heap.size w X) => H1.out X hX
        clear h0 H
        generalize chkN n = e0 at *
        go_wp2_with (go_at_call 10; ((with_reducible refine (HC.out _ hb1).mono ?_); rintro r w2 ⟨rfl, hb2⟩))
        go_ret
        exact ⟨ret_int hE.out.symm, stepB hb1 hb2⟩
    · have h0 := H.out.1 (by omega)
      have hba := bal (Below.refl wr.heap.size wr) (.cells #[.int .i64 m.V, .int .i64 m.S, .slice D m.st.length d, .slice E m.fi.length e, .slice F m.es.length f] 26)
      have hBn := Boxed5.new wr 26 (.int .i64 m.V) (.int .i64 m.S) (.slice D m.st.length d) (.slice E m.fi.length e) (.slice F m.es.length f)
      have hb1 := stepB hb0 hba
      obtain ⟨x0, x1, x2, x3, x4⟩ := hBn.cells
      by_cases h1 : chkN m = 0
      · have HC := Lib.hid fun X (hX : Below w.heap.size w X) => H2.out X hX
        rw [h1] at HC
        go_wp2_with (go_at_call 10; ((with_reducible refine (HC.out _ hb1).mono ?_); rintro r w2 ⟨rfl, hb2⟩))
        have K := stepB hba hb2
        go_roundw
        case rel => exact ⟨1 + 1, by omega, by go_num, ⟨fun _ => h0, fun _ => h1⟩, hB1.below K, hB2.below K, hT.below K, stepB hb0 K⟩
        case measure => simp [intOf]
      · have hE : Hid (uniE n m = chkN m) := by
          unfold Hid uniE
          rw [if_neg (fun h => h h0), if_pos h1]
        have hne : (chkN m != 0) = true := by rw [bne_iff_ne]; exact h1
        have HC := Lib.hid fun X (hX : Below w.heap.size w X) => H2.out X hX
        clear h1 h0 H
        generalize chkN m = e0 at *
        go_wp2_with (go_at_call 10; ((with_reducible refine (HC.out _ hb1).mono ?_); rintro r w2 ⟨rfl, hb2⟩))
        go_ret
        exact ⟨ret_int hE.out.symm, stepB hb1 hb2⟩
    · have h0 := H.out.1 (by omega)
      have h1 := H.out.2 (by omega)
      have o1 := ok_of h0
      have o2 := ok_of h1
      have s1 := o1.s0
      have s2 := o1.s64
      have s3 := o2.s0
      have s4 := o2.s64
      obtain ⟨x0, x1, x2, x3, x4⟩ := hB1.cells
      obtain ⟨z0, z1, z2, z3, z4⟩ := hB2.cells
      have hw1 : IntKind.i64.wrap (n.S + m.S) = n.S + m.S := by rw [IntKind.wrap_i64]; omega
      have hw2 : IntKind.i64.wrap ((n.es.length : Int) + (m.es.length : Int)) = (n.es.length : Int) + (m.es.length : Int) := by rw [IntKind.wrap_i64]; omega
      by_cases hV : n.V = m.V
      · have hVb : (n.V != m.V) = false := by rw [hV]; simp
        have HS := Lib.hid fun X => isSmall_any (n.S + m.S) ((n.es.length : Int) + (m.es.length : Int)) X
        by_cases hS : n.S + m.S ≤ 64 ∧ n.es.length + m.es.length ≤ 512
        · have hE : Hid (uniE n m = 0) := by
            unfold Hid uniE
            rw [if_neg (fun h => h h0), if_neg (fun h => h h1), if_neg (fun h => h hV), if_neg (fun h => h hS)]
          rw [decide_eq_true (by omega)] at HS
          clear hT H h0 h1 o1 o2 hV hS
          go_wp2_with (go_at_call 81; ((with_reducible refine (HS.out _).mono ?_); rintro r w3 ⟨rfl, rfl⟩))
          go_ret
          exact ⟨ret_int hE.out.symm, hb0⟩
        · have hE : Hid (uniE n m = 4) := by
            unfold Hid uniE
            rw [if_neg (fun h => h h0), if_neg (fun h => h h1), if_neg (fun h => h hV), if_pos hS]
          rw [decide_eq_false (by omega)] at HS
          clear hT H h0 h1 o1 o2 hV hS
          go_wp2_with (go_at_call 81; ((with_reducible refine (HS.out _).mono ?_); rintro r w3 ⟨rfl, rfl⟩))
          go_ret
          exact ⟨ret_int hE.out.symm, hb0⟩
      · have hVb : (n.V != m.V) = true := by rw [bne_iff_ne]; exact hV
        have hE : Hid (uniE n m = 7) := by
          unfold Hid uniE
          rw [if_neg (fun h => h h0), if_neg (fun h => h h1), if_pos hV]
        clear hT H h0 h1 o1 o2 hV
        go_wp2
        go_ret
        exact ⟨ret_int hE.out.symm, hb0⟩
end Go.Proofs.YteckkbjpeckjmaaDoor.Nf
