/- Reverse (package nfa). -/
import Derived.Test.YteckkbjpeckjmaaDoorFL
namespace Go.Proofs.YteckkbjpeckjmaaDoor.Nf
open Go Go.RowKit Go.Proofs.YteckkbjpeckjmaaDoor Go.Proofs.YteckkbjpeckjmaaDoor.Cb
set_option linter.unusedVariables false
set_option linter.unusedSimpArgs false
set_option maxRecDepth 100000
/-- Five stores into a block. -/
def put5 (Y : World) (b : Nat) (v0 v1 v2 v3 v4 : Value) : World := (((((Y.setCell ⟨b, 0, none⟩ v0).setCell ⟨b, 1, none⟩ v1).setCell ⟨b, 2, none⟩ v2).setCell ⟨b, 3, none⟩ v3).setCell ⟨b, 4, none⟩ v4)
theorem store5 {Y : World} {b : Nat} {u0 u1 u2 u3 u4 : Value} (h : Blk Y b u0 u1 u2 u3 u4) (v0 v1 v2 v3 v4 : Value) :
    (Y.cell? ⟨b, 0, none⟩ = some u0 ∧ Y.frozen? ⟨b, 0, none⟩ = false) ∧
    ((Y.setCell ⟨b, 0, none⟩ v0).cell? ⟨b, 1, none⟩ = some u1 ∧ (Y.setCell ⟨b, 0, none⟩ v0).frozen? ⟨b, 1, none⟩ = false) ∧
    (((Y.setCell ⟨b, 0, none⟩ v0).setCell ⟨b, 1, none⟩ v1).cell? ⟨b, 2, none⟩ = some u2 ∧ ((Y.setCell ⟨b, 0, none⟩ v0).setCell ⟨b, 1, none⟩ v1).frozen? ⟨b, 2, none⟩ = false) ∧
    ((((Y.setCell ⟨b, 0, none⟩ v0).setCell ⟨b, 1, none⟩ v1).setCell ⟨b, 2, none⟩ v2).cell? ⟨b, 3, none⟩ = some u3 ∧ (((Y.setCell ⟨b, 0, none⟩ v0).setCell ⟨b, 1, none⟩ v1).setCell ⟨b, 2, none⟩ v2).frozen? ⟨b, 3, none⟩ = false) ∧
    (((((Y.setCell ⟨b, 0, none⟩ v0).setCell ⟨b, 1, none⟩ v1).setCell ⟨b, 2, none⟩ v2).setCell ⟨b, 3, none⟩ v3).cell? ⟨b, 4, none⟩ = some u4 ∧ ((((Y.setCell ⟨b, 0, none⟩ v0).setCell ⟨b, 1, none⟩ v1).setCell ⟨b, 2, none⟩ v2).setCell ⟨b, 3, none⟩ v3).frozen? ⟨b, 4, none⟩ = false) ∧ Blk (put5 Y b v0 v1 v2 v3 v4) b v0 v1 v2 v3 v4 ∧ (∀ B, B ≤ b → Below B Y (put5 Y b v0 v1 v2 v3 v4)) ∧
    (∀ B e size m v xs, Y.ownsRow B e size v m xs → e ≠ 26 → (put5 Y b v0 v1 v2 v3 v4).ownsRow B e size v m xs) := by
  have q0 := h
  have q1 := q0.set0 v0
  have q2 := q1.set1 v1
  have q3 := q2.set2 v2
  have q4 := q3.set3 v3
  have q5 := q4.set4 v4
  refine ⟨⟨q0.cells.1, q0.frozen 0⟩, ⟨q1.cells.2.1, q1.frozen 1⟩, ⟨q2.cells.2.2.1, q2.frozen 2⟩, ⟨q3.cells.2.2.2.1, q3.frozen 3⟩, ⟨q4.cells.2.2.2.2, q4.frozen 4⟩, q5, fun B hB => ?_, fun B e size m v xs ho he => ?_⟩
  · exact (((((Below.refl B Y).setCell (p := ⟨b, 0, none⟩) hB _).setCell (p := ⟨b, 1, none⟩) hB _).setCell (p := ⟨b, 2, none⟩) hB _).setCell (p := ⟨b, 3, none⟩) hB _).setCell (p := ⟨b, 4, none⟩) hB _
  · have m0 := row_set ho (q0.ne_row ho he) 0 v0
    have m1 := row_set m0 (q1.ne_row m0 he) 1 v1
    have m2 := row_set m1 (q2.ne_row m1 he) 2 v2
    have m3 := row_set m2 (q3.ne_row m2 he) 3 v3
    exact row_set m3 (q4.ne_row m3 he) 4 v4
/-- An automaton that a call made: the rows lie in blocks from B on. -/
structure OwnN (B : Nat) (w : World) (n : Na) (A1 B1 C1 : Option Addr) (a1 b1 c1 : Nat) : Prop where
  o1 : w.ownsRow B 3 1 (.slice A1 n.st.length a1) n.st.length (zvs n.st)
  o2 : w.ownsRow B 3 1 (.slice B1 n.fi.length b1) n.fi.length (zvs n.fi)
  o3 : w.ownsRow B 30 4 (.slice C1 n.es.length c1) n.es.length (evs n.es)
theorem OwnN.at_ {B : Nat} {w : World} {n : Na} {A1 B1 C1 : Option Addr} {a1 b1 c1 : Nat} (h : OwnN B w n A1 B1 C1 a1 b1 c1) (hv : InJ n.V) (hs : InJ n.S) (he : ∀ x ∈ n.es, EdOk x) : NaAt w n A1 B1 C1 :=
  ⟨hv, hs, Dg.ints_row h.o1 rfl, Dg.ints_row h.o2 rfl, eds_of_own h.o3 he⟩
theorem OwnN.below {B : Nat} {w w' : World} {n : Na} {A1 B1 C1 : Option Addr} {a1 b1 c1 : Nat} (h : OwnN B w n A1 B1 C1 a1 b1 c1) (hb : Below w.heap.size w w') : OwnN B w' n A1 B1 C1 a1 b1 c1 := ⟨h.o1.below hb, h.o2.below hb, h.o3.below hb⟩
theorem OwnN.low {B B' : Nat} {w : World} {n : Na} {A1 B1 C1 : Option Addr} {a1 b1 c1 : Nat} (h : OwnN B w n A1 B1 C1 a1 b1 c1) (hb : B' ≤ B) : OwnN B' w n A1 B1 C1 a1 b1 c1 := ⟨ownsRow_mono h.o1 hb, ownsRow_mono h.o2 hb, ownsRow_mono h.o3 hb⟩
set_option maxHeartbeats 2000000 in
theorem Reverse_good (n : Na) (A B C : Option Addr) (a b c : Nat) (w : World) (hx : NaAt w n A B C) (hl : NaLen n) (h0 : chkN n = 0) :
    Calls Tryd.prog 29 #[.agg #[.int .i64 n.V, .int .i64 n.S, .slice A n.st.length a, .slice B n.fi.length b, .slice C n.es.length c]] w fun e w' =>
      ∃ A' B' C' a' b' c', e = .returned (.tuple #[.agg #[.int .i64 n.V, .int .i64 n.S, .slice A' n.fi.length a', .slice B' n.st.length b', .slice C' (revN n).es.length c'], .int .i64 0]) ∧ Below w.heap.size w w' ∧ OwnN w.heap.size w' (revN n) A' B' C' a' b' c' := by
  have hb0 := bal (bal (Below.refl w.heap.size w) (.cells #[.int .i64 n.V, .int .i64 n.S, .slice A n.st.length a, .slice B n.fi.length b, .slice C n.es.length c] 26)) (.cells #[.int .i64 0, .int .i64 0, .slice none 0 0, .slice none 0 0, .slice none 0 0] 26)
  have hN0 := (Blk.new w (.int .i64 n.V) (.int .i64 n.S) (.slice A n.st.length a) (.slice B n.fi.length b) (.slice C n.es.length c)).below (bal (Below.refl _ _) (.cells #[.int .i64 0, .int .i64 0, .slice none 0 0, .slice none 0 0, .slice none 0 0] 26))
  have hR0 := Blk.new (w.alloc (.cells #[.int .i64 n.V, .int .i64 n.S, .slice A n.st.length a, .slice B n.fi.length b, .slice C n.es.length c] 26)) (.int .i64 0) (.int .i64 0) (.slice none 0 0) (.slice none 0 0) (.slice none 0 0)
  rw [World.size_alloc] at hR0
  have HC := Check6_any n A B C a b c _ (hx.below hb0) hl
  rw [h0] at HC
  have HC := Lib.hid HC
  have HV := Lib.hid fun X (hX : Below w.heap.size w X) => reversed6_any n A B C a b c X (hx.below hX) hl
  have hlen : (revN n).es.length = n.es.length := List.length_map _
  rw [hlen]
  have HP : Hid (∀ X A' B' C' a' b' c', X.ownsRow w.heap.size 3 1 (.slice A' n.fi.length a') n.fi.length (zvs n.fi) → X.ownsRow w.heap.size 3 1 (.slice B' n.st.length b') n.st.length (zvs n.st) → X.ownsRow w.heap.size 30 4 (.slice C' n.es.length c') n.es.length (evs (n.es.map flipE)) → OwnN w.heap.size X (revN n) A' B' C' a' b' c') := fun X A' B' C' a' b' c' h1 h2 h3 => ⟨h1, h2, by rw [hlen]; exact h3⟩
  clear hlen hx hl h0
  go_enter Tryd.func29, Tryd.ntmps29
  go_wp2_with (first
    | (go_at_call 10; ((with_reducible refine HC.out.mono ?_); rintro e w2 ⟨rfl, hb2⟩); replace hR0 := hR0.below hb2; replace hN0 := hN0.below hb2; replace hb0 := stepB hb0 hb2; obtain ⟨z0, z1, z2, z3, z4⟩ := hN0.cells)
    | (go_at_call 67; ((with_reducible refine (HV.out _ hb0).mono ?_); rintro e w3 ⟨A3, B3, C3, a3, b3, c3, rfl, hb3, o1, o2, o3⟩); replace hR0 := hR0.below hb3; obtain ⟨⟨p0, f0⟩, ⟨p1, f1⟩, ⟨p2, f2⟩, ⟨p3, f3⟩, ⟨p4, f4⟩, hR5, hB5, hO5⟩ := store5 hR0 (.int .i64 n.V) (.int .i64 n.S) (.slice A3 n.fi.length a3) (.slice B3 n.st.length b3) (.slice C3 n.es.length c3); have HF := Lib.hid (And.intro hR5.cells (And.intro (hB5 w.heap.size (by omega)) (And.intro (hO5 _ _ _ _ _ _ (ownsRow_mono o1 hb0.size) (by decide)) (And.intro (hO5 _ _ _ _ _ _ (ownsRow_mono o2 hb0.size) (by decide)) (hO5 _ _ _ _ _ _ (ownsRow_mono o3 hb0.size) (by decide)))))); clear hR5 hB5 hO5 o1 o2 o3))
  obtain ⟨⟨y0, y1, y2, y3, y4⟩, hb5, o1, o2, o3⟩ := HF.out
  have hN := HP.out _ _ _ _ _ _ _ o1 o2 o3
  unfold put5 at y0 y1 y2 y3 y4 hb5 hN
  refine bodyPost_ret (v := .tuple #[.agg #[.int .i64 n.V, .int .i64 n.S, .slice A3 n.fi.length a3, .slice B3 n.st.length b3, .slice C3 n.es.length c3], .int .i64 0]) (by simp [results, Tryd.results29, go_sem, y0, y1, y2, y3, y4]) rfl ?_
  exact ⟨_, _, _, _, _, _, rfl, (stepB hb0 hb3).trans hb5, hN⟩
set_option maxHeartbeats 2000000 in
theorem Reverse_bad (n : Na) (A B C : Option Addr) (a b c : Nat) (w : World) (hx : NaAt w n A B C) (hl : NaLen n) (h0 : chkN n ≠ 0) :
    Calls Tryd.prog 29 #[.agg #[.int .i64 n.V, .int .i64 n.S, .slice A n.st.length a, .slice B n.fi.length b, .slice C n.es.length c]] w fun e w' =>
      e = .returned (.tuple #[.agg #[.int .i64 0, .int .i64 0, .slice none 0 0, .slice none 0 0, .slice none 0 0], .int .i64 (chkN n)]) ∧ Below w.heap.size w w' := by
  have hb0 := bal (bal (Below.refl w.heap.size w) (.cells #[.int .i64 n.V, .int .i64 n.S, .slice A n.st.length a, .slice B n.fi.length b, .slice C n.es.length c] 26)) (.cells #[.int .i64 0, .int .i64 0, .slice none 0 0, .slice none 0 0, .slice none 0 0] 26)
  have hR0 := Blk.new (w.alloc (.cells #[.int .i64 n.V, .int .i64 n.S, .slice A n.st.length a, .slice B n.fi.length b, .slice C n.es.length c] 26)) (.int .i64 0) (.int .i64 0) (.slice none 0 0) (.slice none 0 0) (.slice none 0 0)
  rw [World.size_alloc] at hR0
  have HC := Lib.hid (Check6_any n A B C a b c _ (hx.below hb0) hl)
  have hne : (chkN n != 0) = true := by rw [bne_iff_ne]; exact h0
  clear hx hl h0
  generalize chkN n = E at *
  go_enter Tryd.func29, Tryd.ntmps29
  go_wp2_with (first
    | (go_at_call 10; ((with_reducible refine HC.out.mono ?_); rintro e w2 ⟨rfl, hb2⟩); replace hR0 := hR0.below hb2; replace hb0 := stepB hb0 hb2; obtain ⟨⟨p0, f0⟩, ⟨p1, f1⟩, ⟨p2, f2⟩, ⟨p3, f3⟩, ⟨p4, f4⟩, hR5, hB5, _⟩ := store5 hR0 (.int .i64 0) (.int .i64 0) (.slice none 0 0) (.slice none 0 0) (.slice none 0 0); have HF := Lib.hid (And.intro hR5.cells (hB5 w.heap.size (by omega))); clear hR5 hB5))
  obtain ⟨⟨y0, y1, y2, y3, y4⟩, hb5⟩ := HF.out
  unfold put5 at y0 y1 y2 y3 y4 hb5
  refine bodyPost_ret (v := .tuple #[.agg #[.int .i64 0, .int .i64 0, .slice none 0 0, .slice none 0 0, .slice none 0 0], .int .i64 E]) (by simp [results, Tryd.results29, go_sem, y0, y1, y2, y3, y4]) rfl ?_
  exact ⟨rfl, hb0.trans hb5⟩
end Go.Proofs.YteckkbjpeckjmaaDoor.Nf
