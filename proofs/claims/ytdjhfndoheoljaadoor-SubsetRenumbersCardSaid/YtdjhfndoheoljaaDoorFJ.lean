/- Run, Accepts, After (package nfa). -/
import Derived.Test.YtdjhfndoheoljaaDoorFH
import Derived.Deep.RegionHeld3
namespace Go.Proofs.YtdjhfndoheoljaaDoor.Nf
open Go Go.RowKit Go.Proofs.YtdjhfndoheoljaaDoor Go.Proofs.YtdjhfndoheoljaaDoor.Cb
set_option linter.unusedVariables false
set_option maxRecDepth 100000
theorem OwnW.u64 {B : Nat} {w : World} {A : Option Addr} {c : Nat} {xs : List Nat} (h : OwnW B w A c xs) : U64 xs := h.2.1
theorem OwnW.cap {B : Nat} {w : World} {A : Option Addr} {c : Nat} {xs : List Nat} (h : OwnW B w A c xs) : xs.length ≤ c := h.2.2
section
variable (n : Na) (A B C : Option Addr) (a b c : Nat) (w : World) (hx : NaAt w n A B C) (hl : NaLen n)
include hx hl
section
variable (D : Option Addr) (l : List Nat) (d : Nat) (hw : Bys w D l) (h8 : ∀ y ∈ l, y < 256) (hll : l.length ≤ 1000000)
include hw h8 hll
theorem Run_good (h0 : wrongN n l = 0) :
    Calls Tryd.prog 45 #[.agg #[.int .i64 n.V, .int .i64 n.S, .slice A n.st.length a, .slice B n.fi.length b, .slice C n.es.length c], .slice D l.length d] w fun e w' =>
      ∃ A' c', e = .returned (.tuple #[.slice A' (runW n l).length c', .int .i64 0]) ∧ OwnW w.heap.size w' A' c' (runW n l) ∧ Below w.heap.size w w' := by
  have hB0 := Boxed5.mk0 w n A B C a b c
  have hb0 := bal (Below.refl w.heap.size w) (.cells #[.int .i64 n.V, .int .i64 n.S, .slice A n.st.length a, .slice B n.fi.length b, .slice C n.es.length c] 47)
  have HW := checkWord_any n A B C a b c _ (hx.below hb0) hl D l d (hw.below hb0) h8 hll
  rw [h0] at HW
  have HW := Lib.hid HW
  have HE := Lib.hid fun X (hX : Below w.heap.size w X) => ends_any n A B C a b c X (hx.below hX) hl D l d (hw.below hX) h8 hll
  have hs := hb0.size
  clear hx hl hw h8 h0
  generalize runW n l = R at *
  go_enter Tryd.func45, Tryd.ntmps45
  go_wp2_with (first
    | (go_at_call 92; ((with_reducible refine HW.out.mono ?_); rintro e w2 ⟨rfl, hb2⟩); obtain ⟨z0, z1, z2, z3, z4⟩ := (hB0.below hb2).cells; have K2 := stepB hb0 hb2)
    | (go_at_call 93; ((with_reducible refine (HE.out _ K2).mono ?_); rintro e w3 ⟨A3, c3, rfl, ho3, hb3⟩)))
  go_ret2
  exact ⟨A3, c3, rfl, OwnW.low ho3 K2.size, stepB K2 hb3⟩
theorem Run_bad (h0 : wrongN n l ≠ 0) :
    Calls Tryd.prog 45 #[.agg #[.int .i64 n.V, .int .i64 n.S, .slice A n.st.length a, .slice B n.fi.length b, .slice C n.es.length c], .slice D l.length d] w fun e w' =>
      e = .returned (.tuple #[.slice none 0 0, .int .i64 (wrongN n l)]) ∧ Below w.heap.size w w' := by
  have hB0 := Boxed5.mk0 w n A B C a b c
  have hb0 := bal (Below.refl w.heap.size w) (.cells #[.int .i64 n.V, .int .i64 n.S, .slice A n.st.length a, .slice B n.fi.length b, .slice C n.es.length c] 47)
  have HW := Lib.hid (checkWord_any n A B C a b c _ (hx.below hb0) hl D l d (hw.below hb0) h8 hll)
  have hne : (wrongN n l != 0) = true := by rw [bne_iff_ne]; exact h0
  clear hx hl hw h8 h0
  generalize wrongN n l = E at *
  go_enter Tryd.func45, Tryd.ntmps45
  go_wp2_with (go_at_call 92; ((with_reducible refine HW.out.mono ?_); rintro e w2 ⟨rfl, hb2⟩))
  go_ret2
  exact ⟨rfl, stepB hb0 hb2⟩
set_option maxHeartbeats 2000000 in
theorem Accepts_good (h0 : wrongN n l = 0) :
    Calls Tryd.prog 44 #[.agg #[.int .i64 n.V, .int .i64 n.S, .slice A n.st.length a, .slice B n.fi.length b, .slice C n.es.length c], .slice D l.length d] w fun e w' =>
      e = .returned (.tuple #[.bool (accW n l), .int .i64 0]) ∧ Below w.heap.size w w' := by
  have hB0 := Boxed5.mk0 w n A B C a b c
  have hb0 := bal (Below.refl w.heap.size w) (.cells #[.int .i64 n.V, .int .i64 n.S, .slice A n.st.length a, .slice B n.fi.length b, .slice C n.es.length c] 47)
  have HW := checkWord_any n A B C a b c _ (hx.below hb0) hl D l d (hw.below hb0) h8 hll
  rw [h0] at HW
  have HW := Lib.hid HW
  have HE := Lib.hid fun X (hX : Below w.heap.size w X) => ends_any n A B C a b c X (hx.below hX) hl D l d (hw.below hX) h8 hll
  have HO := Lib.hid fun X (hX : Below w.heap.size w X) => Of_own B n.fi b X (hx.fi.below hX) (by have := hl.fi; unfold maxLen; omega)
  have HA : Hid (accW n l = meetB (runW n l) (ofL n.fi)) := rfl
  have hs := hb0.size
  clear hx hl hw h8 h0
  generalize runW n l = R at *
  generalize ofL n.fi = F at *
  generalize accW n l = b0 at *
  go_enter Tryd.func44, Tryd.ntmps44
  go_wp2_with (go_at_call 92; ((with_reducible refine HW.out.mono ?_); rintro e w2 ⟨rfl, hb2⟩))
  have hB2 := hB0.below hb2
  obtain ⟨z0, z1, z2, z3, z4⟩ := hB2.cells
  have K2 := stepB hb0 hb2
  have hlt2 := hB2.lt
  have KD : Below w.heap.size w w2.drew := stepB K2 (Ap.drewN_below w2 1)
  have KE : Below w2.heap.size w2 w2.drew := Ap.drewN_below w2 1
  have hS2 : w2.drew.cell? ⟨w.heap.size, 0, none⟩ = some (.int .i64 n.V) ∧ w2.drew.cell? ⟨w.heap.size, 1, none⟩ = some (.int .i64 n.S) ∧ w2.drew.cell? ⟨w.heap.size, 2, none⟩ = some (.slice A n.st.length a) ∧ w2.drew.cell? ⟨w.heap.size, 3, none⟩ = some (.slice B n.fi.length b) ∧ w2.drew.cell? ⟨w.heap.size, 4, none⟩ = some (.slice C n.es.length c) ∧ Below w2.heap.size w2 w2.drew := ⟨z0, z1, z2, z3, z4, Ap.drewN_below w2 1⟩
  go_region_held3 (fun w' => w'.cell? ⟨w.heap.size, 0, none⟩ = some (.int .i64 n.V) ∧ w'.cell? ⟨w.heap.size, 1, none⟩ = some (.int .i64 n.S) ∧ w'.cell? ⟨w.heap.size, 2, none⟩ = some (.slice A n.st.length a) ∧ w'.cell? ⟨w.heap.size, 3, none⟩ = some (.slice B n.fi.length b) ∧ w'.cell? ⟨w.heap.size, 4, none⟩ = some (.slice C n.es.length c) ∧ Below w2.heap.size w2 w')
    (first | assumption)
    (first
      | (go_at_call 93; ((with_reducible refine (HE.out w2.drew KD).mono ?_); rintro e w3 ⟨A3, c3, rfl, ho3, hb3⟩); have hB3 := hB2.below (stepB KE hb3); have hS3 : w3.cell? ⟨w.heap.size, 0, none⟩ = some (.int .i64 n.V) ∧ w3.cell? ⟨w.heap.size, 1, none⟩ = some (.int .i64 n.S) ∧ w3.cell? ⟨w.heap.size, 2, none⟩ = some (.slice A n.st.length a) ∧ w3.cell? ⟨w.heap.size, 3, none⟩ = some (.slice B n.fi.length b) ∧ w3.cell? ⟨w.heap.size, 4, none⟩ = some (.slice C n.es.length c) ∧ Below w2.heap.size w2 w3 := ⟨hB3.c0, hB3.c1, hB3.c2, hB3.c3, hB3.c4, stepB KE hb3⟩; have K3 := stepB K2 hS3.2.2.2.2.2)
      | (go_at_call 85; ((with_reducible refine (HO.out w3 K3).mono ?_); rintro e w4 ⟨A4, c4, rfl, ho4, hb4⟩); have hB4 := hB3.below hb4; have hS4 : w4.cell? ⟨w.heap.size, 0, none⟩ = some (.int .i64 n.V) ∧ w4.cell? ⟨w.heap.size, 1, none⟩ = some (.int .i64 n.S) ∧ w4.cell? ⟨w.heap.size, 2, none⟩ = some (.slice A n.st.length a) ∧ w4.cell? ⟨w.heap.size, 3, none⟩ = some (.slice B n.fi.length b) ∧ w4.cell? ⟨w.heap.size, 4, none⟩ = some (.slice C n.es.length c) ∧ Below w2.heap.size w2 w4 := ⟨hB4.c0, hB4.c1, hB4.c2, hB4.c3, hB4.c4, stepB hS3.2.2.2.2.2 hb4⟩)
      | (go_at_call 89; ((with_reducible refine (Intersects_any A3 A4 R F c3 c4 w4 (ho3.words.below hb4) (OwnW.u64 ho3) (OwnW.cap ho3) ho4.words (OwnW.u64 ho4) (OwnW.cap ho4)).mono ?_); rintro e w5 ⟨rfl, rfl⟩)))
  go_wp2
  go_ret2
  rw [HA.out]
  exact ⟨rfl, stepB K2 hS4.2.2.2.2.2⟩
theorem Accepts_bad (h0 : wrongN n l ≠ 0) :
    Calls Tryd.prog 44 #[.agg #[.int .i64 n.V, .int .i64 n.S, .slice A n.st.length a, .slice B n.fi.length b, .slice C n.es.length c], .slice D l.length d] w fun e w' =>
      e = .returned (.tuple #[.bool false, .int .i64 (wrongN n l)]) ∧ Below w.heap.size w w' := by
  have hB0 := Boxed5.mk0 w n A B C a b c
  have hb0 := bal (Below.refl w.heap.size w) (.cells #[.int .i64 n.V, .int .i64 n.S, .slice A n.st.length a, .slice B n.fi.length b, .slice C n.es.length c] 47)
  have HW := Lib.hid (checkWord_any n A B C a b c _ (hx.below hb0) hl D l d (hw.below hb0) h8 hll)
  have hne : (wrongN n l != 0) = true := by rw [bne_iff_ne]; exact h0
  clear hx hl hw h8 h0
  generalize wrongN n l = E at *
  go_enter Tryd.func44, Tryd.ntmps44
  go_wp2_with (go_at_call 92; ((with_reducible refine HW.out.mono ?_); rintro e w2 ⟨rfl, hb2⟩))
  go_ret2
  exact ⟨rfl, stepB hb0 hb2⟩
end
section
variable (E : Option Addr) (xs : List Nat) (d : Nat) (x : Nat)
theorem After_good (hx8 : x < 256) (hE : Words w E xs) (ux : U64 xs) (h0 : chkN n = 0) (h1 : x < 2 ^ n.V.toNat) :
    Calls Tryd.prog 55 #[.agg #[.int .i64 n.V, .int .i64 n.S, .slice A n.st.length a, .slice B n.fi.length b, .slice C n.es.length c], .slice E xs.length d, .int .u8 x] w fun e w' =>
      ∃ A' c', e = .returned (.tuple #[.slice A' (stepW n.es xs x).length c', .int .i64 0]) ∧ OwnW w.heap.size w' A' c' (stepW n.es xs x) ∧ Below w.heap.size w w' := by
  have hB0 := Boxed5.mk0 w n A B C a b c
  have hb0 := bal (Below.refl w.heap.size w) (.cells #[.int .i64 n.V, .int .i64 n.S, .slice A n.st.length a, .slice B n.fi.length b, .slice C n.es.length c] 47)
  have HC := Check6_any n A B C a b c _ (hx.below hb0) hl
  rw [h0] at HC
  have hO := ok_of h0
  have HS := Lib.hid fun X (hX : Below w.heap.size w X) => succ_any n.V n.S (.slice A n.st.length a) (.slice B n.fi.length b) C n.es c x hx8 E xs d X (hx.es.below hX) hl.es (hE.below hX) ux
  obtain ⟨v, hv⟩ : ∃ v : Nat, n.V = v := ⟨n.V.toNat, by have := hO.v0; omega⟩
  have HL := Lib.hid fun X => isLetter6_any x v X hx8 (by have := hO.v6; omega)
  rw [hv, Int.toNat_natCast] at h1
  rw [decide_eq_true h1] at HL
  rw [hv] at HC hB0 hb0 HS ⊢
  have HC := Lib.hid HC
  clear hx hl hE h0 hO h1 hv
  generalize stepW n.es xs x = R at *
  go_enter Tryd.func55, Tryd.ntmps55
  go_wp2_with (first
    | (go_at_call 43; ((with_reducible refine HC.out.mono ?_); rintro e w2 ⟨rfl, hb2⟩); obtain ⟨z0, z1, z2, z3, z4⟩ := (hB0.below hb2).cells; have K2 := stepB hb0 hb2)
    | (go_at_call 108; ((with_reducible refine (HL.out _).mono ?_); rintro e w3 ⟨rfl, rfl⟩))
    | (go_at_call 109; ((with_reducible refine (HS.out _ K2).mono ?_); rintro e w4 ⟨A4, c4, rfl, ho4, hb4⟩)))
  go_ret2
  exact ⟨A4, c4, rfl, OwnW.low ho4 K2.size, stepB K2 hb4⟩
theorem After_letter (hx8 : x < 256) (h0 : chkN n = 0) (h1 : ¬ x < 2 ^ n.V.toNat) :
    Calls Tryd.prog 55 #[.agg #[.int .i64 n.V, .int .i64 n.S, .slice A n.st.length a, .slice B n.fi.length b, .slice C n.es.length c], .slice E xs.length d, .int .u8 x] w fun e w' =>
      e = .returned (.tuple #[.slice none 0 0, .int .i64 1]) ∧ Below w.heap.size w w' := by
  have hB0 := Boxed5.mk0 w n A B C a b c
  have hb0 := bal (Below.refl w.heap.size w) (.cells #[.int .i64 n.V, .int .i64 n.S, .slice A n.st.length a, .slice B n.fi.length b, .slice C n.es.length c] 47)
  have HC := Check6_any n A B C a b c _ (hx.below hb0) hl
  rw [h0] at HC
  have hO := ok_of h0
  obtain ⟨v, hv⟩ : ∃ v : Nat, n.V = v := ⟨n.V.toNat, by have := hO.v0; omega⟩
  have HL := Lib.hid fun X => isLetter6_any x v X hx8 (by have := hO.v6; omega)
  rw [hv, Int.toNat_natCast] at h1
  rw [decide_eq_false h1] at HL
  rw [hv] at HC hB0 hb0 ⊢
  have HC := Lib.hid HC
  clear hx hl h0 hO h1 hv
  go_enter Tryd.func55, Tryd.ntmps55
  go_wp2_with (first
    | (go_at_call 43; ((with_reducible refine HC.out.mono ?_); rintro e w2 ⟨rfl, hb2⟩); obtain ⟨z0, z1, z2, z3, z4⟩ := (hB0.below hb2).cells; have K2 := stepB hb0 hb2)
    | (go_at_call 108; ((with_reducible refine (HL.out _).mono ?_); rintro e w3 ⟨rfl, rfl⟩)))
  go_ret2
  exact ⟨rfl, K2⟩
theorem After_bad (h0 : chkN n ≠ 0) :
    Calls Tryd.prog 55 #[.agg #[.int .i64 n.V, .int .i64 n.S, .slice A n.st.length a, .slice B n.fi.length b, .slice C n.es.length c], .slice E xs.length d, .int .u8 x] w fun e w' =>
      e = .returned (.tuple #[.slice none 0 0, .int .i64 (chkN n)]) ∧ Below w.heap.size w w' := by
  have hB0 := Boxed5.mk0 w n A B C a b c
  have hb0 := bal (Below.refl w.heap.size w) (.cells #[.int .i64 n.V, .int .i64 n.S, .slice A n.st.length a, .slice B n.fi.length b, .slice C n.es.length c] 47)
  have HC := Lib.hid (Check6_any n A B C a b c _ (hx.below hb0) hl)
  have hne : (chkN n != 0) = true := by rw [bne_iff_ne]; exact h0
  clear hx hl h0
  generalize chkN n = E at *
  go_enter Tryd.func55, Tryd.ntmps55
  go_wp2_with (go_at_call 43; ((with_reducible refine HC.out.mono ?_); rintro e w2 ⟨rfl, hb2⟩))
  go_ret2
  exact ⟨rfl, stepB hb0 hb2⟩
end
end
end Go.Proofs.YtdjhfndoheoljaaDoor.Nf
