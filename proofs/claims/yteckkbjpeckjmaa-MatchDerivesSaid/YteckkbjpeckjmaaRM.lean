/- The examples that every statement of package match asks for. -/
import Derived.Test.YteckkbjpeckjmaaRB
import Derived.Test.YteckkbjpeckjmaaRL
namespace Go.Proofs.Yteckkbjpeckjmaa.Rx
open Go Go.RowKit Go.Shelf Go.Proofs.Yteckkbjpeckjmaa
set_option linter.unusedVariables false
set_option maxRecDepth 100000
def M1 : Ex := .two 4 (.leaf 3 1 0) (.one 9 (.leaf 3 2 0))
def M2 : Ex := .one 8 (.leaf 3 1 0)
def M3 : Ex := .leaf 3 1 0
def M4 : Ex := .two 4 (.leaf 2 0 0) M2
def M5 : Ex := .two 4 (.leaf 1 0 0) M2
theorem mp1 : parE (⟨#[40, 91, 97, 93, 46, 40, 62, 91, 98, 93, 41, 41]⟩ : ByteArray).data.toList 2 = .ok M1 := by kernel_rfl
theorem mv1 : M1.Valid 2 := (parE_ok mp1).1
theorem mp2 : parE (⟨#[40, 91, 97, 93, 42, 41]⟩ : ByteArray).data.toList 2 = .ok M2 := by kernel_rfl
theorem mv2 : M2.Valid 2 := (parE_ok mp2).1
theorem mp3 : parE (⟨#[91, 97, 93]⟩ : ByteArray).data.toList 2 = .ok M3 := by kernel_rfl
theorem mv3 : M3.Valid 2 := (parE_ok mp3).1
theorem mp4 : parE (⟨#[40, 49, 46, 40, 91, 97, 93, 42, 41, 41]⟩ : ByteArray).data.toList 2 = .ok M4 := by kernel_rfl
theorem mv4 : M4.Valid 2 := (parE_ok mp4).1
theorem mp5 : parE (⟨#[40, 48, 46, 40, 91, 97, 93, 42, 41, 41]⟩ : ByteArray).data.toList 2 = .ok M5 := by kernel_rfl
theorem mv5 : M5.Valid 2 := (parE_ok mp5).1
theorem md4 : der 1 M2 = M4 := by kernel_rfl
theorem md5 : der 0 M2 = M5 := by kernel_rfl
theorem me4 : derE 2 M2 1 = 0 := by kernel_rfl
theorem me5 : derE 2 M2 0 = 0 := by kernel_rfl
theorem mm0 : half 2 (mt [1, 2] M1) 0 1 = true := by kernel_rfl
theorem mm1 : mt [1, 2] M1 0 1 = true := by kernel_rfl
theorem mm2 : mt [1] M1 0 1 = false := by kernel_rfl
theorem mm3 : mt [1, 1, 3] M2 0 3 = true := by kernel_rfl
theorem mm4 : spansL 3 (mt [1, 0, 1] M3) = [(0, 1), (2, 3)] := by kernel_rfl
set_option maxHeartbeats 4000000 in
/-- What read makes of a text. -/
theorem read5_any (s : ByteArray) (t : Ex) (n : Nat) (w : World) (h : parE s.data.toList 2 = .ok t) (hn : t.size = n) :
    Calls Try.prog 39 #[.string s] w fun r w' => ∃ A' c', r = .returned (.slice A' n c') ∧ PcsAt w' A' (flat t 0) ∧ Below w.heap.size w w' := by
  have HP := Lib.hid (refParse_good s 2 t w h)
  have HF : Hid (∀ X A c, X.ownsRow w.heap.size 32 5 (.slice A t.size c) t.size (pvs (flat t 0)) → PcsAt X A (flat t 0)) := fun X A c hO => pcs_of_own hO (valid_fine (parE_ok h).1)
  subst hn
  clear h
  go_enter Try.func39, Try.ntmps39
  go_wp2_with (go_at_call 67; ((with_reducible refine HP.out.mono ?_); rintro r w1 ⟨A1, c1, rfl, hO, hb⟩); have HO := Lib.hid hO; clear hO)
  go_ret
  exact ⟨_, _, rfl, HF.out _ _ _ HO.out, hb⟩
theorem spans_cells {w : World} {B : Nat} {A : Option Addr} {c : Nat} {l : List (Nat × Nat)} {a b d e : Nat} (h : w.ownsRow B 50 2 (.slice A 2 c) 2 (pairV l)) (hl : l = [(a, b), (d, e)]) : ∃ g, A = some ⟨g, 0, none⟩ ∧ w.cell? ⟨g, 0, none⟩ = some (.int .i64 a) ∧ w.cell? ⟨g, 1, none⟩ = some (.int .i64 b) ∧ w.cell? ⟨g, 2, none⟩ = some (.int .i64 d) ∧ w.cell? ⟨g, 3, none⟩ = some (.int .i64 e) ∧ g < w.heap.size := by
  subst hl
  have h' := h
  rcases h.2 with ⟨hv, h0⟩ | ⟨g, cap, cur, hv, hg, hb, _, _, _, ht⟩
  · cases hv
  · injection hv with hA hB hc
    subst hA hc
    exact ⟨g, rfl, h'.cellAt 0 (by decide), h'.cellAt 1 (by decide), h'.cellAt 2 (by decide), h'.cellAt 3 (by decide), (Array.getElem?_eq_some_iff.1 hb).1⟩
set_option maxHeartbeats 16000000 in
theorem awake5_any (w : World) : Calls Try.prog 13 #[] w fun r w' => r = .returned (.bool true) ∧ Below w.heap.size w w' := by
  have HR1 : Hid (∀ X, Calls Try.prog 39 #[.string ⟨#[40, 91, 97, 93, 46, 40, 62, 91, 98, 93, 41, 41]⟩] X fun r w' => ∃ A' c', r = .returned (.slice A' 4 c') ∧ PcsAt w' A' (flat M1 0) ∧ Below X.heap.size X w') := fun X => read5_any _ _ _ X mp1 rfl
  have HR2 : Hid (∀ X, Calls Try.prog 39 #[.string ⟨#[40, 91, 97, 93, 42, 41]⟩] X fun r w' => ∃ A' c', r = .returned (.slice A' 2 c') ∧ PcsAt w' A' (flat M2 0) ∧ Below X.heap.size X w') := fun X => read5_any _ _ _ X mp2 rfl
  have HR3 : Hid (∀ X, Calls Try.prog 39 #[.string ⟨#[91, 97, 93]⟩] X fun r w' => ∃ A' c', r = .returned (.slice A' 1 c') ∧ PcsAt w' A' (flat M3 0) ∧ Below X.heap.size X w') := fun X => read5_any _ _ _ X mp3 rfl
  have HR4 : Hid (∀ X, Calls Try.prog 39 #[.string ⟨#[40, 49, 46, 40, 91, 97, 93, 42, 41, 41]⟩] X fun r w' => ∃ A' c', r = .returned (.slice A' 4 c') ∧ PcsAt w' A' (flat M4 0) ∧ Below X.heap.size X w') := fun X => read5_any _ _ _ X mp4 rfl
  have HR5 : Hid (∀ X, Calls Try.prog 39 #[.string ⟨#[40, 48, 46, 40, 91, 97, 93, 42, 41, 41]⟩] X fun r w' => ∃ A' c', r = .returned (.slice A' 4 c') ∧ PcsAt w' A' (flat M5 0) ∧ Below X.heap.size X w') := fun X => read5_any _ _ _ X mp5 rfl
  have HN22 : Hid (∀ X : World, Bys (X.alloc (.cells #[.int .u8 1, .int .u8 2] 5)) (some ⟨X.heap.size, 0, none⟩) [1, 2]) := fun X => bys_new X 5 [1, 2]
  have HN1 : Hid (∀ X : World, Bys (X.alloc (.cells #[.int .u8 1] 5)) (some ⟨X.heap.size, 0, none⟩) [1]) := fun X => bys_new X 5 [1]
  have HN31 : Hid (∀ X : World, Bys (X.alloc (.cells #[.int .u8 1, .int .u8 1, .int .u8 3] 5)) (some ⟨X.heap.size, 0, none⟩) [1, 1, 3]) := fun X => bys_new X 5 [1, 1, 3]
  have HN30 : Hid (∀ X : World, Bys (X.alloc (.cells #[.int .u8 1, .int .u8 0, .int .u8 1] 5)) (some ⟨X.heap.size, 0, none⟩) [1, 0, 1]) := fun X => bys_new X 5 [1, 0, 1]
  have HT : Hid (∀ X A c B d, PcsAt X A (flat M1 0) → Bys X B [1, 2] → Calls Try.prog 18 #[.slice A 4 c, .int .i64 2, .slice B 2 d] X fun r w' => ∃ mb, r = .returned (.tuple #[.slice (some ⟨mb, 0, none⟩) 3 3, .int .i64 0]) ∧ MatAt w' mb 2 (half 2 (mt [1, 2] M1)) ∧ Below X.heap.size X w') := fun X A c B d hA hB => (Table_good (A := A) (B := B) (c := c) (d := d) (v := 2) (word := [1, 2]) (w := X) (t := M1) (L := 4) (n := 2) hA mv1 rfl hB rfl (by decide) (by kernel_rfl) (by decide)).mono fun e w' ⟨mb, h1, h2, h3, h4⟩ => ⟨mb, h1, h2, h3⟩
  have HA1 : Hid (∀ X A c B d, PcsAt X A (flat M1 0) → Bys X B [1] → Calls Try.prog 19 #[.slice A 4 c, .int .i64 2, .slice B 1 d] X fun r w' => r = .returned (.tuple #[.bool false, .int .i64 0]) ∧ Below X.heap.size X w') := fun X A c B d hA hB => by
    have := Accepts_good (A := A) (B := B) (c := c) (d := d) (v := 2) (word := [1]) (w := X) (t := M1) (L := 4) (n := 1) hA mv1 rfl hB rfl (by decide) (by kernel_rfl) (by decide)
    rwa [mm2] at this
  have HA2 : Hid (∀ X A c B d, PcsAt X A (flat M2 0) → Bys X B [1, 1, 3] → Calls Try.prog 19 #[.slice A 2 c, .int .i64 2, .slice B 3 d] X fun r w' => r = .returned (.tuple #[.bool true, .int .i64 0]) ∧ Below X.heap.size X w') := fun X A c B d hA hB => by
    have := Accepts_good (A := A) (B := B) (c := c) (d := d) (v := 2) (word := [1, 1, 3]) (w := X) (t := M2) (L := 2) (n := 3) hA mv2 rfl hB rfl (by decide) (by kernel_rfl) (by decide)
    rwa [mm3] at this
  have HD1 : Hid (∀ X A c, PcsAt X A (flat M2 0) → Calls Try.prog 28 #[.slice A 2 c, .int .i64 2, .int .u8 1] X fun r w' => ∃ A' c', r = .returned (.tuple #[.slice A' 4 c', .int .i64 0]) ∧ PcsAt w' A' (flat M4 0) ∧ Below X.heap.size X w') := fun X A c hA => by
    have := Derive_good (A := A) (c := c) (v := 2) (y := 1) (w := X) (t := M2) hA mv2 (by decide) me4
    rw [md4] at this
    exact this.mono fun e w' ⟨A', c', h1, h2, h3⟩ => ⟨A', c', h1, pcs_of_own h2 (valid_fine mv4), h3⟩
  have HD2 : Hid (∀ X A c, PcsAt X A (flat M2 0) → Calls Try.prog 28 #[.slice A 2 c, .int .i64 2, .int .u8 0] X fun r w' => ∃ A' c', r = .returned (.tuple #[.slice A' 4 c', .int .i64 0]) ∧ PcsAt w' A' (flat M5 0) ∧ Below X.heap.size X w') := fun X A c hA => by
    have := Derive_good (A := A) (c := c) (v := 2) (y := 0) (w := X) (t := M2) hA mv2 (by decide) me5
    rw [md5] at this
    exact this.mono fun e w' ⟨A', c', h1, h2, h3⟩ => ⟨A', c', h1, pcs_of_own h2 (valid_fine mv5), h3⟩
  have HS : Hid (∀ X A c B d, PcsAt X A (flat M3 0) → Bys X B [1, 0, 1] → Calls Try.prog 20 #[.slice A 1 c, .int .i64 2, .slice B 3 d] X fun r w' => ∃ A' c', r = .returned (.tuple #[.slice A' 2 c', .int .i64 0]) ∧ w'.ownsRow X.heap.size 50 2 (.slice A' 2 c') 2 (pairV (spansL 3 (mt [1, 0, 1] M3))) ∧ Below X.heap.size X w') := fun X A c B d hA hB => by
    have := Spans_good A B c d 2 [1, 0, 1] X M3 1 3 hA mv3 rfl hB rfl (by decide) (by kernel_rfl) (by decide)
    rw [show (spansL 3 (mt [1, 0, 1] M3)).length = 2 by rw [mm4]; rfl] at this
    exact this
  have HE4 : Hid (∀ X A B c d, PcsAt X A (flat M4 0) → PcsAt X B (flat M4 0) → Calls Try.prog 22 #[.slice A 4 c, .slice B 4 d] X fun r w' => r = .returned (.bool true) ∧ Below X.heap.size X w') := fun X A B c d hA hB => by
    have := EqualRegex_any A B (flat M4 0) (flat M4 0) c d X hA hB (by rw [flat_len]; decide)
    rw [flat_len, decide_eq_true rfl] at this
    exact this.mono fun e w' ⟨h1, n, h2⟩ => ⟨h1, h2 ▸ Ap.drewN_below X n⟩
  have HE5 : Hid (∀ X A B c d, PcsAt X A (flat M5 0) → PcsAt X B (flat M5 0) → Calls Try.prog 22 #[.slice A 4 c, .slice B 4 d] X fun r w' => r = .returned (.bool true) ∧ Below X.heap.size X w') := fun X A B c d hA hB => by
    have := EqualRegex_any A B (flat M5 0) (flat M5 0) c d X hA hB (by rw [flat_len]; decide)
    rw [flat_len, decide_eq_true rfl] at this
    exact this.mono fun e w' ⟨h1, n, h2⟩ => ⟨h1, h2 ▸ Ap.drewN_below X n⟩
  have HM1 := Lib.hid mm0
  have HSp := Lib.hid mm4
  generalize half 2 (mt [1, 2] M1) = G at *
  generalize spansL 3 (mt [1, 0, 1] M3) = Sp at *
  generalize flat M1 0 = F1 at *
  generalize flat M2 0 = F2 at *
  generalize flat M3 0 = F3 at *
  generalize flat M4 0 = F4 at *
  generalize flat M5 0 = F5 at *
  have heq1 : ∀ w : World, (binOp BinOp.eql 50 (.agg #[.int .i64 0, .int .i64 1]) (.agg #[.int .i64 0, .int .i64 1])).run Try.prog w = .ok (.bool true) w := fun w => by kernel_rfl
  have heq2 : ∀ w : World, (binOp BinOp.eql 50 (.agg #[.int .i64 2, .int .i64 3]) (.agg #[.int .i64 2, .int .i64 3])).run Try.prog w = .ok (.bool true) w := fun w => by kernel_rfl
  go_enter Try.func13, Try.ntmps13
  go_wp2_with (first
    | (go_at_call 39; ((with_reducible refine (HR1.out w).mono ?_); rintro r w1 ⟨A1, c1, rfl, hP, hb⟩); have P1 := Lib.hid hP; clear hP; have K1 := Lib.hid hb; clear hb)
    | (go_at_call 18; ((with_reducible refine (HT.out (w1.alloc (.cells #[.int .u8 1, .int .u8 2] 5)) _ _ _ _ (P1.out.below (bal (Below.refl _ _) (.cells #[.int .u8 1, .int .u8 2] 5))) (HN22.out w1)).mono ?_); rintro r w2 ⟨mb, rfl, hM, hb⟩); have M2 := Lib.hid hM; clear hM; have P2 := Lib.hid ((P1.out.below (bal (Below.refl _ _) (.cells #[.int .u8 1, .int .u8 2] 5))).below hb); have K2 := Lib.hid (stepB (bal K1.out (.cells #[.int .u8 1, .int .u8 2] 5)) hb); clear hb)
    | (go_at_call 19; ((with_reducible refine (HA1.out (w2.alloc (.cells #[.int .u8 1] 5)) _ _ _ _ (P2.out.below (bal (Below.refl _ _) (.cells #[.int .u8 1] 5))) (HN1.out w2)).mono ?_); rintro r w3 ⟨rfl, hb⟩); have P3 := Lib.hid ((P2.out.below (bal (Below.refl _ _) (.cells #[.int .u8 1] 5))).below hb); have M3 := Lib.hid ((M2.out.below (bal (Below.refl _ _) (.cells #[.int .u8 1] 5))).below hb); have K3 := Lib.hid (stepB (bal K2.out (.cells #[.int .u8 1] 5)) hb); clear hb)
    | (go_at_call 39; ((with_reducible refine (HR2.out w3).mono ?_); rintro r w4 ⟨A4, c4, rfl, hP, hb⟩); have P4 := Lib.hid hP; clear hP; have M4 := Lib.hid ((M3.out).below hb); have K4 := Lib.hid (stepB K3.out hb); clear hb)
    | (go_at_call 28; ((with_reducible refine (HD1.out w4 _ _ P4.out).mono ?_); rintro r w5 ⟨A5, c5, rfl, hP, hb⟩); have D5 := Lib.hid hP; clear hP; have M5 := Lib.hid ((M4.out).below hb); have K5 := Lib.hid (stepB K4.out hb); clear hb)
    | (go_at_call 39; ((with_reducible refine (HR2.out w5).mono ?_); rintro r w6 ⟨A6, c6, rfl, hP, hb⟩); have P6 := Lib.hid hP; clear hP; have M6 := Lib.hid ((M5.out).below hb); have D6 := Lib.hid ((D5.out).below hb); have K6 := Lib.hid (stepB K5.out hb); clear hb)
    | (go_at_call 28; ((with_reducible refine (HD2.out w6 _ _ P6.out).mono ?_); rintro r w7 ⟨A7, c7, rfl, hP, hb⟩); have F7 := Lib.hid hP; clear hP; have M7 := Lib.hid ((M6.out).below hb); have D7 := Lib.hid ((D6.out).below hb); have K7 := Lib.hid (stepB K6.out hb); clear hb)
    | (go_at_call 39; ((with_reducible refine (HR2.out w7).mono ?_); rintro r w8 ⟨A8, c8, rfl, hP, hb⟩); have P8 := Lib.hid hP; clear hP; have M8 := Lib.hid ((M7.out).below hb); have D8 := Lib.hid ((D7.out).below hb); have F8 := Lib.hid ((F7.out).below hb); have K8 := Lib.hid (stepB K7.out hb); clear hb)
    | (go_at_call 19; ((with_reducible refine (HA2.out (w8.alloc (.cells #[.int .u8 1, .int .u8 1, .int .u8 3] 5)) _ _ _ _ (P8.out.below (bal (Below.refl _ _) (.cells #[.int .u8 1, .int .u8 1, .int .u8 3] 5))) (HN31.out w8)).mono ?_); rintro r w9 ⟨rfl, hb⟩); have M9 := Lib.hid ((M8.out.below (bal (Below.refl _ _) (.cells #[.int .u8 1, .int .u8 1, .int .u8 3] 5))).below hb); have D9 := Lib.hid ((D8.out.below (bal (Below.refl _ _) (.cells #[.int .u8 1, .int .u8 1, .int .u8 3] 5))).below hb); have F9 := Lib.hid ((F8.out.below (bal (Below.refl _ _) (.cells #[.int .u8 1, .int .u8 1, .int .u8 3] 5))).below hb); have K9 := Lib.hid (stepB (bal K8.out (.cells #[.int .u8 1, .int .u8 1, .int .u8 3] 5)) hb); clear hb)
    | (go_at_call 39; ((with_reducible refine (HR3.out w9).mono ?_); rintro r w10 ⟨A10, c10, rfl, hP, hb⟩); have P10 := Lib.hid hP; clear hP; have M10 := Lib.hid ((M9.out).below hb); have D10 := Lib.hid ((D9.out).below hb); have F10 := Lib.hid ((F9.out).below hb); have K10 := Lib.hid (stepB K9.out hb); clear hb)
    | (go_at_call 20; ((with_reducible refine (HS.out (w10.alloc (.cells #[.int .u8 1, .int .u8 0, .int .u8 1] 5)) _ _ _ _ (P10.out.below (bal (Below.refl _ _) (.cells #[.int .u8 1, .int .u8 0, .int .u8 1] 5))) (HN30.out w10)).mono ?_); rintro r w11 ⟨A11, c11, rfl, hO, hb⟩); have S11 := Lib.hid hO; clear hO; have M11 := Lib.hid ((M10.out.below (bal (Below.refl _ _) (.cells #[.int .u8 1, .int .u8 0, .int .u8 1] 5))).below hb); have D11 := Lib.hid ((D10.out.below (bal (Below.refl _ _) (.cells #[.int .u8 1, .int .u8 0, .int .u8 1] 5))).below hb); have F11 := Lib.hid ((F10.out.below (bal (Below.refl _ _) (.cells #[.int .u8 1, .int .u8 0, .int .u8 1] 5))).below hb); have K11 := Lib.hid (stepB (bal K10.out (.cells #[.int .u8 1, .int .u8 0, .int .u8 1] 5)) hb); have mo := cell_of M11.out.o (i := 0) (by decide); have mr := cell_of (M11.out.r 0 (by decide)) (i := 1) (by decide); unfold rowV at mo; unfold boolV at mr; rw [HM1.out] at mr; have ml := M11.out.lt; clear hb)
    | (go_at_call 39; ((with_reducible refine (HR4.out w11).mono ?_); rintro r w12 ⟨A12, c12, rfl, hP, hb⟩); have P12 := Lib.hid hP; clear hP; have F12 := Lib.hid ((F11.out).below hb); have D12 := Lib.hid ((D11.out).below hb); have S12 := Lib.hid (Ap.own_bel S11.out hb); have K12 := Lib.hid (stepB K11.out hb); clear hb)
    | (go_at_call 22; ((with_reducible refine (HE4.out w12 _ _ _ _ D12.out P12.out).mono ?_); rintro r w13 ⟨rfl, hb⟩); have F13 := Lib.hid ((F12.out).below hb); have D13 := Lib.hid ((D12.out).below hb); have S13 := Lib.hid (Ap.own_bel S12.out hb); have K13 := Lib.hid (stepB K12.out hb); clear hb)
    | (go_at_call 39; ((with_reducible refine (HR5.out w13).mono ?_); rintro r w14 ⟨A14, c14, rfl, hP, hb⟩); have P14 := Lib.hid hP; clear hP; have F14 := Lib.hid ((F13.out).below hb); have S14 := Lib.hid (Ap.own_bel S13.out hb); have K14 := Lib.hid (stepB K13.out hb); clear hb)
    | (go_at_call 22; ((with_reducible refine (HE5.out w14 _ _ _ _ F14.out P14.out).mono ?_); rintro r w15 ⟨rfl, hb⟩); have F15 := Lib.hid ((F14.out).below hb); have S15 := Lib.hid (Ap.own_bel S14.out hb); have K15 := Lib.hid (stepB K14.out hb); obtain ⟨sg, rfl, s0, s1, s2, s3, sl⟩ := spans_cells S15.out HSp.out; clear hb))
  go_ret
  exact ⟨rfl, K15.out⟩
end Go.Proofs.Yteckkbjpeckjmaa.Rx
/- The walk of MatchBrzozowski. -/
namespace Go.Proofs.Yteckkbjpeckjmaa.Rx
open Go Go.RowKit Go.Shelf Go.Proofs.Yteckkbjpeckjmaa
set_option linter.unusedVariables false
set_option maxRecDepth 100000
/-- Larger than the statements examine. -/
def longP (n m : Nat) : Prop := 40 < n ∨ (16 < m ∧ m ≤ 64) ∨ 100 < m
section
variable (A B : Option Addr) (n c m d : Nat) (w : World)
set_option maxHeartbeats 2000000 in
theorem long_yes (h : longP n m) : Calls Try.prog 12 #[.slice A n c, .slice B m d] w fun r w' => r = .returned (.bool true) ∧ w' = w := by
  have hc : (decide ((40 : Int) < n) = true) ∨ (decide ((40 : Int) < n) = false ∧ decide ((16 : Int) < m) = true ∧ decide ((m : Int) ≤ 64) = true) ∨ (decide ((40 : Int) < n) = false ∧ decide ((16 : Int) < m) = true ∧ decide ((m : Int) ≤ 64) = false ∧ decide ((100 : Int) < m) = true) := by
    simp only [decide_eq_true_iff, decide_eq_false_iff_not]
    unfold longP at h
    omega
  clear h
  rcases hc with h1 | ⟨h1, h2, h3⟩ | ⟨h1, h2, h3, h4⟩
  all_goals
    go_enter Try.func12, Try.ntmps12
    go_wp2
    go_ret
    exact ⟨rfl, rfl⟩
set_option maxHeartbeats 2000000 in
theorem long_no (h : ¬ longP n m) : Calls Try.prog 12 #[.slice A n c, .slice B m d] w fun r w' => r = .returned (.bool false) ∧ w' = w := by
  have hc : (decide ((40 : Int) < n) = false ∧ decide ((16 : Int) < m) = false ∧ decide ((100 : Int) < m) = false) ∨ (decide ((40 : Int) < n) = false ∧ decide ((16 : Int) < m) = true ∧ decide ((m : Int) ≤ 64) = false ∧ decide ((100 : Int) < m) = false) := by
    simp only [decide_eq_true_iff, decide_eq_false_iff_not]
    unfold longP at h
    omega
  clear h
  rcases hc with ⟨h1, h2, h3⟩ | ⟨h1, h2, h3, h4⟩
  all_goals
    go_enter Try.func12, Try.ntmps12
    go_wp2
    go_ret
    exact ⟨rfl, rfl⟩
end
theorem wordE_in (v : Nat) (l : List Nat) : wordE v l = 0 ∨ wordE v l = 1 ∨ wordE v l = 4 := by
  unfold wordE
  split
  · exact .inr (.inr rfl)
  · split
    · exact .inl rfl
    · exact .inr (.inl rfl)
theorem wordE_cons {v x : Nat} {l : List Nat} (h : wordE v (x :: l) = 0) : wordE v l = 0 ∧ x < 2 ^ v := by
  unfold wordE at h ⊢
  by_cases h1 : 64 < (x :: l).length
  · rw [if_pos h1] at h; cases h
  · rw [if_neg h1] at h
    by_cases h2 : (x :: l).all (fun x => decide (x < 2 ^ v)) = true
    · simp only [List.all_cons, Bool.and_eq_true, decide_eq_true_iff] at h2
      rw [if_neg (by simp only [List.length_cons] at h1; omega), if_pos h2.2]
      exact ⟨rfl, h2.1⟩
    · rw [if_neg h2] at h; cases h
theorem add_addB (ad : Addr) (i j : Nat) : (ad.add i).add j = ad.add (i + j) := by
  unfold Addr.add
  by_cases hi : i = 0
  · subst hi; simp
  · by_cases hj : j = 0
    · subst hj; simp [hi]
    · simp [hi, hj, Nat.add_assoc]
theorem bys_zero {w : World} {A : Option Addr} {l : List Nat} (h : l.length = 0) : Bys w A l := fun j hj => absurd hj (by omega)
theorem bys_tail {w : World} {ad : Addr} {x : Nat} {l : List Nat} (h : Bys w (some ad) (x :: l)) : Bys w (some (ad.add 1)) l := by
  intro j hj
  obtain ⟨ad', e, h1, h2⟩ := h (j + 1) (by simp only [List.length_cons]; omega)
  cases e
  refine ⟨_, rfl, by rw [addr_block]; exact h1, ?_⟩
  rw [show ((ad.add 1).add j) = ad.add (j + 1) by rw [add_addB, Nat.add_comm]]
  rw [h2]
  simp [wd]
end Go.Proofs.Yteckkbjpeckjmaa.Rx
