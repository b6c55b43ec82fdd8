/- The chapter's examples of package regex (awake). -/
import Derived.Test.YteckkbjpeckjmaaRK
import Derived.Outline
namespace Go.Proofs.Yteckkbjpeckjmaa.Rx
open Go Go.RowKit Go.Shelf Go.Proofs.Yteckkbjpeckjmaa
set_option linter.unusedVariables false
set_option maxRecDepth 100000
theorem own_new (W : World) (l : List Pc) (n : Nat) (hn : n = l.length) (hl : l.length ≤ 1000000) : (W.alloc (.cells (pvs l).toArray 32)).ownsRow W.heap.size 32 5 (.slice (some ⟨W.heap.size, 0, none⟩) n n) n (pvs l) := by
  subst hn
  refine ⟨pvs_len l, .inr ⟨W.heap.size, l.length, (pvs l).toArray, rfl, Nat.le_refl _, World.alloc_heap_new W _, Nat.le_refl _, by unfold maxLen; omega, by simp [pvs_len], ?_⟩⟩
  rw [← pvs_len l]
  simp
theorem pcs_new (W : World) (l : List Pc) (hl : l.length ≤ 1000000) (hf : ∀ x ∈ l, PcOk x) : PcsAt (W.alloc (.cells (pvs l).toArray 32)) (some ⟨W.heap.size, 0, none⟩) l := pcs_of_own (own_new W l l.length rfl hl) hf
/-- Parse at a given text. -/
theorem parse_const (s : ByteArray) (v : Int) (t : Ex) (n : Nat) (hs : s.size ≤ 4095) (h : parE s.data.toList v = .ok t) (hn : t.size = n) (w : World) :
    Calls Try.prog 7 #[.string s, .int .i64 v] w fun r w' => ∃ A' c', r = .returned (.tuple #[.slice A' n c', .int .i64 0]) ∧ w'.ownsRow w.heap.size 32 5 (.slice A' n c') n (pvs (flat t 0)) ∧ Below w.heap.size w w' := by
  subst hn; exact Parse_good s v t w hs h
theorem valid_fine {t : Ex} {v : Int} (h : t.Valid v) : ∀ x ∈ flat t 0, PcOk x := flat_fine t 0 h.ok (p8_cubes t h.ok h.cubes) (by have := h.size; omega)
def T1 : Ex := .two 4 (.two 4 (.one 8 (.leaf 3 0 0)) (.leaf 3 1 0)) (.leaf 3 0 0)
def T2 : Ex := .two 4 (.leaf 3 1 0) (.one 9 (.leaf 3 0 0))
def T3 : Ex := .two 4 (.one 10 (.leaf 3 0 0)) (.leaf 3 1 0)
def s1 : ByteArray := ⟨#[40, 40, 40, 91, 42, 93, 42, 41, 46, 91, 97, 93, 41, 46, 91, 42, 93, 41]⟩
def s2 : ByteArray := ⟨#[40, 91, 97, 93, 46, 40, 62, 91, 42, 93, 41, 41]⟩
def s3 : ByteArray := ⟨#[40, 40, 60, 91, 42, 93, 41, 46, 91, 97, 93, 41]⟩
theorem p1 : parE s1.data.toList 1 = .ok T1 := by kernel_rfl
theorem p2 : parE s2.data.toList 1 = .ok T2 := by kernel_rfl
theorem p3 : parE [40, 48, 46, 49] 0 = .error 3 := by kernel_rfl
theorem p4 : parE [40, 48, 43, 49, 41] 0 = .error 2 := by kernel_rfl
theorem p5 : parE [48, 49] 0 = .error 5 := by kernel_rfl
theorem p6 : parE [40, 40, 62, 48, 41, 42, 41] 0 = .error 2 := by kernel_rfl
theorem p7 : parE [91, 98, 93] 1 = .error 7 := by kernel_rfl
theorem x1 : (txt T1).toArray = #[40, 40, 40, 91, 42, 93, 42, 41, 46, 91, 97, 93, 41, 46, 91, 42, 93, 41] := by kernel_rfl
theorem x3 : (txt T3).toArray = #[40, 40, 60, 91, 42, 93, 41, 46, 91, 97, 93, 41] := by kernel_rfl
theorem r2 : rev T2 = T3 := by kernel_rfl
theorem v1 : T1.Valid 1 := (parE_ok p1).1
theorem v2 : T2.Valid 1 := (parE_ok p2).1
theorem v3 : T3.Valid 1 := r2 ▸ rev_valid v2
def W1cells : Array Value := #[.int .u8 3, .int .u8 0, .int .u8 0, .int .i64 0, .int .i64 0, .int .u8 8, .int .u8 0, .int .u8 0, .int .i64 0, .int .i64 0, .int .u8 3, .int .u8 1, .int .u8 0, .int .i64 0, .int .i64 0, .int .u8 4, .int .u8 0, .int .u8 0, .int .i64 1, .int .i64 2, .int .u8 3, .int .u8 0, .int .u8 0, .int .i64 0, .int .i64 0, .int .u8 4, .int .u8 0, .int .u8 0, .int .i64 3, .int .i64 4]
theorem w1cells : (pvs (flat T1 0)).toArray = W1cells := by kernel_rfl
set_option maxHeartbeats 16000000 in
theorem awake_any (w : World) : Calls Try.prog 6 #[] w fun r w' => r = .returned (.bool true) ∧ Below w.heap.size w w' := by
  have HP1 : Hid (∀ X, Calls Try.prog 7 #[.string ⟨#[40, 40, 40, 91, 42, 93, 42, 41, 46, 91, 97, 93, 41, 46, 91, 42, 93, 41]⟩, .int .i64 1] X fun r w' => ∃ A' c', r = .returned (.tuple #[.slice A' 6 c', .int .i64 0]) ∧ w'.ownsRow X.heap.size 32 5 (.slice A' 6 c') 6 (pvs (flat T1 0)) ∧ Below X.heap.size X w') := fun X => parse_const s1 1 T1 6 (by decide) p1 rfl X
  have HP2 : Hid (∀ X, Calls Try.prog 7 #[.string ⟨#[40, 91, 97, 93, 46, 40, 62, 91, 42, 93, 41, 41]⟩, .int .i64 1] X fun r w' => ∃ A' c', r = .returned (.tuple #[.slice A' 4 c', .int .i64 0]) ∧ w'.ownsRow X.heap.size 32 5 (.slice A' 4 c') 4 (pvs (flat T2 0)) ∧ Below X.heap.size X w') := fun X => parse_const s2 1 T2 4 (by decide) p2 rfl X
  have HB3 : Hid (∀ X, Calls Try.prog 7 #[.string ⟨#[40, 48, 46, 49]⟩, .int .i64 0] X fun r w' => r = .returned (.tuple #[.slice none 0 0, .int .i64 3]) ∧ Below X.heap.size X w') := fun X => Parse_bad ⟨#[40, 48, 46, 49]⟩ 0 3 X (.inl (by decide)) (by decide) p3
  have HB4 : Hid (∀ X, Calls Try.prog 7 #[.string ⟨#[40, 48, 43, 49, 41]⟩, .int .i64 0] X fun r w' => r = .returned (.tuple #[.slice none 0 0, .int .i64 2]) ∧ Below X.heap.size X w') := fun X => Parse_bad ⟨#[40, 48, 43, 49, 41]⟩ 0 2 X (.inl (by decide)) (by decide) p4
  have HB5 : Hid (∀ X, Calls Try.prog 7 #[.string ⟨#[48, 49]⟩, .int .i64 0] X fun r w' => r = .returned (.tuple #[.slice none 0 0, .int .i64 5]) ∧ Below X.heap.size X w') := fun X => Parse_bad ⟨#[48, 49]⟩ 0 5 X (.inl (by decide)) (by decide) p5
  have HB6 : Hid (∀ X, Calls Try.prog 7 #[.string ⟨#[40, 40, 62, 48, 41, 42, 41]⟩, .int .i64 0] X fun r w' => r = .returned (.tuple #[.slice none 0 0, .int .i64 2]) ∧ Below X.heap.size X w') := fun X => Parse_bad ⟨#[40, 40, 62, 48, 41, 42, 41]⟩ 0 2 X (.inl (by decide)) (by decide) p6
  have HB7 : Hid (∀ X, Calls Try.prog 7 #[.string ⟨#[91, 98, 93]⟩, .int .i64 1] X fun r w' => r = .returned (.tuple #[.slice none 0 0, .int .i64 7]) ∧ Below X.heap.size X w') := fun X => Parse_bad ⟨#[91, 98, 93]⟩ 1 7 X (.inl (by decide)) (by decide) p7
  have HF1 : Hid (∀ X A c, PcsAt X A (flat T1 0) → Calls Try.prog 8 #[.slice A 6 c, .int .i64 1] X fun r w' => r = .returned (.tuple #[.string ⟨#[40, 40, 40, 91, 42, 93, 42, 41, 46, 91, 97, 93, 41, 46, 91, 42, 93, 41]⟩, .int .i64 0]) ∧ Below X.heap.size X w') := fun X A c hX => by
    have := Format_good A T1 6 c 1 X hX v1 rfl
    rwa [x1] at this
  have HF3 : Hid (∀ X A c, PcsAt X A (flat T3 0) → Calls Try.prog 8 #[.slice A 4 c, .int .i64 1] X fun r w' => r = .returned (.tuple #[.string ⟨#[40, 40, 60, 91, 42, 93, 41, 46, 91, 97, 93, 41]⟩, .int .i64 0]) ∧ Below X.heap.size X w') := fun X A c hX => by
    have := Format_good A T3 4 c 1 X hX v3 rfl
    rwa [x3] at this
  have HRv : Hid (∀ X A c, PcsAt X A (flat T2 0) → Calls Try.prog 9 #[.slice A 4 c, .int .i64 1] X fun r w' => ∃ A' c', r = .returned (.tuple #[.slice A' 4 c', .int .i64 0]) ∧ w'.ownsRow X.heap.size 32 5 (.slice A' 4 c') 4 (pvs (flat T3 0)) ∧ Below X.heap.size X w') := fun X A c hX => by
    have := Reverse_good A T2 4 c 1 X hX v2 rfl
    rwa [r2] at this
  have HEq : Hid (∀ X A B c d, PcsAt X A (flat T1 0) → PcsAt X B (flat T1 0) → Calls Try.prog 22 #[.slice A 6 c, .slice B 6 d] X fun r w' => r = .returned (.bool true) ∧ Below X.heap.size X w') := fun X A B c d hA hB => by
    have := EqualRegex_any A B (flat T1 0) (flat T1 0) c d X hA hB (by rw [flat_len]; decide)
    rw [flat_len, decide_eq_true rfl] at this
    exact this.mono fun e w' ⟨h1, n, h2⟩ => ⟨h1, h2 ▸ Ap.drewN_below X n⟩
  have O1 : Hid (∀ X n A c, X.ownsRow n 32 5 (.slice A 6 c) 6 (pvs (flat T1 0)) → PcsAt X A (flat T1 0)) := fun X n A c h => pcs_of_own h (valid_fine v1)
  have O2 : Hid (∀ X n A c, X.ownsRow n 32 5 (.slice A 4 c) 4 (pvs (flat T2 0)) → PcsAt X A (flat T2 0)) := fun X n A c h => pcs_of_own h (valid_fine v2)
  have O3 : Hid (∀ X n A c, X.ownsRow n 32 5 (.slice A 4 c) 4 (pvs (flat T3 0)) → PcsAt X A (flat T3 0)) := fun X n A c h => pcs_of_own h (valid_fine v3)
  have HN : Hid (∀ X : World, PcsAt (X.alloc (.cells #[.int .u8 3, .int .u8 0, .int .u8 0, .int .i64 0, .int .i64 0, .int .u8 8, .int .u8 0, .int .u8 0, .int .i64 0, .int .i64 0, .int .u8 3, .int .u8 1, .int .u8 0, .int .i64 0, .int .i64 0, .int .u8 4, .int .u8 0, .int .u8 0, .int .i64 1, .int .i64 2, .int .u8 3, .int .u8 0, .int .u8 0, .int .i64 0, .int .i64 0, .int .u8 4, .int .u8 0, .int .u8 0, .int .i64 3, .int .i64 4] 32)) (some ⟨X.heap.size, 0, none⟩) (flat T1 0)) := fun X => by
    have := pcs_new X (flat T1 0) (by rw [flat_len]; decide) (valid_fine v1)
    rw [w1cells] at this
    exact this
  go_enter Try.func6, Try.ntmps6
  go_wp2_with (first
    | (go_at_call 7; ((with_reducible refine (HP1.out _).mono ?_); rintro r w1 ⟨A1, c1, rfl, hO1, hb⟩); have P1 := Lib.hid (O1.out _ _ _ _ hO1); have K := Lib.hid hb; clear hO1 hb)
    | (go_at_call 8; ((with_reducible refine (HF1.out _ _ _ P1.out).mono ?_); rintro r w2 ⟨rfl, hb⟩); have P1' := Lib.hid (P1.out.below hb); have K' := Lib.hid (stepB K.out hb); clear K P1 hb; have K := K'; have P1 := P1'; clear K' P1')
    | (go_at_call 7; ((with_reducible refine (HB3.out _).mono ?_); rintro r w3 ⟨rfl, hb⟩); have P1' := Lib.hid (P1.out.below hb); have K' := Lib.hid (stepB K.out hb); clear K P1 hb; have K := K'; have P1 := P1'; clear K' P1')
    | (go_at_call 7; ((with_reducible refine (HB4.out _).mono ?_); rintro r w3 ⟨rfl, hb⟩); have P1' := Lib.hid (P1.out.below hb); have K' := Lib.hid (stepB K.out hb); clear K P1 hb; have K := K'; have P1 := P1'; clear K' P1')
    | (go_at_call 7; ((with_reducible refine (HB5.out _).mono ?_); rintro r w3 ⟨rfl, hb⟩); have P1' := Lib.hid (P1.out.below hb); have K' := Lib.hid (stepB K.out hb); clear K P1 hb; have K := K'; have P1 := P1'; clear K' P1')
    | (go_at_call 7; ((with_reducible refine (HB6.out _).mono ?_); rintro r w3 ⟨rfl, hb⟩); have P1' := Lib.hid (P1.out.below hb); have K' := Lib.hid (stepB K.out hb); clear K P1 hb; have K := K'; have P1 := P1'; clear K' P1')
    | (go_at_call 7; ((with_reducible refine (HB7.out _).mono ?_); rintro r w3 ⟨rfl, hb⟩); have P1' := Lib.hid (P1.out.below hb); have K' := Lib.hid (stepB K.out hb); clear K P1 hb; have K := K'; have P1 := P1'; clear K' P1')
    | (go_at_call 7; ((with_reducible refine (HP2.out _).mono ?_); rintro r w3 ⟨A2, c2, rfl, hO2, hb⟩); have P2 := Lib.hid (O2.out _ _ _ _ hO2); have P1' := Lib.hid (P1.out.below hb); have K' := Lib.hid (stepB K.out hb); clear K P1 hb hO2; have K := K'; have P1 := P1'; clear K' P1')
    | (go_at_call 9; ((with_reducible refine (HRv.out _ _ _ P2.out).mono ?_); rintro r w3 ⟨A3, c3, rfl, hO3, hb⟩); have P3 := Lib.hid (O3.out _ _ _ _ hO3); have P1' := Lib.hid (P1.out.below hb); have K' := Lib.hid (stepB K.out hb); clear K P1 hb hO3; have K := K'; have P1 := P1'; clear K' P1')
    | (go_at_call 8; ((with_reducible refine (HF3.out _ _ _ P3.out).mono ?_); rintro r w9 ⟨rfl, hb⟩); have P1' := Lib.hid ((P1.out.below hb).below (bal (Below.refl _ _) (.cells #[.int .u8 3, .int .u8 0, .int .u8 0, .int .i64 0, .int .i64 0, .int .u8 8, .int .u8 0, .int .u8 0, .int .i64 0, .int .i64 0, .int .u8 3, .int .u8 1, .int .u8 0, .int .i64 0, .int .i64 0, .int .u8 4, .int .u8 0, .int .u8 0, .int .i64 1, .int .i64 2, .int .u8 3, .int .u8 0, .int .u8 0, .int .i64 0, .int .i64 0, .int .u8 4, .int .u8 0, .int .u8 0, .int .i64 3, .int .i64 4] 32))); have K' := Lib.hid (bal (stepB K.out hb) (.cells #[.int .u8 3, .int .u8 0, .int .u8 0, .int .i64 0, .int .i64 0, .int .u8 8, .int .u8 0, .int .u8 0, .int .i64 0, .int .i64 0, .int .u8 3, .int .u8 1, .int .u8 0, .int .i64 0, .int .i64 0, .int .u8 4, .int .u8 0, .int .u8 0, .int .i64 1, .int .i64 2, .int .u8 3, .int .u8 0, .int .u8 0, .int .i64 0, .int .i64 0, .int .u8 4, .int .u8 0, .int .u8 0, .int .i64 3, .int .i64 4] 32)); clear K P1 hb; have K := K'; have P1 := P1'; clear K' P1')
    | (go_at_call 22; ((with_reducible refine (HEq.out _ _ _ _ _ P1.out (HN.out _)).mono ?_); rintro r w10 ⟨rfl, hb⟩)))
  go_ret
  exact ⟨rfl, stepB K.out hb⟩
end Go.Proofs.Yteckkbjpeckjmaa.Rx
