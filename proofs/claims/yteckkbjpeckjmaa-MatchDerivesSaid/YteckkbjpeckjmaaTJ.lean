/- The reference's Derive (package sentinelref05); the walk of MatchDerives. -/
import Derived.Test.YteckkbjpeckjmaaTH
namespace Go.Proofs.Yteckkbjpeckjmaa.Rx
open Go Go.RowKit Go.Proofs.Yteckkbjpeckjmaa Go.Proofs.Yteckkbjpeckjmaa.Ap
set_option linter.unusedVariables false
set_option linter.unusedSimpArgs false
set_option maxRecDepth 100000
section
variable (A : Option Addr) (c : Nat) (v : Int) (y : Nat) (w : World)
set_option maxHeartbeats 2000000 in
theorem refDerive5_bad (e : List Pc) (hx : PcsAt w A e) (hl : e.length ≤ 1000000) (hE : chkL v e ≠ 0) :
    Calls Try.prog 26 #[.slice A e.length c, .int .i64 v, .int .u8 y] w fun r w' => r = .returned (.tuple #[.slice none 0 0, .int .i64 (chkL v e)]) ∧ Below w.heap.size w w' := by
  have HC := Lib.hid (refNullable5_bad A c v w e hx hl hE)
  have h1 := int_ne hE
  generalize chkL v e = R at *
  generalize e.length = L at *
  clear hx hE
  go_enter Try.func26, Try.ntmps26
  go_wp2_with (go_at_call 25; ((with_reducible refine HC.out.mono ?_); rintro r w1 ⟨rfl, hb1⟩))
  go_ret2
  exact ⟨rfl, hb1⟩
variable (t : Ex)
set_option maxHeartbeats 4000000 in
theorem refDerive5_no (hx : PcsAt w A (flat t 0)) (hV : t.Valid v) (hy : y < 256) (hE : derE v t y ≠ 0) :
    Calls Try.prog 26 #[.slice A t.size c, .int .i64 v, .int .u8 y] w fun r w' => r = .returned (.tuple #[.slice none 0 0, .int .i64 (derE v t y)]) ∧ Below w.heap.size w w' := by
  have HC := refNullable5_good A c v w t t.size hx hV rfl
  have hv0 := hV.v0
  have hv6 := hV.v6
  cases hp : plainT t with
  | false =>
    have e : derE v t y = 6 := by unfold derE; rw [hp, if_neg (by simp)]
    rw [hp] at HC
    have HC : Hid (Calls Try.prog 25 #[.slice A t.size c, .int .i64 v] w fun r w' => r = .returned (.tuple #[.bool false, .int .i64 6]) ∧ Below w.heap.size w w') := HC
    rw [e]
    clear hx hV hE hp e hv0 hv6
    generalize t.size = n at *
    go_enter Try.func26, Try.ntmps26
    go_wp2_with (go_at_call 25; ((with_reducible refine HC.out.mono ?_); rintro r w1 ⟨rfl, hb1⟩))
    go_ret2
    exact ⟨rfl, hb1⟩
  | true =>
    rw [hp] at HC
    have HC : Hid (Calls Try.prog 25 #[.slice A t.size c, .int .i64 v] w fun r w' => r = .returned (.tuple #[.bool (mt [] t 0 0), .int .i64 0]) ∧ Below w.heap.size w w') := HC
    have HL : Hid (∀ X, Calls Try.prog 47 #[.int .i64 v] X fun e w' => e = .returned (.int .i64 (2 ^ v.toNat : Nat)) ∧ X = w') := fun X => by
      have := Cb.kitLetters_any v.toNat X (by omega)
      rwa [Int.toNat_of_nonneg hv0] at this
    by_cases hy2 : y < 2 ^ v.toNat
    · have hs : 64 < (der y t).size := by
        apply Decidable.byContradiction
        intro hs
        unfold derE at hE
        rw [hp, if_pos rfl, if_pos hy2, if_neg hs] at hE
        exact hE rfl
      have e : derE v t y = 4 := by unfold derE; rw [hp, if_pos rfl, if_pos hy2, if_pos hs]
      rw [e]
      have HD := Lib.hid fun X (hX : Below w.heap.size w X) => derive5_any v hv0 hv6 y hy t A t.size c X rfl (hx.below hX) hV.ok hV.cubes hp hV.size
      have d1 : decide (((2 ^ v.toNat : Nat) : Int) ≤ (y : Int)) = false := decide_eq_false (by omega)
      have d1' : decide (2 ^ v.toNat ≤ y) = false := decide_eq_false (by omega)
      have d2 : decide ((64 : Int) < ((der y t).size : Int)) = true := decide_eq_true (by omega)
      have hle := der_le y t hV.size
      clear hx hV hE hp e hv0 hv6 hs
      generalize mt [] t 0 0 = nb at *
      generalize 2 ^ v.toNat = K at *
      generalize flat (der y t) 0 = F at *
      generalize (der y t).size = m at *
      generalize t.size = n at *
      clear hy2
      go_enter Try.func26, Try.ntmps26
      go_wp2_with (first
        | (go_at_call 25; ((with_reducible refine HC.out.mono ?_); rintro r w1 ⟨rfl, hb1⟩))
        | (go_at_call 47; ((with_reducible refine (HL.out _).mono ?_); rintro r w2 ⟨rfl, rfl⟩))
        | (go_at_call 48; ((with_reducible refine (HD.out _ hb1).mono ?_); rintro r w3 ⟨ad3, c3, rfl, hp3, hb3⟩)))
      go_ret2
      exact ⟨rfl, stepB hb1 hb3⟩
    · have e : derE v t y = 1 := by unfold derE; rw [hp, if_pos rfl, if_neg hy2]
      rw [e]
      have d1 : decide (((2 ^ v.toNat : Nat) : Int) ≤ (y : Int)) = true := decide_eq_true (by omega)
      have d1' : decide (2 ^ v.toNat ≤ y) = true := decide_eq_true (by omega)
      clear hx hV hE hp e hv0 hv6 hy2
      generalize mt [] t 0 0 = nb at *
      generalize 2 ^ v.toNat = K at *
      generalize t.size = n at *
      go_enter Try.func26, Try.ntmps26
      go_wp2_with (first
        | (go_at_call 25; ((with_reducible refine HC.out.mono ?_); rintro r w1 ⟨rfl, hb1⟩))
        | (go_at_call 47; ((with_reducible refine (HL.out _).mono ?_); rintro r w2 ⟨rfl, rfl⟩)))
      go_ret2
      exact ⟨rfl, hb1⟩
set_option maxHeartbeats 4000000 in
theorem refDerive5_good (hx : PcsAt w A (flat t 0)) (hV : t.Valid v) (hy : y < 256) (hE : derE v t y = 0) :
    Calls Try.prog 26 #[.slice A t.size c, .int .i64 v, .int .u8 y] w fun r w' => ∃ A' c', r = .returned (.tuple #[.slice A' (der y t).size c', .int .i64 0]) ∧ PcsAt w' A' (flat (der y t) 0) ∧ Below w.heap.size w w' := by
  have HC := refNullable5_good A c v w t t.size hx hV rfl
  have hv0 := hV.v0
  have hv6 := hV.v6
  unfold derE at hE
  cases hp : plainT t with
  | false => rw [hp, if_neg (by simp)] at hE; cases hE
  | true =>
    rw [hp, if_pos rfl] at hE
    by_cases hy2 : y < 2 ^ v.toNat
    · rw [if_pos hy2] at hE
      have hs : ¬ 64 < (der y t).size := fun h => by rw [if_pos h] at hE; cases hE
      rw [hp] at HC
      have HC : Hid (Calls Try.prog 25 #[.slice A t.size c, .int .i64 v] w fun r w' => r = .returned (.tuple #[.bool (mt [] t 0 0), .int .i64 0]) ∧ Below w.heap.size w w') := HC
      have HL : Hid (∀ X, Calls Try.prog 47 #[.int .i64 v] X fun e w' => e = .returned (.int .i64 (2 ^ v.toNat : Nat)) ∧ X = w') := fun X => by
        have := Cb.kitLetters_any v.toNat X (by omega)
        rwa [Int.toNat_of_nonneg hv0] at this
      have HD := Lib.hid fun X (hX : Below w.heap.size w X) => derive5_any v hv0 hv6 y hy t A t.size c X rfl (hx.below hX) hV.ok hV.cubes hp hV.size
      have d1 : decide (((2 ^ v.toNat : Nat) : Int) ≤ (y : Int)) = false := decide_eq_false (by omega)
      have d1' : decide (2 ^ v.toNat ≤ y) = false := decide_eq_false (by omega)
      have d2 : decide ((64 : Int) < ((der y t).size : Int)) = false := decide_eq_false (by omega)
      clear hx hV hE hp hv0 hv6
      generalize mt [] t 0 0 = nb at *
      generalize 2 ^ v.toNat = K at *
      generalize flat (der y t) 0 = F at *
      generalize (der y t).size = m at *
      generalize t.size = n at *
      clear hy2
      go_enter Try.func26, Try.ntmps26
      go_wp2_with (first
        | (go_at_call 25; ((with_reducible refine HC.out.mono ?_); rintro r w1 ⟨rfl, hb1⟩))
        | (go_at_call 47; ((with_reducible refine (HL.out _).mono ?_); rintro r w2 ⟨rfl, rfl⟩))
        | (go_at_call 48; ((with_reducible refine (HD.out _ hb1).mono ?_); rintro r w3 ⟨ad3, c3, rfl, hp3, hb3⟩); have HP3 := Lib.hid hp3; clear hp3))
      go_ret2
      exact ⟨_, _, rfl, HP3.out, stepB hb1 hb3⟩
    · rw [if_neg hy2] at hE; cases hE
end
theorem own_nilD (w : World) (B : Nat) : w.ownsRow B 32 5 (.slice none 0 0) ([] : List Pc).length (pvs []) := ⟨rfl, .inl ⟨rfl, rfl⟩⟩
/-- What the reference and the program answer, as one. -/
theorem der_res (A : Option Addr) (c : Nat) (v : Int) (y : Nat) (l : List Pc) (w : World) (hx : PcsAt w A l) (hl : l.length ≤ 1000) (hy : y < 256) :
    ∃ (b : Bool) (E1 E2 : Int) (L : List Pc), L.length ≤ 64 ∧ (∀ x ∈ L, PcOk x) ∧
    (∀ X, Below w.heap.size w X → Calls Try.prog 25 #[.slice A l.length c, .int .i64 v] X fun r w' => r = .returned (.tuple #[.bool b, .int .i64 E1]) ∧ Below X.heap.size X w') ∧
    (∀ X, Below w.heap.size w X → Calls Try.prog 26 #[.slice A l.length c, .int .i64 v, .int .u8 y] X fun r w' => ∃ A' c', r = .returned (.tuple #[.slice A' L.length c', .int .i64 E2]) ∧ PcsAt w' A' L ∧ Below X.heap.size X w') ∧
    (∀ X, Below w.heap.size w X → Calls Try.prog 27 #[.slice A l.length c, .int .i64 v] X fun r w' => r = .returned (.tuple #[.bool b, .int .i64 E1]) ∧ Below X.heap.size X w') ∧
    (∀ X, Below w.heap.size w X → Calls Try.prog 28 #[.slice A l.length c, .int .i64 v, .int .u8 y] X fun r w' => ∃ A' c', r = .returned (.tuple #[.slice A' L.length c', .int .i64 E2]) ∧ w'.ownsRow X.heap.size 32 5 (.slice A' L.length c') L.length (pvs L) ∧ Below X.heap.size X w') := by
  have hnil : ∀ (X : World), PcsAt X none [] := fun X j hj => absurd hj (Nat.not_lt_zero j)
  by_cases hE : chkL v l = 0
  · obtain ⟨t, hV, rfl⟩ := chkL_ok hE
    rw [flat_len]
    by_cases hD : derE v t y = 0
    · have hd : plainT t = true ∧ (der y t).size ≤ 64 := by
        unfold derE at hD
        cases hp : plainT t with
        | false => rw [hp, if_neg (by simp)] at hD; cases hD
        | true =>
          rw [hp, if_pos rfl] at hD
          split at hD
          · split at hD
            · cases hD
            · exact ⟨rfl, by omega⟩
          · cases hD
      have hok := der_ok v y t hV.ok hV.cubes hd.1
      refine ⟨_, _, 0, flat (der y t) 0, by rw [flat_len]; exact hd.2, fine_all hok.1 (p8_cubes (v := v) _ hok.1 hok.2.1) (by omega) 0 (by omega), fun X hX => refNullable5_good A c v X t _ (hx.below hX) hV rfl, fun X hX => ?_, fun X hX => Nullable_good (A := A) (c := c) (v := v) (w := X) t _ (hx.below hX) hV rfl, fun X hX => ?_⟩
      · rw [flat_len]
        exact refDerive5_good A c v y X t (hx.below hX) hV hy hD
      · rw [flat_len]
        exact Derive_good (A := A) (c := c) (v := v) (y := y) (w := X) t (hx.below hX) hV hy hD
    · refine ⟨_, _, derE v t y, [], by decide, (fun x h => by cases h), fun X hX => refNullable5_good A c v X t _ (hx.below hX) hV rfl, fun X hX => ?_, fun X hX => Nullable_good (A := A) (c := c) (v := v) (w := X) t _ (hx.below hX) hV rfl, fun X hX => ?_⟩
      · exact (refDerive5_no A c v y X t (hx.below hX) hV hy hD).mono fun r w' h => ⟨none, 0, h.1, hnil _, h.2⟩
      · exact (Derive_no (A := A) (c := c) (v := v) (y := y) (w := X) t (hx.below hX) hV hy hD).mono fun r w' h => ⟨none, 0, h.1, own_nilD _ _, h.2⟩
  · refine ⟨false, chkL v l, chkL v l, [], by decide, (fun x h => by cases h), fun X hX => refNullable5_bad A c v X l (hx.below hX) (by omega) hE, fun X hX => ?_, fun X hX => Nullable_bad (A := A) (c := c) (v := v) (w := X) l (hx.below hX) (by omega) hE, fun X hX => ?_⟩
    · exact (refDerive5_bad A c v y X l (hx.below hX) (by omega) hE).mono fun r w' h => ⟨none, 0, h.1, hnil _, h.2⟩
    · exact (Derive_bad (A := A) (c := c) (v := v) (y := y) (w := X) l (hx.below hX) (by omega) hE).mono fun r w' h => ⟨none, 0, h.1, own_nilD _ _, h.2⟩
set_option maxHeartbeats 8000000 in
theorem matchDerives_walk (A : Option Addr) (l : List Pc) (c : Nat) (v : Int) (y : Nat) (w : World) (hx : PcsAt w A l) (hl : l.length ≤ maxLen) (hv : -9223372036854775808 ≤ v ∧ v ≤ 9223372036854775807) (hy : y < 256) :
    Calls Try.prog 5 #[.slice A l.length c, .int .i64 v, .int .u8 y] w fun e w' => e = .returned (.bool true) ∧ Below w.heap.size w w' := by
  have HAw := Lib.hid fun X => awake5_any X
  by_cases hL : 100 < l.length
  · have d1 : decide ((100 : Int) < (l.length : Int)) = true := decide_eq_true (by omega)
    clear hx hv hy hL
    generalize l.length = n at *
    go_enter Try.func5, Try.ntmps5
    go_wp2_with (go_at_call 13; ((with_reducible refine (HAw.out _).mono ?_); rintro r w2 ⟨rfl, hb2⟩))
    go_ret
    exact ⟨rfl, hb2⟩
  have d1 : decide ((100 : Int) < (l.length : Int)) = false := decide_eq_false (by omega)
  obtain ⟨b, E1, E2, L, hLL, hok, t1, t2, t3, t4⟩ := der_res A c v y l w hx (by omega) hy
  have HR1 := Lib.hid t1
  have HR2 := Lib.hid t2
  have HM1 := Lib.hid t3
  have HM2 := Lib.hid t4
  have HOk : Hid (∀ (X : World) B A' n c', n = L.length → X.ownsRow B 32 5 (.slice A' n c') n (pvs L) → PcsAt X A' L ∧ CanP B X A' n) := fun X B A' n c' hn h => by
    subst hn
    exact ⟨pcs_of_own h hok, CanP.own h⟩
  have HEq : Hid (∀ X A' B' n c' d', n = L.length → PcsAt X A' L → PcsAt X B' L → Calls Try.prog 22 #[.slice A' n c', .slice B' n d'] X fun e w' => e = .returned (.bool true) ∧ Below X.heap.size X w') := fun X A' B' n c' d' hn h1 h2 => by
    subst hn
    have := EqualRegex_any A' B' L L c' d' X h1 h2 (by omega)
    rw [decide_eq_true rfl] at this
    exact this.mono fun e w' ⟨h1, q, h2⟩ => ⟨h1, by rw [h2]; exact Ap.drewN_below _ _⟩
  have HOv := Lib.hid fun B A' n c' X (hn : n ≤ 1000000) (h : CanP B X A' n) => OverRegex_any B A' n c' X hn h
  have e1 : (b != b) = false := by cases b <;> rfl
  have e2 : (E1 != E1) = false := by simp
  have e3 : (E2 != E2) = false := by simp
  clear hx hv hy hL hok t1 t2 t3 t4 hl
  generalize l.length = n at *
  obtain ⟨m, hm⟩ : ∃ m, m = L.length := ⟨_, rfl⟩
  rw [← hm] at hLL HR2 HM2
  have Hm := Lib.hid hm
  clear hm
  go_enter Try.func5, Try.ntmps5
  go_wp2_with (first
    | (go_at_call 25; ((with_reducible refine (HR1.out _ (Below.refl _ _)).mono ?_); rintro r w3 ⟨rfl, hb⟩); have K3 := Lib.hid hb; clear hb)
    | (go_at_call 26; ((with_reducible refine (HR2.out _ K3.out).mono ?_); rintro r w4 ⟨A4, c4, rfl, hP, hb⟩); have P4 := Lib.hid hP; have K4 := Lib.hid (stepB K3.out hb); clear hP hb))
  clear HR1 HR2 K3
  go_loopw [11, 12, 13, 14, 15] (fun i _ _ _ _ wr => ∃ k : Nat, k ≤ 2 ∧ i = .int .i64 k ∧ Hid (Below w4.heap.size w4 wr)) (fun i _ _ _ _ _ => 2 - (intOf i).toNat)
  case atStart => exact ⟨0, by omega, rfl, Below.refl _ _⟩
  case round =>
    obtain ⟨k, hk, rfl, KR⟩ := hrel
    by_cases hk2 : k = 2
    · subst hk2
      go_wp2_with (go_at_call 13; ((with_reducible refine (HAw.out _).mono ?_); rintro r w2 ⟨rfl, hb2⟩))
      go_ret
      exact ⟨rfl, stepB (stepB K4.out KR.out) hb2⟩
    · have hk3 : k < 2 := by omega
      obtain ⟨wy, rfl⟩ : ∃ wy : World, wy = wr := ⟨_, rfl⟩
      have K0 := Lib.hid (stepB K4.out KR.out)
      go_upto_region 10 with (first
        | (go_at_call 27; ((with_reducible refine (HM1.out _ K0.out).mono ?_); rintro r w7 ⟨rfl, hb⟩); have J1 := Lib.hid hb; clear hb)
        | (go_at_call 28; ((with_reducible refine (HM2.out _ (stepB K0.out J1.out)).mono ?_); rintro r w8 ⟨A8, c8, rfl, hO, hb⟩); have O8 := Lib.hid hO; have J2 := Lib.hid (stepB J1.out hb); have Z2 := Lib.hid J1.out.size; clear hO hb))
      have Q8 := Lib.hid (HOk.out _ _ _ _ _ Hm.out O8.out)
      have P8 := Lib.hid (P4.out.below (stepB KR.out J2.out))
      go_upto_region 12 with (go_at_call 22; ((with_reducible refine (HEq.out _ _ _ _ _ _ Hm.out Q8.out.1 P8.out).mono ?_); rintro r w9 ⟨rfl, hb⟩); have J3 := Lib.hid (stepB J2.out hb); have O9 := Lib.hid (Ap.own_bel O8.out hb); clear hb)
      have C9 := Lib.hid (HOk.out _ _ _ _ _ Hm.out O9.out).2
      clear Q8 P8 O8 O9 HM1 HM2 HEq HOk
      go_wp2_with (go_at_call 29; ((with_reducible refine (HOv.out _ _ _ _ _ (by omega) C9.out).mono ?_); rintro r w10 ⟨rfl, hb⟩); have J4 := Lib.hid (J3.out.trans (hb.mono Z2.out)); clear hb)
      go_roundw
      case rel => exact ⟨k + 1, by omega, by go_num, stepB KR.out J4.out⟩
      case measure => simp [intOf]; omega
end Go.Proofs.Yteckkbjpeckjmaa.Rx
