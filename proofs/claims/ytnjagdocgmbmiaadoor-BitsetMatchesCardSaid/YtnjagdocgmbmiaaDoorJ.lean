/- Comparisons: cmp.Compare, slices.Compare, the reference's Ints and Same; Has. -/
import Derived.Test.YtnjagdocgmbmiaaDoorI
namespace Go.Proofs.YtnjagdocgmbmiaaDoor
open Go Go.RowKit
set_option maxRecDepth 100000
/-- The order of two lists of numbers: -1, 0 or 1. -/
def cmpL : List Int → List Int → Int
  | [], [] => 0
  | [], _ :: _ => -1
  | _ :: _, [] => 1
  | a :: s, b :: t => if a < b then -1 else if b < a then 1 else cmpL s t
theorem nd_get (l : List Int) (k : Nat) (h : k < l.length) : l.drop k = nd l k :: l.drop (k + 1) := by
  rw [List.drop_eq_getElem_cons h]
  simp [nd, h]
theorem cmpL_step {l m : List Int} {k : Nat} (h : k < l.length) (h' : k < m.length) :
    cmpL (l.drop k) (m.drop k) = if nd l k < nd m k then -1 else if nd m k < nd l k then 1 else cmpL (l.drop (k + 1)) (m.drop (k + 1)) := by
  rw [nd_get l k h, nd_get m k h', cmpL]
theorem cmpL_end {l m : List Int} {k : Nat} (hk : k ≤ l.length) (hk' : k ≤ m.length) (h : k = l.length ∨ k = m.length) :
    cmpL (l.drop k) (m.drop k) = if l.length < m.length then -1 else if m.length < l.length then 1 else 0 := by
  rcases h with rfl | rfl
  · rcases Nat.lt_or_eq_of_le hk' with h1 | h1
    · rw [nd_get m _ h1, List.drop_length, if_pos h1]
      rfl
    · rw [List.drop_length, h1, List.drop_length]
      simp [cmpL]
  · rcases Nat.lt_or_eq_of_le hk with h1 | h1
    · rw [nd_get l _ h1, List.drop_length, if_neg (by omega), if_pos h1]
      rfl
    · rw [List.drop_length, h1, List.drop_length]
      simp [cmpL]
theorem isNaN_any (a : Int) (w : World) : Calls Tryd.prog 57 #[.int .i64 a] w fun e w' => e = .returned (.bool false) ∧ w = w' := by
  go_enter Tryd.func57, Tryd.ntmps57
  go_wp2
  go_ret
  exact ⟨ret_bool (by simp), rfl⟩
theorem cmp_any (a b : Int) (w : World) : Calls Tryd.prog 56 #[.int .i64 a, .int .i64 b] w fun e w' => e = .returned (.int .i64 (if a < b then -1 else if b < a then 1 else 0)) ∧ w = w' := by
  rcases Int.lt_trichotomy a b with h | h | h
  · rw [if_pos h]
    go_enter Tryd.func56, Tryd.ntmps56
    go_wp2_with (go_at_call 57; refine (isNaN_any _ _).mono ?_; rintro e w' ⟨rfl, rfl⟩)
    go_ret
    exact ⟨rfl, rfl⟩
  · subst h
    rw [if_neg (by omega), if_neg (by omega)]
    go_enter Tryd.func56, Tryd.ntmps56
    go_wp2_with (go_at_call 57; refine (isNaN_any _ _).mono ?_; rintro e w' ⟨rfl, rfl⟩)
    go_ret
    exact ⟨rfl, rfl⟩
  · rw [if_neg (by omega), if_pos h]
    have h' : ¬ a < b := by omega
    go_enter Tryd.func56, Tryd.ntmps56
    go_wp2_with (go_at_call 57; refine (isNaN_any _ _).mono ?_; rintro e w' ⟨rfl, rfl⟩)
    go_ret
    exact ⟨rfl, rfl⟩
set_option maxHeartbeats 400000 in
theorem sliceCmp_any (A B : Option Addr) (l m : List Int) (c d : Nat) (w : World) (hx : Ints w A l) (hy : Ints w B m) (hl : l.length ≤ maxLen) (hm : m.length ≤ maxLen) :
    Calls Tryd.prog 52 #[.slice A l.length c, .slice B m.length d] w fun e w' => e = .returned (.int .i64 (cmpL l m)) ∧ w = w' := by
  unfold maxLen at hl hm
  go_enter Tryd.func52, Tryd.ntmps52
  go_wp2
  go_loop [11] (fun i => ∃ k : Nat, k ≤ l.length ∧ k ≤ m.length ∧ i = .int .i64 k ∧ Hid (cmpL l m = cmpL (l.drop k) (m.drop k))) (fun i => l.length - (intOf i).toNat)
  case atStart => exact ⟨0, by omega, by omega, rfl, rfl⟩
  case round =>
    obtain ⟨k, hk, hk', rfl, H⟩ := hrel
    by_cases hlt : k < l.length
    · by_cases hlt' : k < m.length
      · obtain ⟨ad, rfl, hcell⟩ := hx.at_ hlt
        obtain ⟨bd, rfl, hcell'⟩ := hy.at_ hlt'
        have hs := cmpL_step hlt hlt'
        have HN : Hid (cmpL l m = if nd l k < nd m k then -1 else if nd m k < nd l k then 1 else cmpL (l.drop (k + 1)) (m.drop (k + 1))) := H.out.trans hs
        clear hs H
        generalize nd l k = a at *
        generalize nd m k = b at *
        rcases Int.lt_trichotomy a b with h | h | h
        · have H' : Hid (cmpL l m = -1) := by
            have := HN.out
            rwa [if_pos h] at this
          have hc := cmp_any a b w
          rw [if_pos h] at hc
          have HC := Lib.hid hc
          clear hc HN h
          go_wp2_with (go_at_call 56; refine HC.out.mono ?_; rintro e w' ⟨rfl, rfl⟩)
          go_ret
          exact ⟨ret_of H'.out.symm, rfl⟩
        · subst h
          have H' : Hid (cmpL l m = cmpL (l.drop (k + 1)) (m.drop (k + 1))) := by
            have := HN.out
            rwa [if_neg (by omega), if_neg (by omega)] at this
          have hc := cmp_any a a w
          rw [if_neg (by omega), if_neg (by omega)] at hc
          have HC := Lib.hid hc
          clear hc HN
          go_wp2_with (go_at_call 56; refine HC.out.mono ?_; rintro e w' ⟨rfl, rfl⟩)
          go_round
          case rel => exact ⟨k + 1, by omega, by omega, by go_num, H'⟩
          case measure => simp [intOf]; omega
        · have H' : Hid (cmpL l m = 1) := by
            have := HN.out
            rwa [if_neg (by omega), if_pos h] at this
          have hc := cmp_any a b w
          rw [if_neg (by omega), if_pos h] at hc
          have HC := Lib.hid hc
          clear hc HN h
          go_wp2_with (go_at_call 56; refine HC.out.mono ?_; rintro e w' ⟨rfl, rfl⟩)
          go_ret
          exact ⟨ret_of H'.out.symm, rfl⟩
      · obtain ⟨ad, rfl, hcell⟩ := hx.at_ hlt
        have H' : Hid (cmpL l m = 1) := by
          show _ = _
          rw [H.out, cmpL_end hk hk' (.inr (by omega)), if_neg (by omega), if_pos (by omega)]
        clear H
        generalize nd l k = a at *
        go_wp2
        go_ret
        exact ⟨ret_of H'.out.symm, rfl⟩
    · by_cases hlm : l.length < m.length
      · have H' : Hid (cmpL l m = -1) := by
          show _ = _
          rw [H.out, cmpL_end hk hk' (.inl (by omega)), if_pos hlm]
        clear H
        go_wp2
        go_ret
        exact ⟨ret_of H'.out.symm, rfl⟩
      · have H' : Hid (cmpL l m = 0) := by
          show _ = _
          rw [H.out, cmpL_end hk hk' (.inl (by omega)), if_neg hlm, if_neg (by omega)]
        clear H
        go_wp2
        go_ret
        exact ⟨ret_of H'.out.symm, rfl⟩
end Go.Proofs.YtnjagdocgmbmiaaDoor
