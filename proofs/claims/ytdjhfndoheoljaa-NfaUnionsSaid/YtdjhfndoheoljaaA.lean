/- Contracts of the small functions of package bitset: inRange, place, used, word, span. -/
import Derived.Test.YtdjhfndoheoljaaW
import Derived.Test.YtdjhfndoheoljaaProg
namespace Go.Proofs.Ytdjhfndoheoljaa
open Go Go.RowKit
set_option maxRecDepth 100000
theorem inRange_any (k : Int) (w : World) :
    Calls Try.prog 43 #[.int .i64 k] w fun e w' => e = .returned (.bool (decide (0 ≤ k ∧ k ≤ 4095))) ∧ w = w' := by
  by_cases h1 : 0 ≤ k
  · by_cases h2 : k ≤ 4095
    · go_enter Try.func43, Try.ntmps43
      go_wp2
      go_ret
      refine ⟨?_, rfl⟩
      simp [h1, h2]
    · go_enter Try.func43, Try.ntmps43
      go_wp2
      go_ret
      refine ⟨?_, rfl⟩
      simp [h2]
  · go_enter Try.func43, Try.ntmps43
    go_wp2
    go_ret
    refine ⟨?_, rfl⟩
    simp; omega
theorem place_any (k : Nat) (w : World) (h1 : k ≤ 4095) :
    Calls Try.prog 44 #[.int .i64 k] w fun e w' => e = .returned (.tuple #[.int .i64 (k / 64 : Nat), .int .u64 (2 ^ (k % 64) : Nat)]) ∧ ∃ n, w' = w.drewN n := by
  go_enter Try.func44, Try.ntmps44
  go_wp2
  go_quiet (fail)
  go_wp2
  go_ret2
  refine ⟨ret2_of (by simp) ?_, nq, rfl⟩
  have h : (2 : Int) ^ (k % 64) < 2 ^ 64 := by
    have : (2 : Nat) ^ (k % 64) < 2 ^ 64 := Nat.pow_lt_pow_right (by omega) (by omega)
    exact_mod_cast this
  have h0 : (0 : Int) ≤ 2 ^ (k % 64) := by
    have : (0 : Nat) ≤ 2 ^ (k % 64) := Nat.zero_le _
    exact_mod_cast this
  show IntKind.u64.wrap _ = _
  rw [IntKind.wrap_u64, Int.emod_eq_of_lt h0 (by omega)]
  exact_mod_cast rfl
theorem word_any (A : Option Addr) (xs : List Nat) (c i : Nat) (w : World) (hx : Words w A xs) :
    Calls Try.prog 50 #[.slice A xs.length c, .int .i64 i] w fun e w' => e = .returned (.int .u64 (wd xs i : Nat)) ∧ w = w' := by
  by_cases hlt : i < xs.length
  · obtain ⟨ad, rfl, hcell⟩ := hx.at_ hlt
    go_enter Try.func50, Try.ntmps50
    go_wp2
    go_ret
    exact ⟨ret_of (by simp), rfl⟩
  · go_enter Try.func50, Try.ntmps50
    go_wp2
    go_ret
    exact ⟨ret_of (by rw [wd_out (by omega)]; rfl), rfl⟩
set_option maxHeartbeats 400000 in
theorem used_any (A : Option Addr) (xs : List Nat) (c : Nat) (w : World) (hx : Words w A xs) (hc : xs.length ≤ c) :
    Calls Try.prog 53 #[.slice A xs.length c] w fun e w' => e = .returned (.slice A (ulen xs) c) ∧ w = w' := by
  go_enter Try.func53, Try.ntmps53
  go_wp2
  all_goals
    go_loop [3] (fun n => ∃ k : Nat, k ≤ xs.length ∧ k ≤ 64 ∧ n = .int .i64 k ∧ Hid (trimLen xs k = ulen xs)) (fun n => (intOf n).toNat)
    case atStart => first | exact ⟨xs.length, by omega, by omega, rfl, by show _ = trimLen _ _; rw [Nat.min_eq_left (by omega)]⟩ | exact ⟨64, by omega, by omega, rfl, by show _ = trimLen _ _; rw [Nat.min_eq_right (by omega)]⟩
    case round =>
      obtain ⟨k, hk, hk', rfl, H⟩ := hrel
      by_cases h0 : 0 < k
      · obtain ⟨j, rfl⟩ : ∃ j, k = j + 1 := ⟨k - 1, by omega⟩
        obtain ⟨ad, rfl, hcell⟩ := hx.at_ (j := j) (by omega)
        by_cases hz : wd xs j = 0
        · have H' : Hid (trimLen xs j = ulen xs) := by
            have := H.out
            unfold trimLen at this
            rwa [if_pos hz] at this
          rw [hz] at hcell
          clear hz H
          go_wp2
          go_round
          case rel => exact ⟨j, by omega, by omega, by go_num, H'⟩
          case measure => simp [intOf]
        · have H' : Hid (j + 1 = ulen xs) := by
            have := H.out
            unfold trimLen at this
            rwa [if_neg hz] at this
          clear H
          have hb : (((wd xs j : Nat) : Int) == 0) = false := by
            rw [beq_eq_false_iff_ne]
            exact_mod_cast hz
          clear hz
          go_wp2
          go_ret
          exact ⟨ret_slice H'.out, rfl⟩
      · obtain rfl : k = 0 := by omega
        have H' : Hid (0 = ulen xs) := H.out
        clear H
        go_wp2
        go_ret
        exact ⟨ret_slice H'.out, rfl⟩
theorem span_any (A B : Option Addr) (xs ys : List Nat) (c d : Nat) (w : World) (hx : Words w A xs) (hc : xs.length ≤ c) (hy : Words w B ys) (hd : ys.length ≤ d) :
    Calls Try.prog 49 #[.slice A xs.length c, .slice B ys.length d] w fun e w' => e = .returned (.int .i64 (max (ulen xs) (ulen ys) : Nat)) ∧ w = w' := by
  have ux := ulen_le64 xs
  have uy := ulen_le64 ys
  go_enter Try.func49, Try.ntmps49
  go_wp2_with (go_at_call 53; refine (used_any _ _ _ _ (by assumption) (by assumption)).mono ?_; rintro e w' ⟨rfl, rfl⟩)
  all_goals
    go_ret
    exact ⟨ret_of (by omega), rfl⟩
end Go.Proofs.Ytdjhfndoheoljaa
