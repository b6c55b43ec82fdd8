/- Long: whether a set has more words than the statements examine. -/
import Derived.Test.YtbmamkackigdaaaP
namespace Go.Proofs.Ytbmamkackigdaaa
open Go Go.RowKit
set_option maxRecDepth 100000
/-- Slices of sets as they are handed to a variadic function. -/
def Sets (w : World) (A : Option Addr) (n : Nat) (a : Nat → Option Addr) (l c : Nat → Nat) : Prop := Vals w A n fun j => .slice (a j) (l j) (c j)
set_option maxHeartbeats 400000 in
theorem Long_any (A : Option Addr) (n m : Nat) (a : Nat → Option Addr) (l c : Nat → Nat) (w : World) (hx : Sets w A n a l c) (hn : n ≤ 1000) (hl : ∀ j, j < n → l j ≤ maxLen) :
    Calls Try.prog 9 #[.slice A n m] w fun e w' => e = .returned (.bool (!allB (fun j => decide (l j ≤ 80)) n)) ∧ w = w' := by
  go_enter Try.func9, Try.ntmps9
  go_wp2
  go_loop [3] (fun i => ∃ k : Nat, k ≤ n ∧ i = .int .i64 k ∧ Hid (∀ i, i < k → l i ≤ 80)) (fun i => n - (intOf i).toNat)
  case atStart => exact ⟨0, by omega, rfl, fun i hi => absurd hi (by omega)⟩
  case round =>
    obtain ⟨k, hk, rfl, H⟩ := hrel
    by_cases hlt : k < n
    · obtain ⟨ad, rfl, hcell⟩ := hx.at_ hlt
      have hlk := hl k hlt
      unfold maxLen at hlk
      by_cases h80 : l k ≤ 80
      · have H' : Hid (∀ i, i < k + 1 → l i ≤ 80) := fun i hi => by
          rcases Nat.lt_or_eq_of_le (Nat.le_of_lt_succ hi) with h1 | rfl
          · exact H.out i h1
          · exact h80
        clear H
        generalize l k = q at *
        generalize a k = ak at *
        generalize c k = ck at *
        go_wp2
        go_round
        case rel => exact ⟨k + 1, by omega, by go_num, H'⟩
        case measure => simp [intOf]; omega
      · have H' : Hid ((!allB (fun j => decide (l j ≤ 80)) n) = true) := by
          show _ = _
          rw [allB_false hlt (by simpa using h80)]
          rfl
        clear H
        generalize l k = q at *
        generalize a k = ak at *
        generalize c k = ck at *
        go_wp2
        go_ret
        exact ⟨ret_bool H'.out.symm, rfl⟩
    · obtain rfl : k = n := by omega
      have H' : Hid ((!allB (fun j => decide (l j ≤ 80)) k) = false) := by
        show _ = _
        rw [(allB_iff _ _).2 fun i hi => by simpa using H.out i hi]
        rfl
      clear H
      go_wp2
      go_ret
      exact ⟨ret_bool H'.out.symm, rfl⟩
end Go.Proofs.Ytbmamkackigdaaa
