/- contains: one text lies in another. -/
import Derived.Test.YtpjnbojplifegaaYZS
namespace Go.Proofs.Ytpjnbojplifegaa.Rx
open Go Go.RowKit Go.Shelf Go.Proofs.Ytpjnbojplifegaa
set_option linter.unusedVariables false
set_option maxRecDepth 100000
set_option maxHeartbeats 4000000 in
theorem contains_any (S T : ByteArray) (m : Nat) (hT : m + T.size ≤ S.size) (h : S.extract m (m + T.size) = T) (hS : S.size ≤ 1000000) (w : World) :
    Calls Try.prog 26 #[.string S, .string T] w fun e w' => e = .returned (.bool true) ∧ w' = w := by
  have H := Lib.hid h
  clear h
  go_enter Try.func26, Try.ntmps26
  go_wp2
  go_loopw [5] (fun i wr => ∃ j : Nat, j ≤ m ∧ i = .int .i64 j ∧ wr = w) (fun i _ => m - (intOf i).toNat)
  case atStart => exact ⟨0, by omega, rfl, rfl⟩
  case round =>
    obtain ⟨j, hj, rfl, rfl⟩ := hrel
    have hle : (j : Int) + (T.size : Int) ≤ (S.size : Int) := by omega
    have hle2 : j + T.size ≤ S.size := by omega
    have hd : decide ((j : Int) + (T.size : Int) ≤ (S.size : Int)) = true := decide_eq_true hle
    by_cases hq : ((S.extract j (j + T.size)).toList == T.toList) = true
    · clear H
      go_wp2
      go_ret
      exact ⟨rfl, rfl⟩
    · have hq := eq_false_of_ne_true hq
      have hlt : j < m := by
        rcases Nat.lt_or_eq_of_le hj with h | rfl
        · exact h
        · rw [H.out, beq_self_eq_true] at hq; cases hq
      clear H
      go_wp2
      go_roundw
      case rel => exact ⟨j + 1, by omega, by go_num, trivial⟩
      case measure => simp [intOf]; omega
end Go.Proofs.Ytpjnbojplifegaa.Rx
