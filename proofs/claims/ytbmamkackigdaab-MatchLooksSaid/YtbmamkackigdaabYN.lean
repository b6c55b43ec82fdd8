/- The program's operators and pieces (package regex): the small functions. -/
import Derived.Test.YtbmamkackigdaabYG
import Derived.Test.YtbmamkackigdaabAP
import Derived.Test.YtbmamkackigdaabQC
import Derived.BigQuiet
import Derived.Deep.QuietTactic
import Derived.Outline
namespace Go.Proofs.Ytbmamkackigdaab.Rx
open Go Go.RowKit Go.Proofs.Ytbmamkackigdaab
set_option linter.unusedVariables false
set_option maxRecDepth 100000
/-- The sign of an operator, the number of its children, whether the sign comes first, whether there is one. -/
def sgn (op : Nat) : Nat := if op = 1 then 48 else if op = 2 then 49 else if op = 3 then 91 else if op = 4 then 46 else if op = 5 then 124 else if op = 6 then 38 else if op = 7 then 126 else if op = 8 then 42 else if op = 9 then 62 else if op = 10 then 60 else 0
def nk (op : Nat) : Nat := if 4 ≤ op ∧ op ≤ 6 then 2 else if 7 ≤ op ∧ op ≤ 10 then 1 else 0
def pfx (op : Nat) : Bool := op == 7 || op == 9 || op == 10
def knw (op : Nat) : Bool := decide (1 ≤ op ∧ op ≤ 10)
theorem nk_le (op : Nat) : nk op ≤ 2 := by
  unfold nk
  split
  · exact Nat.le_refl _
  · split <;> decide
theorem nk_kids {op : Nat} (h : 0 ≤ kids op) : (nk op : Int) = kids op := by
  unfold nk kids at *
  by_cases h1 : 1 ≤ op ∧ op ≤ 3
  · rw [if_pos h1, if_neg (by omega), if_neg (by omega)]; rfl
  · rw [if_neg h1] at *
    by_cases h2 : 4 ≤ op ∧ op ≤ 6
    · rw [if_pos h2, if_pos h2]; rfl
    · rw [if_neg h2] at *
      rw [if_neg h2]
      by_cases h3 : 7 ≤ op ∧ op ≤ 10
      · rw [if_pos h3, if_pos h3]; rfl
      · rw [if_neg h3] at h; omega
theorem knw_kids {op : Nat} : knw op = decide (0 ≤ kids op) := by
  unfold knw kids
  by_cases h1 : 1 ≤ op ∧ op ≤ 3
  · rw [if_pos h1, decide_eq_true (by omega), decide_eq_true (by decide)]
  · rw [if_neg h1]
    by_cases h2 : 4 ≤ op ∧ op ≤ 6
    · rw [if_pos h2, decide_eq_true (by omega), decide_eq_true (by decide)]
    · rw [if_neg h2]
      by_cases h3 : 7 ≤ op ∧ op ≤ 10
      · rw [if_pos h3, decide_eq_true (by omega), decide_eq_true (by decide)]
      · rw [if_neg h3, decide_eq_false (by omega), decide_eq_false (by decide)]
theorem bal {w w' : World} (h : Below w.heap.size w w') (o : Obj) : Below w.heap.size w (w'.alloc o) := h.alloc h.size o
def opv (op : Nat) : Value := .agg #[.int .u8 (sgn op), .int .i64 (nk op), .bool (pfx op)]
theorem ret_op {a b : Value} {p q : Bool} (h : a = b) (h' : p = q) : Ending.returned (.tuple #[a, .bool p]) = .returned (.tuple #[b, .bool q]) := by rw [h, h']
set_option maxHeartbeats 4000000 in
theorem operatorOf_any (op : Nat) (w : World) (ho : op < 256) : Calls Try.prog 73 #[.int .u8 op] w fun e w' => e = .returned (.tuple #[.agg #[.int .u8 (sgn op), .int .i64 (nk op), .bool (pfx op)], .bool (knw op)]) ∧ Below w.heap.size w w' := by
  by_cases h : 1 ≤ op ∧ op ≤ 10
  · have hc : op = 1 ∨ op = 2 ∨ op = 3 ∨ op = 4 ∨ op = 5 ∨ op = 6 ∨ op = 7 ∨ op = 8 ∨ op = 9 ∨ op = 10 := by omega
    clear h
    rcases hc with rfl | rfl | rfl | rfl | rfl | rfl | rfl | rfl | rfl | rfl
    all_goals
      go_enter Try.func73, Try.ntmps73
      go_wp2
      refine bodyPost_ret (v := .tuple #[opv _, .bool true]) (by simp [results, Try.results73, go_sem, opv, sgn, nk, pfx]) rfl ⟨rfl, ?_⟩
      exact bal (Below.refl _ _) _
  · have hk : Hid (sgn op = 0 ∧ nk op = 0 ∧ pfx op = false ∧ knw op = false) := by
      refine ⟨?_, ?_, ?_, ?_⟩
      · unfold sgn
        rw [if_neg (by omega), if_neg (by omega), if_neg (by omega), if_neg (by omega), if_neg (by omega), if_neg (by omega), if_neg (by omega), if_neg (by omega), if_neg (by omega), if_neg (by omega)]
      · unfold nk; rw [if_neg (by omega), if_neg (by omega)]
      · unfold pfx; simp; omega
      · unfold knw; exact decide_eq_false h
    have n1 : ((op : Int) == 1) = false := by rw [beq_eq_false_iff_ne]; omega
    have n2 : ((op : Int) == 2) = false := by rw [beq_eq_false_iff_ne]; omega
    have n3 : ((op : Int) == 3) = false := by rw [beq_eq_false_iff_ne]; omega
    have n4 : ((op : Int) == 4) = false := by rw [beq_eq_false_iff_ne]; omega
    have n5 : ((op : Int) == 5) = false := by rw [beq_eq_false_iff_ne]; omega
    have n6 : ((op : Int) == 6) = false := by rw [beq_eq_false_iff_ne]; omega
    have n7 : ((op : Int) == 7) = false := by rw [beq_eq_false_iff_ne]; omega
    have n8 : ((op : Int) == 8) = false := by rw [beq_eq_false_iff_ne]; omega
    have n9 : ((op : Int) == 9) = false := by rw [beq_eq_false_iff_ne]; omega
    have n10 : ((op : Int) == 10) = false := by rw [beq_eq_false_iff_ne]; omega
    clear h
    go_enter Try.func73, Try.ntmps73
    go_wp2
    obtain ⟨e1, e2, e3, e4⟩ := hk.out
    rw [e1, e2, e3, e4]
    exact bodyPost_ret (v := .tuple #[.agg #[.int .u8 0, .int .i64 0, .bool false], .bool false]) (by simp [results, Try.results73, go_sem]) rfl ⟨rfl, bal (Below.refl _ _) _⟩
theorem isNumberOfVars_any (k : Int) (w : World) :
    Calls Try.prog 49 #[.int .i64 k] w fun e w' => e = .returned (.bool (decide (0 ≤ k ∧ k ≤ 6))) ∧ w = w' := by
  by_cases h1 : 0 ≤ k
  · by_cases h2 : k ≤ 6
    · go_enter Try.func49, Try.ntmps49
      go_wp2
      go_ret
      refine ⟨?_, rfl⟩
      simp [h1, h2]
    · go_enter Try.func49, Try.ntmps49
      go_wp2
      go_ret
      refine ⟨?_, rfl⟩
      simp [h2]
  · go_enter Try.func49, Try.ntmps49
    go_wp2
    go_ret
    refine ⟨?_, rfl⟩
    simp; omega
theorem isNumberOfVars_yes (k : Int) (w : World) (hv : 0 ≤ k ∧ k ≤ 6) : Calls Try.prog 49 #[.int .i64 k] w fun e w' => e = .returned (.bool true) ∧ w = w' := by
  have := isNumberOfVars_any k w
  rwa [decide_eq_true hv] at this
theorem isNumberOfVars_no (k : Int) (w : World) (hv : ¬ (0 ≤ k ∧ k ≤ 6)) : Calls Try.prog 49 #[.int .i64 k] w fun e w' => e = .returned (.bool false) ∧ w = w' := by
  have := isNumberOfVars_any k w
  rwa [decide_eq_false hv] at this
theorem isLook_any (op : Nat) (w : World) (ho : op < 256) : Calls Try.prog 45 #[.int .u8 op] w fun e w' => e = .returned (.bool (op == 9 || op == 10)) ∧ w = w' := by
  by_cases h9 : op = 9
  · subst h9
    go_enter Try.func45, Try.ntmps45
    go_wp2
    go_ret
    exact ⟨rfl, rfl⟩
  · by_cases h10 : op = 10
    · subst h10
      go_enter Try.func45, Try.ntmps45
      go_wp2
      go_ret
      exact ⟨rfl, rfl⟩
    · have n9 : ((op : Int) == 9) = false := by rw [beq_eq_false_iff_ne]; omega
      have n10 : ((op : Int) == 10) = false := by rw [beq_eq_false_iff_ne]; omega
      have hk : Hid ((op == 9 || op == 10) = false) := by
        show _ = _
        simp [h9, h10]
      clear h9 h10
      go_enter Try.func45, Try.ntmps45
      go_wp2
      go_ret
      exact ⟨ret_b hk.out.symm, rfl⟩
theorem cubeOf_any (x : Pc) (w : World) : Calls Try.prog 81 #[.agg #[.int .u8 x.op, .int .u8 x.p, .int .u8 x.q, .int .i64 x.a, .int .i64 x.b]] w fun e w' => e = .returned (.agg #[.int .u8 x.p, .int .u8 x.q]) ∧ Below w.heap.size w w' := by
  obtain ⟨op, p, q, a, b⟩ := x
  go_enter Try.func81, Try.ntmps81
  go_wp2
  exact bodyPost_ret (v := .agg #[.int .u8 p, .int .u8 q]) (by simp [results, Try.results81, go_sem]) rfl ⟨rfl, bal (bal (Below.refl _ _) _) _⟩
end Go.Proofs.Ytbmamkackigdaab.Rx
