/- Check, Has and their references (package cube), for the stages behind it. -/
import Derived.Test.YteckkbjpeckjmaaDoorBS
import Derived.Test.YteckkbjpeckjmaaDoorCQ
import Derived.Test.YteckkbjpeckjmaaDoorProg
import Derived.Laws.BitsAllLaws
import Derived.WalkLawsBesides
namespace Go.Proofs.YteckkbjpeckjmaaDoor.Cb
open Go Go.RowKit Go.Proofs.YteckkbjpeckjmaaDoor
set_option maxRecDepth 100000
theorem bal {w w' : World} (h : Below w.heap.size w w') (o : Obj) : Below w.heap.size w (w'.alloc o) := h.alloc h.size o
theorem isNumberOfVars_any (k : Int) (w : World) :
    Calls Tryd.prog 110 #[.int .i64 k] w fun e w' => e = .returned (.bool (decide (0 ≤ k ∧ k ≤ 6))) ∧ w = w' := by
  by_cases h1 : 0 ≤ k
  · by_cases h2 : k ≤ 6
    · go_enter Tryd.func110, Tryd.ntmps110
      go_wp2
      go_ret
      refine ⟨?_, rfl⟩
      simp [h1, h2]
    · go_enter Tryd.func110, Tryd.ntmps110
      go_wp2
      go_ret
      refine ⟨?_, rfl⟩
      simp [h2]
  · go_enter Tryd.func110, Tryd.ntmps110
    go_wp2
    go_ret
    refine ⟨?_, rfl⟩
    simp; omega
theorem shl64 {v : Nat} (h : v ≤ 6) : wrap64 ((2 : Int) ^ v) = ((2 ^ v : Nat) : Int) := by
  have h1 := pow6 h
  have h2 : ((2 ^ v : Nat) : Int) = (2 : Int) ^ v := by exact_mod_cast rfl
  rw [← h2]
  generalize 2 ^ v = n at h1
  exact IntWalk.wrap64_in _ ⟨by omega, by omega⟩
theorem isLetter_any (x v : Nat) (w : World) (hx : x < 256) (hv : v ≤ 6) :
    Calls Tryd.prog 111 #[.int .u8 x, .int .i64 v] w fun e w' => e = .returned (.bool (decide (x < 2 ^ v))) ∧ w = w' := by
  go_enter Tryd.func111, Tryd.ntmps111
  go_wp2
  go_ret
  refine ⟨ret_bool ?_, rfl⟩
  rw [shl64 hv, Bool.eq_iff_iff, decide_eq_true_iff, decide_eq_true_iff]
  exact Int.ofNat_lt
theorem Has_any (p q x : Nat) (w : World) (hp : p < 256) (hq : q < 256) (hx : x < 256) :
    Calls Tryd.prog 113 #[.agg #[.int .u8 p, .int .u8 q], .int .u8 x] w fun e w' => e = .returned (.bool (cHas p q x)) ∧ Below w.heap.size w w' := by
  have e1 := u8_and_nat x p hx hp
  have e2 := u8_and_nat x q hx hq
  by_cases h : x &&& p = p
  · have h1 : (bits .and .u8 (x : Int) (p : Int) == (p : Int)) = true := by rw [e1, h]; simp
    clear e1
    go_enter Tryd.func113, Tryd.ntmps113
    go_wp2
    go_ret
    refine ⟨ret_bool ?_, (Below.refl _ _).alloc (Nat.le_refl _) _⟩
    unfold cHas
    rw [beq_iff_eq.2 h, Bool.true_and]
    exact cast_beq _ 0
  · have h1 : (bits .and .u8 (x : Int) (p : Int) == (p : Int)) = false := by rw [e1, cast_beq]; exact beq_eq_false_iff_ne.2 h
    clear e1
    go_enter Tryd.func113, Tryd.ntmps113
    go_wp2
    go_ret
    refine ⟨ret_bool ?_, (Below.refl _ _).alloc (Nat.le_refl _) _⟩
    unfold cHas
    rw [beq_eq_false_iff_ne.2 h, Bool.false_and]
theorem isNumberOfVars_yes (v : Nat) (w : World) (hv : v ≤ 6) : Calls Tryd.prog 110 #[.int .i64 v] w fun e w' => e = .returned (.bool true) ∧ w = w' := by
  have := isNumberOfVars_any v w
  rwa [decide_eq_true (by omega)] at this
theorem isNumberOfVars_no (k : Int) (w : World) (hv : ¬ (0 ≤ k ∧ k ≤ 6)) : Calls Tryd.prog 110 #[.int .i64 k] w fun e w' => e = .returned (.bool false) ∧ w = w' := by
  have := isNumberOfVars_any k w
  rwa [decide_eq_false hv] at this
theorem isLetter_yes (x v : Nat) (w : World) (hx : x < 256) (hv : v ≤ 6) (h : x < 2 ^ v) : Calls Tryd.prog 111 #[.int .u8 x, .int .i64 v] w fun e w' => e = .returned (.bool true) ∧ w = w' := by
  have := isLetter_any x v w hx hv
  rwa [decide_eq_true h] at this
theorem isLetter_no (x v : Nat) (w : World) (hx : x < 256) (hv : v ≤ 6) (h : ¬ x < 2 ^ v) : Calls Tryd.prog 111 #[.int .u8 x, .int .i64 v] w fun e w' => e = .returned (.bool false) ∧ w = w' := by
  have := isLetter_any x v w hx hv
  rwa [decide_eq_false h] at this
theorem Check_any (p q : Nat) (v : Int) (w : World) (hp : p < 256) (hq : q < 256) :
    Calls Tryd.prog 91 #[.agg #[.int .u8 p, .int .u8 q], .int .i64 v] w fun e w' => e = .returned (.int .i64 (chk p q v)) ∧ Below w.heap.size w w' := by
  by_cases hv : 0 ≤ v ∧ v ≤ 6
  · obtain ⟨n, rfl⟩ : ∃ n : Nat, v = n := ⟨v.toNat, by omega⟩
    have hn : n ≤ 6 := by omega
    have hc := chk_in (p := p) (q := q) n hn
    clear hv
    by_cases h1 : p < 2 ^ n
    · by_cases h2 : q < 2 ^ n
      · rw [if_neg (by omega)] at hc
        have L1 := Lib.hid fun w => isLetter_yes p n w hp hn h1
        have L2 := Lib.hid fun w => isLetter_yes q n w hq hn h2
        have e3 := u8_and_nat p q hp hq
        clear h1 h2
        by_cases h3 : p &&& q = 0
        · rw [if_pos h3] at hc
          have HC := Lib.hid hc
          have h4 : (bits .and .u8 (p : Int) (q : Int) != 0) = false := by rw [e3, h3]; rfl
          clear e3 hc h3
          go_enter Tryd.func91, Tryd.ntmps91
          go_wp2_with (first
            | (go_at_call 110; refine (isNumberOfVars_yes n _ hn).mono ?_; rintro e w' ⟨rfl, rfl⟩)
            | (go_at_call 111; ((with_reducible refine (L1.out _).mono ?_); rintro e w' ⟨rfl, rfl⟩))
            | (go_at_call 111; ((with_reducible refine (L2.out _).mono ?_); rintro e w' ⟨rfl, rfl⟩)))
          go_ret
          exact ⟨ret_of HC.out.symm, bal (Below.refl _ _) _⟩
        · rw [if_neg h3] at hc
          have HC := Lib.hid hc
          have h4 : (bits .and .u8 (p : Int) (q : Int) != 0) = true := by rw [e3, bne_iff_ne]; exact_mod_cast h3
          clear e3 hc h3
          go_enter Tryd.func91, Tryd.ntmps91
          go_wp2_with (first
            | (go_at_call 110; refine (isNumberOfVars_yes n _ hn).mono ?_; rintro e w' ⟨rfl, rfl⟩)
            | (go_at_call 111; ((with_reducible refine (L1.out _).mono ?_); rintro e w' ⟨rfl, rfl⟩))
            | (go_at_call 111; ((with_reducible refine (L2.out _).mono ?_); rintro e w' ⟨rfl, rfl⟩)))
          go_ret
          exact ⟨ret_of HC.out.symm, bal (Below.refl _ _) _⟩
      · rw [if_pos (by omega)] at hc
        have HC := Lib.hid hc
        have L1 := Lib.hid fun w => isLetter_yes p n w hp hn h1
        have L2 := Lib.hid fun w => isLetter_no q n w hq hn h2
        clear h1 h2 hc
        go_enter Tryd.func91, Tryd.ntmps91
        go_wp2_with (first
          | (go_at_call 110; refine (isNumberOfVars_yes n _ hn).mono ?_; rintro e w' ⟨rfl, rfl⟩)
          | (go_at_call 111; ((with_reducible refine (L1.out _).mono ?_); rintro e w' ⟨rfl, rfl⟩))
          | (go_at_call 111; ((with_reducible refine (L2.out _).mono ?_); rintro e w' ⟨rfl, rfl⟩)))
        go_ret
        exact ⟨ret_of HC.out.symm, bal (Below.refl _ _) _⟩
    · rw [if_pos (by omega)] at hc
      have HC := Lib.hid hc
      have L1 := Lib.hid fun w => isLetter_no p n w hp hn h1
      clear h1 hc
      go_enter Tryd.func91, Tryd.ntmps91
      go_wp2_with (first
        | (go_at_call 110; refine (isNumberOfVars_yes n _ hn).mono ?_; rintro e w' ⟨rfl, rfl⟩)
        | (go_at_call 111; ((with_reducible refine (L1.out _).mono ?_); rintro e w' ⟨rfl, rfl⟩)))
      go_ret
      exact ⟨ret_of HC.out.symm, bal (Below.refl _ _) _⟩
  · have HC := Lib.hid (chk_out (p := p) (q := q) hv)
    go_enter Tryd.func91, Tryd.ntmps91
    go_wp2_with (go_at_call 110; refine (isNumberOfVars_no v _ hv).mono ?_; rintro e w' ⟨rfl, rfl⟩)
    go_ret
    exact ⟨ret_of HC.out.symm, bal (Below.refl _ _) _⟩
end Go.Proofs.YteckkbjpeckjmaaDoor.Cb
