/- Check and its reference (package cube), where Has is not called. -/
import Derived.Test.YteckkbjpeckjmaaW
import Derived.Test.YteckkbjpeckjmaaCQ
import Derived.Test.YteckkbjpeckjmaaProg
import Derived.Laws.BitsAllLaws
import Derived.WalkLawsBesides
namespace Go.Proofs.Yteckkbjpeckjmaa.Cb
open Go Go.RowKit Go.Proofs.Yteckkbjpeckjmaa
set_option maxRecDepth 100000
theorem bal {w w' : World} (h : Below w.heap.size w w') (o : Obj) : Below w.heap.size w (w'.alloc o) := h.alloc h.size o
theorem isNumberOfVars_any (k : Int) (w : World) :
    Calls Try.prog 89 #[.int .i64 k] w fun e w' => e = .returned (.bool (decide (0 ≤ k ∧ k ≤ 6))) ∧ w = w' := by
  by_cases h1 : 0 ≤ k
  · by_cases h2 : k ≤ 6
    · go_enter Try.func89, Try.ntmps89
      go_wp2
      go_ret
      refine ⟨?_, rfl⟩
      simp [h1, h2]
    · go_enter Try.func89, Try.ntmps89
      go_wp2
      go_ret
      refine ⟨?_, rfl⟩
      simp [h2]
  · go_enter Try.func89, Try.ntmps89
    go_wp2
    go_ret
    refine ⟨?_, rfl⟩
    simp; omega
theorem shl64 {v : Nat} (h : v ≤ 6) : wrap64 ((2 : Int) ^ v) = ((2 ^ v : Nat) : Int) := by
  have h1 := pow6 h
  have h2 : ((2 ^ v : Nat) : Int) = (2 : Int) ^ v := by exact_mod_cast rfl
  rw [← h2]
  generalize 2 ^ v = n at h1
  exact IntWalk.wrap64_in _ ⟨by omega, by omega⟩
theorem isLetter_any (x v : Nat) (w : World) (hx : x < 256) (hv : v ≤ 6) :
    Calls Try.prog 90 #[.int .u8 x, .int .i64 v] w fun e w' => e = .returned (.bool (decide (x < 2 ^ v))) ∧ w = w' := by
  go_enter Try.func90, Try.ntmps90
  go_wp2
  go_ret
  refine ⟨ret_bool ?_, rfl⟩
  rw [shl64 hv, Bool.eq_iff_iff, decide_eq_true_iff, decide_eq_true_iff]
  exact Int.ofNat_lt
theorem kitLetters_any (v : Nat) (w : World) (hv : v ≤ 6) :
    Calls Try.prog 47 #[.int .i64 v] w fun e w' => e = .returned (.int .i64 (2 ^ v : Nat)) ∧ w = w' := by
  go_enter Try.func47, Try.ntmps47
  go_wp2
  go_ret
  exact ⟨ret_of (shl64 hv), rfl⟩
theorem isNumberOfVars_yes (v : Nat) (w : World) (hv : v ≤ 6) : Calls Try.prog 89 #[.int .i64 v] w fun e w' => e = .returned (.bool true) ∧ w = w' := by
  have := isNumberOfVars_any v w
  rwa [decide_eq_true (by omega)] at this
theorem isNumberOfVars_no (k : Int) (w : World) (hv : ¬ (0 ≤ k ∧ k ≤ 6)) : Calls Try.prog 89 #[.int .i64 k] w fun e w' => e = .returned (.bool false) ∧ w = w' := by
  have := isNumberOfVars_any k w
  rwa [decide_eq_false hv] at this
theorem isLetter_yes (x v : Nat) (w : World) (hx : x < 256) (hv : v ≤ 6) (h : x < 2 ^ v) : Calls Try.prog 90 #[.int .u8 x, .int .i64 v] w fun e w' => e = .returned (.bool true) ∧ w = w' := by
  have := isLetter_any x v w hx hv
  rwa [decide_eq_true h] at this
theorem isLetter_no (x v : Nat) (w : World) (hx : x < 256) (hv : v ≤ 6) (h : ¬ x < 2 ^ v) : Calls Try.prog 90 #[.int .u8 x, .int .i64 v] w fun e w' => e = .returned (.bool false) ∧ w = w' := by
  have := isLetter_any x v w hx hv
  rwa [decide_eq_false h] at this
theorem Check_any (p q : Nat) (v : Int) (w : World) (hp : p < 256) (hq : q < 256) :
    Calls Try.prog 62 #[.agg #[.int .u8 p, .int .u8 q], .int .i64 v] w fun e w' => e = .returned (.int .i64 (chk p q v)) ∧ Below w.heap.size w w' := by
  by_cases hv : 0 ≤ v ∧ v ≤ 6
  · obtain ⟨n, rfl⟩ : ∃ n : Nat, v = n := ⟨v.toNat, by omega⟩
    have hn : n ≤ 6 := by omega
    have hc := chk_in (p := p) (q := q) n hn
    clear hv
    by_cases h1 : p < 2 ^ n
    · by_cases h2 : q < 2 ^ n
      · rw [if_neg (by omega)] at hc
        have L1 := Lib.hid fun w => isLetter_yes p n w hp hn h1
        have L2 := Lib.hid fun w => isLetter_yes q n w hq hn h2
        have e3 := u8_and_nat p q hp hq
        clear h1 h2
        by_cases h3 : p &&& q = 0
        · rw [if_pos h3] at hc
          have HC := Lib.hid hc
          have h4 : (bits .and .u8 (p : Int) (q : Int) != 0) = false := by rw [e3, h3]; rfl
          clear e3 hc h3
          go_enter Try.func62, Try.ntmps62
          go_wp2_with (first
            | (go_at_call 89; refine (isNumberOfVars_yes n _ hn).mono ?_; rintro e w' ⟨rfl, rfl⟩)
            | (go_at_call 90; ((with_reducible refine (L1.out _).mono ?_); rintro e w' ⟨rfl, rfl⟩))
            | (go_at_call 90; ((with_reducible refine (L2.out _).mono ?_); rintro e w' ⟨rfl, rfl⟩)))
          go_ret
          exact ⟨ret_of HC.out.symm, bal (Below.refl _ _) _⟩
        · rw [if_neg h3] at hc
          have HC := Lib.hid hc
          have h4 : (bits .and .u8 (p : Int) (q : Int) != 0) = true := by rw [e3, bne_iff_ne]; exact_mod_cast h3
          clear e3 hc h3
          go_enter Try.func62, Try.ntmps62
          go_wp2_with (first
            | (go_at_call 89; refine (isNumberOfVars_yes n _ hn).mono ?_; rintro e w' ⟨rfl, rfl⟩)
            | (go_at_call 90; ((with_reducible refine (L1.out _).mono ?_); rintro e w' ⟨rfl, rfl⟩))
            | (go_at_call 90; ((with_reducible refine (L2.out _).mono ?_); rintro e w' ⟨rfl, rfl⟩)))
          go_ret
          exact ⟨ret_of HC.out.symm, bal (Below.refl _ _) _⟩
      · rw [if_pos (by omega)] at hc
        have HC := Lib.hid hc
        have L1 := Lib.hid fun w => isLetter_yes p n w hp hn h1
        have L2 := Lib.hid fun w => isLetter_no q n w hq hn h2
        clear h1 h2 hc
        go_enter Try.func62, Try.ntmps62
        go_wp2_with (first
          | (go_at_call 89; refine (isNumberOfVars_yes n _ hn).mono ?_; rintro e w' ⟨rfl, rfl⟩)
          | (go_at_call 90; ((with_reducible refine (L1.out _).mono ?_); rintro e w' ⟨rfl, rfl⟩))
          | (go_at_call 90; ((with_reducible refine (L2.out _).mono ?_); rintro e w' ⟨rfl, rfl⟩)))
        go_ret
        exact ⟨ret_of HC.out.symm, bal (Below.refl _ _) _⟩
    · rw [if_pos (by omega)] at hc
      have HC := Lib.hid hc
      have L1 := Lib.hid fun w => isLetter_no p n w hp hn h1
      clear h1 hc
      go_enter Try.func62, Try.ntmps62
      go_wp2_with (first
        | (go_at_call 89; refine (isNumberOfVars_yes n _ hn).mono ?_; rintro e w' ⟨rfl, rfl⟩)
        | (go_at_call 90; ((with_reducible refine (L1.out _).mono ?_); rintro e w' ⟨rfl, rfl⟩)))
      go_ret
      exact ⟨ret_of HC.out.symm, bal (Below.refl _ _) _⟩
  · have HC := Lib.hid (chk_out (p := p) (q := q) hv)
    go_enter Try.func62, Try.ntmps62
    go_wp2_with (go_at_call 89; refine (isNumberOfVars_no v _ hv).mono ?_; rintro e w' ⟨rfl, rfl⟩)
    go_ret
    exact ⟨ret_of HC.out.symm, bal (Below.refl _ _) _⟩
theorem refCheck_any (p q : Nat) (v : Int) (w : World) (hp : p < 256) (hq : q < 256) :
    Calls Try.prog 113 #[.agg #[.int .u8 p, .int .u8 q], .int .i64 v] w fun e w' => e = .returned (.int .i64 (chk p q v)) ∧ Below w.heap.size w w' := by
  by_cases hv : 0 ≤ v ∧ v ≤ 6
  · obtain ⟨n, rfl⟩ : ∃ n : Nat, v = n := ⟨v.toNat, by omega⟩
    have hn : n ≤ 6 := by omega
    have hc := chk_in (p := p) (q := q) n hn
    have e3 := u8_and_nat p q hp hq
    clear hv
    obtain ⟨m, hm⟩ : ∃ m, m = 2 ^ n := ⟨_, rfl⟩
    have HL := Lib.hid fun w => kitLetters_any n w hn
    rw [← hm] at hc HL
    clear hm
    by_cases h1 : p < m
    · by_cases h2 : q < m
      · rw [if_neg (by omega)] at hc
        by_cases h3 : p &&& q = 0
        · rw [if_pos h3] at hc
          have HC := Lib.hid hc
          have h4 : (bits .and .u8 (p : Int) (q : Int) != 0) = false := by rw [e3, h3]; rfl
          clear e3 hc h3
          go_enter Try.func113, Try.ntmps113
          go_wp2_with (go_at_call 47; refine (HL.out _).mono ?_; rintro e w' ⟨rfl, rfl⟩)
          go_ret
          exact ⟨ret_of HC.out.symm, bal (Below.refl _ _) _⟩
        · rw [if_neg h3] at hc
          have HC := Lib.hid hc
          have h4 : (bits .and .u8 (p : Int) (q : Int) != 0) = true := by rw [e3, bne_iff_ne]; exact_mod_cast h3
          clear e3 hc h3
          go_enter Try.func113, Try.ntmps113
          go_wp2_with (go_at_call 47; refine (HL.out _).mono ?_; rintro e w' ⟨rfl, rfl⟩)
          go_ret
          exact ⟨ret_of HC.out.symm, bal (Below.refl _ _) _⟩
      · rw [if_pos (by omega)] at hc
        have HC := Lib.hid hc
        have h2' : m ≤ q := by omega
        clear e3 hc h2
        go_enter Try.func113, Try.ntmps113
        go_wp2_with (go_at_call 47; refine (HL.out _).mono ?_; rintro e w' ⟨rfl, rfl⟩)
        go_ret
        exact ⟨ret_of HC.out.symm, bal (Below.refl _ _) _⟩
    · rw [if_pos (by omega)] at hc
      have HC := Lib.hid hc
      have h1' : m ≤ p := by omega
      clear e3 hc h1
      go_enter Try.func113, Try.ntmps113
      go_wp2_with (go_at_call 47; refine (HL.out _).mono ?_; rintro e w' ⟨rfl, rfl⟩)
      go_ret
      exact ⟨ret_of HC.out.symm, bal (Below.refl _ _) _⟩
  · have HC := Lib.hid (chk_out (p := p) (q := q) hv)
    by_cases h0 : v < 0
    · clear hv
      go_enter Try.func113, Try.ntmps113
      go_wp2
      go_ret
      exact ⟨ret_of HC.out.symm, bal (Below.refl _ _) _⟩
    · have h6 : 6 < v := by omega
      clear hv
      go_enter Try.func113, Try.ntmps113
      go_wp2
      go_ret
      exact ⟨ret_of HC.out.symm, bal (Below.refl _ _) _⟩
end Go.Proofs.Yteckkbjpeckjmaa.Cb
