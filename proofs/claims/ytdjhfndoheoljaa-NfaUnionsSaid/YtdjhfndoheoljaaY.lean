/- Has, With, Without: contracts, and what they do to membership. -/
import Derived.Test.YtdjhfndoheoljaaV
import Derived.Test.YtdjhfndoheoljaaR
namespace Go.Proofs.Ytdjhfndoheoljaa
open Go Go.RowKit
set_option maxRecDepth 100000
/-- Whether k is an element, whatever k. -/
def hasB (xs : List Nat) (k : Int) : Bool := decide (0 ≤ k ∧ k ≤ 4095) && mem xs k.toNat
theorem and_bit (x j : Nat) : (((x &&& 2 ^ j : Nat) : Int) != 0) = x.testBit j := by
  have h : (x &&& 2 ^ j) = 2 ^ j * (x.testBit j).toNat := by
    apply Nat.eq_of_testBit_eq
    intro b
    rw [Nat.testBit_and, Nat.testBit_two_pow]
    by_cases hb : j = b
    · subst hb
      cases h : x.testBit j <;> simp
    · have hb' : ¬ b = j := fun e => hb e.symm
      cases h : x.testBit j <;> simp [hb]
  rw [h]
  have hp : (2 : Nat) ^ j ≠ 0 := Nat.ne_of_gt (Nat.two_pow_pos j)
  cases hx : x.testBit j
  · simp
  · simp only [Bool.toNat_true, Nat.mul_one]
    rw [bne_iff_ne]
    exact_mod_cast hp
set_option maxHeartbeats 400000 in
theorem Has_any (A : Option Addr) (xs : List Nat) (c : Nat) (k : Int) (w : World) (hx : Words w A xs) (ux : U64 xs) :
    Calls Try.prog 52 #[.slice A xs.length c, .int .i64 k] w fun e w' => e = .returned (.bool (hasB xs k)) ∧ ∃ n, w' = w.drewN n := by
  by_cases hk : 0 ≤ k ∧ k ≤ 4095
  · have hrng := inRange_any k w
    rw [decide_eq_true hk] at hrng
    have HR := Lib.hid hrng
    obtain ⟨z0, z1⟩ := hk
    obtain ⟨m, rfl⟩ := Int.eq_ofNat_of_zero_le z0
    have hm : m ≤ 4095 := by omega
    have HF : Hid (hasB xs (m : Int) = (wd xs (m / 64)).testBit (m % 64)) := by
      show _ = _
      unfold hasB mem
      rw [decide_eq_true ⟨z0, z1⟩, Int.toNat_natCast, Bool.true_and]
    have HP := Lib.hid (place_any m w hm)
    have hbit : 2 ^ (m % 64) < 2 ^ 64 := Nat.pow_lt_pow_right (by omega) (by omega)
    have hwd := ux.at_ (m / 64)
    have HA : Hid (bits BinOp.and IntKind.u64 ((wd xs (m / 64) : Nat) : Int) ((2 ^ (m % 64) : Nat) : Int) = ((wd xs (m / 64) &&& 2 ^ (m % 64) : Nat) : Int)) := u64_and_nat _ _ hwd hbit
    clear hrng z0 z1
    obtain ⟨j, hj⟩ : ∃ j, j = m % 64 := ⟨_, rfl⟩
    obtain ⟨p, hp⟩ : ∃ p : Nat, p = 2 ^ (m % 64) := ⟨_, rfl⟩
    obtain ⟨i, hi'⟩ : ∃ i : Nat, i = m / 64 := ⟨_, rfl⟩
    rw [← hp] at HP HA hbit
    rw [← hi'] at HP HA HF hwd
    have HPP := Lib.hid hp
    clear hp hi' hj hwd
    go_enter Try.func52, Try.ntmps52
    go_wp2_with (first
      | (go_at_call 43; refine HR.out.mono ?_; rintro e w' ⟨rfl, rfl⟩)
      | (go_at_call 44; refine HP.out.mono ?_; rintro e w' ⟨rfl, nq, rfl⟩)
      | (go_at_call 50; refine (word_any _ _ _ _ _ (hx.drewN nq)).mono ?_; rintro e w' ⟨rfl, rfl⟩))
    go_ret
    refine ⟨ret_bool ?_, nq, rfl⟩
    show (bits BinOp.and IntKind.u64 ((wd xs i : Nat) : Int) (p : Int) != 0) = _
    rw [HA.out, HF.out, HPP.out, and_bit]
  · have hrng := inRange_any k w
    rw [decide_eq_false hk] at hrng
    have HR := Lib.hid hrng
    have HF : Hid (hasB xs k = false) := by
      show _ = _
      unfold hasB
      rw [decide_eq_false hk, Bool.false_and]
    clear hrng hk
    go_enter Try.func52, Try.ntmps52
    go_wp2_with (go_at_call 43; refine HR.out.mono ?_; rintro e w' ⟨rfl, rfl⟩)
    go_ret
    exact ⟨ret_bool HF.out.symm, 0, rfl⟩
theorem of_one (k : Int) (W : World) :
    Calls Try.prog 24 #[.slice (some ⟨W.heap.size, 0, none⟩) 1 1] (W.alloc (.cells #[.int .i64 k] 3)) fun e w' =>
      ∃ A' c', e = .returned (.slice A' (ofL [k]).length c') ∧ Words w' A' (ofL [k]) ∧ U64 (ofL [k]) ∧ (ofL [k]).length ≤ c' ∧ Below W.heap.size W w' := of_lit [k] _ rfl (by simp) W
section
variable {w0 w : World} {S : List (Option Addr × Nat × List Nat)} {A : Option Addr} {c : Nat} {xs : List Nat}
end
section
variable {xs : List Nat} {k : Int} {m : Nat}
theorem u64_of (l : List Int) : U64 (ofL l) := (ofTo_ok l _).1
theorem mem_with (hm : m < 4096) : mem (canon (zipW (· ||| ·) xs (ofL [k]))) m = (mem xs m || decide ((m : Int) = k)) := by
  rw [mem_or hm, mem_ofL _ hm]; simp
theorem mem_without (ux : U64 xs) (hm : m < 4096) : mem (canon (zipW andNot xs (ofL [k]))) m = (mem xs m && !decide ((m : Int) = k)) := by
  rw [mem_minus ux (u64_of _) hm, mem_ofL _ hm]; simp
theorem u64_with (ux : U64 xs) : U64 (canon (zipW (· ||| ·) xs (ofL [k]))) := u64_canon (u64_zip ux (u64_of _) _ fun _ _ h h' => Nat.or_lt_two_pow h h')
theorem u64_without (ux : U64 xs) : U64 (canon (zipW andNot xs (ofL [k]))) := u64_canon (u64_zip ux (u64_of _) _ fun _ _ h _ => Nat.lt_of_le_of_lt Nat.and_le_left h)
theorem has_with (o : Int) : hasB (canon (zipW (· ||| ·) xs (ofL [k]))) o = (hasB xs o || (decide (0 ≤ o ∧ o ≤ 4095) && decide (o = k))) := by
  unfold hasB
  by_cases h : 0 ≤ o ∧ o ≤ 4095
  · rw [mem_with (by omega), decide_eq_true h, Int.toNat_of_nonneg h.1]; simp
  · rw [decide_eq_false h]; rfl
theorem has_without (ux : U64 xs) (o : Int) : hasB (canon (zipW andNot xs (ofL [k]))) o = (hasB xs o && !decide (o = k)) := by
  unfold hasB
  by_cases h : 0 ≤ o ∧ o ≤ 4095
  · rw [mem_without ux (by omega), decide_eq_true h, Int.toNat_of_nonneg h.1]; simp
  · rw [decide_eq_false h]; rfl
theorem single1 (ux : U64 xs) : eqB (canon (zipW andNot (canon (zipW (· ||| ·) xs (ofL [k]))) (ofL [k]))) (canon (zipW andNot xs (ofL [k]))) = true := by
  rw [eqB_mem (u64_without (u64_with ux)) (u64_without ux)]
  intro m hm
  rw [mem_without (u64_with ux) hm, mem_with hm, mem_without ux hm]
  cases mem xs m <;> cases decide ((m : Int) = k) <;> rfl
theorem single2 (ux : U64 xs) : eqB (canon (zipW (· ||| ·) (canon (zipW andNot xs (ofL [k]))) (ofL [k]))) (canon (zipW (· ||| ·) xs (ofL [k]))) = true := by
  rw [eqB_mem (u64_with (u64_without ux)) (u64_with ux)]
  intro m hm
  rw [mem_with hm, mem_without ux hm, mem_with hm]
  cases mem xs m <;> cases decide ((m : Int) = k) <;> rfl
theorem single3 (ux : U64 xs) (hk : ¬ (0 ≤ k ∧ k ≤ 4095)) : eqB (canon (zipW (· ||| ·) xs (ofL [k]))) xs = true := by
  rw [eqB_mem (u64_with ux) ux]
  intro m hm
  rw [mem_with hm, decide_eq_false (by omega), Bool.or_false]
end
end Go.Proofs.Ytdjhfndoheoljaa
