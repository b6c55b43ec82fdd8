/- The elements of a set as a list of numbers: plain arithmetic, nothing of the program. -/
import Derived.Test.YtdjhfndoheoljaaW
import Derived.Lib.TrailingZeros
namespace Go.Proofs.Ytdjhfndoheoljaa
open Go Go.RowKit

/-- Whether k is an element. -/
def mem (xs : List Nat) (k : Nat) : Bool := (wd xs (k / 64)).testBit (k % 64)
/-- The elements below m, ascending. -/
def elsTo (xs : List Nat) (m : Nat) : List Nat := (List.range m).filter (mem xs)
/-- The elements, ascending. -/
def els (xs : List Nat) : List Nat := elsTo xs 4096

theorem elsTo_succ {xs : List Nat} {k : Nat} (h : mem xs k = true) : elsTo xs (k + 1) = elsTo xs k ++ [k] := by
  unfold elsTo
  rw [List.range_succ, List.filter_append]
  simp [h]
theorem elsTo_same {xs : List Nat} {k : Nat} (h : mem xs k = false) : elsTo xs (k + 1) = elsTo xs k := by
  unfold elsTo
  rw [List.range_succ, List.filter_append]
  simp [h]
theorem elsTo_skip {xs : List Nat} {a : Nat} : ∀ {b : Nat}, a ≤ b → (∀ k, a ≤ k → k < b → mem xs k = false) → elsTo xs b = elsTo xs a
  | 0, h, _ => by rw [show a = 0 by omega]
  | b + 1, h, hk => by
    rcases Nat.lt_or_eq_of_le h with h1 | rfl
    · rw [elsTo_same (hk b (by omega) (by omega))]
      exact elsTo_skip (by omega) fun k h2 h3 => hk k h2 (by omega)
    · rfl
theorem elsTo_len (xs : List Nat) (m : Nat) : (elsTo xs m).length ≤ m := by
  have := List.length_filter_le (mem xs) (List.range m)
  rwa [List.length_range] at this
theorem trimLen_zero (xs : List Nat) : ∀ n j, trimLen xs n ≤ j → j < n → wd xs j = 0
  | 0, _, _, h => by omega
  | n + 1, j, h, hj => by
    unfold trimLen at h
    split at h
    · rename_i h0
      rcases Nat.lt_or_eq_of_le (Nat.le_of_lt_succ hj) with h1 | rfl
      · exact trimLen_zero xs n j h h1
      · exact h0
    · omega
theorem ulen_zero (xs : List Nat) (j : Nat) (h : ulen xs ≤ j) (hj : j < 64) : wd xs j = 0 := by
  rcases Nat.lt_or_ge j xs.length with h1 | h1
  · exact trimLen_zero xs _ j h (by omega)
  · exact wd_out h1
theorem els_ulen (xs : List Nat) : els xs = elsTo xs (64 * ulen xs) := by
  have := ulen_le64 xs
  refine elsTo_skip (by omega) fun k h1 h2 => ?_
  unfold mem
  rw [ulen_zero xs (k / 64) (by omega) (by omega)]
  simp

/-- The bits of x from t on. -/
def RestAt (x t r : Nat) : Prop := ∀ b, r.testBit b = (decide (t ≤ b) && x.testBit b)
theorem RestAt.start (x : Nat) : RestAt x 0 x := fun b => by simp
theorem RestAt.lt {x t r : Nat} (h : RestAt x t r) (hx : x < 2 ^ 64) : r < 2 ^ 64 := by
  apply Nat.lt_pow_two_of_testBit
  intro i hi
  rw [h i, Nat.testBit_lt_two_pow (Nat.lt_of_lt_of_le hx (Nat.pow_le_pow_right (by decide) hi))]
  simp
theorem lowest {r : Nat} (h0 : r ≠ 0) (h : r < 2 ^ 64) : r.testBit (Lib.ctz 64 r) = true ∧ (∀ b, b < Lib.ctz 64 r → r.testBit b = false) ∧ Lib.ctz 64 r < 64 ∧
    ∀ b, (r &&& (r - 1)).testBit b = (decide (Lib.ctz 64 r < b) && r.testBit b) := by
  obtain ⟨m, hm, hk⟩ := Lib.ctzFrom_spec 64 r (by omega) h
  have e : Lib.ctz 64 r = Lib.ctzFrom 64 r := by simp [Lib.ctz, h0]
  rw [e]
  generalize Lib.ctzFrom 64 r = z at *
  have hlow : ∀ b, b < z → r.testBit b = false := by
    intro b hb
    rw [hm, Nat.mul_comm, Nat.testBit_mul_two_pow]
    simp; omega
  have hz : r.testBit z = true := by
    rw [hm, Nat.mul_comm, Nat.testBit_mul_two_pow]
    simp [Nat.testBit_zero]
  have hpos : 0 < 2 ^ z := Nat.two_pow_pos z
  have e1 : r - 1 = 2 ^ z * (2 * m) + (2 ^ z - 1) := by
    rw [hm, Nat.mul_add, Nat.mul_one]; omega
  refine ⟨hz, hlow, hk, fun b => ?_⟩
  rw [Nat.testBit_and]
  rcases Nat.lt_trichotomy b z with hb | rfl | hb
  · rw [hlow b hb]; simp
  · rw [e1, Nat.testBit_two_pow_mul_add _ (by omega)]
    simp
  · rw [e1, Nat.testBit_two_pow_mul_add _ (by omega), hm, Nat.testBit_two_pow_mul]
    obtain ⟨d, rfl⟩ : ∃ d, b = z + (d + 1) := ⟨b - z - 1, by omega⟩
    have e3 : z + (d + 1) - z = d + 1 := by omega
    have d1 : (2 * m + 1) / 2 = m := by omega
    have d2 : (2 * m) / 2 = m := by omega
    simp only [e3, Nat.testBit_succ, d1, d2]
    have : ¬ z + (d + 1) < z := by omega
    have h4 : z < z + (d + 1) := by omega
    have h5 : z ≤ z + (d + 1) := by omega
    simp [this, h4, h5]
theorem RestAt.step {x t r : Nat} (h : RestAt x t r) (h0 : r ≠ 0) (hx : x < 2 ^ 64) :
    t ≤ Lib.ctz 64 r ∧ Lib.ctz 64 r < 64 ∧ x.testBit (Lib.ctz 64 r) = true ∧ (∀ b, t ≤ b → b < Lib.ctz 64 r → x.testBit b = false) ∧ RestAt x (Lib.ctz 64 r + 1) (r &&& (r - 1)) := by
  obtain ⟨h1, h2, h3, h4⟩ := lowest h0 (h.lt hx)
  have h5 := h (Lib.ctz 64 r)
  rw [h1] at h5
  have h6 : t ≤ Lib.ctz 64 r ∧ x.testBit (Lib.ctz 64 r) = true := by simpa using h5.symm
  refine ⟨h6.1, h3, h6.2, fun b hb hb' => ?_, fun b => ?_⟩
  · have := h b
    rw [h2 b hb'] at this
    simpa [hb] using this.symm
  · rw [h4 b, h b]
    by_cases hb : Lib.ctz 64 r < b
    · have : t ≤ b := by omega
      have h7 : Lib.ctz 64 r + 1 ≤ b := by omega
      simp [hb, this, h7]
    · have h7 : ¬ Lib.ctz 64 r + 1 ≤ b := by omega
      simp [hb, h7]
theorem RestAt.done {x t : Nat} (h : RestAt x t 0) (b : Nat) (hb : t ≤ b) : x.testBit b = false := by
  have := h b
  simpa [hb] using this.symm
theorem mem_at (xs : List Nat) (i b : Nat) (hb : b < 64) : mem xs (64 * i + b) = (wd xs i).testBit b := by
  unfold mem
  rw [show (64 * i + b) / 64 = i by omega, show (64 * i + b) % 64 = b by omega]
/-- One element more. -/
theorem els_step {xs : List Nat} {i t r : Nat} (h : RestAt (wd xs i) t r) (h0 : r ≠ 0) (hx : wd xs i < 2 ^ 64) :
    elsTo xs (64 * i + (Lib.ctz 64 r + 1)) = elsTo xs (64 * i + t) ++ [64 * i + Lib.ctz 64 r] := by
  obtain ⟨h1, h2, h3, h4, _⟩ := h.step h0 hx
  have e1 : mem xs (64 * i + Lib.ctz 64 r) = true := by rw [mem_at _ _ _ h2]; exact h3
  rw [← Nat.add_assoc, elsTo_succ e1]
  congr 1
  refine elsTo_skip (by omega) fun k hk hk' => ?_
  obtain ⟨b, rfl⟩ : ∃ b, k = 64 * i + b := ⟨k - 64 * i, by omega⟩
  rw [mem_at _ _ _ (by omega)]
  exact h4 b (by omega) (by omega)
theorem els_next {xs : List Nat} {i t : Nat} (h : RestAt (wd xs i) t 0) (ht : t ≤ 64) : elsTo xs (64 * (i + 1)) = elsTo xs (64 * i + t) := by
  refine elsTo_skip (by omega) fun k hk hk' => ?_
  obtain ⟨b, rfl⟩ : ∃ b, k = 64 * i + b := ⟨k - 64 * i, by omega⟩
  rw [mem_at _ _ _ (by omega)]
  exact h.done b (by omega)
theorem elsTo_mono {xs : List Nat} {a : Nat} : ∀ {b : Nat}, a ≤ b → elsTo xs a <+: elsTo xs b
  | 0, h => by rw [show a = 0 by omega]; exact List.prefix_refl _
  | b + 1, h => by
    rcases Nat.lt_or_eq_of_le h with h1 | rfl
    · refine List.IsPrefix.trans (elsTo_mono (b := b) (by omega)) ?_
      cases hm : mem xs b with
      | true => rw [elsTo_succ hm]; exact List.prefix_append _ _
      | false => rw [elsTo_same hm]; exact List.prefix_refl _
    · exact List.prefix_refl _
theorem and_pred_lt {r : Nat} (h : r ≠ 0) : r &&& (r - 1) < r := Nat.lt_of_le_of_lt Nat.and_le_right (by omega)
end Go.Proofs.Ytdjhfndoheoljaa
