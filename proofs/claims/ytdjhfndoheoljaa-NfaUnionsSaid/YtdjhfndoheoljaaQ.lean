/- The algebra of words: what combinations hold word by word; canonical forms. Plain arithmetic. -/
import Derived.Test.YtdjhfndoheoljaaP
namespace Go.Proofs.Ytdjhfndoheoljaa
open Go Go.RowKit
theorem trimLen_congr {xs ys : List Nat} : ∀ n, (∀ i, i < n → wd xs i = wd ys i) → trimLen xs n = trimLen ys n
  | 0, _ => rfl
  | n + 1, h => by
    unfold trimLen
    rw [h n (by omega), trimLen_congr n fun i hi => h i (by omega)]
theorem trimLen_out (xs : List Nat) : ∀ n, xs.length ≤ n → trimLen xs n = trimLen xs xs.length
  | 0, h => by rw [show xs.length = 0 by omega]
  | n + 1, h => by
    rcases Nat.lt_or_eq_of_le h with h1 | h1
    · have h2 := trimLen_out xs n (by omega)
      unfold trimLen
      rw [if_pos (wd_out (by omega)), h2]
      cases hx : xs.length <;> rfl
    · rw [h1]
theorem ulen_64 (xs : List Nat) : ulen xs = trimLen xs 64 := by
  unfold ulen
  rcases Nat.le_total xs.length 64 with h | h
  · rw [Nat.min_eq_left h, trimLen_out xs 64 h]
  · rw [Nat.min_eq_right h]
theorem ulen_congr {xs ys : List Nat} (h : ∀ i, i < 64 → wd xs i = wd ys i) : ulen xs = ulen ys := by
  rw [ulen_64, ulen_64, trimLen_congr 64 h]
theorem canon_len (xs : List Nat) : (canon xs).length = ulen xs := by
  unfold canon
  rw [List.length_take]
  exact Nat.min_eq_left (ulen_le xs)
theorem wd_take (xs : List Nat) (n i : Nat) : wd (xs.take n) i = if i < n then wd xs i else 0 := by
  unfold wd
  rw [List.getD_eq_getElem?_getD, List.getElem?_take]
  split
  · rw [List.getD_eq_getElem?_getD]
  · rfl
theorem wd_canon (xs : List Nat) (i : Nat) (h : i < 64) : wd (canon xs) i = wd xs i := by
  unfold canon
  rw [wd_take]
  split
  · rfl
  · exact (ulen_zero xs i (by omega) h).symm
theorem canon_ext {xs ys : List Nat} (h : ∀ i, i < 64 → wd xs i = wd ys i) : canon xs = canon ys := by
  have hl := ulen_congr h
  apply wd_ext
  · rw [canon_len, canon_len, hl]
  · intro i hi
    rw [canon_len] at hi
    have h64 := ulen_le64 xs
    rw [wd_canon _ _ (by omega), wd_canon _ _ (by omega), h i (by omega)]
theorem wd_zipW (p : Nat → Nat → Nat) (hp : p 0 0 = 0) (xs ys : List Nat) (i : Nat) (h : i < 64) : wd (zipW p xs ys) i = p (wd xs i) (wd ys i) := by
  by_cases hi : i < max (ulen xs) (ulen ys)
  · unfold zipW
    rw [wd, List.getD_eq_getElem?_getD, List.getElem?_map, List.getElem?_range hi]
    rfl
  · rw [wd_out (by simp [zipW]; omega), ulen_zero xs i (by omega) h, ulen_zero ys i (by omega) h, hp]
theorem wd_or (xs ys : List Nat) (i : Nat) (h : i < 64) : wd (canon (zipW (· ||| ·) xs ys)) i = wd xs i ||| wd ys i := by rw [wd_canon _ _ h, wd_zipW _ rfl _ _ _ h]
theorem wd_and (xs ys : List Nat) (i : Nat) (h : i < 64) : wd (canon (zipW (· &&& ·) xs ys)) i = wd xs i &&& wd ys i := by rw [wd_canon _ _ h, wd_zipW _ rfl _ _ _ h]
theorem wd_minus (xs ys : List Nat) (i : Nat) (h : i < 64) : wd (canon (zipW andNot xs ys)) i = andNot (wd xs i) (wd ys i) := by rw [wd_canon _ _ h, wd_zipW _ (by decide) _ _ _ h]
theorem bit_andNot (x y b : Nat) (hx : x < 2 ^ 64) (hy : y < 2 ^ 64) : (andNot x y).testBit b = (x.testBit b && !y.testBit b) := by
  unfold andNot
  rw [Nat.testBit_and, show 18446744073709551615 - y = 2 ^ 64 - (y + 1) by omega, Nat.testBit_two_pow_sub_succ hy]
  by_cases hb : b < 64
  · simp [hb]
  · rw [Nat.testBit_lt_two_pow (Nat.lt_of_lt_of_le hx (Nat.pow_le_pow_right (by decide) (by omega)))]
    simp
theorem every_iff (p : Nat → Nat → Bool) (hp : p 0 0 = true) (xs ys : List Nat) : every p xs ys = true ↔ ∀ i, i < 64 → p (wd xs i) (wd ys i) = true := by
  have h1 := ulen_le64 xs
  have h2 := ulen_le64 ys
  unfold every
  rw [allB_iff]
  constructor
  · intro h i hi
    by_cases hm : i < max (ulen xs) (ulen ys)
    · exact h i hm
    · rw [ulen_zero xs i (by omega) hi, ulen_zero ys i (by omega) hi, hp]
  · exact fun h i hi => h i (by omega)
theorem eqB_iff (xs ys : List Nat) : eqB xs ys = true ↔ ∀ i, i < 64 → wd xs i = wd ys i := by
  unfold eqB
  rw [every_iff _ (by decide)]
  constructor <;> intro h i hi <;> simpa using h i hi
theorem subB_iff (xs ys : List Nat) : subB xs ys = true ↔ ∀ i, i < 64 → andNot (wd xs i) (wd ys i) = 0 := by
  unfold subB
  rw [every_iff _ (by decide)]
  constructor <;> intro h i hi <;> simpa using h i hi
theorem meetB_iff (xs ys : List Nat) : meetB xs ys = false ↔ ∀ i, i < 64 → wd xs i &&& wd ys i = 0 := by
  unfold meetB
  rw [Bool.not_eq_false', every_iff _ (by decide)]
  constructor <;> intro h i hi <;> simpa using h i hi
theorem bits_ext {x y : Nat} (h : ∀ b, x.testBit b = y.testBit b) : x = y := Nat.eq_of_testBit_eq h
theorem canon_or_nil (xs : List Nat) : canon (zipW (· ||| ·) xs []) = canon xs :=
  canon_ext fun i hi => by rw [wd_zipW _ rfl _ _ _ hi]; simp [wd]
theorem canon_canon (xs : List Nat) : canon (canon xs) = canon xs := canon_ext fun i hi => wd_canon xs i hi
end Go.Proofs.Ytdjhfndoheoljaa
