/- The number of bits of a word of 64 bits, as math/bits.OnesCount64 computes it: plain arithmetic, nothing of the program. -/
import Derived.Test.YtdjhfndoheoljaaE
namespace Go.Proofs.Ytdjhfndoheoljaa
/-- How many of the first n bits of x are set. -/
def popTo (x n : Nat) : Nat := ((List.range n).filter fun b => x.testBit b).length
def pop (x : Nat) : Nat := popTo x 64
theorem popTo_succ (x n : Nat) : popTo x (n + 1) = popTo x n + (if x.testBit n then 1 else 0) := by
  unfold popTo
  rw [List.range_succ, List.filter_append, List.length_append]
  cases h : x.testBit n <;> simp [h]
theorem popTo_low (x m : Nat) : ∀ n, n ≤ m → popTo (x % 2 ^ m) n = popTo x n
  | 0, _ => rfl
  | n + 1, h => by
    rw [popTo_succ, popTo_succ, popTo_low x m n (by omega), Nat.testBit_mod_two_pow]
    simp [show n < m by omega]
theorem popTo_add (x m : Nat) : ∀ n, popTo x (m + n) = popTo x m + popTo (x / 2 ^ m) n
  | 0 => by simp [popTo]
  | n + 1 => by
    rw [← Nat.add_assoc, popTo_succ, popTo_add x m n, popTo_succ, Nat.testBit_div_two_pow, Nat.add_comm m n, Nat.add_assoc]
/-- One byte more. -/
theorem popTo_byte (x n : Nat) : popTo x (8 + n) = popTo (x % 256) 8 + popTo (x / 256) n := by
  rw [popTo_add x 8 n, ← popTo_low x 8 8 (Nat.le_refl _)]
/-- The first three steps. -/
def swar (m0 m1 m2 x : Nat) : Nat :=
  let a := (x / 2 &&& m0) + (x &&& m0)
  let b := (a / 4 &&& m1) + (a &&& m1)
  (b / 16 + b) &&& m2
theorem and_256 (a b : Nat) : (a &&& b) / 256 = a / 256 &&& b / 256 ∧ (a &&& b) % 256 = a % 256 &&& b % 256 :=
  ⟨Nat.and_div_two_pow (n := 8), Nat.and_mod_two_pow (n := 8)⟩
theorem tab1 : ∀ x, x < 512 → (x / 2 % 256 &&& 85) = (x % 256 / 2 &&& 85) := by decide +kernel
theorem tab2 : ∀ x, x < 1024 → (x / 4 % 256 &&& 51) = (x % 256 / 4 &&& 51) := by decide +kernel
theorem tab3 : ∀ x, x < 256 → swar 85 51 15 x = popTo x 8 := by decide +kernel
theorem le85 (x : Nat) : x &&& 85 ≤ 85 := Nat.and_le_right
theorem le51 (x : Nat) : x &&& 51 ≤ 51 := Nat.and_le_right
theorem low1 (x : Nat) : (x / 2 % 256 &&& 85) = (x % 256 / 2 &&& 85) := by
  have := tab1 (x % 512) (by omega)
  rwa [show x % 512 / 2 % 256 = x / 2 % 256 by omega, show x % 512 % 256 = x % 256 by omega] at this
theorem low2 (x : Nat) : (x / 4 % 256 &&& 51) = (x % 256 / 4 &&& 51) := by
  have := tab2 (x % 1024) (by omega)
  rwa [show x % 1024 / 4 % 256 = x / 4 % 256 by omega, show x % 1024 % 256 = x % 256 by omega] at this
theorem nib (x : Nat) : (x &&& 51) % 16 ≤ 3 := by
  have : (x &&& 51) % 2 ^ 4 = x % 2 ^ 4 &&& 51 % 2 ^ 4 := Nat.and_mod_two_pow
  have h : x % 2 ^ 4 &&& 51 % 2 ^ 4 ≤ 51 % 2 ^ 4 := Nat.and_le_right
  omega
/-- The three steps go byte by byte. -/
theorem swar_byte {m0 m1 m2 : Nat} (h0 : m0 % 256 = 85) (h1 : m1 % 256 = 51) (h2 : m2 % 256 = 15) (h1' : m1 / 256 % 16 = 3 ∨ m1 / 256 = 0) (x : Nat) :
    swar m0 m1 m2 x % 256 = swar 85 51 15 (x % 256) ∧ swar m0 m1 m2 x / 256 = swar (m0 / 256) (m1 / 256) (m2 / 256) (x / 256) := by
  obtain ⟨a, ha⟩ : ∃ a, a = (x / 2 &&& m0) + (x &&& m0) := ⟨_, rfl⟩
  obtain ⟨b, hb⟩ : ∃ b, b = (a / 4 &&& m1) + (a &&& m1) := ⟨_, rfl⟩
  have hs : swar m0 m1 m2 x = (b / 16 + b) &&& m2 := by rw [hb, ha]; rfl
  have u1 := and_256 (x / 2) m0
  have u2 := and_256 x m0
  rw [h0] at u1 u2
  rw [low1] at u1
  have l1 := le85 (x % 256 / 2)
  have l2 := le85 (x % 256)
  have a1 : a % 256 = (x % 256 / 2 &&& 85) + (x % 256 &&& 85) := by omega
  have a2 : a / 256 = (x / 256 / 2 &&& m0 / 256) + (x / 256 &&& m0 / 256) := by
    have : x / 2 / 256 = x / 256 / 2 := by omega
    rw [this] at u1
    omega
  have v1 := and_256 (a / 4) m1
  have v2 := and_256 a m1
  rw [h1] at v1 v2
  rw [low2] at v1
  have l3 := le51 (a % 256 / 4)
  have l4 := le51 (a % 256)
  have b1 : b % 256 = (a % 256 / 4 &&& 51) + (a % 256 &&& 51) := by omega
  have b2 : b / 256 = (a / 256 / 4 &&& m1 / 256) + (a / 256 &&& m1 / 256) := by
    have : a / 4 / 256 = a / 256 / 4 := by omega
    rw [this] at v1
    omega
  have n1 : b / 256 % 16 ≤ 6 := by
    have e1 : (a / 256 / 4 &&& m1 / 256) % 2 ^ 4 = a / 256 / 4 % 2 ^ 4 &&& m1 / 256 % 2 ^ 4 := Nat.and_mod_two_pow
    have e2 : (a / 256 &&& m1 / 256) % 2 ^ 4 = a / 256 % 2 ^ 4 &&& m1 / 256 % 2 ^ 4 := Nat.and_mod_two_pow
    have g1 : a / 256 / 4 % 2 ^ 4 &&& m1 / 256 % 2 ^ 4 ≤ m1 / 256 % 2 ^ 4 := Nat.and_le_right
    have g2 : a / 256 % 2 ^ 4 &&& m1 / 256 % 2 ^ 4 ≤ m1 / 256 % 2 ^ 4 := Nat.and_le_right
    omega
  have w1 := and_256 (b / 16 + b) m2
  rw [h2] at w1
  have s1 : (b / 16 + b) / 256 = b / 256 / 16 + b / 256 := by omega
  have s2 : (b / 16 + b) % 256 &&& 15 = (b % 256 / 16 + b % 256) &&& 15 := by
    have e1 : ∀ y : Nat, y &&& 15 = y % 16 := fun y => Nat.and_two_pow_sub_one_eq_mod y 4
    rw [e1, e1]
    omega
  rw [hs]
  refine ⟨?_, ?_⟩
  · rw [w1.2, s2, b1, a1]; rfl
  · rw [w1.1, s1, b2, a2]; rfl
theorem pop_le8 (x : Nat) : popTo x 8 ≤ 8 := by
  unfold popTo
  have := List.length_filter_le (fun b => x.testBit b) (List.range 8)
  rwa [List.length_range] at this
/-- The last three steps. -/
def fold8 (y : Nat) : Nat :=
  let y1 := y + y / 256
  let y2 := y1 + y1 / 65536
  (y2 + y2 / 4294967296) % 128
theorem split_div {a q : Nat} (h : a < 256) : (a + 256 * q) / 256 = q := by omega
theorem split_div2 {a b q : Nat} (h : a < 256) (h' : b < 256) : (a + 256 * (b + 256 * q)) / 65536 = q := by omega
theorem split_div4 {a b c d q : Nat} (h : a < 256) (h' : b < 256) (h2 : c < 256) (h3 : d < 256) : (a + 256 * (b + 256 * (c + 256 * (d + 256 * q)))) / 4294967296 = q := by omega
theorem fold8_sum (y p0 p1 p2 p3 p4 p5 p6 p7 : Nat) (h0 : p0 ≤ 8) (h1 : p1 ≤ 8) (h2 : p2 ≤ 8) (h3 : p3 ≤ 8) (h4 : p4 ≤ 8) (h5 : p5 ≤ 8) (h6 : p6 ≤ 8) (h7 : p7 ≤ 8)
    (hy : y = p0 + 256 * (p1 + 256 * (p2 + 256 * (p3 + 256 * (p4 + 256 * (p5 + 256 * (p6 + 256 * p7))))))) :
    fold8 y = p0 + p1 + p2 + p3 + p4 + p5 + p6 + p7 := by
  have k0 : p0 < 256 := by omega
  have e1 : y + y / 256 = (p0 + p1) + 256 * ((p1 + p2) + 256 * ((p2 + p3) + 256 * ((p3 + p4) + 256 * ((p4 + p5) + 256 * ((p5 + p6) + 256 * ((p6 + p7) + 256 * p7)))))) := by
    rw [hy, split_div k0]
    simp only [Nat.mul_add]
    ac_rfl
  have e2 : (y + y / 256) + (y + y / 256) / 65536 = (p0 + p1 + (p2 + p3)) + 256 * ((p1 + p2 + (p3 + p4)) + 256 * ((p2 + p3 + (p4 + p5)) + 256 * ((p3 + p4 + (p5 + p6)) + 256 * ((p4 + p5 + (p6 + p7)) + 256 * ((p5 + p6 + p7) + 256 * ((p6 + p7) + 256 * p7)))))) := by
    rw [e1, split_div2 (by omega) (by omega)]
    simp only [Nat.mul_add]
    ac_rfl
  have hf : fold8 y = (((y + y / 256) + (y + y / 256) / 65536) + ((y + y / 256) + (y + y / 256) / 65536) / 4294967296) % 128 := rfl
  rw [hf, e2, split_div4 (by omega) (by omega) (by omega) (by omega)]
  clear hf e2 e1 hy
  generalize p1 + p2 + (p3 + p4) + 256 * (p2 + p3 + (p4 + p5) + 256 * (p3 + p4 + (p5 + p6) + 256 * (p4 + p5 + (p6 + p7) + 256 * (p5 + p6 + p7 + 256 * (p6 + p7 + 256 * p7))))) = u
  generalize p5 + p6 + p7 + 256 * (p6 + p7 + 256 * p7) = v
  omega
theorem swar_zero (x : Nat) : swar 0 0 0 x = 0 := by simp [swar]
def M0 : Nat := 6148914691236517205
def M1 : Nat := 3689348814741910323
def M2 : Nat := 1085102592571150095
theorem swar_cons {m0 m1 m2 n0 n1 n2 : Nat} (h0 : m0 = 85 + 256 * n0) (h1 : m1 = 51 + 256 * n1) (h2 : m2 = 15 + 256 * n2) (h1' : n1 % 16 = 3 ∨ n1 = 0) (x : Nat) :
    swar m0 m1 m2 x = popTo (x % 256) 8 + 256 * swar n0 n1 n2 (x / 256) := by
  obtain ⟨e1, e2⟩ := swar_byte (m0 := m0) (m1 := m1) (m2 := m2) (by omega) (by omega) (by omega) (by omega) x
  rw [show m0 / 256 = n0 by omega, show m1 / 256 = n1 by omega, show m2 / 256 = n2 by omega] at e2
  rw [tab3 _ (by omega)] at e1
  omega
theorem swar_pop (x : Nat) : fold8 (swar M0 M1 M2 x) = pop x := by
  have e : swar M0 M1 M2 x = popTo (x % 256) 8 + 256 * (popTo (x / 256 % 256) 8 + 256 * (popTo (x / 256 / 256 % 256) 8 + 256 * (popTo (x / 256 / 256 / 256 % 256) 8 +
      256 * (popTo (x / 256 / 256 / 256 / 256 % 256) 8 + 256 * (popTo (x / 256 / 256 / 256 / 256 / 256 % 256) 8 + 256 * (popTo (x / 256 / 256 / 256 / 256 / 256 / 256 % 256) 8 +
      256 * popTo (x / 256 / 256 / 256 / 256 / 256 / 256 / 256 % 256) 8)))))) := by
    rw [swar_cons (n0 := 24019198012642645) (n1 := 14411518807585587) (n2 := 4238682002231055) (by decide) (by decide) (by decide) (by decide)]
    rw [swar_cons (n0 := 93824992236885) (n1 := 56294995342131) (n2 := 16557351571215) (by decide) (by decide) (by decide) (by decide)]
    rw [swar_cons (n0 := 366503875925) (n1 := 219902325555) (n2 := 64677154575) (by decide) (by decide) (by decide) (by decide)]
    rw [swar_cons (n0 := 1431655765) (n1 := 858993459) (n2 := 252645135) (by decide) (by decide) (by decide) (by decide)]
    rw [swar_cons (n0 := 5592405) (n1 := 3355443) (n2 := 986895) (by decide) (by decide) (by decide) (by decide)]
    rw [swar_cons (n0 := 21845) (n1 := 13107) (n2 := 3855) (by decide) (by decide) (by decide) (by decide)]
    rw [swar_cons (n0 := 85) (n1 := 51) (n2 := 15) (by decide) (by decide) (by decide) (by decide)]
    rw [swar_cons (n0 := 0) (n1 := 0) (n2 := 0) (by decide) (by decide) (by decide) (by decide)]
    rw [swar_zero]
    rfl
  rw [fold8_sum _ _ _ _ _ _ _ _ _ (pop_le8 _) (pop_le8 _) (pop_le8 _) (pop_le8 _) (pop_le8 _) (pop_le8 _) (pop_le8 _) (pop_le8 _) e]
  unfold pop
  have hl := popTo_low (x / 256 / 256 / 256 / 256 / 256 / 256 / 256) 8 8 (Nat.le_refl _)
  rw [popTo_byte x 56, popTo_byte _ 48, popTo_byte _ 40, popTo_byte _ 32, popTo_byte _ 24, popTo_byte _ 16, popTo_byte _ 8, ← hl]
  simp only [Nat.add_assoc]
theorem pop_le (x : Nat) : pop x ≤ 64 := by
  unfold pop popTo
  have := List.length_filter_le (fun b => x.testBit b) (List.range 64)
  rwa [List.length_range] at this
end Go.Proofs.Ytdjhfndoheoljaa
