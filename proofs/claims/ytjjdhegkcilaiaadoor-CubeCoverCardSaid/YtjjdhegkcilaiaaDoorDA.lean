/- Counting the letters of a cube, and covering by letters: plain arithmetic; nothing of the program. -/
import Derived.Test.YtjjdhegkcilaiaaDoorCQ
import Derived.Test.YtjjdhegkcilaiaaDoorW
namespace Go.Proofs.YtjjdhegkcilaiaaDoor
/-- The number of literals, bit by bit. -/
def litN (x : Nat) : Nat → Nat
  | 0 => 0
  | k + 1 => litN x k + x / 2 ^ k % 2
theorem count_all : ((List.range 7).all fun v => (List.range (2 ^ v)).all fun p => (List.range (2 ^ v)).all fun q => !(p &&& q == 0) || ((letTo p q (2 ^ v)).length * 2 ^ litN (p ||| q) 8 == 2 ^ v)) = true := by decide +kernel
theorem count_letters {p q v : Nat} (h : Cube p q v) : (letTo p q (2 ^ v)).length * 2 ^ litN (p ||| q) 8 = 2 ^ v := by
  have h1 := List.all_eq_true.1 count_all v (List.mem_range.2 (by have := h.1; omega))
  have h2 := List.all_eq_true.1 h1 p (List.mem_range.2 h.2.1)
  have h3 := List.all_eq_true.1 h2 q (List.mem_range.2 h.2.2.1)
  rw [h.2.2.2] at h3
  simpa using h3
theorem litN_le (x : Nat) : ∀ k, litN x k ≤ k
  | 0 => Nat.le_refl _
  | k + 1 => by have := litN_le x k; simp only [litN]; omega
theorem covers_letters {p q p' q' v : Nat} (h : Cube p q v) (h' : Cube p' q' v) : (letTo p' q' (2 ^ v)).all (cHas p q) = covB (p, q) (p', q') := by
  rw [Bool.eq_iff_iff, List.all_eq_true, covB_iff]
  constructor
  · intro ha
    have hm1 : p' ∈ letTo p' q' (2 ^ v) := mem_letTo.2 ⟨h'.2.1, (cHas_iff _ _ _).2 ⟨fun b hb => hb, fun b hb => and0_bit' h'.2.2.2 hb⟩⟩
    have hx : ∀ b, ((2 ^ v - 1) ^^^ q').testBit b = (decide (b < v) ^^ q'.testBit b) := fun b => by rw [Nat.testBit_xor, Nat.testBit_two_pow_sub_one]
    have hlt : (2 ^ v - 1) ^^^ q' < 2 ^ v := Nat.xor_lt_two_pow (by have : 0 < 2 ^ v := Nat.pow_pos (by decide); omega) h'.2.2.1
    have hm2 : ((2 ^ v - 1) ^^^ q') ∈ letTo p' q' (2 ^ v) := mem_letTo.2 ⟨hlt, (cHas_iff _ _ _).2 ⟨fun b hb => by
        rw [hx, and0_bit h'.2.2.2 hb]
        simp [bit_lt h'.2.1 hb], fun b hb => by
        rw [hx, hb]
        simp [bit_lt h'.2.2.1 hb]⟩⟩
    have a1 := ((cHas_iff _ _ _).1 (ha _ hm1)).1
    have a2 := ((cHas_iff _ _ _).1 (ha _ hm2)).2
    refine ⟨a1, fun b hb => ?_⟩
    have := a2 b hb
    rw [hx, decide_eq_true (bit_lt h.2.2.1 hb)] at this
    simpa using this
  · rintro ⟨h1, h2⟩ x hx
    obtain ⟨_, hc⟩ := mem_letTo.1 hx
    obtain ⟨c1, c2⟩ := (cHas_iff _ _ _).1 hc
    exact (cHas_iff _ _ _).2 ⟨fun b hb => c1 b (h1 b hb), fun b hb => c2 b (h2 b hb)⟩
theorem letTo_asc {p q m : Nat} {i j : Nat} (hi : i < j) (hj : j < (letTo p q m).length) : wd (letTo p q m) i < wd (letTo p q m) j := by
  have hp : (letTo p q m).Pairwise (· < ·) := List.Pairwise.filter _ (by rw [List.pairwise_iff_getElem]; intro a b ha hb hab; simpa using hab)
  have := List.pairwise_iff_getElem.1 hp i j (by omega) hj hi
  unfold wd
  rwa [List.getD_eq_getElem?_getD, List.getD_eq_getElem?_getD, List.getElem?_eq_getElem (by omega), List.getElem?_eq_getElem hj]
/-- The law's own test of one letter of the second cube. -/
def conAt (p q : Nat) (m : List Nat) (i : Nat) : Bool := cHas p q (wd m i) && (decide (i = 0) || decide (wd m (i - 1) < wd m i))
theorem allB_all {f : Nat → Bool} {g : Nat → Bool} (m : List Nat) (h : ∀ i, i < m.length → f i = g (wd m i)) : allB f m.length = m.all g := by
  rw [Bool.eq_iff_iff, allB_iff, List.all_eq_true]
  constructor
  · intro ha x hx
    obtain ⟨i, hi, rfl⟩ := List.mem_iff_getElem.1 hx
    have := ha i hi
    rw [h i hi] at this
    unfold wd at this
    rwa [List.getD_eq_getElem?_getD, List.getElem?_eq_getElem hi] at this
  · intro ha i hi
    rw [h i hi]
    refine ha _ ?_
    unfold wd
    rw [List.getD_eq_getElem?_getD, List.getElem?_eq_getElem hi]
    exact List.getElem_mem hi
theorem contains_all {p q p' q' v : Nat} (h : Cube p q v) (h' : Cube p' q' v) : allB (conAt p q (letTo p' q' (2 ^ v))) (letTo p' q' (2 ^ v)).length = covB (p, q) (p', q') := by
  rw [← covers_letters h h']
  refine allB_all _ fun i hi => ?_
  unfold conAt
  by_cases h0 : i = 0
  · simp [h0]
  · rw [decide_eq_true (letTo_asc (i := i - 1) (j := i) (by omega) hi)]; simp
end Go.Proofs.YtjjdhegkcilaiaaDoor
