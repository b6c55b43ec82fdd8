/- Cubes as numbers: plain arithmetic of bits, letters and literals; nothing of the program. -/
import Derived.Below
namespace Go.Proofs.YteckkbjpeckjmaaDoor

/-- The cube with the bits p and q contains x. -/
def cHas (p q x : Nat) : Bool := (x &&& p == p) && (x &&& q == 0)
theorem and_self_iff (x p : Nat) : x &&& p = p ↔ ∀ b, p.testBit b = true → x.testBit b = true := by
  constructor
  · intro h b hb
    have := congrArg (fun n => n.testBit b) h
    simp only [Nat.testBit_and, hb, Bool.and_true] at this
    exact this
  · intro h
    apply Nat.eq_of_testBit_eq
    intro b
    rw [Nat.testBit_and]
    cases hb : p.testBit b with
    | false => simp
    | true => simp [h b hb]
theorem and_zero_iff (x q : Nat) : x &&& q = 0 ↔ ∀ b, q.testBit b = true → x.testBit b = false := by
  constructor
  · intro h b hb
    have := congrArg (fun n => n.testBit b) h
    simp only [Nat.testBit_and, hb, Bool.and_true, Nat.zero_testBit] at this
    exact this
  · intro h
    apply Nat.eq_of_testBit_eq
    intro b
    rw [Nat.testBit_and, Nat.zero_testBit]
    cases hb : q.testBit b with
    | false => simp
    | true => simp [h b hb]
theorem cHas_iff (p q x : Nat) : cHas p q x = true ↔ (∀ b, p.testBit b = true → x.testBit b = true) ∧ (∀ b, q.testBit b = true → x.testBit b = false) := by
  unfold cHas
  rw [Bool.and_eq_true, beq_iff_eq, beq_iff_eq, and_self_iff, and_zero_iff]
theorem or_lt8 {a b : Nat} (ha : a < 256) (hb : b < 256) : a ||| b < 256 := Nat.or_lt_two_pow (n := 8) ha hb
theorem and_lt8 {a b : Nat} (ha : a < 256) : a &&& b < 256 := Nat.lt_of_le_of_lt Nat.and_le_left ha

/-- What Check answers. -/
def chk (p q : Nat) (v : Int) : Int :=
  if 0 ≤ v ∧ v ≤ 6 then (if 2 ^ v.toNat ≤ p ∨ 2 ^ v.toNat ≤ q then 7 else if p &&& q = 0 then 0 else 2) else 7
theorem chk_out {p q : Nat} {v : Int} (h : ¬ (0 ≤ v ∧ v ≤ 6)) : chk p q v = 7 := by unfold chk; rw [if_neg h]
theorem chk_in {p q : Nat} (v : Nat) (h : v ≤ 6) : chk p q (v : Int) = if 2 ^ v ≤ p ∨ 2 ^ v ≤ q then 7 else if p &&& q = 0 then 0 else 2 := by
  unfold chk; rw [if_pos (by omega), Int.toNat_natCast]
/-- A valid cube over v variables. -/
def Cube (p q v : Nat) : Prop := v ≤ 6 ∧ p < 2 ^ v ∧ q < 2 ^ v ∧ p &&& q = 0
theorem chk_ok {p q : Nat} {v : Int} (h : chk p q v = 0) : ∃ n : Nat, v = n ∧ Cube p q n := by
  unfold chk at h
  split at h
  · rename_i hv
    split at h
    · omega
    · rename_i hp
      split at h
      · exact ⟨v.toNat, by omega, by omega, by omega, by omega, by assumption⟩
      · omega
  · omega
theorem Cube.chk {p q v : Nat} (h : Cube p q v) : chk p q (v : Int) = 0 := by
  obtain ⟨h1, h2, h3, h4⟩ := h
  rw [chk_in v h1, if_neg (by omega), if_pos h4]
theorem chk_cases (p q : Nat) (v : Int) : chk p q v = 0 ∨ chk p q v = 7 ∨ chk p q v = 2 := by
  unfold Go.Proofs.YteckkbjpeckjmaaDoor.chk
  split
  · split
    · exact .inr (.inl rfl)
    · split
      · exact .inl rfl
      · exact .inr (.inr rfl)
  · exact .inr (.inl rfl)
theorem pow6 {v : Nat} (h : v ≤ 6) : 2 ^ v ≤ 64 := Nat.pow_le_pow_right (n := 2) (by decide) h
theorem Cube.lt {p q v : Nat} (h : Cube p q v) : p < 64 ∧ q < 64 := by
  have := pow6 h.1
  have h1 := h.2.1
  have h2 := h.2.2.1
  omega

/-- What Intersect answers. -/
def meet (p q p' q' : Nat) : (Nat × Nat) × Bool := if (p ||| p') &&& (q ||| q') = 0 then ((p ||| p', q ||| q'), true) else ((0, 0), false)
/-- The letters below m that a cube contains, ascending. -/
def letTo (p q m : Nat) : List Nat := (List.range m).filter (cHas p q)
theorem letTo_succ {p q k : Nat} (h : cHas p q k = true) : letTo p q (k + 1) = letTo p q k ++ [k] := by
  unfold letTo; rw [List.range_succ, List.filter_append]; simp [h]
theorem letTo_same {p q k : Nat} (h : cHas p q k = false) : letTo p q (k + 1) = letTo p q k := by
  unfold letTo; rw [List.range_succ, List.filter_append]; simp [h]
theorem letTo_len (p q m : Nat) : (letTo p q m).length ≤ m := by
  have := List.length_filter_le (cHas p q) (List.range m)
  rwa [List.length_range] at this
theorem letTo_lt {p q m x : Nat} (h : x ∈ letTo p q m) : x < m := List.mem_range.1 (List.mem_filter.1 h).1
theorem mem_letTo {p q m x : Nat} : x ∈ letTo p q m ↔ x < m ∧ cHas p q x = true := by
  unfold letTo; rw [List.mem_filter, List.mem_range]

/-- Variable k has a literal. -/
def litB (p q k : Nat) : Bool := (p ||| q).testBit k
theorem litB_or (p q k : Nat) : litB p q k = (p.testBit k || q.testBit k) := Nat.testBit_or ..
/-- The literals below variable m, ascending: the variable and the required value. -/
def litTo (p q m : Nat) : List (Nat × Bool) := ((List.range m).filter (litB p q)).map fun k => (k, p.testBit k)
theorem litTo_succ {p q k : Nat} (h : litB p q k = true) : litTo p q (k + 1) = litTo p q k ++ [(k, p.testBit k)] := by
  unfold litTo; rw [List.range_succ, List.filter_append, List.map_append]; simp [h]
theorem litTo_same {p q k : Nat} (h : litB p q k = false) : litTo p q (k + 1) = litTo p q k := by
  unfold litTo; rw [List.range_succ, List.filter_append]; simp [h]
theorem litTo_len (p q m : Nat) : (litTo p q m).length ≤ m := by
  unfold litTo
  rw [List.length_map]
  have := List.length_filter_le (litB p q) (List.range m)
  rwa [List.length_range] at this
theorem litTo_mono (p q a : Nat) : ∀ {b : Nat}, a ≤ b → litTo p q a <+: litTo p q b
  | 0, h => by rw [show a = 0 by omega]; exact List.prefix_refl _
  | b + 1, h => by
    rcases Nat.lt_or_eq_of_le h with h1 | rfl
    · refine List.IsPrefix.trans (litTo_mono p q a (b := b) (by omega)) ?_
      cases hm : litB p q b with
      | true => rw [litTo_succ hm]; exact List.prefix_append _ _
      | false => rw [litTo_same hm]; exact List.prefix_refl _
    · exact List.prefix_refl _
def lits (p q : Nat) : List (Nat × Bool) := litTo p q 6

/-- The bit of variable k. -/
theorem shift_and (p k : Nat) : (p &&& 2 ^ k == 0) = !p.testBit k := by
  rw [Nat.testBit_eq_decide_div_mod_eq]
  have h : p &&& 2 ^ k = p / 2 ^ k % 2 * 2 ^ k := by
    apply Nat.eq_of_testBit_eq
    intro i
    rw [Nat.testBit_and, Nat.testBit_two_pow, Nat.testBit_mul_two_pow]
    by_cases hi : k = i
    · subst hi
      rw [show (2 : Nat) = 2 ^ 1 from rfl]
      simp [Nat.testBit_eq_decide_div_mod_eq]
    · by_cases h1 : k ≤ i
      · have : (p / 2 ^ k % 2).testBit (i - k) = false := by
          rw [Nat.testBit_lt_two_pow]
          exact Nat.lt_of_lt_of_le (Nat.mod_lt _ (by decide)) (by
            have : 2 ^ 1 ≤ 2 ^ (i - k) := Nat.pow_le_pow_right (by decide) (by omega)
            simpa using this)
        simp [hi, this]
      · simp [hi, h1]
  rw [h]
  have h2 : p / 2 ^ k % 2 < 2 := Nat.mod_lt _ (by decide)
  have h3 : 0 < 2 ^ k := Nat.two_pow_pos k
  rcases Nat.lt_or_eq_of_le (Nat.le_of_lt_succ h2) with h4 | h4
  · have : p / 2 ^ k % 2 = 0 := by omega
    rw [this]; simp
  · rw [h4]; simp
end Go.Proofs.YteckkbjpeckjmaaDoor
