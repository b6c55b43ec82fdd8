/- Cubes as numbers: plain arithmetic of bits, letters and literals; nothing of the program. -/
import Derived.Below
namespace Go.Proofs.YtkgeihambgbjdaaDoor

/-- The cube with the bits p and q contains x. -/
def cHas (p q x : Nat) : Bool := (x &&& p == p) && (x &&& q == 0)
theorem and_self_iff (x p : Nat) : x &&& p = p ↔ ∀ b, p.testBit b = true → x.testBit b = true := by
  constructor
  · intro h b hb
    have := congrArg (fun n => n.testBit b) h
    simp only [Nat.testBit_and, hb, Bool.and_true] at this
    exact this
  · intro h
    apply Nat.eq_of_testBit_eq
    intro b
    rw [Nat.testBit_and]
    cases hb : p.testBit b with
    | false => simp
    | true => simp [h b hb]
theorem and_zero_iff (x q : Nat) : x &&& q = 0 ↔ ∀ b, q.testBit b = true → x.testBit b = false := by
  constructor
  · intro h b hb
    have := congrArg (fun n => n.testBit b) h
    simp only [Nat.testBit_and, hb, Bool.and_true, Nat.zero_testBit] at this
    exact this
  · intro h
    apply Nat.eq_of_testBit_eq
    intro b
    rw [Nat.testBit_and, Nat.zero_testBit]
    cases hb : q.testBit b with
    | false => simp
    | true => simp [h b hb]
theorem cHas_iff (p q x : Nat) : cHas p q x = true ↔ (∀ b, p.testBit b = true → x.testBit b = true) ∧ (∀ b, q.testBit b = true → x.testBit b = false) := by
  unfold cHas
  rw [Bool.and_eq_true, beq_iff_eq, beq_iff_eq, and_self_iff, and_zero_iff]
theorem or_lt8 {a b : Nat} (ha : a < 256) (hb : b < 256) : a ||| b < 256 := Nat.or_lt_two_pow (n := 8) ha hb
theorem and_lt8 {a b : Nat} (ha : a < 256) : a &&& b < 256 := Nat.lt_of_le_of_lt Nat.and_le_left ha

/-- What Check answers. -/
def chk (p q : Nat) (v : Int) : Int :=
  if 0 ≤ v ∧ v ≤ 6 then (if 2 ^ v.toNat ≤ p ∨ 2 ^ v.toNat ≤ q then 7 else if p &&& q = 0 then 0 else 2) else 7
theorem chk_out {p q : Nat} {v : Int} (h : ¬ (0 ≤ v ∧ v ≤ 6)) : chk p q v = 7 := by unfold chk; rw [if_neg h]
theorem chk_in {p q : Nat} (v : Nat) (h : v ≤ 6) : chk p q (v : Int) = if 2 ^ v ≤ p ∨ 2 ^ v ≤ q then 7 else if p &&& q = 0 then 0 else 2 := by
  unfold chk; rw [if_pos (by omega), Int.toNat_natCast]
/-- A valid cube over v variables. -/
def Cube (p q v : Nat) : Prop := v ≤ 6 ∧ p < 2 ^ v ∧ q < 2 ^ v ∧ p &&& q = 0
theorem chk_ok {p q : Nat} {v : Int} (h : chk p q v = 0) : ∃ n : Nat, v = n ∧ Cube p q n := by
  unfold chk at h
  split at h
  · rename_i hv
    split at h
    · omega
    · rename_i hp
      split at h
      · exact ⟨v.toNat, by omega, by omega, by omega, by omega, by assumption⟩
      · omega
  · omega
theorem Cube.chk {p q v : Nat} (h : Cube p q v) : chk p q (v : Int) = 0 := by
  obtain ⟨h1, h2, h3, h4⟩ := h
  rw [chk_in v h1, if_neg (by omega), if_pos h4]
theorem chk_cases (p q : Nat) (v : Int) : chk p q v = 0 ∨ chk p q v = 7 ∨ chk p q v = 2 := by
  unfold Go.Proofs.YtkgeihambgbjdaaDoor.chk
  split
  · split
    · exact .inr (.inl rfl)
    · split
      · exact .inl rfl
      · exact .inr (.inr rfl)
  · exact .inr (.inl rfl)
theorem pow6 {v : Nat} (h : v ≤ 6) : 2 ^ v ≤ 64 := Nat.pow_le_pow_right (n := 2) (by decide) h
theorem Cube.lt {p q v : Nat} (h : Cube p q v) : p < 64 ∧ q < 64 := by
  have := pow6 h.1
  have h1 := h.2.1
  have h2 := h.2.2.1
  omega

/-- What Intersect answers. -/
def meet (p q p' q' : Nat) : (Nat × Nat) × Bool := if (p ||| p') &&& (q ||| q') = 0 then ((p ||| p', q ||| q'), true) else ((0, 0), false)
/-- The letters below m that a cube contains, ascending. -/
def letTo (p q m : Nat) : List Nat := (List.range m).filter (cHas p q)
theorem letTo_succ {p q k : Nat} (h : cHas p q k = true) : letTo p q (k + 1) = letTo p q k ++ [k] := by
  unfold letTo; rw [List.range_succ, List.filter_append]; simp [h]
theorem letTo_same {p q k : Nat} (h : cHas p q k = false) : letTo p q (k + 1) = letTo p q k := by
  unfold letTo; rw [List.range_succ, List.filter_append]; simp [h]
theorem letTo_len (p q m : Nat) : (letTo p q m).length ≤ m := by
  have := List.length_filter_le (cHas p q) (List.range m)
  rwa [List.length_range] at this
theorem letTo_lt {p q m x : Nat} (h : x ∈ letTo p q m) : x < m := List.mem_range.1 (List.mem_filter.1 h).1
theorem mem_letTo {p q m x : Nat} : x ∈ letTo p q m ↔ x < m ∧ cHas p q x = true := by
  unfold letTo; rw [List.mem_filter, List.mem_range]

/-- Variable k has a literal. -/
def litB (p q k : Nat) : Bool := (p ||| q).testBit k
theorem litB_or (p q k : Nat) : litB p q k = (p.testBit k || q.testBit k) := Nat.testBit_or ..
/-- The literals below variable m, ascending: the variable and the required value. -/
def litTo (p q m : Nat) : List (Nat × Bool) := ((List.range m).filter (litB p q)).map fun k => (k, p.testBit k)
theorem litTo_succ {p q k : Nat} (h : litB p q k = true) : litTo p q (k + 1) = litTo p q k ++ [(k, p.testBit k)] := by
  unfold litTo; rw [List.range_succ, List.filter_append, List.map_append]; simp [h]
theorem litTo_same {p q k : Nat} (h : litB p q k = false) : litTo p q (k + 1) = litTo p q k := by
  unfold litTo; rw [List.range_succ, List.filter_append]; simp [h]
theorem litTo_len (p q m : Nat) : (litTo p q m).length ≤ m := by
  unfold litTo
  rw [List.length_map]
  have := List.length_filter_le (litB p q) (List.range m)
  rwa [List.length_range] at this
theorem litTo_mono (p q a : Nat) : ∀ {b : Nat}, a ≤ b → litTo p q a <+: litTo p q b
  | 0, h => by rw [show a = 0 by omega]; exact List.prefix_refl _
  | b + 1, h => by
    rcases Nat.lt_or_eq_of_le h with h1 | rfl
    · refine List.IsPrefix.trans (litTo_mono p q a (b := b) (by omega)) ?_
      cases hm : litB p q b with
      | true => rw [litTo_succ hm]; exact List.prefix_append _ _
      | false => rw [litTo_same hm]; exact List.prefix_refl _
    · exact List.prefix_refl _
def lits (p q : Nat) : List (Nat × Bool) := litTo p q 6

/-- The bit of variable k. -/
theorem shift_and (p k : Nat) : (p &&& 2 ^ k == 0) = !p.testBit k := by
  rw [Nat.testBit_eq_decide_div_mod_eq]
  have h : p &&& 2 ^ k = p / 2 ^ k % 2 * 2 ^ k := by
    apply Nat.eq_of_testBit_eq
    intro i
    rw [Nat.testBit_and, Nat.testBit_two_pow, Nat.testBit_mul_two_pow]
    by_cases hi : k = i
    · subst hi
      rw [show (2 : Nat) = 2 ^ 1 from rfl]
      simp [Nat.testBit_eq_decide_div_mod_eq]
    · by_cases h1 : k ≤ i
      · have : (p / 2 ^ k % 2).testBit (i - k) = false := by
          rw [Nat.testBit_lt_two_pow]
          exact Nat.lt_of_lt_of_le (Nat.mod_lt _ (by decide)) (by
            have : 2 ^ 1 ≤ 2 ^ (i - k) := Nat.pow_le_pow_right (by decide) (by omega)
            simpa using this)
        simp [hi, this]
      · simp [hi, h1]
  rw [h]
  have h2 : p / 2 ^ k % 2 < 2 := Nat.mod_lt _ (by decide)
  have h3 : 0 < 2 ^ k := Nat.two_pow_pos k
  rcases Nat.lt_or_eq_of_le (Nat.le_of_lt_succ h2) with h4 | h4
  · have : p / 2 ^ k % 2 = 0 := by omega
    rw [this]; simp
  · rw [h4]; simp
end Go.Proofs.YtkgeihambgbjdaaDoor
/- Prime cubes: plain functions on numbers and lists; nothing of the program. -/
namespace Go.Proofs.YtkgeihambgbjdaaDoor

/-- All letters of the cube over v variables satisfy g. -/
def insB (g : Nat → Bool) (v p q : Nat) : Bool := (List.range (2 ^ v)).all fun x => !cHas p q x || g x
theorem insB_iff (g : Nat → Bool) (v p q : Nat) : insB g v p q = true ↔ ∀ x, x < 2 ^ v → cHas p q x = true → g x = true := by
  unfold insB
  rw [List.all_eq_true]
  constructor
  · intro h x hx hc
    have := h x (List.mem_range.2 hx)
    rw [hc] at this
    simpa using this
  · intro h x hx
    cases hc : cHas p q x with
    | false => rfl
    | true => rw [h x (List.mem_range.1 hx) hc]; rfl
/-- The bits p without that of variable k. -/
def wo (p k : Nat) : Nat := p &&& (255 - 2 ^ k)
theorem wo_bit {p k : Nat} (hp : p < 256) (hk : k < 8) (b : Nat) : (wo p k).testBit b = (p.testBit b && !decide (k = b)) := by
  unfold wo
  have h2 : 2 ^ k < 2 ^ 8 := Nat.pow_lt_pow_right (by decide) hk
  rw [Nat.testBit_and, show 255 - 2 ^ k = 2 ^ 8 - (2 ^ k + 1) by omega, Nat.testBit_two_pow_sub_succ h2, Nat.testBit_two_pow]
  by_cases hb : b < 8
  · simp [hb]
  · rw [Nat.testBit_lt_two_pow (Nat.lt_of_lt_of_le (show p < 2 ^ 8 from hp) (Nat.pow_le_pow_right (by decide) (by omega)))]
    simp
theorem wo_le (p k : Nat) : wo p k ≤ p := Nat.and_le_left
theorem wo_lt {p k : Nat} (hp : p < 256) (hk : k < 8) (h : p.testBit k = true) : wo p k < p := by
  rcases Nat.lt_or_eq_of_le (wo_le p k) with h1 | h1
  · exact h1
  · have := wo_bit hp hk k
    rw [h1, h] at this
    simp at this
/-- The valid cubes with bits p below m, ascending. -/
def cubesTo (v m : Nat) : List (Nat × Nat) := (List.range m).flatMap fun p => ((List.range (2 ^ v)).filter fun q => p &&& q == 0).map fun q => (p, q)
theorem mem_cubesTo {v m p q : Nat} : (p, q) ∈ cubesTo v m ↔ p < m ∧ q < 2 ^ v ∧ p &&& q = 0 := by
  unfold cubesTo
  simp only [List.mem_flatMap, List.mem_range, List.mem_map, List.mem_filter, beq_iff_eq, Prod.mk.injEq]
  constructor
  · rintro ⟨a, ha, b, ⟨hb, h0⟩, rfl, rfl⟩; exact ⟨ha, hb, h0⟩
  · rintro ⟨h1, h2, h3⟩; exact ⟨p, h1, q, ⟨h2, h3⟩, rfl, rfl⟩
def cubes (v : Nat) : List (Nat × Nat) := cubesTo v (2 ^ v)
theorem mem_cubes {v : Nat} (hv : v ≤ 6) {p q : Nat} : (p, q) ∈ cubes v ↔ Cube p q v := by
  unfold cubes Cube
  rw [mem_cubesTo]
  exact ⟨fun ⟨a, b, c⟩ => ⟨hv, a, b, c⟩, fun ⟨_, a, b, c⟩ => ⟨a, b, c⟩⟩
/-- A cube inside that no other one inside properly contains. -/
def primeB (g : Nat → Bool) (v : Nat) (c : Nat × Nat) : Bool := insB g v c.1 c.2 && !(lits c.1 c.2).any fun l => insB g v (wo c.1 l.1) (wo c.2 l.1)
def primesOf (g : Nat → Bool) (v : Nat) : List (Nat × Nat) := (cubes v).filter (primeB g v)
def covB (d c : Nat × Nat) : Bool := (d.1 &&& c.1 == d.1) && (d.2 &&& c.2 == d.2)
theorem covB_iff (d c : Nat × Nat) : covB d c = true ↔ (∀ b, d.1.testBit b = true → c.1.testBit b = true) ∧ (∀ b, d.2.testBit b = true → c.2.testBit b = true) := by
  unfold covB
  rw [Bool.and_eq_true, beq_iff_eq, beq_iff_eq, Nat.and_comm d.1, Nat.and_comm d.2, and_self_iff, and_self_iff]
theorem bit_lt {p b n : Nat} (hp : p < 2 ^ n) (h : p.testBit b = true) : b < n := by
  rcases Nat.lt_or_ge b n with h1 | h1
  · exact h1
  · rw [Nat.testBit_lt_two_pow (Nat.lt_of_lt_of_le hp (Nat.pow_le_pow_right (by decide) h1))] at h; cases h
theorem sub_mask {p p' : Nat} (hp : p < 256) (hp' : p' < 256) : (p &&& p' == p) = (p &&& (255 - p') == 0) := by
  rw [Bool.eq_iff_iff, beq_iff_eq, beq_iff_eq, Nat.and_comm, and_self_iff, and_zero_iff]
  have hb : ∀ b, b < 8 → (255 - p').testBit b = !p'.testBit b := by
    intro b hb
    rw [show 255 - p' = 2 ^ 8 - (p' + 1) by omega, Nat.testBit_two_pow_sub_succ (show p' < 2 ^ 8 from hp')]
    simp [hb]
  constructor
  · intro h b h1
    cases h2 : p.testBit b with
    | false => rfl
    | true =>
      have b8 : b < 8 := bit_lt (n := 8) hp h2
      rw [hb b b8, h b h2] at h1
      cases h1
  · intro h b h1
    have b8 : b < 8 := bit_lt (n := 8) hp h1
    cases h2 : p'.testBit b with
    | true => rfl
    | false =>
      have := h b (by rw [hb b b8, h2]; rfl)
      rw [h1] at this
      cases this
def allR (g : Nat → Bool) (v : Nat) : List (Nat × Nat) := (cubes v).filter fun c => insB g v c.1 c.2
def primeR (all : List (Nat × Nat)) (c : Nat × Nat) : Bool := !(all.any fun d => !(d == c) && covB d c)
theorem mem_lits {p q : Nat} {l : Nat × Bool} : l ∈ lits p q ↔ l.1 < 6 ∧ litB p q l.1 = true ∧ l.2 = p.testBit l.1 := by
  unfold lits litTo
  simp only [List.mem_map, List.mem_filter, List.mem_range]
  constructor
  · rintro ⟨k, ⟨h1, h2⟩, rfl⟩; exact ⟨h1, h2, rfl⟩
  · rintro ⟨h1, h2, h3⟩; exact ⟨l.1, ⟨h1, h2⟩, by rw [← h3]⟩
theorem and0_bit {p q : Nat} (h : p &&& q = 0) {b : Nat} (hb : p.testBit b = true) : q.testBit b = false := by
  have := congrArg (fun n => n.testBit b) h
  simpa [hb] using this
theorem and0_bit' {p q : Nat} (h : p &&& q = 0) {b : Nat} (hb : q.testBit b = true) : p.testBit b = false := (and_zero_iff p q).1 h b hb
theorem Cube.wo {p q v : Nat} (h : Cube p q v) (k : Nat) : Cube (wo p k) (Go.Proofs.YtkgeihambgbjdaaDoor.wo q k) v := by
  obtain ⟨h1, h2, h3, h4⟩ := h
  refine ⟨h1, Nat.lt_of_le_of_lt (wo_le _ _) h2, Nat.lt_of_le_of_lt (wo_le _ _) h3, ?_⟩
  rw [and_zero_iff]
  intro b hb
  unfold Go.Proofs.YtkgeihambgbjdaaDoor.wo at hb ⊢
  rw [Nat.testBit_and, Bool.and_eq_true] at hb
  rw [Nat.testBit_and, and0_bit' h4 hb.1]
  rfl
theorem prime_same {g : Nat → Bool} {v p q : Nat} (h : Cube p q v) : primeR (allR g v) (p, q) = !(lits p q).any fun l => insB g v (wo p l.1) (wo q l.1) := by
  have hl := h.lt
  unfold primeR
  congr 1
  rw [Bool.eq_iff_iff, List.any_eq_true, List.any_eq_true]
  constructor
  · rintro ⟨⟨d1, d2⟩, hd, hc⟩
    rw [Bool.and_eq_true, Bool.not_eq_true', beq_eq_false_iff_ne, covB_iff] at hc
    obtain ⟨hne, hc1, hc2⟩ := hc
    simp only at hc1 hc2
    have hd' := List.mem_filter.1 hd
    have hdi := (insB_iff _ _ _ _).1 hd'.2
    simp only at hdi
    obtain ⟨b, hb6, hb, hb1, hb2⟩ : ∃ b, b < 6 ∧ litB p q b = true ∧ d1.testBit b = false ∧ d2.testBit b = false := by
      by_cases e1 : d1 = p
      · by_cases e2 : d2 = q
        · exact absurd (by rw [e1, e2]) hne
        · obtain ⟨b, hb⟩ : ∃ b, d2.testBit b ≠ q.testBit b := by
            refine Classical.byContradiction fun hn => e2 (Nat.eq_of_testBit_eq fun i => ?_)
            exact Classical.byContradiction fun hi => hn ⟨i, hi⟩
          have hq : q.testBit b = true := by
            cases h1 : q.testBit b with
            | true => rfl
            | false =>
              cases h2 : d2.testBit b with
              | false => rw [h1, h2] at hb; exact absurd rfl hb
              | true => rw [hc2 b h2] at h1; cases h1
          have hd2 : d2.testBit b = false := by
            cases h2 : d2.testBit b with
            | false => rfl
            | true => rw [h2, hq] at hb; exact absurd rfl hb
          refine ⟨b, bit_lt (n := 6) hl.2 hq, by rw [litB_or, hq, Bool.or_true], ?_, hd2⟩
          rw [e1]; exact and0_bit' h.2.2.2 hq
      · obtain ⟨b, hb⟩ : ∃ b, d1.testBit b ≠ p.testBit b := by
          refine Classical.byContradiction fun hn => e1 (Nat.eq_of_testBit_eq fun i => ?_)
          exact Classical.byContradiction fun hi => hn ⟨i, hi⟩
        have hp : p.testBit b = true := by
          cases h1 : p.testBit b with
          | true => rfl
          | false =>
            cases h2 : d1.testBit b with
            | false => rw [h1, h2] at hb; exact absurd rfl hb
            | true => rw [hc1 b h2] at h1; cases h1
        have hd1 : d1.testBit b = false := by
          cases h2 : d1.testBit b with
          | false => rfl
          | true => rw [h2, hp] at hb; exact absurd rfl hb
        refine ⟨b, bit_lt (n := 6) hl.1 hp, by rw [litB_or, hp, Bool.true_or], hd1, ?_⟩
        cases h2 : d2.testBit b with
        | false => rfl
        | true => have := hc2 b h2; rw [and0_bit h.2.2.2 hp] at this; cases this
    refine ⟨(b, p.testBit b), mem_lits.2 ⟨hb6, hb, rfl⟩, ?_⟩
    rw [insB_iff]
    intro x hx hcx
    refine hdi x hx ?_
    rw [cHas_iff] at hcx ⊢
    refine ⟨fun i hi => hcx.1 i ?_, fun i hi => hcx.2 i ?_⟩
    · rw [wo_bit (by omega) (by omega), hc1 i hi]
      have : b ≠ i := by rintro rfl; rw [hb1] at hi; cases hi
      simp [this]
    · rw [wo_bit (by omega) (by omega), hc2 i hi]
      have : b ≠ i := by rintro rfl; rw [hb2] at hi; cases hi
      simp [this]
  · rintro ⟨l, hl', hi⟩
    obtain ⟨k6, kl, _⟩ := mem_lits.1 hl'
    have hw := h.wo l.1
    refine ⟨(wo p l.1, wo q l.1), List.mem_filter.2 ⟨(mem_cubes h.1).2 hw, hi⟩, ?_⟩
    rw [Bool.and_eq_true, Bool.not_eq_true', beq_eq_false_iff_ne, covB_iff]
    refine ⟨?_, ?_, ?_⟩
    · intro e
      injection e with e1 e2
      rw [litB_or, Bool.or_eq_true] at kl
      rcases kl with kl | kl
      · have := wo_lt (p := p) (by omega) (by omega) kl; omega
      · have := wo_lt (p := q) (by omega) (by omega) kl; omega
    · intro b hb
      simp only at hb ⊢
      rw [wo_bit (by omega) (by omega), Bool.and_eq_true] at hb
      exact hb.1
    · intro b hb
      simp only at hb ⊢
      rw [wo_bit (by omega) (by omega), Bool.and_eq_true] at hb
      exact hb.1
/-- What the reference returns are the prime cubes. -/
theorem primes_ref (g : Nat → Bool) {v : Nat} (hv : v ≤ 6) : (allR g v).filter (primeR (allR g v)) = primesOf g v := by
  unfold primesOf
  rw [show (allR g v).filter (primeR (allR g v)) = ((cubes v).filter fun c => insB g v c.1 c.2).filter (primeR (allR g v)) from rfl, List.filter_filter]
  apply List.filter_congr
  rintro ⟨p, q⟩ hc
  have h := (mem_cubes hv).1 hc
  rw [prime_same h]
  unfold primeB
  simp only
  rw [Bool.and_comm]

/-- The letters in which variable k is 1, as bits. -/
def hav (k : Nat) : Nat := [0xAAAAAAAAAAAAAAAA, 0xCCCCCCCCCCCCCCCC, 0xF0F0F0F0F0F0F0F0, 0xFF00FF00FF00FF00, 0xFFFF0000FFFF0000, 0xFFFFFFFF00000000].getD k 0
theorem hav_bits : ((List.range 6).all fun k => (List.range 64).all fun x => (hav k).testBit x == x.testBit k) = true := by decide +kernel
theorem hav_bit {k x : Nat} (hk : k < 6) (hx : x < 64) : (hav k).testBit x = x.testBit k := by
  have := List.all_eq_true.1 (List.all_eq_true.1 hav_bits k (List.mem_range.2 hk)) x (List.mem_range.2 hx)
  simpa using this
theorem hav_lts : ((List.range 6).all fun k => decide (hav k < 18446744073709551616)) = true := by decide +kernel
theorem hav_lt {k : Nat} (hk : k < 6) : hav k < 18446744073709551616 := by
  have := List.all_eq_true.1 hav_lts k (List.mem_range.2 hk)
  simpa using this
def regStep (r : Nat) (l : Nat × Bool) : Nat := if l.2 then r &&& hav l.1 else r &&& (18446744073709551615 - hav l.1)
def full (v : Nat) : Nat := 2 ^ 2 ^ v - 1
def regF (v : Nat) (ls : List (Nat × Bool)) : Nat := ls.foldl regStep (full v)
theorem regF_snoc (v : Nat) (ls : List (Nat × Bool)) (l : Nat × Bool) : regF v (ls ++ [l]) = regStep (regF v ls) l := by simp [regF]
theorem regStep_le (r : Nat) (l : Nat × Bool) : regStep r l ≤ r := by unfold regStep; split <;> exact Nat.and_le_left
theorem regF_le (v : Nat) (ls : List (Nat × Bool)) : regF v ls ≤ full v := by
  unfold regF
  have : ∀ (ls : List (Nat × Bool)) (r : Nat), ls.foldl regStep r ≤ r := by
    intro ls
    induction ls with
    | nil => exact fun r => Nat.le_refl _
    | cons l ls ih => exact fun r => Nat.le_trans (ih _) (regStep_le _ _)
  exact this _ _
theorem full_lt {v : Nat} (hv : v ≤ 6) : full v < 18446744073709551616 := by
  have : 2 ^ 2 ^ v ≤ 2 ^ 64 := Nat.pow_le_pow_right (by decide) (pow6 hv)
  unfold full; omega
theorem full_bit (v x : Nat) : (full v).testBit x = decide (x < 2 ^ v) := by unfold full; rw [Nat.testBit_two_pow_sub_one]
theorem not64_bit {a x : Nat} (ha : a < 18446744073709551616) (hx : x < 64) : (18446744073709551615 - a).testBit x = !a.testBit x := by
  rw [show 18446744073709551615 - a = 2 ^ 64 - (a + 1) by omega, Nat.testBit_two_pow_sub_succ (by omega)]
  simp [hx]
theorem regF_bit {v : Nat} (hv : v ≤ 6) (ls : List (Nat × Bool)) (h6 : ∀ l ∈ ls, l.1 < 6) (x : Nat) : (regF v ls).testBit x = (decide (x < 2 ^ v) && ls.all fun l => x.testBit l.1 == l.2) := by
  have key : ∀ (ls : List (Nat × Bool)) (r : Nat), (∀ l ∈ ls, l.1 < 6) → x < 64 → (ls.foldl regStep r).testBit x = (r.testBit x && ls.all fun l => x.testBit l.1 == l.2) := by
    intro ls
    induction ls with
    | nil => intro r _ _; simp
    | cons l ls ih =>
      intro r h hx
      have hl := h l List.mem_cons_self
      rw [List.foldl_cons, ih _ (fun l hl => h l (List.mem_cons_of_mem _ hl)) hx, List.all_cons, ← Bool.and_assoc]
      congr 1
      unfold regStep
      split
      · rename_i h2
        rw [Nat.testBit_and, hav_bit hl hx, h2]
        cases x.testBit l.1 <;> simp
      · rename_i h2
        have h2' : l.2 = false := by simpa using h2
        rw [Nat.testBit_and, not64_bit (hav_lt hl) hx, hav_bit hl hx, h2']
        cases x.testBit l.1 <;> simp
  by_cases hx : x < 64
  · unfold regF
    rw [key ls _ h6 hx, full_bit]
  · have := pow6 hv
    rw [decide_eq_false (by omega), Bool.false_and]
    have h1 := Nat.lt_of_le_of_lt (regF_le v ls) (full_lt hv)
    exact Nat.testBit_lt_two_pow (Nat.lt_of_lt_of_le (show _ < 2 ^ 64 from h1) (Nat.pow_le_pow_right (by decide) (by omega)))
def regN (v p q : Nat) : Nat := regF v (lits p q)
theorem lits_all {p q : Nat} (hp : p < 64) (hq : q < 64) (h0 : p &&& q = 0) (x : Nat) : ((lits p q).all fun l => x.testBit l.1 == l.2) = cHas p q x := by
  rw [Bool.eq_iff_iff, List.all_eq_true, cHas_iff]
  constructor
  · intro h
    refine ⟨fun b hb => ?_, fun b hb => ?_⟩
    · have := h (b, p.testBit b) (mem_lits.2 ⟨bit_lt (n := 6) hp hb, by rw [litB_or, hb, Bool.true_or], rfl⟩)
      simpa [hb] using this
    · have := h (b, p.testBit b) (mem_lits.2 ⟨bit_lt (n := 6) hq hb, by rw [litB_or, hb, Bool.or_true], rfl⟩)
      simpa [and0_bit' h0 hb] using this
  · rintro ⟨h1, h2⟩ l hl
    obtain ⟨_, hb, e⟩ := mem_lits.1 hl
    rw [e, beq_iff_eq]
    cases hp : p.testBit l.1 with
    | true => exact h1 _ hp
    | false =>
      rw [litB_or, hp, Bool.false_or] at hb
      exact h2 _ hb
theorem regN_bit {v p q : Nat} (h : Cube p q v) (x : Nat) : (regN v p q).testBit x = (decide (x < 2 ^ v) && cHas p q x) := by
  have hl := h.lt
  unfold regN
  rw [regF_bit h.1 _ (fun l hl => (mem_lits.1 hl).1), lits_all hl.1 hl.2 h.2.2.2]
theorem regN_lt {v p q : Nat} (h : v ≤ 6) : regN v p q < 18446744073709551616 := Nat.lt_of_le_of_lt (regF_le v _) (full_lt h)
/-- A region without the bits of another one is empty exactly if the cube is inside it. -/
theorem reg_ins {v p q G : Nat} (h : Cube p q v) (hG : G < 18446744073709551616) : (regN v p q &&& (18446744073709551615 - G) == 0) = insB (fun x => G.testBit x) v p q := by
  rw [Bool.eq_iff_iff, beq_iff_eq, insB_iff, and_zero_iff]
  have p6 := pow6 h.1
  constructor
  · intro hz x hx hc
    cases hg : G.testBit x with
    | true => rfl
    | false =>
      have := hz x (by rw [not64_bit hG (by omega), hg]; rfl)
      rw [regN_bit h, hc, decide_eq_true hx] at this
      cases this
  · intro hi b hb
    rw [regN_bit h]
    by_cases hx : b < 2 ^ v
    · rw [not64_bit hG (by omega)] at hb
      cases hc : cHas p q b with
      | false => simp
      | true => rw [hi b hx hc] at hb; cases hb
    · simp [hx]
/-- The letters of a list as bits. -/
def bitsOf (l : List Nat) : Nat := l.foldl (fun r x => r ||| 2 ^ x) 0
theorem bitsOf_snoc (l : List Nat) (x : Nat) : bitsOf (l ++ [x]) = bitsOf l ||| 2 ^ x := by simp [bitsOf]
theorem bitsOf_bit (l : List Nat) (x : Nat) : (bitsOf l).testBit x = decide (x ∈ l) := by
  have : ∀ (l : List Nat) (r : Nat), (l.foldl (fun r x => r ||| 2 ^ x) r).testBit x = (r.testBit x || decide (x ∈ l)) := by
    intro l
    induction l with
    | nil => intro r; simp
    | cons y l ih =>
      intro r
      rw [List.foldl_cons, ih, Nat.testBit_or, Nat.testBit_two_pow, Bool.or_assoc]
      congr 1
      rw [Bool.eq_iff_iff]
      simp only [Bool.or_eq_true, decide_eq_true_iff, List.mem_cons]
      constructor
      · rintro (h | h)
        · exact .inl h.symm
        · exact .inr h
      · rintro (h | h)
        · exact .inl h.symm
        · exact .inr h
  unfold bitsOf
  rw [this]
  simp
theorem bitsOf_lt {l : List Nat} (h : ∀ x ∈ l, x < 64) : bitsOf l < 18446744073709551616 := by
  show _ < 2 ^ 64
  apply Nat.lt_pow_two_of_testBit
  intro i hi
  rw [bitsOf_bit, decide_eq_false_iff_not]
  intro hm
  have := h i hm
  omega
/-- The law's: a letter of the set lies in a prime cube. -/
theorem prime_ex {g : Nat → Bool} {v x : Nat} : ∀ (n p q : Nat), p + q = n → Cube p q v → insB g v p q = true → cHas p q x = true → ∃ c ∈ primesOf g v, cHas c.1 c.2 x = true := by
  intro n
  induction n using Nat.strongRecOn with
  | _ n ih =>
    intro p q hn hC hi hx
    have hl := hC.lt
    cases hp : (lits p q).any fun l => insB g v (wo p l.1) (wo q l.1) with
    | false =>
      refine ⟨(p, q), List.mem_filter.2 ⟨(mem_cubes hC.1).2 hC, ?_⟩, hx⟩
      unfold primeB
      simp only
      rw [hi, hp]
      rfl
    | true =>
      obtain ⟨l, hl', hi'⟩ := List.any_eq_true.1 hp
      obtain ⟨k6, kl, _⟩ := mem_lits.1 hl'
      have hlt : wo p l.1 + wo q l.1 < n := by
        have a := wo_le p l.1
        have b := wo_le q l.1
        rw [litB_or, Bool.or_eq_true] at kl
        rcases kl with kl | kl
        · have := wo_lt (p := p) (by omega) (by omega) kl; omega
        · have := wo_lt (p := q) (by omega) (by omega) kl; omega
      refine ih _ hlt _ _ rfl (hC.wo l.1) hi' ?_
      rw [cHas_iff] at hx ⊢
      refine ⟨fun b hb => hx.1 b ?_, fun b hb => hx.2 b ?_⟩
      · rw [wo_bit (by omega) (by omega), Bool.and_eq_true] at hb; exact hb.1
      · rw [wo_bit (by omega) (by omega), Bool.and_eq_true] at hb; exact hb.1
end Go.Proofs.YtkgeihambgbjdaaDoor
