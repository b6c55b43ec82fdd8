/- The texts of cubes: plain functions on lists of bytes; nothing of the program. -/
import Derived.Test.YteckkbjpeckjmaaCA
namespace Go.Proofs.Yteckkbjpeckjmaa

/-- The text of a literal. -/
def litText (l : Nat × Bool) : List UInt8 := (if l.2 then [] else [33]) ++ [UInt8.ofNat (97 + l.1)]
def fmtL (l : List (Nat × Bool)) : List UInt8 := l.flatMap litText
/-- The text of a cube. -/
def fmtT (p q : Nat) : List UInt8 := if fmtL (lits p q) = [] then [42] else fmtL (lits p q)
theorem fmtL_snoc (l : List (Nat × Bool)) (x : Nat × Bool) : fmtL (l ++ [x]) = fmtL l ++ litText x := by simp [fmtL]
theorem fmtL_len (l : List (Nat × Bool)) : (fmtL l).length ≤ 2 * l.length := by
  induction l with
  | nil => simp [fmtL]
  | cons x l ih =>
    have : (litText x).length ≤ 2 := by unfold litText; cases x.2 <;> simp
    have e : fmtL (x :: l) = litText x ++ fmtL l := by simp [fmtL]
    rw [e, List.length_append, List.length_cons]; omega
theorem litText_ne (x : Nat × Bool) : litText x ≠ [] := by unfold litText; simp
theorem fmtL_nil {l : List (Nat × Bool)} : fmtL l = [] ↔ l = [] := by
  cases l with
  | nil => simp [fmtL]
  | cons x l => simp [fmtL, litText_ne]
theorem fmtT_len (p q : Nat) : (fmtT p q).length ≤ 12 := by
  unfold fmtT
  split
  · simp
  · have h1 := fmtL_len (lits p q)
    have h2 := litTo_len p q 6
    unfold lits at *
    omega

/-- The state of a reader: the bits, the least variable that may follow, whether no sign is pending. -/
abbrev Rd := Nat × Nat × Nat × Bool
def rdStep (st : Rd) (c : Nat) : Option Rd :=
  if c = 33 ∧ st.2.2.2 = true then some (st.1, st.2.1, st.2.2.1, false)
  else if 97 + st.2.2.1 ≤ c ∧ c < 103 then
    some (if st.2.2.2 then st.1 ||| 2 ^ (c - 97) else st.1, if st.2.2.2 then st.2.1 else st.2.1 ||| 2 ^ (c - 97), c - 97 + 1, true)
  else none
def rd (s : List UInt8) : Option Rd := s.foldlM (fun st c => rdStep st c.toNat) (0, 0, 0, true)
theorem rd_snoc (s : List UInt8) (c : UInt8) : rd (s ++ [c]) = (rd s).bind fun st => rdStep st c.toNat := by
  unfold rd
  rw [List.foldlM_append]
  cases List.foldlM (fun st (c : UInt8) => rdStep st c.toNat) (0, 0, 0, true) s with
  | none => rfl
  | some st => simp
theorem rd_none_append (s t : List UInt8) (h : rd s = none) : rd (s ++ t) = none := by
  unfold rd at *
  rw [List.foldlM_append, h]; rfl
/-- The cube of a text. -/
def readC (s : List UInt8) : Option (Nat × Nat) :=
  if s = [42] then some (0, 0) else
  match rd s with
  | some (p, q, least, value) => if least = 0 ∨ value = false then none else some (p, q)
  | none => none

theorem lits_or_pos {p q k : Nat} (hp : p < 2 ^ k) (hq : q < 2 ^ k) (hk : k < 6) : lits (p ||| 2 ^ k) q = lits p q ++ [(k, true)] := by
  have key : ∀ m, k < m → m ≤ 6 → litTo (p ||| 2 ^ k) q m = litTo p q k ++ [(k, true)] ∧ litTo p q m = litTo p q k := by
    have low : ∀ m, m ≤ k → litTo (p ||| 2 ^ k) q m = litTo p q m := by
      intro m hm
      unfold litTo
      have e1 : (List.range m).filter (litB (p ||| 2 ^ k) q) = (List.range m).filter (litB p q) := by
        apply List.filter_congr
        intro x hx
        have := List.mem_range.1 hx
        rw [litB_or, litB_or, Nat.testBit_or, Nat.testBit_two_pow]
        have : decide (k = x) = false := by rw [decide_eq_false_iff_not]; omega
        rw [this, Bool.or_false]
      rw [e1]
      apply List.map_congr_left
      intro x hx
      have := List.mem_range.1 (List.mem_filter.1 hx).1
      rw [Nat.testBit_or, Nat.testBit_two_pow]
      simp; omega
    intro m h1 h2
    induction m with
    | zero => omega
    | succ m ih =>
      rcases Nat.lt_or_eq_of_le (Nat.le_of_lt_succ h1) with h3 | rfl
      · obtain ⟨i1, i2⟩ := ih h3 (by omega)
        have b1 : p.testBit m = false := Nat.testBit_lt_two_pow (Nat.lt_of_lt_of_le hp (Nat.pow_le_pow_right (by decide) (by omega)))
        have b2 : q.testBit m = false := Nat.testBit_lt_two_pow (Nat.lt_of_lt_of_le hq (Nat.pow_le_pow_right (by decide) (by omega)))
        have e1 : litB p q m = false := by rw [litB_or, b1, b2]; rfl
        have e2 : litB (p ||| 2 ^ k) q m = false := by
          rw [litB_or, Nat.testBit_or, b1, b2, Nat.testBit_two_pow]
          simp; omega
        rw [litTo_same e1, litTo_same e2]
        exact ⟨i1, i2⟩
      · have b1 : p.testBit k = false := Nat.testBit_lt_two_pow hp
        have b2 : q.testBit k = false := Nat.testBit_lt_two_pow hq
        have e1 : litB p q k = false := by rw [litB_or, b1, b2]; rfl
        have e3 : (p ||| 2 ^ k).testBit k = true := by rw [Nat.testBit_or, Nat.testBit_two_pow]; simp
        have e2 : litB (p ||| 2 ^ k) q k = true := by rw [litB_or, e3]; rfl
        rw [litTo_succ e2, litTo_same e1, low k (Nat.le_refl _), e3]
        exact ⟨rfl, rfl⟩
  obtain ⟨h1, h2⟩ := key 6 hk (Nat.le_refl _)
  unfold lits
  rw [h1, h2]
theorem lits_or_neg {p q k : Nat} (hp : p < 2 ^ k) (hq : q < 2 ^ k) (hk : k < 6) : lits p (q ||| 2 ^ k) = lits p q ++ [(k, false)] := by
  have key : ∀ m, k < m → m ≤ 6 → litTo p (q ||| 2 ^ k) m = litTo p q k ++ [(k, false)] ∧ litTo p q m = litTo p q k := by
    have low : ∀ m, m ≤ k → litTo p (q ||| 2 ^ k) m = litTo p q m := by
      intro m hm
      unfold litTo
      have e1 : (List.range m).filter (litB p (q ||| 2 ^ k)) = (List.range m).filter (litB p q) := by
        apply List.filter_congr
        intro x hx
        have := List.mem_range.1 hx
        rw [litB_or, litB_or, Nat.testBit_or, Nat.testBit_two_pow]
        have : decide (k = x) = false := by rw [decide_eq_false_iff_not]; omega
        rw [this, Bool.or_false]
      rw [e1]
    intro m h1 h2
    induction m with
    | zero => omega
    | succ m ih =>
      rcases Nat.lt_or_eq_of_le (Nat.le_of_lt_succ h1) with h3 | rfl
      · obtain ⟨i1, i2⟩ := ih h3 (by omega)
        have b1 : p.testBit m = false := Nat.testBit_lt_two_pow (Nat.lt_of_lt_of_le hp (Nat.pow_le_pow_right (by decide) (by omega)))
        have b2 : q.testBit m = false := Nat.testBit_lt_two_pow (Nat.lt_of_lt_of_le hq (Nat.pow_le_pow_right (by decide) (by omega)))
        have e1 : litB p q m = false := by rw [litB_or, b1, b2]; rfl
        have e2 : litB p (q ||| 2 ^ k) m = false := by
          rw [litB_or, Nat.testBit_or, b1, b2, Nat.testBit_two_pow]
          simp; omega
        rw [litTo_same e1, litTo_same e2]
        exact ⟨i1, i2⟩
      · have b1 : p.testBit k = false := Nat.testBit_lt_two_pow hp
        have b2 : q.testBit k = false := Nat.testBit_lt_two_pow hq
        have e1 : litB p q k = false := by rw [litB_or, b1, b2]; rfl
        have e2 : litB p (q ||| 2 ^ k) k = true := by rw [litB_or, Nat.testBit_or, Nat.testBit_two_pow]; simp
        rw [litTo_succ e2, litTo_same e1, low k (Nat.le_refl _), b1]
        exact ⟨rfl, rfl⟩
  obtain ⟨h1, h2⟩ := key 6 hk (Nat.le_refl _)
  unfold lits
  rw [h1, h2]
/-- What a reader's state says of what it has read. -/
def RdOk (s : List UInt8) (st : Rd) : Prop :=
  s = fmtL (lits st.1 st.2.1) ++ (if st.2.2.2 then [] else [33]) ∧ st.1 < 2 ^ st.2.2.1 ∧ st.2.1 < 2 ^ st.2.2.1 ∧ st.2.2.1 ≤ 6 ∧ st.1 &&& st.2.1 = 0 ∧ (st.2.2.1 ≠ 0 → lits st.1 st.2.1 ≠ [])
theorem and_pow_zero {q k : Nat} (hq : q < 2 ^ k) : 2 ^ k &&& q = 0 := by
  rw [and_zero_iff]
  intro b hb
  rw [Nat.testBit_two_pow]
  have : b < k := by
    rcases Nat.lt_or_ge b k with h | h
    · exact h
    · rw [Nat.testBit_lt_two_pow (Nat.lt_of_lt_of_le hq (Nat.pow_le_pow_right (by decide) h))] at hb
      cases hb
  simp; omega
theorem byte_of (c : UInt8) (n : Nat) (h : c.toNat = n) : c = UInt8.ofNat n := by
  rw [← h]; simp
theorem rdStep_ok {s : List UInt8} {st st' : Rd} {c : UInt8} (h : RdOk s st) (hs : rdStep st c.toNat = some st') : RdOk (s ++ [c]) st' := by
  obtain ⟨p, q, least, value⟩ := st
  obtain ⟨h1, h2, h3, h4, h5, h6⟩ := h
  simp only at h1 h2 h3 h4 h5 h6
  unfold rdStep at hs
  simp only at hs
  split at hs
  · rename_i hc
    obtain ⟨hc, rfl⟩ := hc
    cases hs
    refine ⟨?_, h2, h3, h4, h5, h6⟩
    rw [h1, byte_of c 33 hc]
    simp
  · split at hs
    · rename_i hc
      cases hs
      obtain ⟨k, hk⟩ : ∃ k, k = c.toNat - 97 := ⟨_, rfl⟩
      rw [← hk]
      have hk6 : k < 6 := by omega
      have hkl : least ≤ k := by omega
      have hck : c = UInt8.ofNat (97 + k) := byte_of c (97 + k) (by omega)
      have p2 : p < 2 ^ k := Nat.lt_of_lt_of_le h2 (Nat.pow_le_pow_right (by decide) hkl)
      have q2 : q < 2 ^ k := Nat.lt_of_lt_of_le h3 (Nat.pow_le_pow_right (by decide) hkl)
      have e2 : 2 ^ k < 2 ^ (k + 1) := Nat.pow_lt_pow_right (by decide) (by omega)
      cases value with
      | true =>
        refine ⟨?_, ?_, ?_, ?_, ?_, ?_⟩
        · simp only [if_true]
          rw [lits_or_pos p2 q2 hk6, fmtL_snoc, h1, hck]
          simp [litText]
        · simp only [if_true]; exact Nat.or_lt_two_pow (by omega) e2
        · simp only [if_true]; omega
        · simp only; omega
        · simp only [if_true]
          rw [Nat.and_or_distrib_right, h5, and_pow_zero q2]
          rfl
        · intro _
          simp only [if_true]
          rw [lits_or_pos p2 q2 hk6]
          simp
      | false =>
        refine ⟨?_, ?_, ?_, ?_, ?_, ?_⟩
        · simp only [if_true, Bool.false_eq_true, if_false]
          rw [lits_or_neg p2 q2 hk6, fmtL_snoc, h1, hck]
          simp [litText]
        · simp only [Bool.false_eq_true, if_false]; omega
        · simp only [Bool.false_eq_true, if_false]; exact Nat.or_lt_two_pow (by omega) e2
        · simp only; omega
        · simp only [Bool.false_eq_true, if_false]
          rw [Nat.and_comm, Nat.and_or_distrib_right, and_pow_zero p2, Nat.and_comm q p, h5]
          rfl
        · intro _
          simp only [Bool.false_eq_true, if_false]
          rw [lits_or_neg p2 q2 hk6]
          simp
    · cases hs
theorem rd_ok : ∀ (n : Nat) (s : List UInt8), s.length = n → ∀ st, rd s = some st → RdOk s st := by
  intro n
  induction n with
  | zero =>
    intro s hs st h
    obtain rfl : s = [] := List.eq_nil_of_length_eq_zero hs
    have : st = (0, 0, 0, true) := by
      unfold rd at h
      simpa using h.symm
    subst this
    exact ⟨by decide, by decide, by decide, by decide, by decide, by decide⟩
  | succ n ih =>
    intro s hs st h
    obtain ⟨t, c, rfl⟩ : ∃ t c, s = t ++ [c] := ⟨s.dropLast, s.getLast (by intro e; rw [e] at hs; simp at hs), (List.dropLast_concat_getLast _).symm⟩
    rw [rd_snoc] at h
    cases ht : rd t with
    | none => rw [ht] at h; cases h
    | some st0 =>
      rw [ht] at h
      exact rdStep_ok (ih t (by simp at hs; omega) st0 ht) h
theorem lits_zero : lits 0 0 = [] := by decide
/-- What is read is a cube, and its text is what was read. -/
theorem readC_sound {s : List UInt8} {p q : Nat} (h : readC s = some (p, q)) : p < 64 ∧ q < 64 ∧ p &&& q = 0 ∧ fmtT p q = s := by
  unfold readC at h
  split at h
  · rename_i hs
    cases h
    rw [hs]
    decide
  · split at h
    · rename_i p' q' least value hr
      split at h
      · cases h
      · rename_i hl
        cases h
        obtain ⟨h1, h2, h3, h4, h5, h6⟩ := rd_ok _ s rfl _ hr
        simp only at h1 h2 h3 h4 h5 h6
        have := Nat.pow_le_pow_right (n := 2) (by decide) h4
        have hv : value = true := by cases value <;> simp_all
        rw [hv] at h1
        simp only [if_true, List.append_nil] at h1
        refine ⟨by omega, by omega, h5, ?_⟩
        have hne := h6 (by omega)
        unfold fmtT
        rw [if_neg (by rw [fmtL_nil]; exact hne), h1]
    · cases h
/-- What the reference collects. -/
def scanStep (st : Nat × Nat × Bool) (c : Nat) : Nat × Nat × Bool :=
  if c = 33 ∧ st.2.2 = false then (st.1, st.2.1, true)
  else (if 97 ≤ c ∧ c ≤ 102 ∧ st.2.2 = false then st.1 ||| 2 ^ (c - 97) else st.1, if 97 ≤ c ∧ c ≤ 102 ∧ st.2.2 = true then st.2.1 ||| 2 ^ (c - 97) else st.2.1, false)
def scan (s : List UInt8) : Nat × Nat × Bool := s.foldl (fun st c => scanStep st c.toNat) (0, 0, false)
theorem scan_snoc (s : List UInt8) (c : UInt8) : scan (s ++ [c]) = scanStep (scan s) c.toNat := by simp [scan]
theorem scanStep_lt {st : Nat × Nat × Bool} (c : Nat) (h : st.1 < 64 ∧ st.2.1 < 64) : (scanStep st c).1 < 64 ∧ (scanStep st c).2.1 < 64 := by
  have hp : ∀ a, a < 64 → 97 ≤ c → c ≤ 102 → a ||| 2 ^ (c - 97) < 64 := by
    intro a ha h1 h2
    have : 2 ^ (c - 97) < 2 ^ 6 := Nat.pow_lt_pow_right (by decide) (by omega)
    exact Nat.or_lt_two_pow (n := 6) ha this
  unfold scanStep
  split
  · exact h
  · constructor
    · simp only
      split
      · rename_i hc; exact hp _ h.1 hc.1 hc.2.1
      · exact h.1
    · simp only
      split
      · rename_i hc; exact hp _ h.2 hc.1 hc.2.1
      · exact h.2
theorem scan_lt (s : List UInt8) : (scan s).1 < 64 ∧ (scan s).2.1 < 64 := by
  unfold scan
  have : ∀ (s : List UInt8) (st : Nat × Nat × Bool), (st.1 < 64 ∧ st.2.1 < 64) → ((s.foldl (fun st c => scanStep st c.toNat) st).1 < 64 ∧ (s.foldl (fun st c => scanStep st c.toNat) st).2.1 < 64) := by
    intro s
    induction s with
    | nil => exact fun st h => h
    | cons c s ih => exact fun st h => ih _ (scanStep_lt _ h)
  exact this s _ ⟨by decide, by decide⟩
def refP (s : List UInt8) : Option (Nat × Nat) := if (scan s).1 &&& (scan s).2.1 = 0 ∧ fmtT (scan s).1 (scan s).2.1 = s then some ((scan s).1, (scan s).2.1) else none
theorem allFmt : ((List.range 64).all fun p => (List.range 64).all fun q => !(p &&& q == 0) || (readC (fmtT p q) == some (p, q) && scan (fmtT p q) == (p, q, false))) = true := by decide +kernel
theorem fmt_back {p q : Nat} (hp : p < 64) (hq : q < 64) (h : p &&& q = 0) : readC (fmtT p q) = some (p, q) ∧ scan (fmtT p q) = (p, q, false) := by
  have h1 := List.all_eq_true.1 (List.all_eq_true.1 allFmt p (List.mem_range.2 hp)) q (List.mem_range.2 hq)
  rw [h] at h1
  simpa using h1
theorem refP_eq (s : List UInt8) : refP s = readC s := by
  have hl := scan_lt s
  cases hr : readC s with
  | none =>
    unfold refP
    split
    · rename_i h
      obtain ⟨h1, h2⟩ := h
      have := (fmt_back hl.1 hl.2 h1).1
      rw [h2, hr] at this
      cases this
    · rfl
  | some pq =>
    obtain ⟨p, q⟩ := pq
    obtain ⟨h1, h2, h3, h4⟩ := readC_sound hr
    have hs := (fmt_back h1 h2 h3).2
    rw [h4] at hs
    unfold refP
    rw [hs]
    rw [if_pos ⟨h3, h4⟩]
end Go.Proofs.Yteckkbjpeckjmaa
