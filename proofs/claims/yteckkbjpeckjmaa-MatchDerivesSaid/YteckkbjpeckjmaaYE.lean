/- Expressions turned round, plain ones, blocks. Plain mathematics. -/
import Derived.Test.YteckkbjpeckjmaaYD
namespace Go.Proofs.Yteckkbjpeckjmaa.Rx
open Go Go.RowKit Go.Proofs.Yteckkbjpeckjmaa
set_option linter.unusedVariables false
def revOp (op : Nat) : Nat := if op = 9 then 10 else if op = 10 then 9 else op
def rev : Ex → Ex
  | .leaf op p q => .leaf op p q
  | .one op a => .one (revOp op) (rev a)
  | .two op a b => if op = 4 then .two op (rev b) (rev a) else .two op (rev a) (rev b)
theorem rev_size : ∀ t : Ex, (rev t).size = t.size
  | .leaf _ _ _ => rfl
  | .one _ a => by show (rev a).size + 1 = _; rw [rev_size a]; rfl
  | .two op a b => by
    unfold rev
    split
    · show (rev b).size + (rev a).size + 1 = a.size + b.size + 1
      rw [rev_size a, rev_size b]; omega
    · show (rev a).size + (rev b).size + 1 = a.size + b.size + 1
      rw [rev_size a, rev_size b]
theorem revOp_revOp (op : Nat) : revOp (revOp op) = op := by
  unfold revOp
  by_cases h1 : op = 9
  · subst h1; rfl
  · by_cases h2 : op = 10
    · subst h2; rfl
    · simp [h1, h2]
theorem rev_one (op : Nat) (a : Ex) : rev (.one op a) = .one (revOp op) (rev a) := rfl
theorem rev_two (op : Nat) (a b : Ex) : rev (.two op a b) = if op = 4 then .two op (rev b) (rev a) else .two op (rev a) (rev b) := rfl
theorem rev_rev : ∀ t : Ex, rev (rev t) = t
  | .leaf _ _ _ => rfl
  | .one op a => by rw [rev_one, rev_one, revOp_revOp, rev_rev a]
  | .two op a b => by
    rw [rev_two]
    split
    · rename_i h; rw [rev_two, if_pos h, rev_rev a, rev_rev b]
    · rename_i h; rw [rev_two, if_neg h, rev_rev a, rev_rev b]
theorem revOp_in {op : Nat} (h : 7 ≤ op ∧ op ≤ 10) : 7 ≤ revOp op ∧ revOp op ≤ 10 := by
  unfold revOp
  split
  · omega
  · split <;> omega
theorem rev_ok : ∀ t : Ex, t.Ok → (rev t).Ok
  | .leaf _ _ _, h => h
  | .one op a, h => ⟨revOp_in h.1, rev_ok a h.2⟩
  | .two op a b, h => by
    rw [rev_two]
    split
    · exact ⟨h.1, rev_ok b h.2.2, rev_ok a h.2.1⟩
    · exact ⟨h.1, rev_ok a h.2.1, rev_ok b h.2.2⟩
theorem rev_cubes (v : Int) : ∀ t : Ex, t.Cubes v → (rev t).Cubes v
  | .leaf _ _ _, h => h
  | .one op a, h => rev_cubes v a h
  | .two op a b, h => by
    rw [rev_two]
    split
    · exact ⟨rev_cubes v b h.2, rev_cubes v a h.1⟩
    · exact ⟨rev_cubes v a h.1, rev_cubes v b h.2⟩
theorem look_revOp (op : Nat) : (revOp op == 9 || revOp op == 10) = (op == 9 || op == 10) := by
  unfold revOp
  by_cases h1 : op = 9
  · subst h1; rfl
  · by_cases h2 : op = 10
    · subst h2; rfl
    · simp [h1, h2]
theorem rev_bad : ∀ (t : Ex) (free : Bool), badT (rev t) free = badT t free
  | .leaf _ _ _, _ => rfl
  | .one op a, free => by
    show (((revOp op == 9 || revOp op == 10) && !free) || badT (rev a) false) = (((op == 9 || op == 10) && !free) || badT a false)
    rw [look_revOp, rev_bad a]
  | .two op a b, free => by
    rw [rev_two]
    split
    · show (badT (rev b) _ || badT (rev a) _) = (badT a _ || badT b _)
      rw [rev_bad a, rev_bad b, Bool.or_comm]
    · show (badT (rev a) _ || badT (rev b) _) = (badT a _ || badT b _)
      rw [rev_bad a, rev_bad b]
theorem rev_valid {v : Int} {t : Ex} (h : t.Valid v) : (rev t).Valid v := ⟨h.v0, h.v6, rev_ok t h.ok, by rw [rev_size]; exact h.size, rev_cubes v t h.cubes, by rw [rev_bad]; exact h.look⟩
/-- No look-around. -/
def plainT : Ex → Bool
  | .leaf _ _ _ => true
  | .one op a => !(op == 9 || op == 10) && plainT a
  | .two _ a b => plainT a && plainT b
theorem rev_plain : ∀ t : Ex, plainT (rev t) = plainT t
  | .leaf _ _ _ => rfl
  | .one op a => by
    show (!(revOp op == 9 || revOp op == 10) && plainT (rev a)) = (!(op == 9 || op == 10) && plainT a)
    rw [look_revOp, rev_plain a]
  | .two op a b => by
    rw [rev_two]
    split
    · show (plainT (rev b) && plainT (rev a)) = (plainT a && plainT b)
      rw [rev_plain a, rev_plain b, Bool.and_comm]
    · show (plainT (rev a) && plainT (rev b)) = (plainT a && plainT b)
      rw [rev_plain a, rev_plain b]
def plainL (e : List Pc) : Bool := e.all fun x => !(x.op == 9 || x.op == 10)
theorem plain_flat : ∀ (t : Ex) (k : Nat), t.Ok → plainL (flat t k) = plainT t
  | .leaf op p q, k, h => by
    have h9 : (op == 9) = false := by rw [beq_eq_false_iff_ne]; have := h.1; omega
    have h10 : (op == 10) = false := by rw [beq_eq_false_iff_ne]; have := h.1; omega
    simp [plainL, flat, plainT, h9, h10]
  | .one op a, k, h => by
    have := plain_flat a k h.2
    unfold plainL at *
    rw [flat, List.all_append, this]
    simp [plainT, Bool.and_comm]
  | .two op a b, k, h => by
    have h1 := plain_flat a k h.2.1
    have h2 := plain_flat b (k + a.size) h.2.2
    have h9 : (op == 9) = false := by rw [beq_eq_false_iff_ne]; have := h.1; omega
    have h10 : (op == 10) = false := by rw [beq_eq_false_iff_ne]; have := h.1; omega
    unfold plainL at *
    rw [flat, List.all_append, List.all_append, h1, h2]
    simp [plainT, h9, h10]
theorem plain_free : ∀ (t : Ex) (free : Bool), plainT t = true → badT t free = false
  | .leaf _ _ _, _, _ => rfl
  | .one op a, free, h => by
    have h' : (!(op == 9 || op == 10) && plainT a) = true := h
    rw [Bool.and_eq_true, Bool.not_eq_true'] at h'
    show (((op == 9 || op == 10) && !free) || badT a false) = false
    rw [h'.1, plain_free a false h'.2]
    rfl
  | .two op a b, free, h => by
    have h' : (plainT a && plainT b) = true := h
    rw [Bool.and_eq_true] at h'
    show (badT a _ || badT b _) = false
    rw [plain_free a _ h'.1, plain_free b _ h'.2]
    rfl
/-- The block of piece i. -/
def sub : Ex → Nat → Ex
  | .leaf op p q, _ => .leaf op p q
  | .one op a, i => if i = a.size then .one op a else sub a i
  | .two op a b, i => if i = a.size + b.size then .two op a b else if i < a.size then sub a i else sub b (i - a.size)
theorem sub_last : ∀ t : Ex, sub t (t.size - 1) = t
  | .leaf _ _ _ => rfl
  | .one op a => by
    show (if a.size + 1 - 1 = a.size then _ else _) = _
    rw [if_pos (by omega)]
  | .two op a b => by
    show (if a.size + b.size + 1 - 1 = a.size + b.size then _ else _) = _
    rw [if_pos (by omega)]
theorem sub_one (op : Nat) (a : Ex) (i : Nat) : sub (.one op a) i = if i = a.size then .one op a else sub a i := rfl
theorem sub_two (op : Nat) (a b : Ex) (i : Nat) : sub (.two op a b) i = if i = a.size + b.size then .two op a b else if i < a.size then sub a i else sub b (i - a.size) := rfl
/-- Of the block of piece i: it is an expression, no longer than i + 1, its text is a part of the text; it is plain if all is. -/
theorem sub_ok (v : Int) : ∀ (t : Ex) (i : Nat), i < t.size → t.Ok → t.Cubes v → (sub t i).Ok ∧ (sub t i).Cubes v ∧ (sub t i).size ≤ i + 1 ∧ (plainT t = true → plainT (sub t i) = true) ∧ ∃ x y, txt t = x ++ txt (sub t i) ++ y
  | .leaf op p q, i, h, ho, hc => ⟨ho, hc, by show 1 ≤ _; omega, fun h => h, [], [], by simp [sub]⟩
  | .one op a, i, h, ho, hc => by
    rw [sub_one]
    split
    · rename_i hi
      exact ⟨ho, hc, by show a.size + 1 ≤ _; omega, fun h => h, [], [], by simp⟩
    · rename_i hi
      have h' : i < a.size + 1 := h
      obtain ⟨h1, h2, h3, h4, x, y, h5⟩ := sub_ok v a i (by omega) ho.2 hc
      refine ⟨h1, h2, h3, fun hp => h4 ?_, ?_⟩
      · have hp' : (!(op == 9 || op == 10) && plainT a) = true := hp
        rw [Bool.and_eq_true] at hp'
        exact hp'.2
      · rw [txt_one]
        split
        · exact ⟨40 :: x, y ++ [42, 41], by rw [h5]; simp⟩
        · exact ⟨40 :: opB op :: x, y ++ [41], by rw [h5]; simp⟩
  | .two op a b, i, h, ho, hc => by
    rw [sub_two]
    have h' : i < a.size + b.size + 1 := h
    split
    · rename_i hi
      exact ⟨ho, hc, by show a.size + b.size + 1 ≤ _; omega, fun h => h, [], [], by simp⟩
    · rename_i hi
      have hpl : plainT (.two op a b) = true → plainT a = true ∧ plainT b = true := fun hp => by
        have hp' : (plainT a && plainT b) = true := hp
        rwa [Bool.and_eq_true] at hp'
      split
      · rename_i ha
        obtain ⟨h1, h2, h3, h4, x, y, h5⟩ := sub_ok v a i ha ho.2.1 hc.1
        exact ⟨h1, h2, h3, fun hp => h4 (hpl hp).1, 40 :: x, y ++ opB op :: (txt b ++ [41]), by rw [txt_two, h5]; simp⟩
      · rename_i ha
        obtain ⟨h1, h2, h3, h4, x, y, h5⟩ := sub_ok v b (i - a.size) (by omega) ho.2.2 hc.2
        exact ⟨h1, h2, by omega, fun hp => h4 (hpl hp).2, 40 :: (txt a ++ opB op :: x), y ++ [41], by rw [txt_two, h5]; simp⟩
/-- A piece whose children's numbers begin k lower. -/
def shift (k : Nat) (x : Pc) : Pc := ⟨x.op, x.p, x.q, if kids x.op ≥ 1 then x.a - k else x.a, if kids x.op = 2 then x.b - k else x.b⟩
theorem flat_shift : ∀ (t : Ex) (k j : Nat), t.Ok → (flat t (k + j)).map (shift k) = flat t j
  | .leaf op p q, k, j, h => by
    simp [flat, shift, kids_leaf h.1]
  | .one op a, k, j, h => by
    rw [flat, flat, List.map_append, flat_shift a k j h.2]
    congr 1
    simp [shift, kids_one h.1]
    omega
  | .two op a b, k, j, h => by
    rw [flat, flat, List.map_append, List.map_append, flat_shift a k j h.2.1, Nat.add_assoc k j, flat_shift b k (j + a.size) h.2.2]
    congr 2
    simp [shift, kids_two h.1]
    omega
/-- The block of piece i in a list of pieces: where it begins, and what it is. -/
theorem sub_flat : ∀ (t : Ex) (i k : Nat), i < t.size → ∃ s, s + (sub t i).size = i + 1 ∧ ((flat t k).drop s).take (sub t i).size = flat (sub t i) (k + s)
  | .leaf op p q, i, k, h => by
    have h' : i < 1 := h
    exact ⟨0, by show 0 + 1 = _; omega, rfl⟩
  | .one op a, i, k, h => by
    have h' : i < a.size + 1 := h
    rw [sub_one]
    split
    · rename_i hi
      exact ⟨0, by show 0 + (a.size + 1) = _; omega, by rw [List.drop_zero, Nat.add_zero, ← flat_len (.one op a) k, List.take_length]⟩
    · rename_i hi
      obtain ⟨s, h1, h2⟩ := sub_flat a i k (by omega)
      refine ⟨s, h1, ?_⟩
      rw [← h2, flat, List.drop_append_of_le_length (by rw [flat_len]; omega), List.take_append_of_le_length (by rw [List.length_drop, flat_len]; omega)]
  | .two op a b, i, k, h => by
    have h' : i < a.size + b.size + 1 := h
    rw [sub_two]
    split
    · rename_i hi
      exact ⟨0, by show 0 + (a.size + b.size + 1) = _; omega, by rw [List.drop_zero, Nat.add_zero, ← flat_len (.two op a b) k, List.take_length]⟩
    · rename_i hi
      split
      · rename_i ha
        obtain ⟨s, h1, h2⟩ := sub_flat a i k ha
        refine ⟨s, h1, ?_⟩
        rw [← h2, flat, List.drop_append_of_le_length (by rw [flat_len]; omega), List.take_append_of_le_length (by rw [List.length_drop, flat_len]; omega)]
      · rename_i ha
        obtain ⟨s, h1, h2⟩ := sub_flat b (i - a.size) (k + a.size) (by omega)
        refine ⟨a.size + s, by omega, ?_⟩
        rw [show k + (a.size + s) = k + a.size + s by omega, ← h2, flat, ← List.drop_drop, List.drop_left' (flat_len a k), List.drop_append_of_le_length (by rw [flat_len]; omega), List.take_append_of_le_length (by rw [List.length_drop, flat_len]; omega)]
end Go.Proofs.Yteckkbjpeckjmaa.Rx
