/- Regular expressions as trees and as lists of pieces; what Check says. Plain mathematics. -/
import Derived.Test.YteckkbjpeckjmaaCA
namespace Go.Proofs.Yteckkbjpeckjmaa.Rx
open Go Go.RowKit Go.Proofs.Yteckkbjpeckjmaa
set_option linter.unusedVariables false
/-- A piece. -/
structure Pc where
  op : Nat
  p : Nat
  q : Nat
  a : Int
  b : Int
  deriving DecidableEq
instance : Inhabited Pc := ⟨⟨0, 0, 0, 0, 0⟩⟩
def pc (e : List Pc) (j : Nat) : Pc := e.getD j default
/-- How many children an operator has. -/
def kids (op : Nat) : Int := if 1 ≤ op ∧ op ≤ 3 then 0 else if 4 ≤ op ∧ op ≤ 6 then 2 else if 7 ≤ op ∧ op ≤ 10 then 1 else -1
inductive Ex where
  | leaf (op p q : Nat)
  | one (op : Nat) (a : Ex)
  | two (op : Nat) (a b : Ex)
  deriving DecidableEq
def Ex.size : Ex → Nat
  | .leaf _ _ _ => 1
  | .one _ a => a.size + 1
  | .two _ a b => a.size + b.size + 1
def Ex.Ok : Ex → Prop
  | .leaf op p q => (1 ≤ op ∧ op ≤ 3) ∧ (op ≠ 3 → p = 0 ∧ q = 0)
  | .one op a => (7 ≤ op ∧ op ≤ 10) ∧ a.Ok
  | .two op a b => (4 ≤ op ∧ op ≤ 6) ∧ a.Ok ∧ b.Ok
theorem Ex.pos : ∀ t : Ex, 0 < t.size
  | .leaf _ _ _ => Nat.one_pos
  | .one _ _ => Nat.succ_pos _
  | .two _ _ _ => Nat.succ_pos _
/-- The pieces of an expression whose first piece has the number k. -/
def flat : Ex → Nat → List Pc
  | .leaf op p q, k => [⟨op, p, q, 0, 0⟩]
  | .one op a, k => flat a k ++ [⟨op, 0, 0, ((k + a.size : Nat) : Int) - 1, 0⟩]
  | .two op a b, k => flat a k ++ (flat b (k + a.size) ++ [⟨op, 0, 0, ((k + a.size : Nat) : Int) - 1, ((k + a.size + b.size : Nat) : Int) - 1⟩])
theorem flat_len : ∀ (t : Ex) (k : Nat), (flat t k).length = t.size
  | .leaf _ _ _, k => rfl
  | .one _ a, k => by simp [flat, Ex.size, flat_len a]
  | .two _ a b, k => by simp [flat, Ex.size, flat_len a, flat_len b]; omega
/-- The error of a piece by itself. -/
def pieceE (v : Int) (x : Pc) : Int :=
  if kids x.op < 0 then 6
  else if (x.op ≠ 3 ∧ (x.p ≠ 0 ∨ x.q ≠ 0)) ∨ (kids x.op < 1 ∧ x.a ≠ 0) ∨ (kids x.op < 2 ∧ x.b ≠ 0) then 2
  else if x.op = 3 then chk x.p x.q v else 0
/-- Where the block of piece i begins, if its children are in place. -/
def beginE (first : List Nat) (i : Nat) (x : Pc) : Option Nat :=
  if kids x.op = 1 then
    if x.a ≠ (i : Int) - 1 ∨ i = 0 then none else some (first.getD (i - 1) 0)
  else if kids x.op = 2 then
    if x.b ≠ (i : Int) - 1 ∨ i = 0 ∨ first.getD (i - 1) 0 = 0 ∨ x.a ≠ (first.getD (i - 1) 0 : Int) - 1 then none else some (first.getD (first.getD (i - 1) 0 - 1) 0)
  else some i
/-- The first k pieces: where their blocks begin, or the first error. -/
def chkTo (v : Int) (e : List Pc) : Nat → Except Int (List Nat)
  | 0 => .ok []
  | k + 1 => match chkTo v e k with
    | .error f => .error f
    | .ok first =>
      if pieceE v (pc e k) ≠ 0 then .error (pieceE v (pc e k))
      else match beginE first k (pc e k) with
        | none => .error 8
        | some b => .ok (first ++ [b])
/-- Each piece by itself is in order. -/
def Good (v : Int) (x : Pc) : Prop := pieceE v x = 0
instance (v : Int) (x : Pc) : Decidable (Good v x) := inferInstanceAs (Decidable (pieceE v x = 0))
/-- The block of piece j begins at s: it is the expression t. -/
def Bl (e : List Pc) (s j : Nat) (t : Ex) : Prop := s + t.size = j + 1 ∧ (e.drop s).take t.size = flat t s
theorem kids_cases (op : Nat) : (kids op = 0 ∧ 1 ≤ op ∧ op ≤ 3) ∨ (kids op = 2 ∧ 4 ≤ op ∧ op ≤ 6) ∨ (kids op = 1 ∧ 7 ≤ op ∧ op ≤ 10) ∨ kids op = -1 := by
  unfold kids
  by_cases h1 : 1 ≤ op ∧ op ≤ 3
  · simp [h1]
  · by_cases h2 : 4 ≤ op ∧ op ≤ 6
    · simp [h1, h2]
    · by_cases h3 : 7 ≤ op ∧ op ≤ 10
      · simp [h1, h2, h3]
      · simp [h1, h2, h3]
theorem good_leaf {v : Int} {x : Pc} (h : Good v x) (hk : kids x.op = 0) : (1 ≤ x.op ∧ x.op ≤ 3) ∧ (x.op ≠ 3 → x.p = 0 ∧ x.q = 0) ∧ x.a = 0 ∧ x.b = 0 := by
  rcases kids_cases x.op with h0 | h0 | h0 | h0
  · unfold Good pieceE at h
    rw [hk] at h
    simp only [show ¬ ((0 : Int) < 0) by decide, if_false, show (0 : Int) < 1 by decide, show (0 : Int) < 2 by decide, true_and] at h
    split at h
    · cases h
    · rename_i h1
      refine ⟨h0.2, fun h3 => ?_, ?_, ?_⟩
      · exact ⟨Decidable.byContradiction fun h4 => h1 (.inl ⟨h3, .inl h4⟩), Decidable.byContradiction fun h4 => h1 (.inl ⟨h3, .inr h4⟩)⟩
      · exact Decidable.byContradiction fun h4 => h1 (.inr (.inl h4))
      · exact Decidable.byContradiction fun h4 => h1 (.inr (.inr h4))
  · rw [hk] at h0; cases h0.1
  · rw [hk] at h0; cases h0.1
  · rw [hk] at h0; cases h0
theorem good_one {v : Int} {x : Pc} (h : Good v x) (hk : kids x.op = 1) : (7 ≤ x.op ∧ x.op ≤ 10) ∧ x.p = 0 ∧ x.q = 0 ∧ x.b = 0 := by
  rcases kids_cases x.op with h0 | h0 | h0 | h0
  · rw [hk] at h0; cases h0.1
  · rw [hk] at h0; cases h0.1
  · unfold Good pieceE at h
    rw [hk] at h
    simp only [show ¬ ((1 : Int) < 0) by decide, if_false, show ¬ (1 : Int) < 1 by decide, show (1 : Int) < 2 by decide, true_and, false_and, false_or] at h
    split at h
    · cases h
    · rename_i h1
      have h3 : x.op ≠ 3 := by omega
      exact ⟨h0.2, Decidable.byContradiction fun h4 => h1 (.inl ⟨h3, .inl h4⟩), Decidable.byContradiction fun h4 => h1 (.inl ⟨h3, .inr h4⟩), Decidable.byContradiction fun h4 => h1 (.inr h4)⟩
  · rw [hk] at h0; cases h0
theorem good_two {v : Int} {x : Pc} (h : Good v x) (hk : kids x.op = 2) : (4 ≤ x.op ∧ x.op ≤ 6) ∧ x.p = 0 ∧ x.q = 0 := by
  rcases kids_cases x.op with h0 | h0 | h0 | h0
  · rw [hk] at h0; cases h0.1
  · unfold Good pieceE at h
    rw [hk] at h
    simp only [show ¬ ((2 : Int) < 0) by decide, if_false, show ¬ (2 : Int) < 1 by decide, show ¬ (2 : Int) < 2 by decide, false_and, or_false] at h
    split at h
    · cases h
    · rename_i h1
      have h3 : x.op ≠ 3 := by omega
      exact ⟨h0.2, Decidable.byContradiction fun h4 => h1 ⟨h3, .inl h4⟩, Decidable.byContradiction fun h4 => h1 ⟨h3, .inr h4⟩⟩
  · rw [hk] at h0; cases h0.1
  · rw [hk] at h0; cases h0
theorem take_snoc {α : Type} {l : List α} {n : Nat} {x : α} (h : l[n]? = some x) : l.take (n + 1) = l.take n ++ [x] := by
  rw [List.take_add_one, h]; rfl
theorem pc_at {e : List Pc} {k : Nat} (hk : k < e.length) : e[k]? = some (pc e k) := by
  unfold pc
  rw [List.getD_eq_getElem?_getD, List.getElem?_eq_getElem hk]; rfl
theorem bl_one {e : List Pc} {s j : Nat} {t : Ex} {op : Nat} (h : Bl e s j t) (hj : j + 1 < e.length) (hx : pc e (j + 1) = ⟨op, 0, 0, (j : Int), 0⟩) : Bl e s (j + 1) (.one op t) := by
  obtain ⟨h1, h2⟩ := h
  refine ⟨by show s + (t.size + 1) = _; omega, ?_⟩
  show (e.drop s).take (t.size + 1) = flat t s ++ [⟨op, 0, 0, ((s + t.size : Nat) : Int) - 1, 0⟩]
  rw [take_snoc (x := pc e (j + 1)) (by rw [List.getElem?_drop, h1]; exact pc_at hj), h2, hx, h1]
  congr 2
  simp only [Pc.mk.injEq, true_and, and_true]
  omega
theorem bl_two {e : List Pc} {s f j : Nat} {t u : Ex} {op : Nat} (h : Bl e f j u) (h' : Bl e s (f - 1) t) (hf : 0 < f) (hj : j + 1 < e.length) (hx : pc e (j + 1) = ⟨op, 0, 0, (f : Int) - 1, (j : Int)⟩) : Bl e s (j + 1) (.two op t u) := by
  obtain ⟨h1, h2⟩ := h
  obtain ⟨h3, h4⟩ := h'
  have e1 : s + t.size = f := by omega
  refine ⟨by show s + (t.size + u.size + 1) = _; omega, ?_⟩
  show (e.drop s).take (t.size + u.size + 1) = flat t s ++ (flat u (s + t.size) ++ [⟨op, 0, 0, ((s + t.size : Nat) : Int) - 1, ((s + t.size + u.size : Nat) : Int) - 1⟩])
  have e2 : (e.drop s).take (t.size + u.size) = flat t s ++ flat u f := by
    rw [List.take_add, h4, List.drop_drop, e1, h2]
  rw [take_snoc (x := pc e (j + 1)) (by rw [List.getElem?_drop, show s + (t.size + u.size) = j + 1 by omega]; exact pc_at hj), e2, hx, e1, h1, List.append_assoc]
  congr 3
  simp only [Pc.mk.injEq, true_and]
  omega
/-- What holds of the first k pieces, where no error has been found. -/
structure ChkInv (v : Int) (e : List Pc) (k : Nat) (first : List Nat) : Prop where
  len : first.length = k
  good : ∀ j, j < k → Good v (pc e j)
  bl : ∀ j, j < k → ∃ t, t.Ok ∧ Bl e (first.getD j 0) j t
theorem getD_snoc {l : List Nat} {x j : Nat} (h : j < l.length) : (l ++ [x]).getD j 0 = l.getD j 0 := by
  rw [List.getD_eq_getElem?_getD, List.getD_eq_getElem?_getD, List.getElem?_append_left h]
theorem getD_last {l : List Nat} {x : Nat} : (l ++ [x]).getD l.length 0 = x := by
  rw [List.getD_eq_getElem?_getD, List.getElem?_append_right (Nat.le_refl _), Nat.sub_self]; rfl
theorem chk_inv {v : Int} {e : List Pc} : ∀ (k : Nat) (first : List Nat), k ≤ e.length → chkTo v e k = .ok first → ChkInv v e k first
  | 0, first, _, h => by
    cases h
    exact ⟨rfl, fun j hj => absurd hj (by omega), fun j hj => absurd hj (by omega)⟩
  | k + 1, first, hk, h => by
    unfold chkTo at h
    cases hc : chkTo v e k with
    | error f => rw [hc] at h; cases h
    | ok fs =>
      have ih := chk_inv k fs (by omega) hc
      rw [hc] at h
      simp only at h
      split at h
      · cases h
      · rename_i hg
        have hg : Good v (pc e k) := Decidable.byContradiction hg
        cases hb : beginE fs k (pc e k) with
        | none => rw [hb] at h; cases h
        | some b =>
          rw [hb] at h
          simp only [Except.ok.injEq] at h
          subst h
          have hl := ih.len
          refine ⟨by simp [hl], fun j hj => ?_, fun j hj => ?_⟩
          · rcases Nat.lt_or_eq_of_le (Nat.le_of_lt_succ hj) with h1 | rfl
            · exact ih.good j h1
            · exact hg
          · rcases Nat.lt_or_eq_of_le (Nat.le_of_lt_succ hj) with h1 | rfl
            · rw [getD_snoc (by omega)]; exact ih.bl j h1
            · rw [show (fs ++ [b]).getD j 0 = b by rw [← hl]; exact getD_last]
              have hx : pc e j = ⟨(pc e j).op, (pc e j).p, (pc e j).q, (pc e j).a, (pc e j).b⟩ := rfl
              unfold beginE at hb
              rcases kids_cases (pc e j).op with ⟨hk0, _⟩ | ⟨hk2, _⟩ | ⟨hk1, _⟩ | hk9
              · rw [hk0] at hb
                simp only [show ¬ ((0 : Int) = 1) by decide, show ¬ ((0 : Int) = 2) by decide, if_false, Option.some.injEq] at hb
                subst hb
                obtain ⟨g1, g2, g3, g4⟩ := good_leaf hg hk0
                refine ⟨.leaf (pc e j).op (pc e j).p (pc e j).q, ⟨g1, g2⟩, rfl, ?_⟩
                show (e.drop j).take 1 = [⟨(pc e j).op, (pc e j).p, (pc e j).q, 0, 0⟩]
                rw [take_snoc (n := 0) (x := pc e j) (by rw [List.getElem?_drop]; exact pc_at (by omega)), hx, g3, g4]
                rfl
              · rw [hk2] at hb
                simp only [show ¬ ((2 : Int) = 1) by decide, if_false, if_true] at hb
                split at hb
                · cases hb
                · rename_i hn
                  simp only [Option.some.injEq] at hb
                  have n1 : (pc e j).b = (j : Int) - 1 := Decidable.byContradiction fun h => hn (.inl h)
                  have n2 : j ≠ 0 := fun h => hn (.inr (.inl h))
                  have n3 : fs.getD (j - 1) 0 ≠ 0 := fun h => hn (.inr (.inr (.inl h)))
                  have n4 : (pc e j).a = (fs.getD (j - 1) 0 : Int) - 1 := Decidable.byContradiction fun h => hn (.inr (.inr (.inr h)))
                  obtain ⟨m, rfl⟩ : ∃ m, j = m + 1 := ⟨j - 1, by omega⟩
                  obtain ⟨g1, g2, g3⟩ := good_two hg hk2
                  rw [Nat.add_sub_cancel] at *
                  obtain ⟨u, hu, hbu⟩ := ih.bl m (by omega)
                  have hlt : fs.getD m 0 - 1 < m + 1 := by have := hbu.1; have := u.pos; omega
                  obtain ⟨t, ht, hbt⟩ := ih.bl (fs.getD m 0 - 1) hlt
                  subst hb
                  refine ⟨.two (pc e (m + 1)).op t u, ⟨g1, ht, hu⟩, bl_two hbu hbt (by omega) (by omega) ?_⟩
                  rw [hx, g2, g3, n1, n4]
                  simp
              · rw [hk1] at hb
                simp only [if_true] at hb
                split at hb
                · cases hb
                · rename_i hn
                  simp only [Option.some.injEq] at hb
                  have n1 : (pc e j).a = (j : Int) - 1 := Decidable.byContradiction fun h => hn (.inl h)
                  have n2 : j ≠ 0 := fun h => hn (.inr h)
                  obtain ⟨m, rfl⟩ : ∃ m, j = m + 1 := ⟨j - 1, by omega⟩
                  obtain ⟨g1, g2, g3, g4⟩ := good_one hg hk1
                  rw [Nat.add_sub_cancel] at *
                  obtain ⟨t, ht, hbt⟩ := ih.bl m (by omega)
                  subst hb
                  refine ⟨.one (pc e (m + 1)).op t, ⟨g1, ht⟩, bl_one hbt (by omega) ?_⟩
                  rw [hx, g2, g3, g4, n1]
                  simp
              · unfold Good pieceE at hg
                rw [hk9] at hg
                simp at hg
end Go.Proofs.Yteckkbjpeckjmaa.Rx
