/- What Check says of a list of pieces, as a statement on expressions. Plain mathematics. -/
import Derived.Test.YteckkbjpeckjmaaYA
namespace Go.Proofs.Yteckkbjpeckjmaa.Rx
open Go Go.RowKit Go.Proofs.Yteckkbjpeckjmaa
set_option linter.unusedVariables false
theorem kids_leaf {op : Nat} (h : 1 ≤ op ∧ op ≤ 3) : kids op = 0 := by unfold kids; rw [if_pos h]
theorem kids_two {op : Nat} (h : 4 ≤ op ∧ op ≤ 6) : kids op = 2 := by unfold kids; rw [if_neg (by omega), if_pos h]
theorem kids_one {op : Nat} (h : 7 ≤ op ∧ op ≤ 10) : kids op = 1 := by unfold kids; rw [if_neg (by omega), if_neg (by omega), if_pos h]
theorem snoc_inj {α : Type} {l m : List α} {x y : α} (h : l ++ [x] = m ++ [y]) : l = m ∧ x = y := by
  have h1 := List.append_inj' h rfl
  exact ⟨h1.1, by simpa using h1.2⟩
theorem flat_inj : ∀ (t u : Ex) (k : Nat), t.Ok → u.Ok → flat t k = flat u k → t = u
  | .leaf op p q, .leaf op' p' q', k, _, _, h => by
    simp only [flat, List.cons.injEq, Pc.mk.injEq, and_true] at h
    obtain ⟨h1, h2, h3⟩ := h
    rw [h1, h2, h3]
  | .leaf op p q, .one op' a, k, h1, h2, h => by
    have := congrArg List.length h
    rw [flat_len, flat_len] at this
    have := a.pos
    simp [Ex.size] at *
    omega
  | .leaf op p q, .two op' a b, k, h1, h2, h => by
    have := congrArg List.length h
    rw [flat_len, flat_len] at this
    have := a.pos
    simp [Ex.size] at *
    omega
  | .one op' a, .leaf op p q, k, h1, h2, h => by
    have := congrArg List.length h
    rw [flat_len, flat_len] at this
    have := a.pos
    simp [Ex.size] at *
    omega
  | .two op' a b, .leaf op p q, k, h1, h2, h => by
    have := congrArg List.length h
    rw [flat_len, flat_len] at this
    have := a.pos
    simp [Ex.size] at *
    omega
  | .one op a, .one op' a', k, h1, h2, h => by
    obtain ⟨e1, e2⟩ := snoc_inj h
    simp only [Pc.mk.injEq] at e2
    rw [e2.1, flat_inj a a' k h1.2 h2.2 e1]
  | .one op a, .two op' a' b', k, h1, h2, h => by
    rw [flat, flat, ← List.append_assoc] at h
    obtain ⟨e1, e2⟩ := snoc_inj h
    simp only [Pc.mk.injEq] at e2
    have := h1.1
    have := h2.1
    omega
  | .two op' a' b', .one op a, k, h1, h2, h => by
    rw [flat, flat, ← List.append_assoc] at h
    obtain ⟨e1, e2⟩ := snoc_inj h
    simp only [Pc.mk.injEq] at e2
    have := h1.1
    have := h2.1
    omega
  | .two op a b, .two op' a' b', k, h1, h2, h => by
    rw [flat, flat, ← List.append_assoc, ← List.append_assoc] at h
    obtain ⟨e1, e2⟩ := snoc_inj h
    simp only [Pc.mk.injEq] at e2
    have hs : a.size = a'.size := by omega
    obtain ⟨e3, e4⟩ := List.append_inj e1 (by rw [flat_len, flat_len, hs])
    rw [hs] at e4
    rw [e2.1, flat_inj a a' k h1.2.1 h2.2.1 e3, flat_inj b b' _ h1.2.2 h2.2.2 e4]
/-- The cubes of the letters are valid. -/
def Ex.Cubes (v : Int) : Ex → Prop
  | .leaf op p q => op = 3 → chk p q v = 0
  | .one _ a => a.Cubes v
  | .two _ a b => a.Cubes v ∧ b.Cubes v
/-- A look-around stands where it must not. -/
def badT : Ex → Bool → Bool
  | .leaf _ _ _, _ => false
  | .one op a, free => ((op == 9 || op == 10) && !free) || badT a false
  | .two op a b, free => badT a (free && (op == 4 || op == 5)) || badT b (free && (op == 4 || op == 5))
/-- Where the blocks begin. -/
def firsts : Ex → Nat → List Nat
  | .leaf _ _ _, s => [s]
  | .one _ a, s => firsts a s ++ [s]
  | .two _ a b, s => firsts a s ++ (firsts b (s + a.size) ++ [s])
theorem firsts_len : ∀ (t : Ex) (s : Nat), (firsts t s).length = t.size
  | .leaf _ _ _, s => rfl
  | .one _ a, s => by simp [firsts, Ex.size, firsts_len a]
  | .two _ a b, s => by simp [firsts, Ex.size, firsts_len a, firsts_len b]; omega
theorem firsts_last : ∀ (t : Ex) (s : Nat), (firsts t s).getD (t.size - 1) 0 = s
  | .leaf _ _ _, s => rfl
  | .one _ a, s => by
    show (firsts a s ++ [s]).getD (a.size + 1 - 1) 0 = s
    rw [Nat.add_sub_cancel, ← firsts_len a s, getD_last]
  | .two _ a b, s => by
    show (firsts a s ++ (firsts b (s + a.size) ++ [s])).getD (a.size + b.size + 1 - 1) 0 = s
    rw [Nat.add_sub_cancel, ← List.append_assoc, show a.size + b.size = (firsts a s ++ firsts b (s + a.size)).length by rw [List.length_append, firsts_len, firsts_len], getD_last]
theorem getD_append_right {l m : List Nat} {j : Nat} (h : l.length ≤ j) : (l ++ m).getD j 0 = m.getD (j - l.length) 0 := by
  rw [List.getD_eq_getElem?_getD, List.getD_eq_getElem?_getD, List.getElem?_append_right h]
theorem getD_append_left {l m : List Nat} {j : Nat} (h : j < l.length) : (l ++ m).getD j 0 = l.getD j 0 := by
  rw [List.getD_eq_getElem?_getD, List.getD_eq_getElem?_getD, List.getElem?_append_left h]
theorem drop_split {e : List Pc} {s n m : Nat} {l1 l2 : List Pc} (h : (e.drop s).take (n + m) = l1 ++ l2) (h1 : l1.length = n) (h2 : l2.length = m) : (e.drop s).take n = l1 ∧ (e.drop (s + n)).take m = l2 := by
  have h3 := congrArg List.length h
  rw [List.take_add] at h
  rw [List.length_append, h1, h2, List.length_take] at h3
  obtain ⟨a, b⟩ := List.append_inj h (by rw [List.length_take, h1]; omega)
  rw [List.drop_drop] at b
  exact ⟨a, b⟩
theorem pc_of_drop {e : List Pc} {s n : Nat} {l : List Pc} {x : Pc} (h : (e.drop s).take (n + 1) = l ++ [x]) (hl : l.length = n) : pc e (s + n) = x ∧ (e.drop s).take n = l := by
  obtain ⟨h1, h2⟩ := drop_split h hl rfl
  refine ⟨?_, h1⟩
  have h3 : ((e.drop (s + n)).take 1)[0]? = some x := by rw [h2]; rfl
  rw [List.getElem?_take, if_pos (by decide), List.getElem?_drop, Nat.add_zero] at h3
  unfold pc
  rw [List.getD_eq_getElem?_getD, h3]; rfl
theorem chk_succ {v : Int} {e : List Pc} {k b : Nat} {first : List Nat} (h : chkTo v e k = .ok first) (hg : Good v (pc e k)) (hb : beginE first k (pc e k) = some b) : chkTo v e (k + 1) = .ok (first ++ [b]) := by
  unfold chkTo
  rw [h]
  simp only
  rw [if_neg (fun hn => hn hg), hb]
/-- Check goes through a block. -/
theorem chk_block {v : Int} {e : List Pc} : ∀ (t : Ex) (s : Nat) (first : List Nat), t.Ok → t.Cubes v → first.length = s → chkTo v e s = .ok first → (e.drop s).take t.size = flat t s → chkTo v e (s + t.size) = .ok (first ++ firsts t s)
  | .leaf op p q, s, first, ho, hc, hl, h, hf => by
    obtain ⟨hx, _⟩ := pc_of_drop (n := 0) (l := []) hf rfl
    rw [Nat.add_zero] at hx
    refine chk_succ h ?_ ?_
    · unfold Good pieceE
      rw [hx]
      simp only [kids_leaf ho.1, show ¬ ((0 : Int) < 0) by decide, if_false]
      rw [if_neg]
      · split
        · exact hc (by assumption)
        · rfl
      · rintro (⟨h1, h2⟩ | ⟨_, h2⟩ | ⟨_, h2⟩)
        · obtain ⟨e1, e2⟩ := ho.2 h1
          rcases h2 with h2 | h2
          · exact h2 e1
          · exact h2 e2
        · exact h2 rfl
        · exact h2 rfl
    · unfold beginE
      rw [hx]
      simp only [kids_leaf ho.1, show ¬ ((0 : Int) = 1) by decide, show ¬ ((0 : Int) = 2) by decide, if_false]
  | .one op a, s, first, ho, hc, hl, h, hf => by
    obtain ⟨hx, hf'⟩ := pc_of_drop (n := a.size) (l := flat a s) hf (flat_len a s)
    have ih := chk_block a s first ho.2 hc hl h hf'
    have hp := a.pos
    show chkTo v e (s + a.size + 1) = .ok (first ++ (firsts a s ++ [s]))
    rw [← List.append_assoc]
    refine chk_succ ih ?_ ?_
    · unfold Good pieceE
      rw [hx]
      have hop : op ≠ 3 := by have := ho.1; omega
      simp [kids_one ho.1, hop]
    · unfold beginE
      rw [hx]
      simp only [kids_one ho.1, if_true]
      rw [if_neg (by omega), getD_append_right (by omega), hl, show s + a.size - 1 - s = a.size - 1 by omega, firsts_last]
  | .two op a b, s, first, ho, hc, hl, h, hf => by
    have hf0 : (e.drop s).take (a.size + b.size + 1) = (flat a s ++ flat b (s + a.size)) ++ [⟨op, 0, 0, ((s + a.size : Nat) : Int) - 1, ((s + a.size + b.size : Nat) : Int) - 1⟩] := by
      rw [List.append_assoc]; exact hf
    obtain ⟨hx, hf'⟩ := pc_of_drop (n := a.size + b.size) (l := flat a s ++ flat b (s + a.size)) hf0 (by rw [List.length_append, flat_len, flat_len])
    obtain ⟨ha, hb⟩ := drop_split hf' (flat_len a s) (flat_len b _)
    have hpa := a.pos
    have hpb := b.pos
    have ia := chk_block a s first ho.2.1 hc.1 hl h ha
    have ib := chk_block b (s + a.size) _ ho.2.2 hc.2 (by rw [List.length_append, firsts_len, hl]) ia hb
    have hl2 : (first ++ firsts a s).length = s + a.size := by rw [List.length_append, firsts_len, hl]
    show chkTo v e (s + (a.size + b.size) + 1) = .ok (first ++ (firsts a s ++ (firsts b (s + a.size) ++ [s])))
    rw [← List.append_assoc, ← List.append_assoc, ← Nat.add_assoc]
    rw [← Nat.add_assoc] at hx
    have hd1 : (first ++ firsts a s ++ firsts b (s + a.size)).getD (s + a.size + b.size - 1) 0 = s + a.size := by
      rw [getD_append_right (by omega), hl2, show s + a.size + b.size - 1 - (s + a.size) = b.size - 1 by omega, firsts_last]
    have hd2 : (first ++ firsts a s ++ firsts b (s + a.size)).getD (s + a.size - 1) 0 = s := by
      rw [getD_append_left (by omega), getD_append_right (by omega), hl, show s + a.size - 1 - s = a.size - 1 by omega, firsts_last]
    refine chk_succ ib ?_ ?_
    · unfold Good pieceE
      rw [hx]
      have hop : op ≠ 3 := by have := ho.1; omega
      simp [kids_two ho.1, hop]
    · unfold beginE
      rw [hx]
      simp only [kids_two ho.1, show ¬ ((2 : Int) = 1) by decide, if_false, if_true]
      rw [hd1, if_neg (by omega), hd2]
open Classical in
/-- The expression of a list of pieces. -/
noncomputable def treeOf (e : List Pc) : Ex := if h : ∃ t : Ex, t.Ok ∧ e = flat t 0 then Classical.choose h else .leaf 1 0 0
theorem treeOf_flat {t : Ex} (ht : t.Ok) : treeOf (flat t 0) = t := by
  have h : ∃ u : Ex, u.Ok ∧ flat t 0 = flat u 0 := ⟨t, ht, rfl⟩
  unfold treeOf
  rw [dif_pos h]
  obtain ⟨h1, h2⟩ := Classical.choose_spec h
  exact (flat_inj _ _ 0 ht h1 h2).symm
/-- What Check answers. -/
noncomputable def chkL (v : Int) (e : List Pc) : Int :=
  if v < 0 ∨ 6 < v then 7 else if e.length = 0 then 3 else if 64 < e.length then 4 else
  match chkTo v e e.length with
  | .error f => f
  | .ok first => if first.getD (e.length - 1) 0 ≠ 0 then 2 else if badT (treeOf e) true then 2 else 0
/-- A valid expression. -/
structure Ex.Valid (v : Int) (t : Ex) : Prop where
  v0 : 0 ≤ v
  v6 : v ≤ 6
  ok : t.Ok
  size : t.size ≤ 64
  cubes : t.Cubes v
  look : badT t true = false
theorem cubes_of_good {v : Int} {e : List Pc} : ∀ (t : Ex) (s j : Nat), t.Ok → Bl e s j t → (∀ i, s ≤ i → i ≤ j → Good v (pc e i)) → t.Cubes v
  | .leaf op p q, s, j, ho, h, hg => fun h3 => by
    obtain ⟨hx, _⟩ := pc_of_drop (n := 0) (l := []) h.2 rfl
    rw [Nat.add_zero] at hx
    have h1 := h.1
    have h2 : 1 = 1 := rfl
    have hgs := hg s (Nat.le_refl _) (by simp [Ex.size] at h1; omega)
    unfold Good pieceE at hgs
    rw [hx] at hgs
    subst h3
    simp [kids_leaf ho.1] at hgs
    exact hgs
  | .one op a, s, j, ho, h, hg => by
    obtain ⟨hx, hf⟩ := pc_of_drop (n := a.size) (l := flat a s) h.2 (flat_len a s)
    have h1 := h.1
    have := a.pos
    simp [Ex.size] at h1
    exact cubes_of_good (v := v) (e := e) a s (j - 1) ho.2 ⟨by omega, hf⟩ fun i h2 h3 => hg i h2 (by omega)
  | .two op a b, s, j, ho, h, hg => by
    have hf0 : (e.drop s).take (a.size + b.size + 1) = (flat a s ++ flat b (s + a.size)) ++ [⟨op, 0, 0, ((s + a.size : Nat) : Int) - 1, ((s + a.size + b.size : Nat) : Int) - 1⟩] := by
      rw [List.append_assoc]; exact h.2
    obtain ⟨hx, hf'⟩ := pc_of_drop (n := a.size + b.size) (l := flat a s ++ flat b (s + a.size)) hf0 (by rw [List.length_append, flat_len, flat_len])
    obtain ⟨ha, hb⟩ := drop_split hf' (flat_len a s) (flat_len b _)
    have h1 := h.1
    have := a.pos
    have := b.pos
    simp [Ex.size] at h1
    exact ⟨cubes_of_good (v := v) (e := e) a s (s + a.size - 1) ho.2.1 ⟨by omega, ha⟩ fun i h2 h3 => hg i h2 (by omega), cubes_of_good (v := v) (e := e) b (s + a.size) (j - 1) ho.2.2 ⟨by omega, hb⟩ fun i h2 h3 => hg i (by omega) (by omega)⟩
/-- No error has been found in the pieces, and the last block begins at 0: the list is an expression. -/
theorem chk_tree {v : Int} {e : List Pc} {first : List Nat} (hn : e.length ≠ 0) (h : chkTo v e e.length = .ok first) (h0 : first.getD (e.length - 1) 0 = 0) : ∃ t : Ex, t.Ok ∧ t.Cubes v ∧ e = flat t 0 := by
  have hi := chk_inv e.length first (Nat.le_refl _) h
  obtain ⟨t, ht, hb⟩ := hi.bl (e.length - 1) (by omega)
  rw [h0] at hb
  have h1 := hb.1
  have h2 := hb.2
  have hs : t.size = e.length := by omega
  rw [List.drop_zero, hs, List.take_length] at h2
  exact ⟨t, ht, cubes_of_good t 0 (e.length - 1) ht hb fun i _ hi' => hi.good i (by omega), h2⟩
theorem chkL_ok {v : Int} {e : List Pc} (h : chkL v e = 0) : ∃ t : Ex, t.Valid v ∧ e = flat t 0 := by
  unfold chkL at h
  by_cases hv : v < 0 ∨ 6 < v
  · rw [if_pos hv] at h; cases h
  rw [if_neg hv] at h
  by_cases h0 : e.length = 0
  · rw [if_pos h0] at h; cases h
  rw [if_neg h0] at h
  by_cases h64 : 64 < e.length
  · rw [if_pos h64] at h; cases h
  rw [if_neg h64] at h
  cases hc : chkTo v e e.length with
  | error f =>
    rw [hc] at h
    exfalso
    have hne : ∀ (k : Nat) (f : Int), chkTo v e k = .error f → f ≠ 0 := by
      intro k
      induction k with
      | zero => intro f hf; cases hf
      | succ k ih =>
        intro f hf
        unfold chkTo at hf
        cases hk : chkTo v e k with
        | error g =>
          rw [hk] at hf
          simp only [Except.error.injEq] at hf
          rw [← hf]; exact ih g hk
        | ok fs =>
          rw [hk] at hf
          simp only at hf
          split at hf
          · rename_i hp
            simp only [Except.error.injEq] at hf
            rw [← hf]; exact hp
          · split at hf
            · simp only [Except.error.injEq] at hf
              rw [← hf]; decide
            · cases hf
    exact hne _ _ hc h
  | ok first =>
    rw [hc] at h
    simp only at h
    by_cases hf : first.getD (e.length - 1) 0 ≠ 0
    · rw [if_pos hf] at h; cases h
    · rw [if_neg hf] at h
      have hf := Decidable.byContradiction hf
      obtain ⟨t, h1, h2, h3⟩ := chk_tree h0 hc hf
      cases hb : badT (treeOf e) true with
      | true => rw [hb] at h; cases h
      | false =>
        refine ⟨t, ⟨by omega, by omega, h1, ?_, h2, ?_⟩, h3⟩
        · rw [← flat_len t 0, ← h3]; omega
        · rw [h3, treeOf_flat h1] at hb; exact hb
theorem chkL_valid {v : Int} {t : Ex} (h : t.Valid v) : chkL v (flat t 0) = 0 := by
  have hp := t.pos
  have hs := h.size
  have hc := chk_block (e := flat t 0) t 0 [] h.ok h.cubes rfl rfl (by rw [List.drop_zero, ← flat_len t 0, List.take_length])
  rw [Nat.zero_add, List.nil_append] at hc
  unfold chkL
  rw [flat_len, if_neg (by have := h.v0; have := h.v6; omega), if_neg (by omega), if_neg (by omega), hc]
  simp only
  rw [firsts_last, if_neg (by simp), treeOf_flat h.ok, h.look]
  rfl
end Go.Proofs.Yteckkbjpeckjmaa.Rx
