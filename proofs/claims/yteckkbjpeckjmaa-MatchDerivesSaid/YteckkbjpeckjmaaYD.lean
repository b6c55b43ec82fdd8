/- A text of an expression is read back; a part of one is too short. Plain mathematics. -/
import Derived.Test.YteckkbjpeckjmaaYC
namespace Go.Proofs.Yteckkbjpeckjmaa.Rx
open Go Go.RowKit Go.Proofs.Yteckkbjpeckjmaa
set_option linter.unusedVariables false
/-- The reader of a cube goes through a text, without an end in sight. -/
def walk : Rd → List UInt8 → Option Rd
  | st, [] => some st
  | st, c :: r => if (c.toNat = 93 ∧ st.2.2.1 ≠ 0 ∧ st.2.2.2 = true) ∨ (c.toNat = 33 ∧ 6 ≤ st.2.2.1) then none else match rdStep st c.toNat with
    | none => none
    | some st' => walk st' r
theorem walk_cons (st : Rd) (c : UInt8) (r : List UInt8) : walk st (c :: r) = if (c.toNat = 93 ∧ st.2.2.1 ≠ 0 ∧ st.2.2.2 = true) ∨ (c.toNat = 33 ∧ 6 ≤ st.2.2.1) then none else match rdStep st c.toNat with
    | none => none
    | some st' => walk st' r := rfl
theorem walk_append : ∀ (s t : List UInt8) (st : Rd), walk st (s ++ t) = (walk st s).bind fun st' => walk st' t
  | [], t, st => rfl
  | c :: s, t, st => by
    show walk st (c :: (s ++ t)) = _
    rw [walk_cons, walk_cons]
    split
    · rfl
    · cases rdStep st c.toNat with
      | none => rfl
      | some st' => exact walk_append s t st'
theorem pcl_cons (st : Rd) (c : UInt8) (r : List UInt8) : pcl st (c :: r) = if c.toNat = 93 ∧ st.2.2.1 ≠ 0 ∧ st.2.2.2 = true then .ok ((st.1, st.2.1), r) else if c.toNat = 33 ∧ 6 ≤ st.2.2.1 then .error 2 else match rdStep st c.toNat with
      | none => .error 2
      | some st' => pcl st' r := rfl
theorem pcl_walk : ∀ (s l : List UInt8) (st st' : Rd), walk st s = some st' → pcl st (s ++ l) = pcl st' l
  | [], l, st, st', h => by cases h; rfl
  | c :: s, l, st, st', h => by
    unfold walk at h
    split at h
    · cases h
    · rename_i hn
      show pcl st (c :: (s ++ l)) = _
      rw [pcl_cons, if_neg fun h1 => hn (.inl h1), if_neg fun h1 => hn (.inr h1)]
      cases hr : rdStep st c.toNat with
      | none => rw [hr] at h; cases h
      | some st1 =>
        rw [hr] at h
        exact pcl_walk s l st1 st' h
def cubeOkB (p q : Nat) : Bool := !(p &&& q == 0) || ((p == 0 && q == 0) || match walk (0, 0, 0, true) (fmtT p q) with
  | none => false
  | some st => st.1 == p && (st.2.1 == q && (decide (st.2.2.1 ≠ 0) && st.2.2.2))) && ((p == 0 && q == 0) || !((fmtT p q).headD 0 == 42))
theorem allCube : ((List.range 64).all fun p => (List.range 64).all fun q => cubeOkB p q) = true := by decide +kernel
theorem cube_walk {p q : Nat} (hp : p < 64) (hq : q < 64) (h : p &&& q = 0) : (p = 0 ∧ q = 0) ∨ (∃ least, walk (0, 0, 0, true) (fmtT p q) = some (p, q, least, true) ∧ least ≠ 0 ∧ (fmtT p q).headD 0 ≠ 42) := by
  have h1 := List.all_eq_true.1 (List.all_eq_true.1 allCube p (List.mem_range.2 hp)) q (List.mem_range.2 hq)
  by_cases h0 : p = 0 ∧ q = 0
  · exact .inl h0
  · have hb : (p == 0 && q == 0) = false := by
      cases hb : (p == 0 && q == 0) with
      | false => rfl
      | true =>
        rw [Bool.and_eq_true, beq_iff_eq, beq_iff_eq] at hb
        exact absurd hb h0
    unfold cubeOkB at h1
    rw [hb, h] at h1
    simp only [BEq.rfl, Bool.not_true, Bool.false_or, Bool.and_eq_true] at h1
    obtain ⟨h2, h3⟩ := h1
    cases hw : walk (0, 0, 0, true) (fmtT p q) with
    | none => rw [hw] at h2; cases h2
    | some st =>
      rw [hw] at h2
      obtain ⟨a, b, least, value⟩ := st
      simp only [Bool.and_eq_true, beq_iff_eq, decide_eq_true_eq] at h2
      obtain ⟨rfl, rfl, h4, rfl⟩ := h2
      refine .inr ⟨least, rfl, h4, fun e => ?_⟩
      rw [e] at h3
      cases h3
theorem pcube_text {p q : Nat} (hp : p < 64) (hq : q < 64) (h : p &&& q = 0) (r : List UInt8) : pcube (fmtT p q ++ 93 :: r) = .ok ((p, q), r) := by
  rcases cube_walk hp hq h with ⟨rfl, rfl⟩ | ⟨least, h1, h2, h3⟩
  · rfl
  · cases hf : fmtT p q with
    | nil =>
      rw [hf] at h1
      simp only [walk, Option.some.injEq, Prod.mk.injEq] at h1
      exact absurd h1.2.2.1.symm h2
    | cons c s =>
      rw [hf] at h1 h3
      show pcube (c :: (s ++ 93 :: r)) = _
      rw [pcube_cons, if_neg]
      · have := pcl_walk (c :: s) (93 :: r) _ _ h1
        rw [List.cons_append] at this
        rw [this, pcl_cons, if_pos ⟨rfl, h2, rfl⟩]
      · intro e
        exact h3 (byte_of c 42 e)
theorem pcube_short {p q : Nat} (hp : p < 64) (hq : q < 64) (h : p &&& q = 0) {u r : List UInt8} {c : UInt8} (hu : fmtT p q ++ [93] = u ++ c :: r) : pcube u = .error 3 := by
  -- u is a part of the cube's text
  have hpre : ∃ s, fmtT p q = u ++ s := by
    have h1 : u.length ≤ (fmtT p q).length := by
      have := congrArg List.length hu
      simp at this
      omega
    have h2 := congrArg (List.take u.length) hu
    rw [List.take_append_of_le_length h1, List.take_append_of_le_length (Nat.le_refl _), List.take_length] at h2
    exact ⟨(fmtT p q).drop u.length, by conv => lhs; rw [← List.take_append_drop u.length (fmtT p q), h2]⟩
  obtain ⟨s, hs⟩ := hpre
  rcases cube_walk hp hq h with ⟨rfl, rfl⟩ | ⟨least, h1, h2, h3⟩
  · have e0 : fmtT 0 0 = [42] := by decide
    rw [e0] at hs
    cases u with
    | nil => rfl
    | cons d u =>
      simp only [List.cons_append, List.cons.injEq] at hs
      obtain ⟨rfl, hs⟩ := hs
      have : u = [] := (List.append_eq_nil_iff.1 hs.symm).1
      subst this
      rfl
  · rw [hs, walk_append] at h1
    cases hw : walk (0, 0, 0, true) u with
    | none => rw [hw] at h1; cases h1
    | some st =>
      cases u with
      | nil => rfl
      | cons d u =>
        rw [hs] at h3
        rw [pcube_cons, if_neg]
        · have := pcl_walk (d :: u) [] _ _ hw
          rw [List.append_nil] at this
          rw [this]; rfl
        · intro e
          exact h3 (byte_of d 42 e)
theorem txt_head : ∀ t : Ex, ∃ c l, txt t = c :: l ∧ preOp c.toNat = 0
  | .leaf op p q => by
    unfold txt
    split
    · exact ⟨_, _, rfl, rfl⟩
    · split
      · exact ⟨_, _, rfl, rfl⟩
      · exact ⟨_, _, rfl, rfl⟩
  | .one op a => by
    rw [txt_one]
    split
    · exact ⟨_, _, rfl, rfl⟩
    · exact ⟨_, _, rfl, rfl⟩
  | .two op a b => ⟨_, _, rfl, rfl⟩
theorem preOp_opB {op : Nat} (h : 7 ≤ op ∧ op ≤ 10) (h8 : op ≠ 8) : preOp (opB op).toNat = op := by
  have : op = 7 ∨ op = 9 ∨ op = 10 := by omega
  rcases this with rfl | rfl | rfl <;> rfl
theorem midOp_opB {op : Nat} (h : 4 ≤ op ∧ op ≤ 6) : midOp (opB op).toNat = op ∧ (opB op).toNat ≠ 42 := by
  have : op = 4 ∨ op = 5 ∨ op = 6 := by omega
  rcases this with rfl | rfl | rfl <;> exact ⟨rfl, by decide⟩
theorem pex_zero (f : Nat) (r : List UInt8) : pex (f + 1) (48 :: r) = .ok (.leaf 1 0 0, r) := rfl
theorem pex_one (f : Nat) (r : List UInt8) : pex (f + 1) (49 :: r) = .ok (.leaf 2 0 0, r) := rfl
theorem pex_cube (f : Nat) (r : List UInt8) : pex (f + 1) (91 :: r) = match pcube r with | .error e => .error e | .ok (pq, r') => .ok (.leaf 3 pq.1 pq.2, r') := rfl
theorem pex_open (f : Nat) (d : UInt8) (r1 : List UInt8) : pex (f + 1) (40 :: d :: r1) =
    if preOp d.toNat ≠ 0 then
      (match pex f r1 with
      | .error e => .error e
      | .ok (a, r2) => match eat 41 r2 with
        | .error e => .error e
        | .ok r3 => .ok (.one (preOp d.toNat) a, r3))
    else
      (match pex f (d :: r1) with
      | .error e => .error e
      | .ok (_, []) => .error 3
      | .ok (a, d2 :: r3) =>
        if d2.toNat = 42 then (match eat 41 r3 with | .error e => .error e | .ok r4 => .ok (.one 8 a, r4))
        else if midOp d2.toNat ≠ 0 then
          (match pex f r3 with
          | .error e => .error e
          | .ok (b, r4) => match eat 41 r4 with
            | .error e => .error e
            | .ok r5 => .ok (.two (midOp d2.toNat) a b, r5))
        else .error 2) := rfl
/-- A text of an expression is read back, whatever comes behind it. -/
theorem pex_text : ∀ (t : Ex) (f : Nat) (r : List UInt8), t.Ok → t.Six → t.size ≤ f → pex f (txt t ++ r) = .ok (t, r)
  | t, 0, r, _, _, hf => by have := t.pos; omega
  | .leaf op p q, f + 1, r, ho, h6, _ => by
    obtain ⟨h1, h2⟩ := ho
    have : op = 1 ∨ op = 2 ∨ op = 3 := by omega
    rcases this with rfl | rfl | rfl
    · obtain ⟨rfl, rfl⟩ := h2 (by decide)
      exact pex_zero f r
    · obtain ⟨rfl, rfl⟩ := h2 (by decide)
      exact pex_one f r
    · obtain ⟨a, b, d⟩ := h6 rfl
      show pex (f + 1) (91 :: ((fmtT p q ++ [93]) ++ r)) = _
      rw [pex_cube, List.append_assoc, List.singleton_append, pcube_text a b d]
  | .one op a, f + 1, r, ho, h6, hf => by
    have hs : a.size ≤ f := by have : a.size + 1 ≤ f + 1 := hf; omega
    rw [txt_one]
    by_cases h8 : op = 8
    · subst h8
      rw [if_pos rfl]
      obtain ⟨c, l, hc, hp⟩ := txt_head a
      have ih := pex_text a f (42 :: 41 :: r) ho.2 h6 hs
      rw [hc] at ih ⊢
      simp only [List.cons_append, List.append_assoc, List.nil_append] at ih ⊢
      rw [pex_open, if_neg (by rw [hp]; simp), ih]
      rfl
    · rw [if_neg h8]
      have ih := pex_text a f (41 :: r) ho.2 h6 hs
      simp only [List.cons_append, List.append_assoc, List.nil_append]
      rw [pex_open, preOp_opB ho.1 h8, if_pos (by have := ho.1; omega), ih]
      rfl
  | .two op a b, f + 1, r, ho, h6, hf => by
    have hs : a.size ≤ f ∧ b.size ≤ f := by
      have : a.size + b.size + 1 ≤ f + 1 := hf
      omega
    rw [txt_two]
    obtain ⟨c, l, hc, hp⟩ := txt_head a
    have ia := pex_text a f (opB op :: (txt b ++ 41 :: r)) ho.2.1 h6.1 hs.1
    have ib := pex_text b f (41 :: r) ho.2.2 h6.2 hs.2
    obtain ⟨m1, m2⟩ := midOp_opB ho.1
    rw [hc] at ia ⊢
    simp only [List.cons_append, List.append_assoc, List.nil_append] at ia ⊢
    rw [pex_open, if_neg (by rw [hp]; simp), ia]
    simp only
    rw [if_neg m2, m1, if_pos (by have := ho.1; omega), ib]
    rfl
/-- Where a text that is split ends: within the first part, or behind it. -/
theorem split_at {x y u r : List UInt8} {c : UInt8} (h : x ++ y = u ++ c :: r) : (∃ c' r', x = u ++ c' :: r') ∨ ∃ u', u = x ++ u' ∧ y = u' ++ c :: r := by
  rcases List.append_eq_append_iff.1 h with ⟨a, h1, h2⟩ | ⟨a, h1, h2⟩
  · exact .inr ⟨a, h1, h2⟩
  · cases a with
    | nil =>
      rw [List.append_nil] at h1
      exact .inr ⟨[], by rw [h1, List.append_nil], by simpa using h2.symm⟩
    | cons d a => exact .inl ⟨d, a, h1⟩
/-- A proper part of a text is too short. -/
theorem pex_short : ∀ (t : Ex) (f : Nat) (u r : List UInt8) (c : UInt8), t.Ok → t.Six → t.size ≤ f → txt t = u ++ c :: r → pex f u = .error 3
  | t, 0, u, r, c, _, _, hf, _ => by have := t.pos; omega
  | t, f + 1, [], r, c, _, _, _, _ => rfl
  | .leaf op p q, f + 1, d :: u, r, c, ho, h6, _, h => by
    obtain ⟨h1, h2⟩ := ho
    have : op = 1 ∨ op = 2 ∨ op = 3 := by omega
    rcases this with rfl | rfl | rfl
    · simp [txt] at h
    · simp [txt] at h
    · obtain ⟨a, b, d'⟩ := h6 rfl
      have h' : 91 :: (fmtT p q ++ [93]) = d :: (u ++ c :: r) := h
      simp only [List.cons.injEq] at h'
      obtain ⟨rfl, h'⟩ := h'
      rw [pex_cube, pcube_short a b d' h']
  | .one op a, f + 1, d :: u, r, c, ho, h6, hf, h => by
    have hs : a.size ≤ f := by have : a.size + 1 ≤ f + 1 := hf; omega
    rw [txt_one] at h
    by_cases h8 : op = 8
    · subst h8
      rw [if_pos rfl] at h
      simp only [List.cons_append, List.cons.injEq] at h
      obtain ⟨rfl, h⟩ := h
      cases u with
      | nil => rfl
      | cons d1 u =>
        obtain ⟨c0, l0, hc0, hp0⟩ := txt_head a
        have hd1 : preOp d1.toNat = 0 := by
          rw [hc0] at h
          simp only [List.cons_append, List.cons.injEq] at h
          rw [← h.1]; exact hp0
        rw [pex_open, if_neg (by rw [hd1]; simp)]
        rcases split_at h with ⟨c', r', hx⟩ | ⟨u', hx, hy⟩
        · rw [pex_short a f (d1 :: u) r' c' ho.2 h6 hs hx]
        · rw [hx, pex_text a f u' ho.2 h6 hs]
          cases u' with
          | nil => rfl
          | cons d2 u' =>
            simp only [List.cons_append, List.cons.injEq] at hy
            obtain ⟨rfl, hy⟩ := hy
            cases u' with
            | nil => rfl
            | cons d3 u' =>
              simp at hy
    · rw [if_neg h8] at h
      simp only [List.cons_append, List.cons.injEq] at h
      obtain ⟨rfl, h⟩ := h
      cases u with
      | nil => rfl
      | cons d1 u =>
        simp only [List.cons_append, List.cons.injEq] at h
        obtain ⟨rfl, h⟩ := h
        rw [pex_open, preOp_opB ho.1 h8, if_pos (by have := ho.1; omega)]
        rcases split_at h with ⟨c', r', hx⟩ | ⟨u', hx, hy⟩
        · rw [pex_short a f u r' c' ho.2 h6 hs hx]
        · rw [hx, pex_text a f u' ho.2 h6 hs]
          cases u' with
          | nil => rfl
          | cons d2 u' => simp at hy
  | .two op a b, f + 1, d :: u, r, c, ho, h6, hf, h => by
    have hs : a.size ≤ f ∧ b.size ≤ f := by
      have : a.size + b.size + 1 ≤ f + 1 := hf
      omega
    rw [txt_two] at h
    simp only [List.cons_append, List.cons.injEq] at h
    obtain ⟨rfl, h⟩ := h
    cases u with
    | nil => rfl
    | cons d1 u =>
      obtain ⟨c0, l0, hc0, hp0⟩ := txt_head a
      have hd1 : preOp d1.toNat = 0 := by
        rw [hc0] at h
        simp only [List.cons_append, List.cons.injEq] at h
        rw [← h.1]; exact hp0
      rw [pex_open, if_neg (by rw [hd1]; simp)]
      rcases split_at h with ⟨c', r', hx⟩ | ⟨u', hx, hy⟩
      · rw [pex_short a f (d1 :: u) r' c' ho.2.1 h6.1 hs.1 hx]
      · rw [hx, pex_text a f u' ho.2.1 h6.1 hs.1]
        cases u' with
        | nil => rfl
        | cons d2 u' =>
          simp only [List.cons_append, List.cons.injEq] at hy
          obtain ⟨rfl, hy⟩ := hy
          obtain ⟨m1, m2⟩ := midOp_opB ho.1
          simp only
          rw [if_neg m2, m1, if_pos (by have := ho.1; omega)]
          rcases split_at hy with ⟨c', r', hx'⟩ | ⟨u2, hx', hy'⟩
          · rw [pex_short b f u' r' c' ho.2.2 h6.2 hs.2 hx']
          · rw [hx', pex_text b f u2 ho.2.2 h6.2 hs.2]
            cases u2 with
            | nil => rfl
            | cons d3 u2 => simp at hy'
end Go.Proofs.Yteckkbjpeckjmaa.Rx
