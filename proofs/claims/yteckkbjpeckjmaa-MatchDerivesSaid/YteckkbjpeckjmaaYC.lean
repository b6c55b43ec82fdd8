/- The texts of expressions, and what a reader makes of a text. Plain mathematics. -/
import Derived.Test.YteckkbjpeckjmaaYB
import Derived.Test.YteckkbjpeckjmaaCP
namespace Go.Proofs.Yteckkbjpeckjmaa.Rx
open Go Go.RowKit Go.Proofs.Yteckkbjpeckjmaa
set_option linter.unusedVariables false
def opB (op : Nat) : UInt8 := if op = 4 then 46 else if op = 5 then 124 else if op = 6 then 38 else if op = 7 then 126 else if op = 8 then 42 else if op = 9 then 62 else 60
/-- The text of an expression. -/
def txt : Ex → List UInt8
  | .leaf op p q => if op = 1 then [48] else if op = 2 then [49] else 91 :: (fmtT p q ++ [93])
  | .one op a => if op = 8 then 40 :: (txt a ++ [42, 41]) else 40 :: opB op :: (txt a ++ [41])
  | .two op a b => 40 :: (txt a ++ opB op :: (txt b ++ [41]))
theorem txt_one (op : Nat) (a : Ex) : txt (.one op a) = if op = 8 then 40 :: (txt a ++ [42, 41]) else 40 :: opB op :: (txt a ++ [41]) := rfl
theorem txt_two (op : Nat) (a b : Ex) : txt (.two op a b) = 40 :: (txt a ++ opB op :: (txt b ++ [41])) := rfl
/-- A cube behind its opening bracket. -/
def pcl : Rd → List UInt8 → Except Int ((Nat × Nat) × List UInt8)
  | _, [] => .error 3
  | st, c :: r =>
    if c.toNat = 93 ∧ st.2.2.1 ≠ 0 ∧ st.2.2.2 = true then .ok ((st.1, st.2.1), r)
    else if c.toNat = 33 ∧ 6 ≤ st.2.2.1 then .error 2
    else match rdStep st c.toNat with
      | none => .error 2
      | some st' => pcl st' r
def eat (b : Nat) : List UInt8 → Except Int (List UInt8)
  | [] => .error 3
  | c :: r => if c.toNat = b then .ok r else .error 2
def pcube : List UInt8 → Except Int ((Nat × Nat) × List UInt8)
  | [] => .error 3
  | c :: r => if c.toNat = 42 then (match eat 93 r with | .error e => .error e | .ok r' => .ok ((0, 0), r')) else pcl (0, 0, 0, true) (c :: r)
def preOp (d : Nat) : Nat := if d = 126 then 7 else if d = 62 then 9 else if d = 60 then 10 else 0
def midOp (d : Nat) : Nat := if d = 46 then 4 else if d = 124 then 5 else if d = 38 then 6 else 0
/-- An expression at the beginning of a text. -/
def pex : Nat → List UInt8 → Except Int (Ex × List UInt8)
  | 0, _ => .error 3
  | _ + 1, [] => .error 3
  | f + 1, c :: r =>
    if c.toNat = 48 then .ok (.leaf 1 0 0, r)
    else if c.toNat = 49 then .ok (.leaf 2 0 0, r)
    else if c.toNat = 91 then (match pcube r with | .error e => .error e | .ok (pq, r') => .ok (.leaf 3 pq.1 pq.2, r'))
    else if c.toNat = 40 then
      (match r with
      | [] => .error 3
      | d :: r1 =>
        if preOp d.toNat ≠ 0 then
          (match pex f r1 with
          | .error e => .error e
          | .ok (a, r2) => match eat 41 r2 with
            | .error e => .error e
            | .ok r3 => .ok (.one (preOp d.toNat) a, r3))
        else
          (match pex f (d :: r1) with
          | .error e => .error e
          | .ok (_, []) => .error 3
          | .ok (a, d2 :: r3) =>
            if d2.toNat = 42 then (match eat 41 r3 with | .error e => .error e | .ok r4 => .ok (.one 8 a, r4))
            else if midOp d2.toNat ≠ 0 then
              (match pex f r3 with
              | .error e => .error e
              | .ok (b, r4) => match eat 41 r4 with
                | .error e => .error e
                | .ok r5 => .ok (.two (midOp d2.toNat) a b, r5))
            else .error 2))
    else .error 2
/-- The letters' cubes are ones over six variables. -/
def Ex.Six : Ex → Prop
  | .leaf op p q => op = 3 → p < 64 ∧ q < 64 ∧ p &&& q = 0
  | .one _ a => a.Six
  | .two _ a b => a.Six ∧ b.Six
theorem eat_cons (b : Nat) (c : UInt8) (r : List UInt8) : eat b (c :: r) = if c.toNat = b then .ok r else .error 2 := rfl
theorem pcube_cons (c : UInt8) (r : List UInt8) : pcube (c :: r) = if c.toNat = 42 then (match eat 93 r with | .error e => .error e | .ok r' => .ok ((0, 0), r')) else pcl (0, 0, 0, true) (c :: r) := rfl
theorem eat_ok {b : Nat} {l r : List UInt8} (h : eat b l = .ok r) : l = UInt8.ofNat b :: r := by
  cases l with
  | nil => cases h
  | cons c l =>
    rw [eat_cons] at h
    split at h
    · rename_i hc
      cases h
      rw [byte_of c b hc]
    · cases h
theorem pcl_ok : ∀ (l : List UInt8) (s : List UInt8) (st : Rd) (p q : Nat) (r : List UInt8), RdOk s st → pcl st l = .ok ((p, q), r) → p < 64 ∧ q < 64 ∧ p &&& q = 0 ∧ s ++ l = fmtT p q ++ 93 :: r
  | [], s, st, p, q, r, _, h => by cases h
  | c :: l, s, st, p, q, r, hs, h => by
    unfold pcl at h
    split at h
    · rename_i hc
      cases h
      obtain ⟨h1, h2, h3, h4, h5, h6⟩ := hs
      have := Nat.pow_le_pow_right (n := 2) (by decide) h4
      rw [hc.2.2] at h1
      simp only [if_true, List.append_nil] at h1
      refine ⟨by omega, by omega, h5, ?_⟩
      have hne := h6 hc.2.1
      unfold fmtT
      rw [if_neg (by rw [fmtL_nil]; exact hne), h1, byte_of c 93 hc.1]
      rfl
    · split at h
      · cases h
      · cases hr : rdStep st c.toNat with
        | none => rw [hr] at h; cases h
        | some st' =>
          rw [hr] at h
          obtain ⟨k1, k2, k3, k4⟩ := pcl_ok l (s ++ [c]) st' p q r (rdStep_ok hs hr) h
          refine ⟨k1, k2, k3, ?_⟩
          rw [← k4, List.append_assoc]
          rfl
theorem rd0_ok : RdOk [] (0, 0, 0, true) := ⟨by decide, by decide, by decide, by decide, by decide, by decide⟩
theorem pcube_ok {l r : List UInt8} {p q : Nat} (h : pcube l = .ok ((p, q), r)) : p < 64 ∧ q < 64 ∧ p &&& q = 0 ∧ l = fmtT p q ++ 93 :: r := by
  cases l with
  | nil => cases h
  | cons c l =>
    rw [pcube_cons] at h
    split at h
    · rename_i hc
      cases he : eat 93 l with
      | error e => rw [he] at h; cases h
      | ok r' =>
        rw [he] at h
        cases h
        refine ⟨by decide, by decide, by decide, ?_⟩
        rw [eat_ok he, byte_of c 42 hc]
        rfl
    · have := pcl_ok (c :: l) [] _ p q r rd0_ok h
      rwa [List.nil_append] at this
theorem preOp_ok {d : UInt8} (h : preOp d.toNat ≠ 0) : (7 ≤ preOp d.toNat ∧ preOp d.toNat ≤ 10) ∧ preOp d.toNat ≠ 8 ∧ opB (preOp d.toNat) = d := by
  unfold preOp at *
  split
  · rename_i h1; exact ⟨by decide, by decide, (byte_of d 126 h1).symm⟩
  · split
    · rename_i h1; exact ⟨by decide, by decide, (byte_of d 62 h1).symm⟩
    · split
      · rename_i h1; exact ⟨by decide, by decide, (byte_of d 60 h1).symm⟩
      · rename_i h1 h2 h3
        rw [if_neg h1, if_neg h2, if_neg h3] at h
        exact absurd rfl h
theorem midOp_ok {d : UInt8} (h : midOp d.toNat ≠ 0) : (4 ≤ midOp d.toNat ∧ midOp d.toNat ≤ 6) ∧ opB (midOp d.toNat) = d := by
  unfold midOp at *
  split
  · rename_i h1; exact ⟨by decide, (byte_of d 46 h1).symm⟩
  · split
    · rename_i h1; exact ⟨by decide, (byte_of d 124 h1).symm⟩
    · split
      · rename_i h1; exact ⟨by decide, (byte_of d 38 h1).symm⟩
      · rename_i h1 h2 h3
        rw [if_neg h1, if_neg h2, if_neg h3] at h
        exact absurd rfl h
/-- What is read is an expression, and its text is what was read. -/
theorem pex_ok : ∀ (f : Nat) (l : List UInt8) (t : Ex) (r : List UInt8), pex f l = .ok (t, r) → t.Ok ∧ t.Six ∧ l = txt t ++ r
  | 0, l, t, r, h => by cases h
  | f + 1, [], t, r, h => by cases h
  | f + 1, c :: l, t, r, h => by
    unfold pex at h
    split at h
    · rename_i hc
      cases h
      exact ⟨⟨by decide, fun _ => ⟨rfl, rfl⟩⟩, (fun h => by cases h), by rw [byte_of c 48 hc]; rfl⟩
    split at h
    · rename_i hc
      cases h
      exact ⟨⟨by decide, fun _ => ⟨rfl, rfl⟩⟩, (fun h => by cases h), by rw [byte_of c 49 hc]; rfl⟩
    split at h
    · rename_i hc
      cases hp : pcube l with
      | error e => rw [hp] at h; cases h
      | ok x =>
        obtain ⟨⟨p, q⟩, r'⟩ := x
        rw [hp] at h
        cases h
        obtain ⟨h1, h2, h3, h4⟩ := pcube_ok hp
        refine ⟨⟨by decide, fun h => absurd rfl h⟩, fun _ => ⟨h1, h2, h3⟩, ?_⟩
        rw [h4, byte_of c 91 hc]
        simp [txt]
    split at h
    · rename_i hc
      cases l with
      | nil => cases h
      | cons d l1 =>
        simp only at h
        by_cases hd : preOp d.toNat ≠ 0
        · rw [if_pos hd] at h
          cases hp : pex f l1 with
          | error e => rw [hp] at h; cases h
          | ok x =>
            obtain ⟨a, r2⟩ := x
            rw [hp] at h
            simp only at h
            cases he : eat 41 r2 with
            | error e => rw [he] at h; cases h
            | ok r3 =>
              rw [he] at h
              cases h
              obtain ⟨h1, h2, h3⟩ := pex_ok f l1 a r2 hp
              obtain ⟨k1, k2, k3⟩ := preOp_ok hd
              refine ⟨⟨k1, h1⟩, h2, ?_⟩
              rw [byte_of c 40 hc, h3, eat_ok he]
              rw [txt_one, if_neg k2, k3]
              simp
        · rw [if_neg hd] at h
          cases hp : pex f (d :: l1) with
          | error e => rw [hp] at h; cases h
          | ok x =>
            obtain ⟨a, r2⟩ := x
            rw [hp] at h
            obtain ⟨h1, h2, h3⟩ := pex_ok f (d :: l1) a r2 hp
            cases r2 with
            | nil => cases h
            | cons d2 r3 =>
              simp only at h
              split at h
              · rename_i hs
                cases he : eat 41 r3 with
                | error e => rw [he] at h; cases h
                | ok r4 =>
                  rw [he] at h
                  cases h
                  refine ⟨⟨by decide, h1⟩, h2, ?_⟩
                  rw [byte_of c 40 hc, h3, eat_ok he, byte_of d2 42 hs]
                  simp [txt]
              · split at h
                · rename_i hm
                  cases hq : pex f r3 with
                  | error e => rw [hq] at h; cases h
                  | ok x =>
                    obtain ⟨b, r4⟩ := x
                    rw [hq] at h
                    simp only at h
                    cases he : eat 41 r4 with
                    | error e => rw [he] at h; cases h
                    | ok r5 =>
                      rw [he] at h
                      cases h
                      obtain ⟨g1, g2, g3⟩ := pex_ok f r3 b r4 hq
                      obtain ⟨k1, k2⟩ := midOp_ok hm
                      refine ⟨⟨k1, h1, g1⟩, ⟨h2, g2⟩, ?_⟩
                      rw [byte_of c 40 hc, h3, g3, eat_ok he]
                      rw [txt_two, k2]
                      simp
                · cases h
    · cases h
end Go.Proofs.Yteckkbjpeckjmaa.Rx
