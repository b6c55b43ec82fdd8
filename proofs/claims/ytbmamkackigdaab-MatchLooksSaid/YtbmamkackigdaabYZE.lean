/- A letter behind its bracket: read byte by byte, each beginning being asked whether the text of a cube begins so. Plain mathematics. -/
import Derived.Test.YtbmamkackigdaabYE
namespace Go.Proofs.Ytbmamkackigdaab.Rx
open Go Go.RowKit Go.Proofs.Ytbmamkackigdaab
set_option linter.unusedVariables false
/-- The text of some cube begins with u. -/
def begB (u : List UInt8) : Bool := (readC u).isSome || (readC (u ++ [102])).isSome
def plet : List UInt8 → List UInt8 → Except Int ((Nat × Nat) × List UInt8)
  | _, [] => .error 3
  | u, c :: r => if c.toNat = 93 then (match readC u with | some pq => .ok (pq, r) | none => .error 2) else if begB (u ++ [c]) = true then plet (u ++ [c]) r else .error 2
theorem plet_cons (u : List UInt8) (c : UInt8) (r : List UInt8) : plet u (c :: r) = if c.toNat = 93 then (match readC u with | some pq => .ok (pq, r) | none => .error 2) else if begB (u ++ [c]) = true then plet (u ++ [c]) r else .error 2 := rfl
theorem readC_rd {u : List UInt8} (h : u ≠ [42]) : readC u = match rd u with | some (p, q, least, value) => if least = 0 ∨ value = false then none else some (p, q) | none => none := by
  unfold readC
  rw [if_neg h]
  cases rd u <;> rfl
theorem readC_none {u : List UInt8} (h : u ≠ [42]) (hr : rd u = none) : readC u = none := by rw [readC_rd h, hr]
theorem app_ne {u : List UInt8} {c d : UInt8} : u ++ [c, d] ≠ [42] := fun h => by
  have := congrArg List.length h
  simp at this
theorem rd_app2 (u : List UInt8) (c d : UInt8) : rd (u ++ [c, d]) = ((rd (u ++ [c])).bind fun st => rdStep st d.toNat) := by
  rw [show u ++ [c, d] = (u ++ [c]) ++ [d] by simp, rd_snoc]
theorem plet_pcl : ∀ (r u : List UInt8) (st : Rd), rd u = some st → u ≠ [42] → (∀ c : UInt8, u ++ [c] = [42] → r.head? ≠ some c) → plet u r = pcl st r
  | [], u, st, h, hu, h42 => rfl
  | c :: r, u, (p, q, least, value), h, hu, h42 => by
    have hne : u ++ [c] ≠ [42] := fun e => h42 c e rfl
    have e2 : u ++ [c] ++ [102] = u ++ [c, 102] := by simp
    have hp : pcl (p, q, least, value) (c :: r) = if c.toNat = 93 ∧ least ≠ 0 ∧ value = true then .ok ((p, q), r) else if c.toNat = 33 ∧ 6 ≤ least then .error 2 else match rdStep (p, q, least, value) c.toNat with | none => .error 2 | some st' => pcl st' r := pcl_cons (p, q, least, value) c r
    rw [plet_cons, hp]
    by_cases h93 : c.toNat = 93
    · rw [if_pos h93, readC_rd hu, h]
      simp only
      by_cases hok : least = 0 ∨ value = false
      · rw [if_pos hok, if_neg (by rintro ⟨_, h1, h2⟩; rcases hok with h | h; exact h1 h; rw [h] at h2; cases h2), if_neg (by omega)]
        have : rdStep (p, q, least, value) c.toNat = none := by
          unfold rdStep
          simp only
          rw [if_neg (by omega), if_neg (by omega)]
        rw [this]
      · rw [if_neg hok, if_pos]
        exact ⟨h93, fun e => hok (.inl e), by cases value; exact absurd (.inr rfl) hok; rfl⟩
    · have hf : ¬ (c.toNat = 93 ∧ least ≠ 0 ∧ value = true) := fun e => h93 e.1
      rw [if_neg h93, if_neg hf]
      have hrd : rd (u ++ [c]) = rdStep (p, q, least, value) c.toNat := by rw [rd_snoc, h]; rfl
      cases hs : rdStep (p, q, least, value) c.toNat with
      | none =>
        rw [hs] at hrd
        have hb : begB (u ++ [c]) = false := by
          unfold begB
          rw [readC_none hne hrd, e2, readC_none app_ne (by rw [rd_app2, hrd]; rfl)]
          rfl
        rw [hb]
        simp
      | some st' =>
        rw [hs] at hrd
        have hbe : begB (u ++ [c]) = !(decide (c.toNat = 33 ∧ 6 ≤ least)) := by
          unfold begB
          rw [readC_rd hne, hrd, e2, readC_rd app_ne, rd_app2, hrd]
          have hs' := hs
          unfold rdStep at hs'
          simp only at hs'
          by_cases hA : c.toNat = 33 ∧ value = true
          · rw [if_pos hA] at hs'
            cases hs'
            simp only [Option.bind_some]
            rw [if_pos (.inr trivial)]
            unfold rdStep
            simp only [Bool.false_eq_true, and_false, if_false]
            by_cases h6 : 6 ≤ least
            · rw [if_neg (by simp; omega), decide_eq_true ⟨hA.1, h6⟩]; rfl
            · rw [if_pos (by simp; omega), decide_eq_false (by omega)]
              simp
          · rw [if_neg hA] at hs'
            by_cases hB : 97 + least ≤ c.toNat ∧ c.toNat < 103
            · rw [if_pos hB] at hs'
              cases hs'
              simp only
              rw [if_neg (by simp)]
              rw [decide_eq_false (by omega)]
              rfl
            · rw [if_neg hB] at hs'; cases hs'
        rw [hbe]
        by_cases h6 : c.toNat = 33 ∧ 6 ≤ least
        · rw [decide_eq_true h6, if_pos h6]; rfl
        · rw [decide_eq_false h6, if_neg h6]
          simp only [Bool.not_false, if_true]
          exact plet_pcl r (u ++ [c]) st' hrd hne (fun d e => by
            have := congrArg List.length e
            simp at this)
theorem plet_pcube (r : List UInt8) : plet [] r = pcube r := by
  cases r with
  | nil => rfl
  | cons c r =>
    by_cases h42 : c.toNat = 42
    · have hc : c = 42 := by rw [byte_of c 42 h42]; rfl
      subst hc
      rw [plet_cons, pcube_cons, if_neg (by decide), if_pos (by decide), if_pos (by decide)]
      cases r with
      | nil => rfl
      | cons d r =>
        show plet [42] (d :: r) = _
        rw [plet_cons, eat_cons]
        by_cases h93 : d.toNat = 93
        · rw [if_pos h93, if_pos h93]; rfl
        · rw [if_neg h93, if_neg h93]
          have h1 : rd [42, d] = none := by
            have := rd_app2 [] 42 d
            rw [List.nil_append] at this
            rw [this]
            rfl
          have hb : begB ([42] ++ [d]) = false := by
            unfold begB
            rw [show [(42 : UInt8)] ++ [d] = [42, d] from rfl, readC_none (by simp) h1, show [(42 : UInt8), d] ++ [102] = [42, d, 102] from rfl, readC_none (by simp) (by
              show rd ([42] ++ [d, 102]) = none
              rw [rd_app2, show [(42 : UInt8)] ++ [d] = [42, d] from rfl, h1]; rfl)]
            rfl
          rw [hb]
          simp
    · rw [pcube_cons, if_neg h42]
      exact plet_pcl (c :: r) [] (0, 0, 0, true) rfl (by simp) (fun d e => by
        simp at e
        subst e
        simp
        intro e
        subst e
        exact h42 (by decide))
end Go.Proofs.Ytbmamkackigdaab.Rx
