/- What the reader answers of a text, of a part of a text, and of a text with more behind it. -/
import Derived.Test.YtpjnbojplifegaaYZP
namespace Go.Proofs.Ytpjnbojplifegaa.Rx
open Go Go.RowKit Go.Proofs.Ytpjnbojplifegaa
set_option linter.unusedVariables false
set_option maxRecDepth 100000
theorem cubes_six {v : Int} : ∀ t : Ex, t.Cubes v → t.Six
  | .leaf op p q, hc => fun h => by
    obtain ⟨n, _, hC⟩ := chk_ok (hc h)
    exact ⟨hC.lt.1, hC.lt.2, hC.2.2.2⟩
  | .one _ a, hc => cubes_six a hc
  | .two _ a b, hc => ⟨cubes_six a hc.1, cubes_six b hc.2⟩
theorem pex_fuel : ∀ (f g : Nat) (l : List UInt8), l.length ≤ f → l.length ≤ g → pex f l = pex g l
  | 0, 0, l, _, _ => rfl
  | 0, g + 1, [], _, _ => rfl
  | f + 1, 0, [], _, _ => rfl
  | f + 1, g + 1, [], _, _ => rfl
  | 0, _ + 1, _ :: _, h, _ => by simp at h
  | _ + 1, 0, _ :: _, _, h => by simp at h
  | f + 1, g + 1, [c], hf, hg => by unfold pex; rfl
  | f + 1, g + 1, c :: d :: r1, hf, hg => by
    simp only [List.length_cons] at hf hg
    have h1 : pex f r1 = pex g r1 := pex_fuel f g r1 (by omega) (by omega)
    have h2 : pex f (d :: r1) = pex g (d :: r1) := pex_fuel f g (d :: r1) (by simp only [List.length_cons]; omega) (by simp only [List.length_cons]; omega)
    unfold pex
    simp only [h1, h2]
    cases hq : pex g (d :: r1) with
    | error e => rfl
    | ok x =>
      obtain ⟨a, r2⟩ := x
      cases r2 with
      | nil => rfl
      | cons d2 r3 =>
        have := congrArg List.length (pex_ok g _ a _ hq).2.2
        simp only [List.length_cons, List.length_append] at this
        have h3 : pex f r3 = pex g r3 := pex_fuel f g r3 (by omega) (by omega)
        simp only [h3]
theorem chkC_of {t : Ex} {v : Int} (h : t.Valid v) : chkC v t = 0 := by rw [← chkL_flat h.ok]; exact chkL_valid h
theorem txt_small {t : Ex} {v : Int} (h : t.Valid v) : (txt t).length ≤ 1280 := by
  have := txt_len t h.ok
  have := h.size
  omega
theorem parE_text {t : Ex} {v : Int} (h : t.Valid v) : parE (txt t) v = .ok t := by
  have h1 := txt_small h
  have h2 := pex_text t (txt t).length [] h.ok (cubes_six t h.cubes) (txt_ge t h.ok)
  rw [List.append_nil] at h2
  unfold parE
  rw [if_neg (by have := h.v0; have := h.v6; omega), if_neg (by omega), h2]
  simp only
  rw [if_pos (chkC_of h)]
theorem parE_more {t : Ex} {v : Int} (h : t.Valid v) (c : UInt8) (r : List UInt8) (hl : (c :: r).length ≤ 1000) : parE (txt t ++ c :: r) v = .error 5 := by
  have h1 := txt_small h
  have h3 := txt_ge t h.ok
  have h2 := pex_text t (txt t ++ c :: r).length (c :: r) h.ok (cubes_six t h.cubes) (by rw [List.length_append]; omega)
  unfold parE
  rw [if_neg (by have := h.v0; have := h.v6; omega), if_neg (by rw [List.length_append]; omega), h2]
theorem parE_part {t : Ex} {v : Int} (h : t.Valid v) {n : Nat} (hn : n < (txt t).length) : parE ((txt t).take n) v = .error 3 := by
  have h1 := txt_small h
  have hs : txt t = (txt t).take n ++ (txt t)[n] :: (txt t).drop (n + 1) := by rw [← List.drop_eq_getElem_cons hn, List.take_append_drop]
  have h2 := pex_short t (t.size + ((txt t).take n).length) _ _ _ h.ok (cubes_six t h.cubes) (by omega) hs
  rw [pex_fuel _ ((txt t).take n).length _ (by omega) (by omega)] at h2
  unfold parE
  rw [if_neg (by have := h.v0; have := h.v6; omega), if_neg (by rw [List.length_take]; omega), h2]
theorem parE_err {l : List UInt8} {v k : Int} (h : parE l v = .error k) : k ≠ 0 := by
  unfold parE at h
  split at h
  · cases h; decide
  split at h
  · cases h; decide
  split at h
  · rename_i k' hk
    cases h
    exact pex_err _ _ _ hk
  · split at h
    · cases h
    · rename_i hc
      cases h
      exact hc
  · cases h; decide
end Go.Proofs.Ytpjnbojplifegaa.Rx
