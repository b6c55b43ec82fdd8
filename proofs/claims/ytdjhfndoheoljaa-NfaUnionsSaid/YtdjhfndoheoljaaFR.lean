/- NfaSteps: what its walk leans on. -/
import Derived.Test.YtdjhfndoheoljaaFO
import Derived.Test.YtdjhfndoheoljaaL
namespace Go.Proofs.Ytdjhfndoheoljaa.Nf
open Go Go.RowKit Go.Proofs.Ytdjhfndoheoljaa Go.Proofs.Ytdjhfndoheoljaa.Cb
set_option linter.unusedVariables false
set_option linter.unusedSimpArgs false
set_option maxRecDepth 100000
def long2 (l m : Nat) : Bool := decide (80 < l) || decide (80 < m)
def zor (xs ys : List Nat) : List Nat := canon (zipW (· ||| ·) xs ys)
theorem step_or {n : Na} (h : Ok n) (xs ys : List Nat) (x : Nat) : eqB (stepW n.es (zor xs ys) x) (zor (stepW n.es xs x) (stepW n.es ys x)) = true := by
  have hz : U64 (zor (stepW n.es xs x) (stepW n.es ys x)) := u64_or (u64_step _ _ _) (u64_step _ _ _)
  rw [eqB_has (u64_step _ _ _) hz]
  intro z
  show _ ↔ hasB (canon (zipW (· ||| ·) _ _)) z = true
  rw [has_or, Bool.or_eq_true, has_step h.ed h.s64, has_step h.ed h.s64, has_step h.ed h.s64]
  constructor
  · rintro ⟨e, he, h1, h2, h3⟩
    change hasB (canon (zipW (· ||| ·) xs ys)) e.fr = true at h2
    rw [has_or, Bool.or_eq_true] at h2
    rcases h2 with h2 | h2
    · exact .inl ⟨e, he, h1, h2, h3⟩
    · exact .inr ⟨e, he, h1, h2, h3⟩
  · have hh : ∀ q, hasB (zor xs ys) q = (hasB xs q || hasB ys q) := fun q => has_or q
    rintro (⟨e, he, h1, h2, h3⟩ | ⟨e, he, h1, h2, h3⟩)
    · exact ⟨e, he, h1, by rw [hh, h2, Bool.true_or], h3⟩
    · exact ⟨e, he, h1, by rw [hh, h2, Bool.or_true], h3⟩
theorem zor_nil : eqB [] (zor [] []) = true := by decide +kernel
theorem own_none (B : Nat) (w : World) : OwnW B w none 0 [] := ⟨⟨rfl, .inl ⟨rfl, rfl⟩⟩, fun j hj => absurd hj (by simp), Nat.le_refl _⟩
section
variable (n : Na) (A B C : Option Addr) (a b c : Nat) (w : World) (hx : NaAt w n A B C) (hl : NaLen n)
include hx hl
theorem Run_uni (l : List Nat) (h8 : ∀ y ∈ l, y < 256) (hll : l.length ≤ 1000000) : ∃ r : List Nat, (wrongN n l = 0 → r = runW n l) ∧ (wrongN n l ≠ 0 → r = []) ∧
    ∀ X, Below w.heap.size w X → ∀ D d, Bys X D l → Calls Try.prog 10 #[.agg #[.int .i64 n.V, .int .i64 n.S, .slice A n.st.length a, .slice B n.fi.length b, .slice C n.es.length c], .slice D l.length d] X fun e w' =>
      ∃ A' c', e = .returned (.tuple #[.slice A' r.length c', .int .i64 (wrongN n l)]) ∧ OwnW X.heap.size w' A' c' r ∧ Below X.heap.size X w' := by
  by_cases h0 : wrongN n l = 0
  · refine ⟨runW n l, fun _ => rfl, fun h => absurd h0 h, fun X hX D d hD => ?_⟩
    have := Run_good n A B C a b c X (hx.below hX) hl D l d hD h8 hll h0
    rw [h0]
    exact this
  · exact ⟨[], fun h => absurd h h0, fun _ => rfl, fun X hX D d hD => (Run_bad n A B C a b c X (hx.below hX) hl D l d hD h8 hll h0).mono fun e w' ⟨h2, h3⟩ => ⟨none, 0, h2, own_none _ _, h3⟩⟩
end
theorem wrong_zero {n : Na} {l : List Nat} (h : wrongN n l = 0) : chkN n = 0 ∧ l.length ≤ 64 ∧ ∀ y ∈ l, y < 2 ^ n.V.toNat := by
  unfold wrongN at h
  by_cases h0 : chkN n = 0
  · rw [if_neg (by omega)] at h
    unfold wordE at h
    split at h
    · cases h
    · split at h
      · rename_i h1 h2
        exact ⟨h0, by omega, fun y hy => of_decide_eq_true (List.all_eq_true.1 h2 y hy)⟩
      · cases h
  · rw [if_pos h0] at h
    exact absurd h h0
theorem zero_wrong {n : Na} {l : List Nat} (h0 : chkN n = 0) (h1 : l.length ≤ 64) (h2 : ∀ y ∈ l, y < 2 ^ n.V.toNat) : wrongN n l = 0 := by
  unfold wrongN wordE
  rw [if_neg (by omega), if_neg (by omega), if_pos (List.all_eq_true.2 fun y hy => decide_eq_true (h2 y hy))]
theorem runTo_app (n : Na) (v u : List Nat) : runTo n (v ++ u) v.length = runW n v := by
  unfold runTo runW
  rw [List.take_left]
theorem runTo_add (n : Na) {v u : List Nat} {k : Nat} (h : k < u.length) : runTo n (v ++ u) (v.length + (k + 1)) = stepW n.es (runTo n (v ++ u) (v.length + k)) (wd u k) := by
  rw [← Nat.add_assoc, runTo_succ n (by rw [List.length_append]; omega)]
  congr 1
  unfold wd
  rw [List.getD_eq_getElem?_getD, List.getD_eq_getElem?_getD, List.getElem?_append_right (by omega), Nat.add_sub_cancel_left]
theorem runTo_end (n : Na) (v u : List Nat) : runTo n (v ++ u) (v.length + u.length) = runW n (v ++ u) := by
  rw [← List.length_append, runTo_all]
theorem bvs_range (l : List Nat) : (List.range l.length).map (fun j => (Value.int .u8 (wd l j : Nat))) = bvs l := by
  unfold bvs
  refine List.ext_getElem (by simp) fun i h1 h2 => ?_
  simp at h1 h2 ⊢
  simp [wd, h1]
end Go.Proofs.Ytdjhfndoheoljaa.Nf
