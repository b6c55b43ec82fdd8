/- NfaSteps: what its walk leans on. -/
import Derived.Test.YtbmamkackigdaaaFO
import Derived.Test.YtbmamkackigdaaaL
namespace Go.Proofs.Ytbmamkackigdaaa.Nf
open Go Go.RowKit Go.Proofs.Ytbmamkackigdaaa Go.Proofs.Ytbmamkackigdaaa.Cb
set_option linter.unusedVariables false
set_option linter.unusedSimpArgs false
set_option maxRecDepth 100000
def long2 (l m : Nat) : Bool := decide (80 < l) || decide (80 < m)
theorem Long2_any (A B : Option Addr) (l m c d : Nat) (X : World) (hl : l ≤ maxLen) (hm : m ≤ maxLen) (g : Nat) (hg : g = X.heap.size) :
    Calls Try.prog 9 #[.slice (some ⟨g, 0, none⟩) 2 2] (X.alloc (.cells #[.slice A l c, .slice B m d] 27)) fun e w' => e = .returned (.bool (long2 l m)) ∧ Below X.heap.size X w' := by
  subst hg
  have hs : Sets (X.alloc (.cells #[.slice A l c, .slice B m d] 27)) (some ⟨X.heap.size, 0, none⟩) 2 (fun j => if j = 0 then A else B) (fun j => if j = 0 then l else m) (fun j => if j = 0 then c else d) :=
    Ap.vals_new_ X _ 2 _ [.slice A l c, .slice B m d] fun j hj => by
      match j, hj with
      | 0, _ => rfl
      | 1, _ => rfl
  refine (Long_any _ 2 2 _ _ _ _ hs (by decide) ?_).mono ?_
  · intro j hj
    match j, hj with
    | 0, _ => exact hl
    | 1, _ => exact hm
  · rintro e w' ⟨rfl, rfl⟩
    refine ⟨ret_b ?_, bal (Below.refl _ _) _⟩
    unfold long2
    rw [Bool.eq_iff_iff]
    simp [allB]
def zor (xs ys : List Nat) : List Nat := canon (zipW (· ||| ·) xs ys)
theorem step_or {n : Na} (h : Ok n) (xs ys : List Nat) (x : Nat) : eqB (stepW n.es (zor xs ys) x) (zor (stepW n.es xs x) (stepW n.es ys x)) = true := by
  have hz : U64 (zor (stepW n.es xs x) (stepW n.es ys x)) := u64_or (u64_step _ _ _) (u64_step _ _ _)
  rw [eqB_has (u64_step _ _ _) hz]
  intro z
  show _ ↔ hasB (canon (zipW (· ||| ·) _ _)) z = true
  rw [has_or, Bool.or_eq_true, has_step h.ed h.s64, has_step h.ed h.s64, has_step h.ed h.s64]
  constructor
  · rintro ⟨e, he, h1, h2, h3⟩
    change hasB (canon (zipW (· ||| ·) xs ys)) e.fr = true at h2
    rw [has_or, Bool.or_eq_true] at h2
    rcases h2 with h2 | h2
    · exact .inl ⟨e, he, h1, h2, h3⟩
    · exact .inr ⟨e, he, h1, h2, h3⟩
  · have hh : ∀ q, hasB (zor xs ys) q = (hasB xs q || hasB ys q) := fun q => has_or q
    rintro (⟨e, he, h1, h2, h3⟩ | ⟨e, he, h1, h2, h3⟩)
    · exact ⟨e, he, h1, by rw [hh, h2, Bool.true_or], h3⟩
    · exact ⟨e, he, h1, by rw [hh, h2, Bool.or_true], h3⟩
theorem zor_nil : eqB [] (zor [] []) = true := by decide +kernel
theorem own_none (B : Nat) (w : World) : OwnW B w none 0 [] := ⟨⟨rfl, .inl ⟨rfl, rfl⟩⟩, fun j hj => absurd hj (by simp), Nat.le_refl _⟩
section
variable (n : Na) (A B C : Option Addr) (a b c : Nat) (w : World) (hx : NaAt w n A B C) (hl : NaLen n)
include hx hl
theorem After_uni (x : Nat) (h8 : x < 256) : ∃ (f : List Nat → List Nat) (e0 : Int), (∀ xs ys, eqB (f (zor xs ys)) (zor (f xs) (f ys)) = true) ∧
    ∀ X, Below w.heap.size w X → ∀ E xs d, Words X E xs → U64 xs → Calls Try.prog 19 #[.agg #[.int .i64 n.V, .int .i64 n.S, .slice A n.st.length a, .slice B n.fi.length b, .slice C n.es.length c], .slice E xs.length d, .int .u8 x] X fun e w' =>
      ∃ A' c', e = .returned (.tuple #[.slice A' (f xs).length c', .int .i64 e0]) ∧ OwnW X.heap.size w' A' c' (f xs) ∧ Below X.heap.size X w' := by
  by_cases h0 : chkN n = 0
  · by_cases h1 : x < 2 ^ n.V.toNat
    · exact ⟨fun xs => stepW n.es xs x, 0, fun xs ys => step_or (ok_of h0) xs ys x, fun X hX E xs d hE ux => After_good n A B C a b c X (hx.below hX) hl E xs d x h8 hE ux h0 h1⟩
    · exact ⟨fun _ => [], 1, fun _ _ => zor_nil, fun X hX E xs d hE ux => (After_letter n A B C a b c X (hx.below hX) hl E xs d x h8 h0 h1).mono fun e w' ⟨h2, h3⟩ => ⟨none, 0, h2, own_none _ _, h3⟩⟩
  · exact ⟨fun _ => [], chkN n, fun _ _ => zor_nil, fun X hX E xs d hE ux => (After_bad n A B C a b c X (hx.below hX) hl E xs d x h0).mono fun e w' ⟨h2, h3⟩ => ⟨none, 0, h2, own_none _ _, h3⟩⟩
theorem Run_uni (l : List Nat) (h8 : ∀ y ∈ l, y < 256) (hll : l.length ≤ 1000000) : ∃ r : List Nat, (wrongN n l = 0 → r = runW n l) ∧ (wrongN n l ≠ 0 → r = []) ∧
    ∀ X, Below w.heap.size w X → ∀ D d, Bys X D l → Calls Try.prog 20 #[.agg #[.int .i64 n.V, .int .i64 n.S, .slice A n.st.length a, .slice B n.fi.length b, .slice C n.es.length c], .slice D l.length d] X fun e w' =>
      ∃ A' c', e = .returned (.tuple #[.slice A' r.length c', .int .i64 (wrongN n l)]) ∧ OwnW X.heap.size w' A' c' r ∧ Below X.heap.size X w' := by
  by_cases h0 : wrongN n l = 0
  · refine ⟨runW n l, fun _ => rfl, fun h => absurd h0 h, fun X hX D d hD => ?_⟩
    have := Run_good n A B C a b c X (hx.below hX) hl D l d hD h8 hll h0
    rw [h0]
    exact this
  · exact ⟨[], fun h => absurd h h0, fun _ => rfl, fun X hX D d hD => (Run_bad n A B C a b c X (hx.below hX) hl D l d hD h8 hll h0).mono fun e w' ⟨h2, h3⟩ => ⟨none, 0, h2, own_none _ _, h3⟩⟩
end
theorem wrong_zero {n : Na} {l : List Nat} (h : wrongN n l = 0) : chkN n = 0 ∧ l.length ≤ 64 ∧ ∀ y ∈ l, y < 2 ^ n.V.toNat := by
  unfold wrongN at h
  by_cases h0 : chkN n = 0
  · rw [if_neg (by omega)] at h
    unfold wordE at h
    split at h
    · cases h
    · split at h
      · rename_i h1 h2
        exact ⟨h0, by omega, fun y hy => of_decide_eq_true (List.all_eq_true.1 h2 y hy)⟩
      · cases h
  · rw [if_pos h0] at h
    exact absurd h h0
theorem zero_wrong {n : Na} {l : List Nat} (h0 : chkN n = 0) (h1 : l.length ≤ 64) (h2 : ∀ y ∈ l, y < 2 ^ n.V.toNat) : wrongN n l = 0 := by
  unfold wrongN wordE
  rw [if_neg (by omega), if_neg (by omega), if_pos (List.all_eq_true.2 fun y hy => decide_eq_true (h2 y hy))]
theorem runTo_app (n : Na) (v u : List Nat) : runTo n (v ++ u) v.length = runW n v := by
  unfold runTo runW
  rw [List.take_left]
theorem runTo_add (n : Na) {v u : List Nat} {k : Nat} (h : k < u.length) : runTo n (v ++ u) (v.length + (k + 1)) = stepW n.es (runTo n (v ++ u) (v.length + k)) (wd u k) := by
  rw [← Nat.add_assoc, runTo_succ n (by rw [List.length_append]; omega)]
  congr 1
  unfold wd
  rw [List.getD_eq_getElem?_getD, List.getD_eq_getElem?_getD, List.getElem?_append_right (by omega), Nat.add_sub_cancel_left]
theorem runTo_end (n : Na) (v u : List Nat) : runTo n (v ++ u) (v.length + u.length) = runW n (v ++ u) := by
  rw [← List.length_append, runTo_all]
theorem bvs_range (l : List Nat) : (List.range l.length).map (fun j => (Value.int .u8 (wd l j : Nat))) = bvs l := by
  unfold bvs
  refine List.ext_getElem (by simp) fun i h1 h2 => ?_
  simp at h1 h2 ⊢
  simp [wd, h1]
end Go.Proofs.Ytbmamkackigdaaa.Nf
