/- The order of sets: plain arithmetic. -/
import Derived.Test.YtdjhfndoheoljaaY
namespace Go.Proofs.Ytdjhfndoheoljaa
open Go Go.RowKit
theorem cmpL_self : ∀ l : List Int, cmpL l l = 0
  | [] => rfl
  | a :: l => by rw [cmpL, if_neg (by omega), if_neg (by omega)]; exact cmpL_self l
theorem cmpL_neg : ∀ l m : List Int, cmpL m l = -cmpL l m
  | [], [] => rfl
  | [], _ :: _ => rfl
  | _ :: _, [] => rfl
  | a :: l, b :: m => by
    rw [cmpL, cmpL]
    rcases Int.lt_trichotomy a b with h | h | h
    · rw [if_neg (by omega), if_pos h, if_pos h]; rfl
    · rw [if_neg (by omega), if_neg (by omega), if_neg (by omega), if_neg (by omega)]; exact cmpL_neg l m
    · rw [if_pos h, if_neg (by omega), if_pos h]
theorem cmpL_range : ∀ l m : List Int, cmpL l m = -1 ∨ cmpL l m = 0 ∨ cmpL l m = 1
  | [], [] => .inr (.inl rfl)
  | [], _ :: _ => .inl rfl
  | _ :: _, [] => .inr (.inr rfl)
  | a :: l, b :: m => by
    rw [cmpL]
    split
    · exact .inl rfl
    · split
      · exact .inr (.inr rfl)
      · exact cmpL_range l m
theorem cmpL_zero : ∀ l m : List Int, cmpL l m = 0 → l = m
  | [], [], _ => rfl
  | [], _ :: _, h => by simp [cmpL] at h
  | _ :: _, [], h => by simp [cmpL] at h
  | a :: l, b :: m, h => by
    rw [cmpL] at h
    split at h
    · simp at h
    · split at h
      · simp at h
      · rw [cmpL_zero l m h, show a = b by omega]
theorem cmpL_trans : ∀ l m r : List Int, cmpL l m ≤ 0 → cmpL m r ≤ 0 → cmpL l r = min (cmpL l m) (cmpL m r)
  | [], [], r, _, h => by
    have := cmpL_range [] r
    have h0 : cmpL [] [] = 0 := rfl
    rw [h0]
    omega
  | [], _ :: _, [], _, h => by simp [cmpL] at h
  | [], b :: m, c :: r, _, h => by
    have := cmpL_range (b :: m) (c :: r)
    have h0 : cmpL [] (b :: m) = -1 := rfl
    have h1 : cmpL [] (c :: r) = -1 := rfl
    rw [h0, h1]
    omega
  | _ :: _, [], _, h, _ => by simp [cmpL] at h
  | _ :: _, _ :: _, [], _, h => by simp [cmpL] at h
  | a :: l, b :: m, c :: r, h, h' => by
    have ih := cmpL_trans l m r
    have r1 := cmpL_range l m
    have r2 := cmpL_range m r
    simp only [cmpL] at h h' ⊢
    by_cases h1 : a < b
    · rw [if_pos h1] at h ⊢
      by_cases h2 : b < c
      · rw [if_pos h2, if_pos (by omega)]; rfl
      · rw [if_neg h2] at h' ⊢
        by_cases h3 : c < b
        · rw [if_pos h3] at h'; omega
        · rw [if_neg h3, if_pos (by omega)]; omega
    · rw [if_neg h1] at h ⊢
      by_cases h2 : b < a
      · rw [if_pos h2] at h; omega
      · rw [if_neg h2] at h ⊢
        obtain rfl : a = b := by omega
        by_cases h3 : a < c
        · rw [if_pos h3, if_pos h3]; omega
        · rw [if_neg h3] at h' ⊢
          by_cases h4 : c < a
          · rw [if_pos h4] at h'; omega
          · rw [if_neg h4] at h' ⊢
            rw [if_neg h3, if_neg h4]
            exact ih h h'
theorem cast_inj : ∀ l m : List Nat, (l.map fun x : Nat => (x : Int)) = (m.map fun x : Nat => (x : Int)) → l = m
  | [], [], _ => rfl
  | [], _ :: _, h => by simp at h
  | _ :: _, [], h => by simp at h
  | a :: l, b :: m, h => by
    rw [List.map_cons, List.map_cons] at h
    injection h with h1 h2
    rw [cast_inj l m h2, Int.ofNat_inj.1 h1]
section
variable {xs ys zs : List Nat}
theorem cmpS_neg : cmpS ys xs = -cmpS xs ys := cmpL_neg _ _
theorem cmpS_range : cmpS xs ys = -1 ∨ cmpS xs ys = 0 ∨ cmpS xs ys = 1 := cmpL_range _ _
theorem elsI_inj (h : elsI xs = elsI ys) : els xs = els ys := cast_inj _ _ h
theorem cmpS_eq (ux : U64 xs) (uy : U64 ys) : eqB xs ys = decide (cmpS xs ys = 0) := by
  apply eqB_of ux uy
  rw [decide_eq_true_iff]
  constructor
  · intro h
    have e : elsI xs = elsI ys := by
      unfold elsI
      rw [els_congr h]
    unfold cmpS
    rw [e]
    exact cmpL_self _
  · intro h k hk
    have he := elsI_inj (cmpL_zero (elsI xs) (elsI ys) h)
    rw [Bool.eq_iff_iff]
    have h1 : k ∈ els xs ↔ k < 4096 ∧ mem xs k = true := els_mem
    have h2 : k ∈ els ys ↔ k < 4096 ∧ mem ys k = true := els_mem
    rw [he] at h1
    exact ⟨fun hx => (h2.1 (h1.2 ⟨hk, hx⟩)).2, fun hy => (h1.1 (h2.2 ⟨hk, hy⟩)).2⟩
theorem cmpS_trans (h : cmpS xs ys ≤ 0) (h' : cmpS ys zs ≤ 0) : cmpS xs zs = min (cmpS xs ys) (cmpS ys zs) := cmpL_trans _ _ _ h h'
/-- How the order goes by the smallest elements. -/
theorem cmpS_heads :
    (els xs = [] ∧ els ys = [] ∧ cmpS xs ys = 0) ∨ (els xs = [] ∧ (∃ b t, els ys = b :: t) ∧ cmpS xs ys = -1) ∨ ((∃ a s, els xs = a :: s) ∧ els ys = [] ∧ cmpS xs ys = 1) ∨
    (∃ a s b t, els xs = a :: s ∧ els ys = b :: t ∧ ((a < b ∧ cmpS xs ys = -1) ∨ (b < a ∧ cmpS xs ys = 1) ∨ a = b)) := by
  have hd : cmpS xs ys = cmpL (elsI xs) (elsI ys) := rfl
  unfold elsI at hd
  cases h1 : els xs with
  | nil =>
    rw [h1] at hd
    cases h2 : els ys with
    | nil => rw [h2] at hd; exact .inl ⟨rfl, rfl, hd⟩
    | cons b t => rw [h2] at hd; exact .inr (.inl ⟨rfl, ⟨b, t, rfl⟩, hd⟩)
  | cons a s =>
    rw [h1] at hd
    cases h2 : els ys with
    | nil => rw [h2] at hd; exact .inr (.inr (.inl ⟨⟨a, s, rfl⟩, rfl, hd⟩))
    | cons b t =>
      rw [h2] at hd
      refine .inr (.inr (.inr ⟨a, s, b, t, rfl, rfl, ?_⟩))
      rcases Nat.lt_trichotomy a b with h | h | h
      · left
        refine ⟨h, ?_⟩
        rw [hd, List.map_cons, List.map_cons, cmpL, if_pos (by omega)]
      · exact .inr (.inr h)
      · right; left
        refine ⟨h, ?_⟩
        rw [hd, List.map_cons, List.map_cons, cmpL, if_neg (by omega), if_pos (by omega)]
end
end Go.Proofs.Ytdjhfndoheoljaa
