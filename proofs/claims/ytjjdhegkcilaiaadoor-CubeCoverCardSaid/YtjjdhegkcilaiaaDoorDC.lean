/- The reference's way to the prime cubes: plain facts on numbers and lists. -/
import Derived.Test.YtjjdhegkcilaiaaDoorDB
namespace Go.Proofs.YtjjdhegkcilaiaaDoor
open Go Go.RowKit
theorem sorted_ext : ∀ (a b : List Nat), a.Pairwise (· < ·) → b.Pairwise (· < ·) → (∀ x, x ∈ a ↔ x ∈ b) → a = b
  | [], [], _, _, _ => rfl
  | [], y :: b, _, _, h => by have := (h y).2 List.mem_cons_self; cases this
  | x :: a, [], _, _, h => by have := (h x).1 List.mem_cons_self; cases this
  | x :: a, y :: b, ha, hb, h => by
    rw [List.pairwise_cons] at ha hb
    have hxy : x = y := by
      have h1 := (h x).1 List.mem_cons_self
      have h2 := (h y).2 List.mem_cons_self
      rcases List.mem_cons.1 h1 with e | e1
      · exact e
      · rcases List.mem_cons.1 h2 with e | e2
        · exact e.symm
        · have := ha.1 y e2
          have := hb.1 x e1
          omega
    subst hxy
    congr 1
    refine sorted_ext a b ha.2 hb.2 fun z => ?_
    constructor
    · intro hz
      rcases List.mem_cons.1 ((h z).1 (List.mem_cons_of_mem _ hz)) with e | e
      · have := ha.1 z hz; omega
      · exact e
    · intro hz
      rcases List.mem_cons.1 ((h z).2 (List.mem_cons_of_mem _ hz)) with e | e
      · have := hb.1 z hz; omega
      · exact e
theorem asc_pairwise {l : List Nat} {v : Nat} (h : ascL l v = true) : l.Pairwise (· < ·) := by
  rw [List.pairwise_iff_getElem]
  have step : ∀ i, i + 1 < l.length → wd l i < wd l (i + 1) := fun i hi => by
    have := (allB_iff _ _).1 h (i + 1) hi
    unfold okAt at this
    simp at this
    exact this.2
  have all : ∀ d i, i + d + 1 < l.length → wd l i < wd l (i + d + 1) := by
    intro d
    induction d with
    | zero => exact fun i hi => step i hi
    | succ d ih => exact fun i hi => Nat.lt_trans (ih i (by omega)) (step (i + d + 1) (by omega))
  intro i j hi hj hij
  have := all (j - i - 1) i (by omega)
  rw [show i + (j - i - 1) + 1 = j by omega] at this
  simpa [wd, hi, hj] using this
theorem inside_len {l : List Nat} {v : Nat} (h : ascL l v = true) (p q : Nat) : decide ((l.filter (cHas p q)).length = (letTo p q (2 ^ v)).length) = insB (fun x => decide (x ∈ l)) v p q := by
  have e : l.filter (cHas p q) = (letTo p q (2 ^ v)).filter (fun x => decide (x ∈ l)) := by
    refine sorted_ext _ _ (List.Pairwise.filter _ (asc_pairwise h)) (List.Pairwise.filter _ (List.Pairwise.filter _ List.pairwise_lt_range)) fun x => ?_
    rw [List.mem_filter, List.mem_filter, mem_letTo, decide_eq_true_iff]
    exact ⟨fun ⟨h1, h2⟩ => ⟨⟨ascL_lt h x h1, h2⟩, h1⟩, fun ⟨⟨_, h2⟩, h1⟩ => ⟨h1, h2⟩⟩
  rw [e, Bool.eq_iff_iff, decide_eq_true_iff, List.length_filter_eq_length_iff, insB_iff]
  exact ⟨fun h x hx hc => h x (mem_letTo.2 ⟨hx, hc⟩), fun h x hx => h x (mem_letTo.1 hx).1 (mem_letTo.1 hx).2⟩
/-- The cubes inside the letters, up to row m. -/
def insTo (g : Nat → Bool) (v m : Nat) : List (Nat × Nat) := (cubesTo v m).filter fun c => insB g v c.1 c.2
/-- The part of row p up to k. -/
def rowTo (g : Nat → Bool) (v p k : Nat) : List (Nat × Nat) := (((List.range k).filter fun q => p &&& q == 0).map fun q => (p, q)).filter fun c => insB g v c.1 c.2
theorem insTo_succ (g : Nat → Bool) (v m : Nat) : insTo g v (m + 1) = insTo g v m ++ rowTo g v m (2 ^ v) := by
  unfold insTo rowTo cubesTo
  rw [List.range_succ, List.flatMap_append, List.filter_append]
  simp
theorem rowTo_succ (g : Nat → Bool) (v p k : Nat) : rowTo g v p (k + 1) = if (p &&& k == 0) && insB g v p k then rowTo g v p k ++ [(p, k)] else rowTo g v p k := by
  unfold rowTo
  rw [List.range_succ, List.filter_append, List.map_append, List.filter_append]
  cases h1 : (p &&& k == 0) with
  | false => simp [h1]
  | true =>
    cases h2 : insB g v p k with
    | false => simp [h1, h2]
    | true => simp [h1, h2]
theorem insTo_all (g : Nat → Bool) (v : Nat) : insTo g v (2 ^ v) = allR g v := rfl
theorem cubesTo_len (v : Nat) : ∀ m, (cubesTo v m).length ≤ m * 2 ^ v := by
  intro m
  induction m with
  | zero => simp [cubesTo]
  | succ m ih =>
    have he : cubesTo v (m + 1) = cubesTo v m ++ (((List.range (2 ^ v)).filter fun q => m &&& q == 0).map fun q => (m, q)) := by
      unfold cubesTo
      rw [List.range_succ, List.flatMap_append]
      simp
    rw [he, List.length_append, List.length_map, Nat.succ_mul]
    have := List.length_filter_le (fun q => m &&& q == 0) (List.range (2 ^ v))
    rw [List.length_range] at this
    omega
theorem insTo_len (g : Nat → Bool) (v m : Nat) : (insTo g v m).length ≤ m * 2 ^ v := Nat.le_trans (List.length_filter_le _ _) (cubesTo_len v m)
theorem rowTo_len (g : Nat → Bool) (v p k : Nat) : (rowTo g v p k).length ≤ k := by
  unfold rowTo
  refine Nat.le_trans (List.length_filter_le _ _) ?_
  rw [List.length_map]
  refine Nat.le_trans (List.length_filter_le _ _) ?_
  rw [List.length_range]; exact Nat.le_refl _
/-- A cube of the list is covered by another one, as the reference finds it. -/
theorem prime_any {l : List (Nat × Nat)} (hp : l.Pairwise Lx) {i : Nat} (hi : i < l.length) : (!anyB (fun k => decide (k ≠ i) && covB (cd l k) (cd l i)) l.length) = primeR l (cd l i) := by
  have hne : ∀ k, k < l.length → (cd l k = cd l i ↔ k = i) := by
    intro k hk
    constructor
    · intro e
      apply Classical.byContradiction
      intro hn
      have key : ∀ a b, a < b → b < l.length → cd l a ≠ cd l b := fun a b h1 h2 e => by
        have := List.pairwise_iff_getElem.1 hp a b (by omega) h2 h1
        unfold cd at e
        rw [List.getD_eq_getElem?_getD, List.getD_eq_getElem?_getD, List.getElem?_eq_getElem (by omega), List.getElem?_eq_getElem h2] at e
        simp only [Option.getD_some] at e
        rw [e] at this
        unfold Lx at this
        omega
      rcases Nat.lt_or_gt_of_ne hn with h | h
      · exact key _ _ h hi e
      · exact key _ _ h hk e.symm
    · rintro rfl; rfl
  unfold primeR
  congr 1
  rw [Bool.eq_iff_iff, anyB_iff, List.any_eq_true]
  constructor
  · rintro ⟨k, hk, h⟩
    rw [Bool.and_eq_true, decide_eq_true_iff] at h
    refine ⟨cd l k, cd_mem hk, ?_⟩
    rw [h.2, beq_eq_false_iff_ne.2 (fun e => h.1 ((hne k hk).1 e))]
    rfl
  · rintro ⟨d, hd, h⟩
    obtain ⟨k, hk, rfl⟩ := cd_of_mem hd
    refine ⟨k, hk, ?_⟩
    rw [Bool.and_eq_true] at h
    have hk2 : k ≠ i := fun e => by
      have := h.1
      rw [e] at this
      simp at this
    rw [h.2, decide_eq_true hk2]
    rfl
theorem insTo_asc (g : Nat → Bool) (v m : Nat) : (insTo g v m).Pairwise Lx := List.Pairwise.filter _ (cubesTo_asc v m)
theorem insTo_cube {g : Nat → Bool} {v : Nat} (hv : v ≤ 6) {c : Nat × Nat} (h : c ∈ insTo g v (2 ^ v)) : Cube c.1 c.2 v := (mem_cubes hv).1 (List.mem_filter.1 h).1
end Go.Proofs.YtjjdhegkcilaiaaDoor
