/- The prime cubes of a list of letters: order, coverage, maximality; plain facts on numbers and lists. -/
import Derived.Test.YtjjdhegkcilaiaaDoorDA
import Derived.Test.YtjjdhegkcilaiaaDoorCO
namespace Go.Proofs.YtjjdhegkcilaiaaDoor
open Go Go.RowKit
/-- Some number below n satisfies f. -/
def anyB (f : Nat → Bool) : Nat → Bool
  | 0 => false
  | n + 1 => anyB f n || f n
theorem anyB_iff (f : Nat → Bool) : ∀ n, anyB f n = true ↔ ∃ i, i < n ∧ f i = true
  | 0 => by simp [anyB]
  | n + 1 => by
    simp only [anyB, Bool.or_eq_true, anyB_iff f n]
    constructor
    · rintro (⟨i, hi, h⟩ | h)
      · exact ⟨i, by omega, h⟩
      · exact ⟨n, by omega, h⟩
    · rintro ⟨i, hi, h⟩
      rcases Nat.lt_or_eq_of_le (Nat.le_of_lt_succ hi) with h1 | rfl
      · exact .inl ⟨i, h1, h⟩
      · exact .inr h
theorem cd_mem {L : List (Nat × Nat)} {i : Nat} (h : i < L.length) : cd L i ∈ L := by
  unfold cd
  rw [List.getD_eq_getElem?_getD, List.getElem?_eq_getElem h]
  exact List.getElem_mem h
theorem cd_of_mem {L : List (Nat × Nat)} {c : Nat × Nat} (h : c ∈ L) : ∃ i, i < L.length ∧ cd L i = c := by
  obtain ⟨i, hi, rfl⟩ := List.mem_iff_getElem.1 h
  refine ⟨i, hi, ?_⟩
  unfold cd
  rw [List.getD_eq_getElem?_getD, List.getElem?_eq_getElem hi]; rfl
/-- The order of the cubes. -/
def Lx (a b : Nat × Nat) : Prop := a.1 < b.1 ∨ a.1 = b.1 ∧ a.2 < b.2
theorem cubesTo_asc (v : Nat) : ∀ m, (cubesTo v m).Pairwise Lx := by
  intro m
  induction m with
  | zero => exact List.Pairwise.nil
  | succ m ih =>
    have he : cubesTo v (m + 1) = cubesTo v m ++ (((List.range (2 ^ v)).filter fun q => m &&& q == 0).map fun q => (m, q)) := by
      unfold cubesTo
      rw [List.range_succ, List.flatMap_append]
      simp
    rw [he, List.pairwise_append]
    refine ⟨ih, ?_, ?_⟩
    · rw [List.pairwise_map]
      refine List.Pairwise.filter _ ?_
      refine List.Pairwise.imp ?_ List.pairwise_lt_range
      intro a b h
      exact .inr ⟨rfl, h⟩
    · intro a ha b hb
      obtain ⟨q, _, rfl⟩ := List.mem_map.1 hb
      obtain ⟨a1, a2⟩ := a
      exact .inl (mem_cubesTo.1 ha).1
theorem cover_asc (l : List Nat) (v : Nat) {i j : Nat} (hij : i < j) (hj : j < (coverL l v).length) : Lx (cd (coverL l v) i) (cd (coverL l v) j) := by
  have hp : (coverL l v).Pairwise Lx := List.Pairwise.filter _ (cubesTo_asc v _)
  have := List.pairwise_iff_getElem.1 hp i j (by omega) hj hij
  unfold cd
  rwa [List.getD_eq_getElem?_getD, List.getD_eq_getElem?_getD, List.getElem?_eq_getElem (by omega), List.getElem?_eq_getElem hj]
theorem cover_cube {l : List Nat} {v : Nat} (hv : v ≤ 6) {c : Nat × Nat} (h : c ∈ coverL l v) : Cube c.1 c.2 v := (mem_cubes hv).1 ((List.mem_filter.1 h).1)
theorem cover_prime {l : List Nat} {v : Nat} {c : Nat × Nat} (h : c ∈ coverL l v) : insB (fun x => decide (x ∈ l)) v c.1 c.2 = true ∧ ((lits c.1 c.2).any fun l' => insB (fun x => decide (x ∈ l)) v (wo c.1 l'.1) (wo c.2 l'.1)) = false := by
  have := (List.mem_filter.1 h).2
  unfold primeB at this
  simpa using this
theorem cover_alone {l : List Nat} {v : Nat} (hv : v ≤ 6) {i k : Nat} (hi : i < (coverL l v).length) (hk : k < (coverL l v).length) (hne : k ≠ i) : covB (cd (coverL l v) k) (cd (coverL l v) i) = false := by
  have hd : cd (coverL l v) k ≠ cd (coverL l v) i := by
    intro e
    rcases Nat.lt_or_gt_of_ne hne with h | h
    · have := cover_asc l v h hi
      rw [e] at this
      unfold Lx at this
      omega
    · have := cover_asc l v h hk
      rw [e] at this
      unfold Lx at this
      omega
  have hm := cd_mem hi
  have hmk := cd_mem hk
  have hr : ∀ c, c ∈ coverL l v → c ∈ (allR (fun x => decide (x ∈ l)) v).filter (primeR (allR (fun x => decide (x ∈ l)) v)) := fun c hc => by
    rw [primes_ref _ hv]; exact hc
  have h1 := (List.mem_filter.1 (hr _ hm)).2
  have h2 := (List.mem_filter.1 (hr _ hmk)).1
  unfold primeR at h1
  rw [Bool.not_eq_true', List.any_eq_false] at h1
  have := h1 _ h2
  cases hc : covB (cd (coverL l v) k) (cd (coverL l v) i) with
  | false => rfl
  | true =>
    exfalso
    apply this
    rw [hc, beq_eq_false_iff_ne.2 hd]
    rfl
theorem cover_letters {l : List Nat} {v : Nat} (hv : v ≤ 6) {x : Nat} (hx : x < 2 ^ v) : anyB (fun i => cHas (cd (coverL l v) i).1 (cd (coverL l v) i).2 x) (coverL l v).length = decide (x ∈ l) := by
  rw [Bool.eq_iff_iff, anyB_iff, decide_eq_true_iff]
  constructor
  · rintro ⟨i, hi, h⟩
    have := (insB_iff _ _ _ _).1 (cover_prime (cd_mem hi)).1 x hx h
    simpa using this
  · intro hm
    have h63 : x < 2 ^ v := hx
    have hq : ∀ b, (2 ^ v - 1 - x).testBit b = (decide (b < v) && !x.testBit b) := fun b => by
      have : 2 ^ v - 1 - x = 2 ^ v - (x + 1) := by omega
      rw [this, Nat.testBit_two_pow_sub_succ hx]
    have hC : Cube x (2 ^ v - 1 - x) v := by
      refine ⟨hv, hx, by have : 0 < 2 ^ v := Nat.pow_pos (by decide); omega, ?_⟩
      apply Nat.eq_of_testBit_eq
      intro b
      rw [Nat.testBit_and, hq, Nat.zero_testBit]
      cases x.testBit b <;> simp
    have hh : ∀ y, y < 2 ^ v → cHas x (2 ^ v - 1 - x) y = true → y = x := by
      intro y hy h
      obtain ⟨h1, h2⟩ := (cHas_iff _ _ _).1 h
      apply Nat.eq_of_testBit_eq
      intro b
      cases hb : x.testBit b with
      | true => exact h1 b hb
      | false =>
        by_cases hbv : b < v
        · exact h2 b (by rw [hq, hb]; simp [hbv])
        · exact Nat.testBit_lt_two_pow (Nat.lt_of_lt_of_le hy (Nat.pow_le_pow_right (by decide) (by omega)))
    obtain ⟨c, hc, hcx⟩ := prime_ex (g := fun y => decide (y ∈ l)) (v := v) (x := x) _ x (2 ^ v - 1 - x) rfl hC
      ((insB_iff _ _ _ _).2 fun y hy h => by rw [hh y hy h]; exact decide_eq_true hm)
      ((cHas_iff _ _ _).2 ⟨fun b h => h, fun b h => by rw [hq] at h; simp at h; exact h.2⟩)
    obtain ⟨i, hi, he⟩ := cd_of_mem (L := coverL l v) hc
    exact ⟨i, hi, by rw [he]; exact hcx⟩
theorem wo_same {p k : Nat} (hp : p < 256) (hk : k < 8) (h : p.testBit k = false) : wo p k = p := by
  apply Nat.eq_of_testBit_eq
  intro b
  rw [wo_bit hp hk]
  by_cases e : k = b
  · subst e; simp [h]
  · simp [e]
theorem cover_max {l : List Nat} {v : Nat} (hv : v ≤ 6) {p q : Nat} (h : (p, q) ∈ coverL l v) {k : Nat} (hk : k < v) :
    ((((wo p k : Nat) : Int) == (p : Int)) && (((wo q k : Nat) : Int) == (q : Int)) || anyB (fun x => cHas (wo p k) (wo q k) x && !decide (x ∈ l)) (2 ^ v)) = true := by
  have hC := cover_cube hv h
  have hlt := hC.lt
  simp only at hlt
  cases hb : litB p q k with
  | false =>
    rw [litB_or, Bool.or_eq_false_iff] at hb
    rw [wo_same (by omega) (by omega) hb.1, wo_same (by omega) (by omega) hb.2]
    simp
  | true =>
    have h2 := (cover_prime h).2
    rw [List.any_eq_false] at h2
    have h3 := h2 (k, p.testBit k) (mem_lits.2 ⟨by simp only; omega, hb, rfl⟩)
    simp only at h3
    rw [Bool.or_eq_true]
    right
    rw [insB_iff] at h3
    rw [anyB_iff]
    apply Classical.byContradiction
    intro hn
    apply h3
    intro x hx hc
    apply Classical.byContradiction
    intro hg
    exact hn ⟨x, hx, by rw [hc]; simpa using hg⟩
end Go.Proofs.YtjjdhegkcilaiaaDoor
