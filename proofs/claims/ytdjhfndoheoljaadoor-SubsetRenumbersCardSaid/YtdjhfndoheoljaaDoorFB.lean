/- Sets of states that edges close; trimmed automata. Plain mathematics, nothing of the program. -/
import Derived.Test.YtdjhfndoheoljaaDoorFA
namespace Go.Proofs.YtdjhfndoheoljaaDoor.Nf
open Go Go.RowKit Go.Proofs.YtdjhfndoheoljaaDoor
set_option linter.unusedVariables false
/-- The states that edges lead to from those of st. -/
inductive Rc (l : List Ed) (st : List Int) : Int → Prop
  | base {z : Int} (h : z ∈ st) : Rc l st z
  | step {e : Ed} (h : e ∈ l) (hr : Rc l st e.fr) : Rc l st e.to
/-- The canonical words of a set of numbers. -/
def IsSet (xs : List Nat) (P : Int → Prop) : Prop := canon xs = xs ∧ U64 xs ∧ ∀ z, hasB xs z = true ↔ P z
theorem has_nat {xs : List Nat} {k : Nat} (h : k < 4096) : hasB xs (k : Int) = mem xs k := by
  unfold hasB
  rw [decide_eq_true (by omega), Int.toNat_natCast, Bool.true_and]
theorem IsSet.unique {xs ys : List Nat} {P : Int → Prop} (hx : IsSet xs P) (hy : IsSet ys P) : xs = ys := by
  rw [← hx.1, ← hy.1]
  refine canon_ext ((eqB_iff _ _).1 ((eqB_mem hx.2.1 hy.2.1).2 fun k hk => ?_))
  rw [← has_nat hk, ← has_nat hk, Bool.eq_iff_iff, hx.2.2, hy.2.2]
theorem IsSet.congr {xs : List Nat} {P Q : Int → Prop} (hx : IsSet xs P) (h : ∀ z, P z ↔ Q z) : IsSet xs Q := ⟨hx.1, hx.2.1, fun z => (hx.2.2 z).trans (h z)⟩
theorem IsSet.len {xs : List Nat} {P : Int → Prop} (hx : IsSet xs P) : xs.length ≤ 64 := by
  have h := canon_len xs
  rw [hx.1] at h
  have := ulen_le64 xs
  omega
theorem eqB_has {xs ys : List Nat} (ux : U64 xs) (uy : U64 ys) : eqB xs ys = true ↔ ∀ z, hasB xs z = true ↔ hasB ys z = true := by
  rw [eqB_mem ux uy]
  constructor
  · intro h z
    unfold hasB
    rw [Bool.and_eq_true, Bool.and_eq_true, decide_eq_true_iff]
    constructor
    · rintro ⟨h1, h2⟩; exact ⟨h1, by rw [← h _ (by omega)]; exact h2⟩
    · rintro ⟨h1, h2⟩; exact ⟨h1, by rw [h _ (by omega)]; exact h2⟩
  · intro h k hk
    have := h (k : Int)
    rw [has_nat hk, has_nat hk] at this
    rw [Bool.eq_iff_iff]
    exact this
theorem has_or {xs ys : List Nat} (z : Int) : hasB (canon (zipW (· ||| ·) xs ys)) z = (hasB xs z || hasB ys z) := by
  unfold hasB
  by_cases h : 0 ≤ z ∧ z ≤ 4095
  · rw [mem_or (by omega), decide_eq_true h]; simp
  · rw [decide_eq_false h]; rfl
theorem has_and {xs ys : List Nat} (z : Int) : hasB (canon (zipW (· &&& ·) xs ys)) z = (hasB xs z && hasB ys z) := by
  unfold hasB
  by_cases h : 0 ≤ z ∧ z ≤ 4095
  · rw [mem_and (by omega), decide_eq_true h]; simp
  · rw [decide_eq_false h]; simp
theorem u64_or {xs ys : List Nat} (ux : U64 xs) (uy : U64 ys) : U64 (canon (zipW (· ||| ·) xs ys)) := u64_canon (u64_zip ux uy _ fun _ _ h h' => Nat.or_lt_two_pow h h')
theorem u64_and {xs ys : List Nat} (ux : U64 xs) (uy : U64 ys) : U64 (canon (zipW (· &&& ·) xs ys)) := u64_canon (u64_zip ux uy _ fun _ _ h h' => Nat.lt_of_le_of_lt Nat.and_le_left h)
section
variable {n : Na}
theorem rc_in (h : Ok n) {z : Int} (hz : Rc n.es n.st z) : 0 ≤ z ∧ z < n.S := by
  cases hz with
  | base h1 => exact asc_in h.st h1
  | step h1 _ => exact (edE_in (h.ed _ h1)).2.1
/-- A set that holds Start and is closed, and whose elements are all reached, is the set of what is reached. -/
theorem rc_set (h : Ok n) {xs : List Nat} (hc : canon xs = xs) (ux : U64 xs) (h1 : ∀ z, hasB xs z = true → Rc n.es n.st z) (h2 : ∀ z ∈ n.st, hasB xs z = true) (h3 : ∀ e ∈ n.es, hasB xs e.fr = true → hasB xs e.to = true) : IsSet xs (Rc n.es n.st) := by
  refine ⟨hc, ux, fun z => ⟨h1 z, fun hz => ?_⟩⟩
  induction hz with
  | base h4 => exact h2 _ h4
  | step h4 _ ih => exact h3 _ h4 ih
/-- The number of states that are not in a set. -/
def miss (n : Na) (xs : List Nat) : Nat := ((List.range n.S.toNat).filter fun (k : Nat) => !hasB xs (k : Int)).length
theorem filter_lt {p q : Nat → Bool} : ∀ {l : List Nat}, (∀ x ∈ l, p x = true → q x = true) → (∃ x ∈ l, q x = true ∧ p x = false) → (l.filter p).length < (l.filter q).length
  | [], _, ⟨_, h, _⟩ => by cases h
  | a :: l, h, ⟨x, hx, h1, h2⟩ => by
    have hle : (l.filter p).length ≤ (l.filter q).length := by
      clear hx h1 h2
      have h' : ∀ x ∈ l, p x = true → q x = true := fun y hy => h y (List.mem_cons_of_mem _ hy)
      clear h
      induction l with
      | nil => exact Nat.le_refl _
      | cons b l ih =>
        have ih' := ih fun y hy => h' y (List.mem_cons_of_mem _ hy)
        have hb := h' b List.mem_cons_self
        rw [List.filter_cons, List.filter_cons]
        cases hp : p b <;> cases hq : q b
        · simpa using ih'
        · simp; omega
        · rw [hq] at hb; exact absurd (hb hp) (by simp)
        · simpa using ih'
    have ha := h a List.mem_cons_self
    rw [List.filter_cons, List.filter_cons]
    rcases List.mem_cons.1 hx with rfl | hx
    · rw [if_neg (by rw [h2]; simp), if_pos h1]
      simp; omega
    · have ih := filter_lt (fun y hy => h y (List.mem_cons_of_mem _ hy)) ⟨x, hx, h1, h2⟩
      cases hp : p a <;> cases hq : q a
      · simpa using ih
      · simp; omega
      · rw [hq] at ha; exact absurd (ha hp) (by simp)
      · simpa using ih
theorem miss_lt {xs ys : List Nat} (h1 : ∀ z, hasB xs z = true → hasB ys z = true) {z : Int} (hz : 0 ≤ z ∧ z < n.S) (h2 : hasB xs z = false) (h3 : hasB ys z = true) : miss n ys < miss n xs := by
  unfold miss
  refine filter_lt (fun k _ hk => ?_) ⟨z.toNat, List.mem_range.2 (by omega), ?_, ?_⟩
  · cases hx : hasB xs (k : Int) with
    | false => rfl
    | true => rw [h1 _ hx] at hk; cases hk
  · rw [Int.toNat_of_nonneg hz.1, h2]; rfl
  · rw [Int.toNat_of_nonneg hz.1, h3]; rfl
/-- The set without repeats that a list of states is. -/
theorem ofL_set (hS : n.S ≤ 64) {l : List Int} (h : asc n.S l = true) : IsSet (ofL l) (· ∈ l) := ⟨ofL_canon l, u64_of l, fun z => has_st hS h⟩
/-- What is reached in one step more. -/
theorem rc_next {z : Int} : Rc n.es n.st z ↔ z ∈ n.st ∨ ∃ e ∈ n.es, Rc n.es n.st e.fr ∧ e.to = z := by
  constructor
  · intro h
    cases h with
    | base h => exact .inl h
    | step h h1 => exact .inr ⟨_, h, h1, rfl⟩
  · rintro (h | ⟨e, he, h, rfl⟩)
    · exact .base h
    · exact .step he h
/-- Every valid edge has a letter. -/
theorem edge_letter (h : Ok n) {e : Ed} (he : e ∈ n.es) : e.p < 2 ^ n.V.toNat ∧ cHas e.p e.q e.p = true := by
  have hc := (edE_in (h.ed e he)).2.2
  obtain ⟨v, hv, hC⟩ := chk_ok hc
  rw [hv] at hc
  rw [chk_in v (by have := h.v6; omega)] at hc
  by_cases h1 : 2 ^ v ≤ e.p ∨ 2 ^ v ≤ e.q
  · rw [if_pos h1] at hc; cases hc
  · rw [if_neg h1] at hc
    by_cases h2 : e.p &&& e.q = 0
    · rw [hv, Int.toNat_natCast]
      refine ⟨by omega, ?_⟩
      unfold cHas
      rw [Nat.and_self, h2]
      simp
    · rw [if_neg h2] at hc; cases hc
/-- The set that letters below X lead to from r, together with Start. -/
def upTo (n : Na) (r : List Nat) : Nat → List Nat
  | 0 => ofL n.st
  | k + 1 => canon (zipW (· ||| ·) (upTo n r k) (stepW n.es r k))
theorem u64_upTo (n : Na) (r : List Nat) : ∀ k, U64 (upTo n r k)
  | 0 => u64_of _
  | k + 1 => u64_or (u64_upTo n r k) (u64_step _ _ _)
theorem has_upTo (h : Ok n) {r : List Nat} : ∀ {k : Nat} {z : Int}, hasB (upTo n r k) z = true ↔ z ∈ n.st ∨ ∃ x, x < k ∧ hasB (stepW n.es r x) z = true
  | 0, z => by
    show hasB (ofL n.st) z = true ↔ _
    rw [has_st h.s64 h.st]
    exact ⟨.inl, fun h => h.elim id fun ⟨x, hx, _⟩ => absurd hx (by omega)⟩
  | k + 1, z => by
    show hasB (canon (zipW (· ||| ·) (upTo n r k) (stepW n.es r k))) z = true ↔ _
    rw [has_or, Bool.or_eq_true, has_upTo h]
    constructor
    · rintro ((h1 | ⟨x, hx, h1⟩) | h1)
      · exact .inl h1
      · exact .inr ⟨x, by omega, h1⟩
      · exact .inr ⟨k, by omega, h1⟩
    · rintro (h1 | ⟨x, hx, h1⟩)
      · exact .inl (.inl h1)
      · rcases Nat.lt_or_eq_of_le (Nat.le_of_lt_succ hx) with h2 | rfl
        · exact .inl (.inr ⟨x, h2, h1⟩)
        · exact .inr h1
theorem upTo_rc (h : Ok n) {r : List Nat} (hr : IsSet r (Rc n.es n.st)) : eqB (upTo n r (2 ^ n.V.toNat)) r = true := by
  rw [eqB_has (u64_upTo _ _ _) hr.2.1]
  intro z
  rw [has_upTo h, hr.2.2, rc_next]
  constructor
  · rintro (h1 | ⟨x, hx, h1⟩)
    · exact .inl h1
    · obtain ⟨e, he, _, h2, h3⟩ := (has_step h.ed h.s64).1 h1
      exact .inr ⟨e, he, (hr.2.2 _).1 h2, h3⟩
  · rintro (h1 | ⟨e, he, h1, h2⟩)
    · exact .inl h1
    · obtain ⟨h3, h4⟩ := edge_letter h he
      exact .inr ⟨e.p, h3, (has_step h.ed h.s64).2 ⟨e, he, h4, (hr.2.2 _).2 h1, h2⟩⟩
theorem pcs_rc (h : Ok n) {z : Int} : Rc n.es n.st z ↔ ∃ w, ∃ p ∈ n.st, Path n.es w p z := by
  constructor
  · intro hz
    induction hz with
    | base h1 => exact ⟨[], _, h1, rfl⟩
    | @step e h1 _ ih =>
      obtain ⟨w, p, hp, hP⟩ := ih
      exact ⟨w ++ [e.p], p, hp, path_app.2 ⟨e.fr, hP, e, h1, (edge_letter h h1).2, rfl, rfl⟩⟩
  · rintro ⟨w, p, hp, hP⟩
    have gen : ∀ (w : List Nat) (p : Int), Rc n.es n.st p → Path n.es w p z → Rc n.es n.st z := by
      intro w
      induction w with
      | nil => intro p hp hP; cases hP; exact hp
      | cons x w ih =>
        rintro p hp ⟨e, he, h1, rfl, h3⟩
        exact ih e.to (.step he hp) h3
    exact gen w p (.base hp) hP
end
end Go.Proofs.YtdjhfndoheoljaaDoor.Nf
