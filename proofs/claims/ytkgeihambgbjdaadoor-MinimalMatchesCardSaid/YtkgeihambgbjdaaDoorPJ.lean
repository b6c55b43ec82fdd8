/- Words that tell states apart: their order, their lengths, the number of rounds. Plain mathematics, nothing of the program. -/
import Derived.Test.YtkgeihambgbjdaaDoorPI
import Derived.Test.YtkgeihambgbjdaaDoorIY
namespace Go.Proofs.YtkgeihambgbjdaaDoor.Mi
open Go.Proofs.YtkgeihambgbjdaaDoor Go.Proofs.YtkgeihambgbjdaaDoor.Sb
set_option linter.unusedVariables false
set_option linter.unusedSectionVars false
section
variable (L : Nat)
/-- The number of the word of k letters 0, going on from c. -/
def ex0 (c : Nat) : Nat → Nat
  | 0 => c
  | k + 1 => ex0 (c * L + 1) k
theorem ex0_mono {a b : Nat} : ∀ {k : Nat}, a ≤ b → ex0 L a k ≤ ex0 L b k
  | 0, h => h
  | k + 1, h => ex0_mono (k := k) (Nat.add_le_add_right (Nat.mul_le_mul_right L h) 1)
theorem ex0_more (hL : 0 < L) {c : Nat} : ∀ {k m : Nat}, k ≤ m → ex0 L c k ≤ ex0 L c m
  | 0, m, _ => by
    induction m generalizing c with
    | zero => exact Nat.le_refl _
    | succ m ih =>
      have h1 : c ≤ c * L + 1 := by have := Nat.le_mul_of_pos_right c hL; omega
      exact Nat.le_trans h1 (ih (c := c * L + 1) (by omega))
  | k + 1, 0, h => by omega
  | k + 1, m + 1, h => ex0_more hL (c := c * L + 1) (k := k) (m := m) (by omega)
theorem ext_ge0 : ∀ (u : List Nat) (c : Nat), ex0 L c u.length ≤ ext L c u
  | [], c => Nat.le_refl _
  | x :: u, c => Nat.le_trans (ex0_mono L (k := u.length) (show c * L + 1 ≤ c * L + x + 1 by omega)) (ext_ge0 u (c * L + x + 1))
theorem ext_lt0 : ∀ (u : List Nat) (c : Nat), (∀ y ∈ u, y < L) → ext L c u < ex0 L (c + 1) u.length
  | [], c, _ => Nat.lt_succ_self c
  | x :: u, c, h => by
    have h1 := ext_lt0 u (c * L + x + 1) fun y hy => h y (List.mem_cons_of_mem _ hy)
    have h2 : x < L := h x List.mem_cons_self
    have h3 : (c + 1) * L = c * L + L := by rw [Nat.add_mul, Nat.one_mul]
    exact Nat.lt_of_lt_of_le h1 (ex0_mono L (k := u.length) (show c * L + x + 1 + 1 ≤ (c + 1) * L + 1 by omega))
/-- A shorter word has a smaller number. -/
theorem ext_short (hL : 0 < L) {u v : List Nat} (hu : ∀ y ∈ u, y < L) (h : u.length < v.length) : ext L 0 u < ext L 0 v := by
  have h1 := ext_lt0 L u 0 hu
  have h2 : ex0 L 0 (u.length + 1) ≤ ex0 L 0 v.length := ex0_more L hL (by omega)
  have h3 : ex0 L 0 (u.length + 1) = ex0 L (0 + 1) u.length := by show ex0 L (0 * L + 1) _ = _; rw [Nat.zero_mul]
  have h4 := ext_ge0 L v 0
  omega
/-- A word that comes first letter by letter has a smaller number. -/
theorem ext_lex {x y : Nat} (hxy : x < y) {a b : List Nat} (ha : ∀ z ∈ a, z < L) (hab : a.length = b.length) : ∀ (p : List Nat) (c : Nat), ext L c (p ++ x :: a) < ext L c (p ++ y :: b)
  | [], c => by
    show ext L (c * L + x + 1) a < ext L (c * L + y + 1) b
    have h1 := ext_lt0 L a (c * L + x + 1) ha
    have h2 : ex0 L (c * L + x + 1 + 1) a.length ≤ ex0 L (c * L + y + 1) b.length := by rw [hab]; exact ex0_mono L (by omega)
    have h3 := ext_ge0 L b (c * L + y + 1)
    omega
  | z :: p, c => ext_lex hxy ha hab p (c * L + z + 1)
/-- Two words of the same number are the same. -/
theorem ext_inj (hL : 0 < L) : ∀ {u v : List Nat}, (∀ y ∈ u, y < L) → (∀ y ∈ v, y < L) → ext L 0 u = ext L 0 v → u = v := by
  intro u v hu hv h
  have hl : u.length = v.length := by
    rcases Nat.lt_trichotomy u.length v.length with h1 | h1 | h1
    · have := ext_short L hL hu h1; omega
    · exact h1
    · have := ext_short L hL hv h1; omega
  have key : ∀ (u v : List Nat) (c : Nat), u.length = v.length → (∀ y ∈ u, y < L) → (∀ y ∈ v, y < L) → ext L c u = ext L c v → u = v := by
    intro u
    induction u with
    | nil => intro v c h1 _ _ _; exact (List.eq_nil_of_length_eq_zero h1.symm).symm
    | cons x u ih =>
      intro v c h1 h2 h3 h4
      cases v with
      | nil => simp at h1
      | cons y v =>
        have hlen : u.length = v.length := by simpa using h1
        have hux : ∀ z ∈ u, z < L := fun z hz => h2 z (List.mem_cons_of_mem _ hz)
        have hvx : ∀ z ∈ v, z < L := fun z hz => h3 z (List.mem_cons_of_mem _ hz)
        rcases Nat.lt_trichotomy x y with e | e | e
        · have := ext_lex L e (a := u) (b := v) hux hlen [] c
          simp only [List.nil_append] at this
          omega
        · subst e
          rw [ih v (c * L + x + 1) hlen hux hvx h4]
        · have := ext_lex L e (a := v) (b := u) hvx hlen.symm [] c
          simp only [List.nil_append] at this
          omega
  exact key u v 0 hl hu hv h
end
section
variable (n L : Nat) (δ : Nat → Nat → Nat) (f : Nat → Bool)
/-- What te says: a word of at most k letters tells the states apart. -/
theorem te_word : ∀ (k s t : Nat), te L δ f k s t = true ↔ ∃ u : List Nat, u.length ≤ k ∧ (∀ y ∈ u, y < L) ∧ f (runW δ s u) ≠ f (runW δ t u)
  | 0, s, t => by
    show (f s != f t) = true ↔ _
    rw [bne_iff_ne]
    constructor
    · intro h
      exact ⟨[], Nat.le_refl _, (fun y hy => by cases hy), h⟩
    · rintro ⟨u, h1, _, h2⟩
      rw [List.eq_nil_of_length_eq_zero (by omega : u.length = 0)] at h2
      exact h2
  | k + 1, s, t => by
    show (te L δ f k s t || (List.range L).any fun x => te L δ f k (δ s x) (δ t x)) = true ↔ _
    rw [Bool.or_eq_true, List.any_eq_true]
    constructor
    · rintro (h | ⟨x, hx, h⟩)
      · obtain ⟨u, h1, h2, h3⟩ := (te_word k s t).1 h
        exact ⟨u, by omega, h2, h3⟩
      · obtain ⟨u, h1, h2, h3⟩ := (te_word k _ _).1 h
        refine ⟨x :: u, by simp; omega, fun y hy => ?_, h3⟩
        rcases List.mem_cons.1 hy with rfl | hy
        · exact List.mem_range.1 hx
        · exact h2 y hy
    · rintro ⟨u, h1, h2, h3⟩
      cases u with
      | nil => exact .inl ((te_word k s t).2 ⟨[], Nat.zero_le _, (fun y hy => by cases hy), h3⟩)
      | cons x u => exact .inr ⟨x, List.mem_range.2 (h2 x List.mem_cons_self), (te_word k _ _).2 ⟨u, by simpa using h1, fun y hy => h2 y (List.mem_cons_of_mem _ hy), h3⟩⟩
/-- The smallest states of the classes of k letters. -/
def reps (k : Nat) : List Nat := (List.range n).filter fun s => (List.range s).all fun t => te L δ f k s t
theorem mem_reps {k s : Nat} : s ∈ reps n L δ f k ↔ s < n ∧ ∀ t, t < s → te L δ f k s t = true := by
  unfold reps
  rw [List.mem_filter, List.mem_range, List.all_eq_true]
  exact and_congr Iff.rfl ⟨fun h t ht => h t (List.mem_range.2 ht), fun h t ht => h t (List.mem_range.1 ht)⟩
theorem te_up {k s t : Nat} (h : te L δ f k s t = true) : te L δ f (k + 1) s t = true := by
  cases h2 : te L δ f (k + 1) s t with
  | true => rfl
  | false => rw [te_less L δ f h2] at h; cases h
/-- The smallest state that k letters do not tell from s. -/
theorem te_rep (k : Nat) : ∀ s, s < n → ∃ r ∈ reps n L δ f k, r ≤ s ∧ te L δ f k s r = false := by
  intro s
  induction s using Nat.strongRecOn with
  | ind s ih =>
    intro hs
    by_cases h : ∀ t, t < s → te L δ f k s t = true
    · exact ⟨s, (mem_reps n L δ f).2 ⟨hs, h⟩, Nat.le_refl _, te_refl L δ f k s⟩
    · obtain ⟨t, h1⟩ := Classical.not_forall.1 h
      obtain ⟨ht, h2⟩ := Classical.not_imp.1 h1
      have h3 : te L δ f k s t = false := by simpa using h2
      obtain ⟨r, hr, hle, hrt⟩ := ih t ht (by omega)
      exact ⟨r, hr, by omega, te_trans L δ f h3 hrt⟩
theorem reps_le (k : Nat) : (reps n L δ f k).length ≤ (reps n L δ f (k + 1)).length := by
  by_cases h : ∃ a ∈ List.range n, ((List.range a).all fun t => te L δ f (k + 1) a t) = true ∧ ((List.range a).all fun t => te L δ f k a t) = false
  · exact Nat.le_of_lt (filter_len_lt (fun s hs => by
      rw [List.all_eq_true] at hs ⊢
      exact fun t ht => te_up L δ f (hs t ht)) _ h)
  · refine Nat.le_of_eq (congrArg List.length ?_)
    unfold reps
    refine List.filter_congr fun a ha => ?_
    cases h1 : (List.range a).all fun t => te L δ f k a t with
    | true =>
      rw [List.all_eq_true] at h1
      refine (List.all_eq_true.2 fun t ht => te_up L δ f (h1 t ht)).symm
    | false =>
      cases h2 : (List.range a).all fun t => te L δ f (k + 1) a t with
      | false => rfl
      | true => exact absurd ⟨a, ha, h2, h1⟩ h
/-- If a round adds no class, it tells nothing more apart. -/
theorem te_same {k : Nat} (h : (reps n L δ f (k + 1)).length ≤ (reps n L δ f k).length) {s t : Nat} (hs : s < n) (ht : t < n) (h0 : te L δ f k s t = false) : te L δ f (k + 1) s t = false := by
  cases h1 : te L δ f (k + 1) s t with
  | false => rfl
  | true =>
    exfalso
    have hsub : ∀ r, r ∈ reps n L δ f (k + 1) → r ∈ reps n L δ f k := fun r hr => by
      by_cases hk : r ∈ reps n L δ f k
      · exact hk
      · have hr' := (mem_reps n L δ f).1 hr
        have : (reps n L δ f k).length < (reps n L δ f (k + 1)).length := filter_len_lt (fun s hs => by
          rw [List.all_eq_true] at hs ⊢
          exact fun t ht => te_up L δ f (hs t ht)) _ ⟨r, List.mem_range.2 hr'.1, by
            rw [List.all_eq_true]
            exact fun t ht => hr'.2 t (List.mem_range.1 ht), by
            cases h2 : (List.range r).all fun t => te L δ f k r t with
            | false => rfl
            | true =>
              rw [List.all_eq_true] at h2
              exact absurd ((mem_reps n L δ f).2 ⟨hr'.1, fun t ht => h2 t (List.mem_range.2 ht)⟩) hk⟩
        omega
    obtain ⟨a, ha, _, ha2⟩ := te_rep n L δ f (k + 1) s hs
    obtain ⟨b, hb, _, hb2⟩ := te_rep n L δ f (k + 1) t ht
    have hab : te L δ f k a b = false := te_trans L δ f (te_symm L δ f (te_less L δ f ha2)) (te_trans L δ f h0 (te_less L δ f hb2))
    have ha3 := ((mem_reps n L δ f).1 (hsub a ha)).2
    have hb3 := ((mem_reps n L δ f).1 (hsub b hb)).2
    rcases Nat.lt_trichotomy a b with e | e | e
    · have h2 := hb3 a e
      rw [te_symm L δ f hab] at h2
      cases h2
    · subst e
      rw [te_trans L δ f ha2 (te_symm L δ f hb2)] at h1
      cases h1
    · have h2 := ha3 b e
      rw [hab] at h2
      cases h2
/-- There is a round below n that changes nothing. -/
theorem te_round (hn : 0 < n) : ∃ k, k < n ∧ (reps n L δ f (k + 1)).length ≤ (reps n L δ f k).length := by
  by_cases h : ∃ k, k < n ∧ (reps n L δ f (k + 1)).length ≤ (reps n L δ f k).length
  · exact h
  · exfalso
    have key : ∀ k, k ≤ n → k + 1 ≤ (reps n L δ f k).length := by
      intro k
      induction k with
      | zero =>
        intro _
        exact List.length_pos_of_mem ((mem_reps n L δ f).2 ⟨hn, fun t ht => by omega⟩)
      | succ k ih =>
        intro hk
        have h1 := ih (by omega)
        have h2 : ¬ (reps n L δ f (k + 1)).length ≤ (reps n L δ f k).length := fun h3 => h ⟨k, by omega, h3⟩
        omega
    have h1 := key n (Nat.le_refl _)
    have h2 := List.length_filter_le (fun s => (List.range s).all fun t => te L δ f n s t) (List.range n)
    rw [List.length_range] at h2
    unfold reps at h1
    omega
/-- If n - 1 letters do not tell two states apart, no word does. -/
theorem te_all (hδ : ∀ s x, s < n → x < L → δ s x < n) {s t : Nat} (hs : s < n) (ht : t < n) (h : te L δ f (n - 1) s t = false) (u : List Nat) (hu : ∀ y ∈ u, y < L) : f (runW δ s u) = f (runW δ t u) := by
  obtain ⟨k, hk, hle⟩ := te_round n L δ f (by omega)
  have h0 : te L δ f k s t = false := by
    have e : n - 1 = k + (n - 1 - k) := by omega
    rw [e] at h
    exact te_le L δ f h
  have h1 := te_stable n L δ f hδ (fun a b ha hb hab => te_same n L δ f hle ha hb hab) u.length s t hs ht h0
  cases h2 : (f (runW δ s u) == f (runW δ t u)) with
  | true => rwa [beq_iff_eq] at h2
  | false =>
    rw [beq_eq_false_iff_ne] at h2
    have h3 := (te_word L δ f (k + u.length) s t).2 ⟨u, by omega, hu, h2⟩
    rw [h1] at h3
    cases h3
/-- The smallest word that tells two states apart has fewer letters than there are states. -/
theorem least_short (hL : 0 < L) (hδ : ∀ s x, s < n → x < L → δ s x < n) {s t : Nat} (hs : s < n) (ht : t < n) {u : List Nat} (hu : ∀ y ∈ u, y < L) (h : f (runW δ s u) ≠ f (runW δ t u)) (hl : ∀ v : List Nat, (∀ y ∈ v, y < L) → ext L 0 v < ext L 0 u → f (runW δ s v) = f (runW δ t v)) : u.length < n := by
  cases h1 : te L δ f (n - 1) s t with
  | false => exact absurd (te_all n L δ f hδ hs ht h1 u hu) h
  | true =>
    obtain ⟨v, h2, h3, h4⟩ := (te_word L δ f (n - 1) s t).1 h1
    by_cases h5 : v.length < u.length
    · exact absurd (hl v h3 (ext_short L hL h3 h5)) h4
    · omega
end
/-- Any number of parts. -/
theorem srt_all (n : Nat) : SrtOk n := fun B G m cG X vs0 _ _ => sym_ok B G m cG X vs0
end Go.Proofs.YtkgeihambgbjdaaDoor.Mi
/- Exploring a quotient; what minimizing gives: the automaton of the languages of the reachable states. Plain mathematics, nothing of the program. -/
namespace Go.Proofs.YtkgeihambgbjdaaDoor.Mi
open Go Go.Proofs.YtkgeihambgbjdaaDoor Go.Proofs.YtkgeihambgbjdaaDoor.Cb Go.Proofs.YtkgeihambgbjdaaDoor.Sb
open Go.Proofs.YtkgeihambgbjdaaDoor.Nf (wordE)
open Go.Proofs.YtkgeihambgbjdaaDoor.Dg (tb tb_mem)
set_option linter.unusedVariables false
set_option linter.unusedSimpArgs false
set_option linter.unusedSectionVars false
section
variable {S T : Type} [DecidableEq S] [DecidableEq T]
/-- A list without what comes twice. -/
def dd (l : List S) : List S := rowF [] l
theorem rowF_app : ∀ (A B F : List S), rowF F (A ++ B) = rowF (rowF F A) B
  | [], _, _ => rfl
  | s :: A, B, F => rowF_app A B (add F s)
theorem dd_snoc (l : List S) (s : S) : dd (l ++ [s]) = add (dd l) s := rowF_snoc l [] s
theorem mem_dd {l : List S} {s : S} : s ∈ dd l ↔ s ∈ l := by unfold dd; rw [mem_rowF]; simp
theorem dd_nodup (l : List S) : (dd l).Nodup := nodup_rowF (by simp)
theorem dd_len (l : List S) : (dd l).length ≤ l.length := List.Nodup.length_le_of_subset (dd_nodup l) fun s hs => mem_dd.1 hs
theorem dd_pre {A B : List S} (h : A <+: B) : dd A <+: dd B := by
  obtain ⟨t, rfl⟩ := h
  unfold dd
  rw [rowF_app]
  exact rowF_pre _ _
theorem rowF_old : ∀ {l F : List S}, (∀ s ∈ l, s ∈ F) → rowF F l = F
  | [], _, _ => rfl
  | s :: l, F, h => by
    show rowF (add F s) l = F
    rw [show add F s = F from if_pos (h s List.mem_cons_self)]
    exact rowF_old fun t ht => h t (List.mem_cons_of_mem _ ht)
theorem dd_map_row (h : S → T) : ∀ (l F : List S), dd ((rowF F l).map h) = rowF (dd (F.map h)) (l.map h)
  | [], _ => rfl
  | s :: l, F => by
    show dd ((rowF (add F s) l).map h) = rowF (add (dd (F.map h)) (h s)) (l.map h)
    rw [dd_map_row h l (add F s)]
    congr 1
    by_cases e : s ∈ F
    · rw [show add F s = F from if_pos e]
      exact (if_pos (mem_dd.2 (List.mem_map.2 ⟨s, e, rfl⟩))).symm
    · rw [show add F s = F ++ [s] from if_neg e, List.map_append]
      exact dd_snoc _ _
theorem pre_get {A B : List S} {s : S} (h : A ++ [s] <+: B) : B[A.length]? = some s := by
  obtain ⟨t, rfl⟩ := h
  rw [List.append_assoc, List.getElem?_append_right (Nat.le_refl _), Nat.sub_self]
  rfl
variable (h : S → T) (P : S → Prop) (succ : S → List S) (succ' : T → List T)
theorem expl_quot (hs : ∀ s, P s → succ' (h s) = (succ s).map h) (hP : ∀ s, P s → ∀ t ∈ succ s, P t) (b c : Nat) {Z : List S} (hc : (dd (Z.map h)).length ≤ c) :
    ∀ (f r f' : Nat) (F : List S), expl succ b f r F = some Z → (∀ t ∈ F, P t) → Sb.Shut succ F r → r ≤ F.length → c < f' + (dd ((F.take r).map h)).length → expl succ' c f' (dd ((F.take r).map h)).length (dd (F.map h)) = some (dd (Z.map h))
  | 0, _, _, _, h0, _, _, _, _ => by cases h0
  | f + 1, r, f', F, h0, hF, hS, hr, hlt => by
    by_cases hrl : r < F.length
    · have ho : ¬ b < (rowF F (succ F[r])).length := fun ho => by rw [expl_over succ b hrl ho] at h0; cases h0
      rw [expl_step succ b hrl (by omega)] at h0
      have hpF := rowF_pre (succ F[r]) F
      have hpZ := expl_pre succ _ _ _ h0
      have hPr := hF _ (List.getElem_mem hrl)
      have hF1 : ∀ t ∈ rowF F (succ F[r]), P t := fun t ht => by
        rcases mem_rowF.1 ht with h1 | h1
        · exact hF t h1
        · exact hP _ hPr t h1
      have hS1 := hS.step succ hrl
      have ht0 : F.take (r + 1) = F.take r ++ [F[r]] := by rw [List.take_add_one, List.getElem?_eq_getElem hrl]; rfl
      have ht1 : (rowF F (succ F[r])).take (r + 1) = F.take r ++ [F[r]] := by rw [take_pre hpF (by omega), ht0]
      have ed : dd ((F.take r ++ [F[r]]).map h) = add (dd ((F.take r).map h)) (h F[r]) := by rw [List.map_append]; exact dd_snoc _ _
      have eF : dd ((rowF F (succ F[r])).map h) = rowF (dd (F.map h)) ((succ F[r]).map h) := dd_map_row h _ _
      by_cases hm : h F[r] ∈ dd ((F.take r).map h)
      · have e1 : dd ((F.take r ++ [F[r]]).map h) = dd ((F.take r).map h) := by rw [ed]; exact if_pos hm
        have e2 : dd ((rowF F (succ F[r])).map h) = dd (F.map h) := by
          rw [eF]
          refine rowF_old fun t ht => ?_
          obtain ⟨s', hs', e⟩ := List.mem_map.1 (mem_dd.1 hm)
          rw [← hs _ hPr, ← e, hs s' (hF _ (List.mem_of_mem_take hs'))] at ht
          obtain ⟨u, hu, rfl⟩ := List.mem_map.1 ht
          exact mem_dd.2 (List.mem_map.2 ⟨u, hS s' hs' u hu, rfl⟩)
        have := expl_quot hs hP b c hc f (r + 1) f' _ h0 hF1 hS1 (by have := hpF.length_le; omega) (by rw [ht1, e1]; exact hlt)
        rw [ht1, e1, e2] at this
        exact this
      · have e1 : dd ((F.take r ++ [F[r]]).map h) = dd ((F.take r).map h) ++ [h F[r]] := by rw [ed]; exact if_neg hm
        have hpre : dd ((F.take r).map h) ++ [h F[r]] <+: dd (F.map h) := by
          rw [← e1, ← ht0]
          exact dd_pre ((List.take_prefix _ _).map h)
        have hl1 : (dd ((F.take r).map h)).length < (dd (F.map h)).length := by
          have := hpre.length_le
          rw [List.length_append, List.length_singleton] at this
          omega
        have hl2 : (dd (F.map h)).length ≤ (dd (Z.map h)).length := (dd_pre ((hpF.trans hpZ).map h)).length_le
        have hl3 : (dd ((rowF F (succ F[r])).map h)).length ≤ (dd (Z.map h)).length := (dd_pre (hpZ.map h)).length_le
        obtain ⟨g, rfl⟩ : ∃ g, f' = g + 1 := ⟨f' - 1, by omega⟩
        have hg : (dd (F.map h))[(dd ((F.take r).map h)).length]'hl1 = h F[r] := by
          have := pre_get hpre
          rw [List.getElem?_eq_getElem hl1] at this
          exact Option.some.inj this
        have hrow : rowF (dd (F.map h)) (succ' ((dd (F.map h))[(dd ((F.take r).map h)).length]'hl1)) = dd ((rowF F (succ F[r])).map h) := by rw [hg, hs _ hPr, eF]
        rw [expl_step succ' c hl1 (by rw [hrow]; omega), hrow]
        have := expl_quot hs hP b c hc f (r + 1) g _ h0 hF1 hS1 (by have := hpF.length_le; omega) (by rw [ht1, e1, List.length_append, List.length_singleton]; omega)
        rw [ht1, e1, List.length_append, List.length_singleton] at this
        exact this
    · obtain rfl : r = F.length := by omega
      rw [expl_end succ b (Nat.le_refl _)] at h0
      obtain rfl := Option.some.inj h0
      rw [List.take_length] at hlt ⊢
      obtain ⟨g, rfl⟩ : ∃ g, f' = g + 1 := ⟨f' - 1, by omega⟩
      exact expl_end succ' c (Nat.le_refl _)
theorem found_quot (hs : ∀ s, P s → succ' (h s) = (succ s).map h) (hP : ∀ s, P s → ∀ t ∈ succ s, P t) {b c : Nat} {Z : List S} {s0 : S} (h0 : P s0) (hf : found succ b s0 = some Z) (hc : (dd (Z.map h)).length ≤ c) : found succ' c (h s0) = some (dd (Z.map h)) :=
  expl_quot h P succ succ' hs hP b c hc (b + 1) 0 (c + 1) [s0] hf (by simpa using h0) (fun s hs => by simp at hs) (Nat.zero_le _) (by show c < c + 1 + 0; omega)
end
/-- The words that lead from a state to a final state. -/
def lg (d : Da) (s : Nat) : List Nat → Bool := fun u => (u.all fun y => decide (y < 2 ^ d.V.toNat)) && fiB d (runW (dlt d.nx) s u)
/-- What is left of a language behind a letter. -/
def stp (g : List Nat → Bool) (x : Nat) : List Nat → Bool := fun u => g (x :: u)
theorem all_lt {u : List Nat} {L : Nat} : (u.all fun y => decide (y < L)) = true ↔ ∀ y ∈ u, y < L := by
  rw [List.all_eq_true]
  exact ⟨fun h y hy => of_decide_eq_true (h y hy), fun h y hy => decide_eq_true (h y hy)⟩
theorem lg_at {d : Da} {s : Nat} {u : List Nat} (h : ∀ y ∈ u, y < 2 ^ d.V.toNat) : lg d s u = fiB d (runW (dlt d.nx) s u) := by
  unfold lg
  rw [all_lt.2 h, Bool.true_and]
theorem lg_off {d : Da} {s : Nat} {u : List Nat} (h : ¬ ∀ y ∈ u, y < 2 ^ d.V.toNat) : lg d s u = false := by
  unfold lg
  rw [show (u.all fun y => decide (y < 2 ^ d.V.toNat)) = false from Bool.eq_false_iff.2 fun e => h (all_lt.1 e), Bool.false_and]
theorem lg_eq {a b : Da} (hV : a.V = b.V) {s t : Nat} : lg a s = lg b t ↔ ∀ u : List Nat, (∀ y ∈ u, y < 2 ^ a.V.toNat) → fiB a (runW (dlt a.nx) s u) = fiB b (runW (dlt b.nx) t u) := by
  constructor
  · intro h u hu
    rw [← lg_at hu, h, lg_at (by rw [← hV]; exact hu)]
  · intro h
    funext u
    by_cases hu : ∀ y ∈ u, y < 2 ^ a.V.toNat
    · rw [lg_at hu, h u hu, lg_at (by rw [← hV]; exact hu)]
    · rw [lg_off hu, lg_off (by rw [← hV]; exact hu)]
theorem stp_lg (d : Da) (s x : Nat) (hx : x < 2 ^ d.V.toNat) : stp (lg d s) x = lg d (dlt d.nx s x) := by
  funext u
  show (decide (x < 2 ^ d.V.toNat) && (u.all fun y => decide (y < 2 ^ d.V.toNat)) && fiB d (runW (dlt d.nx) (dlt d.nx s x) u)) = _
  rw [decide_eq_true hx, Bool.true_and]
  rfl
theorem fold_stp : ∀ (u : List Nat) (g : List Nat → Bool) (v : List Nat), (u.foldl stp g) v = g (u ++ v)
  | [], _, _ => rfl
  | x :: u, g, v => fold_stp u (stp g x) v
theorem okD_dl {d : Da} (hO : OkD d) {s x : Nat} (hs : s < d.nx.length) (hx : x < 2 ^ d.V.toNat) : nd (tb d.nx s) x = (dlt d.nx s x : Int) ∧ dlt d.nx s x < d.nx.length := by
  have := hO.sq.at_ hs hx
  unfold dlt
  omega
theorem run_nat {d : Da} (hO : OkD d) : ∀ (u : List Nat) (s : Nat), s < d.nx.length → (∀ y ∈ u, y < 2 ^ d.V.toNat) → Sb.runT d.nx (s : Int) u = (runW (dlt d.nx) s u : Int) ∧ runW (dlt d.nx) s u < d.nx.length
  | [], s, hs, _ => ⟨rfl, hs⟩
  | x :: u, s, hs, hu => by
    obtain ⟨h1, h2⟩ := okD_dl hO hs (hu x List.mem_cons_self)
    show Sb.runT d.nx (Sb.stepT d.nx s x) u = _ ∧ _
    rw [stepT_nat, h1]
    exact run_nat hO u _ h2 fun y hy => hu y (List.mem_cons_of_mem _ hy)
theorem acc_lg {d : Da} (hO : OkD d) {l : List Nat} (h : wrongD d l = 0) : accD d l = lg d d.q0.toNat l := by
  obtain ⟨_, _, hlt⟩ := wrongD_zero h
  have hq := hO.q0
  unfold accD
  rw [if_pos h, lg_at hlt]
  have h1 := (run_nat hO l d.q0.toNat (by omega) hlt).1
  rw [show ((d.q0.toNat : Nat) : Int) = d.q0 by omega] at h1
  rw [h1, Int.toNat_natCast]
  rfl
section
variable [DecidableEq (List Nat → Bool)]
/-- The automaton of a list of languages. -/
def mnG (V : Int) (G : List (List Nat → Bool)) : Da := ⟨V, 0, nums (rowS stp (2 ^ V.toNat)) G G.length, G.map fun g => g []⟩
/-- The languages of the states of a list. -/
def lgs (d : Da) (F : List Int) : List (List Nat → Bool) := dd (F.map fun z => lg d z.toNat)
section
variable {d : Da} {F : List Int} (hO : OkD d) (hF : found (succT d) d.nx.length d.q0 = some F) (hFp : ∀ s ∈ F, Pd d s)
include hO hF
theorem lgs_len : (lgs d F).length ≤ d.nx.length := Nat.le_trans (dd_len _) (by rw [List.length_map]; exact ren_le hO hF)
theorem lgs_found {c : Nat} (hc : d.nx.length ≤ c) : found (rowS stp (2 ^ d.V.toNat)) c (lg d d.q0.toNat) = some (lgs d F) := by
  refine found_quot (fun z : Int => lg d z.toNat) (Pd d) (succT d) _ (fun s hs => ?_) (fun s hs t ht => pd_succ hO hs t ht) (show Pd d d.q0 from hO.q0) hF (Nat.le_trans (lgs_len hO hF) hc)
  rw [succT_row hO hs]
  unfold rowS
  rw [List.map_map]
  refine List.map_congr_left fun x hx => ?_
  exact stp_lg d s.toNat x (List.mem_range.1 hx)
theorem lgs_is : Sb.Found (rowS stp (2 ^ d.V.toNat)) d.nx.length (lg d d.q0.toNat) (lgs d F) := found_is _ _ hO.n0 (lgs_found hO hF (Nat.le_refl _))
theorem mn_nx : (mnG d.V (lgs d F)).nx.length = (lgs d F).length := nums_len _ _ _ (Nat.le_refl _)
theorem lgs_pos : 0 < (lgs d F).length := by
  have := (lgs_is hO hF).head
  rcases h : lgs d F with _ | ⟨x, G⟩
  · rw [h] at this; cases this
  · exact Nat.succ_pos _
theorem mn_ok : OkD (mnG d.V (lgs d F)) := by
  have hI := lgs_is hO hF
  have h0 := lgs_pos hO hF
  have hl := lgs_len hO hF
  have h4 := hO.n4
  have hx := mn_nx hO hF
  refine ⟨hO.v0, hO.v6, by rw [hx]; exact h0, by rw [hx]; omega, by rw [hx]; exact List.length_map _, ?_, fun r hr => ⟨?_, ?_⟩⟩
  · rw [hx]; show 0 ≤ (0 : Int) ∧ (0 : Int) < _; omega
  · obtain ⟨g, _, rfl⟩ := List.mem_map.1 hr
    show (((List.range _).map _).map _).length = _
    rw [List.length_map, List.length_map, List.length_range]
    rfl
  · rw [hx]; exact nums_ok _ hI.shut r hr
theorem mem_lgs {g : List Nat → Bool} (h : g ∈ lgs d F) : ∃ s, g = lg d s := by
  obtain ⟨z, _, rfl⟩ := List.mem_map.1 (mem_dd.1 h)
  exact ⟨_, rfl⟩
theorem lg_mn {p : Nat} (hp : p < (lgs d F).length) : lg (mnG d.V (lgs d F)) p = (lgs d F)[p] := by
  have hI := lgs_is hO hF
  have hOm := mn_ok hO hF
  have hx := mn_nx hO hF
  funext u
  by_cases hu : ∀ y ∈ u, y < 2 ^ d.V.toNat
  · rw [lg_at (d := mnG d.V (lgs d F)) hu]
    obtain ⟨h1, h2⟩ := runT_nums stp (2 ^ d.V.toNat) hI.shut u (lgs d F)[p] (List.getElem_mem hp) hu
    rw [pos_at hI.nodup hp rfl] at h1
    have h3 := (run_nat hOm u p (by rw [hx]; exact hp) hu).1
    change Sb.runT (mnG d.V (lgs d F)).nx (p : Int) u = _ at h1
    rw [h3] at h1
    have h4 : runW (dlt (mnG d.V (lgs d F)).nx) p u = pos (lgs d F) (u.foldl stp (lgs d F)[p]) := by exact_mod_cast h1
    rw [h4]
    show ((lgs d F).map fun g => g []).getD _ false = _
    have h5 : (lgs d F)[pos (lgs d F) (u.foldl stp (lgs d F)[p])]? = some (u.foldl stp (lgs d F)[p]) := (posI_at h2).2
    rw [List.getD_eq_getElem?_getD, List.getElem?_map, h5]
    show (u.foldl stp (lgs d F)[p]) [] = _
    rw [fold_stp, List.append_nil]
  · rw [lg_off (d := mnG d.V (lgs d F)) hu]
    obtain ⟨s, e⟩ := mem_lgs hO hF (List.getElem_mem hp)
    rw [e, lg_off hu]
theorem lg_mn0 : lg (mnG d.V (lgs d F)) 0 = lg d d.q0.toNat := by
  have h0 := lgs_pos hO hF
  rw [lg_mn hO hF h0]
  have := (lgs_is hO hF).head
  rw [List.getElem?_eq_getElem h0] at this
  exact Option.some.inj this
theorem mn_again {F' : List Int} (hF' : found (succT (mnG d.V (lgs d F))) (mnG d.V (lgs d F)).nx.length (mnG d.V (lgs d F)).q0 = some F') : lgs (mnG d.V (lgs d F)) F' = lgs d F := by
  have hOm := mn_ok hO hF
  have h1 := lgs_found hOm hF' (c := d.nx.length) (by rw [mn_nx hO hF]; exact lgs_len hO hF)
  have h2 := lgs_found hO hF (Nat.le_refl _)
  change found (rowS stp (2 ^ d.V.toNat)) d.nx.length (lg (mnG d.V (lgs d F)) 0) = _ at h1
  rw [lg_mn0 hO hF, h2] at h1
  exact (Option.some.inj h1).symm
theorem mn_same {e : Da} {E : List Int} (hOe : OkD e) (hE : found (succT e) e.nx.length e.q0 = some E) (hV : d.V = e.V) (h : lg d d.q0.toNat = lg e e.q0.toNat) : lgs d F = lgs e E := by
  have h1 := lgs_found hO hF (c := 4096) hO.n4
  have h2 := lgs_found hOe hE (c := 4096) hOe.n4
  rw [← hV, ← h, h1] at h2
  exact Option.some.inj h2
end
end
end Go.Proofs.YtkgeihambgbjdaaDoor.Mi
/- Minimizing gives the automaton of the languages; the classes after k rounds and the words of k letters. Plain mathematics, nothing of the program. -/
namespace Go.Proofs.YtkgeihambgbjdaaDoor.Mi
open Go Go.Proofs.YtkgeihambgbjdaaDoor Go.Proofs.YtkgeihambgbjdaaDoor.Cb Go.Proofs.YtkgeihambgbjdaaDoor.Sb
open Go.Proofs.YtkgeihambgbjdaaDoor.Nf (wordE)
open Go.Proofs.YtkgeihambgbjdaaDoor.Dg (tb tb_mem)
set_option linter.unusedVariables false
set_option linter.unusedSimpArgs false
set_option linter.unusedSectionVars false
section
variable {d : Da} (hO : OkD d)
include hO
theorem dlt_lt : ∀ s x, s < d.nx.length → x < 2 ^ d.V.toNat → dlt d.nx s x < d.nx.length := fun s x hs hx => (okD_dl hO hs hx).2
theorem clsD_len (k : Nat) : (clsD d k).length = d.nx.length := cls_len _ _ _ _ _
theorem clsD_te {k s t : Nat} (hs : s < d.nx.length) (ht : t < d.nx.length) : nd (clsD d k) s = nd (clsD d k) t ↔ te (2 ^ d.V.toNat) (dlt d.nx) (fiB d) k s t = false := cls_eq hs ht
theorem clsD_ord (k : Nat) : ordL (clsD d k) = clsD d k := ordL_cls (clsD_len hO k) fun s t hs ht => cls_eq hs ht
theorem clsD_same {k m : Nat} (h : ∀ s t, s < d.nx.length → t < d.nx.length → (te (2 ^ d.V.toNat) (dlt d.nx) (fiB d) k s t = false ↔ te (2 ^ d.V.toNat) (dlt d.nx) (fiB d) m s t = false)) : clsD d k = clsD d m := by
  rw [← clsD_ord hO k]
  exact ordL_cls (clsD_len hO k) fun s t hs ht => (clsD_te hO hs ht).trans (h s t hs ht)
/-- As many letters as there are states tell all apart that words tell apart. -/
theorem te_full {k s t : Nat} (hs : s < d.nx.length) (ht : t < d.nx.length) (hk : d.nx.length ≤ k + 1) : te (2 ^ d.V.toNat) (dlt d.nx) (fiB d) k s t = false ↔ lg d s = lg d t := by
  rw [lg_eq rfl]
  constructor
  · intro h
    refine te_all _ _ _ _ (dlt_lt hO) hs ht ?_
    rw [show k = d.nx.length - 1 + (k - (d.nx.length - 1)) by omega] at h
    exact te_le _ _ _ h
  · intro h
    cases h1 : te (2 ^ d.V.toNat) (dlt d.nx) (fiB d) k s t with
    | false => rfl
    | true =>
      obtain ⟨u, _, h2, h3⟩ := (te_word _ _ _ _ _ _).1 h1
      exact absurd (h u h2) h3
theorem clsD_lg {k s t : Nat} (hs : s < d.nx.length) (ht : t < d.nx.length) (hk : d.nx.length ≤ k + 1) : nd (clsD d k) s = nd (clsD d k) t ↔ lg d s = lg d t := (clsD_te hO hs ht).trans (te_full hO hs ht hk)
/-- If a round changes nothing, the classes are the last ones. -/
theorem clsD_still {k : Nat} (h : clsD d k = clsD d (k + 1)) : clsD d k = clsD d d.nx.length := by
  have h1 : ∀ s t, s < d.nx.length → t < d.nx.length → te (2 ^ d.V.toNat) (dlt d.nx) (fiB d) k s t = false → te (2 ^ d.V.toNat) (dlt d.nx) (fiB d) (k + 1) s t = false := fun s t hs ht h0 => by
    rw [← clsD_te hO hs ht] at h0 ⊢
    rw [← h]; exact h0
  have h2 := te_stable d.nx.length (2 ^ d.V.toNat) (dlt d.nx) (fiB d) (dlt_lt hO) h1
  refine clsD_same hO fun s t hs ht => ?_
  constructor
  · intro h0
    have h3 := h2 d.nx.length s t hs ht h0
    rw [Nat.add_comm] at h3
    exact te_le _ _ _ h3
  · intro h0
    have h3 := (te_full hO hs ht (Nat.le_succ _)).1 h0
    have h4 := (te_full hO hs ht (k := k + d.nx.length) (by omega)).2 h3
    exact te_le _ _ _ h4
theorem clsD_next {k s t : Nat} (hs : s < d.nx.length) (ht : t < d.nx.length) (h : nd (clsD d (k + 1)) s = nd (clsD d (k + 1)) t) : nd (clsD d k) s = nd (clsD d k) t := by
  rw [clsD_te hO hs ht] at h ⊢
  exact te_less _ _ _ h
/-- The classes are numbered in the order of their first states. -/
theorem cls_pos {k s : Nat} (hs : s < d.nx.length) : (pos (dd (clsD d k)) (nd (clsD d k) s) : Int) = nd (clsD d k) s := by
  have h1 : s < (clsD d k).length := by rw [clsD_len hO]; exact hs
  have h2 : nd (ordL (clsD d k)) s = (pos (dd (clsD d k)) (nd (clsD d k) s) : Int) := by
    rw [nd_eq (by rw [ordL_len]; exact h1), nd_eq h1]
    unfold ordL
    rw [List.getElem_map]
    rfl
  rw [← h2, clsD_ord hO]
theorem fst_dd {k : Nat} : ∀ j, j ≤ d.nx.length → dd ((clsD d k).take j) = (List.range (fst (clsD d k) j).length).map fun i : Nat => (i : Int)
  | 0, _ => rfl
  | j + 1, hj => by
    have hl : j < (clsD d k).length := by rw [clsD_len hO]; omega
    have ih := fst_dd (k := k) j (by omega)
    have e0 : (clsD d k).take (j + 1) = (clsD d k).take j ++ [nd (clsD d k) j] := by
      rw [List.take_add_one, List.getElem?_eq_getElem hl, nd_eq hl]; rfl
    have e1 : dd ((clsD d k).take (j + 1)) = add (dd ((clsD d k).take j)) (nd (clsD d k) j) := by rw [e0]; exact dd_snoc _ _
    have hp := cls_pos hO (k := k) (s := j) (by omega)
    by_cases hm : nd (clsD d k) j ∈ dd ((clsD d k).take j)
    · have h2 := hm
      rw [ih] at h2
      obtain ⟨i, hi, e⟩ := List.mem_map.1 h2
      have := List.mem_range.1 hi
      rw [e1, show add (dd ((clsD d k).take j)) (nd (clsD d k) j) = dd ((clsD d k).take j) from if_pos hm, fst_no (by omega)]
      exact ih
    · have e2 : dd ((clsD d k).take (j + 1)) = dd ((clsD d k).take j) ++ [nd (clsD d k) j] := by rw [e1]; exact if_neg hm
      have hpre : dd ((clsD d k).take j) ++ [nd (clsD d k) j] <+: dd (clsD d k) := by
        rw [← e2]
        exact dd_pre (List.take_prefix _ _)
      have h3 := pos_at (dd_nodup (clsD d k)) (i := (dd ((clsD d k).take j)).length) (by have := hpre.length_le; rw [List.length_append] at this; simp at this; omega) (s := nd (clsD d k) j) (by
        have h4 := pre_get hpre
        rw [List.getElem?_eq_getElem (by have := hpre.length_le; rw [List.length_append] at this; simp at this; omega)] at h4
        exact Option.some.inj h4)
      have h5 : (dd ((clsD d k).take j)).length = (fst (clsD d k) j).length := by rw [ih, List.length_map, List.length_range]
      have h6 : nd (clsD d k) j = ((fst (clsD d k) j).length : Int) := by rw [← hp, h3, h5]
      rw [e2, fst_yes h6, List.length_append, ih, h6]
      show _ = (List.range ((fst (clsD d k) j).length + 1)).map _
      rw [List.range_succ, List.map_append]
      rfl
/-- One state more: its class is old, or the next one. -/
theorem fst_max {k j : Nat} (hj : j < d.nx.length) : (0 ≤ nd (clsD d k) j ∧ nd (clsD d k) j < ((fst (clsD d k) j).length : Int) ∧ fst (clsD d k) (j + 1) = fst (clsD d k) j) ∨ (nd (clsD d k) j = ((fst (clsD d k) j).length : Int) ∧ (fst (clsD d k) (j + 1)).length = (fst (clsD d k) j).length + 1) := by
  by_cases h : nd (clsD d k) j = ((fst (clsD d k) j).length : Int)
  · right
    rw [fst_yes h, List.length_append]
    exact ⟨h, rfl⟩
  · left
    have h1 := fst_dd hO (k := k) (j + 1) (by omega)
    have h2 : nd (clsD d k) j ∈ dd ((clsD d k).take (j + 1)) := by
      have hl : j < (clsD d k).length := by rw [clsD_len hO]; exact hj
      rw [mem_dd, List.take_add_one, List.getElem?_eq_getElem hl, nd_eq hl]
      exact List.mem_append.2 (.inr (by simp))
    rw [h1, fst_no h] at h2
    obtain ⟨i, hi, e⟩ := List.mem_map.1 h2
    have := List.mem_range.1 hi
    exact ⟨by omega, by omega, fst_no h⟩
theorem fst_cls {k : Nat} : ∀ j, j ≤ d.nx.length → (fst (clsD d k) j).map (fun s => nd (clsD d k) s) = (List.range (fst (clsD d k) j).length).map fun i : Nat => (i : Int)
  | 0, _ => rfl
  | j + 1, hj => by
    have ih := fst_cls (k := k) j (by omega)
    by_cases h : nd (clsD d k) j = ((fst (clsD d k) j).length : Int)
    · rw [fst_yes h, List.map_append, List.length_append, ih]
      show _ ++ [nd (clsD d k) j] = (List.range ((fst (clsD d k) j).length + 1)).map _
      rw [List.range_succ, List.map_append, h]
      rfl
    · rw [fst_no h]; exact ih
theorem fst_all {k : Nat} : dd (clsD d k) = (fst (clsD d k) d.nx.length).map fun s => nd (clsD d k) s := by
  rw [fst_cls hO _ (Nat.le_refl _), ← fst_dd hO _ (Nat.le_refl _), List.take_of_length_le (by rw [clsD_len hO]; exact Nat.le_refl _)]
end
theorem fst_mem {cl : List Int} : ∀ {k s : Nat}, s ∈ fst cl k → s < k := fun h => fst_lt cl _ _ h
section
variable [DecidableEq (List Nat → Bool)] {r : Da} (hO : OkD r)
include hO
/-- The languages of the states, in the order of the classes. -/
theorem lg_fst : dd ((List.range r.nx.length).map (lg r)) = (fst (clsD r r.nx.length) r.nx.length).map (lg r) ∧ ∀ i, i < r.nx.length → (pos (dd ((List.range r.nx.length).map (lg r))) (lg r i) : Int) = nd (clsD r r.nx.length) i := by
  have hl := clsD_len hO r.nx.length
  have hat : ∀ z ∈ clsD r r.nx.length, pos (clsD r r.nx.length) z < r.nx.length ∧ nd (clsD r r.nx.length) (pos (clsD r r.nx.length) z) = z := fun z hz => by
    have h1 : pos (clsD r r.nx.length) z < (clsD r r.nx.length).length := List.idxOf_lt_length_of_mem hz
    refine ⟨by omega, ?_⟩
    rw [nd_eq h1]
    exact List.getElem_idxOf h1
  have hmem : ∀ i, i < r.nx.length → nd (clsD r r.nx.length) i ∈ clsD r r.nx.length := fun i hi => by rw [nd_eq (by omega)]; exact List.getElem_mem (by omega)
  have hφ : ∀ i, i < r.nx.length → lg r (pos (clsD r r.nx.length) (nd (clsD r r.nx.length) i)) = lg r i := fun i hi => by
    obtain ⟨h1, h2⟩ := hat _ (hmem i hi)
    exact (clsD_lg hO h1 hi (Nat.le_succ _)).1 h2
  have e : (List.range r.nx.length).map (lg r) = (clsD r r.nx.length).map fun z => lg r (pos (clsD r r.nx.length) z) := by
    apply List.ext_getElem
    · rw [List.length_map, List.length_map, List.length_range, hl]
    · intro i h1 h2
      have hi : i < r.nx.length := by rw [List.length_map, List.length_range] at h1; exact h1
      rw [List.getElem_map, List.getElem_map, List.getElem_range, ← nd_eq (by omega), hφ i hi]
  have inj : ∀ s t : Int, s ∈ clsD r r.nx.length → t ∈ clsD r r.nx.length → (fun z => lg r (pos (clsD r r.nx.length) z)) s = (fun z => lg r (pos (clsD r r.nx.length) z)) t → s = t := fun s t hs ht he => by
    obtain ⟨h1, h2⟩ := hat s hs
    obtain ⟨h3, h4⟩ := hat t ht
    rw [← h2, ← h4]
    exact (clsD_lg hO h1 h3 (Nat.le_succ _)).2 he
  have h1 := rowF_map (fun z => lg r (pos (clsD r r.nx.length) z)) (· ∈ clsD r r.nx.length) inj (l := clsD r r.nx.length) (F := []) (fun t ht => absurd ht (by simp)) (fun t ht => ht)
  rw [List.map_nil, ← e] at h1
  change dd ((List.range r.nx.length).map (lg r)) = (dd (clsD r r.nx.length)).map _ at h1
  constructor
  · rw [h1, fst_all hO, List.map_map]
    refine List.map_congr_left fun s hs => ?_
    exact hφ s (fst_mem hs)
  · intro i hi
    rw [h1, ← hφ i hi]
    rw [idx_map (fun z => lg r (pos (clsD r r.nx.length) z)) (· ∈ clsD r r.nx.length) inj (fun t ht => mem_dd.1 ht) (hmem i hi)]
    exact cls_pos hO hi
theorem minR_eq : minR r = mnG r.V (dd ((List.range r.nx.length).map (lg r))) := by
  obtain ⟨h1, h2⟩ := lg_fst hO
  unfold minR mnG
  congr 1
  · unfold nums nxM
    rw [List.take_length]
    conv => rhs; arg 2; rw [h1]
    rw [List.map_map]
    refine List.map_congr_left fun s hs => ?_
    have hsn := fst_mem hs
    show _ = ((List.range _).map (stp (lg r s))).map _
    have hrow := (hO.row _ (tb_mem hsn)).1
    unfold eachL
    apply List.ext_getElem
    · rw [List.length_map, List.length_map, List.length_map, List.length_range, hrow]
    · intro x h3 h4
      have hx : x < 2 ^ r.V.toNat := by rw [List.length_map, hrow] at h3; exact h3
      obtain ⟨h5, h6⟩ := okD_dl hO hsn hx
      rw [List.getElem_map, List.getElem_map, List.getElem_map, List.getElem_range, stp_lg r s x hx, h2 _ h6, ← nd_eq (by omega), h5, Int.toNat_natCast]
  · rw [h1, List.map_map]
    exact List.map_congr_left fun s hs => rfl
end
section
variable [DecidableEq (List Nat → Bool)] {d : Da} {F : List Int} (hO : OkD d) (hF : found (succT d) d.nx.length d.q0 = some F) (hFp : ∀ s ∈ F, Pd d s)
include hO hF hFp
/-- A state keeps its language under its new number. -/
theorem lg_ren {z : Int} (hz : z ∈ F) : lg (renD d F) (pos F z) = lg d z.toNat := by
  have hF1 := ren_found hO hF
  have hOr := ren_ok hO hF hFp
  have hp := (posI_at hz).1
  have hzp := hFp z hz
  funext u
  by_cases hu : ∀ y ∈ u, y < 2 ^ d.V.toNat
  · rw [lg_at (d := renD d F) hu, lg_at hu]
    have hsh : ∀ s ∈ F, ∀ t ∈ rowS (Sb.stepT d.nx) (2 ^ d.V.toNat) s, t ∈ F := fun s hs t ht => hF1.shut s hs t (by rw [succT_row hO (hFp s hs)]; exact ht)
    obtain ⟨h1, h2⟩ := runT_nums (Sb.stepT d.nx) (2 ^ d.V.toNat) hsh u z hz hu
    rw [← nums_row_eq hO hFp] at h1
    change Sb.runT (renD d F).nx (pos F z : Int) u = (pos F (Sb.runT d.nx z u) : Int) at h1
    change Sb.runT d.nx z u ∈ F at h2
    have h3 := (run_nat hOr u (pos F z) (by rw [ren_nx]; exact hp) hu).1
    have h4 := (run_nat hO u z.toNat (by have := hzp.1; have := hzp.2; omega) hu).1
    rw [show ((z.toNat : Nat) : Int) = z by have := hzp.1; omega] at h4
    rw [h3] at h1
    have h5 : runW (dlt (renD d F).nx) (pos F z) u = pos F (Sb.runT d.nx z u) := by exact_mod_cast h1
    rw [h5]
    show (F.map fun s => d.fi.getD s.toNat false).getD (pos F (Sb.runT d.nx z u)) false = _
    rw [List.getD_eq_getElem?_getD, List.getElem?_map, (posI_at h2).2, h4]
    rfl
  · rw [lg_off (d := renD d F) hu, lg_off hu]
/-- Minimizing gives the automaton of the languages of the reachable states. -/
theorem min_lgs : minR (renD d F) = mnG d.V (lgs d F) := by
  rw [minR_eq (ren_ok hO hF hFp)]
  show mnG d.V _ = _
  congr 1
  unfold lgs
  congr 1
  rw [ren_nx]
  apply List.ext_getElem
  · simp
  · intro i h1 h2
    have hi : i < F.length := by simpa using h1
    rw [List.getElem_map, List.getElem_map, List.getElem_range, ← lg_ren hO hF hFp (List.getElem_mem hi), pos_at (ren_found hO hF).nodup hi rfl]
end
section
variable {d : Da} {F : List Int} (hO : OkD d) (hF : found (succT d) d.nx.length d.q0 = some F) (hFp : ∀ s ∈ F, Pd d s)
include hO hF hFp
theorem min_ok : OkD (minR (renD d F)) := by
  letI : DecidableEq (List Nat → Bool) := fun _ _ => Classical.propDecidable _
  rw [min_lgs hO hF hFp]
  exact mn_ok hO hF
theorem min_le : (minR (renD d F)).nx.length ≤ d.nx.length := by
  letI : DecidableEq (List Nat → Bool) := fun _ _ => Classical.propDecidable _
  rw [min_lgs hO hF hFp, mn_nx hO hF]
  exact lgs_len hO hF
theorem min_lg0 : lg (minR (renD d F)) 0 = lg d d.q0.toNat := by
  letI : DecidableEq (List Nat → Bool) := fun _ _ => Classical.propDecidable _
  rw [min_lgs hO hF hFp]
  exact lg_mn0 hO hF
theorem min_wrong (l : List Nat) : wrongD (minR (renD d F)) l = wrongD d l := by
  unfold wrongD
  rw [okD_chk hO, okD_chk (min_ok hO hF hFp)]
  rfl
theorem min_acc (l : List Nat) : accD (minR (renD d F)) l = accD d l := by
  by_cases h : wrongD d l = 0
  · rw [acc_lg hO h, acc_lg (min_ok hO hF hFp) (by rw [min_wrong hO hF hFp]; exact h)]
    exact congrFun (min_lg0 hO hF hFp) l
  · unfold accD
    rw [min_wrong hO hF hFp, if_neg h, if_neg h]
theorem min_dist {p q : Nat} (hp : p < (minR (renD d F)).nx.length) (hq : q < (minR (renD d F)).nx.length) : lg (minR (renD d F)) p = lg (minR (renD d F)) q ↔ p = q := by
  letI : DecidableEq (List Nat → Bool) := fun _ _ => Classical.propDecidable _
  rw [min_lgs hO hF hFp] at hp hq ⊢
  rw [mn_nx hO hF] at hp hq
  rw [lg_mn hO hF hp, lg_mn hO hF hq]
  constructor
  · intro h
    have h1 := pos_at (lgs_is hO hF).nodup hp rfl
    have h2 := pos_at (lgs_is hO hF).nodup hq rfl
    rw [← h1, h, h2]
  · intro h; subst h; rfl
theorem min_again {F' : List Int} (hF' : found (succT (minR (renD d F))) (minR (renD d F)).nx.length (minR (renD d F)).q0 = some F') (hFp' : ∀ s ∈ F', Pd (minR (renD d F)) s) : minR (renD (minR (renD d F)) F') = minR (renD d F) := by
  letI : DecidableEq (List Nat → Bool) := fun _ _ => Classical.propDecidable _
  rw [min_lgs (min_ok hO hF hFp) hF' hFp']
  rw [min_lgs hO hF hFp] at hF' ⊢
  rw [mn_again hO hF hF']
  rfl
theorem min_same {e : Da} {E : List Int} (hOe : OkD e) (hE : found (succT e) e.nx.length e.q0 = some E) (hEp : ∀ s ∈ E, Pd e s) (hV : d.V = e.V) : minR (renD d F) = minR (renD e E) ↔ lg d d.q0.toNat = lg e e.q0.toNat := by
  constructor
  · intro h
    rw [← min_lg0 hO hF hFp, ← min_lg0 hOe hE hEp, h]
  · intro h
    letI : DecidableEq (List Nat → Bool) := fun _ _ => Classical.propDecidable _
    rw [min_lgs hO hF hFp, min_lgs hOe hE hEp, mn_same hO hF hOe hE hV h, hV]
end
end Go.Proofs.YtkgeihambgbjdaaDoor.Mi
/- The smallest word that tells two states apart; what Classes, Rounds, Distinguish and Minimize answer, said by it. -/
namespace Go.Proofs.YtkgeihambgbjdaaDoor.Mi
open Go Go.RowKit Go.Proofs.YtkgeihambgbjdaaDoor Go.Proofs.YtkgeihambgbjdaaDoor.Cb Go.Proofs.YtkgeihambgbjdaaDoor.Sb
open Go.Proofs.YtkgeihambgbjdaaDoor.Nf (Bys zvs bvs ret_int ret_b drew_below)
open Go.Proofs.YtkgeihambgbjdaaDoor.Dg (Tabs tb tb_mem)
set_option linter.unusedVariables false
set_option linter.unusedSimpArgs false
set_option linter.unusedSectionVars false
set_option maxRecDepth 100000
/-- The smallest word that leads from exactly one of two states to a final one; q: there is one. -/
structure Least (d : Da) (s t : Nat) (u : List Nat) (q : Bool) : Prop where
  lt : ∀ y ∈ u, y < 2 ^ d.V.toNat
  yes : q = true → fiB d (runW (dlt d.nx) s u) ≠ fiB d (runW (dlt d.nx) t u) ∧ ∀ u' : List Nat, (∀ y ∈ u', y < 2 ^ d.V.toNat) → ext (2 ^ d.V.toNat) 0 u' < ext (2 ^ d.V.toNat) 0 u → fiB d (runW (dlt d.nx) s u') = fiB d (runW (dlt d.nx) t u')
  no : q = false → u = [] ∧ lg d s = lg d t
theorem Least.q_iff {d : Da} {s t : Nat} {u : List Nat} {q : Bool} (h : Least d s t u q) : q = true ↔ ¬ lg d s = lg d t := by
  cases q with
  | true =>
    refine ⟨fun _ e => ?_, fun _ => rfl⟩
    exact (h.yes rfl).1 ((lg_eq rfl).1 e u h.lt)
  | false => exact ⟨fun e => (by cases e), fun e => absurd (h.no rfl).2 e⟩
theorem Least.one {d : Da} {s t : Nat} {u u' : List Nat} {q q' : Bool} (h : Least d s t u q) (h' : Least d s t u' q') : u' = u ∧ q' = q := by
  have hq : q' = q := by
    have h1 := h.q_iff
    have h2 := h'.q_iff
    cases q <;> cases q' <;> simp_all
  subst hq
  refine ⟨?_, rfl⟩
  cases q' with
  | false => rw [(h.no rfl).1, (h'.no rfl).1]
  | true =>
    refine ext_inj (2 ^ d.V.toNat) Nat.one_le_two_pow h'.lt h.lt ?_
    rcases Nat.lt_trichotomy (ext (2 ^ d.V.toNat) 0 u') (ext (2 ^ d.V.toNat) 0 u) with e | e | e
    · exact absurd ((h.yes rfl).2 u' h'.lt e) (h'.yes rfl).1
    · exact e
    · exact absurd ((h'.yes rfl).2 u h.lt e) (h.yes rfl).1
theorem least_ex (d : Da) (s t : Nat) : ∃ u q, Least d s t u q := by
  by_cases h : lg d s = lg d t
  · exact ⟨[], false, fun y hy => (by cases hy), fun e => (by cases e), fun _ => ⟨rfl, h⟩⟩
  · have key : ∀ (N : Nat) (u : List Nat), ext (2 ^ d.V.toNat) 0 u = N → (∀ y ∈ u, y < 2 ^ d.V.toNat) → fiB d (runW (dlt d.nx) s u) ≠ fiB d (runW (dlt d.nx) t u) → ∃ u, Least d s t u true := by
      intro N
      induction N using Nat.strongRecOn with
      | ind N ih =>
        intro u hN hu hne
        by_cases h1 : ∃ v : List Nat, (∀ y ∈ v, y < 2 ^ d.V.toNat) ∧ ext (2 ^ d.V.toNat) 0 v < N ∧ fiB d (runW (dlt d.nx) s v) ≠ fiB d (runW (dlt d.nx) t v)
        · obtain ⟨v, h2, h3, h4⟩ := h1
          exact ih _ h3 v rfl h2 h4
        · refine ⟨u, hu, fun _ => ⟨hne, fun u' h2 h3 => ?_⟩, fun e => (by cases e)⟩
          by_cases h4 : fiB d (runW (dlt d.nx) s u') = fiB d (runW (dlt d.nx) t u')
          · exact h4
          · exact absurd ⟨u', h2, by rw [← hN]; exact h3, h4⟩ h1
    by_cases h2 : ∃ u : List Nat, (∀ y ∈ u, y < 2 ^ d.V.toNat) ∧ fiB d (runW (dlt d.nx) s u) ≠ fiB d (runW (dlt d.nx) t u)
    · obtain ⟨u, h3, h4⟩ := h2
      obtain ⟨v, hv⟩ := key _ u rfl h3 h4
      exact ⟨v, true, hv⟩
    · refine absurd ((lg_eq rfl).2 fun u hu => ?_) h
      by_cases h4 : fiB d (runW (dlt d.nx) s u) = fiB d (runW (dlt d.nx) t u)
      · exact h4
      · exact absurd ⟨u, hu, h4⟩ h2
/-- It has fewer letters than there are states. -/
theorem Least.short {d : Da} {s t : Nat} {u : List Nat} {q : Bool} (h : Least d s t u q) (hO : OkD d) (hs : s < d.nx.length) (ht : t < d.nx.length) : u.length < d.nx.length := by
  cases q with
  | false => rw [(h.no rfl).1]; exact hO.n0
  | true => exact least_short _ _ _ _ Nat.one_le_two_pow (dlt_lt hO) hs ht h.lt (h.yes rfl).1 (h.yes rfl).2
/-- A word of at most k letters tells two states apart exactly if the smallest one that does has at most k letters. -/
theorem Least.tek {d : Da} {s t : Nat} {u : List Nat} {q : Bool} (h : Least d s t u q) (k : Nat) : te (2 ^ d.V.toNat) (dlt d.nx) (fiB d) k s t = (q && decide (u.length ≤ k)) := by
  cases h1 : te (2 ^ d.V.toNat) (dlt d.nx) (fiB d) k s t with
  | true =>
    obtain ⟨v, h2, h3, h4⟩ := (te_word _ _ _ _ _ _).1 h1
    have hq : q = true := h.q_iff.2 fun e => h4 ((lg_eq rfl).1 e v h3)
    have hle : u.length ≤ k := by
      apply Decidable.byContradiction
      intro h5
      exact h4 ((h.yes hq).2 v h3 (ext_short _ Nat.one_le_two_pow h3 (by omega)))
    rw [hq, decide_eq_true hle]
    rfl
  | false =>
    cases q with
    | false => rfl
    | true =>
      by_cases h5 : u.length ≤ k
      · rw [(te_word _ _ _ k s t).2 ⟨u, h5, h.lt, (h.yes rfl).1⟩] at h1
        cases h1
      · rw [decide_eq_false h5]; rfl
theorem own_nil (w : World) (B : Nat) (e : TypeId) : w.ownsRow B e 1 (.slice none 0 0) 0 [] := ⟨rfl, .inl ⟨rfl, rfl⟩⟩
theorem wvs_bvs (u : List Nat) : wvs u = bvs u := rfl
theorem bys_wvs {X : World} {B n c : Nat} {D : Option Addr} {l : List Nat} (h : X.ownsRow B 5 1 (.slice D n c) n (wvs l)) (hn : n = l.length) : Bys X D l := by
  subst hn
  exact Vals.of_own h fun j hj => by simp [wvs, wd, hj]
section
variable (d : Da) (A B : Option Addr) (a b : Nat) (w : World) (hx : DaAt w d A B)
include hx
theorem dis_good (hc : chkD d = 0) (hn : d.nx.length ≤ 4095) (s t : Nat) (hs : s < d.nx.length) (ht : t < d.nx.length) {u : List Nat} {q : Bool} (hL : Least d s t u q) :
    Calls Tryd.prog 25 #[.agg #[.int .i64 d.V, .int .i64 d.q0, .slice A d.nx.length a, .slice B d.fi.length b], .int .i64 s, .int .i64 t] w fun e w' => ∃ D c, e = .returned (.tuple #[.slice D u.length c, .bool q, .int .i64 0]) ∧ w'.ownsRow w.heap.size 5 1 (.slice D u.length c) u.length (wvs u) ∧ Below w.heap.size w w' :=
  (Distinguish_good d A B a b w hx hc hn s t hs ht).mono fun e w' ⟨rv, q', he, hS, hb⟩ => by
    rcases hS with ⟨rv', u', e1, ho, hu, hne, hl⟩ | ⟨e1, hl⟩
    · have e2 := (Ending.returned.inj e1)
      simp only [Value.tuple.injEq, Array.mk.injEq, List.cons.injEq, Value.bool.injEq, and_true] at e2
      obtain ⟨e3, e4⟩ := e2
      obtain ⟨e5, e6⟩ := hL.one (u' := u') (q' := true) ⟨hu, fun _ => ⟨hne, hl⟩, fun e => (by cases e)⟩
      rw [e3, e4] at he
      rw [← e5, ← e6]
      obtain ⟨D, c, rfl, _⟩ := Ap.own_form ho
      exact ⟨D, c, he, ho, hb⟩
    · have e2 := (Ending.returned.inj e1)
      simp only [Value.tuple.injEq, Array.mk.injEq, List.cons.injEq, Value.bool.injEq, and_true] at e2
      obtain ⟨e3, e4⟩ := e2
      rw [e3, e4] at he
      obtain ⟨rfl, rfl⟩ := hL.one (u' := []) (q' := false) ⟨fun y hy => (by cases hy), fun e => (by cases e), fun _ => ⟨rfl, (lg_eq rfl).2 hl⟩⟩
      exact ⟨none, 0, he, own_nil _ _ _, hb⟩
theorem classes_ints (hT : Tab w) (hc : chkD d = 0) (hn : d.nx.length ≤ 4095) :
    Calls Tryd.prog 18 #[.agg #[.int .i64 d.V, .int .i64 d.q0, .slice A d.nx.length a, .slice B d.fi.length b]] w fun e w' => ∃ g, e = .returned (.tuple #[.slice (some ⟨g, 0, none⟩) d.nx.length d.nx.length, .int .i64 0]) ∧ Ints w' (some ⟨g, 0, none⟩) (clsD d d.nx.length) ∧ Below w.heap.size w w' :=
  (Classes_good d A B a b w hx hT hc hn (srt_all _)).mono fun e w' ⟨g, h1, h2, h3, h4⟩ => ⟨g, h1, ints_blk h3, h4⟩
theorem rounds_ints (hT : Tab w) (hc : chkD d = 0) (hn : d.nx.length ≤ 4095) (k : Int) (hk : k ≤ 9223372036854775807) :
    Calls Tryd.prog 19 #[.agg #[.int .i64 d.V, .int .i64 d.q0, .slice A d.nx.length a, .slice B d.fi.length b], .int .i64 k] w fun e w' => ∃ g, e = .returned (.tuple #[.slice (some ⟨g, 0, none⟩) d.nx.length d.nx.length, .int .i64 0]) ∧ Ints w' (some ⟨g, 0, none⟩) (clsD d k.toNat) ∧ Below w.heap.size w w' :=
  (Rounds_good d A B a b w hx hT hc hn (srt_all _) k hk).mono fun e w' ⟨g, h1, h2, h3, h4⟩ => ⟨g, h1, ints_blk h3, h4⟩
theorem min_good (hT : Tabs2 w) (hc : chkD d = 0) (hn : d.nx.length ≤ 4095) (F : List Int) (hF : found (succT d) d.nx.length d.q0 = some F) (hFp : ∀ s ∈ F, Pd d s) {m : Da} (hm : minR (renD d F) = m) :
    Calls Tryd.prog 17 #[.agg #[.int .i64 d.V, .int .i64 d.q0, .slice A d.nx.length a, .slice B d.fi.length b]] w fun e w' => ∃ A' a' B' b', e = .returned (.tuple #[.agg #[.int .i64 d.V, .int .i64 0, .slice A' m.nx.length a', .slice B' m.fi.length b'], .int .i64 0]) ∧ DaAt w' m A' B' ∧ Below w.heap.size w w' ∧ (RowsO w.heap.size w' (.slice A' m.nx.length a') m.nx (fun _ => True) ∧ w'.ownsRow w.heap.size 4 1 (.slice B' m.fi.length b') m.fi.length (m.fi.map Value.bool)) :=
  (Minimize_good d A B a b w hx hT hc hn (srt_all _) F hF hFp).mono fun e w' ⟨rv, fv, h1, h2, h3, h4⟩ => by
    rw [hm] at h2 h3
    obtain ⟨A', a', rfl, _⟩ := h2.form
    obtain ⟨B', b', rfl, _⟩ := Ap.own_form h3
    exact ⟨A', a', B', b', h1, ⟨h2.tabs rfl, bools_own h3 rfl⟩, h4, h2, h3⟩
end
end Go.Proofs.YtkgeihambgbjdaaDoor.Mi
/- The chapter's two automata; the law's awake. -/
namespace Go.Proofs.YtkgeihambgbjdaaDoor.Mi
open Go Go.RowKit Go.Proofs.YtkgeihambgbjdaaDoor Go.Proofs.YtkgeihambgbjdaaDoor.Cb Go.Proofs.YtkgeihambgbjdaaDoor.Sb
open Go.Proofs.YtkgeihambgbjdaaDoor.Nf (Bys zvs bvs ret_int ret_b drew_below)
open Go.Proofs.YtkgeihambgbjdaaDoor.Dg (Tabs tb tb_mem)
set_option linter.unusedVariables false
set_option linter.unusedSimpArgs false
set_option linter.unusedSectionVars false
set_option maxRecDepth 100000
theorem ints_alloc (W : World) (l : List Int) : Ints (W.alloc (.cells (zvs l).toArray 3)) (some ⟨W.heap.size, 0, none⟩) l := Dg.ints_new W 3 l
theorem tabs_row3 (Z : World) (p0 p1 p2 : Option Addr) (l0 l1 l2 : List Int) (h0 : Ints Z p0 l0) (h1 : Ints Z p1 l1) (h2 : Ints Z p2 l2) : Tabs (Z.alloc (.cells #[.slice p0 l0.length l0.length, .slice p1 l1.length l1.length, .slice p2 l2.length l2.length] 33)) (some ⟨Z.heap.size, 0, none⟩) [l0, l1, l2] := by
  have hn := World.alloc_heap_new Z (.cells #[.slice p0 l0.length l0.length, .slice p1 l1.length l1.length, .slice p2 l2.length l2.length] 33)
  have hc : ∀ j u, (#[Value.slice p0 l0.length l0.length, .slice p1 l1.length l1.length, .slice p2 l2.length l2.length])[j]? = some u → (Z.alloc (.cells #[.slice p0 l0.length l0.length, .slice p1 l1.length l1.length, .slice p2 l2.length l2.length] 33)).cell? ((⟨Z.heap.size, 0, none⟩ : Addr).add j) = some u := fun j u hu => by
    rw [addr_add]
    simp only [World.cell?, hn]
    simpa using hu
  have hlt : Z.heap.size < (Z.alloc (.cells #[.slice p0 l0.length l0.length, .slice p1 l1.length l1.length, .slice p2 l2.length l2.length] 33)).heap.size := by rw [World.size_alloc]; omega
  have KZ := bal (Below.refl Z.heap.size Z) (.cells #[.slice p0 l0.length l0.length, .slice p1 l1.length l1.length, .slice p2 l2.length l2.length] 33)
  intro j hj
  match j, hj with
  | 0, _ => exact ⟨_, _, _, rfl, hlt, hc 0 _ rfl, h0.below KZ⟩
  | 1, _ => exact ⟨_, _, _, rfl, hlt, hc 1 _ rfl, h1.below KZ⟩
  | 2, _ => exact ⟨_, _, _, rfl, hlt, hc 2 _ rfl, h2.below KZ⟩
theorem tabs_row2 (Z : World) (p0 p1 : Option Addr) (l0 l1 : List Int) (h0 : Ints Z p0 l0) (h1 : Ints Z p1 l1) : Tabs (Z.alloc (.cells #[.slice p0 l0.length l0.length, .slice p1 l1.length l1.length] 33)) (some ⟨Z.heap.size, 0, none⟩) [l0, l1] := by
  have hn := World.alloc_heap_new Z (.cells #[.slice p0 l0.length l0.length, .slice p1 l1.length l1.length] 33)
  have hc : ∀ j u, (#[Value.slice p0 l0.length l0.length, .slice p1 l1.length l1.length])[j]? = some u → (Z.alloc (.cells #[.slice p0 l0.length l0.length, .slice p1 l1.length l1.length] 33)).cell? ((⟨Z.heap.size, 0, none⟩ : Addr).add j) = some u := fun j u hu => by
    rw [addr_add]
    simp only [World.cell?, hn]
    simpa using hu
  have hlt : Z.heap.size < (Z.alloc (.cells #[.slice p0 l0.length l0.length, .slice p1 l1.length l1.length] 33)).heap.size := by rw [World.size_alloc]; omega
  have KZ := bal (Below.refl Z.heap.size Z) (.cells #[.slice p0 l0.length l0.length, .slice p1 l1.length l1.length] 33)
  intro j hj
  match j, hj with
  | 0, _ => exact ⟨_, _, _, rfl, hlt, hc 0 _ rfl, h0.below KZ⟩
  | 1, _ => exact ⟨_, _, _, rfl, hlt, hc 1 _ rfl, h1.below KZ⟩
theorem da_row3 (X : World) (l0 l1 l2 : List Int) (fs : List Bool) (V q : Int) : DaAt (((((X.alloc (.cells (zvs l0).toArray 3)).alloc (.cells (zvs l1).toArray 3)).alloc (.cells (zvs l2).toArray 3)).alloc (.cells #[.slice (some ⟨X.heap.size, 0, none⟩) l0.length l0.length, .slice (some ⟨X.heap.size + 1, 0, none⟩) l1.length l1.length, .slice (some ⟨X.heap.size + 1 + 1, 0, none⟩) l2.length l2.length] 33)).alloc (.cells (fs.map Value.bool).toArray 4)) ⟨V, q, [l0, l1, l2], fs⟩ (some ⟨X.heap.size + 1 + 1 + 1, 0, none⟩) (some ⟨X.heap.size + 1 + 1 + 1 + 1, 0, none⟩) := by
  have K := fun (Y : World) (o : Obj) => bal (Below.refl Y.heap.size Y) o
  have i0 := ((ints_alloc X l0).below (K _ (.cells (zvs l1).toArray 3))).below (K _ (.cells (zvs l2).toArray 3))
  have i1 := (ints_alloc (X.alloc (.cells (zvs l0).toArray 3)) l1).below (K _ (.cells (zvs l2).toArray 3))
  have i2 := ints_alloc ((X.alloc (.cells (zvs l0).toArray 3)).alloc (.cells (zvs l1).toArray 3)) l2
  simp only [World.size_alloc] at i1 i2
  have hT := tabs_row3 _ _ _ _ l0 l1 l2 i0 i1 i2
  have hb := bools_new ((((X.alloc (.cells (zvs l0).toArray 3)).alloc (.cells (zvs l1).toArray 3)).alloc (.cells (zvs l2).toArray 3)).alloc (.cells #[.slice (some ⟨X.heap.size, 0, none⟩) l0.length l0.length, .slice (some ⟨X.heap.size + 1, 0, none⟩) l1.length l1.length, .slice (some ⟨X.heap.size + 1 + 1, 0, none⟩) l2.length l2.length] 33)) fs
  simp only [World.size_alloc] at hT hb
  exact ⟨hT.below (K _ _), hb⟩
theorem da_row2 (X : World) (l0 l1 : List Int) (fs : List Bool) (V q : Int) : DaAt ((((X.alloc (.cells (zvs l0).toArray 3)).alloc (.cells (zvs l1).toArray 3)).alloc (.cells #[.slice (some ⟨X.heap.size, 0, none⟩) l0.length l0.length, .slice (some ⟨X.heap.size + 1, 0, none⟩) l1.length l1.length] 33)).alloc (.cells (fs.map Value.bool).toArray 4)) ⟨V, q, [l0, l1], fs⟩ (some ⟨X.heap.size + 1 + 1, 0, none⟩) (some ⟨X.heap.size + 1 + 1 + 1, 0, none⟩) := by
  have K := fun (Y : World) (o : Obj) => bal (Below.refl Y.heap.size Y) o
  have i0 := (ints_alloc X l0).below (K _ (.cells (zvs l1).toArray 3))
  have i1 := ints_alloc (X.alloc (.cells (zvs l0).toArray 3)) l1
  simp only [World.size_alloc] at i1
  have hT := tabs_row2 _ _ _ l0 l1 i0 i1
  have hb := bools_new (((X.alloc (.cells (zvs l0).toArray 3)).alloc (.cells (zvs l1).toArray 3)).alloc (.cells #[.slice (some ⟨X.heap.size, 0, none⟩) l0.length l0.length, .slice (some ⟨X.heap.size + 1, 0, none⟩) l1.length l1.length] 33)) fs
  simp only [World.size_alloc] at hT hb
  exact ⟨hT.below (K _ _), hb⟩
/-- The chapter's automata. -/
def oneD : Da := ⟨1, 0, [[1, 2], [1, 2], [2, 2]], [true, true, false]⟩
def twoD : Da := ⟨0, 0, [[1], [2], [2]], [false, false, true]⟩
def oneM : Da := ⟨1, 0, [[0, 1], [1, 1]], [true, false]⟩
set_option maxHeartbeats 2000000 in
theorem one_any (w : World) : Calls Tryd.prog 29 #[] w fun e w' => ∃ A B, e = .returned (.agg #[.int .i64 1, .int .i64 0, .slice A 3 3, .slice B 3 3]) ∧ DaAt w' oneD A B ∧ Below w.heap.size w w' := by
  go_enter Tryd.func29, Tryd.ntmps29
  go_wp2
  have hd := da_row3 (w.alloc (.cells #[.int .i64 1, .int .i64 0, .slice (some ⟨w.heap.size + 1 + 1 + 1 + 1, 0, none⟩) 3 3, .slice (some ⟨w.heap.size + 1 + 1 + 1 + 1 + 1, 0, none⟩) 3 3] 25)) [1, 2] [1, 2] [2, 2] [true, true, false] 1 0
  simp only [World.size_alloc] at hd
  refine bodyPost_ret (v := .agg #[.int .i64 1, .int .i64 0, .slice (some ⟨w.heap.size + 1 + 1 + 1 + 1, 0, none⟩) 3 3, .slice (some ⟨w.heap.size + 1 + 1 + 1 + 1 + 1, 0, none⟩) 3 3]) (by simp [results, Tryd.results29, go_sem]) rfl ?_
  exact ⟨_, _, rfl, hd, bal (bal (bal (bal (bal (bal (Below.refl _ _) _) _) _) _) _) _⟩
set_option maxHeartbeats 2000000 in
theorem two_any (w : World) : Calls Tryd.prog 30 #[] w fun e w' => ∃ A B, e = .returned (.agg #[.int .i64 0, .int .i64 0, .slice A 3 3, .slice B 3 3]) ∧ DaAt w' twoD A B ∧ Below w.heap.size w w' := by
  go_enter Tryd.func30, Tryd.ntmps30
  go_wp2
  have hd := da_row3 (w.alloc (.cells #[.int .i64 0, .int .i64 0, .slice (some ⟨w.heap.size + 1 + 1 + 1 + 1, 0, none⟩) 3 3, .slice (some ⟨w.heap.size + 1 + 1 + 1 + 1 + 1, 0, none⟩) 3 3] 25)) [1] [2] [2] [false, false, true] 0 0
  simp only [World.size_alloc] at hd
  refine bodyPost_ret (v := .agg #[.int .i64 0, .int .i64 0, .slice (some ⟨w.heap.size + 1 + 1 + 1 + 1, 0, none⟩) 3 3, .slice (some ⟨w.heap.size + 1 + 1 + 1 + 1 + 1, 0, none⟩) 3 3]) (by simp [results, Tryd.results30, go_sem]) rfl ?_
  exact ⟨_, _, rfl, hd, bal (bal (bal (bal (bal (bal (Below.refl _ _) _) _) _) _) _) _⟩
theorem one_chk : chkD oneD = 0 := by kernel_rfl
theorem two_chk : chkD twoD = 0 := by kernel_rfl
theorem one_cls : clsD oneD 3 = [0, 0, 1] := by kernel_rfl
theorem two_cls0 : clsD twoD 0 = [0, 0, 1] := by kernel_rfl
theorem two_cls1 : clsD twoD 1 = [0, 1, 2] := by kernel_rfl
theorem one_found : found (succT oneD) 3 0 = some [0, 1, 2] := by kernel_rfl
theorem one_min : minR (renD oneD [0, 1, 2]) = oneM := by kernel_rfl
theorem one_pd : ∀ s ∈ ([0, 1, 2] : List Int), Pd oneD s := by
  intro s hs
  have h : oneD.nx.length = 3 := rfl
  unfold Pd
  rw [h]
  simp only [List.mem_cons, List.not_mem_nil, or_false] at hs
  omega
theorem one_02 : Least oneD 0 2 [] true := ⟨fun y hy => (by cases hy), fun _ => ⟨by decide, fun u' _ h => absurd h (by show ¬ _ < 0; omega)⟩, fun e => (by cases e)⟩
theorem one_01 : Least oneD 0 1 [] false := ⟨fun y hy => (by cases hy), fun e => (by cases e), fun _ => ⟨rfl, (te_full (okD_of one_chk) (k := 3) (by decide) (by decide) (by decide)).1 (by kernel_rfl)⟩⟩
theorem two_01 : Least twoD 0 1 [0] true := ⟨fun y hy => by simp at hy; subst hy; decide, fun _ => ⟨by decide, fun u' hu h => by
  have h0 : ext (2 ^ twoD.V.toNat) 0 [0] = 1 := rfl
  have h1 : ext (2 ^ twoD.V.toNat) 0 u' = ext (2 ^ twoD.V.toNat) 0 [] := by
    show _ = 0
    omega
  rw [ext_inj (2 ^ twoD.V.toNat) (by decide) hu (fun y hy => by cases hy) h1]
  decide⟩, fun e => (by cases e)⟩
section
variable (w : World) (A B : Option Addr)
theorem ex_cls (hx : DaAt w oneD A B) (hT : Tabs2 w) : Calls Tryd.prog 18 #[.agg #[.int .i64 1, .int .i64 0, .slice A 3 3, .slice B 3 3]] w fun e w' => ∃ g, e = .returned (.tuple #[.slice (some ⟨g, 0, none⟩) 3 3, .int .i64 0]) ∧ Ints w' (some ⟨g, 0, none⟩) [0, 0, 1] ∧ Below w.heap.size w w' := by
  have := classes_ints oneD A B 3 3 w hx hT.tz one_chk (by decide)
  rw [show clsD oneD oneD.nx.length = [0, 0, 1] from one_cls] at this
  exact this
theorem ex_min (hx : DaAt w oneD A B) (hT : Tabs2 w) : Calls Tryd.prog 17 #[.agg #[.int .i64 1, .int .i64 0, .slice A 3 3, .slice B 3 3]] w fun e w' => ∃ A' a' B' b', e = .returned (.tuple #[.agg #[.int .i64 1, .int .i64 0, .slice A' 2 a', .slice B' 2 b'], .int .i64 0]) ∧ DaAt w' oneM A' B' ∧ Below w.heap.size w w' :=
  (min_good oneD A B 3 3 w hx hT one_chk (by decide) [0, 1, 2] one_found one_pd one_min).mono fun e w' ⟨A', a', B', b', h1, h2, h3, _⟩ => ⟨A', a', B', b', h1, h2, h3⟩
theorem ex_dis02 (hx : DaAt w oneD A B) : Calls Tryd.prog 25 #[.agg #[.int .i64 1, .int .i64 0, .slice A 3 3, .slice B 3 3], .int .i64 0, .int .i64 2] w fun e w' => ∃ D c, e = .returned (.tuple #[.slice D 0 c, .bool true, .int .i64 0]) ∧ Below w.heap.size w w' :=
  (dis_good oneD A B 3 3 w hx one_chk (by decide) 0 2 (by decide) (by decide) one_02).mono fun e w' ⟨D, c, h1, _, h3⟩ => ⟨D, c, h1, h3⟩
theorem ex_dis01 (hx : DaAt w oneD A B) : Calls Tryd.prog 25 #[.agg #[.int .i64 1, .int .i64 0, .slice A 3 3, .slice B 3 3], .int .i64 0, .int .i64 1] w fun e w' => ∃ D c, e = .returned (.tuple #[.slice D 0 c, .bool false, .int .i64 0]) ∧ Below w.heap.size w w' :=
  (dis_good oneD A B 3 3 w hx one_chk (by decide) 0 1 (by decide) (by decide) one_01).mono fun e w' ⟨D, c, h1, _, h3⟩ => ⟨D, c, h1, h3⟩
theorem ex_dis2 (hx : DaAt w twoD A B) : Calls Tryd.prog 25 #[.agg #[.int .i64 0, .int .i64 0, .slice A 3 3, .slice B 3 3], .int .i64 0, .int .i64 1] w fun e w' => ∃ D c, e = .returned (.tuple #[.slice D 1 c, .bool true, .int .i64 0]) ∧ Below w.heap.size w w' :=
  (dis_good twoD A B 3 3 w hx two_chk (by decide) 0 1 (by decide) (by decide) two_01).mono fun e w' ⟨D, c, h1, _, h3⟩ => ⟨D, c, h1, h3⟩
theorem ex_rnd0 (hx : DaAt w twoD A B) (hT : Tabs2 w) : Calls Tryd.prog 19 #[.agg #[.int .i64 0, .int .i64 0, .slice A 3 3, .slice B 3 3], .int .i64 0] w fun e w' => ∃ g, e = .returned (.tuple #[.slice (some ⟨g, 0, none⟩) 3 3, .int .i64 0]) ∧ Ints w' (some ⟨g, 0, none⟩) [0, 0, 1] ∧ Below w.heap.size w w' := by
  have := rounds_ints twoD A B 3 3 w hx hT.tz two_chk (by decide) 0 (by decide)
  rw [show clsD twoD (0 : Int).toNat = [0, 0, 1] from two_cls0] at this
  exact this
theorem ex_rnd1 (hx : DaAt w twoD A B) (hT : Tabs2 w) : Calls Tryd.prog 19 #[.agg #[.int .i64 0, .int .i64 0, .slice A 3 3, .slice B 3 3], .int .i64 1] w fun e w' => ∃ g, e = .returned (.tuple #[.slice (some ⟨g, 0, none⟩) 3 3, .int .i64 0]) ∧ Ints w' (some ⟨g, 0, none⟩) [0, 1, 2] ∧ Below w.heap.size w w' := by
  have := rounds_ints twoD A B 3 3 w hx hT.tz two_chk (by decide) 1 (by decide)
  rw [show clsD twoD (1 : Int).toNat = [0, 1, 2] from two_cls1] at this
  exact this
theorem ex_eq (l : List Int) (hl : l.length = 3) (g : Nat) (h : Ints w (some ⟨g, 0, none⟩) l) (X : World) (hX : Below w.heap.size w X) (k : Nat) (hk : k = X.heap.size) : Calls Tryd.prog 21 #[.slice (some ⟨g, 0, none⟩) 3 3, .slice (some ⟨k, 0, none⟩) 3 3] (X.alloc (.cells (zvs l).toArray 3)) fun e w' => e = .returned (.bool true) ∧ Below X.heap.size X w' := by
  subst hk
  have hb := bal (Below.refl X.heap.size X) (.cells (zvs l).toArray 3)
  have := Dg.EqualInts_any (some ⟨g, 0, none⟩) (some ⟨X.heap.size, 0, none⟩) l l 3 3 _ (h.below (hX.trans (hb.mono hX.size))) (ints_alloc X l) (by rw [hl]; decide)
  rw [decide_eq_true rfl, hl] at this
  exact this.mono fun e w' h => ⟨h.1, stepB hb h.2⟩
theorem ex_eqd (hx : DaAt w oneM A B) (a b : Nat) (X : World) (hX : Below w.heap.size w X) (k2 k3 : Nat) (h2 : k2 = X.heap.size + 1 + 1) (h3 : k3 = X.heap.size + 1 + 1 + 1) (k0 k1 : Nat) (h0 : k0 = X.heap.size) (h1 : k1 = X.heap.size + 1) : Calls Tryd.prog 20 #[.agg #[.int .i64 1, .int .i64 0, .slice A 2 a, .slice B 2 b], .agg #[.int .i64 1, .int .i64 0, .slice (some ⟨k2, 0, none⟩) 2 2, .slice (some ⟨k3, 0, none⟩) 2 2]] ((((X.alloc (.cells #[.int .i64 0, .int .i64 1] 3)).alloc (.cells #[.int .i64 1, .int .i64 1] 3)).alloc (.cells #[.slice (some ⟨k0, 0, none⟩) 2 2, .slice (some ⟨k1, 0, none⟩) 2 2] 33)).alloc (.cells #[.bool true, .bool false] 4)) fun e w' => e = .returned (.bool true) ∧ Below X.heap.size X w' := by
  subst h0 h1 h2 h3
  have hb := bal (bal (bal (bal (Below.refl X.heap.size X) (.cells #[.int .i64 0, .int .i64 1] 3)) (.cells #[.int .i64 1, .int .i64 1] 3)) (.cells #[.slice (some ⟨X.heap.size, 0, none⟩) 2 2, .slice (some ⟨X.heap.size + 1, 0, none⟩) 2 2] 33)) (.cells #[.bool true, .bool false] 4)
  have hd : DaAt ((((X.alloc (.cells #[.int .i64 0, .int .i64 1] 3)).alloc (.cells #[.int .i64 1, .int .i64 1] 3)).alloc (.cells #[.slice (some ⟨X.heap.size, 0, none⟩) 2 2, .slice (some ⟨X.heap.size + 1, 0, none⟩) 2 2] 33)).alloc (.cells #[.bool true, .bool false] 4)) oneM (some ⟨X.heap.size + 1 + 1, 0, none⟩) (some ⟨X.heap.size + 1 + 1 + 1, 0, none⟩) := da_row2 X [0, 1] [1, 1] [true, false] 1 0
  have hy := hx.below (hX.trans (hb.mono hX.size))
  generalize ((((X.alloc (.cells #[.int .i64 0, .int .i64 1] 3)).alloc (.cells #[.int .i64 1, .int .i64 1] 3)).alloc (.cells #[.slice (some ⟨X.heap.size, 0, none⟩) 2 2, .slice (some ⟨X.heap.size + 1, 0, none⟩) 2 2] 33)).alloc (.cells #[.bool true, .bool false] 4)) = Y at *
  exact (EqualDFA_same oneM A B (some ⟨X.heap.size + 1 + 1, 0, none⟩) (some ⟨X.heap.size + 1 + 1 + 1, 0, none⟩) a b 2 2 Y hy hd ⟨by decide, by decide, by decide⟩).mono fun e w' h => ⟨h.1, stepB hb h.2⟩
end
set_option maxHeartbeats 16000000 in
theorem awake_any8 (w : World) (hT : Tabs2 w) : Calls Tryd.prog 12 #[] w fun e w' => e = .returned (.bool true) ∧ Below w.heap.size w w' := by
  have H1 := Lib.hid fun X => one_any X
  have H2 := Lib.hid fun X => two_any X
  have HT := Lib.hid fun X (hX : Below w.heap.size w X) => hT.below hX
  have HC := Lib.hid fun w A B hx hT => ex_cls w A B hx hT
  have HM := Lib.hid fun w A B hx hT => ex_min w A B hx hT
  have HD := Lib.hid fun w A B hx => ex_dis02 w A B hx
  have HE := Lib.hid fun w A B hx => ex_dis01 w A B hx
  have HF := Lib.hid fun w A B hx => ex_dis2 w A B hx
  have HR0 := Lib.hid fun w A B hx hT => ex_rnd0 w A B hx hT
  have HR1 := Lib.hid fun w A B hx hT => ex_rnd1 w A B hx hT
  have HQ1 : Hid (∀ (w : World) (g : Nat) (h : Ints w (some ⟨g, 0, none⟩) [0, 0, 1]) (X : World) (hX : Below w.heap.size w X) (k : Nat) (hk : k = X.heap.size), Calls Tryd.prog 21 #[.slice (some ⟨g, 0, none⟩) 3 3, .slice (some ⟨k, 0, none⟩) 3 3] (X.alloc (.cells #[.int .i64 0, .int .i64 0, .int .i64 1] 3)) fun e w' => e = .returned (.bool true) ∧ Below X.heap.size X w') := fun w g h X hX k hk => ex_eq w [0, 0, 1] rfl g h X hX k hk
  have HQ2 : Hid (∀ (w : World) (g : Nat) (h : Ints w (some ⟨g, 0, none⟩) [0, 1, 2]) (X : World) (hX : Below w.heap.size w X) (k : Nat) (hk : k = X.heap.size), Calls Tryd.prog 21 #[.slice (some ⟨g, 0, none⟩) 3 3, .slice (some ⟨k, 0, none⟩) 3 3] (X.alloc (.cells #[.int .i64 0, .int .i64 1, .int .i64 2] 3)) fun e w' => e = .returned (.bool true) ∧ Below X.heap.size X w') := fun w g h X hX k hk => ex_eq w [0, 1, 2] rfl g h X hX k hk
  have HQM := Lib.hid fun w A B hx a b X hX k2 k3 h2 h3 k0 k1 h0 h1 => ex_eqd w A B hx a b X hX k2 k3 h2 h3 k0 k1 h0 h1
  have K := Below.refl w.heap.size w
  clear hT
  go_enter Tryd.func12, Tryd.ntmps12
  go_wp2_with (first
    | (go_at_call 29; ((with_reducible refine (H1.out _).mono ?_); rintro e w2 ⟨A, B, rfl, hx, hb2⟩); replace K := (stepB K hb2); (try replace Kl := (stepB Kl hb2)); (try replace Km := (stepB Km hb2)); (try replace Kx := (stepB Kx hb2)); (try replace Ky := (stepB Ky hb2)); (try clear z0 z1 z2 z3); (try replace hG := (hG.below hb2)); (try obtain ⟨z0, z1, z2, z3⟩ := hG.cells))
    | (go_at_call 30; ((with_reducible refine (H2.out _).mono ?_); rintro e w2 ⟨A, B, rfl, hx, hb2⟩); replace K := (stepB K hb2); (try replace Kl := (stepB Kl hb2)); (try replace Km := (stepB Km hb2)); (try replace Kx := (stepB Kx hb2)); (try replace Ky := (stepB Ky hb2)); (try clear z0 z1 z2 z3); (try replace hG := (hG.below hb2)); (try obtain ⟨z0, z1, z2, z3⟩ := hG.cells))
    | (go_at_call 18; ((with_reducible refine (HC.out _ _ _ hx (HT.out _ K)).mono ?_); rintro e wl ⟨gl, rfl, hl, hb3⟩); clear hx; replace K := (stepB K hb3); (try replace Kl := (stepB Kl hb3)); (try replace Km := (stepB Km hb3)); (try replace Kx := (stepB Kx hb3)); (try replace Ky := (stepB Ky hb3)); (try clear z0 z1 z2 z3); (try replace hG := (hG.below hb3)); (try obtain ⟨z0, z1, z2, z3⟩ := hG.cells); have Kl := Below.refl wl.heap.size wl)
    | (go_at_call 17; ((with_reducible refine (HM.out _ _ _ hx (HT.out _ K)).mono ?_); rintro e wm ⟨Am, am, Bm, bm, rfl, hm, hb4⟩); clear hx; have Km := bal (Below.refl wm.heap.size wm) (.cells #[.int .i64 1, .int .i64 0, .slice Am 2 am, .slice Bm 2 bm] 25); have hG := Blk4.new wm (.int .i64 1) (.int .i64 0) (.slice Am 2 am) (.slice Bm 2 bm); replace K := stepB (stepB K hb4) Km; replace Kl := stepB (stepB Kl hb4) Km; obtain ⟨z0, z1, z2, z3⟩ := hG.cells)
    | (go_at_call 25; ((with_reducible refine (HD.out _ _ _ hx).mono ?_); rintro e w5 ⟨D1, c1, rfl, hb5⟩); clear hx HD; replace K := (stepB K hb5); (try replace Kl := (stepB Kl hb5)); (try replace Km := (stepB Km hb5)); (try replace Kx := (stepB Kx hb5)); (try replace Ky := (stepB Ky hb5)); (try clear z0 z1 z2 z3); (try replace hG := (hG.below hb5)); (try obtain ⟨z0, z1, z2, z3⟩ := hG.cells))
    | (go_at_call 25; ((with_reducible refine (HE.out _ _ _ hx).mono ?_); rintro e w6 ⟨D2, c2, rfl, hb6⟩); clear hx HE; replace K := (stepB K hb6); (try replace Kl := (stepB Kl hb6)); (try replace Km := (stepB Km hb6)); (try replace Kx := (stepB Kx hb6)); (try replace Ky := (stepB Ky hb6)); (try clear z0 z1 z2 z3); (try replace hG := (hG.below hb6)); (try obtain ⟨z0, z1, z2, z3⟩ := hG.cells))
    | (go_at_call 25; ((with_reducible refine (HF.out _ _ _ hx).mono ?_); rintro e w7 ⟨D3, c3, rfl, hb7⟩); clear hx HF; replace K := (stepB K hb7); (try replace Kl := (stepB Kl hb7)); (try replace Km := (stepB Km hb7)); (try replace Kx := (stepB Kx hb7)); (try replace Ky := (stepB Ky hb7)); (try clear z0 z1 z2 z3); (try replace hG := (hG.below hb7)); (try obtain ⟨z0, z1, z2, z3⟩ := hG.cells))
    | (go_at_call 19; ((with_reducible refine (HR0.out _ _ _ hx (HT.out _ K)).mono ?_); rintro e wx ⟨gx, rfl, hlx, hb8⟩); clear hx HR0; replace K := (stepB K hb8); (try replace Kl := (stepB Kl hb8)); (try replace Km := (stepB Km hb8)); (try replace Kx := (stepB Kx hb8)); (try replace Ky := (stepB Ky hb8)); (try clear z0 z1 z2 z3); (try replace hG := (hG.below hb8)); (try obtain ⟨z0, z1, z2, z3⟩ := hG.cells); have Kx := Below.refl wx.heap.size wx)
    | (go_at_call 19; ((with_reducible refine (HR1.out _ _ _ hx (HT.out _ K)).mono ?_); rintro e wy ⟨gy, rfl, hly, hb9⟩); clear hx HR1; replace K := (stepB K hb9); (try replace Kl := (stepB Kl hb9)); (try replace Km := (stepB Km hb9)); (try replace Kx := (stepB Kx hb9)); (try replace Ky := (stepB Ky hb9)); (try clear z0 z1 z2 z3); (try replace hG := (hG.below hb9)); (try obtain ⟨z0, z1, z2, z3⟩ := hG.cells); have Ky := Below.refl wy.heap.size wy)
    | (go_at_call 21; ((with_reducible refine (HQ1.out wl gl hl _ Kl _ (by first | rfl | simp)).mono ?_); rintro e w10 ⟨rfl, hb10⟩); clear hl; replace K := (stepB K hb10); (try replace Kl := (stepB Kl hb10)); (try replace Km := (stepB Km hb10)); (try replace Kx := (stepB Kx hb10)); (try replace Ky := (stepB Ky hb10)); (try clear z0 z1 z2 z3); (try replace hG := (hG.below hb10)); (try obtain ⟨z0, z1, z2, z3⟩ := hG.cells))
    | (go_at_call 20; ((with_reducible refine (HQM.out wm Am Bm hm am bm _ Km _ _ (by first | rfl | simp) (by first | rfl | simp) _ _ (by first | rfl | simp) (by first | rfl | simp)).mono ?_); rintro e w11 ⟨rfl, hb11⟩); replace K := (stepB K hb11); (try replace Kl := (stepB Kl hb11)); (try replace Km := (stepB Km hb11)); (try replace Kx := (stepB Kx hb11)); (try replace Ky := (stepB Ky hb11)); (try clear z0 z1 z2 z3); (try replace hG := (hG.below hb11)); (try obtain ⟨z0, z1, z2, z3⟩ := hG.cells))
    | (go_at_call 21; ((with_reducible refine (HQ1.out wx gx hlx _ Kx _ (by first | rfl | simp)).mono ?_); rintro e w12 ⟨rfl, hb12⟩); clear hlx; replace K := (stepB K hb12); (try replace Kl := (stepB Kl hb12)); (try replace Km := (stepB Km hb12)); (try replace Kx := (stepB Kx hb12)); (try replace Ky := (stepB Ky hb12)); (try clear z0 z1 z2 z3); (try replace hG := (hG.below hb12)); (try obtain ⟨z0, z1, z2, z3⟩ := hG.cells))
    | (go_at_call 21; ((with_reducible refine (HQ2.out wy gy hly _ Ky _ (by first | rfl | simp)).mono ?_); rintro e w13 ⟨rfl, hb13⟩); clear hly; replace K := (stepB K hb13); (try replace Kl := (stepB Kl hb13)); (try replace Km := (stepB Km hb13)); (try replace Kx := (stepB Kx hb13)); (try replace Ky := (stepB Ky hb13)); (try clear z0 z1 z2 z3); (try replace hG := (hG.below hb13)); (try obtain ⟨z0, z1, z2, z3⟩ := hG.cells)))
  go_ret
  exact ⟨rfl, K⟩
end Go.Proofs.YtkgeihambgbjdaaDoor.Mi
