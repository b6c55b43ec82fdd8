/- Exploring a graph from a start, numbered by first visit; tables of numbers. Plain mathematics, nothing of the program. -/
import Derived.Test.YtkgeihambgbjdaaDoorBS
import Derived.Test.YtkgeihambgbjdaaDoorPB
namespace Go.Proofs.YtkgeihambgbjdaaDoor.Sb
set_option linter.unusedVariables false
set_option linter.unusedSectionVars false
section
variable {S : Type} [DecidableEq S]
/-- The place of an element. -/
def pos (F : List S) (s : S) : Nat := F.idxOf s
/-- A list with one more element, unless it has it. -/
def add (F : List S) (s : S) : List S := if s ∈ F then F else F ++ [s]
def rowF : List S → List S → List S
  | F, [] => F
  | F, s :: l => rowF (add F s) l
theorem add_pre (F : List S) (s : S) : F <+: add F s := by
  unfold add
  split
  · exact List.prefix_refl _
  · exact List.prefix_append _ _
theorem mem_add {F : List S} {s t : S} : t ∈ add F s ↔ t ∈ F ∨ t = s := by
  unfold add
  split
  · rename_i h
    constructor
    · exact .inl
    · rintro (h1 | rfl)
      · exact h1
      · exact h
  · simp
theorem nodup_add {F : List S} {s : S} (h : F.Nodup) : (add F s).Nodup := by
  unfold add
  split
  · exact h
  · rename_i hn
    rw [List.nodup_append]
    refine ⟨h, by simp, ?_⟩
    rintro a ha b hb rfl
    simp at hb
    subst hb
    exact hn ha
theorem rowF_pre : ∀ (l F : List S), F <+: rowF F l
  | [], F => List.prefix_refl _
  | s :: l, F => (add_pre F s).trans (rowF_pre l (add F s))
theorem mem_rowF {t : S} : ∀ {l F : List S}, t ∈ rowF F l ↔ t ∈ F ∨ t ∈ l
  | [], F => by simp [rowF]
  | s :: l, F => by
    show t ∈ rowF (add F s) l ↔ _
    rw [mem_rowF, mem_add, List.mem_cons]
    constructor
    · rintro ((h | h) | h)
      · exact .inl h
      · exact .inr (.inl h)
      · exact .inr (.inr h)
    · rintro (h | h | h)
      · exact .inl (.inl h)
      · exact .inl (.inr h)
      · exact .inr h
theorem nodup_rowF : ∀ {l F : List S}, F.Nodup → (rowF F l).Nodup
  | [], _, h => h
  | s :: l, _, h => nodup_rowF (l := l) (nodup_add h)
theorem rowF_snoc : ∀ (l F : List S) (s : S), rowF F (l ++ [s]) = add (rowF F l) s
  | [], _, _ => rfl
  | _ :: l, _, s => rowF_snoc l _ s
theorem rowF_take {l F : List S} {k : Nat} (h : k < l.length) : rowF F (l.take (k + 1)) = add (rowF F (l.take k)) l[k] := by
  rw [List.take_add_one, List.getElem?_eq_getElem h]
  exact rowF_snoc _ _ _
theorem rowF_len_mono {l F : List S} {j k : Nat} (h : j ≤ k) : (rowF F (l.take j)).length ≤ (rowF F (l.take k)).length := by
  induction k with
  | zero => obtain rfl : j = 0 := by omega
            exact Nat.le_refl _
  | succ k ih =>
    by_cases hj : j = k + 1
    · subst hj; exact Nat.le_refl _
    · refine Nat.le_trans (ih (by omega)) ?_
      by_cases hk : k < l.length
      · rw [rowF_take hk]
        exact (add_pre _ _).length_le
      · rw [List.take_of_length_le (by omega), List.take_of_length_le (by omega)]
        exact Nat.le_refl _
theorem idx_pre {F G : List S} {s : S} (h : F <+: G) (hs : s ∈ F) : pos G s = pos F s := by
  obtain ⟨t, rfl⟩ := h
  unfold pos
  rw [List.idxOf_append, if_pos hs]
theorem idx_add_new {F : List S} {s : S} (h : s ∉ F) : pos (add F s) s = F.length := by
  unfold add pos
  rw [if_neg h, List.idxOf_append, if_neg h]
  simp
theorem pos_new {F : List S} {s : S} (h : s ∉ F) : pos (F ++ [s]) s = F.length := by
  unfold pos
  rw [List.idxOf_append, if_neg h]
  simp
theorem getD_pre {F G : List S} {i : Nat} {z : S} (h : F <+: G) (hi : i < F.length) : G.getD i z = F.getD i z := by
  obtain ⟨t, rfl⟩ := h
  simp [List.getD_eq_getElem?_getD, List.getElem?_append_left hi]
theorem take_pre {F G : List S} {r : Nat} (h : F <+: G) (hr : r ≤ F.length) : G.take r = F.take r := by
  obtain ⟨t, rfl⟩ := h
  rw [List.take_append_of_le_length hr]
theorem get0_pre {F G : List S} {s0 : S} (h : F <+: G) (h0 : F[0]? = some s0) : G[0]? = some s0 := by
  obtain ⟨t, rfl⟩ := h
  have hlt : 0 < F.length := by
    cases F with
    | nil => simp at h0
    | cons _ _ => simp
  rw [List.getElem?_append_left hlt]
  exact h0
variable (succ : S → List S) (b : Nat)
/-- What exploring finds from r rows on; none: the budget is exceeded. -/
def expl : Nat → Nat → List S → Option (List S)
  | 0, _, _ => none
  | f + 1, r, F => match F[r]? with
    | none => some F
    | some s => if b < (rowF F (succ s)).length then none else expl f (r + 1) (rowF F (succ s))
def found (s0 : S) : Option (List S) := expl succ b (b + 1) 0 [s0]
theorem expl_end {f r : Nat} {F : List S} (h : F.length ≤ r) : expl succ b (f + 1) r F = some F := by
  unfold expl
  rw [List.getElem?_eq_none h]
theorem expl_over {f r : Nat} {F : List S} (h : r < F.length) (hb : b < (rowF F (succ F[r])).length) : expl succ b (f + 1) r F = none := by
  unfold expl
  rw [List.getElem?_eq_getElem h]
  exact if_pos hb
theorem expl_step {f r : Nat} {F : List S} (h : r < F.length) (hb : (rowF F (succ F[r])).length ≤ b) : expl succ b (f + 1) r F = expl succ b f (r + 1) (rowF F (succ F[r])) := by
  conv => lhs; unfold expl
  rw [List.getElem?_eq_getElem h]
  exact if_neg (by omega)
/-- The rows of the first r, as numbers. -/
def nums (F : List S) (r : Nat) : List (List Int) := (F.take r).map fun s => (succ s).map fun t => (pos F t : Int)
/-- The first r rows are closed. -/
def Shut (F : List S) (r : Nat) : Prop := ∀ s ∈ F.take r, ∀ t ∈ succ s, t ∈ F
theorem Shut.step {F : List S} {r : Nat} (h : Shut succ F r) (hr : r < F.length) : Shut succ (rowF F (succ F[r])) (r + 1) := by
  intro s hs t ht
  have hp := rowF_pre (succ F[r]) F
  rw [take_pre hp (by omega), List.take_add_one, List.getElem?_eq_getElem hr] at hs
  rcases List.mem_append.1 hs with h1 | h1
  · exact mem_rowF.2 (.inl (h s h1 t ht))
  · simp at h1
    subst h1
    exact mem_rowF.2 (.inr ht)
theorem nums_step {F : List S} {r : Nat} (h : Shut succ F r) (hr : r < F.length) : nums succ (rowF F (succ F[r])) (r + 1) = nums succ F r ++ [(succ F[r]).map fun t => (pos (rowF F (succ F[r])) t : Int)] := by
  have hp := rowF_pre (succ F[r]) F
  unfold nums
  rw [take_pre hp (by omega), List.take_add_one, List.getElem?_eq_getElem hr, List.map_append]
  congr 1
  refine List.map_congr_left fun s hs => List.map_congr_left fun t ht => ?_
  rw [idx_pre hp (h s hs t ht)]
theorem nums_len (F : List S) (r : Nat) (h : r ≤ F.length) : (nums succ F r).length = r := by
  unfold nums
  rw [List.length_map, List.length_take]
  omega
/-- What is found: the start comes first, nothing twice, closed, within the budget. -/
structure Found (s0 : S) (F : List S) : Prop where
  head : F[0]? = some s0
  nodup : F.Nodup
  shut : ∀ s ∈ F, ∀ t ∈ succ s, t ∈ F
  len : F.length ≤ b
theorem expl_found {s0 : S} : ∀ (f r : Nat) (F G : List S), expl succ b f r F = some G → F[0]? = some s0 → F.Nodup → Shut succ F r → F.length ≤ b → Found succ b s0 G ∧ F <+: G
  | 0, _, _, _, h, _, _, _, _ => by cases h
  | f + 1, r, F, G, h, h0, hn, hs, hb => by
    by_cases hr : r < F.length
    · by_cases ho : b < (rowF F (succ F[r])).length
      · rw [expl_over succ b hr ho] at h
        cases h
      · rw [expl_step succ b hr (by omega)] at h
        have hp := rowF_pre (succ F[r]) F
        obtain ⟨h1, h2⟩ := expl_found f (r + 1) _ G h (get0_pre hp h0) (nodup_rowF hn) (hs.step succ hr) (by omega)
        exact ⟨h1, hp.trans h2⟩
    · rw [expl_end succ b (by omega)] at h
      cases h
      refine ⟨⟨h0, hn, fun s hsF => ?_, hb⟩, List.prefix_refl _⟩
      exact hs s (by rw [List.take_of_length_le (by omega)]; exact hsF)
theorem found_is {s0 : S} {F : List S} (hb : 1 ≤ b) (h : found succ b s0 = some F) : Found succ b s0 F :=
  (expl_found succ b _ _ _ F h rfl (by simp) (fun s hs => by simp at hs) (by simpa using hb)).1
/-- Whatever is found lies in every closed list that has the start; so the budget is enough if such a list is no longer. -/
theorem expl_some {T : List S} (hT : ∀ s ∈ T, ∀ t ∈ succ s, t ∈ T) (hl : T.length ≤ b) : ∀ (f r : Nat) (F : List S), F.Nodup → (∀ s ∈ F, s ∈ T) → b < f + r → r ≤ F.length → ∃ G, expl succ b f r F = some G ∧ ∀ s ∈ G, s ∈ T
  | 0, r, F, hn, hF, hf, hr => by
    have := List.Nodup.length_le_of_subset hn (fun s hs => hF s hs)
    omega
  | f + 1, r, F, hn, hF, hf, hr => by
    by_cases hlt : r < F.length
    · have hsub : ∀ s ∈ rowF F (succ F[r]), s ∈ T := fun s hs => by
        rcases mem_rowF.1 hs with h | h
        · exact hF s h
        · exact hT _ (hF _ (List.getElem_mem hlt)) s h
      have hle := List.Nodup.length_le_of_subset (nodup_rowF (l := succ F[r]) hn) (fun s hs => hsub s hs)
      rw [expl_step succ b hlt (by omega)]
      have := rowF_pre (succ F[r]) F
      exact expl_some hT hl f (r + 1) _ (nodup_rowF hn) hsub (by omega) (by have := this.length_le; omega)
    · rw [expl_end succ b (by omega)]
      exact ⟨F, rfl, hF⟩
theorem found_some {T : List S} {s0 : S} (hT : ∀ s ∈ T, ∀ t ∈ succ s, t ∈ T) (h0 : s0 ∈ T) (hl : T.length ≤ b) : ∃ G, found succ b s0 = some G ∧ ∀ s ∈ G, s ∈ T :=
  expl_some succ b hT hl _ _ _ (by simp) (by simpa using h0) (by omega) (by simp)
end
theorem expl_pre {S : Type} [DecidableEq S] (succ : S → List S) {c : Nat} {G : List S} : ∀ (q r : Nat) (F : List S), expl succ c q r F = some G → F <+: G
  | 0, _, _, h => by cases h
  | q + 1, r, F, h => by
    by_cases hr : r < F.length
    · by_cases ho : c < (rowF F (succ F[r])).length
      · rw [expl_over succ c hr ho] at h; cases h
      · rw [expl_step succ c hr (by omega)] at h
        exact (rowF_pre _ _).trans (expl_pre succ q _ _ h)
    · rw [expl_end succ c (by omega)] at h
      cases h
      exact List.prefix_refl _
/-- A greater budget finds the same, unless the smaller one is exceeded. -/
theorem expl_mono {S : Type} [DecidableEq S] (succ : S → List S) {b c : Nat} (hbc : b ≤ c) : ∀ (f : Nat) (g r : Nat) (F : List S), f ≤ g → ∀ G, expl succ b f r F = some G → expl succ c g r F = some G
  | 0, _, _, _, _, _, h => by cases h
  | f + 1, 0, _, _, hfg, _, _ => by omega
  | f + 1, g + 1, r, F, hfg, G, h => by
    by_cases hr : r < F.length
    · by_cases ho : b < (rowF F (succ F[r])).length
      · rw [expl_over succ b hr ho] at h
        cases h
      · rw [expl_step succ b hr (by omega)] at h
        rw [expl_step succ c hr (by omega)]
        exact expl_mono succ hbc f g (r + 1) _ (by omega) G h
    · rw [expl_end succ b (by omega)] at h
      rw [expl_end succ c (by omega)]
      exact h
/-- If a budget finds something that is within a smaller one, the smaller one finds it, too. -/
theorem expl_less {S : Type} [DecidableEq S] (succ : S → List S) {b c : Nat} : ∀ (f : Nat) (g r : Nat) (F : List S), b < f + r → r ≤ F.length → ∀ G, expl succ c g r F = some G → G.length ≤ b → expl succ b f r F = some G
  | f, 0, _, _, _, _, _, h, _ => by cases h
  | 0, g + 1, r, F, hf, hr, G, h, hG => by
    have hp : F <+: G := expl_pre succ _ _ _ h
    have := hp.length_le
    omega
  | f + 1, g + 1, r, F, hf, hr, G, h, hG => by
    by_cases hlt : r < F.length
    · by_cases ho : c < (rowF F (succ F[r])).length
      · rw [expl_over succ c hlt ho] at h
        cases h
      · rw [expl_step succ c hlt (by omega)] at h
        have hp : rowF F (succ F[r]) <+: G := expl_pre succ _ _ _ h
        have hle := hp.length_le
        rw [expl_step succ b hlt (by omega)]
        have := (rowF_pre (succ F[r]) F).length_le
        exact expl_less succ f g (r + 1) _ (by omega) (by omega) G h hG
    · rw [expl_end succ c (by omega)] at h
      rw [expl_end succ b (by omega)]
      exact h
set_option linter.unusedSectionVars false
set_option linter.unusedVariables false
section
variable {S T : Type} [DecidableEq S] [DecidableEq T] (f : S → T) (P : S → Prop) (inj : ∀ s t, P s → P t → f s = f t → s = t)
include inj
theorem mem_map_inj {F : List S} {s : S} (hF : ∀ t ∈ F, P t) (hs : P s) : f s ∈ F.map f ↔ s ∈ F := by
  rw [List.mem_map]
  exact ⟨fun ⟨t, ht, e⟩ => (inj t s (hF t ht) hs e) ▸ ht, fun h => ⟨s, h, rfl⟩⟩
theorem add_map {F : List S} {s : S} (hF : ∀ t ∈ F, P t) (hs : P s) : add (F.map f) (f s) = (add F s).map f := by
  unfold add
  by_cases h : s ∈ F
  · rw [if_pos h, if_pos ((mem_map_inj f P inj hF hs).2 h)]
  · rw [if_neg h, if_neg (fun h1 => h ((mem_map_inj f P inj hF hs).1 h1))]
    simp
theorem rowF_map : ∀ {l F : List S}, (∀ t ∈ F, P t) → (∀ t ∈ l, P t) → rowF (F.map f) (l.map f) = (rowF F l).map f
  | [], _, _, _ => rfl
  | s :: l, F, hF, hl => by
    show rowF (add (F.map f) (f s)) (l.map f) = (rowF (add F s) l).map f
    rw [add_map f P inj hF (hl s (by simp))]
    refine rowF_map (fun t ht => ?_) (fun t ht => hl t (by simp [ht]))
    rcases mem_add.1 ht with h | h
    · exact hF t h
    · exact h ▸ hl s (by simp)
theorem idx_map {F : List S} {s : S} (hF : ∀ t ∈ F, P t) (hs : P s) : pos (F.map f) (f s) = pos F s := by
  unfold pos
  induction F with
  | nil => rfl
  | cons t F ih =>
    rw [List.map_cons, List.idxOf_cons, List.idxOf_cons, ih (fun u hu => hF u (by simp [hu]))]
    have : (f t == f s) = (t == s) := by
      rw [Bool.eq_iff_iff, beq_iff_eq, beq_iff_eq]
      exact ⟨inj t s (hF t (by simp)) hs, fun e => by rw [e]⟩
    rw [this]
theorem expl_map (succ : S → List S) (succ' : T → List T) (hs : ∀ s, P s → succ' (f s) = (succ s).map f) (hP : ∀ s, P s → ∀ t ∈ succ s, P t) (b : Nat) : ∀ (q r : Nat) (F : List S), (∀ t ∈ F, P t) → expl succ' b q r (F.map f) = (expl succ b q r F).map (List.map f)
  | 0, _, _, _ => rfl
  | q + 1, r, F, hF => by
    by_cases hr : r < F.length
    · have hr' : r < (F.map f).length := by rw [List.length_map]; exact hr
      have hF' : ∀ t ∈ rowF F (succ F[r]), P t := fun t ht => by
        rcases mem_rowF.1 ht with h | h
        · exact hF t h
        · exact hP _ (hF _ (List.getElem_mem hr)) t h
      have he : rowF (F.map f) (succ' (F.map f)[r]) = (rowF F (succ F[r])).map f := by
        rw [List.getElem_map, hs _ (hF _ (List.getElem_mem hr)), rowF_map f P inj hF (hP _ (hF _ (List.getElem_mem hr)))]
      by_cases ho : b < (rowF F (succ F[r])).length
      · rw [expl_over succ b hr ho, expl_over succ' b hr' (by rw [he, List.length_map]; exact ho)]
        rfl
      · rw [expl_step succ b hr (by omega), expl_step succ' b hr' (by rw [he, List.length_map]; omega), he]
        exact expl_map succ succ' hs hP b q (r + 1) _ hF'
    · rw [expl_end succ b (by omega), expl_end succ' b (by rw [List.length_map]; omega)]
      rfl
theorem nums_map (succ : S → List S) (succ' : T → List T) (hs : ∀ s, P s → succ' (f s) = (succ s).map f) (hP : ∀ s, P s → ∀ t ∈ succ s, P t) {F : List S} (hF : ∀ t ∈ F, P t) (r : Nat) : nums succ' (F.map f) r = nums succ F r := by
  unfold nums
  rw [← List.map_take, List.map_map]
  refine List.map_congr_left fun s hs1 => ?_
  have hPs := hF s (List.mem_of_mem_take hs1)
  show (succ' (f s)).map _ = _
  rw [hs s hPs, List.map_map]
  refine List.map_congr_left fun t ht => ?_
  show ((pos (F.map f) (f t) : Nat) : Int) = _
  rw [idx_map f P inj hF (hP s hPs t ht)]
end
/-- What exploring keeps: a predicate that the successors keep. -/
theorem expl_keep {S : Type} [DecidableEq S] (succ : S → List S) (P : S → Prop) (hP : ∀ s, P s → ∀ t ∈ succ s, P t) (b : Nat) {G : List S} : ∀ (q r : Nat) (F : List S), (∀ t ∈ F, P t) → expl succ b q r F = some G → ∀ t ∈ G, P t
  | 0, _, _, _, h => by cases h
  | q + 1, r, F, hF, h => by
    by_cases hr : r < F.length
    · by_cases ho : b < (rowF F (succ F[r])).length
      · rw [expl_over succ b hr ho] at h; cases h
      · rw [expl_step succ b hr (by omega)] at h
        refine expl_keep succ P hP b q (r + 1) _ (fun t ht => ?_) h
        rcases mem_rowF.1 ht with h1 | h1
        · exact hF t h1
        · exact hP _ (hF _ (List.getElem_mem hr)) t h1
    · rw [expl_end succ b (by omega)] at h
      cases h
      exact hF
set_option linter.unusedSectionVars false
set_option linter.unusedVariables false
/-- A list of lists at a place. -/
def rw' (L : List (List Int)) (j : Nat) : List Int := L.getD j []
/-- One step of a table. -/
def stepT (nx : List (List Int)) (q : Int) (x : Nat) : Int := (rw' nx q.toNat).getD x 0
def runT (nx : List (List Int)) (q : Int) (w : List Nat) : Int := w.foldl (stepT nx) q
theorem runT_app (nx : List (List Int)) (q : Int) (v w : List Nat) : runT nx q (v ++ w) = runT nx (runT nx q v) w := List.foldl_append
section
variable {S : Type} [DecidableEq S] (step : S → Nat → S) (L : Nat)
def rowS (s : S) : List S := (List.range L).map (step s)
theorem nums_row {F : List S} {i : Nat} (h : i < F.length) (succ : S → List S) : rw' (nums succ F F.length) i = (succ F[i]).map fun t => (pos F t : Int) := by
  unfold rw' nums
  rw [List.take_length, List.getD_eq_getElem?_getD, List.getElem?_map, List.getElem?_eq_getElem h]
  rfl
theorem stepT_nums {F : List S} (hS : ∀ s ∈ F, ∀ t ∈ rowS step L s, t ∈ F) {s : S} (hs : s ∈ F) {x : Nat} (hx : x < L) : stepT (nums (rowS step L) F F.length) (pos F s : Int) x = (pos F (step s x) : Int) ∧ step s x ∈ F := by
  have hi : pos F s < F.length := List.idxOf_lt_length_of_mem hs
  have he : F[pos F s] = s := List.getElem_idxOf hi
  refine ⟨?_, hS s hs _ (List.mem_map.2 ⟨x, List.mem_range.2 hx, rfl⟩)⟩
  unfold stepT
  rw [Int.toNat_natCast, nums_row hi, he]
  unfold rowS
  rw [List.map_map, List.getD_eq_getElem?_getD, List.getElem?_map, List.getElem?_range hx]
  rfl
theorem runT_nums {F : List S} (hS : ∀ s ∈ F, ∀ t ∈ rowS step L s, t ∈ F) : ∀ (w : List Nat) (s : S), s ∈ F → (∀ x ∈ w, x < L) → runT (nums (rowS step L) F F.length) (pos F s : Int) w = (pos F (w.foldl step s) : Int) ∧ w.foldl step s ∈ F
  | [], s, hs, _ => ⟨rfl, hs⟩
  | x :: w, s, hs, hx => by
    obtain ⟨h1, h2⟩ := stepT_nums step L hS hs (hx x (by simp))
    show runT _ (stepT _ _ x) w = _ ∧ _
    rw [h1]
    exact runT_nums hS w _ h2 fun y hy => hx y (by simp [hy])
theorem nums_ok {F : List S} (succ : S → List S) (hS : ∀ s ∈ F, ∀ t ∈ succ s, t ∈ F) : ∀ row ∈ nums succ F F.length, ∀ z ∈ row, 0 ≤ z ∧ z < (F.length : Int) := by
  intro row hr z hz
  unfold nums at hr
  rw [List.take_length] at hr
  obtain ⟨s, hs, rfl⟩ := List.mem_map.1 hr
  obtain ⟨t, ht, rfl⟩ := List.mem_map.1 hz
  have : pos F t < F.length := List.idxOf_lt_length_of_mem (hS s hs t ht)
  omega
end
end Go.Proofs.YtkgeihambgbjdaaDoor.Sb
/- Equivalence of states by short words; numbering by first visit; parts of a class. Plain mathematics, nothing of the program. -/
namespace Go.Proofs.YtkgeihambgbjdaaDoor.Mi
open Go.Proofs.YtkgeihambgbjdaaDoor Go.Proofs.YtkgeihambgbjdaaDoor.Sb
open Go.Proofs.YtkgeihambgbjdaaDoor.Dg (tb)
set_option linter.unusedVariables false
set_option linter.unusedSectionVars false
section
variable (n L : Nat) (δ : Nat → Nat → Nat) (f : Nat → Bool)
/-- A word of at most k letters tells two states apart. -/
def te : Nat → Nat → Nat → Bool
  | 0, s, t => f s != f t
  | k + 1, s, t => te k s t || (List.range L).any fun x => te k (δ s x) (δ t x)
/-- The same, one later; at 0 nothing is told apart. -/
def tl : Nat → Nat → Nat → Bool
  | 0, _, _ => false
  | k + 1, s, t => te L δ f k s t
theorem te_next {k s t : Nat} : te L δ f (k + 1) s t = false ↔ te L δ f k s t = false ∧ ∀ x, x < L → te L δ f k (δ s x) (δ t x) = false := by
  show (te L δ f k s t || _) = false ↔ _
  rw [Bool.or_eq_false_iff, List.any_eq_false]
  refine and_congr Iff.rfl ⟨fun h x hx => ?_, fun h x hx => ?_⟩
  · have := h x (List.mem_range.2 hx)
    simpa using this
  · rw [h x (List.mem_range.1 hx)]; simp
theorem te_refl : ∀ k s, te L δ f k s s = false
  | 0, s => by show (f s != f s) = false; simp
  | k + 1, s => (te_next L δ f).2 ⟨te_refl k s, fun x _ => te_refl k _⟩
theorem te_symm : ∀ {k s t}, te L δ f k s t = false → te L δ f k t s = false
  | 0, s, t, h => by
    have h : (f s != f t) = false := h
    show (f t != f s) = false
    rw [bne_eq_false_iff_eq] at h ⊢
    exact h.symm
  | k + 1, s, t, h => by
    obtain ⟨h1, h2⟩ := (te_next L δ f).1 h
    exact (te_next L δ f).2 ⟨te_symm h1, fun x hx => te_symm (h2 x hx)⟩
theorem te_trans : ∀ {k s t u}, te L δ f k s t = false → te L δ f k t u = false → te L δ f k s u = false
  | 0, s, t, u, h, h' => by
    have h : (f s != f t) = false := h
    have h' : (f t != f u) = false := h'
    show (f s != f u) = false
    rw [bne_eq_false_iff_eq] at h h' ⊢
    exact h.trans h'
  | k + 1, s, t, u, h, h' => by
    obtain ⟨h1, h2⟩ := (te_next L δ f).1 h
    obtain ⟨h3, h4⟩ := (te_next L δ f).1 h'
    exact (te_next L δ f).2 ⟨te_trans h1 h3, fun x hx => te_trans (h2 x hx) (h4 x hx)⟩
theorem te_less {k s t : Nat} (h : te L δ f (k + 1) s t = false) : te L δ f k s t = false := ((te_next L δ f).1 h).1
theorem te_le {k s t : Nat} : ∀ {m}, te L δ f (k + m) s t = false → te L δ f k s t = false
  | 0, h => h
  | m + 1, h => te_le (te_less L δ f h)
theorem te_stable {k : Nat} (hδ : ∀ s x, s < n → x < L → δ s x < n) (h : ∀ s t, s < n → t < n → te L δ f k s t = false → te L δ f (k + 1) s t = false) : ∀ m s t, s < n → t < n → te L δ f k s t = false → te L δ f (k + m) s t = false
  | 0, _, _, _, _, h0 => h0
  | m + 1, s, t, hs, ht, h0 => (te_next L δ f).2 ⟨te_stable hδ h m s t hs ht h0, fun x hx => te_stable hδ h m _ _ (hδ s x hs hx) (hδ t x ht hx) (((te_next L δ f).1 (h s t hs ht h0)).2 x hx)⟩
theorem tl_refl : ∀ k s, tl L δ f k s s = false
  | 0, _ => rfl
  | k + 1, s => te_refl L δ f k s
theorem tl_symm : ∀ {k s t}, tl L δ f k s t = false → tl L δ f k t s = false
  | 0, _, _, _ => rfl
  | k + 1, _, _, h => te_symm L δ f h
theorem tl_trans : ∀ {k s t u}, tl L δ f k s t = false → tl L δ f k t u = false → tl L δ f k s u = false
  | 0, _, _, _, _, _ => rfl
  | k + 1, _, _, _, h, h' => te_trans L δ f h h'
theorem tl_less : ∀ {k s t}, tl L δ f (k + 1) s t = false → tl L δ f k s t = false
  | 0, _, _, _ => rfl
  | k + 1, _, _, h => te_less L δ f h
theorem tl_next {k s t : Nat} (hk : 0 < k) : tl L δ f (k + 1) s t = false ↔ tl L δ f k s t = false ∧ ∀ x, x < L → tl L δ f k (δ s x) (δ t x) = false := by
  obtain ⟨k, rfl⟩ : ∃ j, k = j + 1 := ⟨k - 1, by omega⟩
  exact te_next L δ f
/-- The smallest state that is not told apart. -/
def rep (k s : Nat) : Nat := ((List.range n).find? fun t => !tl L δ f k s t).getD s
theorem rep_is {k s : Nat} (hs : s < n) : rep n L δ f k s < n ∧ tl L δ f k s (rep n L δ f k s) = false := by
  unfold rep
  cases h : (List.range n).find? fun t => !tl L δ f k s t with
  | none =>
    have := List.find?_eq_none.1 h s (List.mem_range.2 hs)
    rw [tl_refl] at this
    simp at this
  | some r =>
    have h1 := List.find?_some h
    have h2 := List.mem_of_find?_eq_some h
    exact ⟨List.mem_range.1 h2, by simpa using h1⟩
theorem rep_eq {k s t : Nat} (hs : s < n) (ht : t < n) : rep n L δ f k s = rep n L δ f k t ↔ tl L δ f k s t = false := by
  constructor
  · intro h
    have h1 := (rep_is n L δ f (k := k) hs).2
    have h2 := (rep_is n L δ f (k := k) ht).2
    rw [h] at h1
    exact tl_trans L δ f h1 (tl_symm L δ f h2)
  · intro h
    have e : (fun u => !tl L δ f k s u) = fun u => !tl L δ f k t u := by
      funext u
      congr 1
      cases h1 : tl L δ f k s u with
      | false => exact (tl_trans L δ f (tl_symm L δ f h) h1).symm
      | true =>
        cases h2 : tl L δ f k t u with
        | true => rfl
        | false => rw [tl_trans L δ f h h2] at h1; cases h1
    have h1 : ∃ r, (List.range n).find? (fun u => !tl L δ f k s u) = some r := by
      cases h : (List.range n).find? fun t => !tl L δ f k s t with
      | none =>
        have := List.find?_eq_none.1 h s (List.mem_range.2 hs)
        rw [tl_refl] at this
        simp at this
      | some r => exact ⟨r, rfl⟩
    obtain ⟨r, hr⟩ := h1
    unfold rep
    rw [← e, hr]
    rfl
end
theorem pos_lt {S : Type} [DecidableEq S] {s : S} {F : List S} (h : s ∈ F) : pos F s < F.length := List.idxOf_lt_length_of_mem h
theorem pos_get {S : Type} [DecidableEq S] {s : S} {F : List S} (h : s ∈ F) : F[pos F s]'(pos_lt h) = s := List.getElem_idxOf (pos_lt h)
/-- The numbers of a list's entries, in the order of their first places. -/
def ordL (c : List Int) : List Int := c.map fun z => (pos (rowF [] c) z : Int)
theorem nd_eq {l : List Int} {i : Nat} (h : i < l.length) : nd l i = l[i] := by
  unfold nd
  rw [List.getD_eq_getElem?_getD, List.getElem?_eq_getElem h]
  rfl
theorem ordL_congr {c c' : List Int} (hl : c'.length = c.length) (h : ∀ s t, s < c.length → t < c.length → (nd c s = nd c t ↔ nd c' s = nd c' t)) : ordL c = ordL c' := by
  have hat : ∀ z ∈ c, pos c z < c.length ∧ nd c (pos c z) = z := fun z hz => by
    have h1 : pos c z < c.length := List.idxOf_lt_length_of_mem hz
    refine ⟨h1, ?_⟩
    rw [nd_eq h1]
    exact List.getElem_idxOf h1
  have hmem : ∀ i, i < c.length → nd c i ∈ c := fun i hi => by rw [nd_eq hi]; exact List.getElem_mem hi
  have e : c' = c.map fun z => nd c' (pos c z) := by
    apply List.ext_getElem
    · rw [List.length_map, hl]
    · intro i h1 h2
      have hi : i < c.length := by omega
      rw [List.getElem_map, ← nd_eq h1]
      obtain ⟨h3, h4⟩ := hat _ (hmem i hi)
      rw [← nd_eq hi]
      exact (h i _ hi h3).1 h4.symm
  have inj : ∀ s t : Int, s ∈ c → t ∈ c → (fun z => nd c' (pos c z)) s = (fun z => nd c' (pos c z)) t → s = t := fun s t hs ht he => by
    obtain ⟨h1, h2⟩ := hat s hs
    obtain ⟨h3, h4⟩ := hat t ht
    rw [← h2, ← h4]
    exact (h _ _ h1 h3).2 he
  generalize (fun z => nd c' (pos c z)) = g at e inj
  subst e
  have h1 := rowF_map g (· ∈ c) inj (l := c) (F := []) (fun t ht => absurd ht (by simp)) (fun t ht => ht)
  rw [List.map_nil] at h1
  unfold ordL
  rw [h1, List.map_map]
  refine List.map_congr_left fun z hz => ?_
  show _ = ((pos _ (g z) : Nat) : Int)
  rw [idx_map g (· ∈ c) inj (fun t ht => by
    rcases mem_rowF.1 ht with h2 | h2
    · cases h2
    · exact h2) hz]
/-- The classes after k rounds. -/
def clsL (n L : Nat) (δ : Nat → Nat → Nat) (f : Nat → Bool) (k : Nat) : List Int := ordL ((List.range n).map fun s => (rep n L δ f k s : Int))
theorem nd_map {n : Nat} (g : Nat → Int) {s : Nat} (h : s < n) : nd ((List.range n).map g) s = g s := by
  rw [nd_eq (by simpa using h)]
  simp
theorem ordL_cls {n L : Nat} {δ : Nat → Nat → Nat} {f : Nat → Bool} {k : Nat} {cl : List Int} (hl : cl.length = n) (h : ∀ s t, s < n → t < n → (nd cl s = nd cl t ↔ tl L δ f k s t = false)) : ordL cl = clsL n L δ f k := by
  subst hl
  refine ordL_congr (by simp) fun s t hs ht => ?_
  rw [nd_map _ hs, nd_map _ ht, h s t hs ht, ← rep_eq cl.length L δ f hs ht]
  omega
theorem ordL_len (c : List Int) : (ordL c).length = c.length := List.length_map _
theorem ordL_eq {c : List Int} {s t : Nat} (hs : s < c.length) (ht : t < c.length) : nd (ordL c) s = nd (ordL c) t ↔ nd c s = nd c t := by
  have hm : ∀ {i}, (h : i < c.length) → c[i] ∈ rowF [] c := fun {i} h => mem_rowF.2 (.inr (List.getElem_mem h))
  have e : ∀ {i}, (h : i < c.length) → nd (ordL c) i = (pos (rowF [] c) c[i] : Int) := fun {i} h => by
    rw [nd_eq (by rw [ordL_len]; exact h)]
    unfold ordL
    rw [List.getElem_map]
  rw [e hs, e ht, nd_eq hs, nd_eq ht]
  constructor
  · intro h
    have h : pos (rowF [] c) c[s] = pos (rowF [] c) c[t] := by exact_mod_cast h
    have h1 : pos (rowF [] c) c[s] < (rowF [] c).length := List.idxOf_lt_length_of_mem (hm hs)
    have h2 : pos (rowF [] c) c[t] < (rowF [] c).length := List.idxOf_lt_length_of_mem (hm ht)
    have h3 : (rowF [] c)[pos (rowF [] c) c[s]] = c[s] := List.getElem_idxOf h1
    have h4 : (rowF [] c)[pos (rowF [] c) c[t]] = c[t] := List.getElem_idxOf h2
    rw [← h3, ← h4]
    simp only [h]
  · intro h; rw [h]
theorem cls_len (n L : Nat) (δ : Nat → Nat → Nat) (f : Nat → Bool) (k : Nat) : (clsL n L δ f k).length = n := by
  unfold clsL
  rw [ordL_len, List.length_map, List.length_range]
theorem cls_eq {n L : Nat} {δ : Nat → Nat → Nat} {f : Nat → Bool} {k s t : Nat} (hs : s < n) (ht : t < n) : nd (clsL n L δ f k) s = nd (clsL n L δ f k) t ↔ tl L δ f k s t = false := by
  unfold clsL
  rw [ordL_eq (by simpa using hs) (by simpa using ht), nd_map _ hs, nd_map _ ht, ← rep_eq n L δ f hs ht]
  omega
/-- A permutation of a mapped list is a mapped permutation. -/
theorem perm_map_inv {α β : Type} (g : α → β) {l' m : List β} (h : l'.Perm m) : ∀ {l : List α}, m = l.map g → ∃ k : List α, k.Perm l ∧ l' = k.map g := by
  induction h with
  | nil => intro l e; cases l with | nil => exact ⟨[], .nil, rfl⟩ | cons x l => cases e
  | cons x h ih =>
    intro l e
    cases l with
    | nil => cases e
    | cons y l =>
      rw [List.map_cons] at e
      injection e with e1 e2
      obtain ⟨k, h1, h2⟩ := ih e2
      exact ⟨y :: k, h1.cons y, by rw [List.map_cons, e1, h2]⟩
  | swap x y l0 =>
    intro l e
    cases l with
    | nil => cases e
    | cons a l =>
      cases l with
      | nil => cases e
      | cons b l =>
        rw [List.map_cons, List.map_cons] at e
        injection e with e1 e2
        injection e2 with e2 e3
        exact ⟨b :: a :: l, .swap _ _ _, by rw [List.map_cons, List.map_cons, e1, e2, e3]⟩
  | trans h1 h2 ih1 ih2 =>
    intro l e
    obtain ⟨k, h3, h4⟩ := ih2 e
    obtain ⟨k', h5, h6⟩ := ih1 h4
    exact ⟨k', h5.trans h3, h6⟩
theorem mem_rowF0L {S : Type} [DecidableEq S] {l : List S} {z : S} : z ∈ rowF [] l ↔ z ∈ l := by rw [mem_rowF]; simp
/-- The elements with equal keys together, in the order of the keys' first places. -/
def partsL (key : Int → List Int) (l : List Int) : List (List Int) := (rowF [] (l.map key)).map fun K => l.filter fun z => decide (key z = K)
theorem mem_keys {key : Int → List Int} {l : List Int} {K : List Int} : K ∈ rowF [] (l.map key) ↔ ∃ z ∈ l, key z = K := by
  rw [mem_rowF, List.mem_map]
  simp
theorem keys_snoc (key : Int → List Int) (l : List Int) (z : Int) : rowF [] ((l ++ [z]).map key) = add (rowF [] (l.map key)) (key z) := by
  rw [List.map_append]
  exact rowF_snoc _ _ _
theorem parts_new {key : Int → List Int} {l : List Int} {z : Int} (h : key z ∉ rowF [] (l.map key)) : partsL key (l ++ [z]) = partsL key l ++ [[z]] := by
  unfold partsL
  rw [keys_snoc]
  unfold add
  rw [if_neg h, List.map_append]
  congr 1
  · refine List.map_congr_left fun K hK => ?_
    rw [List.filter_append]
    have : ([z].filter fun z => decide (key z = K)) = [] := by
      rw [List.filter_cons_of_neg]
      · rfl
      · simp; rintro rfl; exact h hK
    rw [this, List.append_nil]
  · simp only [List.map_cons, List.map_nil]
    congr 1
    rw [List.filter_append]
    have e1 : (l.filter fun y => decide (key y = key z)) = [] := by
      rw [List.filter_eq_nil_iff]
      intro y hy
      simp
      intro e
      exact h (mem_keys.2 ⟨y, hy, e⟩)
    rw [e1]
    simp
theorem parts_len (key : Int → List Int) (l : List Int) : (partsL key l).length = (rowF [] (l.map key)).length := List.length_map _
theorem parts_old {key : Int → List Int} {l : List Int} {z : Int} (h : key z ∈ rowF [] (l.map key)) : partsL key (l ++ [z]) = (partsL key l).set (pos (rowF [] (l.map key)) (key z)) (tb (partsL key l) (pos (rowF [] (l.map key)) (key z)) ++ [z]) := by
  have hi : pos (rowF [] (l.map key)) (key z) < (rowF [] (l.map key)).length := pos_lt h
  have hnd : (rowF [] (l.map key)).Nodup := nodup_rowF List.nodup_nil
  have hk : (rowF [] (l.map key))[pos (rowF [] (l.map key)) (key z)] = key z := pos_get h
  have e1 : rowF [] ((l ++ [z]).map key) = rowF [] (l.map key) := by rw [keys_snoc]; exact if_pos h
  apply List.ext_getElem
  · rw [List.length_set, parts_len, parts_len, e1]
  · intro i h1 h2
    have h3 : i < (rowF [] (l.map key)).length := by rwa [parts_len, e1] at h1
    have e2 : (partsL key (l ++ [z]))[i] = (l ++ [z]).filter fun y => decide (key y = (rowF [] (l.map key))[i]) := by
      simp only [partsL, List.getElem_map, e1]
    have e3 : ∀ j (hj : j < (partsL key l).length) (hj' : j < (rowF [] (l.map key)).length), (partsL key l)[j] = l.filter fun y => decide (key y = (rowF [] (l.map key))[j]) := fun j hj hj' => by
      simp only [partsL, List.getElem_map]
    rw [e2, List.getElem_set, List.filter_append]
    by_cases e : pos (rowF [] (l.map key)) (key z) = i
    · rw [if_pos e]
      have hip : pos (rowF [] (l.map key)) (key z) < (partsL key l).length := by rw [parts_len]; exact hi
      unfold tb
      rw [List.getD_eq_getElem?_getD, List.getElem?_eq_getElem hip]
      show _ = (partsL key l)[pos (rowF [] (l.map key)) (key z)] ++ [z]
      rw [e3 _ hip hi, hk]
      subst e
      rw [hk]
      simp
    · rw [if_neg e, e3 i (by rw [parts_len]; exact h3) h3]
      have : ¬ key z = (rowF [] (l.map key))[i] := fun h4 => e (by
        have h5 : (rowF [] (l.map key))[pos (rowF [] (l.map key)) (key z)] = (rowF [] (l.map key))[i] := by rw [hk, h4]
        exact (List.getElem_inj hnd).1 h5)
      rw [List.filter_cons_of_neg (by simpa using this)]
      simp
end Go.Proofs.YtkgeihambgbjdaaDoor.Mi
/- A partition and its refinement: a class is replaced by its parts; a round. Plain mathematics, nothing of the program. -/
namespace Go.Proofs.YtkgeihambgbjdaaDoor.Mi
open Go.Proofs.YtkgeihambgbjdaaDoor Go.Proofs.YtkgeihambgbjdaaDoor.Sb
open Go.Proofs.YtkgeihambgbjdaaDoor.Dg (tb tb_mem)
set_option linter.unusedVariables false
set_option linter.unusedSectionVars false
/-- The states p get the number v. -/
def setAll (cl : List Int) (p : List Int) (v : Int) : List Int := p.foldl (fun cl z => cl.set z.toNat v) cl
/-- The parts get the numbers from M. -/
def splitC (cl : List Int) (M : Nat) : List (List Int) → List Int
  | [] => cl
  | p :: ps => splitC (setAll cl p M) (M + 1) ps
theorem setAll_len : ∀ (p cl : List Int) (v : Int), (setAll cl p v).length = cl.length
  | [], _, _ => rfl
  | z :: p, cl, v => by
    show (setAll (cl.set z.toNat v) p v).length = _
    rw [setAll_len p, List.length_set]
theorem nd_set {cl : List Int} {i s : Nat} {v : Int} (hs : s < cl.length) : nd (cl.set i v) s = if i = s then v else nd cl s := by
  rw [nd_eq (by simpa using hs), nd_eq hs, List.getElem_set]
theorem nd_setAll : ∀ {p cl : List Int} {v : Int} {s : Nat}, (∀ z ∈ p, 0 ≤ z) → s < cl.length → nd (setAll cl p v) s = if (s : Int) ∈ p then v else nd cl s
  | [], cl, v, s, _, _ => by simp [setAll]
  | z :: p, cl, v, s, hp, hs => by
    show nd (setAll (cl.set z.toNat v) p v) s = _
    rw [nd_setAll (fun z hz => hp z (by simp [hz])) (by simpa using hs), nd_set hs]
    have h0 := hp z (by simp)
    by_cases h1 : (s : Int) ∈ p
    · rw [if_pos h1, if_pos (by simp [h1])]
    · rw [if_neg h1]
      by_cases h2 : z.toNat = s
      · rw [if_pos h2, if_pos (by rw [List.mem_cons]; left; omega)]
      · rw [if_neg h2, if_neg (fun h => (List.mem_cons.1 h).elim (fun h => h2 (by omega)) h1)]
theorem splitC_len : ∀ (ps : List (List Int)) (cl : List Int) (M : Nat), (splitC cl M ps).length = cl.length
  | [], _, _ => rfl
  | p :: ps, cl, M => by
    show (splitC (setAll cl p M) (M + 1) ps).length = _
    rw [splitC_len ps, setAll_len]
theorem splitC_snoc : ∀ (ps : List (List Int)) (p cl : List Int) (M : Nat), splitC cl M (ps ++ [p]) = setAll (splitC cl M ps) p ((M + ps.length : Nat) : Int)
  | [], p, cl, M => rfl
  | q :: ps, p, cl, M => by
    show splitC (setAll cl q M) (M + 1) (ps ++ [p]) = setAll (splitC (setAll cl q M) (M + 1) ps) p _
    rw [splitC_snoc ps, List.length_cons]
    congr 2
    omega
theorem pos_self {S : Type} [DecidableEq S] (s : S) (F : List S) : pos (s :: F) s = 0 := by
  unfold pos
  exact List.idxOf_cons_self
theorem pos_cons {S : Type} [DecidableEq S] {s t : S} (F : List S) (h : s ≠ t) : pos (s :: F) t = pos F t + 1 := by
  unfold pos
  rw [List.idxOf_cons, show (s == t) = false from beq_false_of_ne h]
  rfl
theorem pos_at {S : Type} [DecidableEq S] {F : List S} (hd : F.Nodup) {i : Nat} (hi : i < F.length) {s : S} (h : F[i] = s) : pos F s = i := by
  subst h
  have hm := List.getElem_mem hi
  exact (List.getElem_inj hd (h₀ := pos_lt hm) (h₁ := hi)).1 (pos_get hm)
/-- The states of l with key K. -/
def grp (key : Int → List Int) (l : List Int) (K : List Int) : List Int := l.filter fun z => decide (key z = K)
theorem mem_grp {key : Int → List Int} {l : List Int} {K : List Int} {z : Int} : z ∈ grp key l K ↔ z ∈ l ∧ key z = K := by
  unfold grp
  rw [List.mem_filter, decide_eq_true_eq]
theorem nd_splitC {key : Int → List Int} {l : List Int} (hl : ∀ z ∈ l, 0 ≤ z) : ∀ {Ks : List (List Int)} {cl : List Int} {M s : Nat}, Ks.Nodup → s < cl.length →
    nd (splitC cl M (Ks.map (grp key l))) s = if (s : Int) ∈ l ∧ key s ∈ Ks then ((M + pos Ks (key s) : Nat) : Int) else nd cl s
  | [], cl, M, s, _, hs => by simp [splitC]
  | K :: Ks, cl, M, s, hn, hs => by
    obtain ⟨h1, h2⟩ := List.nodup_cons.1 hn
    show nd (splitC (setAll cl (grp key l K) M) (M + 1) (Ks.map (grp key l))) s = _
    rw [nd_splitC hl h2 (by rw [setAll_len]; exact hs), nd_setAll (fun z hz => hl z (mem_grp.1 hz).1) hs]
    by_cases e1 : (s : Int) ∈ l ∧ key s ∈ Ks
    · have hne : K ≠ key s := fun e => h1 (e ▸ e1.2)
      rw [if_pos e1, if_pos ⟨e1.1, by simp [e1.2]⟩]
      rw [pos_cons Ks hne]
      congr 1
      omega
    · rw [if_neg e1]
      by_cases e2 : (s : Int) ∈ grp key l K
      · obtain ⟨h3, h4⟩ := mem_grp.1 e2
        rw [if_pos e2, if_pos ⟨h3, by rw [h4]; simp⟩]
        rw [h4, pos_self]
        rfl
      · rw [if_neg e2, if_neg]
        rintro ⟨h3, h4⟩
        rcases List.mem_cons.1 h4 with h5 | h5
        · exact e2 (mem_grp.2 ⟨h3, h5⟩)
        · exact e1 ⟨h3, h5⟩
/-- The rows say which states have which number. -/
structure Part (n : Nat) (cl : List Int) (ms : List (List Int)) : Prop where
  len : cl.length = n
  rng : ∀ s, s < n → 0 ≤ nd cl s ∧ nd cl s < ms.length
  mem : ∀ c, c < ms.length → ∀ z : Int, z ∈ tb ms c ↔ 0 ≤ z ∧ z < n ∧ nd cl z.toNat = (c : Int)
  nod : ∀ c, c < ms.length → (tb ms c).Nodup
theorem nodup_range {l : List Int} {n : Nat} (hd : l.Nodup) (h : ∀ z ∈ l, 0 ≤ z ∧ z < (n : Int)) : l.length ≤ n := by
  have := List.Nodup.length_le_of_subset (l₂ := (List.range n).map fun k : Nat => (k : Int)) hd fun z hz => List.mem_map.2 ⟨z.toNat, List.mem_range.2 (by have := h z hz; omega), by have := h z hz; omega⟩
  simpa using this
theorem Part.row_len {n : Nat} {cl : List Int} {ms : List (List Int)} (h : Part n cl ms) {c : Nat} (hc : c < ms.length) : (tb ms c).length ≤ n :=
  nodup_range (h.nod c hc) fun z hz => by have := (h.mem c hc z).1 hz; omega
theorem tb_app {A B : List (List Int)} {c : Nat} : tb (A ++ B) c = if c < A.length then tb A c else tb B (c - A.length) := by
  unfold tb
  rw [List.getD_eq_getElem?_getD, List.getElem?_append]
  split <;> rw [List.getD_eq_getElem?_getD]
theorem tb_set {A : List (List Int)} {i c : Nat} {x : List Int} (hc : c < A.length) : tb (A.set i x) c = if i = c then x else tb A c := by
  unfold tb
  rw [List.getD_eq_getElem?_getD, List.getElem?_set, List.getD_eq_getElem?_getD]
  by_cases h : i = c
  · rw [if_pos h, if_pos h, if_pos (by omega)]; rfl
  · rw [if_neg h, if_neg h]
theorem tb_map {Ks : List (List Int)} {g : List Int → List Int} {i : Nat} (h : i < Ks.length) : tb (Ks.map g) i = g Ks[i] := by
  unfold tb
  rw [List.getD_eq_getElem?_getD, List.getElem?_map, List.getElem?_eq_getElem h]
  rfl
section
variable {n : Nat} {cl : List Int} {ms : List (List Int)} {c : Nat} {key : Int → List Int} {K0 : List Int} {Ks : List (List Int)}
variable (h : Part n cl ms) (hc : c < ms.length) (hn : (K0 :: Ks).Nodup) (hk : ∀ z ∈ tb ms c, key z ∈ K0 :: Ks)
include h hc hn in
theorem split_nd {s : Nat} (hs : s < n) : nd (splitC cl ms.length (Ks.map (grp key (tb ms c)))) s = if nd cl s = (c : Int) ∧ key s ∈ Ks then ((ms.length + pos Ks (key s) : Nat) : Int) else nd cl s := by
  have hl : ∀ z ∈ tb ms c, 0 ≤ z := fun z hz => ((h.mem c hc z).1 hz).1
  have hm : (s : Int) ∈ tb ms c ↔ nd cl s = (c : Int) := by
    rw [h.mem c hc]
    rw [Int.toNat_natCast]
    constructor
    · exact fun h => h.2.2
    · exact fun h => ⟨by omega, by omega, h⟩
  rw [nd_splitC hl (List.nodup_cons.1 hn).2 (by rw [h.len]; exact hs)]
  simp only [hm]
theorem pos_inj {S : Type} [DecidableEq S] {s t : S} {F : List S} (hs : s ∈ F) (ht : t ∈ F) (h : pos F s = pos F t) : s = t := by
  have h1 := pos_get hs
  have h2 := pos_get ht
  rw [← h1, ← h2]
  simp only [h]
include h hc hn hk in
theorem split_part : Part n (splitC cl ms.length (Ks.map (grp key (tb ms c)))) (ms.set c (grp key (tb ms c) K0) ++ Ks.map (grp key (tb ms c))) := by
  have hlen : (ms.set c (grp key (tb ms c) K0) ++ Ks.map (grp key (tb ms c))).length = ms.length + Ks.length := by simp
  have hnd := fun {s : Nat} (hs : s < n) => split_nd (key := key) h hc hn hs
  obtain ⟨hn0, hn1⟩ := List.nodup_cons.1 hn
  refine ⟨by rw [splitC_len]; exact h.len, fun s hs => ?_, fun c' hc' z => ?_, fun c' hc' => ?_⟩
  · rw [hnd hs, hlen]
    have := h.rng s hs
    split
    · rename_i e
      have := pos_lt e.2
      omega
    · omega
  · rw [hlen] at hc'
    rw [tb_app, List.length_set]
    by_cases h1 : c' < ms.length
    · rw [if_pos h1, tb_set h1]
      by_cases h2 : c = c'
      · subst h2
        rw [if_pos rfl, mem_grp, h.mem c h1]
        constructor
        · rintro ⟨⟨h3, h4, h5⟩, h6⟩
          refine ⟨h3, h4, ?_⟩
          rw [hnd (by omega), if_neg, h5]
          rintro ⟨_, h7⟩
          rw [Int.toNat_of_nonneg h3, h6] at h7
          exact hn0 h7
        · rintro ⟨h3, h4, h5⟩
          rw [hnd (by omega)] at h5
          have h8 := Int.toNat_of_nonneg h3
          split at h5
          · rename_i e
            have := pos_lt e.2
            omega
          · rename_i e
            refine ⟨⟨h3, h4, h5⟩, ?_⟩
            have := hk z ((h.mem c h1 z).2 ⟨h3, h4, h5⟩)
            rcases List.mem_cons.1 this with h9 | h9
            · exact h9
            · exact absurd ⟨h5, by rw [h8]; exact h9⟩ e
      · rw [if_neg h2, h.mem c' h1]
        constructor
        · rintro ⟨h3, h4, h5⟩
          refine ⟨h3, h4, ?_⟩
          rw [hnd (by omega), if_neg, h5]
          rintro ⟨h6, _⟩
          rw [h5] at h6
          exact h2 (by omega)
        · rintro ⟨h3, h4, h5⟩
          rw [hnd (by omega)] at h5
          split at h5
          · rename_i e
            have := pos_lt e.2
            omega
          · exact ⟨h3, h4, h5⟩
    · rw [if_neg h1]
      have h2 : c' - ms.length < Ks.length := by omega
      rw [tb_map h2, mem_grp, h.mem c hc]
      constructor
      · rintro ⟨⟨h3, h4, h5⟩, h6⟩
        refine ⟨h3, h4, ?_⟩
        have h8 := Int.toNat_of_nonneg h3
        have h9 : key z ∈ Ks := by rw [h6]; exact List.getElem_mem h2
        rw [hnd (by omega), if_pos ⟨h5, by rw [h8]; exact h9⟩, h8]
        have : pos Ks (key z) = c' - ms.length := pos_at hn1 h2 h6.symm
        omega
      · rintro ⟨h3, h4, h5⟩
        have h8 := Int.toNat_of_nonneg h3
        rw [hnd (by omega)] at h5
        have hr := h.rng z.toNat (by omega)
        split at h5
        · rename_i e
          rw [h8] at h5 e
          refine ⟨⟨h3, h4, e.1⟩, ?_⟩
          have h10 := pos_get e.2
          have : pos Ks (key z) = c' - ms.length := by omega
          rw [← h10]
          simp only [this]
        · omega
  · rw [hlen] at hc'
    rw [tb_app, List.length_set]
    by_cases h1 : c' < ms.length
    · rw [if_pos h1, tb_set h1]
      split
      · exact (h.nod c hc).filter _
      · exact h.nod c' h1
    · rw [if_neg h1, tb_map (by omega)]
      exact (h.nod c hc).filter _
end
/-- In the middle of a round: the classes tc.take i have been split. -/
structure Mid (n : Nat) (cl0 : List Int) (ms0 : List (List Int)) (key : Int → List Int) (tc : List Int) (i : Nat) (cl : List Int) (ms : List (List Int)) (mv : List Int) : Prop where
  p : Part n cl ms
  le : ms0.length ≤ ms.length
  k : ∀ s t, s < n → t < n → (nd cl s = nd cl t ↔ nd cl0 s = nd cl0 t ∧ (nd cl0 s ∈ tc.take i → key s = key t))
  old : ∀ s, s < n → nd cl s = nd cl0 s ∨ (ms0.length ≤ nd cl s ∧ nd cl0 s ∈ tc.take i)
  mo : ∀ s, s < n → ((s : Int) ∈ mv ↔ nd cl s ≠ nd cl0 s)
  mvr : ∀ z ∈ mv, 0 ≤ z ∧ z < (n : Int)
  mvn : mv.Nodup
  row : ∀ c, c < ms0.length → (c : Int) ∉ tc.take i → tb ms c = tb ms0 c
  ne : ∃ e, ∀ c, c < ms.length → c ≠ e → tb ms c ≠ []
theorem Mid.start {n : Nat} {cl : List Int} {ms : List (List Int)} {key : Int → List Int} {tc : List Int} (h : Part n cl ms) (hne : ∃ e, ∀ c, c < ms.length → c ≠ e → tb ms c ≠ []) : Mid n cl ms key tc 0 cl ms [] :=
  ⟨h, Nat.le_refl _, fun s t _ _ => by simp, fun s _ => .inl rfl, fun s _ => by simp, fun z hz => by simp at hz, List.nodup_nil, fun c _ _ => rfl, hne⟩
theorem mem_flat {key : Int → List Int} {l : List Int} {z : Int} {Ks : List (List Int)} : z ∈ (Ks.map (grp key l)).flatten ↔ z ∈ l ∧ key z ∈ Ks := by
  rw [List.mem_flatten]
  constructor
  · rintro ⟨P, hP, hz⟩
    obtain ⟨K, hK, rfl⟩ := List.mem_map.1 hP
    obtain ⟨h1, rfl⟩ := mem_grp.1 hz
    exact ⟨h1, hK⟩
  · rintro ⟨h1, h2⟩
    exact ⟨_, List.mem_map.2 ⟨key z, h2, rfl⟩, mem_grp.2 ⟨h1, rfl⟩⟩
theorem nodup_flat {key : Int → List Int} {l : List Int} (hl : l.Nodup) : ∀ {Ks : List (List Int)}, Ks.Nodup → ((Ks.map (grp key l)).flatten).Nodup
  | [], _ => by simp
  | K :: Ks, h => by
    obtain ⟨h1, h2⟩ := List.nodup_cons.1 h
    rw [List.map_cons, List.flatten_cons, List.nodup_append]
    refine ⟨hl.filter _, nodup_flat hl h2, ?_⟩
    rintro a ha b hb rfl
    exact h1 ((mem_grp.1 ha).2 ▸ (mem_flat.1 hb).2)
theorem mem_take_snoc {tc : List Int} {i : Nat} (hi : i < tc.length) {z : Int} : z ∈ tc.take (i + 1) ↔ z ∈ tc.take i ∨ z = tc[i] := by
  rw [List.take_add_one, List.getElem?_eq_getElem hi, List.mem_append]
  simp
theorem not_mem_take {tc : List Int} (hd : tc.Nodup) {i : Nat} (hi : i < tc.length) : tc[i] ∉ tc.take i := by
  intro h
  obtain ⟨j, hj, e⟩ := List.mem_take_iff_getElem.1 h
  have := (List.getElem_inj hd).1 e
  omega
theorem Mid.step {n : Nat} {cl0 : List Int} {ms0 : List (List Int)} {key : Int → List Int} {tc : List Int} {i : Nat} {cl : List Int} {ms : List (List Int)} {mv : List Int} (h : Mid n cl0 ms0 key tc i cl ms mv) (h0 : Part n cl0 ms0)
    (hd : tc.Nodup) (hi : i < tc.length) {c : Nat} (hc : tc[i] = (c : Int)) (hcM : c < ms0.length) {K0 : List Int} {Ks : List (List Int)} (hp : (K0 :: Ks).Perm (rowF [] ((tb ms0 c).map key))) :
    Mid n cl0 ms0 key tc (i + 1) (splitC cl ms.length (Ks.map (grp key (tb ms0 c)))) (ms.set c (grp key (tb ms0 c) K0) ++ Ks.map (grp key (tb ms0 c))) (mv ++ (Ks.map (grp key (tb ms0 c))).flatten) := by
  have hnt : (c : Int) ∉ tc.take i := hc ▸ not_mem_take hd hi
  have hrow := h.row c hcM hnt
  have hcM' : c < ms.length := by have := h.le; omega
  have hn : (K0 :: Ks).Nodup := hp.nodup_iff.2 (nodup_rowF List.nodup_nil)
  have hk : ∀ z ∈ tb ms c, key z ∈ K0 :: Ks := fun z hz => hp.mem_iff.2 (mem_keys.2 ⟨z, hrow ▸ hz, rfl⟩)
  have hnd := fun {s : Nat} (hs : s < n) => split_nd (key := key) h.p hcM' hn hs
  have hP := split_part (key := key) h.p hcM' hn hk
  rw [hrow] at hnd hP
  obtain ⟨hn0, hn1⟩ := List.nodup_cons.1 hn
  have hcl : ∀ s, s < n → (nd cl s = (c : Int) ↔ nd cl0 s = (c : Int)) := fun s hs => by
    have h1 := h.p.mem c hcM' (s : Int)
    have h2 := h0.mem c hcM (s : Int)
    rw [hrow, Int.toNat_natCast] at h1
    rw [Int.toNat_natCast] at h2
    constructor
    · intro e
      exact (h2.1 (h1.2 ⟨by omega, by omega, e⟩)).2.2
    · intro e
      exact (h1.1 (h2.2 ⟨by omega, by omega, e⟩)).2.2
  have hmemc : ∀ s : Nat, s < n → ((s : Int) ∈ tb ms0 c ↔ nd cl0 s = (c : Int)) := fun s hs => by
    rw [h0.mem c hcM, Int.toNat_natCast]
    exact ⟨fun e => e.2.2, fun e => ⟨by omega, by omega, e⟩⟩
  have hkk : ∀ s : Nat, s < n → nd cl0 s = (c : Int) → key s ∈ K0 :: Ks := fun s hs e => hk _ (by rw [hrow]; exact (hmemc s hs).2 e)
  have hrng := h.p.rng
  have hle := h.le
  refine ⟨hP, by simp; omega, fun s t hs ht => ?_, fun s hs => ?_, fun s hs => ?_, fun z hz => ?_, ?_, fun c' hc' hnt' => ?_, ?_⟩
  · rw [hnd hs, hnd ht, mem_take_snoc hi, hc]
    have hks := h.k s t hs ht
    have r1 := hrng s hs
    have r2 := hrng t ht
    by_cases e1 : nd cl0 s = (c : Int)
    · by_cases e2 : nd cl0 t = (c : Int)
      · have e3 := (hcl s hs).2 e1
        have e4 := (hcl t ht).2 e2
        rw [e3, e4, e1, e2]
        have k1 := hkk s hs e1
        have k2 := hkk t ht e2
        simp only [true_and]
        constructor
        · intro hh _
          by_cases m1 : key s ∈ Ks
          · rw [if_pos m1] at hh
            by_cases m2 : key t ∈ Ks
            · rw [if_pos m2] at hh
              exact pos_inj m1 m2 (by omega)
            · rw [if_neg m2] at hh
              omega
          · rw [if_neg m1] at hh
            by_cases m2 : key t ∈ Ks
            · rw [if_pos m2] at hh
              omega
            · rcases List.mem_cons.1 k1 with q1 | q1
              · rcases List.mem_cons.1 k2 with q2 | q2
                · rw [q1, q2]
                · exact absurd q2 m2
              · exact absurd q1 m1
        · intro hh
          rw [hh (.inr trivial)]
      · have e4 : nd cl t ≠ (c : Int) := fun e => e2 ((hcl t ht).1 e)
        have e3 := (hcl s hs).2 e1
        have q : ¬ (nd cl t = (c : Int) ∧ key t ∈ Ks) := fun e => e4 e.1
        rw [if_neg q, e3, e1]
        constructor
        · intro hh
          split at hh
          · omega
          · exact absurd hh.symm e4
        · rintro ⟨hh, _⟩
          exact absurd hh.symm e2
    · by_cases e2 : nd cl0 t = (c : Int)
      · have e4 := (hcl t ht).2 e2
        have e3 : nd cl s ≠ (c : Int) := fun e => e1 ((hcl s hs).1 e)
        have q : ¬ (nd cl s = (c : Int) ∧ key s ∈ Ks) := fun e => e3 e.1
        rw [if_neg q, e4, e2]
        constructor
        · intro hh
          split at hh
          · omega
          · exact absurd hh e3
        · rintro ⟨hh, _⟩
          exact absurd hh e1
      · have q : ¬ (nd cl s = (c : Int) ∧ key s ∈ Ks) := fun e => e1 ((hcl s hs).1 e.1)
        have q' : ¬ (nd cl t = (c : Int) ∧ key t ∈ Ks) := fun e => e2 ((hcl t ht).1 e.1)
        rw [if_neg q, if_neg q', hks]
        constructor
        · rintro ⟨q1, q2⟩
          refine ⟨q1, ?_⟩
          rintro (q3 | q3)
          · exact q2 q3
          · exact absurd q3 e1
        · rintro ⟨q1, q2⟩
          exact ⟨q1, fun q3 => q2 (.inl q3)⟩
  · rw [hnd hs, mem_take_snoc hi, hc]
    split
    · rename_i e
      right
      exact ⟨by omega, .inr ((hcl s hs).1 e.1)⟩
    · rcases h.old s hs with q | q
      · exact .inl q
      · exact .inr ⟨q.1, .inl q.2⟩
  · rw [List.mem_append, h.mo s hs, mem_flat, hmemc s hs, hnd hs]
    have r1 := hrng s hs
    have r2 := h0.rng s hs
    by_cases e : nd cl0 s = (c : Int)
    · have e3 := (hcl s hs).2 e
      by_cases m : key s ∈ Ks
      · rw [if_pos ⟨e3, m⟩]
        constructor
        · intro _; omega
        · intro _; exact .inr ⟨e, m⟩
      · rw [if_neg (fun q => m q.2)]
        constructor
        · rintro (q | q)
          · exact q
          · exact absurd q.2 m
        · exact .inl
    · rw [if_neg (fun q => e ((hcl s hs).1 q.1))]
      constructor
      · rintro (q | q)
        · exact q
        · exact absurd q.1 e
      · exact .inl
  · rcases List.mem_append.1 hz with q | q
    · exact h.mvr z q
    · have := (h0.mem c hcM z).1 (mem_flat.1 q).1
      omega
  · rw [List.nodup_append]
    refine ⟨h.mvn, nodup_flat (h0.nod c hcM) hn1, ?_⟩
    rintro a ha b hb rfl
    have q1 := h.mvr a ha
    have q2 := (h0.mem c hcM a).1 (mem_flat.1 hb).1
    have q3 := (h.mo a.toNat (by omega)).1 (by rw [Int.toNat_of_nonneg q1.1]; exact ha)
    have q4 := (hcl a.toNat (by omega)).2 q2.2.2
    rw [q4, q2.2.2] at q3
    exact q3 rfl
  · rw [mem_take_snoc hi, not_or, hc] at hnt'
    rw [tb_app, List.length_set, if_pos (by omega), tb_set (by omega), if_neg (fun e => hnt'.2 (by rw [e]))]
    exact h.row c' hc' hnt'.1
  · obtain ⟨e, he⟩ := h.ne
    refine ⟨e, fun c' hc' hne => ?_⟩
    have hg : ∀ K, K ∈ K0 :: Ks → grp key (tb ms0 c) K ≠ [] := fun K hK => by
      obtain ⟨z, hz, hzk⟩ := mem_keys.1 (hp.mem_iff.1 hK)
      exact List.ne_nil_of_mem (mem_grp.2 ⟨hz, hzk⟩)
    rw [tb_app, List.length_set]
    by_cases h1 : c' < ms.length
    · rw [if_pos h1, tb_set h1]
      split
      · exact hg K0 (by simp)
      · exact he c' h1 hne
    · rw [if_neg h1, tb_map (by simp at hc'; omega)]
      exact hg _ (by simp)
/-- The partition after j - 1 rounds, and what has moved since the one before. -/
structure Inv (n L : Nat) (δ : Nat → Nat → Nat) (f : Nat → Bool) (j : Nat) (cl : List Int) (ms : List (List Int)) (mv : List Int) : Prop where
  p : Part n cl ms
  k : ∀ s t, s < n → t < n → (nd cl s = nd cl t ↔ tl L δ f (j + 1) s t = false)
  pv : ∃ pc : Nat → Int, (∀ s t, s < n → t < n → (pc s = pc t ↔ tl L δ f j s t = false)) ∧ (∀ s, s < n → (s : Int) ∉ mv → nd cl s = pc s) ∧ ∀ s t, s < n → t < n → (s : Int) ∈ mv → nd cl s ≠ pc t
  mvr : ∀ z ∈ mv, 0 ≤ z ∧ z < (n : Int)
  mvn : mv.Nodup
  ne : ∃ e, ∀ c, c < ms.length → c ≠ e → tb ms c ≠ []
theorem Inv.round {n L : Nat} {δ : Nat → Nat → Nat} {f : Nat → Bool} {j : Nat} {cl : List Int} {ms : List (List Int)} {mv : List Int} (h : Inv n L δ f j cl ms mv) (hδ : ∀ s x, s < n → x < L → δ s x < n)
    {key : Int → List Int} {tc : List Int} (hkey : ∀ s t, s < n → t < n → (key s = key t ↔ ((∃ x, x < L ∧ ((δ s x : Nat) : Int) ∈ mv) ↔ ∃ x, x < L ∧ ((δ t x : Nat) : Int) ∈ mv) ∧ ((∃ x, x < L ∧ ((δ s x : Nat) : Int) ∈ mv) → ∀ x, x < L → nd cl (δ s x) = nd cl (δ t x))))
    (htc : ∀ s, s < n → (nd cl s ∈ tc ↔ ∃ t x, t < n ∧ x < L ∧ ((δ t x : Nat) : Int) ∈ mv ∧ nd cl t = nd cl s))
    {cl' : List Int} {ms' : List (List Int)} {mv' : List Int} (hm : Mid n cl ms key tc tc.length cl' ms' mv') : Inv n L δ f (j + 1) cl' ms' mv' := by
  obtain ⟨pc, hpc, hun, hmv⟩ := h.pv
  have hk := hm.k
  have hold := hm.old
  rw [List.take_length] at hk hold
  refine ⟨hm.p, fun s t hs ht => ?_, ⟨fun s => nd cl s, h.k, fun s hs hn => ?_, fun s t hs ht hn => ?_⟩, hm.mvr, hm.mvn, hm.ne⟩
  · rw [hk s t hs ht, h.k s t hs ht, tl_next L δ f (k := j + 1) (by omega)]
    refine and_congr_right fun hst => ?_
    have hcl := (h.k s t hs ht).2 hst
    have key1 : key s = key t ↔ ∀ x, x < L → tl L δ f (j + 1) (δ s x) (δ t x) = false := by
      rw [hkey s t hs ht]
      have hprev : ∀ x, x < L → pc (δ s x) = pc (δ t x) := fun x hx => by
        rw [hpc _ _ (hδ s x hs hx) (hδ t x ht hx)]
        by_cases hj : j = 0
        · subst hj; rfl
        · exact ((tl_next L δ f (by omega)).1 hst).2 x hx
      constructor
      · rintro ⟨h1, h2⟩ x hx
        rw [← h.k _ _ (hδ s x hs hx) (hδ t x ht hx)]
        by_cases a : ∃ x, x < L ∧ ((δ s x : Nat) : Int) ∈ mv
        · exact h2 a x hx
        · have b : ¬ ∃ x, x < L ∧ ((δ t x : Nat) : Int) ∈ mv := fun q => a (h1.2 q)
          rw [hun _ (hδ s x hs hx) (fun q => a ⟨x, hx, q⟩), hun _ (hδ t x ht hx) (fun q => b ⟨x, hx, q⟩)]
          exact hprev x hx
      · intro hh
        have hh' : ∀ x, x < L → nd cl (δ s x) = nd cl (δ t x) := fun x hx => (h.k _ _ (hδ s x hs hx) (hδ t x ht hx)).2 (hh x hx)
        refine ⟨⟨?_, ?_⟩, fun _ => hh'⟩
        · rintro ⟨x, hx, hm⟩
          refine ⟨x, hx, ?_⟩
          apply Decidable.byContradiction
          intro hn
          have h1 := hmv _ _ (hδ s x hs hx) (hδ t x ht hx) hm
          rw [hh' x hx, hun _ (hδ t x ht hx) hn] at h1
          exact h1 rfl
        · rintro ⟨x, hx, hm⟩
          refine ⟨x, hx, ?_⟩
          apply Decidable.byContradiction
          intro hn
          have h1 := hmv _ _ (hδ t x ht hx) (hδ s x hs hx) hm
          rw [← hh' x hx, hun _ (hδ s x hs hx) hn] at h1
          exact h1 rfl
    rw [← key1]
    constructor
    · intro hh
      by_cases m : nd cl s ∈ tc
      · exact hh m
      · have a : ¬ ∃ x, x < L ∧ ((δ s x : Nat) : Int) ∈ mv := fun ⟨x, hx, q⟩ => m ((htc s hs).2 ⟨s, x, hs, hx, q, rfl⟩)
        have b : ¬ ∃ x, x < L ∧ ((δ t x : Nat) : Int) ∈ mv := fun ⟨x, hx, q⟩ => m ((htc s hs).2 ⟨t, x, ht, hx, q, hcl.symm⟩)
        exact (hkey s t hs ht).2 ⟨⟨fun q => absurd q a, fun q => absurd q b⟩, fun q => absurd q a⟩
    · exact fun hh _ => hh
  · apply Decidable.byContradiction
    intro q
    exact hn ((hm.mo s hs).2 q)
  · have h1 := (hm.mo s hs).1 hn
    have h2 := h.p.rng t ht
    rcases hold s hs with q | q
    · exact absurd q h1
    · intro e
      have e : nd cl' s = nd cl t := e
      omega
/-- If nothing has moved, nothing is told apart any more. -/
theorem Inv.still {n L : Nat} {δ : Nat → Nat → Nat} {f : Nat → Bool} {j : Nat} {cl : List Int} {ms : List (List Int)} (h : Inv n L δ f j cl ms []) (hδ : ∀ s x, s < n → x < L → δ s x < n) (m : Nat) : Inv n L δ f (j + m) cl ms [] := by
  obtain ⟨pc, hpc, hun, _⟩ := h.pv
  have e0 : ∀ s t, s < n → t < n → tl L δ f j s t = false → tl L δ f (j + 1) s t = false := fun s t hs ht q => by
    rw [← h.k s t hs ht, hun s hs (by simp), hun t ht (by simp)]
    exact (hpc s t hs ht).2 q
  have up : ∀ m s t, s < n → t < n → tl L δ f j s t = false → tl L δ f (j + m) s t = false := by
    intro m
    induction m with
    | zero => exact fun s t _ _ q => q
    | succ m ih =>
      intro s t hs ht q
      by_cases hm : m = 0
      · subst hm; exact e0 s t hs ht q
      · have hj : 0 < j + m := by omega
        have h1 := (tl_next L δ f hj (s := s) (t := t))
        rw [← Nat.add_assoc, h1]
        refine ⟨ih s t hs ht q, fun x hx => ih _ _ (hδ s x hs hx) (hδ t x ht hx) ?_⟩
        by_cases hj0 : j = 0
        · subst hj0; rfl
        · exact ((tl_next L δ f (by omega)).1 (e0 s t hs ht q)).2 x hx
  have dn : ∀ m s t, tl L δ f (j + m) s t = false → tl L δ f j s t = false := by
    intro m
    induction m with
    | zero => exact fun s t q => q
    | succ m ih => exact fun s t q => ih s t (tl_less L δ f q)
  refine ⟨h.p, fun s t hs ht => ?_, ⟨pc, fun s t hs ht => ?_, hun, fun s t _ _ q => by simp at q⟩, h.mvr, h.mvn, h.ne⟩
  · rw [h.k s t hs ht]
    exact ⟨fun q => up (m + 1) s t hs ht (tl_less L δ f q), fun q => e0 s t hs ht (dn (m + 1) s t q)⟩
  · rw [hpc s t hs ht]
    exact ⟨up m s t hs ht, dn m s t⟩
theorem Inv.cls {n L : Nat} {δ : Nat → Nat → Nat} {f : Nat → Bool} {j : Nat} {cl : List Int} {ms : List (List Int)} {mv : List Int} (h : Inv n L δ f j cl ms mv) : ordL cl = clsL n L δ f (j + 1) := ordL_cls h.p.len h.k
/-- There are at most as many classes as states, but for one that may be empty. -/
theorem classes_le {n : Nat} {cl : List Int} {ms : List (List Int)} (h : Part n cl ms) (hne : ∃ e, ∀ c, c < ms.length → c ≠ e → tb ms c ≠ []) : ms.length ≤ n + 1 := by
  obtain ⟨e, he⟩ := hne
  have hh : ∀ c, c < ms.length → c ≠ e → ∃ s, s < n ∧ nd cl s = (c : Int) := fun c hc hce => by
    cases hr : tb ms c with
    | nil => exact absurd hr (he c hc hce)
    | cons z r =>
      have := (h.mem c hc z).1 (by rw [hr]; simp)
      exact ⟨z.toNat, by omega, this.2.2⟩
  have hd : ((List.range ms.length).erase e).Nodup := List.nodup_range.erase _
  have hsub : ∀ c ∈ (List.range ms.length).erase e, c ∈ (List.range n).map fun s => (nd cl s).toNat := fun c hc => by
    have h1 := (List.nodup_range.mem_erase_iff).1 hc
    obtain ⟨s, hs, hsc⟩ := hh c (List.mem_range.1 h1.2) h1.1
    exact List.mem_map.2 ⟨s, List.mem_range.2 hs, by omega⟩
  have h1 := List.Nodup.length_le_of_subset hd hsub
  rw [List.length_map, List.length_range] at h1
  have h2 : ms.length - 1 ≤ ((List.range ms.length).erase e).length := by
    rw [List.length_erase]
    split <;> simp
  omega
end Go.Proofs.YtkgeihambgbjdaaDoor.Mi
