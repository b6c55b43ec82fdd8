/- Exploring a graph from a start, numbered by first visit; tables of numbers. Plain mathematics, nothing of the program. -/
import Derived.Test.YtdjhfndoheoljaaDoorBS
namespace Go.Proofs.YtdjhfndoheoljaaDoor.Sb
set_option linter.unusedVariables false
set_option linter.unusedSectionVars false
section
variable {S : Type} [DecidableEq S]
/-- The place of an element. -/
def pos (F : List S) (s : S) : Nat := F.idxOf s
/-- A list with one more element, unless it has it. -/
def add (F : List S) (s : S) : List S := if s ∈ F then F else F ++ [s]
def rowF : List S → List S → List S
  | F, [] => F
  | F, s :: l => rowF (add F s) l
theorem add_pre (F : List S) (s : S) : F <+: add F s := by
  unfold add
  split
  · exact List.prefix_refl _
  · exact List.prefix_append _ _
theorem mem_add {F : List S} {s t : S} : t ∈ add F s ↔ t ∈ F ∨ t = s := by
  unfold add
  split
  · rename_i h
    constructor
    · exact .inl
    · rintro (h1 | rfl)
      · exact h1
      · exact h
  · simp
theorem nodup_add {F : List S} {s : S} (h : F.Nodup) : (add F s).Nodup := by
  unfold add
  split
  · exact h
  · rename_i hn
    rw [List.nodup_append]
    refine ⟨h, by simp, ?_⟩
    rintro a ha b hb rfl
    simp at hb
    subst hb
    exact hn ha
theorem rowF_pre : ∀ (l F : List S), F <+: rowF F l
  | [], F => List.prefix_refl _
  | s :: l, F => (add_pre F s).trans (rowF_pre l (add F s))
theorem mem_rowF {t : S} : ∀ {l F : List S}, t ∈ rowF F l ↔ t ∈ F ∨ t ∈ l
  | [], F => by simp [rowF]
  | s :: l, F => by
    show t ∈ rowF (add F s) l ↔ _
    rw [mem_rowF, mem_add, List.mem_cons]
    constructor
    · rintro ((h | h) | h)
      · exact .inl h
      · exact .inr (.inl h)
      · exact .inr (.inr h)
    · rintro (h | h | h)
      · exact .inl (.inl h)
      · exact .inl (.inr h)
      · exact .inr h
theorem nodup_rowF : ∀ {l F : List S}, F.Nodup → (rowF F l).Nodup
  | [], _, h => h
  | s :: l, _, h => nodup_rowF (l := l) (nodup_add h)
theorem rowF_snoc : ∀ (l F : List S) (s : S), rowF F (l ++ [s]) = add (rowF F l) s
  | [], _, _ => rfl
  | _ :: l, _, s => rowF_snoc l _ s
theorem rowF_take {l F : List S} {k : Nat} (h : k < l.length) : rowF F (l.take (k + 1)) = add (rowF F (l.take k)) l[k] := by
  rw [List.take_add_one, List.getElem?_eq_getElem h]
  exact rowF_snoc _ _ _
theorem rowF_len_mono {l F : List S} {j k : Nat} (h : j ≤ k) : (rowF F (l.take j)).length ≤ (rowF F (l.take k)).length := by
  induction k with
  | zero => obtain rfl : j = 0 := by omega
            exact Nat.le_refl _
  | succ k ih =>
    by_cases hj : j = k + 1
    · subst hj; exact Nat.le_refl _
    · refine Nat.le_trans (ih (by omega)) ?_
      by_cases hk : k < l.length
      · rw [rowF_take hk]
        exact (add_pre _ _).length_le
      · rw [List.take_of_length_le (by omega), List.take_of_length_le (by omega)]
        exact Nat.le_refl _
theorem idx_pre {F G : List S} {s : S} (h : F <+: G) (hs : s ∈ F) : pos G s = pos F s := by
  obtain ⟨t, rfl⟩ := h
  unfold pos
  rw [List.idxOf_append, if_pos hs]
theorem idx_add_new {F : List S} {s : S} (h : s ∉ F) : pos (add F s) s = F.length := by
  unfold add pos
  rw [if_neg h, List.idxOf_append, if_neg h]
  simp
theorem pos_new {F : List S} {s : S} (h : s ∉ F) : pos (F ++ [s]) s = F.length := by
  unfold pos
  rw [List.idxOf_append, if_neg h]
  simp
theorem getD_pre {F G : List S} {i : Nat} {z : S} (h : F <+: G) (hi : i < F.length) : G.getD i z = F.getD i z := by
  obtain ⟨t, rfl⟩ := h
  simp [List.getD_eq_getElem?_getD, List.getElem?_append_left hi]
theorem take_pre {F G : List S} {r : Nat} (h : F <+: G) (hr : r ≤ F.length) : G.take r = F.take r := by
  obtain ⟨t, rfl⟩ := h
  rw [List.take_append_of_le_length hr]
theorem get0_pre {F G : List S} {s0 : S} (h : F <+: G) (h0 : F[0]? = some s0) : G[0]? = some s0 := by
  obtain ⟨t, rfl⟩ := h
  have hlt : 0 < F.length := by
    cases F with
    | nil => simp at h0
    | cons _ _ => simp
  rw [List.getElem?_append_left hlt]
  exact h0
variable (succ : S → List S) (b : Nat)
/-- What exploring finds from r rows on; none: the budget is exceeded. -/
def expl : Nat → Nat → List S → Option (List S)
  | 0, _, _ => none
  | f + 1, r, F => match F[r]? with
    | none => some F
    | some s => if b < (rowF F (succ s)).length then none else expl f (r + 1) (rowF F (succ s))
def found (s0 : S) : Option (List S) := expl succ b (b + 1) 0 [s0]
theorem expl_end {f r : Nat} {F : List S} (h : F.length ≤ r) : expl succ b (f + 1) r F = some F := by
  unfold expl
  rw [List.getElem?_eq_none h]
theorem expl_over {f r : Nat} {F : List S} (h : r < F.length) (hb : b < (rowF F (succ F[r])).length) : expl succ b (f + 1) r F = none := by
  unfold expl
  rw [List.getElem?_eq_getElem h]
  exact if_pos hb
theorem expl_step {f r : Nat} {F : List S} (h : r < F.length) (hb : (rowF F (succ F[r])).length ≤ b) : expl succ b (f + 1) r F = expl succ b f (r + 1) (rowF F (succ F[r])) := by
  conv => lhs; unfold expl
  rw [List.getElem?_eq_getElem h]
  exact if_neg (by omega)
/-- The rows of the first r, as numbers. -/
def nums (F : List S) (r : Nat) : List (List Int) := (F.take r).map fun s => (succ s).map fun t => (pos F t : Int)
/-- The first r rows are closed. -/
def Shut (F : List S) (r : Nat) : Prop := ∀ s ∈ F.take r, ∀ t ∈ succ s, t ∈ F
theorem Shut.step {F : List S} {r : Nat} (h : Shut succ F r) (hr : r < F.length) : Shut succ (rowF F (succ F[r])) (r + 1) := by
  intro s hs t ht
  have hp := rowF_pre (succ F[r]) F
  rw [take_pre hp (by omega), List.take_add_one, List.getElem?_eq_getElem hr] at hs
  rcases List.mem_append.1 hs with h1 | h1
  · exact mem_rowF.2 (.inl (h s h1 t ht))
  · simp at h1
    subst h1
    exact mem_rowF.2 (.inr ht)
theorem nums_step {F : List S} {r : Nat} (h : Shut succ F r) (hr : r < F.length) : nums succ (rowF F (succ F[r])) (r + 1) = nums succ F r ++ [(succ F[r]).map fun t => (pos (rowF F (succ F[r])) t : Int)] := by
  have hp := rowF_pre (succ F[r]) F
  unfold nums
  rw [take_pre hp (by omega), List.take_add_one, List.getElem?_eq_getElem hr, List.map_append]
  congr 1
  refine List.map_congr_left fun s hs => List.map_congr_left fun t ht => ?_
  rw [idx_pre hp (h s hs t ht)]
theorem nums_len (F : List S) (r : Nat) (h : r ≤ F.length) : (nums succ F r).length = r := by
  unfold nums
  rw [List.length_map, List.length_take]
  omega
/-- What is found: the start comes first, nothing twice, closed, within the budget. -/
structure Found (s0 : S) (F : List S) : Prop where
  head : F[0]? = some s0
  nodup : F.Nodup
  shut : ∀ s ∈ F, ∀ t ∈ succ s, t ∈ F
  len : F.length ≤ b
theorem expl_found {s0 : S} : ∀ (f r : Nat) (F G : List S), expl succ b f r F = some G → F[0]? = some s0 → F.Nodup → Shut succ F r → F.length ≤ b → Found succ b s0 G ∧ F <+: G
  | 0, _, _, _, h, _, _, _, _ => by cases h
  | f + 1, r, F, G, h, h0, hn, hs, hb => by
    by_cases hr : r < F.length
    · by_cases ho : b < (rowF F (succ F[r])).length
      · rw [expl_over succ b hr ho] at h
        cases h
      · rw [expl_step succ b hr (by omega)] at h
        have hp := rowF_pre (succ F[r]) F
        obtain ⟨h1, h2⟩ := expl_found f (r + 1) _ G h (get0_pre hp h0) (nodup_rowF hn) (hs.step succ hr) (by omega)
        exact ⟨h1, hp.trans h2⟩
    · rw [expl_end succ b (by omega)] at h
      cases h
      refine ⟨⟨h0, hn, fun s hsF => ?_, hb⟩, List.prefix_refl _⟩
      exact hs s (by rw [List.take_of_length_le (by omega)]; exact hsF)
theorem found_is {s0 : S} {F : List S} (hb : 1 ≤ b) (h : found succ b s0 = some F) : Found succ b s0 F :=
  (expl_found succ b _ _ _ F h rfl (by simp) (fun s hs => by simp at hs) (by simpa using hb)).1
/-- Whatever is found lies in every closed list that has the start; so the budget is enough if such a list is no longer. -/
theorem expl_some {T : List S} (hT : ∀ s ∈ T, ∀ t ∈ succ s, t ∈ T) (hl : T.length ≤ b) : ∀ (f r : Nat) (F : List S), F.Nodup → (∀ s ∈ F, s ∈ T) → b < f + r → r ≤ F.length → ∃ G, expl succ b f r F = some G ∧ ∀ s ∈ G, s ∈ T
  | 0, r, F, hn, hF, hf, hr => by
    have := List.Nodup.length_le_of_subset hn (fun s hs => hF s hs)
    omega
  | f + 1, r, F, hn, hF, hf, hr => by
    by_cases hlt : r < F.length
    · have hsub : ∀ s ∈ rowF F (succ F[r]), s ∈ T := fun s hs => by
        rcases mem_rowF.1 hs with h | h
        · exact hF s h
        · exact hT _ (hF _ (List.getElem_mem hlt)) s h
      have hle := List.Nodup.length_le_of_subset (nodup_rowF (l := succ F[r]) hn) (fun s hs => hsub s hs)
      rw [expl_step succ b hlt (by omega)]
      have := rowF_pre (succ F[r]) F
      exact expl_some hT hl f (r + 1) _ (nodup_rowF hn) hsub (by omega) (by have := this.length_le; omega)
    · rw [expl_end succ b (by omega)]
      exact ⟨F, rfl, hF⟩
theorem found_some {T : List S} {s0 : S} (hT : ∀ s ∈ T, ∀ t ∈ succ s, t ∈ T) (h0 : s0 ∈ T) (hl : T.length ≤ b) : ∃ G, found succ b s0 = some G ∧ ∀ s ∈ G, s ∈ T :=
  expl_some succ b hT hl _ _ _ (by simp) (by simpa using h0) (by omega) (by simp)
end
theorem expl_pre {S : Type} [DecidableEq S] (succ : S → List S) {c : Nat} {G : List S} : ∀ (q r : Nat) (F : List S), expl succ c q r F = some G → F <+: G
  | 0, _, _, h => by cases h
  | q + 1, r, F, h => by
    by_cases hr : r < F.length
    · by_cases ho : c < (rowF F (succ F[r])).length
      · rw [expl_over succ c hr ho] at h; cases h
      · rw [expl_step succ c hr (by omega)] at h
        exact (rowF_pre _ _).trans (expl_pre succ q _ _ h)
    · rw [expl_end succ c (by omega)] at h
      cases h
      exact List.prefix_refl _
/-- A greater budget finds the same, unless the smaller one is exceeded. -/
theorem expl_mono {S : Type} [DecidableEq S] (succ : S → List S) {b c : Nat} (hbc : b ≤ c) : ∀ (f : Nat) (g r : Nat) (F : List S), f ≤ g → ∀ G, expl succ b f r F = some G → expl succ c g r F = some G
  | 0, _, _, _, _, _, h => by cases h
  | f + 1, 0, _, _, hfg, _, _ => by omega
  | f + 1, g + 1, r, F, hfg, G, h => by
    by_cases hr : r < F.length
    · by_cases ho : b < (rowF F (succ F[r])).length
      · rw [expl_over succ b hr ho] at h
        cases h
      · rw [expl_step succ b hr (by omega)] at h
        rw [expl_step succ c hr (by omega)]
        exact expl_mono succ hbc f g (r + 1) _ (by omega) G h
    · rw [expl_end succ b (by omega)] at h
      rw [expl_end succ c (by omega)]
      exact h
/-- If a budget finds something that is within a smaller one, the smaller one finds it, too. -/
theorem expl_less {S : Type} [DecidableEq S] (succ : S → List S) {b c : Nat} : ∀ (f : Nat) (g r : Nat) (F : List S), b < f + r → r ≤ F.length → ∀ G, expl succ c g r F = some G → G.length ≤ b → expl succ b f r F = some G
  | f, 0, _, _, _, _, _, h, _ => by cases h
  | 0, g + 1, r, F, hf, hr, G, h, hG => by
    have hp : F <+: G := expl_pre succ _ _ _ h
    have := hp.length_le
    omega
  | f + 1, g + 1, r, F, hf, hr, G, h, hG => by
    by_cases hlt : r < F.length
    · by_cases ho : c < (rowF F (succ F[r])).length
      · rw [expl_over succ c hlt ho] at h
        cases h
      · rw [expl_step succ c hlt (by omega)] at h
        have hp : rowF F (succ F[r]) <+: G := expl_pre succ _ _ _ h
        have hle := hp.length_le
        rw [expl_step succ b hlt (by omega)]
        have := (rowF_pre (succ F[r]) F).length_le
        exact expl_less succ f g (r + 1) _ (by omega) (by omega) G h hG
    · rw [expl_end succ c (by omega)] at h
      rw [expl_end succ b (by omega)]
      exact h
set_option linter.unusedSectionVars false
set_option linter.unusedVariables false
section
variable {S T : Type} [DecidableEq S] [DecidableEq T] (f : S → T) (P : S → Prop) (inj : ∀ s t, P s → P t → f s = f t → s = t)
include inj
theorem mem_map_inj {F : List S} {s : S} (hF : ∀ t ∈ F, P t) (hs : P s) : f s ∈ F.map f ↔ s ∈ F := by
  rw [List.mem_map]
  exact ⟨fun ⟨t, ht, e⟩ => (inj t s (hF t ht) hs e) ▸ ht, fun h => ⟨s, h, rfl⟩⟩
theorem add_map {F : List S} {s : S} (hF : ∀ t ∈ F, P t) (hs : P s) : add (F.map f) (f s) = (add F s).map f := by
  unfold add
  by_cases h : s ∈ F
  · rw [if_pos h, if_pos ((mem_map_inj f P inj hF hs).2 h)]
  · rw [if_neg h, if_neg (fun h1 => h ((mem_map_inj f P inj hF hs).1 h1))]
    simp
theorem rowF_map : ∀ {l F : List S}, (∀ t ∈ F, P t) → (∀ t ∈ l, P t) → rowF (F.map f) (l.map f) = (rowF F l).map f
  | [], _, _, _ => rfl
  | s :: l, F, hF, hl => by
    show rowF (add (F.map f) (f s)) (l.map f) = (rowF (add F s) l).map f
    rw [add_map f P inj hF (hl s (by simp))]
    refine rowF_map (fun t ht => ?_) (fun t ht => hl t (by simp [ht]))
    rcases mem_add.1 ht with h | h
    · exact hF t h
    · exact h ▸ hl s (by simp)
theorem idx_map {F : List S} {s : S} (hF : ∀ t ∈ F, P t) (hs : P s) : pos (F.map f) (f s) = pos F s := by
  unfold pos
  induction F with
  | nil => rfl
  | cons t F ih =>
    rw [List.map_cons, List.idxOf_cons, List.idxOf_cons, ih (fun u hu => hF u (by simp [hu]))]
    have : (f t == f s) = (t == s) := by
      rw [Bool.eq_iff_iff, beq_iff_eq, beq_iff_eq]
      exact ⟨inj t s (hF t (by simp)) hs, fun e => by rw [e]⟩
    rw [this]
theorem expl_map (succ : S → List S) (succ' : T → List T) (hs : ∀ s, P s → succ' (f s) = (succ s).map f) (hP : ∀ s, P s → ∀ t ∈ succ s, P t) (b : Nat) : ∀ (q r : Nat) (F : List S), (∀ t ∈ F, P t) → expl succ' b q r (F.map f) = (expl succ b q r F).map (List.map f)
  | 0, _, _, _ => rfl
  | q + 1, r, F, hF => by
    by_cases hr : r < F.length
    · have hr' : r < (F.map f).length := by rw [List.length_map]; exact hr
      have hF' : ∀ t ∈ rowF F (succ F[r]), P t := fun t ht => by
        rcases mem_rowF.1 ht with h | h
        · exact hF t h
        · exact hP _ (hF _ (List.getElem_mem hr)) t h
      have he : rowF (F.map f) (succ' (F.map f)[r]) = (rowF F (succ F[r])).map f := by
        rw [List.getElem_map, hs _ (hF _ (List.getElem_mem hr)), rowF_map f P inj hF (hP _ (hF _ (List.getElem_mem hr)))]
      by_cases ho : b < (rowF F (succ F[r])).length
      · rw [expl_over succ b hr ho, expl_over succ' b hr' (by rw [he, List.length_map]; exact ho)]
        rfl
      · rw [expl_step succ b hr (by omega), expl_step succ' b hr' (by rw [he, List.length_map]; omega), he]
        exact expl_map succ succ' hs hP b q (r + 1) _ hF'
    · rw [expl_end succ b (by omega), expl_end succ' b (by rw [List.length_map]; omega)]
      rfl
theorem nums_map (succ : S → List S) (succ' : T → List T) (hs : ∀ s, P s → succ' (f s) = (succ s).map f) (hP : ∀ s, P s → ∀ t ∈ succ s, P t) {F : List S} (hF : ∀ t ∈ F, P t) (r : Nat) : nums succ' (F.map f) r = nums succ F r := by
  unfold nums
  rw [← List.map_take, List.map_map]
  refine List.map_congr_left fun s hs1 => ?_
  have hPs := hF s (List.mem_of_mem_take hs1)
  show (succ' (f s)).map _ = _
  rw [hs s hPs, List.map_map]
  refine List.map_congr_left fun t ht => ?_
  show ((pos (F.map f) (f t) : Nat) : Int) = _
  rw [idx_map f P inj hF (hP s hPs t ht)]
end
/-- What exploring keeps: a predicate that the successors keep. -/
theorem expl_keep {S : Type} [DecidableEq S] (succ : S → List S) (P : S → Prop) (hP : ∀ s, P s → ∀ t ∈ succ s, P t) (b : Nat) {G : List S} : ∀ (q r : Nat) (F : List S), (∀ t ∈ F, P t) → expl succ b q r F = some G → ∀ t ∈ G, P t
  | 0, _, _, _, h => by cases h
  | q + 1, r, F, hF, h => by
    by_cases hr : r < F.length
    · by_cases ho : b < (rowF F (succ F[r])).length
      · rw [expl_over succ b hr ho] at h; cases h
      · rw [expl_step succ b hr (by omega)] at h
        refine expl_keep succ P hP b q (r + 1) _ (fun t ht => ?_) h
        rcases mem_rowF.1 ht with h1 | h1
        · exact hF t h1
        · exact hP _ (hF _ (List.getElem_mem hr)) t h1
    · rw [expl_end succ b (by omega)] at h
      cases h
      exact hF
set_option linter.unusedSectionVars false
set_option linter.unusedVariables false
/-- A list of lists at a place. -/
def rw' (L : List (List Int)) (j : Nat) : List Int := L.getD j []
/-- One step of a table. -/
def stepT (nx : List (List Int)) (q : Int) (x : Nat) : Int := (rw' nx q.toNat).getD x 0
def runT (nx : List (List Int)) (q : Int) (w : List Nat) : Int := w.foldl (stepT nx) q
theorem runT_app (nx : List (List Int)) (q : Int) (v w : List Nat) : runT nx q (v ++ w) = runT nx (runT nx q v) w := List.foldl_append
section
variable {S : Type} [DecidableEq S] (step : S → Nat → S) (L : Nat)
def rowS (s : S) : List S := (List.range L).map (step s)
theorem nums_row {F : List S} {i : Nat} (h : i < F.length) (succ : S → List S) : rw' (nums succ F F.length) i = (succ F[i]).map fun t => (pos F t : Int) := by
  unfold rw' nums
  rw [List.take_length, List.getD_eq_getElem?_getD, List.getElem?_map, List.getElem?_eq_getElem h]
  rfl
theorem stepT_nums {F : List S} (hS : ∀ s ∈ F, ∀ t ∈ rowS step L s, t ∈ F) {s : S} (hs : s ∈ F) {x : Nat} (hx : x < L) : stepT (nums (rowS step L) F F.length) (pos F s : Int) x = (pos F (step s x) : Int) ∧ step s x ∈ F := by
  have hi : pos F s < F.length := List.idxOf_lt_length_of_mem hs
  have he : F[pos F s] = s := List.getElem_idxOf hi
  refine ⟨?_, hS s hs _ (List.mem_map.2 ⟨x, List.mem_range.2 hx, rfl⟩)⟩
  unfold stepT
  rw [Int.toNat_natCast, nums_row hi, he]
  unfold rowS
  rw [List.map_map, List.getD_eq_getElem?_getD, List.getElem?_map, List.getElem?_range hx]
  rfl
theorem runT_nums {F : List S} (hS : ∀ s ∈ F, ∀ t ∈ rowS step L s, t ∈ F) : ∀ (w : List Nat) (s : S), s ∈ F → (∀ x ∈ w, x < L) → runT (nums (rowS step L) F F.length) (pos F s : Int) w = (pos F (w.foldl step s) : Int) ∧ w.foldl step s ∈ F
  | [], s, hs, _ => ⟨rfl, hs⟩
  | x :: w, s, hs, hx => by
    obtain ⟨h1, h2⟩ := stepT_nums step L hS hs (hx x (by simp))
    show runT _ (stepT _ _ x) w = _ ∧ _
    rw [h1]
    exact runT_nums hS w _ h2 fun y hy => hx y (by simp [hy])
theorem nums_ok {F : List S} (succ : S → List S) (hS : ∀ s ∈ F, ∀ t ∈ succ s, t ∈ F) : ∀ row ∈ nums succ F F.length, ∀ z ∈ row, 0 ≤ z ∧ z < (F.length : Int) := by
  intro row hr z hz
  unfold nums at hr
  rw [List.take_length] at hr
  obtain ⟨s, hs, rfl⟩ := List.mem_map.1 hr
  obtain ⟨t, ht, rfl⟩ := List.mem_map.1 hz
  have : pos F t < F.length := List.idxOf_lt_length_of_mem (hS s hs t ht)
  omega
end
end Go.Proofs.YtdjhfndoheoljaaDoor.Sb
