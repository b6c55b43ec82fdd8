/- Exploring a graph from a start, numbered by first visit; tables of numbers. Plain mathematics, nothing of the program. -/
import Derived.Test.YteckkbjpeckjmaaDoorBS
import Derived.Test.YteckkbjpeckjmaaDoorFN
import Derived.Test.YteckkbjpeckjmaaDoorHD
import Derived.Test.YteckkbjpeckjmaaDoorFS
import Derived.Deep.RegionHeld3
import Derived.Test.YteckkbjpeckjmaaDoorAP
import Derived.Test.YteckkbjpeckjmaaDoorCE
import Derived.Laws.MakeOwn
import Derived.Maps.AppendAt
import Derived.Laws.OwnMore
namespace Go.Proofs.YteckkbjpeckjmaaDoor.Sb
set_option linter.unusedVariables false
set_option linter.unusedSectionVars false
section
variable {S : Type} [DecidableEq S]
/-- The place of an element. -/
def pos (F : List S) (s : S) : Nat := F.idxOf s
/-- A list with one more element, unless it has it. -/
def add (F : List S) (s : S) : List S := if s ∈ F then F else F ++ [s]
def rowF : List S → List S → List S
  | F, [] => F
  | F, s :: l => rowF (add F s) l
theorem add_pre (F : List S) (s : S) : F <+: add F s := by
  unfold add
  split
  · exact List.prefix_refl _
  · exact List.prefix_append _ _
theorem mem_add {F : List S} {s t : S} : t ∈ add F s ↔ t ∈ F ∨ t = s := by
  unfold add
  split
  · rename_i h
    constructor
    · exact .inl
    · rintro (h1 | rfl)
      · exact h1
      · exact h
  · simp
theorem nodup_add {F : List S} {s : S} (h : F.Nodup) : (add F s).Nodup := by
  unfold add
  split
  · exact h
  · rename_i hn
    rw [List.nodup_append]
    refine ⟨h, by simp, ?_⟩
    rintro a ha b hb rfl
    simp at hb
    subst hb
    exact hn ha
theorem rowF_pre : ∀ (l F : List S), F <+: rowF F l
  | [], F => List.prefix_refl _
  | s :: l, F => (add_pre F s).trans (rowF_pre l (add F s))
theorem mem_rowF {t : S} : ∀ {l F : List S}, t ∈ rowF F l ↔ t ∈ F ∨ t ∈ l
  | [], F => by simp [rowF]
  | s :: l, F => by
    show t ∈ rowF (add F s) l ↔ _
    rw [mem_rowF, mem_add, List.mem_cons]
    constructor
    · rintro ((h | h) | h)
      · exact .inl h
      · exact .inr (.inl h)
      · exact .inr (.inr h)
    · rintro (h | h | h)
      · exact .inl (.inl h)
      · exact .inl (.inr h)
      · exact .inr h
theorem nodup_rowF : ∀ {l F : List S}, F.Nodup → (rowF F l).Nodup
  | [], _, h => h
  | s :: l, _, h => nodup_rowF (l := l) (nodup_add h)
theorem rowF_snoc : ∀ (l F : List S) (s : S), rowF F (l ++ [s]) = add (rowF F l) s
  | [], _, _ => rfl
  | _ :: l, _, s => rowF_snoc l _ s
theorem rowF_take {l F : List S} {k : Nat} (h : k < l.length) : rowF F (l.take (k + 1)) = add (rowF F (l.take k)) l[k] := by
  rw [List.take_add_one, List.getElem?_eq_getElem h]
  exact rowF_snoc _ _ _
theorem rowF_len_mono {l F : List S} {j k : Nat} (h : j ≤ k) : (rowF F (l.take j)).length ≤ (rowF F (l.take k)).length := by
  induction k with
  | zero => obtain rfl : j = 0 := by omega
            exact Nat.le_refl _
  | succ k ih =>
    by_cases hj : j = k + 1
    · subst hj; exact Nat.le_refl _
    · refine Nat.le_trans (ih (by omega)) ?_
      by_cases hk : k < l.length
      · rw [rowF_take hk]
        exact (add_pre _ _).length_le
      · rw [List.take_of_length_le (by omega), List.take_of_length_le (by omega)]
        exact Nat.le_refl _
theorem idx_pre {F G : List S} {s : S} (h : F <+: G) (hs : s ∈ F) : pos G s = pos F s := by
  obtain ⟨t, rfl⟩ := h
  unfold pos
  rw [List.idxOf_append, if_pos hs]
theorem idx_add_new {F : List S} {s : S} (h : s ∉ F) : pos (add F s) s = F.length := by
  unfold add pos
  rw [if_neg h, List.idxOf_append, if_neg h]
  simp
theorem pos_new {F : List S} {s : S} (h : s ∉ F) : pos (F ++ [s]) s = F.length := by
  unfold pos
  rw [List.idxOf_append, if_neg h]
  simp
theorem getD_pre {F G : List S} {i : Nat} {z : S} (h : F <+: G) (hi : i < F.length) : G.getD i z = F.getD i z := by
  obtain ⟨t, rfl⟩ := h
  simp [List.getD_eq_getElem?_getD, List.getElem?_append_left hi]
theorem take_pre {F G : List S} {r : Nat} (h : F <+: G) (hr : r ≤ F.length) : G.take r = F.take r := by
  obtain ⟨t, rfl⟩ := h
  rw [List.take_append_of_le_length hr]
theorem get0_pre {F G : List S} {s0 : S} (h : F <+: G) (h0 : F[0]? = some s0) : G[0]? = some s0 := by
  obtain ⟨t, rfl⟩ := h
  have hlt : 0 < F.length := by
    cases F with
    | nil => simp at h0
    | cons _ _ => simp
  rw [List.getElem?_append_left hlt]
  exact h0
variable (succ : S → List S) (b : Nat)
/-- What exploring finds from r rows on; none: the budget is exceeded. -/
def expl : Nat → Nat → List S → Option (List S)
  | 0, _, _ => none
  | f + 1, r, F => match F[r]? with
    | none => some F
    | some s => if b < (rowF F (succ s)).length then none else expl f (r + 1) (rowF F (succ s))
def found (s0 : S) : Option (List S) := expl succ b (b + 1) 0 [s0]
theorem expl_end {f r : Nat} {F : List S} (h : F.length ≤ r) : expl succ b (f + 1) r F = some F := by
  unfold expl
  rw [List.getElem?_eq_none h]
theorem expl_over {f r : Nat} {F : List S} (h : r < F.length) (hb : b < (rowF F (succ F[r])).length) : expl succ b (f + 1) r F = none := by
  unfold expl
  rw [List.getElem?_eq_getElem h]
  exact if_pos hb
theorem expl_step {f r : Nat} {F : List S} (h : r < F.length) (hb : (rowF F (succ F[r])).length ≤ b) : expl succ b (f + 1) r F = expl succ b f (r + 1) (rowF F (succ F[r])) := by
  conv => lhs; unfold expl
  rw [List.getElem?_eq_getElem h]
  exact if_neg (by omega)
/-- The rows of the first r, as numbers. -/
def nums (F : List S) (r : Nat) : List (List Int) := (F.take r).map fun s => (succ s).map fun t => (pos F t : Int)
/-- The first r rows are closed. -/
def Shut (F : List S) (r : Nat) : Prop := ∀ s ∈ F.take r, ∀ t ∈ succ s, t ∈ F
theorem Shut.step {F : List S} {r : Nat} (h : Shut succ F r) (hr : r < F.length) : Shut succ (rowF F (succ F[r])) (r + 1) := by
  intro s hs t ht
  have hp := rowF_pre (succ F[r]) F
  rw [take_pre hp (by omega), List.take_add_one, List.getElem?_eq_getElem hr] at hs
  rcases List.mem_append.1 hs with h1 | h1
  · exact mem_rowF.2 (.inl (h s h1 t ht))
  · simp at h1
    subst h1
    exact mem_rowF.2 (.inr ht)
theorem nums_step {F : List S} {r : Nat} (h : Shut succ F r) (hr : r < F.length) : nums succ (rowF F (succ F[r])) (r + 1) = nums succ F r ++ [(succ F[r]).map fun t => (pos (rowF F (succ F[r])) t : Int)] := by
  have hp := rowF_pre (succ F[r]) F
  unfold nums
  rw [take_pre hp (by omega), List.take_add_one, List.getElem?_eq_getElem hr, List.map_append]
  congr 1
  refine List.map_congr_left fun s hs => List.map_congr_left fun t ht => ?_
  rw [idx_pre hp (h s hs t ht)]
theorem nums_len (F : List S) (r : Nat) (h : r ≤ F.length) : (nums succ F r).length = r := by
  unfold nums
  rw [List.length_map, List.length_take]
  omega
/-- What is found: the start comes first, nothing twice, closed, within the budget. -/
structure Found (s0 : S) (F : List S) : Prop where
  head : F[0]? = some s0
  nodup : F.Nodup
  shut : ∀ s ∈ F, ∀ t ∈ succ s, t ∈ F
  len : F.length ≤ b
theorem expl_found {s0 : S} : ∀ (f r : Nat) (F G : List S), expl succ b f r F = some G → F[0]? = some s0 → F.Nodup → Shut succ F r → F.length ≤ b → Found succ b s0 G ∧ F <+: G
  | 0, _, _, _, h, _, _, _, _ => by cases h
  | f + 1, r, F, G, h, h0, hn, hs, hb => by
    by_cases hr : r < F.length
    · by_cases ho : b < (rowF F (succ F[r])).length
      · rw [expl_over succ b hr ho] at h
        cases h
      · rw [expl_step succ b hr (by omega)] at h
        have hp := rowF_pre (succ F[r]) F
        obtain ⟨h1, h2⟩ := expl_found f (r + 1) _ G h (get0_pre hp h0) (nodup_rowF hn) (hs.step succ hr) (by omega)
        exact ⟨h1, hp.trans h2⟩
    · rw [expl_end succ b (by omega)] at h
      cases h
      refine ⟨⟨h0, hn, fun s hsF => ?_, hb⟩, List.prefix_refl _⟩
      exact hs s (by rw [List.take_of_length_le (by omega)]; exact hsF)
theorem found_is {s0 : S} {F : List S} (hb : 1 ≤ b) (h : found succ b s0 = some F) : Found succ b s0 F :=
  (expl_found succ b _ _ _ F h rfl (by simp) (fun s hs => by simp at hs) (by simpa using hb)).1
/-- Whatever is found lies in every closed list that has the start; so the budget is enough if such a list is no longer. -/
theorem expl_some {T : List S} (hT : ∀ s ∈ T, ∀ t ∈ succ s, t ∈ T) (hl : T.length ≤ b) : ∀ (f r : Nat) (F : List S), F.Nodup → (∀ s ∈ F, s ∈ T) → b < f + r → r ≤ F.length → ∃ G, expl succ b f r F = some G ∧ ∀ s ∈ G, s ∈ T
  | 0, r, F, hn, hF, hf, hr => by
    have := List.Nodup.length_le_of_subset hn (fun s hs => hF s hs)
    omega
  | f + 1, r, F, hn, hF, hf, hr => by
    by_cases hlt : r < F.length
    · have hsub : ∀ s ∈ rowF F (succ F[r]), s ∈ T := fun s hs => by
        rcases mem_rowF.1 hs with h | h
        · exact hF s h
        · exact hT _ (hF _ (List.getElem_mem hlt)) s h
      have hle := List.Nodup.length_le_of_subset (nodup_rowF (l := succ F[r]) hn) (fun s hs => hsub s hs)
      rw [expl_step succ b hlt (by omega)]
      have := rowF_pre (succ F[r]) F
      exact expl_some hT hl f (r + 1) _ (nodup_rowF hn) hsub (by omega) (by have := this.length_le; omega)
    · rw [expl_end succ b (by omega)]
      exact ⟨F, rfl, hF⟩
theorem found_some {T : List S} {s0 : S} (hT : ∀ s ∈ T, ∀ t ∈ succ s, t ∈ T) (h0 : s0 ∈ T) (hl : T.length ≤ b) : ∃ G, found succ b s0 = some G ∧ ∀ s ∈ G, s ∈ T :=
  expl_some succ b hT hl _ _ _ (by simp) (by simpa using h0) (by omega) (by simp)
end
theorem expl_pre {S : Type} [DecidableEq S] (succ : S → List S) {c : Nat} {G : List S} : ∀ (q r : Nat) (F : List S), expl succ c q r F = some G → F <+: G
  | 0, _, _, h => by cases h
  | q + 1, r, F, h => by
    by_cases hr : r < F.length
    · by_cases ho : c < (rowF F (succ F[r])).length
      · rw [expl_over succ c hr ho] at h; cases h
      · rw [expl_step succ c hr (by omega)] at h
        exact (rowF_pre _ _).trans (expl_pre succ q _ _ h)
    · rw [expl_end succ c (by omega)] at h
      cases h
      exact List.prefix_refl _
/-- A greater budget finds the same, unless the smaller one is exceeded. -/
theorem expl_mono {S : Type} [DecidableEq S] (succ : S → List S) {b c : Nat} (hbc : b ≤ c) : ∀ (f : Nat) (g r : Nat) (F : List S), f ≤ g → ∀ G, expl succ b f r F = some G → expl succ c g r F = some G
  | 0, _, _, _, _, _, h => by cases h
  | f + 1, 0, _, _, hfg, _, _ => by omega
  | f + 1, g + 1, r, F, hfg, G, h => by
    by_cases hr : r < F.length
    · by_cases ho : b < (rowF F (succ F[r])).length
      · rw [expl_over succ b hr ho] at h
        cases h
      · rw [expl_step succ b hr (by omega)] at h
        rw [expl_step succ c hr (by omega)]
        exact expl_mono succ hbc f g (r + 1) _ (by omega) G h
    · rw [expl_end succ b (by omega)] at h
      rw [expl_end succ c (by omega)]
      exact h
/-- If a budget finds something that is within a smaller one, the smaller one finds it, too. -/
theorem expl_less {S : Type} [DecidableEq S] (succ : S → List S) {b c : Nat} : ∀ (f : Nat) (g r : Nat) (F : List S), b < f + r → r ≤ F.length → ∀ G, expl succ c g r F = some G → G.length ≤ b → expl succ b f r F = some G
  | f, 0, _, _, _, _, _, h, _ => by cases h
  | 0, g + 1, r, F, hf, hr, G, h, hG => by
    have hp : F <+: G := expl_pre succ _ _ _ h
    have := hp.length_le
    omega
  | f + 1, g + 1, r, F, hf, hr, G, h, hG => by
    by_cases hlt : r < F.length
    · by_cases ho : c < (rowF F (succ F[r])).length
      · rw [expl_over succ c hlt ho] at h
        cases h
      · rw [expl_step succ c hlt (by omega)] at h
        have hp : rowF F (succ F[r]) <+: G := expl_pre succ _ _ _ h
        have hle := hp.length_le
        rw [expl_step succ b hlt (by omega)]
        have := (rowF_pre (succ F[r]) F).length_le
        exact expl_less succ f g (r + 1) _ (by omega) (by omega) G h hG
    · rw [expl_end succ c (by omega)] at h
      rw [expl_end succ b (by omega)]
      exact h
set_option linter.unusedSectionVars false
set_option linter.unusedVariables false
section
variable {S T : Type} [DecidableEq S] [DecidableEq T] (f : S → T) (P : S → Prop) (inj : ∀ s t, P s → P t → f s = f t → s = t)
include inj
theorem mem_map_inj {F : List S} {s : S} (hF : ∀ t ∈ F, P t) (hs : P s) : f s ∈ F.map f ↔ s ∈ F := by
  rw [List.mem_map]
  exact ⟨fun ⟨t, ht, e⟩ => (inj t s (hF t ht) hs e) ▸ ht, fun h => ⟨s, h, rfl⟩⟩
theorem add_map {F : List S} {s : S} (hF : ∀ t ∈ F, P t) (hs : P s) : add (F.map f) (f s) = (add F s).map f := by
  unfold add
  by_cases h : s ∈ F
  · rw [if_pos h, if_pos ((mem_map_inj f P inj hF hs).2 h)]
  · rw [if_neg h, if_neg (fun h1 => h ((mem_map_inj f P inj hF hs).1 h1))]
    simp
theorem rowF_map : ∀ {l F : List S}, (∀ t ∈ F, P t) → (∀ t ∈ l, P t) → rowF (F.map f) (l.map f) = (rowF F l).map f
  | [], _, _, _ => rfl
  | s :: l, F, hF, hl => by
    show rowF (add (F.map f) (f s)) (l.map f) = (rowF (add F s) l).map f
    rw [add_map f P inj hF (hl s (by simp))]
    refine rowF_map (fun t ht => ?_) (fun t ht => hl t (by simp [ht]))
    rcases mem_add.1 ht with h | h
    · exact hF t h
    · exact h ▸ hl s (by simp)
theorem idx_map {F : List S} {s : S} (hF : ∀ t ∈ F, P t) (hs : P s) : pos (F.map f) (f s) = pos F s := by
  unfold pos
  induction F with
  | nil => rfl
  | cons t F ih =>
    rw [List.map_cons, List.idxOf_cons, List.idxOf_cons, ih (fun u hu => hF u (by simp [hu]))]
    have : (f t == f s) = (t == s) := by
      rw [Bool.eq_iff_iff, beq_iff_eq, beq_iff_eq]
      exact ⟨inj t s (hF t (by simp)) hs, fun e => by rw [e]⟩
    rw [this]
theorem expl_map (succ : S → List S) (succ' : T → List T) (hs : ∀ s, P s → succ' (f s) = (succ s).map f) (hP : ∀ s, P s → ∀ t ∈ succ s, P t) (b : Nat) : ∀ (q r : Nat) (F : List S), (∀ t ∈ F, P t) → expl succ' b q r (F.map f) = (expl succ b q r F).map (List.map f)
  | 0, _, _, _ => rfl
  | q + 1, r, F, hF => by
    by_cases hr : r < F.length
    · have hr' : r < (F.map f).length := by rw [List.length_map]; exact hr
      have hF' : ∀ t ∈ rowF F (succ F[r]), P t := fun t ht => by
        rcases mem_rowF.1 ht with h | h
        · exact hF t h
        · exact hP _ (hF _ (List.getElem_mem hr)) t h
      have he : rowF (F.map f) (succ' (F.map f)[r]) = (rowF F (succ F[r])).map f := by
        rw [List.getElem_map, hs _ (hF _ (List.getElem_mem hr)), rowF_map f P inj hF (hP _ (hF _ (List.getElem_mem hr)))]
      by_cases ho : b < (rowF F (succ F[r])).length
      · rw [expl_over succ b hr ho, expl_over succ' b hr' (by rw [he, List.length_map]; exact ho)]
        rfl
      · rw [expl_step succ b hr (by omega), expl_step succ' b hr' (by rw [he, List.length_map]; omega), he]
        exact expl_map succ succ' hs hP b q (r + 1) _ hF'
    · rw [expl_end succ b (by omega), expl_end succ' b (by rw [List.length_map]; omega)]
      rfl
theorem nums_map (succ : S → List S) (succ' : T → List T) (hs : ∀ s, P s → succ' (f s) = (succ s).map f) (hP : ∀ s, P s → ∀ t ∈ succ s, P t) {F : List S} (hF : ∀ t ∈ F, P t) (r : Nat) : nums succ' (F.map f) r = nums succ F r := by
  unfold nums
  rw [← List.map_take, List.map_map]
  refine List.map_congr_left fun s hs1 => ?_
  have hPs := hF s (List.mem_of_mem_take hs1)
  show (succ' (f s)).map _ = _
  rw [hs s hPs, List.map_map]
  refine List.map_congr_left fun t ht => ?_
  show ((pos (F.map f) (f t) : Nat) : Int) = _
  rw [idx_map f P inj hF (hP s hPs t ht)]
end
/-- What exploring keeps: a predicate that the successors keep. -/
theorem expl_keep {S : Type} [DecidableEq S] (succ : S → List S) (P : S → Prop) (hP : ∀ s, P s → ∀ t ∈ succ s, P t) (b : Nat) {G : List S} : ∀ (q r : Nat) (F : List S), (∀ t ∈ F, P t) → expl succ b q r F = some G → ∀ t ∈ G, P t
  | 0, _, _, _, h => by cases h
  | q + 1, r, F, hF, h => by
    by_cases hr : r < F.length
    · by_cases ho : b < (rowF F (succ F[r])).length
      · rw [expl_over succ b hr ho] at h; cases h
      · rw [expl_step succ b hr (by omega)] at h
        refine expl_keep succ P hP b q (r + 1) _ (fun t ht => ?_) h
        rcases mem_rowF.1 ht with h1 | h1
        · exact hF t h1
        · exact hP _ (hF _ (List.getElem_mem hr)) t h1
    · rw [expl_end succ b (by omega)] at h
      cases h
      exact hF
set_option linter.unusedSectionVars false
set_option linter.unusedVariables false
/-- A list of lists at a place. -/
def rw' (L : List (List Int)) (j : Nat) : List Int := L.getD j []
/-- One step of a table. -/
def stepT (nx : List (List Int)) (q : Int) (x : Nat) : Int := (rw' nx q.toNat).getD x 0
def runT (nx : List (List Int)) (q : Int) (w : List Nat) : Int := w.foldl (stepT nx) q
theorem runT_app (nx : List (List Int)) (q : Int) (v w : List Nat) : runT nx q (v ++ w) = runT nx (runT nx q v) w := List.foldl_append
section
variable {S : Type} [DecidableEq S] (step : S → Nat → S) (L : Nat)
def rowS (s : S) : List S := (List.range L).map (step s)
theorem nums_row {F : List S} {i : Nat} (h : i < F.length) (succ : S → List S) : rw' (nums succ F F.length) i = (succ F[i]).map fun t => (pos F t : Int) := by
  unfold rw' nums
  rw [List.take_length, List.getD_eq_getElem?_getD, List.getElem?_map, List.getElem?_eq_getElem h]
  rfl
theorem stepT_nums {F : List S} (hS : ∀ s ∈ F, ∀ t ∈ rowS step L s, t ∈ F) {s : S} (hs : s ∈ F) {x : Nat} (hx : x < L) : stepT (nums (rowS step L) F F.length) (pos F s : Int) x = (pos F (step s x) : Int) ∧ step s x ∈ F := by
  have hi : pos F s < F.length := List.idxOf_lt_length_of_mem hs
  have he : F[pos F s] = s := List.getElem_idxOf hi
  refine ⟨?_, hS s hs _ (List.mem_map.2 ⟨x, List.mem_range.2 hx, rfl⟩)⟩
  unfold stepT
  rw [Int.toNat_natCast, nums_row hi, he]
  unfold rowS
  rw [List.map_map, List.getD_eq_getElem?_getD, List.getElem?_map, List.getElem?_range hx]
  rfl
theorem runT_nums {F : List S} (hS : ∀ s ∈ F, ∀ t ∈ rowS step L s, t ∈ F) : ∀ (w : List Nat) (s : S), s ∈ F → (∀ x ∈ w, x < L) → runT (nums (rowS step L) F F.length) (pos F s : Int) w = (pos F (w.foldl step s) : Int) ∧ w.foldl step s ∈ F
  | [], s, hs, _ => ⟨rfl, hs⟩
  | x :: w, s, hs, hx => by
    obtain ⟨h1, h2⟩ := stepT_nums step L hS hs (hx x (by simp))
    show runT _ (stepT _ _ x) w = _ ∧ _
    rw [h1]
    exact runT_nums hS w _ h2 fun y hy => hx y (by simp [hy])
theorem nums_ok {F : List S} (succ : S → List S) (hS : ∀ s ∈ F, ∀ t ∈ succ s, t ∈ F) : ∀ row ∈ nums succ F F.length, ∀ z ∈ row, 0 ≤ z ∧ z < (F.length : Int) := by
  intro row hr z hz
  unfold nums at hr
  rw [List.take_length] at hr
  obtain ⟨s, hs, rfl⟩ := List.mem_map.1 hr
  obtain ⟨t, ht, rfl⟩ := List.mem_map.1 hz
  have : pos F t < F.length := List.idxOf_lt_length_of_mem (hS s hs t ht)
  omega
end
end Go.Proofs.YteckkbjpeckjmaaDoor.Sb
/- Deterministic automata in memory; the small functions of package subset; Check. -/
namespace Go.Proofs.YteckkbjpeckjmaaDoor.Sb
open Go Go.RowKit Go.Proofs.YteckkbjpeckjmaaDoor Go.Proofs.YteckkbjpeckjmaaDoor.Cb
open Go.Proofs.YteckkbjpeckjmaaDoor.Nf (ret_int ret_b inS Boxed4 Boxed4.new Boxed4.below Boxed4.cells Boxed5 bys_new)
open Go.Proofs.YteckkbjpeckjmaaDoor.Dg (Tabs tb tb_mem mem_tb)
set_option linter.unusedVariables false
set_option linter.unusedSimpArgs false
set_option maxRecDepth 100000
structure Da where
  V : Int
  q0 : Int
  nx : List (List Int)
  fi : List Bool
def rowE (V S : Int) (row : List Int) : Int := if (row.length : Int) = ((2 ^ V.toNat : Nat) : Int) then (if allB (fun i => inS S (nd row i)) row.length then 0 else 8) else 2
def rowsE (V S : Int) (L : List (List Int)) : Nat → Int
  | 0 => 0
  | k + 1 => if rowsE V S L k ≠ 0 then rowsE V S L k else rowE V S (tb L k)
def shpE (V q0 : Int) (n m : Nat) : Int := if 0 ≤ V ∧ V ≤ 6 then (if n = 0 then 3 else if 4096 < n then 4 else if m ≠ n then 2 else if inS n q0 then 0 else 8) else 7
def chkD (d : Da) : Int := if shpE d.V d.q0 d.nx.length d.fi.length ≠ 0 then shpE d.V d.q0 d.nx.length d.fi.length else rowsE d.V d.nx.length d.nx d.nx.length
theorem rowsE_stop {V S : Int} {L : List (List Int)} {k : Nat} (h : rowsE V S L k ≠ 0) : ∀ d, rowsE V S L (k + d) = rowsE V S L k
  | 0 => rfl
  | d + 1 => by
    have := rowsE_stop h d
    show (if rowsE V S L (k + d) ≠ 0 then rowsE V S L (k + d) else _) = _
    rw [this, if_pos h]
theorem rowsE_err {V S : Int} {L : List (List Int)} {k : Nat} (h : rowsE V S L k = 0) (hk : k < L.length) (he : rowE V S (tb L k) ≠ 0) : rowsE V S L L.length = rowE V S (tb L k) := by
  have h1 : rowsE V S L (k + 1) = rowE V S (tb L k) := by
    show (if rowsE V S L k ≠ 0 then rowsE V S L k else _) = _
    rw [if_neg (by omega)]
  have := rowsE_stop (k := k + 1) (by rw [h1]; exact he) (L.length - (k + 1))
  rw [show k + 1 + (L.length - (k + 1)) = L.length by omega] at this
  rw [this, h1]
theorem rowsE_next {V S : Int} {L : List (List Int)} {k : Nat} (h : rowsE V S L k = 0) (he : rowE V S (tb L k) = 0) : rowsE V S L (k + 1) = 0 := by
  show (if rowsE V S L k ≠ 0 then rowsE V S L k else _) = _
  rw [if_neg (by omega), he]
theorem rowsE_all {V S : Int} {L : List (List Int)} : ∀ {k : Nat}, rowsE V S L k = 0 → ∀ j, j < k → rowE V S (tb L j) = 0
  | 0, _, j, hj => absurd hj (by omega)
  | k + 1, h, j, hj => by
    have h0 : rowsE V S L k = 0 := by
      apply Decidable.byContradiction
      intro hn
      have : (if rowsE V S L k ≠ 0 then rowsE V S L k else rowE V S (tb L k)) = 0 := h
      rw [if_pos hn] at this
      exact hn this
    rcases Nat.lt_or_eq_of_le (Nat.le_of_lt_succ hj) with h1 | rfl
    · exact rowsE_all h0 j h1
    · have : (if rowsE V S L j ≠ 0 then rowsE V S L j else rowE V S (tb L j)) = 0 := h
      rwa [if_neg (by omega)] at this
theorem rowsE_none {V S : Int} {L : List (List Int)} : ∀ {k : Nat}, (∀ j, j < k → rowE V S (tb L j) = 0) → rowsE V S L k = 0
  | 0, _ => rfl
  | k + 1, h => rowsE_next (rowsE_none fun j hj => h j (by omega)) (h k (by omega))
theorem rowE_ok {V S : Int} {row : List Int} (h : rowE V S row = 0) : row.length = 2 ^ V.toNat ∧ ∀ z ∈ row, 0 ≤ z ∧ z < S := by
  unfold rowE at h
  split at h
  · rename_i h1
    split at h
    · rename_i h2
      refine ⟨by omega, fun z hz => ?_⟩
      obtain ⟨j, hj, rfl⟩ := List.mem_iff_getElem.1 hz
      have := (allB_iff _ _).1 h2 j hj
      rw [Nf.inS_iff] at this
      unfold nd at this
      rwa [List.getD_eq_getElem?_getD, List.getElem?_eq_getElem hj] at this
    · cases h
  · cases h
theorem ok_rowE {V S : Int} {row : List Int} (h1 : row.length = 2 ^ V.toNat) (h2 : ∀ z ∈ row, 0 ≤ z ∧ z < S) : rowE V S row = 0 := by
  unfold rowE
  rw [if_pos (by omega), if_pos]
  refine (allB_iff _ _).2 fun j hj => ?_
  rw [Nf.inS_iff]
  unfold nd
  rw [List.getD_eq_getElem?_getD, List.getElem?_eq_getElem hj]
  exact h2 _ (List.getElem_mem hj)
/-- A valid automaton. -/
structure OkD (d : Da) : Prop where
  v0 : 0 ≤ d.V
  v6 : d.V ≤ 6
  n0 : 0 < d.nx.length
  n4 : d.nx.length ≤ 4096
  fi : d.fi.length = d.nx.length
  q0 : 0 ≤ d.q0 ∧ d.q0 < d.nx.length
  row : ∀ r ∈ d.nx, r.length = 2 ^ d.V.toNat ∧ ∀ z ∈ r, 0 ≤ z ∧ z < d.nx.length
theorem shp_ok {V q0 : Int} {n m : Nat} (h : shpE V q0 n m = 0) : 0 ≤ V ∧ V ≤ 6 ∧ 0 < n ∧ n ≤ 4096 ∧ m = n ∧ 0 ≤ q0 ∧ q0 < n := by
  unfold shpE at h
  split at h
  · split at h
    · cases h
    · split at h
      · cases h
      · split at h
        · cases h
        · split at h
          · rename_i h1 h2 h3 h4 h5
            rw [Nf.inS_iff] at h5
            omega
          · cases h
  · cases h
theorem ok_shp {V q0 : Int} {n m : Nat} (h : 0 ≤ V ∧ V ≤ 6 ∧ 0 < n ∧ n ≤ 4096 ∧ m = n ∧ 0 ≤ q0 ∧ q0 < n) : shpE V q0 n m = 0 := by
  unfold shpE
  rw [if_pos (by omega), if_neg (by omega), if_neg (by omega), if_neg (by omega), if_pos (by rw [Nf.inS_iff]; omega)]
theorem okD_of {d : Da} (h : chkD d = 0) : OkD d := by
  unfold chkD at h
  split at h
  · rename_i h1; exact absurd h h1
  · rename_i h1
    obtain ⟨a1, a2, a3, a4, a5, a6, a7⟩ := shp_ok (Decidable.not_not.1 h1)
    refine ⟨a1, a2, a3, a4, a5, ⟨a6, a7⟩, fun r hr => ?_⟩
    obtain ⟨j, hj, rfl⟩ := mem_tb hr
    exact rowE_ok (rowsE_all h j hj)
theorem okD_chk {d : Da} (h : OkD d) : chkD d = 0 := by
  unfold chkD
  rw [if_neg (fun hn => hn (ok_shp ⟨h.v0, h.v6, h.n0, h.n4, h.fi, h.q0.1, h.q0.2⟩))]
  exact rowsE_none fun j hj => ok_rowE (h.row _ (tb_mem hj)).1 (h.row _ (tb_mem hj)).2
/-- The slice at B holds the truth values l. -/
def Bools (w : World) (B : Option Addr) (l : List Bool) : Prop := Vals w B l.length fun j => .bool (l.getD j false)
theorem Bools.below {w w' : World} {B : Option Addr} {l : List Bool} (h : Bools w B l) (hb : Below w.heap.size w w') : Bools w' B l := Vals.below h hb
structure DaAt (w : World) (d : Da) (A B : Option Addr) : Prop where
  nx : Tabs w A d.nx
  fi : Bools w B d.fi
theorem DaAt.below {w w' : World} {d : Da} {A B : Option Addr} (h : DaAt w d A B) (hb : Below w.heap.size w w') : DaAt w' d A B := ⟨h.nx.below hb, h.fi.below hb⟩
structure DaLen (d : Da) : Prop where
  nx : d.nx.length ≤ 1000000
  fi : d.fi.length ≤ 1000000
  row : ∀ r ∈ d.nx, r.length ≤ 1000000
theorem OkD.len {d : Da} (h : OkD d) : DaLen d := ⟨by have := h.n4; omega, by have := h.n4; have := h.fi; omega, fun r hr => by
  have h1 := (h.row r hr).1
  have h2 : 2 ^ d.V.toNat ≤ 2 ^ 6 := Nat.pow_le_pow_right (by decide) (by have := h.v6; omega)
  omega⟩
theorem lettersOver_any (v : Nat) (w : World) (hv : v ≤ 6) :
    Calls Tryd.prog 60 #[.int .i64 v] w fun e w' => e = .returned (.int .i64 ((2 ^ v : Nat) : Int)) ∧ w = w' := by
  go_enter Tryd.func60, Tryd.ntmps60
  go_wp2
  go_ret
  exact ⟨ret_int (shl64 hv), rfl⟩
theorem isStateD_any (V q0 z : Int) (A : Option Addr) (n a : Nat) (s3 : Value) (w : World) :
    Calls Tryd.prog 98 #[.agg #[.int .i64 V, .int .i64 q0, .slice A n a, s3], .int .i64 z] w fun r w' => r = .returned (.bool (inS n z)) ∧ Below w.heap.size w w' := by
  by_cases h1 : 0 ≤ z
  · by_cases h2 : z < n
    · go_enter Tryd.func98, Tryd.ntmps98
      go_wp2
      go_ret
      exact ⟨ret_b (by simp [inS, h1, h2]), bal (Below.refl _ _) _⟩
    · go_enter Tryd.func98, Tryd.ntmps98
      go_wp2
      go_ret
      exact ⟨ret_b (by simp [inS, h2]), bal (Below.refl _ _) _⟩
  · go_enter Tryd.func98, Tryd.ntmps98
    go_wp2
    go_ret
    exact ⟨ret_b (by simp [inS]; omega), bal (Below.refl _ _) _⟩
theorem isStateD_is {b : Bool} {V q0 z : Int} {A : Option Addr} {n a : Nat} {s3 : Value} (h : inS n z = b) (w : World) :
    Calls Tryd.prog 98 #[.agg #[.int .i64 V, .int .i64 q0, .slice A n a, s3], .int .i64 z] w fun r w' => r = .returned (.bool b) ∧ Below w.heap.size w w' := by
  subst h; exact isStateD_any V q0 z A n a s3 w
set_option maxHeartbeats 2000000 in
theorem checkShape_any (V q0 : Int) (A B : Option Addr) (n m a b : Nat) (w : World) (hn : n ≤ maxLen) (hm : m ≤ maxLen) :
    Calls Tryd.prog 61 #[.agg #[.int .i64 V, .int .i64 q0, .slice A n a, .slice B m b]] w fun r w' => r = .returned (.int .i64 (shpE V q0 n m)) ∧ Below w.heap.size w w' := by
  unfold maxLen at hn hm
  have hb0 := bal (Below.refl w.heap.size w) (.cells #[.int .i64 V, .int .i64 q0, .slice A n a, .slice B m b] 54)
  by_cases h1 : V < 0
  · have HE : Hid (shpE V q0 n m = 7) := by show _ = _; unfold shpE; rw [if_neg (by omega)]
    go_enter Tryd.func61, Tryd.ntmps61
    go_wp2
    go_ret
    exact ⟨ret_int HE.out.symm, hb0⟩
  by_cases h2 : 6 < V
  · have HE : Hid (shpE V q0 n m = 7) := by show _ = _; unfold shpE; rw [if_neg (by omega)]
    have d1 : decide (V < 0) = false := decide_eq_false h1
    go_enter Tryd.func61, Tryd.ntmps61
    go_wp2
    go_ret
    exact ⟨ret_int HE.out.symm, hb0⟩
  have d1 : decide (V < 0) = false := decide_eq_false h1
  have d2 : decide (6 < V) = false := decide_eq_false h2
  have HE : Hid (shpE V q0 n m = if n = 0 then 3 else if 4096 < n then 4 else if m ≠ n then 2 else if inS n q0 then 0 else 8) := by show _ = _; unfold shpE; rw [if_pos (by omega)]
  clear h1 h2
  by_cases h3 : n = 0
  · replace HE : Hid (shpE V q0 n m = 3) := by show _ = _; rw [HE.out, if_pos h3]
    have d3 : ((n : Int) == 0) = true := by rw [beq_iff_eq]; omega
    clear h3
    go_enter Tryd.func61, Tryd.ntmps61
    go_wp2
    go_ret
    exact ⟨ret_int HE.out.symm, hb0⟩
  have d3 : ((n : Int) == 0) = false := by rw [beq_eq_false_iff_ne]; omega
  replace HE : Hid (shpE V q0 n m = if 4096 < n then 4 else if m ≠ n then 2 else if inS n q0 then 0 else 8) := by show _ = _; rw [HE.out, if_neg h3]
  clear h3
  by_cases h4 : 4096 < n
  · replace HE : Hid (shpE V q0 n m = 4) := by show _ = _; rw [HE.out, if_pos h4]
    have d4 : decide ((4096 : Int) < (n : Int)) = true := decide_eq_true (by omega)
    go_enter Tryd.func61, Tryd.ntmps61
    go_wp2
    go_ret
    exact ⟨ret_int HE.out.symm, hb0⟩
  have d4 : decide ((4096 : Int) < (n : Int)) = false := decide_eq_false (by omega)
  replace HE : Hid (shpE V q0 n m = if m ≠ n then 2 else if inS n q0 then 0 else 8) := by show _ = _; rw [HE.out, if_neg h4]
  clear h4
  by_cases h5 : m ≠ n
  · replace HE : Hid (shpE V q0 n m = 2) := by show _ = _; rw [HE.out, if_pos h5]
    have d5 : ((m : Int) != (n : Int)) = true := by rw [bne_iff_ne]; omega
    clear h5
    go_enter Tryd.func61, Tryd.ntmps61
    go_wp2
    go_ret
    exact ⟨ret_int HE.out.symm, hb0⟩
  have d5 : ((m : Int) != (n : Int)) = false := by rw [bne_eq_false_iff_eq]; omega
  replace HE : Hid (shpE V q0 n m = if inS n q0 then 0 else 8) := by show _ = _; rw [HE.out, if_neg h5]
  clear h5
  cases h6 : inS n q0 with
  | true =>
    replace HE : Hid (shpE V q0 n m = 0) := by show _ = _; rw [HE.out, if_pos h6]
    have L1 := Lib.hid fun X => isStateD_is (V := V) (q0 := q0) (A := A) (a := a) (s3 := .slice B m b) h6 X
    clear h6
    go_enter Tryd.func61, Tryd.ntmps61
    go_wp2_with (go_at_call 98; ((with_reducible refine (L1.out _).mono ?_); rintro e w2 ⟨rfl, hb2⟩))
    go_ret
    exact ⟨ret_int HE.out.symm, stepB hb0 hb2⟩
  | false =>
    replace HE : Hid (shpE V q0 n m = 8) := by show _ = _; rw [HE.out, if_neg (by rw [h6]; simp)]
    have L1 := Lib.hid fun X => isStateD_is (V := V) (q0 := q0) (A := A) (a := a) (s3 := .slice B m b) h6 X
    clear h6
    go_enter Tryd.func61, Tryd.ntmps61
    go_wp2_with (go_at_call 98; ((with_reducible refine (L1.out _).mono ?_); rintro e w2 ⟨rfl, hb2⟩))
    go_ret
    exact ⟨ret_int HE.out.symm, stepB hb0 hb2⟩
set_option maxHeartbeats 2000000 in
theorem checkRow_any (v : Nat) (hv : v ≤ 6) (q0 : Int) (A : Option Addr) (n a : Nat) (s3 : Value) (C : Option Addr) (row : List Int) (c : Nat) (w : World) (hx : Ints w C row) (hl : row.length ≤ 1000000) (hn : n ≤ 1000000) :
    Calls Tryd.prog 62 #[.agg #[.int .i64 v, .int .i64 q0, .slice A n a, s3], .slice C row.length c] w fun r w' => r = .returned (.int .i64 (rowE v n row)) ∧ Below w.heap.size w w' := by
  have hb0 := bal (Below.refl w.heap.size w) (.cells #[.int .i64 v, .int .i64 q0, .slice A n a, s3] 54)
  have hB0 := Boxed4.new w 54 (.int .i64 v) (.int .i64 q0) (.slice A n a) s3
  have HL := Lib.hid fun X => lettersOver_any v X hv
  by_cases h0 : row.length = 2 ^ v
  · have HE : Hid (rowE v n row = if allB (fun i => inS n (nd row i)) row.length then 0 else 8) := by
      show _ = _
      unfold rowE
      rw [Int.toNat_natCast, if_pos (by omega)]
    have d0 : ((row.length : Int) != ((2 ^ v : Nat) : Int)) = false := by rw [bne_eq_false_iff_eq]; omega
    clear h0
    generalize 2 ^ v = K at *
    obtain ⟨z0, z1, z2, z3⟩ := hB0.cells
    go_enter Tryd.func62, Tryd.ntmps62
    go_wp2_with (go_at_call 60; ((with_reducible refine (HL.out _).mono ?_); rintro e w2 ⟨rfl, rfl⟩))
    clear z0 z1 z2 z3
    go_loopw [15] (fun i wr => ∃ k : Nat, k ≤ row.length ∧ i = .int .i64 k ∧ Hid (∀ i, i < k → inS n (nd row i) = true) ∧ Boxed4 wr w.heap.size (.int .i64 v) (.int .i64 q0) (.slice A n a) s3 ∧ Below w.heap.size w wr) (fun i _ => row.length - (intOf i).toNat)
    case atStart => exact ⟨0, by omega, rfl, fun i hi => absurd hi (by omega), hB0, hb0⟩
    case round =>
      clear hB0 hb0
      obtain ⟨k, hk, rfl, H, hB, hb⟩ := hrel
      obtain ⟨b0, b1, b2, b3⟩ := hB.cells
      by_cases hlt : k < row.length
      · obtain ⟨ad, rfl, hcell⟩ := (hx.below hb).at_ hlt
        cases hS : inS n (nd row k) with
        | true =>
          have L1 := Lib.hid fun X => isStateD_is (V := v) (q0 := q0) (A := A) (a := a) (s3 := s3) hS X
          have H' : Hid (∀ i, i < k + 1 → inS n (nd row i) = true) := fun i hi => by
            rcases Nat.lt_or_eq_of_le (Nat.le_of_lt_succ hi) with h1 | rfl
            · exact H.out i h1
            · exact hS
          clear hS H
          generalize nd row k = x at *
          go_wp2_with (go_at_call 98; ((with_reducible refine (L1.out _).mono ?_); rintro e w2 ⟨rfl, hb2⟩))
          go_roundw
          case rel => exact ⟨k + 1, by omega, by go_num, H', hB.below hb2, stepB hb hb2⟩
          case measure => simp [intOf]; omega
        | false =>
          have L1 := Lib.hid fun X => isStateD_is (V := v) (q0 := q0) (A := A) (a := a) (s3 := s3) hS X
          replace HE : Hid (rowE v n row = 8) := by
            show _ = _
            rw [HE.out, allB_false hlt hS]
            rfl
          clear hS H
          generalize nd row k = x at *
          go_wp2_with (go_at_call 98; ((with_reducible refine (L1.out _).mono ?_); rintro e w2 ⟨rfl, hb2⟩))
          go_ret
          exact ⟨ret_int HE.out.symm, stepB hb hb2⟩
      · replace HE : Hid (rowE v n row = 0) := by
          show _ = _
          rw [HE.out, (allB_iff _ _).2 fun i hi => H.out i (by omega)]
          rfl
        clear H
        go_wp2
        go_ret
        exact ⟨ret_int HE.out.symm, hb⟩
  · have HE : Hid (rowE v n row = 2) := by
      show _ = _
      unfold rowE
      rw [Int.toNat_natCast, if_neg (by omega)]
    have d0 : ((row.length : Int) != ((2 ^ v : Nat) : Int)) = true := by rw [bne_iff_ne]; omega
    clear h0 hx
    generalize 2 ^ v = K at *
    obtain ⟨z0, z1, z2, z3⟩ := hB0.cells
    go_enter Tryd.func62, Tryd.ntmps62
    go_wp2_with (go_at_call 60; ((with_reducible refine (HL.out _).mono ?_); rintro e w2 ⟨rfl, rfl⟩))
    go_ret
    exact ⟨ret_int HE.out.symm, hb0⟩
set_option maxHeartbeats 2000000 in
theorem CheckD_any (d : Da) (A B : Option Addr) (a b : Nat) (w : World) (hx : DaAt w d A B) (hl : DaLen d) :
    Calls Tryd.prog 24 #[.agg #[.int .i64 d.V, .int .i64 d.q0, .slice A d.nx.length a, .slice B d.fi.length b]] w fun r w' => r = .returned (.int .i64 (chkD d)) ∧ Below w.heap.size w w' := by
  have hb0 := bal (Below.refl w.heap.size w) (.cells #[.int .i64 d.V, .int .i64 d.q0, .slice A d.nx.length a, .slice B d.fi.length b] 54)
  have hB0 := Boxed4.new w 54 (.int .i64 d.V) (.int .i64 d.q0) (.slice A d.nx.length a) (.slice B d.fi.length b)
  have HS := Lib.hid fun X => checkShape_any d.V d.q0 A B d.nx.length d.fi.length a b X (by have := hl.nx; unfold maxLen; omega) (by have := hl.fi; unfold maxLen; omega)
  by_cases h0 : shpE d.V d.q0 d.nx.length d.fi.length = 0
  · have v0 := (shp_ok h0).1
    have v6 := (shp_ok h0).2.1
    have HE : Hid (chkD d = rowsE d.V d.nx.length d.nx d.nx.length) := by
      show _ = _
      unfold chkD
      rw [if_neg (by rw [h0]; simp)]
    rw [h0] at HS
    have hnx := hx.nx
    have hle := hl.nx
    have hrl := Lib.hid fun j (hj : j < d.nx.length) => hl.row _ (tb_mem hj)
    clear hx hl h0
    obtain ⟨v, hv⟩ : ∃ v : Nat, d.V = v := ⟨d.V.toNat, by omega⟩
    rw [hv] at v6 HE HS hb0 hB0 ⊢
    have HR := Lib.hid fun (k : Nat) (hk : k < d.nx.length) X p c (h : Ints X p (tb d.nx k)) => checkRow_any v (by omega) d.q0 A d.nx.length a (.slice B d.fi.length b) p (tb d.nx k) c X h (hrl.out k hk) hle
    clear hv v0 v6
    generalize d.q0 = q0 at *
    generalize d.fi.length = m at *
    generalize chkD d = E0 at *
    generalize d.nx = L at *
    obtain ⟨z0, z1, z2, z3⟩ := hB0.cells
    go_enter Tryd.func24, Tryd.ntmps24
    go_wp2_with (go_at_call 61; ((with_reducible refine (HS.out _).mono ?_); rintro e w2 ⟨rfl, hb2⟩); clear z0 z1 z2 z3; replace hB0 := hB0.below hb2; replace hb0 := stepB hb0 hb2; obtain ⟨z0, z1, z2, z3⟩ := hB0.cells)
    clear z0 z1 z2 z3
    go_loopw [15] (fun i wr => ∃ k : Nat, k ≤ L.length ∧ i = .int .i64 k ∧ Hid (rowsE v L.length L k = 0) ∧ Boxed4 wr w.heap.size (.int .i64 v) (.int .i64 q0) (.slice A L.length a) (.slice B m b) ∧ Below w.heap.size w wr) (fun i _ => L.length - (intOf i).toNat)
    case atStart => exact ⟨0, by omega, rfl, rfl, hB0, hb0⟩
    case round =>
      clear hB0 hb0
      obtain ⟨k, hk, rfl, H, hB, hb⟩ := hrel
      obtain ⟨b0, b1, b2, b3⟩ := hB.cells
      by_cases hlt : k < L.length
      · obtain ⟨ad, p, c, rfl, hbk, hcell, hi⟩ := (hnx.below hb) k hlt
        have HRk := Lib.hid (HR.out k hlt wr p c hi)
        by_cases h : rowE v L.length (tb L k) = 0
        · have H' : Hid (rowsE v L.length L (k + 1) = 0) := rowsE_next H.out h
          rw [h] at HRk
          clear h H
          go_wp2_with (go_at_call 62; ((with_reducible refine HRk.out.mono ?_); rintro e w2 ⟨rfl, hb2⟩))
          go_roundw
          case rel => exact ⟨k + 1, by omega, by go_num, H', hB.below hb2, stepB hb hb2⟩
          case measure => simp [intOf]; omega
        · replace HE : Hid (E0 = rowE v L.length (tb L k)) := HE.out.trans (rowsE_err H.out hlt h)
          have hne : (rowE v L.length (tb L k) != 0) = true := by rw [bne_iff_ne]; exact h
          clear h H
          generalize rowE v L.length (tb L k) = e0 at *
          go_wp2_with (go_at_call 62; ((with_reducible refine HRk.out.mono ?_); rintro e w2 ⟨rfl, hb2⟩))
          go_ret
          exact ⟨ret_int HE.out.symm, stepB hb hb2⟩
      · obtain rfl : k = L.length := by omega
        replace HE : Hid (E0 = 0) := HE.out.trans H.out
        clear H
        go_wp2
        go_ret
        exact ⟨ret_int HE.out.symm, hb⟩
  · have HE : Hid (chkD d = shpE d.V d.q0 d.nx.length d.fi.length) := by
      show _ = _
      unfold chkD
      rw [if_pos h0]
    have hne : (shpE d.V d.q0 d.nx.length d.fi.length != 0) = true := by rw [bne_iff_ne]; exact h0
    clear h0 hx hl
    generalize shpE d.V d.q0 d.nx.length d.fi.length = e0 at *
    obtain ⟨z0, z1, z2, z3⟩ := hB0.cells
    go_enter Tryd.func24, Tryd.ntmps24
    go_wp2_with (go_at_call 61; ((with_reducible refine (HS.out _).mono ?_); rintro e w2 ⟨rfl, hb2⟩); clear z0 z1 z2 z3)
    go_ret
    exact ⟨ret_int HE.out.symm, stepB hb0 hb2⟩
end Go.Proofs.YteckkbjpeckjmaaDoor.Sb
/- Words through a deterministic automaton: step, follow, end, checkWord, Run, Accepts (package subset). -/
namespace Go.Proofs.YteckkbjpeckjmaaDoor.Sb
open Go Go.RowKit Go.Proofs.YteckkbjpeckjmaaDoor Go.Proofs.YteckkbjpeckjmaaDoor.Cb
open Go.Proofs.YteckkbjpeckjmaaDoor.Nf (ret_int ret_b inS Boxed4 Boxed4.new Boxed4.below Boxed4.cells Boxed5 bys_new Bys Bys.below wordE)
open Go.Proofs.YteckkbjpeckjmaaDoor.Dg (Tabs tb tb_mem mem_tb)
set_option linter.unusedVariables false
set_option linter.unusedSimpArgs false
set_option maxRecDepth 100000
/-- Every entry is a row number, every row has L entries. -/
structure Sq (T : List (List Int)) (L : Nat) : Prop where
  row : ∀ r ∈ T, r.length = L ∧ ∀ z ∈ r, 0 ≤ z ∧ z < (T.length : Int)
theorem OkD.sq {d : Da} (h : OkD d) : Sq d.nx (2 ^ d.V.toNat) := ⟨fun r hr => h.row r hr⟩
theorem Sq.at_ {T : List (List Int)} {L : Nat} (h : Sq T L) {q x : Nat} (hq : q < T.length) (hx : x < L) : 0 ≤ nd (tb T q) x ∧ nd (tb T q) x < (T.length : Int) := by
  obtain ⟨h1, h2⟩ := h.row _ (tb_mem hq)
  refine h2 _ ?_
  unfold nd
  rw [List.getD_eq_getElem?_getD, List.getElem?_eq_getElem (by omega)]
  exact List.getElem_mem _
theorem stepT_nat (T : List (List Int)) (q x : Nat) : stepT T (q : Int) x = nd (tb T q) x := by
  unfold stepT
  rw [Int.toNat_natCast]
  rfl
theorem Sq.step {T : List (List Int)} {L : Nat} (h : Sq T L) {q : Int} {x : Nat} (hq : 0 ≤ q ∧ q < (T.length : Int)) (hx : x < L) : 0 ≤ stepT T q x ∧ stepT T q x < (T.length : Int) := by
  obtain ⟨k, rfl⟩ : ∃ k : Nat, q = k := ⟨q.toNat, by omega⟩
  rw [stepT_nat]
  exact h.at_ (by omega) hx
theorem Sq.run {T : List (List Int)} {L : Nat} (h : Sq T L) : ∀ {w : List Nat} {q : Int}, (0 ≤ q ∧ q < (T.length : Int)) → (∀ x ∈ w, x < L) → 0 ≤ runT T q w ∧ runT T q w < (T.length : Int)
  | [], _, hq, _ => hq
  | x :: w, q, hq, hx => h.run (w := w) (h.step hq (hx x (by simp))) fun y hy => hx y (by simp [hy])
theorem runT_snoc (T : List (List Int)) (q : Int) {l : List Nat} {k : Nat} (h : k < l.length) : runT T q (l.take (k + 1)) = stepT T (runT T q (l.take k)) (wd l k) := by
  unfold runT
  rw [List.take_add_one, List.getElem?_eq_getElem h, List.foldl_append]
  unfold wd
  rw [List.getD_eq_getElem?_getD, List.getElem?_eq_getElem h]
  rfl
theorem stepD_any (A : Option Addr) (T : List (List Int)) (a q x : Nat) (w : World) (hx : Tabs w A T) (hq : q < T.length) (hxl : x < (tb T q).length) :
    Calls Tryd.prog 95 #[.slice A T.length a, .int .i64 q, .int .u8 x] w fun e w' => e = .returned (.int .i64 (stepT T q x)) ∧ w = w' := by
  rw [stepT_nat]
  obtain ⟨ad, p, c, rfl, hbk, hcell, hi⟩ := hx q hq
  obtain ⟨ad2, rfl, hc2⟩ := hi.at_ hxl
  have h1 : (q : Int) < (T.length : Int) := by omega
  have h2 : (x : Int) < ((tb T q).length : Int) := by omega
  clear hi hx
  generalize nd (tb T q) x = z at *
  generalize (tb T q).length = m at *
  generalize T.length = n at *
  go_enter Tryd.func95, Tryd.ntmps95
  go_wp2
  go_ret
  exact ⟨rfl, rfl⟩
theorem enters_step : ∀ args w, (callFunc 95 args).run Tryd.prog w = .ok (.enter 95 args) w := enters_of Tryd.func95 (by kernel_rfl) rfl
set_option maxHeartbeats 1000000 in
theorem follow_any (A : Option Addr) (T : List (List Int)) (a : Nat) (q : Nat) (D : Option Addr) (l : List Nat) (c : Nat) (L : Nat) (w : World) (hx : Tabs w A T) (hS : Sq T L) (hq : q < T.length) (hw : Bys w D l) (hlt : ∀ x ∈ l, x < L) (hll : l.length ≤ 1000000) :
    Calls Tryd.prog 94 #[.func (.func 95) #[.slice A T.length a] #[], .int .i64 q, .slice D l.length c] w fun e w' => e = .returned (.int .i64 (runT T q l)) ∧ Below w.heap.size w w' := by
  have HS := Lib.hid fun X (hX : Below w.heap.size w X) (j x : Nat) (hj : j < T.length) (hxL : x < L) => stepD_any A T a j x X (hx.below hX) hj (by rw [(hS.row _ (tb_mem hj)).1]; exact hxL)
  have HB := Lib.hid fun (j x : Nat) (hj : j < T.length) (hxL : x < L) => hS.step (q := (j : Int)) (by omega) hxL
  have HT := Lib.hid fun k (hk : k < l.length) => runT_snoc T q hk
  have HL := Lib.hid fun k (hk : k < l.length) => (hlt (wd l k) (by unfold wd; rw [List.getD_eq_getElem?_getD, List.getElem?_eq_getElem hk]; exact List.getElem_mem hk))
  have HZ : Hid (runT T q (l.take 0) = (q : Int)) := rfl
  have HE : Hid (runT T q (l.take l.length) = runT T q l) := by show _ = _; rw [List.take_length]
  generalize hR : (fun k => runT T (q : Int) (l.take k)) = R at *
  have HT' : Hid (∀ k, k < l.length → R (k + 1) = stepT T (R k) (wd l k)) := fun k hk => by rw [← hR]; exact HT.out k hk
  have HZ' : Hid (R 0 = (q : Int)) := by rw [← hR]; exact HZ.out
  have HE' : Hid (R l.length = runT T q l) := by rw [← hR]; exact HE.out
  clear HT HZ HE hR hlt hS
  generalize runT T q l = res at *
  go_enter Tryd.func94, Tryd.ntmps94
  go_wp2
  go_loopw [1, 11] (fun s i wr => ∃ (k j : Nat), k ≤ l.length ∧ i = .int .i64 k ∧ j < T.length ∧ s = .int .i64 j ∧ Hid (R k = (j : Int)) ∧ Below w.heap.size w wr) (fun _ i _ => l.length - (intOf i).toNat)
  case atStart => exact ⟨0, q, by omega, rfl, hq, rfl, HZ', Below.refl _ _⟩
  case round =>
    obtain ⟨k, j, hk, rfl, hj, rfl, HR, hb⟩ := hrel
    by_cases hlt : k < l.length
    · obtain ⟨ad, rfl, hcell⟩ := (hw.below hb).at_ hlt
      have hxL := HL.out k hlt
      have hbd := HB.out j (wd l k) hj hxL
      have HK := HT'.out k hlt
      rw [HR.out] at HK
      have HC := Lib.hid (HS.out wr hb j (wd l k) hj hxL)
      obtain ⟨j', hj'⟩ : ∃ j' : Nat, stepT T j (wd l k) = j' := ⟨(stepT T j (wd l k)).toNat, by omega⟩
      rw [hj'] at HC HK
      have HK := Lib.hid HK
      have hjl : j' < T.length := by omega
      clear hj' hbd hxL
      generalize wd l k = x at *
      go_wp2_with (go_at_call 95; ((with_reducible refine HC.out.mono ?_); rintro e w2 ⟨rfl, rfl⟩))
      go_roundw
      case rel => exact ⟨k + 1, j', by omega, by go_num, hjl, rfl, HK, hb⟩
      case measure => simp [intOf]; omega
    · obtain rfl : k = l.length := by omega
      have HF : Hid (res = (j : Int)) := HE'.out.symm.trans HR.out
      clear HR HE' HZ' HT'
      go_wp2
      go_ret
      exact ⟨ret_int HF.out.symm, hb⟩
/-- What is wrong with a word for an automaton. -/
def wrongD (d : Da) (l : List Nat) : Int := if chkD d ≠ 0 then chkD d else wordE d.V l
section
variable (d : Da) (A B : Option Addr) (a b : Nat) (w : World) (hx : DaAt w d A B)
include hx
theorem end_any (hO : OkD d) (D : Option Addr) (l : List Nat) (c : Nat) (hw : Bys w D l) (hlt : ∀ x ∈ l, x < 2 ^ d.V.toNat) (hll : l.length ≤ 1000000) :
    Calls Tryd.prog 56 #[.agg #[.int .i64 d.V, .int .i64 d.q0, .slice A d.nx.length a, .slice B d.fi.length b], .slice D l.length c] w fun e w' => e = .returned (.int .i64 (runT d.nx d.q0 l)) ∧ Below w.heap.size w w' := by
  have hb0 := bal (Below.refl w.heap.size w) (.cells #[.int .i64 d.V, .int .i64 d.q0, .slice A d.nx.length a, .slice B d.fi.length b] 54)
  have hB0 := Boxed4.new w 54 (.int .i64 d.V) (.int .i64 d.q0) (.slice A d.nx.length a) (.slice B d.fi.length b)
  obtain ⟨q, hq⟩ : ∃ q : Nat, d.q0 = q := ⟨d.q0.toNat, by have := hO.q0; omega⟩
  have hql : q < d.nx.length := by have := hO.q0; omega
  have HF := Lib.hid fun X (hX : Below w.heap.size w X) => follow_any A d.nx a q D l c (2 ^ d.V.toNat) X (hx.nx.below hX) hO.sq hql (hw.below hX) hlt hll
  rw [hq] at hb0 hB0 ⊢
  obtain ⟨z0, z1, z2, z3⟩ := hB0.cells
  clear hx hO hw hlt hq
  generalize runT d.nx (q : Int) l = R at *
  generalize d.nx.length = n at *
  generalize d.fi.length = m at *
  generalize d.V = V at *
  go_enter Tryd.func56, Tryd.ntmps56
  go_wp2_with (go_at_call 94; ((with_reducible refine (HF.out _ hb0).mono ?_); rintro e w2 ⟨rfl, hb2⟩))
  go_ret
  exact ⟨rfl, stepB hb0 hb2⟩
variable (hl : DaLen d) (D : Option Addr) (l : List Nat) (c : Nat) (hw : Bys w D l) (h8 : ∀ y ∈ l, y < 256) (hll : l.length ≤ 1000000)
include hl hw h8 hll
set_option maxHeartbeats 2000000 in
theorem checkWordD_any :
    Calls Tryd.prog 55 #[.agg #[.int .i64 d.V, .int .i64 d.q0, .slice A d.nx.length a, .slice B d.fi.length b], .slice D l.length c] w fun e w' => e = .returned (.int .i64 (wrongD d l)) ∧ Below w.heap.size w w' := by
  have hB0 := Boxed4.new w 54 (.int .i64 d.V) (.int .i64 d.q0) (.slice A d.nx.length a) (.slice B d.fi.length b)
  have hb0 := bal (Below.refl w.heap.size w) (.cells #[.int .i64 d.V, .int .i64 d.q0, .slice A d.nx.length a, .slice B d.fi.length b] 54)
  have HC := CheckD_any d A B a b _ (hx.below hb0) hl
  by_cases h0 : chkD d = 0
  · have hO := okD_of h0
    have HW : Hid (wrongD d l = wordE d.V l) := by show _ = _; unfold wrongD; rw [h0]; rfl
    obtain ⟨v, hv⟩ : ∃ v : Nat, d.V = v := ⟨d.V.toNat, by have := hO.v0; omega⟩
    have hv6 : v ≤ 6 := by have := hO.v6; omega
    rw [h0] at HC
    rw [hv] at HC hB0 hb0 HW ⊢
    have HC := Lib.hid HC
    have HL := Lib.hid fun X => lettersOver_any v X hv6
    clear hO h0 hv hx hl
    generalize d.q0 = q0 at *
    generalize d.nx.length = n at *
    generalize d.fi.length = m at *
    generalize wrongD d l = E at *
    obtain ⟨z0, z1, z2, z3⟩ := hB0.cells
    by_cases h64 : 64 < l.length
    · have HE : Hid (E = 4) := by show _ = _; rw [HW.out]; unfold wordE; rw [if_pos h64]
      have hd : decide ((64 : Int) < (l.length : Int)) = true := decide_eq_true (by omega)
      clear HW hw h8
      generalize l.length = k at *
      go_enter Tryd.func55, Tryd.ntmps55
      go_wp2_with (go_at_call 24; ((with_reducible refine HC.out.mono ?_); rintro e w2 ⟨rfl, hb2⟩))
      go_ret
      exact ⟨ret_int HE.out.symm, stepB hb0 hb2⟩
    · have hd : decide ((64 : Int) < (l.length : Int)) = false := decide_eq_false (by omega)
      have HW2 : Hid (E = if l.all (fun x => decide (x < 2 ^ v)) then 0 else 1) := by
        show _ = _
        rw [HW.out]
        unfold wordE
        rw [if_neg h64, Int.toNat_natCast]
      clear HW
      have hKp : Hid (2 ^ v ≤ 64) := Dg.pow7 hv6
      generalize 2 ^ v = K at *
      have hK := hKp.out
      go_enter Tryd.func55, Tryd.ntmps55
      go_wp2_with (go_at_call 24; ((with_reducible refine HC.out.mono ?_); rintro e w2 ⟨rfl, hb2⟩))
      have hB2 := hB0.below hb2
      have hb3 := stepB hb0 hb2
      clear HC hB0 hb0 hb2 z0 z1 z2 z3
      go_loopw [18] (fun i wr => ∃ (k : Nat), k ≤ l.length ∧ i = .int .i64 k ∧ Hid (∀ j, j < k → wd l j < K) ∧ Boxed4 wr w.heap.size (.int .i64 v) (.int .i64 q0) (.slice A n a) (.slice B m b) ∧ Below w.heap.size w wr) (fun i _ => l.length - (intOf i).toNat)
      case atStart => exact ⟨0, by omega, rfl, fun j hj => absurd hj (by omega), hB2, hb3⟩
      case round =>
        clear hB2 hb3
        obtain ⟨k, hk, rfl, H, hB, hb⟩ := hrel
        obtain ⟨z0, z1, z2, z3⟩ := hB.cells
        by_cases hlt : k < l.length
        · obtain ⟨ad, rfl, hcell⟩ := (hw.below hb).at_ hlt
          have hm : wd l k ∈ l := by unfold wd; rw [List.getD_eq_getElem?_getD, List.getElem?_eq_getElem hlt]; exact List.getElem_mem hlt
          have hx8 := h8 _ hm
          by_cases hy : wd l k < K
          · have H' : Hid (∀ j, j < k + 1 → wd l j < K) := fun j hj => by
              rcases Nat.lt_or_eq_of_le (Nat.le_of_lt_succ hj) with h1 | rfl
              · exact H.out j h1
              · exact hy
            have hd1 : decide (K ≤ wd l k) = false := decide_eq_false (by omega)
            have hd2 : decide ((K : Int) ≤ (wd l k : Int)) = false := decide_eq_false (by omega)
            clear H hy hm HW2
            generalize wd l k = x at *
            go_wp2_with (go_at_call 60; ((with_reducible refine (HL.out _).mono ?_); rintro e w3 ⟨rfl, rfl⟩))
            go_roundw
            case rel => exact ⟨k + 1, by omega, by go_num, H', hB, hb⟩
            case measure => simp [intOf]; omega
          · have HE : Hid (E = 1) := by
              show _ = _
              rw [HW2.out, if_neg]
              rw [List.all_eq_true]
              intro h
              exact hy (of_decide_eq_true (h _ hm))
            have hd1 : decide (K ≤ wd l k) = true := decide_eq_true (by omega)
            have hd2 : decide ((K : Int) ≤ (wd l k : Int)) = true := decide_eq_true (by omega)
            clear H hy hm HW2
            generalize wd l k = x at *
            go_wp2_with (go_at_call 60; ((with_reducible refine (HL.out _).mono ?_); rintro e w3 ⟨rfl, rfl⟩))
            go_ret
            exact ⟨ret_int HE.out.symm, hb⟩
        · obtain rfl : k = l.length := by omega
          have HE : Hid (E = 0) := by
            show _ = _
            rw [HW2.out, if_pos]
            rw [List.all_eq_true]
            intro y hy
            obtain ⟨j, hj, rfl⟩ := List.mem_iff_getElem.1 hy
            have := H.out j hj
            unfold wd at this
            rw [List.getD_eq_getElem?_getD, List.getElem?_eq_getElem hj] at this
            exact decide_eq_true this
          clear H HW2
          go_wp2
          go_ret
          exact ⟨ret_int HE.out.symm, hb⟩
  · have HE : Hid (wrongD d l = chkD d) := by show _ = _; unfold wrongD; rw [if_pos h0]
    have hne : (chkD d != 0) = true := by rw [bne_iff_ne]; exact h0
    have HC := Lib.hid HC
    obtain ⟨z0, z1, z2, z3⟩ := hB0.cells
    clear h0 hx hl hw h8
    generalize chkD d = E at *
    generalize l.length = k at *
    go_enter Tryd.func55, Tryd.ntmps55
    go_wp2_with (go_at_call 24; ((with_reducible refine HC.out.mono ?_); rintro e w2 ⟨rfl, hb2⟩))
    go_ret
    exact ⟨ret_int HE.out.symm, stepB hb0 hb2⟩
omit hl hw h8 hll in
omit hx in
theorem wrongD_zero {d : Da} {l : List Nat} (h : wrongD d l = 0) : OkD d ∧ l.length ≤ 64 ∧ ∀ y ∈ l, y < 2 ^ d.V.toNat := by
  unfold wrongD at h
  by_cases h0 : chkD d = 0
  · rw [if_neg (by omega)] at h
    unfold wordE at h
    split at h
    · cases h
    · split at h
      · rename_i h1 h2
        exact ⟨okD_of h0, by omega, fun y hy => of_decide_eq_true (List.all_eq_true.1 h2 y hy)⟩
      · cases h
  · rw [if_pos h0] at h
    exact absurd h h0
/-- What Run answers. -/
def runD (d : Da) (l : List Nat) : Int := if wrongD d l = 0 then runT d.nx d.q0 l else 0
def accD (d : Da) (l : List Nat) : Bool := if wrongD d l = 0 then d.fi.getD (runT d.nx d.q0 l).toNat false else false
set_option maxHeartbeats 4000000 in
theorem AcceptsD_any :
    Calls Tryd.prog 21 #[.agg #[.int .i64 d.V, .int .i64 d.q0, .slice A d.nx.length a, .slice B d.fi.length b], .slice D l.length c] w fun e w' => e = .returned (.tuple #[.bool (accD d l), .int .i64 (wrongD d l)]) ∧ Below w.heap.size w w' := by
  have hB0 := Boxed4.new w 54 (.int .i64 d.V) (.int .i64 d.q0) (.slice A d.nx.length a) (.slice B d.fi.length b)
  have hb0 := bal (Below.refl w.heap.size w) (.cells #[.int .i64 d.V, .int .i64 d.q0, .slice A d.nx.length a, .slice B d.fi.length b] 54)
  have HC := checkWordD_any d A B a b _ (hx.below hb0) hl D l c (hw.below hb0) h8 hll
  obtain ⟨z0, z1, z2, z3⟩ := hB0.cells
  by_cases h0 : wrongD d l = 0
  · obtain ⟨hO, _, hlt⟩ := wrongD_zero h0
    have hrb := hO.sq.run (w := l) hO.q0 hlt
    have HE := fun X (hX : Below w.heap.size w X) => end_any d A B a b X (hx.below hX) hO D l c (hw.below hX) hlt hll
    have HR : Hid (accD d l = d.fi.getD (runT d.nx d.q0 l).toNat false) := by show _ = _; unfold accD; rw [if_pos h0]
    rw [h0] at HC ⊢
    have HC := Lib.hid HC
    obtain ⟨r, hr⟩ : ∃ r : Nat, runT d.nx d.q0 l = r := ⟨(runT d.nx d.q0 l).toNat, by omega⟩
    rw [hr, Int.toNat_natCast] at HR
    have hrl : r < d.fi.length := by have := hO.fi; omega
    simp only [hr] at HE
    have HE := Lib.hid HE
    obtain ⟨ad, rfl, hbk, hcl⟩ := hx.fi r hrl
    have HCell : Hid (∀ X, Below w.heap.size w X → X.cell? (ad.add r) = some (.bool (d.fi.getD r false))) := fun X hX => (hX.cell (by rw [addr_block]; exact hbk)).trans hcl
    rw [HR.out]
    clear HR hcl hx hl hw h8 h0 hO hlt hrb hr
    generalize d.fi.getD r false = R at *
    generalize l.length = k at *
    generalize d.fi.length = m at *
    generalize d.nx.length = n at *
    generalize d.V = V at *
    generalize d.q0 = q0 at *
    have hri : (r : Int) < (m : Int) := by omega
    go_enter Tryd.func21, Tryd.ntmps21
    go_wp2_with (go_at_call 55; ((with_reducible refine HC.out.mono ?_); rintro e w2 ⟨rfl, hb2⟩))
    have hB2 := hB0.below hb2
    have K2 := stepB hb0 hb2
    clear z0 z1 z2 z3 hB0 hb0 hb2 HC
    have hS2 : (fun X : World => Boxed4 X w.heap.size (.int .i64 V) (.int .i64 q0) (.slice A n a) (.slice (some ad) m b) ∧ Below w.heap.size w X) w2.drew := ⟨hB2.below (Ap.drewN_below w2 1), stepB K2 (Ap.drewN_below w2 1)⟩
    have c0 : ∀ r : Cls (fun X : World => Boxed4 X w.heap.size (.int .i64 V) (.int .i64 q0) (.slice A n a) (.slice (some ad) m b) ∧ Below w.heap.size w X), r.w.cell? ⟨w.heap.size, 0, none⟩ = some (.int .i64 V) := fun r => r.h.1.c0
    have c1 : ∀ r : Cls (fun X : World => Boxed4 X w.heap.size (.int .i64 V) (.int .i64 q0) (.slice A n a) (.slice (some ad) m b) ∧ Below w.heap.size w X), r.w.cell? ⟨w.heap.size, 1, none⟩ = some (.int .i64 q0) := fun r => r.h.1.c1
    have c2 : ∀ r : Cls (fun X : World => Boxed4 X w.heap.size (.int .i64 V) (.int .i64 q0) (.slice A n a) (.slice (some ad) m b) ∧ Below w.heap.size w X), r.w.cell? ⟨w.heap.size, 2, none⟩ = some (.slice A n a) := fun r => r.h.1.c2
    have c3 : ∀ r : Cls (fun X : World => Boxed4 X w.heap.size (.int .i64 V) (.int .i64 q0) (.slice A n a) (.slice (some ad) m b) ∧ Below w.heap.size w X), r.w.cell? ⟨w.heap.size, 3, none⟩ = some (.slice (some ad) m b) := fun r => r.h.1.c3
    have c4 : ∀ r' : Cls (fun X : World => Boxed4 X w.heap.size (.int .i64 V) (.int .i64 q0) (.slice A n a) (.slice (some ad) m b) ∧ Below w.heap.size w X), r'.w.cell? (ad.add r) = some (.bool R) := fun r' => HCell.out _ r'.h.2
    haveI : Nonempty (Cls (fun X : World => Boxed4 X w.heap.size (.int .i64 V) (.int .i64 q0) (.slice A n a) (.slice (some ad) m b) ∧ Below w.heap.size w X)) := ⟨⟨w2.drew, hS2⟩⟩
    refine wp_region_cls (fun X : World => Boxed4 X w.heap.size (.int .i64 V) (.int .i64 q0) (.slice A n a) (.slice (some ad) m b) ∧ Below w.heap.size w X) (by kernel_rfl) (by kernel_rfl) hS2 ?_
    repeat (go_big_quiet_step (first
      | (go_at_call 56; rename_i r'; refine (HE.out r'.w r'.h.2).mono ?_; rintro e w4 ⟨rfl, hb4⟩; exact ⟨rfl, ⟨⟨w4, r'.h.1.below hb4, stepB r'.h.2 hb4⟩, rfl⟩⟩)))
    refine wpQuiet_nil ?_
    rintro _ ⟨⟨X, hX⟩, rfl⟩
    clear c0 c1 c2 c3 c4
    go_wp2
    go_ret2
    exact ⟨rfl, hX.2⟩
  · have HR : Hid (accD d l = false) := by show _ = _; unfold accD; rw [if_neg h0]
    have hne : (wrongD d l != 0) = true := by rw [bne_iff_ne]; exact h0
    have HC := Lib.hid HC
    clear hx hl hw h8 h0
    rw [HR.out]
    clear HR
    generalize wrongD d l = E at *
    generalize l.length = k at *
    go_enter Tryd.func21, Tryd.ntmps21
    go_wp2_with (go_at_call 55; ((with_reducible refine HC.out.mono ?_); rintro e w2 ⟨rfl, hb2⟩))
    go_ret2
    exact ⟨rfl, stepB hb0 hb2⟩
end
end Go.Proofs.YteckkbjpeckjmaaDoor.Sb
/- Blocks of cells that a call makes, and rows of one's own beside them. Plain lemmas over worlds and programs. -/
namespace Go.Proofs.YteckkbjpeckjmaaDoor.Sb
open Go Go.RowKit Go.Proofs.YteckkbjpeckjmaaDoor
set_option linter.unusedVariables false
set_option linter.unusedSimpArgs false
set_option maxRecDepth 100000
/-- n cells, number i being f i. -/
def cells (n : Nat) (f : Nat → Value) : Array Value := ((List.range n).map f).toArray
theorem cells_at {n : Nat} {f : Nat → Value} {i : Nat} (h : i < n) : (cells n f)[i]? = some (f i) := by simp [cells, h]
theorem cells_size (n : Nat) (f : Nat → Value) : (cells n f).size = n := by simp [cells]
theorem cells_congr {n : Nat} {f g : Nat → Value} (h : ∀ i, i < n → f i = g i) : cells n f = cells n g := by
  unfold cells
  congr 1
  exact List.map_congr_left fun i hi => h i (List.mem_range.1 hi)
theorem cells_set {n : Nat} {f : Nat → Value} {i : Nat} (v : Value) (h : i < n) : (cells n f).setIfInBounds i v = cells n fun j => if j = i then v else f j := by
  apply Array.ext
  · simp [cells]
  · intro j h1 h2
    have hj : j < n := by simpa [cells] using h2
    rw [Array.getElem_setIfInBounds]
    · by_cases e : i = j
      · subst e; simp [cells]
      · have e' : ¬ j = i := fun h => e h.symm
        simp [cells, e, e']
    · simpa [cells] using hj
theorem made_cells (z : Value) (n : Nat) : madeCells #[z] n = cells n fun _ => z := by
  apply Array.ext
  · simp [cells, madeCells]
  · intro j h1 h2
    simp [cells, madeCells, Nat.mod_one]
theorem heap_put {w : World} {b : Nat} {cs : Array Value} {t : TypeId} {f : Nat × Nat} (h : w.heap[b]? = some (.cells cs t f)) (o : Nat) (u : Value) : (w.setCell ⟨b, o, none⟩ u).heap[b]? = some (.cells (cs.setIfInBounds o u) t f) := by
  have hlt := lt_of_block h
  have h' : w.heap[b] = .cells cs t f := by simpa [Array.getElem?_eq_getElem hlt] using h
  show (w.heap.modify b _)[b]? = _
  rw [Array.getElem?_eq_getElem (by simpa using hlt), Array.getElem_modify_self, h']
  rfl
theorem cell_of {w : World} {b n : Nat} {f : Nat → Value} {t : TypeId} {fz : Nat × Nat} (h : w.heap[b]? = some (.cells (cells n f) t fz)) {i : Nat} (hi : i < n) : w.cell? ⟨b, i, none⟩ = some (f i) := by
  simp [World.cell?, h, cells_at hi]
theorem free_of {w : World} {b : Nat} {cs : Array Value} {t : TypeId} (h : w.heap[b]? = some (.cells cs t (0, 0))) (i : Nat) : w.frozen? ⟨b, i, none⟩ = false := by simp [World.frozen?, h]
theorem box_old {w : World} {b : Nat} {o o' : Obj} (h : w.heap[b]? = some o) : (w.alloc o').heap[b]? = some o := (Below.heap_alloc w o' b (Array.getElem?_eq_some_iff.1 h).1).trans h
theorem blk_lt {w : World} {b : Nat} {o : Obj} (h : w.heap[b]? = some o) : b < w.heap.size := (Array.getElem?_eq_some_iff.1 h).1
/-- A block of cells of another type is no row of one's own. -/
theorem own_ne {w : World} {b : Nat} {cs : Array Value} {t : TypeId} {fz : Nat × Nat} (h : w.heap[b]? = some (.cells cs t fz)) {B e size n : Nat} {v : Value} {xs : List Value} (ho : w.ownsRow B e size v n xs) (he : e ≠ t) : v.ownBlock ≠ some b := fun hv => by
  rcases ho.2 with ⟨rfl, _⟩ | ⟨g, cap, cur, rfl, _, hg, _⟩
  · simp [Value.ownBlock] at hv
  · obtain rfl : g = b := by simpa [Value.ownBlock] using hv
    rw [hg] at h
    cases h
    exact he rfl
theorem row_ne {w : World} {B B' e e' size size' n n' : Nat} {v v' : Value} {xs xs' : List Value} (h : w.ownsRow B e size v n xs) (h' : w.ownsRow B' e' size' v' n' xs') (he : e ≠ e') : v.ownBlock = none ∨ v.ownBlock ≠ v'.ownBlock := by
  rcases h.2 with ⟨rfl, _⟩ | ⟨g, cap, cur, rfl, _, hg, _⟩
  · exact .inl rfl
  · right
    intro hv
    rcases h'.2 with ⟨rfl, _⟩ | ⟨g', cap', cur', rfl, _, hg', _⟩
    · simp [Value.ownBlock] at hv
    · obtain rfl : g = g' := by simpa [Value.ownBlock] using hv
      rw [hg] at hg'
      cases hg'
      exact he rfl
theorem own_lt {w : World} {B e size n : Nat} {v : Value} {xs : List Value} (h : w.ownsRow B e size v n xs) {g : Nat} (hg : v.ownBlock = some g) : B ≤ g ∧ g < w.heap.size := by
  rcases h.2 with ⟨rfl, _⟩ | ⟨g', cap, cur, rfl, hb, hh, _⟩
  · simp [Value.ownBlock] at hg
  · obtain rfl : g' = g := by simpa [Value.ownBlock] using hg
    exact ⟨hb, lt_of_block hh⟩
theorem row_put {w : World} {B e size n : Nat} {v : Value} {xs : List Value} (ho : w.ownsRow B e size v n xs) {b : Nat} (h : v.ownBlock ≠ some b) (j : Nat) (u : Value) : (w.setCell ⟨b, j, none⟩ u).ownsRow B e size v n xs :=
  ho.kept (⟨rfl, rfl, rfl, by show _ ≤ (w.heap.modify _ _).size; rw [Array.size_modify]; exact Nat.le_refl _, fun k _ hk => Below.heap_setCell _ _ _ k (fun e => hk (by rw [e]))⟩) (.inr h)
/-- append to a row of one's own, as one step of a region that draws its order. -/
theorem step_append {P : Program} {ops : Array Oper} {o : Oper} {a : Act} {w : World} {K : Act → World → Prop} {Q : Exit → Act → World → Prop} {E : Prop}
    (hg : o.guard = none) (s x : Operand) (t : TypeId) (hop : o.op = Op.call { callee := Callee.builtin Builtin.append, args := #[s, x], argTypes := #[t, t] })
    (base : Nat) (e : TypeId) (i : TypeInfo) (z : Value) (size bytes : Nat) (ht : P.underlying t = some (.slice e)) (hi : P.info? e = some i) (hz : i.zero = some z)
    (hsize : i.size = size) (hby : i.bytes = bytes) (hzs : z.cells.size = size) (hsz : 0 < size)
    (v : Value) (n : Nat) (xs : List Value) (hs : a.eval s = v) (hown : w.ownsRow base e size v n xs)
    (ad : Addr) (m c : Nat) (news : List Value) (hx : a.eval x = .slice (some ad) m c) (hl : news.length = m * size) (hnews : ∀ j u, news[j]? = some u → w.cell? (ad.add j) = some u) (h1 : ∀ u ∈ news, u.oneCell' = true)
    (h63 : n + m ≤ maxLen) (hbytes : (n + m) * bytes ≤ 140737488355328) (hbase : base ≤ w.heap.size)
    (hK : ∀ A' c' w', w'.ownsRow base e size (.slice A' (n + m) c') (n + m) (xs ++ news) → w.grownBy w' v.ownBlock → ((Value.slice A' (n + m) c').ownBlock = v.ownBlock ∨ (Value.slice A' (n + m) c').ownBlock = some w.heap.size) → K (a.put o.dst (.slice A' (n + m) c')) w') :
    if Region.wanted o (yielded ops a.tmps) = true then Oper.wp P o a w K Q else E := by
  have hw : Region.wanted o (yielded ops a.tmps) = true := by simp [Region.wanted, hg]
  rw [if_pos hw]
  obtain ⟨v', w', hr, h2, h3, _, h4⟩ := run_append_own_at (P := P) w base t o.type e i z size bytes ht hi hz hsize hby hzs hsz v n xs hown ad m c news hl hnews h1 h63 hbytes hbase
  obtain ⟨A', c', rfl, hc⟩ := Ap.own_form h2
  unfold Oper.wp execOp
  simp only [hop, resolve, invoke, builtin, Sem.run_bind, Sem.run_pure, Result.andThen_ok, List.map_toArray, List.map_cons, List.map_nil, hs, hx, hr]
  exact hK A' c' w' h2 h3 h4
section
variable {P : Program}
theorem run_append_any (w : World) (base : Nat) (t ty e : TypeId) (i : TypeInfo) (z : Value) (size bytes : Nat) (ht : P.underlying t = some (.slice e)) (hi : P.info? e = some i) (hz : i.zero = some z)
    (hsize : i.size = size) (hby : i.bytes = bytes) (hzs : z.cells.size = size) (hsz : 0 < size) (v : Value) (n : Nat) (xs : List Value) (hown : w.ownsRow base e size v n xs)
    (A : Option Addr) (m c : Nat) (news : List Value) (hl : news.length = m * size) (hn : A = none → m = 0) (hnews : ∀ ad, A = some ad → ∀ j u, news[j]? = some u → w.cell? (ad.add j) = some u) (h1 : ∀ u ∈ news, u.oneCell' = true)
    (h63 : n + m ≤ maxLen) (hbytes : (n + m) * bytes ≤ 140737488355328) (hbase : base ≤ w.heap.size) :
    ∃ v' w', (Builtin.append_ #[t, t] ty #[v, .slice A m c]).run P w = .ok v' w' ∧ w'.ownsRow base e size v' (n + m) (xs ++ news) ∧ w.grownBy w' v.ownBlock := by
  rcases A with _ | ad
  · have hm := hn rfl
    subst hm
    have h0 : news = [] := List.eq_nil_of_length_eq_zero (by rw [hl]; omega)
    subst h0
    refine ⟨v, w, ?_, by simpa using hown, World.grownBy.refl w _⟩
    rcases hown.2 with ⟨rfl, rfl⟩ | ⟨g, cap, cur, rfl, _, _, hc, _⟩
    · simp [Builtin.append_, run_underlying ht, sizeOf, typeInfo, hi, Builtin.lenOf, Builtin.firstCells]
    · simp [Builtin.append_, run_underlying ht, sizeOf, typeInfo, hi, Builtin.lenOf, Builtin.firstCells, hc, storeCells]
  · obtain ⟨v', w', hr, h2, h3, _⟩ := run_append_own (P := P) w base t ty e i z size bytes ht hi hz hsize hby hzs hsz v n xs hown ad m c news hl (hnews ad rfl) h1 h63 hbytes hbase
    exact ⟨v', w', hr, h2, h3⟩
theorem wpList_append_any {w : World} {ops : Array Oper} {rest : List Oper} {o : Oper} {a : Act} {Q : Exit → Act → World → Prop} (hgd : o.guard = none) (s x : Operand) (t : TypeId)
    (ho : o.op = .call { callee := .builtin .append, args := #[s, x], argTypes := #[t, t] }) (base : Nat)
    (e : TypeId) (i : TypeInfo) (z : Value) (size bytes : Nat) (ht : P.underlying t = some (.slice e)) (hi : P.info? e = some i) (hz : i.zero = some z)
    (hsize : i.size = size) (hby : i.bytes = bytes) (hzs : z.cells.size = size) (hsz : 0 < size) (v : Value) (n : Nat) (xs : List Value) (hs : a.eval s = v) (hown : w.ownsRow base e size v n xs)
    (A : Option Addr) (m c : Nat) (news : List Value) (hx : a.eval x = .slice A m c) (hl : news.length = m * size) (hn : A = none → m = 0) (hnews : ∀ ad, A = some ad → ∀ j u, news[j]? = some u → w.cell? (ad.add j) = some u) (h1 : ∀ u ∈ news, u.oneCell' = true)
    (h63 : n + m ≤ maxLen) (hbytes : (n + m) * bytes ≤ 140737488355328) (hbase : base ≤ w.heap.size)
    (h : ∀ v' w', w'.ownsRow base e size v' (n + m) (xs ++ news) → Below base w w' → wpList P ops Q rest (a.put o.dst v') w') : wpList P ops Q (o :: rest) a w := by
  refine wpList_plain hgd fun K hK => ?_
  obtain ⟨v', w', hr, h2, h3⟩ := run_append_any (P := P) w base t o.type e i z size bytes ht hi hz hsize hby hzs hsz v n xs hown A m c news hl hn hnews h1 h63 hbytes hbase
  unfold Oper.wp execOp
  simp only [ho, resolve, invoke, builtin, Sem.run_bind, Sem.run_pure, Result.andThen_ok, List.map_toArray, List.map_cons, List.map_nil, hs, hx, hr]
  exact hK _ _ (h v' w' h2 ((Below.refl _ _).grown h3 hbase (fun q hq => (hown.lt q hq).1)))
end
end Go.Proofs.YteckkbjpeckjmaaDoor.Sb
