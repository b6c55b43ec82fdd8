/- The automaton with one edge for each state and letter, as lists: it is valid, it accepts the same words, and its subset automaton is the renumbered one. Plain mathematics. -/
import Derived.Test.YtkgeihambgbjdaaDoorKR
namespace Go.Proofs.YtkgeihambgbjdaaDoor.Sb
open Go Go.RowKit Go.Proofs.YtkgeihambgbjdaaDoor Go.Proofs.YtkgeihambgbjdaaDoor.Cb
open Go.Proofs.YtkgeihambgbjdaaDoor.Nf (Na Ed ed Ok ok_chk chkN accW runW stepW mem_tg wordE wrongN asc ascP inS inS_iff edE has_ofL IsSet IsSet.unique has_step meetB_has EdOk ok_of)
open Go.Proofs.YtkgeihambgbjdaaDoor.Dg (Tabs tb tb_mem)
set_option linter.unusedVariables false
set_option linter.unusedSimpArgs false
set_option linter.unusedSectionVars false
set_option maxRecDepth 100000
/-- The edge of a state for a letter. -/
def edT (V : Int) (s x : Nat) (t : Int) : Ed := ⟨s, t, x, 2 ^ V.toNat - 1 - x⟩
/-- The edges of a row, from its first letters. -/
def rowT (V : Int) (s : Nat) (row : List Int) (k : Nat) : List Ed := (List.range k).map fun x => edT V s x (nd row x)
def edsT (d : Da) (k : Nat) : List Ed := (List.range k).flatMap fun s => rowT d.V s (tb d.nx s) (tb d.nx s).length
def finT (d : Da) (k : Nat) : List Int := ((List.range k).filter fun s => d.fi.getD s false).map fun s : Nat => (s : Int)
def toN (d : Da) : Na := ⟨d.V, d.nx.length, [d.q0], finT d d.nx.length, edsT d d.nx.length⟩
def toE (d : Da) : Int := if chkD d ≠ 0 then chkD d else if 64 < d.nx.length ∨ 512 < d.nx.length * 2 ^ d.V.toNat then 4 else 0
theorem rowT_succ (V : Int) (s : Nat) (row : List Int) (k : Nat) : rowT V s row (k + 1) = rowT V s row k ++ [edT V s k (nd row k)] := by
  unfold rowT; rw [List.range_succ, List.map_append]; rfl
theorem rowT_len (V : Int) (s : Nat) (row : List Int) (k : Nat) : (rowT V s row k).length = k := by unfold rowT; rw [List.length_map, List.length_range]
theorem edsT_succ (d : Da) (k : Nat) : edsT d (k + 1) = edsT d k ++ rowT d.V k (tb d.nx k) (tb d.nx k).length := by
  unfold edsT; rw [List.range_succ, List.flatMap_append]; simp
theorem finT_succ (d : Da) (k : Nat) : finT d (k + 1) = finT d k ++ (if d.fi.getD k false then [(k : Int)] else []) := by
  unfold finT
  rw [List.range_succ, List.filter_append, List.map_append]
  congr 1
  cases h : d.fi.getD k false <;> (simp only [List.filter_cons, List.filter_nil, h]; rfl)
theorem finT_len (d : Da) (k : Nat) : (finT d k).length ≤ k := by
  unfold finT
  rw [List.length_map]
  exact Nat.le_trans (List.length_filter_le _ _) (by simp)
theorem mem_finT {d : Da} {k : Nat} {z : Int} : z ∈ finT d k ↔ 0 ≤ z ∧ z < k ∧ d.fi.getD z.toNat false = true := by
  unfold finT
  rw [List.mem_map]
  constructor
  · rintro ⟨s, hs, rfl⟩
    obtain ⟨h1, h2⟩ := List.mem_filter.1 hs
    have := List.mem_range.1 h1
    exact ⟨by omega, by omega, by simpa using h2⟩
  · rintro ⟨h1, h2, h3⟩
    exact ⟨z.toNat, List.mem_filter.2 ⟨List.mem_range.2 (by omega), h3⟩, by omega⟩
theorem mem_edsT {d : Da} {k : Nat} {e : Ed} : e ∈ edsT d k ↔ ∃ s x, s < k ∧ x < (tb d.nx s).length ∧ e = edT d.V s x (nd (tb d.nx s) x) := by
  unfold edsT rowT
  rw [List.mem_flatMap]
  constructor
  · rintro ⟨s, hs, he⟩
    obtain ⟨x, hx, rfl⟩ := List.mem_map.1 he
    exact ⟨s, x, List.mem_range.1 hs, List.mem_range.1 hx, rfl⟩
  · rintro ⟨s, x, hs, hx, rfl⟩
    exact ⟨s, List.mem_range.2 hs, List.mem_map.2 ⟨x, List.mem_range.2 hx, rfl⟩⟩
theorem cube_one : ∀ v, v < 7 → ∀ x, x < 64 → x < 2 ^ v → (2 ^ v - 1 - x < 2 ^ v ∧ x &&& (2 ^ v - 1 - x) = 0) := by decide +kernel
theorem has_all : ((List.range 7).all fun v => (List.range 64).all fun x => (List.range 64).all fun y => !(decide (x < 2 ^ v) && decide (y < 2 ^ v)) || (cHas x (2 ^ v - 1 - x) y == decide (x = y))) = true := by decide +kernel
theorem has_one (v : Nat) (hv : v < 7) (x : Nat) (hx : x < 64) (y : Nat) (hy : y < 64) (h1 : x < 2 ^ v) (h2 : y < 2 ^ v) : cHas x (2 ^ v - 1 - x) y = true ↔ x = y := by
  have h := List.all_eq_true.1 (List.all_eq_true.1 (List.all_eq_true.1 has_all v (List.mem_range.2 hv)) x (List.mem_range.2 hx)) y (List.mem_range.2 hy)
  rw [decide_eq_true h1, decide_eq_true h2] at h
  have h3 : cHas x (2 ^ v - 1 - x) y = decide (x = y) := by simpa using h
  rw [h3, decide_eq_true_iff]
theorem pow64 {d : Da} (hO : OkD d) : ∃ v : Nat, d.V = (v : Int) ∧ v < 7 ∧ 2 ^ d.V.toNat = 2 ^ v ∧ 2 ^ v ≤ 64 := by
  obtain ⟨v, hv⟩ := Int.eq_ofNat_of_zero_le hO.v0
  have h6 := hO.v6
  refine ⟨v, hv, by omega, by rw [hv, Int.toNat_natCast], ?_⟩
  exact (show 2 ^ v ≤ 2 ^ 6 from Nat.pow_le_pow_right (by decide) (by omega))
theorem nd_row {d : Da} (hO : OkD d) {s x : Nat} (hs : s < d.nx.length) (hx : x < (tb d.nx s).length) : 0 ≤ nd (tb d.nx s) x ∧ nd (tb d.nx s) x < d.nx.length := by
  refine (hO.row _ (tb_mem hs)).2 _ ?_
  unfold nd
  rw [List.getD_eq_getElem?_getD, List.getElem?_eq_getElem hx]
  exact List.getElem_mem hx
theorem edsT_len {d : Da} (hO : OkD d) : ∀ k, k ≤ d.nx.length → (edsT d k).length = k * 2 ^ d.V.toNat
  | 0, _ => by simp [edsT]
  | k + 1, h => by
    rw [edsT_succ, List.length_append, rowT_len, edsT_len hO k (by omega), (hO.row _ (tb_mem (by omega : k < d.nx.length))).1, Nat.add_mul, Nat.one_mul]
section
variable {d : Da} (hO : OkD d)
include hO
theorem asc_one {z : Int} {S : Int} (h : 0 ≤ z ∧ z < S) : asc S [z] = true := by
  unfold asc
  rw [allB_iff]
  intro i hi
  obtain rfl : i = 0 := by simpa using hi
  unfold ascP
  rw [Bool.and_eq_true, inS_iff]
  exact ⟨h, by simp⟩
theorem asc_fin : asc (d.nx.length : Int) (finT d d.nx.length) = true := by
  unfold asc
  rw [allB_iff]
  intro i hi
  have hm : ∀ j, j < (finT d d.nx.length).length → nd (finT d d.nx.length) j ∈ finT d d.nx.length := fun j hj => by
    unfold nd; rw [List.getD_eq_getElem?_getD, List.getElem?_eq_getElem hj]; exact List.getElem_mem hj
  have h1 := mem_finT.1 (hm i hi)
  unfold ascP
  rw [Bool.and_eq_true, inS_iff]
  refine ⟨⟨h1.1, h1.2.1⟩, ?_⟩
  by_cases h0 : i = 0
  · simp [h0]
  · rw [Bool.or_eq_true]
    refine .inr (decide_eq_true ?_)
    have hs : (finT d d.nx.length).Pairwise (· < ·) := by
      unfold finT
      rw [List.pairwise_map]
      refine List.Pairwise.imp (fun h => by omega) (List.Pairwise.filter _ List.pairwise_lt_range)
    have hi1 : i - 1 < (finT d d.nx.length).length := by omega
    have := List.pairwise_iff_getElem.1 hs (i - 1) i hi1 hi (by omega)
    unfold nd
    rw [List.getD_eq_getElem?_getD, List.getD_eq_getElem?_getD, List.getElem?_eq_getElem hi, List.getElem?_eq_getElem hi1]
    exact this
theorem edE_one {s x : Nat} (hs : s < d.nx.length) (hx : x < (tb d.nx s).length) : edE d.V d.nx.length (edT d.V s x (nd (tb d.nx s) x)) = 0 := by
  have h1 := nd_row hO hs hx
  obtain ⟨v, hv, hv7, hvp, hv64⟩ := pow64 hO
  rw [(hO.row _ (tb_mem hs)).1, hvp] at hx
  have h2 := cube_one v hv7 x (by omega) hx
  unfold edE
  rw [if_pos (by rw [Bool.and_eq_true, inS_iff, inS_iff]; exact ⟨⟨by show (0 : Int) ≤ (s : Int); omega, by show (s : Int) < _; omega⟩, h1⟩)]
  show chk x (2 ^ d.V.toNat - 1 - x) d.V = 0
  rw [hv, chk_in v (by omega), Int.toNat_natCast, if_neg (by omega), if_pos h2.2]
variable (h64 : d.nx.length ≤ 64) (h512 : d.nx.length * 2 ^ d.V.toNat ≤ 512)
include h64 h512
theorem toN_ok : Ok (toN d) := by
  refine ⟨hO.v0, hO.v6, by show 0 ≤ (d.nx.length : Int); omega, by show (d.nx.length : Int) ≤ 64; omega, ?_, asc_one hO hO.q0, asc_fin hO, fun e he => ?_⟩
  · show (edsT d d.nx.length).length ≤ 512
    rw [edsT_len hO _ (Nat.le_refl _)]; exact h512
  · obtain ⟨s, x, hs, hx, rfl⟩ := mem_edsT.1 he
    exact edE_one hO hs hx
theorem step_one {s x : Nat} (hs : s < d.nx.length) (hx : x < 2 ^ d.V.toNat) : stepW (toN d).es (ofL [(s : Int)]) x = ofL [stepT d.nx s x] := by
  obtain ⟨v, hv, hv7, hvp, hv64⟩ := pow64 hO
  have hN := toN_ok hO h64 h512
  have hr := (hO.row _ (tb_mem hs)).1
  have hst : stepT d.nx s x = nd (tb d.nx s) x := stepT_nat _ _ _
  have hb := nd_row hO hs (by rw [hr]; exact hx)
  refine IsSet.unique (P := fun z => z = stepT d.nx s x) ⟨ofL_canon _, u64_of _, fun z => ?_⟩ ⟨ofL_canon _, u64_of _, fun z => ?_⟩
  · rw [has_step hN.ed hN.s64]
    constructor
    · rintro ⟨e, he, h1, h2, rfl⟩
      obtain ⟨s', y, hs', hy, rfl⟩ := mem_edsT.1 he
      have hr' := (hO.row _ (tb_mem hs')).1
      rw [hr'] at hy
      rw [has_ofL] at h2
      have h3 : ((s' : Nat) : Int) = (s : Int) := by simpa [edT] using h2.2
      obtain rfl : s' = s := by omega
      have h4 : cHas y (2 ^ v - 1 - y) x = true := by rw [← hvp]; exact h1
      have h5 := (has_one v hv7 y (by omega) x (by omega) (by omega) (by omega)).1 h4
      subst h5
      rw [hst]; rfl
    · rintro rfl
      refine ⟨edT d.V s x (nd (tb d.nx s) x), mem_edsT.2 ⟨s, x, hs, by rw [hr]; exact hx, rfl⟩, ?_, ?_, by rw [hst]; rfl⟩
      · show cHas x (2 ^ d.V.toNat - 1 - x) x = true
        rw [hvp]
        exact (has_one v hv7 x (by omega) x (by omega) (by omega) (by omega)).2 rfl
      · rw [has_ofL]
        exact ⟨⟨by show (0 : Int) ≤ (s : Int); omega, by show (s : Int) ≤ 4095; omega⟩, by simp [edT]⟩
  · rw [has_ofL, hst]
    simp only [List.mem_singleton]
    exact ⟨fun h => h.2, fun h => ⟨by omega, h⟩⟩
theorem fold_one : ∀ (w : List Nat) (s : Int), Pd d s → (∀ x ∈ w, x < 2 ^ d.V.toNat) → w.foldl (stepW (toN d).es) (ofL [s]) = ofL [runT d.nx s w] ∧ Pd d (runT d.nx s w)
  | [], s, hs, _ => ⟨rfl, hs⟩
  | x :: w, s, hs, hw => by
    obtain ⟨k, rfl⟩ := Int.eq_ofNat_of_zero_le hs.1
    have hk : k < d.nx.length := by have := hs.2; omega
    have hx := hw x (by simp)
    rw [List.foldl_cons, step_one hO h64 h512 hk hx]
    show _ = ofL [runT d.nx (stepT d.nx k x) w] ∧ Pd d (runT d.nx (stepT d.nx k x) w)
    refine fold_one w _ ?_ fun y hy => hw y (by simp [hy])
    have hr := (hO.row _ (tb_mem hk)).1
    have := nd_row hO hk (by rw [hr]; exact hx)
    rw [stepT_nat]
    exact this
theorem meet_one {s : Int} (hs : Pd d s) : meetB (ofL [s]) (ofL (finT d d.nx.length)) = d.fi.getD s.toNat false := by
  rw [Bool.eq_iff_iff, meetB_has (u64_of _)]
  have h4 := hO.n4
  constructor
  · rintro ⟨z, h1, h2⟩
    rw [has_ofL] at h1 h2
    obtain rfl : z = s := by simpa using h1.2
    exact (mem_finT.1 h2.2).2.2
  · intro h
    have := hs.1; have := hs.2
    refine ⟨s, has_ofL.2 ⟨by omega, by simp⟩, has_ofL.2 ⟨by omega, mem_finT.2 ⟨hs.1, hs.2, h⟩⟩⟩
theorem toN_wrong (l : List Nat) : wrongN (toN d) l = wrongD d l := by
  unfold wrongN wrongD
  rw [ok_chk (toN_ok hO h64 h512), okD_chk hO]
  rfl
theorem toN_acc (l : List Nat) : (if wrongN (toN d) l = 0 then accW (toN d) l else false) = accD d l := by
  rw [toN_wrong hO h64 h512]
  unfold accD
  by_cases h : wrongD d l = 0
  · rw [if_pos h, if_pos h]
    obtain ⟨_, _, hlt⟩ := wrongD_zero h
    have := fold_one hO h64 h512 l d.q0 hO.q0 hlt
    show meetB (l.foldl (stepW (toN d).es) (ofL [d.q0])) (ofL (finT d d.nx.length)) = _
    rw [this.1, meet_one hO h64 h512 this.2]
  · rw [if_neg h, if_neg h]
/-- The set of one state. -/
def one1 (s : Int) : List Nat := ofL [s]
theorem one_inj (s t : Int) (hs : Pd d s) (ht : Pd d t) (h : one1 s = one1 t) : s = t := by
  have h4 := hO.n4
  have := hs.1; have := hs.2
  have h1 : hasB (one1 s) s = true := has_ofL.2 ⟨by omega, by simp⟩
  rw [h] at h1
  simpa using (has_ofL.1 h1).2
theorem one_succ (s : Int) (hs : Pd d s) : succN (toN d) (one1 s) = (succT d s).map one1 := by
  obtain ⟨k, rfl⟩ := Int.eq_ofNat_of_zero_le hs.1
  have hk : k < d.nx.length := by have := hs.2; omega
  rw [succT_row hO hs]
  unfold succN rowS
  rw [List.map_map]
  refine List.map_congr_left fun x hx => ?_
  exact step_one hO h64 h512 hk (List.mem_range.1 hx)
theorem toN_det {F : List Int} (hF : found (succT d) d.nx.length d.q0 = some F) : detN (toN d) 4096 = some (F.map one1) := by
  have h1 : expl (succT d) 4096 4097 0 [d.q0] = some F := expl_mono (succT d) hO.n4 _ _ 0 _ (by have := hO.n4; omega) F hF
  have h2 := expl_map one1 (Pd d) (one_inj hO h64 h512) (succT d) (succN (toN d)) (one_succ hO h64 h512) (fun s hs t ht => pd_succ hO hs t ht) 4096 4097 0 [d.q0] (fun t ht => by rw [List.mem_singleton] at ht; subst ht; exact hO.q0)
  rw [h1] at h2
  exact h2
theorem toN_detD {F : List Int} (hFp : ∀ s ∈ F, Pd d s) : detD (toN d) (F.map one1) = renD d F := by
  unfold detD renD
  congr 1
  · rw [List.length_map]
    exact nums_map one1 (Pd d) (one_inj hO h64 h512) (succT d) (succN (toN d)) (one_succ hO h64 h512) (fun s hs t ht => pd_succ hO hs t ht) hFp _
  · rw [List.map_map]
    exact List.map_congr_left fun s hs => meet_one hO h64 h512 (hFp s hs)
theorem els_one {s : Int} (hs : Pd d s) : elsI (one1 s) = [s] := by
  have h4 := hO.n4
  have h0 := hs.1; have h1 := hs.2
  have hm : ∀ z, z ∈ elsI (one1 s) ↔ z = s := fun z => by
    rw [elsI_mem]
    unfold one1
    rw [has_ofL]
    constructor
    · rintro ⟨_, h⟩; simpa using h
    · rintro rfl; exact ⟨by omega, by simp⟩
  have hp : (elsI (one1 s)).Pairwise (· < ·) := by
    unfold elsI
    rw [List.pairwise_map]
    exact List.Pairwise.imp (fun h => by omega) els_sorted
  rcases hl : elsI (one1 s) with _ | ⟨a, _ | ⟨b, l⟩⟩
  · have := (hm s).2 rfl; rw [hl] at this; cases this
  · have := (hm a).1 (by rw [hl]; simp)
    rw [this]
  · have ha := (hm a).1 (by rw [hl]; simp)
    have hb := (hm b).1 (by rw [hl]; simp)
    rw [hl] at hp
    have := (List.pairwise_cons.1 hp).1 b (by simp)
    omega
end
end Go.Proofs.YtkgeihambgbjdaaDoor.Sb
