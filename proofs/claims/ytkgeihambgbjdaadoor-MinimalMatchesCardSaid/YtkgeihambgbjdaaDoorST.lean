/- The quotient of an automaton by the languages of its states, numbered by first visit: what Minimize gives. -/
import Derived.Test.YtkgeihambgbjdaaDoorSS
namespace Go.Proofs.YtkgeihambgbjdaaDoor.Mi
open Go Go.RowKit Go.Proofs.YtkgeihambgbjdaaDoor Go.Proofs.YtkgeihambgbjdaaDoor.Cb Go.Proofs.YtkgeihambgbjdaaDoor.Sb
open Go.Proofs.YtkgeihambgbjdaaDoor.Dg (Tabs tb tb_mem)
set_option linter.unusedVariables false
set_option linter.unusedSimpArgs false
set_option linter.unusedSectionVars false
set_option maxRecDepth 100000
theorem rowF_self {S : Type} [DecidableEq S] : ∀ (l F : List S), (F ++ l).Nodup → rowF F l = F ++ l
  | [], F, _ => (List.append_nil F).symm
  | s :: l, F, h => by
    have h1 := List.nodup_append.1 h
    show rowF (add F s) l = _
    have h2 : add F s = F ++ [s] := by
      unfold add
      rw [if_neg fun hm => h1.2.2 s hm s (List.mem_cons_self ..) rfl]
    rw [h2, rowF_self l (F ++ [s]) (by rwa [List.append_assoc]), List.append_assoc]
    rfl
theorem dd_self {S : Type} [DecidableEq S] (l : List S) (h : l.Nodup) : dd l = l := rowF_self l [] h
/-- The automaton of the classes of d, with its start. -/
def quoD (d : Da) : Da := ⟨d.V, nd (clsD d d.nx.length) d.q0.toNat, (minR d).nx, (minR d).fi⟩
section
variable [DecidableEq (List Nat → Bool)] {d : Da} (hO : OkD d)
include hO
/-- A state's class has a first state, with the same language. -/
theorem quo_rep {t : Nat} (ht : t < d.nx.length) : ∃ r, r < d.nx.length ∧ (fst (clsD d d.nx.length) d.nx.length)[(nd (clsD d d.nx.length) t).toNat]? = some r ∧ lg d r = lg d t ∧ 0 ≤ nd (clsD d d.nx.length) t ∧ nd (clsD d d.nx.length) t < ((fst (clsD d d.nx.length) d.nx.length).length : Int) := by
  obtain ⟨h1, h2⟩ := lg_fst hO
  have h3 := h2 t ht
  have hm : lg d t ∈ dd ((List.range d.nx.length).map (lg d)) := mem_dd.2 (List.mem_map.2 ⟨t, List.mem_range.2 ht, rfl⟩)
  obtain ⟨h4, h5⟩ := posI_at hm
  rw [← h3]
  rw [h1] at h4 h5 ⊢
  rw [List.length_map] at h4
  rw [List.getElem?_map] at h5
  rw [Int.toNat_natCast]
  cases e : (fst (clsD d d.nx.length) d.nx.length)[pos ((fst (clsD d d.nx.length) d.nx.length).map (lg d)) (lg d t)]? with
  | none => rw [e] at h5; cases h5
  | some r =>
    rw [e] at h5
    refine ⟨r, fst_mem (List.mem_of_getElem? e), rfl, Option.some.inj h5, by omega, by omega⟩
theorem quo_nx : (quoD d).nx.length = (fst (clsD d d.nx.length) d.nx.length).length := List.length_map _
theorem quo_row {c r : Nat} (hr : r < d.nx.length) (h : (fst (clsD d d.nx.length) d.nx.length)[c]? = some r) : tb (quoD d).nx c = eachL (clsD d d.nx.length) (tb d.nx r) := by
  show ((fst (clsD d d.nx.length) d.nx.length).map fun s => eachL (clsD d d.nx.length) (tb d.nx s)).getD c [] = _
  rw [List.getD_eq_getElem?_getD, List.getElem?_map, h]
  rfl
theorem quo_fi {c r : Nat} (h : (fst (clsD d d.nx.length) d.nx.length)[c]? = some r) : fiB (quoD d) c = fiB d r := by
  show ((fst (clsD d d.nx.length) d.nx.length).map (fiB d)).getD c false = _
  rw [List.getD_eq_getElem?_getD, List.getElem?_map, h]
  rfl
theorem quo_dlt {c r x : Nat} (hr : r < d.nx.length) (hx : x < 2 ^ d.V.toNat) (h : (fst (clsD d d.nx.length) d.nx.length)[c]? = some r) : dlt (quoD d).nx c x = (nd (clsD d d.nx.length) (dlt d.nx r x)).toNat := by
  have h1 := quo_row hO hr h
  have h2 : (tb d.nx r).length = 2 ^ d.V.toNat := (hO.row _ (tb_mem hr)).1
  have h3 := (okD_dl hO hr hx).1
  unfold dlt
  rw [h1]
  have h4 : nd (eachL (clsD d d.nx.length) (tb d.nx r)) x = nd (clsD d d.nx.length) (dlt d.nx r x) := by
    unfold eachL
    rw [nd_eq (by rw [List.length_map, h2]; exact hx), List.getElem_map, ← nd_eq (by rw [h2]; exact hx), h3, Int.toNat_natCast]
  rw [h4]
  rfl
/-- A state of the quotient has the language of its class. -/
theorem quo_run : ∀ (u : List Nat) (t : Nat), t < d.nx.length → (∀ y ∈ u, y < 2 ^ d.V.toNat) → fiB (quoD d) (runW (dlt (quoD d).nx) (nd (clsD d d.nx.length) t).toNat u) = fiB d (runW (dlt d.nx) t u)
  | [], t, ht, _ => by
    obtain ⟨r, hr, h1, h2, _⟩ := quo_rep hO ht
    show fiB (quoD d) (nd (clsD d d.nx.length) t).toNat = fiB d t
    rw [quo_fi hO h1]
    have h3 := congrFun h2 []
    rw [lg_at (fun y hy => by cases hy), lg_at (fun y hy => by cases hy)] at h3
    exact h3
  | x :: u, t, ht, hu => by
    obtain ⟨r, hr, h1, h2, _⟩ := quo_rep hO ht
    have hx := hu x (List.mem_cons_self ..)
    have hu2 : ∀ y ∈ u, y < 2 ^ d.V.toNat := fun y hy => hu y (List.mem_cons_of_mem _ hy)
    show fiB (quoD d) (runW (dlt (quoD d).nx) (dlt (quoD d).nx (nd (clsD d d.nx.length) t).toNat x) u) = fiB d (runW (dlt d.nx) (dlt d.nx t x) u)
    rw [quo_dlt hO hr hx h1, quo_run u _ (okD_dl hO hr hx).2 hu2]
    have h3 := congrFun h2 (x :: u)
    rw [lg_at hu, lg_at hu] at h3
    exact h3
theorem quo_lg {t : Nat} (ht : t < d.nx.length) : lg (quoD d) (nd (clsD d d.nx.length) t).toNat = lg d t :=
  (lg_eq (a := quoD d) (b := d) rfl).2 fun u hu => quo_run hO u t ht hu
theorem quo_ok : OkD (quoD d) := by
  have hq := hO.q0
  obtain ⟨r, hr, h1, h2, h3, h4⟩ := quo_rep hO (t := d.q0.toNat) (by omega)
  have hl := quo_nx hO
  have h5 := fst_len (clsD d d.nx.length) d.nx.length
  have h6 := hO.n4
  refine ⟨hO.v0, hO.v6, by rw [hl]; omega, by rw [hl]; omega, by rw [hl]; exact List.length_map _, ⟨h3, by rw [hl]; exact h4⟩, fun row hrow => ?_⟩
  obtain ⟨s, hs, rfl⟩ := List.mem_map.1 hrow
  have hsn := fst_mem hs
  obtain ⟨h7, h8⟩ := hO.row _ (tb_mem hsn)
  refine ⟨by unfold eachL; rw [List.length_map]; exact h7, fun z hz => ?_⟩
  obtain ⟨t, ht, rfl⟩ := List.mem_map.1 hz
  have h9 := h8 t ht
  obtain ⟨_, _, _, _, h10, h11⟩ := quo_rep hO (t := t.toNat) (by omega)
  exact ⟨h10, by rw [hl]; exact h11⟩
/-- Two states of the quotient have different languages. -/
theorem quo_inj (s t : Int) (hs : Pd (quoD d) s) (ht : Pd (quoD d) t) (h : lg (quoD d) s.toNat = lg (quoD d) t.toNat) : s = t := by
  obtain ⟨h1, h2⟩ := lg_fst hO
  have hl := quo_nx hO
  have hG : ∀ z : Int, Pd (quoD d) z → ∃ r, r < d.nx.length ∧ nd (clsD d d.nx.length) r = z := fun z hz => by
    have hz1 := hz.1
    have hz2 := hz.2
    rw [hl] at hz2
    have hzl : z.toNat < (fst (clsD d d.nx.length) d.nx.length).length := by omega
    have hr : (fst (clsD d d.nx.length) d.nx.length)[z.toNat] < d.nx.length := fst_mem (List.getElem_mem hzl)
    refine ⟨_, hr, ?_⟩
    rw [← h2 _ hr]
    have hN := dd_nodup ((List.range d.nx.length).map (lg d))
    rw [pos_at hN (i := z.toNat) (by rw [h1, List.length_map]; exact hzl) (by
      have : (dd ((List.range d.nx.length).map (lg d)))[z.toNat]? = some (lg d (fst (clsD d d.nx.length) d.nx.length)[z.toNat]) := by
        rw [h1, List.getElem?_map, List.getElem?_eq_getElem hzl]; rfl
      exact (List.getElem?_eq_some_iff.1 this).2)]
    omega
  obtain ⟨r, hr, rfl⟩ := hG s hs
  obtain ⟨q, hq, rfl⟩ := hG t ht
  rw [quo_lg hO hr, quo_lg hO hq] at h
  exact (clsD_lg hO hr hq (Nat.le_succ _)).2 h
end
section
variable {d : Da} {F : List Int} (hO : OkD d) (hF : found (succT d) d.nx.length d.q0 = some F) (hFp : ∀ s ∈ F, Pd d s)
include hO hF hFp
/-- The quotient, numbered by first visit, is what Minimize gives. -/
theorem quo_min {E : List Int} (hE : found (succT (quoD d)) (quoD d).nx.length (quoD d).q0 = some E) (hEp : ∀ s ∈ E, Pd (quoD d) s) : renD (quoD d) E = minR (renD d F) := by
  classical
  have hOq := quo_ok hO
  have hq := hO.q0
  have h1 : lg (quoD d) (quoD d).q0.toNat = lg d d.q0.toNat := quo_lg hO (by omega)
  have h2 := mn_same hOq hE hO hF rfl h1
  rw [min_lgs hO hF hFp, ← h2]
  have hN : E.Nodup := (ren_found hOq hE).nodup
  have hmap : (E.map fun z => lg (quoD d) z.toNat).Nodup := by
    rw [List.nodup_iff_pairwise_ne] at hN ⊢
    rw [List.pairwise_map]
    exact hN.imp_of_mem fun hs ht hne he => hne (quo_inj hO _ _ (hEp _ hs) (hEp _ ht) he)
  have hl : lgs (quoD d) E = E.map fun z => lg (quoD d) z.toNat := dd_self _ hmap
  unfold renD mnG
  rw [hl]
  congr 1
  · rw [List.length_map]
    refine (nums_map (fun z : Int => lg (quoD d) z.toNat) (Pd (quoD d)) (fun s t hs ht he => quo_inj hO s t hs ht he) (succT (quoD d)) (rowS stp (2 ^ d.V.toNat)) (fun s hs => ?_) (fun s hs t ht => pd_succ hOq hs t ht) hEp _).symm
    rw [succT_row hOq hs]
    unfold rowS
    rw [List.map_map]
    refine List.map_congr_left fun x hx => ?_
    exact stp_lg (quoD d) s.toNat x (List.mem_range.1 hx)
  · rw [List.map_map]
    refine List.map_congr_left fun s hs => ?_
    show (quoD d).fi.getD s.toNat false = lg (quoD d) s.toNat []
    rw [lg_at (fun y hy => by cases hy)]
    rfl
end
end Go.Proofs.YtkgeihambgbjdaaDoor.Mi
