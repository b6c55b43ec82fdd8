/- How many nodes: the diagrams' nodes are the different functions that the reference counts. Plain mathematics. -/
import Derived.Test.YtbhfmeohaoojfaaNS
namespace Go.Proofs.Ytbhfmeohaoojfaa.Dn
open Go Go.RowKit
open Go.Proofs.Ytbhfmeohaoojfaa.Dg
set_option linter.unusedVariables false
theorem mem_addN {O : List (List Int)} {t u : List Int} : u ∈ addN O t ↔ u ∈ O ∨ u = t := by
  unfold addN
  split
  · rename_i h
    exact ⟨.inl, fun h' => h'.elim id fun e => e ▸ h⟩
  · rw [List.mem_append, List.mem_singleton]
theorem nodup_addN {O : List (List Int)} {t : List Int} (h : O.Nodup) : (addN O t).Nodup := by
  unfold addN
  split
  · exact h
  · rename_i hn
    rw [List.nodup_append]
    exact ⟨h, by simp, fun a ha b hb e => hn (by rw [List.mem_singleton] at hb; rw [← hb, ← e]; exact ha)⟩
theorem mem_rowX {O : List (List Int)} {t u : List Int} {k : Nat} : ∀ m, u ∈ rowX O t k m ↔ u ∈ O ∨ ∃ x, x < m ∧ u = fixL t k x t.length
  | 0 => by rw [rowX_zero]; exact ⟨.inl, fun h => h.elim id fun ⟨x, hx, _⟩ => absurd hx (by omega)⟩
  | m + 1 => by
    rw [rowX_succ, mem_addN, mem_rowX m]
    constructor
    · rintro ((h | ⟨x, hx, e⟩) | e)
      · exact .inl h
      · exact .inr ⟨x, by omega, e⟩
      · exact .inr ⟨m, by omega, e⟩
    · rintro (h | ⟨x, hx, e⟩)
      · exact .inl (.inl h)
      · rcases Nat.lt_or_eq_of_le (Nat.le_of_lt_succ hx) with h | rfl
        · exact .inl (.inr ⟨x, h, e⟩)
        · exact .inr e
theorem nodup_rowX {O : List (List Int)} {t : List Int} {k : Nat} (h : O.Nodup) : ∀ m, (rowX O t k m).Nodup
  | 0 => by rw [rowX_zero]; exact h
  | m + 1 => by rw [rowX_succ]; exact nodup_addN (nodup_rowX h m)
theorem mem_colK {O : List (List Int)} {t u : List Int} : ∀ m, u ∈ colK O t m ↔ u ∈ O ∨ ∃ k x, k < m ∧ x < 2 ^ k ∧ u = fixL t k x t.length
  | 0 => by rw [colK_zero]; exact ⟨.inl, fun h => h.elim id fun ⟨k, x, hk, _⟩ => absurd hk (by omega)⟩
  | m + 1 => by
    rw [colK_succ, mem_rowX, mem_colK m]
    constructor
    · rintro ((h | ⟨k, x, hk, hx, e⟩) | ⟨x, hx, e⟩)
      · exact .inl h
      · exact .inr ⟨k, x, by omega, hx, e⟩
      · exact .inr ⟨m, x, by omega, hx, e⟩
    · rintro (h | ⟨k, x, hk, hx, e⟩)
      · exact .inl (.inl h)
      · rcases Nat.lt_or_eq_of_le (Nat.le_of_lt_succ hk) with h | rfl
        · exact .inl (.inr ⟨k, x, h, hx, e⟩)
        · exact .inr ⟨x, hx, e⟩
theorem nodup_colK {O : List (List Int)} {t : List Int} (h : O.Nodup) : ∀ m, (colK O t m).Nodup
  | 0 => by rw [colK_zero]; exact h
  | m + 1 => by rw [colK_succ]; exact nodup_rowX (nodup_colK h m) _
theorem mem_allN {L : List (List Int)} {v : Nat} {u : List Int} : ∀ m, m ≤ L.length → (u ∈ allN L v m ↔ ∃ j k x, j < m ∧ k ≤ v ∧ x < 2 ^ k ∧ u = fixL (tb L j) k x (tb L j).length)
  | 0, _ => by rw [allN_zero]; exact ⟨fun h => absurd h (by simp), fun ⟨j, _, _, hj, _⟩ => absurd hj (by omega)⟩
  | m + 1, h => by
    rw [allN_succ L v m (by omega), mem_colK, mem_allN m (by omega)]
    constructor
    · rintro (⟨j, k, x, hj, hk, hx, e⟩ | ⟨k, x, hk, hx, e⟩)
      · exact ⟨j, k, x, by omega, hk, hx, e⟩
      · exact ⟨m, k, x, by omega, by omega, hx, e⟩
    · rintro ⟨j, k, x, hj, hk, hx, e⟩
      rcases Nat.lt_or_eq_of_le (Nat.le_of_lt_succ hj) with h | rfl
      · exact .inl ⟨j, k, x, h, hk, hx, e⟩
      · exact .inr ⟨k, x, by omega, hx, e⟩
theorem nodup_allN {L : List (List Int)} {v : Nat} : ∀ m, m ≤ L.length → (allN L v m).Nodup
  | 0, _ => by rw [allN_zero]; exact List.nodup_nil
  | m + 1, h => by rw [allN_succ L v m (by omega)]; exact nodup_colK (nodup_allN m (by omega)) _
theorem mem_nodesL {L : List (List Int)} {v : Nat} {u : List Int} : u ∈ nodesL L v ↔ ∃ t k x, t ∈ L ∧ k ≤ v ∧ x < 2 ^ k ∧ u = fixL t k x t.length := by
  unfold nodesL
  rw [mem_allN _ (Nat.le_refl _)]
  constructor
  · rintro ⟨j, k, x, hj, hk, hx, e⟩
    exact ⟨tb L j, k, x, tb_mem hj, hk, hx, e⟩
  · rintro ⟨t, k, x, ht, hk, hx, e⟩
    obtain ⟨j, hj, rfl⟩ := mem_tb ht
    exact ⟨j, k, x, hj, hk, hx, e⟩
theorem nodup_nodesL (L : List (List Int)) (v : Nat) : (nodesL L v).Nodup := nodup_allN _ (Nat.le_refl _)
theorem nodup_map_on {α β : Type} {f : α → β} : ∀ {l : List α}, l.Nodup → (∀ x ∈ l, ∀ y ∈ l, f x = f y → x = y) → (l.map f).Nodup
  | [], _, _ => List.nodup_nil
  | a :: l, h, hf => by
    obtain ⟨h1, h2⟩ := List.nodup_cons.1 h
    rw [List.map_cons, List.nodup_cons]
    refine ⟨fun hm => ?_, nodup_map_on h2 fun x hx y hy => hf x (by simp [hx]) y (by simp [hy])⟩
    obtain ⟨y, hy, e⟩ := List.mem_map.1 hm
    exact h1 (hf a (by simp) y (by simp [hy]) e.symm ▸ hy)
theorem tabD_inj {v : Nat} {N : List Nd} (hW : Wf v N) (hv : v ≤ 6) {r s : Nat} (hr : inN N r) (hs : inN N s) (h : tabD v N r = tabD v N s) : r = s :=
  den_inj hW hv (r + s) r s (by omega) (by omega) hr hs fun x hx => by rw [← tabD_nd hx, h, tabD_nd hx]
theorem tabD_eq {v : Nat} {N : List Nd} {r : Nat} {t : List Int} (ht : t.length = 2 ^ v) (h : ∀ x, x < 2 ^ v → den v N r x = nd t x) : tabD v N r = t := by
  refine nd_ext (by rw [tabD_len, ht]) fun i hi => ?_
  rw [tabD_len] at hi
  rw [tabD_nd hi, h i hi]
theorem nd_fixL {t : List Int} {k x m y : Nat} (hy : y < m) : nd (fixL t k x m) y = nd t (mix k x y) := by
  simp [fixL, nd, hy, mix]
theorem mix_mod (k z y : Nat) : mix k (z % 2 ^ k) y = mix k z y := by unfold mix; rw [Nat.mod_mod]
/-- The references S have as many members as the reference counts nodes of the tables L. -/
theorem count_nodes {v : Nat} {N : List Nd} (hW : Wf v N) (hv : v ≤ 6) {S : List Nat} (hS : Sv N S) {L : List (List Int)} (hL : AllLen (2 ^ v) L)
    (h1 : ∀ i ∈ S, ∃ t k z, t ∈ L ∧ k ≤ v ∧ ∀ y, y < 2 ^ v → den v N i y = nd t (mix k z y)) (h2 : ∀ t ∈ L, ∀ k z, k ≤ v → ∃ i, i ∈ S ∧ ∀ y, y < 2 ^ v → den v N i y = nd t (mix k z y)) :
    S.length = (nodesL L v).length := by
  have hfix : ∀ (t : List Int) (k z i : Nat), t.length = 2 ^ v → (∀ y, y < 2 ^ v → den v N i y = nd t (mix k z y)) → tabD v N i = fixL t k (z % 2 ^ k) t.length := fun t k z i ht h =>
    tabD_eq (by rw [fixL_len, ht]) fun y hy => by rw [nd_fixL (by rw [ht]; exact hy), mix_mod]; exact h y hy
  have hn : (S.map (tabD v N)).Nodup := nodup_map_on hS.1 fun x hx y hy e => tabD_inj hW hv (hS.2 x hx) (hS.2 y hy) e
  have a1 := nodup_le (S.map (tabD v N)) (nodesL L v) hn fun u hu => by
    obtain ⟨i, hi, rfl⟩ := List.mem_map.1 hu
    obtain ⟨t, k, z, ht, hk, h⟩ := h1 i hi
    exact mem_nodesL.2 ⟨t, k, z % 2 ^ k, ht, hk, Nat.mod_lt _ (Nat.two_pow_pos k), hfix t k z i (hL t ht) h⟩
  have a2 := nodup_le (nodesL L v) (S.map (tabD v N)) (nodup_nodesL L v) fun u hu => by
    obtain ⟨t, k, x, ht, hk, hx, rfl⟩ := mem_nodesL.1 hu
    obtain ⟨i, hi, h⟩ := h2 t ht k x hk
    rw [List.mem_map]
    refine ⟨i, hi, ?_⟩
    have := hfix t k x i (hL t ht) h
    rwa [Nat.mod_eq_of_lt hx] at this
  rw [List.length_map] at a1 a2
  omega
/-- All references of N. -/
def allR (N : List Nd) : List Nat := (List.range N.length).map (· + 1)
theorem mem_allR {N : List Nd} {i : Nat} : i ∈ allR N ↔ inN N i := by
  unfold allR inN
  rw [List.mem_map]
  constructor
  · rintro ⟨j, hj, rfl⟩
    have := List.mem_range.1 hj
    omega
  · rintro ⟨h1, h2⟩
    exact ⟨i - 1, List.mem_range.2 (by omega), by omega⟩
theorem allR_sv (N : List Nd) : Sv N (allR N) := ⟨nodup_map_on List.nodup_range fun x _ y _ e => by omega, fun x hx => mem_allR.1 hx⟩
theorem allR_len (N : List Nd) : (allR N).length = N.length := by simp [allR]
/-- What ties a store to the tables that the reference keeps: the references in R denote just the tables L, and every node is a part of one of them. -/
structure Tie (v : Nat) (N : List Nd) (R : List Nat) (L : List (List Int)) : Prop where
  wf : Wf v N
  v6 : v ≤ 6
  ref : ∀ r ∈ R, inN N r
  len : AllLen (2 ^ v) L
  fwd : ∀ r ∈ R, tabD v N r ∈ L
  bwd : ∀ t ∈ L, ∃ r ∈ R, tabD v N r = t
  src : ∀ i, inN N i → ∃ r ∈ R, Sub v N r i
theorem Tie.nil (v : Nat) (hv : v ≤ 6) : Tie v [] [] [] := ⟨Wf.nil v, hv, by simp, fun t ht => by simp at ht, by simp, by simp, fun i h => by have := h.1; have := h.2; simp at this; omega⟩
theorem Tie.count {v : Nat} {N : List Nd} {R : List Nat} {L : List (List Int)} (h : Tie v N R L) : N.length = (nodesL L v).length := by
  rw [← allR_len]
  refine count_nodes h.wf h.v6 (allR_sv N) h.len (fun i hi => ?_) fun t ht k z hk => ?_
  · obtain ⟨r, hr, k, z, hk, hz, hd⟩ := h.src i (mem_allR.1 hi)
    exact ⟨tabD v N r, k, z, h.fwd r hr, hk, fun y hy => by rw [tabD_nd (mix_lt hk hy)]; exact hd y hy⟩
  · obtain ⟨r, hr, rfl⟩ := h.bwd t ht
    obtain ⟨i, hi, _, hd⟩ := sub_closed h.wf (fun _ => True) (fun _ _ _ _ _ => trivial) k z hk r (h.ref r hr) trivial
    exact ⟨i, mem_allR.2 hi, fun y hy => by rw [tabD_nd (mix_lt hk hy)]; exact hd y hy⟩
/-- The size of a diagram. -/
theorem vis_count {v : Nat} {N : List Nd} (hW : Wf v N) (hv : v ≤ 6) {r : Nat} (hr : inN N r) : (vis v N v [] r).length = (nodesL [tabD v N r] v).length := by
  obtain ⟨h1, _, h3, h4⟩ := vis_spec hW hv v [] r ⟨List.nodup_nil, by simp⟩ hr (by omega)
  refine count_nodes hW hv h1 (fun t ht => by rw [List.mem_singleton] at ht; rw [ht]; exact tabD_len v N r) (fun i hi => ?_) fun t ht k z hk => ?_
  · obtain ⟨k, z, hk, hz, hd⟩ := (h4 i hi (by simp)).1
    exact ⟨_, k, z, List.mem_singleton.2 rfl, hk, fun y hy => by rw [tabD_nd (mix_lt hk hy)]; exact hd y hy⟩
  · rw [List.mem_singleton] at ht
    subst ht
    obtain ⟨i, hi, hm, hd⟩ := sub_closed hW (· ∈ vis v N v [] r) (fun q hq hm x hne => by
      obtain ⟨c1, c2⟩ := (h4 q hm (by simp)).2 hne
      unfold child
      split
      · exact c2
      · exact c1) k z hk r hr h3
    exact ⟨i, hm, fun y hy => by rw [tabD_nd (mix_lt hk hy)]; exact hd y hy⟩
theorem Sub.ext {v : Nat} {N : List Nd} (h : Wf v N) (M : List Nd) {r i : Nat} (hr : inN N r) (hi : inN N i) (hs : Sub v N r i) : Sub v (N ++ M) r i := by
  obtain ⟨k, z, hk, hz, hd⟩ := hs
  exact ⟨k, z, hk, hz, fun y hy => by rw [den_ext h M hi, den_ext h M hr]; exact hd y hy⟩
theorem tabD_ext {v : Nat} {N : List Nd} (h : Wf v N) (M : List Nd) {r : Nat} (hr : inN N r) : tabD v (N ++ M) r = tabD v N r := by
  unfold tabD
  exact List.map_congr_left fun x _ => den_ext h M hr x
/-- The table of a function of letters. -/
def tabV (v : Nat) (val : Nat → Int) : List Int := (List.range (2 ^ v)).map val
theorem tabV_len (v : Nat) (val : Nat → Int) : (tabV v val).length = 2 ^ v := by simp [tabV]
theorem tabV_nd {v x : Nat} {val : Nat → Int} (hx : x < 2 ^ v) : nd (tabV v val) x = val x := by simp [tabV, nd, hx]
/-- A function whose table is known already: its reference comes back, and nothing is new. -/
theorem Tie.known {v cap : Nat} {N : List Nd} {R : List Nat} {L : List (List Int)} (h : Tie v N R L) (hc : N.length ≤ cap) {val : Nat → Int} {r : Nat} (hr : r ∈ R) (ht : tabD v N r = tabV v val) : addM v cap val N R = ⟨N, R, r, 0⟩ := by
  have B := sub_built val h.v6 v (Nat.le_refl _) N 0 h.wf (Nat.two_pow_pos v)
  rw [Nat.sub_self] at B
  obtain ⟨M, hM⟩ := B.ext
  have hrN := h.ref r hr
  have hrd : ∀ x, x < 2 ^ v → den v N r x = val x := fun x hx => by rw [← tabD_nd hx, ht, tabV_nd hx]
  -- nothing is new
  have hlen : (sub v val v N 0).1.length ≤ N.length := by
    by_cases hlt : N.length < (sub v val v N 0).1.length
    · exfalso
      obtain ⟨k, z, hk, hz, hd⟩ := B.new (N.length + 1) (by omega) (by omega)
      obtain ⟨i, hi, _, hdi⟩ := sub_closed h.wf (fun _ => True) (fun _ _ _ _ _ => trivial) k z hk r hrN trivial
      have := den_inj B.wf h.v6 (N.length + 1 + i) (N.length + 1) i (by omega) (by omega) ⟨by omega, by omega⟩ (by rw [hM]; exact inN_ext hi) fun y hy => by
        rw [hd y hy, hM, den_ext h.wf M hi, hdi y hy, hrd _ (mix_lt hk hy)]
      have := hi.2
      omega
    · omega
  have hM0 : M = [] := by
    have := congrArg List.length hM
    rw [List.length_append] at this
    exact List.eq_nil_of_length_eq_zero (by omega)
  have hN : (sub v val v N 0).1 = N := by rw [hM, hM0, List.append_nil]
  have href : (sub v val v N 0).2 = r := by
    have h1 := B.ref
    have h2 := B.den
    rw [hN] at h1 h2
    exact den_inj h.wf h.v6 ((sub v val v N 0).2 + r) _ _ (by omega) (by omega) h1 hrN fun y hy => by rw [h2 y hy, mix_zero, hrd y hy]
  unfold addM
  rw [hN, href, if_neg (by omega)]
  unfold addR
  rw [if_pos hr]
/-- A new function: the nodes that there would be. -/
theorem Tie.new {v : Nat} {N : List Nd} {R : List Nat} {L : List (List Int)} (h : Tie v N R L) (val : Nat → Int) : Tie v (sub v val v N 0).1 (addR R (sub v val v N 0).2) (L ++ [tabV v val]) ∧ tabD v (sub v val v N 0).1 (sub v val v N 0).2 = tabV v val ∧ ∃ M, (sub v val v N 0).1 = N ++ M := by
  have B := sub_built val h.v6 v (Nat.le_refl _) N 0 h.wf (Nat.two_pow_pos v)
  rw [Nat.sub_self] at B
  obtain ⟨M, hM⟩ := B.ext
  have hden : ∀ y, y < 2 ^ v → den v (sub v val v N 0).1 (sub v val v N 0).2 y = val y := fun y hy => by rw [B.den y hy, mix_zero]
  have htab : tabD v (sub v val v N 0).1 (sub v val v N 0).2 = tabV v val := tabD_eq (tabV_len v val) fun x hx => by rw [hden x hx, tabV_nd hx]
  have hext : ∀ r ∈ R, inN (sub v val v N 0).1 r ∧ tabD v (sub v val v N 0).1 r = tabD v N r := fun r hr => by
    rw [hM]; exact ⟨inN_ext (h.ref r hr), tabD_ext h.wf M (h.ref r hr)⟩
  refine ⟨⟨B.wf, h.v6, fun r hr => ?_, fun t ht => ?_, fun r hr => ?_, fun t ht => ?_, fun i hi => ?_⟩, htab, M, hM⟩
  · rcases addR_mem.1 hr with h1 | h1
    · exact (hext r h1).1
    · rw [h1]; exact B.ref
  · rcases List.mem_append.1 ht with h1 | h1
    · exact h.len t h1
    · rw [List.mem_singleton] at h1; rw [h1]; exact tabV_len v val
  · rcases addR_mem.1 hr with h1 | h1
    · rw [(hext r h1).2]; exact List.mem_append_left _ (h.fwd r h1)
    · rw [h1, htab]; exact List.mem_append_right _ (List.mem_singleton.2 rfl)
  · rcases List.mem_append.1 ht with h1 | h1
    · obtain ⟨r, hr, e⟩ := h.bwd t h1
      exact ⟨r, addR_mem.2 (.inl hr), by rw [(hext r hr).2]; exact e⟩
    · rw [List.mem_singleton] at h1
      exact ⟨_, addR_mem.2 (.inr rfl), by rw [h1]; exact htab⟩
  · by_cases hl : i ≤ N.length
    · obtain ⟨r, hr, hs⟩ := h.src i ⟨hi.1, hl⟩
      refine ⟨r, addR_mem.2 (.inl hr), ?_⟩
      rw [hM]
      exact Sub.ext h.wf M (h.ref r hr) ⟨hi.1, hl⟩ hs
    · obtain ⟨k, z, hk, hz, hd⟩ := B.new i (by omega) hi.2
      exact ⟨_, addR_mem.2 (.inr rfl), k, z, hk, hz, fun y hy => by rw [hd y hy, hden _ (mix_lt hk hy)]⟩
end Go.Proofs.Ytbhfmeohaoojfaa.Dn
