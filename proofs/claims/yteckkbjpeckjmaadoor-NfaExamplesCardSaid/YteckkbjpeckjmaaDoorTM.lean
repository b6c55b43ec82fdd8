/- Trimmed automata: what is kept when only some states stay, and when these are the useful ones. Plain mathematics, nothing of the program. -/
import Derived.Test.YteckkbjpeckjmaaDoorFS
namespace Go.Proofs.YteckkbjpeckjmaaDoor.Nf
open Go Go.RowKit Go.Proofs.YteckkbjpeckjmaaDoor
set_option linter.unusedVariables false
set_option linter.unusedSectionVars false
theorem nd_get {l : List Int} {i : Nat} (h : i < l.length) : nd l i = l[i] := by
  unfold nd
  rw [List.getD_eq_getElem?_getD, List.getElem?_eq_getElem h]
  rfl
theorem asc_pw {S : Int} {l : List Int} : asc S l = true ↔ l.Pairwise (· < ·) ∧ ∀ z ∈ l, 0 ≤ z ∧ z < S := by
  constructor
  · intro h
    refine ⟨?_, fun z hz => asc_in h hz⟩
    have hs : ∀ j, j + 1 < l.length → nd l j < nd l (j + 1) := fun j hj => by
      have := (allB_iff _ _).1 h (j + 1) hj
      unfold ascP at this
      rw [Bool.and_eq_true, Bool.or_eq_true, decide_eq_true_iff, decide_eq_true_iff] at this
      exact this.2.resolve_left (by omega)
    have hm : ∀ d i, i + d + 1 < l.length → nd l i < nd l (i + d + 1) := fun d => by
      induction d with
      | zero => exact fun i hi => hs i hi
      | succ d ih => exact fun i hi => Int.lt_trans (ih i (by omega)) (hs (i + d + 1) hi)
    rw [List.pairwise_iff_getElem]
    intro i j hi hj hij
    have := hm (j - i - 1) i (by omega)
    rw [show i + (j - i - 1) + 1 = j by omega, nd_get hi, nd_get hj] at this
    exact this
  · rintro ⟨hp, hr⟩
    refine (allB_iff _ _).2 fun i hi => ?_
    unfold ascP
    rw [Bool.and_eq_true, inS_iff, Bool.or_eq_true, decide_eq_true_iff, decide_eq_true_iff]
    refine ⟨by rw [nd_get hi]; exact hr _ (List.getElem_mem hi), ?_⟩
    by_cases h0 : i = 0
    · exact .inl h0
    · right
      rw [nd_get hi, nd_get (show i - 1 < l.length by omega)]
      exact List.pairwise_iff_getElem.1 hp (i - 1) i (by omega) hi (by omega)
/-- Two ascending lists of the same numbers are one. -/
theorem pw_unique : ∀ {l m : List Int}, l.Pairwise (· < ·) → m.Pairwise (· < ·) → (∀ z, z ∈ l ↔ z ∈ m) → l = m
  | [], [], _, _, _ => rfl
  | [], b :: m, _, _, h => absurd ((h b).2 (List.mem_cons_self ..)) (by simp)
  | a :: l, [], _, _, h => absurd ((h a).1 (List.mem_cons_self ..)) (by simp)
  | a :: l, b :: m, hl, hm, h => by
    rw [List.pairwise_cons] at hl hm
    have hab : a = b := by
      have h1 := (h a).1 (List.mem_cons_self ..)
      have h2 := (h b).2 (List.mem_cons_self ..)
      rcases List.mem_cons.1 h1 with h1 | h1
      · exact h1
      · rcases List.mem_cons.1 h2 with h2 | h2
        · exact h2.symm
        · have := hm.1 a h1
          have := hl.1 b h2
          omega
    subst hab
    rw [pw_unique hl.2 hm.2 fun z => ?_]
    constructor
    · intro hz
      have h1 := hl.1 z hz
      rcases List.mem_cons.1 ((h z).1 (List.mem_cons_of_mem _ hz)) with rfl | h2
      · omega
      · exact h2
    · intro hz
      have h1 := hm.1 z hz
      rcases List.mem_cons.1 ((h z).2 (List.mem_cons_of_mem _ hz)) with rfl | h2
      · omega
      · exact h2
/-- The number that a state gets: its place among those that stay. -/
def tp (us : List Int) (z : Int) : Int := (us.idxOf z : Int)
theorem tp_at {us : List Int} {z : Int} (h : z ∈ us) : ∃ hi : us.idxOf z < us.length, us[us.idxOf z] = z := ⟨List.idxOf_lt_length_of_mem h, List.getElem_idxOf _⟩
theorem tp_in {us : List Int} {z : Int} (h : z ∈ us) : 0 ≤ tp us z ∧ tp us z < us.length := by
  obtain ⟨h1, _⟩ := tp_at h
  unfold tp
  omega
theorem tp_inj {us : List Int} {z y : Int} (h1 : z ∈ us) (h2 : y ∈ us) (h : tp us z = tp us y) : z = y := by
  obtain ⟨a1, a2⟩ := tp_at h1
  obtain ⟨b1, b2⟩ := tp_at h2
  have e : us.idxOf z = us.idxOf y := by unfold tp at h; omega
  rw [← a2, ← b2]
  simp only [e]
theorem tp_lt {us : List Int} (hp : us.Pairwise (· < ·)) {z y : Int} (h1 : z ∈ us) (h2 : y ∈ us) (h : z < y) : tp us z < tp us y := by
  obtain ⟨a1, a2⟩ := tp_at h1
  obtain ⟨b1, b2⟩ := tp_at h2
  unfold tp
  rcases Nat.lt_trichotomy (us.idxOf z) (us.idxOf y) with h3 | h3 | h3
  · omega
  · have : z = y := tp_inj h1 h2 (by unfold tp; omega)
    omega
  · have := List.pairwise_iff_getElem.1 hp _ _ b1 a1 h3
    rw [a2, b2] at this
    omega
/-- The state at a place. -/
theorem tp_of {us : List Int} (hp : us.Pairwise (· < ·)) {i : Nat} (hi : i < us.length) : us[i] ∈ us ∧ tp us us[i] = i := by
  have hm : us[i] ∈ us := List.getElem_mem hi
  refine ⟨hm, ?_⟩
  obtain ⟨a1, a2⟩ := tp_at hm
  unfold tp
  rcases Nat.lt_trichotomy (us.idxOf us[i]) i with h3 | h3 | h3
  · have := List.pairwise_iff_getElem.1 hp _ _ a1 hi h3
    omega
  · omega
  · have := List.pairwise_iff_getElem.1 hp _ _ hi a1 h3
    omega
def reN (us : List Int) (e : Ed) : Ed := ⟨tp us e.fr, tp us e.to, e.p, e.q⟩
def inU (us : List Int) (e : Ed) : Bool := decide (e.fr ∈ us) && decide (e.to ∈ us)
def renL (us l : List Int) : List Int := (l.filter fun z => decide (z ∈ us)).map (tp us)
/-- The automaton of the states that stay. -/
def trimN (n : Na) (us : List Int) : Na := ⟨n.V, us.length, renL us n.st, renL us n.fi, (n.es.filter (inU us)).map (reN us)⟩
theorem inU_iff {us : List Int} {e : Ed} : inU us e = true ↔ e.fr ∈ us ∧ e.to ∈ us := by
  unfold inU
  rw [Bool.and_eq_true, decide_eq_true_iff, decide_eq_true_iff]
theorem mem_renL {us l : List Int} {i : Int} : i ∈ renL us l ↔ ∃ z ∈ l, z ∈ us ∧ tp us z = i := by
  unfold renL
  rw [List.mem_map]
  constructor
  · rintro ⟨z, hz, rfl⟩
    rw [List.mem_filter, decide_eq_true_iff] at hz
    exact ⟨z, hz.1, hz.2, rfl⟩
  · rintro ⟨z, h1, h2, rfl⟩
    exact ⟨z, by rw [List.mem_filter, decide_eq_true_iff]; exact ⟨h1, h2⟩, rfl⟩
theorem mem_reN {us : List Int} {l : List Ed} {x : Ed} : x ∈ (l.filter (inU us)).map (reN us) ↔ ∃ e ∈ l, (e.fr ∈ us ∧ e.to ∈ us) ∧ reN us e = x := by
  rw [List.mem_map]
  constructor
  · rintro ⟨e, he, rfl⟩
    rw [List.mem_filter, inU_iff] at he
    exact ⟨e, he.1, he.2, rfl⟩
  · rintro ⟨e, h1, h2, rfl⟩
    exact ⟨e, by rw [List.mem_filter, inU_iff]; exact ⟨h1, h2⟩, rfl⟩
theorem ren_asc {us l : List Int} {S : Int} (hp : us.Pairwise (· < ·)) (hl : asc S l = true) : asc us.length (renL us l) = true := by
  rw [asc_pw] at hl ⊢
  refine ⟨?_, fun z hz => ?_⟩
  · unfold renL
    rw [List.pairwise_map]
    refine (hl.1.filter _).imp_of_mem fun {a b} ha hb hlt => ?_
    rw [List.mem_filter, decide_eq_true_iff] at ha hb
    exact tp_lt hp ha.2 hb.2 hlt
  · obtain ⟨y, _, h2, rfl⟩ := mem_renL.1 hz
    exact tp_in h2
theorem edE_mk {V S : Int} {e : Ed} (h1 : 0 ≤ e.fr ∧ e.fr < S) (h2 : 0 ≤ e.to ∧ e.to < S) (h3 : chk e.p e.q V = 0) : edE V S e = 0 := by
  unfold edE
  rw [inS_iff.2 h1, inS_iff.2 h2]
  exact h3
theorem us_len {us : List Int} {S : Int} (hp : us.Pairwise (· < ·)) (hu : ∀ z ∈ us, 0 ≤ z ∧ z < S) (h0 : 0 ≤ S) : (us.length : Int) ≤ S := by
  have hn : us.Nodup := hp.imp fun h => by omega
  have := List.Nodup.length_le_of_subset (l₂ := (List.range S.toNat).map fun (k : Nat) => (k : Int)) hn fun z hz => by
    have := hu z hz
    exact List.mem_map.2 ⟨z.toNat, List.mem_range.2 (by omega), by omega⟩
  rw [List.length_map, List.length_range] at this
  omega
section
variable {n : Na} {us : List Int} (hO : Ok n) (hp : us.Pairwise (· < ·)) (hu : ∀ z ∈ us, 0 ≤ z ∧ z < n.S)
include hO hp hu
theorem trim_ok : Ok (trimN n us) := by
  have hl := us_len hp hu hO.s0
  refine ⟨hO.v0, hO.v6, by show (0 : Int) ≤ us.length; omega, by have := hO.s64; show (us.length : Int) ≤ 64; omega, ?_, ren_asc hp hO.st, ren_asc hp hO.fi, fun x hx => ?_⟩
  · show ((n.es.filter (inU us)).map (reN us)).length ≤ 512
    rw [List.length_map]
    have := List.length_filter_le (inU us) n.es
    have := hO.es
    omega
  · obtain ⟨e, he, ⟨h1, h2⟩, rfl⟩ := mem_reN.1 hx
    exact edE_mk (tp_in h1) (tp_in h2) (edE_in (hO.ed e he)).2.2
end
theorem trim_back {n : Na} {us : List Int} : ∀ {w : List Nat} {p j : Int}, p ∈ us → Path (trimN n us).es w (tp us p) j → ∃ q ∈ us, j = tp us q ∧ Path n.es w p q
  | [], p, j, h, hP => ⟨p, h, hP.symm, rfl⟩
  | x :: w, p, j, h, ⟨x', hx, h1, h2, h3⟩ => by
    obtain ⟨e, he, ⟨h4, h5⟩, rfl⟩ := mem_reN.1 hx
    obtain ⟨q, hq, e1, e2⟩ := trim_back h5 h3
    exact ⟨q, hq, e1, e, he, h1, tp_inj h4 h h2, e2⟩
/-- The useful states: reachable and productive. -/
def Useful (n : Na) (us : List Int) : Prop := ∀ z, z ∈ us ↔ Rc n.es n.st z ∧ Rc (revN n).es (revN n).st z
theorem pr_step {n : Na} {e : Ed} (he : e ∈ n.es) (h : Rc (revN n).es (revN n).st e.to) : Rc (revN n).es (revN n).st e.fr :=
  Rc.step (e := flipE e) (List.mem_map_of_mem he) h
section
variable {n : Na} {us : List Int} (hU : Useful n us)
include hU
theorem trim_to : ∀ {w : List Nat} {p q : Int}, Path n.es w p q → Rc n.es n.st p → Rc (revN n).es (revN n).st q → p ∈ us ∧ q ∈ us ∧ Path (trimN n us).es w (tp us p) (tp us q)
  | [], p, q, h, hr, hq => by
    have h : p = q := h
    subst h
    exact ⟨(hU p).2 ⟨hr, hq⟩, (hU p).2 ⟨hr, hq⟩, rfl⟩
  | x :: w, p, q, ⟨e, he, h1, h2, h3⟩, hr, hq => by
    subst h2
    obtain ⟨g1, g2, g3⟩ := trim_to h3 (Rc.step he hr) hq
    have h4 : e.fr ∈ us := (hU _).2 ⟨hr, pr_step he ((hU _).1 g1).2⟩
    exact ⟨h4, g2, reN us e, mem_reN.2 ⟨e, he, ⟨h4, g1⟩, rfl⟩, h1, rfl, g3⟩
theorem trim_rc {z : Int} (hz : Rc n.es n.st z) : z ∈ us → Rc (trimN n us).es (trimN n us).st (tp us z) := by
  induction hz with
  | base h => exact fun hm => Rc.base (mem_renL.2 ⟨_, h, hm, rfl⟩)
  | @step e h hr ih =>
    intro hm
    have h4 : e.fr ∈ us := (hU _).2 ⟨hr, pr_step h ((hU _).1 hm).2⟩
    exact Rc.step (e := reN us e) (mem_reN.2 ⟨e, h, ⟨h4, hm⟩, rfl⟩) (ih h4)
end
theorem rev_trim (n : Na) (us : List Int) : revN (trimN n us) = trimN (revN n) us := by
  unfold revN trimN
  simp only [Na.mk.injEq, true_and]
  rw [List.filter_map, List.map_map, List.map_map]
  congr 1
  refine List.filter_congr fun e _ => ?_
  show (decide (e.fr ∈ us) && decide (e.to ∈ us)) = (decide (e.to ∈ us) && decide (e.fr ∈ us))
  rw [Bool.and_comm]
theorem useful_rev {n : Na} {us : List Int} (hU : Useful n us) : Useful (revN n) us := fun z => by
  rw [hU z, rev_rev]
  exact And.comm
def ids (k : Nat) : List Int := (List.range k).map fun (i : Nat) => (i : Int)
theorem ids_len (k : Nat) : (ids k).length = k := by simp [ids]
theorem mem_ids {k : Nat} {z : Int} : z ∈ ids k ↔ 0 ≤ z ∧ z < k := by
  unfold ids
  rw [List.mem_map]
  constructor
  · rintro ⟨i, hi, rfl⟩
    rw [List.mem_range] at hi
    omega
  · rintro ⟨h1, h2⟩
    exact ⟨z.toNat, List.mem_range.2 (by omega), by omega⟩
theorem ids_pw (k : Nat) : (ids k).Pairwise (· < ·) := by
  unfold ids
  rw [List.pairwise_map]
  exact List.pairwise_lt_range.imp fun h => by omega
theorem ids_tp {k : Nat} {z : Int} (h : 0 ≤ z ∧ z < k) : tp (ids k) z = z := by
  have hi : z.toNat < (ids k).length := by rw [ids_len]; omega
  have := (tp_of (ids_pw k) hi).2
  have e : (ids k)[z.toNat] = z := by
    simp [ids]
    omega
  rw [e] at this
  rw [this]
  omega
theorem ids_ren {k : Nat} {l : List Int} (h : ∀ z ∈ l, 0 ≤ z ∧ z < k) : renL (ids k) l = l := by
  unfold renL
  rw [List.filter_eq_self.2 fun z hz => decide_eq_true (mem_ids.2 (h z hz))]
  conv => rhs; rw [← List.map_id l]
  exact List.map_congr_left fun z hz => ids_tp (h z hz)
theorem ids_trim {n : Na} (hO : Ok n) : trimN n (ids n.S.toNat) = n := by
  have e : ((n.S.toNat : Nat) : Int) = n.S := Int.toNat_of_nonneg hO.s0
  have hr : ∀ z, 0 ≤ z ∧ z < n.S → 0 ≤ z ∧ z < ((n.S.toNat : Nat) : Int) := fun z h => by omega
  unfold trimN
  rw [ids_ren fun z hz => hr z (asc_in hO.st hz), ids_ren fun z hz => hr z (asc_in hO.fi hz), ids_len, e]
  rw [List.filter_eq_self.2 fun x hx => inU_iff.2 ⟨mem_ids.2 (hr _ (edE_in (hO.ed x hx)).1), mem_ids.2 (hr _ (edE_in (hO.ed x hx)).2.1)⟩]
  have : n.es.map (reN (ids n.S.toNat)) = n.es := by
    conv => rhs; rw [← List.map_id n.es]
    refine List.map_congr_left fun x hx => ?_
    unfold reN
    rw [ids_tp (hr _ (edE_in (hO.ed x hx)).1), ids_tp (hr _ (edE_in (hO.ed x hx)).2.1)]
    rfl
  rw [this]
section
variable {n : Na} {us : List Int} (hO : Ok n) (hp : us.Pairwise (· < ·)) (hU : Useful n us)
include hO hp hU
theorem use_in : ∀ z ∈ us, 0 ≤ z ∧ z < n.S := fun z hz => rc_in hO ((hU z).1 hz).1
theorem trim_good : Ok (trimN n us) := trim_ok hO hp (use_in hO hp hU)
/-- Trimming keeps the accepted words. -/
theorem trim_acc (w : List Nat) : accW (trimN n us) w = accW n w := by
  rw [Bool.eq_iff_iff, acc_iff (trim_good hO hp hU), acc_iff hO]
  constructor
  · rintro ⟨i, hi, j, hj, hP⟩
    obtain ⟨p, h1, h2, rfl⟩ := mem_renL.1 hi
    obtain ⟨q, h3, h4, rfl⟩ := mem_renL.1 hj
    obtain ⟨q', h5, h6, h7⟩ := trim_back h2 hP
    rw [tp_inj h4 h5 h6] at h3
    exact ⟨p, h1, q', h3, h7⟩
  · rintro ⟨p, h1, q, h2, hP⟩
    obtain ⟨g1, g2, g3⟩ := trim_to hU hP (Rc.base h1) (Rc.base (l := (revN n).es) (st := (revN n).st) h2)
    exact ⟨_, mem_renL.2 ⟨p, h1, g1, rfl⟩, _, mem_renL.2 ⟨q, h2, g2, rfl⟩, g3⟩
/-- All states of a trimmed automaton are reachable. -/
theorem trim_reach {i : Int} : Rc (trimN n us).es (trimN n us).st i ↔ 0 ≤ i ∧ i < us.length := by
  constructor
  · intro h
    exact rc_in (trim_good hO hp hU) h
  · rintro ⟨h1, h2⟩
    have hi : i.toNat < us.length := by omega
    obtain ⟨h3, h4⟩ := tp_of hp hi
    have := trim_rc hU ((hU _).1 h3).1 h3
    rw [h4, Int.toNat_of_nonneg h1] at this
    exact this
theorem trim_prod {i : Int} : Rc (revN (trimN n us)).es (revN (trimN n us)).st i ↔ 0 ≤ i ∧ i < us.length := by
  rw [rev_trim]
  exact trim_reach (rev_ok hO) hp (useful_rev hU)
theorem trim_ids {l : List Int} (hl : l.Pairwise (· < ·)) (hU2 : Useful (trimN n us) l) : l = ids us.length ∧ trimN (trimN n us) l = trimN n us := by
  have h1 : l = ids us.length := pw_unique hl (ids_pw _) fun z => by
    rw [hU2 z, trim_reach hO hp hU, trim_prod hO hp hU, mem_ids, and_self]
  refine ⟨h1, ?_⟩
  have := ids_trim (trim_good hO hp hU)
  rw [h1]
  exact this
end
end Go.Proofs.YteckkbjpeckjmaaDoor.Nf
