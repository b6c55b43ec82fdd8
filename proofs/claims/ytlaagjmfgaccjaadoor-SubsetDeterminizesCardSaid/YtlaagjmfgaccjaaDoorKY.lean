/- The reference's Determinize: what it explores, as lists of numbers; find. -/
import Derived.Test.YtlaagjmfgaccjaaDoorKX
import Derived.Test.YtlaagjmfgaccjaaDoorKT
namespace Go.Proofs.YtlaagjmfgaccjaaDoor.Sb
open Go Go.RowKit Go.Proofs.YtlaagjmfgaccjaaDoor Go.Proofs.YtlaagjmfgaccjaaDoor.Cb
open Go.Proofs.YtlaagjmfgaccjaaDoor.Nf (Na Ed ed NaAt NaLen Ok ok_of ok_chk chkN accW runW stepW asc ascP inS inS_iff has_ofL has_st IsSet IsSet.unique meetB_has aftL aftTo mem_aft mem_aftTo ofL_of zvs)
open Go.Proofs.YtlaagjmfgaccjaaDoor.Dg (Tabs tb tb_mem)
set_option linter.unusedVariables false
set_option linter.unusedSectionVars false
set_option linter.unusedSimpArgs false
set_option maxRecDepth 100000
theorem asc_ext : ∀ {l m : List Int}, l.Pairwise (· < ·) → m.Pairwise (· < ·) → (∀ z, z ∈ l ↔ z ∈ m) → l = m
  | [], [], _, _, _ => rfl
  | [], y :: m, _, _, h => by have := (h y).2 (by simp); cases this
  | x :: l, [], _, _, h => by have := (h x).1 (by simp); cases this
  | x :: l, y :: m, hl, hm, h => by
    obtain ⟨hl1, hl2⟩ := List.pairwise_cons.1 hl
    obtain ⟨hm1, hm2⟩ := List.pairwise_cons.1 hm
    have hxy : x = y := by
      have h1 := (h x).1 (by simp)
      have h2 := (h y).2 (by simp)
      rcases List.mem_cons.1 h1 with e | h1
      · exact e
      · rcases List.mem_cons.1 h2 with e | h2
        · exact e.symm
        · have := hl1 y h2; have := hm1 x h1; omega
    subst hxy
    congr 1
    refine asc_ext hl2 hm2 fun z => ⟨fun hz => ?_, fun hz => ?_⟩
    · rcases List.mem_cons.1 ((h z).1 (by simp [hz])) with e | h1
      · have := hl1 z hz; omega
      · exact h1
    · rcases List.mem_cons.1 ((h z).2 (by simp [hz])) with e | h1
      · have := hm1 z hz; omega
      · exact h1
theorem aftTo_asc {l : List Ed} {s : List Int} {x : Nat} : ∀ {k : Nat}, (aftTo l s x k).Pairwise (· < ·)
  | 0 => List.Pairwise.nil
  | k + 1 => by
    show (aftTo l s x k ++ _).Pairwise _
    rw [List.pairwise_append]
    refine ⟨aftTo_asc, ?_, fun a ha b hb => ?_⟩
    · split <;> simp
    · obtain ⟨j, h1, rfl, _⟩ := mem_aftTo.1 ha
      split at hb
      · rw [List.mem_singleton] at hb; omega
      · cases hb
theorem elsI_asc (s : List Nat) : (elsI s).Pairwise (· < ·) := by
  unfold elsI
  rw [List.pairwise_map]
  exact List.Pairwise.imp (fun h => by omega) els_sorted
theorem pw_asc {S : Int} {l : List Int} (h : asc S l = true) : l.Pairwise (· < ·) := by
  unfold asc at h
  rw [allB_iff] at h
  have hn : ∀ i (hi : i < l.length), nd l i = l[i] := fun i hi => by unfold nd; rw [List.getD_eq_getElem?_getD, List.getElem?_eq_getElem hi]; rfl
  have hs : ∀ i, i + 1 < l.length → nd l i < nd l (i + 1) := fun i hi => by
    have := h (i + 1) hi
    unfold ascP at this
    rw [Bool.and_eq_true, Bool.or_eq_true] at this
    rcases this.2 with h1 | h1
    · exact absurd (of_decide_eq_true h1) (by omega)
    · exact of_decide_eq_true h1
  have hlt : ∀ j i, i < j → j < l.length → nd l i < nd l j := fun j => by
    induction j with
    | zero => intro i hi; omega
    | succ j ih =>
      intro i hi hj
      have h1 := hs j hj
      rcases Nat.lt_or_eq_of_le (Nat.le_of_lt_succ hi) with h2 | h2
      · have := ih i h2 (by omega); omega
      · subst h2; exact h1
  rw [List.pairwise_iff_getElem]
  intro i j hi hj hij
  have := hlt j i hij hj
  rw [hn i hi, hn j hj] at this
  exact this
/-- The lists that the letters lead to. -/
def succR (n : Na) (s : List Int) : List (List Int) := (List.range (2 ^ n.V.toNat)).map (aftL n s)
section
variable {n : Na} (hO : Ok n)
include hO
theorem aft_els {xs : List Nat} (x : Nat) : aftL n (elsI xs) x = elsI (stepW n.es xs x) :=
  asc_ext aftTo_asc (elsI_asc _) fun z => by rw [mem_aft hO (xs := xs) (fun z => elsI_mem), elsI_mem]
theorem succ_els (s : List Nat) : succR n (elsI s) = (succN n s).map elsI := by
  unfold succR succN rowS
  rw [List.map_map]
  exact List.map_congr_left fun x _ => aft_els hO x
theorem st_els : n.st = elsI (ofL n.st) := asc_ext (pw_asc hO.st) (elsI_asc _) fun z => by rw [elsI_mem, has_st hO.s64 hO.st]
theorem els_inj (s t : List Nat) (hs : PN n s) (ht : PN n t) (h : elsI s = elsI t) : s = t :=
  IsSet.unique (P := fun z => z ∈ elsI s) ⟨hs.1, hs.2.1, fun z => elsI_mem.symm⟩ ⟨ht.1, ht.2.1, fun z => by rw [h]; exact elsI_mem.symm⟩
theorem found_els (b : Nat) : found (succR n) b n.st = (detN n b).map (List.map elsI) := by
  have h := expl_map elsI (PN n) (els_inj hO) (succN n) (succR n) (fun s _ => succ_els hO s) (fun s _ t ht => pn_succ hO s t ht) b (b + 1) 0 [ofL n.st] (fun t ht => by rw [List.mem_singleton] at ht; subst ht; exact pn_start hO)
  rw [List.map_cons, List.map_nil, ← st_els hO] at h
  exact h
theorem nums_els {F : List (List Nat)} (hF : ∀ t ∈ F, PN n t) (r : Nat) : nums (succR n) (F.map elsI) r = nums (succN n) F r :=
  nums_map elsI (PN n) (els_inj hO) (succN n) (succR n) (fun s _ => succ_els hO s) (fun s _ t ht => pn_succ hO s t ht) hF r
theorem meet_els (s : List Nat) (us : U64 s) : n.fi.any (fun z => decide (z ∈ elsI s)) = meetB s (ofL n.fi) := by
  rw [Bool.eq_iff_iff, meetB_has us, List.any_eq_true]
  constructor
  · rintro ⟨z, hz, h⟩
    rw [decide_eq_true_iff, elsI_mem] at h
    exact ⟨z, h, (has_st hO.s64 hO.fi).2 hz⟩
  · rintro ⟨z, h1, h2⟩
    exact ⟨z, (has_st hO.s64 hO.fi).1 h2, by rw [decide_eq_true_iff, elsI_mem]; exact h1⟩
theorem det_pn {b : Nat} {F : List (List Nat)} (h : detN n b = some F) : ∀ s ∈ F, PN n s :=
  expl_keep (succN n) (PN n) (fun s _ t ht => pn_succ hO s t ht) b _ _ _ (fun t ht => by rw [List.mem_singleton] at ht; subst ht; exact pn_start hO) h
end
theorem aftL_len {n : Na} (hS : n.S ≤ 64) (s : List Int) (x : Nat) : (aftL n s x).length ≤ 64 := by
  have : (aftL n s x).length ≤ n.S.toNat := Nf.aftTo_len
  omega
/-- The rest of the way: k rows are done. -/
def DetI {S : Type} [DecidableEq S] (succ : S → List S) (b : Nat) (R : Option (List S)) (L : List S) (k : Nat) : Prop := ∃ f, b < f + k ∧ expl succ b f k L = R
section
variable {S : Type} [DecidableEq S] {succ : S → List S} {b : Nat} {R : Option (List S)} {L : List S} {k : Nat}
theorem DetI.start (s0 : S) : DetI succ b (found succ b s0) [s0] 0 := ⟨b + 1, by omega, rfl⟩
theorem DetI.more (h : DetI succ b R L k) (hk : k < L.length) (hL : L.length ≤ b) (hb : (rowF L (succ L[k])).length ≤ b) : DetI succ b R (rowF L (succ L[k])) (k + 1) := by
  obtain ⟨f, hf, h⟩ := h
  cases f with
  | zero => omega
  | succ f =>
    rw [expl_step succ b hk hb] at h
    exact ⟨f, by omega, h⟩
theorem DetI.over (h : DetI succ b R L k) (hk : k < L.length) (hL : L.length ≤ b) (hb : b < (rowF L (succ L[k])).length) : R = none := by
  obtain ⟨f, hf, h⟩ := h
  cases f with
  | zero => omega
  | succ f =>
    rw [expl_over succ b hk hb] at h
    exact h.symm
theorem DetI.done (h : DetI succ b R L k) (hk : L.length ≤ k) (hL : L.length ≤ b) (hkb : k ≤ b) : R = some L := by
  obtain ⟨f, hf, h⟩ := h
  cases f with
  | zero => omega
  | succ f =>
    rw [expl_end succ b hk] at h
    exact h.symm
end
theorem EqualInts_bool (A B : Option Addr) (l m : List Int) (c d : Nat) (w : World) (hx : Ints w A l) (hy : Ints w B m) (hl : l.length ≤ maxLen) :
    Calls Tryd.prog 44 #[.slice A l.length c, .slice B m.length d] w fun e w' => e = .returned (.bool (decide (l = m))) ∧ Below w.heap.size w w' := by
  have := Dg.EqualInts_any A B l m c d w hx hy hl
  exact this
theorem pos_ltS {S : Type} [DecidableEq S] {L : List S} {s z : S} : ∀ {k : Nat}, k < pos L s → L.getD k z ≠ s := by
  induction L with
  | nil => intro k h; exact absurd h (by unfold pos; simp)
  | cons x L ih =>
    intro k h
    unfold pos at h
    rw [List.idxOf_cons] at h
    by_cases hx : x = s
    · subst hx
      simp at h
    · have hb : (x == s) = false := by simpa using hx
      rw [hb] at h
      cases k with
      | zero => exact hx
      | succ k => exact ih (k := k) (by unfold pos; simpa using h)
theorem tb_pos_lt {L : List (List Int)} {s : List Int} {k : Nat} (h : k < pos L s) : tb L k ≠ s := pos_ltS (z := []) h
def findI (L : List (List Int)) (s : List Int) : Int := if s ∈ L then (pos L s : Int) else -1
theorem findI_in {L : List (List Int)} {s : List Int} (h : s ∈ L) : findI L s = (pos L s : Int) := if_pos h
theorem findI_out {L : List (List Int)} {s : List Int} (h : s ∉ L) : findI L s = -1 := if_neg h
set_option maxHeartbeats 2000000 in
/-- find: the place of the list, or -1. -/
theorem find7_any (A : Option Addr) (L : List (List Int)) (c : Nat) (P : Option Addr) (s : List Int) (cs : Nat) (w : World) (hx : Tabs w A L) (hs : Ints w P s) (hl : L.length ≤ 1000000) (hr : ∀ u ∈ L, u.length ≤ 1000000) :
    Calls Tryd.prog 87 #[.slice A L.length c, .slice P s.length cs] w fun e w' => e = .returned (.int .i64 (findI L s)) ∧ Below w.heap.size w w' := by
  have HX := Lib.hid hx
  have HS := Lib.hid hs
  have HE := Lib.hid fun j (hj : j < L.length) X p c' (h1 : Ints X p (tb L j)) (h2 : Ints X P s) => EqualInts_bool p P (tb L j) s c' cs X h1 h2 (by have := hr _ (tb_mem hj); unfold maxLen; omega)
  clear hx hs hr
  go_enter Tryd.func87, Tryd.ntmps87
  go_wp2
  go_loopw [5] (fun i wr => ∃ k : Nat, k ≤ L.length ∧ i = .int .i64 k ∧ Hid (∀ i, i < k → tb L i ≠ s) ∧ Below w.heap.size w wr) (fun i _ => L.length - (intOf i).toNat)
  case atStart => exact ⟨0, by omega, rfl, fun i hi => absurd hi (by omega), Below.refl _ _⟩
  case round =>
    obtain ⟨k, hk, rfl, H, hb⟩ := hrel
    by_cases hlt : k < L.length
    · obtain ⟨ad, p, c', rfl, hbk, hcell, hi⟩ := (HX.out.below hb) k hlt
      have HEk := Lib.hid (HE.out k hlt wr p c' hi (Vals.below HS.out hb))
      have hlt2 : (k : Int) < (L.length : Int) := by omega
      by_cases he : tb L k = s
      · rw [decide_eq_true he] at HEk
        have HR : Hid ((k : Int) = findI L s) := by
          show _ = _
          have hm : s ∈ L := he ▸ tb_mem hlt
          rw [findI_in hm]
          have hp := posI_at hm
          have h1 : ¬ pos L s < k := fun h => H.out _ h (by unfold tb; rw [List.getD_eq_getElem?_getD, hp.2]; rfl)
          have h2 : ¬ k < pos L s := fun h => tb_pos_lt h he
          omega
        clear H HE HX HS he hi
        generalize (tb L k).length = nk at *
        generalize s.length = ns at *
        go_wp2_with (go_at_call 44; ((with_reducible refine HEk.out.mono ?_); rintro e w2 ⟨rfl, hb2⟩))
        go_ret
        exact ⟨Nf.ret_int HR.out, stepB hb hb2⟩
      · rw [decide_eq_false he] at HEk
        have H' : Hid (∀ i, i < k + 1 → tb L i ≠ s) := fun i hi => by
          rcases Nat.lt_or_eq_of_le (Nat.le_of_lt_succ hi) with h1 | rfl
          · exact H.out i h1
          · exact he
        clear H HE HX HS he hi
        generalize (tb L k).length = nk at *
        generalize s.length = ns at *
        go_wp2_with (go_at_call 44; ((with_reducible refine HEk.out.mono ?_); rintro e w2 ⟨rfl, hb2⟩))
        go_roundw
        case rel => exact ⟨k + 1, by omega, by go_num, H', stepB hb hb2⟩
        case measure => simp [intOf]; omega
    · have hk2 : k = L.length := by omega
      have HR : Hid ((-1 : Int) = findI L s) := by
        show _ = _
        rw [findI_out fun hm => ?_]
        have hp := posI_at hm
        exact H.out (pos L s) (by rw [hk2]; exact hp.1) (by unfold tb; rw [List.getD_eq_getElem?_getD, hp.2]; rfl)
      subst hk2
      clear H HE HX HS
      go_wp2
      go_ret
      exact ⟨Nf.ret_int HR.out, hb⟩
end Go.Proofs.YtlaagjmfgaccjaaDoor.Sb
