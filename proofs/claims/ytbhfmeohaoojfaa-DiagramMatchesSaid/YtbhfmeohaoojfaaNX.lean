/- The reference's Add. -/
import Derived.Test.YtbhfmeohaoojfaaNW
import Derived.Deep.DeepCutAuto
namespace Go.Proofs.Ytbhfmeohaoojfaa.Dn
open Go Go.RowKit Go.Proofs.Ytbhfmeohaoojfaa.Ap
open Go.Proofs.Ytbhfmeohaoojfaa.Dg
set_option linter.unusedVariables false
set_option maxRecDepth 100000
/-- The tables of a list of slices. -/
def tq (Q : List (Option Addr × Nat × List Int)) : List (List Int) := Q.map fun q => q.2.2
theorem tq_len (Q : List (Option Addr × Nat × List Int)) : (tq Q).length = Q.length := by simp [tq]
theorem tq_snoc (Q : List (Option Addr × Nat × List Int)) (q) : tq (Q ++ [q]) = tq Q ++ [q.2.2] := by simp [tq]
def slf (Q : List (Option Addr × Nat × List Int)) (j : Nat) : Value := (slv Q).getD j (.slice none 0 0)
theorem slf_map (Q : List (Option Addr × Nat × List Int)) : (List.range Q.length).map (slf Q) = slv Q := by
  have hl : (slv Q).length = Q.length := by simp [slv]
  apply List.ext_getElem
  · simp [hl]
  · intro j h1 h2
    simp only [List.getElem_map, List.getElem_range]
    unfold slf
    rw [List.getD_eq_getElem?_getD, List.getElem?_eq_getElem h2]; rfl
theorem slf_at {Q : List (Option Addr × Nat × List Int)} {j : Nat} (h : j < Q.length) : slf Q j = .slice Q[j].1 Q[j].2.2.length Q[j].2.1 := by
  unfold slf slv
  simp only [List.getD_eq_getElem?_getD, List.getElem?_map, List.getElem?_eq_getElem h]
  rfl
theorem slf_one (Q : List (Option Addr × Nat × List Int)) (j : Nat) : (slf Q j).oneCell' = true := by
  by_cases h : j < Q.length
  · rw [slf_at h]; rfl
  · have : (slv Q)[j]? = none := List.getElem?_eq_none (by simp [slv]; omega)
    unfold slf
    rw [List.getD_eq_getElem?_getD, this]; rfl
/-- The slices Q lie in a row that begins at A, and their tables where they point. -/
structure RowQ (X : World) (A : Option Addr) (Q : List (Option Addr × Nat × List Int)) : Prop where
  row : Vals X A Q.length (slf Q)
  tab : ∀ q ∈ Q, Ints X q.1 q.2.2
theorem RowQ.below {X Y : World} {A : Option Addr} {Q : List (Option Addr × Nat × List Int)} (h : RowQ X A Q) (hb : Below X.heap.size X Y) : RowQ Y A Q := ⟨h.row.below hb, fun q hq => Vals.below (h.tab q hq) hb⟩
theorem RowQ.tabs {X : World} {A : Option Addr} {Q : List (Option Addr × Nat × List Int)} (h : RowQ X A Q) : Tabs X A (tq Q) := by
  intro j hj
  rw [tq_len] at hj
  obtain ⟨ad, e1, h1, h2⟩ := h.row j hj
  have e2 : tb (tq Q) j = Q[j].2.2 := by
    unfold tb tq
    rw [List.getD_eq_getElem?_getD, List.getElem?_map, List.getElem?_eq_getElem hj]; rfl
  refine ⟨ad, Q[j].1, Q[j].2.1, e1, h1, ?_, by rw [e2]; exact h.tab _ (List.getElem_mem hj)⟩
  rw [h2, e2]
  exact congrArg some (slf_at hj)
theorem RowQ.of_own {X : World} {B : Nat} {A : Option Addr} {c : Nat} {Q : List (Option Addr × Nat × List Int)} (ho : X.ownsRow B 29 1 (.slice A Q.length c) Q.length (slv Q)) (ht : ∀ q ∈ Q, Ints X q.1 q.2.2) : RowQ X A Q := by
  have hl : (slv Q).length = Q.length := by simp [slv]
  refine ⟨Vals.of_own ho fun j hj => ?_, ht⟩
  unfold slf
  rw [List.getD_eq_getElem?_getD, List.getElem?_eq_getElem (by omega)]; rfl
/-- The error of the reference's Add. -/
def addE (v cap : Nat) (L : List (List Int)) (t : List Int) : Nat := if t ∈ L then 0 else if cap < (nodesL (L ++ [t]) v).length then 10 else 0
def addL (v cap : Nat) (L : List (List Int)) (t : List Int) : Bool := decide (t ∉ L ∧ (nodesL (L ++ [t]) v).length ≤ cap)
section
variable {q v cap c d : Nat} {A B : Option Addr} {Q : List (Option Addr × Nat × List Int)} {t : List Int} {w : World}
set_option maxHeartbeats 2000000 in
theorem refAdd_in (hs : RefSt w q v cap A Q.length c) (hq : RowQ w A Q) (ht : Ints w B t) (hv : v ≤ 6) (hL : AllLen (2 ^ v) (tq Q)) (htl : t.length = 2 ^ v) (hl : Q.length ≤ 4096) (hin : t ∈ tq Q) :
    Calls Try.prog 43 #[.pointer (some ⟨q, 0, none⟩), .slice B t.length d] w fun e w' => e = .returned (.int .i64 0) ∧ Below w.heap.size w w' := by
  have h64 := pow7 hv
  have hF : Calls Try.prog 65 #[.slice A (tq Q).length c, .slice B t.length d] w fun e w' => ∃ r : Nat, e = .returned (.int .i64 r) ∧ Below w.heap.size w w' := by
    refine (find_any A B (tq Q) t c d w hq.tabs ht (by rw [tq_len]; omega) (fun u hu => by have := hL u hu; omega)).mono ?_
    rintro e w' ⟨r, rfl, hr | ⟨_, hr⟩, hb⟩
    · exact ⟨r.toNat, ret_of (by omega), hb⟩
    · exact absurd hin hr
  rw [tq_len] at hF
  have HF := Lib.hid hF
  have h2 := hs.c2
  clear hF hs hq hL hin htl
  generalize Q.length = n at *
  go_enter Try.func43, Try.ntmps43
  go_wp2_with (go_at_call 65; ((with_reducible refine HF.out.mono ?_); rintro e w2 ⟨r, rfl, hb2⟩))
  go_ret
  exact ⟨rfl, hb2⟩
/-- The row of the old slices and the new one. -/
theorem row_snoc {w w2 w3 w4 : World} {A4 : Option Addr} {c4 : Nat} (hq : RowQ w A Q) (ht : Ints w B t) (h4 : Below w.heap.size w w4) (ho : w4.ownsRow w.heap.size 29 1 (.slice A4 (Q.length + 1) c4) (Q.length + 1) (slv Q ++ [.slice B t.length d])) :
    w4.ownsRow w.heap.size 29 1 (.slice A4 (Q ++ [(B, d, t)]).length c4) (Q ++ [(B, d, t)]).length (slv (Q ++ [(B, d, t)])) ∧ RowQ w4 A4 (Q ++ [(B, d, t)]) := by
  have e : slv (Q ++ [(B, d, t)]) = slv Q ++ [.slice B t.length d] := by unfold slv; rw [List.map_append]; rfl
  have h1 : w4.ownsRow w.heap.size 29 1 (.slice A4 (Q ++ [(B, d, t)]).length c4) (Q ++ [(B, d, t)]).length (slv (Q ++ [(B, d, t)])) := by
    rw [e, List.length_append]; exact ho
  refine ⟨h1, RowQ.of_own h1 fun x hx => ?_⟩
  rcases List.mem_append.1 hx with h | h
  · exact Vals.below (hq.tab x h) h4
  · rw [List.mem_singleton] at h; subst h; exact Vals.below ht h4
/-- What Add leaves behind. -/
def AddQ (q v cap d : Nat) (B : Option Addr) (Q : List (Option Addr × Nat × List Int)) (t : List Int) (w w' : World) : Prop :=
  ∃ A' c', RefSt w' q v cap A' (Q.length + 1) c' ∧ w'.ownsRow w.heap.size 29 1 (.slice A' (Q ++ [(B, d, t)]).length c') (Q ++ [(B, d, t)]).length (slv (Q ++ [(B, d, t)])) ∧ Fr (fun k => k = q) w w'
set_option maxHeartbeats 4000000 in
theorem refAdd_out (hs : RefSt w q v cap A Q.length c) (hq : RowQ w A Q) (ht : Ints w B t) (hv : v ≤ 6) (hL : AllLen (2 ^ v) (tq Q)) (htl : t.length = 2 ^ v) (hl : Q.length ≤ 4096) (hin : t ∉ tq Q) (hcap : cap ≤ 4096) :
    Calls Try.prog 43 #[.pointer (some ⟨q, 0, none⟩), .slice B t.length d] w fun e w' =>
      (cap < (nodesL (tq Q ++ [t]) v).length ∧ e = .returned (.int .i64 10) ∧ Below w.heap.size w w') ∨ ((nodesL (tq Q ++ [t]) v).length ≤ cap ∧ e = .returned (.int .i64 0) ∧ AddQ q v cap d B Q t w w') := by
  obtain ⟨i0, hi0, hz0, hz1, hz2⟩ := info_parts info_tab
  have h64 := pow7 hv
  have hF : Calls Try.prog 65 #[.slice A (tq Q).length c, .slice B t.length d] w fun e w' => e = .returned (.int .i64 (-1)) ∧ Below w.heap.size w w' := by
    refine (find_any A B (tq Q) t c d w hq.tabs ht (by rw [tq_len]; omega) (fun u hu => by have := hL u hu; omega)).mono ?_
    rintro e w' ⟨r, rfl, hr | ⟨hr, _⟩, hb⟩
    · refine absurd ?_ hin
      rw [← hr.2.2]
      exact tb_mem (by omega)
    · subst hr; exact ⟨rfl, hb⟩
  rw [tq_len] at hF
  have HF := Lib.hid hF
  have hAL : AllLen (2 ^ v) (tq (Q ++ [(B, d, t)])) := fun u hu => by
    rw [tq_snoc] at hu
    rcases List.mem_append.1 hu with h | h
    · exact hL u h
    · rw [List.mem_singleton] at h; rw [h]; exact htl
  have hN : ∀ w4 A4 c4, Below w.heap.size w w4 → w4.ownsRow w.heap.size 29 1 (.slice A4 (Q.length + 1) c4) (Q.length + 1) (slv Q ++ [.slice B t.length d]) → ∀ X, Below w4.heap.size w4 X →
      Calls Try.prog 45 #[.slice A4 (Q.length + 1) c4, .int .i64 v] X fun e w' => ∃ A' c', e = .returned (.slice A' (nodesL (tq Q ++ [t]) v).length c') ∧ Below X.heap.size X w' := fun w4 A4 c4 hb ho X hX => by
    have h1 := (row_snoc (w2 := w) (w3 := w) hq ht hb ho).2
    have := nodes_len A4 (tq (Q ++ [(B, d, t)])) c4 v w4 h1.tabs hv hAL (by rw [tq_len]; simp; omega) X hX
    rw [tq_len, List.length_append, tq_snoc] at this
    exact this
  have HN := Lib.hid hN
  have HSN := Lib.hid fun w4 A4 c4 hb ho => (row_snoc (d := d) (w2 := w) (w3 := w) (w4 := w4) (A4 := A4) (c4 := c4) hq ht hb ho).1
  have HSM := Lib.hid (slf_map Q)
  have HR := Lib.hid hq.row
  have HRS := Lib.hid hs
  have h0 := hs.c0
  have h1 := hs.c1
  have h2 := hs.c2
  have hql := hs.lt
  have hfz : w.frozen? ⟨q, 2, none⟩ = false := by unfold RefSt at hs; simp [World.frozen?, hs]
  have HT := Lib.hid htl
  unfold AddQ
  obtain ⟨M, hM⟩ : ∃ M, M = (nodesL (tq Q ++ [t]) v).length := ⟨_, rfl⟩
  rw [← hM] at HN ⊢
  clear hF hs hq hL hin hN hAL ht htl hM
  obtain ⟨n, hn⟩ : ∃ n, n = Q.length := ⟨_, rfl⟩
  rw [← hn] at HN HF HR HSN HSM h2 HRS hl ⊢
  clear hn
  by_cases hMc : cap < M
  · have hMi : (cap : Int) < (M : Int) := by omega
    go_enter Try.func43, Try.ntmps43
    go_wp2_with (first
      | (go_at_call 65; ((with_reducible refine HF.out.mono ?_); rintro e w2 ⟨rfl, hb2⟩); have hc2 : w2.cell? ⟨q, 2, none⟩ = some (.slice A n c) := (Below.cell hb2 hql).trans h2)
      | (at_builtin; refine wpList_copy rfl _ _ 39 rfl 29 i0 (.slice none 0 0) 24 Try.underlying39 hi0 hz0 hz1 hz2 rfl rfl A n c (slf Q) rfl (HR.out.below hb2) (fun j _ => slf_one Q j) (by unfold maxLen; omega) (by omega) ?_; intro A3 c3 w3 ho3 hc3 hb3)
      | (at_builtin; refine wpList_append_own_at _ rfl _ _ 39 rfl w.heap.size 29 i0 (.slice none 0 0) 1 24 Try.underlying39 hi0 hz0 hz1 hz2 rfl (by decide) _ _ _ rfl ((own_low ho3 hb2.size).alloc _) ⟨w3.heap.size, 0, none⟩ 1 1 [.slice B t.length d] rfl rfl (cell_one _ _ _) (by simp [Value.oneCell']) (by unfold maxLen; omega) (by omega) (by have := (stepB hb2 hb3).size; simp; omega) ?_; intro v' w4 hown' hgrow _ hob; obtain ⟨A4, c4, rfl, hc4⟩ := own_form hown'; rw [HSM.out] at hown'))
    have hb23 := stepB hb2 hb3
    have hb4 : Below w.heap.size w w4 := (bal hb23 _).grown hgrow (by have := hb23.size; simp; omega) (fun k hk => ((own_low ho3 hb2.size).lt k hk).1)
    have HN4 := Lib.hid (HN.out w4 A4 c4 hb4 hown')
    have HOW := Lib.hid hown'
    have g0 : w4.cell? ⟨q, 0, none⟩ = some (.int .i64 v) := (Below.cell hb4 hql).trans h0
    have g1 : w4.cell? ⟨q, 1, none⟩ = some (.int .i64 cap) := (Below.cell hb4 hql).trans h1
    have hqs : q < w4.heap.size := Nat.lt_of_lt_of_le hql hb4.size
    clear hown' hgrow hob ho3 hb23 hb3 hb2 hc2
    go_region_held3 (fun w' => w'.cell? ⟨q, 0, none⟩ = some (.int .i64 v) ∧ w'.cell? ⟨q, 1, none⟩ = some (.int .i64 cap) ∧ Below w4.heap.size w4 w')
      (first | exact ⟨g0, g1, (Below.refl _ _).drew⟩ | assumption)
      (first
        | (go_at_call 45; ((with_reducible refine (HN4.out w4.drew (Below.refl _ _).drew).mono ?_); rintro e w5 ⟨A5, c5, rfl, hb5⟩; have hS5 : w5.cell? ⟨q, 0, none⟩ = some (.int .i64 v) ∧ w5.cell? ⟨q, 1, none⟩ = some (.int .i64 cap) ∧ Below w4.heap.size w4 w5 := ⟨(Below.cell hb5 hqs).trans g0, (Below.cell hb5 hqs).trans g1, Below.trans ((Below.refl _ _).drew) hb5⟩)))
    obtain ⟨_, _, hb45⟩ := hS5
    have hb5' := stepB hb4 hb45
    go_wp2
    go_ret
    exact .inl ⟨hMc, rfl, hb5'⟩
  · have hMi : ¬ (cap : Int) < (M : Int) := by omega
    have dM : decide ((cap : Int) < (M : Int)) = false := decide_eq_false hMi
    go_enter Try.func43, Try.ntmps43
    go_wp2_with (first
      | (go_at_call 65; ((with_reducible refine HF.out.mono ?_); rintro e w2 ⟨rfl, hb2⟩); have hc2 : w2.cell? ⟨q, 2, none⟩ = some (.slice A n c) := (Below.cell hb2 hql).trans h2)
      | (at_builtin; refine wpList_copy rfl _ _ 39 rfl 29 i0 (.slice none 0 0) 24 Try.underlying39 hi0 hz0 hz1 hz2 rfl rfl A n c (slf Q) rfl (HR.out.below hb2) (fun j _ => slf_one Q j) (by unfold maxLen; omega) (by omega) ?_; intro A3 c3 w3 ho3 hc3 hb3)
      | (at_builtin; refine wpList_append_own_at _ rfl _ _ 39 rfl w.heap.size 29 i0 (.slice none 0 0) 1 24 Try.underlying39 hi0 hz0 hz1 hz2 rfl (by decide) _ _ _ rfl ((own_low ho3 hb2.size).alloc _) ⟨w3.heap.size, 0, none⟩ 1 1 [.slice B t.length d] rfl rfl (cell_one _ _ _) (by simp [Value.oneCell']) (by unfold maxLen; omega) (by omega) (by have := (stepB hb2 hb3).size; simp; omega) ?_; intro v' w4 hown' hgrow _ hob; obtain ⟨A4, c4, rfl, hc4⟩ := own_form hown'; rw [HSM.out] at hown'))
    have hb23 := stepB hb2 hb3
    have hb4 : Below w.heap.size w w4 := (bal hb23 _).grown hgrow (by have := hb23.size; simp; omega) (fun k hk => ((own_low ho3 hb2.size).lt k hk).1)
    have HN4 := Lib.hid (HN.out w4 A4 c4 hb4 hown')
    have HOW := Lib.hid hown'
    have g0 : w4.cell? ⟨q, 0, none⟩ = some (.int .i64 v) := (Below.cell hb4 hql).trans h0
    have g1 : w4.cell? ⟨q, 1, none⟩ = some (.int .i64 cap) := (Below.cell hb4 hql).trans h1
    have hqs : q < w4.heap.size := Nat.lt_of_lt_of_le hql hb4.size
    clear hown' hgrow hob ho3 hb23 hb3 hb2 hc2
    go_region_held3 (fun w' => w'.cell? ⟨q, 0, none⟩ = some (.int .i64 v) ∧ w'.cell? ⟨q, 1, none⟩ = some (.int .i64 cap) ∧ Below w4.heap.size w4 w')
      (first | exact ⟨g0, g1, (Below.refl _ _).drew⟩ | assumption)
      (first
        | (go_at_call 45; ((with_reducible refine (HN4.out w4.drew (Below.refl _ _).drew).mono ?_); rintro e w5 ⟨A5, c5, rfl, hb5⟩; have hS5 : w5.cell? ⟨q, 0, none⟩ = some (.int .i64 v) ∧ w5.cell? ⟨q, 1, none⟩ = some (.int .i64 cap) ∧ Below w4.heap.size w4 w5 := ⟨(Below.cell hb5 hqs).trans g0, (Below.cell hb5 hqs).trans g1, Below.trans ((Below.refl _ _).drew) hb5⟩)))
    obtain ⟨_, _, hb45⟩ := hS5
    have hb5' := stepB hb4 hb45
    have hq2 : w5.cell? ⟨q, 2, none⟩ = some (.slice A n c) := (Below.cell hb5' hql).trans h2
    have hs5 : RefSt w5 q v cap A n c := RefSt.below HRS.out hb5'
    have hfz5 : w5.frozen? ⟨q, 2, none⟩ = false := by have := hs5; unfold RefSt at this; simp [World.frozen?, this]
    have HS5 := Lib.hid hs5
    clear hs5
    go_wp2
    go_ret
    refine .inr ⟨by omega, rfl, A4, c4, heap_set HS5.out 2 _, ?_, ?_⟩
    · have h6 := own_bel (HSN.out w4 A4 c4 hb4 HOW.out) hb45
      exact ownsRow_setCell_below h6 hql _
    · exact ⟨hb5'.os, hb5'.tape, hb5'.output, by show _ ≤ (w5.heap.modify _ _).size; rw [Array.size_modify]; exact hb5'.size, fun k hk hn => (Below.heap_setCell _ _ _ _ hn).trans (hb5'.block k hk)⟩
end
end Go.Proofs.Ytbhfmeohaoojfaa.Dn
