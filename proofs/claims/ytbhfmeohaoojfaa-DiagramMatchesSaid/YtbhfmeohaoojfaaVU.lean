/- What a run holds, against the reference. -/
import Derived.Test.YtbhfmeohaoojfaaVO
namespace Go.Proofs.Ytbhfmeohaoojfaa.Dn
open Go Go.RowKit Go.Proofs.Ytbhfmeohaoojfaa.Ap
open Go.Proofs.Ytbhfmeohaoojfaa.Dg
set_option linter.unusedVariables false
set_option maxRecDepth 100000
section
variable {w0 X Y : World} {qb sb cb rb tb mb v cap c : Nat} {nv : Value} {N : List Nd} {R : List Nat} {A : Option Addr} {Q : List (Option Addr × Nat × List Int)} {rv : Value} {rs : List Nat} {tv : Value} {T : List (Option Addr × Nat × List Int)}
theorem Run.tform (h : Run w0 X qb sb cb rb tb mb v cap nv N R A c Q rv rs tv T) : ∃ A3 c3, tv = .slice A3 rs.length c3 := by
  obtain ⟨A1, c1, e, _⟩ := own_form h.law.tr
  exact ⟨A1, c1, by rw [h.len]; exact e⟩
theorem Run.tabs (h : Run w0 X qb sb cb rb tb mb v cap nv N R A c Q rv rs tv T) {A3 : Option Addr} {c3 : Nat} (e : tv = .slice A3 rs.length c3) : Vals X A3 rs.length (slf T) := by
  have h1 := h.law.tr
  rw [e, h.len] at h1
  rw [h.len]
  exact (RowQ.of_own h1 fun q hq => (h.law.ttab q hq).1).row
theorem Run.tabAt (h : Run w0 X qb sb cb rb tb mb v cap nv N R A c Q rv rs tv T) {i : Nat} (hi : i < rs.length) : ∃ B d, slf T i = .slice B (2 ^ v) d ∧ TabI X B (tabD v N (rs.getD i 0)) := by
  obtain ⟨h1, h2⟩ := h.each i hi
  have hT : i < T.length := by rw [← h.len]; exact hi
  have e1 : Dg.tb (tq T) i = T[i].2.2 := by
    unfold Dg.tb tq
    rw [List.getD_eq_getElem?_getD, List.getElem?_map, List.getElem?_eq_getElem hT]; rfl
  have e2 : T[i].2.2 = tabD v N (rs.getD i 0) := by rw [← e1, ← h2]
  refine ⟨T[i].1, T[i].2.1, ?_, ?_⟩
  · rw [slf_at hT, e2, tabD_len]
  · rw [← e2]; exact h.law.ttab _ (List.getElem_mem hT)
theorem Run.refNodes (h : Run w0 X qb sb cb rb tb mb v cap nv N R A c Q rv rs tv T) (hT : T.length ≤ 1000) :
    Calls Try.prog 14 #[.pointer (some ⟨mb, 0, none⟩)] X fun e w' => e = .returned (.int .i64 (N.length : Nat)) ∧ Below X.heap.size X w' := by
  rw [h.tie.count]
  have hm := h.law.m
  rw [← tq_len] at hm
  exact refNodes_any mb v cap c A (tq Q) X hm h.law.rowQ.tabs h.tie.v6 h.tie.len (by rw [tq_len]; have := h.qt; omega)
theorem Run.refSize (h : Run w0 X qb sb cb rb tb mb v cap nv N R A c Q rv rs tv T) {i : Nat} (hi : i < rs.length) {B : Option Addr} {d : Nat} (hB : Ints X B (tabD v N (rs.getD i 0))) :
    Calls Try.prog 21 #[.pointer (some ⟨mb, 0, none⟩), .slice B (2 ^ v) d] X fun e w' => e = .returned (.int .i64 ((vis v N v [] (rs.getD i 0)).length : Nat)) ∧ Below X.heap.size X w' := by
  have hl := tabD_len v N (rs.getD i 0)
  have hr := h.tie.ref _ (h.each i hi).1
  rw [vis_count h.tie.wf h.tie.v6 hr]
  have := refSize_any mb v cap c Q.length d A B (tabD v N (rs.getD i 0)) X h.law.m hB (fun ad e => by
    obtain ⟨ad', e', h1, _⟩ := hB 0 (by rw [hl]; exact Nat.two_pow_pos v)
    rw [e] at e'
    cases e'
    exact h1) h.tie.v6 hl
  rw [hl] at this
  exact this
theorem Run.vars (h : Run w0 X qb sb cb rb tb mb v cap nv N R A c Q rv rs tv T) : Calls Try.prog 15 #[.pointer (some ⟨sb, 0, none⟩)] X fun e w' => e = .returned (.int .i64 v) ∧ Below X.heap.size X w' := Vars_any X h.own.inv
theorem Run.nodes (h : Run w0 X qb sb cb rb tb mb v cap nv N R A c Q rv rs tv T) : Calls Try.prog 13 #[.pointer (some ⟨sb, 0, none⟩)] X fun e w' => e = .returned (.tuple #[.int .i64 (N.length : Nat), .int .i64 0]) ∧ Below X.heap.size X w' := Nodes_any X h.own.inv
/-- Whatever a run's step does, the next run may be used anew. -/
theorem RunE.open (n : Nat) (h : RunE w0 X qb sb cb rb tb mb v cap n) : ∃ nv N R A c Q rv rs tv T, Run w0 X qb sb cb rb tb mb v cap nv N R A c Q rv rs tv T ∧ T.length ≤ n := h
end
end Go.Proofs.Ytbhfmeohaoojfaa.Dn
