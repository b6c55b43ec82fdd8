/- A run that only reads, or adds what it has. -/
import Derived.Test.YtbhfmeohaoojfaaVM
namespace Go.Proofs.Ytbhfmeohaoojfaa.Dn
open Go Go.RowKit Go.Proofs.Ytbhfmeohaoojfaa.Ap
open Go.Proofs.Ytbhfmeohaoojfaa.Dg
set_option linter.unusedVariables false
set_option maxRecDepth 100000
/-- The run, whatever row its nodes lie in. -/
def Same (w0 X : World) (qb sb cb rb tb mb v cap : Nat) (N : List Nd) (R : List Nat) (A : Option Addr) (c : Nat) (Q : List (Option Addr × Nat × List Int)) (rv : Value) (rs : List Nat) (tv : Value) (T : List (Option Addr × Nat × List Int)) : Prop :=
  ∃ nv, Run w0 X qb sb cb rb tb mb v cap nv N R A c Q rv rs tv T
section
variable {w0 X Y : World} {qb sb cb rb tb mb v cap c : Nat} {N : List Nd} {R : List Nat} {A : Option Addr} {Q : List (Option Addr × Nat × List Int)} {rv : Value} {rs : List Nat} {tv : Value} {T : List (Option Addr × Nat × List Int)}
theorem Same.below (h : Same w0 X qb sb cb rb tb mb v cap N R A c Q rv rs tv T) (hb : Below X.heap.size X Y) : Same w0 Y qb sb cb rb tb mb v cap N R A c Q rv rs tv T := by
  obtain ⟨nv, h⟩ := h
  exact ⟨nv, h.below hb⟩
theorem Same.bel (h : Same w0 X qb sb cb rb tb mb v cap N R A c Q rv rs tv T) : Below w0.heap.size w0 X := by
  obtain ⟨nv, h⟩ := h
  exact h.own.bel
theorem Same.cells (h : Same w0 X qb sb cb rb tb mb v cap N R A c Q rv rs tv T) : X.cell? ⟨qb, 0, none⟩ = some (.pointer (some ⟨sb, 0, none⟩)) ∧ X.cell? ⟨qb, 1, none⟩ = some (.pointer (some ⟨mb, 0, none⟩)) ∧ X.cell? ⟨qb, 2, none⟩ = some rv ∧ X.cell? ⟨qb, 3, none⟩ = some tv := by
  obtain ⟨nv, h⟩ := h
  exact h.law.cells
theorem Same.refs (h : Same w0 X qb sb cb rb tb mb v cap N R A c Q rv rs tv T) {A1 : Option Addr} {c1 : Nat} (e : rv = .slice A1 rs.length c1) : Vals X A1 rs.length fun j => .int .i64 ((rs.getD j 0 : Nat) : Int) := by
  obtain ⟨nv, h⟩ := h
  exact Vals.of_own (e ▸ h.law.rr) fun j hj => by
    rw [List.getElem?_map, List.getD_eq_getElem?_getD, List.getElem?_eq_getElem hj]; rfl
theorem Same.rform (h : Same w0 X qb sb cb rb tb mb v cap N R A c Q rv rs tv T) : ∃ A1 c1, rv = .slice A1 rs.length c1 := by
  obtain ⟨nv, h⟩ := h
  obtain ⟨A1, c1, e, _⟩ := own_form h.law.rr
  exact ⟨A1, c1, e⟩
theorem Same.nodes (h : Same w0 X qb sb cb rb tb mb v cap N R A c Q rv rs tv T) :
    Calls Try.prog 13 #[.pointer (some ⟨sb, 0, none⟩)] X fun e w' => e = .returned (.tuple #[.int .i64 (N.length : Nat), .int .i64 0]) ∧ Below X.heap.size X w' := by
  obtain ⟨nv, h⟩ := h
  exact Nodes_any X h.own.inv
theorem Same.table (h : Same w0 X qb sb cb rb tb mb v cap N R A c Q rv rs tv T) (i : Nat) (hi : i < rs.length) :
    Calls Try.prog 16 #[.pointer (some ⟨sb, 0, none⟩), .int .i64 (rs.getD i 0 : Nat)] X fun e w' =>
      ∃ g cc, e = .returned (.tuple #[.slice (some ⟨g, 0, none⟩) (2 ^ v) cc, .int .i64 0]) ∧ w'.ownsRow X.heap.size 3 1 (.slice (some ⟨g, 0, none⟩) (2 ^ v) cc) (2 ^ v) ((tabD v N (rs.getD i 0)).map (Value.int .i64)) ∧ Below X.heap.size X w' := by
  obtain ⟨nv, h⟩ := h
  exact Table_yes X h.own.inv _ (h.each i hi).1
theorem Same.from (h : Same w0 X qb sb cb rb tb mb v cap N R A c Q rv rs tv T) (i : Nat) (hi : i < rs.length) (B : Option Addr) (cc : Nat) (hB : TabI X B (tabD v N (rs.getD i 0))) :
    Calls Try.prog 31 #[.pointer (some ⟨sb, 0, none⟩), .slice B (2 ^ v) cc] X fun e w' => e = .returned (.tuple #[.int .i64 (rs.getD i 0 : Nat), .int .i64 0]) ∧ Same w0 w' qb sb cb rb tb mb v cap N R A c Q rv rs tv T ∧ Keeps X w' := by
  obtain ⟨nv, h⟩ := h
  have hl := tabD_len v N (rs.getD i 0)
  have hin := h.own.inv.ref _ (h.each i hi).1
  have hF := FromTable_yes X h.own.inv B (tabD v N (rs.getD i 0)) cc hB.k hl fun x hx => by rw [tabD_nd hx]; exact den_in h.own.inv.wf h.own.inv.fitv hin x
  rw [hl] at hF
  refine hF.mono fun e w' hp => ?_
  obtain ⟨he, nv', ho, hs⟩ := h.own.add hp
  rw [h.tie.known h.own.inv.len (h.each i hi).1 (by unfold tabV; exact (nd_ext (by simp [tabD_len]) fun x hx => by
    rw [tabD_len] at hx
    have := tabV_nd (v := v) (val := fun x => nd (tabD v N (rs.getD i 0)) x) hx
    unfold tabV at this
    exact this.symm))] at he ho
  exact ⟨he, ⟨nv', ho, h.law.step h.own.inv.mem hs, h.tie, h.len, h.each, h.all, h.qt⟩, h.own.inv.mem.keeps hs⟩
theorem Same.inj (h : Same w0 X qb sb cb rb tb mb v cap N R A c Q rv rs tv T) {i j : Nat} (hi : i < rs.length) (hj : j < rs.length) : (((rs.getD i 0 : Nat) : Int) == ((rs.getD j 0 : Nat) : Int)) = decide (tabD v N (rs.getD i 0) = tabD v N (rs.getD j 0)) := by
  obtain ⟨nv, h⟩ := h
  by_cases e : rs.getD i 0 = rs.getD j 0
  · rw [e, decide_eq_true rfl]; simp
  · rw [decide_eq_false fun e' => e (tabD_inj h.tie.wf h.tie.v6 (h.tie.ref _ (h.each i hi).1) (h.tie.ref _ (h.each j hj).1) e'), beq_eq_false_iff_ne]
    omega
theorem Same.len (h : Same w0 X qb sb cb rb tb mb v cap N R A c Q rv rs tv T) : N.length ≤ cap ∧ cap ≤ 4096 ∧ v ≤ 6 := by
  obtain ⟨nv, h⟩ := h
  exact ⟨h.own.inv.len, h.own.inv.cap4, h.own.inv.v6⟩
end
end Go.Proofs.Ytbhfmeohaoojfaa.Dn
