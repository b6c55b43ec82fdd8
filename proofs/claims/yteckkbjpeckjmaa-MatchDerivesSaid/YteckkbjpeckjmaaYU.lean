/- Copies of blocks (package regex): what replaces a piece. -/
import Derived.Test.YteckkbjpeckjmaaYT
import Derived.Maps.AppendAt
import Derived.Deep.RegionLaw
import Derived.StillTailTactics
import Derived.Laws.EntriesVeiled
namespace Go.Proofs.Yteckkbjpeckjmaa.Rx
open Go Go.RowKit Go.Proofs.Yteckkbjpeckjmaa
set_option linter.unusedVariables false
set_option maxRecDepth 100000
/-- The piece that replaces another: itself (m = false), or the mirrored one. -/
def Rp (m : Bool) (x : Pc) : Pc := if m then (if x.op = 4 then ⟨4, x.p, x.q, x.b, x.a⟩ else ⟨revOp x.op, x.p, x.q, x.a, x.b⟩) else x
/-- The expression that comes out. -/
def Tp (m : Bool) (t : Ex) : Ex := if m then rev t else t
def repF (m : Bool) : Value := .func (.func (if m then 34 else 38)) #[] #[]
def agv (x : Pc) : Value := .agg #[.int .u8 x.op, .int .u8 x.p, .int .u8 x.q, .int .i64 x.a, .int .i64 x.b]
theorem same_any (x : Pc) (w : World) : Calls Try.prog 38 #[agv x] w fun e w' => e = .returned (agv x) ∧ Below w.heap.size w w' := by
  obtain ⟨op, p, q, a, b⟩ := x
  unfold agv
  simp only
  go_enter Try.func38, Try.ntmps38
  go_wp2
  exact bodyPost_ret (v := .agg #[.int .u8 op, .int .u8 p, .int .u8 q, .int .i64 a, .int .i64 b]) (by simp [results, Try.results38, go_sem]) rfl ⟨rfl, bal (bal (Below.refl _ _) _) _⟩
theorem ret_agv {x y : Pc} (h : x = y) : Ending.returned (agv x) = .returned (agv y) := by rw [h]
set_option maxHeartbeats 4000000 in
theorem mirrored_any (x : Pc) (w : World) : Calls Try.prog 34 #[agv x] w fun e w' => e = .returned (agv (Rp true x)) ∧ Below w.heap.size w w' := by
  obtain ⟨op, p, q, a, b⟩ := x
  by_cases h4 : op = 4
  · have e : Hid (Rp true ⟨op, p, q, a, b⟩ = ⟨4, p, q, b, a⟩) := by show _ = _; unfold Rp; simp [h4]
    subst h4
    unfold agv at *
    simp only
    go_enter Try.func34, Try.ntmps34
    go_wp2
    rw [e.out]
    exact bodyPost_ret (v := .agg #[.int .u8 4, .int .u8 p, .int .u8 q, .int .i64 b, .int .i64 a]) (by simp [results, Try.results34, go_sem]) rfl ⟨rfl, bal (bal (Below.refl _ _) _) _⟩
  · by_cases h9 : op = 9
    · have e : Hid (Rp true ⟨op, p, q, a, b⟩ = ⟨10, p, q, a, b⟩) := by show _ = _; unfold Rp; simp [h9, revOp]
      subst h9
      clear h4
      unfold agv at *
      simp only
      go_enter Try.func34, Try.ntmps34
      go_wp2
      rw [e.out]
      exact bodyPost_ret (v := .agg #[.int .u8 10, .int .u8 p, .int .u8 q, .int .i64 a, .int .i64 b]) (by simp [results, Try.results34, go_sem]) rfl ⟨rfl, bal (bal (Below.refl _ _) _) _⟩
    · by_cases h10 : op = 10
      · have e : Hid (Rp true ⟨op, p, q, a, b⟩ = ⟨9, p, q, a, b⟩) := by show _ = _; unfold Rp; simp [h10, revOp]
        subst h10
        clear h4 h9
        unfold agv at *
        simp only
        go_enter Try.func34, Try.ntmps34
        go_wp2
        rw [e.out]
        exact bodyPost_ret (v := .agg #[.int .u8 9, .int .u8 p, .int .u8 q, .int .i64 a, .int .i64 b]) (by simp [results, Try.results34, go_sem]) rfl ⟨rfl, bal (bal (Below.refl _ _) _) _⟩
      · have e : Hid (Rp true ⟨op, p, q, a, b⟩ = ⟨op, p, q, a, b⟩) := by show _ = _; unfold Rp; simp [h4, h9, h10, revOp]
        have n4 := nat_ne0 (n := op) (k := 4) (by omega)
        have n9 := nat_ne0 (n := op) (k := 9) (by omega)
        have n10 := nat_ne0 (n := op) (k := 10) (by omega)
        clear h4 h9 h10
        unfold agv at *
        simp only
        go_enter Try.func34, Try.ntmps34
        go_wp2
        rw [e.out]
        exact bodyPost_ret (v := .agg #[.int .u8 op, .int .u8 p, .int .u8 q, .int .i64 a, .int .i64 b]) (by simp [results, Try.results34, go_sem]) rfl ⟨rfl, bal (bal (Below.refl _ _) _) _⟩
theorem rep_any (m : Bool) (x : Pc) (w : World) : Calls Try.prog (if m then 34 else 38) #[agv x] w fun e w' => e = .returned (agv (Rp m x)) ∧ Below w.heap.size w w' := by
  cases m
  · exact same_any x w
  · exact mirrored_any x w
/-- Below the first world's end all lies as it lay, but the variable bb and the row that v owns; the row of v' is the same one, or new. -/
structure Fr (bb : Nat) (v v' : Value) (w w' : World) : Prop where
  os : w'.os = w.os
  tape : w'.tape = w.tape
  output : w'.output = w.output
  size : w.heap.size ≤ w'.heap.size
  block : ∀ k, k < w.heap.size → k ≠ bb → v.ownBlock ≠ some k → w'.heap[k]? = w.heap[k]?
  own : ∀ g, v'.ownBlock = some g → v.ownBlock = some g ∨ w.heap.size ≤ g
namespace Fr
variable {bb : Nat} {v v1 v2 : Value} {w w1 w2 : World}
theorem of_below (h : Below w.heap.size w w1) : Fr bb v v w w1 := ⟨h.os, h.tape, h.output, h.size, fun k hk _ _ => h.block k hk, fun g hg => .inl hg⟩
theorem trans (h : Fr bb v v1 w w1) (k : Fr bb v1 v2 w1 w2) : Fr bb v v2 w w2 := by
  refine ⟨k.os.trans h.os, k.tape.trans h.tape, k.output.trans h.output, Nat.le_trans h.size k.size, fun i hi hb ho => ?_, fun g hg => ?_⟩
  · refine (k.block i (Nat.lt_of_lt_of_le hi h.size) hb fun e => ?_).trans (h.block i hi hb ho)
    rcases h.own i e with e | e
    · exact ho e
    · omega
  · rcases k.own g hg with e | e
    · exact h.own g e
    · exact .inr (Nat.le_trans h.size e)
theorem set (h : Fr bb v v1 w w1) (p : Addr) (hp : p.block = bb ∨ w.heap.size ≤ p.block) (x : Value) : Fr bb v v1 w (w1.setCell p x) :=
  ⟨h.os, h.tape, h.output, by show _ ≤ (w1.heap.modify _ _).size; rw [Array.size_modify]; exact h.size, fun k hk hb ho => (Below.heap_setCell w1 p x k (by rcases hp with e | e <;> omega)).trans (h.block k hk hb ho), h.own⟩
theorem grown {o : Obj} (h : (w.alloc o).grownBy w1 v.ownBlock) (hob : v1.ownBlock = v.ownBlock ∨ v1.ownBlock = some (w.alloc o).heap.size) : Fr bb v v1 w w1 := by
  have hb := (Below.refl w.heap.size w).alloc (Nat.le_refl _) o
  refine ⟨h.os.trans hb.os, h.tape.trans hb.tape, h.output.trans hb.output, Nat.le_trans hb.size h.size, fun k hk _ ho => (h.block k (Nat.lt_of_lt_of_le hk hb.size) (fun e => ho e.symm)).trans (hb.block k hk), fun g hg => ?_⟩
  rcases hob with e | e
  · exact .inl (e ▸ hg)
  · rw [e] at hg
    cases hg
    exact .inr hb.size
theorem cell (h : Fr bb v v1 w w1) {p : Addr} (hp : p.block < w.heap.size) (hb : p.block ≠ bb) (ho : v.ownBlock ≠ some p.block) : w1.cell? p = w.cell? p := World.cell?_of_block (w := w) (h.block p.block hp hb ho)
/-- Below a world in which neither the variable nor the row lay, nothing has changed. -/
theorem below {B : Nat} (h : Fr bb v v1 w w1) (hB : B ≤ w.heap.size) (hb : B ≤ bb) (ho : ∀ g, v.ownBlock = some g → B ≤ g) : Below B w w1 :=
  ⟨h.os, h.tape, h.output, h.size, fun k hk => h.block k (by omega) (by omega) fun e => by have := ho k e; omega⟩
end Fr
end Go.Proofs.Yteckkbjpeckjmaa.Rx
