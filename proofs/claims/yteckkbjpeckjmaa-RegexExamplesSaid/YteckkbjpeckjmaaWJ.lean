/- Tables of expressions in a region that draws its order: what each slot holds. -/
import Derived.Test.YteckkbjpeckjmaaWI
import Derived.Test.YteckkbjpeckjmaaYZP
import Derived.Great.BuildSlice
import Derived.Laws.MakeOwn
namespace Go.Proofs.Yteckkbjpeckjmaa.Rx
open Go Go.RowKit Go.Proofs.Yteckkbjpeckjmaa Go.Proofs.Yteckkbjpeckjmaa.Wi
set_option linter.unusedVariables false
set_option maxRecDepth 100000
section
variable {P : Program} {o : Oper} {A : Act} {W : World} {K : Act → World → Prop} {Q : Exit → Act → World → Prop}
theorem op_build (t : TypeId) (parts : Array (Nat × Operand)) (ho : o.op = .build t parts) (cells : Array Value) (h : P.built t (parts.toList.map fun (i, x) => (i, A.eval x)) = some cells) (hK : K (A.put o.dst (.agg cells)) W) : o.wp P A W K Q := by
  rw [← Array.toList_map] at h
  unfold Oper.wp execOp
  simp only [ho, Sem.run_bind, run_build W t _ cells h, Result.andThen_ok]
  exact hK
theorem op_slice (t e : TypeId) (len : Nat) (parts : Array (Nat × Operand)) (ho : o.op = .buildSlice t len parts)
    (cells : Array Value) (ie : TypeInfo) (z : Value)
    (hu : P.underlying t = some (.slice e)) (hie : P.info? e = some ie) (hz : ie.zero = some z) (hsmall : ¬ len * ie.size > 2 ^ 24) (hpos : ¬ len * ie.size = 0)
    (hf : Instr.fill (fun i => some (i * ie.size, ie.size)) (madeCells z.cells (len * ie.size)) (parts.toList.map fun (i, x) => (i, A.eval x)) = some cells)
    (h : K (A.put o.dst (.slice (some ⟨W.heap.size, 0, none⟩) len len)) (W.alloc (.cells cells e))) : o.wp P A W K Q := by
  rw [← Array.toList_map] at hf
  exact wp_buildSlice t e len parts ho cells ie z hu hie hz hsmall hpos hf h
theorem op_make (t : TypeId) (l c : Operand) (ho : o.op = .makeSlice t l c) (v : Value) (W' : World) (h : (Instr.makeSlice t (A.eval l) (A.eval c)).run P W = .ok v W') (hK : K (A.put o.dst v) W') : o.wp P A W K Q := by
  unfold Oper.wp execOp
  simp only [ho, Sem.run_bind, h, Result.andThen_ok]
  exact hK
end
/-- A slice of the pieces l. -/
def SlcP (l : List Pc) (v : Value) (W : World) : Prop := ∃ A c, v = .slice A l.length c ∧ PcsAt W A l
theorem SlcP.nil (W : World) : SlcP [] (.slice none 0 0) W := ⟨none, 0, rfl, fun j hj => absurd hj (Nat.not_lt_zero j)⟩
theorem SlcP.below {l : List Pc} {v : Value} {W W' : World} (h : SlcP l v W) (hb : Below W.heap.size W W') : SlcP l v W' := by
  obtain ⟨A, c, e, h⟩ := h
  exact ⟨A, c, e, h.below hb⟩
/-- A row of the table: an expression, a number of variables and an error. -/
def RowP (l : List Pc) (v a : Int) (u : Value) (W : World) : Prop := ∃ A c, u = .agg #[.slice A l.length c, .int .i64 v, .int .i64 a] ∧ PcsAt W A l
theorem RowP.below {l : List Pc} {v a : Int} {u : Value} {W W' : World} (h : RowP l v a u W) (hb : Below W.heap.size W W') : RowP l v a u W' := by
  obtain ⟨A, c, e, h⟩ := h
  exact ⟨A, c, e, h.below hb⟩
/-- The table. -/
def TabP (rows : List (List Pc × Int × Int)) (u : Value) (W : World) : Prop :=
  ∃ ad : Addr, u = .slice (some ad) rows.length rows.length ∧ ad.block < W.heap.size ∧ ∀ r l v a, rows[r]? = some (l, v, a) → ∃ A c, PcsAt W A l ∧ W.cell? (ad.add (r * 3)) = some (.slice A l.length c) ∧ W.cell? ⟨(ad.add (r * 3)).block, (ad.add (r * 3)).off + 1, none⟩ = some (.int .i64 v) ∧ W.cell? ⟨(ad.add (r * 3)).block, (ad.add (r * 3)).off + 2, none⟩ = some (.int .i64 a)
theorem TabP.below {rows : List (List Pc × Int × Int)} {u : Value} {W W' : World} (h : TabP rows u W) (hb : Below W.heap.size W W') : TabP rows u W' := by
  obtain ⟨ad, e, hlt, h⟩ := h
  refine ⟨ad, e, Nat.lt_of_lt_of_le hlt hb.size, fun r l v a hr => ?_⟩
  obtain ⟨A, c, h1, h2, h3, h4⟩ := h r l v a hr
  have hB : (ad.add (r * 3)).block < W.heap.size := by rw [addr_block]; exact hlt
  exact ⟨A, c, h1.below hb, (Below.cell hb (p := ad.add (r * 3)) hB).trans h2, (Below.cell hb (p := ⟨(ad.add (r * 3)).block, (ad.add (r * 3)).off + 1, none⟩) hB).trans h3, (Below.cell hb (p := ⟨(ad.add (r * 3)).block, (ad.add (r * 3)).off + 2, none⟩) hB).trans h4⟩
def okP (x : Pc) : Bool := decide (x.op < 256) && decide (x.p < 256) && decide (x.q < 256) && decide (-9223372036854775808 ≤ x.a ∧ x.a ≤ 9223372036854775807) && decide (-9223372036854775808 ≤ x.b ∧ x.b ≤ 9223372036854775807)
theorem fine_of {l : List Pc} (h : l.all okP = true) : ∀ x ∈ l, PcOk x := fun x hx => by
  have := List.all_eq_true.1 h x hx
  simp only [okP, Bool.and_eq_true, decide_eq_true_iff] at this
  exact ⟨this.1.1.1.1, this.1.1.1.2, this.1.1.2, this.1.2, this.2⟩
theorem made_pcs (n : Nat) (hn : n ≤ 1000) (hc : madeCells (Value.agg #[.int .u8 0, .int .u8 0, .int .u8 0, .int .i64 0, .int .i64 0]).cells (n * 5) = (pvs (List.replicate n ⟨0, 0, 0, 0, 0⟩)).toArray) (W : World) : (Instr.makeSlice 27 (.int .i64 (n : Int)) (.int .i64 (n : Int))).run Try.prog W = .ok (.slice (some ⟨W.heap.size, 0, none⟩) n n) (W.alloc (.cells (pvs (List.replicate n ⟨0, 0, 0, 0, 0⟩)).toArray 32)) := by
  obtain ⟨i0, hi, hz0, hz1, hz2⟩ := info_parts info_piece
  have := run_makeSlice (P := Try.prog) W 27 32 i0 _ Try.underlying27 hi hz0 .i64 .i64 (n : Int) (n : Int) (by omega) (Int.le_refl _) (by rw [hz1]; omega) (by rw [hz2]; omega) (by omega)
  rw [this, hz1, Int.toNat_natCast, hc]
theorem made65 (W : World) : (Instr.makeSlice 27 (.int .i64 65) (.int .i64 65)).run Try.prog W = .ok (.slice (some ⟨W.heap.size, 0, none⟩) 65 65) (W.alloc (.cells (pvs (List.replicate 65 ⟨0, 0, 0, 0, 0⟩)).toArray 32)) := made_pcs 65 (by decide) (by kernel_rfl) W
theorem made64 (W : World) : (Instr.makeSlice 27 (.int .i64 64) (.int .i64 64)).run Try.prog W = .ok (.slice (some ⟨W.heap.size, 0, none⟩) 64 64) (W.alloc (.cells (pvs (List.replicate 64 ⟨0, 0, 0, 0, 0⟩)).toArray 32)) := made_pcs 64 (by decide) (by kernel_rfl) W
/-- What a slot holds. -/
inductive Rec where
  | lit (v : Value)
  | slc (l : List Pc)
  | row (l : List Pc) (v a : Int)
  | tab (rows : List (List Pc × Int × Int))
  | any
def Rec.holds : Rec → Value → World → Prop
  | .lit u, v, _ => v = u
  | .slc l, v, W => SlcP l v W
  | .row l x a, v, W => RowP l x a v W
  | .tab rows, v, W => TabP rows v W
  | .any, _, _ => True
theorem Rec.below : ∀ (r : Rec) {v : Value} {W W' : World}, r.holds v W → Below W.heap.size W W' → r.holds v W'
  | .lit _, _, _, _, h, _ => h
  | .slc _, _, _, _, h, hb => SlcP.below h hb
  | .row _ _ _, _, _, _, h, hb => RowP.below h hb
  | .tab _, _, _, _, h, hb => TabP.below h hb
  | .any, _, _, _, h, _ => h
theorem info_row : (Try.prog.info? 30).map (fun i => (i.zero, i.size, i.bytes)) = some (some (.agg #[.slice none 0 0, .int .i64 0, .int .i64 0]), 3, 40) := by kernel_rfl
theorem cell_new (W : World) (cs : List Value) (t : TypeId) (k : Nat) (v : Value) (h : cs[k]? = some v) : (W.alloc (.cells cs.toArray t)).cell? ((⟨W.heap.size, 0, none⟩ : Addr).add k) = some v := by
  rw [Ap.addr_add, World.cell?_alloc_at _ _ _ _ rfl]
  simpa using h
theorem cell_newf (W : World) (cs : List Value) (t : TypeId) (k f : Nat) (v : Value) (h : cs[k + f]? = some v) : (W.alloc (.cells cs.toArray t)).cell? ⟨((⟨W.heap.size, 0, none⟩ : Addr).add k).block, ((⟨W.heap.size, 0, none⟩ : Addr).add k).off + f, none⟩ = some v := by
  rw [Ap.addr_add, World.cell?_alloc_at _ _ _ _ rfl]
  simpa using h
end Go.Proofs.Yteckkbjpeckjmaa.Rx
