/- The rows of NfaExamples, what its slots hold, and what the program answers at a row. -/
import Derived.Test.YteckkbjpeckjmaaDoorWI
import Derived.Test.YteckkbjpeckjmaaDoorGE
import Derived.Test.YteckkbjpeckjmaaDoorTQ
import Derived.Great.BuildSlice
import Derived.Laws.MakeOwn
namespace Go.Proofs.YteckkbjpeckjmaaDoor.Nf
open Go Go.RowKit Go.Proofs.YteckkbjpeckjmaaDoor Go.Proofs.YteckkbjpeckjmaaDoor.Cb
set_option linter.unusedVariables false
set_option linter.unusedSectionVars false
set_option linter.unusedSimpArgs false
set_option maxRecDepth 100000
set_option maxHeartbeats 4000000 in
theorem Union_badT (n m : Na) (A B C D E F : Option Addr) (a b c d e f : Nat) (w : World) (hx : NaAt w n A B C) (hl : NaLen n) (hy : NaAt w m D E F) (hk : NaLen m) (h0 : uniE n m ≠ 0) :
    Calls Tryd.prog 9 #[.agg #[.int .i64 n.V, .int .i64 n.S, .slice A n.st.length a, .slice B n.fi.length b, .slice C n.es.length c], .agg #[.int .i64 m.V, .int .i64 m.S, .slice D m.st.length d, .slice E m.fi.length e, .slice F m.es.length f]] w fun r w' => r = .returned (.tuple #[.agg #[.int .i64 0, .int .i64 0, .slice none 0 0, .slice none 0 0, .slice none 0 0], .int .i64 (uniE n m)]) ∧ Below w.heap.size w w' := by
  have hB0 := bal (bal (bal (Below.refl w.heap.size w) (.cells #[.int .i64 n.V, .int .i64 n.S, .slice A n.st.length a, .slice B n.fi.length b, .slice C n.es.length c] 26)) (.cells #[.int .i64 m.V, .int .i64 m.S, .slice D m.st.length d, .slice E m.fi.length e, .slice F m.es.length f] 26)) (.cells #[.int .i64 0, .int .i64 0, .slice none 0 0, .slice none 0 0, .slice none 0 0] 26)
  have hR0 := Blk.new ((w.alloc (.cells #[.int .i64 n.V, .int .i64 n.S, .slice A n.st.length a, .slice B n.fi.length b, .slice C n.es.length c] 26)).alloc (.cells #[.int .i64 m.V, .int .i64 m.S, .slice D m.st.length d, .slice E m.fi.length e, .slice F m.es.length f] 26)) (.int .i64 0) (.int .i64 0) (.slice none 0 0) (.slice none 0 0) (.slice none 0 0)
  have hN0 := ((Blk.new w (.int .i64 n.V) (.int .i64 n.S) (.slice A n.st.length a) (.slice B n.fi.length b) (.slice C n.es.length c)).below (bal (Below.refl _ _) (.cells #[.int .i64 m.V, .int .i64 m.S, .slice D m.st.length d, .slice E m.fi.length e, .slice F m.es.length f] 26))).below (bal (Below.refl _ _) (.cells #[.int .i64 0, .int .i64 0, .slice none 0 0, .slice none 0 0, .slice none 0 0] 26))
  have hM0 := (Blk.new (w.alloc (.cells #[.int .i64 n.V, .int .i64 n.S, .slice A n.st.length a, .slice B n.fi.length b, .slice C n.es.length c] 26)) (.int .i64 m.V) (.int .i64 m.S) (.slice D m.st.length d) (.slice E m.fi.length e) (.slice F m.es.length f)).below (bal (Below.refl _ _) (.cells #[.int .i64 0, .int .i64 0, .slice none 0 0, .slice none 0 0, .slice none 0 0] 26))
  simp only [World.size_alloc] at hR0 hM0
  have HC := Lib.hid fun X (hX : Below w.heap.size w X) => checkUnion_any n m A B C D E F a b c d e f X (hx.below hX) hl (hy.below hX) hk
  have hne : (uniE n m != 0) = true := by rw [bne_iff_ne]; exact h0
  clear hx hl hy hk h0
  generalize uniE n m = E0 at *
  go_enter Tryd.func9, Tryd.ntmps9
  obtain ⟨z0, z1, z2, z3, z4⟩ := hN0.cells
  obtain ⟨t0, t1, t2, t3, t4⟩ := hM0.cells
  go_wp2_with (first
    | (go_at_call 42; ((with_reducible refine (HC.out _ hB0).mono ?_); rintro r w2 ⟨rfl, hb2⟩); clear z0 z1 z2 z3 z4 t0 t1 t2 t3 t4; replace hR0 := hR0.below hb2; replace hB0 := stepB hB0 hb2; obtain ⟨⟨p0, f0⟩, ⟨p1, f1⟩, ⟨p2, f2⟩, ⟨p3, f3⟩, ⟨p4, f4⟩, hR5, hB5, _⟩ := store5 hR0 (.int .i64 0) (.int .i64 0) (.slice none 0 0) (.slice none 0 0) (.slice none 0 0); have HF := Lib.hid (And.intro hR5.cells (hB5 w.heap.size (by omega))); clear hR5 hB5))
  obtain ⟨⟨y0, y1, y2, y3, y4⟩, hb5⟩ := HF.out
  unfold put5 at y0 y1 y2 y3 y4 hb5
  refine bodyPost_ret (v := .tuple #[.agg #[.int .i64 0, .int .i64 0, .slice none 0 0, .slice none 0 0, .slice none 0 0], .int .i64 E0]) (by simp [results, Tryd.results9, go_sem, y0, y1, y2, y3, y4]) rfl ?_
  exact ⟨rfl, hB0.trans hb5⟩
theorem uni_zeroT {n m : Na} (h : uniE n m = 0) : chkN n = 0 ∧ chkN m = 0 ∧ n.V = m.V ∧ n.S + m.S ≤ 64 ∧ n.es.length + m.es.length ≤ 512 := by
  unfold uniE at h
  by_cases h1 : chkN n = 0
  · by_cases h2 : chkN m = 0
    · rw [if_neg (by omega), if_neg (by omega)] at h
      by_cases h3 : n.V = m.V
      · rw [if_neg (by omega)] at h
        by_cases h4 : n.S + m.S ≤ 64 ∧ n.es.length + m.es.length ≤ 512
        · exact ⟨h1, h2, h3, h4.1, h4.2⟩
        · rw [if_pos h4] at h; cases h
      · rw [if_pos h3] at h; cases h
    · rw [if_neg (by omega), if_pos h2] at h; exact absurd h h2
  · rw [if_pos h1] at h; exact absurd h h1
theorem asc_le {S : Int} {l : List Int} (h : asc S l = true) (h0 : 0 ≤ S) (h6 : S ≤ 64) : l.length ≤ 100 := by
  obtain ⟨h1, h2⟩ := asc_pw.1 h
  have := us_len h1 h2 h0
  omega
/-- Union answers with an automaton and its error. -/
theorem Union_ex (n m : Na) (A B C D E F : Option Addr) (a b c d e f : Nat) (w : World) (hx : NaAt w n A B C) (hl : NaLen n) (hy : NaAt w m D E F) (hk : NaLen m) :
    Calls Tryd.prog 9 #[.agg #[.int .i64 n.V, .int .i64 n.S, .slice A n.st.length a, .slice B n.fi.length b, .slice C n.es.length c], .agg #[.int .i64 m.V, .int .i64 m.S, .slice D m.st.length d, .slice E m.fi.length e, .slice F m.es.length f]] w fun r w' => ∃ (V S : Int) (A' B' C' : Option Addr) (p a' q b' k c' : Nat), r = .returned (.tuple #[.agg #[.int .i64 V, .int .i64 S, .slice A' p a', .slice B' q b', .slice C' k c'], .int .i64 (uniE n m)]) ∧ Below w.heap.size w w' := by
  by_cases h0 : uniE n m = 0
  · obtain ⟨hn, hm, _⟩ := uni_zeroT h0
    have o1 := ok_of hn
    have o2 := ok_of hm
    refine (Union_good n m A B C D E F a b c d e f w hx hl hy hk h0 hn hm ⟨asc_le o1.st o1.s0 o1.s64, asc_le o1.fi o1.s0 o1.s64, asc_le o2.st o2.s0 o2.s64, asc_le o2.fi o2.s0 o2.s64⟩).mono ?_
    rintro r w' ⟨A', B', C', a', b', c', rfl, h1, _⟩
    rw [h0]
    exact ⟨_, _, _, _, _, _, _, _, _, _, _, rfl, h1⟩
  · refine (Union_badT n m A B C D E F a b c d e f w hx hl hy hk h0).mono ?_
    rintro r w' ⟨rfl, h1⟩
    exact ⟨_, _, _, _, _, _, _, _, _, _, _, rfl, h1⟩
theorem Trim_ex (n : Na) (A B C : Option Addr) (a b c : Nat) (w : World) (hx : NaAt w n A B C) (hl : NaLen n) (hT : Tab w) :
    Calls Tryd.prog 8 #[.agg #[.int .i64 n.V, .int .i64 n.S, .slice A n.st.length a, .slice B n.fi.length b, .slice C n.es.length c]] w fun r w' => ∃ (V S : Int) (A' B' C' : Option Addr) (p a' q b' k c' : Nat), r = .returned (.tuple #[.agg #[.int .i64 V, .int .i64 S, .slice A' p a', .slice B' q b', .slice C' k c'], .int .i64 (chkN n)]) ∧ Below w.heap.size w w' := by
  by_cases h0 : chkN n = 0
  · refine (Trim_good n A B C a b c w hx hl h0 hT).mono ?_
    rintro r w' ⟨us, A', B', C', a', b', c', _, _, rfl, h1, _⟩
    rw [h0]
    exact ⟨_, _, _, _, _, _, _, _, _, _, _, rfl, h1⟩
  · refine (Trim_bad n A B C a b c w hx hl h0).mono ?_
    rintro r w' ⟨rfl, h1⟩
    exact ⟨_, _, _, _, _, _, _, _, _, _, _, rfl, h1⟩
end Go.Proofs.YteckkbjpeckjmaaDoor.Nf
namespace Go.Proofs.YteckkbjpeckjmaaDoor.Nx
open Go Go.RowKit Go.Proofs.YteckkbjpeckjmaaDoor Go.Proofs.YteckkbjpeckjmaaDoor.Wi Go.Proofs.YteckkbjpeckjmaaDoor.Nf
set_option linter.unusedVariables false
set_option linter.unusedSectionVars false
set_option maxRecDepth 100000
section
variable {P : Program} {o : Oper} {A : Act} {W : World} {K : Act → World → Prop} {Q : Exit → Act → World → Prop}
theorem op_build (t : TypeId) (parts : Array (Nat × Operand)) (ho : o.op = .build t parts) (cells : Array Value) (h : P.built t (parts.toList.map fun (i, x) => (i, A.eval x)) = some cells) (hK : K (A.put o.dst (.agg cells)) W) : o.wp P A W K Q := by
  rw [← Array.toList_map] at h
  unfold Oper.wp execOp
  simp only [ho, Sem.run_bind, run_build W t _ cells h, Result.andThen_ok]
  exact hK
theorem op_slice (t e : TypeId) (len : Nat) (parts : Array (Nat × Operand)) (ho : o.op = .buildSlice t len parts)
    (cells : Array Value) (ie : TypeInfo) (z : Value)
    (hu : P.underlying t = some (.slice e)) (hie : P.info? e = some ie) (hz : ie.zero = some z) (hsmall : ¬ len * ie.size > 2 ^ 24) (hpos : ¬ len * ie.size = 0)
    (hf : Instr.fill (fun i => some (i * ie.size, ie.size)) (madeCells z.cells (len * ie.size)) (parts.toList.map fun (i, x) => (i, A.eval x)) = some cells)
    (h : K (A.put o.dst (.slice (some ⟨W.heap.size, 0, none⟩) len len)) (W.alloc (.cells cells e))) : o.wp P A W K Q := by
  rw [← Array.toList_map] at hf
  exact wp_buildSlice t e len parts ho cells ie z hu hie hz hsmall hpos hf h
theorem op_make (t : TypeId) (l c : Operand) (ho : o.op = .makeSlice t l c) (v : Value) (W' : World) (h : (Instr.makeSlice t (A.eval l) (A.eval c)).run P W = .ok v W') (hK : K (A.put o.dst v) W') : o.wp P A W K Q := by
  unfold Oper.wp execOp
  simp only [ho, Sem.run_bind, h, Result.andThen_ok]
  exact hK
end
def IntP (l : List Int) (v : Value) (W : World) : Prop := ∃ A c, v = .slice A l.length c ∧ Ints W A l
def EdgP (l : List Ed) (v : Value) (W : World) : Prop := ∃ A c, v = .slice A l.length c ∧ EdsAt W A l
def NfaP (n : Na) (v : Value) (W : World) : Prop := ∃ A B C a b c, v = .agg #[.int .i64 n.V, .int .i64 n.S, .slice A n.st.length a, .slice B n.fi.length b, .slice C n.es.length c] ∧ NaAt W n A B C
def RowP (n : Na) (e : Int) (v : Value) (W : World) : Prop := ∃ A B C a b c, v = .agg #[.int .i64 n.V, .int .i64 n.S, .slice A n.st.length a, .slice B n.fi.length b, .slice C n.es.length c, .int .i64 e] ∧ NaAt W n A B C
/-- The table. -/
def TabX (rows : List (Na × Int)) (u : Value) (W : World) : Prop :=
  ∃ ad : Addr, u = .slice (some ad) rows.length rows.length ∧ ad.block < W.heap.size ∧ ∀ r n e, rows[r]? = some (n, e) → ∃ A B C a b c, NaAt W n A B C ∧ W.cell? (ad.add (r * 6)) = some (.int .i64 n.V) ∧ W.cell? ⟨(ad.add (r * 6)).block, (ad.add (r * 6)).off + 1, none⟩ = some (.int .i64 n.S) ∧ W.cell? ⟨(ad.add (r * 6)).block, (ad.add (r * 6)).off + 2, none⟩ = some (.slice A n.st.length a) ∧ W.cell? ⟨(ad.add (r * 6)).block, (ad.add (r * 6)).off + 3, none⟩ = some (.slice B n.fi.length b) ∧ W.cell? ⟨(ad.add (r * 6)).block, (ad.add (r * 6)).off + 4, none⟩ = some (.slice C n.es.length c) ∧ W.cell? ⟨(ad.add (r * 6)).block, (ad.add (r * 6)).off + 5, none⟩ = some (.int .i64 e)
theorem TabX.below {rows : List (Na × Int)} {u : Value} {W W' : World} (h : TabX rows u W) (hb : Below W.heap.size W W') : TabX rows u W' := by
  obtain ⟨ad, e, hlt, h⟩ := h
  refine ⟨ad, e, Nat.lt_of_lt_of_le hlt hb.size, fun r n v hr => ?_⟩
  obtain ⟨A, B, C, a, b, c, h1, h2, h3, h4, h5, h6, h7⟩ := h r n v hr
  have hB : (ad.add (r * 6)).block < W.heap.size := by rw [addr_block]; exact hlt
  exact ⟨A, B, C, a, b, c, h1.below hb, (Below.cell hb (p := ad.add (r * 6)) hB).trans h2, (Below.cell hb (p := ⟨(ad.add (r * 6)).block, (ad.add (r * 6)).off + 1, none⟩) hB).trans h3, (Below.cell hb (p := ⟨(ad.add (r * 6)).block, (ad.add (r * 6)).off + 2, none⟩) hB).trans h4, (Below.cell hb (p := ⟨(ad.add (r * 6)).block, (ad.add (r * 6)).off + 3, none⟩) hB).trans h5, (Below.cell hb (p := ⟨(ad.add (r * 6)).block, (ad.add (r * 6)).off + 4, none⟩) hB).trans h6, (Below.cell hb (p := ⟨(ad.add (r * 6)).block, (ad.add (r * 6)).off + 5, none⟩) hB).trans h7⟩
/-- What a slot holds. -/
inductive Rec where
  | lit (v : Value)
  | ints (l : List Int)
  | edges (l : List Ed)
  | nfa (n : Na)
  | row (n : Na) (e : Int)
  | tab (rows : List (Na × Int))
  | any
def Rec.holds : Rec → Value → World → Prop
  | .lit u, v, _ => v = u
  | .ints l, v, W => IntP l v W
  | .edges l, v, W => EdgP l v W
  | .nfa n, v, W => NfaP n v W
  | .row n e, v, W => RowP n e v W
  | .tab rows, v, W => TabX rows v W
  | .any, _, _ => True
theorem Rec.below : ∀ (r : Rec) {v : Value} {W W' : World}, r.holds v W → Below W.heap.size W W' → r.holds v W'
  | .lit _, _, _, _, h, _ => h
  | .ints _, _, _, _, ⟨A, c, e, h⟩, hb => ⟨A, c, e, h.below hb⟩
  | .edges _, _, _, _, ⟨A, c, e, h⟩, hb => ⟨A, c, e, h.below hb⟩
  | .nfa _, _, _, _, ⟨A, B, C, a, b, c, e, h⟩, hb => ⟨A, B, C, a, b, c, e, h.below hb⟩
  | .row _ _, _, _, _, ⟨A, B, C, a, b, c, e, h⟩, hb => ⟨A, B, C, a, b, c, e, h.below hb⟩
  | .tab _, _, _, _, h, hb => TabX.below h hb
  | .any, _, _, _, h, _ => h
theorem info_rowX : (Tryd.prog.info? 28).map (fun i => (i.zero, i.size, i.bytes)) = some (some (.agg #[.int .i64 0, .int .i64 0, .slice none 0 0, .slice none 0 0, .slice none 0 0, .int .i64 0]), 6, 96) := by kernel_rfl
theorem info_intX : (Tryd.prog.info? 3).map (fun i => (i.zero, i.size, i.bytes)) = some (some (.int .i64 0), 1, 8) := by kernel_rfl
theorem cell_new (W : World) (cs : List Value) (t : TypeId) (k : Nat) (v : Value) (h : cs[k]? = some v) : (W.alloc (.cells cs.toArray t)).cell? ((⟨W.heap.size, 0, none⟩ : Addr).add k) = some v := by
  rw [addr_add, World.cell?_alloc_at _ _ _ _ rfl]
  simpa using h
theorem cell_newf (W : World) (cs : List Value) (t : TypeId) (k f : Nat) (v : Value) (h : cs[k + f]? = some v) : (W.alloc (.cells cs.toArray t)).cell? ⟨((⟨W.heap.size, 0, none⟩ : Addr).add k).block, ((⟨W.heap.size, 0, none⟩ : Addr).add k).off + f, none⟩ = some v := by
  rw [addr_add, World.cell?_alloc_at _ _ _ _ rfl]
  simpa using h
def okX (x : Ed) : Bool := decide (-9223372036854775808 ≤ x.fr ∧ x.fr ≤ 9223372036854775807) && decide (-9223372036854775808 ≤ x.to ∧ x.to ≤ 9223372036854775807) && decide (x.p < 256) && decide (x.q < 256)
theorem edfine {l : List Ed} (h : l.all okX = true) : ∀ x ∈ l, EdOk x := fun x hx => by
  have := List.all_eq_true.1 h x hx
  simp only [okX, Bool.and_eq_true, decide_eq_true_iff] at this
  exact ⟨this.1.1.1, this.1.1.2, this.1.2, this.2⟩
theorem zfine (k : Nat) : ∀ x ∈ (List.replicate k ⟨0, 0, 0, 0⟩ : List Ed), EdOk x := fun x hx => by
  obtain rfl := List.eq_of_mem_replicate hx
  exact ⟨by constructor <;> decide, by constructor <;> decide, by decide, by decide⟩
def zEdge : Array Value := #[.int .i64 0, .int .i64 0, .int .u8 0, .int .u8 0]
theorem made_at (m k : Nat) (h : m < k) : (madeCells zEdge k)[m]? = some (zEdge[m % 4]!) := by
  unfold madeCells
  rw [Array.getElem?_map, Array.getElem?_range]
  simp [h, zEdge]
theorem addr_addo (b o j : Nat) : (⟨b, o, none⟩ : Addr).add j = ⟨b, o + j, none⟩ := by
  cases j <;> simp [Addr.add]
theorem eds_made (W : World) (n : Nat) : EdsAt (W.alloc (.cells (madeCells zEdge (n * 4)) 30)) (some ⟨W.heap.size, 0, none⟩) (List.replicate n ⟨0, 0, 0, 0⟩) := by
  intro j hj
  rw [List.length_replicate] at hj
  have he : ed (List.replicate n ⟨0, 0, 0, 0⟩) j = ⟨0, 0, 0, 0⟩ := by
    unfold ed
    rw [List.getD_eq_getElem?_getD, List.getElem?_replicate, if_pos hj]
    rfl
  rw [he]
  refine ⟨⟨by constructor <;> decide, by constructor <;> decide, by decide, by decide⟩, _, rfl, by simp, fun i v hv => ?_⟩
  have hi : i < 4 := by
    have := (List.getElem?_eq_some_iff.1 hv).1
    simpa [ev] using this
  rw [addr_add, addr_addo]
  rw [World.cell?_alloc_at _ _ _ _ rfl]
  have h2 := made_at (j * 4 + i) (n * 4) (by omega)
  rw [show (j * 4 + i) % 4 = i by omega] at h2
  rw [h2]
  rcases (by omega : i = 0 ∨ i = 1 ∨ i = 2 ∨ i = 3) with rfl | rfl | rfl | rfl <;> exact hv
theorem made_eds (n : Nat) (hn : n ≤ 1000) (W : World) : (Instr.makeSlice 24 (.int .i64 (n : Int)) (.int .i64 (n : Int))).run Tryd.prog W = .ok (.slice (some ⟨W.heap.size, 0, none⟩) n n) (W.alloc (.cells (madeCells zEdge (n * 4)) 30)) := by
  obtain ⟨i0, hi, hz0, hz1, hz2⟩ := info_parts info_edge
  have := run_makeSlice (P := Tryd.prog) W 24 30 i0 _ Tryd.underlying24 hi hz0 .i64 .i64 (n : Int) (n : Int) (by omega) (Int.le_refl _) (by rw [hz1]; omega) (by rw [hz2]; omega) (by omega)
  rw [this, hz1, Int.toNat_natCast]
  rfl
theorem made510 (W : World) : (Instr.makeSlice 24 (.int .i64 510) (.int .i64 510)).run Tryd.prog W = .ok (.slice (some ⟨W.heap.size, 0, none⟩) 510 510) (W.alloc (.cells (madeCells zEdge (510 * 4)) 30)) := made_eds 510 (by decide) W
theorem made512 (W : World) : (Instr.makeSlice 24 (.int .i64 512) (.int .i64 512)).run Tryd.prog W = .ok (.slice (some ⟨W.heap.size, 0, none⟩) 512 512) (W.alloc (.cells (madeCells zEdge (512 * 4)) 30)) := made_eds 512 (by decide) W
theorem made513 (W : World) : (Instr.makeSlice 24 (.int .i64 513) (.int .i64 513)).run Tryd.prog W = .ok (.slice (some ⟨W.heap.size, 0, none⟩) 513 513) (W.alloc (.cells (madeCells zEdge (513 * 4)) 30)) := made_eds 513 (by decide) W
def rowsX : List (Na × Int) := [(⟨0, 0, [], [], []⟩, 0), (⟨-1, -1, [], [], []⟩, 7), (⟨7, 0, [], [], []⟩, 7), (⟨0, -1, [], [], (List.replicate 513 ⟨0, 0, 0, 0⟩)⟩, 1), (⟨0, 64, [], [], (List.replicate 512 ⟨0, 0, 0, 0⟩)⟩, 0), (⟨0, 65, [-1], [], []⟩, 4), (⟨0, 1, [], [], (List.replicate 513 ⟨0, 0, 0, 0⟩)⟩, 4), (⟨0, 2, [1, 1], [], []⟩, 8), (⟨0, 2, [], [1, 0], []⟩, 8), (⟨0, 2, [], [2], []⟩, 8), (⟨0, 2, [0, 1], [0, 1], []⟩, 0), (⟨0, 2, [], [], [⟨2, 0, 1, 1⟩]⟩, 8), (⟨0, 2, [], [], [⟨0, -1, 0, 0⟩]⟩, 8), (⟨0, 2, [], [], [⟨0, 0, 1, 1⟩, ⟨0, 2, 0, 0⟩]⟩, 7), (⟨1, 2, [], [], [⟨0, 0, 1, 1⟩]⟩, 2)]
/-- What is known of a row. -/
def okR (x : Na × Int) : Bool := decide (chkN x.1 = x.2) && decide (wrongN x.1 [] = x.2) && decide (uniE x.1 ⟨0, 0, [], [], []⟩ = x.2 ∨ x.2 = 0) && decide (uniE ⟨0, 0, [], [], []⟩ x.1 = x.2 ∨ x.2 = 0) && decide (x.1.st.length ≤ 1000 ∧ x.1.fi.length ≤ 1000 ∧ x.1.es.length ≤ 1000)
theorem rowsX_all : rowsX.all okR = true := by kernel_rfl
theorem rowsX_at {r : Nat} {n : Na} {e : Int} (h : rowsX[r]? = some (n, e)) : chkN n = e ∧ (uniE n ⟨0, 0, [], [], []⟩ = e ∨ e = 0) ∧ (uniE ⟨0, 0, [], [], []⟩ n = e ∨ e = 0) ∧ NaLen n ∧ wrongN n [] = e := by
  have h1 := List.all_eq_true.1 rowsX_all _ (List.mem_of_getElem? h)
  simp only [okR, Bool.and_eq_true, decide_eq_true_iff] at h1
  obtain ⟨⟨⟨⟨h1, h0⟩, h2⟩, h3⟩, h4, h5, h6⟩ := h1
  exact ⟨h1, h2, h3, ⟨by omega, by omega, by omega⟩, h0⟩
def recsX : List Rec := [.nfa ⟨0, 0, [], [], []⟩, .row ⟨0, 0, [], [], []⟩ (0), .nfa ⟨-1, -1, [], [], []⟩, .row ⟨-1, -1, [], [], []⟩ (7), .nfa ⟨7, 0, [], [], []⟩, .row ⟨7, 0, [], [], []⟩ (7), .edges (List.replicate 513 ⟨0, 0, 0, 0⟩), .nfa ⟨0, -1, [], [], (List.replicate 513 ⟨0, 0, 0, 0⟩)⟩, .row ⟨0, -1, [], [], (List.replicate 513 ⟨0, 0, 0, 0⟩)⟩ (1), .edges (List.replicate 512 ⟨0, 0, 0, 0⟩), .nfa ⟨0, 64, [], [], (List.replicate 512 ⟨0, 0, 0, 0⟩)⟩, .row ⟨0, 64, [], [], (List.replicate 512 ⟨0, 0, 0, 0⟩)⟩ (0), .ints [-1], .nfa ⟨0, 65, [-1], [], []⟩, .row ⟨0, 65, [-1], [], []⟩ (4), .edges (List.replicate 513 ⟨0, 0, 0, 0⟩), .nfa ⟨0, 1, [], [], (List.replicate 513 ⟨0, 0, 0, 0⟩)⟩, .row ⟨0, 1, [], [], (List.replicate 513 ⟨0, 0, 0, 0⟩)⟩ (4), .ints [1, 1], .nfa ⟨0, 2, [1, 1], [], []⟩, .row ⟨0, 2, [1, 1], [], []⟩ (8), .ints [1, 0], .nfa ⟨0, 2, [], [1, 0], []⟩, .row ⟨0, 2, [], [1, 0], []⟩ (8), .ints [2], .nfa ⟨0, 2, [], [2], []⟩, .row ⟨0, 2, [], [2], []⟩ (8), .ints [0, 1], .ints [0, 1], .nfa ⟨0, 2, [0, 1], [0, 1], []⟩, .row ⟨0, 2, [0, 1], [0, 1], []⟩ (0), .lit (.agg #[.int .i64 (2), .int .i64 (0), .int .u8 1, .int .u8 1]), .edges [⟨2, 0, 1, 1⟩], .nfa ⟨0, 2, [], [], [⟨2, 0, 1, 1⟩]⟩, .row ⟨0, 2, [], [], [⟨2, 0, 1, 1⟩]⟩ (8), .lit (.agg #[.int .i64 (0), .int .i64 (-1), .int .u8 0, .int .u8 0]), .edges [⟨0, -1, 0, 0⟩], .nfa ⟨0, 2, [], [], [⟨0, -1, 0, 0⟩]⟩, .row ⟨0, 2, [], [], [⟨0, -1, 0, 0⟩]⟩ (8), .lit (.agg #[.int .i64 (0), .int .i64 (0), .int .u8 1, .int .u8 1]), .lit (.agg #[.int .i64 (0), .int .i64 (2), .int .u8 0, .int .u8 0]), .edges [⟨0, 0, 1, 1⟩, ⟨0, 2, 0, 0⟩], .nfa ⟨0, 2, [], [], [⟨0, 0, 1, 1⟩, ⟨0, 2, 0, 0⟩]⟩, .row ⟨0, 2, [], [], [⟨0, 0, 1, 1⟩, ⟨0, 2, 0, 0⟩]⟩ (7), .lit (.agg #[.int .i64 (0), .int .i64 (0), .int .u8 1, .int .u8 1]), .edges [⟨0, 0, 1, 1⟩], .nfa ⟨1, 2, [], [], [⟨0, 0, 1, 1⟩]⟩, .row ⟨1, 2, [], [], [⟨0, 0, 1, 1⟩]⟩ (2), .tab rowsX, .lit (.int .i64 15), .lit (.int .i64 0)]
end Go.Proofs.YteckkbjpeckjmaaDoor.Nx
