/- The rows of SubsetExamples, what its slots hold, and what the program answers at a row. -/
import Derived.Test.YteckkbjpeckjmaaDoorWI
import Derived.Test.YteckkbjpeckjmaaDoorKN
import Derived.Test.YteckkbjpeckjmaaDoorJW
import Derived.Great.BuildSlice
import Derived.Laws.MakeOwn
namespace Go.Proofs.YteckkbjpeckjmaaDoor.Sx
open Go Go.RowKit Go.Proofs.YteckkbjpeckjmaaDoor Go.Proofs.YteckkbjpeckjmaaDoor.Cb Go.Proofs.YteckkbjpeckjmaaDoor.Wi Go.Proofs.YteckkbjpeckjmaaDoor.Sb
open Go.Proofs.YteckkbjpeckjmaaDoor.Nf (info_int6 Na NaAt NaLen OwnN wordE exN ex_ok ex_len chkN Bys bvs bys_new)
open Go.Proofs.YteckkbjpeckjmaaDoor.Dg (Tabs tb tb_mem)
set_option linter.unusedVariables false
set_option linter.unusedSectionVars false
set_option linter.unusedSimpArgs false
set_option maxRecDepth 100000
section
variable {P : Program} {o : Oper} {A : Act} {W : World} {K : Act → World → Prop} {Q : Exit → Act → World → Prop}
theorem op_build (t : TypeId) (parts : Array (Nat × Operand)) (ho : o.op = .build t parts) (cells : Array Value) (h : P.built t (parts.toList.map fun (i, x) => (i, A.eval x)) = some cells) (hK : K (A.put o.dst (.agg cells)) W) : o.wp P A W K Q := by
  rw [← Array.toList_map] at h
  unfold Oper.wp execOp
  simp only [ho, Sem.run_bind, run_build W t _ cells h, Result.andThen_ok]
  exact hK
theorem op_slice (t e : TypeId) (len : Nat) (parts : Array (Nat × Operand)) (ho : o.op = .buildSlice t len parts)
    (cells : Array Value) (ie : TypeInfo) (z : Value)
    (hu : P.underlying t = some (.slice e)) (hie : P.info? e = some ie) (hz : ie.zero = some z) (hsmall : ¬ len * ie.size > 2 ^ 24) (hpos : ¬ len * ie.size = 0)
    (hf : Instr.fill (fun i => some (i * ie.size, ie.size)) (madeCells z.cells (len * ie.size)) (parts.toList.map fun (i, x) => (i, A.eval x)) = some cells)
    (h : K (A.put o.dst (.slice (some ⟨W.heap.size, 0, none⟩) len len)) (W.alloc (.cells cells e))) : o.wp P A W K Q := by
  rw [← Array.toList_map] at hf
  exact wp_buildSlice t e len parts ho cells ie z hu hie hz hsmall hpos hf h
theorem op_make (t : TypeId) (l c : Operand) (ho : o.op = .makeSlice t l c) (v : Value) (W' : World) (h : (Instr.makeSlice t (A.eval l) (A.eval c)).run P W = .ok v W') (hK : K (A.put o.dst v) W') : o.wp P A W K Q := by
  unfold Oper.wp execOp
  simp only [ho, Sem.run_bind, h, Result.andThen_ok]
  exact hK
end
def IntP (l : List Int) (v : Value) (W : World) : Prop := ∃ A c, v = .slice A l.length c ∧ Ints W A l
def TabP (l : List (List Int)) (v : Value) (W : World) : Prop := ∃ A c, v = .slice A l.length c ∧ Tabs W A l
def BooP (l : List Bool) (v : Value) (W : World) : Prop := ∃ A c, v = .slice A l.length c ∧ Bools W A l
def DfaP (d : Da) (v : Value) (W : World) : Prop := ∃ A B a b, v = .agg #[.int .i64 d.V, .int .i64 d.q0, .slice A d.nx.length a, .slice B d.fi.length b] ∧ DaAt W d A B
def RowP (d : Da) (e : Int) (v : Value) (W : World) : Prop := ∃ A B a b, v = .agg #[.int .i64 d.V, .int .i64 d.q0, .slice A d.nx.length a, .slice B d.fi.length b, .int .i64 e] ∧ DaAt W d A B
/-- The table. -/
def TabX (rows : List (Da × Int)) (u : Value) (W : World) : Prop :=
  ∃ ad : Addr, u = .slice (some ad) rows.length rows.length ∧ ad.block < W.heap.size ∧ ∀ r d e, rows[r]? = some (d, e) → ∃ A B a b, DaAt W d A B ∧ W.cell? (ad.add (r * 5)) = some (.int .i64 d.V) ∧ W.cell? ⟨(ad.add (r * 5)).block, (ad.add (r * 5)).off + 1, none⟩ = some (.int .i64 d.q0) ∧ W.cell? ⟨(ad.add (r * 5)).block, (ad.add (r * 5)).off + 2, none⟩ = some (.slice A d.nx.length a) ∧ W.cell? ⟨(ad.add (r * 5)).block, (ad.add (r * 5)).off + 3, none⟩ = some (.slice B d.fi.length b) ∧ W.cell? ⟨(ad.add (r * 5)).block, (ad.add (r * 5)).off + 4, none⟩ = some (.int .i64 e)
theorem TabX.below {rows : List (Da × Int)} {u : Value} {W W' : World} (h : TabX rows u W) (hb : Below W.heap.size W W') : TabX rows u W' := by
  obtain ⟨ad, e, hlt, h⟩ := h
  refine ⟨ad, e, Nat.lt_of_lt_of_le hlt hb.size, fun r n v hr => ?_⟩
  obtain ⟨A, B, a, b, h1, h2, h3, h4, h5, h6⟩ := h r n v hr
  have hB : (ad.add (r * 5)).block < W.heap.size := by rw [addr_block]; exact hlt
  exact ⟨A, B, a, b, h1.below hb, (Below.cell hb (p := ad.add (r * 5)) hB).trans h2, (Below.cell hb (p := ⟨(ad.add (r * 5)).block, (ad.add (r * 5)).off + 1, none⟩) hB).trans h3, (Below.cell hb (p := ⟨(ad.add (r * 5)).block, (ad.add (r * 5)).off + 2, none⟩) hB).trans h4, (Below.cell hb (p := ⟨(ad.add (r * 5)).block, (ad.add (r * 5)).off + 3, none⟩) hB).trans h5, (Below.cell hb (p := ⟨(ad.add (r * 5)).block, (ad.add (r * 5)).off + 4, none⟩) hB).trans h6⟩
/-- What a slot holds. -/
inductive Rec where
  | lit (v : Value)
  | ints (l : List Int)
  | tabs (l : List (List Int))
  | bools (l : List Bool)
  | dfa (d : Da)
  | row (d : Da) (e : Int)
  | tab (rows : List (Da × Int))
  | any
def Rec.holds : Rec → Value → World → Prop
  | .lit u, v, _ => v = u
  | .ints l, v, W => IntP l v W
  | .tabs l, v, W => TabP l v W
  | .bools l, v, W => BooP l v W
  | .dfa d, v, W => DfaP d v W
  | .row d e, v, W => RowP d e v W
  | .tab rows, v, W => TabX rows v W
  | .any, _, _ => True
theorem Rec.below : ∀ (r : Rec) {v : Value} {W W' : World}, r.holds v W → Below W.heap.size W W' → r.holds v W'
  | .lit _, _, _, _, h, _ => h
  | .ints _, _, _, _, ⟨A, c, e, h⟩, hb => ⟨A, c, e, h.below hb⟩
  | .tabs _, _, _, _, ⟨A, c, e, h⟩, hb => ⟨A, c, e, h.below hb⟩
  | .bools _, _, _, _, ⟨A, c, e, h⟩, hb => ⟨A, c, e, h.below hb⟩
  | .dfa _, _, _, _, ⟨A, B, a, b, e, h⟩, hb => ⟨A, B, a, b, e, h.below hb⟩
  | .row _ _, _, _, _, ⟨A, B, a, b, e, h⟩, hb => ⟨A, B, a, b, e, h.below hb⟩
  | .tab _, _, _, _, h, hb => TabX.below h hb
  | .any, _, _, _, h, _ => h
theorem info_rowX : (Tryd.prog.info? 55).map (fun i => (i.zero, i.size, i.bytes)) = some (some (.agg #[.int .i64 0, .int .i64 0, .slice none 0 0, .slice none 0 0, .int .i64 0]), 5, 72) := by kernel_rfl
theorem info_intX : (Tryd.prog.info? 3).map (fun i => (i.zero, i.size, i.bytes)) = some (some (.int .i64 0), 1, 8) := by kernel_rfl
theorem info_intsX : (Tryd.prog.info? 23).map (fun i => (i.zero, i.size, i.bytes)) = some (some (.slice none 0 0), 1, 24) := by kernel_rfl
theorem info_boolX : (Tryd.prog.info? 4).map (fun i => (i.zero, i.size, i.bytes)) = some (some (.bool false), 1, 1) := by kernel_rfl
theorem cell_new (W : World) (cs : List Value) (t : TypeId) (k : Nat) (v : Value) (h : cs[k]? = some v) : (W.alloc (.cells cs.toArray t)).cell? ((⟨W.heap.size, 0, none⟩ : Addr).add k) = some v := by
  rw [addr_add, World.cell?_alloc_at _ _ _ _ rfl]
  simpa using h
theorem cell_newf (W : World) (cs : List Value) (t : TypeId) (k f : Nat) (v : Value) (h : cs[k + f]? = some v) : (W.alloc (.cells cs.toArray t)).cell? ⟨((⟨W.heap.size, 0, none⟩ : Addr).add k).block, ((⟨W.heap.size, 0, none⟩ : Addr).add k).off + f, none⟩ = some v := by
  rw [addr_add, World.cell?_alloc_at _ _ _ _ rfl]
  simpa using h
theorem tabs1 (W : World) (t : TypeId) (l : List Int) (P : Option Addr) (m : Nat) (h : Ints W P l) : Tabs (W.alloc (.cells (([.slice P l.length m] : List Value).toArray) t)) (some ⟨W.heap.size, 0, none⟩) [l] := by
  intro j hj
  obtain rfl : j = 0 := by have : j < 1 := hj; omega
  exact ⟨_, P, m, rfl, by simp, cell_new _ _ _ _ _ rfl, h.below (bal (Below.refl _ _) _)⟩
theorem tabs2 (W : World) (t : TypeId) (l k : List Int) (P : Option Addr) (m : Nat) (Q : Option Addr) (n : Nat) (h : Ints W P l) (h' : Ints W Q k) : Tabs (W.alloc (.cells (([.slice P l.length m, .slice Q k.length n] : List Value).toArray) t)) (some ⟨W.heap.size, 0, none⟩) [l, k] := by
  intro j hj
  rcases (by have : j < 2 := hj; omega : j = 0 ∨ j = 1) with rfl | rfl
  · exact ⟨_, P, m, rfl, by simp, cell_new _ _ _ _ _ rfl, h.below (bal (Below.refl _ _) _)⟩
  · exact ⟨_, Q, n, rfl, by simp, cell_new _ _ _ _ _ rfl, h'.below (bal (Below.refl _ _) _)⟩
theorem tabs_made (W : World) (n : Nat) : Tabs (W.alloc (.cells (madeCells #[.slice none 0 0] n) 23)) (some ⟨W.heap.size, 0, none⟩) (List.replicate n []) := by
  intro j hj
  rw [List.length_replicate] at hj
  have he : tb (List.replicate n []) j = [] := by
    unfold tb
    rw [List.getD_eq_getElem?_getD, List.getElem?_replicate, if_pos hj]
    rfl
  rw [he]
  refine ⟨_, none, 0, rfl, by simp, ?_, fun i hi => absurd hi (Nat.not_lt_zero i)⟩
  rw [addr_add, World.cell?_alloc_at _ _ _ _ rfl]
  unfold madeCells
  rw [Array.getElem?_map, Array.getElem?_range]
  simp [hj, Nat.mod_one]
theorem made_tabs (n : Nat) (hn : n ≤ 10000) (W : World) : (Instr.makeSlice 51 (.int .i64 (n : Int)) (.int .i64 (n : Int))).run Tryd.prog W = .ok (.slice (some ⟨W.heap.size, 0, none⟩) n n) (W.alloc (.cells (madeCells #[.slice none 0 0] n) 23)) := by
  obtain ⟨i0, hi, hz0, hz1, hz2⟩ := info_parts info_intsX
  have := run_makeSlice (P := Tryd.prog) W 51 23 i0 _ Tryd.underlying51 hi hz0 .i64 .i64 (n : Int) (n : Int) (by omega) (Int.le_refl _) (by rw [hz1]; omega) (by rw [hz2]; omega) (by omega)
  rw [this, hz1, Int.toNat_natCast, Nat.mul_one]
  rfl
theorem made4097 (W : World) : (Instr.makeSlice 51 (.int .i64 4097) (.int .i64 4097)).run Tryd.prog W = .ok (.slice (some ⟨W.heap.size, 0, none⟩) 4097 4097) (W.alloc (.cells (madeCells #[.slice none 0 0] 4097) 23)) := made_tabs 4097 (by decide) W
theorem made4096 (W : World) : (Instr.makeSlice 51 (.int .i64 4096) (.int .i64 4096)).run Tryd.prog W = .ok (.slice (some ⟨W.heap.size, 0, none⟩) 4096 4096) (W.alloc (.cells (madeCells #[.slice none 0 0] 4096) 23)) := made_tabs 4096 (by decide) W
def exE : Da := ⟨0, 0, [[1], [0]], [true, false]⟩
theorem exE_ok : chkD exE = 0 := by kernel_rfl
theorem even_at (w1 : World) : DaAt ((((w1.alloc (.cells #[.int .i64 1] 3)).alloc (.cells #[.int .i64 0] 3)).alloc (.cells #[.slice (some ⟨w1.heap.size, 0, none⟩) 1 1, .slice (some ⟨w1.heap.size + 1, 0, none⟩) 1 1] 23)).alloc (.cells #[.bool true, .bool false] 4)) exE (some ⟨w1.heap.size + 1 + 1, 0, none⟩) (some ⟨w1.heap.size + 1 + 1 + 1, 0, none⟩) := by
  have i1 := Dg.ints_new w1 3 [1]
  have i2 := Dg.ints_new (w1.alloc (.cells #[.int .i64 1] 3)) 3 [0]
  rw [World.size_alloc] at i2
  have t := tabs2 ((w1.alloc (.cells #[.int .i64 1] 3)).alloc (.cells #[.int .i64 0] 3)) 23 [1] [0] _ 1 _ 1 (Ints.below i1 (bal (Below.refl _ _) _)) i2
  rw [World.size_alloc, World.size_alloc] at t
  have b := bools_new (((w1.alloc (.cells #[.int .i64 1] 3)).alloc (.cells #[.int .i64 0] 3)).alloc (.cells #[.slice (some ⟨w1.heap.size, 0, none⟩) 1 1, .slice (some ⟨w1.heap.size + 1, 0, none⟩) 1 1] 23)) [true, false]
  rw [World.size_alloc, World.size_alloc, World.size_alloc] at b
  exact ⟨Tabs.below t (bal (Below.refl _ _) _), b⟩
set_option maxHeartbeats 4000000 in
theorem even_any (w : World) : Calls Tryd.prog 20 #[] w fun e w' => ∃ A B, e = .returned (.agg #[.int .i64 0, .int .i64 0, .slice A 2 2, .slice B 2 2]) ∧ DaAt w' exE A B ∧ Below w.heap.size w w' := by
  go_enter Tryd.func20, Tryd.ntmps20
  go_wp2
  have hd := even_at (w.alloc (.cells #[.int .i64 0, .int .i64 0, .slice (some ⟨w.heap.size + 1 + 1 + 1, 0, none⟩) 2 2, .slice (some ⟨w.heap.size + 1 + 1 + 1 + 1, 0, none⟩) 2 2] 54))
  rw [World.size_alloc] at hd
  refine bodyPost_ret (v := .agg #[.int .i64 0, .int .i64 0, .slice (some ⟨w.heap.size + 1 + 1 + 1, 0, none⟩) 2 2, .slice (some ⟨w.heap.size + 1 + 1 + 1 + 1, 0, none⟩) 2 2]) (by simp [results, Tryd.results20, go_sem]) rfl ?_
  exact ⟨_, _, rfl, hd, bal (bal (bal (bal (bal (Below.refl _ _) _) _) _) _) _⟩
/-- Renumber and ToNFA answer with an automaton and the check's error. -/
theorem Ren_ex (d : Da) (A B : Option Addr) (a b : Nat) (w : World) (hx : DaAt w d A B) (hl : DaLen d) (hT : Tabs2 w) :
    Calls Tryd.prog 22 #[.agg #[.int .i64 d.V, .int .i64 d.q0, .slice A d.nx.length a, .slice B d.fi.length b]] w fun r w' => ∃ (V q : Int) (A' B' : Option Addr) (p a' k b' : Nat), r = .returned (.tuple #[.agg #[.int .i64 V, .int .i64 q, .slice A' p a', .slice B' k b'], .int .i64 (chkD d)]) ∧ Below w.heap.size w w' := by
  by_cases h0 : chkD d = 0
  · obtain ⟨F, hF, hFp⟩ := ren_some (okD_of h0)
    refine (Renumber_good d A B a b w hx hT h0 F hF hFp).mono ?_
    rintro r w' ⟨rv, fv, rfl, h2, h3⟩
    obtain ⟨A', a', B', b', rfl, rfl, _⟩ := h2.at_
    rw [h0]
    exact ⟨_, _, _, _, _, _, _, _, rfl, h3⟩
  · refine (Renumber_bad d A B a b w hx hl h0).mono ?_
    rintro r w' ⟨rfl, h1⟩
    exact ⟨_, _, _, _, _, _, _, _, rfl, h1⟩
theorem To_ex (d : Da) (A B : Option Addr) (a b : Nat) (w : World) (hx : DaAt w d A B) (hl : DaLen d) (hs : chkD d = 0 → d.nx.length ≤ 64 ∧ d.nx.length * 2 ^ d.V.toNat ≤ 512) :
    Calls Tryd.prog 23 #[.agg #[.int .i64 d.V, .int .i64 d.q0, .slice A d.nx.length a, .slice B d.fi.length b]] w fun r w' => ∃ (V S : Int) (A' B' C' : Option Addr) (p a' q b' k c' : Nat), r = .returned (.tuple #[.agg #[.int .i64 V, .int .i64 S, .slice A' p a', .slice B' q b', .slice C' k c'], .int .i64 (chkD d)]) ∧ Below w.heap.size w w' := by
  by_cases h0 : chkD d = 0
  · refine (ToNFA_good d A B a b w hx hl h0 (hs h0).1 (hs h0).2).mono ?_
    rintro r w' ⟨A', B', C', a', b', c', rfl, _, h3⟩
    rw [h0]
    exact ⟨_, _, _, _, _, _, _, _, _, _, _, rfl, h3⟩
  · refine (ToNFA_bad d A B a b w hx hl h0).mono ?_
    rintro r w' ⟨rfl, h1⟩
    exact ⟨_, _, _, _, _, _, _, _, _, _, _, rfl, h1⟩
def rowsY : List (Da × Int) := [(⟨0, 0, [], []⟩, 3), (⟨7, 0, [], []⟩, 7), (⟨-1, 0, [], []⟩, 7), (⟨0, 0, (List.replicate 4097 []), []⟩, 4), (⟨0, 0, (List.replicate 4096 []), []⟩, 2), (⟨0, 5, [[0]], [true, true]⟩, 2), (⟨0, 1, [[0]], [true]⟩, 8), (⟨0, -1, [[0]], [true]⟩, 8), (⟨0, 0, [[0, 0]], [true]⟩, 2), (⟨0, 0, [[1]], [true]⟩, 8), (⟨0, 0, [[-1]], [true]⟩, 8), (⟨1, 0, [[0, 1], [1]], [true, true]⟩, 2), (⟨0, 0, [[1], [0]], [true, false]⟩, 0)]
/-- What is known of a row. -/
def okR (x : Da × Int) : Bool := decide (chkD x.1 = x.2) && decide (wrongD x.1 [0] = x.2) && (decide (x.2 ≠ 0) || decide (x.1.nx.length ≤ 64 ∧ x.1.nx.length * 2 ^ x.1.V.toNat ≤ 512)) && decide (x.1.nx.length ≤ 1000000 ∧ x.1.fi.length ≤ 1000000) && x.1.nx.all fun r => decide (r.length ≤ 1000000)
theorem rowsY_all : rowsY.all okR = true := by kernel_rfl
theorem rowsY_at {r : Nat} {d : Da} {e : Int} (h : rowsY[r]? = some (d, e)) : chkD d = e ∧ wrongD d [0] = e ∧ (chkD d = 0 → d.nx.length ≤ 64 ∧ d.nx.length * 2 ^ d.V.toNat ≤ 512) ∧ DaLen d := by
  have h1 := List.all_eq_true.1 rowsY_all _ (List.mem_of_getElem? h)
  simp only [okR, Bool.and_eq_true, Bool.or_eq_true, decide_eq_true_iff, List.all_eq_true] at h1
  obtain ⟨⟨⟨⟨h1, h2⟩, h3⟩, h4, h5⟩, h6⟩ := h1
  exact ⟨h1, h2, fun h0 => h3.resolve_left fun hn => hn (by rw [← h1]; exact h0), ⟨h4, h5, h6⟩⟩
def recsX : List Rec := [.dfa ⟨0, 0, [], []⟩, .row ⟨0, 0, [], []⟩ (3), .dfa ⟨7, 0, [], []⟩, .row ⟨7, 0, [], []⟩ (7), .dfa ⟨-1, 0, [], []⟩, .row ⟨-1, 0, [], []⟩ (7), .tabs (List.replicate 4097 []), .dfa ⟨0, 0, (List.replicate 4097 []), []⟩, .row ⟨0, 0, (List.replicate 4097 []), []⟩ (4), .tabs (List.replicate 4096 []), .dfa ⟨0, 0, (List.replicate 4096 []), []⟩, .row ⟨0, 0, (List.replicate 4096 []), []⟩ (2), .ints [0], .tabs [[0]], .bools [true, true], .dfa ⟨0, 5, [[0]], [true, true]⟩, .row ⟨0, 5, [[0]], [true, true]⟩ (2), .ints [0], .tabs [[0]], .bools [true], .dfa ⟨0, 1, [[0]], [true]⟩, .row ⟨0, 1, [[0]], [true]⟩ (8), .ints [0], .tabs [[0]], .bools [true], .dfa ⟨0, -1, [[0]], [true]⟩, .row ⟨0, -1, [[0]], [true]⟩ (8), .ints [0, 0], .tabs [[0, 0]], .bools [true], .dfa ⟨0, 0, [[0, 0]], [true]⟩, .row ⟨0, 0, [[0, 0]], [true]⟩ (2), .ints [1], .tabs [[1]], .bools [true], .dfa ⟨0, 0, [[1]], [true]⟩, .row ⟨0, 0, [[1]], [true]⟩ (8), .ints [-1], .tabs [[-1]], .bools [true], .dfa ⟨0, 0, [[-1]], [true]⟩, .row ⟨0, 0, [[-1]], [true]⟩ (8), .ints [0, 1], .ints [1], .tabs [[0, 1], [1]], .bools [true, true], .dfa ⟨1, 0, [[0, 1], [1]], [true, true]⟩, .row ⟨1, 0, [[0, 1], [1]], [true, true]⟩ (2), .dfa ⟨0, 0, [[1], [0]], [true, false]⟩, .row ⟨0, 0, [[1], [0]], [true, false]⟩ (0), .tab rowsY, .lit (.int .i64 13), .lit (.int .i64 0)]
end Go.Proofs.YteckkbjpeckjmaaDoor.Sx
