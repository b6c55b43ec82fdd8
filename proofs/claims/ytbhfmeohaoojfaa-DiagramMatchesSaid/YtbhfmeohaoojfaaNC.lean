/- A store in memory; what its operations keep; small functions. -/
import Derived.Test.YtbhfmeohaoojfaaNB
import Derived.Test.YtbhfmeohaoojfaaHH
import Derived.Test.YtbhfmeohaoojfaaQC
import Derived.Laws.BitsAllLaws
import Derived.Laws.EntriesVeiled
namespace Go.Proofs.Ytbhfmeohaoojfaa.Dn
open Go Go.RowKit Go.Proofs.Ytbhfmeohaoojfaa.Ap
open Go.Proofs.Ytbhfmeohaoojfaa.Dg (shl_i64 pow7 cell_one info_int ints_row nd_ext)
set_option linter.unusedVariables false
set_option maxRecDepth 100000
def ndc (n : Nd) : List Value := [.int .i64 (vr n), .int .i64 (lo n), .int .i64 (hi n), .int .i64 (vl n)]
def ndcs (N : List Nd) : List Value := N.flatMap ndc
theorem ndcs_len : ∀ N : List Nd, (ndcs N).length = N.length * 4
  | [] => rfl
  | n :: N => by
    show (ndc n ++ ndcs N).length = _
    rw [List.length_append, ndcs_len N, List.length_cons]
    show 4 + _ = _
    omega
theorem ndcs_at : ∀ (N : List Nd) (q j : Nat), q < N.length → j < 4 → (ndcs N)[q * 4 + j]? = (ndc (N.getD q (0, 0, 0, 0)))[j]?
  | [], q, j, h, _ => absurd h (by simp)
  | n :: N, 0, j, _, hj => by
    show (ndc n ++ ndcs N)[0 * 4 + j]? = _
    rw [Nat.zero_mul, Nat.zero_add, List.getElem?_append_left (by show j < 4; exact hj)]
    rfl
  | n :: N, q + 1, j, h, hj => by
    show (ndc n ++ ndcs N)[(q + 1) * 4 + j]? = _
    rw [List.getElem?_append_right (by show 4 ≤ _; omega)]
    have e : (q + 1) * 4 + j - (ndc n).length = q * 4 + j := by show (q + 1) * 4 + j - 4 = _; omega
    rw [e, ndcs_at N q j (by simpa using h) hj]
    rfl
theorem ndcs_snoc (N : List Nd) (n : Nd) : ndcs (N ++ [n]) = ndcs N ++ ndc n := by unfold ndcs; rw [List.flatMap_append]; simp
theorem ndcs_take (N : List Nd) (m : Nat) : (ndcs N).take (m * 4) = ndcs (N.take m) := by
  induction N generalizing m with
  | nil => simp [ndcs]
  | cons n N ih =>
    cases m with
    | zero => simp [ndcs]
    | succ m =>
      show (ndc n ++ ndcs N).take ((m + 1) * 4) = ndc n ++ ndcs (N.take m)
      have e : (m + 1) * 4 = (ndc n).length + m * 4 := by show _ = 4 + m * 4; omega
      rw [e, List.take_length_add_append, ih]
/-- A store in memory: its struct, its contents, its nodes, its two maps. -/
structure Mem (w : World) (sb cb rb tb v cap : Nat) (nv : Value) (N : List Nd) (R : List Nat) : Prop where
  s : w.heap[sb]? = some (.cells #[.pointer (some ⟨cb, 0, none⟩)] 106 (0, 0))
  c : w.heap[cb]? = some (.cells #[.pointer (some ⟨sb, 0, none⟩), .int .i64 v, .int .i64 cap, nv, .map (some rb), .map (some tb)] 91 (0, 0))
  n : w.ownsRow 0 113 4 nv N.length (ndcs N)
  r : RefsM w rb N
  t : RetM w tb R
  rt : rb ≠ tb
/-- The blocks that a store writes. -/
def Mine (cb rb tb : Nat) (nv : Value) (b : Nat) : Prop := b = cb ∨ b = rb ∨ b = tb ∨ nv.ownBlock = some b
/-- All blocks but those of `own` lie as they lay. -/
structure Fr (own : Nat → Prop) (w w' : World) : Prop where
  os : w'.os = w.os
  tape : w'.tape = w.tape
  output : w'.output = w.output
  size : w.heap.size ≤ w'.heap.size
  block : ∀ k, k < w.heap.size → ¬ own k → w'.heap[k]? = w.heap[k]?
theorem Fr.of_below {own : Nat → Prop} {w w' : World} (h : Below w.heap.size w w') : Fr own w w' := ⟨h.os, h.tape, h.output, h.size, fun k hk _ => h.block k hk⟩
theorem Fr.of_grown {own : Nat → Prop} {w w' : World} {row : Option Nat} (h : w.grownBy w' row) (hr : ∀ b, row = some b → own b) : Fr own w w' :=
  ⟨h.os, h.tape, h.output, h.size, fun k hk hn => h.block k hk fun e => hn (hr k e.symm)⟩
theorem Fr.trans {own own' : Nat → Prop} {a b c : World} (h : Fr own a b) (h' : Fr own' b c) (ho : ∀ k, k < a.heap.size → own' k → own k) : Fr own a c :=
  ⟨h'.os.trans h.os, h'.tape.trans h.tape, h'.output.trans h.output, Nat.le_trans h.size h'.size, fun k hk hn => (h'.block k (Nat.lt_of_lt_of_le hk h.size) fun e => hn (ho k hk e)).trans (h.block k hk hn)⟩
/-- From the world a, in which the nodes' slice is nv, to b, in which it is nv'. -/
structure Step (cb rb tb : Nat) (nv nv' : Value) (a b : World) : Prop where
  fr : Fr (Mine cb rb tb nv) a b
  own : ∀ k, nv'.ownBlock = some k → nv.ownBlock = some k ∨ a.heap.size ≤ k
theorem Step.trans {cb rb tb : Nat} {x y z : Value} {a b c : World} (h : Step cb rb tb x y a b) (h' : Step cb rb tb y z b c) : Step cb rb tb x z a c := by
  refine ⟨h.fr.trans h'.fr fun k hk ho => ?_, fun k hk => ?_⟩
  · rcases ho with e | e | e | e
    · exact .inl e
    · exact .inr (.inl e)
    · exact .inr (.inr (.inl e))
    · rcases h.own k e with h1 | h1
      · exact .inr (.inr (.inr h1))
      · omega
  · rcases h'.own k hk with h1 | h1
    · exact h.own k h1
    · exact .inr (Nat.le_trans h.fr.size h1)
theorem Step.of_below {cb rb tb : Nat} {nv : Value} {a b : World} (h : Below a.heap.size a b) : Step cb rb tb nv nv a b := ⟨.of_below h, fun k hk => .inl hk⟩
theorem Step.refl (cb rb tb : Nat) (nv : Value) (a : World) : Step cb rb tb nv nv a a := .of_below (Below.refl _ _)
/-- Cells that are no store's stay. -/
structure Keeps (a b : World) : Prop where
  size : a.heap.size ≤ b.heap.size
  cells : ∀ (k : Nat) (c : Array Value) (t : TypeId) (f : Nat × Nat), a.heap[k]? = some (Obj.cells c t f) → t ≠ 91 → t ≠ 113 → b.heap[k]? = some (Obj.cells c t f)
theorem Keeps.refl (a : World) : Keeps a a := ⟨Nat.le_refl _, fun _ _ _ _ h _ _ => h⟩
theorem Keeps.trans {a b c : World} (h : Keeps a b) (h' : Keeps b c) : Keeps a c := ⟨Nat.le_trans h.size h'.size, fun k c t f hk h1 h2 => h'.cells k c t f (h.cells k c t f hk h1 h2) h1 h2⟩
theorem Keeps.of_below {a b : World} (h : Below a.heap.size a b) : Keeps a b := ⟨h.size, fun k c t f hk _ _ => (h.block k (lt_of_block hk)).trans hk⟩
theorem own_node {w : World} {base n : Nat} {nv : Value} {xs : List Value} (h : w.ownsRow base 113 4 nv n xs) {k : Nat} (hk : nv.ownBlock = some k) : ∃ cur, w.heap[k]? = some (.cells cur 113 (0, 0)) := by
  rcases h.2 with ⟨rfl, _⟩ | ⟨g, cap, cur, rfl, _, hg, _⟩
  · simp [Value.ownBlock] at hk
  · simp only [Value.ownBlock, Option.some.injEq] at hk
    subst hk
    exact ⟨cur, hg⟩
section
variable {w w' : World} {sb cb rb tb v cap : Nat} {nv nv' : Value} {N : List Nd} {R : List Nat}
theorem Mem.mine {k : Nat} {c : Array Value} {t : TypeId} {f : Nat × Nat} (h : Mem w sb cb rb tb v cap nv N R) (hk : w.heap[k]? = some (.cells c t f)) (h1 : t ≠ 91) (h2 : t ≠ 113) : ¬ Mine cb rb tb nv k := by
  rintro (e | e | e | e)
  · rw [e, h.c] at hk; simp at hk; exact h1 hk.2.1.symm
  · obtain ⟨es, cl, hr⟩ := h.r.obj
    rw [e, hr] at hk; cases hk
  · obtain ⟨es, cl, hr⟩ := h.t.obj
    rw [e, hr] at hk; cases hk
  · obtain ⟨cur, hc⟩ := own_node h.n e
    rw [hc] at hk; simp at hk; exact h2 hk.2.1.symm
theorem Mem.keeps (h : Mem w sb cb rb tb v cap nv N R) (hs : Step cb rb tb nv nv' w w') : Keeps w w' :=
  ⟨hs.fr.size, fun k c t f hk h1 h2 => (hs.fr.block k (lt_of_block hk) (h.mine hk h1 h2)).trans hk⟩
theorem Mem.below (h : Mem w sb cb rb tb v cap nv N R) (hb : Below w.heap.size w w') : Mem w' sb cb rb tb v cap nv N R := by
  obtain ⟨_, _, h1⟩ := h.r.obj
  obtain ⟨_, _, h2⟩ := h.t.obj
  exact ⟨(hb.block _ (lt_of_block h.s)).trans h.s, (hb.block _ (lt_of_block h.c)).trans h.c, own_bel h.n hb, h.r.block (hb.block _ (lt_of_block h1)), h.t.block (hb.block _ (lt_of_block h2)), h.rt⟩
theorem Mem.cell0 (h : Mem w sb cb rb tb v cap nv N R) : w.cell? ⟨sb, 0, none⟩ = some (.pointer (some ⟨cb, 0, none⟩)) := cell_of_one h.s
theorem Mem.cells (h : Mem w sb cb rb tb v cap nv N R) : w.cell? ⟨cb, 0, none⟩ = some (.pointer (some ⟨sb, 0, none⟩)) ∧ w.cell? ⟨cb, 1, none⟩ = some (.int .i64 v) ∧ w.cell? ⟨cb, 2, none⟩ = some (.int .i64 cap) ∧ w.cell? ⟨cb, 3, none⟩ = some nv ∧
    w.cell? ⟨cb, 4, none⟩ = some (.map (some rb)) ∧ w.cell? ⟨cb, 5, none⟩ = some (.map (some tb)) := by
  have hc := h.c
  refine ⟨?_, ?_, ?_, ?_, ?_, ?_⟩ <;> simp [World.cell?, hc]
theorem Mem.lt (h : Mem w sb cb rb tb v cap nv N R) : sb < w.heap.size ∧ cb < w.heap.size := ⟨lt_of_block h.s, lt_of_block h.c⟩
theorem Mem.free (h : Mem w sb cb rb tb v cap nv N R) : w.frozen? ⟨cb, 3, none⟩ = false := by
  have hc := h.c
  simp [World.frozen?, hc]
theorem Mem.form (h : Mem w sb cb rb tb v cap nv N R) : ∃ A c, nv = .slice A N.length c ∧ N.length ≤ c := own_form h.n
/-- Node number q + 1 in memory. -/
theorem Mem.node (h : Mem w sb cb rb tb v cap nv N R) {q : Nat} (hq : q < N.length) : ∃ g c, nv = .slice (some ⟨g, 0, none⟩) N.length c ∧ w.cell? ⟨g, q * 4, none⟩ = some (.int .i64 (vr (at_ N (q + 1)))) ∧ w.cell? ⟨g, q * 4 + 1, none⟩ = some (.int .i64 (lo (at_ N (q + 1)))) ∧
    w.cell? ⟨g, q * 4 + 2, none⟩ = some (.int .i64 (hi (at_ N (q + 1)))) ∧ w.cell? ⟨g, q * 4 + 3, none⟩ = some (.int .i64 (vl (at_ N (q + 1)))) := by
  rcases h.n.2 with ⟨_, h0⟩ | ⟨g, c, cur, rfl, _⟩
  · omega
  · refine ⟨g, c, rfl, ?_⟩
    have hat : ∀ j, j < 4 → w.cell? ⟨g, q * 4 + j, none⟩ = (ndc (at_ N (q + 1)))[j]? := fun j hj => by
      rw [h.n.cellAt _ (by omega), ndcs_at N q j hq hj]
      unfold at_
      rw [Nat.add_sub_cancel]
    exact ⟨hat 0 (by decide), hat 1 (by decide), hat 2 (by decide), hat 3 (by decide)⟩
end
theorem u8_all : ((List.range 6).all fun v => (List.range 64).all fun x => (bits .or .u8 (x : Int) ((2 ^ v : Nat) : Int) == ((stV x v true : Nat) : Int)) && (bits .andNot .u8 (x : Int) ((2 ^ v : Nat) : Int) == ((stV x v false : Nat) : Int)) && (bits .and .u8 ((x : Int) / 2 ^ v) 1 == if x.testBit v then 1 else 0)) = true := by decide +kernel
theorem u8_bits {v x : Nat} (hv : v < 6) (hx : x < 64) : bits .or .u8 (x : Int) ((2 ^ v : Nat) : Int) = ((stV x v true : Nat) : Int) ∧ bits .andNot .u8 (x : Int) ((2 ^ v : Nat) : Int) = ((stV x v false : Nat) : Int) ∧ bits .and .u8 ((x : Int) / 2 ^ v) 1 = if x.testBit v then 1 else 0 := by
  have h := List.all_eq_true.1 (List.all_eq_true.1 u8_all v (List.mem_range.2 hv)) x (List.mem_range.2 hx)
  rw [Bool.and_eq_true, Bool.and_eq_true, beq_iff_eq, beq_iff_eq, beq_iff_eq] at h
  exact ⟨h.1.1, h.1.2, h.2⟩
theorem bal {w w' : World} (h : Below w.heap.size w w') (o : Obj) : Below w.heap.size w (w'.alloc o) := h.alloc h.size o
theorem bdN {B : Nat} {w w' : World} (h : Below B w w') (n : Nat) : Below B w (w'.drewN n) := ⟨h.os, h.tape, h.output, h.size, h.block⟩
theorem shl_u8 {v : Nat} (h : v < 6) : (2 : Int) ^ v % 256 = ((2 ^ v : Nat) : Int) := by
  have h1 : 2 ^ v ≤ 2 ^ 5 := Nat.pow_le_pow_right (n := 2) (by decide) (by omega)
  have h2 : ((2 ^ v : Nat) : Int) = (2 : Int) ^ v := by exact_mod_cast rfl
  rw [← h2]
  generalize 2 ^ v = m at h1
  omega
theorem ret_u8 {a b : Int} (h : a = b) : Ending.returned (.int .u8 a) = .returned (.int .u8 b) := by rw [h]
set_option maxHeartbeats 1000000 in
theorem fix_any (x v : Nat) (b : Bool) (w : World) (hx : x < 64) (hv : v < 6) :
    Calls Try.prog 55 #[.int .u8 x, .int .i64 v, .bool b] w fun e w' => e = .returned (.int .u8 (stV x v b : Nat)) ∧ w = w' := by
  obtain ⟨h1, h2, _⟩ := u8_bits hv hx
  rw [← shl_u8 hv] at h1 h2
  have H1 := Lib.hid h1
  have H2 := Lib.hid h2
  clear h1 h2
  cases b
  · go_enter Try.func55, Try.ntmps55
    go_wp2
    go_ret
    exact ⟨ret_u8 H2.out, rfl⟩
  · go_enter Try.func55, Try.ntmps55
    go_wp2
    go_ret
    exact ⟨ret_u8 H1.out, rfl⟩
section
variable {sb cb rb tb v cap : Nat} {nv : Value} {N : List Nd} {R : List Nat}
theorem letters_any (w : World) (h : Mem w sb cb rb tb v cap nv N R) (hv : v ≤ 6) :
    Calls Try.prog 46 #[.pointer (some ⟨cb, 0, none⟩)] w fun e w' => e = .returned (.int .i64 (2 ^ v : Nat)) ∧ w = w' := by
  obtain ⟨c0, c1, c2, c3, c4, c5⟩ := h.cells
  go_enter Try.func46, Try.ntmps46
  go_wp2
  go_ret
  exact ⟨ret_of (shl_i64 hv), rfl⟩
theorem isVariable_any (k : Int) (w : World) (h : Mem w sb cb rb tb v cap nv N R) (hv : v ≤ 6) (b : Bool) (hb : decide (0 ≤ k ∧ k < v) = b) :
    Calls Try.prog 53 #[.pointer (some ⟨cb, 0, none⟩), .int .i64 k] w fun e w' => e = .returned (.bool b) ∧ Below w.heap.size w w' := by
  obtain ⟨c0, c1, c2, c3, c4, c5⟩ := h.cells
  by_cases h0 : 0 ≤ k
  · have HB : Hid (decide (k < (v : Int)) = b) := by show _ = _; rw [← hb]; simp [h0]
    clear hb
    go_enter Try.func53, Try.ntmps53
    go_wp2
    go_ret
    exact ⟨ret_bool HB.out, Below.refl _ _⟩
  · have HB : Hid (false = b) := by show _ = _; rw [← hb]; simp [h0]
    have hd : decide ((0 : Int) ≤ k) = false := by simpa using h0
    clear hb
    go_enter Try.func53, Try.ntmps53
    go_wp2
    go_ret
    exact ⟨ret_bool HB.out, Below.refl _ _⟩
set_option maxHeartbeats 1000000 in
theorem node_any (q : Nat) (w : World) (h : Mem w sb cb rb tb v cap nv N R) (hq : q < N.length) (hN : N.length ≤ 1000000) :
    Calls Try.prog 67 #[.pointer (some ⟨cb, 0, none⟩), .int .i64 ((q : Int) + 1)] w fun e w' => e = .returned (ndv (at_ N (q + 1))) ∧ Below w.heap.size w w' := by
  obtain ⟨c0, c1, c2, c3, c4, c5⟩ := h.cells
  obtain ⟨g, c, rfl, n0, n1, n2, n3⟩ := h.node hq
  have hcb := h.lt.2
  have hg := World.block_lt_of_cell? w _ n0
  have hi1 : (q : Int) < (N.length : Int) := by omega
  generalize hA : at_ N (q + 1) = nd at *
  go_enter Try.func67, Try.ntmps67
  go_wp2
  exact bodyPost_ret (v := ndv nd) (by simp [results, Try.f67, go_sem, ndv]) rfl ⟨rfl, bal (Below.refl _ _) _⟩
set_option maxHeartbeats 1000000 in
theorem isLeaf_any (n : Nd) (w : World) (h : Mem w sb cb rb tb v cap nv N R) (b : Bool) (hb : decide (vr n = v) = b) :
    Calls Try.prog 68 #[.pointer (some ⟨cb, 0, none⟩), ndv n] w fun e w' => e = .returned (.bool b) ∧ Below w.heap.size w w' := by
  obtain ⟨c0, c1, c2, c3, c4, c5⟩ := h.cells
  have hcb := h.lt.2
  have HB : Hid (((vr n : Int) == (v : Int)) = b) := by
    show _ = _
    rw [← hb, cast_beq]
    rfl
  clear hb h
  unfold ndv
  go_enter Try.func68, Try.ntmps68
  go_wp2
  go_quiet (fail)
  go_wp2
  go_ret
  exact ⟨ret_bool HB.out, bdN (bal (Below.refl _ _) _) _⟩
end
end Go.Proofs.Ytbhfmeohaoojfaa.Dn
