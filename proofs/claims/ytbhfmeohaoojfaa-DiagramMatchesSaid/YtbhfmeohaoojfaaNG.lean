/- A function joins the store: build, forget, add. -/
import Derived.Test.YtbhfmeohaoojfaaNF
import Derived.Outline
namespace Go.Proofs.Ytbhfmeohaoojfaa.Dn
open Go Go.RowKit Go.Proofs.Ytbhfmeohaoojfaa.Ap
open Go.Proofs.Ytbhfmeohaoojfaa.Dg (shl_i64 pow7 cell_one info_int ints_row nd_ext)
set_option linter.unusedVariables false
set_option maxRecDepth 100000
theorem vars_new (w : World) (cb : Nat) (fv : Value) : Vars (((w.alloc (.cells #[.pointer (some ⟨cb, 0, none⟩)] 84)).alloc (.cells #[fv] 102)).alloc (.cells #[.func (.func 79) #[] #[.pointer (some ⟨w.heap.size, 0, none⟩), .pointer (some ⟨w.heap.size + 1, 0, none⟩), .pointer (some ⟨w.heap.size + 1 + 1, 0, none⟩)]] 122)) w.heap.size (w.heap.size + 1) (w.heap.size + 1 + 1) cb fv := by
  have k1 : ∀ (X : World) (o : Obj) (k : Nat) (p : Obj), X.heap[k]? = some p → (X.alloc o).heap[k]? = some p := fun X o k p hp => (Below.heap_alloc X o k (lt_of_block hp)).trans hp
  have k2 : ∀ (X : World) (o : Obj) (k : Nat), k = X.heap.size → (X.alloc o).heap[k]? = some o := fun X o k e => by subst e; exact (MapKept.heap_alloc X o).1
  exact ⟨k1 _ _ _ _ (k1 _ _ _ _ (k2 _ _ _ rfl)), k1 _ _ _ _ (k2 _ _ _ (by simp)), k2 _ _ _ (by simp)⟩
section
variable {sb cb rb tb v cap : Nat} {nv : Value} {N : List Nd} {R : List Nat}
set_option maxHeartbeats 4000000 in
theorem build_any (f : FuncId) (caps : Array Value) (val : Nat → Int) (w : World) (eg : ∀ args w, (callFunc f args).run Try.prog w = .ok (.enter f args) w)
    (hval : ∀ x, x < 2 ^ v → -9223372036854775808 ≤ val x ∧ val x ≤ 9223372036854775807) (HV : ValOk w f caps val sb cb rb tb v cap N R) (hv : v ≤ 6)
    (h : Mem w sb cb rb tb v cap nv N R) (hW : Wf v N) (hF : FitV N) (hN : N.length ≤ 100000) :
    Calls Try.prog 74 #[.pointer (some ⟨cb, 0, none⟩), .func (.func f) #[] caps] w fun e w' =>
      e = .returned (.int .i64 ((sub v val v N 0).2 : Nat)) ∧ ∃ nv', Mem w' sb cb rb tb v cap nv' (sub v val v N 0).1 R ∧ Step cb rb tb nv nv' w w' := by
  have hp : 2 ^ (v + 1) ≤ 2 ^ 7 := Nat.pow_le_pow_right (n := 2) (by decide) (by omega)
  have HS : Hid (∀ X b2 b3 b4, Below w.heap.size w X → Vars X b2 b3 b4 cb (.func (.func f) #[] caps) → Calls Try.prog 79 #[.int .i64 0, .int .u8 0, .pointer (some ⟨b2, 0, none⟩), .pointer (some ⟨b3, 0, none⟩), .pointer (some ⟨b4, 0, none⟩)] X fun e w' =>
      e = .returned (.int .i64 ((sub v val v N 0).2 : Nat)) ∧ ∃ nv', Mem w' sb cb rb tb v cap nv' (sub v val v N 0).1 R ∧ Step cb rb tb nv nv' X w') := fun X b2 b3 b4 hX hB => by
    have := sub_any w f caps val N b2 b3 b4 eg hval HV hv v (Nat.le_refl _) N nv 0 X (Nat.two_pow_pos v) (h.below hX) hW hF ⟨[], by simp⟩ (by omega) (Keeps.of_below hX) hB
    rw [Nat.sub_self] at this
    exact this
  clear HV hval hW hF hp h
  go_enter Try.func74, Try.ntmps74
  go_wp2_with (go_at_call 79; ((with_reducible refine (HS.out _ _ _ _ (bal (bal (bal (Below.refl _ _) _) _) _) (vars_new w cb _)).mono ?_); rintro e w4 ⟨rfl, hpost⟩))
  obtain ⟨nv', hm4, hs4⟩ := hpost
  go_ret
  exact ⟨rfl, nv', hm4, (Step.of_below (bal (bal (bal (Below.refl _ _) _) _) _)).trans hs4⟩
end
/-- A store in memory, of whose map of nodes only those in S are there. -/
structure MemG (w : World) (sb cb rb tb v cap : Nat) (nv : Value) (N : List Nd) (R : List Nat) (S : Nat → Prop) (z : Nat) : Prop where
  s : w.heap[sb]? = some (.cells #[.pointer (some ⟨cb, 0, none⟩)] 106 (0, 0))
  c : w.heap[cb]? = some (.cells #[.pointer (some ⟨sb, 0, none⟩), .int .i64 v, .int .i64 cap, nv, .map (some rb), .map (some tb)] 91 (0, 0))
  n : w.ownsRow 0 113 4 nv N.length (ndcs N)
  r : RefsG w rb N S z
  t : RetM w tb R
  rt : rb ≠ tb
section
variable {w w' : World} {sb cb rb tb v cap : Nat} {nv nv' : Value} {N : List Nd} {R : List Nat} {S : Nat → Prop} {s : Nat}
theorem Mem.gen (h : Mem w sb cb rb tb v cap nv N R) : MemG w sb cb rb tb v cap nv N R (fun _ => True) N.length := ⟨h.s, h.c, h.n, h.r, h.t, h.rt⟩
theorem MemG.below (h : MemG w sb cb rb tb v cap nv N R S s) (hb : Below w.heap.size w w') : MemG w' sb cb rb tb v cap nv N R S s := by
  obtain ⟨_, _, h1⟩ := h.r.obj
  obtain ⟨_, _, h2⟩ := h.t.obj
  exact ⟨(hb.block _ (lt_of_block h.s)).trans h.s, (hb.block _ (lt_of_block h.c)).trans h.c, own_bel h.n hb, h.r.block (hb.block _ (lt_of_block h1)), h.t.block (hb.block _ (lt_of_block h2)), h.rt⟩
theorem MemG.turned {S' : Nat → Prop} {s' : Nat} (h : MemG w sb cb rb tb v cap nv N R S s) (ht : w.mapTurned w' rb) (hr : RefsG w' rb N S' s') : MemG w' sb cb rb tb v cap nv N R S' s' := by
  obtain ⟨_, _, h1⟩ := h.r.obj
  have hs : sb ≠ rb := fun e => by have := h.s; rw [e, h1] at this; cases this
  have hc : cb ≠ rb := fun e => by have := h.c; rw [e, h1] at this; cases this
  refine ⟨(turned_other ht hs).trans h.s, (turned_other ht hc).trans h.c, ?_, hr, h.t.block (turned_other ht h.rt.symm), h.rt⟩
  refine ⟨h.n.1, ?_⟩
  rcases h.n.2 with h2 | ⟨g, cp, cur, rfl, h2, h3, h4⟩
  · exact .inl h2
  · exact .inr ⟨g, cp, cur, rfl, h2, (turned_other ht fun e => by rw [e, h1] at h3; cases h3).trans h3, h4⟩
theorem MemG.cells (h : MemG w sb cb rb tb v cap nv N R S s) : w.cell? ⟨cb, 3, none⟩ = some nv ∧ w.cell? ⟨cb, 4, none⟩ = some (.map (some rb)) ∧ w.frozen? ⟨cb, 3, none⟩ = false := by
  have hc := h.c
  refine ⟨?_, ?_, ?_⟩ <;> simp [World.cell?, World.frozen?, hc]
theorem MemG.node {g c n : Nat} (h : MemG w sb cb rb tb v cap (.slice (some ⟨g, 0, none⟩) n c) N R S s) {q : Nat} (hq : q < N.length) : g < w.heap.size ∧ w.cell? ⟨g, q * 4, none⟩ = some (.int .i64 (vr (at_ N (q + 1)))) ∧ w.cell? ⟨g, q * 4 + 1, none⟩ = some (.int .i64 (lo (at_ N (q + 1)))) ∧
    w.cell? ⟨g, q * 4 + 2, none⟩ = some (.int .i64 (hi (at_ N (q + 1)))) ∧ w.cell? ⟨g, q * 4 + 3, none⟩ = some (.int .i64 (vl (at_ N (q + 1)))) := by
  have hn : n = N.length := by
    rcases h.n.2 with ⟨e, _⟩ | ⟨_, _, _, e, _⟩
    · cases e
    · cases e; rfl
  subst hn
  have hat : ∀ j, j < 4 → w.cell? ⟨g, q * 4 + j, none⟩ = (ndc (at_ N (q + 1)))[j]? := fun j hj => by
    rw [h.n.cellAt _ (by omega), ndcs_at N q j hq hj]
    unfold at_
    rw [Nat.add_sub_cancel]
  exact ⟨World.block_lt_of_cell? w _ (hat 0 (by decide)), hat 0 (by decide), hat 1 (by decide), hat 2 (by decide), hat 3 (by decide)⟩
theorem MemG.shut {A : Option Addr} {c m : Nat} (h : MemG w sb cb rb tb v cap (.slice A N.length c) N R S m) (hm : m ≤ N.length) (hS : ∀ r, inN N r → (S r ↔ r ≤ m)) : Mem (w.setCell ⟨cb, 3, none⟩ (.slice A m c)) sb cb rb tb v cap (.slice A m c) (N.take m) R := by
  obtain ⟨_, _, h1⟩ := h.r.obj
  obtain ⟨_, _, h2⟩ := h.t.obj
  have ho : ∀ k, k ≠ cb → (w.setCell ⟨cb, 3, none⟩ (.slice A m c)).heap[k]? = w.heap[k]? := fun k hk => Below.heap_setCell _ _ _ _ hk
  have hlen : (N.take m).length = m := by rw [List.length_take]; omega
  refine ⟨(ho _ fun e => by have := h.s; rw [e, h.c] at this; simp at this).trans h.s, heap_set h.c 3 _, ?_, ?_, ?_, h.rt⟩
  · rw [hlen]
    refine ⟨by rw [ndcs_len, hlen], ?_⟩
    rcases h.n.2 with ⟨e, e0⟩ | ⟨g, cp, cur, e, g1, g2, g3, g4, g5, g6⟩
    · injection e with e1 e2 e3
      subst e1 e3
      exact .inl ⟨by rw [show m = 0 by omega], by omega⟩
    · injection e with e1 e2 e3
      subst e1 e3
      refine .inr ⟨g, c, cur, rfl, g1, (ho _ fun e => by rw [e, h.c] at g2; simp at g2).trans g2, by omega, g4, g5, ?_⟩
      rw [← ndcs_take, ← g6, List.take_take]
      congr 1
      omega
  · exact (h.r.taken hm hS).block (ho _ fun e => by rw [e, h.c] at h1; cases h1)
  · exact h.t.block (ho _ fun e => by rw [e, h.c] at h2; cases h2)
end
theorem Fr.set (cb rb tb : Nat) (nv : Value) (w : World) (u : Value) : Fr (Mine cb rb tb nv) w (w.setCell ⟨cb, 3, none⟩ u) :=
  ⟨rfl, rfl, rfl, by show _ ≤ (w.heap.modify _ _).size; rw [Array.size_modify]; exact Nat.le_refl _, fun k hk hno => Below.heap_setCell _ _ _ _ fun e => hno (.inl e)⟩
theorem wpList_delete_run {P : Program} {ops : Array Oper} {Q : Exit → Act → World → Prop} {rest : List Oper} {o : Oper} {a : Act} {w w' : World} (hgd : o.guard = none) (m x : Operand) (t k : TypeId)
    (ho : o.op = .call { callee := .builtin .delete, args := #[m, x], argTypes := #[t, k] }) (mv xv : Value) (hm : a.eval m = mv) (hx : a.eval x = xv)
    (hr : (Builtin.delete_ #[t, k] o.type #[mv, xv]).run P w = .ok (.tuple #[]) w') (h : wpList P ops Q rest (a.put o.dst (.tuple #[])) w') : wpList P ops Q (o :: rest) a w := by
  refine wpList_plain hgd fun K hK => ?_
  unfold Oper.wp execOp
  simp only [ho, resolve, invoke, builtin, Sem.run_bind, Sem.run_pure, Result.andThen_ok, List.map_toArray, List.map_cons, List.map_nil, hm, hx, hr]
  exact hK _ _ h
section
variable {sb cb rb tb v cap : Nat} {nv : Value} {N : List Nd} {R : List Nat}
set_option maxHeartbeats 4000000 in
theorem forget_any (m : Nat) (w : World) (h : Mem w sb cb rb tb v cap nv N R) (hW : Wf v N) (hF : FitV N) (hv : v ≤ 6) (hm : m < N.length) (hN : N.length ≤ 1000000) :
    Calls Try.prog 75 #[.pointer (some ⟨cb, 0, none⟩), .int .i64 m] w fun e w' =>
      e = .returned (.tuple #[]) ∧ ∃ nv', Mem w' sb cb rb tb v cap nv' (N.take m) R ∧ Step cb rb tb nv nv' w w' := by
  obtain ⟨g, cA, rfl, _⟩ := h.node hm
  have hc1 : N.length ≤ cA := by obtain ⟨A', c', e, hc⟩ := h.form; cases e; exact hc
  have hc2 : cA ≤ 9223372036854775807 := by
    rcases h.n.2 with ⟨e, _⟩ | ⟨_, _, _, e, _, _, _, h4, _⟩
    · cases e
    · cases e; unfold maxLen at h4; omega
  obtain ⟨c0, c1, c2, c3, c4, c5⟩ := h.cells
  have HG : Hid (MemG w sb cb rb tb v cap (.slice (some ⟨g, 0, none⟩) N.length cA) N R (fun r => r ≤ m ∨ m + 0 < r) (N.length - 0)) := by
    have := h.gen
    have e : (fun r : Nat => r ≤ m ∨ m + 0 < r) = fun _ => True := funext fun r => propext ⟨fun _ => trivial, fun _ => by omega⟩
    rw [e]
    exact this
  have HFt := Lib.hid (fits hW hF hv hN)
  have HND := Lib.hid hW.nodup
  have i1 : (m : Int) ≤ (N.length : Int) := by omega
  have i2 : (m : Int) ≤ (cA : Int) := by omega
  have i3 : ¬ cA = m := by omega
  clear h hW hF
  go_enter Try.func75, Try.ntmps75
  go_wp2
  have hLm : ∃ L, N.length - m = L ∧ N.length = m + L := ⟨N.length - m, rfl, by omega⟩
  obtain ⟨L, hL1, hL2⟩ := hLm
  rw [hL1]
  clear hL1
  go_loopw [13] (fun i wr => ∃ k : Nat, k ≤ L ∧ i = .int .i64 k ∧ Hid (MemG wr sb cb rb tb v cap (.slice (some ⟨g, 0, none⟩) N.length cA) N R (fun r => r ≤ m ∨ m + k < r) (N.length - k)) ∧ Fr (fun b => b = rb) w wr) (fun i _ => L - (intOf i).toNat)
  case atStart => exact ⟨0, by omega, rfl, HG, .of_below (Below.refl _ _)⟩
  case round =>
    clear HG c0 c1 c2 c3 c4 c5
    obtain ⟨k, hk, rfl, HM, hfr⟩ := hrel
    obtain ⟨d3, d4, d3f⟩ := HM.out.cells
    by_cases hkl : k < L
    · obtain ⟨hg, n0, n1, n2, n3⟩ := HM.out.node (q := m + k) (by omega)
      rw [Nat.add_mul] at n0 n1 n2 n3
      have hq : inN N (m + k + 1) := ⟨by omega, by omega⟩
      have hft := HFt.out _ (at_mem hq)
      have HD : Hid (∀ X (ty : TypeId), RefsG X rb N (fun r => r ≤ m ∨ m + k < r) (N.length - k) → ∃ w', (Builtin.delete_ #[88, 113] ty #[.map (some rb), ndv (at_ N (m + k + 1))]).run Try.prog X = .ok (.tuple #[]) w' ∧ RefsG w' rb N (fun r => (r ≤ m ∨ m + k < r) ∧ r ≠ m + k + 1) (N.length - (k + 1)) ∧ X.mapTurned w' rb) := fun X ty hX =>
        RefsG.drop (by rw [show N.length - (k + 1) + 1 = N.length - k by omega]; exact hX) HND.out hq (.inr (by omega)) hft ty
      generalize at_ N (m + k + 1) = nd at *
      unfold ndv at HD
      have HE : Hid ((fun r : Nat => (r ≤ m ∨ m + k < r) ∧ r ≠ m + k + 1) = fun r => r ≤ m ∨ m + (k + 1) < r) := funext fun r => propext ⟨fun h => by omega, fun h => by omega⟩
      have i4 : (k : Int) < (L : Int) := by omega
      have hcb : cb < wr.heap.size := World.block_lt_of_cell? wr _ d3
      go_wp2
      have hBk : Bk (wr.alloc (.cells #[.int .i64 (vr nd), .int .i64 (lo nd), .int .i64 (hi nd), .int .i64 (vl nd)] 113)) wr.heap.size nd := (MapKept.heap_alloc wr _).1
      have hWb : Below wr.heap.size wr (wr.alloc (.cells #[.int .i64 (vr nd), .int .i64 (lo nd), .int .i64 (hi nd), .int .i64 (vl nd)] 113)) := bal (Below.refl _ _) _
      clear n0 n1 n2 n3 d3 d4 d3f hcb hg
      obtain ⟨bx, hbx⟩ : ∃ bx, bx = wr.heap.size := ⟨_, rfl⟩
      rw [← hbx] at hBk ⊢
      clear hbx
      generalize wr.alloc (.cells #[.int .i64 (vr nd), .int .i64 (lo nd), .int .i64 (hi nd), .int .i64 (vl nd)] 113) = W at *
      haveI : Nonempty (Cls fun X => Below W.heap.size W X) := ⟨⟨_, Below.refl _ _⟩⟩
      have l0 : ∀ r : Cls (fun X => Below W.heap.size W X), r.w.cell? ⟨cb, 4, none⟩ = some (.map (some rb)) := fun r => ((HM.out.below hWb).below r.h).cells.2.1
      have l1 : ∀ r : Cls (fun X => Below W.heap.size W X), r.w.cell? ⟨bx, 0, none⟩ = some (.int .i64 (vr nd)) := fun r => (hBk.below r.h).cells.1
      have l2 : ∀ r : Cls (fun X => Below W.heap.size W X), r.w.cell? ⟨bx, 1, none⟩ = some (.int .i64 (lo nd)) := fun r => (hBk.below r.h).cells.2.1
      have l3 : ∀ r : Cls (fun X => Below W.heap.size W X), r.w.cell? ⟨bx, 2, none⟩ = some (.int .i64 (hi nd)) := fun r => (hBk.below r.h).cells.2.2.1
      have l4 : ∀ r : Cls (fun X => Below W.heap.size W X), r.w.cell? ⟨bx, 3, none⟩ = some (.int .i64 (vl nd)) := fun r => (hBk.below r.h).cells.2.2.2.1
      refine wp_region_cls_tail 5 (fun X => Below W.heap.size W X) (by kernel_rfl) (by kernel_rfl) (drew_below W) ?_
      simp only [List.take_succ_cons, List.take_zero, List.drop_succ_cons, List.drop_zero]
      repeat (go_big_quiet_step (fail))
      refine wpQuiet_nil ?_
      rintro _ ⟨r, rfl⟩
      have hX := r.h
      generalize r.w = X at hX ⊢
      clear l0 l1 l2 l3 l4
      have HMX := Lib.hid ((HM.out.below hWb).below hX)
      obtain ⟨w3, hr3, hR3, ht3⟩ := HD.out X 0 HMX.out.r
      rw [HE.out] at hR3
      go_wp2_with (at_delete; refine wpList_delete_run rfl _ _ 88 113 rfl (.map (some rb)) _ rfl rfl hr3 ?_; go_frame)
      go_roundw
      case rel => exact ⟨k + 1, by omega, by go_num, HMX.out.turned ht3 hR3, ((hfr.trans (.of_below hWb) fun _ _ h => h).trans (.of_below hX) fun _ _ h => h).trans (Fr.of_grown ht3.grown (own := fun b => b = rb) fun b e => by cases e; rfl) fun _ _ h => h⟩
      case measure => simp [intOf]; omega
    · obtain rfl : k = L := by omega
      have i4 : ¬ ((k : Int) < (k : Int)) := by omega
      go_wp2
      go_end0
      have hm' := HM.out
      rw [show N.length - k = m by omega] at hm'
      have hfr' : Fr (Mine cb rb tb (.slice (some ⟨g, 0, none⟩) N.length cA)) w wr := ⟨hfr.os, hfr.tape, hfr.output, hfr.size, fun b hb hn => hfr.block b hb fun e => hn (.inr (.inl e))⟩
      exact ⟨rfl, .slice (some ⟨g, 0, none⟩) m cA, hm'.shut (by omega) (fun r hr => ⟨fun h => by have := hr.2; omega, fun h => .inl h⟩), ⟨hfr'.trans (Fr.set cb rb tb _ _ _) fun _ _ h => h, fun _ h => .inl h⟩⟩
end
end Go.Proofs.Ytbhfmeohaoojfaa.Dn
