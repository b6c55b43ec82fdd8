/- A node joins the store. -/
import Derived.Test.YtbhfmeohaoojfaaND
import Derived.Outline
import Derived.Deep.RegionLaw
import Derived.StillTailTactics
namespace Go.Proofs.Ytbhfmeohaoojfaa.Dn
open Go Go.RowKit Go.Proofs.Ytbhfmeohaoojfaa.Ap
open Go.Proofs.Ytbhfmeohaoojfaa.Dg (shl_i64 pow7 cell_one info_int ints_row nd_ext)
set_option linter.unusedVariables false
set_option maxRecDepth 100000
/-- append to a row of one's own, as one step of a region that draws its order. -/
theorem step_append_own {P : Program} {ops : Array Oper} {o : Oper} {a : Act} {w : World} {K : Act → World → Prop} {Q : Exit → Act → World → Prop} {E : Prop}
    (hg : o.guard = none) (s x : Operand) (t : TypeId) (hop : o.op = Op.call { callee := Callee.builtin Builtin.append, args := #[s, x], argTypes := #[t, t] })
    (base : Nat) (e : TypeId) (i : TypeInfo) (z : Value) (size bytes : Nat) (ht : P.underlying t = some (.slice e)) (hi : P.info? e = some i) (hz : i.zero = some z)
    (hsize : i.size = size) (hby : i.bytes = bytes) (hzs : z.cells.size = size) (hsz : 0 < size)
    (v : Value) (n : Nat) (xs : List Value) (hs : a.eval s = v) (hown : w.ownsRow base e size v n xs)
    (ad : Addr) (m c : Nat) (news : List Value) (hx : a.eval x = .slice (some ad) m c) (hl : news.length = m * size) (hnews : ∀ j u, news[j]? = some u → w.cell? (ad.add j) = some u) (h1 : ∀ u ∈ news, u.oneCell' = true)
    (h63 : n + m ≤ maxLen) (hbytes : (n + m) * bytes ≤ 140737488355328) (hbase : base ≤ w.heap.size)
    (hK : ∀ A' c' w', w'.ownsRow base e size (.slice A' (n + m) c') (n + m) (xs ++ news) → w.grownBy w' v.ownBlock → ((Value.slice A' (n + m) c').ownBlock = v.ownBlock ∨ (Value.slice A' (n + m) c').ownBlock = some w.heap.size) → K (a.put o.dst (.slice A' (n + m) c')) w') :
    if Region.wanted o (yielded ops a.tmps) = true then Oper.wp P o a w K Q else E := by
  have hw : Region.wanted o (yielded ops a.tmps) = true := by simp [Region.wanted, hg]
  rw [if_pos hw]
  obtain ⟨v', w', hr, h2, h3, _, h4⟩ := run_append_own_at (P := P) w base t o.type e i z size bytes ht hi hz hsize hby hzs hsz v n xs hown ad m c news hl hnews h1 h63 hbytes hbase
  obtain ⟨A', c', rfl, hc⟩ := own_form h2
  unfold Oper.wp execOp
  simp only [hop, resolve, invoke, builtin, Sem.run_bind, Sem.run_pure, Result.andThen_ok, List.map_toArray, List.map_cons, List.map_nil, hs, hx, hr]
  exact hK A' c' w' h2 h3 h4
theorem info_node : (Try.prog.info? 113).map (fun i => (i.zero, i.size, i.bytes)) = some (some (.agg #[.int .i64 0, .int .i64 0, .int .i64 0, .int .i64 0]), 4, 32) := by kernel_rfl
theorem cells_new (w : World) (l : List Value) (t : TypeId) : ∀ j u, l[j]? = some u → (w.alloc (.cells l.toArray t)).cell? ((⟨w.heap.size, 0, none⟩ : Addr).add j) = some u := by
  intro j u hu
  rw [addr_add, World.cell?_alloc_at _ _ _ _ rfl]
  simpa using hu
theorem drew_below (w : World) : Below w.heap.size w w.drew := ⟨rfl, rfl, rfl, Nat.le_refl _, fun _ _ => rfl⟩
section
variable {W w1 w3 : World} {sb cb rb tb v cap : Nat} {nv nv' : Value} {N : List Nd} {R : List Nat} {n : Nd}
/-- Behind the append: what else of the store lies as it lay. -/
structure Appended (W w1 : World) (sb cb rb tb v cap : Nat) (nv nv' : Value) (N : List Nd) (R : List Nat) (n : Nd) : Prop where
  s : w1.heap[sb]? = some (.cells #[.pointer (some ⟨cb, 0, none⟩)] 106 (0, 0))
  c : w1.heap[cb]? = some (.cells #[.pointer (some ⟨sb, 0, none⟩), .int .i64 v, .int .i64 cap, nv, .map (some rb), .map (some tb)] 91 (0, 0))
  n : w1.ownsRow 0 113 4 nv' (N ++ [n]).length (ndcs (N ++ [n]))
  r : RefsM w1 rb N
  t : RetM w1 tb R
  rt : rb ≠ tb
  step : Step cb rb tb nv nv' W w1
theorem appended {tmp : Obj} (h : Mem W sb cb rb tb v cap nv N R) (hown : w1.ownsRow 0 113 4 nv' (N.length + 1) (ndcs N ++ ndc n)) (hg : (W.alloc tmp).grownBy w1 nv.ownBlock) (hob : nv'.ownBlock = nv.ownBlock ∨ nv'.ownBlock = some (W.alloc tmp).heap.size) : Appended W w1 sb cb rb tb v cap nv nv' N R n := by
  have hb := (Below.refl _ W).alloc (Nat.le_refl _) tmp
  have hsz : W.heap.size ≤ (W.alloc tmp).heap.size := hb.size
  have keep : ∀ (k : Nat) (o : Obj), W.heap[k]? = some o → nv.ownBlock ≠ some k → w1.heap[k]? = some o := fun k o hk hne => by
    have h1 := lt_of_block hk
    have h2 : (W.alloc tmp).heap[k]? = W.heap[k]? := hb.block k h1
    exact (hg.block k (by omega) (fun e => hne e.symm)).trans (h2.trans hk)
  have hnode : ∀ k, nv.ownBlock = some k → ∃ cur, W.heap[k]? = some (.cells cur 113 (0, 0)) := fun k hk => own_node h.n hk
  refine ⟨keep _ _ h.s fun e => ?_, keep _ _ h.c fun e => ?_, by rw [List.length_append, ndcs_snoc]; exact hown, ?_, ?_, h.rt, ⟨?_, fun k hk => ?_⟩⟩
  · obtain ⟨cur, hc⟩ := hnode _ e
    rw [h.s] at hc; simp at hc
  · obtain ⟨cur, hc⟩ := hnode _ e
    rw [h.c] at hc; simp at hc
  · obtain ⟨es, cl, ho⟩ := h.r.obj
    refine h.r.block ((keep _ _ ho fun e => ?_).trans ho.symm)
    obtain ⟨cur, hc⟩ := hnode _ e
    rw [ho] at hc; cases hc
  · obtain ⟨es, cl, ho⟩ := h.t.obj
    refine h.t.block ((keep _ _ ho fun e => ?_).trans ho.symm)
    obtain ⟨cur, hc⟩ := hnode _ e
    rw [ho] at hc; cases hc
  · refine (Fr.of_below hb).trans (Fr.of_grown hg (own := Mine cb rb tb nv) fun b e => .inr (.inr (.inr e))) fun k _ ho => ho
  · rcases hob with e | e
    · exact .inl (e ▸ hk)
    · rw [e] at hk
      cases hk
      exact .inr hsz
theorem Appended.cells (h : Appended W w1 sb cb rb tb v cap nv nv' N R n) : w1.cell? ⟨cb, 3, none⟩ = some nv ∧ w1.cell? ⟨cb, 4, none⟩ = some (.map (some rb)) ∧ w1.frozen? ⟨cb, 3, none⟩ = false := by
  have hc := h.c
  refine ⟨?_, ?_, ?_⟩ <;> simp [World.cell?, World.frozen?, hc]
theorem Appended.refs (h : Appended W w1 sb cb rb tb v cap nv nv' N R n) (u : Value) : RefsM (w1.setCell ⟨cb, 3, none⟩ u) rb N := by
  obtain ⟨_, _, hr⟩ := h.r.obj
  exact h.r.block (Below.heap_setCell _ _ _ _ fun e => by rw [e, h.c] at hr; cases hr)
theorem Appended.box (h : Appended W w1 sb cb rb tb v cap nv nv' N R n) {bx : Nat} {m : Nd} (hB : Bk W bx m) (hne : nv.ownBlock ≠ some bx) (hm : Mem W sb cb rb tb v cap nv N R) : bx ≠ cb ∧ Bk w1 bx m := by
  have h1 : bx ≠ cb := fun e => by have := hm.c; rw [← e, hB] at this; simp at this
  refine ⟨h1, (h.step.fr.block bx hB.lt ?_).trans hB⟩
  rintro (e | e | e | e)
  · exact h1 e
  · obtain ⟨_, _, hr⟩ := hm.r.obj
    rw [← e, hB] at hr; cases hr
  · obtain ⟨_, _, hr⟩ := hm.t.obj
    rw [← e, hB] at hr; cases hr
  · exact hne e
theorem Appended.done {nv' : Value} (h : Appended W w1 sb cb rb tb v cap nv nv' N R n) (ht : (w1.setCell ⟨cb, 3, none⟩ nv').drew.mapTurned w3 rb) (hR : RefsM w3 rb (N ++ [n])) : Mem w3 sb cb rb tb v cap nv' (N ++ [n]) R ∧ Step cb rb tb nv nv' W w3 := by
  have hc2 : (w1.setCell ⟨cb, 3, none⟩ nv').heap[cb]? = some (.cells #[.pointer (some ⟨sb, 0, none⟩), .int .i64 v, .int .i64 cap, nv', .map (some rb), .map (some tb)] 91 (0, 0)) := heap_set h.c 3 nv'
  have ho2 : ∀ (k : Nat) (o : Obj), k ≠ cb → w1.heap[k]? = some o → (w1.setCell ⟨cb, 3, none⟩ nv').heap[k]? = some o := fun k o hk hh => by rw [Below.heap_setCell _ _ _ _ hk]; exact hh
  have ho3 : ∀ (k : Nat) (o : Obj), k ≠ rb → (w1.setCell ⟨cb, 3, none⟩ nv').heap[k]? = some o → w3.heap[k]? = some o := fun k o hk hh => (turned_other ht hk).trans hh
  obtain ⟨_, _, hr⟩ := h.r.obj
  obtain ⟨_, _, hto⟩ := h.t.obj
  have hrc : rb ≠ cb := fun e => by rw [e, h.c] at hr; cases hr
  have htc : tb ≠ cb := fun e => by rw [e, h.c] at hto; cases hto
  have hsc : sb ≠ cb := fun e => by have := h.s; rw [e, h.c] at this; simp at this
  have hrs : sb ≠ rb := fun e => by have := h.s; rw [e, hr] at this; cases this
  have hnb : ∀ k, nv'.ownBlock = some k → k ≠ cb ∧ k ≠ rb := fun k hk => by
    obtain ⟨cur, hcur⟩ := own_node h.n hk
    exact ⟨fun e => by rw [e, h.c] at hcur; simp at hcur, fun e => by rw [e, hr] at hcur; cases hcur⟩
  have hn3 : w3.ownsRow 0 113 4 nv' (N ++ [n]).length (ndcs (N ++ [n])) := by
    refine ⟨h.n.1, ?_⟩
    rcases h.n.2 with h1 | ⟨g, cp, cur, rfl, h2, h3, h4⟩
    · exact .inl h1
    · obtain ⟨k1, k2⟩ := hnb g rfl
      exact .inr ⟨g, cp, cur, rfl, h2, ho3 _ _ k2 (ho2 _ _ k1 h3), h4⟩
  refine ⟨⟨ho3 _ _ hrs (ho2 _ _ hsc h.s), ho3 _ _ hrc.symm hc2, hn3, hR, h.t.block ((ho3 _ _ h.rt.symm (ho2 _ _ htc hto)).trans hto.symm), h.rt⟩, ?_, h.step.own⟩
  have f1 : Fr (Mine cb rb tb nv) w1 (w1.setCell ⟨cb, 3, none⟩ nv').drew := ⟨rfl, rfl, rfl, by show _ ≤ (w1.heap.modify _ _).size; rw [Array.size_modify]; exact Nat.le_refl _, fun k hk hno => Below.heap_setCell _ _ _ _ fun e => hno (.inl e)⟩
  have f2 : Fr (Mine cb rb tb nv) (w1.setCell ⟨cb, 3, none⟩ nv').drew w3 := Fr.of_grown ht.grown fun b e => by cases e; exact .inr (.inl rfl)
  exact (h.step.fr.trans f1 fun k _ ho => ho).trans f2 fun k _ ho => ho
end
section
variable {sb cb rb tb v cap : Nat} {nv : Value} {N : List Nd} {R : List Nat}
set_option maxHeartbeats 2000000 in
theorem ref_old (r : Nat) (w : World) (h : Mem w sb cb rb tb v cap nv N R) (hr : inN N r) (hf : Fit (at_ N r)) :
    Calls Try.prog 80 #[.pointer (some ⟨cb, 0, none⟩), ndv (at_ N r)] w fun e w' => e = .returned (.int .i64 r) ∧ Below w.heap.size w w' := by
  obtain ⟨c0, c1, c2, c3, c4, c5⟩ := h.cells
  have hcb := h.lt.2
  have hm := h.below ((Below.refl _ w).alloc (Nat.le_refl _) (.cells #[.int .i64 (vr (at_ N r)), .int .i64 (lo (at_ N r)), .int .i64 (hi (at_ N r)), .int .i64 (vl (at_ N r))] 113))
  have HL : ∀ q, (Instr.lookup 88 (.map (some rb)) (.agg #[.int .i64 (vr (at_ N r)), .int .i64 (lo (at_ N r)), .int .i64 (hi (at_ N r)), .int .i64 (vl (at_ N r))]) true).run Try.prog ((w.alloc (.cells #[.int .i64 (vr (at_ N r)), .int .i64 (lo (at_ N r)), .int .i64 (hi (at_ N r)), .int .i64 (vl (at_ N r))] 113)).drewN q) = .ok (.tuple #[.int .i64 r, .bool true]) ((w.alloc (.cells #[.int .i64 (vr (at_ N r)), .int .i64 (lo (at_ N r)), .int .i64 (hi (at_ N r)), .int .i64 (vl (at_ N r))] 113)).drewN q) :=
    fun q => (hm.below (bdN (Below.refl _ _) q)).r.look_old hr hf
  clear hm h
  unfold ndv
  generalize at_ N r = nd at *
  go_enter Try.func80, Try.ntmps80
  go_wp2
  go_quiet (fail)
  go_wp2
  go_ret
  exact ⟨rfl, bdN (bal (Below.refl _ _) _) _⟩
set_option maxHeartbeats 4000000 in
theorem ref_new (n : Nd) (w : World) (h : Mem w sb cb rb tb v cap nv N R) (hn : n ∉ N) (hf : Fit n) (hN : N.length ≤ 1000000) :
    Calls Try.prog 80 #[.pointer (some ⟨cb, 0, none⟩), ndv n] w fun e w' => e = .returned (.int .i64 (N.length + 1 : Nat)) ∧ ∃ nv', Mem w' sb cb rb tb v cap nv' (N ++ [n]) R ∧ Step cb rb tb nv nv' w w' := by
  obtain ⟨i0, hi0, hz0, hz1, hz2⟩ := info_parts info_node
  obtain ⟨c0, c1, c2, c3, c4, c5⟩ := h.cells
  have hcb := h.lt.2
  have hfz := h.free
  obtain ⟨A, cA, rfl, hcA⟩ := h.form
  have hm := h.below ((Below.refl _ w).alloc (Nat.le_refl _) (.cells #[.int .i64 (vr n), .int .i64 (lo n), .int .i64 (hi n), .int .i64 (vl n)] 113))
  have HL : ∀ q, (Instr.lookup 88 (.map (some rb)) (.agg #[.int .i64 (vr n), .int .i64 (lo n), .int .i64 (hi n), .int .i64 (vl n)]) true).run Try.prog ((w.alloc (.cells #[.int .i64 (vr n), .int .i64 (lo n), .int .i64 (hi n), .int .i64 (vl n)] 113)).drewN q) = .ok (.tuple #[.int .i64 0, .bool false]) ((w.alloc (.cells #[.int .i64 (vr n), .int .i64 (lo n), .int .i64 (hi n), .int .i64 (vl n)] 113)).drewN q) :=
    fun q => (hm.below (bdN (Below.refl _ _) q)).r.look_new hn hf
  have HM := Lib.hid hm
  have H := Lib.hid h
  clear hm h
  unfold ndv
  go_enter Try.func80, Try.ntmps80
  go_wp2
  go_quiet (fail)
  go_wp2
  have HM2 : Hid (Mem ((w.alloc (.cells #[.int .i64 (vr n), .int .i64 (lo n), .int .i64 (hi n), .int .i64 (vl n)] 113)).drewN nq) sb cb rb tb v cap (.slice A N.length cA) N R) := HM.out.below (bdN (Below.refl _ _) nq)
  have hB : Bk ((w.alloc (.cells #[.int .i64 (vr n), .int .i64 (lo n), .int .i64 (hi n), .int .i64 (vl n)] 113)).drewN nq) w.heap.size n := (MapKept.heap_alloc w _).1
  have hbW : Below w.heap.size w ((w.alloc (.cells #[.int .i64 (vr n), .int .i64 (lo n), .int .i64 (hi n), .int .i64 (vl n)] 113)).drewN nq) := bdN (bal (Below.refl _ _) _) _
  clear HL HM
  obtain ⟨bx, hbx⟩ : ∃ bx, bx = w.heap.size := ⟨_, rfl⟩
  rw [← hbx] at hB ⊢
  generalize (w.alloc (.cells #[.int .i64 (vr n), .int .i64 (lo n), .int .i64 (hi n), .int .i64 (vl n)] 113)).drewN nq = W at *
  obtain ⟨k0, k1, k2, k3, _⟩ := hB.cells
  obtain ⟨d0, d1, d2, d3, d4, d5⟩ := HM2.out.cells
  have hfz := HM2.out.free
  have hne : (Value.slice A N.length cA).ownBlock ≠ some bx := fun e => by
    obtain ⟨cur, hcur⟩ := own_node H.out.n e
    have := lt_of_block hcur
    omega
  have HNE := Lib.hid hne
  clear c0 c1 c2 c3 c4 c5 hcb hbx hne
  have hcb := HM2.out.lt.2
  have HR := Lib.hid fun (X : World) (hX : RefsM X rb N) => hX.store hn hf (by omega)
  unfold ndv at HR
  go_region_law (refine step_append_own rfl (.tmp 22) (.tmp 24) 87 rfl 0 113 i0 _ 4 32 Try.underlying87 hi0 hz0 hz1 hz2 rfl (by decide) (.slice A N.length cA) N.length (ndcs N) (by simp [Act.eval]) ((HM2.out.below (drew_below W)).n.alloc _) ⟨W.heap.size, 0, none⟩ 1 1 (ndc n) (by simp [Act.eval]) rfl (cells_new _ _ _) (by simp [ndc, Value.oneCell']) (by unfold maxLen; omega) (by omega) (by omega) ?_; intro A' c' w1 hown' hgrow hob; have HAp := Lib.hid (appended (n := n) (HM2.out.below (drew_below W)) hown' hgrow hob); obtain ⟨e3, e4, ef⟩ := HAp.out.cells; clear hown' hgrow hob)
  all_goals
    obtain ⟨hbc, hB1⟩ := HAp.out.box (hB.below (drew_below W)) HNE.out (HM2.out.below (drew_below W))
    obtain ⟨l0, l1, l2, l3, _⟩ := hB1.cells
    have hbc' := hbc.symm
    go_wp2
    obtain ⟨w3, hrun, hR3, ht3⟩ := HR.out _ ((HAp.out.refs (.slice A' (N.length + 1) c')).block rfl : RefsM (w1.setCell ⟨cb, 3, none⟩ (.slice A' (N.length + 1) c')).drew rb N)
    have m4 : (w1.setCell ⟨cb, 3, none⟩ (.slice A' (N.length + 1) c')).cell? ⟨cb, 4, none⟩ = some (.map (some rb)) := by go_simp
    have b0 : (w1.setCell ⟨cb, 3, none⟩ (.slice A' (N.length + 1) c')).cell? ⟨bx, 0, none⟩ = some (.int .i64 (vr n)) := by go_simp
    have b1 : (w1.setCell ⟨cb, 3, none⟩ (.slice A' (N.length + 1) c')).cell? ⟨bx, 1, none⟩ = some (.int .i64 (lo n)) := by go_simp
    have b2 : (w1.setCell ⟨cb, 3, none⟩ (.slice A' (N.length + 1) c')).cell? ⟨bx, 2, none⟩ = some (.int .i64 (hi n)) := by go_simp
    have b3 : (w1.setCell ⟨cb, 3, none⟩ (.slice A' (N.length + 1) c')).cell? ⟨bx, 3, none⟩ = some (.int .i64 (vl n)) := by go_simp
    have HT3 := Lib.hid ht3
    clear ht3
    obtain ⟨X, hX⟩ : ∃ X, X = w1.setCell ⟨cb, 3, none⟩ (.slice A' (N.length + 1) c') := ⟨_, rfl⟩
    rw [← hX] at m4 b0 b1 b2 b3 hrun HT3 ⊢
    have HX := Lib.hid hX
    clear hX l0 l1 l2 l3 e3 e4 ef k0 k1 k2 k3 d0 d1 d2 d3 d4 d5 hfz
    refine wp_region_still_tail 6 (by kernel_rfl) (by kernel_rfl) ?_
    change wpStill _ _ (World.drew X) (fun a' => wpList _ _ _ _ a' (World.drew X)) _ _
    simp only [List.take_succ_cons, List.take_zero, List.drop_succ_cons, List.drop_zero]
    repeat still_step
    refine wpStill_nil ?_
    go_wp2
    have hT := HT3.out
    rw [HX.out] at hT
    obtain ⟨hM, hS⟩ := HAp.out.done hT hR3
    go_ret
    exact ⟨ret_of (by omega), _, hM, (Step.of_below (hbW.trans ((drew_below W).mono hbW.size))).trans hS⟩
end
end Go.Proofs.Ytbhfmeohaoojfaa.Dn
