/- Copies of blocks (package regex): the closure that calls itself. -/
import Derived.Test.YteckkbjpeckjmaaYU
import Derived.RangeFuncBox
import Derived.RangeFuncNested
import Derived.Deep.DeepCutAuto
import Derived.Deep.CutRange
import Derived.Deep.CutBlock
namespace Go.Proofs.Yteckkbjpeckjmaa.Rx
open Go Go.RowKit Go.Proofs.Yteckkbjpeckjmaa
set_option linter.unusedVariables false
set_option maxRecDepth 100000
def pvs (l : List Pc) : List Value := l.flatMap pv
theorem pvs_snoc (l : List Pc) (x : Pc) : pvs (l ++ [x]) = pvs l ++ pv x := by simp [pvs]
def copF (br be ba bb : Nat) : Value := .func (.func 59) #[] #[.pointer (some ⟨br, 0, none⟩), .pointer (some ⟨be, 0, none⟩), .pointer (some ⟨ba, 0, none⟩), .pointer (some ⟨bb, 0, none⟩)]
/-- The closure's variables, and the pieces collected so far. -/
structure CopAt (w : World) (B br be ba bb : Nat) (m : Bool) (A : Option Addr) (n c : Nat) (v : Value) (l : List Pc) : Prop where
  r : Boxed w br 66 (repF m)
  e : Boxed w be 27 (.slice A n c)
  f : Boxed w ba 78 (copF br be ba bb)
  b : Boxed w bb 27 v
  o : w.ownsRow B 32 5 v l.length (pvs l)
  eb : be ≠ bb
  B0 : B ≤ bb
  Bw : B ≤ w.heap.size
theorem ne_row {w : World} {B : Nat} {v : Value} {n : Nat} {xs : List Value} {b : Nat} {t : TypeId} {u : Value} (h : Boxed w b t u) (ht : t ≠ 32) (ho : w.ownsRow B 32 5 v n xs) : v.ownBlock ≠ some b := fun e => h.not_row ht ho e.symm
theorem row_ge {w : World} {B : Nat} {v : Value} {n : Nat} {xs : List Value} (ho : w.ownsRow B 32 5 v n xs) : ∀ g, v.ownBlock = some g → B ≤ g := fun g hg => (ho.lt g hg).1
theorem row_lt {w : World} {B : Nat} {v : Value} {n : Nat} {xs : List Value} (ho : w.ownsRow B 32 5 v n xs) : ∀ g, v.ownBlock = some g → g < w.heap.size := fun g hg => by
  rcases ho.2 with ⟨rfl, _⟩ | ⟨g', cap, cur, rfl, _, hb, _⟩
  · cases hg
  · cases hg
    exact (Array.getElem?_eq_some_iff.1 hb).1
section
variable {w w1 : World} {B br be ba bb n c : Nat} {m : Bool} {A : Option Addr} {v v1 : Value} {l : List Pc}
/-- What a call that only makes memory leaves of it. -/
theorem CopAt.below (h : CopAt w B br be ba bb m A n c v l) (hb : Below w.heap.size w w1) : CopAt w1 B br be ba bb m A n c v l :=
  ⟨(hb.block _ h.r.lt).trans h.r, (hb.block _ h.e.lt).trans h.e, (hb.block _ h.f.lt).trans h.f, (hb.block _ h.b.lt).trans h.b, Ap.own_bel h.o hb, h.eb, h.B0, Nat.le_trans h.Bw hb.size⟩
theorem CopAt.far (h : CopAt w B br be ba bb m A n c v l) (p : Nat) (hr : br < p) (he : be < p) (hf : ba < p) (hbb : bb < p) (ho : ∀ g, v.ownBlock = some g → g ≠ p) (i : Nat) (x : Value) : CopAt (w.setCell ⟨p, i, none⟩ x) B br be ba bb m A n c v l := by
  have hk : ∀ k, k ≠ p → (w.setCell ⟨p, i, none⟩ x).heap[k]? = w.heap[k]? := fun k hk => Below.heap_setCell w _ x k hk
  refine ⟨(hk _ (by omega)).trans h.r, (hk _ (by omega)).trans h.e, (hk _ (by omega)).trans h.f, (hk _ (by omega)).trans h.b, ⟨h.o.1, ?_⟩, h.eb, h.B0, by show _ ≤ (w.heap.modify _ _).size; rw [Array.size_modify]; exact h.Bw⟩
  rcases h.o.2 with h0 | ⟨g, cap, cur, hv, hg, hc, rest⟩
  · exact .inl h0
  · exact .inr ⟨g, cap, cur, hv, hg, (hk g (ho g (by rw [hv]; rfl))).trans hc, rest⟩
end
/-- What the closure leaves. -/
def CopPost (B br be ba bb : Nat) (m : Bool) (A : Option Addr) (n c : Nat) (v : Value) (l : List Pc) (t : Ex) (w : World) (e : Ending) (w' : World) : Prop :=
  e = .returned (.int .i64 (((l.length + t.size : Nat) : Int) - 1)) ∧ ∃ v', CopAt w' B br be ba bb m A n c v' (l ++ flat (Tp m t) l.length) ∧ Fr bb v v' w w'
def CopC (w0 : World) (br be ba bb : Nat) (m : Bool) (A : Option Addr) (n c : Nat) (t : Ex) (j : Int) : Prop :=
  ∀ (w : World) (v : Value) (l : List Pc), Below w0.heap.size w0 w → CopAt w w0.heap.size br be ba bb m A n c v l → l.length + t.size ≤ 1000 →
    Calls Try.prog 59 #[.int .i64 j, .pointer (some ⟨br, 0, none⟩), .pointer (some ⟨be, 0, none⟩), .pointer (some ⟨ba, 0, none⟩), .pointer (some ⟨bb, 0, none⟩)] w (CopPost w0.heap.size br be ba bb m A n c v l t w)
theorem info_piece : (Try.prog.info? 32).map (fun i => (i.zero, i.size, i.bytes)) = some (some (.agg #[.int .u8 0, .int .u8 0, .int .u8 0, .int .i64 0, .int .i64 0]), 5, 24) := by kernel_rfl
/-- A piece in a variable of its own. -/
def Bx5 (W : World) (p : Nat) (y : Pc) : Prop := W.heap[p]? = some (.cells (pv y).toArray 32 (0, 0))
theorem Bx5.lt {W : World} {p : Nat} {y : Pc} (h : Bx5 W p y) : p < W.heap.size := (Array.getElem?_eq_some_iff.1 h).1
theorem Bx5.cells {W : World} {p : Nat} {y : Pc} (h : Bx5 W p y) : W.cell? ⟨p, 0, none⟩ = some (.int .u8 y.op) ∧ W.cell? ⟨p, 1, none⟩ = some (.int .u8 y.p) ∧ W.cell? ⟨p, 2, none⟩ = some (.int .u8 y.q) ∧ W.cell? ⟨p, 3, none⟩ = some (.int .i64 y.a) ∧ W.cell? ⟨p, 4, none⟩ = some (.int .i64 y.b) := by
  refine ⟨?_, ?_, ?_, ?_, ?_⟩ <;> simp [World.cell?, show W.heap[p]? = _ from h, pv]
theorem Bx5.free {W : World} {p : Nat} {y : Pc} (h : Bx5 W p y) (i : Nat) : W.frozen? ⟨p, i, none⟩ = false := by simp [World.frozen?, show W.heap[p]? = _ from h]
theorem Bx5.setA {W : World} {p : Nat} {y : Pc} (h : Bx5 W p y) (x : Int) : Bx5 (W.setCell ⟨p, 3, none⟩ (.int .i64 x)) p ⟨y.op, y.p, y.q, x, y.b⟩ := by
  obtain ⟨hlt, hk⟩ := Array.getElem?_eq_some_iff.1 h
  show (W.heap.modify p _)[p]? = _
  rw [Array.getElem?_eq_getElem (by rw [Array.size_modify]; exact hlt), Array.getElem_modify_self, hk]
  rfl
theorem Bx5.setB {W : World} {p : Nat} {y : Pc} (h : Bx5 W p y) (x : Int) : Bx5 (W.setCell ⟨p, 4, none⟩ (.int .i64 x)) p ⟨y.op, y.p, y.q, y.a, x⟩ := by
  obtain ⟨hlt, hk⟩ := Array.getElem?_eq_some_iff.1 h
  show (W.heap.modify p _)[p]? = _
  rw [Array.getElem?_eq_getElem (by rw [Array.size_modify]; exact hlt), Array.getElem_modify_self, hk]
  rfl
theorem Bx5.new (W : World) (y : Pc) : Bx5 (W.alloc (.cells (pv y).toArray 32)) W.heap.size y := World.alloc_heap_new W _
theorem Bx5.below {W W1 : World} {p : Nat} {y : Pc} (h : Bx5 W p y) (hb : Below W.heap.size W W1) : Bx5 W1 p y := (hb.block p h.lt).trans h
theorem drew_below (w : World) : Below w.heap.size w w.drew := ⟨rfl, rfl, rfl, Nat.le_refl _, fun _ _ => rfl⟩
/-- What region 1 leaves: the new piece lies in a new variable. -/
def Got (w : World) (y : Pc) (p0 : Nat) (w1 : World) : Prop := Bx5 w1 p0 y ∧ Below w.heap.size w w1 ∧ w.heap.size ≤ p0
def GotAt (w : World) (y : Pc) (t : Value) (w1 : World) : Prop := ∃ p0, t = .pointer (some ⟨p0, 0, none⟩) ∧ Got w y p0 w1
theorem heap_set {w : World} {b : Nat} {cs : Array Value} {t : TypeId} {f : Nat × Nat} (h : w.heap[b]? = some (.cells cs t f)) (o : Nat) (u : Value) : (w.setCell ⟨b, o, none⟩ u).heap[b]? = some (.cells (cs.setIfInBounds o u) t f) := by
  have hlt := lt_of_block h
  have h' : w.heap[b] = .cells cs t f := by simpa [Array.getElem?_eq_getElem hlt] using h
  show (w.heap.modify b _)[b]? = _
  rw [Array.getElem?_eq_getElem (by simpa using hlt), Array.getElem_modify_self, h']
  rfl
theorem gotA {w w1 : World} {y : Pc} (hb : Below w.drew.heap.size w.drew w1) : GotAt w y (.pointer (some ⟨w1.heap.size, 0, none⟩)) (w1.alloc (.cells #[.int .u8 y.op, .int .u8 y.p, .int .u8 y.q, .int .i64 y.a, .int .i64 y.b] 32)) :=
  ⟨_, rfl, Bx5.new w1 y, bal (stepB (drew_below w) hb) _, hb.size⟩
theorem gotB {w w1 : World} {y : Pc} {u0 u1 u2 u3 u4 : Value} (hb : Below (w.alloc (.cells #[u0, u1, u2, u3, u4] 32)).drew.heap.size (w.alloc (.cells #[u0, u1, u2, u3, u4] 32)).drew w1) :
    GotAt w y (.pointer (some ⟨w.heap.size, 0, none⟩)) (((((w1.setCell ⟨w.heap.size, 0, none⟩ (.int .u8 y.op)).setCell ⟨w.heap.size, 1, none⟩ (.int .u8 y.p)).setCell ⟨w.heap.size, 2, none⟩ (.int .u8 y.q)).setCell ⟨w.heap.size, 3, none⟩ (.int .i64 y.a)).setCell ⟨w.heap.size, 4, none⟩ (.int .i64 y.b)) := by
  refine ⟨_, rfl, ?_, ?_, Nat.le_refl _⟩
  · have h0 : w1.heap[w.heap.size]? = some (.cells #[u0, u1, u2, u3, u4] 32 (0, 0)) := (hb.block w.heap.size (by show _ < (w.alloc _).heap.size; simp)).trans (World.alloc_heap_new w _)
    exact heap_set (heap_set (heap_set (heap_set (heap_set h0 0 _) 1 _) 2 _) 3 _) 4 _
  · have h1 : Below w.heap.size w w1 := stepB (bal (Below.refl _ _) _) (stepB (drew_below _) hb)
    exact ((((h1.setCell (Nat.le_refl _) _).setCell (Nat.le_refl _) _).setCell (Nat.le_refl _) _).setCell (Nat.le_refl _) _).setCell (Nat.le_refl _) _
theorem cells_new (w : World) (l : List Value) (t : TypeId) : ∀ j u, l[j]? = some u → (w.alloc (.cells l.toArray t)).cell? ((⟨w.heap.size, 0, none⟩ : Addr).add j) = some u := by
  intro j u hu
  rw [Ap.addr_add, World.cell?_alloc_at _ _ _ _ rfl]
  simpa using hu
/-- Behind the append. -/
theorem appended {W w1 : World} {B br be ba bb n c : Nat} {m : Bool} {A : Option Addr} {v v' : Value} {l : List Pc} {z : Pc} {tmp : Obj} (h : CopAt W B br be ba bb m A n c v l)
    (hown : w1.ownsRow B 32 5 v' (l.length + 1) (pvs l ++ pv z)) (hg : (W.alloc tmp).grownBy w1 v.ownBlock) (hob : v'.ownBlock = v.ownBlock ∨ v'.ownBlock = some (W.alloc tmp).heap.size) :
    w1.cell? ⟨bb, 0, none⟩ = some v ∧ w1.frozen? ⟨bb, 0, none⟩ = false ∧ CopAt (w1.setCell ⟨bb, 0, none⟩ v') B br be ba bb m A n c v' (l ++ [z]) ∧ Fr bb v v' W (w1.setCell ⟨bb, 0, none⟩ v') := by
  have hb := (Below.refl W.heap.size W).alloc (Nat.le_refl _) tmp
  have keep : ∀ {k : Nat} {t : TypeId} {u : Value}, Boxed W k t u → t ≠ 32 → Boxed w1 k t u := fun {k t u} hk ht =>
    ((hg.block k (Nat.lt_of_lt_of_le hk.lt hb.size) (fun e => ne_row hk ht h.o e.symm)).trans (hb.block k hk.lt)).trans hk
  have h1 := keep h.b (by decide)
  have hne : v'.ownBlock ≠ some bb := ne_row h1 (by decide) hown
  have hs : ∀ k, k ≠ bb → (w1.setCell ⟨bb, 0, none⟩ v').heap[k]? = w1.heap[k]? := fun k hk => Below.heap_setCell w1 _ v' k hk
  have hne2 : ∀ {k : Nat} {t : TypeId} {u : Value}, Boxed w1 k t u → t ≠ 27 → k ≠ bb := fun {k t u} hk ht e => by
    have := hk; rw [e] at this
    have h2 : w1.heap[bb]? = _ := h1
    rw [show w1.heap[bb]? = _ from this] at h2
    simp at h2
    exact ht h2.2
  have kr := keep h.r (by decide)
  have ke := keep h.e (by decide)
  have kf := keep h.f (by decide)
  refine ⟨h1.cell, h1.frozen, ⟨(hs _ (hne2 kr (by decide))).trans kr, (hs _ h.eb).trans ke, (hs _ (hne2 kf (by decide))).trans kf, h1.set v', ?_, h.eb, h.B0, ?_⟩, ?_⟩
  · rw [List.length_append, pvs_snoc]
    refine ⟨hown.1, ?_⟩
    rcases hown.2 with h0 | ⟨g, cap, cur, hv, hge, hc, rest⟩
    · exact .inl h0
    · exact .inr ⟨g, cap, cur, hv, hge, (hs g (fun e => hne (by rw [hv, ← e]; rfl))).trans hc, rest⟩
  · show _ ≤ (w1.heap.modify _ _).size
    rw [Array.size_modify]
    exact Nat.le_trans h.Bw (Nat.le_trans hb.size hg.size)
  · exact (Fr.grown hg hob).set ⟨bb, 0, none⟩ (.inl rfl) v'
theorem cop_end {w w1 w2 : World} {B br be ba bb n c : Nat} {m : Bool} {A : Option Addr} {v v1 v2 : Value} {l l2 : List Pc} {z : Pc} {t : Ex} (hf : Fr bb v v1 w w1) (hf2 : Fr bb v1 v2 w1 w2) (hC : CopAt w2 B br be ba bb m A n c v2 (l2 ++ [z])) (hl : l2 ++ [z] = l ++ flat (Tp m t) l.length) (N : Int) (hN : N = ((l.length + t.size : Nat) : Int) - 1) : CopPost B br be ba bb m A n c v l t w (.returned (.int .i64 N)) w2 :=
  ⟨by rw [hN], v2, hl ▸ hC, hf.trans hf2⟩
set_option maxHeartbeats 16000000 in
theorem cop_step (w0 : World) (br be ba bb : Nat) (m : Bool) (A : Option Addr) (e : List Pc) (c : Nat) (hl : e.length ≤ 1000000) (hx : PcsAt w0 A e) (j : Nat) (hj : j < e.length) (y : Pc) (hy : y = Rp m (pc e j)) (t : Ex)
    (hcs : (nk y.op = 0 ∧ Hid (t.size = 1 ∧ ∀ k, flat (Tp m t) k = [y])) ∨
      (∃ t1, nk y.op = 1 ∧ Hid (t.size = t1.size + 1 ∧ ∀ k, flat (Tp m t) k = flat (Tp m t1) k ++ [⟨y.op, y.p, y.q, ((k + t1.size : Nat) : Int) - 1, y.b⟩]) ∧ Hid (CopC w0 br be ba bb m A e.length c t1 y.a)) ∨
      (∃ t1 t2, nk y.op = 2 ∧ Hid (t.size = t1.size + t2.size + 1 ∧ ∀ k, flat (Tp m t) k = flat (Tp m t1) k ++ (flat (Tp m t2) (k + t1.size) ++ [⟨y.op, y.p, y.q, ((k + t1.size : Nat) : Int) - 1, ((k + t1.size + t2.size : Nat) : Int) - 1⟩])) ∧ Hid (CopC w0 br be ba bb m A e.length c t1 y.a) ∧ Hid (CopC w0 br be ba bb m A e.length c t2 y.b))) :
    CopC w0 br be ba bb m A e.length c t j := by
  intro w v l hw hC hs
  obtain ⟨ad, rfl, had, hok, f0, f1, f2, f3, f4⟩ := pcs_five hx hw hj
  have hR := Lib.hid fun X => rep_any m (pc e j) X
  rw [← hy] at hR
  have hj2 : (j : Int) < e.length := by omega
  have cr := hC.r.cell
  have ce := hC.e.cell
  have lr := hC.r.lt
  have le := hC.e.lt
  have hadd : (ad.add (j * 5)).block < w.heap.size := by rw [addr_block]; exact Nat.lt_of_lt_of_le had hw.size
  have HC := Lib.hid hC
  have hyo : y.op < 256 := by
    rw [hy]; unfold Rp
    have := hok.op
    split
    · split
      · show 4 < 256
        decide
      · show revOp _ < 256
        unfold revOp
        split
        · decide
        · split
          · decide
          · exact this
    · exact this
  have HW := Lib.hid hw
  clear hC hok hy hx hw
  unfold repF at cr
  unfold agv at hR
  generalize pc e j = x at *
  generalize e.length = n at *
  obtain ⟨i0, hi, hz0, hz1, hz2⟩ := info_parts info_piece
  go_enter Try.func59, Try.ntmps59
  go_upto_region 1 with fail
  go_cut [7] from 9 to 14 (fun t wx => GotAt w y t wx)
  case first =>
    cases m
    all_goals
      simp only [Bool.false_eq_true, if_false, if_true] at hR cr
      go_region_law (first
        | (go_simp; go_at_call 34; ((with_reducible refine (hR.out _).mono ?_); rintro r w1 ⟨rfl, hb1⟩); obtain ⟨hcc, hff⟩ := bcell hb1)
        | (go_simp; go_at_call 38; ((with_reducible refine (hR.out _).mono ?_); rintro r w1 ⟨rfl, hb1⟩); obtain ⟨hcc, hff⟩ := bcell hb1))
      all_goals go_wp2_with fail
      all_goals go_meet
      all_goals first
        | (with_reducible exact gotA hb1)
        | (with_reducible exact gotB hb1)
  case rest =>
    clear cr ce lr le hadd f0 f1 f2 f3 f4 had hR hj2 hj
    obtain ⟨p0, rfl, hbx, hb1, hp0⟩ := hcut
    have hp1 := hbx.lt
    obtain ⟨b0, b1, b2, b3, b4⟩ := hbx.cells
    have HBX := Lib.hid hbx
    have HCc := Lib.hid (HC.out.below hb1)
    have HB1 := Lib.hid hb1
    have HVp := Lib.hid fun g (hg : v.ownBlock = some g) => Nat.lt_of_lt_of_le (row_lt HC.out.o g hg) hp0
    have HW1 := Lib.hid (HW.out.trans (hb1.mono HW.out.size))
    clear hbx hb1
    rcases hcs with ⟨hk, HT⟩ | ⟨t1, hk, HT, HI1⟩ | ⟨t1, t2, hk, HT, HI1, HI2⟩
    · have HK := Lib.hid fun X => childrenOf_n (op := y.op) (p := y.p) (q := y.q) (a := y.a) (b := y.b) hyo hk X
      have hts := HT.out.1
      have hll : l.length ≤ 1000 := by omega
      clear hk hts
      go_wp2_with (first
        | (go_at_call 60; ((with_reducible refine (HK.out _).mono ?_); rintro r w2 ⟨g, rfl, hg1, hg2, hc0, hc1, hb2⟩); have hC2 := HCc.out.below hb2; have cb2 := hC2.b.cell; have own2 := Lib.hid hC2.o; have HC2 := Lib.hid hC2; obtain ⟨d0, d1, d2, d3, d4⟩ := (HBX.out.below hb2).cells; clear hC2 b0 b1 b2 b3 b4)
        | (at_builtin; refine wpList_append_own_at _ rfl _ _ 27 rfl w0.heap.size 32 i0 _ 5 24 Try.underlying27 hi hz0 hz1 hz2 rfl (by decide) v l.length (pvs l) rfl (Ap.own_bel own2.out (bal (Below.refl _ _) _)) ⟨w2.heap.size, 0, none⟩ 1 1 [.int .u8 y.op, .int .u8 y.p, .int .u8 y.q, .int .i64 y.a, .int .i64 y.b] rfl rfl (cells_new _ _ _) (by simp [Value.oneCell']) (by unfold maxLen; omega) (by omega) (by have := HC2.out.Bw; simp; omega) ?_; intro v' w5 hown' hgrow _ hob; obtain ⟨A', c', rfl, _⟩ := Ap.own_form hown'; obtain ⟨q0, q1, hC5, hF5⟩ := appended (z := y) HC2.out hown' hgrow hob; clear hown' hgrow hob))
      go_ret
      exact cop_end (t := t) (l := l) (Fr.of_below (stepB HB1.out hb2)) hF5 hC5 (by rw [HT.out.2]) _ (by have := HT.out.1; omega)
    · have HK := Lib.hid fun X => childrenOf_n (op := y.op) (p := y.p) (q := y.q) (a := y.a) (b := y.b) hyo hk X
      have hts := HT.out.1
      have hll : l.length + t1.size ≤ 1000 := by omega
      clear hk hts
      go_upto_region 4 with (first
        | (go_at_call 60; ((with_reducible refine (HK.out _).mono ?_); rintro r w2 ⟨g, rfl, hg1, hg2, hc0, hc1, hb2⟩); have hC2 := HCc.out.below hb2; have cf2 := hC2.f.cell; have HC2 := Lib.hid hC2; clear hC2 b0 b1 b2 b3 b4))
      have HBX2 := Lib.hid (HBX.out.below hb2)
      have hp2 : p0 < w2.heap.size := Nat.lt_of_lt_of_le hp1 hb2.size
      have HW2 := Lib.hid (stepB HW1.out hb2)
      unfold copF at cf2
      go_still_tail 4, (by kernel_rfl)
      change wpList _ _ _ _ _ w2.drew
      have hd := drew_below w2
      generalize w2.drew = w3 at *
      have HBX3 := Lib.hid (HBX2.out.below hd)
      have hp3 : p0 < w3.heap.size := Nat.lt_of_lt_of_le hp2 hd.size
      have HC3 := Lib.hid (HC2.out.below hd)
      have HF3 := Lib.hid (Fr.of_below (bb := bb) (v := v) (stepB (stepB HB1.out hb2) hd))
      have HI := Lib.hid (HI1.out w3 v l (stepB HW2.out hd) HC3.out hll)
      have hF1 : (flat (Tp m t1) l.length).length = t1.size := by
        rw [flat_len]; unfold Tp
        split
        · exact rev_size t1
        · rfl
      obtain ⟨l1, hl1⟩ : ∃ l1, l1 = flat (Tp m t1) l.length := ⟨_, rfl⟩
      rw [← hl1] at hF1
      clear hd HI1
      go_upto_region 7 with (first
        | (go_at_call 59; ((with_reducible refine HI.out.mono ?_); rintro r w4 ⟨rfl, v1, hC4, hF4⟩); rw [← hl1] at hC4; have hB4 : Bx5 w4 p0 y := (hF4.block p0 hp3 (by have := HC.out.b.lt; omega) (fun e => absurd (HVp.out _ e) (Nat.lt_irrefl _))).trans HBX3.out; have hne4 : ∀ g, v1.ownBlock = some g → g ≠ p0 := (fun g hg e => by rcases hF4.own g hg with h | h; exact absurd (HVp.out _ h) (by omega); omega); obtain ⟨b0, b1, b2, b3, b4⟩ := hB4.cells; have z3 := hB4.free 3; have HB4 := Lib.hid hB4; have HC4 := Lib.hid hC4; have HF4 := Lib.hid hF4; clear hB4 hC4 hF4))
      have HC5 := Lib.hid (HC4.out.far p0 (by have := HC.out.r.lt; omega) (by have := HC.out.e.lt; omega) (by have := HC.out.f.lt; omega) (by have := HC.out.b.lt; omega) hne4 3 (.int .i64 ((l.length : Int) + t1.size - 1)))
      have HB5 := Lib.hid (HB4.out.setA ((l.length : Int) + t1.size - 1))
      have HF5 := Lib.hid ((HF3.out.trans HF4.out).set ⟨p0, 3, none⟩ (.inr hp0) (.int .i64 ((l.length : Int) + t1.size - 1)))
      generalize w4.setCell ⟨p0, 3, none⟩ (.int .i64 ((l.length : Int) + t1.size - 1)) = w5 at *
      obtain ⟨L, hL⟩ : ∃ L, L = l ++ l1 := ⟨_, rfl⟩
      rw [← hL] at HC5
      have hLl : L.length = l.length + t1.size := by rw [hL, List.length_append, hF1]
      have hLa : L.length ≤ l.length + t1.size := by omega
      have hLb : l.length + t1.size ≤ L.length := by omega
      have HLl := Lib.hid hLl
      have HL := Lib.hid hL
      have HL1 := Lib.hid hl1
      clear b0 b1 b2 b3 b4 z3 hL hl1 hF1 hLl
      obtain ⟨b0, b1, b2, b3, b4⟩ := HB5.out.cells
      have cb5 := HC5.out.b.cell
      have own2 := Lib.hid HC5.out.o
      simp only at b0 b1 b2 b3 b4
      go_wp2_with (at_builtin; refine wpList_append_own_at _ rfl _ _ 27 rfl w0.heap.size 32 i0 _ 5 24 Try.underlying27 hi hz0 hz1 hz2 rfl (by decide) v1 L.length (pvs L) rfl (Ap.own_bel own2.out (bal (Below.refl _ _) _)) ⟨w5.heap.size, 0, none⟩ 1 1 [.int .u8 y.op, .int .u8 y.p, .int .u8 y.q, .int .i64 ((l.length : Int) + t1.size - 1), .int .i64 y.b] rfl rfl (cells_new _ _ _) (by simp [Value.oneCell']) (by unfold maxLen; omega) (by omega) (by have := HC5.out.Bw; simp; omega) ?_; intro v' w6 hown' hgrow _ hob; obtain ⟨A', c', rfl, _⟩ := Ap.own_form hown'; obtain ⟨q0, q1, hC6, hF6⟩ := appended (z := ⟨y.op, y.p, y.q, ((l.length : Int) + t1.size - 1), y.b⟩) HC5.out hown' hgrow hob; clear hown' hgrow hob)
      go_ret
      refine cop_end (t := t) (l := l) HF5.out hF6 hC6 ?_ _ ?_
      · rw [HL.out, HL1.out, HT.out.2, List.append_assoc]; simp
      · have := HT.out.1; omega
    · have HK := Lib.hid fun X => childrenOf_n (op := y.op) (p := y.p) (q := y.q) (a := y.a) (b := y.b) hyo hk X
      have hts := HT.out.1
      have hll : l.length + t1.size ≤ 1000 := by omega
      have hll2 : l.length + t1.size + t2.size ≤ 1000 := by omega
      clear hk hts
      go_upto_region 4 with (first
        | (go_at_call 60; ((with_reducible refine (HK.out _).mono ?_); rintro r w2 ⟨g, rfl, hg1, hg2, hc0, hc1, hb2⟩); have hC2 := HCc.out.below hb2; have cf2 := hC2.f.cell; have HC2 := Lib.hid hC2; clear hC2 b0 b1 b2 b3 b4))
      have HBX2 := Lib.hid (HBX.out.below hb2)
      have hgp : g ≠ p0 := by omega
      have hp2 : p0 < w2.heap.size := Nat.lt_of_lt_of_le hp1 hb2.size
      have HW2 := Lib.hid (stepB HW1.out hb2)
      unfold copF at cf2
      go_still_tail 4, (by kernel_rfl)
      change wpList _ _ _ _ _ w2.drew
      have hd := drew_below w2
      generalize w2.drew = w3 at *
      have HBX3 := Lib.hid (HBX2.out.below hd)
      have hp3 : p0 < w3.heap.size := Nat.lt_of_lt_of_le hp2 hd.size
      have HC3 := Lib.hid (HC2.out.below hd)
      have HF3 := Lib.hid (Fr.of_below (bb := bb) (v := v) (stepB (stepB HB1.out hb2) hd))
      have HI := Lib.hid (HI1.out w3 v l (stepB HW2.out hd) HC3.out hll)
      have hF1 : (flat (Tp m t1) l.length).length = t1.size := by
        rw [flat_len]; unfold Tp
        split
        · exact rev_size t1
        · rfl
      obtain ⟨l1, hl1⟩ : ∃ l1, l1 = flat (Tp m t1) l.length := ⟨_, rfl⟩
      rw [← hl1] at hF1
      have hg3 : g < w3.heap.size := Nat.lt_of_lt_of_le hg2 hd.size
      have hc13 := (hd.cell (p := ⟨g, 1, none⟩) hg2).trans hc1
      clear hd HI1 hc1
      go_upto_region 6 with (first
        | (go_at_call 59; ((with_reducible refine HI.out.mono ?_); rintro r w4 ⟨rfl, v1, hC4, hF4⟩); rw [← hl1] at hC4; have hB4 : Bx5 w4 p0 y := (hF4.block p0 hp3 (by have := HC.out.b.lt; omega) (fun e => absurd (HVp.out _ e) (Nat.lt_irrefl _))).trans HBX3.out; have hne4 : ∀ g, v1.ownBlock = some g → g ≠ p0 := (fun g hg e => by rcases hF4.own g hg with h | h; exact absurd (HVp.out _ h) (by omega); omega); obtain ⟨b0, b1, b2, b3, b4⟩ := hB4.cells; have z3 := hB4.free 3; have HB4 := Lib.hid hB4; have e1 := (hF4.cell (p := ⟨g, 1, none⟩) hg3 (by have := HC.out.b.lt; show g ≠ bb; omega) (fun e => by have h := HVp.out _ e; have h2 : g < p0 := h; omega)).trans hc13; have HC4 := Lib.hid hC4; have HF4 := Lib.hid hF4; clear hB4 hC4 hF4))
      have HC5 := Lib.hid (HC4.out.far p0 (by have := HC.out.r.lt; omega) (by have := HC.out.e.lt; omega) (by have := HC.out.f.lt; omega) (by have := HC.out.b.lt; omega) hne4 3 (.int .i64 ((l.length : Int) + t1.size - 1)))
      have HB5 := Lib.hid (HB4.out.setA ((l.length : Int) + t1.size - 1))
      have HF5 := Lib.hid ((HF3.out.trans HF4.out).set ⟨p0, 3, none⟩ (.inr hp0) (.int .i64 ((l.length : Int) + t1.size - 1)))
      have e5 : (w4.setCell ⟨p0, 3, none⟩ (.int .i64 ((l.length : Int) + t1.size - 1))).cell? ⟨g, 1, none⟩ = some (.int .i64 y.b) := (World.cell?_of_block (w := w4) (a := ⟨g, 1, none⟩) (Below.heap_setCell w4 ⟨p0, 3, none⟩ _ g hgp)).trans e1
      clear e1
      generalize w4.setCell ⟨p0, 3, none⟩ (.int .i64 ((l.length : Int) + t1.size - 1)) = w5 at *
      obtain ⟨L, hL⟩ : ∃ L, L = l ++ l1 := ⟨_, rfl⟩
      rw [← hL] at HC5
      have hLl : L.length = l.length + t1.size := by rw [hL, List.length_append, hF1]
      have hLa : L.length ≤ l.length + t1.size := by omega
      have hLb : l.length + t1.size ≤ L.length := by omega
      have HLl := Lib.hid hLl
      have HL := Lib.hid hL
      have HL1 := Lib.hid hl1
      clear b0 b1 b2 b3 b4 z3 hL hl1 hF1 hLl
      obtain ⟨b0, b1, b2, b3, b4⟩ := HB5.out.cells
      have cb5 := HC5.out.b.cell
      have own2 := Lib.hid HC5.out.o
      simp only at b0 b1 b2 b3 b4
      have cf5 := HC5.out.f.cell
      unfold copF at cf5
      have HW5 := Lib.hid (HW.out.trans (HF5.out.below HW.out.size HC.out.B0 (row_ge HC.out.o)))
      have hp5 : p0 < w5.heap.size := HB5.out.lt
      clear own2 cb5 b0 b1 b2 b3 b4
      go_upto_region 6 with fail
      go_still_tail 4, (by kernel_rfl)
      change wpList _ _ _ _ _ w5.drew
      have hd := drew_below w5
      generalize w5.drew = w6 at *
      have HB6 := Lib.hid (HB5.out.below hd)
      have hp6 : p0 < w6.heap.size := Nat.lt_of_lt_of_le hp5 hd.size
      have HC6 := Lib.hid (HC5.out.below hd)
      have HF6 := Lib.hid (HF5.out.trans (Fr.of_below hd))
      have HI3 := Lib.hid (HI2.out w6 v1 L (HW5.out.trans (hd.mono HW5.out.size)) HC6.out (by omega))
      have hF2 : (flat (Tp m t2) L.length).length = t2.size := by
        rw [flat_len]; unfold Tp
        split
        · exact rev_size t2
        · rfl
      obtain ⟨l2, hl2⟩ : ∃ l2, l2 = flat (Tp m t2) L.length := ⟨_, rfl⟩
      rw [← hl2] at hF2
      clear hd HI2
      go_upto_region 7 with (first
        | (go_at_call 59; ((with_reducible refine HI3.out.mono ?_); rintro r w7 ⟨rfl, v2, hC7, hF7⟩); rw [← hl2] at hC7; have hB7 : Bx5 w7 p0 ⟨y.op, y.p, y.q, (l.length : Int) + t1.size - 1, y.b⟩ := (hF7.block p0 hp6 (by have := HC.out.b.lt; omega) (fun e => hne4 _ e rfl)).trans HB6.out; have hne7 : ∀ g, v2.ownBlock = some g → g ≠ p0 := (fun g hg e => by rcases hF7.own g hg with h | h; exact hne4 _ h e; omega); obtain ⟨b0, b1, b2, b3, b4⟩ := hB7.cells; have z4 := hB7.free 4; have HB7 := Lib.hid hB7; have HC7 := Lib.hid hC7; have HF7 := Lib.hid hF7; clear hB7 hC7 hF7))
      have HC8 := Lib.hid (HC7.out.far p0 (by have := HC.out.r.lt; omega) (by have := HC.out.e.lt; omega) (by have := HC.out.f.lt; omega) (by have := HC.out.b.lt; omega) hne7 4 (.int .i64 ((L.length : Int) + t2.size - 1)))
      have HB8 := Lib.hid (HB7.out.setB ((L.length : Int) + t2.size - 1))
      have HF8 := Lib.hid ((HF6.out.trans HF7.out).set ⟨p0, 4, none⟩ (.inr hp0) (.int .i64 ((L.length : Int) + t2.size - 1)))
      generalize w7.setCell ⟨p0, 4, none⟩ (.int .i64 ((L.length : Int) + t2.size - 1)) = w8 at *
      obtain ⟨M, hM⟩ : ∃ M, M = L ++ l2 := ⟨_, rfl⟩
      rw [← hM] at HC8
      have hMl : M.length = l.length + t1.size + t2.size := by rw [hM, List.length_append, hF2, HLl.out]
      have hMa : M.length ≤ l.length + t1.size + t2.size := by omega
      have hMb : l.length + t1.size + t2.size ≤ M.length := by omega
      have HM := Lib.hid hM
      have HL2 := Lib.hid hl2
      clear b0 b1 b2 b3 b4 z4 hM hl2 hF2 hMl
      obtain ⟨b0, b1, b2, b3, b4⟩ := HB8.out.cells
      have cb8 := HC8.out.b.cell
      have own3 := Lib.hid HC8.out.o
      simp only at b0 b1 b2 b3 b4
      go_wp2_with (at_builtin; refine wpList_append_own_at _ rfl _ _ 27 rfl w0.heap.size 32 i0 _ 5 24 Try.underlying27 hi hz0 hz1 hz2 rfl (by decide) v2 M.length (pvs M) rfl (Ap.own_bel own3.out (bal (Below.refl _ _) _)) ⟨w8.heap.size, 0, none⟩ 1 1 [.int .u8 y.op, .int .u8 y.p, .int .u8 y.q, .int .i64 ((l.length : Int) + t1.size - 1), .int .i64 ((L.length : Int) + t2.size - 1)] rfl rfl (cells_new _ _ _) (by simp [Value.oneCell']) (by unfold maxLen; omega) (by omega) (by have := HC8.out.Bw; simp; omega) ?_; intro v' w9 hown' hgrow _ hob; obtain ⟨A', c', rfl, _⟩ := Ap.own_form hown'; obtain ⟨q0, q1, hC9, hF9⟩ := appended (z := ⟨y.op, y.p, y.q, (l.length : Int) + t1.size - 1, (L.length : Int) + t2.size - 1⟩) HC8.out hown' hgrow hob; clear hown' hgrow hob)
      go_ret
      refine cop_end (t := t) (l := l) HF8.out hF9 hC9 ?_ _ ?_
      · rw [HM.out, HL2.out, HL.out, HL1.out, HT.out.2, List.append_assoc]
        rw [← HL1.out, ← HL.out, HLl.out]
        simp
        rw [HL.out, List.append_assoc]
      · have := HT.out.1; omega
end Go.Proofs.Yteckkbjpeckjmaa.Rx
