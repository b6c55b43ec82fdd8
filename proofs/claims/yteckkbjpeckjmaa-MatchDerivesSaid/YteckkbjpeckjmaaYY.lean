/- Texts of expressions (package regex): the closure that calls itself. -/
import Derived.Test.YteckkbjpeckjmaaYX
import Derived.Laws.EntriesVeiled
namespace Go.Proofs.Yteckkbjpeckjmaa.Rx
open Go Go.RowKit Go.Proofs.Yteckkbjpeckjmaa
set_option linter.unusedVariables false
set_option maxRecDepth 100000
def txF (be bb bv bm : Nat) : Value := .func (.func 54) #[] #[.pointer (some ⟨be, 0, none⟩), .pointer (some ⟨bb, 0, none⟩), .pointer (some ⟨bv, 0, none⟩), .pointer (some ⟨bm, 0, none⟩)]
/-- The closure's variables, and the text so far. -/
structure TxAt (w : World) (be bb bv bm : Nat) (A : Option Addr) (n c : Nat) (v : Int) (l : List UInt8) : Prop where
  e : Boxed w be 27 (.slice A n c)
  v : Boxed w bv 3 (.int .i64 v)
  f : Boxed w bm 88 (txF be bb bv bm)
  b : Bld w bb l
  lt : bb < w.heap.size
  ne : be ≠ bb ∧ bv ≠ bb ∧ bm ≠ bb
theorem TxAt.step {w w1 : World} {be bb bv bm n c : Nat} {A : Option Addr} {v : Int} {l l1 : List UInt8} (h : TxAt w be bb bv bm A n c v l) (k : BK bb w w1) (hB : Bld w1 bb l1) : TxAt w1 be bb bv bm A n c v l1 :=
  ⟨k.boxed h.e h.ne.1 (by decide), k.boxed h.v h.ne.2.1 (by decide), k.boxed h.f h.ne.2.2 (by decide), hB, Nat.lt_of_lt_of_le h.lt k.bel.size, h.ne⟩
def opc (sg kn : Int) (pf : Bool) : Array Value := #[.int .u8 sg, .int .i64 kn, .bool pf]
/-- All that one call of the closure holds. -/
structure LX (w0 ws w : World) (p0 o0 : Nat) (x : Pc) (sg kn : Int) (pf : Bool) (be bb bv bm : Nat) (A : Option Addr) (n c : Nat) (v : Int) (l : List UInt8) : Prop where
  t : TxAt w be bb bv bm A n c v l
  bel : Below w0.heap.size w0 w
  low : w0.heap.size ≤ bb
  k : BK bb ws w
  p : w.heap[p0]? = some (.cells (pv x).toArray 32 (0, 0))
  o : w.heap[o0]? = some (.cells (opc sg kn pf) 90 (0, 0))
  ne : p0 ≠ bb ∧ o0 ≠ bb
section
variable {w0 ws w w1 : World} {p0 o0 : Nat} {x : Pc} {sg kn : Int} {pf : Bool} {be bb bv bm n c : Nat} {A : Option Addr} {v : Int} {l l1 : List UInt8}
theorem LX.step (h : LX w0 ws w p0 o0 x sg kn pf be bb bv bm A n c v l) (k : BK bb w w1) (hB : Bld w1 bb l1) : LX w0 ws w1 p0 o0 x sg kn pf be bb bv bm A n c v l1 :=
  ⟨h.t.step k hB, h.bel.trans (k.bel.mono h.low), h.low, h.k.trans k, k.block h.p h.ne.1 (by decide), k.block h.o h.ne.2 (by decide), h.ne⟩
theorem LX.cells (h : LX w0 ws w p0 o0 x sg kn pf be bb bv bm A n c v l) : w.cell? ⟨p0, 3, none⟩ = some (.int .i64 x.a) ∧ w.cell? ⟨p0, 4, none⟩ = some (.int .i64 x.b) ∧ w.cell? ⟨o0, 0, none⟩ = some (.int .u8 sg) ∧ w.cell? ⟨o0, 1, none⟩ = some (.int .i64 kn) ∧ w.cell? ⟨o0, 2, none⟩ = some (.bool pf) ∧ w.cell? ⟨bm, 0, none⟩ = some (txF be bb bv bm) := by
  refine ⟨?_, ?_, ?_, ?_, ?_, h.t.f.cell⟩
  · simp [World.cell?, h.p, pv]
  · simp [World.cell?, h.p, pv]
  · simp [World.cell?, h.o, opc]
  · simp [World.cell?, h.o, opc]
  · simp [World.cell?, h.o, opc]
theorem LX.more (h : LX w0 ws w p0 o0 x sg kn pf be bb bv bm A n c v l) : w.cell? ⟨p0, 0, none⟩ = some (.int .u8 x.op) ∧ w.cell? ⟨p0, 1, none⟩ = some (.int .u8 x.p) ∧ w.cell? ⟨p0, 2, none⟩ = some (.int .u8 x.q) ∧ w.cell? ⟨bv, 0, none⟩ = some (.int .i64 v) := by
  refine ⟨?_, ?_, ?_, h.t.v.cell⟩
  · simp [World.cell?, h.p, pv]
  · simp [World.cell?, h.p, pv]
  · simp [World.cell?, h.p, pv]
/-- At the start, behind operatorOf. -/
theorem LX.start (h : TxAt ws be bb bv bm A n c v l) (hw : Below w0.heap.size w0 ws) (hl : w0.heap.size ≤ bb) (hb1 : Below (ws.alloc (.cells (pv x).toArray 32)).heap.size (ws.alloc (.cells (pv x).toArray 32)) w1) :
    LX w0 ws (w1.alloc (.cells (opc sg kn pf) 90)) ws.heap.size w1.heap.size x sg kn pf be bb bv bm A n c v l := by
  have h1 : Below ws.heap.size ws (w1.alloc (.cells (opc sg kn pf) 90)) := bal (stepB (bal (Below.refl _ _) _) hb1) _
  have k1 : BK bb ws (w1.alloc (.cells (opc sg kn pf) 90)) := .of_below h1 (Nat.le_of_lt h.lt)
  have hs : ws.heap.size < w1.heap.size := by have := hb1.size; simp at this; omega
  refine ⟨h.step k1 (h.b.below h1), hw.trans (h1.mono hw.size), hl, k1, ?_, World.alloc_heap_new _ _, ?_, ?_⟩
  · exact ((Below.heap_alloc w1 _ ws.heap.size hs).trans (hb1.block ws.heap.size (by simp))).trans (World.alloc_heap_new ws _)
  · have := h.lt; omega
  · have := h.lt; omega
end
def TxC (w0 : World) (be bb bv bm : Nat) (A : Option Addr) (n c : Nat) (v : Int) (t : Ex) (j : Int) : Prop :=
  ∀ (w : World) (l : List UInt8), Below w0.heap.size w0 w → TxAt w be bb bv bm A n c v l → w0.heap.size ≤ bb → l.length + (txt t).length ≤ 100000 →
    Calls Try.prog 54 #[.int .i64 j, .pointer (some ⟨be, 0, none⟩), .pointer (some ⟨bb, 0, none⟩), .pointer (some ⟨bv, 0, none⟩), .pointer (some ⟨bm, 0, none⟩)] w fun r w' => r = .returned (.tuple #[]) ∧ TxAt w' be bb bv bm A n c v (l ++ txt t) ∧ BK bb w w'
theorem txt_leaf (op p q : Nat) : txt (.leaf op p q) = if op = 1 then [48] else if op = 2 then [49] else 91 :: (fmtT p q ++ [93]) := rfl
set_option maxHeartbeats 8000000 in
theorem tx_leaf (w0 : World) (be bb bv bm : Nat) (A : Option Addr) (e : List Pc) (c : Nat) (v : Nat) (hl : e.length ≤ 1000000) (hx : PcsAt w0 A e) (op p q : Nat) (s j : Nat) (ho : Ex.Ok (.leaf op p q)) (hc : Ex.Cubes v (.leaf op p q)) (hv : v ≤ 6) (hb : Bl e s j (.leaf op p q)) : TxC w0 be bb bv bm A e.length c v (.leaf op p q) j := by
  intro w l hw hT hlow hlen
  have hj := bl_lt hb
  obtain ⟨ad, rfl, had, hok, f0, f1, f2, f3, f4⟩ := pcs_five hx hw hj
  have hpc := bl_leaf' hb
  rw [hpc] at f0 f1 f2 f3 f4 hok
  have hop : op < 256 := hok.op
  have HO := Lib.hid fun X => operatorOf_any op X hop
  have HS := Lib.hid fun w1 => LX.start (x := ⟨op, p, q, 0, 0⟩) (sg := sgn op) (kn := 0) (pf := pfx op) (w1 := w1) hT hw hlow
  have hn : nk op = 0 := nk_leaf ho.1
  have HL : Hid (∀ X, Bld X bb l → bb < X.heap.size → Calls Try.prog 56 #[.pointer (some ⟨bb, 0, none⟩), .agg #[.int .u8 op, .int .u8 p, .int .u8 q, .int .i64 0, .int .i64 0], .agg #[.int .u8 (sgn op), .int .i64 0, .bool (pfx op)], .int .i64 v] X fun r w' => r = .returned (.tuple #[]) ∧ Bld w' bb (l ++ txt (.leaf op p q)) ∧ BK bb X w') := fun X hX hbX => by
    have h123 : op = 1 ∨ op = 2 ∨ op = 3 := by have := ho.1; omega
    rcases h123 with rfl | rfl | rfl
    · exact writeLeaf_one bb 1 48 p q 0 0 0 false v l X hX hbX (by omega) rfl (by decide)
    · exact writeLeaf_one bb 2 49 p q 0 0 0 false v l X hX hbX (by omega) rfl (by decide)
    · obtain ⟨v', e1, hC⟩ := chk_ok (hc rfl)
      obtain rfl : v = v' := by omega
      exact writeLeaf_cube bb p q v 0 false 0 0 l X hX hbX (by omega) hC
  have ce := hT.e.cell
  have hj2 : (j : Int) < e.length := by omega
  have HO : Hid (∀ X, Calls Try.prog 55 #[.int .u8 op] X fun e w' => e = .returned (.tuple #[.agg #[.int .u8 (sgn op), .int .i64 0, .bool (pfx op)], .bool (knw op)]) ∧ Below X.heap.size X w') := fun X => by
    have := HO.out X
    rwa [hn] at this
  generalize txt (.leaf op p q) = T at *
  clear hc hpc hb hok hn ho hw hx
  simp only at f0 f1 f2 f3 f4
  generalize e.length = n at *
  unfold opc pv at HS
  go_enter Try.func54, Try.ntmps54
  go_wp2_with (first
    | (go_at_call 55; ((with_reducible refine (HO.out _).mono ?_); rintro r w1 ⟨rfl, hb1⟩); have L := Lib.hid (HS.out _ hb1); obtain ⟨x3, x4, y0, y1, y2, fm⟩ := L.out.cells; obtain ⟨x0, x1, x2, cv⟩ := L.out.more; simp only at x0 x1 x2 x3 x4)
    | (go_at_call 56; ((with_reducible refine (HL.out _ L.out.t.b L.out.t.lt).mono ?_); rintro r w2 ⟨rfl, hB2, hk2⟩)))
  refine bodyPost_ret (results_none rfl _ _ _) rfl ?_
  exact ⟨rfl, (L.out.step hk2 hB2).t, (L.out.step hk2 hB2).k⟩
theorem txt_len_one (op : Nat) (a : Ex) : (txt (.one op a)).length = (txt a).length + 3 := by
  rw [txt_one]
  split <;> simp
theorem txt_len_two (op : Nat) (a b : Ex) : (txt (.two op a b)).length = (txt a).length + (txt b).length + 3 := by
  rw [txt_two]; simp; omega
theorem opB_sgn {op : Nat} (h : 4 ≤ op ∧ op ≤ 10) : UInt8.ofNat (sgn op) = opB op := by
  have hc : op = 4 ∨ op = 5 ∨ op = 6 ∨ op = 7 ∨ op = 8 ∨ op = 9 ∨ op = 10 := by omega
  rcases hc with rfl | rfl | rfl | rfl | rfl | rfl | rfl <;> decide
set_option maxHeartbeats 8000000 in
theorem tx_one (w0 : World) (be bb bv bm : Nat) (A : Option Addr) (e : List Pc) (c : Nat) (v : Nat) (hl : e.length ≤ 1000000) (hx : PcsAt w0 A e) (op : Nat) (a : Ex) (s j : Nat) (ho : Ex.Ok (.one op a)) (hb : Bl e s j (.one op a))
    (HI : Hid (TxC w0 be bb bv bm A e.length c v a ((j : Int) - 1))) : TxC w0 be bb bv bm A e.length c v (.one op a) j := by
  intro w l hw hT hlow hlen
  have hj := bl_lt hb
  obtain ⟨ad, rfl, had, hok, f0, f1, f2, f3, f4⟩ := pcs_five hx hw hj
  obtain ⟨h0, hpc, _⟩ := bl_one' hb
  rw [hpc] at f0 f1 f2 f3 f4 hok
  have hop : op < 256 := hok.op
  have HO := Lib.hid fun X => operatorOf_any op X hop
  have hn : nk op = 1 := nk_one ho.1
  have h1 := ho.1
  have ce := hT.e.cell
  have hj2 : (j : Int) < e.length := by omega
  rw [txt_len_one] at hlen
  have hsg := sgn_lt op
  have HSg := Lib.hid (opB_sgn (op := op) (by omega))
  have HR : Hid (∀ w', TxAt w' be bb bv bm (some ad) e.length c v (l ++ [UInt8.ofNat 40] ++ (if op = 8 then txt a ++ [UInt8.ofNat (sgn op)] else [UInt8.ofNat (sgn op)] ++ txt a) ++ [UInt8.ofNat 41]) → TxAt w' be bb bv bm (some ad) e.length c v (l ++ txt (.one op a))) := fun w' h => by
    have : l ++ [UInt8.ofNat 40] ++ (if op = 8 then txt a ++ [UInt8.ofNat (sgn op)] else [UInt8.ofNat (sgn op)] ++ txt a) ++ [UInt8.ofNat 41] = l ++ txt (.one op a) := by
      rw [txt_one]
      by_cases h8 : op = 8
      · subst h8
        rw [if_pos rfl, if_pos rfl]; simp; decide
      · rw [if_neg h8, if_neg h8, HSg.out]; simp
    rwa [this] at h
  have hpf : (op = 8 ∧ pfx op = false) ∨ (op ≠ 8 ∧ pfx op = true) := by
    have hc : op = 7 ∨ op = 8 ∨ op = 9 ∨ op = 10 := by omega
    rcases hc with rfl | rfl | rfl | rfl
    · exact .inr ⟨by decide, rfl⟩
    · exact .inl ⟨rfl, rfl⟩
    · exact .inr ⟨by decide, rfl⟩
    · exact .inr ⟨by decide, rfl⟩
  have HS := Lib.hid fun sg pf w1 => LX.start (x := ⟨op, 0, 0, (j : Int) - 1, 0⟩) (sg := sg) (kn := 1) (pf := pf) (w1 := w1) hT hw hlow
  have HO : Hid (∀ X, Calls Try.prog 55 #[.int .u8 op] X fun e w' => e = .returned (.tuple #[.agg #[.int .u8 (sgn op), .int .i64 1, .bool (pfx op)], .bool (knw op)]) ∧ Below X.heap.size X w') := fun X => by
    have := HO.out X
    rwa [hn] at this
  simp only at f0 f1 f2 f3 f4
  generalize txt (.one op a) = T at *
  obtain ⟨ta, hta⟩ : ∃ ta, ta = txt a := ⟨_, rfl⟩
  have HI : Hid (∀ (w : World) (l : List UInt8), Below w0.heap.size w0 w → TxAt w be bb bv bm (some ad) e.length c v l → w0.heap.size ≤ bb → l.length + ta.length ≤ 100000 →
    Calls Try.prog 54 #[.int .i64 ((j : Int) - 1), .pointer (some ⟨be, 0, none⟩), .pointer (some ⟨bb, 0, none⟩), .pointer (some ⟨bv, 0, none⟩), .pointer (some ⟨bm, 0, none⟩)] w fun r w' => r = .returned (.tuple #[]) ∧ TxAt w' be bb bv bm (some ad) e.length c v (l ++ ta) ∧ BK bb w w') := by rw [hta]; exact HI.out
  rw [← hta] at HR hlen
  clear hta hpc hb hok hn ho hw hx hT HSg
  generalize e.length = n at *
  generalize hsgg : sgn op = sg at *
  clear hsgg
  unfold opc pv at HS
  rcases hpf with ⟨h8, hpf⟩ | ⟨h8, hpf⟩
  · rw [hpf] at HO
    have HS := Lib.hid (HS.out (sg : Int) false)
    have HR : Hid (∀ w', TxAt w' be bb bv bm (some ad) n c v (l ++ [UInt8.ofNat 40] ++ ta ++ [UInt8.ofNat sg] ++ [UInt8.ofNat 41]) → TxAt w' be bb bv bm (some ad) n c v (l ++ T)) := by
      have := HR.out
      rw [if_pos h8] at this
      apply Lib.hid
      simpa only [List.append_assoc] using this
    clear h8 h1 hpf hop
    go_enter Try.func54, Try.ntmps54
    go_wp2_with (first
      | (go_at_call 55; ((with_reducible refine (HO.out _).mono ?_); rintro r w1 ⟨rfl, hb1⟩); have L := Lib.hid (HS.out _ hb1); obtain ⟨x3, x4, y0, y1, y2, fm⟩ := L.out.cells; simp only at x3 x4; unfold txF at fm)
      | (go_at_call 57; ((with_reducible refine (write_lit bb 40 40 rfl _ _ L.out.t.b (by decide) (by (try simp only [List.length_append, List.length_cons, List.length_nil]); omega) (Nat.le_of_lt L.out.t.lt)).mono ?_); rintro r w' ⟨rfl, hB, hk⟩); have L2 := Lib.hid (L.out.step hk hB); clear L hB hk x3 x4 y0 y1 y2 fm; have L := L2; clear L2; obtain ⟨x3, x4, y0, y1, y2, fm⟩ := L.out.cells; simp only at x3 x4; unfold txF at fm)
      | (go_at_call 57; ((with_reducible refine (write_byte bb sg _ _ L.out.t.b (by omega) (by (try simp only [List.length_append, List.length_cons, List.length_nil]); omega) (Nat.le_of_lt L.out.t.lt)).mono ?_); rintro r w' ⟨rfl, hB, hk⟩); have L2 := Lib.hid (L.out.step hk hB); clear L hB hk x3 x4 y0 y1 y2 fm; have L := L2; clear L2; obtain ⟨x3, x4, y0, y1, y2, fm⟩ := L.out.cells; simp only at x3 x4; unfold txF at fm)
      | (go_at_call 57; ((with_reducible refine (write_lit bb 41 41 rfl _ _ L.out.t.b (by decide) (by (try simp only [List.length_append, List.length_cons, List.length_nil]); omega) (Nat.le_of_lt L.out.t.lt)).mono ?_); rintro r w' ⟨rfl, hB, hk⟩); have L2 := Lib.hid (L.out.step hk hB); clear L hB hk x3 x4 y0 y1 y2 fm; have L := L2; clear L2; obtain ⟨x3, x4, y0, y1, y2, fm⟩ := L.out.cells; simp only at x3 x4; unfold txF at fm)
      | (go_at_call 54; ((with_reducible refine (HI.out _ _ L.out.bel L.out.t hlow (by (try simp only [List.length_append, List.length_cons, List.length_nil]); omega)).mono ?_); rintro r w' ⟨rfl, hT', hk⟩); have L2 := Lib.hid (L.out.step hk hT'.b); clear L hT' hk x3 x4 y0 y1 y2 fm; have L := L2; clear L2; obtain ⟨x3, x4, y0, y1, y2, fm⟩ := L.out.cells; simp only at x3 x4; unfold txF at fm))
    go_end0
    exact ⟨rfl, HR.out _ L.out.t, L.out.k⟩
  · rw [hpf] at HO
    have HS := Lib.hid (HS.out (sg : Int) true)
    have HR : Hid (∀ w', TxAt w' be bb bv bm (some ad) n c v (l ++ [UInt8.ofNat 40] ++ [UInt8.ofNat sg] ++ ta ++ [UInt8.ofNat 41]) → TxAt w' be bb bv bm (some ad) n c v (l ++ T)) := by
      have := HR.out
      rw [if_neg h8] at this
      apply Lib.hid
      simpa only [List.append_assoc] using this
    clear h8 h1 hpf hop
    go_enter Try.func54, Try.ntmps54
    go_wp2_with (first
      | (go_at_call 55; ((with_reducible refine (HO.out _).mono ?_); rintro r w1 ⟨rfl, hb1⟩); have L := Lib.hid (HS.out _ hb1); obtain ⟨x3, x4, y0, y1, y2, fm⟩ := L.out.cells; simp only at x3 x4; unfold txF at fm)
      | (go_at_call 57; ((with_reducible refine (write_lit bb 40 40 rfl _ _ L.out.t.b (by decide) (by (try simp only [List.length_append, List.length_cons, List.length_nil]); omega) (Nat.le_of_lt L.out.t.lt)).mono ?_); rintro r w' ⟨rfl, hB, hk⟩); have L2 := Lib.hid (L.out.step hk hB); clear L hB hk x3 x4 y0 y1 y2 fm; have L := L2; clear L2; obtain ⟨x3, x4, y0, y1, y2, fm⟩ := L.out.cells; simp only at x3 x4; unfold txF at fm)
      | (go_at_call 57; ((with_reducible refine (write_byte bb sg _ _ L.out.t.b (by omega) (by (try simp only [List.length_append, List.length_cons, List.length_nil]); omega) (Nat.le_of_lt L.out.t.lt)).mono ?_); rintro r w' ⟨rfl, hB, hk⟩); have L2 := Lib.hid (L.out.step hk hB); clear L hB hk x3 x4 y0 y1 y2 fm; have L := L2; clear L2; obtain ⟨x3, x4, y0, y1, y2, fm⟩ := L.out.cells; simp only at x3 x4; unfold txF at fm)
      | (go_at_call 57; ((with_reducible refine (write_lit bb 41 41 rfl _ _ L.out.t.b (by decide) (by (try simp only [List.length_append, List.length_cons, List.length_nil]); omega) (Nat.le_of_lt L.out.t.lt)).mono ?_); rintro r w' ⟨rfl, hB, hk⟩); have L2 := Lib.hid (L.out.step hk hB); clear L hB hk x3 x4 y0 y1 y2 fm; have L := L2; clear L2; obtain ⟨x3, x4, y0, y1, y2, fm⟩ := L.out.cells; simp only at x3 x4; unfold txF at fm)
      | (go_at_call 54; ((with_reducible refine (HI.out _ _ L.out.bel L.out.t hlow (by (try simp only [List.length_append, List.length_cons, List.length_nil]); omega)).mono ?_); rintro r w' ⟨rfl, hT', hk⟩); have L2 := Lib.hid (L.out.step hk hT'.b); clear L hT' hk x3 x4 y0 y1 y2 fm; have L := L2; clear L2; obtain ⟨x3, x4, y0, y1, y2, fm⟩ := L.out.cells; simp only at x3 x4; unfold txF at fm))
    go_end0
    exact ⟨rfl, HR.out _ L.out.t, L.out.k⟩
set_option maxHeartbeats 8000000 in
theorem tx_two (w0 : World) (be bb bv bm : Nat) (A : Option Addr) (e : List Pc) (c : Nat) (v : Nat) (hl : e.length ≤ 1000000) (hx : PcsAt w0 A e) (op : Nat) (a b : Ex) (s j : Nat) (ho : Ex.Ok (.two op a b)) (hb : Bl e s j (.two op a b))
    (HI : Hid (TxC w0 be bb bv bm A e.length c v a (((s + a.size : Nat) : Int) - 1))) (HI2 : Hid (TxC w0 be bb bv bm A e.length c v b ((j : Int) - 1))) : TxC w0 be bb bv bm A e.length c v (.two op a b) j := by
  intro w l hw hT hlow hlen
  have hj := bl_lt hb
  obtain ⟨ad, rfl, had, hok, f0, f1, f2, f3, f4⟩ := pcs_five hx hw hj
  obtain ⟨h0, hpc, _⟩ := bl_two' hb
  rw [hpc] at f0 f1 f2 f3 f4 hok
  have hop : op < 256 := hok.op
  have HO := Lib.hid fun X => operatorOf_any op X hop
  have hn : nk op = 2 := nk_two ho.1
  have h1 := ho.1
  have ce := hT.e.cell
  have hj2 : (j : Int) < e.length := by omega
  rw [txt_len_two] at hlen
  have hsg := sgn_lt op
  have HSg := Lib.hid (opB_sgn (op := op) (by omega))
  have HR : Hid (∀ w', TxAt w' be bb bv bm (some ad) e.length c v (l ++ [UInt8.ofNat 40] ++ txt a ++ [UInt8.ofNat (sgn op)] ++ txt b ++ [UInt8.ofNat 41]) → TxAt w' be bb bv bm (some ad) e.length c v (l ++ txt (.two op a b))) := fun w' h => by
    have : l ++ [UInt8.ofNat 40] ++ txt a ++ [UInt8.ofNat (sgn op)] ++ txt b ++ [UInt8.ofNat 41] = l ++ txt (.two op a b) := by
      rw [txt_two, HSg.out]; simp
    rwa [this] at h
  have hpf : pfx op = false := by
    have hc : op = 4 ∨ op = 5 ∨ op = 6 := by omega
    rcases hc with rfl | rfl | rfl <;> rfl
  simp only at f0 f1 f2 f3 f4
  generalize ((s + a.size : Nat) : Int) - 1 = N at *
  have HS := Lib.hid fun sg w1 => LX.start (x := ⟨op, 0, 0, N, (j : Int) - 1⟩) (sg := sg) (kn := 2) (pf := false) (w1 := w1) hT hw hlow
  have HO : Hid (∀ X, Calls Try.prog 55 #[.int .u8 op] X fun e w' => e = .returned (.tuple #[.agg #[.int .u8 (sgn op), .int .i64 2, .bool false], .bool (knw op)]) ∧ Below X.heap.size X w') := fun X => by
    have := HO.out X
    rwa [hn, hpf] at this
  generalize txt (.two op a b) = T at *
  obtain ⟨ta, hta⟩ : ∃ ta, ta = txt a := ⟨_, rfl⟩
  obtain ⟨tb, htb⟩ : ∃ tb, tb = txt b := ⟨_, rfl⟩
  have HI : Hid (∀ (w : World) (l : List UInt8), Below w0.heap.size w0 w → TxAt w be bb bv bm (some ad) e.length c v l → w0.heap.size ≤ bb → l.length + ta.length ≤ 100000 →
    Calls Try.prog 54 #[.int .i64 N, .pointer (some ⟨be, 0, none⟩), .pointer (some ⟨bb, 0, none⟩), .pointer (some ⟨bv, 0, none⟩), .pointer (some ⟨bm, 0, none⟩)] w fun r w' => r = .returned (.tuple #[]) ∧ TxAt w' be bb bv bm (some ad) e.length c v (l ++ ta) ∧ BK bb w w') := by rw [hta]; exact HI.out
  have HI2 : Hid (∀ (w : World) (l : List UInt8), Below w0.heap.size w0 w → TxAt w be bb bv bm (some ad) e.length c v l → w0.heap.size ≤ bb → l.length + tb.length ≤ 100000 →
    Calls Try.prog 54 #[.int .i64 ((j : Int) - 1), .pointer (some ⟨be, 0, none⟩), .pointer (some ⟨bb, 0, none⟩), .pointer (some ⟨bv, 0, none⟩), .pointer (some ⟨bm, 0, none⟩)] w fun r w' => r = .returned (.tuple #[]) ∧ TxAt w' be bb bv bm (some ad) e.length c v (l ++ tb) ∧ BK bb w w') := by rw [htb]; exact HI2.out
  rw [← hta] at HR hlen
  rw [← htb] at HR hlen
  clear hta htb hpc hb hok hn ho hw hx hT HSg hpf h1 h0 hop
  generalize e.length = n at *
  generalize hsgg : sgn op = sg at *
  clear hsgg
  unfold opc pv at HS
  have HS := Lib.hid (HS.out (sg : Int))
  have tok1 : True := trivial
  go_enter Try.func54, Try.ntmps54
  go_wp2_with (first
    | (go_at_call 55; ((with_reducible refine (HO.out _).mono ?_); rintro r w1 ⟨rfl, hb1⟩); have L := Lib.hid (HS.out _ hb1); obtain ⟨x3, x4, y0, y1, y2, fm⟩ := L.out.cells; simp only at x3 x4; unfold txF at fm)
    | (go_at_call 57; ((with_reducible refine (write_lit bb 40 40 rfl _ _ L.out.t.b (by decide) (by (try simp only [List.length_append, List.length_cons, List.length_nil]); omega) (Nat.le_of_lt L.out.t.lt)).mono ?_); rintro r w' ⟨rfl, hB, hk⟩); have L2 := Lib.hid (L.out.step hk hB); clear L hB hk x3 x4 y0 y1 y2 fm; have L := L2; clear L2; obtain ⟨x3, x4, y0, y1, y2, fm⟩ := L.out.cells; simp only at x3 x4; unfold txF at fm)
    | (go_at_call 57; ((with_reducible refine (write_byte bb sg _ _ L.out.t.b (by omega) (by (try simp only [List.length_append, List.length_cons, List.length_nil]); omega) (Nat.le_of_lt L.out.t.lt)).mono ?_); rintro r w' ⟨rfl, hB, hk⟩); have L2 := Lib.hid (L.out.step hk hB); clear L hB hk x3 x4 y0 y1 y2 fm; have L := L2; clear L2; obtain ⟨x3, x4, y0, y1, y2, fm⟩ := L.out.cells; simp only at x3 x4; unfold txF at fm)
    | (go_at_call 57; ((with_reducible refine (write_lit bb 41 41 rfl _ _ L.out.t.b (by decide) (by (try simp only [List.length_append, List.length_cons, List.length_nil]); omega) (Nat.le_of_lt L.out.t.lt)).mono ?_); rintro r w' ⟨rfl, hB, hk⟩); have L2 := Lib.hid (L.out.step hk hB); clear L hB hk x3 x4 y0 y1 y2 fm; have L := L2; clear L2; obtain ⟨x3, x4, y0, y1, y2, fm⟩ := L.out.cells; simp only at x3 x4; unfold txF at fm)
    | (go_at_call 54; have _t := tok1; ((with_reducible refine (HI.out _ _ L.out.bel L.out.t hlow (by (try simp only [List.length_append, List.length_cons, List.length_nil]); omega)).mono ?_); rintro r w' ⟨rfl, hT', hk⟩); have L2 := Lib.hid (L.out.step hk hT'.b); clear tok1 _t L hT' hk x3 x4 y0 y1 y2 fm; have L := L2; clear L2; obtain ⟨x3, x4, y0, y1, y2, fm⟩ := L.out.cells; simp only at x3 x4; unfold txF at fm)
    | (go_at_call 54; ((with_reducible refine (HI2.out _ _ L.out.bel L.out.t hlow (by (try simp only [List.length_append, List.length_cons, List.length_nil]); omega)).mono ?_); rintro r w' ⟨rfl, hT', hk⟩); have L2 := Lib.hid (L.out.step hk hT'.b); clear L hT' hk x3 x4 y0 y1 y2 fm; have L := L2; clear L2; obtain ⟨x3, x4, y0, y1, y2, fm⟩ := L.out.cells; simp only at x3 x4; unfold txF at fm))
  go_end0
  exact ⟨rfl, HR.out _ L.out.t, L.out.k⟩
end Go.Proofs.Yteckkbjpeckjmaa.Rx
