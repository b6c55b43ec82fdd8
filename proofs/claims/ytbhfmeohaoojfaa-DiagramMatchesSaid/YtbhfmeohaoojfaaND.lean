/- The value of a node at a letter. -/
import Derived.Test.YtbhfmeohaoojfaaNC
import Derived.Outline
namespace Go.Proofs.Ytbhfmeohaoojfaa.Dn
open Go Go.RowKit Go.Proofs.Ytbhfmeohaoojfaa.Ap
open Go.Proofs.Ytbhfmeohaoojfaa.Dg (shl_i64 pow7 cell_one info_int ints_row nd_ext)
set_option linter.unusedVariables false
set_option maxRecDepth 100000
/-- A block that holds one node. -/
def Bk (w : World) (b : Nat) (n : Nd) : Prop := w.heap[b]? = some (.cells #[.int .i64 (vr n), .int .i64 (lo n), .int .i64 (hi n), .int .i64 (vl n)] 113 (0, 0))
theorem Bk.cells {w : World} {b : Nat} {n : Nd} (h : Bk w b n) : w.cell? ⟨b, 0, none⟩ = some (.int .i64 (vr n)) ∧ w.cell? ⟨b, 1, none⟩ = some (.int .i64 (lo n)) ∧ w.cell? ⟨b, 2, none⟩ = some (.int .i64 (hi n)) ∧ w.cell? ⟨b, 3, none⟩ = some (.int .i64 (vl n)) ∧
    w.frozen? ⟨b, 0, none⟩ = false ∧ w.frozen? ⟨b, 1, none⟩ = false ∧ w.frozen? ⟨b, 2, none⟩ = false ∧ w.frozen? ⟨b, 3, none⟩ = false := by
  unfold Bk at h
  refine ⟨?_, ?_, ?_, ?_, ?_, ?_, ?_, ?_⟩ <;> simp [World.cell?, World.frozen?, h]
theorem Bk.lt {w : World} {b : Nat} {n : Nd} (h : Bk w b n) : b < w.heap.size := lt_of_block h
theorem Bk.below {w w' : World} {b : Nat} {n : Nd} (h : Bk w b n) (hb : Below w.heap.size w w') : Bk w' b n := (hb.block b h.lt).trans h
theorem heap_set {w : World} {b : Nat} {cs : Array Value} {t : TypeId} {f : Nat × Nat} (h : w.heap[b]? = some (.cells cs t f)) (o : Nat) (u : Value) : (w.setCell ⟨b, o, none⟩ u).heap[b]? = some (.cells (cs.setIfInBounds o u) t f) := by
  have hlt := lt_of_block h
  have h' : w.heap[b] = .cells cs t f := by simpa [Array.getElem?_eq_getElem hlt] using h
  show (w.heap.modify b _)[b]? = _
  rw [Array.getElem?_eq_getElem (by simpa using hlt), Array.getElem_modify_self, h']
  rfl
theorem Bk.set {w : World} {b : Nat} {m : Nd} (h : Bk w b m) (n : Nd) :
    Bk ((((w.setCell ⟨b, 0, none⟩ (.int .i64 (vr n))).setCell ⟨b, 1, none⟩ (.int .i64 (lo n))).setCell ⟨b, 2, none⟩ (.int .i64 (hi n))).setCell ⟨b, 3, none⟩ (.int .i64 (vl n))) b n := by
  unfold Bk at h ⊢
  rw [heap_set (heap_set (heap_set (heap_set h _ _) _ _) _ _) _ _]
  rfl
theorem set4 {B : Nat} {w w' : World} (h : Below B w w') {b : Nat} (hb : B ≤ b) (x0 x1 x2 x3 : Value) : Below B w ((((w'.setCell ⟨b, 0, none⟩ x0).setCell ⟨b, 1, none⟩ x1).setCell ⟨b, 2, none⟩ x2).setCell ⟨b, 3, none⟩ x3) :=
  (((h.setCell hb x0).setCell hb x1).setCell hb x2).setCell hb x3
section
variable {sb cb rb tb v cap : Nat} {nv : Value} {N : List Nd} {R : List Nat}
set_option maxHeartbeats 2000000 in
theorem eval_any (r x : Nat) (w : World) (h : Mem w sb cb rb tb v cap nv N R) (hW : Wf v N) (hv : v ≤ 6) (hr : inN N r) (hN : N.length ≤ 1000000) (hx : x < 2 ^ v) :
    Calls Try.prog 47 #[.pointer (some ⟨cb, 0, none⟩), .int .i64 r, .int .u8 x] w fun e w' => e = .returned (.int .i64 (den v N r x)) ∧ Below w.heap.size w w' := by
  obtain ⟨q, rfl⟩ : ∃ q, r = q + 1 := ⟨r - 1, by have := hr.1; omega⟩
  have hNd : Hid (∀ W r', Mem W sb cb rb tb v cap nv N R → inN N (r' + 1) → Calls Try.prog 67 #[.pointer (some ⟨cb, 0, none⟩), .int .i64 ((r' : Int) + 1)] W fun e w' => e = .returned (ndv (at_ N (r' + 1))) ∧ Below W.heap.size W w') :=
    fun W r' hm hr' => node_any r' W hm (by have := hr'.2; omega) hN
  have hLf : Hid (∀ W n b, Mem W sb cb rb tb v cap nv N R → decide (vr n = v) = b → Calls Try.prog 68 #[.pointer (some ⟨cb, 0, none⟩), ndv n] W fun e w' => e = .returned (.bool b) ∧ Below W.heap.size W w') :=
    fun W n b hm hb => isLeaf_any n W hm b hb
  have hx64 := two64 hv hx
  go_enter Try.func47, Try.ntmps47
  go_wp2_with (first | (go_at_call 67; ((with_reducible refine (hNd.out w q h hr).mono ?_); rintro e w1 ⟨rfl, hb1⟩); unfold ndv))
  have hs1 := hb1.size
  have hBk0 : Bk (w1.alloc (.cells #[.int .i64 (vr (at_ N (q + 1))), .int .i64 (lo (at_ N (q + 1))), .int .i64 (hi (at_ N (q + 1))), .int .i64 (vl (at_ N (q + 1)))] 113)) w1.heap.size (at_ N (q + 1)) := (MapKept.heap_alloc w1 _).1
  obtain ⟨nb, hnb⟩ : ∃ nb, nb = w1.heap.size := ⟨_, rfl⟩
  have hb2 := hb1.alloc hs1 (.cells #[.int .i64 (vr (at_ N (q + 1))), .int .i64 (lo (at_ N (q + 1))), .int .i64 (hi (at_ N (q + 1))), .int .i64 (vl (at_ N (q + 1)))] 113)
  rw [← hnb] at hBk0 hs1 ⊢
  clear hb1
  generalize w1.alloc (.cells #[.int .i64 (vr (at_ N (q + 1))), .int .i64 (lo (at_ N (q + 1))), .int .i64 (hi (at_ N (q + 1))), .int .i64 (vl (at_ N (q + 1)))] 113) = w2 at *
  clear hnb
  go_loopw [14] (fun _ wr => ∃ r' : Nat, inN N (r' + 1) ∧ Bk wr nb (at_ N (r' + 1)) ∧ Hid (den v N (r' + 1) x = den v N (q + 1) x) ∧ Below w.heap.size w wr) (fun _ wr => v - (intOf ((wr.cell? ⟨nb, 0, none⟩).getD undef)).toNat)
  case atStart => exact ⟨q, hr, hBk0, rfl, hb2⟩
  case round =>
    obtain ⟨r', hr', hB, HD, hb⟩ := hrel
    have hm := h.below hb
    obtain ⟨k0, k1, k2, k3, f0, f1, f2, f3⟩ := hB.cells
    by_cases hvr : vr (at_ N (r' + 1)) = v
    · have HE : Hid (vl (at_ N (r' + 1)) = den v N (q + 1) x) := by show _ = _; rw [← HD.out, den_leaf hvr]
      have HL := Lib.hid (hLf.out wr _ true hm (decide_eq_true hvr))
      clear hvr
      generalize at_ N (r' + 1) = nd at *
      unfold ndv at HL
      go_wp2_with (first | (go_at_call 68; ((with_reducible refine HL.out.mono ?_); rintro e w3 ⟨rfl, hb3⟩); have k3' := (hB.below hb3).cells.2.2.2.1))
      go_ret
      exact ⟨ret_of HE.out, stepB hb hb3⟩
    · have hvl := hW.vr_le hr'
      obtain ⟨hc1, hc2, hc3⟩ := hW.child hr' hvr x
      have HL := Lib.hid (hLf.out wr _ false hm (decide_eq_false hvr))
      have HDn := Lib.hid (den_node hW hr' hvr x)
      have hcl := hW.vr_le hc1
      obtain ⟨cc, hcc⟩ : ∃ cc, child N (r' + 1) x = cc + 1 := ⟨child N (r' + 1) x - 1, by have := hc1.1; omega⟩
      rw [hcc] at hc1 hc3 hcl HDn
      have HN := Lib.hid fun W hm => hNd.out W cc hm hc1
      have hb6 := u8_bits (v := vr (at_ N (r' + 1))) (x := x) (by omega) hx64
      have hch : child N (r' + 1) x = if x.testBit (vr (at_ N (r' + 1))) then hi (at_ N (r' + 1)) else lo (at_ N (r' + 1)) := rfl
      rw [hcc] at hch
      have hmes : v - vr (at_ N (cc + 1)) < v - vr (at_ N (r' + 1)) := by omega
      generalize at_ N (r' + 1) = nd at *
      unfold ndv at HL HN
      cases hbit : x.testBit (vr nd)
      · rw [hbit] at hch hb6
        have hlo : ((lo nd : Nat) : Int) = (cc : Int) + 1 := by simp at hch; omega
        obtain ⟨_, _, h6⟩ := hb6
        simp only [Bool.false_eq_true, if_false] at h6
        rw [hlo] at k1 HL
        clear hch hbit hvr hcc
        go_wp2_with (first | (go_at_call 68; ((with_reducible refine HL.out.mono ?_); rintro e w3 ⟨rfl, hb3⟩); have hB3 := hB.below hb3; obtain ⟨k0', k1', k2', k3', f0', f1', f2', f3'⟩ := hB3.cells; rw [hlo] at k1') | (go_at_call 67; ((with_reducible refine (HN.out w3 (hm.below hb3)).mono ?_); rintro e w4 ⟨rfl, hb4⟩); have hB4 := hB3.below hb4; obtain ⟨l0, l1, l2, l3, g0, g1, g2, g3⟩ := hB4.cells))
        go_roundw
        case rel => exact ⟨cc, hc1, hB4.set _, by show _ = _; rw [← HD.out, ← HDn.out], set4 (stepB (stepB hb hb3) hb4) hs1 _ _ _ _⟩
        case measure =>
          rw [(hB4.set (at_ N (cc + 1))).cells.1, k0]
          simpa [intOf] using hmes
      · rw [hbit] at hch hb6
        have hlo : ((hi nd : Nat) : Int) = (cc : Int) + 1 := by simp at hch; omega
        obtain ⟨_, _, h6⟩ := hb6
        simp only [if_true] at h6
        rw [hlo] at k2 HL
        clear hch hbit hvr hcc
        go_wp2_with (first | (go_at_call 68; ((with_reducible refine HL.out.mono ?_); rintro e w3 ⟨rfl, hb3⟩); have hB3 := hB.below hb3; obtain ⟨k0', k1', k2', k3', f0', f1', f2', f3'⟩ := hB3.cells; rw [hlo] at k2') | (go_at_call 67; ((with_reducible refine (HN.out w3 (hm.below hb3)).mono ?_); rintro e w4 ⟨rfl, hb4⟩); have hB4 := hB3.below hb4; obtain ⟨l0, l1, l2, l3, g0, g1, g2, g3⟩ := hB4.cells))
        go_roundw
        case rel => exact ⟨cc, hc1, hB4.set _, by show _ = _; rw [← HD.out, ← HDn.out], set4 (stepB (stepB hb hb3) hb4) hs1 _ _ _ _⟩
        case measure =>
          rw [(hB4.set (at_ N (cc + 1))).cells.1, k0]
          simpa [intOf] using hmes
end
end Go.Proofs.Ytbhfmeohaoojfaa.Dn
