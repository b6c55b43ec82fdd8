/- The reference's differ: which pairs of states a word of so many letters tells apart. -/
import Derived.Test.YtkgeihambgbjdaaDoorPJ
namespace Go.Proofs.YtkgeihambgbjdaaDoor.Mi
open Go Go.RowKit Go.Proofs.YtkgeihambgbjdaaDoor Go.Proofs.YtkgeihambgbjdaaDoor.Cb Go.Proofs.YtkgeihambgbjdaaDoor.Sb
open Go.Proofs.YtkgeihambgbjdaaDoor.Nf (Bys zvs bvs ret_int ret_b drew_below)
open Go.Proofs.YtkgeihambgbjdaaDoor.Dg (Tabs tb tb_mem)
set_option linter.unusedVariables false
set_option linter.unusedSimpArgs false
set_option linter.unusedSectionVars false
set_option maxRecDepth 100000
theorem info_boolsO : (Tryd.prog.info? 23).map (fun i => (i.zero, i.size, i.bytes)) = some (some (.slice none 0 0), 1, 24) := by kernel_rfl
/-- Row i of the matrix in block mb. -/
def rowW (mb n i : Nat) : Value := .slice (some ⟨mb + 1 + i, 0, none⟩) n n
def boolW (g : Nat → Bool) (j : Nat) : Value := .bool (g j)
theorem made_rowW (n : Nat) (hn : n ≤ 1000) (W : World) : (Instr.makeSlice 23 (.int .i64 (n : Int)) (.int .i64 (n : Int))).run Tryd.prog W = .ok (.slice (some ⟨W.heap.size, 0, none⟩) n n) (W.alloc (.cells (cells n fun _ => .bool false) 4)) := by
  obtain ⟨i0, hi, hz0, hz1, hz2⟩ := info_parts info_boolJ
  have := run_makeSlice (P := Tryd.prog) W 23 4 i0 _ Tryd.underlying23 hi hz0 .i64 .i64 (n : Int) (n : Int) (by omega) (Int.le_refl _) (by rw [hz1]; omega) (by rw [hz2]; omega) (by omega)
  rw [this, hz1, Int.toNat_natCast, Nat.mul_one, ← made_cells]
  rfl
theorem made_matW (n : Nat) (hn : n ≤ 1000) (W : World) : (Instr.makeSlice 63 (.int .i64 (n : Int)) (.int .i64 (n : Int))).run Tryd.prog W = .ok (.slice (some ⟨W.heap.size, 0, none⟩) n n) (W.alloc (.cells (cells n fun _ => .slice none 0 0) 23)) := by
  obtain ⟨i0, hi, hz0, hz1, hz2⟩ := info_parts info_boolsO
  have := run_makeSlice (P := Tryd.prog) W 63 23 i0 _ Tryd.underlying63 hi hz0 .i64 .i64 (n : Int) (n : Int) (by omega) (Int.le_refl _) (by rw [hz1]; omega) (by rw [hz2]; omega) (by omega)
  rw [this, hz1, Int.toNat_natCast, Nat.mul_one, ← made_cells]
  rfl
/-- A matrix whose first k rows have been made. -/
structure Mx (w0 : World) (mb n k : Nat) (f : Nat → Nat → Bool) (w : World) : Prop where
  o : w.heap[mb]? = some (.cells (cells n fun i => if i < k then rowW mb n i else .slice none 0 0) 23 (0, 0))
  r : ∀ i, i < k → w.heap[mb + 1 + i]? = some (.cells (cells n (boolW (f i))) 4 (0, 0))
  s : w.heap.size = mb + 1 + k
  b : Below mb w0 w
theorem Mx.start (w : World) (n : Nat) (f : Nat → Nat → Bool) : Mx w w.heap.size n 0 f (w.alloc (.cells (cells n fun _ => .slice none 0 0) 23)) :=
  ⟨World.alloc_heap_new w _, fun i hi => absurd hi (by omega), by simp, bal (Below.refl _ _) _⟩
theorem Mx.congr {w0 : World} {mb n k : Nat} {f g : Nat → Nat → Bool} {w : World} (h : Mx w0 mb n k f w) (e : ∀ i, i < k → ∀ j, j < n → f i j = g i j) : Mx w0 mb n k g w :=
  ⟨h.o, fun i hi => by rw [h.r i hi, cells_congr fun j hj => show boolW (f i) j = boolW (g i) j by unfold boolW; rw [e i hi j hj]], h.s, h.b⟩
theorem Mx.next {w0 w : World} {mb n k : Nat} {f : Nat → Nat → Bool} (h : Mx w0 mb n k f w) (hk : k < n) :
    Mx w0 mb n (k + 1) (fun i j => if i = k then false else f i j) ((w.alloc (.cells (cells n fun _ => .bool false) 4)).setCell ⟨mb, k, none⟩ (.slice (some ⟨w.heap.size, 0, none⟩) n n)) := by
  have hs := h.s
  have hne : ∀ i, (mb + 1 + i) ≠ mb := fun i => by omega
  have h1 := box_old (o' := .cells (cells n fun _ => .bool false) 4) h.o
  refine ⟨?_, fun i hi => ?_, ?_, ?_⟩
  · rw [heap_put h1, cells_set _ hk]
    rw [show (cells n fun j => if j = k then Value.slice (some ⟨w.heap.size, 0, none⟩) n n else if j < k then rowW mb n j else .slice none 0 0) = cells n fun i => if i < k + 1 then rowW mb n i else .slice none 0 0 from cells_congr fun i hi => by
      by_cases e : i = k
      · subst e; rw [if_pos rfl, if_pos (by omega), hs]; rfl
      · rw [if_neg e]
        by_cases e2 : i < k
        · rw [if_pos e2, if_pos (by omega)]
        · rw [if_neg e2, if_neg (by omega)]]
  · rw [Below.heap_setCell _ _ _ _ (hne i)]
    by_cases e : i = k
    · subst e
      have := World.alloc_heap_new w (.cells (cells n fun _ => .bool false) 4)
      rw [hs] at this
      rw [this]
      congr 2
      exact cells_congr fun j _ => by simp [boolW]
    · have := box_old (o' := .cells (cells n fun _ => .bool false) 4) (h.r i (by omega))
      rw [this]
      congr 2
      exact cells_congr fun j _ => by simp [boolW, e]
  · show (Array.modify _ _ _).size = _
    rw [Array.size_modify]
    simp [hs]; omega
  · exact (h.b.alloc (by omega) _).setCell (Nat.le_refl _) _
theorem Mx.put {w0 w : World} {mb n k : Nat} {f : Nat → Nat → Bool} (h : Mx w0 mb n k f w) {i j : Nat} (hi : i < k) (hj : j < n) (v : Bool) :
    Mx w0 mb n k (fun i' j' => if i' = i ∧ j' = j then v else f i' j') (w.setCell ⟨mb + 1 + i, j, none⟩ (.bool v)) := by
  refine ⟨?_, fun i' hi' => ?_, ?_, ?_⟩
  · rw [Below.heap_setCell _ _ _ _ (show mb ≠ mb + 1 + i by omega)]; exact h.o
  · by_cases e : i' = i
    · subst e
      rw [heap_put (h.r i' hi), cells_set _ hj]
      congr 2
      refine cells_congr fun j' _ => ?_
      by_cases e2 : j' = j
      · simp [boolW, e2]
      · simp [boolW, e2]
    · rw [Below.heap_setCell _ _ _ _ (show mb + 1 + i' ≠ mb + 1 + i by omega), h.r i' hi']
      congr 2
      refine cells_congr fun j' _ => ?_
      simp [boolW, e]
  · show (Array.modify _ _ _).size = _
    rw [Array.size_modify]
    exact h.s
  · exact h.b.setCell (p := ⟨mb + 1 + i, j, none⟩) (by show mb ≤ mb + 1 + i; omega) _
theorem Mx.drew {w0 w : World} {mb n k : Nat} {f : Nat → Nat → Bool} (h : Mx w0 mb n k f w) : Mx w0 mb n k f w.drew := ⟨h.o, h.r, h.s, h.b.trans ((drew_below w).mono (by have := h.s; omega))⟩
theorem drewN_heap (w : World) : ∀ q, (w.drewN q).heap = w.heap := fun q => by
  have h := Ap.drewN_below w q
  rfl
theorem Mx.drewN {w0 w : World} {mb n k : Nat} {f : Nat → Nat → Bool} (h : Mx w0 mb n k f w) (q : Nat) : Mx w0 mb n k f (w.drewN q) := ⟨by rw [drewN_heap]; exact h.o, fun i hi => by rw [drewN_heap]; exact h.r i hi, by rw [drewN_heap]; exact h.s, h.b.trans ((Ap.drewN_below w q).mono (by have := h.s; omega))⟩
theorem Mx.cell {w0 w : World} {mb n k : Nat} {f : Nat → Nat → Bool} (h : Mx w0 mb n k f w) {i : Nat} (hi : i < k) (hn : k ≤ n) : w.cell? ⟨mb, i, none⟩ = some (.slice (some ⟨mb + 1 + i, 0, none⟩) n n) ∧ ∀ j, j < n → w.cell? ⟨mb + 1 + i, j, none⟩ = some (.bool (f i j)) ∧ w.frozen? ⟨mb + 1 + i, j, none⟩ = false := by
  refine ⟨?_, fun j hj => ⟨cell_of (h.r i hi) hj, free_of (h.r i hi) j⟩⟩
  have := cell_of h.o (i := i) (by omega)
  simp only [if_pos hi] at this
  exact this
/-- A matrix that is whole. -/
structure MxD (mb n : Nat) (f : Nat → Nat → Bool) (w : World) : Prop where
  o : w.heap[mb]? = some (.cells (cells n (rowW mb n)) 23 (0, 0))
  r : ∀ i, i < n → w.heap[mb + 1 + i]? = some (.cells (cells n (boolW (f i))) 4 (0, 0))
theorem Mx.done {w0 w : World} {mb n : Nat} {f : Nat → Nat → Bool} (h : Mx w0 mb n n f w) : MxD mb n f w := ⟨by rw [h.o, cells_congr fun i hi => if_pos hi], h.r⟩
theorem MxD.below {w w' : World} {mb n : Nat} {f : Nat → Nat → Bool} (h : MxD mb n f w) (hb : Below w.heap.size w w') : MxD mb n f w' := ⟨(hb.block _ (blk_lt h.o)).trans h.o, fun i hi => (hb.block _ (blk_lt (h.r i hi))).trans (h.r i hi)⟩
theorem MxD.cell {w : World} {mb n : Nat} {f : Nat → Nat → Bool} (h : MxD mb n f w) {i j : Nat} (hi : i < n) (hj : j < n) : w.cell? ⟨mb, i, none⟩ = some (.slice (some ⟨mb + 1 + i, 0, none⟩) n n) ∧ w.cell? ⟨mb + 1 + i, j, none⟩ = some (.bool (f i j)) :=
  ⟨cell_of h.o hi, cell_of (h.r i hi) hj⟩
section
variable (d : Da) (A B : Option Addr) (a b : Nat) (w : World)
set_option maxHeartbeats 32000000 in
theorem differ_any (hx : DaAt w d A B) (hO : OkD d) (hn : d.nx.length ≤ 1000) (k : Int) (hk1 : -9223372036854775808 ≤ k) (hk2 : k ≤ 9223372036854775807) :
    Calls Tryd.prog 41 #[.agg #[.int .i64 d.V, .int .i64 d.q0, .slice A d.nx.length a, .slice B d.fi.length b], .int .i64 k] w fun e w' => ∃ mb f, e = .returned (.slice (some ⟨mb, 0, none⟩) d.nx.length d.nx.length) ∧ MxD mb d.nx.length f w' ∧ (∀ i j, i < d.nx.length → j < d.nx.length → f i j = te (2 ^ d.V.toNat) (dlt d.nx) (fiB d) (min k.toNat d.nx.length) i j) ∧ Below w.heap.size w w' := by
  rw [hO.fi]
  have hb0 := bal (Below.refl w.heap.size w) (.cells #[.int .i64 d.V, .int .i64 d.q0, .slice A d.nx.length a, .slice B d.nx.length b] 25)
  have hB0 := Blk4.new w (.int .i64 d.V) (.int .i64 d.q0) (.slice A d.nx.length a) (.slice B d.nx.length b)
  have HM1 := Lib.hid (made_matW d.nx.length hn)
  have HM2 := Lib.hid (made_rowW d.nx.length hn)
  have HRow : Hid (∀ X, Below w.heap.size w X → ∀ s, s < d.nx.length → ∃ ad p c, A = some ad ∧ X.cell? (ad.add s) = some (.slice p (2 ^ d.V.toNat) c) ∧ ∀ x, x < 2 ^ d.V.toNat → ∃ pd, p = some pd ∧ X.cell? (pd.add x) = some (.int .i64 (dlt d.nx s x : Nat))) := fun X hX s hs => by
    obtain ⟨ad, p, c, h1, _, h2, h3⟩ := (hx.below hX).nx s hs
    have hl := (hO.row _ (tb_mem hs)).1
    rw [hl] at h2
    refine ⟨ad, p, c, h1, h2, fun x hx1 => ?_⟩
    obtain ⟨pd, h4, _, h5⟩ := h3 x (by rw [hl]; exact hx1)
    replace h5 : X.cell? (pd.add x) = some (.int .i64 (nd (tb d.nx s) x)) := h5
    rw [(okD_dl hO hs hx1).1] at h5
    exact ⟨pd, h4, h5⟩
  have HFi : Hid (∀ X, Below w.heap.size w X → ∀ s, s < d.nx.length → ∃ fd, B = some fd ∧ X.cell? (fd.add s) = some (.bool (fiB d s))) := fun X hX s hs => by
    obtain ⟨fd, h1, _, h2⟩ := (hx.below hX).fi s (by rw [hO.fi]; exact hs)
    exact ⟨fd, h1, h2⟩
  have HDl := Lib.hid fun s x hs hx1 => (okD_dl hO (s := s) (x := x) hs hx1).2
  have hL1 : 1 ≤ 2 ^ d.V.toNat := Nat.one_le_two_pow
  have hL6 : 2 ^ d.V.toNat ≤ 64 := Dg.pow7 (by have := hO.v6; omega)
  have hn0 := hO.n0
  clear hx hO
  generalize fiB d = fb at *
  generalize dlt d.nx = δ at *
  generalize 2 ^ d.V.toNat = L at *
  generalize d.nx.length = n at *
  obtain ⟨z0, z1, z2, z3⟩ := hB0.cells
  have HB0 := Lib.hid hB0
  clear hB0
  go_enter Tryd.func41, Tryd.ntmps41
  go_upto_region 1 with fail
  generalize w.alloc (.cells #[.int .i64 d.V, .int .i64 d.q0, .slice A n a, .slice B n b] 25) = wA at *
  have hm1 := HM1.out
  have hm2 := HM2.out
  go_wp2
  have HN : Hid (∀ X, Below wA.heap.size wA X → Blk4 X w.heap.size (.int .i64 d.V) (.int .i64 d.q0) (.slice A n a) (.slice B n b)) := fun X hX => HB0.out.below hX
  have HW : Hid (∀ X, Below wA.heap.size wA X → Below w.heap.size w X) := fun X hX => stepB hb0 hX
  clear z0 z1 z2 z3 HB0
  have hM0 := Mx.start wA n fun _ _ => false
  obtain ⟨mb, hmb⟩ : ∃ mb, mb = wA.heap.size := ⟨_, rfl⟩
  have HMB := Lib.hid hmb
  rw [← hmb] at hM0 ⊢
  clear hmb
  have HM0 := Lib.hid hM0
  clear hM0
  generalize wA.alloc (.cells (cells n fun _ => .slice none 0 0) 23) = wB at *
  go_loopw [7, 8] (fun iv _ wr => ∃ (s : Nat) (f : Nat → Nat → Bool), s ≤ n ∧ iv = .int .i64 s ∧ Hid (Mx wA mb n s f wr) ∧ Hid (∀ i, i < s → ∀ j, j < n → f i j = (fb i != fb j))) (fun iv _ _ => n - (intOf iv).toNat)
  case atStart => exact ⟨0, _, by omega, rfl, HM0, fun i hi => by omega⟩
  case round =>
    clear HM0
    obtain ⟨s, f, hs, rfl, HM, HF⟩ := hrel
    by_cases hs2 : s = n
    · subst hs2
      clear hm1 hm2
      go_wp2
      have HD0 : Hid (∃ g, MxD mb s g wr ∧ ∀ i j, i < s → j < s → g i j = te L δ fb 0 i j) := ⟨f, HM.out.done, fun i j hi hj => HF.out i hi j hj⟩
      have HBw : Hid (Below wA.heap.size wA wr) := by
        have h := HM.out.b
        rw [HMB.out] at h
        exact h
      clear HM HF HMB
      obtain ⟨R, hR⟩ : ∃ R, R = min k.toNat s := ⟨_, rfl⟩
      have HR := Lib.hid hR
      clear hR
      have hm1 := HM1.out
      have hm2 := HM2.out
      go_loopw [6, 9, 10, 11, 12, 13] (fun mv rv _ _ _ _ wr => ∃ (r mb : Nat) (f : Nat → Nat → Bool), r ≤ R ∧ rv = .int .i64 r ∧ mv = .slice (some ⟨mb, 0, none⟩) s s ∧ Hid (MxD mb s f wr) ∧ Hid (∀ i j, i < s → j < s → f i j = te L δ fb r i j) ∧ Hid (Below wA.heap.size wA wr)) (fun _ rv _ _ _ _ _ => R - (intOf rv).toNat)
      case atStart =>
        obtain ⟨g, h1, h2⟩ := HD0.out
        exact ⟨0, mb, g, by omega, rfl, rfl, h1, h2, HBw⟩
      case round =>
        clear HD0 HBw
        obtain ⟨r, mc, f, hr, rfl, rfl, HM, HF, HBw⟩ := hrel
        by_cases hr2 : r = R
        · have HE : Hid (∃ f, MxD mc s f wr ∧ (∀ i j, i < s → j < s → f i j = te L δ fb (min k.toNat s) i j) ∧ Below w.heap.size w wr) := ⟨f, HM.out, (by rw [← HR.out, ← hr2]; exact HF.out), HW.out _ HBw.out⟩
          have hRR := HR.out
          by_cases hrk : (r : Int) < k
          · have hd1 : decide ((r : Int) < k) = true := decide_eq_true hrk
            have hd2 : decide ((r : Int) < (s : Int)) = false := decide_eq_false (by omega)
            have hd3 : decide (r < s) = false := decide_eq_false (by omega)
            clear HM HF HBw HR hRR hr2
            go_wp2
            go_ret
            obtain ⟨f, h1, h2, h3⟩ := HE.out
            first | exact ⟨mc, f, rfl, h1, h2, h3⟩ | exact ⟨mc, rfl, f, h1, h2, h3⟩
          · have hd1 : decide ((r : Int) < k) = false := decide_eq_false hrk
            clear HM HF HBw HR hRR hr2
            go_wp2
            go_ret
            obtain ⟨f, h1, h2, h3⟩ := HE.out
            first | exact ⟨mc, f, rfl, h1, h2, h3⟩ | exact ⟨mc, rfl, f, h1, h2, h3⟩
        · have hr1 : r < R := by omega
          have hRR := HR.out
          have hrk : (r : Int) < k := by omega
          have hrs : r < s := by omega
          have hrs2 : (r : Int) < (s : Int) := by omega
          have hd1 : decide ((r : Int) < k) = true := decide_eq_true hrk
          have hd2 : decide ((r : Int) < (s : Int)) = true := decide_eq_true hrs2
          have hd3 : decide (r < s) = true := decide_eq_true hrs
          have hr40 : (r : Int) + 1 ≤ 1001 := by omega
          clear hRR
          go_wp2
          have hM0 := Mx.start wr s fun _ _ => false
          obtain ⟨mb2, hmb2⟩ : ∃ mb, mb = wr.heap.size := ⟨_, rfl⟩
          have HMB2 := Lib.hid hmb2
          rw [← hmb2] at hM0 ⊢
          clear hmb2
          have HM0 := Lib.hid hM0
          clear hM0
          have HOld : Hid (∀ X, Below wr.heap.size wr X → MxD mc s f X) := fun X hX => HM.out.below hX
          have HBX : Hid (∀ X, Below mb2 wr X → Below wr.heap.size wr X) := fun X hX => by rw [← HMB2.out]; exact hX
          have HWX : Hid (∀ X, Below wr.heap.size wr X → Below wA.heap.size wA X) := fun X hX => stepB HBw.out hX
          clear HM HBw
          obtain ⟨wc, rfl⟩ : ∃ wc : World, wc = wr := ⟨_, rfl⟩
          generalize wc.alloc (.cells (cells s fun _ => .slice none 0 0) 23) = wD at *
          go_loopw [11, 12, 13] (fun iv _ _ wr => ∃ (i : Nat) (g : Nat → Nat → Bool), i ≤ s ∧ iv = .int .i64 i ∧ Hid (Mx wc mb2 s i g wr) ∧ Hid (∀ i', i' < i → ∀ j, j < s → g i' j = te L δ fb (r + 1) i' j)) (fun iv _ _ _ => s - (intOf iv).toNat)
          case atStart => exact ⟨0, _, by omega, rfl, HM0, fun i hi => by omega⟩
          case round =>
            clear HM0
            obtain ⟨i, g, hi, rfl, HM, HG⟩ := hrel
            by_cases hi2 : i = s
            · subst hi2
              have HD2 : Hid (MxD mb2 i g wr) := HM.out.done
              have HF2 : Hid (∀ i' j, i' < i → j < i → g i' j = te L δ fb (r + 1) i' j) := fun i' j h1 h2 => HG.out i' h1 j h2
              have HB2 : Hid (Below wA.heap.size wA wr) := HWX.out _ (HBX.out _ HM.out.b)
              clear HM HG HOld HBX HWX HMB2 HF
              go_wp2
              go_roundw
              case rel => exact ⟨r + 1, mb2, g, by omega, by go_num, rfl, HD2, HF2, HB2⟩
              case measure => simp [intOf]; omega
            · have hi1 : i < s := by omega
              have him : (i : Int) < (s : Int) := by omega
              have hN := Lib.hid (HM.out.next hi1)
              have h1 := box_old (o' := .cells (cells s fun _ => .bool false) 4) HM.out.o
              have f1 := free_of h1 i
              have c1 := cell_of h1 (i := i) hi1
              have hlt := blk_lt h1
              clear h1
              go_wp2
              have HN2 : Hid (∃ g', Mx wc mb2 s (i + 1) g' ((wr.alloc (.cells (cells s fun _ => .bool false) 4)).setCell ⟨mb2, i, none⟩ (.slice (some ⟨wr.heap.size, 0, none⟩) s s)) ∧ ∀ i', i' < i → ∀ j, j < s → g' i' j = te L δ fb (r + 1) i' j) := ⟨_, hN.out, fun i' h1 j h2 => by rw [if_neg (by omega)]; exact HG.out i' h1 j h2⟩
              clear hN f1 c1 HM HG hlt
              generalize (wr.alloc (.cells (cells s fun _ => .bool false) 4)).setCell ⟨mb2, i, none⟩ (.slice (some ⟨wr.heap.size, 0, none⟩) s s) = wE at *
              go_loopw [12, 13] (fun jv _ wr => ∃ (j : Nat) (g : Nat → Nat → Bool), j ≤ s ∧ jv = .int .i64 j ∧ Hid (Mx wc mb2 s (i + 1) g wr) ∧ Hid (∀ i', i' < i → ∀ j, j < s → g i' j = te L δ fb (r + 1) i' j) ∧ Hid (∀ j', j' < j → g i j' = te L δ fb (r + 1) i j')) (fun jv _ _ => s - (intOf jv).toNat)
              case atStart =>
                obtain ⟨g', h1, h2⟩ := HN2.out
                exact ⟨0, g', by omega, rfl, h1, h2, fun j hj => by omega⟩
              case round =>
                clear HN2
                obtain ⟨j, g, hj, rfl, HM, HG, HJ⟩ := hrel
                by_cases hj2 : j = s
                · subst hj2
                  have HG2 : Hid (∀ i', i' < i + 1 → ∀ j', j' < j → g i' j' = te L δ fb (r + 1) i' j') := fun i' h1 j' h2 => by
                    by_cases h3 : i' < i
                    · exact HG.out i' h3 j' h2
                    · rw [show i' = i by omega]; exact HJ.out j' h2
                  clear HG HJ
                  go_wp2
                  go_roundw
                  case rel => exact ⟨i + 1, g, by omega, by go_num, HM, HG2⟩
                  case measure => simp [intOf]; omega
                · have hj1 : j < s := by omega
                  have hjm : (j : Int) < (s : Int) := by omega
                  have hbX := HBX.out _ HM.out.b
                  obtain ⟨y1, y2⟩ := (HOld.out _ hbX).cell hi1 hj1
                  obtain ⟨x1, x2⟩ := HM.out.cell (i := i) (by omega) (by omega)
                  obtain ⟨x3, x4⟩ := x2 j hj1
                  have hP := Lib.hid (HM.out.put (i := i) (by omega) hj1 (f i j)).drew
                  have HTe := HF.out i j hi1 hj1
                  have HTE := Lib.hid HTe
                  clear x2 hbX HTe
                  generalize f i j = fij at *
                  generalize g i j = gij at *
                  have HP2 : Hid (∃ g', Mx wc mb2 s (i + 1) g' (wr.setCell ⟨mb2 + 1 + i, j, none⟩ (.bool fij)).drew ∧ (∀ i', i' < i → ∀ j', j' < s → g' i' j' = te L δ fb (r + 1) i' j') ∧ (∀ j', j' < j → g' i j' = te L δ fb (r + 1) i j') ∧ g' i j = fij) := ⟨_, hP.out, fun i' h1 j' h2 => by rw [if_neg (by omega)]; exact HG.out i' h1 j' h2, fun j' h1 => by rw [if_neg (by omega)]; exact HJ.out j' h1, if_pos ⟨rfl, rfl⟩⟩
                  clear hP HM HG HJ
                  go_wp2_with fail
                  go_big_region
                  generalize (wr.setCell ⟨mb2 + 1 + i, j, none⟩ (.bool fij)).drew = wF at *
                  clear x1 x3 x4 y1 y2
                  go_wp2
                  go_loopw [13] (fun xv wr => ∃ (x : Nat) (g : Nat → Nat → Bool), x ≤ L ∧ xv = .int .i64 x ∧ Hid (Mx wc mb2 s (i + 1) g wr) ∧ Hid (∀ i', i' < i → ∀ j', j' < s → g i' j' = te L δ fb (r + 1) i' j') ∧ Hid (∀ j', j' < j → g i j' = te L δ fb (r + 1) i j') ∧ Hid (g i j = (te L δ fb r i j || (List.range x).any fun y => te L δ fb r (δ i y) (δ j y)))) (fun xv _ => L - (intOf xv).toNat)
                  case atStart =>
                    obtain ⟨g', h1, h2, h3, h4⟩ := HP2.out
                    exact ⟨0, g', by omega, rfl, h1, h2, h3, by show _ = _; rw [h4, HTE.out]; simp⟩
                  case round =>
                    clear HP2
                    obtain ⟨x, g, hx, rfl, HM, HG, HJ, HX⟩ := hrel
                    have hbX := HW.out _ (HWX.out _ (HBX.out _ HM.out.b))
                    obtain ⟨ad, p, c, hA1, c1, hc1⟩ := HRow.out _ hbX i hi1
                    obtain ⟨ad', p', c', hA2, c2, hc2⟩ := HRow.out _ hbX j hj1
                    subst hA1
                    cases hA2
                    obtain ⟨z0, z1, z2, z3⟩ := (HN.out _ (HWX.out _ (HBX.out _ HM.out.b))).cells
                    by_cases hx2 : x = L
                    · subst hx2
                      have HJ2 : Hid (∀ j', j' < j + 1 → g i j' = te x δ fb (r + 1) i j') := fun j' h1 => by
                        by_cases h2 : j' < j
                        · exact HJ.out j' h2
                        · rw [show j' = j by omega]; exact HX.out
                      clear HJ HX hc1 hc2 hbX
                      go_wp2
                      go_roundw
                      case rel => exact ⟨j + 1, g, by omega, by go_num, HM, HG, HJ2⟩
                      case measure => simp [intOf]; omega
                    · have hx1 : x < L := by omega
                      have hxm : (x : Int) < (L : Int) := by omega
                      obtain ⟨pd, hp1, e1⟩ := hc1 x hx1
                      obtain ⟨pd', hp2, e2⟩ := hc2 x hx1
                      subst hp1
                      subst hp2
                      have hd1 := HDl.out i x hi1 hx1
                      have hd2 := HDl.out j x hj1 hx1
                      obtain ⟨y1, y2⟩ := (HOld.out _ (HBX.out _ HM.out.b)).cell hd1 hd2
                      have hT := HF.out _ _ hd1 hd2
                      have HX2 : Hid (∀ T, T = te L δ fb r (δ i x) (δ j x) → (te L δ fb r i j || (List.range (x + 1)).any fun y => te L δ fb r (δ i y) (δ j y)) = (g i j || T)) := fun T h => by
                        rw [HX.out, h, List.range_succ, List.any_append]
                        simp [Bool.or_assoc]
                      rw [← hT] at HX2
                      clear hT HX hc1 hc2 hbX
                      generalize f (δ i x) (δ j x) = T at *
                      generalize hdi : δ i x = di at *
                      generalize hdj : δ j x = dj at *
                      clear hdi hdj
                      have hdim : (di : Int) < (s : Int) := by omega
                      have hdjm : (dj : Int) < (s : Int) := by omega
                      cases T with
                      | true =>
                        go_wp2
                        go_quiet (fail)
                        have HMq := Lib.hid (HM.out.drewN nq)
                        clear HM c1 c2 e1 e2 y1 y2 z0 z1 z2 z3
                        generalize wr.drewN nq = wq at *
                        obtain ⟨x1, x2⟩ := HMq.out.cell (i := i) (by omega) (by omega)
                        obtain ⟨x3, x4⟩ := x2 j hj1
                        clear x2
                        have hP := Lib.hid (HMq.out.put (i := i) (by omega) hj1 true)
                        have HR2 := Lib.hid (HX2.out _ rfl)
                        have HP3 : Hid (∃ g', Mx wc mb2 s (i + 1) g' (wq.setCell ⟨mb2 + 1 + i, j, none⟩ (.bool true)) ∧ (∀ i', i' < i → ∀ j', j' < s → g' i' j' = te L δ fb (r + 1) i' j') ∧ (∀ j', j' < j → g' i j' = te L δ fb (r + 1) i j') ∧ g' i j = (te L δ fb r i j || (List.range (x + 1)).any fun y => te L δ fb r (δ i y) (δ j y))) := ⟨_, hP.out, fun i' h1 j' h2 => by rw [if_neg (by omega)]; exact HG.out i' h1 j' h2, fun j' h1 => by rw [if_neg (by omega)]; exact HJ.out j' h1, by rw [if_pos ⟨rfl, rfl⟩, HR2.out]; simp⟩
                        clear hP HR2 HG HJ HX2 HMq
                        generalize g i j = gij2 at *
                        go_wp2
                        go_roundw
                        case rel =>
                          obtain ⟨g', h1, h2, h3, h4⟩ := HP3.out
                          exact ⟨x + 1, g', by omega, by go_num, h1, h2, h3, h4⟩
                        case measure => simp [intOf]; omega
                      | false =>
                        have HR2 : Hid (g i j = (te L δ fb r i j || (List.range (x + 1)).any fun y => te L δ fb r (δ i y) (δ j y))) := by show _ = _; rw [HX2.out _ rfl]; simp
                        clear HX2
                        go_wp2
                        go_quiet (fail)
                        have HMq := Lib.hid (HM.out.drewN nq)
                        clear HM c1 c2 e1 e2 y1 y2 z0 z1 z2 z3
                        generalize wr.drewN nq = wq at *
                        go_wp2
                        go_roundw
                        case rel => exact ⟨x + 1, g, by omega, by go_num, HMq, HG, HJ, HR2⟩
                        case measure => simp [intOf]; omega
    · have hs3 : s < n := by omega
      have hsm : (s : Int) < (n : Int) := by omega
      have hN := Lib.hid (HM.out.next hs3)
      have h1 := box_old (o' := .cells (cells n fun _ => .bool false) 4) HM.out.o
      have f1 := free_of h1 s
      have c1 := cell_of h1 (i := s) hs3
      have hlt := blk_lt h1
      clear h1
      go_wp2
      have HN2 : Hid (∃ g', Mx wA mb n (s + 1) g' ((wr.alloc (.cells (cells n fun _ => .bool false) 4)).setCell ⟨mb, s, none⟩ (.slice (some ⟨wr.heap.size, 0, none⟩) n n)) ∧ ∀ i', i' < s → ∀ j, j < n → g' i' j = (fb i' != fb j)) := ⟨_, hN.out, fun i' h1 j h2 => by rw [if_neg (by omega)]; exact HF.out i' h1 j h2⟩
      clear hN f1 c1 HM HF hlt
      generalize (wr.alloc (.cells (cells n fun _ => .bool false) 4)).setCell ⟨mb, s, none⟩ (.slice (some ⟨wr.heap.size, 0, none⟩) n n) = wE at *
      go_loopw [8] (fun jv wr => ∃ (j : Nat) (g : Nat → Nat → Bool), j ≤ n ∧ jv = .int .i64 j ∧ Hid (Mx wA mb n (s + 1) g wr) ∧ Hid (∀ i', i' < s → ∀ j, j < n → g i' j = (fb i' != fb j)) ∧ Hid (∀ j', j' < j → g s j' = (fb s != fb j'))) (fun jv _ => n - (intOf jv).toNat)
      case atStart =>
        obtain ⟨g', h1, h2⟩ := HN2.out
        exact ⟨0, g', by omega, rfl, h1, h2, fun j hj => by omega⟩
      case round =>
        clear HN2
        obtain ⟨j, g, hj, rfl, HM, HG, HJ⟩ := hrel
        by_cases hj2 : j = n
        · subst hj2
          have HG2 : Hid (∀ i', i' < s + 1 → ∀ j', j' < j → g i' j' = (fb i' != fb j')) := fun i' h1 j' h2 => by
            by_cases h3 : i' < s
            · exact HG.out i' h3 j' h2
            · rw [show i' = s by omega]; exact HJ.out j' h2
          clear HG HJ
          go_wp2
          go_roundw
          case rel => exact ⟨s + 1, g, by omega, by go_num, HM, HG2⟩
          case measure => simp [intOf]; omega
        · have hj1 : j < n := by omega
          have hjm : (j : Int) < (n : Int) := by omega
          have hbX : Below wA.heap.size wA wr := by
            have h := HM.out.b
            rw [HMB.out] at h
            exact h
          obtain ⟨fd, hfd, c1⟩ := HFi.out _ (HW.out _ hbX) s hs3
          obtain ⟨fd', hfd', c2⟩ := HFi.out _ (HW.out _ hbX) j hj1
          subst hfd
          cases hfd'
          obtain ⟨z0, z1, z2, z3⟩ := (HN.out _ hbX).cells
          obtain ⟨x1, x2⟩ := HM.out.cell (i := s) (by omega) (by omega)
          obtain ⟨x3, x4⟩ := x2 j hj1
          have hP := Lib.hid (HM.out.put (i := s) (by omega) hj1 (!(fb s == fb j))).drew
          clear x2 hbX
          have HP2 : Hid (∃ g', Mx wA mb n (s + 1) g' (wr.setCell ⟨mb + 1 + s, j, none⟩ (.bool (!(fb s == fb j)))).drew ∧ (∀ i', i' < s → ∀ j', j' < n → g' i' j' = (fb i' != fb j')) ∧ ∀ j', j' < j + 1 → g' s j' = (fb s != fb j')) := ⟨_, hP.out, fun i' h1 j' h2 => by rw [if_neg (by omega)]; exact HG.out i' h1 j' h2, fun j' h1 => by
            by_cases h2 : j' = j
            · rw [if_pos ⟨rfl, h2⟩, h2]; rfl
            · rw [if_neg (by omega)]; exact HJ.out j' (by omega)⟩
          clear hP HM HG HJ
          generalize fb s = bs at *
          generalize fb j = bj at *
          generalize g s j = gsj at *
          go_wp2_with fail
          go_big_region
          generalize (wr.setCell ⟨mb + 1 + s, j, none⟩ (.bool (!(bs == bj)))).drew = wF at *
          go_wp2
          go_roundw
          case rel =>
            obtain ⟨g', h1, h2, h3⟩ := HP2.out
            exact ⟨j + 1, g', by omega, by go_num, h1, h2, h3⟩
          case measure => simp [intOf]; omega
end
end Go.Proofs.YtkgeihambgbjdaaDoor.Mi
