/- Letters of package cube. -/
import Derived.Test.YteckkbjpeckjmaaDoorCUI
import Derived.RangeFuncBox
import Derived.RangeFuncWrites
import Derived.Maps.AppendAt
namespace Go.Proofs.YteckkbjpeckjmaaDoor.Cu
open Go Go.RowKit Go.Shelf
set_option maxRecDepth 100000
attribute [local go_sem] Oper.semAt_some
theorem info_u8 : (Tryd.prog.info? 5).map (fun i => (i.zero, i.size, i.bytes)) = some (some (.int .u8 0), 1, 1) := by kernel_rfl
/-- Numbers as cells of bytes. -/
def bvs (l : List Nat) : List Value := l.map fun x : Nat => .int .u8 (x : Int)
theorem bvs_snoc (l : List Nat) (x : Nat) : bvs (l ++ [x]) = bvs l ++ [.int .u8 (x : Int)] := by simp [bvs]
theorem letters_stops (n : Nat) (hn : 1 ≤ n) (Bn v : Nat) (Kp : World → World → Prop) (hv : v ≤ 6) (w : World) (hBn : w.heap[Bn]? = some (.cells #[.int .i64 v] 3 (0, 0))) :
    SeqStopsK Fence.wide n Tryd.prog 122 #[.pointer (some ⟨Bn, 0, none⟩)] (fun x : In (List.range (2 ^ v)) => #[Value.int .u8 ((x.1 : Nat) : Int)]) Kp (fun ys => vals ys = List.range (2 ^ v)) (fun pre => vals pre <+: List.range (2 ^ v)) (2 ^ v) w :=
  fun l J Jx W hW _ _ hY h0 => letters_in n hn l Bn v Kp hv J Jx hY W ((hW.cell (p := ⟨Bn, 0, none⟩) (Array.getElem?_eq_some_iff.1 hBn).1).trans (by simp [World.cell?, hBn])) h0
set_option maxHeartbeats 2000000 in
theorem Letters_in (n : Nat) (hn : 4 ≤ n) (p q v : Nat) (w : World) (hC : Cube p q v) :
    CallsIn Fence.wide n Tryd.prog 100 #[.agg #[.int .u8 p, .int .u8 q], .int .i64 v] w fun e w' =>
      ∃ u, e = .returned (.tuple #[u, .int .i64 0]) ∧ w'.ownsRow w.heap.size 5 1 u (letTo p q (2 ^ v)).length (bvs (letTo p q (2 ^ v))) ∧ Below w.heap.size w w' := by
  obtain ⟨i0, hi, hz0, hz1, hz2⟩ := info_parts info_u8
  have hfn : ∀ f, Fence.wide.fn f := fun _ => trivial
  have h1 : 1 ≤ n := by omega
  have hlt := hC.lt
  have hp : p < 256 := by omega
  have hq : q < 256 := by omega
  have hv := hC.1
  have h64 := pow6 hv
  have HK : Hid (∀ w, CallsIn Fence.wide (n - 1) Tryd.prog 91 #[.agg #[.int .u8 p, .int .u8 q], .int .i64 v] w fun e w' => e = .returned (.int .i64 0) ∧ Below w.heap.size w w') := fun w => by
    have := Check_any p q v w hp hq
    rw [hC.chk] at this
    exact callsIn_wide.2 this
  refine callsIn_of_wp_marks Tryd.func100 rfl trivial ?_ rfl
  simp only [Tryd.ntmps100, List.size_toArray, List.length_cons, List.length_nil, Nat.reduceAdd, Nat.reduceSub, Array.replicate_succ, Array.replicate_zero, List.push_toArray, List.append_toArray, List.nil_append, List.cons_append]
  have bC := World.alloc_heap_new w (.cells #[.int .u8 (p : Nat), .int .u8 (q : Nat)] 135)
  gi_wp2_with (first
    | (gi_at_call 91; refine (HK.out _).mono ?_; rintro e w1 ⟨rfl, hb1⟩)
    | (gi_at_call 115; refine (callsIn_wide.2 (letters_any _ _)).mono ?_; rintro e w' ⟨rfl, rfl⟩))
  have bC1 : w1.heap[w.heap.size]? = some (.cells #[.int .u8 (p : Nat), .int .u8 (q : Nat)] 135 (0, 0)) := (hb1.block _ (by simp)).trans bC
  have hb2 : Below w.heap.size w w1 := stepB ((Below.refl _ w).alloc (Nat.le_refl _) _) hb1
  have hs1 : w.heap.size + 1 ≤ w1.heap.size := by have := hb1.size; simpa using this
  clear bC hb1 HK
  have bL := (Boxed.new w1 39 (.slice none 0 0)).alloc (.cells #[.int .i64 v] 3)
  have bN := Boxed.new (w1.alloc (.cells #[.slice none 0 0] 39)) 3 (.int .i64 v)
  simp only [World.size_alloc] at bN
  have hx0 : Below w.heap.size w ((w1.alloc (.cells #[.slice none 0 0] 39)).alloc (.cells #[.int .i64 v] 3)) := bal (bal hb2 _) _
  have bC2 : ((w1.alloc (.cells #[.slice none 0 0] 39)).alloc (.cells #[.int .i64 v] 3)).heap[w.heap.size]? = some (.cells #[.int .u8 (p : Nat), .int .u8 (q : Nat)] 135 (0, 0)) :=
    (Below.heap_alloc _ _ _ (by simp; omega)).trans ((Below.heap_alloc _ _ _ (by omega)).trans bC1)
  have hsz : ((w1.alloc (.cells #[.slice none 0 0] 39)).alloc (.cells #[.int .i64 v] 3)).heap.size = w1.heap.size + 2 := by simp
  have hc0 : (letTo p q (2 ^ v)).length ≤ 64 := Nat.le_trans (letTo_len p q _) h64
  obtain ⟨W0, hW0⟩ : ∃ W0, (w1.alloc (.cells #[.slice none 0 0] 39)).alloc (.cells #[.int .i64 v] 3) = W0 := ⟨_, rfl⟩
  rw [hW0] at bL bN hx0 bC2 hsz ⊢
  clear hW0 bC1 hb2
  refine wpIn_rangeFunc_ownG rfl h1 (gf := 122) (lb := #[.pointer (some ⟨w1.heap.size + 1, 0, none⟩)]) rfl trivial (enters_of Tryd.func122 (by kernel_rfl) rfl)
    (letters_stops (n - 1) (by omega) (w1.heap.size + 1) v (Exc [w1.heap.size] W0.heap.size) hv W0 bN) excK_t (excK_b (Nat.le_refl _)) (Below.refl _ _) (fun _ => rfl)
    (fun pre W => (∃ u, Boxed W w1.heap.size 39 u ∧ W.ownsRow W0.heap.size 5 1 u ((vals pre).filter (cHas p q)).length (bvs ((vals pre).filter (cHas p q))) ∧ True) ∧ Exc [w1.heap.size] W0.heap.size W0 W)
    (fun _ _ _ => False)
    (OwnFrom.and (Own.from (holdsRow_own W0.heap.size w1.heap.size 39 5 1 (fun pre : List (In (List.range (2 ^ v))) => ((vals pre).filter (cHas p q)).length) (fun pre => bvs ((vals pre).filter (cHas p q))) (fun _ _ => True)) _) (ownFrom_exc (Nat.le_refl _) (Nat.le_refl _)))
    (fun _ _ _ _ _ hs _ _ => hs)
    ⟨⟨_, bL, World.ownsRow_nil _ _ _ _, trivial⟩, Exc.refl _ _ _⟩
    (fun x => { tmps := #[.agg #[.int .u8 p, .int .u8 q], .int .i64 v, .pointer (some ⟨w.heap.size, 0, none⟩), undef, .slice none 0 0, .int .i64 0, .int .i64 0, .pointer (some ⟨w1.heap.size, 0, none⟩), .int .u8 ((x.1 : Nat) : Int), .agg #[.int .u8 p, .int .u8 q], .int .i64 v, .int .i64 0, .int .i64 0, .bool false, undef, .int .i64 v, .func (.func 122) #[] #[.pointer (some ⟨w1.heap.size + 1, 0, none⟩)], .int .u8 ((x.1 : Nat) : Int), undef, undef, undef, undef, undef, undef, undef, undef], defers := [] }) ?assign ?body ?done ?stop
  case assign =>
    intro l x W K hK
    gi_wp2
    exact hK
  case body =>
    rintro l pre ⟨x, hx⟩ W ⟨⟨u, hv', hrow, _⟩, hE⟩ hlen
    have hx8 : x < 2 ^ v := List.mem_range.1 hx
    have hkl : ((vals pre).filter (cHas p q)).length ≤ 64 := by
      have := List.length_filter_le (cHas p q) (vals pre)
      rw [vals_len] at this
      omega
    have hcb := hE.holds (k := w.heap.size) (by omega) (by simp; omega) bC2
    have hc0 : W.cell? ⟨w.heap.size, 0, none⟩ = some (.int .u8 p) := by simp [World.cell?, hcb]
    have hc1 : W.cell? ⟨w.heap.size, 1, none⟩ = some (.int .u8 q) := by simp [World.cell?, hcb]
    have h1' : 1 ≤ n - 1 - 1 := by omega
    have hHas := Lib.hid (callsIn_wide (n := n - 1 - 1 - 1).2 (Has_any p q x W hp hq (by omega)))
    clear hcb hlen
    by_cases hh : cHas p q x = true
    · rw [hh] at hHas
      have hF : Hid ((vals (pre ++ [⟨x, hx⟩])).filter (cHas p q) = (vals pre).filter (cHas p q) ++ [x]) := by
        show _ = _
        rw [vals_snoc, List.filter_append]; simp [hh]
      clear hh
      have hNW : W0.heap.size ≤ W.heap.size := hE.size
      gi_wp2_with (first
        | (gi_at_call 113; refine (CallsIn.inRound l hHas.out).mono ?_; rintro e W2 ⟨rfl, hb2⟩; have hv2 := hv'.below hb2; have hrow2 := hrow.below hb2; have hs2 := hb2.size; have hE2 := exc_of_call (S := [w1.heap.size]) hb2 hNW; have hk2 := others_of_below hb2; have hcl := hv2.cell; clear hb2 hc0 hc1)
        | (gi_at_builtin; refine wpListIn_append_own _ rfl _ _ 39 rfl W0.heap.size 5 i0 (.int .u8 0) 1 1 Tryd.underlying39 hi hz0 hz1 hz2 rfl (by decide) _ _ _ rfl (hrow2.alloc _) ⟨W2.heap.size, 0, none⟩ 1 1 [.int .u8 (x : Nat)] rfl rfl (cell_one_new _ _ _) (by simp [Value.oneCell']) (by unfold maxLen; omega) (by omega) (by simp; omega) ?_; intro v' w2 hown' hgrow _; obtain ⟨g', cap', rfl⟩ := ownsRow_succ hown'; obtain ⟨hv1, hv3, hr3, hk3, hE3⟩ := appendedE hv2 (by decide) hrow2 (Nat.le_trans hNW hs2) List.mem_cons_self hown' hgrow; have hc1 := hv1.cell; have hf1 := hv1.frozen))
      refine ⟨(hk2.trans hk3).from _, hE2.trans hE3, ⟨_, hv3, ?_, trivial⟩, hE.trans (hE2.trans hE3)⟩
      rw [hF.out, bvs_snoc, List.length_append]
      exact hr3
    · have hh' : cHas p q x = false := by simpa using hh
      rw [hh'] at hHas
      have hF : Hid ((vals (pre ++ [⟨x, hx⟩])).filter (cHas p q) = (vals pre).filter (cHas p q)) := by
        show _ = _
        rw [vals_snoc, List.filter_append]; simp [hh']
      have hNW : W0.heap.size ≤ W.heap.size := hE.size
      clear hh hh'
      gi_wp2_with (gi_at_call 113; refine (CallsIn.inRound l hHas.out).mono ?_; rintro e W2 ⟨rfl, hb2⟩; have hv2 := hv'.below hb2; have hrow2 := hrow.below hb2; have hs2 := hb2.size; have hE2 := exc_of_call (S := [w1.heap.size]) hb2 hNW; have hk2 := others_of_below hb2; have hcl := hv2.cell; clear hb2 hc0 hc1)
      refine ⟨hk2.from _, hE2, ⟨_, hv2, ?_, trivial⟩, hE.trans hE2⟩
      rw [hF.out]
      exact hrow2
  case done =>
    rintro D ys W hD hys ⟨⟨u, hv', hrow, _⟩, hE⟩ hK
    have hF : Hid ((vals ys).filter (cHas p q) = letTo p q (2 ^ v)) := by
      show _ = _
      rw [hys]
      rfl
    have hc := hv'.cell
    clear hys
    gi_wp2
    rw [hF.out] at hrow
    refine ⟨by simp, .inl ⟨_, _, rfl, run_takeDeferred hK, ?_⟩⟩
    exact ⟨_, results_tmp2 rfl _ _ _, _, rfl, ownsRow_mono (ownsRow_putObj hrow _ hK rfl) (by omega), (hx0.trans (hE.below (by omega) (by simp; omega))).trans (belowK_b (w := W0) (by omega) W D _ _ hD hK rfl rfl)⟩
  case stop =>
    rintro D c pre W _ _ h _
    exact h.elim
theorem Letters_ok (p q v : Nat) (w : World) (hC : Cube p q v) :
    Calls Tryd.prog 100 #[.agg #[.int .u8 p, .int .u8 q], .int .i64 v] w fun e w' =>
      ∃ u, e = .returned (.tuple #[u, .int .i64 0]) ∧ w'.ownsRow w.heap.size 5 1 u (letTo p q (2 ^ v)).length (bvs (letTo p q (2 ^ v))) ∧ Below w.heap.size w w' :=
  callsIn_wide.1 (Letters_in 4 (by omega) p q v w hC)
theorem Letters_no (p q : Nat) (v : Int) (w : World) (hp : p < 256) (hq : q < 256) (hC : chk p q v ≠ 0) :
    Calls Tryd.prog 100 #[.agg #[.int .u8 p, .int .u8 q], .int .i64 v] w fun e w' =>
      e = .returned (.tuple #[.slice none 0 0, .int .i64 (chk p q v)]) ∧ Below w.heap.size w w' := by
  have HK := Lib.hid fun w => Check_any p q v w hp hq
  generalize chk p q v = c at *
  have hne : (c != 0) = true := by rw [bne_iff_ne]; exact hC
  clear hC
  go_enter Tryd.func100, Tryd.ntmps100
  go_wp2_with (go_at_call 91; refine (HK.out _).mono ?_; rintro e w1 ⟨rfl, hb1⟩)
  go_ret2
  exact ⟨rfl, stepB ((Below.refl _ w).alloc (Nat.le_refl _) _) hb1⟩
end Go.Proofs.YteckkbjpeckjmaaDoor.Cu
