/- List, Min. -/
import Derived.Test.YtnjagdocgmbmiaaDoorH
import Derived.RangeFuncBox
import Derived.RangeFuncWrites
import Derived.Maps.AppendAt
namespace Go.Proofs.YtnjagdocgmbmiaaDoor
open Go Go.RowKit Go.Shelf
set_option maxRecDepth 100000
attribute [local go_sem] Oper.semAt_some
theorem info_int : (Tryd.prog.info? 3).map (fun i => (i.zero, i.size, i.bytes)) = some (some (.int .i64 0), 1, 8) := by kernel_rfl
/-- Numbers as cells. -/
def ivs (l : List Nat) : List Value := l.map fun x : Nat => .int .i64 (x : Int)
set_option maxHeartbeats 2000000 in
theorem List_in (n : Nat) (hn : 3 ≤ n) (A : Option Addr) (xs : List Nat) (c : Nat) (w : World) (hx : Words w A xs) (ux : U64 xs) (hc : xs.length ≤ c) (hT : Tab w) :
    CallsIn Fence.wide n Tryd.prog 19 #[.slice A xs.length c] w fun e w' =>
      ∃ v, e = .returned v ∧ w'.ownsRow w.heap.size 3 1 v (els xs).length (ivs (els xs)) ∧ Below w.heap.size w w' := by
  obtain ⟨i0, hi, hz0, hz1, hz2⟩ := info_parts info_int
  have hfn : ∀ f, Fence.wide.fn f := fun _ => trivial
  have h1 : 1 ≤ n := by omega
  have hle : (els xs).length ≤ 4096 := elsTo_len xs 4096
  have HL := Lib.hid (callsIn_wide (n := n - 1).2 (Len_any A xs c w hx ux hc))
  obtain ⟨N, hN⟩ : ∃ N, N = (els xs).length := ⟨_, rfl⟩
  rw [← hN] at HL hle
  refine callsIn_of_wp_marks Tryd.func19 rfl trivial ?_ rfl
  simp only [Tryd.ntmps19, List.size_toArray, List.length_cons, List.length_nil, Nat.reduceAdd, Nat.reduceSub, Array.replicate_succ, Array.replicate_zero, List.push_toArray, List.append_toArray, List.nil_append, List.cons_append]
  have HNh := Lib.hid hN
  clear hN
  gi_wp2_with (first
    | (gi_at_call 20; refine HL.out.mono ?_; rintro e w' ⟨rfl, rfl⟩)
    | (gi_at_make; go_must (refine wpListIn_make_own _ rfl _ _ _ rfl w.heap.size 3 i0 _ 1 Tryd.underlying24 hi hz0 hz1 _ _ _ N rfl rfl rfl (by rw [hz2]; omega) (by unfold maxLen; omega) (Nat.le_refl _) ?_); intro w1 hown hg)
    | (gi_at_call 40; refine (callsIn_wide.2 (elements_any _ _ _ _)).mono ?_; rintro e w' ⟨rfl, rfl⟩))
  have hb1 : Below w.heap.size w w1 := (Below.refl _ _).grown hg (Nat.le_refl _) (by simp)
  have hs1 := hb1.size
  obtain ⟨v7, hv7⟩ : ∃ v7 : Value, v7 = .slice (some ⟨w.heap.size, 0, none⟩) 0 N := ⟨_, rfl⟩
  rw [← hv7] at hown
  have bO := Boxed.new w1 24 v7
  have bN := Boxed.new (w1.alloc (.cells #[v7] 24)) 23 (.slice A xs.length c)
  rw [World.size_alloc] at bN
  have hB0 : Below w.heap.size w ((w1.alloc (.cells #[v7] 24)).alloc (.cells #[.slice A xs.length c] 23)) := (hb1.alloc hs1 _).alloc (by simp; omega) _
  rw [← hv7]
  clear hv7
  refine wpIn_rangeFunc_ownG rfl h1 (gf := 53) (lb := #[.pointer (some ⟨w1.heap.size + 1, 0, none⟩)]) rfl trivial (enters_of Tryd.func53 (by kernel_rfl) rfl)
    (iter_stops (n - 1) (by omega) (w1.heap.size + 1) w _ A xs c hx ux hc hT hB0 (by simp) bN.cell) belowK_t (belowK_b (by simp; omega)) (Below.refl _ _) (fun _ => rfl)
    (fun pre W => (∃ v, Boxed W w1.heap.size 24 v ∧ W.ownsRow w.heap.size 3 1 v pre.length (ivs pre) ∧ True) ∧ Below w.heap.size w W)
    (fun _ _ _ => False)
    (OwnFrom.and (Own.from (holdsRow_own w.heap.size w1.heap.size 24 3 1 (fun pre : List Nat => pre.length) (fun pre : List Nat => ivs pre) (fun _ _ => True)) _) (ownFrom_below (Nat.le_refl _) (by simp; omega)))
    (fun _ _ _ _ _ hs _ _ => hs)
    ⟨⟨_, bO.alloc _, (hown.alloc _).alloc _, trivial⟩, hB0⟩
    (fun x => { tmps := #[.slice A xs.length c, undef, .slice none 0 0, .pointer (some ⟨w1.heap.size, 0, none⟩), .int .i64 (x : Nat), .slice A xs.length c, .int .i64 N, v7, .slice A xs.length c, .func (.func 53) #[] #[.pointer (some ⟨w1.heap.size + 1, 0, none⟩)], .int .i64 (x : Nat), undef, undef, undef, undef, undef], defers := [] }) ?assign ?body ?done ?stop
  case assign =>
    intro l x W K hK
    gi_wp2
    exact hK
  case body =>
    rintro l pre x W ⟨⟨v, hv, hrow, _⟩, hB⟩ hlt
    have hpl : pre.length < 4096 := by rw [← HNh.out] at hlt; omega
    have hc := hv.cell
    clear hlt
    gi_wp2_with (gi_at_builtin; refine wpListIn_append_own _ rfl _ _ 24 rfl w.heap.size 3 i0 (.int .i64 0) 1 8 Tryd.underlying24 hi hz0 hz1 hz2 rfl (by decide) _ _ _ rfl (hrow.alloc _) ⟨W.heap.size, 0, none⟩ 1 1 [.int .i64 (x : Nat)] rfl rfl (cell_one_new _ _ _) (by simp [Value.oneCell']) (by unfold maxLen; omega) (by omega) (by have := hB.size; simp; omega) ?_; intro v' w2 hown' hgrow _; obtain ⟨g', cap', rfl⟩ := ownsRow_succ hown'; obtain ⟨hv1, hv2, hr2, hk2, hb2⟩ := hv.appended (by decide) hrow hB.size hs1 hown' hgrow; have hc1 := hv1.cell; have hf1 := hv1.frozen)
    exact ⟨hk2.from _, hb2, ⟨_, hv2, by simpa [ivs] using hr2, trivial⟩, hB.trans hb2⟩
  case done =>
    rintro D ys W hD rfl ⟨⟨v, hv, hrow, _⟩, hB⟩ hK
    have hc := hv.cell
    gi_wp2
    refine ⟨by simp, .inl ⟨_, _, rfl, run_takeDeferred hK, ?_⟩⟩
    exact ⟨_, results_tmp rfl _ _ _, v, rfl, ownsRow_putObj hrow _ hK rfl, hB.trans (belowK_b (w := w) (Nat.le_refl _) W D _ _ (by simp at hD; omega) hK rfl rfl)⟩
  case stop =>
    rintro D c pre W _ _ h _
    exact h.elim
theorem List_any (A : Option Addr) (xs : List Nat) (c : Nat) (w : World) (hx : Words w A xs) (ux : U64 xs) (hc : xs.length ≤ c) (hT : Tab w) :
    Calls Tryd.prog 19 #[.slice A xs.length c] w fun e w' =>
      ∃ v, e = .returned v ∧ w'.ownsRow w.heap.size 3 1 v (els xs).length (ivs (els xs)) ∧ Below w.heap.size w w' :=
  callsIn_wide.1 (List_in 3 (by omega) A xs c w hx ux hc hT)
/-- The smallest element and true, or 0 and false. -/
def minOf : List Nat → Nat × Bool
  | [] => (0, false)
  | x :: _ => (x, true)
theorem minOf_pre {l : List Nat} {x : Nat} (h : [x] <+: l) : minOf l = (x, true) := by
  obtain ⟨t, rfl⟩ := h
  rfl
theorem boxed_row {W : World} {B : Nat} {t : TypeId} {v : Value} {row : Option Nat} (h : Boxed W B t v) (hr : ∀ r, row = some r → ∃ o : Obj, W.heap[r]? = some o ∧ o.isCells = false) : some B ≠ row := by
  intro e
  obtain ⟨o, ho, hc⟩ := hr B e.symm
  rw [show W.heap[B]? = _ from h] at ho
  cases ho
  cases hc
theorem cell_alloc_m {W : World} {a : Addr} {v : Value} (o : Obj) (h : W.cell? a = some v) : (W.alloc o).cell? a = some v := cell_kept h (World.grownBy_alloc W o none) (fun r e => by cases e)
set_option maxHeartbeats 2000000 in
theorem Min_in (n : Nat) (hn : 3 ≤ n) (A : Option Addr) (xs : List Nat) (c : Nat) (w : World) (hx : Words w A xs) (ux : U64 xs) (hc : xs.length ≤ c) (hT : Tab w) :
    CallsIn Fence.wide n Tryd.prog 21 #[.slice A xs.length c] w fun e w' =>
      e = .returned (.tuple #[.int .i64 ((minOf (els xs)).1 : Nat), .bool (minOf (els xs)).2]) ∧ Below w.heap.size w w' := by
  have hfn : ∀ f, Fence.wide.fn f := fun _ => trivial
  have h1 : 1 ≤ n := by omega
  refine callsIn_of_wp_marks Tryd.func21 rfl trivial ?_ rfl
  simp only [Tryd.ntmps21, List.size_toArray, List.length_cons, List.length_nil, Nat.reduceAdd, Nat.reduceSub, Array.replicate_succ, Array.replicate_zero, List.push_toArray, List.append_toArray, List.nil_append, List.cons_append]
  gi_wp2_with (gi_at_call 40; refine (callsIn_wide.2 (elements_any _ _ _ _)).mono ?_; rintro e w' ⟨rfl, rfl⟩)
  have b0 := Boxed.new w 3 (.int .i64 0)
  have b1 := Boxed.new (w.alloc (.cells #[.int .i64 0] 3)) 4 (.bool false)
  have b2 := Boxed.new ((w.alloc (.cells #[.int .i64 0] 3)).alloc (.cells #[.bool false] 4)) 23 (.slice A xs.length c)
  simp only [World.size_alloc] at b1 b2
  have hB0 : Below w.heap.size w (((w.alloc (.cells #[.int .i64 0] 3)).alloc (.cells #[.bool false] 4)).alloc (.cells #[.slice A xs.length c] 23)) := (((Below.refl _ w).alloc (Nat.le_refl _) _).alloc (by simp) _).alloc (by simp; omega) _
  refine wpIn_rangeFunc_ownG rfl h1 (gf := 53) (lb := #[.pointer (some ⟨w.heap.size + 1 + 1, 0, none⟩)]) rfl trivial (enters_of Tryd.func53 (by kernel_rfl) rfl)
    (iter_stops (n - 1) (by omega) (w.heap.size + 1 + 1) w _ A xs c hx ux hc hT hB0 (by simp) b2.cell) belowK_t (belowK_b (by simp; omega)) (Below.refl _ _) (fun _ => rfl)
    (fun pre W => (pre = [] ∧ Boxed W w.heap.size 3 (.int .i64 0) ∧ Boxed W (w.heap.size + 1) 4 (.bool false)) ∧ Below w.heap.size w W)
    (fun c pre W => (c = .ret ∧ ∃ x : Nat, pre = [x] ∧ Boxed W w.heap.size 3 (.int .i64 (x : Nat)) ∧ Boxed W (w.heap.size + 1) 4 (.bool true)) ∧ Below w.heap.size w W)
    (OwnFrom.and (Own.from (fun s X Y row hs hg hr => ⟨hs.1, hs.2.1.kept hg (boxed_row hs.2.1 hr), hs.2.2.kept hg (boxed_row hs.2.2 hr)⟩) _) (ownFrom_below (Nat.le_refl _) (by simp; omega)))
    (fun cd => OwnFrom.and (Own.from (fun s X Y row hs hg hr => by
      obtain ⟨h1, x, h2, h3, h4⟩ := hs
      exact ⟨h1, x, h2, h3.kept hg (boxed_row h3 hr), h4.kept hg (boxed_row h4 hr)⟩) _) (ownFrom_below (Nat.le_refl _) (by simp; omega)))
    ⟨⟨rfl, (b0.alloc _).alloc _, b1.alloc _⟩, hB0⟩
    (fun x => { tmps := #[.slice A xs.length c, undef, .pointer (some ⟨w.heap.size, 0, none⟩), .pointer (some ⟨w.heap.size + 1, 0, none⟩), .int .i64 (x : Nat), .slice A xs.length c, .func (.func 53) #[] #[.pointer (some ⟨w.heap.size + 1 + 1, 0, none⟩)], .int .i64 (x : Nat), undef], defers := [] }) ?assign ?body ?done ?stop
  case assign =>
    intro l x W K hK
    gi_wp2
    exact hK
  case body =>
    rintro l pre x W ⟨⟨rfl, hv0, hv1⟩, hB⟩ hlt
    have c0 := hv0.cell
    have f0 := hv0.frozen
    have hv1' := hv1.kept (grownBy_setCell' W w.heap.size (.int .i64 (x : Nat))) (by simp)
    have c1 := hv1'.cell
    have f1 := hv1'.frozen
    have hv0' := (hv0.set (.int .i64 (x : Nat))).kept (grownBy_setCell' _ (w.heap.size + 1) (.bool true)) (by simp)
    clear hlt
    gi_wp2
    refine ⟨((KeepsOthers.setCell _ _ _).trans (KeepsOthers.setCell _ _ _)).from _, ⟨rfl, x, rfl, hv0', hv1'.set _⟩, (hB.setCell (p := ⟨w.heap.size, 0, none⟩) (Nat.le_refl _) _).setCell (p := ⟨w.heap.size + 1, 0, none⟩) (by simp) _⟩
  case done =>
    rintro D ys W hD hys ⟨⟨rfl, hv0, hv1⟩, hB⟩ hK
    have c0 := hv0.cell
    have f0 := hv0.frozen
    have hv1' := hv1.kept (grownBy_setCell' W w.heap.size (.int .i64 0)) (by simp)
    have c1 := hv1'.cell
    have f1 := hv1'.frozen
    have hv0' := (hv0.set (.int .i64 0)).kept (grownBy_setCell' _ (w.heap.size + 1) (.bool false)) (by simp)
    have hv1'' := hv1'.set (.bool false)
    have hK' := ((KeepsOthers.setCell W ⟨w.heap.size, 0, none⟩ (.int .i64 0)).trans (KeepsOthers.setCell _ ⟨w.heap.size + 1, 0, none⟩ (.bool false))).same D _ hK rfl
    have hB' := (hB.setCell (p := ⟨w.heap.size, 0, none⟩) (Nat.le_refl _) (.int .i64 0)).setCell (p := ⟨w.heap.size + 1, 0, none⟩) (by simp) (.bool false)
    have HM : Hid (minOf (els xs) = (0, false)) := by
      show _ = _
      rw [← hys]
      rfl
    clear hys
    gi_wp2
    refine ⟨by simp, .inl ⟨_, _, rfl, run_takeDeferred hK', ?_⟩⟩
    have r0 := (hv0'.kept (grownBy_putObj' _ D (.deferred none)) (boxed_row hv0' (fun r e => by cases e; exact ⟨_, hK', rfl⟩))).cell
    have r1 := (hv1''.kept (grownBy_putObj' _ D (.deferred none)) (boxed_row hv1'' (fun r e => by cases e; exact ⟨_, hK', rfl⟩))).cell
    refine ⟨.tuple #[.int .i64 0, .bool false], ?_, ?_, ?_⟩
    · simp [results, Tryd.f21, go_sem, r0, r1]
    · rw [HM.out]; rfl
    · exact hB'.trans (belowK_b (w := w) (Nat.le_refl _) _ D _ _ (by simp at hD; omega) hK' rfl rfl)
  case stop =>
    rintro D c pre W hD hpre ⟨⟨rfl, x, rfl, hv0, hv1⟩, hB⟩ hK
    have HM := Lib.hid (minOf_pre hpre)
    gi_wp2
    refine ⟨by simp, .inl ⟨_, _, rfl, run_takeDeferred hK, ?_⟩⟩
    have r0 := (hv0.kept (grownBy_putObj' _ D (.deferred none)) (boxed_row hv0 (fun r e => by cases e; exact ⟨_, hK, rfl⟩))).cell
    have r1 := (hv1.kept (grownBy_putObj' _ D (.deferred none)) (boxed_row hv1 (fun r e => by cases e; exact ⟨_, hK, rfl⟩))).cell
    refine ⟨.tuple #[.int .i64 (x : Nat), .bool true], ?_, ?_, ?_⟩
    · simp [results, Tryd.f21, go_sem, r0, r1]
    · rw [HM.out]
    · exact hB.trans (belowK_b (w := w) (Nat.le_refl _) W D _ _ (by simp at hD; omega) hK rfl rfl)
theorem Min_any (A : Option Addr) (xs : List Nat) (c : Nat) (w : World) (hx : Words w A xs) (ux : U64 xs) (hc : xs.length ≤ c) (hT : Tab w) :
    Calls Tryd.prog 21 #[.slice A xs.length c] w fun e w' =>
      e = .returned (.tuple #[.int .i64 ((minOf (els xs)).1 : Nat), .bool (minOf (els xs)).2]) ∧ Below w.heap.size w w' :=
  callsIn_wide.1 (Min_in 3 (by omega) A xs c w hx ux hc hT)
end Go.Proofs.YtnjagdocgmbmiaaDoor
