/- successors (package nfa). -/
import Derived.Test.YtdjhfndoheoljaaDoorFF
import Derived.Test.YtdjhfndoheoljaaDoorCE
import Derived.RangeFuncBox
import Derived.RangeFuncWrites
import Derived.RangeFuncNested
import Derived.Maps.AppendAt
namespace Go.Proofs.YtdjhfndoheoljaaDoor.Nf
open Go Go.RowKit Go.Shelf Go.Proofs.YtdjhfndoheoljaaDoor Go.Proofs.YtdjhfndoheoljaaDoor.Cb
set_option linter.unusedVariables false
set_option linter.unusedSimpArgs false
set_option maxRecDepth 100000
attribute [local go_sem] Oper.semAt_some
theorem info_int6 : (Tryd.prog.info? 3).map (fun i => (i.zero, i.size, i.bytes)) = some (some (.int .i64 0), 1, 8) := by kernel_rfl
/-- Numbers as cells. -/
def zvs (l : List Int) : List Value := l.map (Value.int .i64)
theorem zvs_snoc (l : List Int) (x : Int) : zvs (l ++ [x]) = zvs l ++ [.int .i64 x] := by simp [zvs]
def tgs (xs : List Nat) (l : List Ed) : List Int := (l.filter fun e => hasB xs e.fr).map Ed.to
theorem tgs_all (xs : List Nat) (es : List Ed) (x : Nat) : tgs xs (mat es x) = tg es (hasB xs) x := by
  unfold tgs mat tg
  rw [List.filter_filter]
  congr 2
  funext e
  rw [Bool.and_comm]
theorem tgs_yes {xs : List Nat} {l : List Ed} {e : Ed} (h : hasB xs e.fr = true) : tgs xs (l ++ [e]) = tgs xs l ++ [e.to] := by unfold tgs; simp [List.filter_append, h]
theorem tgs_no {xs : List Nat} {l : List Ed} {e : Ed} (h : hasB xs e.fr = false) : tgs xs (l ++ [e]) = tgs xs l := by unfold tgs; simp [List.filter_append, h]
theorem tgs_len (xs : List Nat) (l : List Ed) : (tgs xs l).length ≤ l.length := by unfold tgs; rw [List.length_map]; exact List.length_filter_le _ _
theorem Boxed4.grown {w w' : World} {b : Nat} {s0 s1 s2 s3 : Value} {row : Option Nat} (h : Boxed4 w b s0 s1 s2 s3) (hg : w.grownBy w' row) (hr : ∀ r, row = some r → ∃ o : Obj, w.heap[r]? = some o ∧ o.isCells = false) : Boxed4 w' b s0 s1 s2 s3 := by
  have hne : some b ≠ row := fun e => by
    obtain ⟨o, ho, hc⟩ := hr b e.symm
    have := h.c0
    unfold World.cell? at this
    simp only [ho] at this
    revert this hc
    cases o <;> simp [Obj.isCells]
  have hbk := hg.block b h.lt hne
  exact ⟨Nat.lt_of_lt_of_le h.lt hg.size, (World.cell?_of_block (a := ⟨b, 0, none⟩) hbk).trans h.c0, (World.cell?_of_block (a := ⟨b, 1, none⟩) hbk).trans h.c1, (World.cell?_of_block (a := ⟨b, 2, none⟩) hbk).trans h.c2, (World.cell?_of_block (a := ⟨b, 3, none⟩) hbk).trans h.c3⟩
set_option maxHeartbeats 4000000 in
theorem succ_in (m : Nat) (hm : 4 ≤ m) (V S : Int) (s2 s3 : Value) (C : Option Addr) (es : List Ed) (c x : Nat) (hx : x < 256) (A : Option Addr) (xs : List Nat) (cs : Nat) (w : World) (hes : EdsAt w C es) (hl : es.length ≤ 1000000) (hxs : Words w A xs) (ux : U64 xs) :
    CallsIn Fence.wide m Tryd.prog 109 #[.agg #[.int .i64 V, .int .i64 S, s2, s3, .slice C es.length c], .slice A xs.length cs, .int .u8 x] w fun e w' =>
      ∃ A' c', e = .returned (.slice A' (stepW es xs x).length c') ∧ OwnW w.heap.size w' A' c' (stepW es xs x) ∧ Below w.heap.size w w' := by
  obtain ⟨i0, hi, hz0, hz1, hz2⟩ := info_parts info_int6
  have hfn : ∀ f, Fence.wide.fn f := fun _ => trivial
  have h1 : 1 ≤ m := by omega
  refine callsIn_of_wp_marks Tryd.func109 rfl trivial ?_ rfl
  simp only [Tryd.ntmps109, List.size_toArray, List.length_cons, List.length_nil, Nat.reduceAdd, Nat.reduceSub, Array.replicate_succ, Array.replicate_zero, List.push_toArray, List.append_toArray, List.nil_append, List.cons_append]
  gi_wp2_with (gi_at_call 147; refine (callsIn_wide.2 (matching_any _ _ _ _ _ _ _)).mono ?_; rintro e w' ⟨rfl, rfl⟩)
  have b1 := ((((Boxed.new (w.alloc (.cells #[.int .i64 V, .int .i64 S, s2, s3, .slice C es.length c] 47)) 68 (.slice A xs.length cs)).alloc (.cells #[.slice none 0 0] 44)).alloc (.cells #[.int .i64 V, .int .i64 S, s2, s3, .slice C es.length c] 47)).alloc (.cells #[.int .u8 x] 5))
  have b2 := ((Boxed.new ((w.alloc (.cells #[.int .i64 V, .int .i64 S, s2, s3, .slice C es.length c] 47)).alloc (.cells #[.slice A xs.length cs] 68)) 44 (.slice none 0 0)).alloc (.cells #[.int .i64 V, .int .i64 S, s2, s3, .slice C es.length c] 47)).alloc (.cells #[.int .u8 x] 5)
  have b3 := (Boxed5.new (((w.alloc (.cells #[.int .i64 V, .int .i64 S, s2, s3, .slice C es.length c] 47)).alloc (.cells #[.slice A xs.length cs] 68)).alloc (.cells #[.slice none 0 0] 44)) 47 (.int .i64 V) (.int .i64 S) s2 s3 (.slice C es.length c)).below (bal (Below.refl _ _) (.cells #[.int .u8 x] 5))
  have b4 := Boxed.new ((((w.alloc (.cells #[.int .i64 V, .int .i64 S, s2, s3, .slice C es.length c] 47)).alloc (.cells #[.slice A xs.length cs] 68)).alloc (.cells #[.slice none 0 0] 44)).alloc (.cells #[.int .i64 V, .int .i64 S, s2, s3, .slice C es.length c] 47)) 5 (.int .u8 x)
  have hB0 := bal (bal (bal (bal (bal (Below.refl w.heap.size w) (.cells #[.int .i64 V, .int .i64 S, s2, s3, .slice C es.length c] 47)) (.cells #[.slice A xs.length cs] 68)) (.cells #[.slice none 0 0] 44)) (.cells #[.int .i64 V, .int .i64 S, s2, s3, .slice C es.length c] 47)) (.cells #[.int .u8 x] 5)
  simp only [World.size_alloc] at b1 b2 b3 b4
  have hsz : (((((w.alloc (.cells #[.int .i64 V, .int .i64 S, s2, s3, .slice C es.length c] 47)).alloc (.cells #[.slice A xs.length cs] 68)).alloc (.cells #[.slice none 0 0] 44)).alloc (.cells #[.int .i64 V, .int .i64 S, s2, s3, .slice C es.length c] 47)).alloc (.cells #[.int .u8 x] 5)).heap.size = w.heap.size + 1 + 1 + 1 + 1 + 1 := by simp
  generalize (((((w.alloc (.cells #[.int .i64 V, .int .i64 S, s2, s3, .slice C es.length c] 47)).alloc (.cells #[.slice A xs.length cs] 68)).alloc (.cells #[.slice none 0 0] 44)).alloc (.cells #[.int .i64 V, .int .i64 S, s2, s3, .slice C es.length c] 47)).alloc (.cells #[.int .u8 x] 5)) = W0 at *
  have h4 := b3.c4
  have b3l := b3.lt
  have h4x := b4.cell
  have b4l := b4.lt
  clear b3 b4
  refine wpIn_rangeFunc_ownH rfl h1 (gf := 160) (lb := #[.pointer (some ⟨w.heap.size + 1 + 1 + 1, 0, none⟩), .pointer (some ⟨w.heap.size + 1 + 1 + 1 + 1, 0, none⟩)]) rfl trivial (enters_of Tryd.func160 (by kernel_rfl) rfl)
    (match_stops (m - 1) (by omega) (w.heap.size + 1 + 1 + 1) (w.heap.size + 1 + 1 + 1 + 1) C es c x hx w W0 hes hl hB0 (Exc [w.heap.size + 1 + 1] W0.heap.size) (fun h => ⟨h.below (by omega) (fun k hk => by have := List.mem_singleton.1 hk; omega), h.block _ (by omega) (fun hm => by have := List.mem_singleton.1 hm; omega)⟩) b3l h4 b4l h4x)
    (fun h k => h.trans k) (excK_b (Nat.le_refl _)) (Below.refl _ _) (fun _ => rfl)
    (fun pre W => (∃ v, Boxed W (w.heap.size + 1 + 1) 44 v ∧ W.ownsRow W0.heap.size 3 1 v (tgs xs pre).length (zvs (tgs xs pre)) ∧ True) ∧ Exc [w.heap.size + 1 + 1] W0.heap.size W0 W)
    (fun _ _ _ => False)
    (OwnFrom.and (Own.from (holdsRow_own W0.heap.size (w.heap.size + 1 + 1) 44 3 1 (fun pre : List Ed => (tgs xs pre).length) (fun pre : List Ed => zvs (tgs xs pre)) (fun _ _ => True)) _) (ownFrom_exc (Nat.le_refl _) (Nat.le_refl _)))
    (fun _ _ _ _ _ hs _ _ => hs)
    ⟨⟨_, b2, ⟨rfl, .inl ⟨rfl, rfl⟩⟩, trivial⟩, Exc.refl _ _ _⟩
    (fun y a' Wr => ∃ Bx, W0.heap.size ≤ Bx ∧ Boxed4 Wr Bx (.int .i64 y.fr) (.int .i64 y.to) (.int .u8 y.p) (.int .u8 y.q) ∧ a' = { tmps := #[.agg #[.int .i64 V, .int .i64 S, s2, s3, .slice C es.length c], .slice A xs.length cs, .int .u8 x, .pointer (some ⟨w.heap.size, 0, none⟩), .pointer (some ⟨w.heap.size + 1, 0, none⟩), undef, .slice none 0 0, .pointer (some ⟨w.heap.size + 1 + 1, 0, none⟩), .pointer (some ⟨Bx, 0, none⟩), .agg #[.int .i64 V, .int .i64 S, s2, s3, .slice C es.length c], .int .u8 x, .func (.func 160) #[] #[.pointer (some ⟨w.heap.size + 1 + 1 + 1, 0, none⟩), .pointer (some ⟨w.heap.size + 1 + 1 + 1 + 1, 0, none⟩)], edV y, undef, undef, undef, undef, undef, undef, undef, undef, undef, undef, undef], defers := [] })
    (fun y a' u X Y row hs hg hr => by
      obtain ⟨Bx, e1, e2, e3⟩ := hs
      exact ⟨Bx, e1, e2.grown hg (fun r e => (hr r e).2), e3⟩)
    ?assign ?body ?done ?stop
  case assign =>
    rintro l1 pre y Wr K hI hK
    dsimp only [edV]
    gi_wp2
    have hI2 := (OwnFrom.and (Own.from (holdsRow_own W0.heap.size (w.heap.size + 1 + 1) 44 3 1 (fun pre : List Ed => (tgs xs pre).length) (fun pre : List Ed => zvs (tgs xs pre)) (fun _ _ => True)) W0.heap.size) (ownFrom_exc (S := [w.heap.size + 1 + 1]) (Nat.le_refl W0.heap.size) (Nat.le_refl _))).alloc (s := pre) (.cells #[.int .i64 y.fr, .int .i64 y.to, .int .u8 y.p, .int .u8 y.q] 81) hI
    exact hK _ _ ((KeepsOthers.alloc _ _).from _) ((Exc.refl _ _ _).alloc hI.2.size _) hI2 ⟨Wr.heap.size, hI.2.size, Boxed4.new Wr 81 _ _ _ _, rfl⟩
  case body =>
    rintro l1 pre y a' Wb hl1 ⟨r, hr⟩ ⟨⟨v, hv, hrow, _⟩, hE⟩ ⟨Bx, hBx, bE, rfl⟩ hlen
    have hbB : Below w.heap.size w Wb := hB0.trans (hE.below (by omega) (fun k hk => by have := List.mem_singleton.1 hk; omega))
    have hlt1 : w.heap.size + 1 < W0.heap.size := by omega
    have hne1 : w.heap.size + 1 ∉ [w.heap.size + 1 + 1] := fun hm => by have := List.mem_singleton.1 hm; omega
    have hc1 := (hE.cell (p := ⟨w.heap.size + 1, 0, none⟩) hlt1 hne1).trans b1.cell
    have hcv := hv.cell
    have hfv := hv.frozen
    have e0 := bE.c0
    have e1 := bE.c1
    have hpl : (tgs xs pre).length < 1000000 := by
      have h2 := tgs_len xs pre
      have h3 : (mat es x).length ≤ es.length := List.length_filter_le _ _
      omega
    have hN4 : W0.heap.size ≤ Wb.heap.size := hE.size
    have h1' : 1 ≤ m - 1 - 1 := by omega
    have HH := Lib.hid fun X (hX : Below w.heap.size w X) => callsIn_wide (n := m - 1 - 1 - 1).2 (Go.Proofs.YtdjhfndoheoljaaDoor.Has_any A xs cs y.fr X (hxs.below hX) ux)
    clear hlen b1 b2 h4 h4x
    cases hb : hasB xs y.fr with
    | false =>
      have HT := Lib.hid (tgs_no (l := pre) hb)
      rw [hb] at HH
      clear hb
      gi_wp2_with (gi_at_call 140; refine (CallsIn.inRound l1 (HH.out _ hbB)).mono ?_; rintro e w3 ⟨rfl, nq, rfl⟩)
      have hbq := Ap.drewN_below Wb nq
      refine ⟨(others_of_below hbq).from _, exc_of_call hbq hN4, ?_, hE.trans (exc_of_call hbq hN4)⟩
      rw [HT.out]
      exact ⟨v, hv.below hbq, hrow.below hbq, trivial⟩
    | true =>
      have HT := Lib.hid (tgs_yes (l := pre) hb)
      rw [hb] at HH
      clear hb
      gi_wp2_with (first
        | (gi_at_call 140; refine (CallsIn.inRound l1 (HH.out _ hbB)).mono ?_; rintro e w3 ⟨rfl, nq, rfl⟩; have hbq := Ap.drewN_below Wb nq; replace hv := hv.below hbq; replace hrow := hrow.below hbq; replace hE := hE.trans (exc_of_call hbq hN4); replace bE := bE.below hbq; clear hcv hfv e0 e1; have hcv := hv.cell; have hfv := hv.frozen; have e1 := bE.c1; have hkq := others_of_below hbq; have hEq := exc_of_call (S := [w.heap.size + 1 + 1]) hbq hN4; clear hbq hbB hc1; generalize Wb.drewN nq = Wc at *)
        | (gi_at_builtin; refine wpListIn_append_own _ rfl _ _ 44 rfl W0.heap.size 3 i0 (.int .i64 0) 1 8 Tryd.underlying44 hi hz0 hz1 hz2 rfl (by decide) _ _ _ rfl (hrow.alloc _) ⟨Wc.heap.size, 0, none⟩ 1 1 [.int .i64 y.to] rfl rfl (cell_one_new _ _ _) (by simp [Value.oneCell']) (by unfold maxLen; omega) (by omega) (by have := hE.size; simp; omega) ?_; intro v' w2 hown' hgrow _; obtain ⟨g', cap', rfl⟩ := ownsRow_succ hown'; obtain ⟨hv1, hv3, hr3, hk5, hE5⟩ := appendedE hv (by decide) hrow hE.size List.mem_cons_self hown' hgrow; have hc5 := hv1.cell; have hf5 := hv1.frozen))
      refine ⟨(hkq.trans hk5).from _, hEq.trans hE5, ?_, hE.trans hE5⟩
      rw [HT.out, zvs_snoc, List.length_append]
      exact ⟨_, hv3, hr3, trivial⟩
  case done =>
    rintro D ys W hD rfl ⟨⟨v, hv, hrow, _⟩, hE⟩ hK
    rw [tgs_all] at hrow
    have hcv := hv.cell
    have hll : (tg es (hasB xs) x).length ≤ maxLen := by
      have h2 := tgs_len xs (mat es x)
      have h3 : (mat es x).length ≤ es.length := List.length_filter_le _ _
      rw [tgs_all] at h2
      unfold maxLen
      omega
    obtain ⟨A2, c2, rfl, _⟩ := Ap.own_form hrow
    have HO := Lib.hid (callsIn_wide (n := m - 1).2 (Of_own A2 _ c2 W (Dg.ints_row hrow rfl) hll))
    have hbB : Below w.heap.size w W := hB0.trans (hE.below (by omega) (fun k hk => by have := List.mem_singleton.1 hk; omega))
    have hDlt := (Array.getElem?_eq_some_iff.1 hK).1
    have hD2 : W0.heap.size ≤ D := hD
    gi_wp2_with (gi_at_call 85; refine HO.out.mono ?_; rintro e w5 ⟨A5, c5, rfl, ho5, hb5⟩)
    have hK5 := (hb5.block D hDlt).trans hK
    refine ⟨by simp, .inl ⟨_, _, rfl, run_takeDeferred hK5, ?_⟩⟩
    have hbs := hbB.size
    exact ⟨_, results_tmp rfl _ _ _, _, _, rfl, ⟨ownsRow_mono (ownsRow_putObj ho5.1 _ hK5 rfl) hbs, ho5.2.1, ho5.2.2⟩, (hbB.trans (hb5.mono hbs)).trans (belowK_b (w := w) (Nat.le_refl _) w5 D _ _ (by omega) hK5 rfl rfl)⟩
  case stop =>
    rintro D c pre W _ _ h _
    exact h.elim
theorem succ_any (V S : Int) (s2 s3 : Value) (C : Option Addr) (es : List Ed) (c x : Nat) (hx : x < 256) (A : Option Addr) (xs : List Nat) (cs : Nat) (w : World) (hes : EdsAt w C es) (hl : es.length ≤ 1000000) (hxs : Words w A xs) (ux : U64 xs) :
    Calls Tryd.prog 109 #[.agg #[.int .i64 V, .int .i64 S, s2, s3, .slice C es.length c], .slice A xs.length cs, .int .u8 x] w fun e w' =>
      ∃ A' c', e = .returned (.slice A' (stepW es xs x).length c') ∧ OwnW w.heap.size w' A' c' (stepW es xs x) ∧ Below w.heap.size w w' :=
  callsIn_wide.1 (succ_in 4 (by omega) V S s2 s3 C es c x hx A xs cs w hes hl hxs ux)
end Go.Proofs.YtdjhfndoheoljaaDoor.Nf
