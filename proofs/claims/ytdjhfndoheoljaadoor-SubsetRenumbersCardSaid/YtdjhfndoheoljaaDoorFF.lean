/- The iterator over the edges that match a letter (package nfa). -/
import Derived.Test.YtdjhfndoheoljaaDoorFE
import Derived.Test.YtdjhfndoheoljaaDoorFI
import Derived.RangeFuncKeeps
import Derived.RangeFuncLeaves
import Derived.Shelf.Abstract
import Derived.OwnWalkIn
import Derived.TacticsInMore
import Derived.LoopNIn
import Derived.LoopIn
namespace Go.Proofs.YtdjhfndoheoljaaDoor.Nf
open Go Go.RowKit Go.Shelf Go.Proofs.YtdjhfndoheoljaaDoor Go.Proofs.YtdjhfndoheoljaaDoor.Cb
set_option linter.unusedVariables false
set_option linter.unusedSimpArgs false
set_option maxRecDepth 100000
attribute [local go_sem] Oper.semAt_some
/-- The edges that match x. -/
def mat (l : List Ed) (x : Nat) : List Ed := l.filter fun e => cHas e.p e.q x
theorem mat_yes {l : List Ed} {x k : Nat} (hk : k < l.length) (h : cHas (ed l k).p (ed l k).q x = true) : mat (l.take (k + 1)) x = mat (l.take k) x ++ [ed l k] := by
  unfold mat
  rw [List.take_succ_eq_append_getElem hk, List.filter_append]
  have : ed l k = l[k] := by unfold ed; rw [List.getD_eq_getElem?_getD, List.getElem?_eq_getElem hk]; rfl
  rw [this] at h ⊢
  simp [h]
theorem mat_no {l : List Ed} {x k : Nat} (hk : k < l.length) (h : cHas (ed l k).p (ed l k).q x = false) : mat (l.take (k + 1)) x = mat (l.take k) x := by
  unfold mat
  rw [List.take_succ_eq_append_getElem hk, List.filter_append]
  have : ed l k = l[k] := by unfold ed; rw [List.getD_eq_getElem?_getD, List.getElem?_eq_getElem hk]; rfl
  rw [this] at h
  simp [h]
theorem mat_pre (l : List Ed) (x k : Nat) : mat (l.take k) x <+: mat l x := by
  unfold mat
  exact (List.take_prefix k l).filter _
def edV (e : Ed) : Value := .agg #[.int .i64 e.fr, .int .i64 e.to, .int .u8 e.p, .int .u8 e.q]
theorem matching_any (V S : Int) (s2 s3 s4 : Value) (x : Nat) (w : World) :
    Calls Tryd.prog 147 #[.agg #[.int .i64 V, .int .i64 S, s2, s3, s4], .int .u8 x] w fun r w' => r = .returned (.func (.func 160) #[] #[.pointer (some ⟨w.heap.size, 0, none⟩), .pointer (some ⟨w.heap.size + 1, 0, none⟩)]) ∧
      w' = (w.alloc (.cells #[.int .i64 V, .int .i64 S, s2, s3, s4] 47)).alloc (.cells #[.int .u8 x] 5) := by
  go_enter Tryd.func147, Tryd.ntmps147
  go_wp2
  go_ret
  exact ⟨rfl, rfl⟩
theorem block_lt {A B : World} {k : Nat} (h : B.heap[k]? = A.heap[k]?) (hk : k < A.heap.size) : k < B.heap.size := by
  rcases Nat.lt_or_ge k B.heap.size with h1 | h1
  · exact h1
  · rw [Array.getElem?_eq_none h1, Array.getElem?_eq_getElem hk] at h; cases h
/-- What the iterator's round leaves as it is. -/
def MatS (J : List Ed → World → Prop) (pre : List Ed) (w0 : World) (b : Nat) (e : Ed) (Bx x : Nat) (X : World) : Prop :=
  J pre X ∧ Below w0.heap.size w0 X ∧ Boxed4 X b (.int .i64 e.fr) (.int .i64 e.to) (.int .u8 e.p) (.int .u8 e.q) ∧ Bx < X.heap.size ∧ X.cell? ⟨Bx, 0, none⟩ = some (.int .u8 x)
set_option maxHeartbeats 4000000 in
theorem match_in (m : Nat) (hm : 1 ≤ m) (l Bn Bx : Nat) (C : Option Addr) (es : List Ed) (c x : Nat) (hx : x < 256) (w0 : World) (hes : EdsAt w0 C es) (hl : es.length ≤ 1000000)
    (Kp : World → World → Prop) (hK : ∀ {A B : World}, Kp A B → Below w0.heap.size A B ∧ B.heap[Bx]? = A.heap[Bx]?)
    (J Jx : List Ed → World → Prop) (hJB : ∀ pre W W', J pre W → Below W.heap.size W W' → J pre W')
    (hY : ∀ pre y W, J pre W → pre.length < (mat es x).length → YieldAt Fence.wide (m - 1) Tryd.prog l #[edV y] W fun e W' =>
      (e = .returned (.bool true) ∧ J (pre ++ [y]) W' ∧ Kp W W') ∨ (e = .returned (.bool false) ∧ Jx (pre ++ [y]) W'))
    (W : World) (hb : Below w0.heap.size w0 W) (hc4 : W.cell? ⟨Bn, 4, none⟩ = some (.slice C es.length c)) (hbx : Bx < W.heap.size) (hcx : W.cell? ⟨Bx, 0, none⟩ = some (.int .u8 x)) (h0 : J [] W) :
    CallsIn Fence.wide m Tryd.prog 160 #[.func (.yield l) #[] #[], .pointer (some ⟨Bn, 0, none⟩), .pointer (some ⟨Bx, 0, none⟩)] W fun e W' => (∃ v, e = .returned v) ∧
      ((∃ ys, ys = mat es x ∧ J ys W') ∨ (∃ pre, pre <+: mat es x ∧ Jx pre W')) := by
  have HY := Lib.hid hY
  clear hY
  have hfn : ∀ f, Fence.wide.fn f := fun _ => trivial
  have HM : Hid (Tryd.prog.follows .mixedOrders = true) := (by kernel_rfl : Tryd.prog.follows .mixedOrders = true)
  refine callsIn_of_wp Tryd.func160 rfl trivial ?_ rfl
  simp only [Tryd.ntmps160, List.size_toArray, List.length_cons, List.length_nil, Nat.reduceAdd, Nat.reduceSub, Array.replicate_succ, Array.replicate_zero, List.push_toArray, List.append_toArray, List.nil_append, List.cons_append]
  gi_wp2
  clear hc4
  gi_loopw [9] (fun i wr => ∃ (k : Nat) (pre : List Ed), k ≤ es.length ∧ i = .int .i64 k ∧ Hid (pre = mat (es.take k) x) ∧ J pre wr ∧ Below w0.heap.size w0 wr ∧ Bx < wr.heap.size ∧ wr.cell? ⟨Bx, 0, none⟩ = some (.int .u8 x)) (fun i _ => es.length - (intOf i).toNat)
  case atStart => exact ⟨0, [], by omega, rfl, rfl, h0, hb, hbx, hcx⟩
  case round =>
    clear h0 hb hbx hcx
    obtain ⟨k, pre, hk, rfl, hpre, hJ, hb, hbx, hcx⟩ := hrel
    by_cases hlt : k < es.length
    · obtain ⟨hok, ad, rfl, had, hc⟩ := (hes.below hb) k hlt
      obtain ⟨q0, q1, q2, q3⟩ := four_at hc
      have hyes := mat_yes (x := x) hlt
      have hno := mat_no (x := x) hlt
      have hB4 := Boxed4.new wr 81 (.int .i64 (ed es k).fr) (.int .i64 (ed es k).to) (.int .u8 (ed es k).p) (.int .u8 (ed es k).q)
      have hp := hok.p
      have hq := hok.q
      have hpm : mat (es.take (k + 1)) x <+: mat es x := mat_pre es x (k + 1)
      clear hc hok
      obtain ⟨y, hy⟩ : ∃ y, y = ed es k := ⟨_, rfl⟩
      rw [← hy] at q0 q1 q2 q3 hyes hno hB4 hp hq
      clear hy
      have hS0 : MatS J pre w0 wr.heap.size y Bx x (wr.alloc (.cells #[.int .i64 y.fr, .int .i64 y.to, .int .u8 y.p, .int .u8 y.q] 81)) :=
        ⟨hJB _ _ _ hJ (bal (Below.refl _ _) _), hb.trans ((bal (Below.refl _ _) _).mono hb.size), hB4, by simp; omega, ((bal (Below.refl wr.heap.size wr) _).cell (p := ⟨Bx, 0, none⟩) hbx).trans hcx⟩
      have hSs : ∀ {X Y : World}, MatS J pre w0 wr.heap.size y Bx x X → Below X.heap.size X Y → MatS J pre w0 wr.heap.size y Bx x Y := fun h hxy => ⟨hJB _ _ _ h.1 hxy, stepB h.2.1 hxy, h.2.2.1.below hxy, Nat.lt_of_lt_of_le h.2.2.2.1 hxy.size, (hxy.cell (p := ⟨Bx, 0, none⟩) h.2.2.2.1).trans h.2.2.2.2⟩
      have d0 : ∀ r : Cls (MatS J pre w0 wr.heap.size y Bx x), r.w.cell? ⟨wr.heap.size, 0, none⟩ = some (.int .i64 y.fr) := fun r => r.h.2.2.1.c0
      have d1 : ∀ r : Cls (MatS J pre w0 wr.heap.size y Bx x), r.w.cell? ⟨wr.heap.size, 1, none⟩ = some (.int .i64 y.to) := fun r => r.h.2.2.1.c1
      have d2 : ∀ r : Cls (MatS J pre w0 wr.heap.size y Bx x), r.w.cell? ⟨wr.heap.size, 2, none⟩ = some (.int .u8 y.p) := fun r => r.h.2.2.1.c2
      have d3 : ∀ r : Cls (MatS J pre w0 wr.heap.size y Bx x), r.w.cell? ⟨wr.heap.size, 3, none⟩ = some (.int .u8 y.q) := fun r => r.h.2.2.1.c3
      have d4 : ∀ r : Cls (MatS J pre w0 wr.heap.size y Bx x), r.w.cell? ⟨Bx, 0, none⟩ = some (.int .u8 x) := fun r => r.h.2.2.2.2
      haveI : Nonempty (Cls (MatS J pre w0 wr.heap.size y Bx x)) := ⟨⟨_, hS0⟩⟩
      have HH := Lib.hid fun X => Cb.Has_any y.p y.q x X hp hq hx
      have HL := Lib.hid fun X => letters_any y.fr y.to y.p y.q X
      clear hJ hB4 hb hbx hcx
      cases hh : cHas y.p y.q x with
      | false =>
        have hpre' : Hid (pre = mat (es.take (k + 1)) x) := hpre.out.trans (hno hh).symm
        rw [hh] at HH
        clear hyes hno hpre hh
        gi_wp2
        refine wpIn_region_cls_tailW 7 (MatS J pre w0 wr.heap.size y Bx x) HM.out (by kernel_rfl) (hSs hS0 (Ap.drewN_below _ 1)) ?_
        simp only [List.take_succ_cons, List.take_zero, List.drop_succ_cons, List.drop_zero]
        repeat (go_big_quiet_step (first
          | (go_at_call 133; rename_i r; refine (HL.out r.w).mono ?_; rintro e w4 ⟨rfl, hb4⟩; exact ⟨rfl, ⟨⟨w4, hSs r.h hb4⟩, rfl⟩⟩)
          | (go_at_call 150; rename_i r; refine (HH.out r.w).mono ?_; rintro e w4 ⟨rfl, hb4⟩; exact ⟨rfl, ⟨⟨w4, hSs r.h hb4⟩, rfl⟩⟩)))
        refine wpQuiet_nil ?_
        rintro _ ⟨r, rfl⟩
        have hX := r.h
        generalize r.w = X at hX ⊢
        clear d0 d1 d2 d3 d4
        obtain ⟨hJ2, hb2, _, hbx2, hcx2⟩ := hX
        gi_wp2
        go_roundw
        case rel => exact ⟨k + 1, pre, by omega, by go_num, hpre', hJ2, hb2, hbx2, hcx2⟩
        case measure => simp [intOf]; omega
      | true =>
        have hpre' : Hid (pre ++ [y] = mat (es.take (k + 1)) x) := by show _ = _; rw [hyes hh, hpre.out]
        have hlen : pre.length < (mat es x).length := by
          have h1 := hpm.length_le
          rw [← hpre'.out, List.length_append, List.length_singleton] at h1
          omega
        have HPm := Lib.hid hpm
        rw [hh] at HH
        clear hyes hno hpre hh hpm
        gi_wp2
        refine wpIn_region_cls_tailW 7 (MatS J pre w0 wr.heap.size y Bx x) HM.out (by kernel_rfl) (hSs hS0 (Ap.drewN_below _ 1)) ?_
        simp only [List.take_succ_cons, List.take_zero, List.drop_succ_cons, List.drop_zero]
        repeat (go_big_quiet_step (first
          | (go_at_call 133; rename_i r; refine (HL.out r.w).mono ?_; rintro e w4 ⟨rfl, hb4⟩; exact ⟨rfl, ⟨⟨w4, hSs r.h hb4⟩, rfl⟩⟩)
          | (go_at_call 150; rename_i r; refine (HH.out r.w).mono ?_; rintro e w4 ⟨rfl, hb4⟩; exact ⟨rfl, ⟨⟨w4, hSs r.h hb4⟩, rfl⟩⟩)))
        refine wpQuiet_nil ?_
        rintro _ ⟨r, rfl⟩
        have hX := r.h
        generalize r.w = X at hX ⊢
        clear d0 d1 d2 d3 d4
        obtain ⟨hJ2, hb2, _, hbx2, hcx2⟩ := hX
        obtain ⟨fn, tmps, assign, body, hy, hR⟩ := HY.out pre y X hJ2 hlen
        dsimp only [edV] at hy
        gi_wp2
        refine hR.mono ?_
        rintro e W3 (⟨rfl, hJ3, hk3⟩ | ⟨rfl, hJx3⟩)
        · gi_wp2
          go_roundw
          case rel => exact ⟨k + 1, pre ++ [y], by omega, by go_num, hpre', hJ3, hb2.trans (hK hk3).1, block_lt (hK hk3).2 hbx2, (World.cell?_of_block (a := ⟨Bx, 0, none⟩) (hK hk3).2).trans hcx2⟩
          case measure => simp [intOf]; omega
        · gi_wp2
          refine bodyPost_ret (results_none rfl _ _ _) rfl ?_
          refine ⟨⟨_, rfl⟩, .inr ⟨_, ?_, hJx3⟩⟩
          rw [hpre'.out]
          exact HPm.out
    · obtain rfl : k = es.length := by omega
      have hpre' : Hid (pre = mat es x) := by show _ = _; rw [hpre.out, List.take_length]
      clear hpre
      gi_wp2
      go_end0
      exact ⟨⟨_, rfl⟩, .inl ⟨_, hpre'.out, hJ⟩⟩
theorem match_stops (m : Nat) (hm : 1 ≤ m) (Bn Bx : Nat) (C : Option Addr) (es : List Ed) (c x : Nat) (hx : x < 256) (w0 w1 : World) (hes : EdsAt w0 C es) (hl : es.length ≤ 1000000) (hb : Below w0.heap.size w0 w1)
    (Kp : World → World → Prop) (hK : ∀ {A B : World}, Kp A B → Below w0.heap.size A B ∧ B.heap[Bx]? = A.heap[Bx]?)
    (hbn : Bn < w1.heap.size) (hc4 : w1.cell? ⟨Bn, 4, none⟩ = some (.slice C es.length c)) (hbx : Bx < w1.heap.size) (hcx : w1.cell? ⟨Bx, 0, none⟩ = some (.int .u8 x)) :
    SeqStopsK Fence.wide m Tryd.prog 160 #[.pointer (some ⟨Bn, 0, none⟩), .pointer (some ⟨Bx, 0, none⟩)] (fun y : Ed => #[edV y]) Kp (fun ys => ys = mat es x) (fun pre => pre <+: mat es x) (mat es x).length w1 :=
  fun l J Jx W hW hJ _ hY h0 => match_in m hm l Bn Bx C es c x hx w0 hes hl Kp hK J Jx (fun pre X Y h hb => hJ pre X Y none h ⟨hb.os, hb.tape, hb.output, hb.size, fun k hk _ => hb.block k hk⟩ (fun r e => by cases e)) hY W (hb.trans (hW.mono hb.size))
    ((hW.cell (p := ⟨Bn, 4, none⟩) hbn).trans hc4) (Nat.lt_of_lt_of_le hbx hW.size) ((hW.cell (p := ⟨Bx, 0, none⟩) hbx).trans hcx) h0
end Go.Proofs.YtdjhfndoheoljaaDoor.Nf
