/- The diagram of a function is built. -/
import Derived.Test.YtbhfmeohaoojfaaNE
import Derived.Test.YtbhfmeohaoojfaaQT
import Derived.Outline
namespace Go.Proofs.Ytbhfmeohaoojfaa.Dn
open Go Go.RowKit Go.Proofs.Ytbhfmeohaoojfaa.Ap
open Go.Proofs.Ytbhfmeohaoojfaa.Dg (shl_i64 pow7 cell_one info_int ints_row nd_ext)
set_option linter.unusedVariables false
set_option maxRecDepth 100000
section
variable {sb cb rb tb v cap : Nat} {nv : Value} {N : List Nd} {R : List Nat}
/-- The function value f with caps answers val at every letter, whatever the store has become meanwhile. -/
def ValOk (w0 : World) (f : FuncId) (caps : Array Value) (val : Nat → Int) (sb cb rb tb v cap : Nat) (N0 : List Nd) (R : List Nat) : Prop :=
  ∀ W nv N x, x < 2 ^ v → Mem W sb cb rb tb v cap nv N R → Wf v N → (∃ M, N = N0 ++ M) → N.length ≤ 1000000 → Keeps w0 W →
    Calls Try.prog f (#[.int .u8 x] ++ caps) W fun e w' => e = .returned (.int .i64 (val x)) ∧ Below W.heap.size W w'
/-- The variables of build. -/
structure Vars (W : World) (b2 b3 b4 cb : Nat) (fv : Value) : Prop where
  h2 : W.heap[b2]? = some (.cells #[.pointer (some ⟨cb, 0, none⟩)] 84 (0, 0))
  h3 : W.heap[b3]? = some (.cells #[fv] 102 (0, 0))
  h4 : W.heap[b4]? = some (.cells #[.func (.func 79) #[] #[.pointer (some ⟨b2, 0, none⟩), .pointer (some ⟨b3, 0, none⟩), .pointer (some ⟨b4, 0, none⟩)]] 122 (0, 0))
theorem Vars.keeps {W W' : World} {b2 b3 b4 cb : Nat} {fv : Value} (h : Vars W b2 b3 b4 cb fv) (hk : Keeps W W') : Vars W' b2 b3 b4 cb fv :=
  ⟨hk.cells _ _ _ _ h.h2 (by decide) (by decide), hk.cells _ _ _ _ h.h3 (by decide) (by decide), hk.cells _ _ _ _ h.h4 (by decide) (by decide)⟩
theorem ref_any (n : Nd) (w : World) (h : Mem w sb cb rb tb v cap nv N R) (hW : Wf v N) (hf : Fit n) (hfN : ∀ m ∈ N, Fit m) (hN : N.length ≤ 1000000) :
    Calls Try.prog 80 #[.pointer (some ⟨cb, 0, none⟩), ndv n] w fun e w' => e = .returned (.int .i64 ((refN N n).2 : Nat)) ∧ ∃ nv', Mem w' sb cb rb tb v cap nv' (refN N n).1 R ∧ Step cb rb tb nv nv' w w' := by
  unfold refN
  by_cases hn : n ∈ N
  · rw [if_pos hn]
    have hi := List.idxOf_lt_length_iff.2 hn
    have hat : at_ N (N.idxOf n + 1) = n := by
      unfold at_
      rw [Nat.add_sub_cancel, List.getD_eq_getElem?_getD, List.getElem?_eq_getElem hi]
      exact List.getElem_idxOf hi
    have hr : inN N (N.idxOf n + 1) := ⟨by omega, hi⟩
    have := ref_old (N.idxOf n + 1) w h hr (by rw [hat]; exact hf)
    rw [hat] at this
    exact this.mono fun e w' ⟨he, hb⟩ => ⟨he, nv, h.below hb, .of_below hb⟩
  · rw [if_neg hn]
    exact ref_new n w h hn hf hN
theorem sub_zero (v : Nat) (val : Nat → Int) (N : List Nd) (x : Nat) : sub v val 0 N x = refN N (v, 0, 0, val x) := rfl
set_option maxHeartbeats 4000000 in
theorem sub_leaf (w0 : World) (f : FuncId) (caps : Array Value) (val : Nat → Int) (N0 : List Nd) (x b2 b3 b4 : Nat) (W : World) (eg : ∀ args w, (callFunc f args).run Try.prog w = .ok (.enter f args) w)
    (hval : ∀ x, x < 2 ^ v → -9223372036854775808 ≤ val x ∧ val x ≤ 9223372036854775807) (HV : ValOk w0 f caps val sb cb rb tb v cap N0 R)
    (hv : v ≤ 6) (hx : x < 2 ^ v) (h : Mem W sb cb rb tb v cap nv N R) (hW : Wf v N) (hM : ∃ M, N = N0 ++ M) (hN : N.length ≤ 1000000) (hfN : ∀ m ∈ N, Fit m) (hK : Keeps w0 W)
    (hb : Vars W b2 b3 b4 cb (.func (.func f) #[] caps)) :
    Calls Try.prog 79 #[.int .i64 v, .int .u8 x, .pointer (some ⟨b2, 0, none⟩), .pointer (some ⟨b3, 0, none⟩), .pointer (some ⟨b4, 0, none⟩)] W fun e w' =>
      e = .returned (.int .i64 ((sub v val 0 N x).2 : Nat)) ∧ ∃ nv', Mem w' sb cb rb tb v cap nv' (sub v val 0 N x).1 R ∧ Step cb rb tb nv nv' W w' := by
  rw [sub_zero]
  obtain ⟨c0, c1, c2, c3, c4, c5⟩ := h.cells
  have e2 := cell_of_one hb.h2
  have e3 := cell_of_one hb.h3
  obtain ⟨hv1, hv2⟩ := hval x hx
  have HC : Hid (∀ X, Below W.heap.size W X → Calls Try.prog f (#[.int .u8 x] ++ caps) X fun e w' => e = .returned (.int .i64 (val x)) ∧ Below X.heap.size X w') := fun X hX =>
    HV X nv N x hx (h.below hX) hW hM hN (hK.trans (Keeps.of_below hX))
  have HR : Hid (∀ X, Below W.heap.size W X → Calls Try.prog 80 #[.pointer (some ⟨cb, 0, none⟩), .agg #[.int .i64 v, .int .i64 0, .int .i64 0, .int .i64 (val x)]] X fun e w' => e = .returned (.int .i64 ((refN N (v, 0, 0, val x)).2 : Nat)) ∧ ∃ nv', Mem w' sb cb rb tb v cap nv' (refN N (v, 0, 0, val x)).1 R ∧ Step cb rb tb nv nv' X w') := fun X hX =>
    ref_any (v, 0, 0, val x) X (h.below hX) hW ⟨by show v < _; omega, by show 0 < _; omega, by show 0 < _; omega, hv1, hv2⟩ hfN hN
  have hlt2 := lt_of_block hb.h2
  have hlt3 := lt_of_block hb.h3
  have hcb := h.lt.2
  have vb : ((v : Int) == (v : Int)) = true := by simp
  clear HV hb hK hM hW hfN h
  go_enter Try.func79, Try.ntmps79
  go_wp2
  haveI : Nonempty (Cls fun X => Below W.heap.size W X) := ⟨⟨_, Below.refl _ _⟩⟩
  have l2 : ∀ r : Cls (fun X => Below W.heap.size W X), r.w.cell? ⟨b2, 0, none⟩ = some (.pointer (some ⟨cb, 0, none⟩)) := fun r => (r.h.cell hlt2).trans e2
  have l3 : ∀ r : Cls (fun X => Below W.heap.size W X), r.w.cell? ⟨b3, 0, none⟩ = some (.func (.func f) #[] caps) := fun r => (r.h.cell hlt3).trans e3
  refine wp_region_cls_tail 6 (fun X => Below W.heap.size W X) (by kernel_rfl) (by kernel_rfl) (drew_below W) ?_
  simp only [List.take_succ_cons, List.take_zero, List.drop_succ_cons, List.drop_zero]
  repeat (go_big_quiet_step (first | (rename_i r; refine (HC.out r.w r.h).mono ?_; rintro e w4 ⟨rfl, hb4⟩; exact ⟨rfl, ⟨⟨w4, stepB r.h hb4⟩, rfl⟩⟩)))
  refine wpQuiet_nil ?_
  rintro _ ⟨r, rfl⟩
  have hX := r.h
  generalize r.w = X at hX ⊢
  clear l2 l3
  go_wp2_with (go_at_call 80; ((with_reducible refine (HR.out X hX).mono ?_); rintro e w4 ⟨rfl, hpost⟩))
  obtain ⟨nv', hm4, hs4⟩ := hpost
  go_ret
  exact ⟨rfl, nv', hm4, (Step.of_below hX).trans hs4⟩
def FitV (N : List Nd) : Prop := ∀ m ∈ N, -9223372036854775808 ≤ vl m ∧ vl m ≤ 9223372036854775807
theorem fits {v : Nat} {N : List Nd} (hW : Wf v N) (hF : FitV N) (hv : v ≤ 6) (hN : N.length ≤ 1000000) : ∀ m ∈ N, Fit m := fun m hm => by
  obtain ⟨r, hr, rfl⟩ := mem_at hm
  have h1 := hF _ hm
  have h2 := hr.2
  unfold Fit
  rcases hW.ok r hr with ⟨a, b, c⟩ | ⟨a, b, c, d, e, f, g⟩
  · exact ⟨by omega, by omega, by omega, h1.1, h1.2⟩
  · exact ⟨by omega, by omega, by omega, h1.1, h1.2⟩
theorem refN_fitV {N : List Nd} {n : Nd} (h : FitV N) (hn : -9223372036854775808 ≤ vl n ∧ vl n ≤ 9223372036854775807) : FitV (refN N n).1 := by
  unfold refN
  split
  · exact h
  · intro m hm
    rcases List.mem_append.1 hm with h1 | h1
    · exact h m h1
    · rw [List.mem_singleton] at h1; rw [h1]; exact hn
theorem sub_fitV {v : Nat} {val : Nat → Int} (hv : v ≤ 6) (hval : ∀ x, x < 2 ^ v → -9223372036854775808 ≤ val x ∧ val x ≤ 9223372036854775807) : ∀ (d : Nat), d ≤ v → ∀ (N : List Nd) (x : Nat), x < 2 ^ v → FitV N → FitV (sub v val d N x).1
  | 0, _, N, x, hx, h => refN_fitV h (hval x hx)
  | d + 1, hd, N, x, hx, h => by
    have h1 := sub_fitV hv hval d (by omega) N (stV x (v - (d + 1)) false) (stV_lt _ hv (by omega) hx) h
    have h2 := sub_fitV hv hval d (by omega) _ (stV x (v - (d + 1)) true) (stV_lt _ hv (by omega) hx) h1
    unfold sub
    split
    · exact h2
    · exact refN_fitV h2 (by show (-9223372036854775808 : Int) ≤ 0 ∧ (0 : Int) ≤ 9223372036854775807; decide)
theorem sub_eq {v : Nat} {val : Nat → Int} {d k : Nat} {N : List Nd} {x : Nat} (hk : k = v - (d + 1)) {p q : List Nd × Nat} (hp : p = sub v val d N (stV x k false)) (hq : q = sub v val d p.1 (stV x k true)) :
    sub v val (d + 1) N x = if p.2 = q.2 then (q.1, p.2) else refN q.1 (k, p.2, q.2, 0) := by
  subst hk hp hq
  rfl
set_option maxHeartbeats 8000000 in
theorem sub_any (w0 : World) (f : FuncId) (caps : Array Value) (val : Nat → Int) (N0 : List Nd) (b2 b3 b4 : Nat) (eg : ∀ args w, (callFunc f args).run Try.prog w = .ok (.enter f args) w)
    (hval : ∀ x, x < 2 ^ v → -9223372036854775808 ≤ val x ∧ val x ≤ 9223372036854775807) (HV : ValOk w0 f caps val sb cb rb tb v cap N0 R) (hv : v ≤ 6) :
    ∀ (d : Nat), d ≤ v → ∀ (N : List Nd) (nv : Value) (x : Nat) (W : World), x < 2 ^ v → Mem W sb cb rb tb v cap nv N R → Wf v N → FitV N → (∃ M, N = N0 ++ M) → N.length + 2 ^ (d + 1) ≤ 1000000 → Keeps w0 W →
      Vars W b2 b3 b4 cb (.func (.func f) #[] caps) →
    Calls Try.prog 79 #[.int .i64 (v - d : Nat), .int .u8 x, .pointer (some ⟨b2, 0, none⟩), .pointer (some ⟨b3, 0, none⟩), .pointer (some ⟨b4, 0, none⟩)] W fun e w' =>
      e = .returned (.int .i64 ((sub v val d N x).2 : Nat)) ∧ ∃ nv', Mem w' sb cb rb tb v cap nv' (sub v val d N x).1 R ∧ Step cb rb tb nv nv' W w' := by
  intro d
  induction d with
  | zero =>
    intro _ N nv x W hx h hW hF hM hN hK hb
    have hN2 : N.length ≤ 1000000 := by omega
    exact sub_leaf w0 f caps val N0 x b2 b3 b4 W eg hval HV hv hx h hW hM hN2 (fits hW hF hv hN2) hK hb
  | succ d ih =>
    intro hd N nv x W hx h hW hF hM hN hK hb
    obtain ⟨k, hk⟩ : ∃ k, k = v - (d + 1) := ⟨_, rfl⟩
    have hkv : k < v := by omega
    have hk1 : ((v - d : Nat) : Int) = (k : Int) + 1 := by omega
    obtain ⟨p, hp⟩ : ∃ p, p = sub v val d N (stV x k false) := ⟨_, rfl⟩
    obtain ⟨q, hq⟩ : ∃ q, q = sub v val d p.1 (stV x k true) := ⟨_, rfl⟩
    rw [sub_eq hk hp hq, ← hk]
    obtain ⟨res, hres⟩ : ∃ res, res = if p.2 = q.2 then (q.1, p.2) else refN q.1 (k, p.2, q.2, 0) := ⟨_, rfl⟩
    rw [← hres]
    have HRS := Lib.hid hres
    clear hres
    have hxl := stV_lt false hv hkv hx
    have hxh := stV_lt true hv hkv hx
    have B1 := sub_built val hv d (by omega) N (stV x k false) hW hxl
    rw [← hp] at B1
    have F1 := sub_fitV hv hval d (by omega) N (stV x k false) hxl hF
    rw [← hp] at F1
    have hpow : 2 ^ (d + 1 + 1) = 2 ^ (d + 1) + 2 ^ (d + 1) := by rw [Nat.pow_succ]; omega
    have hl1 : p.1.length + 1 ≤ N.length + 2 ^ (d + 1) := by have := B1.len; rwa [show v - (v - d) = d by omega] at this
    have B2 := sub_built val hv d (by omega) p.1 (stV x k true) B1.wf hxh
    rw [← hq] at B2
    have F2 := sub_fitV hv hval d (by omega) p.1 (stV x k true) hxh F1
    rw [← hq] at F2
    have hl2 : q.1.length + 1 ≤ p.1.length + 2 ^ (d + 1) := by have := B2.len; rwa [show v - (v - d) = d by omega] at this
    obtain ⟨M0, hM0⟩ := hM
    obtain ⟨M1, hM1⟩ := B1.ext
    have hpN : p.1.length + 2 ^ (d + 1) ≤ 1000000 := by omega
    have hNd : N.length + 2 ^ (d + 1) ≤ 1000000 := Nat.le_trans (Nat.add_le_add_left (Nat.pow_le_pow_right (by decide) (by omega)) _) hN
    have hpl : p.1.length ≤ 1000000 := Nat.le_trans (Nat.le_add_right _ _) hpN
    have hqN : q.1.length ≤ 1000000 := by omega
    have ih1 := ih (by omega) N nv (stV x k false) W hxl h hW hF ⟨M0, hM0⟩ hNd hK hb
    rw [← hp, hk1] at ih1
    have I1 : Hid (∀ X, Below W.heap.size W X → Calls Try.prog 79 #[.int .i64 ((k : Int) + 1), .int .u8 (stV x k false : Nat), .pointer (some ⟨b2, 0, none⟩), .pointer (some ⟨b3, 0, none⟩), .pointer (some ⟨b4, 0, none⟩)] X fun e w' =>
        e = .returned (.int .i64 (p.2 : Nat)) ∧ ∃ nv', Mem w' sb cb rb tb v cap nv' p.1 R ∧ Step cb rb tb nv nv' X w') := fun X hX => by
      have := ih (by omega) N nv (stV x k false) X hxl (h.below hX) hW hF ⟨M0, hM0⟩ hNd (hK.trans (Keeps.of_below hX)) (hb.keeps (Keeps.of_below hX))
      rw [← hp, hk1] at this
      exact this
    have I2 : Hid (∀ nv1 X, Mem X sb cb rb tb v cap nv1 p.1 R → Keeps W X → Calls Try.prog 79 #[.int .i64 ((k : Int) + 1), .int .u8 (stV x k true : Nat), .pointer (some ⟨b2, 0, none⟩), .pointer (some ⟨b3, 0, none⟩), .pointer (some ⟨b4, 0, none⟩)] X fun e w' =>
        e = .returned (.int .i64 (q.2 : Nat)) ∧ ∃ nv', Mem w' sb cb rb tb v cap nv' q.1 R ∧ Step cb rb tb nv1 nv' X w') := fun nv1 X hm hX => by
      have := ih (by omega) p.1 nv1 (stV x k true) X hxh hm B1.wf F1 ⟨M0 ++ M1, by rw [hM1, hM0, List.append_assoc]⟩ hpN (hK.trans hX) (hb.keeps hX)
      rw [← hq, hk1] at this
      exact this
    have HFx : Hid (∀ b w, Calls Try.prog 55 #[.int .u8 x, .int .i64 k, .bool b] w fun e w' => e = .returned (.int .u8 (stV x k b : Nat)) ∧ w = w') := fun b w => fix_any x k b w (two64 hv hx) (by omega)
    have HR : Hid (∀ nv2 X, Mem X sb cb rb tb v cap nv2 q.1 R → Calls Try.prog 80 #[.pointer (some ⟨cb, 0, none⟩), .agg #[.int .i64 k, .int .i64 (p.2 : Nat), .int .i64 (q.2 : Nat), .int .i64 0]] X fun e w' => e = .returned (.int .i64 ((refN q.1 (k, p.2, q.2, 0)).2 : Nat)) ∧ ∃ nv', Mem w' sb cb rb tb v cap nv' (refN q.1 (k, p.2, q.2, 0)).1 R ∧ Step cb rb tb nv2 nv' X w') := fun nv2 X hm =>
      ref_any (k, p.2, q.2, 0) X hm B2.wf ⟨by show k < _; omega, by show p.2 < _; have := B1.ref.2; omega, by show q.2 < _; have := B2.ref.2; omega, by show (-9223372036854775808 : Int) ≤ 0; decide, by show (0 : Int) ≤ 9223372036854775807; decide⟩ (fits B2.wf F2 hv hqN) hqN
    obtain ⟨c0, c1, c2, c3, c4, c5⟩ := h.cells
    have e2 := cell_of_one hb.h2
    have e4 := cell_of_one hb.h4
    have hlt4 := lt_of_block hb.h4
    have hcb := h.lt.2
    have vb : ((k : Int) == (v : Int)) = false := by rw [cast_beq, beq_eq_false_iff_ne]; omega
    have hsum : IntKind.i64.wrap ((k : Int) + 1) = (k : Int) + 1 := IntWalk.i64_in _ (by omega)
    have HH := Lib.hid h
    have HB := Lib.hid hb
    have hp2 := B1.ref.2
    have hq2 := B2.ref.2
    have HP := Lib.hid hp
    have HQ := Lib.hid hq
    have HM1 := Lib.hid hM1
    clear ih ih1 HV hK h hb hp hq hM0 hM1 B1 B2 F1 F2 hk hk1 hpow hl1 hl2 hF hW hval
    go_enter Try.func79, Try.ntmps79
    go_wp2
    haveI : Nonempty (Cls fun X => Below W.heap.size W X) := ⟨⟨_, Below.refl _ _⟩⟩
    have l4 : ∀ r : Cls (fun X => Below W.heap.size W X), r.w.cell? ⟨b4, 0, none⟩ = some (.func (.func 79) #[] #[.pointer (some ⟨b2, 0, none⟩), .pointer (some ⟨b3, 0, none⟩), .pointer (some ⟨b4, 0, none⟩)]) := fun r => (r.h.cell hlt4).trans e4
    refine wp_region_cls_tail 6 (fun X => Below W.heap.size W X) (by kernel_rfl) (by kernel_rfl) (drew_below W) ?_
    simp only [List.take_succ_cons, List.take_zero, List.drop_succ_cons, List.drop_zero]
    repeat (go_big_quiet_step (first | (go_at_call 55; rename_i r; refine (HFx.out _ r.w).mono ?_; rintro e w4 ⟨rfl, rfl⟩; exact ⟨rfl, ⟨r, rfl⟩⟩)))
    refine wpQuiet_nil ?_
    rintro _ ⟨r, rfl⟩
    have hX := r.h
    generalize r.w = X at hX ⊢
    clear l4
    go_wp2_with (go_at_call 79; ((with_reducible refine (I1.out X hX).mono ?_); rintro e w4 ⟨rfl, hpost⟩))
    obtain ⟨nv1, hm4, hs4⟩ := hpost
    have hk4 := (HH.out.below hX).keeps hs4
    have hkW : Keeps W w4 := (Keeps.of_below hX).trans hk4
    have hb4 := HB.out.keeps hkW
    have e4' := cell_of_one hb4.h4
    have hlt4' := lt_of_block hb4.h4
    haveI : Nonempty (Cls fun X => Below w4.heap.size w4 X) := ⟨⟨_, Below.refl _ _⟩⟩
    have l4 : ∀ r : Cls (fun X => Below w4.heap.size w4 X), r.w.cell? ⟨b4, 0, none⟩ = some (.func (.func 79) #[] #[.pointer (some ⟨b2, 0, none⟩), .pointer (some ⟨b3, 0, none⟩), .pointer (some ⟨b4, 0, none⟩)]) := fun r => (r.h.cell hlt4').trans e4'
    refine wp_region_cls_tail 6 (fun X => Below w4.heap.size w4 X) (by kernel_rfl) (by kernel_rfl) (drew_below w4) ?_
    simp only [List.take_succ_cons, List.take_zero, List.drop_succ_cons, List.drop_zero]
    repeat (go_big_quiet_step (first | (go_at_call 55; rename_i r; refine (HFx.out _ r.w).mono ?_; rintro e w4 ⟨rfl, rfl⟩; exact ⟨rfl, ⟨r, rfl⟩⟩)))
    refine wpQuiet_nil ?_
    rintro _ ⟨r, rfl⟩
    have hY := r.h
    generalize r.w = Y at hY ⊢
    clear l4
    have hmY := hm4.below hY
    have hkY : Keeps W Y := hkW.trans (Keeps.of_below hY)
    by_cases hpq : p.2 = q.2
    · have bq : ((p.2 : Int) == (q.2 : Int)) = true := by rw [beq_iff_eq]; omega
      have HE : Hid (res = (q.1, p.2)) := by show _ = _; rw [HRS.out, if_pos hpq]
      clear hpq HRS
      go_wp2_with (go_at_call 79; ((with_reducible refine (I2.out nv1 Y hmY hkY).mono ?_); rintro e w5 ⟨rfl, hpost5⟩))
      obtain ⟨nv2, hm5, hs5⟩ := hpost5
      go_ret
      rw [HE.out]
      exact ⟨rfl, nv2, hm5, ((Step.of_below hX).trans hs4).trans ((Step.of_below hY).trans hs5)⟩
    · have bq : ((p.2 : Int) == (q.2 : Int)) = false := by rw [beq_eq_false_iff_ne]; omega
      have HE : Hid (res = refN q.1 (k, p.2, q.2, 0)) := by show _ = _; rw [HRS.out, if_neg hpq]
      clear hpq HRS
      go_wp2_with (first
        | (go_at_call 79; ((with_reducible refine (I2.out nv1 Y hmY hkY).mono ?_); rintro e w5 ⟨rfl, hpost5⟩); obtain ⟨nv2, hm5, hs5⟩ := hpost5; have e2' := cell_of_one (HB.out.keeps (hkY.trans (hmY.keeps hs5))).h2)
        | (go_at_call 80; ((with_reducible refine (HR.out nv2 w5 hm5).mono ?_); rintro e w6 ⟨rfl, hpost6⟩)))
      obtain ⟨nv3, hm6, hs6⟩ := hpost6
      go_ret
      rw [HE.out]
      exact ⟨rfl, nv3, hm6, (((Step.of_below hX).trans hs4).trans ((Step.of_below hY).trans hs5)).trans hs6⟩
end
end Go.Proofs.Ytbhfmeohaoojfaa.Dn
