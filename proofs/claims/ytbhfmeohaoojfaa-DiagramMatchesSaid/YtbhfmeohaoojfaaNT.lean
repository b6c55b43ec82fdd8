/- The methods that add a function: FromCube, Restrict, Exists. -/
import Derived.Test.YtbhfmeohaoojfaaNS
import Derived.Outline
import Derived.Shelf.Abstract
namespace Go.Proofs.Ytbhfmeohaoojfaa.Dn
open Go Go.RowKit Go.Proofs.Ytbhfmeohaoojfaa.Ap
open Go.Proofs.Ytbhfmeohaoojfaa.Dg (shl_i64 pow7 cell_one info_int ints_row nd_ext)
set_option linter.unusedVariables false
set_option maxRecDepth 100000
theorem den_in {v : Nat} {N : List Nd} (hW : Wf v N) (hF : FitV N) : ∀ {r : Nat}, inN N r → ∀ x : Nat, InI (den v N r x) := by
  intro r
  induction r using Nat.strongRecOn with
  | _ r ih =>
    intro hr x
    by_cases hv : vr (at_ N r) = v
    · rw [den_leaf hv]
      exact hF _ (at_mem hr)
    · obtain ⟨hc1, hc2, hc3⟩ := hW.child hr hv x
      rw [den_node hW hr hv]
      exact ih _ hc2 hc1 x
section
variable {sb cb rb tb v cap : Nat} {nv : Value} {N : List Nd} {R : List Nat}
/-- The cube's error. -/
abbrev cchk (p q : Nat) (v : Int) : Int := _root_.Go.Proofs.Ytbhfmeohaoojfaa.chk p q v
theorem three_new (w : World) (a b c : Obj) : ∀ X, X = ((w.alloc a).alloc b).alloc c → Below w.heap.size w X ∧ X.heap[w.heap.size]? = some a ∧ X.heap[w.heap.size + 1]? = some b ∧ X.heap[w.heap.size + 1 + 1]? = some c := by
  rintro X rfl
  have k1 : ∀ (X : World) (o : Obj) (k : Nat) (p : Obj), X.heap[k]? = some p → (X.alloc o).heap[k]? = some p := fun X o k p hp => (Below.heap_alloc X o k (lt_of_block hp)).trans hp
  have k2 : ∀ (X : World) (o : Obj) (k : Nat), k = X.heap.size → (X.alloc o).heap[k]? = some o := fun X o k e => by subst e; exact (MapKept.heap_alloc X o).1
  exact ⟨bal (bal (bal (Below.refl _ _) _) _) _, k1 _ _ _ _ (k1 _ _ _ _ (k2 _ _ _ rfl)), k1 _ _ _ _ (k2 _ _ _ (by simp)), k2 _ _ _ (by simp)⟩
set_option maxHeartbeats 4000000 in
theorem FromCube_yes (w : World) (h : Inv w sb cb rb tb v cap nv N R) (p q : Nat) (i o : Int) (hp : p < 256) (hq : q < 256) (hi : InI i) (ho : InI o) (hc : cchk p q v = 0) :
    Calls Try.prog 32 #[.pointer (some ⟨sb, 0, none⟩), .agg #[.int .u8 p, .int .u8 q], .int .i64 i, .int .i64 o] w (AddPost sb cb rb tb v cap nv N R (fun x => if cHas p q x then i else o) w) := by
  have HO := Lib.hid fun X (hX : Below w.heap.size w X) => open0 (h.below hX)
  have eg : ∀ args w, (callFunc 59 args).run Try.prog w = .ok (.enter 59 args) w := enters_of Try.func59 (by kernel_rfl) rfl
  have HA := Lib.hid fun X hX b1 b2 b3 h1 h2 h3 => adds h 59 #[.pointer (some ⟨b1, 0, none⟩), .pointer (some ⟨b2, 0, none⟩), .pointer (some ⟨b3, 0, none⟩)] (fun x => if cHas p q x then i else o) eg (fun x _ => by cases cHas p q x <;> assumption) X hX (cube_ok X b1 b2 b3 p q i o h1 h2 h3 h.v6 hp hq)
  have HC := Lib.hid fun X => Cb.Check_any p q v X hp hq
  rw [show _root_.Go.Proofs.Ytbhfmeohaoojfaa.chk p q v = 0 from hc] at HC
  have HM := Lib.hid fun (X : World) (hX : Below w.heap.size w X) => (h.below hX).mem.cells.2.1
  clear h eg hc
  go_enter Try.func32, Try.ntmps32
  go_wp2_with (first
    | (go_at_call 44; obtain ⟨x0, x1, x2, x3⟩ := three_new w _ _ _ _ rfl; ((with_reducible refine (HO.out _ x0).mono ?_); rintro e w1 ⟨rfl, hb⟩); have hb1 := stepB x0 hb; have y1 := (hb.block _ (lt_of_block x1)).trans x1; have y2 := (hb.block _ (lt_of_block x2)).trans x2; have y3 := (hb.block _ (lt_of_block x3)).trans x3; clear hb x0 x1 x2 x3))
  have hB := Lib.hid hb1
  haveI : Nonempty (Cls fun X => Below w1.heap.size w1 X) := ⟨⟨_, Below.refl _ _⟩⟩
  have l0 : ∀ r : Cls (fun X => Below w1.heap.size w1 X), r.w.cell? ⟨w.heap.size, 0, none⟩ = some (.int .u8 p) := fun r => (r.h.cell (lt_of_block y1)).trans (by simp [World.cell?, y1])
  have l1 : ∀ r : Cls (fun X => Below w1.heap.size w1 X), r.w.cell? ⟨w.heap.size, 1, none⟩ = some (.int .u8 q) := fun r => (r.h.cell (lt_of_block y1)).trans (by simp [World.cell?, y1])
  have l2 : ∀ r : Cls (fun X => Below w1.heap.size w1 X), r.w.cell? ⟨cb, 1, none⟩ = some (.int .i64 v) := fun r => HM.out _ (stepB hB.out r.h)
  refine wp_region_cls (fun X => Below w1.heap.size w1 X) (by kernel_rfl) (by kernel_rfl) (drew_below w1) ?_
  repeat (go_big_quiet_step (first | (go_at_call 58; rename_i r; refine (HC.out r.w).mono ?_; rintro e w4 ⟨rfl, hb4⟩; exact ⟨rfl, ⟨⟨w4, stepB r.h hb4⟩, rfl⟩⟩)))
  refine wpQuiet_nil ?_
  rintro _ ⟨r, rfl⟩
  have hX := r.h
  generalize r.w = X at hX ⊢
  have hbX := stepB hb1 hX
  have z1 := (hX.block _ (lt_of_block y1)).trans y1
  have z2 := (hX.block _ (lt_of_block y2)).trans y2
  have z3 := (hX.block _ (lt_of_block y3)).trans y3
  clear l0 l1 l2 y1 y2 y3
  go_wp2_with (go_at_call 51; ((with_reducible refine (HA.out X hbX w.heap.size (w.heap.size + 1) (w.heap.size + 1 + 1) z1 z2 z3).mono ?_); rintro e w2 ⟨rfl, hpost⟩))
  go_ret2
  exact ⟨rfl, hpost⟩
set_option maxHeartbeats 4000000 in
theorem FromCube_no (w : World) (h : Inv w sb cb rb tb v cap nv N R) (p q : Nat) (i o : Int) (hp : p < 256) (hq : q < 256) (hc : cchk p q v ≠ 0) :
    Calls Try.prog 32 #[.pointer (some ⟨sb, 0, none⟩), .agg #[.int .u8 p, .int .u8 q], .int .i64 i, .int .i64 o] w fun e w' => e = .returned (.tuple #[.int .i64 0, .int .i64 (cchk p q v)]) ∧ Below w.heap.size w w' := by
  have HO := Lib.hid fun X (hX : Below w.heap.size w X) => open0 (h.below hX)
  have HC := Lib.hid fun X => Cb.Check_any p q v X hp hq
  have HM := Lib.hid fun (X : World) (hX : Below w.heap.size w X) => (h.below hX).mem.cells.2.1
  have hcb : (cchk p q v != 0) = true := by rw [bne_iff_ne]; exact hc
  unfold cchk at hcb ⊢
  clear h hc
  generalize _root_.Go.Proofs.Ytbhfmeohaoojfaa.chk p q v = z at *
  go_enter Try.func32, Try.ntmps32
  go_wp2_with (first
    | (go_at_call 44; obtain ⟨x0, x1, x2, x3⟩ := three_new w _ _ _ _ rfl; ((with_reducible refine (HO.out _ x0).mono ?_); rintro e w1 ⟨rfl, hb⟩); have hb1 := stepB x0 hb; have y1 := (hb.block _ (lt_of_block x1)).trans x1; clear hb x0 x1 x2 x3))
  have hB := Lib.hid hb1
  haveI : Nonempty (Cls fun X => Below w1.heap.size w1 X) := ⟨⟨_, Below.refl _ _⟩⟩
  have l0 : ∀ r : Cls (fun X => Below w1.heap.size w1 X), r.w.cell? ⟨w.heap.size, 0, none⟩ = some (.int .u8 p) := fun r => (r.h.cell (lt_of_block y1)).trans (by simp [World.cell?, y1])
  have l1 : ∀ r : Cls (fun X => Below w1.heap.size w1 X), r.w.cell? ⟨w.heap.size, 1, none⟩ = some (.int .u8 q) := fun r => (r.h.cell (lt_of_block y1)).trans (by simp [World.cell?, y1])
  have l2 : ∀ r : Cls (fun X => Below w1.heap.size w1 X), r.w.cell? ⟨cb, 1, none⟩ = some (.int .i64 v) := fun r => HM.out _ (stepB hB.out r.h)
  refine wp_region_cls (fun X => Below w1.heap.size w1 X) (by kernel_rfl) (by kernel_rfl) (drew_below w1) ?_
  repeat (go_big_quiet_step (first | (go_at_call 58; rename_i r; refine (HC.out r.w).mono ?_; rintro e w4 ⟨rfl, hb4⟩; exact ⟨rfl, ⟨⟨w4, stepB r.h hb4⟩, rfl⟩⟩)))
  refine wpQuiet_nil ?_
  rintro _ ⟨r, rfl⟩
  have hX := r.h
  generalize r.w = X at hX ⊢
  have hbX := stepB hb1 hX
  clear l0 l1 l2 y1
  go_wp2
  go_ret2
  exact ⟨rfl, hbX⟩
theorem four_new (w : World) (a b c d : Obj) : ∀ X, X = (((w.alloc a).alloc b).alloc c).alloc d → Below w.heap.size w X ∧ X.heap[w.heap.size]? = some a ∧ X.heap[w.heap.size + 1]? = some b ∧ X.heap[w.heap.size + 1 + 1]? = some c ∧ X.heap[w.heap.size + 1 + 1 + 1]? = some d := by
  rintro X rfl
  obtain ⟨x0, x1, x2, x3⟩ := three_new w a b c _ rfl
  have k1 : ∀ (X : World) (o : Obj) (k : Nat) (p : Obj), X.heap[k]? = some p → (X.alloc o).heap[k]? = some p := fun X o k p hp => (Below.heap_alloc X o k (lt_of_block hp)).trans hp
  have k2 : ∀ (X : World) (o : Obj) (k : Nat), k = X.heap.size → (X.alloc o).heap[k]? = some o := fun X o k e => by subst e; exact (MapKept.heap_alloc X o).1
  exact ⟨bal x0 _, k1 _ _ _ _ x1, k1 _ _ _ _ x2, k1 _ _ _ _ x3, k2 _ _ _ (by simp)⟩
set_option maxHeartbeats 4000000 in
theorem Restrict_yes (w : World) (h : Inv w sb cb rb tb v cap nv N R) (q k : Nat) (b : Bool) (hq : q ∈ R) (hk : k < v) :
    Calls Try.prog 26 #[.pointer (some ⟨sb, 0, none⟩), .int .i64 q, .int .i64 k, .bool b] w (AddPost sb cb rb tb v cap nv N R (fun x => den v N q (stV x k b)) w) := by
  have hin := h.ref q hq
  have hv6 := h.v6
  have hq4 : q ≤ 4096 := by have := hin.2; have := h.len; have := h.cap4; omega
  have HO := Lib.hid fun X hX b hc => open1 h (r := (q : Int)) ⟨by omega, by omega⟩ X hX b hc (inR_iff.2 ⟨q, hq, rfl⟩)
  have eg : ∀ args w, (callFunc 54 args).run Try.prog w = .ok (.enter 54 args) w := enters_of Try.func54 (by kernel_rfl) rfl
  have HA := Lib.hid fun X hX b1 b2 b3 b4 h1 h2 h3 h4 => adds h 54 #[.pointer (some ⟨b1, 0, none⟩), .pointer (some ⟨b2, 0, none⟩), .pointer (some ⟨b3, 0, none⟩), .pointer (some ⟨b4, 0, none⟩)] (fun x => den v N q (stV x k b)) eg (fun x hx => den_in h.wf h.fitv hin _) X hX (restrict_ok X b1 b2 b3 b4 q k b h1 h2 h3 h4 h.wf h.v6 hin hk)
  have HI := Lib.hid fun (X : World) (hX : Below w.heap.size w X) => isVariable_any (k : Int) X (h.below hX).mem h.v6 true (decide_eq_true ⟨by omega, by omega⟩)
  clear h eg hin hq
  go_enter Try.func26, Try.ntmps26
  go_wp2_with (first
    | (go_at_call 44; obtain ⟨x0, x1, x2, x3, x4⟩ := four_new w _ _ _ _ _ rfl; ((with_reducible refine (HO.out _ x0 _ (cell_of_one x4)).mono ?_); rintro e w1 ⟨rfl, hb⟩); have hb1 := bal (stepB x0 hb) (.cells #[.pointer (some ⟨cb, 0, none⟩)] 84); have hbb := hb.alloc hb.size (.cells #[.pointer (some ⟨cb, 0, none⟩)] 84); have y1 := (hbb.block _ (lt_of_block x1)).trans x1; have y2 := (hbb.block _ (lt_of_block x2)).trans x2; have y3 := (hbb.block _ (lt_of_block x3)).trans x3; have y4 := (MapKept.heap_alloc w1 (.cells #[.pointer (some ⟨cb, 0, none⟩)] 84)).1; have c2 := cell_of_one y2; have hl2 : w.heap.size + 1 < w1.heap.size := (by have := hb.size; simp at this; omega); have c2' : w1.cell? ⟨w.heap.size + 1, 0, none⟩ = some (.int .i64 k) := cell_of_one ((hb.block _ (lt_of_block x2)).trans x2); clear hb x0 x1 x2 x3 x4)
    | (go_at_call 53; ((with_reducible refine (HI.out _ hb1).mono ?_); rintro e w2 ⟨rfl, hb2⟩); have hb3 := stepB hb1 hb2; have z1 := (hb2.block _ (lt_of_block y1)).trans y1; have z2 := (hb2.block _ (lt_of_block y2)).trans y2; have z3 := (hb2.block _ (lt_of_block y3)).trans y3; have z4 := (hb2.block _ (lt_of_block y4)).trans y4; have c4 := cell_of_one z4)
    | (go_at_call 51; ((with_reducible refine (HA.out w2 hb3 _ _ _ _ z4 z1 z2 z3).mono ?_); rintro e w3 ⟨rfl, hpost⟩)))
  go_ret2
  exact ⟨rfl, hpost⟩
theorem Restrict_no (w : World) (h : Inv w sb cb rb tb v cap nv N R) (r k : Int) (b : Bool) (hi : IntOk r) (hr : inR R r = false) :
    Calls Try.prog 26 #[.pointer (some ⟨sb, 0, none⟩), .int .i64 r, .int .i64 k, .bool b] w fun e w' => e = .returned (.tuple #[.int .i64 0, .int .i64 8]) ∧ Below w.heap.size w w' := by
  have HO := Lib.hid fun X hX b hc => open1_no h hi X hX b hc hr
  clear h hr
  go_enter Try.func26, Try.ntmps26
  go_wp2_with (first
    | (go_at_call 44; obtain ⟨x0, x1, x2, x3, x4⟩ := four_new w _ _ _ _ _ rfl; ((with_reducible refine (HO.out _ x0 _ (cell_of_one x4)).mono ?_); rintro e w1 ⟨rfl, hb⟩); have hb1 := stepB x0 hb; clear x0 x1 x2 x3 x4))
  go_ret2
  exact ⟨rfl, bal hb1 _⟩
set_option maxHeartbeats 2000000 in
theorem Restrict_var (w : World) (h : Inv w sb cb rb tb v cap nv N R) (q : Nat) (k : Int) (b : Bool) (hq : q ∈ R) (hk : ¬ (0 ≤ k ∧ k < v)) :
    Calls Try.prog 26 #[.pointer (some ⟨sb, 0, none⟩), .int .i64 q, .int .i64 k, .bool b] w fun e w' => e = .returned (.tuple #[.int .i64 0, .int .i64 7]) ∧ Below w.heap.size w w' := by
  have hin := h.ref q hq
  have hq4 : q ≤ 4096 := by have := hin.2; have := h.len; have := h.cap4; omega
  have HO := Lib.hid fun X hX b hc => open1 h (r := (q : Int)) ⟨by omega, by omega⟩ X hX b hc (inR_iff.2 ⟨q, hq, rfl⟩)
  have HI := Lib.hid fun (X : World) (hX : Below w.heap.size w X) => isVariable_any k X (h.below hX).mem h.v6 false (decide_eq_false hk)
  clear h hin hq hk
  go_enter Try.func26, Try.ntmps26
  go_wp2_with (first
    | (go_at_call 44; obtain ⟨x0, x1, x2, x3, x4⟩ := four_new w _ _ _ _ _ rfl; ((with_reducible refine (HO.out _ x0 _ (cell_of_one x4)).mono ?_); rintro e w1 ⟨rfl, hb⟩); have hb1 := bal (stepB x0 hb) (.cells #[.pointer (some ⟨cb, 0, none⟩)] 84); have hl2 : w.heap.size + 1 < w1.heap.size := (by have := hb.size; simp at this; omega); have c2' : w1.cell? ⟨w.heap.size + 1, 0, none⟩ = some (.int .i64 k) := cell_of_one ((hb.block _ (lt_of_block x2)).trans x2); clear hb x0 x1 x2 x3 x4)
    | (go_at_call 53; ((with_reducible refine (HI.out _ hb1).mono ?_); rintro e w2 ⟨rfl, hb2⟩); have hb3 := stepB hb1 hb2))
  go_ret2
  exact ⟨rfl, hb3⟩
theorem max_in {a b : Int} (ha : InI a) (hb : InI b) : InI (max a b) := by unfold InI at *; omega
set_option maxHeartbeats 4000000 in
theorem Exists_yes (w : World) (h : Inv w sb cb rb tb v cap nv N R) (q k : Nat) (hq : q ∈ R) (hk : k < v) :
    Calls Try.prog 27 #[.pointer (some ⟨sb, 0, none⟩), .int .i64 q, .int .i64 k] w (AddPost sb cb rb tb v cap nv N R (fun x => max (den v N q (stV x k false)) (den v N q (stV x k true))) w) := by
  have hin := h.ref q hq
  have hv6 := h.v6
  have hq4 : q ≤ 4096 := by have := hin.2; have := h.len; have := h.cap4; omega
  have HO := Lib.hid fun X hX b hc => open1 h (r := (q : Int)) ⟨by omega, by omega⟩ X hX b hc (inR_iff.2 ⟨q, hq, rfl⟩)
  have eg : ∀ args w, (callFunc 56 args).run Try.prog w = .ok (.enter 56 args) w := enters_of Try.func56 (by kernel_rfl) rfl
  have HA := Lib.hid fun X hX b1 b2 b3 h1 h2 h3 => adds h 56 #[.pointer (some ⟨b1, 0, none⟩), .pointer (some ⟨b2, 0, none⟩), .pointer (some ⟨b3, 0, none⟩)] (fun x => max (den v N q (stV x k false)) (den v N q (stV x k true))) eg (fun x hx => max_in (den_in h.wf h.fitv hin _) (den_in h.wf h.fitv hin _)) X hX (exists_ok X b1 b2 b3 q k h1 h2 h3 h.wf h.v6 hin hk)
  have HI := Lib.hid fun (X : World) (hX : Below w.heap.size w X) => isVariable_any (k : Int) X (h.below hX).mem h.v6 true (decide_eq_true ⟨by omega, by omega⟩)
  clear h eg hin hq
  go_enter Try.func27, Try.ntmps27
  go_wp2_with (first
    | (go_at_call 44; obtain ⟨x0, x1, x2, x4⟩ := three_new w _ _ _ _ rfl; ((with_reducible refine (HO.out _ x0 _ (cell_of_one x4)).mono ?_); rintro e w1 ⟨rfl, hb⟩); have hb1 := bal (stepB x0 hb) (.cells #[.pointer (some ⟨cb, 0, none⟩)] 84); have hbb := hb.alloc hb.size (.cells #[.pointer (some ⟨cb, 0, none⟩)] 84); have y1 := (hbb.block _ (lt_of_block x1)).trans x1; have y2 := (hbb.block _ (lt_of_block x2)).trans x2; have y4 := (MapKept.heap_alloc w1 (.cells #[.pointer (some ⟨cb, 0, none⟩)] 84)).1; have c2 := cell_of_one y2; have hl2 : w.heap.size + 1 < w1.heap.size := (by have := hb.size; simp at this; omega); have c2' : w1.cell? ⟨w.heap.size + 1, 0, none⟩ = some (.int .i64 k) := cell_of_one ((hb.block _ (lt_of_block x2)).trans x2); clear hb x0 x1 x2 x4)
    | (go_at_call 53; ((with_reducible refine (HI.out _ hb1).mono ?_); rintro e w2 ⟨rfl, hb2⟩); have hb3 := stepB hb1 hb2; have z1 := (hb2.block _ (lt_of_block y1)).trans y1; have z2 := (hb2.block _ (lt_of_block y2)).trans y2; have z4 := (hb2.block _ (lt_of_block y4)).trans y4; have c4 := cell_of_one z4)
    | (go_at_call 51; ((with_reducible refine (HA.out w2 hb3 _ _ _ z4 z1 z2).mono ?_); rintro e w3 ⟨rfl, hpost⟩)))
  go_ret2
  exact ⟨rfl, hpost⟩
theorem Exists_no (w : World) (h : Inv w sb cb rb tb v cap nv N R) (r k : Int) (hi : IntOk r) (hr : inR R r = false) :
    Calls Try.prog 27 #[.pointer (some ⟨sb, 0, none⟩), .int .i64 r, .int .i64 k] w fun e w' => e = .returned (.tuple #[.int .i64 0, .int .i64 8]) ∧ Below w.heap.size w w' := by
  have HO := Lib.hid fun X hX b hc => open1_no h hi X hX b hc hr
  clear h hr
  go_enter Try.func27, Try.ntmps27
  go_wp2_with (first
    | (go_at_call 44; obtain ⟨x0, x1, x2, x4⟩ := three_new w _ _ _ _ rfl; ((with_reducible refine (HO.out _ x0 _ (cell_of_one x4)).mono ?_); rintro e w1 ⟨rfl, hb⟩); have hb1 := stepB x0 hb; clear x0 x1 x2 x4))
  go_ret2
  exact ⟨rfl, bal hb1 _⟩
set_option maxHeartbeats 2000000 in
theorem Exists_var (w : World) (h : Inv w sb cb rb tb v cap nv N R) (q : Nat) (k : Int) (hq : q ∈ R) (hk : ¬ (0 ≤ k ∧ k < v)) :
    Calls Try.prog 27 #[.pointer (some ⟨sb, 0, none⟩), .int .i64 q, .int .i64 k] w fun e w' => e = .returned (.tuple #[.int .i64 0, .int .i64 7]) ∧ Below w.heap.size w w' := by
  have hin := h.ref q hq
  have hq4 : q ≤ 4096 := by have := hin.2; have := h.len; have := h.cap4; omega
  have HO := Lib.hid fun X hX b hc => open1 h (r := (q : Int)) ⟨by omega, by omega⟩ X hX b hc (inR_iff.2 ⟨q, hq, rfl⟩)
  have HI := Lib.hid fun (X : World) (hX : Below w.heap.size w X) => isVariable_any k X (h.below hX).mem h.v6 false (decide_eq_false hk)
  clear h hin hq hk
  go_enter Try.func27, Try.ntmps27
  go_wp2_with (first
    | (go_at_call 44; obtain ⟨x0, x1, x2, x4⟩ := three_new w _ _ _ _ rfl; ((with_reducible refine (HO.out _ x0 _ (cell_of_one x4)).mono ?_); rintro e w1 ⟨rfl, hb⟩); have hb1 := bal (stepB x0 hb) (.cells #[.pointer (some ⟨cb, 0, none⟩)] 84); have hl2 : w.heap.size + 1 < w1.heap.size := (by have := hb.size; simp at this; omega); have c2' : w1.cell? ⟨w.heap.size + 1, 0, none⟩ = some (.int .i64 k) := cell_of_one ((hb.block _ (lt_of_block x2)).trans x2); clear hb x0 x1 x2 x4)
    | (go_at_call 53; ((with_reducible refine (HI.out _ hb1).mono ?_); rintro e w2 ⟨rfl, hb2⟩); have hb3 := stepB hb1 hb2))
  go_ret2
  exact ⟨rfl, hb3⟩
end
end Go.Proofs.Ytbhfmeohaoojfaa.Dn
