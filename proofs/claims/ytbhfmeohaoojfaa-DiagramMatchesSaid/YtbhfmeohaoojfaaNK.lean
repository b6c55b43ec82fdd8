/- The functions that the operations hand to add: constants, tables, restrictions, maxima. -/
import Derived.Test.YtbhfmeohaoojfaaNJ
import Derived.Test.YtbhfmeohaoojfaaNH
import Derived.Outline
namespace Go.Proofs.Ytbhfmeohaoojfaa.Dn
open Go Go.RowKit Go.Proofs.Ytbhfmeohaoojfaa.Ap
open Go.Proofs.Ytbhfmeohaoojfaa.Dg (shl_i64 pow7 cell_one info_int ints_row nd_ext)
set_option linter.unusedVariables false
set_option maxRecDepth 100000
section
variable {sb cb rb tb v cap : Nat} {nv : Value} {N : List Nd} {R : List Nat}
theorem const_ok (w0 : World) (b : Nat) (z : Int) (hb : w0.heap[b]? = some (.cells #[.int .i64 z] 3 (0, 0))) :
    ValOk w0 61 #[.pointer (some ⟨b, 0, none⟩)] (fun _ => z) sb cb rb tb v cap N R := by
  intro W nv' N' x hx hm hW hM hN hK
  have c0 := cell_of_one (hK.cells _ _ _ _ hb (by decide) (by decide))
  show Calls Try.prog 61 #[.int .u8 x, .pointer (some ⟨b, 0, none⟩)] W _
  clear hm hK hM
  go_enter Try.func61, Try.ntmps61
  go_wp2
  go_ret
  exact ⟨rfl, Below.refl _ _⟩
/-- A table in memory that is no store's. -/
def TabK (w : World) (A : Option Addr) (l : List Int) : Prop := Ints w A l ∧ ∀ ad, A = some ad → ∃ c t f, w.heap[ad.block]? = some (.cells c t f) ∧ t ≠ 91 ∧ t ≠ 113
theorem TabK.keeps {w w' : World} {A : Option Addr} {l : List Int} (h : TabK w A l) (hk : Keeps w w') : TabK w' A l := by
  refine ⟨fun j hj => ?_, fun ad e => ?_⟩
  · obtain ⟨ad, e, h1, h2⟩ := h.1 j hj
    obtain ⟨c, t, f, h3, h4, h5⟩ := h.2 ad e
    have h6 := hk.cells _ _ _ _ h3 h4 h5
    exact ⟨ad, e, lt_of_block h6, (World.cell?_of_block (by rw [addr_block]; exact h6.trans h3.symm)).trans h2⟩
  · obtain ⟨c, t, f, h3, h4, h5⟩ := h.2 ad e
    exact ⟨c, t, f, hk.cells _ _ _ _ h3 h4 h5, h4, h5⟩
theorem table_ok (w0 : World) (b c : Nat) (A : Option Addr) (t : List Int) (hb : w0.heap[b]? = some (.cells #[.slice A t.length c] 29 (0, 0))) (ht : TabK w0 A t) (hl : t.length = 2 ^ v) (hv : v ≤ 6) :
    ValOk w0 57 #[.pointer (some ⟨b, 0, none⟩)] (fun x => nd t x) sb cb rb tb v cap N R := by
  intro W nv' N' x hx hm hW hM hN hK
  have c0 := cell_of_one (hK.cells _ _ _ _ hb (by decide) (by decide))
  have hxl : x < t.length := by omega
  obtain ⟨ad, rfl, hcell⟩ := (ht.keeps hK).1.at_ hxl
  have hi : (x : Int) < (t.length : Int) := by omega
  have hx64 := two64 hv hx
  show Calls Try.prog 57 #[.int .u8 x, .pointer (some ⟨b, 0, none⟩)] W fun e w' => e = .returned (.int .i64 (nd t x)) ∧ Below W.heap.size W w'
  clear hm hK hM ht hb
  generalize nd t x = y at *
  go_enter Try.func57, Try.ntmps57
  go_wp2
  go_ret
  exact ⟨rfl, Below.refl _ _⟩
/-- eval in whatever the store has become. -/
theorem eval_ok {w0 : World} {N0 : List Nd} (hW0 : Wf v N0) (hv : v ≤ 6) {r x : Nat} (hr : inN N0 r) (hx : x < 2 ^ v) (W : World) (nv' : Value) (N' : List Nd) (hm : Mem W sb cb rb tb v cap nv' N' R) (hW : Wf v N') (hM : ∃ M, N' = N0 ++ M) (hN : N'.length ≤ 1000000) :
    Calls Try.prog 47 #[.pointer (some ⟨cb, 0, none⟩), .int .i64 r, .int .u8 x] W fun e w' => e = .returned (.int .i64 (den v N0 r x)) ∧ Below W.heap.size W w' := by
  obtain ⟨M, rfl⟩ := hM
  have := eval_any r x W hm hW hv (inN_ext hr) hN hx
  rwa [den_ext hW0 M hr] at this
set_option maxHeartbeats 2000000 in
theorem restrict_ok (w0 : World) (b1 b2 b3 b4 r k : Nat) (b : Bool) (h1 : w0.heap[b1]? = some (.cells #[.pointer (some ⟨cb, 0, none⟩)] 84 (0, 0))) (h2 : w0.heap[b2]? = some (.cells #[.int .i64 r] 46 (0, 0)))
    (h3 : w0.heap[b3]? = some (.cells #[.int .i64 k] 3 (0, 0))) (h4 : w0.heap[b4]? = some (.cells #[.bool b] 4 (0, 0))) (hW0 : Wf v N) (hv : v ≤ 6) (hr : inN N r) (hk : k < v) :
    ValOk w0 54 #[.pointer (some ⟨b1, 0, none⟩), .pointer (some ⟨b2, 0, none⟩), .pointer (some ⟨b3, 0, none⟩), .pointer (some ⟨b4, 0, none⟩)] (fun x => den v N r (stV x k b)) sb cb rb tb v cap N R := by
  intro W nv' N' x hx hm hW hM hN hK
  have HK1 := hK.cells _ _ _ _ h1 (by decide) (by decide)
  have HK2 := hK.cells _ _ _ _ h2 (by decide) (by decide)
  have HK3 := hK.cells _ _ _ _ h3 (by decide) (by decide)
  have HK4 := hK.cells _ _ _ _ h4 (by decide) (by decide)
  have HFx : Hid (∀ w, Calls Try.prog 55 #[.int .u8 x, .int .i64 k, .bool b] w fun e w' => e = .returned (.int .u8 (stV x k b : Nat)) ∧ w = w') := fun w => fix_any x k b w (two64 hv hx) (by omega)
  have HEv : Hid (∀ X, Below W.heap.size W X → Calls Try.prog 47 #[.pointer (some ⟨cb, 0, none⟩), .int .i64 r, .int .u8 (stV x k b : Nat)] X fun e w' => e = .returned (.int .i64 (den v N r (stV x k b))) ∧ Below X.heap.size X w') := fun X hX =>
    eval_ok (w0 := w0) hW0 hv hr (stV_lt b hv hk hx) X nv' N' (hm.below hX) hW hM hN
  show Calls Try.prog 54 #[.int .u8 x, .pointer (some ⟨b1, 0, none⟩), .pointer (some ⟨b2, 0, none⟩), .pointer (some ⟨b3, 0, none⟩), .pointer (some ⟨b4, 0, none⟩)] W fun e w' => e = .returned (.int .i64 (den v N r (stV x k b))) ∧ Below W.heap.size W w'
  clear hm hK hM hW hW0 h1 h2 h3 h4
  haveI : Nonempty (Cls fun X => Below W.heap.size W X) := ⟨⟨_, Below.refl _ _⟩⟩
  have l1 : ∀ r : Cls (fun X => Below W.heap.size W X), r.w.cell? ⟨b1, 0, none⟩ = some (.pointer (some ⟨cb, 0, none⟩)) := fun r => (r.h.cell (lt_of_block HK1)).trans (cell_of_one HK1)
  have l2 : ∀ q : Cls (fun X => Below W.heap.size W X), q.w.cell? ⟨b2, 0, none⟩ = some (.int .i64 r) := fun r => (r.h.cell (lt_of_block HK2)).trans (cell_of_one HK2)
  have l3 : ∀ r : Cls (fun X => Below W.heap.size W X), r.w.cell? ⟨b3, 0, none⟩ = some (.int .i64 k) := fun r => (r.h.cell (lt_of_block HK3)).trans (cell_of_one HK3)
  have l4 : ∀ r : Cls (fun X => Below W.heap.size W X), r.w.cell? ⟨b4, 0, none⟩ = some (.bool b) := fun r => (r.h.cell (lt_of_block HK4)).trans (cell_of_one HK4)
  clear HK1 HK2 HK3 HK4
  generalize den v N r (stV x k b) = y at *
  go_enter Try.func54, Try.ntmps54
  go_wp2
  refine wp_region_cls (fun X => Below W.heap.size W X) (by kernel_rfl) (by kernel_rfl) (drew_below W) ?_
  repeat (go_big_quiet_step (first
    | (go_at_call 55; rename_i q; refine (HFx.out q.w).mono ?_; rintro e w4 ⟨rfl, rfl⟩; exact ⟨rfl, ⟨q, rfl⟩⟩)
    | (go_at_call 47; rename_i q; refine (HEv.out q.w q.h).mono ?_; rintro e w4 ⟨rfl, hb⟩; exact ⟨rfl, ⟨⟨w4, stepB q.h hb⟩, rfl⟩⟩)))
  refine wpQuiet_nil ?_
  rintro _ ⟨q, rfl⟩
  have hX := q.h
  generalize q.w = X at hX ⊢
  go_wp2
  go_ret
  exact ⟨rfl, hX⟩
set_option maxHeartbeats 4000000 in
theorem exists_ok (w0 : World) (b1 b2 b3 r k : Nat) (h1 : w0.heap[b1]? = some (.cells #[.pointer (some ⟨cb, 0, none⟩)] 84 (0, 0))) (h2 : w0.heap[b2]? = some (.cells #[.int .i64 r] 46 (0, 0)))
    (h3 : w0.heap[b3]? = some (.cells #[.int .i64 k] 3 (0, 0))) (hW0 : Wf v N) (hv : v ≤ 6) (hr : inN N r) (hk : k < v) :
    ValOk w0 56 #[.pointer (some ⟨b1, 0, none⟩), .pointer (some ⟨b2, 0, none⟩), .pointer (some ⟨b3, 0, none⟩)] (fun x => max (den v N r (stV x k false)) (den v N r (stV x k true))) sb cb rb tb v cap N R := by
  intro W nv' N' x hx hm hW hM hN hK
  have HK1 := hK.cells _ _ _ _ h1 (by decide) (by decide)
  have HK2 := hK.cells _ _ _ _ h2 (by decide) (by decide)
  have HK3 := hK.cells _ _ _ _ h3 (by decide) (by decide)
  have HFx : Hid (∀ b w, Calls Try.prog 55 #[.int .u8 x, .int .i64 k, .bool b] w fun e w' => e = .returned (.int .u8 (stV x k b : Nat)) ∧ w = w') := fun b w => fix_any x k b w (two64 hv hx) (by omega)
  have HEv : Hid (∀ b X, Below W.heap.size W X → Calls Try.prog 47 #[.pointer (some ⟨cb, 0, none⟩), .int .i64 r, .int .u8 (stV x k b : Nat)] X fun e w' => e = .returned (.int .i64 (den v N r (stV x k b))) ∧ Below X.heap.size X w') := fun b X hX =>
    eval_ok (w0 := w0) hW0 hv hr (stV_lt b hv hk hx) X nv' N' (hm.below hX) hW hM hN
  show Calls Try.prog 56 #[.int .u8 x, .pointer (some ⟨b1, 0, none⟩), .pointer (some ⟨b2, 0, none⟩), .pointer (some ⟨b3, 0, none⟩)] W fun e w' => e = .returned (.int .i64 (max (den v N r (stV x k false)) (den v N r (stV x k true)))) ∧ Below W.heap.size W w'
  clear hm hK hM hW hW0 h1 h2 h3
  haveI : Nonempty (Cls fun X => Below W.heap.size W X) := ⟨⟨_, Below.refl _ _⟩⟩
  have l1 : ∀ r : Cls (fun X => Below W.heap.size W X), r.w.cell? ⟨b1, 0, none⟩ = some (.pointer (some ⟨cb, 0, none⟩)) := fun r => (r.h.cell (lt_of_block HK1)).trans (cell_of_one HK1)
  have l2 : ∀ q : Cls (fun X => Below W.heap.size W X), q.w.cell? ⟨b2, 0, none⟩ = some (.int .i64 r) := fun r => (r.h.cell (lt_of_block HK2)).trans (cell_of_one HK2)
  have l3 : ∀ r : Cls (fun X => Below W.heap.size W X), r.w.cell? ⟨b3, 0, none⟩ = some (.int .i64 k) := fun r => (r.h.cell (lt_of_block HK3)).trans (cell_of_one HK3)
  clear HK1 HK2 HK3
  have HE0 : Hid (∀ X, Below W.heap.size W X → Calls Try.prog 47 #[.pointer (some ⟨cb, 0, none⟩), .int .i64 r, .int .u8 (stV x k false : Nat)] X fun e w' => e = .returned (.int .i64 (den v N r (stV x k false))) ∧ Below X.heap.size X w') := fun X hX => HEv.out false X hX
  have HE1 : Hid (∀ X, Below W.heap.size W X → Calls Try.prog 47 #[.pointer (some ⟨cb, 0, none⟩), .int .i64 r, .int .u8 (stV x k true : Nat)] X fun e w' => e = .returned (.int .i64 (den v N r (stV x k true))) ∧ Below X.heap.size X w') := fun X hX => HEv.out true X hX
  clear HEv
  generalize den v N r (stV x k false) = y0 at *
  generalize den v N r (stV x k true) = y1 at *
  go_enter Try.func56, Try.ntmps56
  go_wp2
  refine wp_region_cls (fun X => Below W.heap.size W X) (by kernel_rfl) (by kernel_rfl) (drew_below W) ?_
  repeat (go_big_quiet_step (first
    | (go_at_call 55; rename_i q; refine (HFx.out _ q.w).mono ?_; rintro e w4 ⟨rfl, rfl⟩; exact ⟨rfl, ⟨q, rfl⟩⟩)
    | (go_at_call 47; rename_i q; ((with_reducible refine (HE0.out q.w q.h).mono ?_); rintro e w4 ⟨rfl, hb⟩); exact ⟨rfl, ⟨⟨w4, stepB q.h hb⟩, rfl⟩⟩)
    | (go_at_call 47; rename_i q; ((with_reducible refine (HE1.out q.w q.h).mono ?_); rintro e w4 ⟨rfl, hb⟩); exact ⟨rfl, ⟨⟨w4, stepB q.h hb⟩, rfl⟩⟩)))
  refine wpQuiet_nil ?_
  rintro _ ⟨q, rfl⟩
  have hX := q.h
  generalize q.w = X at hX ⊢
  go_wp2
  all_goals
    go_ret
    exact ⟨ret_of (by omega), hX⟩
set_option maxHeartbeats 4000000 in
theorem apply_ok (w0 : World) (b1 b2 b3 b4 r s op : Nat) (fo : FuncId) (val : Int → Int → Int) (eg : ∀ args w, (callFunc fo args).run Try.prog w = .ok (.enter fo args) w)
    (HO : ∀ a b W, Calls Try.prog fo #[.int .i64 a, .int .i64 b] W fun e w' => e = .returned (.int .i64 (val a b)) ∧ W = w')
    (h1 : w0.heap[b1]? = some (.cells #[.int .u8 op, .func (.func fo) #[] #[]] 97 (0, 0))) (h2 : w0.heap[b2]? = some (.cells #[.pointer (some ⟨cb, 0, none⟩)] 84 (0, 0))) (h3 : w0.heap[b3]? = some (.cells #[.int .i64 r] 46 (0, 0)))
    (h4 : w0.heap[b4]? = some (.cells #[.int .i64 s] 46 (0, 0))) (hW0 : Wf v N) (hv : v ≤ 6) (hr : inN N r) (hs : inN N s) :
    ValOk w0 52 #[.pointer (some ⟨b1, 0, none⟩), .pointer (some ⟨b2, 0, none⟩), .pointer (some ⟨b3, 0, none⟩), .pointer (some ⟨b4, 0, none⟩)] (fun x => val (den v N r x) (den v N s x)) sb cb rb tb v cap N R := by
  intro W nv' N' x hx hm hW hM hN hK
  have HK1 := hK.cells _ _ _ _ h1 (by decide) (by decide)
  have HK2 := hK.cells _ _ _ _ h2 (by decide) (by decide)
  have HK3 := hK.cells _ _ _ _ h3 (by decide) (by decide)
  have HK4 := hK.cells _ _ _ _ h4 (by decide) (by decide)
  have HE0 : Hid (∀ X, Below W.heap.size W X → Calls Try.prog 47 #[.pointer (some ⟨cb, 0, none⟩), .int .i64 r, .int .u8 x] X fun e w' => e = .returned (.int .i64 (den v N r x)) ∧ Below X.heap.size X w') := fun X hX =>
    eval_ok (w0 := w0) hW0 hv hr hx X nv' N' (hm.below hX) hW hM hN
  have HE1 : Hid (∀ X, Below W.heap.size W X → Calls Try.prog 47 #[.pointer (some ⟨cb, 0, none⟩), .int .i64 s, .int .u8 x] X fun e w' => e = .returned (.int .i64 (den v N s x)) ∧ Below X.heap.size X w') := fun X hX =>
    eval_ok (w0 := w0) hW0 hv hs hx X nv' N' (hm.below hX) hW hM hN
  show Calls Try.prog 52 #[.int .u8 x, .pointer (some ⟨b1, 0, none⟩), .pointer (some ⟨b2, 0, none⟩), .pointer (some ⟨b3, 0, none⟩), .pointer (some ⟨b4, 0, none⟩)] W fun e w' => e = .returned (.int .i64 (val (den v N r x) (den v N s x))) ∧ Below W.heap.size W w'
  clear hm hK hM hW hW0 h1 h2 h3 h4
  haveI : Nonempty (Cls fun X => Below W.heap.size W X) := ⟨⟨_, Below.refl _ _⟩⟩
  have l1 : ∀ r : Cls (fun X => Below W.heap.size W X), r.w.cell? ⟨b1, 1, none⟩ = some (.func (.func fo) #[] #[]) := fun r => (r.h.cell (lt_of_block HK1)).trans (by simp [World.cell?, HK1])
  have l2 : ∀ r : Cls (fun X => Below W.heap.size W X), r.w.cell? ⟨b2, 0, none⟩ = some (.pointer (some ⟨cb, 0, none⟩)) := fun r => (r.h.cell (lt_of_block HK2)).trans (cell_of_one HK2)
  have l3 : ∀ q : Cls (fun X => Below W.heap.size W X), q.w.cell? ⟨b3, 0, none⟩ = some (.int .i64 r) := fun r => (r.h.cell (lt_of_block HK3)).trans (cell_of_one HK3)
  have l4 : ∀ q : Cls (fun X => Below W.heap.size W X), q.w.cell? ⟨b4, 0, none⟩ = some (.int .i64 s) := fun r => (r.h.cell (lt_of_block HK4)).trans (cell_of_one HK4)
  clear HK1 HK2 HK3 HK4
  have HOx := Lib.hid HO
  clear HO
  generalize den v N r x = y0 at *
  generalize den v N s x = y1 at *
  go_enter Try.func52, Try.ntmps52
  go_wp2
  refine wp_region_cls (fun X => Below W.heap.size W X) (by kernel_rfl) (by kernel_rfl) (drew_below W) ?_
  repeat (go_big_quiet_step (first
    | (go_at_call 47; rename_i q; ((with_reducible refine (HE0.out q.w q.h).mono ?_); rintro e w4 ⟨rfl, hb⟩); exact ⟨rfl, ⟨⟨w4, stepB q.h hb⟩, rfl⟩⟩)
    | (go_at_call 47; rename_i q; ((with_reducible refine (HE1.out q.w q.h).mono ?_); rintro e w4 ⟨rfl, hb⟩); exact ⟨rfl, ⟨⟨w4, stepB q.h hb⟩, rfl⟩⟩)
    | (rename_i q; ((with_reducible refine (HOx.out y0 y1 q.w).mono ?_); rintro e w4 ⟨rfl, rfl⟩); exact ⟨rfl, ⟨q, rfl⟩⟩)))
  refine wpQuiet_nil ?_
  rintro _ ⟨q, rfl⟩
  have hX := q.h
  generalize q.w = X at hX ⊢
  go_wp2
  go_ret
  exact ⟨rfl, hX⟩
set_option maxHeartbeats 2000000 in
theorem cube_ok (w0 : World) (b1 b2 b3 p q : Nat) (i o : Int) (h1 : w0.heap[b1]? = some (.cells #[.int .u8 p, .int .u8 q] 31 (0, 0))) (h2 : w0.heap[b2]? = some (.cells #[.int .i64 i] 3 (0, 0)))
    (h3 : w0.heap[b3]? = some (.cells #[.int .i64 o] 3 (0, 0))) (hv : v ≤ 6) (hp : p < 256) (hq : q < 256) :
    ValOk w0 59 #[.pointer (some ⟨b1, 0, none⟩), .pointer (some ⟨b2, 0, none⟩), .pointer (some ⟨b3, 0, none⟩)] (fun x => if cHas p q x then i else o) sb cb rb tb v cap N R := by
  intro W nv' N' x hx hm hW hM hN hK
  have HK1 := hK.cells _ _ _ _ h1 (by decide) (by decide)
  have HK2 := hK.cells _ _ _ _ h2 (by decide) (by decide)
  have HK3 := hK.cells _ _ _ _ h3 (by decide) (by decide)
  have e0 : W.cell? ⟨b1, 0, none⟩ = some (.int .u8 p) := by simp [World.cell?, HK1]
  have e1 : W.cell? ⟨b1, 1, none⟩ = some (.int .u8 q) := by simp [World.cell?, HK1]
  have e2 := cell_of_one HK2
  have e3 := cell_of_one HK3
  have hb1 := lt_of_block HK1
  have hb2 := lt_of_block HK2
  have hb3 := lt_of_block HK3
  have hx64 := two64 hv hx
  have HH := Lib.hid (Cb.Has_any p q x W hp hq (by omega))
  show Calls Try.prog 59 #[.int .u8 x, .pointer (some ⟨b1, 0, none⟩), .pointer (some ⟨b2, 0, none⟩), .pointer (some ⟨b3, 0, none⟩)] W fun e w' => e = .returned (.int .i64 (if cHas p q x then i else o)) ∧ Below W.heap.size W w'
  clear hm hK hM hW h1 h2 h3 HK1 HK2 HK3
  cases hc : cHas p q x
  · rw [hc] at HH
    rw [if_neg (by decide)]
    clear hc
    go_enter Try.func59, Try.ntmps59
    go_wp2_with (go_at_call 60; ((with_reducible refine HH.out.mono ?_); rintro e w4 ⟨rfl, hb⟩); have e2' := (hb.cell (p := ⟨b2, 0, none⟩) hb2).trans e2; have e3' := (hb.cell (p := ⟨b3, 0, none⟩) hb3).trans e3)
    go_ret
    exact ⟨rfl, hb⟩
  · rw [hc] at HH
    rw [if_pos rfl]
    clear hc
    go_enter Try.func59, Try.ntmps59
    go_wp2_with (go_at_call 60; ((with_reducible refine HH.out.mono ?_); rintro e w4 ⟨rfl, hb⟩); have e2' := (hb.cell (p := ⟨b2, 0, none⟩) hb2).trans e2; have e3' := (hb.cell (p := ⟨b3, 0, none⟩) hb3).trans e3)
    go_ret
    exact ⟨rfl, hb⟩
end
end Go.Proofs.Ytbhfmeohaoojfaa.Dn
