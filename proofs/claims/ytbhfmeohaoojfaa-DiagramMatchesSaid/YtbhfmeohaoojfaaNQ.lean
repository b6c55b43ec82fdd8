/- The size of a diagram: the nodes that a node leads to. -/
import Derived.Test.YtbhfmeohaoojfaaNM
import Derived.Outline
namespace Go.Proofs.Ytbhfmeohaoojfaa.Dn
open Go Go.RowKit Go.Proofs.Ytbhfmeohaoojfaa.Ap
open Go.Proofs.Ytbhfmeohaoojfaa.Dg (shl_i64 pow7 cell_one info_int ints_row nd_ext)
set_option linter.unusedVariables false
set_option maxRecDepth 100000
/-- The nodes seen behind a visit of r. -/
def vis (v : Nat) (N : List Nd) : Nat → List Nat → Nat → List Nat
  | 0, S, r => if r ∈ S then S else S ++ [r]
  | f + 1, S, r => if r ∈ S then S else if vr (at_ N r) = v then S ++ [r] else vis v N f (vis v N f (S ++ [r]) (lo (at_ N r))) (hi (at_ N r))
/-- References without repeats. -/
def Sv (N : List Nd) (S : List Nat) : Prop := S.Nodup ∧ ∀ x ∈ S, inN N x
theorem Sv.len {N : List Nd} {S : List Nat} (h : Sv N S) : S.length ≤ N.length + 1 := by
  have := nodup_le S (List.range (N.length + 1)) h.1 fun r hr => List.mem_range.2 (by have := (h.2 r hr).2; omega)
  rwa [List.length_range] at this
theorem Sv.snoc {N : List Nd} {S : List Nat} (h : Sv N S) {r : Nat} (hr : inN N r) (hn : r ∉ S) : Sv N (S ++ [r]) := by
  refine ⟨?_, fun x hx => ?_⟩
  · rw [List.nodup_append]
    exact ⟨h.1, by simp, fun a ha b hb e => hn (by rw [List.mem_singleton] at hb; rw [← hb, ← e]; exact ha)⟩
  · rcases List.mem_append.1 hx with h1 | h1
    · exact h.2 x h1
    · rw [List.mem_singleton] at h1; rw [h1]; exact hr
theorem Wf.lohi {v : Nat} {N : List Nd} (h : Wf v N) {r : Nat} (hr : inN N r) (hv : vr (at_ N r) ≠ v) : inN N (lo (at_ N r)) ∧ inN N (hi (at_ N r)) ∧ vr (at_ N r) < vr (at_ N (lo (at_ N r))) ∧ vr (at_ N r) < vr (at_ N (hi (at_ N r))) := by
  rcases h.ok r hr with h1 | ⟨h1, h2, h3, h4, h5, h6, h7, h8, h9⟩
  · exact absurd h1.1 hv
  · have := hr.2
    exact ⟨⟨h3, by omega⟩, ⟨h5, by omega⟩, h8, h9⟩
/-- x is a subfunction of r. -/
def Sub (v : Nat) (N : List Nd) (r x : Nat) : Prop := ∃ k z, k ≤ v ∧ z < 2 ^ v ∧ ∀ y, y < 2 ^ v → den v N x y = den v N r (mix k z y)
theorem Sub.refl (v : Nat) (N : List Nd) (r : Nat) : Sub v N r r := ⟨0, 0, Nat.zero_le _, Nat.two_pow_pos v, fun y _ => by rw [mix_zero]⟩
theorem Sub.trans {v : Nat} {N : List Nd} {r c x : Nat} (h : Sub v N r c) (h' : Sub v N c x) : Sub v N r x := by
  obtain ⟨k0, z0, hk0, hz0, h0⟩ := h
  obtain ⟨k, z, hk, hz, h1⟩ := h'
  rcases Nat.le_total k0 k with hle | hle
  · exact ⟨k, mix k0 z0 z, hk, mix_lt hk0 hz, fun y hy => by rw [h1 y hy, h0 _ (mix_lt hk hy), mix_mix hle hk hy]⟩
  · exact ⟨k0, z0, hk0, hz0, fun y hy => by rw [h1 y hy, h0 _ (mix_lt hk hy), mix_mix' hle hk0 hy]⟩
theorem Sub.child {v : Nat} {N : List Nd} (h : Wf v N) (hv6 : v ≤ 6) {r : Nat} (hr : inN N r) (hv : vr (at_ N r) ≠ v) (b : Bool) : Sub v N r (if b then hi (at_ N r) else lo (at_ N r)) := by
  have hle := h.vr_le hr
  refine ⟨vr (at_ N r) + 1, if b then 2 ^ vr (at_ N r) else 0, by omega, ?_, fun y hy => ?_⟩
  · split
    · exact Nat.pow_lt_pow_right (by decide) (by omega)
    · exact Nat.two_pow_pos v
  · rw [den_lohi h hv6 hr hv hy b]
    refine den_indep h r hr _ _ fun j hj hjv => ?_
    rw [stV_bit b (by omega) (two64 hv6 hy), mix_bit]
    by_cases hj2 : j = vr (at_ N r)
    · rw [if_pos hj2, if_pos (by omega), hj2]
      cases b
      · simp
      · simp
    · rw [if_neg hj2, if_neg (by omega)]
theorem vis_spec {v : Nat} {N : List Nd} (h : Wf v N) (hv6 : v ≤ 6) : ∀ (f : Nat) (S : List Nat) (r : Nat), Sv N S → inN N r → v - vr (at_ N r) ≤ f →
    Sv N (vis v N f S r) ∧ (∀ x ∈ S, x ∈ vis v N f S r) ∧ r ∈ vis v N f S r ∧ ∀ x ∈ vis v N f S r, x ∉ S → Sub v N r x ∧ (vr (at_ N x) ≠ v → lo (at_ N x) ∈ vis v N f S r ∧ hi (at_ N x) ∈ vis v N f S r)
  | 0, S, r, hS, hr, hf => by
    have hle := h.vr_le hr
    have hv : vr (at_ N r) = v := by omega
    unfold vis
    split
    · rename_i hm
      exact ⟨hS, fun x hx => hx, hm, fun x hx hn => absurd hx hn⟩
    · rename_i hm
      refine ⟨hS.snoc hr hm, fun x hx => List.mem_append_left _ hx, by simp, fun x hx hn => ?_⟩
      rcases List.mem_append.1 hx with h1 | h1
      · exact absurd h1 hn
      · rw [List.mem_singleton] at h1
        subst h1
        exact ⟨Sub.refl v N x, fun hne => absurd hv hne⟩
  | f + 1, S, r, hS, hr, hf => by
    have hle := h.vr_le hr
    unfold vis
    split
    · rename_i hm
      exact ⟨hS, fun x hx => hx, hm, fun x hx hn => absurd hx hn⟩
    · rename_i hm
      split
      · rename_i hv
        refine ⟨hS.snoc hr hm, fun x hx => List.mem_append_left _ hx, by simp, fun x hx hn => ?_⟩
        rcases List.mem_append.1 hx with h1 | h1
        · exact absurd h1 hn
        · rw [List.mem_singleton] at h1
          subst h1
          exact ⟨Sub.refl v N x, fun hne => absurd hv hne⟩
      · rename_i hv
        obtain ⟨hlo, hhi, l1, l2⟩ := h.lohi hr hv
        obtain ⟨a1, a2, a3, a4⟩ := vis_spec h hv6 f (S ++ [r]) (lo (at_ N r)) (hS.snoc hr hm) hlo (by omega)
        obtain ⟨b1, b2, b3, b4⟩ := vis_spec h hv6 f (vis v N f (S ++ [r]) (lo (at_ N r))) (hi (at_ N r)) a1 hhi (by omega)
        have s0 := Sub.child h hv6 hr hv false
        have s1 := Sub.child h hv6 hr hv true
        simp only [Bool.false_eq_true, if_false, if_true] at s0 s1
        refine ⟨b1, fun x hx => b2 x (a2 x (List.mem_append_left _ hx)), b2 r (a2 r (by simp)), fun x hx hn => ?_⟩
        by_cases hx1 : x ∈ vis v N f (S ++ [r]) (lo (at_ N r))
        · by_cases hx2 : x ∈ S ++ [r]
          · rcases List.mem_append.1 hx2 with h1 | h1
            · exact absurd h1 hn
            · rw [List.mem_singleton] at h1
              subst h1
              exact ⟨Sub.refl v N x, fun _ => ⟨b2 _ a3, b3⟩⟩
          · obtain ⟨c1, c2⟩ := a4 x hx1 hx2
            exact ⟨s0.trans c1, fun hne => ⟨b2 _ (c2 hne).1, b2 _ (c2 hne).2⟩⟩
        · obtain ⟨c1, c2⟩ := b4 x hx hx1
          exact ⟨s1.trans c1, c2⟩
/-- The variables of size. -/
structure VBox (W : World) (b5 b2 b6 cb mb : Nat) : Prop where
  h5 : W.heap[b5]? = some (.cells #[.map (some mb)] 89 (0, 0))
  h2 : W.heap[b2]? = some (.cells #[.pointer (some ⟨cb, 0, none⟩)] 84 (0, 0))
  h6 : W.heap[b6]? = some (.cells #[.func (.func 69) #[] #[.pointer (some ⟨b5, 0, none⟩), .pointer (some ⟨b2, 0, none⟩), .pointer (some ⟨b6, 0, none⟩)]] 116 (0, 0))
theorem VBox.fr {W W' : World} {b5 b2 b6 cb mb : Nat} {S : List Nat} (h : VBox W b5 b2 b6 cb mb) (hR : RetM W mb S) (hf : Fr (fun b => b = mb) W W') : VBox W' b5 b2 b6 cb mb := by
  obtain ⟨_, _, ho⟩ := hR.obj
  exact ⟨(hf.block _ (lt_of_block h.h5) fun e => by have := h.h5; rw [e, ho] at this; cases this).trans h.h5,
    (hf.block _ (lt_of_block h.h2) fun e => by have := h.h2; rw [e, ho] at this; cases this).trans h.h2,
    (hf.block _ (lt_of_block h.h6) fun e => by have := h.h6; rw [e, ho] at this; cases this).trans h.h6⟩
theorem VBox.cells {W : World} {b5 b2 b6 cb mb : Nat} (h : VBox W b5 b2 b6 cb mb) : W.cell? ⟨b5, 0, none⟩ = some (.map (some mb)) ∧ W.cell? ⟨b2, 0, none⟩ = some (.pointer (some ⟨cb, 0, none⟩)) ∧
    W.cell? ⟨b6, 0, none⟩ = some (.func (.func 69) #[] #[.pointer (some ⟨b5, 0, none⟩), .pointer (some ⟨b2, 0, none⟩), .pointer (some ⟨b6, 0, none⟩)]) := ⟨cell_of_one h.h5, cell_of_one h.h2, cell_of_one h.h6⟩
theorem fr_below {n mb : Nat} {w0 W W' : World} (hb : Below n w0 W) (hf : Fr (fun b => b = mb) W W') (hm : n ≤ mb) (hn : n ≤ W.heap.size) : Below n w0 W' :=
  hb.trans ⟨hf.os, hf.tape, hf.output, hf.size, fun k hk => hf.block k (by omega) (by omega)⟩
section
variable {sb cb rb tb v cap : Nat} {nv : Value} {N : List Nd} {R : List Nat}
theorem vis_hit {v : Nat} {N : List Nd} {f : Nat} {S : List Nat} {r : Nat} (hm : r ∈ S) : vis v N f S r = S := by cases f <;> (unfold vis; rw [if_pos hm])
theorem vis_leaf {v : Nat} {N : List Nd} {f : Nat} {S : List Nat} {r : Nat} (hm : r ∉ S) (hv : vr (at_ N r) = v) : vis v N f S r = S ++ [r] := by
  cases f
  · unfold vis; rw [if_neg hm]
  · unfold vis; rw [if_neg hm, if_pos hv]
theorem vis_node {v : Nat} {N : List Nd} {f : Nat} {S : List Nat} {r : Nat} (hm : r ∉ S) (hv : vr (at_ N r) ≠ v) : vis v N (f + 1) S r = vis v N f (vis v N f (S ++ [r]) (lo (at_ N r))) (hi (at_ N r)) := by
  rw [vis, if_neg hm, if_neg hv]
theorem inR_nat {R : List Nat} {q : Nat} : inR R (q : Int) = decide (q ∈ R) := by
  by_cases h : q ∈ R
  · rw [decide_eq_true h]; exact inR_iff.2 ⟨q, h, rfl⟩
  · rw [decide_eq_false h]
    cases hr : inR R (q : Int) with
    | false => rfl
    | true =>
      obtain ⟨p, hp, e⟩ := inR_iff.1 hr
      exact absurd ((show p = q by omega) ▸ hp) h
/-- What stands behind the node's reading: the store, the map, the variables, the frame, the node. -/
def VAt (w0 W1 X : World) (b5 b2 b6 cb mb bn : Nat) (S : List Nat) (n : Nd) : Prop := Below w0.heap.size w0 X ∧ RetM X mb S ∧ VBox X b5 b2 b6 cb mb ∧ Fr (fun b => b = mb) W1 X ∧ Bk X bn n
theorem visA {w0 W1 w2 w4 : World} {b5 b2 b6 cb mb : Nat} {S : List Nat} {n : Nd} (hR : RetM W1 mb S) (hB : VBox W1 b5 b2 b6 cb mb) (hb1 : Below w0.heap.size w0 W1) (hb2 : Below W1.heap.size W1 w2)
    (hb4 : Below (w2.alloc (.cells #[.int .i64 (vr n), .int .i64 (lo n), .int .i64 (hi n), .int .i64 (vl n)] 113)).heap.size (w2.alloc (.cells #[.int .i64 (vr n), .int .i64 (lo n), .int .i64 (hi n), .int .i64 (vl n)] 113)) w4) : VAt w0 W1 w4 b5 b2 b6 cb mb w2.heap.size S n := by
  have hf : Below W1.heap.size W1 w4 := (hb2.alloc hb2.size _).trans (hb4.mono (by have := hb2.size; simp; omega))
  have hk : Bk (w2.alloc (.cells #[.int .i64 (vr n), .int .i64 (lo n), .int .i64 (hi n), .int .i64 (vl n)] 113)) w2.heap.size n := (MapKept.heap_alloc w2 _).1
  obtain ⟨_, _, hob⟩ := hR.obj
  have hfr : Fr (fun b => b = mb) W1 w4 := .of_below hf
  exact ⟨hb1.trans (hf.mono hb1.size), hR.block (hf.block _ (lt_of_block hob)), hB.fr hR hfr, hfr, hk.below hb4⟩
theorem visB {w0 W1 X Y : World} {b5 b2 b6 cb mb bn : Nat} {S S' : List Nat} {n : Nd} (h : VAt w0 W1 X b5 b2 b6 cb mb bn S n) (hR : RetM Y mb S') (hf : Fr (fun b => b = mb) X Y) (hmb : w0.heap.size ≤ mb) : VAt w0 W1 Y b5 b2 b6 cb mb bn S' n := by
  obtain ⟨h1, h2, h3, h4, h5⟩ := h
  obtain ⟨_, _, ho⟩ := h2.obj
  refine ⟨fr_below h1 hf hmb h1.size, hR, h3.fr h2 hf, h4.trans hf fun _ _ h => h, (hf.block _ h5.lt fun e => ?_).trans h5⟩
  rw [e] at h5
  unfold Bk at h5
  rw [ho] at h5; cases h5
set_option maxHeartbeats 8000000 in
theorem visit_base (w0 : World) (h0 : Inv w0 sb cb rb tb v cap nv N R) (b5 b2 b6 mb : Nat) (hmb : w0.heap.size ≤ mb) (f r : Nat) (S : List Nat) (W : World) (hr : inN N r) (hbase : r ∈ S ∨ vr (at_ N r) = v) (hS : Sv N S) (hb : Below w0.heap.size w0 W) (hR : RetM W mb S) (hB : VBox W b5 b2 b6 cb mb) :
    Calls Try.prog 69 #[.int .i64 r, .pointer (some ⟨b5, 0, none⟩), .pointer (some ⟨b2, 0, none⟩), .pointer (some ⟨b6, 0, none⟩)] W fun e w' =>
      e = .returned (.tuple #[]) ∧ RetM w' mb (vis v N f S r) ∧ Fr (fun b => b = mb) W w' := by
  obtain ⟨m5, m2, m6⟩ := hB.cells
  have hlen := h0.len
  have hcap := h0.cap4
  have hr2 := hr.2
  have hSl := hS.len
  have hlk := hR.look (r := (r : Int)) (wf_i64 (by omega) (by omega))
  rw [inR_nat] at hlk
  by_cases hm : r ∈ S
  · rw [vis_hit hm]
    rw [decide_eq_true hm] at hlk
    clear hm
    have HR := Lib.hid hR
    clear hR hbase
    go_enter Try.func69, Try.ntmps69
    go_wp2_with (fail)
    refine bodyPost_ret (results_none rfl _ _ _) rfl ?_
    exact ⟨rfl, HR.out, .of_below (Below.refl _ _)⟩
  · rw [decide_eq_false hm] at hlk
    obtain ⟨W1, hrun, hR1, ht1⟩ := hR.store (q := r) (by omega) (by omega)
    have e1 : addR S r = S ++ [r] := by unfold addR; rw [if_neg hm]
    rw [e1] at hR1
    have hf1 : Fr (fun b => b = mb) W W1 := Fr.of_grown ht1.grown fun b e => by cases e; rfl
    have hb1 := fr_below hb hf1 hmb hb.size
    have hB1 := hB.fr hR hf1
    have hS1 := hS.snoc hr hm
    have lt2 := lt_of_block hB1.h2
    have lt6 := lt_of_block hB1.h6
    obtain ⟨q, rfl⟩ : ∃ q, r = q + 1 := ⟨r - 1, by have := hr.1; omega⟩
    rw [show ((q + 1 : Nat) : Int) = (q : Int) + 1 by omega] at hlk hrun
    have HND := Lib.hid fun X hX => node_any q X (h0.below hX).mem (by omega) (by omega)
    have hv : vr (at_ N (q + 1)) = v := hbase.resolve_left hm
    rw [vis_leaf hm hv]
    have HLf := Lib.hid fun X hX => isLeaf_any (at_ N (q + 1)) X (h0.below hX).mem true (decide_eq_true hv)
    obtain ⟨m5', m2', m6'⟩ := hB1.cells
    have HR1 := Lib.hid hR1
    have HF1 := Lib.hid hf1
    unfold ndv at HND HLf
    generalize at_ N (q + 1) = nd at *
    clear hm hbase hv e1 ht1 hR hR1 hf1 h0 hS hS1 hB hB1
    go_enter Try.func69, Try.ntmps69
    go_wp2_with (first
      | (go_at_call 67; ((with_reducible refine (HND.out W1 hb1).mono ?_); rintro e w2 ⟨rfl, hb2⟩); have hb3 := (hb1.trans (hb2.mono hb1.size)); have n2 := (hb2.cell (p := ⟨b2, 0, none⟩) lt2).trans m2'; have n6 := (hb2.cell (p := ⟨b6, 0, none⟩) lt6).trans m6'; have lt2' : b2 < w2.heap.size := Nat.lt_of_lt_of_le lt2 hb2.size; have lt6' : b6 < w2.heap.size := Nat.lt_of_lt_of_le lt6 hb2.size)
      | (go_at_call 68; ((with_reducible refine (HLf.out _ (hb3.alloc hb3.size _)).mono ?_); rintro e w4 ⟨rfl, hb4⟩)))
    go_end0
    have hf4 : Below W1.heap.size W1 w4 := (hb2.alloc hb2.size _).trans (hb4.mono (by have := hb2.size; simp; omega))
    obtain ⟨_, _, hob⟩ := HR1.out.obj
    exact ⟨rfl, HR1.out.block (hf4.block _ (lt_of_block hob)), HF1.out.trans (.of_below hf4) fun _ _ h => h⟩
set_option maxHeartbeats 8000000 in
theorem visit_any (w0 : World) (h0 : Inv w0 sb cb rb tb v cap nv N R) (b5 b2 b6 mb : Nat) (hmb : w0.heap.size ≤ mb) :
    ∀ (f : Nat) (r : Nat) (S : List Nat) (W : World), inN N r → v - vr (at_ N r) ≤ f → Sv N S → Below w0.heap.size w0 W → RetM W mb S → VBox W b5 b2 b6 cb mb →
    Calls Try.prog 69 #[.int .i64 r, .pointer (some ⟨b5, 0, none⟩), .pointer (some ⟨b2, 0, none⟩), .pointer (some ⟨b6, 0, none⟩)] W fun e w' =>
      e = .returned (.tuple #[]) ∧ RetM w' mb (vis v N f S r) ∧ Fr (fun b => b = mb) W w' := by
  intro f
  induction f with
  | zero =>
    intro r S W hr hf hS hb hR hB
    exact visit_base w0 h0 b5 b2 b6 mb hmb 0 r S W hr (.inr (by have := h0.wf.vr_le hr; omega)) hS hb hR hB
  | succ f ih =>
    intro r S W hr hf hS hb hR hB
    by_cases hbase : r ∈ S ∨ vr (at_ N r) = v
    · exact visit_base w0 h0 b5 b2 b6 mb hmb (f + 1) r S W hr hbase hS hb hR hB
    · have hm : r ∉ S := fun h => hbase (.inl h)
      have hv0 : vr (at_ N r) ≠ v := fun h => hbase (.inr h)
      clear hbase
      obtain ⟨m5, m2, m6⟩ := hB.cells
      have hlen := h0.len
      have hcap := h0.cap4
      have hr2 := hr.2
      have hSl := hS.len
      have hlk := hR.look (r := (r : Int)) (wf_i64 (by omega) (by omega))
      rw [inR_nat] at hlk
      rw [decide_eq_false hm] at hlk
      obtain ⟨W1, hrun, hR1, ht1⟩ := hR.store (q := r) (by omega) (by omega)
      have e1 : addR S r = S ++ [r] := by unfold addR; rw [if_neg hm]
      rw [e1] at hR1
      have hf1 : Fr (fun b => b = mb) W W1 := Fr.of_grown ht1.grown fun b e => by cases e; rfl
      have hb1 := fr_below hb hf1 hmb hb.size
      have hB1 := hB.fr hR hf1
      have hS1 := hS.snoc hr hm
      have lt2 := lt_of_block hB1.h2
      have lt6 := lt_of_block hB1.h6
      obtain ⟨q, rfl⟩ : ∃ q, r = q + 1 := ⟨r - 1, by have := hr.1; omega⟩
      rw [show ((q + 1 : Nat) : Int) = (q : Int) + 1 by omega] at hlk hrun
      have HND := Lib.hid fun X hX => node_any q X (h0.below hX).mem (by omega) (by omega)
      have hv := hv0
      clear hv0
      rw [vis_node hm hv]
      obtain ⟨hlo, hhi, v1, v2⟩ := h0.wf.lohi hr hv
      have hle1 := h0.wf.vr_le hlo
      have hle2 := h0.wf.vr_le hhi
      have HLf := Lib.hid fun X hX => isLeaf_any (at_ N (q + 1)) X (h0.below hX).mem false (decide_eq_false hv)
      have hSp := vis_spec h0.wf h0.v6 f (S ++ [q + 1]) (lo (at_ N (q + 1))) hS1 hlo (by omega)
      have I1 := Lib.hid fun X hX hRX hBX => ih (lo (at_ N (q + 1))) (S ++ [q + 1]) X hlo (by omega) hS1 hX hRX hBX
      have I2 := Lib.hid fun X hX hRX hBX => ih (hi (at_ N (q + 1))) (vis v N f (S ++ [q + 1]) (lo (at_ N (q + 1)))) X hhi (by omega) hSp.1 hX hRX hBX
      obtain ⟨m5', m2', m6'⟩ := hB1.cells
      have HR1 := Lib.hid hR1
      have HB1 := Lib.hid hB1
      have HF1 := Lib.hid hf1
      unfold ndv at HND HLf
      generalize vis v N f (S ++ [q + 1]) (lo (at_ N (q + 1))) = S2 at *
      generalize at_ N (q + 1) = nd at *
      generalize vis v N f S2 (hi nd) = S3 at *
      clear hm ih hv e1 ht1 hR hR1 hf1 h0 hS hS1 hB hB1 hSp hle1 hle2 v1 v2 hf
      go_enter Try.func69, Try.ntmps69
      go_wp2_with (first
        | (go_at_call 67; ((with_reducible refine (HND.out W1 hb1).mono ?_); rintro e w2 ⟨rfl, hb2⟩); have hb3 := (hb1.trans (hb2.mono hb1.size)); have n2 := (hb2.cell (p := ⟨b2, 0, none⟩) lt2).trans m2'; have lt2' : b2 < w2.heap.size := Nat.lt_of_lt_of_le lt2 hb2.size)
        | (go_at_call 68; ((with_reducible refine (HLf.out _ (hb3.alloc hb3.size _)).mono ?_); rintro e w4 ⟨rfl, hb4⟩); have hX := Lib.hid (visA HR1.out HB1.out hb1 hb2 hb4); obtain ⟨x1, x2, x3, x4, x5⟩ := hX.out; obtain ⟨n5, n2', n6⟩ := x3.cells; obtain ⟨k0, k1, k2, k3, _⟩ := x5.cells)
        | (go_at_call 69; ((with_reducible refine (I1.out w4 x1 x2 x3).mono ?_); rintro e w5 ⟨rfl, hR5, hf5⟩); obtain ⟨y1, y2, y3, y4, y5⟩ := visB hX.out hR5 hf5 hmb; obtain ⟨p5, p2, p6⟩ := y3.cells; obtain ⟨j0, j1, j2, j3, _⟩ := y5.cells)
        | (go_at_call 69; ((with_reducible refine (I2.out w5 y1 y2 y3).mono ?_); rintro e w6 ⟨rfl, hR6, hf6⟩)))
      go_end0
      exact ⟨rfl, hR6, (HF1.out.trans y4 fun _ _ h => h).trans hf6 fun _ _ h => h⟩
end
end Go.Proofs.Ytbhfmeohaoojfaa.Dn
