/- Decision diagrams as lists of nodes: plain mathematics, nothing of the program. -/
import Derived.Test.YtbhfmeohaoojfaaW
namespace Go.Proofs.Ytbhfmeohaoojfaa.Dn
set_option linter.unusedVariables false
/-- The letter x with variable v fixed. -/
def stV (x v : Nat) (b : Bool) : Nat := if b then x ||| 2 ^ v else if x.testBit v then x - 2 ^ v else x
/-- The letter that is x below k, and y from k on. -/
def mix (k x y : Nat) : Nat := y / 2 ^ k * 2 ^ k + x % 2 ^ k
theorem mix_bit (k x y j : Nat) : (mix k x y).testBit j = if j < k then x.testBit j else y.testBit j := by
  unfold mix
  rw [Nat.mul_comm, Nat.testBit_two_pow_mul_add _ (Nat.mod_lt _ (Nat.two_pow_pos k))]
  split
  · rename_i h; rw [Nat.testBit_mod_two_pow, decide_eq_true h, Bool.true_and]
  · rename_i h; rw [Nat.testBit_div_two_pow, Nat.sub_add_cancel (by omega)]
theorem mix_lt {v k x y : Nat} (hk : k ≤ v) (hy : y < 2 ^ v) : mix k x y < 2 ^ v := by
  unfold mix
  have hp : 0 < 2 ^ k := Nat.two_pow_pos k
  have h1 := Nat.mod_lt x hp
  obtain ⟨d, rfl⟩ : ∃ d, v = k + d := ⟨v - k, by omega⟩
  rw [Nat.pow_add] at hy ⊢
  have h2 : y / 2 ^ k < 2 ^ d := Nat.div_lt_of_lt_mul hy
  have h3 : (y / 2 ^ k + 1) * 2 ^ k ≤ 2 ^ d * 2 ^ k := Nat.mul_le_mul_right _ h2
  rw [Nat.add_mul, Nat.one_mul, Nat.mul_comm (2 ^ d)] at h3
  omega
theorem stV_all : ((List.range 6).all fun v => (List.range 64).all fun x => decide (stV x v true < 64) && decide (stV x v false < 64) && (List.range 6).all fun j => ((stV x v true).testBit j == if j = v then true else x.testBit j) && ((stV x v false).testBit j == if j = v then false else x.testBit j)) = true := by decide +kernel
theorem two64 {v x : Nat} (hv : v ≤ 6) (hx : x < 2 ^ v) : x < 64 := Nat.lt_of_lt_of_le hx (Nat.pow_le_pow_right (n := 2) (by decide) hv)
theorem bit_high {v x j : Nat} (hx : x < 2 ^ v) (hj : v ≤ j) : x.testBit j = false := Nat.testBit_lt_two_pow (Nat.lt_of_lt_of_le hx (Nat.pow_le_pow_right (n := 2) (by decide) hj))
theorem stV_bit {x v : Nat} (b : Bool) (hv : v < 6) (hx : x < 64) (j : Nat) : (stV x v b).testBit j = if j = v then b else x.testBit j := by
  have h := List.all_eq_true.1 (List.all_eq_true.1 stV_all v (List.mem_range.2 hv)) x (List.mem_range.2 hx)
  rw [Bool.and_eq_true, Bool.and_eq_true, decide_eq_true_eq, decide_eq_true_eq] at h
  obtain ⟨⟨h1, h2⟩, h3⟩ := h
  by_cases hj : j < 6
  · have h4 := List.all_eq_true.1 h3 j (List.mem_range.2 hj)
    rw [Bool.and_eq_true, beq_iff_eq, beq_iff_eq] at h4
    cases b
    · exact h4.2
    · exact h4.1
  · rw [if_neg (by omega), bit_high (v := 6) (j := j) hx (by omega)]
    cases b
    · exact bit_high (v := 6) (j := j) h2 (by omega)
    · exact bit_high (v := 6) (j := j) h1 (by omega)
theorem eq_bits {v x y : Nat} (hx : x < 2 ^ v) (hy : y < 2 ^ v) (h : ∀ j, j < v → x.testBit j = y.testBit j) : x = y := by
  apply Nat.eq_of_testBit_eq
  intro j
  by_cases hj : j < v
  · exact h j hj
  · rw [bit_high hx (by omega), bit_high hy (by omega)]
theorem stV_lt {v x k : Nat} (b : Bool) (hv : v ≤ 6) (hk : k < v) (hx : x < 2 ^ v) : stV x k b < 2 ^ v := by
  unfold stV
  split
  · exact Nat.or_lt_two_pow hx (Nat.pow_lt_pow_right (by decide) hk)
  · split
    · exact Nat.lt_of_le_of_lt (Nat.sub_le _ _) hx
    · exact hx
theorem mix_zero (x y : Nat) : mix 0 x y = y := by unfold mix; simp [Nat.mod_one]
theorem mix_full {v x y : Nat} (hx : x < 2 ^ v) (hy : y < 2 ^ v) : mix v x y = x :=
  eq_bits (mix_lt (Nat.le_refl _) hy) hx fun j hj => by rw [mix_bit, if_pos hj]
theorem mix_succ {v k x y : Nat} (hv : v ≤ 6) (hk : k < v) (hx : x < 2 ^ v) (hy : y < 2 ^ v) : mix k x y = mix (k + 1) (stV x k (y.testBit k)) y :=
  eq_bits (mix_lt (by omega) hy) (mix_lt (by omega) hy) fun j hj => by
    rw [mix_bit, mix_bit]
    by_cases h1 : j < k
    · rw [if_pos h1, if_pos (by omega), stV_bit _ (by omega) (two64 hv hx), if_neg (by omega)]
    · rw [if_neg h1]
      by_cases h2 : j = k
      · subst h2; rw [if_pos (by omega), stV_bit _ (by omega) (two64 hv hx), if_pos rfl]
      · rw [if_neg (by omega)]
theorem mix_mix {v a b x z y : Nat} (ha : a ≤ b) (hb : b ≤ v) (hy : y < 2 ^ v) : mix a x (mix b z y) = mix b (mix a x z) y :=
  eq_bits (mix_lt (by omega) (mix_lt hb hy)) (mix_lt hb hy) fun j hj => by
    rw [mix_bit, mix_bit, mix_bit, mix_bit]
    by_cases h1 : j < a
    · rw [if_pos h1, if_pos (by omega), if_pos h1]
    · rw [if_neg h1]
      by_cases h2 : j < b
      · rw [if_pos h2, if_pos h2, if_neg h1]
      · rw [if_neg h2, if_neg h2]
theorem mix_mix' {v a b x z y : Nat} (ha : b ≤ a) (hb : a ≤ v) (hy : y < 2 ^ v) : mix a x (mix b z y) = mix a x y :=
  eq_bits (mix_lt hb (mix_lt (by omega) hy)) (mix_lt hb hy) fun j hj => by
    rw [mix_bit, mix_bit, mix_bit]
    by_cases h1 : j < a
    · rw [if_pos h1, if_pos h1]
    · rw [if_neg h1, if_neg (by omega), if_neg h1]

/-- A node: its variable, where it leads, its value. -/
abbrev Nd := Nat × Nat × Nat × Int
def vr (n : Nd) : Nat := n.1
def lo (n : Nd) : Nat := n.2.1
def hi (n : Nd) : Nat := n.2.2.1
def vl (n : Nd) : Int := n.2.2.2
theorem nd_eq {m n : Nd} (h1 : vr m = vr n) (h2 : lo m = lo n) (h3 : hi m = hi n) (h4 : vl m = vl n) : m = n := by
  obtain ⟨a, b, c, d⟩ := m
  obtain ⟨a', b', c', d'⟩ := n
  simp only [vr, lo, hi, vl] at h1 h2 h3 h4
  subst h1 h2 h3 h4
  rfl
/-- Node number r, counted from 1. -/
def at_ (N : List Nd) (r : Nat) : Nd := N.getD (r - 1) (0, 0, 0, 0)
def inN (N : List Nd) (r : Nat) : Prop := 1 ≤ r ∧ r ≤ N.length
theorem at_get {N : List Nd} {r : Nat} (h : inN N r) : N[r - 1]? = some (at_ N r) := by
  unfold at_ inN at *
  rw [List.getD_eq_getElem?_getD, List.getElem?_eq_getElem (by omega)]
  rfl
theorem at_mem {N : List Nd} {r : Nat} (h : inN N r) : at_ N r ∈ N := List.mem_of_getElem? (at_get h)
theorem mem_at {N : List Nd} {n : Nd} (h : n ∈ N) : ∃ r, inN N r ∧ at_ N r = n := by
  obtain ⟨i, hi, rfl⟩ := List.mem_iff_getElem.1 h
  refine ⟨i + 1, ⟨by omega, by omega⟩, ?_⟩
  unfold at_
  rw [Nat.add_sub_cancel, List.getD_eq_getElem?_getD, List.getElem?_eq_getElem hi]
  rfl
theorem inN_ext {N M : List Nd} {r : Nat} (h : inN N r) : inN (N ++ M) r := ⟨h.1, by rw [List.length_append]; have := h.2; omega⟩
theorem at_ext {N : List Nd} (M : List Nd) {r : Nat} (h : inN N r) : at_ (N ++ M) r = at_ N r := by
  unfold at_
  rw [List.getD_eq_getElem?_getD, List.getD_eq_getElem?_getD, List.getElem?_append_left (by have := h.1; have := h.2; omega)]
theorem at_last (N : List Nd) (n : Nd) : at_ (N ++ [n]) (N.length + 1) = n := by
  unfold at_
  simp
/-- What a node may be. -/
def Ok (v : Nat) (N : List Nd) (n : Nd) (r : Nat) : Prop :=
  (vr n = v ∧ lo n = 0 ∧ hi n = 0) ∨ (vr n < v ∧ vl n = 0 ∧ 1 ≤ lo n ∧ lo n < r ∧ 1 ≤ hi n ∧ hi n < r ∧ lo n ≠ hi n ∧ vr n < vr (at_ N (lo n)) ∧ vr n < vr (at_ N (hi n)))
structure Wf (v : Nat) (N : List Nd) : Prop where
  nodup : N.Nodup
  ok : ∀ r, inN N r → Ok v N (at_ N r) r
theorem Wf.nil (v : Nat) : Wf v [] := ⟨List.nodup_nil, fun r h => by have := h.1; have := h.2; simp at this; omega⟩
theorem nodup_at {N : List Nd} (hN : N.Nodup) {r s : Nat} (hr : inN N r) (hs : inN N s) (h : at_ N r = at_ N s) : r = s := by
  have h1 := at_get hr
  have h2 := at_get hs
  rw [← h] at h2
  have h3 : r - 1 < N.length := by have := hr.1; have := hr.2; omega
  have := (List.getElem?_inj h3 hN).1 (h1.trans h2.symm)
  have := hr.1; have := hs.1
  omega
theorem Wf.vr_le {v : Nat} {N : List Nd} (h : Wf v N) {r : Nat} (hr : inN N r) : vr (at_ N r) ≤ v := by
  rcases h.ok r hr with h1 | h1
  · omega
  · omega
theorem Wf.add {v : Nat} {N : List Nd} (h : Wf v N) {n : Nd} (hn : n ∉ N) (ho : Ok v N n (N.length + 1)) : Wf v (N ++ [n]) := by
  refine ⟨?_, fun r hr => ?_⟩
  · rw [List.nodup_append]
    exact ⟨h.nodup, by simp, fun a ha b hb e => hn (by rw [List.mem_singleton] at hb; rw [← hb, ← e]; exact ha)⟩
  · have key : ∀ m : Nd, ∀ q, q ≤ N.length + 1 → Ok v N m q → Ok v (N ++ [n]) m q := by
      intro m q hq hm
      rcases hm with h1 | ⟨h1, h2, h3, h4, h5, h6, h7, h8, h9⟩
      · exact .inl h1
      · refine .inr ⟨h1, h2, h3, h4, h5, h6, h7, ?_, ?_⟩
        · rw [at_ext [n] ⟨h3, by omega⟩]; exact h8
        · rw [at_ext [n] ⟨h5, by omega⟩]; exact h9
    by_cases hl : r ≤ N.length
    · rw [at_ext [n] ⟨hr.1, hl⟩]
      exact key _ _ (by omega) (h.ok r ⟨hr.1, hl⟩)
    · have h2 := hr.2
      rw [List.length_append, List.length_singleton] at h2
      obtain rfl : r = N.length + 1 := by omega
      rw [at_last]
      exact key _ _ (Nat.le_refl _) ho
/-- The value of node r at the letter x; f bounds the steps. -/
def ev (v : Nat) (N : List Nd) : Nat → Nat → Nat → Int
  | 0, r, _ => vl (at_ N r)
  | f + 1, r, x => if vr (at_ N r) = v then vl (at_ N r) else ev v N f (if x.testBit (vr (at_ N r)) then hi (at_ N r) else lo (at_ N r)) x
/-- The value of node r at the letter x. -/
def den (v : Nat) (N : List Nd) (r x : Nat) : Int := ev v N v r x
/-- Where node r leads at x. -/
def child (N : List Nd) (r x : Nat) : Nat := if x.testBit (vr (at_ N r)) then hi (at_ N r) else lo (at_ N r)
theorem Wf.child {v : Nat} {N : List Nd} (h : Wf v N) {r : Nat} (hr : inN N r) (hv : vr (at_ N r) ≠ v) (x : Nat) : inN N (child N r x) ∧ child N r x < r ∧ vr (at_ N r) < vr (at_ N (child N r x)) := by
  rcases h.ok r hr with h1 | ⟨h1, h2, h3, h4, h5, h6, h7, h8, h9⟩
  · exact absurd h1.1 hv
  · have := hr.2
    unfold Dn.child
    split
    · exact ⟨⟨h5, by omega⟩, h6, h9⟩
    · exact ⟨⟨h3, by omega⟩, h4, h8⟩
theorem ev_fuel {v : Nat} {N : List Nd} (h : Wf v N) (x : Nat) : ∀ (f r : Nat), inN N r → v - vr (at_ N r) ≤ f → ev v N f r x = ev v N (v - vr (at_ N r)) r x := by
  intro f
  induction f using Nat.strongRecOn with
  | _ f ih =>
    intro r hr hf
    by_cases hv : vr (at_ N r) = v
    · have e0 : v - vr (at_ N r) = 0 := by omega
      rw [e0]
      cases f with
      | zero => rfl
      | succ f => show (if vr (at_ N r) = v then vl (at_ N r) else _) = _; rw [if_pos hv]; rfl
    · have hle := h.vr_le hr
      obtain ⟨hc1, hc2, hc3⟩ := h.child hr hv x
      have hcl := h.vr_le hc1
      obtain ⟨d, hd⟩ : ∃ d, v - vr (at_ N r) = d + 1 := ⟨v - vr (at_ N r) - 1, by omega⟩
      rw [hd]
      cases f with
      | zero => omega
      | succ f =>
        show (if vr (at_ N r) = v then vl (at_ N r) else ev v N f (Dn.child N r x) x) = (if vr (at_ N r) = v then vl (at_ N r) else ev v N d (Dn.child N r x) x)
        rw [if_neg hv, if_neg hv, ih f (by omega) _ hc1 (by omega)]
        by_cases hfd : f = d
        · subst hfd; rw [ih f (by omega) _ hc1 (by omega)]
        · rw [ih d (by omega) _ hc1 (by omega)]
theorem den_leaf {v : Nat} {N : List Nd} {r : Nat} (hv : vr (at_ N r) = v) (x : Nat) : den v N r x = vl (at_ N r) := by
  unfold den
  cases v with
  | zero => rfl
  | succ v => show (if vr (at_ N r) = v + 1 then vl (at_ N r) else _) = _; rw [if_pos hv]
theorem den_node {v : Nat} {N : List Nd} (h : Wf v N) {r : Nat} (hr : inN N r) (hv : vr (at_ N r) ≠ v) (x : Nat) : den v N r x = den v N (child N r x) x := by
  obtain ⟨hc1, hc2, hc3⟩ := h.child hr hv x
  have hle := h.vr_le hr
  unfold den
  rw [ev_fuel h x v r hr (by omega), ev_fuel h x v _ hc1 (by omega)]
  obtain ⟨d, hd⟩ : ∃ d, v - vr (at_ N r) = d + 1 := ⟨v - vr (at_ N r) - 1, by omega⟩
  rw [hd]
  show (if vr (at_ N r) = v then vl (at_ N r) else ev v N d (Dn.child N r x) x) = _
  rw [if_neg hv]
  exact ev_fuel h x d _ hc1 (by omega)
theorem ev_ext {v : Nat} {N : List Nd} (h : Wf v N) (M : List Nd) (x : Nat) : ∀ (f r : Nat), inN N r → ev v (N ++ M) f r x = ev v N f r x
  | 0, r, hr => by show vl _ = vl _; rw [at_ext M hr]
  | f + 1, r, hr => by
    show (if vr (at_ (N ++ M) r) = v then vl (at_ (N ++ M) r) else ev v (N ++ M) f (Dn.child (N ++ M) r x) x) = (if vr (at_ N r) = v then vl (at_ N r) else ev v N f (Dn.child N r x) x)
    have e : Dn.child (N ++ M) r x = Dn.child N r x := by unfold Dn.child; rw [at_ext M hr]
    rw [at_ext M hr, e]
    split
    · rfl
    · rename_i hv; exact ev_ext h M x f _ (h.child hr hv x).1
theorem den_ext {v : Nat} {N : List Nd} (h : Wf v N) (M : List Nd) {r : Nat} (hr : inN N r) (x : Nat) : den v (N ++ M) r x = den v N r x := ev_ext h M x v r hr
theorem den_indep {v : Nat} {N : List Nd} (h : Wf v N) : ∀ (r : Nat), inN N r → ∀ x y : Nat, (∀ j, vr (at_ N r) ≤ j → j < v → x.testBit j = y.testBit j) → den v N r x = den v N r y := by
  intro r
  induction r using Nat.strongRecOn with
  | _ r ih =>
    intro hr x y hxy
    by_cases hv : vr (at_ N r) = v
    · rw [den_leaf hv, den_leaf hv]
    · have hle := h.vr_le hr
      rw [den_node h hr hv, den_node h hr hv]
      have e : child N r x = child N r y := by unfold child; rw [hxy _ (Nat.le_refl _) (by omega)]
      rw [e]
      obtain ⟨hc1, hc2, hc3⟩ := h.child hr hv y
      exact ih _ hc2 hc1 x y fun j hj hjv => hxy j (by omega) hjv
/-- Below its variable a node's function does not depend on the letter: it may be fixed. -/
theorem den_st {v : Nat} {N : List Nd} (h : Wf v N) (hv : v ≤ 6) {r k x : Nat} (hr : inN N r) (hk : k < vr (at_ N r)) (hx : x < 2 ^ v) (b : Bool) : den v N r (stV x k b) = den v N r x := by
  have hle := h.vr_le hr
  exact den_indep h r hr _ _ fun j hj hjv => by rw [stV_bit b (by omega) (two64 hv hx), if_neg (by omega)]
theorem den_lohi {v : Nat} {N : List Nd} (h : Wf v N) (hv6 : v ≤ 6) {r : Nat} (hr : inN N r) (hv : vr (at_ N r) ≠ v) {x : Nat} (hx : x < 2 ^ v) (b : Bool) : den v N (if b then hi (at_ N r) else lo (at_ N r)) x = den v N r (stV x (vr (at_ N r)) b) := by
  have hle := h.vr_le hr
  have hs : stV x (vr (at_ N r)) b < 2 ^ v := stV_lt b hv6 (by omega) hx
  rw [den_node h hr hv]
  have e : child N r (stV x (vr (at_ N r)) b) = if b then hi (at_ N r) else lo (at_ N r) := by
    unfold child
    rw [stV_bit b (by omega) (two64 hv6 hx), if_pos rfl]
  obtain ⟨hc1, hc2, hc3⟩ := h.child hr hv (stV x (vr (at_ N r)) b)
  rw [e] at hc1 hc3 ⊢
  exact (den_st h hv6 hc1 hc3 hx b).symm
theorem den_inj {v : Nat} {N : List Nd} (h : Wf v N) (hv6 : v ≤ 6) : ∀ (m r s : Nat), r ≤ m → s ≤ m → inN N r → inN N s → (∀ x, x < 2 ^ v → den v N r x = den v N s x) → r = s := by
  intro m
  induction m using Nat.strongRecOn with
  | _ m ih =>
    intro r s hrm hsm hr hs hd
    -- a node that tests a variable below the other's is refuted
    have one : ∀ a b, a ≤ m → inN N a → inN N b → (∀ x, x < 2 ^ v → den v N a x = den v N b x) → vr (at_ N a) < vr (at_ N b) → False := by
      intro a b hab ha hb hdd hlt
      have hbv := h.vr_le hb
      have hav : vr (at_ N a) ≠ v := by omega
      rcases h.ok a ha with h1 | ⟨h1, h2, h3, h4, h5, h6, h7, h8, h9⟩
      · exact hav h1.1
      · have ha2 := ha.2
        refine h7 (ih (m - 1) (by omega) _ _ (by omega) (by omega) ⟨h3, by omega⟩ ⟨h5, by omega⟩ fun x hx => ?_)
        have e1 := den_lohi h hv6 ha hav hx false
        have e2 := den_lohi h hv6 ha hav hx true
        simp only [Bool.false_eq_true, if_false, if_true] at e1 e2
        rw [e1, e2, hdd _ (stV_lt _ hv6 (by omega) hx), hdd _ (stV_lt _ hv6 (by omega) hx), den_st h hv6 hb hlt hx, den_st h hv6 hb hlt hx]
    rcases Nat.lt_trichotomy (vr (at_ N r)) (vr (at_ N s)) with hlt | heq | hlt
    · exact (one r s hrm hr hs hd hlt).elim
    · by_cases hv : vr (at_ N r) = v
      · have hvs : vr (at_ N s) = v := by omega
        refine nodup_at h.nodup hr hs ?_
        have e := hd 0 (Nat.two_pow_pos v)
        rw [den_leaf hv, den_leaf hvs] at e
        rcases h.ok r hr with h1 | h1
        · rcases h.ok s hs with h2 | h2
          · exact nd_eq heq (by omega) (by omega) e
          · omega
        · omega
      · have hvs : vr (at_ N s) ≠ v := by omega
        have hrv := h.vr_le hr
        rcases h.ok r hr with h1 | ⟨_, r2, r3, r4, r5, r6, r7, r8, r9⟩
        · exact absurd h1.1 hv
        · rcases h.ok s hs with h1 | ⟨_, s2, s3, s4, s5, s6, s7, s8, s9⟩
          · exact absurd h1.1 hvs
          · have hr2 := hr.2
            have hs2 := hs.2
            have sub : ∀ (b : Bool) (x : Nat), x < 2 ^ v → den v N (if b then hi (at_ N r) else lo (at_ N r)) x = den v N (if b then hi (at_ N s) else lo (at_ N s)) x := fun b x hx => by
              rw [den_lohi h hv6 hr hv hx b, den_lohi h hv6 hs hvs hx b, hd _ (stV_lt _ hv6 (by omega) hx), heq]
            have e1 : lo (at_ N r) = lo (at_ N s) := ih (m - 1) (by omega) _ _ (by omega) (by omega) ⟨r3, by omega⟩ ⟨s3, by omega⟩ fun x hx => by simpa using sub false x hx
            have e2 : hi (at_ N r) = hi (at_ N s) := ih (m - 1) (by omega) _ _ (by omega) (by omega) ⟨r5, by omega⟩ ⟨s5, by omega⟩ fun x hx => by simpa using sub true x hx
            exact nodup_at h.nodup hr hs (nd_eq heq e1 e2 (by omega))
    · exact (one s r hsm hs hr (fun x hx => (hd x hx).symm) hlt).elim
/-- Every subfunction of a node is the function of a node, among those that are closed under leading on. -/
theorem sub_closed {v : Nat} {N : List Nd} (h : Wf v N) (S : Nat → Prop) (hS : ∀ r, inN N r → S r → ∀ x, vr (at_ N r) ≠ v → S (child N r x)) (k z : Nat) (hk : k ≤ v) : ∀ r, inN N r → S r → ∃ i, inN N i ∧ S i ∧ ∀ y, y < 2 ^ v → den v N i y = den v N r (mix k z y) := by
  intro r
  induction r using Nat.strongRecOn with
  | _ r ih =>
    intro hr hs
    by_cases hkr : k ≤ vr (at_ N r)
    · exact ⟨r, hr, hs, fun y hy => den_indep h r hr _ _ fun j hj hjv => by rw [mix_bit, if_neg (by omega)]⟩
    · have hv : vr (at_ N r) ≠ v := by omega
      obtain ⟨hc1, hc2, hc3⟩ := h.child hr hv z
      obtain ⟨i, h1, h2, h3⟩ := ih _ hc2 hc1 (hS r hr hs z hv)
      refine ⟨i, h1, h2, fun y hy => ?_⟩
      rw [h3 y hy, den_node h hr hv]
      have e : child N r (mix k z y) = child N r z := by unfold child; rw [mix_bit, if_pos (show vr (at_ N r) < k by omega)]
      rw [e]
/-- The node n joins, if it is not there. -/
def refN (N : List Nd) (n : Nd) : List Nd × Nat := if n ∈ N then (N, N.idxOf n + 1) else (N ++ [n], N.length + 1)
theorem refN_spec {v : Nat} {N : List Nd} (h : Wf v N) {n : Nd} (ho : Ok v N n (N.length + 1)) :
    Wf v (refN N n).1 ∧ (∃ M, (refN N n).1 = N ++ M) ∧ inN (refN N n).1 (refN N n).2 ∧ at_ (refN N n).1 (refN N n).2 = n ∧ (refN N n).1.length ≤ N.length + 1 ∧ (∀ i, N.length < i → i ≤ (refN N n).1.length → i = (refN N n).2) := by
  unfold refN
  split
  · rename_i hn
    have hi := List.idxOf_lt_length_iff.2 hn
    refine ⟨h, ⟨[], by simp⟩, ⟨by show 1 ≤ _; omega, hi⟩, ?_, by simp, fun i h1 h2 => absurd h2 (by show ¬ i ≤ N.length; omega)⟩
    unfold at_
    show N.getD (List.idxOf n N + 1 - 1) _ = n
    rw [Nat.add_sub_cancel, List.getD_eq_getElem?_getD, List.getElem?_eq_getElem hi]
    exact List.getElem_idxOf hi
  · rename_i hn
    exact ⟨h.add hn ho, ⟨[n], rfl⟩, ⟨by show 1 ≤ N.length + 1; omega, by simp⟩, at_last N n, by simp, fun i h1 h2 => by simp at h2; show i = N.length + 1; omega⟩
/-- The root for the letters that agree with x below v - d, and the nodes behind it. -/
def sub (v : Nat) (val : Nat → Int) : Nat → List Nd → Nat → List Nd × Nat
  | 0, N, x => refN N (v, 0, 0, val x)
  | d + 1, N, x =>
    if (sub v val d N (stV x (v - (d + 1)) false)).2 = (sub v val d (sub v val d N (stV x (v - (d + 1)) false)).1 (stV x (v - (d + 1)) true)).2 then
      ((sub v val d (sub v val d N (stV x (v - (d + 1)) false)).1 (stV x (v - (d + 1)) true)).1, (sub v val d N (stV x (v - (d + 1)) false)).2)
    else refN (sub v val d (sub v val d N (stV x (v - (d + 1)) false)).1 (stV x (v - (d + 1)) true)).1
      (v - (d + 1), (sub v val d N (stV x (v - (d + 1)) false)).2, (sub v val d (sub v val d N (stV x (v - (d + 1)) false)).1 (stV x (v - (d + 1)) true)).2, 0)
structure Built (v : Nat) (val : Nat → Int) (k x : Nat) (N : List Nd) (p : List Nd × Nat) : Prop where
  wf : Wf v p.1
  ext : ∃ M, p.1 = N ++ M
  ref : inN p.1 p.2
  var : k ≤ vr (at_ p.1 p.2)
  den : ∀ y, y < 2 ^ v → den v p.1 p.2 y = val (mix k x y)
  new : ∀ i, N.length < i → i ≤ p.1.length → ∃ k' x', k' ≤ v ∧ x' < 2 ^ v ∧ ∀ y, y < 2 ^ v → Dn.den v p.1 i y = val (mix k' x' y)
  len : p.1.length + 1 ≤ N.length + 2 ^ (v - k + 1)
theorem sub_built {v : Nat} (val : Nat → Int) (hv : v ≤ 6) : ∀ (d : Nat), d ≤ v → ∀ (N : List Nd) (x : Nat), Wf v N → x < 2 ^ v → Built v val (v - d) x N (sub v val d N x)
  | 0, _, N, x, h, hx => by
    obtain ⟨h1, h2, h3, h4, h5, h6⟩ := refN_spec h (n := (v, 0, 0, val x)) (.inl ⟨rfl, rfl, rfl⟩)
    show Built v val v x N (refN N (v, 0, 0, val x))
    have hden : ∀ y, y < 2 ^ v → den v (refN N (v, 0, 0, val x)).1 (refN N (v, 0, 0, val x)).2 y = val (mix v x y) := fun y hy => by
      rw [den_leaf (by rw [h4]; rfl), h4, mix_full hx hy]; rfl
    refine ⟨h1, h2, h3, by rw [h4]; exact Nat.le_refl _, hden, fun i hi hj => ⟨v, x, Nat.le_refl _, hx, fun y hy => ?_⟩, ?_⟩
    · rw [h6 i hi hj]; exact hden y hy
    · rw [Nat.sub_self]; show _ ≤ N.length + 2; omega
  | d + 1, hd, N, x, h, hx => by
    obtain ⟨k, hk⟩ : ∃ k, k = v - (d + 1) := ⟨_, rfl⟩
    have hk1 : v - d = k + 1 := by omega
    have hkv : k < v := by omega
    have B1 := sub_built val hv d (by omega) N (stV x k false) h (stV_lt _ hv hkv hx)
    have B2 := sub_built val hv d (by omega) _ (stV x k true) B1.wf (stV_lt _ hv hkv hx)
    unfold sub
    rw [← hk]
    rw [hk1] at B1 B2
    generalize sub v val d N (stV x k false) = p at *
    generalize sub v val d p.1 (stV x k true) = q at *
    obtain ⟨M1, e1⟩ := B1.ext
    obtain ⟨M2, e2⟩ := B2.ext
    have hp1 : inN q.1 p.2 := by rw [e2]; exact inN_ext B1.ref
    have hpa : at_ q.1 p.2 = at_ p.1 p.2 := by rw [e2]; exact at_ext M2 B1.ref
    have hpd : ∀ y, y < 2 ^ v → den v q.1 p.2 y = val (mix (k + 1) (stV x k false) y) := fun y hy => by rw [e2, den_ext B1.wf M2 B1.ref]; exact B1.den y hy
    have hnew : ∀ i, N.length < i → i ≤ q.1.length → ∃ k' x', k' ≤ v ∧ x' < 2 ^ v ∧ ∀ y, y < 2 ^ v → den v q.1 i y = val (mix k' x' y) := fun i h1 h2 => by
      by_cases hl : i ≤ p.1.length
      · obtain ⟨k', x', h3, h4, h5⟩ := B1.new i h1 hl
        exact ⟨k', x', h3, h4, fun y hy => by rw [e2, den_ext B1.wf M2 ⟨by omega, hl⟩]; exact h5 y hy⟩
      · exact B2.new i (by omega) h2
    have hl1 := B1.len
    have hl2 := B2.len
    have hpow : 2 ^ (v - k + 1) = 2 ^ (v - (k + 1) + 1) + 2 ^ (v - (k + 1) + 1) := by
      rw [show v - k = v - (k + 1) + 1 by omega, Nat.pow_succ 2 (v - (k + 1) + 1)]; omega
    have hpos : 0 < 2 ^ (v - (k + 1) + 1) := Nat.two_pow_pos _
    split
    · rename_i heq
      refine ⟨B2.wf, ⟨M1 ++ M2, by rw [e2, e1, List.append_assoc]⟩, hp1, by show k ≤ vr (at_ q.1 p.2); rw [hpa]; have := B1.var; omega, fun y hy => ?_, hnew, by show q.1.length + 1 ≤ _; omega⟩
      show den v q.1 p.2 y = _
      rw [mix_succ hv hkv hx hy]
      cases y.testBit k with
      | false => exact hpd y hy
      | true => rw [heq]; exact B2.den y hy
    · rename_i hne
      have hvq := B2.wf.vr_le B2.ref
      have hvp := B2.wf.vr_le hp1
      have v1 := B1.var
      have v2 := B2.var
      have hok : Ok v q.1 (k, p.2, q.2, 0) (q.1.length + 1) := .inr ⟨hkv, rfl, hp1.1, Nat.lt_succ_of_le hp1.2, B2.ref.1, Nat.lt_succ_of_le B2.ref.2, hne,
        by show k < vr (at_ q.1 p.2); rw [hpa]; omega, by show k < vr (at_ q.1 q.2); omega⟩
      obtain ⟨h1, ⟨M3, e3⟩, h3, h4, h5, h6⟩ := refN_spec B2.wf hok
      generalize refN q.1 (k, p.2, q.2, 0) = s at *
      have hden : ∀ y, y < 2 ^ v → den v s.1 s.2 y = val (mix k x y) := fun y hy => by
        rw [den_node h1 h3 (by rw [h4]; show k ≠ v; omega), mix_succ hv hkv hx hy]
        have hc : child s.1 s.2 y = if y.testBit k then q.2 else p.2 := by unfold child; rw [h4]; rfl
        rw [hc]
        cases y.testBit k with
        | false => show den v s.1 p.2 y = _; rw [e3, den_ext B2.wf M3 hp1]; exact hpd y hy
        | true => show den v s.1 q.2 y = _; rw [e3, den_ext B2.wf M3 B2.ref]; exact B2.den y hy
      refine ⟨h1, ⟨M1 ++ (M2 ++ M3), by rw [e3, e2, e1]; simp only [List.append_assoc]⟩, h3, by rw [h4]; exact Nat.le_refl _, hden, fun i hi hj => ?_, by omega⟩
      by_cases hl : i ≤ q.1.length
      · obtain ⟨k', x', g3, g4, g5⟩ := hnew i hi hl
        exact ⟨k', x', g3, g4, fun y hy => by rw [e3, den_ext B2.wf M3 ⟨by omega, hl⟩]; exact g5 y hy⟩
      · rw [h6 i (by omega) hj]
        exact ⟨k, x, by omega, hx, hden⟩
end Go.Proofs.Ytbhfmeohaoojfaa.Dn
