/- A region that draws its order: reads, and calls that keep a class of worlds, ahead of a tail in one forced order that may write. One walk in the order of the text serves every order. Plain lemmas over any program. -/
import Derived.Test.YteckkbjpeckjmaaQC
import Derived.StillTail
import Derived.Shelf.RegionOpen
import Derived.RangeFuncCalls
import Derived.Test.YteckkbjpeckjmaaYE
import Derived.Test.YteckkbjpeckjmaaYH
import Derived.IntWalk
import Derived.BigQuiet
import Derived.Deep.QuietTactic
import Derived.Shelf.Abstract
import Derived.Outline
import Derived.Test.YteckkbjpeckjmaaYJ
import Derived.Deep.DeepCutAuto
import Derived.Laws.MakeOwn
import Derived.OwnWalk
import Derived.Test.YteckkbjpeckjmaaYT
import Derived.Test.YteckkbjpeckjmaaYV
import Derived.Test.YteckkbjpeckjmaaQH
import Derived.Test.YteckkbjpeckjmaaYZC
namespace Go.Proofs.Yteckkbjpeckjmaa
open Go Go.RowKit
section
variable {P : Program} {ops : Array Oper} {md : Region.Mode} {C : World → Prop}
/-- Whatever order is picked among the first n operations. -/
def wpAnyLQ (P : Program) (md : Region.Mode) (ops : Array Oper) (C : World → Prop) (n : Nat) (L : Array Bool → Act → Prop) : Nat → Array Bool → Act → Prop
  | 0, listed, a => L listed a
  | f + 1, listed, a => Region.ready md ops listed ≠ [] ∧ ∀ i ∈ Region.ready md ops listed, i < n ∧ qOp P ops C i (wpAnyLQ P md ops C n L f (listed.setIfInBounds i true)) a
theorem wpAny_of_headQ {n g : Nat} {L : Array Bool → Act → Prop} {Q' : Exit → Act → World → Prop} (hL : ∀ listed a w, C w → L listed a → wpAny P md ops Q' g listed a w) :
    ∀ (f : Nat) (listed : Array Bool) (a : Act) (w : World), C w → wpAnyLQ P md ops C n L f listed a → wpAny P md ops Q' (f + g) listed a w
  | 0, listed, a, w, hw, h => by rw [Nat.zero_add]; exact hL _ _ _ hw h
  | f + 1, listed, a, w, hw, h => by
    rw [show f + 1 + g = (f + g) + 1 by omega]
    exact ⟨fun h0 => absurd h0 h.1, fun i hi => wpOp_of_qOp hw (fun a' w' hw' h' => wpAny_of_headQ hL f _ a' w' hw' h') (h.2 i hi).2⟩
theorem wpAnyLQ_first {n i : Nat} {oi : Oper} {v : Value} {L : Array Bool → Act → Prop} (hi : ops[i]? = some oi) (hsel : ∀ (j : Nat) (o : Oper) cs b, ops[j]? = some o → o.op ≠ .select cs b)
    (hs : Region.sinkB md ops n = true) (hc : Region.chainB md ops n = true) (hn : n < ops.size) (hin : i < n)
    (hdone : ∀ listed a, L listed a → ∀ j ∈ Region.ready md ops listed, n ≤ j) :
    ∀ (f : Nat) (listed : Array Bool) (a : Act), HeadInv md ops n listed →
      (∀ j oj, ops[j]? = some oj → j ≠ i → listed.getD j true = false → (∀ e ∈ oj.after, Region.binds md e = true → e.on ≠ i) → oi.apart ops oj = true) →
      i ∈ Region.ready md ops listed → YieldsIn P ops C oi v a →
      wpAnyLQ P md ops C n L f (listed.setIfInBounds i true) (a.put oi.dst v) → wpAnyLQ P md ops C n L (f + 1) listed a := by
  intro f
  induction f with
  | zero =>
    intro listed a inv _ hr hy H
    have hun := (mem_ready.1 hr).1
    refine ⟨fun h => (by rw [h] at hr; cases hr), fun j hj => ?_⟩
    have hjn : j < n := by
      rcases Nat.lt_or_ge j n with h | h
      · exact h
      · exact absurd hj (tail_waits hs hc hn inv _ i rfl hin hun j h)
    refine ⟨hjn, ?_⟩
    by_cases hji : j = i
    · subst hji; exact hy.qOp hi H
    · have := hdone _ _ H j (ready_mono hj hji)
      omega
  | succ f ih =>
    intro listed a inv hfree hr hy H
    have hun := (mem_ready.1 hr).1
    refine ⟨fun h => (by rw [h] at hr; cases hr), fun j hj => ?_⟩
    have hjn : j < n := by
      rcases Nat.lt_or_ge j n with h | h
      · exact h
      · exact absurd hj (tail_waits hs hc hn inv _ i rfl hin hun j h)
    refine ⟨hjn, ?_⟩
    by_cases hji : j = i
    · subst hji; exact hy.qOp hi H
    · have h1 := (H.2 j (ready_mono hj hji)).2
      obtain ⟨hjun, oj, hoj, hall⟩ := mem_ready.1 hj
      have hnot : ∀ e ∈ oj.after, Region.binds md e = true → e.on ≠ i := fun e he hb heq => by
        have h1 := hall e he hb
        rw [heq, getD_both hun] at h1
        cases h1
      have h2 := qOp_put hoj (hfree j oj hoj hji hjun hnot) (fun cs b => hsel i oi cs b hi) (fun cs b => hsel j oj cs b hoj) hy h1
      have hfree' : ∀ k ok, ops[k]? = some ok → k ≠ i → (listed.setIfInBounds j true).getD k true = false →
          (∀ e ∈ ok.after, Region.binds md e = true → e.on ≠ i) → oi.apart ops ok = true := fun k ok hk hki hun hno => by
        refine hfree k ok hk hki ?_ hno
        by_cases hjk : j = k
        · subst hjk; exact hjun
        · rw [getD_set_ne true hjk] at hun; exact hun
      refine qOp_mono (fun a' h3 => ih (listed.setIfInBounds j true) a' (inv.set hj hjn) hfree' (ready_mono hr (Ne.symm hji)) h3.1 ?_) h2
      rw [Array.setIfInBounds_comm _ _ hji]
      exact h3.2
theorem wpAnyLQ_lex {n g : Nat} {Lq : Act → Prop} (hsel : Region.noSelect ops = true) (hs : Region.sinkB md ops n = true) (hc : Region.chainB md ops n = true) (hn : n < ops.size) :
    ∀ (l : List Oper) (k : Nat) (listed : Array Bool) (a : Act), (∀ j, j < l.length → l[j]? = ops[k + j]?) → k + l.length = n → HeadInv md ops n listed →
    Region.lexHead md ops g l.length k listed = true → wpQuiet P ops C Lq l a →
    wpAnyLQ P md ops C n (fun listed' a' => Region.seqB md ops g n listed' = true ∧ Lq a') l.length listed a
  | [], k, listed, a, _, hk, _, hB, h => by
    have : k = n := by simpa using hk
    subst this
    exact ⟨by simpa [Region.lexHead] using hB, h⟩
  | o :: l, k, listed, a, hl, hk, inv, hB, h => by
    have h0 : ops[k]? = some o := by simpa using (hl 0 (by simp)).symm
    simp only [List.length_cons, Region.lexHead, Bool.and_eq_true] at hB
    obtain ⟨⟨hr, hf⟩, hB'⟩ := hB
    have hkn : k < n := by simp only [List.length_cons] at hk; omega
    have hr' : k ∈ Region.ready md ops listed := by simpa using hr
    have hst : qOp P ops C k (wpQuiet P ops C Lq l) a := by unfold qOp; simp only [h0]; exact h
    obtain ⟨v, hy, hK⟩ := yieldsIn_of_qOp h0 hst
    exact wpAnyLQ_first h0 (Region.noSelect_spec hsel) hs hc hn hkn (fun listed' a' hL => seqB_ready hL.1) l.length listed a inv (Region.free_spec h0 hf) hr' hy
      (wpAnyLQ_lex hsel hs hc hn l (k + 1) _ _ (fun j hj => by have := hl (j + 1) (by simp; omega); simpa [Nat.add_assoc, Nat.add_comm 1 j] using this) (by simp only [List.length_cons] at hk; omega) (inv.set hr' hkn) hB' hK)
theorem wp_region_quiet_tail {id : Nat} {Q : Exit → Act → World → Prop} {a : Act} {w : World} {l : List Oper} (n : Nat) (hm : P.follows .mixedOrders = true) (hB : Region.lexTailB .any l.toArray n = true) (hC : C { w with drawn := w.drawn + 1 })
    (h : wpQuiet P l.toArray C (fun a' => ∀ w', C w' → wpList P l.toArray Q (l.drop n) a' w') (l.take n) a) : (Code.region id l.toArray true).wp P Q a w := by
  simp only [Region.lexTailB, Bool.and_eq_true, decide_eq_true_eq] at hB
  obtain ⟨⟨⟨⟨hsel, hn⟩, hs⟩, hc⟩, hlex⟩ := hB
  have hn' : n < l.length := by simpa using hn
  have htl : (l.take n).length = n := by simp; omega
  have hdl : (l.drop n).length = l.toArray.size - n := by simp
  have inv0 : HeadInv .any l.toArray n (Array.replicate l.toArray.size false) :=
    ⟨by simp, fun j oj _ hl => (by rw [getD_replicate_false] at hl; cases hl), fun t _ ht => getD_in (by simpa using ht) (getD_replicate_false _ _)⟩
  have H := wpAnyLQ_lex (C := C) (md := .any) (g := l.toArray.size - n) hsel hs hc hn (l.take n) 0 _ a (fun j hj => by
    have hj' : j < n := by rw [htl] at hj; exact hj
    simp [hj']) (by simpa using htl) inv0 (by rw [htl]; exact hlex) h
  refine wp_region_any hm ?_
  have := wpAny_of_headQ (Q' := Q) (g := l.toArray.size - n) (fun listed a' w' hw' hL => by
    have := wpAny_of_seq (md := .any) (Q' := Q) (l.drop n) n listed a' w' (fun j => by simp [List.getElem?_drop]) (by rw [hdl]; exact hL.1) (hL.2 w' hw')
    rwa [hdl] at this) _ _ _ _ hC H
  rw [htl, show n + (l.toArray.size - n) = l.toArray.size by omega] at this
  exact this
theorem wp_region_cls_tail {id : Nat} {Q : Exit → Act → World → Prop} {a : Act} {w : World} {l : List Oper} (n : Nat) (S : World → Prop) (hm : P.follows .mixedOrders = true) (hB : Region.lexTailB .any l.toArray n = true) (h0 : S w.drew)
    (h : wpQuiet P l.toArray (fun w' => ∃ r : Cls S, w' = r.w) (fun a' => ∀ w', (∃ r : Cls S, w' = r.w) → wpList P l.toArray Q (l.drop n) a' w') (l.take n) a) : (Code.region id l.toArray true).wp P Q a w :=
  wp_region_quiet_tail (C := fun w' => ∃ r : Cls S, w' = r.w) n hm hB ⟨⟨_, h0⟩, rfl⟩ h
end
end Go.Proofs.Yteckkbjpeckjmaa
/- A region that draws its order, in a round of a loop over a function: it is walked as anywhere else. Plain lemmas over any program. -/
namespace Go.Proofs.Yteckkbjpeckjmaa
open Go Go.RowKit
section
variable {P : Program} {ops : Array Oper} {md : Region.Mode} {C : World → Prop} {Q : Exit → Act → World → Prop}
def noDefer (o : Oper) : Bool := match o.op with
  | .defer _ => false
  | _ => true
theorem noDefer_spec {o : Oper} (h : noDefer o = true) : ∀ c, o.op ≠ .defer c := fun c e => by
  unfold noDefer at h
  rw [e] at h
  cases h
theorem rowsIn_round {l n : Nat} {row : String} {args : Array Value} {w : World} {R : Value → World → Prop} (h : Rows P row args w R) : RowsIn (Fence.wide.inRound l) n P row args w R :=
  fun c cs _ => let ⟨v, w', r, s⟩ := h c cs; ⟨v, w', r, stepsIn_wide.2 s⟩
theorem oper_in (l n : Nat) {o : Oper} {a : Act} {w : World} {K : Act → World → Prop} (hd : ∀ c, o.op ≠ .defer c) (h : o.wp P a w K Q) : o.wpIn (Fence.wide.inRound l) n P a w K Q := by
  refine ⟨fun f _ => trivial, ?_⟩
  rw [Fence.inRound_round, Oper.semAt_some l _ o hd]
  unfold Oper.wp at h
  cases hr : (execOp a.eval o).run P w with
  | ok x w' =>
    rw [hr] at h
    cases x with
    | value v => exact h
    | skip => exact h
    | defer d => exact h
    | enter f args => exact ⟨fun h => (by cases h), CallsIn.inRound l (callsIn_wide.2 h)⟩
    | row r args => exact ⟨fun h => (by cases h), rowsIn_round h⟩
    | _ => exact h.elim
  | halt x w' =>
    rw [hr] at h
    cases x with
    | panic u => exact h
    | _ => exact h.elim
theorem wpAny_in (l n : Nat) (hd : ∀ (i : Nat) (o : Oper), ops[i]? = some o → noDefer o = true) (hL : ¬ LetsOut Q) : ∀ (fuel : Nat) (listed : Array Bool) (a : Act) (w : World), wpAny P md ops Q fuel listed a w → wpAnyIn (Fence.wide.inRound l) n P md ops Q fuel listed a w
  | 0, listed, a, w, h => h
  | fuel + 1, listed, a, w, h => by
    refine ⟨h.1, fun i hi => ?_⟩
    have h2 := h.2 i hi
    unfold wpOp at h2
    unfold wpOpIn
    cases ho : ops[i]? with
    | none =>
      rw [ho] at h2
      exact wpAny_in l n hd hL fuel _ a w h2
    | some o =>
      rw [ho] at h2
      simp only at h2 ⊢
      split
      · rename_i hw
        rw [if_pos hw] at h2
        rcases h2 with h2 | h2
        · exact oper_in l n (noDefer_spec (hd i o ho)) (Oper.wp_mono (fun a' w' h' => wpAny_in l n hd hL fuel _ a' w' h') h2)
        · exact absurd h2.2 hL
      · rename_i hw
        rw [if_neg hw] at h2
        exact ⟨fun f _ => trivial, wpAny_in l n hd hL fuel _ _ w h2⟩
theorem any_cls_tail {a : Act} {w : World} {l : List Oper} (n : Nat) (S : World → Prop) (hB : Region.lexTailB .any l.toArray n = true) (h0 : S w)
    (h : wpQuiet P l.toArray (fun w' => ∃ r : Cls S, w' = r.w) (fun a' => ∀ w', (∃ r : Cls S, w' = r.w) → wpList P l.toArray Q (l.drop n) a' w') (l.take n) a) : wpAny P .any l.toArray Q l.toArray.size (Array.replicate l.toArray.size false) a w := by
  simp only [Region.lexTailB, Bool.and_eq_true, decide_eq_true_eq] at hB
  obtain ⟨⟨⟨⟨hsel, hn⟩, hs⟩, hc⟩, hlex⟩ := hB
  have hn' : n < l.length := by simpa using hn
  have htl : (l.take n).length = n := by simp; omega
  have hdl : (l.drop n).length = l.toArray.size - n := by simp
  have inv0 : HeadInv .any l.toArray n (Array.replicate l.toArray.size false) :=
    ⟨by simp, fun j oj _ hl => (by rw [getD_replicate_false] at hl; cases hl), fun t _ ht => getD_in (by simpa using ht) (getD_replicate_false _ _)⟩
  have H := wpAnyLQ_lex (C := fun w' => ∃ r : Cls S, w' = r.w) (md := .any) (g := l.toArray.size - n) hsel hs hc hn (l.take n) 0 _ a (fun j hj => by
    have hj' : j < n := by rw [htl] at hj; exact hj
    simp [hj']) (by simpa using htl) inv0 (by rw [htl]; exact hlex) h
  have := wpAny_of_headQ (Q' := Q) (g := l.toArray.size - n) (fun listed a' w' hw' hL => by
    have := wpAny_of_seq (md := .any) (Q' := Q) (l.drop n) n listed a' w' (fun j => by simp [List.getElem?_drop]) (by rw [hdl]; exact hL.1) (hL.2 w' hw')
    rwa [hdl] at this) _ _ _ _ ⟨⟨_, h0⟩, rfl⟩ H
  rw [htl, show n + (l.toArray.size - n) = l.toArray.size by omega] at this
  exact this
/-- A region of reads and calls that keep a class of worlds, ahead of a tail in one forced order, in a round. -/
theorem wpIn_region_cls_tail {lo m id : Nat} {a : Act} {w : World} {l : List Oper} (n : Nat) (S : World → Prop) (hm : P.follows .mixedOrders = true) (hB : Region.lexTailB .any l.toArray n = true) (hd : l.all noDefer = true) (hL : ¬ LetsOut Q) (h0 : S w.drew)
    (h : wpQuiet P l.toArray (fun w' => ∃ r : Cls S, w' = r.w) (fun a' => ∀ w', (∃ r : Cls S, w' = r.w) → wpList P l.toArray Q (l.drop n) a' w') (l.take n) a) : (Code.region id l.toArray true).wpIn (Fence.wide.inRound lo) m P Q a w := by
  refine wpIn_region_any hm (wpAny_in lo m (fun i o ho => ?_) hL _ _ _ _ (any_cls_tail n S hB h0 h))
  rw [List.all_eq_true] at hd
  exact hd o (by rw [List.getElem?_toArray] at ho; exact List.mem_of_getElem? ho)
end
end Go.Proofs.Yteckkbjpeckjmaa
/- What an expression matches: the meaning on words, and what the stage's consequences need. Plain mathematics. -/
namespace Go.Proofs.Yteckkbjpeckjmaa.Rx
open Go Go.RowKit Go.Proofs.Yteckkbjpeckjmaa
set_option linter.unusedVariables false
/-- Some number from lo to hi satisfies f. -/
def rg (lo hi : Nat) (f : Nat → Bool) : Bool := (List.range' lo (hi + 1 - lo)).any f
theorem rg_iff {lo hi : Nat} {f : Nat → Bool} : rg lo hi f = true ↔ ∃ k, lo ≤ k ∧ k ≤ hi ∧ f k = true := by
  unfold rg
  rw [List.any_eq_true]
  constructor
  · rintro ⟨k, hk, hf⟩
    rw [List.mem_range'_1] at hk
    exact ⟨k, hk.1, by omega, hf⟩
  · rintro ⟨k, h1, h2, hf⟩
    exact ⟨k, by rw [List.mem_range'_1]; omega, hf⟩
theorem bool_ext {a b : Bool} (h : a = true ↔ b = true) : a = b := Bool.eq_iff_iff.2 h
theorem rg_congr {lo hi : Nat} {f g : Nat → Bool} (h : ∀ k, lo ≤ k → k ≤ hi → f k = g k) : rg lo hi f = rg lo hi g := by
  apply bool_ext
  rw [rg_iff, rg_iff]
  constructor
  · rintro ⟨k, h1, h2, h3⟩; exact ⟨k, h1, h2, by rw [← h k h1 h2]; exact h3⟩
  · rintro ⟨k, h1, h2, h3⟩; exact ⟨k, h1, h2, by rw [h k h1 h2]; exact h3⟩
theorem rg_shift {i d n : Nat} {f g : Nat → Bool} (h : ∀ x, x ≤ n → f (i + x) = g (d + x)) : rg i (i + n) f = rg d (d + n) g := by
  apply bool_ext
  rw [rg_iff, rg_iff]
  constructor
  · rintro ⟨k, h1, h2, h3⟩
    exact ⟨d + (k - i), by omega, by omega, by rw [← h (k - i) (by omega), show i + (k - i) = k by omega]; exact h3⟩
  · rintro ⟨k, h1, h2, h3⟩
    exact ⟨i + (k - d), by omega, by omega, by rw [h (k - d) (by omega), show d + (k - d) = k by omega]; exact h3⟩
theorem rg_back {i j n : Nat} {f g : Nat → Bool} (hij : i ≤ n) (hj : j ≤ n) (h : ∀ k, i ≤ k → k ≤ j → f k = g (n - k)) : rg i j f = rg (n - j) (n - i) g := by
  apply bool_ext
  rw [rg_iff, rg_iff]
  constructor
  · rintro ⟨k, h1, h2, h3⟩
    exact ⟨n - k, by omega, by omega, by rw [← h k h1 h2]; exact h3⟩
  · rintro ⟨k, h1, h2, h3⟩
    refine ⟨n - k, by omega, by omega, ?_⟩
    rw [h (n - k) (by omega) (by omega), show n - (n - k) = k by omega]; exact h3
theorem rg_empty {lo hi : Nat} {f : Nat → Bool} (h : hi < lo) : rg lo hi f = false := by
  rw [← Bool.not_eq_true, rg_iff]
  rintro ⟨k, h1, h2, _⟩
  omega
theorem rg_head {lo hi : Nat} {f : Nat → Bool} (h : lo ≤ hi) : rg lo hi f = (f lo || rg (lo + 1) hi f) := by
  apply bool_ext
  rw [Bool.or_eq_true, rg_iff, rg_iff]
  constructor
  · rintro ⟨k, h1, h2, h3⟩
    by_cases hk : k = lo
    · rw [hk] at h3; exact .inl h3
    · exact .inr ⟨k, by omega, h2, h3⟩
  · rintro (h1 | ⟨k, h1, h2, h3⟩)
    · exact ⟨lo, Nat.le_refl _, h, h1⟩
    · exact ⟨k, by omega, h2, h3⟩
theorem rg_last {lo hi : Nat} {f : Nat → Bool} (h : lo ≤ hi + 1) : rg lo (hi + 1) f = (rg lo hi f || f (hi + 1)) := by
  apply bool_ext
  rw [Bool.or_eq_true, rg_iff, rg_iff]
  constructor
  · rintro ⟨k, h1, h2, h3⟩
    by_cases hk : k = hi + 1
    · rw [hk] at h3; exact .inr h3
    · exact .inl ⟨k, h1, by omega, h3⟩
  · rintro (⟨k, h1, h2, h3⟩ | h1)
    · exact ⟨k, h1, by omega, h3⟩
    · exact ⟨hi + 1, h, Nat.le_refl _, h1⟩
/-- Repetitions of m, at most d of them that are not empty. -/
def starM (m : Nat → Nat → Bool) : Nat → Nat → Nat → Bool
  | 0, i, j => i == j
  | d + 1, i, j => i == j || rg (i + 1) j fun k => m i k && starM m d k j
theorem starM_succ (m : Nat → Nat → Bool) (d i j : Nat) : starM m (d + 1) i j = (i == j || rg (i + 1) j fun k => m i k && starM m d k j) := rfl
theorem starM_fuel {m : Nat → Nat → Bool} : ∀ (d d' i j : Nat), j - i ≤ d → j - i ≤ d' → starM m d i j = starM m d' i j
  | 0, 0, i, j, _, _ => rfl
  | 0, d' + 1, i, j, h, h' => by
    rw [starM_succ, rg_empty (by omega), Bool.or_false]; rfl
  | d + 1, 0, i, j, h, h' => by
    rw [starM_succ, rg_empty (by omega), Bool.or_false]; rfl
  | d + 1, d' + 1, i, j, h, h' => by
    rw [starM_succ, starM_succ]
    congr 1
    refine rg_congr fun k h1 h2 => ?_
    rw [starM_fuel d d' k j (by omega) (by omega)]
theorem starM_congr {m m' : Nat → Nat → Bool} : ∀ (d i j : Nat), (∀ a b, i ≤ a → a ≤ b → b ≤ j → m a b = m' a b) → starM m d i j = starM m' d i j
  | 0, i, j, h => rfl
  | d + 1, i, j, h => by
    rw [starM_succ, starM_succ]
    congr 1
    refine rg_congr fun k h1 h2 => ?_
    rw [h i k (by omega) (by omega) h2, starM_congr d k j fun a b ha hb hc => h a b (by omega) hb hc]
/-- The repetition of m. -/
def star (m : Nat → Nat → Bool) (i j : Nat) : Bool := starM m (j - i) i j
theorem star_eq (m : Nat → Nat → Bool) (i j : Nat) : star m i j = (i == j || rg (i + 1) j fun k => m i k && star m k j) := by
  unfold star
  rw [starM_fuel (j - i) (j - i + 1) i j (Nat.le_refl _) (by omega), starM_succ]
  congr 1
  refine rg_congr fun k h1 h2 => ?_
  rw [starM_fuel (j - i) (j - k) k j (by omega) (Nat.le_refl _)]
/-- The expression matches the word from i to j. -/
def mt (w : List Nat) : Ex → Nat → Nat → Bool
  | .leaf op p q, i, j => if op = 1 then false else if op = 2 then i == j else (j == i + 1 && cHas p q (w.getD i 0))
  | .one op a, i, j => if op = 7 then !(mt w a i j) else if op = 8 then star (fun x y => mt w a x y) i j else if op = 9 then (i == j && rg i w.length fun k => mt w a i k) else (i == j && rg 0 i fun k => mt w a k i)
  | .two op a b, i, j => if op = 4 then rg i j (fun k => mt w a i k && mt w b k j) else if op = 5 then (mt w a i j || mt w b i j) else (mt w a i j && mt w b i j)
section
variable (w : List Nat) (a b : Ex) (i j : Nat)
theorem mt_none (p q : Nat) : mt w (.leaf 1 p q) i j = false := rfl
theorem mt_empty (p q : Nat) : mt w (.leaf 2 p q) i j = (i == j) := rfl
theorem mt_letter (p q : Nat) : mt w (.leaf 3 p q) i j = (j == i + 1 && cHas p q (w.getD i 0)) := rfl
theorem mt_not : mt w (.one 7 a) i j = !(mt w a i j) := rfl
theorem mt_star : mt w (.one 8 a) i j = star (mt w a) i j := rfl
theorem mt_ahead : mt w (.one 9 a) i j = (i == j && rg i w.length fun k => mt w a i k) := rfl
theorem mt_behind : mt w (.one 10 a) i j = (i == j && rg 0 i fun k => mt w a k i) := rfl
theorem mt_cat : mt w (.two 4 a b) i j = rg i j (fun k => mt w a i k && mt w b k j) := rfl
theorem mt_alt : mt w (.two 5 a b) i j = (mt w a i j || mt w b i j) := rfl
theorem mt_and : mt w (.two 6 a b) i j = (mt w a i j && mt w b i j) := rfl
end
theorem leaf_ops {op : Nat} (h : 1 ≤ op ∧ op ≤ 3) : op = 1 ∨ op = 2 ∨ op = 3 := by omega
theorem one_ops {op : Nat} (h : 7 ≤ op ∧ op ≤ 10) : op = 7 ∨ op = 8 ∨ op = 9 ∨ op = 10 := by omega
theorem two_ops {op : Nat} (h : 4 ≤ op ∧ op ≤ 6) : op = 4 ∨ op = 5 ∨ op = 6 := by omega
theorem nat_beq_shift (i d x y : Nat) : (i + x == i + y) = (d + x == d + y) := by
  rw [Bool.eq_iff_iff, beq_iff_eq, beq_iff_eq]; omega
theorem nat_beq_one (i d n : Nat) : (i + n == i + 1) = (d + n == d + 1) := nat_beq_shift i d n 1
theorem nat_beq_self (i d n : Nat) : (i == i + n) = (d == d + n) := nat_beq_shift i d 0 n
theorem star_local {m m' : Nat → Nat → Bool} {i d : Nat} : ∀ (f x n : Nat), (∀ a b, a ≤ b → b ≤ n → m (i + a) (i + b) = m' (d + a) (d + b)) → x ≤ n → starM m f (i + x) (i + n) = starM m' f (d + x) (d + n)
  | 0, x, n, h, hx => nat_beq_shift i d x n
  | f + 1, x, n, h, hx => by
    rw [starM_succ, starM_succ, nat_beq_shift i d x n]
    congr 1
    by_cases hxn : x = n
    · rw [rg_empty (by omega), rg_empty (by omega)]
    · obtain ⟨y, rfl⟩ : ∃ y, n = x + 1 + y := ⟨n - x - 1, by omega⟩
      have := rg_shift (i := i + x + 1) (d := d + x + 1) (n := y) (f := fun k => m (i + x) k && starM m f k (i + (x + 1 + y))) (g := fun k => m' (d + x) k && starM m' f k (d + (x + 1 + y))) fun z hz => by
        have e1 := h x (x + 1 + z) (by omega) (by omega)
        have e2 := star_local f (x + 1 + z) (x + 1 + y) h (by omega)
        show (m (i + x) (i + x + 1 + z) && starM m f (i + x + 1 + z) _) = (m' (d + x) (d + x + 1 + z) && starM m' f (d + x + 1 + z) _)
        rw [show i + x + 1 + z = i + (x + 1 + z) by omega, show d + x + 1 + z = d + (x + 1 + z) by omega, e1, e2]
      rw [show i + (x + 1 + y) = i + x + 1 + y by omega, show d + (x + 1 + y) = d + x + 1 + y by omega] at *
      exact this
/-- What a plain expression matches depends on the letters between the positions alone. -/
theorem mt_local (w u : List Nat) : ∀ (t : Ex) (i d n : Nat), t.Ok → plainT t = true → (∀ x, x < n → w.getD (i + x) 0 = u.getD (d + x) 0) → mt w t i (i + n) = mt u t d (d + n)
  | .leaf op p q, i, d, n, ho, hp, h => by
    rcases leaf_ops ho.1 with rfl | rfl | rfl
    · rfl
    · rw [mt_empty, mt_empty]; exact nat_beq_self i d n
    · rw [mt_letter, mt_letter, nat_beq_one i d n]
      by_cases hn : n = 1
      · have := h 0 (by omega)
        rw [Nat.add_zero, Nat.add_zero] at this
        rw [this]
      · have : (d + n == d + 1) = false := by rw [beq_eq_false_iff_ne]; omega
        rw [this]; rfl
  | .one op a, i, d, n, ho, hp, h => by
    have hp' : (!(op == 9 || op == 10) && plainT a) = true := hp
    rw [Bool.and_eq_true] at hp'
    have ih : ∀ x y, x ≤ y → y ≤ n → mt w a (i + x) (i + y) = mt u a (d + x) (d + y) := fun x y hx hy => by
      have := mt_local w u a (i + x) (d + x) (y - x) ho.2 hp'.2 fun z hz => by
        rw [show i + x + z = i + (x + z) by omega, show d + x + z = d + (x + z) by omega]; exact h (x + z) (by omega)
      rwa [show i + x + (y - x) = i + y by omega, show d + x + (y - x) = d + y by omega] at this
    rcases one_ops ho.1 with rfl | rfl | rfl | rfl
    · rw [mt_not, mt_not]; have := ih 0 n (Nat.zero_le _) (Nat.le_refl _); rw [Nat.add_zero, Nat.add_zero] at this; rw [this]
    · rw [mt_star, mt_star]
      unfold star
      rw [show i + n - i = n by omega, show d + n - d = n by omega]
      have := star_local (m := mt w a) (m' := mt u a) (i := i) (d := d) n 0 n ih (Nat.zero_le _)
      rwa [Nat.add_zero, Nat.add_zero] at this
    · cases hp'.1
    · cases hp'.1
  | .two op a b, i, d, n, ho, hp, h => by
    have hp' : (plainT a && plainT b) = true := hp
    rw [Bool.and_eq_true] at hp'
    have ih : ∀ (t : Ex), t.Ok → plainT t = true → (∀ i' d' n', (∀ x, x < n' → w.getD (i' + x) 0 = u.getD (d' + x) 0) → mt w t i' (i' + n') = mt u t d' (d' + n')) → ∀ x y, x ≤ y → y ≤ n → mt w t (i + x) (i + y) = mt u t (d + x) (d + y) := fun t _ _ hh x y hx hy => by
      have := hh (i + x) (d + x) (y - x) fun z hz => by
        rw [show i + x + z = i + (x + z) by omega, show d + x + z = d + (x + z) by omega]; exact h (x + z) (by omega)
      rwa [show i + x + (y - x) = i + y by omega, show d + x + (y - x) = d + y by omega] at this
    have ia := ih a ho.2.1 hp'.1 fun i' d' n' hh => mt_local w u a i' d' n' ho.2.1 hp'.1 hh
    have ib := ih b ho.2.2 hp'.2 fun i' d' n' hh => mt_local w u b i' d' n' ho.2.2 hp'.2 hh
    have a0 := ia 0 n (Nat.zero_le _) (Nat.le_refl _)
    have b0 := ib 0 n (Nat.zero_le _) (Nat.le_refl _)
    rw [Nat.add_zero, Nat.add_zero] at a0 b0
    rcases two_ops ho.1 with rfl | rfl | rfl
    · rw [mt_cat, mt_cat]
      refine rg_shift fun x hx => ?_
      have e1 := ia 0 x (Nat.zero_le _) hx
      rw [Nat.add_zero, Nat.add_zero] at e1
      rw [e1, ib x n hx (Nat.le_refl _)]
    · rw [mt_alt, mt_alt, a0, b0]
    · rw [mt_and, mt_and, a0, b0]
theorem nat_beq_back {i j n : Nat} (hi : i ≤ n) (hj : j ≤ n) : (n - j == n - i) = (i == j) := by
  rw [Bool.eq_iff_iff, beq_iff_eq, beq_iff_eq]; omega
theorem star_snoc (m : Nat → Nat → Bool) : ∀ (f i j : Nat), j - i ≤ f → i ≤ j → star m i j = (i == j || rg i (j - 1) fun k => star m i k && (m k j && decide (k < j)))
  | 0, i, j, hf, hij => by
    have : i = j := by omega
    subst this
    rw [star_eq]; simp
  | f + 1, i, j, hf, hij => by
    by_cases he : i = j
    · subst he; rw [star_eq]; simp
    have hb : (i == j) = false := beq_eq_false_iff_ne.2 he
    rw [star_eq, hb, Bool.false_or, Bool.false_or]
    apply bool_ext
    rw [rg_iff, rg_iff]
    constructor
    · rintro ⟨k, h1, h2, h3⟩
      rw [Bool.and_eq_true] at h3
      rw [star_snoc m f k j (by omega) h2, Bool.or_eq_true] at h3
      rcases h3 with ⟨h3, h4 | h4⟩
      · rw [beq_iff_eq] at h4
        subst h4
        refine ⟨i, Nat.le_refl _, by omega, ?_⟩
        rw [star_eq m i i, h3, decide_eq_true (by omega)]
        simp
      · rw [rg_iff] at h4
        obtain ⟨k', g1, g2, g3⟩ := h4
        rw [Bool.and_eq_true] at g3
        refine ⟨k', by omega, g2, ?_⟩
        rw [Bool.and_eq_true]
        refine ⟨?_, g3.2⟩
        rw [star_eq, Bool.or_eq_true, rg_iff]
        exact .inr ⟨k, h1, by omega, by rw [Bool.and_eq_true]; exact ⟨h3, g3.1⟩⟩
    · rintro ⟨k, h1, h2, h3⟩
      rw [Bool.and_eq_true, Bool.and_eq_true, decide_eq_true_iff] at h3
      obtain ⟨h3, h4, h5⟩ := h3
      rw [star_eq, Bool.or_eq_true, beq_iff_eq, rg_iff] at h3
      rcases h3 with rfl | ⟨k', g1, g2, g3⟩
      · refine ⟨j, by omega, Nat.le_refl _, ?_⟩
        rw [h4, star_eq m j j]; simp
      · rw [Bool.and_eq_true] at g3
        refine ⟨k', g1, by omega, ?_⟩
        rw [Bool.and_eq_true]
        refine ⟨g3.1, ?_⟩
        rw [star_snoc m f k' j (by omega) (by omega), Bool.or_eq_true, rg_iff]
        exact .inr ⟨k, g2, h2, by rw [Bool.and_eq_true, Bool.and_eq_true, decide_eq_true_iff]; exact ⟨g3.2, h4, h5⟩⟩
theorem star_back {m m' : Nat → Nat → Bool} {n : Nat} : ∀ (f i j : Nat), j - i ≤ f → i ≤ j → j ≤ n → (∀ a b, a ≤ b → b ≤ n → m a b = m' (n - b) (n - a)) → star m i j = star m' (n - j) (n - i)
  | 0, i, j, hf, hij, hj, h => by
    have : i = j := by omega
    subst this
    rw [star_eq, star_eq m']; simp
  | f + 1, i, j, hf, hij, hj, h => by
    rw [star_snoc m (j - i) i j (Nat.le_refl _) hij, star_eq m', nat_beq_back (by omega) hj]
    by_cases he : i = j
    · subst he; simp
    congr 1
    rw [rg_back (n := n) (g := fun k => m' (n - j) k && star m' k (n - i)) (by omega) (by omega) ?_, show n - (j - 1) = n - j + 1 by omega]
    intro k h1 h2
    rw [star_back f i k (by omega) h1 (by omega) h, h k j (by omega) hj, decide_eq_true (by omega), Bool.and_true, Bool.and_comm]
/-- The reversed expression on the reversed word. -/
theorem mt_rev (w : List Nat) : ∀ (t : Ex) (i j : Nat), t.Ok → i ≤ j → j ≤ w.length → mt w t i j = mt w.reverse (rev t) (w.length - j) (w.length - i)
  | .leaf op p q, i, j, ho, hij, hj => by
    show _ = mt w.reverse (.leaf op p q) _ _
    rcases leaf_ops ho.1 with rfl | rfl | rfl
    · rfl
    · rw [mt_empty, mt_empty, nat_beq_back (by omega) hj]
    · rw [mt_letter, mt_letter]
      by_cases h : j = i + 1
      · subst h
        have e1 : (w.length - i == w.length - (i + 1) + 1) = true := by rw [beq_iff_eq]; omega
        rw [e1, beq_self_eq_true, Bool.true_and, Bool.true_and, List.getD_eq_getElem?_getD, List.getD_eq_getElem?_getD, List.getElem?_reverse (by omega), show w.length - 1 - (w.length - (i + 1)) = i by omega]
      · have e1 : (w.length - i == w.length - j + 1) = false := by rw [beq_eq_false_iff_ne]; omega
        rw [e1, beq_eq_false_iff_ne.2 h]; rfl
  | .one op a, i, j, ho, hij, hj => by
    have ih : ∀ x y, x ≤ y → y ≤ w.length → mt w a x y = mt w.reverse (rev a) (w.length - y) (w.length - x) := fun x y hx hy => mt_rev w a x y ho.2 hx hy
    rw [rev_one]
    rcases one_ops ho.1 with rfl | rfl | rfl | rfl
    · show _ = mt w.reverse (.one 7 (rev a)) _ _
      rw [mt_not, mt_not, ih i j hij hj]
    · show _ = mt w.reverse (.one 8 (rev a)) _ _
      rw [mt_star, mt_star]
      exact star_back (j - i) i j (Nat.le_refl _) hij hj ih
    · show _ = mt w.reverse (.one 10 (rev a)) _ _
      rw [mt_ahead, mt_behind, nat_beq_back (by omega) hj]
      by_cases he : i = j
      · subst he
        congr 1
        have := rg_back (i := i) (j := w.length) (n := w.length) (f := fun k => mt w a i k) (g := fun k => mt w.reverse (rev a) k (w.length - i)) (by omega) (Nat.le_refl _) fun k h1 h2 => ih i k h1 h2
        rwa [Nat.sub_self] at this
      · rw [beq_eq_false_iff_ne.2 he]; rfl
    · show _ = mt w.reverse (.one 9 (rev a)) _ _
      rw [mt_ahead, mt_behind, nat_beq_back (by omega) hj, List.length_reverse]
      by_cases he : i = j
      · subst he
        congr 1
        have := rg_back (i := 0) (j := i) (n := w.length) (f := fun k => mt w a k i) (g := fun k => mt w.reverse (rev a) (w.length - i) k) (by omega) (by omega) fun k h1 h2 => ih k i h2 hj
        rwa [Nat.sub_zero] at this
      · rw [beq_eq_false_iff_ne.2 he]; rfl
  | .two op a b, i, j, ho, hij, hj => by
    have ia := fun x y (hx : x ≤ y) (hy : y ≤ w.length) => mt_rev w a x y ho.2.1 hx hy
    have ib := fun x y (hx : x ≤ y) (hy : y ≤ w.length) => mt_rev w b x y ho.2.2 hx hy
    rw [rev_two]
    rcases two_ops ho.1 with rfl | rfl | rfl
    · rw [if_pos rfl, mt_cat, mt_cat]
      refine rg_back (n := w.length) (by omega) hj fun k h1 h2 => ?_
      rw [ia i k h1 (by omega), ib k j h2 hj, Bool.and_comm]
    · rw [if_neg (by decide), mt_alt, mt_alt, ia i j hij hj, ib i j hij hj]
    · rw [if_neg (by decide), mt_and, mt_and, ia i j hij hj, ib i j hij hj]
/-- The derivative by the letter x. -/
def der (x : Nat) : Ex → Ex
  | .leaf op p q => if op = 3 ∧ cHas p q x = true then .leaf 2 0 0 else .leaf 1 0 0
  | .one op a => if op = 7 then .one 7 (der x a) else .two 4 (der x a) (.one op a)
  | .two op a b => if op = 4 then (if mt [] a 0 0 then .two 5 (.two 4 (der x a) b) (der x b) else .two 4 (der x a) b) else .two op (der x a) (der x b)
theorem der_two (x op : Nat) (a b : Ex) : der x (.two op a b) = if op = 4 then (if mt [] a 0 0 then .two 5 (.two 4 (der x a) b) (der x b) else .two 4 (der x a) b) else .two op (der x a) (der x b) := rfl
theorem plain_one {op : Nat} {a : Ex} (h : plainT (.one op a) = true) (ho : 7 ≤ op ∧ op ≤ 10) : (op = 7 ∨ op = 8) ∧ plainT a = true := by
  have hp' : (!(op == 9 || op == 10) && plainT a) = true := h
  rw [Bool.and_eq_true] at hp'
  refine ⟨?_, hp'.2⟩
  rcases one_ops ho with rfl | rfl | rfl | rfl
  · exact .inl rfl
  · exact .inr rfl
  · cases hp'.1
  · cases hp'.1
theorem plain_two {op : Nat} {a b : Ex} (h : plainT (.two op a b) = true) : plainT a = true ∧ plainT b = true := by
  have hp' : (plainT a && plainT b) = true := h
  rwa [Bool.and_eq_true] at hp'
theorem der_ok (v : Int) (x : Nat) : ∀ t : Ex, t.Ok → t.Cubes v → plainT t = true → (der x t).Ok ∧ (der x t).Cubes v ∧ plainT (der x t) = true
  | .leaf op p q, ho, hc, hp => by
    unfold der
    split
    · exact ⟨⟨by decide, fun _ => ⟨rfl, rfl⟩⟩, (fun h => by cases h), rfl⟩
    · exact ⟨⟨by decide, fun _ => ⟨rfl, rfl⟩⟩, (fun h => by cases h), rfl⟩
  | .one op a, ho, hc, hp => by
    obtain ⟨h1, h2⟩ := plain_one hp ho.1
    obtain ⟨g1, g2, g3⟩ := der_ok v x a ho.2 hc h2
    rcases h1 with rfl | rfl
    · exact ⟨⟨by decide, g1⟩, g2, g3⟩
    · refine ⟨⟨by decide, g1, ho⟩, ⟨g2, hc⟩, ?_⟩
      show (plainT (der x a) && plainT (.one 8 a)) = true
      rw [g3, hp]; rfl
  | .two op a b, ho, hc, hp => by
    obtain ⟨ha, hb⟩ := plain_two hp
    obtain ⟨g1, g2, g3⟩ := der_ok v x a ho.2.1 hc.1 ha
    obtain ⟨k1, k2, k3⟩ := der_ok v x b ho.2.2 hc.2 hb
    have e1 : plainT (.two 4 (der x a) b) = true := by
      show (plainT (der x a) && plainT b) = true
      rw [g3, hb]; rfl
    rw [der_two]
    split
    · split
      · refine ⟨⟨by decide, ⟨by decide, g1, ho.2.2⟩, k1⟩, ⟨⟨g2, hc.2⟩, k2⟩, ?_⟩
        show (plainT (.two 4 (der x a) b) && plainT (der x b)) = true
        rw [e1, k3]; rfl
      · exact ⟨⟨by decide, g1, ho.2.2⟩, ⟨g2, hc.2⟩, e1⟩
    · refine ⟨⟨ho.1, g1, k1⟩, ⟨g2, k2⟩, ?_⟩
      show (plainT (der x a) && plainT (der x b)) = true
      rw [g3, k3]; rfl
theorem der_valid {v : Int} {x : Nat} {t : Ex} (h : t.Valid v) (hp : plainT t = true) (hs : (der x t).size ≤ 64) : (der x t).Valid v :=
  have hd := der_ok v x t h.ok h.cubes hp
  ⟨h.v0, h.v6, hd.1, hs, hd.2.1, plain_free _ _ hd.2.2⟩
theorem der_size (x : Nat) : ∀ t : Ex, (der x t).size ≤ t.size * (t.size + 2)
  | .leaf op p q => by unfold der; split <;> (show 1 ≤ 1 * (1 + 2); decide)
  | .one op a => by
    have ih := der_size x a
    show (if op = 7 then Ex.one 7 (der x a) else .two 4 (der x a) (.one op a)).size ≤ (a.size + 1) * (a.size + 1 + 2)
    have e : (a.size + 1) * (a.size + 1 + 2) = a.size * (a.size + 2) + 2 * a.size + 3 := by
      have e2 : a.size * (a.size + 2) = a.size * a.size + a.size * 2 := Nat.mul_add _ _ _
      have e3 : (a.size + 1) * (a.size + 1 + 2) = a.size * (a.size + 1 + 2) + 1 * (a.size + 1 + 2) := Nat.add_mul _ _ _
      have e4 : a.size * (a.size + 1 + 2) = a.size * a.size + a.size * 3 := Nat.mul_add a.size a.size 3
      omega
    split
    · show (der x a).size + 1 ≤ _; omega
    · show (der x a).size + (a.size + 1) + 1 ≤ _; omega
  | .two op a b => by
    have iha := der_size x a
    have ihb := der_size x b
    have pa := a.pos
    have pb := b.pos
    have e : (a.size + b.size + 1) * (a.size + b.size + 1 + 2) = a.size * (a.size + 2) + b.size * (b.size + 2) + 2 * (a.size * b.size) + 2 * a.size + 2 * b.size + 3 := by
      have e2 : a.size * (a.size + 2) = a.size * a.size + a.size * 2 := Nat.mul_add _ _ _
      have e3 : b.size * (b.size + 2) = b.size * b.size + b.size * 2 := Nat.mul_add _ _ _
      have e4 : (a.size + b.size + 1) * (a.size + b.size + 1 + 2) = (a.size + b.size) * (a.size + b.size + 3) + 1 * (a.size + b.size + 1 + 2) := Nat.add_mul _ _ _
      have e5 : (a.size + b.size) * (a.size + b.size + 3) = (a.size + b.size) * (a.size + b.size) + (a.size + b.size) * 3 := Nat.mul_add _ _ _
      have e6 : (a.size + b.size) * (a.size + b.size) = a.size * (a.size + b.size) + b.size * (a.size + b.size) := Nat.add_mul _ _ _
      have e7 : a.size * (a.size + b.size) = a.size * a.size + a.size * b.size := Nat.mul_add _ _ _
      have e8 : b.size * (a.size + b.size) = b.size * a.size + b.size * b.size := Nat.mul_add _ _ _
      have e9 : b.size * a.size = a.size * b.size := Nat.mul_comm _ _
      omega
    show (der x (.two op a b)).size ≤ (a.size + b.size + 1) * (a.size + b.size + 1 + 2)
    rw [der_two, e]
    split
    · split
      · show (der x a).size + b.size + 1 + (der x b).size + 1 ≤ _; omega
      · show (der x a).size + b.size + 1 ≤ _; omega
    · show (der x a).size + (der x b).size + 1 ≤ _; omega
theorem mt_null (w : List Nat) {t : Ex} (ho : t.Ok) (hp : plainT t = true) (i : Nat) : mt w t i i = mt [] t 0 0 :=
  mt_local w [] t i 0 0 ho hp fun x hx => by omega
theorem mt_tail (w : List Nat) (x : Nat) {t : Ex} (ho : t.Ok) (hp : plainT t = true) (i n : Nat) : mt (x :: w) t (i + 1) (n + 1 + i) = mt w t i (i + n) := by
  have := mt_local (x :: w) w t (i + 1) i n ho hp fun y hy => by
    rw [show i + 1 + y = (i + y) + 1 by omega]; rfl
  rwa [show i + 1 + n = n + 1 + i by omega] at this
theorem mt_tail' (w : List Nat) (x : Nat) {t : Ex} (ho : t.Ok) (hp : plainT t = true) {i n : Nat} (h : i ≤ n) : mt (x :: w) t (i + 1) (n + 1) = mt w t i n := by
  have := mt_tail w x ho hp i (n - i)
  rwa [show n - i + 1 + i = n + 1 by omega, show i + (n - i) = n by omega] at this
theorem rg_one (n : Nat) (f : Nat → Bool) : rg 1 (n + 1) f = rg 0 n (fun k => f (k + 1)) := by
  have := rg_shift (i := 1) (d := 0) (n := n) (f := f) (g := fun k => f (k + 1)) fun y hy => by
    show f (1 + y) = f (0 + y + 1)
    rw [Nat.zero_add, Nat.add_comm]
  rwa [Nat.add_comm 1 n, Nat.zero_add] at this
/-- The expression matches a word that begins with x exactly if its derivative by x matches the rest. -/
theorem mt_der (w : List Nat) (x : Nat) : ∀ (t : Ex) (n : Nat), t.Ok → plainT t = true → mt (x :: w) t 0 (n + 1) = mt w (der x t) 0 n
  | .leaf op p q, n, ho, hp => by
    rcases leaf_ops ho.1 with rfl | rfl | rfl
    · rfl
    · rw [mt_empty]
      show (0 == n + 1) = false
      rw [beq_eq_false_iff_ne]; omega
    · rw [mt_letter]
      show (n + 1 == 0 + 1 && cHas p q x) = mt w (if 3 = 3 ∧ cHas p q x = true then .leaf 2 0 0 else .leaf 1 0 0) 0 n
      by_cases h : cHas p q x = true
      · rw [if_pos ⟨rfl, h⟩, mt_empty, h, Bool.and_true, Bool.eq_iff_iff, beq_iff_eq, beq_iff_eq]; omega
      · rw [if_neg (fun hh => h hh.2), mt_none, Bool.not_eq_true] at *
        rw [h, Bool.and_false]
  | .one op a, n, ho, hp => by
    obtain ⟨h1, h2⟩ := plain_one hp ho.1
    rcases h1 with rfl | rfl
    · show mt (x :: w) (.one 7 a) 0 (n + 1) = mt w (.one 7 (der x a)) 0 n
      rw [mt_not, mt_not, mt_der w x a n ho.2 h2]
    · show mt (x :: w) (.one 8 a) 0 (n + 1) = mt w (.two 4 (der x a) (.one 8 a)) 0 n
      rw [mt_star, star_eq, mt_cat, show ((0 : Nat) == n + 1) = false by rw [beq_eq_false_iff_ne]; omega, Bool.false_or, Nat.zero_add, rg_one]
      refine rg_congr fun k h3 h4 => ?_
      rw [← mt_star, mt_der w x a k ho.2 h2, mt_tail' w x (t := .one 8 a) ho hp h4]
  | .two op a b, n, ho, hp => by
    obtain ⟨ha, hb⟩ := plain_two hp
    have ia := fun k => mt_der w x a k ho.2.1 ha
    have ib := mt_der w x b n ho.2.2 hb
    rcases two_ops ho.1 with rfl | rfl | rfl
    · have e : mt (x :: w) (.two 4 a b) 0 (n + 1) = ((mt [] a 0 0 && mt w (der x b) 0 n) || mt w (.two 4 (der x a) b) 0 n) := by
        rw [mt_cat, rg_head (Nat.zero_le _), mt_null (x :: w) ho.2.1 ha 0, ib, Nat.zero_add, rg_one, mt_cat]
        congr 1
        refine rg_congr fun k h3 h4 => ?_
        rw [ia, mt_tail' w x ho.2.2 hb h4]
      rw [e, der_two, if_pos rfl]
      cases mt [] a 0 0 with
      | true => rw [if_pos rfl, mt_alt, Bool.true_and, Bool.or_comm]
      | false => rw [if_neg (by decide), Bool.false_and, Bool.false_or]
    · rw [mt_alt, ia, ib]; rfl
    · rw [mt_and, ia, ib]; rfl
end Go.Proofs.Yteckkbjpeckjmaa.Rx
/- Relations as function values (package match): what the closures of meaning answer. -/
namespace Go.Proofs.Yteckkbjpeckjmaa.Rx
open Go Go.RowKit Go.Proofs.Yteckkbjpeckjmaa
set_option linter.unusedVariables false
set_option maxRecDepth 100000
/-- A condition on worlds that new memory does not touch. -/
def Clo (P : World → Prop) : Prop := ∀ X Y, P X → Below X.heap.size X Y → P Y
/-- The method at, bound to the value sa, answers m. -/
def AtP (P : World → Prop) (n : Nat) (sa : Value) (m : Nat → Nat → Bool) : Prop := ∀ X, P X → ∀ i j : Nat, i ≤ j → j ≤ n →
  Calls Try.prog 44 #[sa, .int .i64 i, .int .i64 j] X fun e X' => e = .returned (.bool (m i j)) ∧ Below X.heap.size X X'
/-- The function value f with caps answers m. -/
structure RelP (P : World → Prop) (n : Nat) (f : FuncId) (cp : Array Value) (m : Nat → Nat → Bool) : Prop where
  eg : ∀ args w, (callFunc f args).run Try.prog w = .ok (.enter f args) w
  ok : ∀ X, P X → ∀ i j : Nat, i ≤ j → j ≤ n → Calls Try.prog f (#[.int .i64 i, .int .i64 j] ++ cp) X fun e X' => e = .returned (.bool (m i j)) ∧ Below X.heap.size X X'
abbrev atF (sa : Value) : Value := .func (.func 44) #[sa] #[]
theorem mHas_any (p q x : Nat) (w : World) (hp : p < 256) (hq : q < 256) (hx : x < 256) :
    Calls Try.prog 99 #[.agg #[.int .u8 p, .int .u8 q], .int .u8 x] w fun e w' => e = .returned (.bool (cHas p q x)) ∧ Below w.heap.size w w' := by
  have e1 := u8_and_nat x p hx hp
  have e2 := u8_and_nat x q hx hq
  by_cases h : x &&& p = p
  · have h1 : (bits .and .u8 (x : Int) (p : Int) == (p : Int)) = true := by rw [e1, h]; simp
    clear e1
    go_enter Try.func99, Try.ntmps99
    go_wp2
    go_ret
    refine ⟨ret_bool ?_, (Below.refl _ _).alloc (Nat.le_refl _) _⟩
    unfold cHas
    rw [beq_iff_eq.2 h, Bool.true_and]
    exact cast_beq _ 0
  · have h1 : (bits .and .u8 (x : Int) (p : Int) == (p : Int)) = false := by rw [e1, cast_beq]; exact beq_eq_false_iff_ne.2 h
    clear e1
    go_enter Try.func99, Try.ntmps99
    go_wp2
    go_ret
    refine ⟨ret_bool ?_, (Below.refl _ _).alloc (Nat.le_refl _) _⟩
    unfold cHas
    rw [beq_eq_false_iff_ne.2 h, Bool.false_and]
set_option maxHeartbeats 2000000 in
theorem some_any (P : World → Prop) (hP : Clo P) (f : FuncId) (cp : Array Value) (eg : ∀ args w, (callFunc f args).run Try.prog w = .ok (.enter f args) w) (h : Nat → Bool) (lo hi : Nat) (hlo : lo ≤ 1000000) (hhi : hi ≤ 1000000)
    (H : ∀ X, P X → ∀ k : Nat, lo ≤ k → k ≤ hi → Calls Try.prog f (#[.int .i64 k] ++ cp) X fun e X' => e = .returned (.bool (h k)) ∧ Below X.heap.size X X') (w : World) (hw : P w) :
    Calls Try.prog 118 #[.int .i64 lo, .int .i64 hi, .func (.func f) #[] cp] w fun e w' => e = .returned (.bool (rg lo hi h)) ∧ Below w.heap.size w w' := by
  have HH := Lib.hid H
  have HW := Lib.hid hw
  have HP := Lib.hid hP
  clear H hw hP
  go_enter Try.func118, Try.ntmps118
  go_wp2
  go_loopw [7] (fun k wr => ∃ i : Nat, lo ≤ i ∧ (i ≤ hi + 1 ∨ i = lo) ∧ k = .int .i64 i ∧ Hid (rg lo hi h = rg i hi h) ∧ Below w.heap.size w wr) (fun k _ => hi + 1 - (intOf k).toNat)
  case atStart => exact ⟨lo, Nat.le_refl _, .inr rfl, rfl, rfl, Below.refl _ _⟩
  case round =>
    obtain ⟨i, h1, h2, rfl, hr, hb⟩ := hrel
    by_cases hlt : i ≤ hi
    · have hlt2 : (i : Int) ≤ hi := by omega
      have HC := Lib.hid (HH.out wr (HP.out _ _ HW.out hb) i h1 hlt)
      have hhead := Lib.hid (rg_head (f := h) hlt)
      generalize h i = b at *
      cases b with
      | true =>
        go_wp2_with ((with_reducible refine HC.out.mono ?_); rintro r w1 ⟨rfl, hb1⟩)
        go_ret
        exact ⟨ret_bool (by rw [hr.out, hhead.out, Bool.true_or]), stepB hb hb1⟩
      | false =>
        go_wp2_with ((with_reducible refine HC.out.mono ?_); rintro r w1 ⟨rfl, hb1⟩)
        go_roundw
        case rel => exact ⟨i + 1, by omega, .inl (by omega), by go_num, by show _ = _; rw [hr.out, hhead.out, Bool.false_or], stepB hb hb1⟩
        case measure => simp [intOf]; omega
    · have hlt2 : ¬ (i : Int) ≤ hi := by omega
      have he := Lib.hid (rg_empty (f := h) (show hi < i by omega))
      go_wp2
      go_ret
      exact ⟨ret_bool (by rw [hr.out, he.out]), hb⟩
section
variable {P : World → Prop} {n : Nat}
theorem rel_empty : RelP P n 115 #[] fun i j => i == j := ⟨enters_of Try.func115 (by kernel_rfl) rfl, fun X _ i j _ _ => by
  show Calls Try.prog 115 #[.int .i64 i, .int .i64 j] X fun e X' => e = .returned (.bool (i == j)) ∧ Below X.heap.size X X'
  go_enter Try.func115, Try.ntmps115
  go_wp2
  go_ret
  exact ⟨ret_bool (cast_beq i j), Below.refl _ _⟩⟩
theorem rel_none : RelP P n 129 #[] fun i j => false := ⟨enters_of Try.func129 (by kernel_rfl) rfl, fun X _ i j _ _ => by
  show Calls Try.prog 129 #[.int .i64 i, .int .i64 j] X fun e X' => e = .returned (.bool false) ∧ Below X.heap.size X X'
  go_enter Try.func129, Try.ntmps129
  go_wp2
  go_ret
  exact ⟨rfl, Below.refl _ _⟩⟩
set_option maxHeartbeats 2000000 in
theorem rel_not (hP : Clo P) {ba : Nat} {sa : Value} {ma : Nat → Nat → Bool} (ca : ∀ X, P X → X.cell? ⟨ba, 0, none⟩ = some (atF sa)) (A : AtP P n sa ma) :
    RelP P n 122 #[.pointer (some ⟨ba, 0, none⟩)] fun i j => !(ma i j) := ⟨enters_of Try.func122 (by kernel_rfl) rfl, fun X hX i j hij hj => by
  show Calls Try.prog 122 #[.int .i64 i, .int .i64 j, .pointer (some ⟨ba, 0, none⟩)] X fun e X' => e = .returned (.bool (!(ma i j))) ∧ Below X.heap.size X X'
  have c1 := ca X hX
  have HA := Lib.hid (A X hX i j hij hj)
  clear ca A hP hX
  generalize ma i j = b at *
  go_enter Try.func122, Try.ntmps122
  go_wp2_with (go_at_call 44; ((with_reducible refine HA.out.mono ?_); rintro r w1 ⟨rfl, hb1⟩))
  go_ret
  exact ⟨rfl, hb1⟩⟩
set_option maxHeartbeats 2000000 in
theorem rel_alt (hP : Clo P) {ba bb : Nat} {sa sb : Value} {ma mb : Nat → Nat → Bool} (ca : ∀ X, P X → X.cell? ⟨ba, 0, none⟩ = some (atF sa)) (A : AtP P n sa ma) (cb : ∀ X, P X → X.cell? ⟨bb, 0, none⟩ = some (atF sb)) (B : AtP P n sb mb) :
    RelP P n 120 #[.pointer (some ⟨ba, 0, none⟩), .pointer (some ⟨bb, 0, none⟩)] fun i j => ma i j || mb i j := ⟨enters_of Try.func120 (by kernel_rfl) rfl, fun X hX i j hij hj => by
  show Calls Try.prog 120 #[.int .i64 i, .int .i64 j, .pointer (some ⟨ba, 0, none⟩), .pointer (some ⟨bb, 0, none⟩)] X fun e X' => e = .returned (.bool (ma i j || mb i j)) ∧ Below X.heap.size X X'
  have c1 := ca X hX
  have HX := Lib.hid hX
  have HP := Lib.hid hP
  have HA := Lib.hid (A X hX i j hij hj)
  have HB := Lib.hid fun Y (hY : P Y) => B Y hY i j hij hj
  have HCb := Lib.hid cb
  clear ca cb A B hP hX
  generalize ma i j = x at *
  generalize mb i j = y at *
  cases x
  all_goals
    go_enter Try.func120, Try.ntmps120
    go_wp2_with (first
      | (go_at_call 44; ((with_reducible refine HA.out.mono ?_); rintro r w1 ⟨rfl, hb1⟩); have hX1 := Lib.hid (HP.out _ _ HX.out hb1); have c2 := HCb.out _ hX1.out)
      | (go_at_call 44; ((with_reducible refine (HB.out _ hX1.out).mono ?_); rintro r w2 ⟨rfl, hb2⟩)))
    go_ret
    first | exact ⟨rfl, hb1⟩ | exact ⟨rfl, stepB hb1 hb2⟩⟩
set_option maxHeartbeats 2000000 in
theorem rel_and (hP : Clo P) {ba bb : Nat} {sa sb : Value} {ma mb : Nat → Nat → Bool} (ca : ∀ X, P X → X.cell? ⟨ba, 0, none⟩ = some (atF sa)) (A : AtP P n sa ma) (cb : ∀ X, P X → X.cell? ⟨bb, 0, none⟩ = some (atF sb)) (B : AtP P n sb mb) :
    RelP P n 121 #[.pointer (some ⟨ba, 0, none⟩), .pointer (some ⟨bb, 0, none⟩)] fun i j => ma i j && mb i j := ⟨enters_of Try.func121 (by kernel_rfl) rfl, fun X hX i j hij hj => by
  show Calls Try.prog 121 #[.int .i64 i, .int .i64 j, .pointer (some ⟨ba, 0, none⟩), .pointer (some ⟨bb, 0, none⟩)] X fun e X' => e = .returned (.bool (ma i j && mb i j)) ∧ Below X.heap.size X X'
  have c1 := ca X hX
  have HX := Lib.hid hX
  have HP := Lib.hid hP
  have HA := Lib.hid (A X hX i j hij hj)
  have HB := Lib.hid fun Y (hY : P Y) => B Y hY i j hij hj
  have HCb := Lib.hid cb
  clear ca cb A B hP hX
  generalize ma i j = x at *
  generalize mb i j = y at *
  cases x
  all_goals
    go_enter Try.func121, Try.ntmps121
    go_wp2_with (first
      | (go_at_call 44; ((with_reducible refine HA.out.mono ?_); rintro r w1 ⟨rfl, hb1⟩); have hX1 := Lib.hid (HP.out _ _ HX.out hb1); have c2 := HCb.out _ hX1.out)
      | (go_at_call 44; ((with_reducible refine (HB.out _ hX1.out).mono ?_); rintro r w2 ⟨rfl, hb2⟩)))
    go_ret
    first | exact ⟨rfl, hb1⟩ | exact ⟨rfl, stepB hb1 hb2⟩⟩
end
end Go.Proofs.Yteckkbjpeckjmaa.Rx
/- Relations as function values (package match): letters, concatenations, repetitions, look-arounds. -/
namespace Go.Proofs.Yteckkbjpeckjmaa.Rx
open Go Go.RowKit Go.Proofs.Yteckkbjpeckjmaa
set_option linter.unusedVariables false
set_option maxRecDepth 100000
/-- A condition, and a box of an int that is known besides. -/
def WithI (P : World → Prop) (b i : Nat) : World → Prop := fun X => P X ∧ X.heap[b]? = some (.cells #[.int .i64 i] 3 (0, 0))
theorem WithI.clo {P : World → Prop} (hP : Clo P) (b i : Nat) : Clo (WithI P b i) := fun X Y h hb => ⟨hP X Y h.1 hb, (hb.block b (Array.getElem?_eq_some_iff.1 h.2).1).trans h.2⟩
theorem cell_box {X : World} {b : Nat} {v : Value} {t : TypeId} (h : X.heap[b]? = some (.cells #[v] t (0, 0))) : X.cell? ⟨b, 0, none⟩ = some v := by simp [World.cell?, h]
theorem box_new (w : World) (v : Value) (t : TypeId) : (w.alloc (.cells #[v] t)).heap[w.heap.size]? = some (.cells #[v] t (0, 0)) := World.alloc_heap_new w _
theorem box_old {w : World} {b : Nat} {o o' : Obj} (h : w.heap[b]? = some o) : (w.alloc o').heap[b]? = some o := (Below.heap_alloc w o' b (Array.getElem?_eq_some_iff.1 h).1).trans h
section
variable {P : World → Prop} {n : Nat}
set_option maxHeartbeats 2000000 in
theorem rel_letter (hP : Clo P) (hn : n ≤ 1000) {bc bw p q : Nat} {A : Option Addr} {word : List Nat} {c : Nat} (hlen : word.length = n) (hw8 : ∀ x ∈ word, x < 256) (hp : p < 256) (hq : q < 256)
    (c0 : ∀ X, P X → X.cell? ⟨bc, 0, none⟩ = some (.int .u8 p)) (c1 : ∀ X, P X → X.cell? ⟨bc, 1, none⟩ = some (.int .u8 q)) (cw : ∀ X, P X → X.cell? ⟨bw, 0, none⟩ = some (.slice A n c)) (hB : ∀ X, P X → Bys X A word) :
    RelP P n 116 #[.pointer (some ⟨bc, 0, none⟩), .pointer (some ⟨bw, 0, none⟩)] fun i j => j == i + 1 && cHas p q (word.getD i 0) := ⟨enters_of Try.func116 (by kernel_rfl) rfl, fun X hX i j hij hj => by
  show Calls Try.prog 116 #[.int .i64 i, .int .i64 j, .pointer (some ⟨bc, 0, none⟩), .pointer (some ⟨bw, 0, none⟩)] X fun e X' => e = .returned (.bool (j == i + 1 && cHas p q (word.getD i 0))) ∧ Below X.heap.size X X'
  have hk2 : ∀ Y, Below X.heap.size X Y → P Y := fun Y hY => hP X Y hX hY
  haveI : Nonempty (Cls fun Y => Below X.heap.size X Y) := ⟨⟨_, Below.refl _ _⟩⟩
  by_cases he : j = i + 1
  · obtain ⟨ad, rfl, hcw⟩ := (hB X hX).at_ (j := i) (by omega)
    have hcell : ∀ r : Cls (fun Y => Below X.heap.size X Y), r.w.cell? (ad.add i) = some (.int .u8 (wd word i : Nat)) := fun r => by
      obtain ⟨ad', h1, h2⟩ := (hB r.w (hk2 _ r.h)).at_ (j := i) (by omega)
      cases h1; exact h2
    have l0 : ∀ r : Cls (fun Y => Below X.heap.size X Y), r.w.cell? ⟨bc, 0, none⟩ = some (.int .u8 p) := fun r => c0 _ (hk2 _ r.h)
    have l1 : ∀ r : Cls (fun Y => Below X.heap.size X Y), r.w.cell? ⟨bc, 1, none⟩ = some (.int .u8 q) := fun r => c1 _ (hk2 _ r.h)
    have l2 : ∀ r : Cls (fun Y => Below X.heap.size X Y), r.w.cell? ⟨bw, 0, none⟩ = some (.slice (some ad) n c) := fun r => cw _ (hk2 _ r.h)
    have hx8 : wd word i < 256 := by
      unfold wd
      rw [List.getD_eq_getElem?_getD, List.getElem?_eq_getElem (by omega)]
      exact hw8 _ (List.getElem_mem _)
    have HH := Lib.hid fun Y => mHas_any p q (wd word i) Y hp hq hx8
    have e1 : ((j : Int) == (i : Int) + 1) = true := by rw [beq_iff_eq]; omega
    have e2 : IntKind.i64.wrap ((i : Int) + 1) = (i : Int) + 1 := IntWalk.i64_in _ (by omega)
    have h0 : (i : Int) < n := by omega
    have hR : (j == i + 1 && cHas p q (word.getD i 0)) = cHas p q (wd word i) := by rw [beq_iff_eq.2 he, Bool.true_and]; rfl
    rw [hR]
    generalize cHas p q (wd word i) = b at *
    generalize wd word i = x at *
    clear hB hX hcw c0 c1 cw hP hk2 hR he
    go_enter Try.func116, Try.ntmps116
    go_wp2
    refine wp_region_cls (fun Y => Below X.heap.size X Y) (by kernel_rfl) (by kernel_rfl) (drewN_below X 1) ?_
    repeat (go_big_quiet_step (first | (go_at_call 99; rename_i r; refine (HH.out r.w).mono ?_; rintro e w4 ⟨rfl, hb⟩; exact ⟨rfl, ⟨⟨w4, stepB r.h hb⟩, rfl⟩⟩)))
    refine wpQuiet_nil ?_
    rintro _ ⟨r, rfl⟩
    have hX := r.h
    generalize r.w = Y at hX ⊢
    go_wp2
    go_ret
    exact ⟨rfl, hX⟩
  · have e1 : ((j : Int) == (i : Int) + 1) = false := by rw [beq_eq_false_iff_ne]; omega
    have e2 : IntKind.i64.wrap ((i : Int) + 1) = (i : Int) + 1 := IntWalk.i64_in _ (by omega)
    have hR : (j == i + 1 && cHas p q (word.getD i 0)) = false := by rw [beq_eq_false_iff_ne.2 he, Bool.false_and]
    rw [hR]
    clear hB hX c0 c1 cw hP hk2 hR he
    go_enter Try.func116, Try.ntmps116
    go_wp2
    refine wp_region_cls (fun Y => Below X.heap.size X Y) (by kernel_rfl) (by kernel_rfl) (drewN_below X 1) ?_
    repeat (go_big_quiet_step (fail))
    refine wpQuiet_nil ?_
    rintro _ ⟨r, rfl⟩
    have hX := r.h
    generalize r.w = Y at hX ⊢
    go_wp2
    go_ret
    exact ⟨rfl, hX⟩⟩
set_option maxHeartbeats 2000000 in
theorem in_cat (hP : Clo P) {ba bb bi bj i j : Nat} {sa sb : Value} {ma mb : Nat → Nat → Bool} (ca : ∀ X, P X → X.cell? ⟨ba, 0, none⟩ = some (atF sa)) (A : AtP P n sa ma) (cb : ∀ X, P X → X.cell? ⟨bb, 0, none⟩ = some (atF sb)) (B : AtP P n sb mb)
    (ci : ∀ X, P X → X.cell? ⟨bi, 0, none⟩ = some (.int .i64 i)) (cj : ∀ X, P X → X.cell? ⟨bj, 0, none⟩ = some (.int .i64 j)) (X : World) (hX : P X) (k : Nat) (h1 : i ≤ k) (h2 : k ≤ j) (hj : j ≤ n) :
    Calls Try.prog 119 #[.int .i64 k, .pointer (some ⟨ba, 0, none⟩), .pointer (some ⟨bi, 0, none⟩), .pointer (some ⟨bb, 0, none⟩), .pointer (some ⟨bj, 0, none⟩)] X fun e X' => e = .returned (.bool (ma i k && mb k j)) ∧ Below X.heap.size X X' := by
  have c1 := ca X hX
  have c2 := ci X hX
  have HX := Lib.hid hX
  have HP := Lib.hid hP
  have HA := Lib.hid (A X hX i k h1 (by omega))
  have HB := Lib.hid fun Y (hY : P Y) => B Y hY k j h2 hj
  have HCb := Lib.hid cb
  have HCj := Lib.hid cj
  clear ca cb ci cj A B hP hX
  generalize ma i k = x at *
  generalize mb k j = y at *
  cases x
  all_goals
    go_enter Try.func119, Try.ntmps119
    go_wp2_with (first
      | (go_at_call 44; ((with_reducible refine HA.out.mono ?_); rintro r w1 ⟨rfl, hb1⟩); have hX1 := Lib.hid (HP.out _ _ HX.out hb1); have c3 := HCb.out _ hX1.out; have c4 := HCj.out _ hX1.out)
      | (go_at_call 44; ((with_reducible refine (HB.out _ hX1.out).mono ?_); rintro r w2 ⟨rfl, hb2⟩)))
    go_ret
    first | exact ⟨rfl, hb1⟩ | exact ⟨rfl, stepB hb1 hb2⟩
set_option maxHeartbeats 2000000 in
theorem in_star (hP : Clo P) {ba bb bi bj i j : Nat} {sa sb : Value} {ma mb : Nat → Nat → Bool} (ca : ∀ X, P X → X.cell? ⟨ba, 0, none⟩ = some (atF sa)) (A : AtP P n sa ma) (cb : ∀ X, P X → X.cell? ⟨bb, 0, none⟩ = some (atF sb)) (B : AtP P n sb mb)
    (ci : ∀ X, P X → X.cell? ⟨bi, 0, none⟩ = some (.int .i64 i)) (cj : ∀ X, P X → X.cell? ⟨bj, 0, none⟩ = some (.int .i64 j)) (X : World) (hX : P X) (k : Nat) (h1 : i ≤ k) (h2 : k ≤ j) (hj : j ≤ n) :
    Calls Try.prog 124 #[.int .i64 k, .pointer (some ⟨ba, 0, none⟩), .pointer (some ⟨bi, 0, none⟩), .pointer (some ⟨bb, 0, none⟩), .pointer (some ⟨bj, 0, none⟩)] X fun e X' => e = .returned (.bool (ma i k && mb k j)) ∧ Below X.heap.size X X' := by
  have c1 := ca X hX
  have c2 := ci X hX
  have HX := Lib.hid hX
  have HP := Lib.hid hP
  have HA := Lib.hid (A X hX i k h1 (by omega))
  have HB := Lib.hid fun Y (hY : P Y) => B Y hY k j h2 hj
  have HCb := Lib.hid cb
  have HCj := Lib.hid cj
  clear ca cb ci cj A B hP hX
  generalize ma i k = x at *
  generalize mb k j = y at *
  cases x
  all_goals
    go_enter Try.func124, Try.ntmps124
    go_wp2_with (first
      | (go_at_call 44; ((with_reducible refine HA.out.mono ?_); rintro r w1 ⟨rfl, hb1⟩); have hX1 := Lib.hid (HP.out _ _ HX.out hb1); have c3 := HCb.out _ hX1.out; have c4 := HCj.out _ hX1.out)
      | (go_at_call 44; ((with_reducible refine (HB.out _ hX1.out).mono ?_); rintro r w2 ⟨rfl, hb2⟩)))
    go_ret
    first | exact ⟨rfl, hb1⟩ | exact ⟨rfl, stepB hb1 hb2⟩
set_option maxHeartbeats 2000000 in
theorem in_ahead (hP : Clo P) {ba bi i : Nat} {sa : Value} {ma : Nat → Nat → Bool} (ca : ∀ X, P X → X.cell? ⟨ba, 0, none⟩ = some (atF sa)) (A : AtP P n sa ma) (ci : ∀ X, P X → X.cell? ⟨bi, 0, none⟩ = some (.int .i64 i)) (X : World) (hX : P X) (k : Nat) (h1 : i ≤ k) (h2 : k ≤ n) :
    Calls Try.prog 126 #[.int .i64 k, .pointer (some ⟨ba, 0, none⟩), .pointer (some ⟨bi, 0, none⟩)] X fun e X' => e = .returned (.bool (ma i k)) ∧ Below X.heap.size X X' := by
  have c1 := ca X hX
  have c2 := ci X hX
  have HA := Lib.hid (A X hX i k h1 h2)
  clear ca ci A hP hX
  generalize ma i k = x at *
  go_enter Try.func126, Try.ntmps126
  go_wp2_with (go_at_call 44; ((with_reducible refine HA.out.mono ?_); rintro r w1 ⟨rfl, hb1⟩))
  go_ret
  exact ⟨rfl, hb1⟩
set_option maxHeartbeats 2000000 in
theorem in_behind (hP : Clo P) {ba bi i : Nat} {sa : Value} {ma : Nat → Nat → Bool} (ca : ∀ X, P X → X.cell? ⟨ba, 0, none⟩ = some (atF sa)) (A : AtP P n sa ma) (ci : ∀ X, P X → X.cell? ⟨bi, 0, none⟩ = some (.int .i64 i)) (X : World) (hX : P X) (k : Nat) (h1 : k ≤ i) (h2 : i ≤ n) :
    Calls Try.prog 128 #[.int .i64 k, .pointer (some ⟨ba, 0, none⟩), .pointer (some ⟨bi, 0, none⟩)] X fun e X' => e = .returned (.bool (ma k i)) ∧ Below X.heap.size X X' := by
  have c1 := ca X hX
  have c2 := ci X hX
  have HA := Lib.hid (A X hX k i h1 h2)
  clear ca ci A hP hX
  generalize ma k i = x at *
  go_enter Try.func128, Try.ntmps128
  go_wp2_with (go_at_call 44; ((with_reducible refine HA.out.mono ?_); rintro r w1 ⟨rfl, hb1⟩))
  go_ret
  exact ⟨rfl, hb1⟩
set_option maxHeartbeats 2000000 in
theorem rel_cat (hP : Clo P) (hn : n ≤ 1000) {ba bb : Nat} {sa sb : Value} {ma mb : Nat → Nat → Bool} (ca : ∀ X, P X → X.cell? ⟨ba, 0, none⟩ = some (atF sa)) (A : AtP P n sa ma) (cb : ∀ X, P X → X.cell? ⟨bb, 0, none⟩ = some (atF sb)) (B : AtP P n sb mb) :
    RelP P n 117 #[.pointer (some ⟨ba, 0, none⟩), .pointer (some ⟨bb, 0, none⟩)] fun i j => rg i j fun k => ma i k && mb k j := ⟨enters_of Try.func117 (by kernel_rfl) rfl, fun X hX i j hij hj => by
  show Calls Try.prog 117 #[.int .i64 i, .int .i64 j, .pointer (some ⟨ba, 0, none⟩), .pointer (some ⟨bb, 0, none⟩)] X fun e X' => e = .returned (.bool (rg i j fun k => ma i k && mb k j)) ∧ Below X.heap.size X X'
  have b1 := box_old (o' := .cells #[.int .i64 j] 3) (box_new X (.int .i64 i) 3)
  have b2 := box_new (X.alloc (.cells #[.int .i64 i] 3)) (.int .i64 j) 3
  have hbl := (Cb.bal (Cb.bal (Below.refl X.heap.size X) (.cells #[.int .i64 i] 3)) (.cells #[.int .i64 j] 3))
  have hX2 := hP _ _ hX hbl
  rw [World.size_alloc] at b2
  have HS := some_any (WithI (WithI P X.heap.size i) (X.heap.size + 1) j) (WithI.clo (WithI.clo hP _ _) _ _) 119 #[.pointer (some ⟨ba, 0, none⟩), .pointer (some ⟨X.heap.size, 0, none⟩), .pointer (some ⟨bb, 0, none⟩), .pointer (some ⟨X.heap.size + 1, 0, none⟩)] (enters_of Try.func119 (by kernel_rfl) rfl) (fun k => ma i k && mb k j) i j (by omega) (by omega)
    (fun Y hY k h1 h2 => in_cat (WithI.clo (WithI.clo hP _ _) _ _) (fun Z hZ => ca Z hZ.1.1) (fun Z hZ => A Z hZ.1.1) (fun Z hZ => cb Z hZ.1.1) (fun Z hZ => B Z hZ.1.1) (fun Z hZ => cell_box hZ.1.2) (fun Z hZ => cell_box hZ.2) Y hY k h1 h2 hj) _ ⟨⟨hX2, b1⟩, b2⟩
  have HS := Lib.hid HS
  have HB := Lib.hid hbl
  have q1 := cell_box b1
  have q2 := cell_box b2
  clear ca cb A B hP hX hX2 b1 b2 hbl
  generalize rg i j (fun k => ma i k && mb k j) = x at *
  go_enter Try.func117, Try.ntmps117
  go_wp2_with (go_at_call 118; ((with_reducible refine HS.out.mono ?_); rintro r w1 ⟨rfl, hb1⟩))
  go_ret
  exact ⟨rfl, stepB HB.out hb1⟩⟩
set_option maxHeartbeats 2000000 in
theorem rel_star (hP : Clo P) (hn : n ≤ 1000) {ba bb : Nat} {sa sb : Value} {ma mb : Nat → Nat → Bool} (ca : ∀ X, P X → X.cell? ⟨ba, 0, none⟩ = some (atF sa)) (A : AtP P n sa ma) (cb : ∀ X, P X → X.cell? ⟨bb, 0, none⟩ = some (atF sb)) (B : AtP P n sb mb) :
    RelP P n 123 #[.pointer (some ⟨ba, 0, none⟩), .pointer (some ⟨bb, 0, none⟩)] fun i j => i == j || rg (i + 1) j fun k => ma i k && mb k j := ⟨enters_of Try.func123 (by kernel_rfl) rfl, fun X hX i j hij hj => by
  show Calls Try.prog 123 #[.int .i64 i, .int .i64 j, .pointer (some ⟨ba, 0, none⟩), .pointer (some ⟨bb, 0, none⟩)] X fun e X' => e = .returned (.bool (i == j || rg (i + 1) j fun k => ma i k && mb k j)) ∧ Below X.heap.size X X'
  have b1 := box_old (o' := .cells #[.int .i64 j] 3) (box_new X (.int .i64 i) 3)
  have b2 := box_new (X.alloc (.cells #[.int .i64 i] 3)) (.int .i64 j) 3
  have hbl := (Cb.bal (Cb.bal (Below.refl X.heap.size X) (.cells #[.int .i64 i] 3)) (.cells #[.int .i64 j] 3))
  have hX2 := hP _ _ hX hbl
  rw [World.size_alloc] at b2
  have HS := some_any (WithI (WithI P X.heap.size i) (X.heap.size + 1) j) (WithI.clo (WithI.clo hP _ _) _ _) 124 #[.pointer (some ⟨ba, 0, none⟩), .pointer (some ⟨X.heap.size, 0, none⟩), .pointer (some ⟨bb, 0, none⟩), .pointer (some ⟨X.heap.size + 1, 0, none⟩)] (enters_of Try.func124 (by kernel_rfl) rfl) (fun k => ma i k && mb k j) (i + 1) j (by omega) (by omega)
    (fun Y hY k h1 h2 => in_star (WithI.clo (WithI.clo hP _ _) _ _) (fun Z hZ => ca Z hZ.1.1) (fun Z hZ => A Z hZ.1.1) (fun Z hZ => cb Z hZ.1.1) (fun Z hZ => B Z hZ.1.1) (fun Z hZ => cell_box hZ.1.2) (fun Z hZ => cell_box hZ.2) Y hY k (by omega) h2 hj) _ ⟨⟨hX2, b1⟩, b2⟩
  rw [show (((i + 1 : Nat)) : Int) = (i : Int) + 1 from rfl] at HS
  have HS := Lib.hid HS
  have HB := Lib.hid hbl
  have q1 := cell_box b1
  have q2 := cell_box b2
  clear ca cb A B hP hX hX2 b1 b2 hbl
  generalize rg (i + 1) j (fun k => ma i k && mb k j) = x at *
  have hi2 : (i : Int) ≤ 1000 := by omega
  obtain ⟨t, ht, ht'⟩ : ∃ t : Bool, ((i : Int) == (j : Int)) = t ∧ (i == j) = t := ⟨_, cast_beq i j, rfl⟩
  rw [ht']
  cases t
  all_goals
    go_enter Try.func123, Try.ntmps123
    go_wp2_with (go_at_call 118; ((with_reducible refine HS.out.mono ?_); rintro r w1 ⟨rfl, hb1⟩))
    go_ret
    first | exact ⟨rfl, stepB HB.out hb1⟩ | exact ⟨rfl, HB.out⟩⟩
set_option maxHeartbeats 2000000 in
theorem rel_ahead (hP : Clo P) (hn : n ≤ 1000) {ba bw c : Nat} {sa : Value} {aw : Option Addr} {ma : Nat → Nat → Bool} (ca : ∀ X, P X → X.cell? ⟨ba, 0, none⟩ = some (atF sa)) (A : AtP P n sa ma) (cw : ∀ X, P X → X.cell? ⟨bw, 0, none⟩ = some (.slice aw n c)) :
    RelP P n 125 #[.pointer (some ⟨bw, 0, none⟩), .pointer (some ⟨ba, 0, none⟩)] fun i j => i == j && rg i n fun k => ma i k := ⟨enters_of Try.func125 (by kernel_rfl) rfl, fun X hX i j hij hj => by
  show Calls Try.prog 125 #[.int .i64 i, .int .i64 j, .pointer (some ⟨bw, 0, none⟩), .pointer (some ⟨ba, 0, none⟩)] X fun e X' => e = .returned (.bool (i == j && rg i n fun k => ma i k)) ∧ Below X.heap.size X X'
  have b1 := box_new X (.int .i64 i) 3
  have hbl := (Cb.bal (Below.refl X.heap.size X) (.cells #[.int .i64 i] 3))
  have hX2 := hP _ _ hX hbl
  have q2 := cw _ hX2
  have HS := some_any (WithI P X.heap.size i) (WithI.clo hP _ _) 126 #[.pointer (some ⟨ba, 0, none⟩), .pointer (some ⟨X.heap.size, 0, none⟩)] (enters_of Try.func126 (by kernel_rfl) rfl) (fun k => ma i k) i n (by omega) (by omega)
    (fun Y hY k h1 h2 => in_ahead (WithI.clo hP _ _) (fun Z hZ => ca Z hZ.1) (fun Z hZ => A Z hZ.1) (fun Z hZ => cell_box hZ.2) Y hY k h1 h2) _ ⟨hX2, b1⟩
  have HS := Lib.hid HS
  have HB := Lib.hid hbl
  have q1 := cell_box b1
  clear ca cw A hP hX hX2 b1 hbl
  generalize rg i n (fun k => ma i k) = x at *
  obtain ⟨t, ht, ht'⟩ : ∃ t : Bool, ((i : Int) == (j : Int)) = t ∧ (i == j) = t := ⟨_, cast_beq i j, rfl⟩
  rw [ht']
  cases t
  all_goals
    go_enter Try.func125, Try.ntmps125
    go_wp2_with (go_at_call 118; ((with_reducible refine HS.out.mono ?_); rintro r w1 ⟨rfl, hb1⟩))
    go_ret
    first | exact ⟨rfl, stepB HB.out hb1⟩ | exact ⟨rfl, HB.out⟩⟩
set_option maxHeartbeats 2000000 in
theorem rel_behind (hP : Clo P) (hn : n ≤ 1000) {ba : Nat} {sa : Value} {ma : Nat → Nat → Bool} (ca : ∀ X, P X → X.cell? ⟨ba, 0, none⟩ = some (atF sa)) (A : AtP P n sa ma) :
    RelP P n 127 #[.pointer (some ⟨ba, 0, none⟩)] fun i j => i == j && rg 0 i fun k => ma k i := ⟨enters_of Try.func127 (by kernel_rfl) rfl, fun X hX i j hij hj => by
  show Calls Try.prog 127 #[.int .i64 i, .int .i64 j, .pointer (some ⟨ba, 0, none⟩)] X fun e X' => e = .returned (.bool (i == j && rg 0 i fun k => ma k i)) ∧ Below X.heap.size X X'
  have b1 := box_new X (.int .i64 i) 3
  have hbl := (Cb.bal (Below.refl X.heap.size X) (.cells #[.int .i64 i] 3))
  have hX2 := hP _ _ hX hbl
  have HS := some_any (WithI P X.heap.size i) (WithI.clo hP _ _) 128 #[.pointer (some ⟨ba, 0, none⟩), .pointer (some ⟨X.heap.size, 0, none⟩)] (enters_of Try.func128 (by kernel_rfl) rfl) (fun k => ma k i) 0 i (by omega) (by omega)
    (fun Y hY k h1 h2 => in_behind (WithI.clo hP _ _) (fun Z hZ => ca Z hZ.1) (fun Z hZ => A Z hZ.1) (fun Z hZ => cell_box hZ.2) Y hY k h2 (by omega)) _ ⟨hX2, b1⟩
  have HS : Hid (Calls Try.prog 118 #[.int .i64 0, .int .i64 i, .func (.func 128) #[] #[.pointer (some ⟨ba, 0, none⟩), .pointer (some ⟨X.heap.size, 0, none⟩)]] (X.alloc (.cells #[.int .i64 i] 3)) fun e w' => e = .returned (.bool (rg 0 i (fun k => ma k i))) ∧ Below (X.alloc (.cells #[.int .i64 i] 3)).heap.size (X.alloc (.cells #[.int .i64 i] 3)) w') := HS
  have HB := Lib.hid hbl
  have q1 := cell_box b1
  clear ca A hP hX hX2 b1 hbl
  generalize rg 0 i (fun k => ma k i) = x at *
  obtain ⟨t, ht, ht'⟩ : ∃ t : Bool, ((i : Int) == (j : Int)) = t ∧ (i == j) = t := ⟨_, cast_beq i j, rfl⟩
  rw [ht']
  cases t
  all_goals
    go_enter Try.func127, Try.ntmps127
    go_wp2_with (go_at_call 118; ((with_reducible refine HS.out.mono ?_); rintro r w1 ⟨rfl, hb1⟩))
    go_ret
    first | exact ⟨rfl, stepB HB.out hb1⟩ | exact ⟨rfl, HB.out⟩⟩
end
end Go.Proofs.Yteckkbjpeckjmaa.Rx
/- The relation of a piece (package match): meaning. -/
namespace Go.Proofs.Yteckkbjpeckjmaa.Rx
open Go Go.RowKit Go.Proofs.Yteckkbjpeckjmaa
set_option linter.unusedVariables false
set_option maxRecDepth 100000
/-- From where to where a piece matches, by what its children match and by what it matches itself further right. -/
def stepV (op p q : Nat) (word : List Nat) (n : Nat) (ma mb mr : Nat → Nat → Bool) (i j : Nat) : Bool :=
  if op = 1 then false else if op = 2 then i == j else if op = 3 then j == i + 1 && cHas p q (word.getD i 0)
  else if op = 4 then rg i j (fun k => ma i k && mb k j) else if op = 5 then ma i j || mb i j else if op = 6 then ma i j && mb i j
  else if op = 7 then !(ma i j) else if op = 8 then (i == j || rg (i + 1) j fun k => ma i k && mr k j)
  else if op = 9 then (i == j && rg i n fun k => ma i k) else (i == j && rg 0 i fun k => ma k i)
/-- What meaning answers: a relation as a function value. -/
def MeanPost (op p q n : Nat) (A : Option Addr) (word : List Nat) (c : Nat) (sa sb sr : Value) (w : World) (e : Ending) (w' : World) : Prop :=
  ∃ fv cp, e = .returned (.func (.func fv) #[] cp) ∧ Below w.heap.size w w' ∧
    ∀ (P : World → Prop) (ma mb mr : Nat → Nat → Bool), Clo P → (∀ X, P X → ∀ b, w.heap.size ≤ b → b < w'.heap.size → X.heap[b]? = w'.heap[b]?) → (∀ X, P X → Bys X A word) →
      (4 ≤ op → AtP P n sa ma) → (4 ≤ op → op ≤ 6 → AtP P n sb mb) → (op = 8 → AtP P n sr mr) → RelP P n fv cp (stepV op p q word n ma mb mr)
section
variable (w : World) (o0 o1 o2 o3 o4 o5 : Obj)
theorem at5_0 : (((((w.alloc o0).alloc o1).alloc o2).alloc o3).alloc o4).heap[w.heap.size]? = some o0 := box_old (box_old (box_old (box_old (World.alloc_heap_new w o0))))
theorem at5_1 : (((((w.alloc o0).alloc o1).alloc o2).alloc o3).alloc o4).heap[w.heap.size + 1]? = some o1 := by
  have := World.alloc_heap_new (w.alloc o0) o1
  rw [World.size_alloc] at this
  exact box_old (box_old (box_old this))
theorem at5_2 : (((((w.alloc o0).alloc o1).alloc o2).alloc o3).alloc o4).heap[w.heap.size + 2]? = some o2 := by
  have := World.alloc_heap_new ((w.alloc o0).alloc o1) o2
  rw [World.size_alloc, World.size_alloc] at this
  exact box_old (box_old this)
theorem at5_3 : (((((w.alloc o0).alloc o1).alloc o2).alloc o3).alloc o4).heap[w.heap.size + 3]? = some o3 := by
  have := World.alloc_heap_new (((w.alloc o0).alloc o1).alloc o2) o3
  rw [World.size_alloc, World.size_alloc, World.size_alloc] at this
  exact box_old this
theorem at5_4 : (((((w.alloc o0).alloc o1).alloc o2).alloc o3).alloc o4).heap[w.heap.size + 4]? = some o4 := by
  have := World.alloc_heap_new ((((w.alloc o0).alloc o1).alloc o2).alloc o3) o4
  rwa [World.size_alloc, World.size_alloc, World.size_alloc, World.size_alloc] at this
theorem below5 : Below w.heap.size w (((((w.alloc o0).alloc o1).alloc o2).alloc o3).alloc o4) := Cb.bal (Cb.bal (Cb.bal (Cb.bal (Cb.bal (Below.refl _ _) _) _) _) _) _
theorem size5 : (((((w.alloc o0).alloc o1).alloc o2).alloc o3).alloc o4).heap.size = w.heap.size + 5 := by simp
end
set_option maxHeartbeats 8000000 in
theorem meaning_any (op p q : Nat) (a b : Int) (A : Option Addr) (word : List Nat) (n c : Nat) (sa sb sr : Value) (w : World) (ho : 1 ≤ op ∧ op ≤ 10) (hp : p < 256) (hq : q < 256) (hn : n ≤ 1000) (hlen : word.length = n) (hw8 : ∀ x ∈ word, x < 256) :
    Calls Try.prog 97 #[.agg #[.int .u8 op, .int .u8 p, .int .u8 q, .int .i64 a, .int .i64 b], .slice A n c, atF sa, atF sb, atF sr] w (MeanPost op p q n A word c sa sb sr w) := by
  have hz := size5 w (.cells #[.int .u8 op, .int .u8 p, .int .u8 q, .int .i64 a, .int .i64 b] 32) (.cells #[.slice A n c] 39) (.cells #[atF sa] 134) (.cells #[atF sb] 134) (.cells #[atF sr] 134)
  have hbl := below5 w (.cells #[.int .u8 op, .int .u8 p, .int .u8 q, .int .i64 a, .int .i64 b] 32) (.cells #[.slice A n c] 39) (.cells #[atF sa] 134) (.cells #[atF sb] 134) (.cells #[atF sr] 134)
  have k0 := at5_0 w (.cells #[.int .u8 op, .int .u8 p, .int .u8 q, .int .i64 a, .int .i64 b] 32) (.cells #[.slice A n c] 39) (.cells #[atF sa] 134) (.cells #[atF sb] 134) (.cells #[atF sr] 134)
  have k1 := at5_1 w (.cells #[.int .u8 op, .int .u8 p, .int .u8 q, .int .i64 a, .int .i64 b] 32) (.cells #[.slice A n c] 39) (.cells #[atF sa] 134) (.cells #[atF sb] 134) (.cells #[atF sr] 134)
  have k2 := at5_2 w (.cells #[.int .u8 op, .int .u8 p, .int .u8 q, .int .i64 a, .int .i64 b] 32) (.cells #[.slice A n c] 39) (.cells #[atF sa] 134) (.cells #[atF sb] 134) (.cells #[atF sr] 134)
  have k3 := at5_3 w (.cells #[.int .u8 op, .int .u8 p, .int .u8 q, .int .i64 a, .int .i64 b] 32) (.cells #[.slice A n c] 39) (.cells #[atF sa] 134) (.cells #[atF sb] 134) (.cells #[atF sr] 134)
  have k4 := at5_4 w (.cells #[.int .u8 op, .int .u8 p, .int .u8 q, .int .i64 a, .int .i64 b] 32) (.cells #[.slice A n c] 39) (.cells #[atF sa] 134) (.cells #[atF sb] 134) (.cells #[atF sr] 134)
  have hops : op = 1 ∨ op = 2 ∨ op = 3 ∨ op = 4 ∨ op = 5 ∨ op = 6 ∨ op = 7 ∨ op = 8 ∨ op = 9 ∨ op = 10 := by omega
  obtain ⟨W5, hW5⟩ : ∃ W5, ((((w.alloc (.cells #[.int .u8 op, .int .u8 p, .int .u8 q, .int .i64 a, .int .i64 b] 32)).alloc (.cells #[.slice A n c] 39)).alloc (.cells #[atF sa] 134)).alloc (.cells #[atF sb] 134)).alloc (.cells #[atF sr] 134) = W5 := ⟨_, rfl⟩
  rw [hW5] at hz hbl k0 k1 k2 k3 k4
  have q0 : W5.cell? ⟨w.heap.size, 0, none⟩ = some (.int .u8 op) := by simp [World.cell?, k0]
  have q1 : W5.cell? ⟨w.heap.size, 1, none⟩ = some (.int .u8 p) := by simp [World.cell?, k0]
  have q2 : W5.cell? ⟨w.heap.size, 2, none⟩ = some (.int .u8 q) := by simp [World.cell?, k0]
  have HW := Lib.hid hW5
  have HK1 := Lib.hid k1
  have HK2 := Lib.hid k2
  have HK3 := Lib.hid k3
  have HK4 := Lib.hid k4
  have HZ := Lib.hid hz
  have HB := Lib.hid hbl
  have HL := Lib.hid hlen
  clear k0 k1 k2 k3 k4 hz hbl hW5 hlen ho
  go_enter Try.func97, Try.ntmps97
  go_upto_region 1 with fail
  rw [HW.out]
  have hqs : w.heap.size < W5.heap.size := by rw [HZ.out]; omega
  have HE : Hid (∀ X : World, ∀ w' : World, Below W5.heap.size W5 w' → (∀ b, w.heap.size ≤ b → b < w'.heap.size → X.heap[b]? = w'.heap[b]?) → (X.cell? ⟨w.heap.size + 1, 0, none⟩ = some (.slice A n c) ∧ X.cell? ⟨w.heap.size + 2, 0, none⟩ = some (atF sa) ∧ X.cell? ⟨w.heap.size + 3, 0, none⟩ = some (atF sb) ∧ X.cell? ⟨w.heap.size + 4, 0, none⟩ = some (atF sr))) := fun X w' hb hX => by
    have hs := hb.size
    have hz := HZ.out
    have key : ∀ k o, k < 5 → W5.heap[w.heap.size + k]? = some o → X.heap[w.heap.size + k]? = some o := fun k o hk ho => (hX _ (by omega) (by omega)).trans ((hb.block _ (by omega)).trans ho)
    exact ⟨cell_box (key 1 _ (by omega) HK1.out), cell_box (key 2 _ (by omega) HK2.out), cell_box (key 3 _ (by omega) HK3.out), cell_box (key 4 _ (by omega) HK4.out)⟩
  clear HK1 HK2 HK3 HK4 HW
  have HMP : Hid (∀ e w', (∃ fv cp, e = .returned (.func (.func fv) #[] cp) ∧ Below w.heap.size w w' ∧
    ∀ (P : World → Prop) (ma mb mr : Nat → Nat → Bool), Clo P → (∀ X, P X → ∀ b, w.heap.size ≤ b → b < w'.heap.size → X.heap[b]? = w'.heap[b]?) → (∀ X, P X → Bys X A word) →
      (4 ≤ op → AtP P n sa ma) → (4 ≤ op → op ≤ 6 → AtP P n sb mb) → (op = 8 → AtP P n sr mr) → RelP P n fv cp (stepV op p q word n ma mb mr)) → MeanPost op p q n A word c sa sb sr w e w') := fun _ _ h => h
  generalize w.heap.size = B at *
  rcases hops with rfl | rfl | rfl | rfl | rfl | rfl | rfl | rfl | rfl | rfl
  · go_wp2
    go_ret
    exact HMP.out _ _ ⟨_, _, rfl, HB.out, fun P ma mb mr hP hX hBy hA hBb hR => rel_none⟩
  · go_wp2
    go_ret
    exact HMP.out _ _ ⟨_, _, rfl, HB.out, fun P ma mb mr hP hX hBy hA hBb hR => rel_empty⟩
  · go_wp2
    go_ret
    refine HMP.out _ _ ⟨_, _, rfl, HB.out.alloc (Nat.le_of_lt hqs) _, fun P ma mb mr hP hX hBy hA hBb hR => ?_⟩
    have hE := fun X hx => HE.out X _ (Cb.bal (Below.refl W5.heap.size W5) (.cells #[.int .u8 p, .int .u8 q] 103)) (hX X hx)
    have hc := fun X hx => (hX X hx W5.heap.size (Nat.le_of_lt hqs) (by simp)).trans (World.alloc_heap_new W5 _)
    exact rel_letter hP hn HL.out hw8 hp hq (fun X hx => by simp [World.cell?, hc X hx]) (fun X hx => by simp [World.cell?, hc X hx]) (fun X hx => (hE X hx).1) hBy
  · go_wp2
    go_ret
    refine HMP.out _ _ ⟨_, _, rfl, HB.out, fun P ma mb mr hP hX hBy hA hBb hR => ?_⟩
    have hE := fun X hx => HE.out X _ (Below.refl W5.heap.size W5) (hX X hx)
    exact rel_cat hP hn (fun X hx => (hE X hx).2.1) (hA (by decide)) (fun X hx => (hE X hx).2.2.1) (hBb (by decide) (by decide))
  · go_wp2
    go_ret
    refine HMP.out _ _ ⟨_, _, rfl, HB.out, fun P ma mb mr hP hX hBy hA hBb hR => ?_⟩
    have hE := fun X hx => HE.out X _ (Below.refl W5.heap.size W5) (hX X hx)
    exact rel_alt hP (fun X hx => (hE X hx).2.1) (hA (by decide)) (fun X hx => (hE X hx).2.2.1) (hBb (by decide) (by decide))
  · go_wp2
    go_ret
    refine HMP.out _ _ ⟨_, _, rfl, HB.out, fun P ma mb mr hP hX hBy hA hBb hR => ?_⟩
    have hE := fun X hx => HE.out X _ (Below.refl W5.heap.size W5) (hX X hx)
    exact rel_and hP (fun X hx => (hE X hx).2.1) (hA (by decide)) (fun X hx => (hE X hx).2.2.1) (hBb (by decide) (by decide))
  · go_wp2
    go_ret
    refine HMP.out _ _ ⟨_, _, rfl, HB.out, fun P ma mb mr hP hX hBy hA hBb hR => ?_⟩
    have hE := fun X hx => HE.out X _ (Below.refl W5.heap.size W5) (hX X hx)
    exact rel_not hP (fun X hx => (hE X hx).2.1) (hA (by decide))
  · go_wp2
    go_ret
    refine HMP.out _ _ ⟨_, _, rfl, HB.out, fun P ma mb mr hP hX hBy hA hBb hR => ?_⟩
    have hE := fun X hx => HE.out X _ (Below.refl W5.heap.size W5) (hX X hx)
    exact rel_star hP hn (fun X hx => (hE X hx).2.1) (hA (by decide)) (fun X hx => (hE X hx).2.2.2) (hR True.intro)
  · go_wp2
    go_ret
    refine HMP.out _ _ ⟨_, _, rfl, HB.out, fun P ma mb mr hP hX hBy hA hBb hR => ?_⟩
    have hE := fun X hx => HE.out X _ (Below.refl W5.heap.size W5) (hX X hx)
    exact rel_ahead hP hn (fun X hx => (hE X hx).2.1) (hA (by decide)) (fun X hx => (hE X hx).1)
  · go_wp2
    go_ret
    refine HMP.out _ _ ⟨_, _, rfl, HB.out, fun P ma mb mr hP hX hBy hA hBb hR => ?_⟩
    have hE := fun X hx => HE.out X _ (Below.refl W5.heap.size W5) (hX X hx)
    exact rel_behind hP hn (fun X hx => (hE X hx).2.1) (hA (by decide))
end Go.Proofs.Yteckkbjpeckjmaa.Rx
/- Matrices in memory (package match): at, newMatrix. -/
namespace Go.Proofs.Yteckkbjpeckjmaa.Rx
open Go Go.RowKit Go.Proofs.Yteckkbjpeckjmaa
set_option linter.unusedVariables false
set_option linter.unusedSimpArgs false
set_option maxRecDepth 100000
/-- n cells, number i being f i. -/
def cells (n : Nat) (f : Nat → Value) : Array Value := ((List.range n).map f).toArray
theorem cells_at {n : Nat} {f : Nat → Value} {i : Nat} (h : i < n) : (cells n f)[i]? = some (f i) := by simp [cells, h]
theorem cells_size (n : Nat) (f : Nat → Value) : (cells n f).size = n := by simp [cells]
theorem cells_congr {n : Nat} {f g : Nat → Value} (h : ∀ i, i < n → f i = g i) : cells n f = cells n g := by
  unfold cells
  congr 1
  exact List.map_congr_left fun i hi => h i (List.mem_range.1 hi)
theorem cells_set {n : Nat} {f : Nat → Value} {i : Nat} (v : Value) (h : i < n) : (cells n f).setIfInBounds i v = cells n fun j => if j = i then v else f j := by
  apply Array.ext
  · simp [cells]
  · intro j h1 h2
    have hj : j < n := by simpa [cells] using h2
    rw [Array.getElem_setIfInBounds]
    · by_cases e : i = j
      · subst e; simp [cells]
      · have e' : ¬ j = i := fun h => e h.symm
        simp [cells, e, e']
    · simpa [cells] using hj
theorem made_cells (z : Value) (n : Nat) : madeCells #[z] n = cells n fun _ => z := by
  apply Array.ext
  · simp [cells, madeCells]
  · intro j h1 h2
    simp [cells, madeCells, Nat.mod_one]
theorem heap_put {w : World} {b : Nat} {cs : Array Value} {t : TypeId} {f : Nat × Nat} (h : w.heap[b]? = some (.cells cs t f)) (o : Nat) (u : Value) : (w.setCell ⟨b, o, none⟩ u).heap[b]? = some (.cells (cs.setIfInBounds o u) t f) := by
  have hlt := lt_of_block h
  have h' : w.heap[b] = .cells cs t f := by simpa [Array.getElem?_eq_getElem hlt] using h
  show (w.heap.modify b _)[b]? = _
  rw [Array.getElem?_eq_getElem (by simpa using hlt), Array.getElem_modify_self, h']
  rfl
theorem cell_of {w : World} {b n : Nat} {f : Nat → Value} {t : TypeId} {fz : Nat × Nat} (h : w.heap[b]? = some (.cells (cells n f) t fz)) {i : Nat} (hi : i < n) : w.cell? ⟨b, i, none⟩ = some (f i) := by
  simp [World.cell?, h, cells_at hi]
theorem free_of {w : World} {b : Nat} {cs : Array Value} {t : TypeId} (h : w.heap[b]? = some (.cells cs t (0, 0))) (i : Nat) : w.frozen? ⟨b, i, none⟩ = false := by simp [World.frozen?, h]
theorem info_bools : (Try.prog.info? 49).map (fun i => (i.zero, i.size, i.bytes)) = some (some (.slice none 0 0), 1, 24) := by kernel_rfl
theorem info_bool : (Try.prog.info? 4).map (fun i => (i.zero, i.size, i.bytes)) = some (some (.bool false), 1, 1) := by kernel_rfl
/-- Row i of the matrix in block mb. -/
def rowV (mb n i : Nat) : Value := .slice (some ⟨mb + 1 + i, 0, none⟩) (n + 1) (n + 1)
def boolV (g : Nat → Bool) (j : Nat) : Value := .bool (g j)
/-- The matrix g in block mb and those behind it. -/
structure MatAt (w : World) (mb n : Nat) (g : Nat → Nat → Bool) : Prop where
  o : w.heap[mb]? = some (.cells (cells (n + 1) (rowV mb n)) 49 (0, 0))
  r : ∀ i, i ≤ n → w.heap[mb + 1 + i]? = some (.cells (cells (n + 1) (boolV (g i))) 4 (0, 0))
theorem MatAt.block {w w' : World} {mb n : Nat} {g : Nat → Nat → Bool} (h : MatAt w mb n g) (hb : ∀ k, mb ≤ k → k ≤ mb + 1 + n → w'.heap[k]? = w.heap[k]?) : MatAt w' mb n g :=
  ⟨(hb _ (by omega) (by omega)).trans h.o, fun i hi => (hb _ (by omega) (by omega)).trans (h.r i hi)⟩
theorem MatAt.lt {w : World} {mb n : Nat} {g : Nat → Nat → Bool} (h : MatAt w mb n g) : mb + 1 + n < w.heap.size := (Array.getElem?_eq_some_iff.1 (h.r n (Nat.le_refl _))).1
theorem MatAt.below {w w' : World} {mb n : Nat} {g : Nat → Nat → Bool} (h : MatAt w mb n g) (hb : Below w.heap.size w w') : MatAt w' mb n g :=
  have hl := h.lt
  h.block fun k _ hk => hb.block k (by omega)
def matV (mb n : Nat) : Value := .slice (some ⟨mb, 0, none⟩) (n + 1) (n + 1)
theorem addr_of (b j : Nat) : (⟨b, 0, none⟩ : Addr).add j = ⟨b, j, none⟩ := addr_add b j
set_option maxHeartbeats 2000000 in
theorem mat_at_any (mb n : Nat) (g : Nat → Nat → Bool) (hn : n ≤ 1000) (i j : Nat) (hi : i ≤ n) (hj : j ≤ n) (w : World) (h : MatAt w mb n g) :
    Calls Try.prog 44 #[matV mb n, .int .i64 i, .int .i64 j] w fun e w' => e = .returned (.bool (g i j)) ∧ Below w.heap.size w w' := by
  have c1 := cell_of h.o (i := i) (by omega)
  have c2 := cell_of (h.r i hi) (i := j) (by omega)
  rw [← addr_of] at c1 c2
  unfold rowV at c1
  unfold boolV at c2
  have hi2 : (i : Int) < (n : Int) + 1 := by omega
  have hj2 : (j : Int) < (n : Int) + 1 := by omega
  have hi3 : (i : Int) < ((n + 1 : Nat) : Int) := by omega
  have hj3 : (j : Int) < ((n + 1 : Nat) : Int) := by omega
  clear h hi hj
  generalize g i j = b at *
  unfold matV
  generalize (⟨mb + 1 + i, 0, none⟩ : Addr) = ad2 at *
  generalize (⟨mb, 0, none⟩ : Addr) = ad1 at *
  go_enter Try.func44, Try.ntmps44
  go_wp2
  go_ret
  exact ⟨rfl, Below.refl _ _⟩
theorem made_row (n : Nat) (hn : n ≤ 1000) (W : World) : (Instr.makeSlice 49 (.int .i64 ((n : Int) + 1)) (.int .i64 ((n : Int) + 1))).run Try.prog W = .ok (.slice (some ⟨W.heap.size, 0, none⟩) (n + 1) (n + 1)) (W.alloc (.cells (cells (n + 1) fun _ => .bool false) 4)) := by
  obtain ⟨i0, hi, hz0, hz1, hz2⟩ := info_parts info_bool
  have := run_makeSlice (P := Try.prog) W 49 4 i0 _ Try.underlying49 hi hz0 .i64 .i64 ((n : Int) + 1) ((n : Int) + 1) (by omega) (Int.le_refl _) (by rw [hz1]; omega) (by rw [hz2]; omega) (by omega)
  rw [this, hz1, show ((n : Int) + 1).toNat = n + 1 by omega, Nat.mul_one, ← made_cells]
  rfl
theorem made_mat (n : Nat) (hn : n ≤ 1000) (W : World) : (Instr.makeSlice 74 (.int .i64 ((n : Int) + 1)) (.int .i64 ((n : Int) + 1))).run Try.prog W = .ok (.slice (some ⟨W.heap.size, 0, none⟩) (n + 1) (n + 1)) (W.alloc (.cells (cells (n + 1) fun _ => .slice none 0 0) 49)) := by
  obtain ⟨i0, hi, hz0, hz1, hz2⟩ := info_parts info_bools
  have := run_makeSlice (P := Try.prog) W 74 49 i0 _ Try.underlying74 hi hz0 .i64 .i64 ((n : Int) + 1) ((n : Int) + 1) (by omega) (Int.le_refl _) (by rw [hz1]; omega) (by rw [hz2]; omega) (by omega)
  rw [this, hz1, show ((n : Int) + 1).toNat = n + 1 by omega, Nat.mul_one, ← made_cells]
  rfl
/-- A matrix whose first k rows have been made. -/
structure MatTo (w0 w : World) (mb n k : Nat) : Prop where
  o : w.heap[mb]? = some (.cells (cells (n + 1) fun i => if i < k then rowV mb n i else .slice none 0 0) 49 (0, 0))
  r : ∀ i, i < k → w.heap[mb + 1 + i]? = some (.cells (cells (n + 1) fun _ => .bool false) 4 (0, 0))
  s : w.heap.size = mb + 1 + k
  b : Below mb w0 w
theorem MatTo.start (w : World) (n : Nat) : MatTo w (w.alloc (.cells (cells (n + 1) fun _ => .slice none 0 0) 49)) w.heap.size n 0 :=
  ⟨World.alloc_heap_new w _, fun i hi => absurd hi (by omega), by simp, Cb.bal (Below.refl _ _) _⟩
theorem MatTo.next {w0 w : World} {mb n k : Nat} (h : MatTo w0 w mb n k) (hk : k ≤ n) :
    MatTo w0 ((w.alloc (.cells (cells (n + 1) fun _ => .bool false) 4)).setCell ⟨mb, k, none⟩ (.slice (some ⟨w.heap.size, 0, none⟩) (n + 1) (n + 1))) mb n (k + 1) := by
  have hs := h.s
  have hne : ∀ i, (mb + 1 + i) ≠ mb := fun i => by omega
  have h1 := box_old (o' := .cells (cells (n + 1) fun _ => .bool false) 4) h.o
  refine ⟨?_, fun i hi => ?_, ?_, ?_⟩
  · rw [heap_put h1, cells_set _ (by omega)]
    rw [show (cells (n + 1) fun j => if j = k then Value.slice (some ⟨w.heap.size, 0, none⟩) (n + 1) (n + 1) else if j < k then rowV mb n j else .slice none 0 0) = cells (n + 1) fun i => if i < k + 1 then rowV mb n i else .slice none 0 0 from cells_congr fun i hi => by
      by_cases e : i = k
      · subst e; rw [if_pos rfl, if_pos (by omega), hs]; rfl
      · rw [if_neg e]
        by_cases e2 : i < k
        · rw [if_pos e2, if_pos (by omega)]
        · rw [if_neg e2, if_neg (by omega)]]
  · rw [Below.heap_setCell _ _ _ _ (hne i)]
    by_cases e : i = k
    · subst e
      have := World.alloc_heap_new w (.cells (cells (n + 1) fun _ => .bool false) 4)
      rwa [hs] at this
    · exact box_old (h.r i (by omega))
  · show (Array.modify _ _ _).size = _
    rw [Array.size_modify]
    simp [hs]; omega
  · exact (h.b.alloc (by omega) _).setCell (Nat.le_refl _) _
theorem MatTo.done {w0 w : World} {mb n : Nat} (h : MatTo w0 w mb n (n + 1)) : MatAt w mb n fun _ _ => false :=
  ⟨by rw [h.o, cells_congr fun i hi => if_pos hi], fun i hi => h.r i (by omega)⟩
set_option maxHeartbeats 4000000 in
theorem newMatrix_any (n : Nat) (hn : n ≤ 1000) (w : World) :
    Calls Try.prog 95 #[.int .i64 n] w fun e w' => e = .returned (matV w.heap.size n) ∧ MatAt w' w.heap.size n (fun _ _ => false) ∧ w'.heap.size = w.heap.size + 2 + n ∧ Below w.heap.size w w' := by
  have hm1 := made_mat n hn
  have hm2 := made_row n hn
  unfold matV
  obtain ⟨mb, hmb⟩ : ∃ mb, mb = w.heap.size := ⟨_, rfl⟩
  have HS := MatTo.start w n
  rw [← hmb] at HS ⊢
  have HS := Lib.hid HS
  go_enter Try.func95, Try.ntmps95
  go_wp2
  rw [← hmb]
  clear hmb
  go_loopw [10, 4] (fun i _ wr => ∃ k : Nat, k ≤ n + 1 ∧ i = .int .i64 k ∧ MatTo w wr mb n k) (fun i _ _ => n + 1 - (intOf i).toNat)
  case atStart => exact ⟨0, by omega, rfl, HS.out⟩
  case round =>
    obtain ⟨k, hk, rfl, hM⟩ := hrel
    by_cases hlt : k ≤ n
    · have hN := Lib.hid (hM.next hlt)
      have h1 := box_old (o' := .cells (cells (n + 1) fun _ => .bool false) 4) hM.o
      have f1 := free_of h1 k
      have c1 := cell_of h1 (i := k) (by omega)
      have hk2 : (k : Int) < (n : Int) + 1 := by omega
      have hk3 : (k : Int) < ((n + 1 : Nat) : Int) := by omega
      have hmb2 : mb < (wr.alloc (.cells (cells (n + 1) fun _ => .bool false) 4)).heap.size := (Array.getElem?_eq_some_iff.1 h1).1
      clear hM h1
      go_wp2
      go_roundw
      case rel => exact ⟨k + 1, by omega, by go_num, hN.out⟩
      case measure => simp [intOf]; omega
    · obtain rfl : k = n + 1 := by omega
      have hD := Lib.hid hM.done
      have hB := Lib.hid hM.b
      have hS := Lib.hid hM.s
      clear hM
      go_wp2
      go_ret
      exact ⟨rfl, hD.out, by rw [hS.out]; omega, hB.out⟩
end Go.Proofs.Yteckkbjpeckjmaa.Rx
/- The pairs of positions (package match): the iterator, and filling a matrix (plain part). -/
namespace Go.Proofs.Yteckkbjpeckjmaa.Rx
open Go Go.RowKit Go.Shelf Go.Proofs.Yteckkbjpeckjmaa
set_option linter.unusedVariables false
set_option linter.unusedSimpArgs false
set_option maxRecDepth 100000
attribute [local go_sem] Oper.semAt_some
/-- The pairs (i, j) with j from i to e - 1. -/
def rowP (i e : Nat) : List (Nat × Nat) := (List.range' i (e - i)).map fun j => (i, j)
/-- The pairs of the last d rows, those with the greatest row first. -/
def prsD (n : Nat) : Nat → List (Nat × Nat)
  | 0 => []
  | d + 1 => prsD n d ++ rowP (n - d) (n + 1)
def prs (n : Nat) : List (Nat × Nat) := prsD n (n + 1)
theorem rowP_self (i : Nat) : rowP i i = [] := by simp [rowP]
theorem rowP_succ {i j : Nat} (h : i ≤ j) : rowP i (j + 1) = rowP i j ++ [(i, j)] := by
  unfold rowP
  rw [show j + 1 - i = (j - i) + 1 by omega, List.range'_concat, List.map_append]
  simp
  omega
theorem mem_rowP {i e : Nat} {x : Nat × Nat} : x ∈ rowP i e ↔ x.1 = i ∧ i ≤ x.2 ∧ x.2 < e := by
  unfold rowP
  rw [List.mem_map]
  constructor
  · rintro ⟨j, hj, rfl⟩
    rw [List.mem_range'_1] at hj
    exact ⟨rfl, hj.1, by show j < e; omega⟩
  · rintro ⟨h1, h2, h3⟩
    refine ⟨x.2, by rw [List.mem_range'_1]; omega, ?_⟩
    rw [← h1]
theorem mem_prsD {n : Nat} : ∀ {d : Nat} {x : Nat × Nat}, d ≤ n + 1 → (x ∈ prsD n d ↔ n + 1 - d ≤ x.1 ∧ x.1 ≤ x.2 ∧ x.2 ≤ n)
  | 0, x, _ => by
    simp [prsD]
    omega
  | d + 1, x, h => by
    unfold prsD
    rw [List.mem_append, mem_prsD (d := d) (by omega), mem_rowP]
    omega
theorem mem_prs {n : Nat} {x : Nat × Nat} : x ∈ prs n ↔ x.1 ≤ x.2 ∧ x.2 ≤ n := by
  unfold prs
  rw [mem_prsD (Nat.le_refl _)]
  omega
theorem rowP_prefix {i e e' : Nat} (h : e ≤ e') : rowP i e <+: rowP i e' := by
  unfold rowP
  refine List.IsPrefix.map _ ?_
  refine ⟨List.range' (i + (e - i)) (e' - i - (e - i)), ?_⟩
  rw [List.range'_append_1]
  congr 1
  omega
theorem prsD_prefix {n d : Nat} : ∀ c, prsD n d <+: prsD n (d + c)
  | 0 => List.prefix_refl _
  | c + 1 => (prsD_prefix c).trans (List.prefix_append _ _)
theorem pre_prefix {n d j : Nat} (hd : d ≤ n) (hj : j ≤ n + 1) : prsD n d ++ rowP (n - d) j <+: prs n := by
  obtain ⟨c, hc⟩ : ∃ c, n + 1 = d + 1 + c := ⟨n - d, by omega⟩
  unfold prs
  rw [hc]
  refine List.IsPrefix.trans ?_ (prsD_prefix c)
  show _ <+: prsD n d ++ rowP (n - d) (n + 1)
  exact (List.prefix_append_right_inj _).2 (rowP_prefix hj)
theorem pairs_call (n : Nat) (w : World) :
    Calls Try.prog 114 #[.int .i64 n] w fun e w' => e = .returned (.func (.func 141) #[] #[.pointer (some ⟨w.heap.size, 0, none⟩)]) ∧ w' = w.alloc (.cells #[.int .i64 n] 3) := by
  go_enter Try.func114, Try.ntmps114
  go_wp2
  go_ret
  exact ⟨rfl, rfl⟩
set_option maxHeartbeats 2000000 in
theorem pairs_in (m : Nat) (hm : 1 ≤ m) (l Bn n : Nat) (hn : n ≤ 1000) (Kp : World → World → Prop) (hBl : ∀ {A B : World}, Kp A B → B.heap[Bn]? = A.heap[Bn]?) (J Jx : List (In (prs n)) → World → Prop)
    (hY : ∀ pre x W, J pre W → pre.length < (prs n).length → YieldAt Fence.wide (m - 1) Try.prog l #[.int .i64 ((x.1.1 : Nat) : Int), .int .i64 ((x.1.2 : Nat) : Int)] W fun e W' =>
      (e = .returned (.bool true) ∧ J (pre ++ [x]) W' ∧ Kp W W') ∨ (e = .returned (.bool false) ∧ Jx (pre ++ [x]) W'))
    (W : World) (hB0 : W.cell? ⟨Bn, 0, none⟩ = some (.int .i64 n)) (h0 : J [] W) :
    CallsIn Fence.wide m Try.prog 141 #[.func (.yield l) #[] #[], .pointer (some ⟨Bn, 0, none⟩)] W fun e W' => (∃ u, e = .returned u) ∧
      ((∃ ys, vals ys = prs n ∧ J ys W') ∨ (∃ pre, vals pre <+: prs n ∧ Jx pre W')) := by
  have HY := Lib.hid hY
  clear hY
  have hfn : ∀ f, Fence.wide.fn f := fun _ => trivial
  refine callsIn_of_wp Try.func141 rfl trivial ?_ rfl
  simp only [Try.ntmps141, List.size_toArray, List.length_cons, List.length_nil, Nat.reduceAdd, Nat.reduceSub, Array.replicate_succ, Array.replicate_zero, List.push_toArray, List.append_toArray, List.nil_append, List.cons_append]
  gi_wp2
  gi_loopw [3] (fun v wr => ∃ (pre : List (In (prs n))), ((∃ i : Nat, i ≤ n ∧ v = .int .i64 i ∧ Hid (vals pre = prsD n (n - i))) ∨ (v = .int .i64 (-1) ∧ Hid (vals pre = prs n))) ∧ J pre wr ∧ wr.cell? ⟨Bn, 0, none⟩ = some (.int .i64 n)) (fun v _ => (intOf v + 1).toNat)
  case atStart => exact ⟨[], .inl ⟨n, Nat.le_refl _, rfl, by show _ = _; rw [Nat.sub_self]; rfl⟩, h0, hB0⟩
  case round =>
    obtain ⟨pre, ⟨i, hi, rfl, hpre⟩ | ⟨rfl, hpre⟩, hJ, hc0⟩ := hrel
    · have hi0 : 0 ≤ (i : Int) := by omega
      gi_wp2
      gi_loopw [4] (fun v wr => ∃ (j : Nat) (pre : List (In (prs n))), i ≤ j ∧ j ≤ n + 1 ∧ v = .int .i64 j ∧ Hid (vals pre = prsD n (n - i) ++ rowP i j) ∧ J pre wr ∧ wr.cell? ⟨Bn, 0, none⟩ = some (.int .i64 n)) (fun v _ => n + 1 - (intOf v).toNat)
      case atStart => exact ⟨i, pre, Nat.le_refl _, by omega, rfl, by show _ = _; rw [hpre.out, rowP_self, List.append_nil], hJ, hc0⟩
      case round =>
        clear hpre hJ hc0 pre
        obtain ⟨j, pre, hij, hj, rfl, hpre, hJ, hc0⟩ := hrel
        by_cases hjn : j ≤ n
        · have hjn2 : (j : Int) ≤ n := by omega
          have hmem : (i, j) ∈ prs n := mem_prs.2 ⟨hij, hjn⟩
          have hlen : pre.length < (prs n).length := by
            have h1 := (pre_prefix (n := n) (d := n - i) (j := j + 1) (by omega) (by omega)).length_le
            rw [show n - (n - i) = i by omega, rowP_succ hij, ← List.append_assoc, ← hpre.out, List.length_append, vals_len] at h1
            simp at h1
            omega
          obtain ⟨fn, tmps, assign, body, hy, hR⟩ := HY.out pre ⟨(i, j), hmem⟩ wr hJ hlen
          dsimp only at hy
          have hpre' : Hid (vals (pre ++ [⟨(i, j), hmem⟩]) = prsD n (n - i) ++ rowP i (j + 1)) := by
            show _ = _
            rw [vals_snoc, hpre.out, rowP_succ hij, List.append_assoc]
          clear hlen
          gi_wp2
          refine hR.mono ?_
          rintro e W3 (⟨rfl, hJ3, hk3⟩ | ⟨rfl, hJx3⟩)
          · gi_wp2
            go_roundw
            case rel => exact ⟨j + 1, _, by omega, by omega, by go_num, hpre', hJ3, (World.cell?_of_block (w := wr) (hBl hk3)).trans hc0⟩
            case measure => simp [intOf]; omega
          · gi_wp2
            refine bodyPost_ret (results_none rfl _ _ _) rfl ?_
            refine ⟨⟨_, rfl⟩, .inr ⟨_, ?_, hJx3⟩⟩
            rw [hpre'.out]
            have := pre_prefix (n := n) (d := n - i) (j := j + 1) (by omega) (by omega)
            rwa [show n - (n - i) = i by omega] at this
        · obtain rfl : j = n + 1 := by omega
          have hjn2 : ¬ (n : Int) + 1 ≤ n := by omega
          have hfull : Hid (vals pre = prsD n (n - i + 1)) := by
            show _ = _
            rw [hpre.out]
            show _ = prsD n (n - i) ++ rowP (n - (n - i)) (n + 1)
            rw [show n - (n - i) = i by omega]
          clear hpre hij hjn hj
          gi_wp2
          go_roundw
          case rel =>
            refine ⟨pre, ?_, hJ, hc0⟩
            cases i with
            | zero => exact .inr ⟨rfl, by show _ = _; rw [hfull.out]; rfl⟩
            | succ i => exact .inl ⟨i, by omega, by go_num, by show _ = _; rw [hfull.out, show n - (i + 1) + 1 = n - i by omega]⟩
          case measure => simp [intOf]
    · gi_wp2
      go_end0
      exact ⟨⟨_, rfl⟩, .inl ⟨_, hpre.out, hJ⟩⟩
theorem pairs_stops (m : Nat) (hm : 1 ≤ m) (Bn n : Nat) (hn : n ≤ 1000) (Kp : World → World → Prop) (hBl : ∀ {A B : World}, Kp A B → B.heap[Bn]? = A.heap[Bn]?) (w : World) (hB : w.heap[Bn]? = some (.cells #[.int .i64 n] 3 (0, 0))) :
    SeqStopsK Fence.wide m Try.prog 141 #[.pointer (some ⟨Bn, 0, none⟩)] (fun x : In (prs n) => #[Value.int .i64 ((x.1.1 : Nat) : Int), .int .i64 ((x.1.2 : Nat) : Int)]) Kp (fun ys => vals ys = prs n) (fun pre => vals pre <+: prs n) (prs n).length w :=
  fun l J Jx W hW _ _ hY h0 => pairs_in m hm l Bn n hn Kp hBl J Jx hY W ((hW.cell (p := ⟨Bn, 0, none⟩) (Array.getElem?_eq_some_iff.1 hB).1).trans (by simp [World.cell?, hB])) h0
/-- A matrix with one element changed. -/
def upd (g : Nat → Nat → Bool) (i j : Nat) (b : Bool) : Nat → Nat → Bool := fun a c => if a = i ∧ c = j then b else g a c
/-- What becomes of an empty matrix as its elements are entered in the order of l. -/
def foldF (S : (Nat → Nat → Bool) → Nat → Nat → Bool) (l : List (Nat × Nat)) : Nat → Nat → Bool := l.foldl (fun g x => upd g x.1 x.2 (S g x.1 x.2)) fun _ _ => false
theorem foldF_snoc (S : (Nat → Nat → Bool) → Nat → Nat → Bool) (l : List (Nat × Nat)) (x : Nat × Nat) : foldF S (l ++ [x]) = upd (foldF S l) x.1 x.2 (S (foldF S l) x.1 x.2) := by simp [foldF, List.foldl_append]
/-- The upper half of a matrix. -/
def half (n : Nat) (F : Nat → Nat → Bool) : Nat → Nat → Bool := fun a c => if a ≤ c ∧ c ≤ n then F a c else false
section
variable {S : (Nat → Nat → Bool) → Nat → Nat → Bool} {F : Nat → Nat → Bool} {n : Nat}
  (hS : ∀ g i j, i ≤ j → j ≤ n → (∀ k b, i < k → k ≤ b → b ≤ n → g k b = F k b) → S g i j = F i j)
include hS
theorem fold_row {d : Nat} (hd : d ≤ n) (ih : foldF S (prsD n d) = fun a c => if n - d < a ∧ a ≤ c ∧ c ≤ n then F a c else false) : ∀ c, n - d + c ≤ n + 1 →
    foldF S (prsD n d ++ rowP (n - d) (n - d + c)) = fun a b => if (n - d < a ∧ a ≤ b ∧ b ≤ n) ∨ (a = n - d ∧ a ≤ b ∧ b < n - d + c) then F a b else false
  | 0, _ => by
    rw [Nat.add_zero, rowP_self, List.append_nil, ih]
    funext a b
    by_cases h : n - d < a ∧ a ≤ b ∧ b ≤ n
    · rw [if_pos h, if_pos (.inl h)]
    · rw [if_neg h, if_neg]
      rintro (h1 | h1)
      · exact h h1
      · omega
  | c + 1, hc => by
    have ih2 := fold_row hd ih c (by omega)
    rw [← Nat.add_assoc, rowP_succ (by omega), ← List.append_assoc, foldF_snoc, ih2]
    have hv := hS (fun a b => if (n - d < a ∧ a ≤ b ∧ b ≤ n) ∨ (a = n - d ∧ a ≤ b ∧ b < n - d + c) then F a b else false) (n - d) (n - d + c) (by omega) (by omega) fun k b h1 h2 h3 => by
      rw [if_pos (.inl ⟨h1, h2, h3⟩)]
    funext a b
    unfold upd
    simp only
    by_cases h : a = n - d ∧ b = n - d + c
    · rw [if_pos h, hv, if_pos (.inr (by omega)), h.1, h.2]
    · rw [if_neg h]
      by_cases h2 : (n - d < a ∧ a ≤ b ∧ b ≤ n) ∨ (a = n - d ∧ a ≤ b ∧ b < n - d + c)
      · rw [if_pos h2, if_pos (by omega)]
      · rw [if_neg h2, if_neg (by omega)]
theorem fold_rows : ∀ d, d ≤ n + 1 → foldF S (prsD n d) = fun a c => if n + 1 - d ≤ a ∧ a ≤ c ∧ c ≤ n then F a c else false
  | 0, _ => by
    funext a c
    rw [if_neg (by omega)]
    rfl
  | d + 1, h => by
    have ih := fold_rows d (by omega)
    have := fold_row hS (d := d) (by omega) (by
      rw [ih]
      funext a c
      by_cases h2 : n + 1 - d ≤ a ∧ a ≤ c ∧ c ≤ n
      · rw [if_pos h2, if_pos (by omega)]
      · rw [if_neg h2, if_neg (by omega)]) (d + 1) (by omega)
    rw [show n - d + (d + 1) = n + 1 by omega] at this
    show foldF S (prsD n d ++ rowP (n - d) (n + 1)) = _
    rw [this]
    funext a c
    by_cases h2 : n + 1 - (d + 1) ≤ a ∧ a ≤ c ∧ c ≤ n
    · rw [if_pos h2, if_pos (by omega)]
    · rw [if_neg h2, if_neg (by omega)]
/-- A matrix that is filled is the relation. -/
theorem fold_all : foldF S (prs n) = half n F := by
  unfold prs half
  rw [fold_rows hS (n + 1) (Nat.le_refl _)]
  funext a c
  by_cases h2 : n + 1 - (n + 1) ≤ a ∧ a ≤ c ∧ c ≤ n
  · rw [if_pos h2, if_pos h2.2]
  · rw [if_neg h2, if_neg (by omega)]
end
end Go.Proofs.Yteckkbjpeckjmaa.Rx
/- Filling a matrix (package match). -/
namespace Go.Proofs.Yteckkbjpeckjmaa.Rx
open Go Go.RowKit Go.Shelf Go.Proofs.Yteckkbjpeckjmaa
set_option linter.unusedVariables false
set_option linter.unusedSimpArgs false
set_option maxRecDepth 100000
attribute [local go_sem] Oper.semAt_some
/-- The blocks of a matrix's rows. -/
def rowsL (mb n : Nat) : List Nat := List.range' (mb + 1) (n + 1)
theorem mem_rowsL {mb n k : Nat} : k ∈ rowsL mb n ↔ mb + 1 ≤ k ∧ k < mb + 2 + n := by
  unfold rowsL
  rw [List.mem_range'_1]
  omega
/-- Worlds in which nothing but the rows has changed since w, and the matrix is g. -/
def FillP (w : World) (mb n : Nat) (g : Nat → Nat → Bool) : World → Prop := fun X => Exc (rowsL mb n) w.heap.size w X ∧ MatAt X mb n g
theorem FillP.clo (w : World) (mb n : Nat) (g : Nat → Nat → Bool) : Clo (FillP w mb n g) := fun X Y h hb => ⟨h.1.trans (exc_of_call hb h.1.size), h.2.below hb⟩
theorem MatAt.set {w : World} {mb n : Nat} {g : Nat → Nat → Bool} (h : MatAt w mb n g) {i j : Nat} (hi : i ≤ n) (hj : j ≤ n) (b : Bool) : MatAt (w.setCell ⟨mb + 1 + i, j, none⟩ (.bool b)) mb n (upd g i j b) := by
  refine ⟨?_, fun k hk => ?_⟩
  · rw [Below.heap_setCell _ _ _ _ (by show mb ≠ mb + 1 + i; omega)]
    exact h.o
  · by_cases e : k = i
    · subst e
      rw [heap_put (h.r k hk), cells_set _ (by omega)]
      congr 2
      refine cells_congr fun c hc => ?_
      unfold boolV upd
      by_cases e2 : c = j
      · rw [if_pos e2, if_pos ⟨rfl, e2⟩]
      · rw [if_neg e2, if_neg (fun hh => e2 hh.2)]
    · rw [Below.heap_setCell _ _ _ _ (by show mb + 1 + k ≠ mb + 1 + i; omega), h.r k hk]
      congr 2
      refine cells_congr fun c hc => ?_
      unfold boolV upd
      rw [if_neg (fun hh => e hh.1)]
theorem mixed_orders : Try.prog.follows .mixedOrders = true := by kernel_rfl
theorem exc_less {S : List Nat} {B B' : Nat} {w w' : World} (h : Exc S B w w') (hB : B' ≤ B) : Exc S B' w w' := ⟨h.os, h.tape, h.output, h.size, fun k hk hn => h.block k (by omega) hn⟩
theorem ownFrom_mat {β : Type} {mb n B : Nat} {G : β → Nat → Nat → Bool} (hB : mb + 1 + n < B) : OwnFrom B (fun s W => MatAt W mb n (G s)) :=
  fun s X Y row hs hg hr => hs.block fun k h1 h2 => hg.block k (by have := hs.lt; omega) fun e => by have := (hr k e.symm).1; omega
/-- What holds of the matrix when the pairs pre have been visited. -/
def FillJ (mb n : Nat) (S : (Nat → Nat → Bool) → Nat → Nat → Bool) (W0 : World) (pre : List (In (prs n))) (W : World) : Prop := MatAt W mb n (foldF S (vals pre)) ∧ Exc (rowsL mb n) W0.heap.size W0 W
def ExcR (mb n N : Nat) (W W' : World) : Prop := Exc (rowsL mb n) N W W'
def NoX {n : Nat} (c : Code) (pre : List (In (prs n))) (W : World) : Prop := False
set_option maxHeartbeats 4000000 in
theorem fill_in (m : Nat) (hm : 4 ≤ m) (mb n : Nat) (hn : n ≤ 1000) (S : (Nat → Nat → Bool) → Nat → Nat → Bool) (fv : FuncId) (cp : Array Value) (w : World) (hM : MatAt w mb n fun _ _ => false) (HR : ∀ g, RelP (FillP w mb n g) n fv cp (S g)) :
    CallsIn Fence.wide m Try.prog 96 #[matV mb n, .func (.func fv) #[] cp] w fun e w' => e = .returned (.tuple #[]) ∧ MatAt w' mb n (foldF S (prs n)) ∧ Exc (rowsL mb n) w.heap.size w w' := by
  have hfn : ∀ f, Fence.wide.fn f := fun _ => trivial
  have h1 : 1 ≤ m := by omega
  have HRx := Lib.hid HR
  have eg := (HR fun _ _ => false).eg
  have hml := hM.lt
  have HM := Lib.hid hM
  clear HR hM
  unfold matV
  refine callsIn_of_wp_marks Try.func96 rfl trivial ?_ rfl
  simp only [Try.ntmps96, List.size_toArray, List.length_cons, List.length_nil, Nat.reduceAdd, Nat.reduceSub, Array.replicate_succ, Array.replicate_zero, List.push_toArray, List.append_toArray, List.nil_append, List.cons_append]
  gi_wp2_with (gi_at_call 114; refine (callsIn_wide.2 (pairs_call _ _)).mono ?_; rintro e w' ⟨rfl, rfl⟩)
  obtain ⟨b, hb⟩ : ∃ b, b = w.heap.size := ⟨_, rfl⟩
  have k0 := box_old (o' := .cells #[.int .i64 n] 3) (box_old (o' := .cells #[.func (.func fv) #[] cp] 134) (box_new w (.slice (some ⟨mb, 0, none⟩) (n + 1) (n + 1)) 74))
  have k1 := box_old (o' := .cells #[.int .i64 n] 3) (box_new (w.alloc (.cells #[.slice (some ⟨mb, 0, none⟩) (n + 1) (n + 1)] 74)) (.func (.func fv) #[] cp) 134)
  have k2 := box_new ((w.alloc (.cells #[.slice (some ⟨mb, 0, none⟩) (n + 1) (n + 1)] 74)).alloc (.cells #[.func (.func fv) #[] cp] 134)) (.int .i64 n) 3
  rw [World.size_alloc] at k1
  rw [World.size_alloc, World.size_alloc] at k2
  have hbl : Below w.heap.size w _ := Cb.bal (Cb.bal (Cb.bal (Below.refl w.heap.size w) (.cells #[.slice (some ⟨mb, 0, none⟩) (n + 1) (n + 1)] 74)) (.cells #[.func (.func fv) #[] cp] 134)) (.cells #[.int .i64 n] 3)
  have hsz : (((w.alloc (.cells #[.slice (some ⟨mb, 0, none⟩) (n + 1) (n + 1)] 74)).alloc (.cells #[.func (.func fv) #[] cp] 134)).alloc (.cells #[.int .i64 n] 3)).heap.size = b + 3 := by simp [hb]
  obtain ⟨W0, hW0⟩ : ∃ W0, ((w.alloc (.cells #[.slice (some ⟨mb, 0, none⟩) (n + 1) (n + 1)] 74)).alloc (.cells #[.func (.func fv) #[] cp] 134)).alloc (.cells #[.int .i64 n] 3) = W0 := ⟨_, rfl⟩
  rw [hW0] at k0 k1 k2 hbl hsz ⊢
  rw [← hb] at k0 k1 k2 ⊢
  have hmb : mb + 1 + n < b := by omega
  have hM0 := HM.out.below hbl
  have hnot : ∀ k, b ≤ k → k ∉ rowsL mb n := fun k hk h => by have := (mem_rowsL.1 h).2; omega
  have HE : Hid (∀ X, Exc (rowsL mb n) W0.heap.size W0 X → Exc (rowsL mb n) w.heap.size w X) := fun X hX => (Exc.of_below hbl).trans (exc_less hX (by omega))
  have hwW := hbl.size
  clear hW0 HM hml
  have HBw := Lib.hid hb
  clear hb
  refine wpIn_rangeFunc_ownG rfl h1 (gf := 141) (lb := #[.pointer (some ⟨b + 1 + 1, 0, none⟩)]) rfl trivial (enters_of Try.func141 (by kernel_rfl) rfl)
    (pairs_stops (m - 1) (by omega) (b + 1 + 1) n hn (ExcR mb n W0.heap.size) (fun h => Exc.block h _ (by omega) (hnot _ (by omega))) W0 k2) (fun h k => Exc.trans h k) (excK_b (S := rowsL mb n) (Nat.le_refl _)) (Below.refl _ _) (fun _ => rfl)
    (FillJ mb n S W0)
    NoX
    (OwnFrom.and (ownFrom_mat (by omega)) (ownFrom_exc (Nat.le_refl _) (Nat.le_refl _)))
    (fun _ _ _ _ _ hs _ _ => hs)
    ⟨hM0, Exc.refl _ _ _⟩
    (fun x => { tmps := #[.slice (some ⟨mb, 0, none⟩) (n + 1) (n + 1), .func (.func fv) #[] cp, .pointer (some ⟨b, 0, none⟩), .pointer (some ⟨b + 1, 0, none⟩), .int .i64 ((x.1.1 : Nat) : Int), .int .i64 ((x.1.2 : Nat) : Int), .slice (some ⟨mb, 0, none⟩) (n + 1) (n + 1), .int .i64 ((n : Int) + 1), .int .i64 n, .func (.func 141) #[] #[.pointer (some ⟨b + 1 + 1, 0, none⟩)], .int .i64 ((x.1.1 : Nat) : Int), .int .i64 ((x.1.2 : Nat) : Int), undef, undef, undef, undef, undef, undef, undef, undef, undef, undef], defers := [] }) ?assign ?body ?done ?stop
  case assign =>
    intro l x W K hK
    gi_wp2
    exact hK
  case body =>
    rintro l pre ⟨⟨i, j⟩, hx⟩ W ⟨hMW, hE⟩ hlen
    have hij := mem_prs.1 hx
    simp only at hij
    have hNW : W0.heap.size ≤ W.heap.size := hE.size
    have q0 := cell_box (hE.holds (k := b) (by omega) (hnot _ (by omega)) k0)
    have q1 := cell_box (hE.holds (k := b + 1) (by omega) (hnot _ (by omega)) k1)
    have q2 := cell_of hMW.o (i := i) (by omega)
    unfold rowV at q2
    have hX5 : Hid (∀ X, Below W.heap.size W X → X.cell? ⟨b, 0, none⟩ = some (.slice (some ⟨mb, 0, none⟩) (n + 1) (n + 1)) ∧ X.cell? ⟨b + 1, 0, none⟩ = some (.func (.func fv) #[] cp) ∧ X.cell? ⟨mb, i, none⟩ = some (.slice (some ⟨mb + 1 + i, 0, none⟩) (n + 1) (n + 1)) ∧ X.cell? ⟨mb + 1 + i, j, none⟩ = some (.bool (foldF S (vals pre) i j)) ∧ X.frozen? ⟨mb + 1 + i, j, none⟩ = false ∧ mb + 1 + i < X.heap.size) := fun X hX =>
      have hMX := hMW.below hX
      ⟨(hX.cell (p := ⟨b, 0, none⟩) (by show b < _; omega)).trans q0, (hX.cell (p := ⟨b + 1, 0, none⟩) (by show b + 1 < _; omega)).trans q1, (hX.cell (p := ⟨mb, i, none⟩) (by show mb < _; omega)).trans q2, cell_of (hMX.r i (by omega)) (i := j) (by omega), free_of (hMX.r i (by omega)) j, by have := hMX.lt; omega⟩
    have HC : Hid (∀ X, Below W.heap.size W X → Calls Try.prog fv (#[.int .i64 i, .int .i64 j] ++ cp) X fun e X' => e = .returned (.bool (S (foldF S (vals pre)) i j)) ∧ Below X.heap.size X X') := fun X hX =>
      (HRx.out (foldF S (vals pre))).ok X ⟨(HE.out _ hE).trans (exc_of_call hX (by omega)), hMW.below hX⟩ i j hij.1 hij.2
    have hF : Hid (foldF S (vals (pre ++ [⟨(i, j), hx⟩])) = upd (foldF S (vals pre)) i j (S (foldF S (vals pre)) i j)) := by
      show _ = _
      rw [vals_snoc, foldF_snoc]
    have HMW := Lib.hid hMW
    have HEW := Lib.hid hE
    have hi2 : (i : Int) < (n : Int) + 1 := by omega
    have hj2 : (j : Int) < (n : Int) + 1 := by omega
    have hi3 : (i : Int) < ((n + 1 : Nat) : Int) := by omega
    have hj3 : (j : Int) < ((n + 1 : Nat) : Int) := by omega
    have hin : i ≤ n := by omega
    have hjn : j ≤ n := by omega
    generalize S (foldF S (vals pre)) i j = r at *
    generalize hgg : foldF S (vals pre) = g at *
    have HGG := Lib.hid hgg
    clear hgg
    generalize hold : g i j = old at *
    clear hold
    generalize hrb : mb + 1 + i = rb at *
    have HRB := Lib.hid hrb
    have HNW := Lib.hid hNW
    clear hrb hsz hnot hbl hNW hwW hmb
    have hmx := mixed_orders
    have h1'' : 1 ≤ m - 1 - 1 := by omega
    clear hMW hE hlen k0 k1 k2 hM0
    gi_wp2
    haveI : Nonempty (Cls fun X => Below W.heap.size W X) := ⟨⟨_, Below.refl _ _⟩⟩
    have l0 : ∀ r : Cls (fun X => Below W.heap.size W X), r.w.cell? ⟨b, 0, none⟩ = some (.slice (some ⟨mb, 0, none⟩) (n + 1) (n + 1)) := fun r => (hX5.out _ r.h).1
    have l1 : ∀ r : Cls (fun X => Below W.heap.size W X), r.w.cell? ⟨b + 1, 0, none⟩ = some (.func (.func fv) #[] cp) := fun r => (hX5.out _ r.h).2.1
    have l2 : ∀ r : Cls (fun X => Below W.heap.size W X), r.w.cell? ⟨mb, i, none⟩ = some (.slice (some ⟨rb, 0, none⟩) (n + 1) (n + 1)) := fun r => (hX5.out _ r.h).2.2.1
    clear q0 q1 q2
    refine wpIn_region_cls_tail 9 (fun X => Below W.heap.size W X) hmx (by kernel_rfl) (by kernel_rfl) (fun ⟨_, _, h⟩ => (show False from h)) (drewN_below W 1) ?_
    simp only [List.take_succ_cons, List.take_zero, List.drop_succ_cons, List.drop_zero]
    repeat (go_big_quiet_step (first | (rename_i r5; ((with_reducible refine (HC.out r5.w r5.h).mono ?_); rintro e w4 ⟨rfl, hb⟩); exact ⟨rfl, ⟨⟨w4, stepB r5.h hb⟩, rfl⟩⟩)))
    refine wpQuiet_nil ?_
    rintro _ ⟨r5, rfl⟩
    have hX := r5.h
    generalize r5.w = Y at hX ⊢
    obtain ⟨_, _, _, q5, q6, q7⟩ := hX5.out _ hX
    clear l0 l1 l2
    go_wp2
    have hrb := HRB.out
    refine ⟨((others_of_below hX).trans (KeepsOthers.setCell _ _ _)).from _, (exc_of_call hX HNW.out).setCell (.inl (mem_rowsL.2 (by show mb + 1 ≤ rb ∧ rb < mb + 2 + n; omega))) _, ?_, HEW.out.trans ((exc_of_call hX HNW.out).setCell (.inl (mem_rowsL.2 (by show mb + 1 ≤ rb ∧ rb < mb + 2 + n; omega))) _)⟩
    show MatAt _ mb n (foldF S (vals (pre ++ [⟨(i, j), hx⟩])))
    rw [hF.out, ← hrb]
    exact (HMW.out.below hX).set hin hjn r
  case done =>
    rintro D ys W hD hys ⟨hM, hE⟩ hK
    rw [hys] at hM
    gi_wp2
    have hbe := fun o' => belowK_b (w := W0) (Nat.le_refl W0.heap.size) W D _ o' hD hK rfl rfl
    have hz := hM.lt
    refine ⟨by simp, .inl ⟨_, _, rfl, run_takeDeferred hK, ?_⟩⟩
    refine ⟨_, results_none rfl _ _ _, rfl, hM.block fun k _ hk => (hbe _).block k (by omega), ?_⟩
    exact (HE.out _ hE).trans (Exc.of_below ((hbe _).mono hwW))
  case stop => exact fun _ _ _ _ _ _ h _ => h.elim
theorem fill_any (mb n : Nat) (hn : n ≤ 1000) (S : (Nat → Nat → Bool) → Nat → Nat → Bool) (fv : FuncId) (cp : Array Value) (w : World) (hM : MatAt w mb n fun _ _ => false) (HR : ∀ g, RelP (FillP w mb n g) n fv cp (S g)) :
    Calls Try.prog 96 #[matV mb n, .func (.func fv) #[] cp] w fun e w' => e = .returned (.tuple #[]) ∧ MatAt w' mb n (foldF S (prs n)) ∧ Exc (rowsL mb n) w.heap.size w w' :=
  callsIn_wide.1 (fill_in 4 (by omega) mb n hn S fv cp w hM HR)
end Go.Proofs.Yteckkbjpeckjmaa.Rx
/- The matrices of an expression's pieces (package match): tables, table. -/
namespace Go.Proofs.Yteckkbjpeckjmaa.Rx
open Go Go.RowKit Go.Proofs.Yteckkbjpeckjmaa
set_option linter.unusedVariables false
set_option linter.unusedSimpArgs false
set_option maxRecDepth 100000
theorem half_at {n : Nat} {F : Nat → Nat → Bool} {i j : Nat} (h1 : i ≤ j) (h2 : j ≤ n) : half n F i j = F i j := if_pos ⟨h1, h2⟩
theorem AtP.halves {P : World → Prop} {n mb : Nat} {F : Nat → Nat → Bool} (hn : n ≤ 1000) (h : ∀ X, P X → MatAt X mb n (half n F)) : AtP P n (matV mb n) F := fun X hX i j hij hj => by
  have := mat_at_any mb n (half n F) hn i j (by omega) hj X (h X hX)
  rwa [half_at hij hj] at this
theorem AtP.any {P : World → Prop} {n mb : Nat} {g : Nat → Nat → Bool} (hn : n ≤ 1000) (h : ∀ X, P X → MatAt X mb n g) : AtP P n (matV mb n) g := fun X hX i j hij hj =>
  mat_at_any mb n g hn i j (by omega) hj X (h X hX)
theorem info_mat : (Try.prog.info? 74).map (fun i => (i.zero, i.size, i.bytes)) = some (some (.slice none 0 0), 1, 24) := by kernel_rfl
theorem made_known (L : Nat) (hL : L ≤ 1000000) (W : World) : (Instr.makeSlice 110 (.int .i64 L) (.int .i64 L)).run Try.prog W = .ok (.slice (some ⟨W.heap.size, 0, none⟩) L L) (W.alloc (.cells (cells L fun _ => .slice none 0 0) 74)) := by
  obtain ⟨i0, hi, hz0, hz1, hz2⟩ := info_parts info_mat
  have := run_makeSlice (P := Try.prog) W 110 74 i0 _ Try.underlying110 hi hz0 .i64 .i64 (L : Int) (L : Int) (by omega) (Int.le_refl _) (by rw [hz1]; omega) (by rw [hz2]; omega) (by omega)
  rw [this, hz1, show ((L : Int)).toNat = L by omega, Nat.mul_one, ← made_cells]
  rfl
/-- The matrices of the first k pieces are known. -/
structure Known (w wr : World) (kb n L k : Nat) (T : Nat → Nat → Nat → Bool) (mbs : Nat → Nat) : Prop where
  o : wr.heap[kb]? = some (.cells (cells L fun j => if j < k then matV (mbs j) n else .slice none 0 0) 74 (0, 0))
  m : ∀ j, j < k → kb < mbs j ∧ MatAt wr (mbs j) n (half n (T j))
  b : Below w.heap.size w wr
  k0 : w.heap.size ≤ kb
/-- What the matrices hold, by the pieces: how a piece's relation comes from those before it. -/
def stepT (e : List Pc) (word : List Nat) (n : Nat) (T : Nat → Nat → Nat → Bool) (k : Nat) : Prop :=
  ∀ g i j, i ≤ j → j ≤ n → (∀ a b, i < a → a ≤ b → b ≤ n → g a b = T k a b) → stepV (pc e k).op (pc e k).p (pc e k).q word n (T (pc e k).a.toNat) (T (pc e k).b.toNat) g i j = T k i j
theorem Known.next {w wr W7 : World} {kb n L k mbk : Nat} {T : Nat → Nat → Nat → Bool} {mbs : Nat → Nat} (h : Known w wr kb n L k T mbs) (hk : k < L) (hb : Below wr.heap.size wr W7) (hM : MatAt W7 mbk n (half n (T k))) (hge : wr.heap.size ≤ mbk) :
    Known w (W7.setCell ⟨kb, k, none⟩ (matV mbk n)) kb n L (k + 1) T fun j => if j = k then mbk else mbs j := by
  have hkb := lt_of_block h.o
  have h1 := (hb.block kb hkb).trans h.o
  have hset : ∀ b, b ≠ kb → (W7.setCell ⟨kb, k, none⟩ (matV mbk n)).heap[b]? = W7.heap[b]? := fun b hb => Below.heap_setCell _ _ _ _ hb
  refine ⟨?_, fun j hj => ?_, (h.b.trans (hb.mono h.b.size)).setCell h.k0 _, h.k0⟩
  · rw [heap_put h1, cells_set _ hk]
    congr 2
    refine cells_congr fun j hj => ?_
    by_cases e : j = k
    · rw [if_pos e, if_pos (by omega), if_pos e]
    · rw [if_neg e]
      by_cases e2 : j < k
      · rw [if_pos e2, if_pos (by omega), if_neg e]
      · rw [if_neg e2, if_neg (by omega)]
  · by_cases e : j = k
    · subst e
      rw [if_pos rfl]
      exact ⟨by omega, hM.block fun b h1 h2 => hset b (by omega)⟩
    · rw [if_neg e]
      obtain ⟨h2, h3⟩ := h.m j (by omega)
      exact ⟨h2, (h3.below hb).block fun b h1 h2 => hset b (by omega)⟩
set_option maxHeartbeats 16000000 in
theorem tables_any (A B : Option Addr) (e : List Pc) (c d : Nat) (word : List Nat) (n : Nat) (T : Nat → Nat → Nat → Bool) (w : World) (hx : PcsAt w A e) (hl : e.length ≤ 1000) (hB : Bys w B word) (hlen : word.length = n) (hn : n ≤ 1000) (hw8 : ∀ x ∈ word, x < 256)
    (hops : ∀ k, k < e.length → (1 ≤ (pc e k).op ∧ (pc e k).op ≤ 10) ∧ 0 ≤ (pc e k).a ∧ 0 ≤ (pc e k).b ∧ (pc e k).a.toNat < e.length ∧ (pc e k).b.toNat < e.length ∧ (4 ≤ (pc e k).op → (pc e k).a.toNat < k) ∧ (4 ≤ (pc e k).op → (pc e k).op ≤ 6 → (pc e k).b.toNat < k))
    (hT : ∀ k, k < e.length → stepT e word n T k) :
    Calls Try.prog 71 #[.slice A e.length c, .slice B n d] w fun r w' => ∃ kb mbs, r = .returned (.slice (some ⟨kb, 0, none⟩) e.length e.length) ∧ Known w w' kb n e.length e.length T mbs := by
  have hmk := made_known e.length (by omega)
  have HX := Lib.hid fun wr (h : Below w.heap.size w wr) q (hq : q < e.length) => pcs_five hx h hq
  have HBy := Lib.hid fun wr (h : Below w.heap.size w wr) => hB.below h
  have HOp := Lib.hid hops
  have HT := Lib.hid hT
  obtain ⟨L, hL⟩ : ∃ L, L = e.length := ⟨_, rfl⟩
  have HSt : Hid (Known w (w.alloc (.cells (cells L fun _ => .slice none 0 0) 74)) w.heap.size n L 0 T fun _ => 0) :=
    ⟨by rw [World.alloc_heap_new, cells_congr fun i hi => (if_neg (Nat.not_lt_zero i)).symm], fun j hj => absurd hj (by omega), bal (Below.refl _ _) _, Nat.le_refl _⟩
  clear hx hB hops hT
  rw [← hL] at hmk HX HOp HT hl ⊢
  clear hL
  obtain ⟨kb, hkb⟩ : ∃ kb, kb = w.heap.size := ⟨_, rfl⟩
  rw [← hkb] at HSt
  go_enter Try.func71, Try.ntmps71
  go_wp2
  rw [← hkb]
  have HKB := Lib.hid hkb
  clear hkb
  go_loopw [14, 6, 7, 8] (fun i _ _ _ wr => ∃ (k : Nat) (mbs : Nat → Nat), k ≤ L ∧ i = .int .i64 k ∧ Known w wr kb n L k T mbs) (fun i _ _ _ _ => L - (intOf i).toNat)
  case atStart => exact ⟨0, _, by omega, rfl, HSt.out⟩
  case round =>
    obtain ⟨k, mbs, hk, rfl, hK⟩ := hrel
    by_cases hlt : k < L
    · obtain ⟨ad, rfl, had, hok, f0, f1, f2, f3, f4⟩ := HX.out _ hK.b k hlt
      obtain ⟨ho, ha0, hb0, haL, hbL, hak, hbk⟩ := HOp.out k hlt
      have hTk := Lib.hid (HT.out k hlt)
      have hop := hok.op
      have hp := hok.p
      have hq := hok.q
      unfold stepT at hTk
      generalize pc e k = x at *
      have hkl : (k : Int) < (L : Int) := by omega
      have HNM := Lib.hid fun X => newMatrix_any n hn X
      have HKn := Lib.hid hK
      clear hK hok
      obtain ⟨op, p, q, a, b⟩ := x
      simp only at *
      obtain ⟨a, rfl⟩ : ∃ a' : Nat, a = a' := ⟨a.toNat, by omega⟩
      obtain ⟨b, rfl⟩ : ∃ b' : Nat, b = b' := ⟨b.toNat, by omega⟩
      simp only [Int.toNat_natCast] at haL hbL hak hbk hTk
      have ha2 : (a : Int) < L := by omega
      have hb2 : (b : Int) < L := by omega
      go_upto_region 6 with (go_at_call 95; ((with_reducible refine (HNM.out _).mono ?_); rintro r w5 ⟨rfl, hM5, hs5, hb5⟩))
      have hbx := (Bx5.new wr ⟨op, p, q, a, b⟩)
      have hw0 := bal (Below.refl wr.heap.size wr) (.cells (pv ⟨op, p, q, a, b⟩).toArray 32)
      have hz0 : (wr.alloc (.cells (pv ⟨op, p, q, a, b⟩).toArray 32)).heap.size = wr.heap.size + 1 := by simp
      change MatAt w5 (wr.alloc (.cells (pv ⟨op, p, q, a, b⟩).toArray 32)).heap.size n _ at hM5
      change w5.heap.size = (wr.alloc (.cells (pv ⟨op, p, q, a, b⟩).toArray 32)).heap.size + 2 + n at hs5
      change Below (wr.alloc (.cells (pv ⟨op, p, q, a, b⟩).toArray 32)).heap.size (wr.alloc (.cells (pv ⟨op, p, q, a, b⟩).toArray 32)) w5 at hb5
      have hbx5 := hbx.below hb5
      have hw5 := stepB hw0 hb5
      rw [hz0] at hM5 hs5
      clear hbx hw0 hz0 hb5
      obtain ⟨b0, b1, b2, b3, b4⟩ := hbx5.cells
      simp only at b0 b1 b2 b3 b4
      have hkw : kb < wr.heap.size := lt_of_block HKn.out.o
      have b5 := (hw5.cell (p := ⟨kb, a, none⟩) hkw).trans (cell_of HKn.out.o (i := a) haL)
      have b6 := (hw5.cell (p := ⟨kb, b, none⟩) hkw).trans (cell_of HKn.out.o (i := b) hbL)
      obtain ⟨va, hva⟩ : ∃ va, va = (if a < k then matV (mbs a) n else Value.slice none 0 0) := ⟨_, rfl⟩
      obtain ⟨vb, hvb⟩ : ∃ vb, vb = (if b < k then matV (mbs b) n else Value.slice none 0 0) := ⟨_, rfl⟩
      rw [← hva] at b5
      rw [← hvb] at b6
      have HVA := Lib.hid hva
      have HVB := Lib.hid hvb
      obtain ⟨bp, hbp⟩ : ∃ bp, bp = wr.heap.size := ⟨_, rfl⟩
      rw [← hbp] at b0 b1 b2 b3 b4 hM5 hs5 hkw ⊢
      have HBP := Lib.hid hbp
      have HM5 := Lib.hid hM5
      have HW5 := Lib.hid hw5
      have HS5 := Lib.hid hs5
      clear hva hvb hbp hM5 hw5 hs5 hbx5 f0 f1 f2 f3 f4
      refine wp_region_any (by kernel_rfl) ?_
      change wpAny _ _ _ _ _ _ _ (World.drew _)
      refine wpAny_take (i := 0) (v := ?_) (at_drop rfl) (by kernel_rfl) (by kernel_rfl) (by kernel_rfl) (fun _ _ _ h => h) (Or.inl ⟨by rfl, ?_⟩) ?_
      rotate_left
      · (intro w; go_simp <;> with_reducible rfl)
      simp only [Act.put, List.setIfInBounds_toArray, List.set_cons_zero, List.set_cons_succ]
      have hS0 : (fun X : World => X.cell? ⟨bp, 0, none⟩ = some (.int .u8 op) ∧ X.cell? ⟨bp, 1, none⟩ = some (.int .u8 p) ∧ X.cell? ⟨bp, 2, none⟩ = some (.int .u8 q) ∧ X.cell? ⟨bp, 3, none⟩ = some (.int .i64 a) ∧ X.cell? ⟨bp, 4, none⟩ = some (.int .i64 b) ∧ X.cell? ⟨kb, a, none⟩ = some va ∧ X.cell? ⟨kb, b, none⟩ = some vb) w5.drew := ⟨b0, b1, b2, b3, b4, b5, b6⟩
      refine wpAny_head 17 16 (fun X : World => X.cell? ⟨bp, 0, none⟩ = some (.int .u8 op) ∧ X.cell? ⟨bp, 1, none⟩ = some (.int .u8 p) ∧ X.cell? ⟨bp, 2, none⟩ = some (.int .u8 q) ∧ X.cell? ⟨bp, 3, none⟩ = some (.int .i64 a) ∧ X.cell? ⟨bp, 4, none⟩ = some (.int .i64 b) ∧ X.cell? ⟨kb, a, none⟩ = some va ∧ X.cell? ⟨kb, b, none⟩ = some vb) rfl rfl (by kernel_rfl) (by kernel_rfl) (by kernel_rfl) (fun hA => ?_)
      refine wpHead_take (i := 1) (v := ?_) (by kernel_rfl) hA (at_drop rfl) (by decide) (by kernel_rfl) (by kernel_rfl) (by kernel_rfl) (fun _ _ _ h => h) (Or.inl ⟨by rfl, ?_⟩) hS0 (fun hA => ?_)
      rotate_left
      · (intro w hSw; obtain ⟨s0, s1, s2, s3, s4, s5, s6⟩ := hSw; go_simp <;> with_reducible rfl)
      simp only [Act.put, List.setIfInBounds_toArray, List.set_cons_zero, List.set_cons_succ]
      refine wpHead_take (i := 2) (v := ?_) (by kernel_rfl) hA (at_drop rfl) (by decide) (by kernel_rfl) (by kernel_rfl) (by kernel_rfl) (fun _ _ _ h => h) (Or.inl ⟨by rfl, ?_⟩) hS0 (fun hA => ?_)
      rotate_left
      · (intro w hSw; obtain ⟨s0, s1, s2, s3, s4, s5, s6⟩ := hSw; go_simp <;> with_reducible rfl)
      simp only [Act.put, List.setIfInBounds_toArray, List.set_cons_zero, List.set_cons_succ]
      refine wpHead_take (i := 3) (v := ?_) (by kernel_rfl) hA (at_drop rfl) (by decide) (by kernel_rfl) (by kernel_rfl) (by kernel_rfl) (fun _ _ _ h => h) (Or.inl ⟨by rfl, ?_⟩) hS0 (fun hA => ?_)
      rotate_left
      · (intro w hSw; obtain ⟨s0, s1, s2, s3, s4, s5, s6⟩ := hSw; go_simp <;> with_reducible rfl)
      simp only [Act.put, List.setIfInBounds_toArray, List.set_cons_zero, List.set_cons_succ]
      refine wpHead_take (i := 4) (v := ?_) (by kernel_rfl) hA (at_drop rfl) (by decide) (by kernel_rfl) (by kernel_rfl) (by kernel_rfl) (fun _ _ _ h => h) (Or.inl ⟨by rfl, ?_⟩) hS0 (fun hA => ?_)
      rotate_left
      · (intro w hSw; obtain ⟨s0, s1, s2, s3, s4, s5, s6⟩ := hSw; go_simp <;> with_reducible rfl)
      simp only [Act.put, List.setIfInBounds_toArray, List.set_cons_zero, List.set_cons_succ]
      refine wpHead_take (i := 5) (v := ?_) (by kernel_rfl) hA (at_drop rfl) (by decide) (by kernel_rfl) (by kernel_rfl) (by kernel_rfl) (fun _ _ _ h => h) (Or.inl ⟨by rfl, ?_⟩) hS0 (fun hA => ?_)
      rotate_left
      · (intro w hSw; obtain ⟨s0, s1, s2, s3, s4, s5, s6⟩ := hSw; go_simp <;> with_reducible rfl)
      simp only [Act.put, List.setIfInBounds_toArray, List.set_cons_zero, List.set_cons_succ]
      refine wpHead_take (i := 6) (v := ?_) (by kernel_rfl) hA (at_drop rfl) (by decide) (by kernel_rfl) (by kernel_rfl) (by kernel_rfl) (fun _ _ _ h => h) (Or.inl ⟨by rfl, ?_⟩) hS0 (fun hA => ?_)
      rotate_left
      · (intro w hSw; obtain ⟨s0, s1, s2, s3, s4, s5, s6⟩ := hSw; go_simp <;> with_reducible rfl)
      simp only [Act.put, List.setIfInBounds_toArray, List.set_cons_zero, List.set_cons_succ]
      refine wpHead_take (i := 7) (v := ?_) (by kernel_rfl) hA (at_drop rfl) (by decide) (by kernel_rfl) (by kernel_rfl) (by kernel_rfl) (fun _ _ _ h => h) (Or.inl ⟨by rfl, ?_⟩) hS0 (fun hA => ?_)
      rotate_left
      · (intro w hSw; obtain ⟨s0, s1, s2, s3, s4, s5, s6⟩ := hSw; go_simp <;> with_reducible rfl)
      simp only [Act.put, List.setIfInBounds_toArray, List.set_cons_zero, List.set_cons_succ]
      refine wpHead_take (i := 8) (v := ?_) (by kernel_rfl) hA (at_drop rfl) (by decide) (by kernel_rfl) (by kernel_rfl) (by kernel_rfl) (fun _ _ _ h => h) (Or.inl ⟨by rfl, ?_⟩) hS0 (fun hA => ?_)
      rotate_left
      · (intro w hSw; obtain ⟨s0, s1, s2, s3, s4, s5, s6⟩ := hSw; go_simp <;> with_reducible rfl)
      simp only [Act.put, List.setIfInBounds_toArray, List.set_cons_zero, List.set_cons_succ]
      refine wpHead_take (i := 9) (v := ?_) (by kernel_rfl) hA (at_drop rfl) (by decide) (by kernel_rfl) (by kernel_rfl) (by kernel_rfl) (fun _ _ _ h => h) (Or.inl ⟨by rfl, ?_⟩) hS0 (fun hA => ?_)
      rotate_left
      · (intro w hSw; obtain ⟨s0, s1, s2, s3, s4, s5, s6⟩ := hSw; go_simp <;> with_reducible rfl)
      simp only [Act.put, List.setIfInBounds_toArray, List.set_cons_zero, List.set_cons_succ]
      refine wpHead_take (i := 10) (v := ?_) (by kernel_rfl) hA (at_drop rfl) (by decide) (by kernel_rfl) (by kernel_rfl) (by kernel_rfl) (fun _ _ _ h => h) (Or.inl ⟨by rfl, ?_⟩) hS0 (fun hA => ?_)
      rotate_left
      · (intro w hSw; obtain ⟨s0, s1, s2, s3, s4, s5, s6⟩ := hSw; go_simp <;> with_reducible rfl)
      simp only [Act.put, List.setIfInBounds_toArray, List.set_cons_zero, List.set_cons_succ]
      refine wpHead_take (i := 11) (v := ?_) (by kernel_rfl) hA (at_drop rfl) (by decide) (by kernel_rfl) (by kernel_rfl) (by kernel_rfl) (fun _ _ _ h => h) (Or.inl ⟨by rfl, ?_⟩) hS0 (fun hA => ?_)
      rotate_left
      · (intro w hSw; obtain ⟨s0, s1, s2, s3, s4, s5, s6⟩ := hSw; go_simp <;> with_reducible rfl)
      simp only [Act.put, List.setIfInBounds_toArray, List.set_cons_zero, List.set_cons_succ]
      refine wpHead_take (i := 12) (v := ?_) (by kernel_rfl) hA (at_drop rfl) (by decide) (by kernel_rfl) (by kernel_rfl) (by kernel_rfl) (fun _ _ _ h => h) (Or.inl ⟨by rfl, ?_⟩) hS0 (fun hA => ?_)
      rotate_left
      · (intro w hSw; obtain ⟨s0, s1, s2, s3, s4, s5, s6⟩ := hSw; go_simp <;> with_reducible rfl)
      simp only [Act.put, List.setIfInBounds_toArray, List.set_cons_zero, List.set_cons_succ]
      refine wpHead_take (i := 13) (v := ?_) (by kernel_rfl) hA (at_drop rfl) (by decide) (by kernel_rfl) (by kernel_rfl) (by kernel_rfl) (fun _ _ _ h => h) (Or.inl ⟨by rfl, ?_⟩) hS0 (fun hA => ?_)
      rotate_left
      · (intro w hSw; obtain ⟨s0, s1, s2, s3, s4, s5, s6⟩ := hSw; go_simp <;> with_reducible rfl)
      simp only [Act.put, List.setIfInBounds_toArray, List.set_cons_zero, List.set_cons_succ]
      refine wpHead_take (i := 14) (v := ?_) (by kernel_rfl) hA (at_drop rfl) (by decide) (by kernel_rfl) (by kernel_rfl) (by kernel_rfl) (fun _ _ _ h => h) (Or.inl ⟨by rfl, ?_⟩) hS0 (fun hA => ?_)
      rotate_left
      · (intro w hSw; obtain ⟨s0, s1, s2, s3, s4, s5, s6⟩ := hSw; go_simp <;> with_reducible rfl)
      simp only [Act.put, List.setIfInBounds_toArray, List.set_cons_zero, List.set_cons_succ]
      refine wpHead_take (i := 15) (v := ?_) (by kernel_rfl) hA (at_drop rfl) (by decide) (by kernel_rfl) (by kernel_rfl) (by kernel_rfl) (fun _ _ _ h => h) (Or.inl ⟨by rfl, ?_⟩) hS0 (fun hA => ?_)
      rotate_left
      · (intro w hSw; obtain ⟨s0, s1, s2, s3, s4, s5, s6⟩ := hSw; go_simp <;> with_reducible rfl)
      simp only [Act.put, List.setIfInBounds_toArray, List.set_cons_zero, List.set_cons_succ]
      refine wpHead_take (i := 16) (v := ?_) (by kernel_rfl) hA (at_drop rfl) (by decide) (by kernel_rfl) (by kernel_rfl) (by kernel_rfl) (fun _ _ _ h => h) (Or.inl ⟨by rfl, ?_⟩) hS0 (fun hA => ?_)
      rotate_left
      · (intro w hSw; obtain ⟨s0, s1, s2, s3, s4, s5, s6⟩ := hSw; go_simp <;> with_reducible rfl)
      simp only [Act.put, List.setIfInBounds_toArray, List.set_cons_zero, List.set_cons_succ]
      refine wpHead_end (by kernel_rfl) ?_
      simp only [List.drop_succ_cons, List.drop_zero]
      clear b0 b1 b2 b3 b4 b5 b6 hS0 hA
      have HMe := Lib.hid (meaning_any op p q (a : Int) (b : Int) B word n d va vb (matV (bp + 1) n) w5.drew ho hp hq hn hlen hw8)
      have HFi : Hid (∀ fv cp W6, Below w5.drew.heap.size w5.drew W6 → (∀ (P : World → Prop) (ma mb mr : Nat → Nat → Bool), Clo P → (∀ X, P X → ∀ b, w5.drew.heap.size ≤ b → b < W6.heap.size → X.heap[b]? = W6.heap[b]?) → (∀ X, P X → Bys X B word) →
          (4 ≤ op → AtP P n va ma) → (4 ≤ op → op ≤ 6 → AtP P n vb mb) → (op = 8 → AtP P n (matV (bp + 1) n) mr) → RelP P n fv cp (stepV op p q word n ma mb mr)) →
          Calls Try.prog 96 #[matV (bp + 1) n, .func (.func fv) #[] cp] W6 fun e w' => e = .returned (.tuple #[]) ∧ MatAt w' (bp + 1) n (half n (T k)) ∧ Below wr.heap.size wr w') := fun fv cp W6 hb6 hrel => by
        have hw6 : Below wr.heap.size wr W6 := stepB (stepB HW5.out (drewN_below w5 1)) hb6
        have hM6 : MatAt W6 (bp + 1) n fun _ _ => false := (HM5.out.below (drewN_below w5 1)).below hb6
        have hs5 : w5.drew.heap.size = bp + 1 + 2 + n := HS5.out
        have hbp := HBP.out
        have hwX : ∀ (g : Nat → Nat → Bool) (X : World), FillP W6 (bp + 1) n g X → Below wr.heap.size wr X := fun g X hX => hw6.trans (hX.1.below hw6.size fun r hr => by have := (mem_rowsL.1 hr).1; omega)
        refine (fill_any (bp + 1) n hn (stepV op p q word n (T a) (T b)) fv cp W6 hM6 fun g => hrel (FillP W6 (bp + 1) n g) (T a) (T b) g (FillP.clo _ _ _ _) ?_ ?_ ?_ ?_ ?_).mono fun e W7 h => ⟨h.1, ?_, ?_⟩
        · exact fun X hX blk h1 h2 => hX.1.block blk h2 fun hm => by have := (mem_rowsL.1 hm).2; omega
        · exact fun X hX => HBy.out X (HKn.out.b.trans ((hwX g X hX).mono HKn.out.b.size))
        · intro h4
          rw [HVA.out, if_pos (hak h4)]
          exact AtP.halves hn fun X hX => (HKn.out.m a (hak h4)).2.below (hwX g X hX)
        · intro h4 h6
          rw [HVB.out, if_pos (hbk h4 h6)]
          exact AtP.halves hn fun X hX => (HKn.out.m b (hbk h4 h6)).2.below (hwX g X hX)
        · exact fun _ => AtP.any hn fun X hX => hX.2
        · have := h.2.1
          rwa [fold_all hTk.out] at this
        · exact hw6.trans (h.2.2.below hw6.size fun r hr => by have := (mem_rowsL.1 hr).1; omega)
      have HSt7 : Hid (∀ W7, Below wr.heap.size wr W7 → W7.cell? ⟨kb, k, none⟩ = some (.slice none 0 0) ∧ W7.frozen? ⟨kb, k, none⟩ = false ∧ kb < W7.heap.size) := fun W7 hb7 => by
        have hlt0 := lt_of_block HKn.out.o
        have h1 := (hb7.block kb hlt0).trans HKn.out.o
        refine ⟨?_, free_of h1 k, lt_of_block h1⟩
        have := cell_of h1 (i := k) hlt
        rwa [if_neg (by omega)] at this
      have HN : Hid (∀ W7, Below wr.heap.size wr W7 → MatAt W7 (bp + 1) n (half n (T k)) → Known w (W7.setCell ⟨kb, k, none⟩ (matV (bp + 1) n)) kb n L (k + 1) T fun j => if j = k then bp + 1 else mbs j) := fun W7 hb7 hM7 => HKn.out.next hlt hb7 hM7 (by have := HBP.out; omega)
      clear hTk HX HOp HT HBy HNM HVA HVB HBP HM5 HW5 HS5 HKn hak hbk
      simp only [matV] at HMe HFi HN ⊢
      go_wp2_with (first
        | (go_at_call 97; ((with_reducible refine HMe.out.mono ?_); rintro r W6 ⟨fv, cp, rfl, hb6, hrel⟩); have HF7 := Lib.hid (HFi.out fv cp W6 hb6 hrel); clear hrel)
        | (go_at_call 96; ((with_reducible refine HF7.out.mono ?_); rintro r W7 ⟨rfl, hM7, hb7⟩); obtain ⟨g1, g2, g3⟩ := HSt7.out _ hb7; have HK7 := Lib.hid (HN.out _ hb7 hM7); clear hM7 hb7))
      go_roundw
      case rel => exact ⟨k + 1, _, by omega, by go_num, HK7.out⟩
      case measure => simp [intOf]; omega
    · obtain rfl : k = L := by omega
      have HD := Lib.hid hK
      clear hK
      go_wp2
      go_ret
      exact ⟨_, _, rfl, HD.out⟩
end Go.Proofs.Yteckkbjpeckjmaa.Rx
/- The table of a valid expression (package match); letters and words. -/
namespace Go.Proofs.Yteckkbjpeckjmaa.Rx
open Go Go.RowKit Go.Proofs.Yteckkbjpeckjmaa
set_option linter.unusedVariables false
set_option linter.unusedSimpArgs false
set_option maxRecDepth 100000
/-- The block of a piece is one expression alone. -/
theorem bl_unique {e : List Pc} : ∀ (t t' : Ex) (s s' j : Nat), t.Ok → t'.Ok → Bl e s j t → Bl e s' j t' → t = t'
  | .leaf op p q, .leaf op' p' q', s, s', j, h, h', hb, hb' => by
    have h1 := bl_leaf' hb
    rw [bl_leaf' hb'] at h1
    simp only [Pc.mk.injEq, and_true] at h1
    rw [h1.1, h1.2.1, h1.2.2]
  | .leaf op p q, .one op' a', s, s', j, h, h', hb, hb' => by
    have h1 := bl_leaf' hb
    rw [(bl_one' hb').2.1] at h1
    simp only [Pc.mk.injEq] at h1
    have := h.1
    have := h'.1
    omega
  | .leaf op p q, .two op' a' b', s, s', j, h, h', hb, hb' => by
    have h1 := bl_leaf' hb
    rw [(bl_two' hb').2.1] at h1
    simp only [Pc.mk.injEq] at h1
    have := h.1
    have := h'.1
    omega
  | .one op a, .leaf op' p' q', s, s', j, h, h', hb, hb' => by
    have h1 := bl_leaf' hb'
    rw [(bl_one' hb).2.1] at h1
    simp only [Pc.mk.injEq] at h1
    have := h.1
    have := h'.1
    omega
  | .one op a, .one op' a', s, s', j, h, h', hb, hb' => by
    obtain ⟨_, h1, h2⟩ := bl_one' hb
    obtain ⟨_, h3, h4⟩ := bl_one' hb'
    rw [h3] at h1
    simp only [Pc.mk.injEq] at h1
    rw [h1.1, bl_unique a a' s s' (j - 1) h.2 h'.2 h2 h4]
  | .one op a, .two op' a' b', s, s', j, h, h', hb, hb' => by
    have h1 := (bl_one' hb).2.1
    rw [(bl_two' hb').2.1] at h1
    simp only [Pc.mk.injEq] at h1
    have := h.1
    have := h'.1
    omega
  | .two op a b, .leaf op' p' q', s, s', j, h, h', hb, hb' => by
    have h1 := bl_leaf' hb'
    rw [(bl_two' hb).2.1] at h1
    simp only [Pc.mk.injEq] at h1
    have := h.1
    have := h'.1
    omega
  | .two op a b, .one op' a', s, s', j, h, h', hb, hb' => by
    have h1 := (bl_one' hb').2.1
    rw [(bl_two' hb).2.1] at h1
    simp only [Pc.mk.injEq] at h1
    have := h.1
    have := h'.1
    omega
  | .two op a b, .two op' a' b', s, s', j, h, h', hb, hb' => by
    obtain ⟨_, h1, h2, h3⟩ := bl_two' hb
    obtain ⟨_, h4, h5, h6⟩ := bl_two' hb'
    rw [h4] at h1
    simp only [Pc.mk.injEq] at h1
    have eb := bl_unique b b' (s + a.size) (s' + a'.size) (j - 1) h.2.2 h'.2.2 h3 h6
    have hs : s' + a'.size - 1 = s + a.size - 1 := by have := a.pos; have := a'.pos; omega
    rw [hs] at h5
    rw [h1.1, eb, bl_unique a a' s s' (s + a.size - 1) h.2.1 h'.2.1 h2 h5]
theorem sub_bl {t : Ex} {k : Nat} (hk : k < t.size) : ∃ s, Bl (flat t 0) s k (sub t k) := by
  obtain ⟨s, h1, h2⟩ := sub_flat t k 0 hk
  rw [Nat.zero_add] at h2
  exact ⟨s, h1, h2⟩
section
variable {t : Ex} {v : Int} (hV : t.Valid v)
include hV
theorem sub_is {k s : Nat} {u : Ex} (hk : k < t.size) (hu : u.Ok) (h : Bl (flat t 0) s k u) : sub t k = u := by
  obtain ⟨s', h'⟩ := sub_bl hk
  exact bl_unique _ _ s' s k (sub_ok v t k hk hV.ok hV.cubes).1 hu h' h
/-- What is known of a piece of a valid expression. -/
theorem piece_of {k : Nat} (hk : k < t.size) :
    ((1 ≤ (pc (flat t 0) k).op ∧ (pc (flat t 0) k).op ≤ 10) ∧ 0 ≤ (pc (flat t 0) k).a ∧ 0 ≤ (pc (flat t 0) k).b ∧ (pc (flat t 0) k).a.toNat < t.size ∧ (pc (flat t 0) k).b.toNat < t.size ∧ (4 ≤ (pc (flat t 0) k).op → (pc (flat t 0) k).a.toNat < k) ∧ (4 ≤ (pc (flat t 0) k).op → (pc (flat t 0) k).op ≤ 6 → (pc (flat t 0) k).b.toNat < k)) ∧
    ∀ word : List Nat, stepT (flat t 0) word word.length (fun k => mt word (sub t k)) k := by
  obtain ⟨s, hb⟩ := sub_bl hk
  have hso := (sub_ok v t k hk hV.ok hV.cubes).1
  have hss : s + (sub t k).size = k + 1 := hb.1
  unfold stepT
  cases hu : sub t k with
  | leaf op p q =>
    rw [hu] at hb hso
    rw [bl_leaf' hb]
    have h1 := hso.1
    refine ⟨⟨by simp only; omega, Int.le_refl _, Int.le_refl _, by simp only [Int.toNat_zero]; omega, by simp only [Int.toNat_zero]; omega, fun h => by simp only at h; omega, fun h => by simp only at h; omega⟩, fun word g i j hij hj hg => ?_⟩
    simp only [hu]
    rcases leaf_ops h1 with rfl | rfl | rfl
    · rfl
    · rfl
    · rfl
  | one op a =>
    rw [hu] at hb hso hss
    obtain ⟨hk0, hpc, hba⟩ := bl_one' hb
    have h1 := hso.1
    have hka : sub t (k - 1) = a := sub_is hV (by omega) hso.2 hba
    have ek : ((k : Int) - 1).toNat = k - 1 := by omega
    rw [hpc]
    refine ⟨⟨by simp only; omega, by simp only; omega, Int.le_refl _, by simp only [ek]; omega, by simp only [Int.toNat_zero]; omega, fun h => by simp only [ek]; omega, fun h h' => by simp only at h h'; omega⟩, fun word g i j hij hj hg => ?_⟩
    simp only [ek, hka, hu] at hg ⊢
    rcases one_ops h1 with rfl | rfl | rfl | rfl
    · rfl
    · show (i == j || rg (i + 1) j fun k => mt word a i k && g k j) = _
      rw [mt_star, star_eq]
      congr 1
      refine rg_congr fun x h2 h3 => ?_
      rw [hg x j h2 h3 hj, mt_star]
    · rfl
    · rfl
  | two op a b =>
    rw [hu] at hb hso hss
    obtain ⟨hk0, hpc, hba, hbb⟩ := bl_two' hb
    have h1 := hso.1
    have hpa := a.pos
    have hpb := b.pos
    have hsz : s + (a.size + b.size + 1) = k + 1 := hss
    have hka : sub t (s + a.size - 1) = a := sub_is hV (by omega) hso.2.1 hba
    have hkb : sub t (k - 1) = b := sub_is hV (by omega) hso.2.2 hbb
    have ek : ((k : Int) - 1).toNat = k - 1 := by omega
    have ea : (((s + a.size : Nat) : Int) - 1).toNat = s + a.size - 1 := by omega
    rw [hpc]
    refine ⟨⟨by simp only; omega, by simp only; omega, by simp only; omega, by simp only [ea]; omega, by simp only [ek]; omega, fun h => by simp only [ea]; omega, fun h h' => by simp only [ek]; omega⟩, fun word g i j hij hj hg => ?_⟩
    simp only [ek, ea, hka, hkb, hu] at hg ⊢
    rcases two_ops h1 with rfl | rfl | rfl
    · rfl
    · rfl
    · rfl
end
set_option maxHeartbeats 4000000 in
theorem table_any (A B : Option Addr) (t : Ex) (L c d : Nat) (v : Int) (word : List Nat) (n : Nat) (w : World) (hx : PcsAt w A (flat t 0)) (hV : t.Valid v) (hL : L = t.size) (hB : Bys w B word) (hn : n = word.length) (hn2 : n ≤ 1000) (hw8 : ∀ x ∈ word, x < 256) :
    Calls Try.prog 43 #[.slice A L c, .slice B n d] w fun r w' => ∃ mb, r = .returned (matV mb n) ∧ MatAt w' mb n (half n (mt word t)) ∧ Below w.heap.size w w' ∧ w.heap.size ≤ mb := by
  subst hn
  have hs := hV.size
  have hp := t.pos
  have hlen : (flat t 0).length = t.size := flat_len t 0
  have HTb : Hid (Calls Try.prog 71 #[.slice A L c, .slice B word.length d] w fun r w' => ∃ (kb : Nat) (mbs : Nat → Nat), r = .returned (.slice (some ⟨kb, 0, none⟩) L L) ∧ w'.cell? ⟨kb, L - 1, none⟩ = some (matV (mbs (L - 1)) word.length) ∧ MatAt w' (mbs (L - 1)) word.length (half word.length (mt word t)) ∧ Below w.heap.size w w' ∧ w.heap.size ≤ mbs (L - 1) ∧ kb < w'.heap.size) := by
    subst hL
    have := tables_any A B (flat t 0) c d word word.length (fun k => mt word (sub t k)) w hx (by omega) hB rfl hn2 hw8 (fun k hk => by rw [hlen] at hk ⊢; exact (piece_of hV hk).1) (fun k hk => by rw [hlen] at hk; exact (piece_of hV hk).2 word)
    rw [hlen] at this
    refine this.mono fun r w' ⟨kb, mbs, h1, h2⟩ => ⟨kb, mbs, h1, ?_, ?_, h2.b, ?_, lt_of_block h2.o⟩
    · have := cell_of h2.o (i := t.size - 1) (by omega)
      rwa [if_pos (by omega)] at this
    · have := (h2.m (t.size - 1) (by omega)).2
      rwa [sub_last] at this
    · have := (h2.m (t.size - 1) (by omega)).1
      have := h2.k0
      omega
  have hw1 : IntKind.i64.wrap ((L : Int) - 1) = ((L - 1 : Nat) : Int) := by rw [IntWalk.i64_in _ (by omega)]; omega
  have hL1 : ((L - 1 : Nat) : Int) = (L : Int) - 1 := by omega
  have hlt : ((L : Int) - 1) < (L : Int) := by omega
  obtain ⟨K, hK⟩ : ∃ K, L = K + 1 := ⟨L - 1, by omega⟩
  have hK64 : K ≤ 63 := by omega
  clear hx hV hB hlen hL hs hp hw8 hw1 hL1 hlt
  subst hK
  rw [Nat.add_sub_cancel] at HTb
  generalize word.length = n at *
  unfold matV at HTb ⊢
  go_enter Try.func43, Try.ntmps43
  go_wp2_with (go_at_call 71; ((with_reducible refine HTb.out.mono ?_); rintro r w1 ⟨kb, mbs, rfl, hc1, hM1, hb1, hm1, hk1⟩); have HM1 := Lib.hid hM1; have HB1 := Lib.hid hb1; have HMB := Lib.hid hm1; clear hM1 hb1 hm1)
  go_ret
  exact ⟨_, rfl, HM1.out, HB1.out, HMB.out⟩
theorem mIsLetter_any (x v : Nat) (w : World) (hx : x < 256) (hv : v ≤ 6) :
    Calls Try.prog 50 #[.int .u8 x, .int .i64 v] w fun e w' => e = .returned (.bool (decide (x < 2 ^ v))) ∧ w = w' := by
  go_enter Try.func50, Try.ntmps50
  go_wp2
  go_ret
  refine ⟨ret_bool ?_, rfl⟩
  rw [Cb.shl64 hv, Bool.eq_iff_iff, decide_eq_true_iff, decide_eq_true_iff]
  exact Int.ofNat_lt
/-- What is wrong with a word: 4 if it is too long, 1 if it has what is no letter. -/
def wordE (v : Nat) (word : List Nat) : Int := if 64 < word.length then 4 else if word.all (fun x => decide (x < 2 ^ v)) then 0 else 1
open Classical in
/-- What is wrong with an expression and a word. -/
noncomputable def wrongL (v : Int) (e : List Pc) (word : List Nat) : Int := if chkL v e ≠ 0 then chkL v e else wordE v.toNat word
end Go.Proofs.Yteckkbjpeckjmaa.Rx
/- Table, Accepts, Nullable (package match), on good and on bad arguments. -/
namespace Go.Proofs.Yteckkbjpeckjmaa.Rx
open Go Go.RowKit Go.Proofs.Yteckkbjpeckjmaa
set_option linter.unusedVariables false
set_option linter.unusedSimpArgs false
set_option maxRecDepth 100000
theorem take_all {word : List Nat} {f : Nat → Bool} {k : Nat} (hk : k < word.length) (h : (word.take k).all f = true) : (word.take (k + 1)).all f = f (wd word k) := by
  have e : word.take (k + 1) = word.take k ++ [wd word k] := by
    rw [List.take_add_one, List.getElem?_eq_getElem hk]
    simp [wd, hk]
  rw [e, List.all_append, h]
  simp
theorem all_bad {word : List Nat} {f : Nat → Bool} {k : Nat} (hk : k < word.length) (h : f (wd word k) = false) : word.all f = false := by
  rw [← Bool.not_eq_true, List.all_eq_true]
  intro h2
  have := h2 (wd word k) (by
    unfold wd
    rw [List.getD_eq_getElem?_getD, List.getElem?_eq_getElem hk]
    exact List.getElem_mem hk)
  rw [h] at this
  cases this
set_option maxHeartbeats 4000000 in
theorem checkWord_any (A B : Option Addr) (e : List Pc) (c d : Nat) (v : Int) (word : List Nat) (w : World) (hx : PcsAt w A e) (hl : e.length ≤ 1000000) (hB : Bys w B word) (hn : word.length ≤ 1000) (hw8 : ∀ x ∈ word, x < 256) :
    Calls Try.prog 42 #[.slice A e.length c, .int .i64 v, .slice B word.length d] w fun r w' => r = .returned (.int .i64 (wrongL v e word)) ∧ Below w.heap.size w w' := by
  have HC := Lib.hid (Check_any A e c v w hx hl)
  by_cases hE : chkL v e = 0
  · obtain ⟨t, hV, _⟩ := chkL_ok hE
    have hv0 := hV.v0
    have hv6 := hV.v6
    obtain ⟨V, rfl⟩ : ∃ V : Nat, v = V := ⟨v.toNat, by omega⟩
    have hV6 : V ≤ 6 := by omega
    have HR : Hid (wrongL (V : Int) e word = wordE V word) := by
      show _ = _
      unfold wrongL
      rw [if_neg (by simp [hE]), Int.toNat_natCast]
    rw [hE] at HC
    by_cases h64 : 64 < word.length
    · have HR2 : Hid (wrongL (V : Int) e word = 4) := by
        show _ = _
        rw [HR.out]; unfold wordE; rw [if_pos h64]
      have h1 : decide ((64 : Int) < (word.length : Int)) = true := decide_eq_true (by omega)
      have h2 : (64 : Int) < (word.length : Int) := by omega
      generalize wrongL (V : Int) e word = R at *
      generalize e.length = L at *
      generalize word.length = n at *
      clear hx hB hw8 hE hV hv0 hv6 HR h64
      go_enter Try.func42, Try.ntmps42
      go_wp2_with (go_at_call 10; ((with_reducible refine HC.out.mono ?_); rintro r w1 ⟨rfl, hb1⟩))
      go_ret
      exact ⟨ret_int HR2.out.symm, hb1⟩
    · have HR2 : Hid (wrongL (V : Int) e word = if word.all (fun x => decide (x < 2 ^ V)) then 0 else 1) := by
        show _ = _
        rw [HR.out]; unfold wordE; rw [if_neg h64]
      have h2 : ¬ (64 : Int) < (word.length : Int) := by omega
      have HBy := Lib.hid fun X (hX : Below w.heap.size w X) => hB.below hX
      have HL : Hid (∀ k, k < word.length → ∀ X, Calls Try.prog 50 #[.int .u8 (wd word k : Nat), .int .i64 V] X fun e w' => e = .returned (.bool (decide (wd word k < 2 ^ V))) ∧ X = w') := fun k hk X =>
        mIsLetter_any (wd word k) V X (by
          unfold wd
          rw [List.getD_eq_getElem?_getD, List.getElem?_eq_getElem hk]
          exact hw8 _ (List.getElem_mem hk)) hV6
      have HT : Hid (∀ k, k < word.length → (word.take k).all (fun x => decide (x < 2 ^ V)) = true → (word.take (k + 1)).all (fun x => decide (x < 2 ^ V)) = decide (wd word k < 2 ^ V)) := fun k hk h => take_all hk h
      have HBd : Hid (∀ k, k < word.length → decide (wd word k < 2 ^ V) = false → word.all (fun x => decide (x < 2 ^ V)) = false) := fun k hk h => all_bad hk h
      have HAll : Hid ((word.take word.length).all (fun x => decide (x < 2 ^ V)) = word.all fun x => decide (x < 2 ^ V)) := by
        show _ = _
        rw [List.take_length]
      generalize wrongL (V : Int) e word = R at *
      generalize e.length = L at *
      clear hx hB hw8 hE hV hv0 hv6 HR h64
      obtain ⟨n, hnn⟩ : ∃ n, n = word.length := ⟨_, rfl⟩
      rw [← hnn] at HL HT HBd HAll hn h2 ⊢
      have HN := Lib.hid hnn
      clear hnn
      go_enter Try.func42, Try.ntmps42
      go_wp2_with (go_at_call 10; ((with_reducible refine HC.out.mono ?_); rintro r w1 ⟨rfl, hb1⟩))
      go_loopw [21, 9] (fun i _ wr => ∃ k : Nat, k ≤ n ∧ i = .int .i64 k ∧ Hid ((word.take k).all (fun x => decide (x < 2 ^ V)) = true) ∧ Below w.heap.size w wr) (fun i _ _ => n - (intOf i).toNat)
      case atStart => exact ⟨0, by omega, rfl, by show _ = _; rw [List.take_zero]; rfl, hb1⟩
      case round =>
        obtain ⟨k, hk, rfl, hall, hb⟩ := hrel
        by_cases hlt : k < n
        · obtain ⟨ad, rfl, hcell⟩ := (HBy.out _ hb).at_ (j := k) (by have := HN.out; omega)
          have hkn : (k : Int) < (n : Int) := by omega
          have HLk := Lib.hid (HL.out k hlt)
          have HTk := Lib.hid (HT.out k hlt hall.out)
          have HBk := Lib.hid (HBd.out k hlt)
          generalize wd word k = x at *
          generalize decide (x < 2 ^ V) = y at *
          cases y with
          | true =>
            go_wp2_with (go_at_call 50; ((with_reducible refine (HLk.out _).mono ?_); rintro r w2 ⟨rfl, rfl⟩))
            go_roundw
            case rel => exact ⟨k + 1, by omega, by go_num, HTk.out, hb⟩
            case measure => simp [intOf]; omega
          | false =>
            go_wp2_with (go_at_call 50; ((with_reducible refine (HLk.out _).mono ?_); rintro r w2 ⟨rfl, rfl⟩))
            go_ret
            exact ⟨ret_int (by rw [HR2.out, HBk.out True.intro]; rfl), hb⟩
        · obtain rfl : k = n := by omega
          go_wp2
          go_ret
          exact ⟨ret_int (by rw [HR2.out, ← HAll.out, hall.out]; rfl), hb⟩
  · have HR : Hid (wrongL v e word = chkL v e) := by
      show _ = _
      unfold wrongL
      rw [if_pos hE]
    have h1 := int_ne hE
    generalize wrongL v e word = R at *
    generalize chkL v e = E at *
    generalize e.length = L at *
    generalize word.length = n at *
    clear hx hB hw8 hE
    go_enter Try.func42, Try.ntmps42
    go_wp2_with (go_at_call 10; ((with_reducible refine HC.out.mono ?_); rintro r w1 ⟨rfl, hb1⟩))
    go_ret
    exact ⟨ret_int HR.out.symm, hb1⟩
theorem wrong_none {v : Int} {e : List Pc} {word : List Nat} (h : wrongL v e word = 0) : (∃ t : Ex, t.Valid v ∧ e = flat t 0) ∧ word.length ≤ 64 ∧ ∀ x ∈ word, x < 2 ^ v.toNat := by
  unfold wrongL at h
  by_cases hE : chkL v e = 0
  · rw [if_neg (by simp [hE])] at h
    unfold wordE at h
    by_cases h64 : 64 < word.length
    · rw [if_pos h64] at h; cases h
    · rw [if_neg h64] at h
      refine ⟨chkL_ok hE, by omega, ?_⟩
      split at h
      · rename_i ha
        intro x hx
        exact of_decide_eq_true (List.all_eq_true.1 ha x hx)
      · cases h
  · rw [if_pos hE] at h
    exact absurd h hE
theorem wrong_valid {v : Int} {t : Ex} (hV : t.Valid v) (word : List Nat) : wrongL v (flat t 0) word = wordE v.toNat word := by
  unfold wrongL
  rw [if_neg (by simp [chkL_valid hV])]
theorem wrong_bad {v : Int} {e : List Pc} (hE : chkL v e ≠ 0) (word : List Nat) : wrongL v e word = chkL v e := by
  unfold wrongL
  rw [if_pos hE]
section
variable (A B : Option Addr) (c d : Nat) (v : Int) (word : List Nat) (w : World)
set_option maxHeartbeats 2000000 in
theorem Table_bad (e : List Pc) (hx : PcsAt w A e) (hl : e.length ≤ 1000000) (hB : Bys w B word) (hn : word.length ≤ 1000) (hw8 : ∀ x ∈ word, x < 256) (hE : wrongL v e word ≠ 0) :
    Calls Try.prog 18 #[.slice A e.length c, .int .i64 v, .slice B word.length d] w fun r w' => r = .returned (.tuple #[.slice none 0 0, .int .i64 (wrongL v e word)]) ∧ Below w.heap.size w w' := by
  have HC := Lib.hid (checkWord_any A B e c d v word w hx hl hB hn hw8)
  have h1 := int_ne hE
  generalize wrongL v e word = R at *
  generalize e.length = L at *
  generalize word.length = n at *
  clear hx hB hw8 hE
  go_enter Try.func18, Try.ntmps18
  go_wp2_with (go_at_call 42; ((with_reducible refine HC.out.mono ?_); rintro r w1 ⟨rfl, hb1⟩))
  go_ret2
  exact ⟨rfl, hb1⟩
set_option maxHeartbeats 2000000 in
theorem Accepts_bad (e : List Pc) (hx : PcsAt w A e) (hl : e.length ≤ 1000000) (hB : Bys w B word) (hn : word.length ≤ 1000) (hw8 : ∀ x ∈ word, x < 256) (hE : wrongL v e word ≠ 0) :
    Calls Try.prog 19 #[.slice A e.length c, .int .i64 v, .slice B word.length d] w fun r w' => r = .returned (.tuple #[.bool false, .int .i64 (wrongL v e word)]) ∧ Below w.heap.size w w' := by
  have HC := Lib.hid (checkWord_any A B e c d v word w hx hl hB hn hw8)
  have h1 := int_ne hE
  generalize wrongL v e word = R at *
  generalize e.length = L at *
  generalize word.length = n at *
  clear hx hB hw8 hE
  go_enter Try.func19, Try.ntmps19
  go_wp2_with (go_at_call 42; ((with_reducible refine HC.out.mono ?_); rintro r w1 ⟨rfl, hb1⟩))
  go_ret2
  exact ⟨rfl, hb1⟩
variable (t : Ex) (L n : Nat)
set_option maxHeartbeats 2000000 in
theorem Table_good (hx : PcsAt w A (flat t 0)) (hV : t.Valid v) (hL : L = t.size) (hB : Bys w B word) (hn : n = word.length) (hw8 : ∀ x ∈ word, x < 256) (hE : wordE v.toNat word = 0) (hn2 : word.length ≤ 1000) :
    Calls Try.prog 18 #[.slice A L c, .int .i64 v, .slice B n d] w fun r w' => ∃ mb, r = .returned (.tuple #[matV mb n, .int .i64 0]) ∧ MatAt w' mb n (half n (mt word t)) ∧ Below w.heap.size w w' ∧ w.heap.size ≤ mb := by
  have hs := hV.size
  have HC := checkWord_any A B (flat t 0) c d v word w hx (by rw [flat_len]; omega) hB hn2 hw8
  rw [wrong_valid hV, hE, flat_len, ← hL, ← hn] at HC
  have HC := Lib.hid HC
  have HT := Lib.hid fun X (hX : Below w.heap.size w X) => table_any A B t L c d v word n X (hx.below hX) hV hL (hB.below hX) hn (by omega) hw8
  clear hx hV hL hB hn hw8 hE hs
  unfold matV at HT ⊢
  go_enter Try.func18, Try.ntmps18
  go_wp2_with (first
    | (go_at_call 42; ((with_reducible refine HC.out.mono ?_); rintro r w1 ⟨rfl, hb1⟩))
    | (go_at_call 43; ((with_reducible refine (HT.out _ hb1).mono ?_); rintro r w2 ⟨mb, rfl, hM, hb2, hmb⟩); have HM := Lib.hid hM; have HMB := Lib.hid hmb; clear hM hmb))
  go_ret2
  exact ⟨_, rfl, HM.out, stepB hb1 hb2, Nat.le_trans hb1.size HMB.out⟩
set_option maxHeartbeats 2000000 in
theorem Accepts_good (hx : PcsAt w A (flat t 0)) (hV : t.Valid v) (hL : L = t.size) (hB : Bys w B word) (hn : n = word.length) (hw8 : ∀ x ∈ word, x < 256) (hE : wordE v.toNat word = 0) (hn2 : word.length ≤ 1000) :
    Calls Try.prog 19 #[.slice A L c, .int .i64 v, .slice B n d] w fun r w' => r = .returned (.tuple #[.bool (mt word t 0 n), .int .i64 0]) ∧ Below w.heap.size w w' := by
  have hs := hV.size
  have HC := checkWord_any A B (flat t 0) c d v word w hx (by rw [flat_len]; omega) hB hn2 hw8
  rw [wrong_valid hV, hE, flat_len, ← hL, ← hn] at HC
  have HC := Lib.hid HC
  have HT := Lib.hid fun X (hX : Below w.heap.size w X) => table_any A B t L c d v word n X (hx.below hX) hV hL (hB.below hX) hn (by omega) hw8
  have HAt : Hid (∀ mb X, MatAt X mb n (half n (mt word t)) → Calls Try.prog 44 #[matV mb n, .int .i64 0, .int .i64 n] X fun e w' => e = .returned (.bool (mt word t 0 n)) ∧ Below X.heap.size X w') := fun mb X hM => by
    have := mat_at_any mb n (half n (mt word t)) (by omega) 0 n (by omega) (Nat.le_refl _) X hM
    rwa [half_at (Nat.zero_le _) (Nat.le_refl _)] at this
  clear hx hV hL hB hn hw8 hE hs
  generalize mt word t 0 n = R at *
  unfold matV at HT HAt
  go_enter Try.func19, Try.ntmps19
  go_wp2_with (first
    | (go_at_call 42; ((with_reducible refine HC.out.mono ?_); rintro r w1 ⟨rfl, hb1⟩))
    | (go_at_call 43; ((with_reducible refine (HT.out _ hb1).mono ?_); rintro r w2 ⟨mb, rfl, hM, hb2, hmb⟩); have HM := Lib.hid hM; clear hM hmb)
    | (go_at_call 44; ((with_reducible refine (HAt.out _ _ HM.out).mono ?_); rintro r w3 ⟨rfl, hb3⟩)))
  go_ret2
  exact ⟨rfl, stepB (stepB hb1 hb2) hb3⟩
end
section
variable (A : Option Addr) (c : Nat) (v : Int) (w : World)
set_option maxHeartbeats 2000000 in
theorem Nullable_bad (e : List Pc) (hx : PcsAt w A e) (hl : e.length ≤ 1000000) (hE : chkL v e ≠ 0) :
    Calls Try.prog 27 #[.slice A e.length c, .int .i64 v] w fun r w' => r = .returned (.tuple #[.bool false, .int .i64 (chkL v e)]) ∧ Below w.heap.size w w' := by
  have HC := Lib.hid (Plain_bad A e c v w hx hl hE)
  have h1 := int_ne hE
  generalize chkL v e = R at *
  generalize e.length = L at *
  clear hx hE
  have HK : Hid (Calls Try.prog 49 #[.slice A L c, .int .i64 v] w fun r w' => r = .returned (.int .i64 R) ∧ Below w.heap.size w w') := by
    show Calls _ _ _ _ _
    go_enter Try.func49, Try.ntmps49
    go_wp2_with (go_at_call 76; ((with_reducible refine HC.out.mono ?_); rintro r w1 ⟨rfl, hb1⟩))
    go_ret
    exact ⟨rfl, hb1⟩
  clear HC
  go_enter Try.func27, Try.ntmps27
  go_wp2_with (go_at_call 49; ((with_reducible refine HK.out.mono ?_); rintro r w1 ⟨rfl, hb1⟩))
  go_ret2
  exact ⟨rfl, hb1⟩
variable (t : Ex) (L : Nat)
set_option maxHeartbeats 2000000 in
theorem checkPlain_good (hx : PcsAt w A (flat t 0)) (hV : t.Valid v) (hL : L = t.size) :
    Calls Try.prog 49 #[.slice A L c, .int .i64 v] w fun r w' => r = .returned (.int .i64 (if plainT t then 0 else 6)) ∧ Below w.heap.size w w' := by
  have HC := Lib.hid (Plain_good A t L c v w hx hV hL)
  clear hx hV hL
  generalize plainT t = R at *
  cases R
  all_goals
    go_enter Try.func49, Try.ntmps49
    go_wp2_with (go_at_call 76; ((with_reducible refine HC.out.mono ?_); rintro r w1 ⟨rfl, hb1⟩))
    go_ret
    exact ⟨rfl, hb1⟩
theorem bys_nil (w : World) : Bys w none [] := fun j hj => absurd hj (by simp)
set_option maxHeartbeats 2000000 in
theorem Nullable_good (hx : PcsAt w A (flat t 0)) (hV : t.Valid v) (hL : L = t.size) :
    Calls Try.prog 27 #[.slice A L c, .int .i64 v] w fun r w' => r = .returned (.tuple #[.bool (plainT t && mt [] t 0 0), .int .i64 (if plainT t then 0 else 6)]) ∧ Below w.heap.size w w' := by
  have HC := Lib.hid (checkPlain_good A c v w t L hx hV hL)
  have HT : Hid (∀ X, Below w.heap.size w X → Calls Try.prog 43 #[.slice A L c, .slice none 0 0] X fun r w' => ∃ mb, r = .returned (matV mb 0) ∧ MatAt w' mb 0 (half 0 (mt [] t)) ∧ Below X.heap.size X w' ∧ X.heap.size ≤ mb) := fun X hX => table_any A none t L c 0 v [] 0 X (hx.below hX) hV hL (bys_nil X) rfl (by omega) (fun x h => by cases h)
  have HAt : Hid (∀ mb X, MatAt X mb 0 (half 0 (mt [] t)) → Calls Try.prog 44 #[matV mb 0, .int .i64 0, .int .i64 0] X fun e w' => e = .returned (.bool (mt [] t 0 0)) ∧ Below X.heap.size X w') := fun mb X hM => by
    have := mat_at_any mb 0 (half 0 (mt [] t)) (by omega) 0 0 (by omega) (Nat.le_refl _) X hM
    rwa [half_at (Nat.zero_le _) (Nat.le_refl _)] at this
  clear hx hV hL
  generalize mt [] t 0 0 = R at *
  generalize plainT t = pl at *
  unfold matV at HT HAt
  cases pl
  all_goals
    go_enter Try.func27, Try.ntmps27
    go_wp2_with (first
      | (go_at_call 49; ((with_reducible refine HC.out.mono ?_); rintro r w1 ⟨rfl, hb1⟩))
      | (go_at_call 43; ((with_reducible refine (HT.out _ hb1).mono ?_); rintro r w2 ⟨mb, rfl, hM, hb2, hmb⟩); have HM := Lib.hid hM; clear hM hmb)
      | (go_at_call 44; ((with_reducible refine (HAt.out _ _ HM.out).mono ?_); rintro r w3 ⟨rfl, hb3⟩)))
    go_ret2
    first | exact ⟨rfl, hb1⟩ | exact ⟨rfl, stepB (stepB hb1 hb2) hb3⟩
end
end Go.Proofs.Yteckkbjpeckjmaa.Rx
/- Spans (package match). -/
namespace Go.Proofs.Yteckkbjpeckjmaa.Rx
open Go Go.RowKit Go.Proofs.Yteckkbjpeckjmaa
set_option linter.unusedVariables false
set_option linter.unusedSimpArgs false
set_option maxRecDepth 100000
/-- The pairs (i, j) with j below e at which G holds. -/
def rowS (G : Nat → Nat → Bool) (i e : Nat) : List (Nat × Nat) := ((List.range e).filter (G i)).map fun j => (i, j)
/-- The pairs of the first k rows. -/
def spansTo (G : Nat → Nat → Bool) (N : Nat) : Nat → List (Nat × Nat)
  | 0 => []
  | k + 1 => spansTo G N k ++ rowS G k N
theorem rowS_zero (G : Nat → Nat → Bool) (i : Nat) : rowS G i 0 = [] := rfl
theorem rowS_yes {G : Nat → Nat → Bool} {i j : Nat} (h : G i j = true) : rowS G i (j + 1) = rowS G i j ++ [(i, j)] := by
  unfold rowS
  rw [List.range_succ, List.filter_append, List.map_append]
  simp [h]
theorem rowS_no {G : Nat → Nat → Bool} {i j : Nat} (h : G i j = false) : rowS G i (j + 1) = rowS G i j := by
  unfold rowS
  rw [List.range_succ, List.filter_append, List.map_append]
  simp [h]
theorem rowS_len (G : Nat → Nat → Bool) (i e : Nat) : (rowS G i e).length ≤ e := by
  unfold rowS
  rw [List.length_map]
  have := List.length_filter_le (G i) (List.range e)
  simpa using this
theorem spansTo_len (G : Nat → Nat → Bool) (N : Nat) : ∀ k, (spansTo G N k).length ≤ k * N
  | 0 => by simp [spansTo]
  | k + 1 => by
    unfold spansTo
    rw [List.length_append, Nat.succ_mul]
    have := spansTo_len G N k
    have := rowS_len G k N
    omega
/-- Pairs as cells. -/
def pairV (l : List (Nat × Nat)) : List Value := l.flatMap fun x => [.int .i64 (x.1 : Nat), .int .i64 (x.2 : Nat)]
theorem pairV_snoc (l : List (Nat × Nat)) (x : Nat × Nat) : pairV (l ++ [x]) = pairV l ++ [.int .i64 (x.1 : Nat), .int .i64 (x.2 : Nat)] := by simp [pairV]
theorem pairV_len (l : List (Nat × Nat)) : (pairV l).length = l.length * 2 := by
  induction l with
  | nil => rfl
  | cons x l ih =>
    have : pairV (x :: l) = [.int .i64 (x.1 : Nat), .int .i64 (x.2 : Nat)] ++ pairV l := by simp [pairV]
    rw [this, List.length_append, ih]
    simp
    omega
theorem info_pair : (Try.prog.info? 50).map (fun i => (i.zero, i.size, i.bytes)) = some (some (.agg #[.int .i64 0, .int .i64 0]), 2, 16) := by kernel_rfl
theorem cells_two (w : World) (u v : Value) (t : TypeId) : ∀ j x, [u, v][j]? = some x → (w.alloc (.cells #[u, v] t)).cell? ((⟨w.heap.size, 0, none⟩ : Addr).add j) = some x := by
  intro j x hx
  rw [addr_of, World.cell?_alloc_at _ _ _ _ rfl]
  simpa using hx
set_option maxHeartbeats 4000000 in
theorem Spans_bad (A B : Option Addr) (c d : Nat) (v : Int) (word : List Nat) (w : World) (e : List Pc) (hx : PcsAt w A e) (hl : e.length ≤ 1000000) (hB : Bys w B word) (hn : word.length ≤ 1000) (hw8 : ∀ x ∈ word, x < 256) (hE : wrongL v e word ≠ 0) :
    Calls Try.prog 20 #[.slice A e.length c, .int .i64 v, .slice B word.length d] w fun r w' => r = .returned (.tuple #[.slice none 0 0, .int .i64 (wrongL v e word)]) ∧ Below w.heap.size w w' := by
  have HC := Lib.hid (checkWord_any A B e c d v word w hx hl hB hn hw8)
  have h1 := int_ne hE
  generalize wrongL v e word = R at *
  generalize e.length = L at *
  generalize word.length = n at *
  clear hx hB hw8 hE
  go_enter Try.func20, Try.ntmps20
  go_wp2_with (go_at_call 42; ((with_reducible refine HC.out.mono ?_); rintro r w1 ⟨rfl, hb1⟩))
  go_ret2
  exact ⟨rfl, hb1⟩
/-- The value u holds the pairs l, in memory of its own from B on. -/
def OwnP (B : Nat) (W : World) (u : Value) (l : List (Nat × Nat)) : Prop := W.ownsRow B 50 2 u l.length (pairV l)
/-- What the table holds, as one list of pairs. -/
def spansL (n : Nat) (F : Nat → Nat → Bool) : List (Nat × Nat) := spansTo (half n F) (n + 1) (n + 1)
/-- An append leaves every block of another type as it lay. -/
theorem row_keeps {W w6 : World} {tmp : Obj} {B size m : Nat} {e : TypeId} {v : Value} {xs : List Value} (hown : W.ownsRow B e size v m xs) (hg : (W.alloc tmp).grownBy w6 v.ownBlock) {k : Nat} {cs : Array Value} {t : TypeId} {f : Nat × Nat} (hk : W.heap[k]? = some (.cells cs t f)) (ht : t ≠ e) : w6.heap[k]? = some (.cells cs t f) := by
  have hlt := lt_of_block hk
  refine (hg.block k (by simp; omega) fun e2 => ?_).trans (box_old hk)
  rcases hown.2 with ⟨rfl, _⟩ | ⟨g, cap, cur, rfl, _, hb, _⟩
  · cases e2
  · cases e2
    rw [hb] at hk
    simp only [Option.some.injEq, Obj.cells.injEq] at hk
    exact ht hk.2.1.symm
theorem MatAt.grown {W w6 : World} {tmp : Obj} {B size m mb n : Nat} {e : TypeId} {v : Value} {xs : List Value} {g : Nat → Nat → Bool} (h : MatAt W mb n g) (hown : W.ownsRow B e size v m xs) (hg : (W.alloc tmp).grownBy w6 v.ownBlock) (h1 : 49 ≠ e) (h2 : 4 ≠ e) : MatAt w6 mb n g :=
  ⟨row_keeps hown hg h.o h1, fun i hi => row_keeps hown hg (h.r i hi) h2⟩
set_option maxHeartbeats 8000000 in
theorem Spans_good (A B : Option Addr) (c d : Nat) (v : Int) (word : List Nat) (w : World) (t : Ex) (L n : Nat) (hx : PcsAt w A (flat t 0)) (hV : t.Valid v) (hL : L = t.size) (hB : Bys w B word) (hn : n = word.length) (hw8 : ∀ x ∈ word, x < 256) (hE : wordE v.toNat word = 0) (hn2 : n ≤ 100) :
    Calls Try.prog 20 #[.slice A L c, .int .i64 v, .slice B n d] w fun r w' => ∃ A' c', r = .returned (.tuple #[.slice A' (spansL n (mt word t)).length c', .int .i64 0]) ∧
      w'.ownsRow w.heap.size 50 2 (.slice A' (spansL n (mt word t)).length c') (spansL n (mt word t)).length (pairV (spansL n (mt word t))) ∧ Below w.heap.size w w' := by
  have hs := hV.size
  have HC := checkWord_any A B (flat t 0) c d v word w hx (by rw [flat_len]; omega) hB (by omega) hw8
  rw [wrong_valid hV, hE, flat_len, ← hL, ← hn] at HC
  have HC := Lib.hid HC
  have HT := Lib.hid fun X (hX : Below w.heap.size w X) => table_any A B t L c d v word n X (hx.below hX) hV hL (hB.below hX) hn (by omega) hw8
  clear hx hV hL hB hn hw8 hE hs
  unfold spansL
  generalize half n (mt word t) = G at *
  obtain ⟨i0, hi, hz0, hz1, hz2⟩ := info_parts info_pair
  have HLen := Lib.hid (spansTo_len G (n + 1))
  have HRow := Lib.hid (rowS_len G)
  generalize hZ : spansTo G (n + 1) (n + 1) = Z
  have HZ := Lib.hid hZ
  obtain ⟨m, hm⟩ : ∃ m, m = Z.length := ⟨_, rfl⟩
  rw [← hm]
  have Hm := Lib.hid hm
  clear hm hZ
  unfold matV at HT
  go_enter Try.func20, Try.ntmps20
  go_wp2_with (first
    | (go_at_call 42; ((with_reducible refine HC.out.mono ?_); rintro r w1 ⟨rfl, hb1⟩))
    | (go_at_call 43; ((with_reducible refine (HT.out _ hb1).mono ?_); rintro r w2 ⟨mb, rfl, hM, hb2, hmb⟩); have HM := Lib.hid hM; have HB2 := Lib.hid (stepB hb1 hb2); clear hM hmb hb1 hb2))
  go_loopw [25, 10, 11, 9, 12, 13] (fun i _ _ u _ _ wr => ∃ k : Nat, k ≤ n + 1 ∧ i = .int .i64 k ∧ OwnP w.heap.size wr u (spansTo G (n + 1) k) ∧ MatAt wr mb n G ∧ Below w.heap.size w wr) (fun i _ _ _ _ _ _ => n + 1 - (intOf i).toNat)
  case atStart => exact ⟨0, by omega, rfl, ⟨rfl, .inl ⟨rfl, rfl⟩⟩, HM.out, HB2.out⟩
  case round =>
    obtain ⟨k, hk, rfl, hown, hMw, hb⟩ := hrel
    by_cases hlt : k < n + 1
    · have hkn : (k : Int) < (n : Int) + 1 := by omega
      have HMw := Lib.hid hMw
      have q1 := cell_of HMw.out.o (i := k) hlt
      unfold rowV at q1
      have hmbw : mb < wr.heap.size := by have := HMw.out.lt; omega
      have HLk : Hid ((spansTo G (n + 1) k).length ≤ 20000) := by
        show _ ≤ _
        have := HLen.out k
        have h2 : k * (n + 1) ≤ 101 * 101 := Nat.mul_le_mul (by omega) (by omega)
        omega
      have HStep : Hid (spansTo G (n + 1) (k + 1) = spansTo G (n + 1) k ++ rowS G k (n + 1)) := rfl
      obtain ⟨S0, hS0⟩ : ∃ S0, S0 = spansTo G (n + 1) k := ⟨_, rfl⟩
      rw [← hS0] at hown HLk HStep
      have HOw := Lib.hid hown
      have HB0 := Lib.hid hb
      clear hown hb hMw hS0
      go_wp2
      go_loopw [32, 9, 12, 13] (fun i u _ _ wx => ∃ j : Nat, j ≤ n + 1 ∧ i = .int .i64 j ∧ OwnP w.heap.size wx u (S0 ++ rowS G k j) ∧ Below w.heap.size w wx ∧ MatAt wx mb n G) (fun i _ _ _ _ => n + 1 - (intOf i).toNat)
      case atStart => exact ⟨0, by omega, rfl, by rw [rowS_zero, List.append_nil]; exact HOw.out, HB0.out, HMw.out⟩
      case round =>
        clear HOw HB0 HMw q1 hmbw
        obtain ⟨j, hj, rfl, hown, hb, hMx⟩ := hrel
        by_cases hlj : j < n + 1
        · have hjn : (j : Int) < (n : Int) + 1 := by omega
          have q2 := cell_of (hMx.r k (by omega)) (i := j) hlj
          unfold boolV at q2
          have hrb : mb + 1 + k < wr.heap.size := by have := hMx.lt; omega
          obtain ⟨P, hP⟩ : ∃ P, P = S0 ++ rowS G k j := ⟨_, rfl⟩
          have hY : Hid (G k j = true → S0 ++ rowS G k (j + 1) = P ++ [(k, j)]) := fun h => by rw [hP, rowS_yes h, List.append_assoc]
          have hNo : Hid (G k j = false → S0 ++ rowS G k (j + 1) = P) := fun h => by rw [hP, rowS_no h]
          obtain ⟨m2, hm2⟩ : ∃ m2, m2 = P.length := ⟨_, rfl⟩
          have hPl : m2 ≤ 30000 := by
            have h1 := HLk.out
            have h2 := HRow.out k j
            rw [hm2, hP, List.length_append]
            omega
          unfold OwnP at hown
          rw [← hP, ← hm2] at hown
          obtain ⟨A', c', rfl, _⟩ := Ap.own_form hown
          have HM2 := Lib.hid hm2
          have HMx := Lib.hid hMx
          clear hP hm2 hMx
          have hsz := hb.size
          generalize G k j = y at *
          cases y with
          | true =>
            go_wp2_with (at_builtin; refine wpList_append_own _ rfl _ _ 48 rfl w.heap.size 50 i0 _ 2 16 Try.underlying48 hi hz0 hz1 hz2 rfl (by decide) _ _ _ rfl (Ap.own_bel hown (Cb.bal (Below.refl _ _) _)) ⟨wr.heap.size, 0, none⟩ 1 1 [.int .i64 k, .int .i64 j] rfl rfl (cells_two _ _ _ _) (by simp [Value.oneCell']) (by unfold maxLen; omega) (by omega) (by simp; omega) ?_; intro v' w6 hown' hgrow _)
            have hb6 : Below w.heap.size w w6 := (hb.alloc hsz _).grown hgrow (by simp; omega) (fun q hq => (hown.lt q hq).1)
            have hM6 := HMx.out.grown hown hgrow (by decide) (by decide)
            go_roundw
            case rel =>
              refine ⟨j + 1, by omega, by go_num, ?_, hb6, hM6⟩
              rw [hY.out rfl]
              unfold OwnP
              rw [pairV_snoc, List.length_append, ← HM2.out]
              exact hown'
            case measure => simp [intOf]; omega
          | false =>
            go_wp2
            go_roundw
            case rel =>
              refine ⟨j + 1, by omega, by go_num, ?_, hb, HMx.out⟩
              rw [hNo.out rfl]
              unfold OwnP
              rw [← HM2.out]
              exact hown
            case measure => simp [intOf]; omega
        · obtain rfl : j = n + 1 := by omega
          have HO := Lib.hid hown
          have HMx := Lib.hid hMx
          clear hown hMx
          go_wp2
          go_roundw
          case rel => exact ⟨k + 1, by omega, by go_num, by rw [HStep.out]; exact HO.out, HMx.out, hb⟩
          case measure => simp [intOf]; omega
    · obtain rfl : k = n + 1 := by omega
      unfold OwnP at hown
      rw [HZ.out, ← Hm.out] at hown
      obtain ⟨A', c', rfl, _⟩ := Ap.own_form hown
      have HO := Lib.hid hown
      clear hown
      go_wp2
      go_ret2
      exact ⟨_, _, rfl, HO.out, hb⟩
end Go.Proofs.Yteckkbjpeckjmaa.Rx
/- Derivatives (package match): pieces moved, operators applied. -/
namespace Go.Proofs.Yteckkbjpeckjmaa.Rx
open Go Go.RowKit Go.Proofs.Yteckkbjpeckjmaa
set_option linter.unusedVariables false
set_option linter.unusedSimpArgs false
set_option maxRecDepth 100000
/-- A piece of a plain expression whose children begin k higher. -/
def mvP (k : Nat) (x : Pc) : Pc := if x.op = 4 ∨ x.op = 5 ∨ x.op = 6 then ⟨x.op, x.p, x.q, x.a + k, x.b + k⟩ else if x.op = 7 ∨ x.op = 8 then ⟨x.op, x.p, x.q, x.a + k, x.b⟩ else x
theorem mv_flat : ∀ (t : Ex) (j k : Nat), t.Ok → plainT t = true → (flat t j).map (mvP k) = flat t (j + k)
  | .leaf op p q, j, k, h, hp => by
    have h1 := h.1
    simp only [flat, List.map_cons, List.map_nil, mvP]
    rw [if_neg (by omega), if_neg (by omega)]
  | .one op a, j, k, h, hp => by
    obtain ⟨h1, h2⟩ := plain_one hp h.1
    rw [flat, flat, List.map_append, mv_flat a j k h.2 h2]
    congr 1
    simp only [List.map_cons, List.map_nil, mvP]
    rw [if_neg (by omega), if_pos h1]
    congr 2
    omega
  | .two op a b, j, k, h, hp => by
    obtain ⟨ha, hb⟩ := plain_two hp
    have h1 := h.1
    rw [flat, flat, List.map_append, List.map_append, mv_flat a j k h.2.1 ha, mv_flat b (j + a.size) k h.2.2 hb]
    rw [show j + a.size + k = j + k + a.size by omega]
    congr 2
    simp only [List.map_cons, List.map_nil, mvP]
    rw [if_pos (by omega)]
    congr 2 <;> omega
set_option maxHeartbeats 4000000 in
theorem moved_any (x : Pc) (k : Nat) (w : World) (hx : PcOk x) (hk : k ≤ 100000) (ha : -100000 ≤ x.a ∧ x.a ≤ 100000) (hb : -100000 ≤ x.b ∧ x.b ≤ 100000) :
    Calls Try.prog 100 #[agv x, .int .i64 k] w fun e w' => e = .returned (agv (mvP k x)) ∧ Below w.heap.size w w' := by
  have hop := hx.op
  obtain ⟨op, p, q, a, b⟩ := x
  unfold agv mvP
  simp only at *
  by_cases h4 : op = 4
  · subst h4
    clear hx
    rw [if_pos (.inl rfl)]
    go_enter Try.func100, Try.ntmps100
    go_wp2
    exact bodyPost_ret (v := .agg #[.int .u8 (4 : Nat), .int .u8 p, .int .u8 q, .int .i64 (a + k), .int .i64 (b + k)]) (by simp [results, Try.results100, go_sem]) rfl ⟨rfl, bal (bal (Below.refl _ _) _) _⟩
  by_cases h5 : op = 5
  · subst h5
    clear hx
    rw [if_pos (.inr (.inl rfl))]
    go_enter Try.func100, Try.ntmps100
    go_wp2
    exact bodyPost_ret (v := .agg #[.int .u8 (5 : Nat), .int .u8 p, .int .u8 q, .int .i64 (a + k), .int .i64 (b + k)]) (by simp [results, Try.results100, go_sem]) rfl ⟨rfl, bal (bal (Below.refl _ _) _) _⟩
  by_cases h6 : op = 6
  · subst h6
    clear hx
    rw [if_pos (.inr (.inr rfl))]
    go_enter Try.func100, Try.ntmps100
    go_wp2
    exact bodyPost_ret (v := .agg #[.int .u8 (6 : Nat), .int .u8 p, .int .u8 q, .int .i64 (a + k), .int .i64 (b + k)]) (by simp [results, Try.results100, go_sem]) rfl ⟨rfl, bal (bal (Below.refl _ _) _) _⟩
  rw [if_neg (by omega)]
  by_cases h7 : op = 7
  · subst h7
    clear hx h4 h5 h6
    rw [if_pos (.inl rfl)]
    go_enter Try.func100, Try.ntmps100
    go_wp2
    exact bodyPost_ret (v := .agg #[.int .u8 (7 : Nat), .int .u8 p, .int .u8 q, .int .i64 (a + k), .int .i64 b]) (by simp [results, Try.results100, go_sem]) rfl ⟨rfl, bal (bal (Below.refl _ _) _) _⟩
  by_cases h8 : op = 8
  · subst h8
    clear hx h4 h5 h6 h7
    rw [if_pos (.inr rfl)]
    go_enter Try.func100, Try.ntmps100
    go_wp2
    exact bodyPost_ret (v := .agg #[.int .u8 (8 : Nat), .int .u8 p, .int .u8 q, .int .i64 (a + k), .int .i64 b]) (by simp [results, Try.results100, go_sem]) rfl ⟨rfl, bal (bal (Below.refl _ _) _) _⟩
  rw [if_neg (by omega)]
  have n4 := nat_ne0 (n := op) (k := 4) (by omega)
  have n5 := nat_ne0 (n := op) (k := 5) (by omega)
  have n6 := nat_ne0 (n := op) (k := 6) (by omega)
  have n7 := nat_ne0 (n := op) (k := 7) (by omega)
  have n8 := nat_ne0 (n := op) (k := 8) (by omega)
  clear hx h4 h5 h6 h7 h8
  go_enter Try.func100, Try.ntmps100
  go_wp2
  exact bodyPost_ret (v := .agg #[.int .u8 op, .int .u8 p, .int .u8 q, .int .i64 a, .int .i64 b]) (by simp [results, Try.results100, go_sem]) rfl ⟨rfl, bal (bal (Below.refl _ _) _) _⟩
/-- A value whose pieces are its own. -/
def OwnPc (B : Nat) (W : World) (u : Value) (n : Nat) (l : List Pc) : Prop := n = l.length ∧ W.ownsRow B 32 5 u n (pvs l)
set_option maxHeartbeats 4000000 in
theorem mUnary_any (B op : Nat) (n : Nat) (va : Value) (la : List Pc) (w : World) (ho : op < 256) (h : OwnPc B w va n la) (hn : n ≤ 20000) (hB : B ≤ w.heap.size) :
    Calls Try.prog 81 #[.int .u8 op, va] w fun e w' => ∃ v', e = .returned v' ∧ OwnPc B w' v' (n + 1) (la ++ [⟨op, 0, 0, (n : Int) - 1, 0⟩]) ∧ Below B w w' := by
  obtain ⟨i0, hi0, hz0, hz1, hz2⟩ := info_parts info_piece
  obtain ⟨hl, hown⟩ := h
  obtain ⟨A', c', rfl, _⟩ := Ap.own_form hown
  have HL := Lib.hid hl
  have HS : Hid (pvs (la ++ [⟨op, 0, 0, (n : Int) - 1, 0⟩]) = pvs la ++ pv ⟨op, 0, 0, (n : Int) - 1, 0⟩) := pvs_snoc _ _
  clear hl
  go_enter Try.func81, Try.ntmps81
  go_wp2_with (at_builtin; refine wpList_append_own _ rfl _ _ 27 rfl B 32 i0 _ 5 24 Try.underlying27 hi0 hz0 hz1 hz2 rfl (by decide) _ _ _ rfl (Ap.own_bel hown (Cb.bal (Below.refl _ _) _)) ⟨w.heap.size, 0, none⟩ 1 1 [.int .u8 op, .int .u8 0, .int .u8 0, .int .i64 ((n : Int) - 1), .int .i64 0] rfl rfl (cells_new _ _ _) (by simp [Value.oneCell']) (by unfold maxLen; omega) (by omega) (by simp; omega) ?_; intro v' w6 hown' hgrow _)
  go_ret
  refine ⟨_, rfl, ⟨by rw [List.length_append, ← HL.out]; rfl, by rw [HS.out]; exact hown'⟩, ?_⟩
  exact ((Below.refl B w).alloc hB _).grown hgrow (by simp; omega) (fun q hq => (hown.lt q hq).1)
set_option maxHeartbeats 4000000 in
theorem remainder_any (x : Pc) (y : Nat) (w : World) (hx : PcOk x) (hy : y < 256) :
    Calls Try.prog 79 #[agv x, .int .u8 y] w fun e w' => ∃ v', e = .returned v' ∧ OwnPc w.heap.size w' v' 1 (if cHas x.p x.q y then [⟨2, 0, 0, 0, 0⟩] else [⟨1, 0, 0, 0, 0⟩]) ∧ Below w.heap.size w w' := by
  have HH := Lib.hid fun Y => mHas_any x.p x.q y Y hx.p hx.q hy
  have HO : Hid (∀ (W X : World) (o : Nat), Below w.heap.size w X → OwnPc w.heap.size (X.alloc (.cells #[.int .u8 o, .int .u8 0, .int .u8 0, .int .i64 0, .int .i64 0] 32)) (.slice (some ⟨X.heap.size, 0, none⟩) 1 1) 1 [⟨o, 0, 0, 0, 0⟩]) := fun W X o hX => by
    refine ⟨rfl, rfl, .inr ⟨X.heap.size, 1, #[.int .u8 o, .int .u8 0, .int .u8 0, .int .i64 0, .int .i64 0], rfl, hX.size, World.alloc_heap_new X _, Nat.le_refl _, by unfold maxLen; omega, by simp, by simp [pvs, pv]⟩⟩
  obtain ⟨op, p, q, a, b⟩ := x
  unfold agv
  simp only at *
  clear hx
  cases hc : cHas p q y
  · rw [hc] at HH
    rw [if_neg (by decide)]
    clear hc
    go_enter Try.func79, Try.ntmps79
    go_wp2_with (go_at_call 99; ((with_reducible refine (HH.out _).mono ?_); rintro r w1 ⟨rfl, hb1⟩))
    go_ret
    exact ⟨_, rfl, HO.out w _ 1 (stepB (bal (Below.refl _ _) _) hb1), bal (stepB (bal (Below.refl _ _) _) hb1) _⟩
  · rw [hc] at HH
    rw [if_pos rfl]
    clear hc
    go_enter Try.func79, Try.ntmps79
    go_wp2_with (go_at_call 99; ((with_reducible refine (HH.out _).mono ?_); rintro r w1 ⟨rfl, hb1⟩))
    go_ret
    exact ⟨_, rfl, HO.out w _ 2 (stepB (bal (Below.refl _ _) _) hb1), bal (stepB (bal (Below.refl _ _) _) hb1) _⟩
end Go.Proofs.Yteckkbjpeckjmaa.Rx
/- Derivatives (package match): two expressions under an operator. -/
namespace Go.Proofs.Yteckkbjpeckjmaa.Rx
open Go Go.RowKit Go.Proofs.Yteckkbjpeckjmaa
set_option linter.unusedVariables false
set_option linter.unusedSimpArgs false
set_option maxRecDepth 100000
/-- An append to one row leaves another as it lay. -/
theorem own_other {W w6 : World} {tmp : Obj} {B e size n : Nat} {v u : Value} {ys : List Value} (hu : W.ownsRow B e size u n ys) (hg : (W.alloc tmp).grownBy w6 v.ownBlock) (hne : ∀ g, v.ownBlock = some g → u.ownBlock ≠ some g) : w6.ownsRow B e size u n ys := by
  refine ⟨hu.1, ?_⟩
  rcases hu.2 with h | ⟨g, cap, cur, hv, hge, hc, rest⟩
  · exact .inl h
  · refine .inr ⟨g, cap, cur, hv, hge, ?_, rest⟩
    have hlt := lt_of_block hc
    exact (hg.block g (by simp; omega) fun e2 => hne g e2.symm (by rw [hv]; rfl)).trans (box_old hc)
theorem pvs_append (l m : List Pc) : pvs (l ++ m) = pvs l ++ pvs m := by simp [pvs]
theorem take_map_next {l : List Pc} {d k : Nat} (hd : d < l.length) : pvs ((l.take (d + 1)).map (mvP k)) = pvs ((l.take d).map (mvP k)) ++ pv (mvP k (pc l d)) := by
  have e : l.take (d + 1) = l.take d ++ [pc l d] := by
    rw [List.take_add_one, List.getElem?_eq_getElem hd]
    simp [pc, hd]
  rw [e, List.map_append]
  exact pvs_snoc _ _
set_option maxHeartbeats 8000000 in
theorem mBinary_any (B op na nb : Nat) (va vb : Value) (la lb : List Pc) (w : World) (ho : op < 256) (hA : OwnPc B w va na la) (hBo : OwnPc B w vb nb lb) (hne : ∀ g, va.ownBlock = some g → vb.ownBlock ≠ some g) (hn : na + nb ≤ 20000) (hB : B ≤ w.heap.size)
    (hf : ∀ x ∈ lb, PcOk x) (hf2 : ∀ x ∈ lb, (-100000 ≤ x.a ∧ x.a ≤ 100000) ∧ (-100000 ≤ x.b ∧ x.b ≤ 100000)) :
    Calls Try.prog 80 #[.int .u8 op, va, vb] w fun e w' => ∃ v', e = .returned v' ∧ OwnPc B w' v' (na + nb + 1) (la ++ lb.map (mvP na) ++ [⟨op, 0, 0, (na : Int) - 1, ((na + nb : Nat) : Int) - 1⟩]) ∧ Below B w w' := by
  obtain ⟨i0, hi0, hz0, hz1, hz2⟩ := info_parts info_piece
  obtain ⟨hla, hoa⟩ := hA
  obtain ⟨hlb, hob⟩ := hBo
  obtain ⟨A', ca, rfl, _⟩ := Ap.own_form hoa
  obtain ⟨B', cb, rfl, _⟩ := Ap.own_form hob
  have HP : Hid (∀ wr : World, wr.ownsRow B 32 5 (.slice B' nb cb) nb (pvs lb) → ∀ k, k < nb → ∃ ad, B' = some ad ∧ ad.block < wr.heap.size ∧ PcOk (pc lb k) ∧ wr.cell? (ad.add (k * 5)) = some (.int .u8 (pc lb k).op) ∧ wr.cell? ⟨(ad.add (k * 5)).block, (ad.add (k * 5)).off + 1, none⟩ = some (.int .u8 (pc lb k).p) ∧ wr.cell? ⟨(ad.add (k * 5)).block, (ad.add (k * 5)).off + 2, none⟩ = some (.int .u8 (pc lb k).q) ∧ wr.cell? ⟨(ad.add (k * 5)).block, (ad.add (k * 5)).off + 3, none⟩ = some (.int .i64 (pc lb k).a) ∧ wr.cell? ⟨(ad.add (k * 5)).block, (ad.add (k * 5)).off + 4, none⟩ = some (.int .i64 (pc lb k).b)) := fun wr h k hk => by
    have hp : PcsAt wr B' lb := by rw [hlb] at h; exact pcs_of_own h hf
    obtain ⟨ad, h1, h2, h3, h4⟩ := pcs_five hp (Below.refl _ _) (by omega : k < lb.length)
    exact ⟨ad, h1, h2, h3, h4⟩
  have HBd : Hid (∀ k, k < nb → (-100000 ≤ (pc lb k).a ∧ (pc lb k).a ≤ 100000) ∧ (-100000 ≤ (pc lb k).b ∧ (pc lb k).b ≤ 100000)) := fun k hk => hf2 _ (by
    have : k < lb.length := by omega
    unfold pc
    rw [List.getD_eq_getElem?_getD, List.getElem?_eq_getElem this]
    exact List.getElem_mem this)
  have HTk : Hid (∀ k, k < nb → pvs (la ++ (lb.take (k + 1)).map (mvP na)) = pvs (la ++ (lb.take k).map (mvP na)) ++ pv (mvP na (pc lb k))) := fun k hk => by
    rw [pvs_append, pvs_append, take_map_next (by omega), List.append_assoc]
  have HEnd : Hid (pvs (la ++ lb.map (mvP na) ++ [⟨op, 0, 0, (na : Int) - 1, ((na + nb : Nat) : Int) - 1⟩]) = pvs (la ++ (lb.take nb).map (mvP na)) ++ pv ⟨op, 0, 0, (na : Int) - 1, ((na + nb : Nat) : Int) - 1⟩) := by
    show _ = _
    rw [List.take_of_length_le (by omega)]
    exact pvs_snoc _ _
  have HLen : Hid (na + nb + 1 = (la ++ lb.map (mvP na) ++ [(⟨op, 0, 0, (na : Int) - 1, ((na + nb : Nat) : Int) - 1⟩ : Pc)]).length) := by
    show _ = _
    rw [List.length_append, List.length_append, List.length_map, ← hla, ← hlb]
    rfl
  have HS0 : Hid (w.ownsRow B 32 5 (.slice A' na ca) (na + 0) (pvs (la ++ (lb.take 0).map (mvP na)))) := by
    show World.ownsRow _ _ _ _ _ _ _
    rw [List.take_zero, List.map_nil, List.append_nil]
    exact hoa
  clear hla hlb hf hf2 hoa
  have HNe := Lib.hid hne
  clear hne
  go_enter Try.func80, Try.ntmps80
  go_wp2
  go_loopw [14, 1, 9] (fun i u _ wr => ∃ k : Nat, k ≤ nb ∧ i = .int .i64 k ∧ wr.ownsRow B 32 5 u (na + k) (pvs (la ++ (lb.take k).map (mvP na))) ∧ wr.ownsRow B 32 5 (.slice B' nb cb) nb (pvs lb) ∧ (∀ g, u.ownBlock = some g → (Value.slice B' nb cb).ownBlock ≠ some g) ∧ Below B w wr) (fun i _ _ _ => nb - (intOf i).toNat)
  case atStart => exact ⟨0, by omega, rfl, HS0.out, hob, HNe.out, Below.refl _ _⟩
  case round =>
    obtain ⟨k, hk, rfl, hown, hob2, hne, hb⟩ := hrel
    by_cases hlt : k < nb
    · obtain ⟨ad, rfl, had, hok, f0, f1, f2, f3, f4⟩ := HP.out _ hob2 k hlt
      obtain ⟨hba, hbb⟩ := HBd.out k hlt
      have hT := Lib.hid (HTk.out k hlt)
      have hkn : (k : Int) < (nb : Int) := by omega
      have HMv := Lib.hid fun X => moved_any (pc lb k) na X hok (by omega) hba hbb
      generalize pc lb k = x at *
      obtain ⟨A2, c2, rfl, _⟩ := Ap.own_form hown
      have HNe2 := Lib.hid hne
      clear hok hba hbb hne
      have hs := hb.size
      obtain ⟨op2, p2, q2, a2, b2⟩ := x
      unfold agv at HMv
      simp only at *
      go_upto_region 5 with fail
      have HB3 : Hid (Bx5 (wr.alloc (.cells #[.int .u8 op2, .int .u8 p2, .int .u8 q2, .int .i64 a2, .int .i64 b2] 32)) wr.heap.size ⟨op2, p2, q2, a2, b2⟩) := Bx5.new wr ⟨op2, p2, q2, a2, b2⟩
      have B3 : Hid (Below wr.heap.size wr (wr.alloc (.cells #[.int .u8 op2, .int .u8 p2, .int .u8 q2, .int .i64 a2, .int .i64 b2] 32))) := bal (Below.refl _ _) _
      have own3 := Ap.own_bel hown B3.out
      have oth3 := Ap.own_bel hob2 B3.out
      generalize wr.alloc (.cells #[.int .u8 op2, .int .u8 p2, .int .u8 q2, .int .i64 a2, .int .i64 b2] 32) = w3 at *
      obtain ⟨p, hp⟩ : ∃ p, p = wr.heap.size := ⟨_, rfl⟩
      rw [← hp] at HB3 ⊢
      have HPw := Lib.hid hp
      clear hp f0 f1 f2 f3 f4 HP HBd HTk HEnd HLen HS0 hown hob2
      obtain ⟨b0, b1, b2', b3, b4⟩ := HB3.out.cells
      simp only at b0 b1 b2' b3 b4
      have hs3 := B3.out.size
      go_wp2_with (first
        | (go_at_call 100; ((with_reducible refine (HMv.out _).mono ?_); rintro r w4 ⟨rfl, hb4⟩); have own4 := Ap.own_bel own3 hb4; have oth4 := Lib.hid (Ap.own_bel oth3 hb4); have hs4 := hb4.size; have HB4 := Lib.hid (stepB B3.out hb4); clear own3 oth3 hb4)
        | (at_builtin; refine wpList_append_own_at _ rfl _ _ 27 rfl B 32 i0 _ 5 24 Try.underlying27 hi0 hz0 hz1 hz2 rfl (by decide) _ _ _ rfl (Ap.own_bel own4 (bal (Below.refl _ _) _)) ⟨w4.heap.size, 0, none⟩ 1 1 (pv (mvP na ⟨op2, p2, q2, a2, b2⟩)) rfl rfl (cells_new _ _ _) (by simp [pv, Value.oneCell']) (by unfold maxLen; omega) (by omega) (by simp; omega) ?_; intro v' w6 hown' hgrow _ hob6))
      have hb4' : Below B w w4 := hb.trans (HB4.out.mono (Nat.le_trans hB hs))
      have hlt4 := oth4.out.lt
      go_roundw
      case rel =>
        refine ⟨k + 1, by omega, by go_num, by rw [hT.out]; exact hown', own_other oth4.out hgrow HNe2.out, fun g hg hg2 => ?_, ?_⟩
        · rcases hob6 with e | e
          · exact HNe2.out g (e ▸ hg) hg2
          · rw [e] at hg
            cases hg
            have := (hlt4 _ hg2).2
            simp only [World.size_alloc] at this
            omega
        · exact (hb4'.alloc (by omega) _).grown hgrow (by simp; omega) (fun q hq => (own4.lt q hq).1)
      case measure => simp [intOf]; omega
    · obtain rfl : k = nb := by omega
      obtain ⟨A2, c2, rfl, _⟩ := Ap.own_form hown
      clear hob2 hne
      have hs := hb.size
      go_wp2_with (at_builtin; refine wpList_append_own _ rfl _ _ 27 rfl B 32 i0 _ 5 24 Try.underlying27 hi0 hz0 hz1 hz2 rfl (by decide) _ _ _ rfl (Ap.own_bel hown (Cb.bal (Below.refl _ _) _)) ⟨wr.heap.size, 0, none⟩ 1 1 [.int .u8 op, .int .u8 0, .int .u8 0, .int .i64 ((na : Int) - 1), .int .i64 (((na + k : Nat) : Int) - 1)] rfl rfl (cells_new _ _ _) (by simp [Value.oneCell']) (by unfold maxLen; omega) (by omega) (by simp; omega) ?_; intro v' w6 hown' hgrow _)
      go_ret
      refine ⟨_, rfl, ⟨HLen.out, by rw [HEnd.out]; exact hown'⟩, ?_⟩
      exact (hb.alloc (Nat.le_trans hB hs) _).grown hgrow (by simp; omega) (fun q hq => (hown.lt q hq).1)
end Go.Proofs.Yteckkbjpeckjmaa.Rx
/- Derivatives (package match): the closure that calls itself. -/
namespace Go.Proofs.Yteckkbjpeckjmaa.Rx
open Go Go.RowKit Go.Proofs.Yteckkbjpeckjmaa
set_option linter.unusedVariables false
set_option linter.unusedSimpArgs false
set_option maxRecDepth 100000
theorem flat_small : ∀ (t : Ex) (k : Nat), ∀ x ∈ flat t k, (-1 ≤ x.a ∧ x.a ≤ k + t.size) ∧ (-1 ≤ x.b ∧ x.b ≤ k + t.size)
  | .leaf op p q, k, x, hx => by
    simp only [flat, List.mem_singleton] at hx
    subst hx
    exact ⟨⟨by show (-1 : Int) ≤ 0; decide, by simp only; omega⟩, ⟨by show (-1 : Int) ≤ 0; decide, by simp only; omega⟩⟩
  | .one op a, k, x, hx => by
    rw [flat, List.mem_append, List.mem_singleton] at hx
    have e : ((Ex.one op a).size : Int) = (a.size : Int) + 1 := rfl
    rw [e]
    rcases hx with hx | rfl
    · have := flat_small a k x hx
      omega
    · exact ⟨⟨by simp only; omega, by simp only; omega⟩, ⟨by show (-1 : Int) ≤ 0; decide, by simp only; omega⟩⟩
  | .two op a b, k, x, hx => by
    rw [flat, List.mem_append, List.mem_append, List.mem_singleton] at hx
    have e : ((Ex.two op a b).size : Int) = (a.size : Int) + (b.size : Int) + 1 := rfl
    rw [e]
    rcases hx with hx | hx | rfl
    · have := flat_small a k x hx
      omega
    · have := flat_small b (k + a.size) x hx
      omega
    · exact ⟨⟨by simp only; omega, by simp only; omega⟩, ⟨by simp only; omega, by simp only; omega⟩⟩
theorem bin_tree (B op : Nat) (a b : Ex) (va vb : Value) (w : World) (ho : op < 256) (hA : OwnPc B w va a.size (flat a 0)) (hBo : OwnPc B w vb b.size (flat b 0)) (hne : ∀ g, va.ownBlock = some g → vb.ownBlock ≠ some g) (hn : a.size + b.size ≤ 20000) (hB : B ≤ w.heap.size) (hb : b.Ok) (hp : plainT b = true) (h8 : b.P8) :
    Calls Try.prog 80 #[.int .u8 op, va, vb] w fun e w' => ∃ v', e = .returned v' ∧ OwnPc B w' v' (Ex.two op a b).size (flat (.two op a b) 0) ∧ Below B w w' := by
  have := mBinary_any B op a.size b.size va vb (flat a 0) (flat b 0) w ho hA hBo hne hn hB (flat_fine b 0 hb h8 (by omega)) (fun x hx => by have := flat_small b 0 x hx; omega)
  rw [mv_flat b 0 a.size hb hp, List.append_assoc] at this
  have e : flat a 0 ++ (flat b (0 + a.size) ++ [(⟨op, 0, 0, (a.size : Int) - 1, ((a.size + b.size : Nat) : Int) - 1⟩ : Pc)]) = flat (.two op a b) 0 := by
    rw [flat, Nat.zero_add]
  rw [e] at this
  exact this
theorem un_tree (B op : Nat) (a : Ex) (va : Value) (w : World) (ho : op < 256) (hA : OwnPc B w va a.size (flat a 0)) (hn : a.size ≤ 20000) (hB : B ≤ w.heap.size) :
    Calls Try.prog 81 #[.int .u8 op, va] w fun e w' => ∃ v', e = .returned v' ∧ OwnPc B w' v' (Ex.one op a).size (flat (.one op a) 0) ∧ Below B w w' := by
  have := mUnary_any B op a.size va (flat a 0) w ho hA hn hB
  have e : flat a 0 ++ [(⟨op, 0, 0, (a.size : Int) - 1, 0⟩ : Pc)] = flat (.one op a) 0 := by
    rw [flat, Nat.zero_add]
  rw [e] at this
  exact this
theorem two_own {X X1 X2 X3 : World} {va vb : Value} {na nb : Nat} {la lb : List Pc} (hX : X.heap.size ≤ X1.heap.size) (h1 : OwnPc X1.heap.size X2 va na la) (hb1 : Below X1.heap.size X1 X2) (h2 : OwnPc X2.heap.size X3 vb nb lb) (hb2 : Below X2.heap.size X2 X3) :
    OwnPc X.heap.size X3 va na la ∧ OwnPc X.heap.size X3 vb nb lb ∧ (∀ g, va.ownBlock = some g → vb.ownBlock ≠ some g) ∧ ∀ g, vb.ownBlock = some g → va.ownBlock ≠ some g := by
  have hs := hb1.size
  refine ⟨⟨h1.1, ownsRow_mono (Ap.own_bel h1.2 hb2) hX⟩, ⟨h2.1, ownsRow_mono h2.2 (by omega)⟩, fun g hg hg2 => ?_, fun g hg hg2 => ?_⟩
  · have := (h1.2.lt g hg).2
    have := (h2.2.lt g hg2).1
    omega
  · have := (h1.2.lt g hg2).2
    have := (h2.2.lt g hg).1
    omega
abbrev pt (b : Nat) : Value := .pointer (some ⟨b, 0, none⟩)
def derF (be bx bd bk bm : Nat) : Value := .func (.func 78) #[] #[pt be, pt bx, pt bd, pt bk, pt bm]
def blkF (be bv : Nat) : Value := .func (.func 77) #[] #[pt be, pt bv]
/-- The variables of derivative. -/
structure DerAt (X : World) (t : Ex) (v : Int) (y : Nat) (A : Option Addr) (c be bv bx bm bd bk kb : Nat) (mbs : Nat → Nat) : Prop where
  e : X.heap[be]? = some (.cells #[.slice A t.size c] 27 (0, 0))
  v : X.heap[bv]? = some (.cells #[.int .i64 v] 3 (0, 0))
  x : X.heap[bx]? = some (.cells #[.int .u8 y] 5 (0, 0))
  m : X.heap[bm]? = some (.cells #[.slice (some ⟨kb, 0, none⟩) t.size t.size] 110 (0, 0))
  d : X.heap[bd]? = some (.cells #[derF be bx bd bk bm] 116 (0, 0))
  k : X.heap[bk]? = some (.cells #[blkF be bv] 116 (0, 0))
  p : PcsAt X A (flat t 0)
  o : X.heap[kb]? = some (.cells (cells t.size fun j => matV (mbs j) 0) 74 (0, 0))
  r : ∀ j, j < t.size → MatAt X (mbs j) 0 (half 0 (mt [] (sub t j)))
section
variable {X Y W0 : World} {t : Ex} {v : Int} {y : Nat} {A : Option Addr} {c be bv bx bm bd bk kb : Nat} {mbs : Nat → Nat}
theorem DerAt.below (h : DerAt X t v y A c be bv bx bm bd bk kb mbs) (hb : Below X.heap.size X Y) : DerAt Y t v y A c be bv bx bm bd bk kb mbs :=
  have key : ∀ {k : Nat} {o : Obj}, X.heap[k]? = some o → Y.heap[k]? = some o := fun ho => (hb.block _ (Array.getElem?_eq_some_iff.1 ho).1).trans ho
  ⟨key h.e, key h.v, key h.x, key h.m, key h.d, key h.k, h.p.below hb, key h.o, fun j hj => (h.r j hj).below hb⟩
set_option maxHeartbeats 4000000 in
theorem block_any (hV : t.Valid v) (i : Nat) (hi : i < t.size) (h : DerAt X t v y A c be bv bx bm bd bk kb mbs) :
    Calls Try.prog 77 #[.int .i64 i, pt be, pt bv] X fun r X' => ∃ v', r = .returned v' ∧ OwnPc X.heap.size X' v' (sub t i).size (flat (sub t i) 0) ∧ Below X.heap.size X X' := by
  have HB := Lib.hid (Block_good A t t.size c v X i h.p hV rfl hi)
  have c1 := cell_box h.e
  have c2 := cell_box h.v
  have HL : Hid ((sub t i).size = (flat (sub t i) 0).length) := (flat_len _ _).symm
  clear h hV hi
  generalize (sub t i).size = n at *
  generalize flat (sub t i) 0 = F at *
  generalize t.size = L at *
  go_enter Try.func77, Try.ntmps77
  go_wp2_with (go_at_call 11; ((with_reducible refine HB.out.mono ?_); rintro r w1 ⟨A', c', rfl, hO, hb1⟩); have HO := Lib.hid hO; clear hO)
  go_ret
  exact ⟨_, rfl, ⟨HL.out, HO.out⟩, hb1⟩
def DerC (W0 : World) (y be bx bm bd bk : Nat) (u : Ex) (i : Nat) : Prop := ∀ X, Below W0.heap.size W0 X → Calls Try.prog 78 #[.int .i64 i, pt be, pt bx, pt bd, pt bk, pt bm] X fun r X' =>
  ∃ v', r = .returned v' ∧ OwnPc X.heap.size X' v' (der y u).size (flat (der y u) 0) ∧ Below X.heap.size X X'
/-- A result of a later world is one of this world. -/
theorem own_back {X X1 W : World} {v : Value} {n : Nat} {l : List Pc} (h : OwnPc X1.heap.size W v n l) (hs : X.heap.size ≤ X1.heap.size) : OwnPc X.heap.size W v n l := ⟨h.1, ownsRow_mono h.2 hs⟩
set_option maxHeartbeats 16000000 in
theorem der_leaf (hV : t.Valid v) (hy : y < 256) (h0 : DerAt W0 t v y A c be bv bx bm bd bk kb mbs) (op p q s i : Nat) (ho : (Ex.leaf op p q).Ok) (hb : Bl (flat t 0) s i (.leaf op p q)) : DerC W0 y be bx bm bd bk (.leaf op p q) i := fun X hX => by
    have hi : i < (flat t 0).length := bl_lt hb
    have hit : i < t.size := by rw [flat_len] at hi; exact hi
    have h := h0.below hX
    obtain ⟨ad, rfl, had, hok, f0, f1, f2, f3, f4⟩ := pcs_five h.p (Below.refl _ _) hi
    have hi2 : (i : Int) < (t.size : Int) := by omega
    have ce := cell_box h.e
    rw [bl_leaf' hb] at f0 f1 f2 f3 f4 hok
    have h1 := ho.1
    have HD := Lib.hid fun (Y : World) (hY : Below X.heap.size X Y) => h.below hY
    clear h
    clear hi had hX hb hV h0
    by_cases h3 : op = 3
    · subst h3
      have HRm := Lib.hid fun Z => remainder_any ⟨3, p, q, 0, 0⟩ y Z hok hy
      have HEq : Hid ((if cHas p q y = true then [(⟨2, 0, 0, 0, 0⟩ : Pc)] else [⟨1, 0, 0, 0, 0⟩]) = flat (der y (.leaf 3 p q)) 0 ∧ (der y (.leaf 3 p q)).size = 1) := by
        show _ ∧ _
        unfold der
        by_cases hc : cHas p q y = true
        · rw [if_pos hc, if_pos ⟨rfl, hc⟩]; exact ⟨rfl, rfl⟩
        · rw [if_neg hc, if_neg (fun hh => hc hh.2)]; exact ⟨rfl, rfl⟩
      unfold agv at HRm
      simp only at HRm f0 f1 f2 f3 f4
      have HRm : Hid (∀ Z, Calls Try.prog 79 #[.agg #[.int .u8 3, .int .u8 p, .int .u8 q, .int .i64 0, .int .i64 0], .int .u8 y] Z fun e w' => ∃ v', e = .returned v' ∧ OwnPc Z.heap.size w' v' 1 (if cHas p q y then [⟨2, 0, 0, 0, 0⟩] else [⟨1, 0, 0, 0, 0⟩]) ∧ Below Z.heap.size Z w') := HRm
      clear hok h1 ho
      show Calls _ _ _ _ _
      go_enter Try.func78, Try.ntmps78
      go_upto_region 2 with fail
      have HB3 : Hid (Bx5 (X.alloc (.cells #[.int .u8 (3 : Nat), .int .u8 (p : Nat), .int .u8 (q : Nat), .int .i64 0, .int .i64 0] 32)) X.heap.size ⟨3, p, q, 0, 0⟩) := Bx5.new X ⟨3, p, q, 0, 0⟩
      have HXX : Hid (Below X.heap.size X (X.alloc (.cells #[.int .u8 (3 : Nat), .int .u8 (p : Nat), .int .u8 (q : Nat), .int .i64 0, .int .i64 0] 32))) := bal (Below.refl _ _) _
      have HX0 : Hid (X.heap.size < (X.alloc (.cells #[.int .u8 (3 : Nat), .int .u8 (p : Nat), .int .u8 (q : Nat), .int .i64 0, .int .i64 0] 32)).heap.size) := by show _ < _; simp
      generalize X.alloc (.cells #[.int .u8 (3 : Nat), .int .u8 (p : Nat), .int .u8 (q : Nat), .int .i64 0, .int .i64 0] 32) = X1 at *
      obtain ⟨bp, hbp⟩ : ∃ bp, bp = X.heap.size := ⟨_, rfl⟩
      rw [← hbp] at HB3 ⊢
      have HBP := Lib.hid hbp
      have hbpl : bp < X1.heap.size := by have := HX0.out; omega
      clear hbp f0 f1 f2 f3 f4
      have h1 := HD.out _ HXX.out
      obtain ⟨b0, b1, b2, b3, b4⟩ := HB3.out.cells
      simp only at b0 b1 b2 b3 b4
      have ce := cell_box h1.e
      have cx := cell_box h1.x
      have cm := cell_box h1.m
      have cd := cell_box h1.d
      have ck := cell_box h1.k
      have hbdl := lt_of_block h1.d
      have hbkl := lt_of_block h1.k
      have HD1 := Lib.hid h1
      clear h1
      go_wp2_with (go_at_call 79; ((with_reducible refine (HRm.out _).mono ?_); rintro r X2 ⟨vr, rfl, hO, hb2⟩); have HO := Lib.hid hO; clear hO)
      go_ret
      have hO := HO.out
      rw [HEq.out.1, ← HEq.out.2] at hO
      exact ⟨_, rfl, own_back (X := X) hO (by have := HXX.out.size; omega), stepB HXX.out hb2⟩
    · have hdl : Hid (flat (der y (.leaf op p q)) 0 = [⟨1, 0, 0, 0, 0⟩] ∧ (der y (.leaf op p q)).size = 1) := by
        show _ ∧ _
        unfold der
        rw [if_neg (fun hh => h3 hh.1)]
        exact ⟨rfl, rfl⟩
      simp only at f0 f1 f2 f3 f4
      have n3 := nat_ne0 (n := op) (k := 3) (by omega)
      have n4 := nat_ne0 (n := op) (k := 4) (by omega)
      have n5 := nat_ne0 (n := op) (k := 5) (by omega)
      have n6 := nat_ne0 (n := op) (k := 6) (by omega)
      have n7 := nat_ne0 (n := op) (k := 7) (by omega)
      have n8 := nat_ne0 (n := op) (k := 8) (by omega)
      clear hok h1 ho h3
      show Calls _ _ _ _ _
      go_enter Try.func78, Try.ntmps78
      go_upto_region 2 with fail
      have HB3 : Hid (Bx5 (X.alloc (.cells #[.int .u8 (op : Nat), .int .u8 (p : Nat), .int .u8 (q : Nat), .int .i64 0, .int .i64 0] 32)) X.heap.size ⟨op, p, q, 0, 0⟩) := Bx5.new X ⟨op, p, q, 0, 0⟩
      have HXX : Hid (Below X.heap.size X (X.alloc (.cells #[.int .u8 (op : Nat), .int .u8 (p : Nat), .int .u8 (q : Nat), .int .i64 0, .int .i64 0] 32))) := bal (Below.refl _ _) _
      have HX0 : Hid (X.heap.size < (X.alloc (.cells #[.int .u8 (op : Nat), .int .u8 (p : Nat), .int .u8 (q : Nat), .int .i64 0, .int .i64 0] 32)).heap.size) := by show _ < _; simp
      generalize X.alloc (.cells #[.int .u8 (op : Nat), .int .u8 (p : Nat), .int .u8 (q : Nat), .int .i64 0, .int .i64 0] 32) = X1 at *
      obtain ⟨bp, hbp⟩ : ∃ bp, bp = X.heap.size := ⟨_, rfl⟩
      rw [← hbp] at HB3 ⊢
      have HBP := Lib.hid hbp
      have hbpl : bp < X1.heap.size := by have := HX0.out; omega
      clear hbp f0 f1 f2 f3 f4
      have h1 := HD.out _ HXX.out
      obtain ⟨b0, b1, b2, b3, b4⟩ := HB3.out.cells
      simp only at b0 b1 b2 b3 b4
      have ce := cell_box h1.e
      have cx := cell_box h1.x
      have cm := cell_box h1.m
      have cd := cell_box h1.d
      have ck := cell_box h1.k
      have hbdl := lt_of_block h1.d
      have hbkl := lt_of_block h1.k
      have HD1 := Lib.hid h1
      clear h1
      go_wp2
      go_ret
      refine ⟨_, rfl, ⟨?_, ?_⟩, bal HXX.out _⟩
      · rw [hdl.out.1, hdl.out.2]; rfl
      · rw [hdl.out.1, hdl.out.2]
        exact ⟨rfl, .inr ⟨X1.heap.size, 1, #[.int .u8 1, .int .u8 0, .int .u8 0, .int .i64 0, .int .i64 0], rfl, HXX.out.size, World.alloc_heap_new X1 _, Nat.le_refl _, by unfold maxLen; omega, by simp, by simp [pvs, pv]⟩⟩
set_option maxHeartbeats 16000000 in
theorem der_not (hV : t.Valid v) (h0 : DerAt W0 t v y A c be bv bx bm bd bk kb mbs) (a : Ex) (s i : Nat) (hb : Bl (flat t 0) s i (.one 7 a)) (hs : (der y a).size ≤ 10000) (IH : DerC W0 y be bx bm bd bk a (i - 1)) : DerC W0 y be bx bm bd bk (.one 7 a) i := fun X hX => by
    have hi : i < (flat t 0).length := bl_lt hb
    have hit : i < t.size := by rw [flat_len] at hi; exact hi
    have h := h0.below hX
    obtain ⟨ad, rfl, had, hok, f0, f1, f2, f3, f4⟩ := pcs_five h.p (Below.refl _ _) hi
    have hi2 : (i : Int) < (t.size : Int) := by omega
    have ce := cell_box h.e
    obtain ⟨hi0, hpc, hba⟩ := bl_one' hb
    rw [hpc] at f0 f1 f2 f3 f4 hok
    have hia : ((i : Int) - 1) = ((i - 1 : Nat) : Int) := by omega
    simp only [hia] at f0 f1 f2 f3 f4
    have HD := Lib.hid fun (Y : World) (hY : Below X.heap.size X Y) => h.below hY
    clear h
    have HIH : Hid (∀ Z, Below X.heap.size X Z → _) := fun Z hZ => IH Z (hX.trans (hZ.mono hX.size))
    have HUn : Hid (∀ (B : Nat) Z va, OwnPc B Z va (der y a).size (flat (der y a) 0) → B ≤ Z.heap.size → Calls Try.prog 81 #[.int .u8 7, va] Z fun e w' => ∃ v', e = .returned v' ∧ OwnPc B w' v' (der y (.one 7 a)).size (flat (der y (.one 7 a)) 0) ∧ Below B Z w') := fun B Z va hO hB => un_tree B 7 (der y a) va Z (by decide) hO (by omega) hB
    clear hi had hX hb hV h0 hok hpc hba hia IH hs
    generalize i - 1 = ia at *
    show Calls _ _ _ _ _
    go_enter Try.func78, Try.ntmps78
    go_upto_region 2 with fail
    have HB3 : Hid (Bx5 (X.alloc (.cells #[.int .u8 (7 : Nat), .int .u8 (0 : Nat), .int .u8 (0 : Nat), .int .i64 (ia : Nat), .int .i64 0] 32)) X.heap.size ⟨7, 0, 0, (ia : Nat), 0⟩) := Bx5.new X ⟨7, 0, 0, (ia : Nat), 0⟩
    have HXX : Hid (Below X.heap.size X (X.alloc (.cells #[.int .u8 (7 : Nat), .int .u8 (0 : Nat), .int .u8 (0 : Nat), .int .i64 (ia : Nat), .int .i64 0] 32))) := bal (Below.refl _ _) _
    have HX0 : Hid (X.heap.size < (X.alloc (.cells #[.int .u8 (7 : Nat), .int .u8 (0 : Nat), .int .u8 (0 : Nat), .int .i64 (ia : Nat), .int .i64 0] 32)).heap.size) := by show _ < _; simp
    generalize X.alloc (.cells #[.int .u8 (7 : Nat), .int .u8 (0 : Nat), .int .u8 (0 : Nat), .int .i64 (ia : Nat), .int .i64 0] 32) = X1 at *
    obtain ⟨bp, hbp⟩ : ∃ bp, bp = X.heap.size := ⟨_, rfl⟩
    rw [← hbp] at HB3 ⊢
    have HBP := Lib.hid hbp
    have hbpl : bp < X1.heap.size := by have := HX0.out; omega
    clear hbp f0 f1 f2 f3 f4
    have h1 := HD.out _ HXX.out
    obtain ⟨b0, b1, b2, b3, b4⟩ := HB3.out.cells
    simp only at b0 b1 b2 b3 b4
    have ce := cell_box h1.e
    have cx := cell_box h1.x
    have cm := cell_box h1.m
    have cd := cell_box h1.d
    have ck := cell_box h1.k
    have hbdl := lt_of_block h1.d
    have hbkl := lt_of_block h1.k
    have HD1 := Lib.hid h1
    clear h1
    have HIH1 : Hid (∀ Z, Below X1.heap.size X1 Z → _) := fun Z hZ => HIH.out Z (stepB HXX.out hZ)
    go_upto_region 9 with fail
    have hlY : ∀ Y : World, Below X1.heap.size X1 Y → (fun X : World => X.cell? ⟨bp, 0, none⟩ = some (.int .u8 (7 : Nat)) ∧ X.cell? ⟨bp, 3, none⟩ = some (.int .i64 (ia : Nat)) ∧ X.cell? ⟨bp, 4, none⟩ = some (.int .i64 0) ∧ X.cell? ⟨bd, 0, none⟩ = some (derF be bx bd bk bm) ∧ X.cell? ⟨bk, 0, none⟩ = some (blkF be bv)) Y := fun Y hY => ⟨(hY.cell (p := ⟨bp, 0, none⟩) hbpl).trans b0, (hY.cell (p := ⟨bp, 3, none⟩) hbpl).trans b3, (hY.cell (p := ⟨bp, 4, none⟩) hbpl).trans b4, (hY.cell (p := ⟨bd, 0, none⟩) hbdl).trans cd, (hY.cell (p := ⟨bk, 0, none⟩) hbkl).trans ck⟩
    have hS0 : (fun X : World => X.cell? ⟨bp, 0, none⟩ = some (.int .u8 (7 : Nat)) ∧ X.cell? ⟨bp, 3, none⟩ = some (.int .i64 (ia : Nat)) ∧ X.cell? ⟨bp, 4, none⟩ = some (.int .i64 0) ∧ X.cell? ⟨bd, 0, none⟩ = some (derF be bx bd bk bm) ∧ X.cell? ⟨bk, 0, none⟩ = some (blkF be bv)) X1.drew := hlY _ (drewN_below X1 1)
    simp only [derF, blkF] at hlY hS0
    refine wp_region_any (by kernel_rfl) ?_
    change wpAny _ _ _ _ _ _ _ (World.drew _)
    refine wpAny_head 6 6 (fun X : World => X.cell? ⟨bp, 0, none⟩ = some (.int .u8 (7 : Nat)) ∧ X.cell? ⟨bp, 3, none⟩ = some (.int .i64 (ia : Nat)) ∧ X.cell? ⟨bp, 4, none⟩ = some (.int .i64 0) ∧ X.cell? ⟨bd, 0, none⟩ = some (Value.func (.func 78) #[] #[pt be, pt bx, pt bd, pt bk, pt bm]) ∧ X.cell? ⟨bk, 0, none⟩ = some (Value.func (.func 77) #[] #[pt be, pt bv])) rfl rfl (by kernel_rfl) (by kernel_rfl) (by kernel_rfl) (fun hA => ?_)
    refine wpHead_take (i := 0) (v := ?_) (by kernel_rfl) hA (at_drop rfl) (by decide) (by kernel_rfl) (by kernel_rfl) (by kernel_rfl) (fun _ _ _ h => h) (Or.inl ⟨by rfl, ?_⟩) hS0 (fun hA => ?_)
    rotate_left
    · (intro w hSw; obtain ⟨s0, s3, s4, s5, s6⟩ := hSw; go_simp <;> with_reducible rfl)
    simp only [Act.put, List.setIfInBounds_toArray, List.set_cons_zero, List.set_cons_succ]
    refine wpHead_take (i := 1) (v := ?_) (by kernel_rfl) hA (at_drop rfl) (by decide) (by kernel_rfl) (by kernel_rfl) (by kernel_rfl) (fun _ _ _ h => h) (Or.inl ⟨by rfl, ?_⟩) hS0 (fun hA => ?_)
    rotate_left
    · (intro w hSw; obtain ⟨s0, s3, s4, s5, s6⟩ := hSw; go_simp <;> with_reducible rfl)
    simp only [Act.put, List.setIfInBounds_toArray, List.set_cons_zero, List.set_cons_succ]
    refine wpHead_take (i := 2) (v := ?_) (by kernel_rfl) hA (at_drop rfl) (by decide) (by kernel_rfl) (by kernel_rfl) (by kernel_rfl) (fun _ _ _ h => h) (Or.inl ⟨by rfl, ?_⟩) hS0 (fun hA => ?_)
    rotate_left
    · (intro w hSw; obtain ⟨s0, s3, s4, s5, s6⟩ := hSw; go_simp <;> with_reducible rfl)
    simp only [Act.put, List.setIfInBounds_toArray, List.set_cons_zero, List.set_cons_succ]
    refine wpHead_take (i := 3) (v := ?_) (by kernel_rfl) hA (at_drop rfl) (by decide) (by kernel_rfl) (by kernel_rfl) (by kernel_rfl) (fun _ _ _ h => h) (Or.inl ⟨by rfl, ?_⟩) hS0 (fun hA => ?_)
    rotate_left
    · (intro w hSw; obtain ⟨s0, s3, s4, s5, s6⟩ := hSw; go_simp <;> with_reducible rfl)
    simp only [Act.put, List.setIfInBounds_toArray, List.set_cons_zero, List.set_cons_succ]
    refine wpHead_take (i := 4) (v := ?_) (by kernel_rfl) hA (at_drop rfl) (by decide) (by kernel_rfl) (by kernel_rfl) (by kernel_rfl) (fun _ _ _ h => h) (Or.inl ⟨by rfl, ?_⟩) hS0 (fun hA => ?_)
    rotate_left
    · (intro w hSw; obtain ⟨s0, s3, s4, s5, s6⟩ := hSw; go_simp <;> with_reducible rfl)
    simp only [Act.put, List.setIfInBounds_toArray, List.set_cons_zero, List.set_cons_succ]
    refine wpHead_ready (rs := [5]) (by kernel_rfl) (by decide) (AllHead.cons (at_drop rfl) (by decide) (fun KK hK => ?_) AllHead.nil)
    go_simp
    refine (HIH1.out _ (drewN_below X1 1)).mono ?_
    rintro r X2 ⟨va, rfl, hO1, hbe1⟩
    have h12 := stepB (drewN_below X1 1) hbe1
    refine hK _ _ (hlY _ h12) ?_
    clear hK KK
    refine wpHead_end (by kernel_rfl) ?_
    simp only [List.drop_succ_cons, List.drop_zero]
    have HBn := Lib.hid (HUn.out X1.heap.size X2 va hO1 h12.size)
    clear hS0 hA hlY hO1 hbe1
    go_wp2_with (go_at_call 81; ((with_reducible refine HBn.out.mono ?_); rintro r X3 ⟨vr, rfl, hO3, hb3⟩); have HO3 := Lib.hid hO3; clear hO3)
    go_ret
    exact ⟨_, rfl, own_back (X := X) HO3.out HXX.out.size, stepB HXX.out (h12.trans hb3)⟩
set_option maxHeartbeats 16000000 in
theorem der_star (hV : t.Valid v) (h0 : DerAt W0 t v y A c be bv bx bm bd bk kb mbs) (a : Ex) (s i : Nat) (hoa : (Ex.one 8 a).Ok) (hpa : plainT (.one 8 a) = true) (h8 : (Ex.one 8 a).P8) (hb : Bl (flat t 0) s i (.one 8 a)) (hs : (der y a).size + (Ex.one 8 a).size ≤ 20000) (IH : DerC W0 y be bx bm bd bk a (i - 1)) : DerC W0 y be bx bm bd bk (.one 8 a) i := fun X hX => by
    have hi : i < (flat t 0).length := bl_lt hb
    have hit : i < t.size := by rw [flat_len] at hi; exact hi
    have h := h0.below hX
    obtain ⟨ad, rfl, had, hok, f0, f1, f2, f3, f4⟩ := pcs_five h.p (Below.refl _ _) hi
    have hi2 : (i : Int) < (t.size : Int) := by omega
    have ce := cell_box h.e
    obtain ⟨hi0, hpc, hba⟩ := bl_one' hb
    have hsub : sub t i = .one 8 a := sub_is hV hit hoa hb
    rw [hpc] at f0 f1 f2 f3 f4 hok
    have hia : ((i : Int) - 1) = ((i - 1 : Nat) : Int) := by omega
    simp only [hia] at f0 f1 f2 f3 f4
    have HBl : Hid (∀ Z, Below X.heap.size X Z → Calls Try.prog 77 #[.int .i64 i, pt be, pt bv] Z fun r X' => ∃ v', r = .returned v' ∧ OwnPc Z.heap.size X' v' (Ex.one 8 a).size (flat (.one 8 a) 0) ∧ Below Z.heap.size Z X') := fun Z hZ => by
      have := block_any hV i hit (h.below hZ)
      rwa [hsub] at this
    have HD := Lib.hid fun (Y : World) (hY : Below X.heap.size X Y) => h.below hY
    clear h
    have HIH : Hid (∀ Z, Below X.heap.size X Z → _) := fun Z hZ => IH Z (hX.trans (hZ.mono hX.size))
    have HBB : Hid (∀ (B : Nat) Z va vb, OwnPc B Z va (der y a).size (flat (der y a) 0) → OwnPc B Z vb (Ex.one 8 a).size (flat (Ex.one 8 a) 0) → (∀ g, va.ownBlock = some g → vb.ownBlock ≠ some g) → B ≤ Z.heap.size → Calls Try.prog 80 #[.int .u8 4, va, vb] Z fun e w' => ∃ v', e = .returned v' ∧ OwnPc B w' v' (der y (.one 8 a)).size (flat (der y (.one 8 a)) 0) ∧ Below B Z w') := fun B Z va vb hA hB2 hne hB => bin_tree B 4 (der y a) (Ex.one 8 a) va vb Z (by decide) hA hB2 hne (by omega) hB hoa hpa h8
    clear hi had hX hb hV h0 hok hpc hba hia IH hs hoa hpa h8 hsub
    generalize i - 1 = ia at *
    show Calls _ _ _ _ _
    go_enter Try.func78, Try.ntmps78
    go_upto_region 2 with fail
    have HB3 : Hid (Bx5 (X.alloc (.cells #[.int .u8 (8 : Nat), .int .u8 (0 : Nat), .int .u8 (0 : Nat), .int .i64 (ia : Nat), .int .i64 0] 32)) X.heap.size ⟨8, 0, 0, (ia : Nat), 0⟩) := Bx5.new X ⟨8, 0, 0, (ia : Nat), 0⟩
    have HXX : Hid (Below X.heap.size X (X.alloc (.cells #[.int .u8 (8 : Nat), .int .u8 (0 : Nat), .int .u8 (0 : Nat), .int .i64 (ia : Nat), .int .i64 0] 32))) := bal (Below.refl _ _) _
    have HX0 : Hid (X.heap.size < (X.alloc (.cells #[.int .u8 (8 : Nat), .int .u8 (0 : Nat), .int .u8 (0 : Nat), .int .i64 (ia : Nat), .int .i64 0] 32)).heap.size) := by show _ < _; simp
    generalize X.alloc (.cells #[.int .u8 (8 : Nat), .int .u8 (0 : Nat), .int .u8 (0 : Nat), .int .i64 (ia : Nat), .int .i64 0] 32) = X1 at *
    obtain ⟨bp, hbp⟩ : ∃ bp, bp = X.heap.size := ⟨_, rfl⟩
    rw [← hbp] at HB3 ⊢
    have HBP := Lib.hid hbp
    have hbpl : bp < X1.heap.size := by have := HX0.out; omega
    clear hbp f0 f1 f2 f3 f4
    have h1 := HD.out _ HXX.out
    obtain ⟨b0, b1, b2, b3, b4⟩ := HB3.out.cells
    simp only at b0 b1 b2 b3 b4
    have ce := cell_box h1.e
    have cx := cell_box h1.x
    have cm := cell_box h1.m
    have cd := cell_box h1.d
    have ck := cell_box h1.k
    have hbdl := lt_of_block h1.d
    have hbkl := lt_of_block h1.k
    have HD1 := Lib.hid h1
    clear h1
    have HIH1 : Hid (∀ Z, Below X1.heap.size X1 Z → _) := fun Z hZ => HIH.out Z (stepB HXX.out hZ)
    have HBl1 : Hid (∀ Z, Below X1.heap.size X1 Z → _) := fun Z hZ => HBl.out Z (stepB HXX.out hZ)
    go_upto_region 11 with fail
    have hlY : ∀ Y : World, Below X1.heap.size X1 Y → (fun X : World => X.cell? ⟨bp, 0, none⟩ = some (.int .u8 (8 : Nat)) ∧ X.cell? ⟨bp, 3, none⟩ = some (.int .i64 (ia : Nat)) ∧ X.cell? ⟨bp, 4, none⟩ = some (.int .i64 0) ∧ X.cell? ⟨bd, 0, none⟩ = some (derF be bx bd bk bm) ∧ X.cell? ⟨bk, 0, none⟩ = some (blkF be bv)) Y := fun Y hY => ⟨(hY.cell (p := ⟨bp, 0, none⟩) hbpl).trans b0, (hY.cell (p := ⟨bp, 3, none⟩) hbpl).trans b3, (hY.cell (p := ⟨bp, 4, none⟩) hbpl).trans b4, (hY.cell (p := ⟨bd, 0, none⟩) hbdl).trans cd, (hY.cell (p := ⟨bk, 0, none⟩) hbkl).trans ck⟩
    have hS0 : (fun X : World => X.cell? ⟨bp, 0, none⟩ = some (.int .u8 (8 : Nat)) ∧ X.cell? ⟨bp, 3, none⟩ = some (.int .i64 (ia : Nat)) ∧ X.cell? ⟨bp, 4, none⟩ = some (.int .i64 0) ∧ X.cell? ⟨bd, 0, none⟩ = some (derF be bx bd bk bm) ∧ X.cell? ⟨bk, 0, none⟩ = some (blkF be bv)) X1.drew := hlY _ (drewN_below X1 1)
    simp only [derF, blkF] at hlY hS0
    refine wp_region_any (by kernel_rfl) ?_
    change wpAny _ _ _ _ _ _ _ (World.drew _)
    refine wpAny_head 7 7 (fun X : World => X.cell? ⟨bp, 0, none⟩ = some (.int .u8 (8 : Nat)) ∧ X.cell? ⟨bp, 3, none⟩ = some (.int .i64 (ia : Nat)) ∧ X.cell? ⟨bp, 4, none⟩ = some (.int .i64 0) ∧ X.cell? ⟨bd, 0, none⟩ = some (Value.func (.func 78) #[] #[pt be, pt bx, pt bd, pt bk, pt bm]) ∧ X.cell? ⟨bk, 0, none⟩ = some (Value.func (.func 77) #[] #[pt be, pt bv])) rfl rfl (by kernel_rfl) (by kernel_rfl) (by kernel_rfl) (fun hA => ?_)
    refine wpHead_take (i := 0) (v := ?_) (by kernel_rfl) hA (at_drop rfl) (by decide) (by kernel_rfl) (by kernel_rfl) (by kernel_rfl) (fun _ _ _ h => h) (Or.inl ⟨by rfl, ?_⟩) hS0 (fun hA => ?_)
    rotate_left
    · (intro w hSw; obtain ⟨s0, s3, s4, s5, s6⟩ := hSw; go_simp <;> with_reducible rfl)
    simp only [Act.put, List.setIfInBounds_toArray, List.set_cons_zero, List.set_cons_succ]
    refine wpHead_take (i := 1) (v := ?_) (by kernel_rfl) hA (at_drop rfl) (by decide) (by kernel_rfl) (by kernel_rfl) (by kernel_rfl) (fun _ _ _ h => h) (Or.inl ⟨by rfl, ?_⟩) hS0 (fun hA => ?_)
    rotate_left
    · (intro w hSw; obtain ⟨s0, s3, s4, s5, s6⟩ := hSw; go_simp <;> with_reducible rfl)
    simp only [Act.put, List.setIfInBounds_toArray, List.set_cons_zero, List.set_cons_succ]
    refine wpHead_take (i := 2) (v := ?_) (by kernel_rfl) hA (at_drop rfl) (by decide) (by kernel_rfl) (by kernel_rfl) (by kernel_rfl) (fun _ _ _ h => h) (Or.inl ⟨by rfl, ?_⟩) hS0 (fun hA => ?_)
    rotate_left
    · (intro w hSw; obtain ⟨s0, s3, s4, s5, s6⟩ := hSw; go_simp <;> with_reducible rfl)
    simp only [Act.put, List.setIfInBounds_toArray, List.set_cons_zero, List.set_cons_succ]
    refine wpHead_take (i := 4) (v := ?_) (by kernel_rfl) hA (at_drop rfl) (by decide) (by kernel_rfl) (by kernel_rfl) (by kernel_rfl) (fun _ _ _ h => h) (Or.inl ⟨by rfl, ?_⟩) hS0 (fun hA => ?_)
    rotate_left
    · (intro w hSw; obtain ⟨s0, s3, s4, s5, s6⟩ := hSw; go_simp <;> with_reducible rfl)
    simp only [Act.put, List.setIfInBounds_toArray, List.set_cons_zero, List.set_cons_succ]
    refine wpHead_take (i := 5) (v := ?_) (by kernel_rfl) hA (at_drop rfl) (by decide) (by kernel_rfl) (by kernel_rfl) (by kernel_rfl) (fun _ _ _ h => h) (Or.inl ⟨by rfl, ?_⟩) hS0 (fun hA => ?_)
    rotate_left
    · (intro w hSw; obtain ⟨s0, s3, s4, s5, s6⟩ := hSw; go_simp <;> with_reducible rfl)
    simp only [Act.put, List.setIfInBounds_toArray, List.set_cons_zero, List.set_cons_succ]
    refine wpHead_ready (rs := [3]) (by kernel_rfl) (by decide) (AllHead.cons (at_drop rfl) (by decide) (fun KK hK => ?_) AllHead.nil)
    go_simp
    refine (HIH1.out _ (drewN_below X1 1)).mono ?_
    rintro r X2 ⟨va, rfl, hO1, hbe1⟩
    have h12 := stepB (drewN_below X1 1) hbe1
    refine hK _ _ (hlY _ h12) ?_
    clear hK KK
    refine wpHead_ready (rs := [6]) (by kernel_rfl) (by decide) (AllHead.cons (at_drop rfl) (by decide) (fun KK hK => ?_) AllHead.nil)
    go_simp
    refine (HBl1.out _ h12).mono ?_
    rintro r X3 ⟨vb, rfl, hO2, hbe2⟩
    have h13 := stepB h12 hbe2
    refine hK _ _ (hlY _ h13) ?_
    clear hK KK
    refine wpHead_end (by kernel_rfl) ?_
    simp only [List.drop_succ_cons, List.drop_zero]
    obtain ⟨q1, q2, q3, q4⟩ := two_own (X := X1) (Nat.le_refl _) hO1 h12 hO2 hbe2
    have HBn := Lib.hid (HBB.out X1.heap.size X3 va vb q1 q2 q3 h13.size)
    clear hS0 hA hlY hO1 hbe1 hO2 hbe2 q1 q2 q3 q4
    go_wp2_with (go_at_call 80; ((with_reducible refine HBn.out.mono ?_); rintro r X4 ⟨vr, rfl, hO4, hb4⟩); have HO4 := Lib.hid hO4; clear hO4)
    go_ret
    exact ⟨_, rfl, own_back (X := X) HO4.out HXX.out.size, stepB HXX.out (h13.trans hb4)⟩
set_option maxHeartbeats 16000000 in
theorem der_bin5 (hV : t.Valid v) (h0 : DerAt W0 t v y A c be bv bx bm bd bk kb mbs) (a b : Ex) (s i : Nat) (hob : (der y b).Ok) (hpb : plainT (der y b) = true) (h8 : (der y b).P8) (hb : Bl (flat t 0) s i (.two 5 a b)) (hs : (der y a).size + (der y b).size ≤ 20000) (IHa : DerC W0 y be bx bm bd bk a (s + a.size - 1)) (IHb : DerC W0 y be bx bm bd bk b (i - 1)) : DerC W0 y be bx bm bd bk (.two 5 a b) i := fun X hX => by
    have hi : i < (flat t 0).length := bl_lt hb
    have hit : i < t.size := by rw [flat_len] at hi; exact hi
    have h := h0.below hX
    obtain ⟨ad, rfl, had, hok, f0, f1, f2, f3, f4⟩ := pcs_five h.p (Below.refl _ _) hi
    have hi2 : (i : Int) < (t.size : Int) := by omega
    have ce := cell_box h.e
    obtain ⟨hi0, hpc, hba, hbb⟩ := bl_two' hb
    rw [hpc] at f0 f1 f2 f3 f4 hok
    have hia : (((s + a.size : Nat) : Int) - 1) = ((s + a.size - 1 : Nat) : Int) := by have := a.pos; omega
    have hib : ((i : Int) - 1) = ((i - 1 : Nat) : Int) := by omega
    simp only [hia, hib] at f0 f1 f2 f3 f4
    have HD := Lib.hid fun (Y : World) (hY : Below X.heap.size X Y) => h.below hY
    clear h
    have HIHa : Hid (∀ Z, Below X.heap.size X Z → _) := fun Z hZ => IHa Z (hX.trans (hZ.mono hX.size))
    have HIHb : Hid (∀ Z, Below X.heap.size X Z → _) := fun Z hZ => IHb Z (hX.trans (hZ.mono hX.size))
    have HBB : Hid (∀ (B : Nat) Z va vb, OwnPc B Z va (der y a).size (flat (der y a) 0) → OwnPc B Z vb (der y b).size (flat (der y b) 0) → (∀ g, va.ownBlock = some g → vb.ownBlock ≠ some g) → B ≤ Z.heap.size → Calls Try.prog 80 #[.int .u8 5, va, vb] Z fun e w' => ∃ v', e = .returned v' ∧ OwnPc B w' v' (der y (.two 5 a b)).size (flat (der y (.two 5 a b)) 0) ∧ Below B Z w') := fun B Z va vb hA hB2 hne hB => bin_tree B 5 (der y a) (der y b) va vb Z (by decide) hA hB2 hne (by omega) hB hob hpb h8
    clear hi had hX hb hV h0 hok hpc hba hbb hia hib IHa IHb hs hob hpb h8
    generalize s + a.size - 1 = ia at *
    generalize i - 1 = ib at *
    show Calls _ _ _ _ _
    go_enter Try.func78, Try.ntmps78
    go_upto_region 2 with fail
    have HB3 : Hid (Bx5 (X.alloc (.cells #[.int .u8 (5 : Nat), .int .u8 (0 : Nat), .int .u8 (0 : Nat), .int .i64 (ia : Nat), .int .i64 (ib : Nat)] 32)) X.heap.size ⟨5, 0, 0, (ia : Nat), (ib : Nat)⟩) := Bx5.new X ⟨5, 0, 0, (ia : Nat), (ib : Nat)⟩
    have HXX : Hid (Below X.heap.size X (X.alloc (.cells #[.int .u8 (5 : Nat), .int .u8 (0 : Nat), .int .u8 (0 : Nat), .int .i64 (ia : Nat), .int .i64 (ib : Nat)] 32))) := bal (Below.refl _ _) _
    have HX0 : Hid (X.heap.size < (X.alloc (.cells #[.int .u8 (5 : Nat), .int .u8 (0 : Nat), .int .u8 (0 : Nat), .int .i64 (ia : Nat), .int .i64 (ib : Nat)] 32)).heap.size) := by show _ < _; simp
    generalize X.alloc (.cells #[.int .u8 (5 : Nat), .int .u8 (0 : Nat), .int .u8 (0 : Nat), .int .i64 (ia : Nat), .int .i64 (ib : Nat)] 32) = X1 at *
    obtain ⟨bp, hbp⟩ : ∃ bp, bp = X.heap.size := ⟨_, rfl⟩
    rw [← hbp] at HB3 ⊢
    have HBP := Lib.hid hbp
    have hbpl : bp < X1.heap.size := by have := HX0.out; omega
    clear hbp f0 f1 f2 f3 f4
    have h1 := HD.out _ HXX.out
    obtain ⟨b0, b1, b2, b3, b4⟩ := HB3.out.cells
    simp only at b0 b1 b2 b3 b4
    have ce := cell_box h1.e
    have cx := cell_box h1.x
    have cm := cell_box h1.m
    have cd := cell_box h1.d
    have ck := cell_box h1.k
    have hbdl := lt_of_block h1.d
    have hbkl := lt_of_block h1.k
    have HD1 := Lib.hid h1
    clear h1
    have HIHa1 : Hid (∀ Z, Below X1.heap.size X1 Z → _) := fun Z hZ => HIHa.out Z (stepB HXX.out hZ)
    have HIHb1 : Hid (∀ Z, Below X1.heap.size X1 Z → _) := fun Z hZ => HIHb.out Z (stepB HXX.out hZ)
    go_upto_region 7 with fail
    have hlY : ∀ Y : World, Below X1.heap.size X1 Y → (fun X : World => X.cell? ⟨bp, 0, none⟩ = some (.int .u8 (5 : Nat)) ∧ X.cell? ⟨bp, 3, none⟩ = some (.int .i64 (ia : Nat)) ∧ X.cell? ⟨bp, 4, none⟩ = some (.int .i64 (ib : Nat)) ∧ X.cell? ⟨bd, 0, none⟩ = some (derF be bx bd bk bm) ∧ X.cell? ⟨bk, 0, none⟩ = some (blkF be bv)) Y := fun Y hY => ⟨(hY.cell (p := ⟨bp, 0, none⟩) hbpl).trans b0, (hY.cell (p := ⟨bp, 3, none⟩) hbpl).trans b3, (hY.cell (p := ⟨bp, 4, none⟩) hbpl).trans b4, (hY.cell (p := ⟨bd, 0, none⟩) hbdl).trans cd, (hY.cell (p := ⟨bk, 0, none⟩) hbkl).trans ck⟩
    have hS0 : (fun X : World => X.cell? ⟨bp, 0, none⟩ = some (.int .u8 (5 : Nat)) ∧ X.cell? ⟨bp, 3, none⟩ = some (.int .i64 (ia : Nat)) ∧ X.cell? ⟨bp, 4, none⟩ = some (.int .i64 (ib : Nat)) ∧ X.cell? ⟨bd, 0, none⟩ = some (derF be bx bd bk bm) ∧ X.cell? ⟨bk, 0, none⟩ = some (blkF be bv)) X1.drew := hlY _ (drewN_below X1 1)
    simp only [derF, blkF] at hlY hS0
    refine wp_region_any (by kernel_rfl) ?_
    change wpAny _ _ _ _ _ _ _ (World.drew _)
    refine wpAny_head 10 10 (fun X : World => X.cell? ⟨bp, 0, none⟩ = some (.int .u8 (5 : Nat)) ∧ X.cell? ⟨bp, 3, none⟩ = some (.int .i64 (ia : Nat)) ∧ X.cell? ⟨bp, 4, none⟩ = some (.int .i64 (ib : Nat)) ∧ X.cell? ⟨bd, 0, none⟩ = some (Value.func (.func 78) #[] #[pt be, pt bx, pt bd, pt bk, pt bm]) ∧ X.cell? ⟨bk, 0, none⟩ = some (Value.func (.func 77) #[] #[pt be, pt bv])) rfl rfl (by kernel_rfl) (by kernel_rfl) (by kernel_rfl) (fun hA => ?_)
    refine wpHead_take (i := 0) (v := ?_) (by kernel_rfl) hA (at_drop rfl) (by decide) (by kernel_rfl) (by kernel_rfl) (by kernel_rfl) (fun _ _ _ h => h) (Or.inl ⟨by rfl, ?_⟩) hS0 (fun hA => ?_)
    rotate_left
    · (intro w hSw; obtain ⟨s0, s3, s4, s5, s6⟩ := hSw; go_simp <;> with_reducible rfl)
    simp only [Act.put, List.setIfInBounds_toArray, List.set_cons_zero, List.set_cons_succ]
    refine wpHead_take (i := 1) (v := ?_) (by kernel_rfl) hA (at_drop rfl) (by decide) (by kernel_rfl) (by kernel_rfl) (by kernel_rfl) (fun _ _ _ h => h) (Or.inl ⟨by rfl, ?_⟩) hS0 (fun hA => ?_)
    rotate_left
    · (intro w hSw; obtain ⟨s0, s3, s4, s5, s6⟩ := hSw; go_simp <;> with_reducible rfl)
    simp only [Act.put, List.setIfInBounds_toArray, List.set_cons_zero, List.set_cons_succ]
    refine wpHead_take (i := 2) (v := ?_) (by kernel_rfl) hA (at_drop rfl) (by decide) (by kernel_rfl) (by kernel_rfl) (by kernel_rfl) (fun _ _ _ h => h) (Or.inl ⟨by rfl, ?_⟩) hS0 (fun hA => ?_)
    rotate_left
    · (intro w hSw; obtain ⟨s0, s3, s4, s5, s6⟩ := hSw; go_simp <;> with_reducible rfl)
    simp only [Act.put, List.setIfInBounds_toArray, List.set_cons_zero, List.set_cons_succ]
    refine wpHead_take (i := 3) (v := ?_) (by kernel_rfl) hA (at_drop rfl) (by decide) (by kernel_rfl) (by kernel_rfl) (by kernel_rfl) (fun _ _ _ h => h) (Or.inl ⟨by rfl, ?_⟩) hS0 (fun hA => ?_)
    rotate_left
    · (intro w hSw; obtain ⟨s0, s3, s4, s5, s6⟩ := hSw; go_simp <;> with_reducible rfl)
    simp only [Act.put, List.setIfInBounds_toArray, List.set_cons_zero, List.set_cons_succ]
    refine wpHead_take (i := 4) (v := ?_) (by kernel_rfl) hA (at_drop rfl) (by decide) (by kernel_rfl) (by kernel_rfl) (by kernel_rfl) (fun _ _ _ h => h) (Or.inl ⟨by rfl, ?_⟩) hS0 (fun hA => ?_)
    rotate_left
    · (intro w hSw; obtain ⟨s0, s3, s4, s5, s6⟩ := hSw; go_simp <;> with_reducible rfl)
    simp only [Act.put, List.setIfInBounds_toArray, List.set_cons_zero, List.set_cons_succ]
    refine wpHead_take (i := 6) (v := ?_) (by kernel_rfl) hA (at_drop rfl) (by decide) (by kernel_rfl) (by kernel_rfl) (by kernel_rfl) (fun _ _ _ h => h) (Or.inl ⟨by rfl, ?_⟩) hS0 (fun hA => ?_)
    rotate_left
    · (intro w hSw; obtain ⟨s0, s3, s4, s5, s6⟩ := hSw; go_simp <;> with_reducible rfl)
    simp only [Act.put, List.setIfInBounds_toArray, List.set_cons_zero, List.set_cons_succ]
    refine wpHead_take (i := 7) (v := ?_) (by kernel_rfl) hA (at_drop rfl) (by decide) (by kernel_rfl) (by kernel_rfl) (by kernel_rfl) (fun _ _ _ h => h) (Or.inl ⟨by rfl, ?_⟩) hS0 (fun hA => ?_)
    rotate_left
    · (intro w hSw; obtain ⟨s0, s3, s4, s5, s6⟩ := hSw; go_simp <;> with_reducible rfl)
    simp only [Act.put, List.setIfInBounds_toArray, List.set_cons_zero, List.set_cons_succ]
    refine wpHead_take (i := 8) (v := ?_) (by kernel_rfl) hA (at_drop rfl) (by decide) (by kernel_rfl) (by kernel_rfl) (by kernel_rfl) (fun _ _ _ h => h) (Or.inl ⟨by rfl, ?_⟩) hS0 (fun hA => ?_)
    rotate_left
    · (intro w hSw; obtain ⟨s0, s3, s4, s5, s6⟩ := hSw; go_simp <;> with_reducible rfl)
    simp only [Act.put, List.setIfInBounds_toArray, List.set_cons_zero, List.set_cons_succ]
    refine wpHead_ready (rs := [5]) (by kernel_rfl) (by decide) (AllHead.cons (at_drop rfl) (by decide) (fun KK hK => ?_) AllHead.nil)
    go_simp
    refine (HIHa1.out _ (drewN_below X1 1)).mono ?_
    rintro r X2 ⟨va, rfl, hO1, hbe1⟩
    have h12 := stepB (drewN_below X1 1) hbe1
    refine hK _ _ (hlY _ h12) ?_
    clear hK KK
    refine wpHead_ready (rs := [9]) (by kernel_rfl) (by decide) (AllHead.cons (at_drop rfl) (by decide) (fun KK hK => ?_) AllHead.nil)
    go_simp
    refine (HIHb1.out _ h12).mono ?_
    rintro r X3 ⟨vb, rfl, hO2, hbe2⟩
    have h13 := stepB h12 hbe2
    refine hK _ _ (hlY _ h13) ?_
    clear hK KK
    refine wpHead_end (by kernel_rfl) ?_
    simp only [List.drop_succ_cons, List.drop_zero]
    obtain ⟨q1, q2, q3, q4⟩ := two_own (X := X1) (Nat.le_refl _) hO1 h12 hO2 hbe2
    have HBn := Lib.hid (HBB.out X1.heap.size X3 va vb q1 q2 q3 h13.size)
    clear hS0 hA hlY hO1 hbe1 hO2 hbe2 q1 q2 q3 q4
    go_wp2_with (go_at_call 80; ((with_reducible refine HBn.out.mono ?_); rintro r X4 ⟨vr, rfl, hO4, hb4⟩); have HO4 := Lib.hid hO4; clear hO4)
    go_ret
    exact ⟨_, rfl, own_back (X := X) HO4.out HXX.out.size, stepB HXX.out (h13.trans hb4)⟩
set_option maxHeartbeats 16000000 in
theorem der_bin6 (hV : t.Valid v) (h0 : DerAt W0 t v y A c be bv bx bm bd bk kb mbs) (a b : Ex) (s i : Nat) (hob : (der y b).Ok) (hpb : plainT (der y b) = true) (h8 : (der y b).P8) (hb : Bl (flat t 0) s i (.two 6 a b)) (hs : (der y a).size + (der y b).size ≤ 20000) (IHa : DerC W0 y be bx bm bd bk a (s + a.size - 1)) (IHb : DerC W0 y be bx bm bd bk b (i - 1)) : DerC W0 y be bx bm bd bk (.two 6 a b) i := fun X hX => by
    have hi : i < (flat t 0).length := bl_lt hb
    have hit : i < t.size := by rw [flat_len] at hi; exact hi
    have h := h0.below hX
    obtain ⟨ad, rfl, had, hok, f0, f1, f2, f3, f4⟩ := pcs_five h.p (Below.refl _ _) hi
    have hi2 : (i : Int) < (t.size : Int) := by omega
    have ce := cell_box h.e
    obtain ⟨hi0, hpc, hba, hbb⟩ := bl_two' hb
    rw [hpc] at f0 f1 f2 f3 f4 hok
    have hia : (((s + a.size : Nat) : Int) - 1) = ((s + a.size - 1 : Nat) : Int) := by have := a.pos; omega
    have hib : ((i : Int) - 1) = ((i - 1 : Nat) : Int) := by omega
    simp only [hia, hib] at f0 f1 f2 f3 f4
    have HD := Lib.hid fun (Y : World) (hY : Below X.heap.size X Y) => h.below hY
    clear h
    have HIHa : Hid (∀ Z, Below X.heap.size X Z → _) := fun Z hZ => IHa Z (hX.trans (hZ.mono hX.size))
    have HIHb : Hid (∀ Z, Below X.heap.size X Z → _) := fun Z hZ => IHb Z (hX.trans (hZ.mono hX.size))
    have HBB : Hid (∀ (B : Nat) Z va vb, OwnPc B Z va (der y a).size (flat (der y a) 0) → OwnPc B Z vb (der y b).size (flat (der y b) 0) → (∀ g, va.ownBlock = some g → vb.ownBlock ≠ some g) → B ≤ Z.heap.size → Calls Try.prog 80 #[.int .u8 6, va, vb] Z fun e w' => ∃ v', e = .returned v' ∧ OwnPc B w' v' (der y (.two 6 a b)).size (flat (der y (.two 6 a b)) 0) ∧ Below B Z w') := fun B Z va vb hA hB2 hne hB => bin_tree B 6 (der y a) (der y b) va vb Z (by decide) hA hB2 hne (by omega) hB hob hpb h8
    clear hi had hX hb hV h0 hok hpc hba hbb hia hib IHa IHb hs hob hpb h8
    generalize s + a.size - 1 = ia at *
    generalize i - 1 = ib at *
    show Calls _ _ _ _ _
    go_enter Try.func78, Try.ntmps78
    go_upto_region 2 with fail
    have HB3 : Hid (Bx5 (X.alloc (.cells #[.int .u8 (6 : Nat), .int .u8 (0 : Nat), .int .u8 (0 : Nat), .int .i64 (ia : Nat), .int .i64 (ib : Nat)] 32)) X.heap.size ⟨6, 0, 0, (ia : Nat), (ib : Nat)⟩) := Bx5.new X ⟨6, 0, 0, (ia : Nat), (ib : Nat)⟩
    have HXX : Hid (Below X.heap.size X (X.alloc (.cells #[.int .u8 (6 : Nat), .int .u8 (0 : Nat), .int .u8 (0 : Nat), .int .i64 (ia : Nat), .int .i64 (ib : Nat)] 32))) := bal (Below.refl _ _) _
    have HX0 : Hid (X.heap.size < (X.alloc (.cells #[.int .u8 (6 : Nat), .int .u8 (0 : Nat), .int .u8 (0 : Nat), .int .i64 (ia : Nat), .int .i64 (ib : Nat)] 32)).heap.size) := by show _ < _; simp
    generalize X.alloc (.cells #[.int .u8 (6 : Nat), .int .u8 (0 : Nat), .int .u8 (0 : Nat), .int .i64 (ia : Nat), .int .i64 (ib : Nat)] 32) = X1 at *
    obtain ⟨bp, hbp⟩ : ∃ bp, bp = X.heap.size := ⟨_, rfl⟩
    rw [← hbp] at HB3 ⊢
    have HBP := Lib.hid hbp
    have hbpl : bp < X1.heap.size := by have := HX0.out; omega
    clear hbp f0 f1 f2 f3 f4
    have h1 := HD.out _ HXX.out
    obtain ⟨b0, b1, b2, b3, b4⟩ := HB3.out.cells
    simp only at b0 b1 b2 b3 b4
    have ce := cell_box h1.e
    have cx := cell_box h1.x
    have cm := cell_box h1.m
    have cd := cell_box h1.d
    have ck := cell_box h1.k
    have hbdl := lt_of_block h1.d
    have hbkl := lt_of_block h1.k
    have HD1 := Lib.hid h1
    clear h1
    have HIHa1 : Hid (∀ Z, Below X1.heap.size X1 Z → _) := fun Z hZ => HIHa.out Z (stepB HXX.out hZ)
    have HIHb1 : Hid (∀ Z, Below X1.heap.size X1 Z → _) := fun Z hZ => HIHb.out Z (stepB HXX.out hZ)
    go_upto_region 7 with fail
    have hlY : ∀ Y : World, Below X1.heap.size X1 Y → (fun X : World => X.cell? ⟨bp, 0, none⟩ = some (.int .u8 (6 : Nat)) ∧ X.cell? ⟨bp, 3, none⟩ = some (.int .i64 (ia : Nat)) ∧ X.cell? ⟨bp, 4, none⟩ = some (.int .i64 (ib : Nat)) ∧ X.cell? ⟨bd, 0, none⟩ = some (derF be bx bd bk bm) ∧ X.cell? ⟨bk, 0, none⟩ = some (blkF be bv)) Y := fun Y hY => ⟨(hY.cell (p := ⟨bp, 0, none⟩) hbpl).trans b0, (hY.cell (p := ⟨bp, 3, none⟩) hbpl).trans b3, (hY.cell (p := ⟨bp, 4, none⟩) hbpl).trans b4, (hY.cell (p := ⟨bd, 0, none⟩) hbdl).trans cd, (hY.cell (p := ⟨bk, 0, none⟩) hbkl).trans ck⟩
    have hS0 : (fun X : World => X.cell? ⟨bp, 0, none⟩ = some (.int .u8 (6 : Nat)) ∧ X.cell? ⟨bp, 3, none⟩ = some (.int .i64 (ia : Nat)) ∧ X.cell? ⟨bp, 4, none⟩ = some (.int .i64 (ib : Nat)) ∧ X.cell? ⟨bd, 0, none⟩ = some (derF be bx bd bk bm) ∧ X.cell? ⟨bk, 0, none⟩ = some (blkF be bv)) X1.drew := hlY _ (drewN_below X1 1)
    simp only [derF, blkF] at hlY hS0
    refine wp_region_any (by kernel_rfl) ?_
    change wpAny _ _ _ _ _ _ _ (World.drew _)
    refine wpAny_head 10 10 (fun X : World => X.cell? ⟨bp, 0, none⟩ = some (.int .u8 (6 : Nat)) ∧ X.cell? ⟨bp, 3, none⟩ = some (.int .i64 (ia : Nat)) ∧ X.cell? ⟨bp, 4, none⟩ = some (.int .i64 (ib : Nat)) ∧ X.cell? ⟨bd, 0, none⟩ = some (Value.func (.func 78) #[] #[pt be, pt bx, pt bd, pt bk, pt bm]) ∧ X.cell? ⟨bk, 0, none⟩ = some (Value.func (.func 77) #[] #[pt be, pt bv])) rfl rfl (by kernel_rfl) (by kernel_rfl) (by kernel_rfl) (fun hA => ?_)
    refine wpHead_take (i := 0) (v := ?_) (by kernel_rfl) hA (at_drop rfl) (by decide) (by kernel_rfl) (by kernel_rfl) (by kernel_rfl) (fun _ _ _ h => h) (Or.inl ⟨by rfl, ?_⟩) hS0 (fun hA => ?_)
    rotate_left
    · (intro w hSw; obtain ⟨s0, s3, s4, s5, s6⟩ := hSw; go_simp <;> with_reducible rfl)
    simp only [Act.put, List.setIfInBounds_toArray, List.set_cons_zero, List.set_cons_succ]
    refine wpHead_take (i := 1) (v := ?_) (by kernel_rfl) hA (at_drop rfl) (by decide) (by kernel_rfl) (by kernel_rfl) (by kernel_rfl) (fun _ _ _ h => h) (Or.inl ⟨by rfl, ?_⟩) hS0 (fun hA => ?_)
    rotate_left
    · (intro w hSw; obtain ⟨s0, s3, s4, s5, s6⟩ := hSw; go_simp <;> with_reducible rfl)
    simp only [Act.put, List.setIfInBounds_toArray, List.set_cons_zero, List.set_cons_succ]
    refine wpHead_take (i := 2) (v := ?_) (by kernel_rfl) hA (at_drop rfl) (by decide) (by kernel_rfl) (by kernel_rfl) (by kernel_rfl) (fun _ _ _ h => h) (Or.inl ⟨by rfl, ?_⟩) hS0 (fun hA => ?_)
    rotate_left
    · (intro w hSw; obtain ⟨s0, s3, s4, s5, s6⟩ := hSw; go_simp <;> with_reducible rfl)
    simp only [Act.put, List.setIfInBounds_toArray, List.set_cons_zero, List.set_cons_succ]
    refine wpHead_take (i := 3) (v := ?_) (by kernel_rfl) hA (at_drop rfl) (by decide) (by kernel_rfl) (by kernel_rfl) (by kernel_rfl) (fun _ _ _ h => h) (Or.inl ⟨by rfl, ?_⟩) hS0 (fun hA => ?_)
    rotate_left
    · (intro w hSw; obtain ⟨s0, s3, s4, s5, s6⟩ := hSw; go_simp <;> with_reducible rfl)
    simp only [Act.put, List.setIfInBounds_toArray, List.set_cons_zero, List.set_cons_succ]
    refine wpHead_take (i := 4) (v := ?_) (by kernel_rfl) hA (at_drop rfl) (by decide) (by kernel_rfl) (by kernel_rfl) (by kernel_rfl) (fun _ _ _ h => h) (Or.inl ⟨by rfl, ?_⟩) hS0 (fun hA => ?_)
    rotate_left
    · (intro w hSw; obtain ⟨s0, s3, s4, s5, s6⟩ := hSw; go_simp <;> with_reducible rfl)
    simp only [Act.put, List.setIfInBounds_toArray, List.set_cons_zero, List.set_cons_succ]
    refine wpHead_take (i := 6) (v := ?_) (by kernel_rfl) hA (at_drop rfl) (by decide) (by kernel_rfl) (by kernel_rfl) (by kernel_rfl) (fun _ _ _ h => h) (Or.inl ⟨by rfl, ?_⟩) hS0 (fun hA => ?_)
    rotate_left
    · (intro w hSw; obtain ⟨s0, s3, s4, s5, s6⟩ := hSw; go_simp <;> with_reducible rfl)
    simp only [Act.put, List.setIfInBounds_toArray, List.set_cons_zero, List.set_cons_succ]
    refine wpHead_take (i := 7) (v := ?_) (by kernel_rfl) hA (at_drop rfl) (by decide) (by kernel_rfl) (by kernel_rfl) (by kernel_rfl) (fun _ _ _ h => h) (Or.inl ⟨by rfl, ?_⟩) hS0 (fun hA => ?_)
    rotate_left
    · (intro w hSw; obtain ⟨s0, s3, s4, s5, s6⟩ := hSw; go_simp <;> with_reducible rfl)
    simp only [Act.put, List.setIfInBounds_toArray, List.set_cons_zero, List.set_cons_succ]
    refine wpHead_take (i := 8) (v := ?_) (by kernel_rfl) hA (at_drop rfl) (by decide) (by kernel_rfl) (by kernel_rfl) (by kernel_rfl) (fun _ _ _ h => h) (Or.inl ⟨by rfl, ?_⟩) hS0 (fun hA => ?_)
    rotate_left
    · (intro w hSw; obtain ⟨s0, s3, s4, s5, s6⟩ := hSw; go_simp <;> with_reducible rfl)
    simp only [Act.put, List.setIfInBounds_toArray, List.set_cons_zero, List.set_cons_succ]
    refine wpHead_ready (rs := [5]) (by kernel_rfl) (by decide) (AllHead.cons (at_drop rfl) (by decide) (fun KK hK => ?_) AllHead.nil)
    go_simp
    refine (HIHa1.out _ (drewN_below X1 1)).mono ?_
    rintro r X2 ⟨va, rfl, hO1, hbe1⟩
    have h12 := stepB (drewN_below X1 1) hbe1
    refine hK _ _ (hlY _ h12) ?_
    clear hK KK
    refine wpHead_ready (rs := [9]) (by kernel_rfl) (by decide) (AllHead.cons (at_drop rfl) (by decide) (fun KK hK => ?_) AllHead.nil)
    go_simp
    refine (HIHb1.out _ h12).mono ?_
    rintro r X3 ⟨vb, rfl, hO2, hbe2⟩
    have h13 := stepB h12 hbe2
    refine hK _ _ (hlY _ h13) ?_
    clear hK KK
    refine wpHead_end (by kernel_rfl) ?_
    simp only [List.drop_succ_cons, List.drop_zero]
    obtain ⟨q1, q2, q3, q4⟩ := two_own (X := X1) (Nat.le_refl _) hO1 h12 hO2 hbe2
    have HBn := Lib.hid (HBB.out X1.heap.size X3 va vb q1 q2 q3 h13.size)
    clear hS0 hA hlY hO1 hbe1 hO2 hbe2 q1 q2 q3 q4
    go_wp2_with (go_at_call 80; ((with_reducible refine HBn.out.mono ?_); rintro r X4 ⟨vr, rfl, hO4, hb4⟩); have HO4 := Lib.hid hO4; clear hO4)
    go_ret
    exact ⟨_, rfl, own_back (X := X) HO4.out HXX.out.size, stepB HXX.out (h13.trans hb4)⟩
end
end Go.Proofs.Yteckkbjpeckjmaa.Rx
/- Derivatives (package match): concatenations; all expressions. -/
namespace Go.Proofs.Yteckkbjpeckjmaa.Rx
open Go Go.RowKit Go.Proofs.Yteckkbjpeckjmaa
set_option linter.unusedVariables false
set_option linter.unusedSimpArgs false
set_option maxRecDepth 100000
section
variable {X Y W0 : World} {t : Ex} {v : Int} {y : Nat} {A : Option Addr} {c be bv bx bm bd bk kb : Nat} {mbs : Nat → Nat}
set_option maxHeartbeats 16000000 in
theorem der_cat_false (hV : t.Valid v) (h0 : DerAt W0 t v y A c be bv bx bm bd bk kb mbs) (a b : Ex) (s i : Nat) (hnl : mt [] a 0 0 = false) (hoa : a.Ok) (hob : b.Ok) (hpb : plainT b = true) (h8 : b.P8) (hobd : (der y b).Ok) (hpbd : plainT (der y b) = true) (h8d : (der y b).P8) (hb : Bl (flat t 0) s i (.two 4 a b)) (hs : (der y a).size + b.size + 1 + (der y b).size ≤ 20000) (IHa : DerC W0 y be bx bm bd bk a (s + a.size - 1)) (IHb : DerC W0 y be bx bm bd bk b (i - 1)) : DerC W0 y be bx bm bd bk (.two 4 a b) i := fun X hX => by
    have hde : der y (.two 4 a b) = .two 4 (der y a) b := by rw [der_two, if_pos rfl, hnl]; rfl
    rw [hde]
    have hi : i < (flat t 0).length := bl_lt hb
    have hit : i < t.size := by rw [flat_len] at hi; exact hi
    have h := h0.below hX
    obtain ⟨ad, rfl, had, hok, f0, f1, f2, f3, f4⟩ := pcs_five h.p (Below.refl _ _) hi
    have hi2 : (i : Int) < (t.size : Int) := by omega
    have ce := cell_box h.e
    obtain ⟨hi0, hpc, hba, hbb⟩ := bl_two' hb
    have hpa := a.pos
    have hpb0 := b.pos
    have hbsz : s + a.size + b.size = i - 1 + 1 := hbb.1
    have hsa : sub t (s + a.size - 1) = a := sub_is hV (by omega) hoa hba
    have hsb : sub t (i - 1) = b := sub_is hV (by omega) hob hbb
    rw [hpc] at f0 f1 f2 f3 f4 hok
    have hia : (((s + a.size : Nat) : Int) - 1) = ((s + a.size - 1 : Nat) : Int) := by omega
    have hib : ((i : Int) - 1) = ((i - 1 : Nat) : Int) := by omega
    simp only [hia, hib] at f0 f1 f2 f3 f4
    have hiaL : s + a.size - 1 < t.size := by omega
    have HBl : Hid (∀ Z, Below X.heap.size X Z → Calls Try.prog 77 #[.int .i64 (i - 1 : Nat), pt be, pt bv] Z fun r X' => ∃ v', r = .returned v' ∧ OwnPc Z.heap.size X' v' b.size (flat b 0) ∧ Below Z.heap.size Z X') := fun Z hZ => by
      have := block_any hV (i - 1) (by omega) (h.below hZ)
      rwa [hsb] at this
    have HAt : Hid (∀ Z, Below X.heap.size X Z → Z.cell? ⟨kb, s + a.size - 1, none⟩ = some (matV (mbs (s + a.size - 1)) 0) ∧ Calls Try.prog 44 #[matV (mbs (s + a.size - 1)) 0, .int .i64 0, .int .i64 0] Z fun e w' => e = .returned (.bool false) ∧ Below Z.heap.size Z w') := fun Z hZ => by
      have hZ2 := h.below hZ
      refine ⟨cell_of hZ2.o hiaL, ?_⟩
      have := mat_at_any (mbs (s + a.size - 1)) 0 _ (by omega) 0 0 (by omega) (Nat.le_refl _) Z (hZ2.r _ hiaL)
      rwa [half_at (Nat.zero_le _) (Nat.le_refl _), hsa, hnl] at this
    have hkbX := lt_of_block h.o
    have hbmX := lt_of_block h.m
    have HD := Lib.hid fun (Y : World) (hY : Below X.heap.size X Y) => h.below hY
    clear h
    have HIHa : Hid (∀ Z, Below X.heap.size X Z → _) := fun Z hZ => IHa Z (hX.trans (hZ.mono hX.size))
    have HIHb : Hid (∀ Z, Below X.heap.size X Z → _) := fun Z hZ => IHb Z (hX.trans (hZ.mono hX.size))
    have HBB : Hid (∀ (B : Nat) Z va vb, OwnPc B Z va (der y a).size (flat (der y a) 0) → OwnPc B Z vb (b).size (flat (b) 0) → (∀ g, va.ownBlock = some g → vb.ownBlock ≠ some g) → B ≤ Z.heap.size → Calls Try.prog 80 #[.int .u8 4, va, vb] Z fun e w' => ∃ v', e = .returned v' ∧ OwnPc B w' v' (Ex.two 4 (der y a) b).size (flat (Ex.two 4 (der y a) b) 0) ∧ Below B Z w') := fun B Z va vb hA hB2 hne hB => bin_tree B 4 (der y a) (b) va vb Z (by decide) hA hB2 hne (by omega) hB hob hpb h8
    clear hi had hX hb hV h0 hok hpc hba hbb hia hib IHa IHb hs hob hpb h8 hobd hpbd h8d hoa hde hsa hsb hpa hpb0 hbsz hnl
    obtain ⟨L, hL⟩ : ∃ L, L = t.size := ⟨_, rfl⟩
    have hiaL2 : ((s + a.size - 1 : Nat) : Int) < (t.size : Int) := by omega
    clear hL
    generalize s + a.size - 1 = ia at *
    generalize i - 1 = ib at *
    simp only [matV] at HAt
    show Calls _ _ _ _ _
    go_enter Try.func78, Try.ntmps78
    go_upto_region 2 with fail
    have HB3 : Hid (Bx5 (X.alloc (.cells #[.int .u8 (4 : Nat), .int .u8 (0 : Nat), .int .u8 (0 : Nat), .int .i64 (ia : Nat), .int .i64 (ib : Nat)] 32)) X.heap.size ⟨4, 0, 0, (ia : Nat), (ib : Nat)⟩) := Bx5.new X ⟨4, 0, 0, (ia : Nat), (ib : Nat)⟩
    have HXX : Hid (Below X.heap.size X (X.alloc (.cells #[.int .u8 (4 : Nat), .int .u8 (0 : Nat), .int .u8 (0 : Nat), .int .i64 (ia : Nat), .int .i64 (ib : Nat)] 32))) := bal (Below.refl _ _) _
    have HX0 : Hid (X.heap.size < (X.alloc (.cells #[.int .u8 (4 : Nat), .int .u8 (0 : Nat), .int .u8 (0 : Nat), .int .i64 (ia : Nat), .int .i64 (ib : Nat)] 32)).heap.size) := by show _ < _; simp
    generalize X.alloc (.cells #[.int .u8 (4 : Nat), .int .u8 (0 : Nat), .int .u8 (0 : Nat), .int .i64 (ia : Nat), .int .i64 (ib : Nat)] 32) = X1 at *
    obtain ⟨bp, hbp⟩ : ∃ bp, bp = X.heap.size := ⟨_, rfl⟩
    rw [← hbp] at HB3 ⊢
    have HBP := Lib.hid hbp
    have hbpl : bp < X1.heap.size := by have := HX0.out; omega
    clear hbp f0 f1 f2 f3 f4
    have h1 := HD.out _ HXX.out
    obtain ⟨b0, b1, b2, b3, b4⟩ := HB3.out.cells
    simp only at b0 b1 b2 b3 b4
    have ce := cell_box h1.e
    have cx := cell_box h1.x
    have cm := cell_box h1.m
    have cd := cell_box h1.d
    have ck := cell_box h1.k
    have hbdl := lt_of_block h1.d
    have hbkl := lt_of_block h1.k
    have HD1 := Lib.hid h1
    clear h1
    have HIHa1 : Hid (∀ Z, Below X1.heap.size X1 Z → _) := fun Z hZ => HIHa.out Z (stepB HXX.out hZ)
    have HIHb1 : Hid (∀ Z, Below X1.heap.size X1 Z → _) := fun Z hZ => HIHb.out Z (stepB HXX.out hZ)
    have HBl1 : Hid (∀ Z, Below X1.heap.size X1 Z → _) := fun Z hZ => HBl.out Z (stepB HXX.out hZ)
    have hbml : bm < X1.heap.size := by have := HXX.out.size; omega
    have hkbl : kb < X1.heap.size := by have := HXX.out.size; omega
    have HF : Hid (∀ Z, Below X1.heap.size X1 Z → Z.cell? ⟨bm, 0, none⟩ = some (.slice (some ⟨kb, 0, none⟩) t.size t.size) ∧ Z.cell? ⟨bp, 3, none⟩ = some (.int .i64 (ia : Nat)) ∧ Z.cell? ⟨bp, 4, none⟩ = some (.int .i64 (ib : Nat)) ∧ Z.cell? ⟨bd, 0, none⟩ = some (.func (.func 78) #[] #[pt be, pt bx, pt bd, pt bk, pt bm]) ∧ Z.cell? ⟨kb, ia, none⟩ = some (.slice (some ⟨mbs ia, 0, none⟩) (0 + 1) (0 + 1)) ∧ kb < Z.heap.size) := fun Z hZ =>
      ⟨(hZ.cell (p := ⟨bm, 0, none⟩) hbml).trans cm, (hZ.cell (p := ⟨bp, 3, none⟩) hbpl).trans b3, (hZ.cell (p := ⟨bp, 4, none⟩) hbpl).trans b4, (hZ.cell (p := ⟨bd, 0, none⟩) hbdl).trans cd, (HAt.out Z (stepB HXX.out hZ)).1, by have := hZ.size; omega⟩
    have HA68 : Hid (∀ Z, Below X1.heap.size X1 Z → _) := fun Z hZ => (HAt.out Z (stepB HXX.out hZ)).2
    go_upto_region 13 with fail
    have hlY : ∀ Y : World, Below X1.heap.size X1 Y → (fun X : World => X.cell? ⟨bp, 0, none⟩ = some (.int .u8 (4 : Nat)) ∧ X.cell? ⟨bp, 3, none⟩ = some (.int .i64 (ia : Nat)) ∧ X.cell? ⟨bp, 4, none⟩ = some (.int .i64 (ib : Nat)) ∧ X.cell? ⟨bd, 0, none⟩ = some (derF be bx bd bk bm) ∧ X.cell? ⟨bk, 0, none⟩ = some (blkF be bv)) Y := fun Y hY => ⟨(hY.cell (p := ⟨bp, 0, none⟩) hbpl).trans b0, (hY.cell (p := ⟨bp, 3, none⟩) hbpl).trans b3, (hY.cell (p := ⟨bp, 4, none⟩) hbpl).trans b4, (hY.cell (p := ⟨bd, 0, none⟩) hbdl).trans cd, (hY.cell (p := ⟨bk, 0, none⟩) hbkl).trans ck⟩
    have hS0 : (fun X : World => X.cell? ⟨bp, 0, none⟩ = some (.int .u8 (4 : Nat)) ∧ X.cell? ⟨bp, 3, none⟩ = some (.int .i64 (ia : Nat)) ∧ X.cell? ⟨bp, 4, none⟩ = some (.int .i64 (ib : Nat)) ∧ X.cell? ⟨bd, 0, none⟩ = some (derF be bx bd bk bm) ∧ X.cell? ⟨bk, 0, none⟩ = some (blkF be bv)) X1.drew := hlY _ (drewN_below X1 1)
    simp only [derF, blkF] at hlY hS0
    refine wp_region_any (by kernel_rfl) ?_
    change wpAny _ _ _ _ _ _ _ (World.drew _)
    refine wpAny_head 8 8 (fun X : World => X.cell? ⟨bp, 0, none⟩ = some (.int .u8 (4 : Nat)) ∧ X.cell? ⟨bp, 3, none⟩ = some (.int .i64 (ia : Nat)) ∧ X.cell? ⟨bp, 4, none⟩ = some (.int .i64 (ib : Nat)) ∧ X.cell? ⟨bd, 0, none⟩ = some (Value.func (.func 78) #[] #[pt be, pt bx, pt bd, pt bk, pt bm]) ∧ X.cell? ⟨bk, 0, none⟩ = some (Value.func (.func 77) #[] #[pt be, pt bv])) rfl rfl (by kernel_rfl) (by kernel_rfl) (by kernel_rfl) (fun hA => ?_)
    refine wpHead_take (i := 0) (v := ?_) (by kernel_rfl) hA (at_drop rfl) (by decide) (by kernel_rfl) (by kernel_rfl) (by kernel_rfl) (fun _ _ _ h => h) (Or.inl ⟨by rfl, ?_⟩) hS0 (fun hA => ?_)
    rotate_left
    · (intro w hSw; obtain ⟨s0, s3, s4, s5, s6⟩ := hSw; go_simp <;> with_reducible rfl)
    simp only [Act.put, List.setIfInBounds_toArray, List.set_cons_zero, List.set_cons_succ]
    refine wpHead_take (i := 1) (v := ?_) (by kernel_rfl) hA (at_drop rfl) (by decide) (by kernel_rfl) (by kernel_rfl) (by kernel_rfl) (fun _ _ _ h => h) (Or.inl ⟨by rfl, ?_⟩) hS0 (fun hA => ?_)
    rotate_left
    · (intro w hSw; obtain ⟨s0, s3, s4, s5, s6⟩ := hSw; go_simp <;> with_reducible rfl)
    simp only [Act.put, List.setIfInBounds_toArray, List.set_cons_zero, List.set_cons_succ]
    refine wpHead_take (i := 2) (v := ?_) (by kernel_rfl) hA (at_drop rfl) (by decide) (by kernel_rfl) (by kernel_rfl) (by kernel_rfl) (fun _ _ _ h => h) (Or.inl ⟨by rfl, ?_⟩) hS0 (fun hA => ?_)
    rotate_left
    · (intro w hSw; obtain ⟨s0, s3, s4, s5, s6⟩ := hSw; go_simp <;> with_reducible rfl)
    simp only [Act.put, List.setIfInBounds_toArray, List.set_cons_zero, List.set_cons_succ]
    refine wpHead_take (i := 4) (v := ?_) (by kernel_rfl) hA (at_drop rfl) (by decide) (by kernel_rfl) (by kernel_rfl) (by kernel_rfl) (fun _ _ _ h => h) (Or.inl ⟨by rfl, ?_⟩) hS0 (fun hA => ?_)
    rotate_left
    · (intro w hSw; obtain ⟨s0, s3, s4, s5, s6⟩ := hSw; go_simp <;> with_reducible rfl)
    simp only [Act.put, List.setIfInBounds_toArray, List.set_cons_zero, List.set_cons_succ]
    refine wpHead_take (i := 5) (v := ?_) (by kernel_rfl) hA (at_drop rfl) (by decide) (by kernel_rfl) (by kernel_rfl) (by kernel_rfl) (fun _ _ _ h => h) (Or.inl ⟨by rfl, ?_⟩) hS0 (fun hA => ?_)
    rotate_left
    · (intro w hSw; obtain ⟨s0, s3, s4, s5, s6⟩ := hSw; go_simp <;> with_reducible rfl)
    simp only [Act.put, List.setIfInBounds_toArray, List.set_cons_zero, List.set_cons_succ]
    refine wpHead_take (i := 6) (v := ?_) (by kernel_rfl) hA (at_drop rfl) (by decide) (by kernel_rfl) (by kernel_rfl) (by kernel_rfl) (fun _ _ _ h => h) (Or.inl ⟨by rfl, ?_⟩) hS0 (fun hA => ?_)
    rotate_left
    · (intro w hSw; obtain ⟨s0, s3, s4, s5, s6⟩ := hSw; go_simp <;> with_reducible rfl)
    simp only [Act.put, List.setIfInBounds_toArray, List.set_cons_zero, List.set_cons_succ]
    refine wpHead_ready (rs := [3]) (by kernel_rfl) (by decide) (AllHead.cons (at_drop rfl) (by decide) (fun KK hK => ?_) AllHead.nil)
    go_simp
    refine (HIHa1.out _ (drewN_below X1 1)).mono ?_
    rintro r X2 ⟨va, rfl, hO1, hbe1⟩
    have h12 := stepB (drewN_below X1 1) hbe1
    refine hK _ _ (hlY _ h12) ?_
    clear hK KK
    refine wpHead_ready (rs := [7]) (by kernel_rfl) (by decide) (AllHead.cons (at_drop rfl) (by decide) (fun KK hK => ?_) AllHead.nil)
    go_simp
    refine (HBl1.out _ h12).mono ?_
    rintro r X3 ⟨vb, rfl, hO2, hbe2⟩
    have h13 := stepB h12 hbe2
    refine hK _ _ (hlY _ h13) ?_
    clear hK KK
    refine wpHead_end (by kernel_rfl) ?_
    simp only [List.drop_succ_cons, List.drop_zero]
    obtain ⟨q1, q2, q3, q4⟩ := two_own (X := X1) (Nat.le_refl _) hO1 h12 hO2 hbe2
    have HBn := Lib.hid (HBB.out X1.heap.size X3 va vb q1 q2 q3 h13.size)
    clear hS0 hA hlY hO1 hbe1 hO2 hbe2 q1 q2 q3 q4
    have H13 := Lib.hid h13
    clear h12 h13 b0 b1 b2 b3 b4 ce cx cm cd ck
    go_wp2_with (first
      | (go_at_call 80; ((with_reducible refine HBn.out.mono ?_); rintro r X4 ⟨vd, rfl, hO4, hb4⟩); have HO4 := Lib.hid hO4; have h14 := H13.out.trans hb4; obtain ⟨g1, g2, g3, g4, g5, g6⟩ := HF.out _ h14; have HA4 := Lib.hid (HA68.out _ h14); have H14 := Lib.hid h14; clear hO4 h14 hb4 HBn)
      | (go_at_call 44; ((with_reducible refine HA4.out.mono ?_); rintro r X5 ⟨rfl, hb5⟩); have H15 := Lib.hid (stepB H14.out hb5); obtain ⟨k1, k2, k3, k4, k5, k6⟩ := HF.out _ H15.out; have HO5 : Hid (OwnPc X1.heap.size X5 vd _ _) := ⟨HO4.out.1, Ap.own_bel HO4.out.2 hb5⟩; clear g1 g2 g3 g4 g5 g6 hb5 HO4 HA4))
    go_ret
    exact ⟨_, rfl, own_back (X := X) HO5.out HXX.out.size, stepB HXX.out H15.out⟩
set_option maxHeartbeats 16000000 in
theorem der_cat_true (hV : t.Valid v) (h0 : DerAt W0 t v y A c be bv bx bm bd bk kb mbs) (a b : Ex) (s i : Nat) (hnl : mt [] a 0 0 = true) (hoa : a.Ok) (hob : b.Ok) (hpb : plainT b = true) (h8 : b.P8) (hobd : (der y b).Ok) (hpbd : plainT (der y b) = true) (h8d : (der y b).P8) (hb : Bl (flat t 0) s i (.two 4 a b)) (hs : (der y a).size + b.size + 1 + (der y b).size ≤ 20000) (IHa : DerC W0 y be bx bm bd bk a (s + a.size - 1)) (IHb : DerC W0 y be bx bm bd bk b (i - 1)) : DerC W0 y be bx bm bd bk (.two 4 a b) i := fun X hX => by
    have hde : der y (.two 4 a b) = .two 5 (.two 4 (der y a) b) (der y b) := by rw [der_two, if_pos rfl, hnl]; rfl
    rw [hde]
    have hi : i < (flat t 0).length := bl_lt hb
    have hit : i < t.size := by rw [flat_len] at hi; exact hi
    have h := h0.below hX
    obtain ⟨ad, rfl, had, hok, f0, f1, f2, f3, f4⟩ := pcs_five h.p (Below.refl _ _) hi
    have hi2 : (i : Int) < (t.size : Int) := by omega
    have ce := cell_box h.e
    obtain ⟨hi0, hpc, hba, hbb⟩ := bl_two' hb
    have hpa := a.pos
    have hpb0 := b.pos
    have hbsz : s + a.size + b.size = i - 1 + 1 := hbb.1
    have hsa : sub t (s + a.size - 1) = a := sub_is hV (by omega) hoa hba
    have hsb : sub t (i - 1) = b := sub_is hV (by omega) hob hbb
    rw [hpc] at f0 f1 f2 f3 f4 hok
    have hia : (((s + a.size : Nat) : Int) - 1) = ((s + a.size - 1 : Nat) : Int) := by omega
    have hib : ((i : Int) - 1) = ((i - 1 : Nat) : Int) := by omega
    simp only [hia, hib] at f0 f1 f2 f3 f4
    have hiaL : s + a.size - 1 < t.size := by omega
    have HBl : Hid (∀ Z, Below X.heap.size X Z → Calls Try.prog 77 #[.int .i64 (i - 1 : Nat), pt be, pt bv] Z fun r X' => ∃ v', r = .returned v' ∧ OwnPc Z.heap.size X' v' b.size (flat b 0) ∧ Below Z.heap.size Z X') := fun Z hZ => by
      have := block_any hV (i - 1) (by omega) (h.below hZ)
      rwa [hsb] at this
    have HAt : Hid (∀ Z, Below X.heap.size X Z → Z.cell? ⟨kb, s + a.size - 1, none⟩ = some (matV (mbs (s + a.size - 1)) 0) ∧ Calls Try.prog 44 #[matV (mbs (s + a.size - 1)) 0, .int .i64 0, .int .i64 0] Z fun e w' => e = .returned (.bool true) ∧ Below Z.heap.size Z w') := fun Z hZ => by
      have hZ2 := h.below hZ
      refine ⟨cell_of hZ2.o hiaL, ?_⟩
      have := mat_at_any (mbs (s + a.size - 1)) 0 _ (by omega) 0 0 (by omega) (Nat.le_refl _) Z (hZ2.r _ hiaL)
      rwa [half_at (Nat.zero_le _) (Nat.le_refl _), hsa, hnl] at this
    have hkbX := lt_of_block h.o
    have hbmX := lt_of_block h.m
    have HD := Lib.hid fun (Y : World) (hY : Below X.heap.size X Y) => h.below hY
    clear h
    have HIHa : Hid (∀ Z, Below X.heap.size X Z → _) := fun Z hZ => IHa Z (hX.trans (hZ.mono hX.size))
    have HIHb : Hid (∀ Z, Below X.heap.size X Z → _) := fun Z hZ => IHb Z (hX.trans (hZ.mono hX.size))
    have HBB : Hid (∀ (B : Nat) Z va vb, OwnPc B Z va (der y a).size (flat (der y a) 0) → OwnPc B Z vb (b).size (flat (b) 0) → (∀ g, va.ownBlock = some g → vb.ownBlock ≠ some g) → B ≤ Z.heap.size → Calls Try.prog 80 #[.int .u8 4, va, vb] Z fun e w' => ∃ v', e = .returned v' ∧ OwnPc B w' v' (Ex.two 4 (der y a) b).size (flat (Ex.two 4 (der y a) b) 0) ∧ Below B Z w') := fun B Z va vb hA hB2 hne hB => bin_tree B 4 (der y a) (b) va vb Z (by decide) hA hB2 hne (by omega) hB hob hpb h8
    have HBC : Hid (∀ (B : Nat) Z va vb, OwnPc B Z va (Ex.two 4 (der y a) b).size (flat (Ex.two 4 (der y a) b) 0) → OwnPc B Z vb (der y b).size (flat (der y b) 0) → (∀ g, va.ownBlock = some g → vb.ownBlock ≠ some g) → B ≤ Z.heap.size → Calls Try.prog 80 #[.int .u8 5, va, vb] Z fun e w' => ∃ v', e = .returned v' ∧ OwnPc B w' v' (Ex.two 5 (.two 4 (der y a) b) (der y b)).size (flat (Ex.two 5 (.two 4 (der y a) b) (der y b)) 0) ∧ Below B Z w') := fun B Z va vb hA hB2 hne hB => bin_tree B 5 (Ex.two 4 (der y a) b) (der y b) va vb Z (by decide) hA hB2 hne (by show (der y a).size + b.size + 1 + _ ≤ _; omega) hB hobd hpbd h8d
    clear hi had hX hb hV h0 hok hpc hba hbb hia hib IHa IHb hs hob hpb h8 hobd hpbd h8d hoa hde hsa hsb hpa hpb0 hbsz hnl
    obtain ⟨L, hL⟩ : ∃ L, L = t.size := ⟨_, rfl⟩
    have hiaL2 : ((s + a.size - 1 : Nat) : Int) < (t.size : Int) := by omega
    clear hL
    generalize s + a.size - 1 = ia at *
    generalize i - 1 = ib at *
    simp only [matV] at HAt
    show Calls _ _ _ _ _
    go_enter Try.func78, Try.ntmps78
    go_upto_region 2 with fail
    have HB3 : Hid (Bx5 (X.alloc (.cells #[.int .u8 (4 : Nat), .int .u8 (0 : Nat), .int .u8 (0 : Nat), .int .i64 (ia : Nat), .int .i64 (ib : Nat)] 32)) X.heap.size ⟨4, 0, 0, (ia : Nat), (ib : Nat)⟩) := Bx5.new X ⟨4, 0, 0, (ia : Nat), (ib : Nat)⟩
    have HXX : Hid (Below X.heap.size X (X.alloc (.cells #[.int .u8 (4 : Nat), .int .u8 (0 : Nat), .int .u8 (0 : Nat), .int .i64 (ia : Nat), .int .i64 (ib : Nat)] 32))) := bal (Below.refl _ _) _
    have HX0 : Hid (X.heap.size < (X.alloc (.cells #[.int .u8 (4 : Nat), .int .u8 (0 : Nat), .int .u8 (0 : Nat), .int .i64 (ia : Nat), .int .i64 (ib : Nat)] 32)).heap.size) := by show _ < _; simp
    generalize X.alloc (.cells #[.int .u8 (4 : Nat), .int .u8 (0 : Nat), .int .u8 (0 : Nat), .int .i64 (ia : Nat), .int .i64 (ib : Nat)] 32) = X1 at *
    obtain ⟨bp, hbp⟩ : ∃ bp, bp = X.heap.size := ⟨_, rfl⟩
    rw [← hbp] at HB3 ⊢
    have HBP := Lib.hid hbp
    have hbpl : bp < X1.heap.size := by have := HX0.out; omega
    clear hbp f0 f1 f2 f3 f4
    have h1 := HD.out _ HXX.out
    obtain ⟨b0, b1, b2, b3, b4⟩ := HB3.out.cells
    simp only at b0 b1 b2 b3 b4
    have ce := cell_box h1.e
    have cx := cell_box h1.x
    have cm := cell_box h1.m
    have cd := cell_box h1.d
    have ck := cell_box h1.k
    have hbdl := lt_of_block h1.d
    have hbkl := lt_of_block h1.k
    have HD1 := Lib.hid h1
    clear h1
    have HIHa1 : Hid (∀ Z, Below X1.heap.size X1 Z → _) := fun Z hZ => HIHa.out Z (stepB HXX.out hZ)
    have HIHb1 : Hid (∀ Z, Below X1.heap.size X1 Z → _) := fun Z hZ => HIHb.out Z (stepB HXX.out hZ)
    have HBl1 : Hid (∀ Z, Below X1.heap.size X1 Z → _) := fun Z hZ => HBl.out Z (stepB HXX.out hZ)
    have hbml : bm < X1.heap.size := by have := HXX.out.size; omega
    have hkbl : kb < X1.heap.size := by have := HXX.out.size; omega
    have HF : Hid (∀ Z, Below X1.heap.size X1 Z → Z.cell? ⟨bm, 0, none⟩ = some (.slice (some ⟨kb, 0, none⟩) t.size t.size) ∧ Z.cell? ⟨bp, 3, none⟩ = some (.int .i64 (ia : Nat)) ∧ Z.cell? ⟨bp, 4, none⟩ = some (.int .i64 (ib : Nat)) ∧ Z.cell? ⟨bd, 0, none⟩ = some (.func (.func 78) #[] #[pt be, pt bx, pt bd, pt bk, pt bm]) ∧ Z.cell? ⟨kb, ia, none⟩ = some (.slice (some ⟨mbs ia, 0, none⟩) (0 + 1) (0 + 1)) ∧ kb < Z.heap.size) := fun Z hZ =>
      ⟨(hZ.cell (p := ⟨bm, 0, none⟩) hbml).trans cm, (hZ.cell (p := ⟨bp, 3, none⟩) hbpl).trans b3, (hZ.cell (p := ⟨bp, 4, none⟩) hbpl).trans b4, (hZ.cell (p := ⟨bd, 0, none⟩) hbdl).trans cd, (HAt.out Z (stepB HXX.out hZ)).1, by have := hZ.size; omega⟩
    have HA68 : Hid (∀ Z, Below X1.heap.size X1 Z → _) := fun Z hZ => (HAt.out Z (stepB HXX.out hZ)).2
    go_upto_region 13 with fail
    have hlY : ∀ Y : World, Below X1.heap.size X1 Y → (fun X : World => X.cell? ⟨bp, 0, none⟩ = some (.int .u8 (4 : Nat)) ∧ X.cell? ⟨bp, 3, none⟩ = some (.int .i64 (ia : Nat)) ∧ X.cell? ⟨bp, 4, none⟩ = some (.int .i64 (ib : Nat)) ∧ X.cell? ⟨bd, 0, none⟩ = some (derF be bx bd bk bm) ∧ X.cell? ⟨bk, 0, none⟩ = some (blkF be bv)) Y := fun Y hY => ⟨(hY.cell (p := ⟨bp, 0, none⟩) hbpl).trans b0, (hY.cell (p := ⟨bp, 3, none⟩) hbpl).trans b3, (hY.cell (p := ⟨bp, 4, none⟩) hbpl).trans b4, (hY.cell (p := ⟨bd, 0, none⟩) hbdl).trans cd, (hY.cell (p := ⟨bk, 0, none⟩) hbkl).trans ck⟩
    have hS0 : (fun X : World => X.cell? ⟨bp, 0, none⟩ = some (.int .u8 (4 : Nat)) ∧ X.cell? ⟨bp, 3, none⟩ = some (.int .i64 (ia : Nat)) ∧ X.cell? ⟨bp, 4, none⟩ = some (.int .i64 (ib : Nat)) ∧ X.cell? ⟨bd, 0, none⟩ = some (derF be bx bd bk bm) ∧ X.cell? ⟨bk, 0, none⟩ = some (blkF be bv)) X1.drew := hlY _ (drewN_below X1 1)
    simp only [derF, blkF] at hlY hS0
    refine wp_region_any (by kernel_rfl) ?_
    change wpAny _ _ _ _ _ _ _ (World.drew _)
    refine wpAny_head 8 8 (fun X : World => X.cell? ⟨bp, 0, none⟩ = some (.int .u8 (4 : Nat)) ∧ X.cell? ⟨bp, 3, none⟩ = some (.int .i64 (ia : Nat)) ∧ X.cell? ⟨bp, 4, none⟩ = some (.int .i64 (ib : Nat)) ∧ X.cell? ⟨bd, 0, none⟩ = some (Value.func (.func 78) #[] #[pt be, pt bx, pt bd, pt bk, pt bm]) ∧ X.cell? ⟨bk, 0, none⟩ = some (Value.func (.func 77) #[] #[pt be, pt bv])) rfl rfl (by kernel_rfl) (by kernel_rfl) (by kernel_rfl) (fun hA => ?_)
    refine wpHead_take (i := 0) (v := ?_) (by kernel_rfl) hA (at_drop rfl) (by decide) (by kernel_rfl) (by kernel_rfl) (by kernel_rfl) (fun _ _ _ h => h) (Or.inl ⟨by rfl, ?_⟩) hS0 (fun hA => ?_)
    rotate_left
    · (intro w hSw; obtain ⟨s0, s3, s4, s5, s6⟩ := hSw; go_simp <;> with_reducible rfl)
    simp only [Act.put, List.setIfInBounds_toArray, List.set_cons_zero, List.set_cons_succ]
    refine wpHead_take (i := 1) (v := ?_) (by kernel_rfl) hA (at_drop rfl) (by decide) (by kernel_rfl) (by kernel_rfl) (by kernel_rfl) (fun _ _ _ h => h) (Or.inl ⟨by rfl, ?_⟩) hS0 (fun hA => ?_)
    rotate_left
    · (intro w hSw; obtain ⟨s0, s3, s4, s5, s6⟩ := hSw; go_simp <;> with_reducible rfl)
    simp only [Act.put, List.setIfInBounds_toArray, List.set_cons_zero, List.set_cons_succ]
    refine wpHead_take (i := 2) (v := ?_) (by kernel_rfl) hA (at_drop rfl) (by decide) (by kernel_rfl) (by kernel_rfl) (by kernel_rfl) (fun _ _ _ h => h) (Or.inl ⟨by rfl, ?_⟩) hS0 (fun hA => ?_)
    rotate_left
    · (intro w hSw; obtain ⟨s0, s3, s4, s5, s6⟩ := hSw; go_simp <;> with_reducible rfl)
    simp only [Act.put, List.setIfInBounds_toArray, List.set_cons_zero, List.set_cons_succ]
    refine wpHead_take (i := 4) (v := ?_) (by kernel_rfl) hA (at_drop rfl) (by decide) (by kernel_rfl) (by kernel_rfl) (by kernel_rfl) (fun _ _ _ h => h) (Or.inl ⟨by rfl, ?_⟩) hS0 (fun hA => ?_)
    rotate_left
    · (intro w hSw; obtain ⟨s0, s3, s4, s5, s6⟩ := hSw; go_simp <;> with_reducible rfl)
    simp only [Act.put, List.setIfInBounds_toArray, List.set_cons_zero, List.set_cons_succ]
    refine wpHead_take (i := 5) (v := ?_) (by kernel_rfl) hA (at_drop rfl) (by decide) (by kernel_rfl) (by kernel_rfl) (by kernel_rfl) (fun _ _ _ h => h) (Or.inl ⟨by rfl, ?_⟩) hS0 (fun hA => ?_)
    rotate_left
    · (intro w hSw; obtain ⟨s0, s3, s4, s5, s6⟩ := hSw; go_simp <;> with_reducible rfl)
    simp only [Act.put, List.setIfInBounds_toArray, List.set_cons_zero, List.set_cons_succ]
    refine wpHead_take (i := 6) (v := ?_) (by kernel_rfl) hA (at_drop rfl) (by decide) (by kernel_rfl) (by kernel_rfl) (by kernel_rfl) (fun _ _ _ h => h) (Or.inl ⟨by rfl, ?_⟩) hS0 (fun hA => ?_)
    rotate_left
    · (intro w hSw; obtain ⟨s0, s3, s4, s5, s6⟩ := hSw; go_simp <;> with_reducible rfl)
    simp only [Act.put, List.setIfInBounds_toArray, List.set_cons_zero, List.set_cons_succ]
    refine wpHead_ready (rs := [3]) (by kernel_rfl) (by decide) (AllHead.cons (at_drop rfl) (by decide) (fun KK hK => ?_) AllHead.nil)
    go_simp
    refine (HIHa1.out _ (drewN_below X1 1)).mono ?_
    rintro r X2 ⟨va, rfl, hO1, hbe1⟩
    have h12 := stepB (drewN_below X1 1) hbe1
    refine hK _ _ (hlY _ h12) ?_
    clear hK KK
    refine wpHead_ready (rs := [7]) (by kernel_rfl) (by decide) (AllHead.cons (at_drop rfl) (by decide) (fun KK hK => ?_) AllHead.nil)
    go_simp
    refine (HBl1.out _ h12).mono ?_
    rintro r X3 ⟨vb, rfl, hO2, hbe2⟩
    have h13 := stepB h12 hbe2
    refine hK _ _ (hlY _ h13) ?_
    clear hK KK
    refine wpHead_end (by kernel_rfl) ?_
    simp only [List.drop_succ_cons, List.drop_zero]
    obtain ⟨q1, q2, q3, q4⟩ := two_own (X := X1) (Nat.le_refl _) hO1 h12 hO2 hbe2
    have HBn := Lib.hid (HBB.out X1.heap.size X3 va vb q1 q2 q3 h13.size)
    clear hS0 hA hlY hO1 hbe1 hO2 hbe2 q1 q2 q3 q4
    have H13 := Lib.hid h13
    clear h12 h13 b0 b1 b2 b3 b4 ce cx cm cd ck
    go_wp2_with (first
      | (go_at_call 80; ((with_reducible refine HBn.out.mono ?_); rintro r X4 ⟨vd, rfl, hO4, hb4⟩); have HO4 := Lib.hid hO4; have h14 := H13.out.trans hb4; obtain ⟨g1, g2, g3, g4, g5, g6⟩ := HF.out _ h14; have HA4 := Lib.hid (HA68.out _ h14); have H14 := Lib.hid h14; clear hO4 h14 hb4 HBn)
      | (go_at_call 44; ((with_reducible refine HA4.out.mono ?_); rintro r X5 ⟨rfl, hb5⟩); have H15 := Lib.hid (stepB H14.out hb5); obtain ⟨k1, k2, k3, k4, k5, k6⟩ := HF.out _ H15.out; have HO5 : Hid (OwnPc X1.heap.size X5 vd _ _) := ⟨HO4.out.1, Ap.own_bel HO4.out.2 hb5⟩; clear g1 g2 g3 g4 g5 g6 hb5 HO4 HA4)
      | (go_at_call 78; ((with_reducible refine (HIHb1.out _ H15.out).mono ?_); rintro r X6 ⟨ve, rfl, hO6, hb6⟩); obtain ⟨q1, q2, q3, q4⟩ := two_own (X := X1) (Nat.le_refl _) HO5.out H15.out hO6 hb6; have H16 := Lib.hid (stepB H15.out hb6); have HBq := Lib.hid (HBC.out X1.heap.size X6 vd ve q1 q2 q3 H16.out.size); clear hO6 hb6 q1 q2 q3 q4)
      | (go_at_call 80; ((with_reducible refine HBq.out.mono ?_); rintro r X7 ⟨vr, rfl, hO7, hb7⟩); have HO7 := Lib.hid hO7; clear hO7))
    go_ret
    exact ⟨_, rfl, own_back (X := X) HO7.out HXX.out.size, stepB HXX.out (H16.out.trans hb7)⟩
/-- The closure at every block of a plain expression. -/
theorem der_all (hV : t.Valid v) (hy : y < 256) (h0 : DerAt W0 t v y A c be bv bx bm bd bk kb mbs) : ∀ (u : Ex) (s i : Nat), u.Ok → u.Cubes v → plainT u = true → u.size ≤ 64 → Bl (flat t 0) s i u → DerC W0 y be bx bm bd bk u i
  | .leaf op p q, s, i, ho, hc, hp, hs, hb => der_leaf hV hy h0 op p q s i ho hb
  | .one op a, s, i, ho, hc, hp, hs, hb => by
    obtain ⟨h1, h2⟩ := plain_one hp ho.1
    have hsa : a.size + 1 ≤ 64 := hs
    have hda := der_size y a
    have hda2 : a.size * (a.size + 2) ≤ 64 * 66 := Nat.mul_le_mul (by omega) (by omega)
    have ih := der_all hV hy h0 a s (i - 1) ho.2 hc h2 (by omega) (bl_one' hb).2.2
    rcases h1 with rfl | rfl
    · exact der_not hV h0 a s i hb (by omega) ih
    · exact der_star hV h0 a s i ho hp (p8_cubes _ ho hc) hb (by show _ + (a.size + 1) ≤ _; omega) ih
  | .two op a b, s, i, ho, hc, hp, hs, hb => by
    obtain ⟨ha, hbp⟩ := plain_two hp
    have hsz : a.size + b.size + 1 ≤ 64 := hs
    have hda := der_size y a
    have hda2 : a.size * (a.size + 2) ≤ 64 * 66 := Nat.mul_le_mul (by omega) (by omega)
    have hdb := der_size y b
    have hdb2 : b.size * (b.size + 2) ≤ 64 * 66 := Nat.mul_le_mul (by omega) (by omega)
    obtain ⟨g1, g2, g3⟩ := der_ok v y b ho.2.2 hc.2 hbp
    have iha := der_all hV hy h0 a s (s + a.size - 1) ho.2.1 hc.1 ha (by omega) (bl_two' hb).2.2.1
    have ihb := der_all hV hy h0 b (s + a.size) (i - 1) ho.2.2 hc.2 hbp (by omega) (bl_two' hb).2.2.2
    rcases two_ops ho.1 with rfl | rfl | rfl
    · cases hnl : mt [] a 0 0 with
      | false => exact der_cat_false hV h0 a b s i hnl ho.2.1 ho.2.2 hbp (p8_cubes _ ho.2.2 hc.2) g1 g3 (p8_cubes _ g1 g2) hb (by omega) iha ihb
      | true => exact der_cat_true hV h0 a b s i hnl ho.2.1 ho.2.2 hbp (p8_cubes _ ho.2.2 hc.2) g1 g3 (p8_cubes _ g1 g2) hb (by omega) iha ihb
    · exact der_bin5 hV h0 a b s i g1 g3 (p8_cubes _ g1 g2) hb (by omega) iha ihb
    · exact der_bin6 hV h0 a b s i g1 g3 (p8_cubes _ g1 g2) hb (by omega) iha ihb
end
end Go.Proofs.Yteckkbjpeckjmaa.Rx
/- Derive (package match). -/
namespace Go.Proofs.Yteckkbjpeckjmaa.Rx
open Go Go.RowKit Go.Proofs.Yteckkbjpeckjmaa
set_option linter.unusedVariables false
set_option linter.unusedSimpArgs false
set_option maxRecDepth 100000
set_option maxHeartbeats 8000000 in
theorem derivative_any (A : Option Addr) (t : Ex) (c : Nat) (v : Int) (y : Nat) (w : World) (hx : PcsAt w A (flat t 0)) (hV : t.Valid v) (hp : plainT t = true) (hy : y < 256) :
    Calls Try.prog 51 #[.slice A t.size c, .int .i64 v, .int .u8 y] w fun r w' => ∃ v', r = .returned v' ∧ OwnPc w.heap.size w' v' (der y t).size (flat (der y t) 0) ∧ Below w.heap.size w w' := by
  have hs := hV.size
  have hpos := t.pos
  have hlen : (flat t 0).length = t.size := flat_len t 0
  have HTb : Hid (∀ X, Below w.heap.size w X → Calls Try.prog 71 #[.slice A t.size c, .slice none 0 0] X fun r w' => ∃ (kb : Nat) (mbs : Nat → Nat), r = .returned (.slice (some ⟨kb, 0, none⟩) t.size t.size) ∧ Known X w' kb 0 t.size t.size (fun k => mt [] (sub t k)) mbs) := fun X hX => by
    have := tables_any A none (flat t 0) c 0 [] 0 (fun k => mt [] (sub t k)) X (hx.below hX) (by omega) (bys_nil X) rfl (by omega) (fun x h => by cases h) (fun k hk => by rw [hlen] at hk ⊢; exact (piece_of hV hk).1) (fun k hk => by rw [hlen] at hk; exact (piece_of hV hk).2 [])
    rwa [hlen] at this
  have HX := Lib.hid hx
  have HB : Hid (Bl (flat t 0) 0 (t.size - 1) t) := ⟨by omega, by rw [List.drop_zero, ← flat_len t 0, List.take_length]⟩
  have HV := Lib.hid hV
  have hlast : ((t.size : Int) - 1) = ((t.size - 1 : Nat) : Int) := by omega
  have HLast := Lib.hid hlast
  clear hx hlast hlen hV
  obtain ⟨b0, hb0⟩ : ∃ b0, b0 = w.heap.size := ⟨_, rfl⟩
  have HB0 := Lib.hid hb0
  go_enter Try.func51, Try.ntmps51
  go_upto_region 2 with (go_at_call 71; ((with_reducible refine (HTb.out _ (bal (bal (bal (Below.refl _ _) _) _) _)).mono ?_); rintro r w4 ⟨kb, mbs, rfl, hK⟩))
  go_upto_region 5 with fail
  have j0 := box_old (o' := .cells #[.int .u8 (y : Nat)] 5) (box_old (o' := .cells #[.int .i64 v] 3) (box_new w (.slice A t.size c) 27))
  have j1 := box_old (o' := .cells #[.int .u8 (y : Nat)] 5) (box_new (w.alloc (.cells #[.slice A t.size c] 27)) (.int .i64 v) 3)
  have j2 := box_new ((w.alloc (.cells #[.slice A t.size c] 27)).alloc (.cells #[.int .i64 v] 3)) (.int .u8 (y : Nat)) 5
  rw [World.size_alloc] at j1
  rw [World.size_alloc, World.size_alloc] at j2
  have hw3 : Below w.heap.size w (((w.alloc (.cells #[.slice A t.size c] 27)).alloc (.cells #[.int .i64 v] 3)).alloc (.cells #[.int .u8 y] 5)) := bal (bal (bal (Below.refl _ _) _) _) _
  obtain ⟨w3, h3⟩ : ∃ w3, ((w.alloc (.cells #[.slice A t.size c] 27)).alloc (.cells #[.int .i64 v] 3)).alloc (.cells #[.int .u8 y] 5) = w3 := ⟨_, rfl⟩
  rw [h3] at hK j0 j1 j2 hw3
  clear h3
  have key : ∀ {k : Nat} {o : Obj}, w3.heap[k]? = some o → w4.heap[k]? = some o := fun ho => (hK.b.block _ (Array.getElem?_eq_some_iff.1 ho).1).trans ho
  have m0 := key j0
  have m1 := key j1
  have m2 := key j2
  have hw4 := stepB hw3 hK.b
  have HO := hK.o
  rw [cells_congr fun j hj => if_pos hj] at HO
  have HM := hK.m
  have HPA := HX.out.below hw4
  clear key hw3 hK j0 j1 j2 HTb
  obtain ⟨be, hbe⟩ : ∃ be, be = w.heap.size := ⟨_, rfl⟩
  rw [← hbe] at m0 m1 m2 ⊢
  have n0 := box_new w4 (.slice (some ⟨kb, 0, none⟩) t.size t.size) 110
  have n1 := box_new (w4.alloc (.cells #[.slice (some ⟨kb, 0, none⟩) t.size t.size] 110)) (blkF be (be + 1)) 116
  have n2 := box_new ((w4.alloc (.cells #[.slice (some ⟨kb, 0, none⟩) t.size t.size] 110)).alloc (.cells #[blkF be (be + 1)] 116)) (derF be (be + 1 + 1) (w4.heap.size + 1 + 1) (w4.heap.size + 1) w4.heap.size) 116
  rw [World.size_alloc] at n1
  rw [World.size_alloc, World.size_alloc] at n2
  have hD : DerAt (((w4.alloc (.cells #[.slice (some ⟨kb, 0, none⟩) t.size t.size] 110)).alloc (.cells #[blkF be (be + 1)] 116)).alloc (.cells #[derF be (be + 1 + 1) (w4.heap.size + 1 + 1) (w4.heap.size + 1) w4.heap.size] 116)) t v y A c be (be + 1) (be + 1 + 1) w4.heap.size (w4.heap.size + 1 + 1) (w4.heap.size + 1) kb mbs :=
    ⟨box_old (box_old (box_old m0)), box_old (box_old (box_old m1)), box_old (box_old (box_old m2)), box_old (box_old n0), n2, box_old n1,
      HPA.below (bal (bal (bal (Below.refl _ _) _) _) _), box_old (box_old (box_old HO)), fun j hj => (HM j hj).2.below (bal (bal (bal (Below.refl _ _) _) _) _)⟩
  have hw7 : Below w.heap.size w (((w4.alloc (.cells #[.slice (some ⟨kb, 0, none⟩) t.size t.size] 110)).alloc (.cells #[blkF be (be + 1)] 116)).alloc (.cells #[derF be (be + 1 + 1) (w4.heap.size + 1 + 1) (w4.heap.size + 1) w4.heap.size] 116)) := bal (bal (bal hw4 _) _) _
  obtain ⟨bm, hbm⟩ : ∃ bm, bm = w4.heap.size := ⟨_, rfl⟩
  simp only [derF, blkF] at hD hw7
  rw [← hbm] at hD hw7 ⊢
  clear hbm n0 n1 n2 m0 m1 m2 HO HM HPA hw4
  change Code.wp _ _ _ _ (((w4.alloc (.cells #[.slice (some ⟨kb, 0, none⟩) t.size t.size] 110)).alloc (.cells #[Value.func (.func 77) #[] #[pt be, pt (be + 1)]] 116)).alloc (.cells #[Value.func (.func 78) #[] #[pt be, pt (be + 1 + 1), pt (bm + 1 + 1), pt (bm + 1), pt bm]] 116))
  obtain ⟨W7, h7⟩ : ∃ W7, ((w4.alloc (.cells #[.slice (some ⟨kb, 0, none⟩) t.size t.size] 110)).alloc (.cells #[Value.func (.func 77) #[] #[pt be, pt (be + 1)]] 116)).alloc (.cells #[Value.func (.func 78) #[] #[pt be, pt (be + 1 + 1), pt (bm + 1 + 1), pt (bm + 1), pt bm]] 116) = W7 := ⟨_, rfl⟩
  rw [h7] at hD hw7 ⊢
  have HC := der_all HV.out hy hD t 0 (t.size - 1) HV.out.ok HV.out.cubes hp HV.out.size HB.out W7 (Below.refl _ _)
  rw [← HLast.out] at HC
  have HC := Lib.hid HC
  have c0 := cell_box hD.e
  have c1 := cell_box hD.d
  unfold derF at c1
  have HW7 := Lib.hid hw7
  clear h7 hD hw7 HX HB HV HLast hbe
  go_wp2_with (go_at_call 78; ((with_reducible refine HC.out.mono ?_); rintro r W8 ⟨vr, rfl, hO, hb8⟩); have HO8 := Lib.hid hO; clear hO)
  go_ret
  exact ⟨_, rfl, own_back (X := w) HO8.out HW7.out.size, stepB HW7.out hb8⟩
section
variable (A : Option Addr) (c : Nat) (v : Int) (y : Nat) (w : World)
set_option maxHeartbeats 2000000 in
theorem Derive_bad (e : List Pc) (hx : PcsAt w A e) (hl : e.length ≤ 1000000) (hE : chkL v e ≠ 0) :
    Calls Try.prog 28 #[.slice A e.length c, .int .i64 v, .int .u8 y] w fun r w' => r = .returned (.tuple #[.slice none 0 0, .int .i64 (chkL v e)]) ∧ Below w.heap.size w w' := by
  have HC := Lib.hid (Plain_bad A e c v w hx hl hE)
  have h1 := int_ne hE
  generalize chkL v e = R at *
  generalize e.length = L at *
  clear hx hE
  have HK : Hid (Calls Try.prog 49 #[.slice A L c, .int .i64 v] w fun r w' => r = .returned (.int .i64 R) ∧ Below w.heap.size w w') := by
    show Calls _ _ _ _ _
    go_enter Try.func49, Try.ntmps49
    go_wp2_with (go_at_call 76; ((with_reducible refine HC.out.mono ?_); rintro r w1 ⟨rfl, hb1⟩))
    go_ret
    exact ⟨rfl, hb1⟩
  clear HC
  go_enter Try.func28, Try.ntmps28
  go_wp2_with (go_at_call 49; ((with_reducible refine HK.out.mono ?_); rintro r w1 ⟨rfl, hb1⟩))
  go_ret2
  exact ⟨rfl, hb1⟩
/-- What is wrong with a valid expression and a letter. -/
def derE (v : Int) (t : Ex) (y : Nat) : Int := if plainT t then (if y < 2 ^ v.toNat then (if 64 < (der y t).size then 4 else 0) else 1) else 6
variable (t : Ex)
set_option maxHeartbeats 4000000 in
theorem Derive_no (hx : PcsAt w A (flat t 0)) (hV : t.Valid v) (hy : y < 256) (hE : derE v t y ≠ 0) :
    Calls Try.prog 28 #[.slice A t.size c, .int .i64 v, .int .u8 y] w fun r w' => r = .returned (.tuple #[.slice none 0 0, .int .i64 (derE v t y)]) ∧ Below w.heap.size w w' := by
  have HC := Lib.hid (checkPlain_good A c v w t t.size hx hV rfl)
  have hv0 := hV.v0
  have hv6 := hV.v6
  obtain ⟨V, rfl⟩ : ∃ V : Nat, v = V := ⟨v.toNat, by omega⟩
  have HL := Lib.hid fun X => mIsLetter_any y V X hy (by omega)
  unfold derE at hE ⊢
  rw [Int.toNat_natCast] at hE ⊢
  by_cases hp : plainT t = true
  · rw [if_pos hp] at hE ⊢
    rw [if_pos hp] at HC
    by_cases hl : y < 2 ^ V
    · rw [if_pos hl] at hE ⊢
      rw [decide_eq_true hl] at HL
      by_cases h64 : 64 < (der y t).size
      · rw [if_pos h64] at hE ⊢
        have HD := Lib.hid fun X (hX : Below w.heap.size w X) => derivative_any A t c V y X (hx.below hX) hV hp hy
        have h64i : (64 : Int) < ((der y t).size : Int) := by omega
        have d64 : decide ((64 : Int) < ((der y t).size : Int)) = true := decide_eq_true h64i
        generalize flat (der y t) 0 = F at *
        generalize (der y t).size = N at *
        generalize t.size = L at *
        clear hx hV hv0 hv6 hp hl h64 hE
        go_enter Try.func28, Try.ntmps28
        go_wp2_with (first
          | (go_at_call 49; ((with_reducible refine HC.out.mono ?_); rintro r w1 ⟨rfl, hb1⟩))
          | (go_at_call 50; ((with_reducible refine (HL.out _).mono ?_); rintro r w2 ⟨rfl, rfl⟩))
          | (go_at_call 51; ((with_reducible refine (HD.out _ hb1).mono ?_); rintro r w3 ⟨vd, rfl, hO, hb3⟩); obtain ⟨A', c', rfl, _⟩ := Ap.own_form hO.2; clear hO))
        go_ret2
        exact ⟨rfl, stepB hb1 hb3⟩
      · rw [if_neg h64] at hE
        exact absurd rfl hE
    · rw [if_neg hl] at hE ⊢
      rw [decide_eq_false hl] at HL
      generalize t.size = L at *
      clear hx hV hv0 hv6 hp hl hE
      go_enter Try.func28, Try.ntmps28
      go_wp2_with (first
        | (go_at_call 49; ((with_reducible refine HC.out.mono ?_); rintro r w1 ⟨rfl, hb1⟩))
        | (go_at_call 50; ((with_reducible refine (HL.out _).mono ?_); rintro r w2 ⟨rfl, rfl⟩)))
      go_ret2
      exact ⟨rfl, hb1⟩
  · rw [if_neg hp] at hE ⊢
    rw [if_neg hp] at HC
    generalize t.size = L at *
    clear hx hV hv0 hv6 hp hE
    go_enter Try.func28, Try.ntmps28
    go_wp2_with (go_at_call 49; ((with_reducible refine HC.out.mono ?_); rintro r w1 ⟨rfl, hb1⟩))
    go_ret2
    exact ⟨rfl, hb1⟩
set_option maxHeartbeats 4000000 in
theorem Derive_good (hx : PcsAt w A (flat t 0)) (hV : t.Valid v) (hy : y < 256) (hE : derE v t y = 0) :
    Calls Try.prog 28 #[.slice A t.size c, .int .i64 v, .int .u8 y] w fun r w' => ∃ A' c', r = .returned (.tuple #[.slice A' (der y t).size c', .int .i64 0]) ∧ w'.ownsRow w.heap.size 32 5 (.slice A' (der y t).size c') (der y t).size (pvs (flat (der y t) 0)) ∧ Below w.heap.size w w' := by
  have HC := Lib.hid (checkPlain_good A c v w t t.size hx hV rfl)
  have hv0 := hV.v0
  have hv6 := hV.v6
  obtain ⟨V, rfl⟩ : ∃ V : Nat, v = V := ⟨v.toNat, by omega⟩
  have HL := Lib.hid fun X => mIsLetter_any y V X hy (by omega)
  unfold derE at hE
  rw [Int.toNat_natCast] at hE
  by_cases hp : plainT t = true
  · rw [if_pos hp] at hE HC
    by_cases hl : y < 2 ^ V
    · rw [if_pos hl] at hE
      rw [decide_eq_true hl] at HL
      by_cases h64 : 64 < (der y t).size
      · rw [if_pos h64] at hE; cases hE
      · have HD := Lib.hid fun X (hX : Below w.heap.size w X) => derivative_any A t c V y X (hx.below hX) hV hp hy
        have h64i : ¬ (64 : Int) < ((der y t).size : Int) := by omega
        have d64 : decide ((64 : Int) < ((der y t).size : Int)) = false := decide_eq_false h64i
        generalize flat (der y t) 0 = F at *
        generalize (der y t).size = N at *
        generalize t.size = L at *
        clear hx hV hv0 hv6 hp hl h64 hE
        go_enter Try.func28, Try.ntmps28
        go_wp2_with (first
          | (go_at_call 49; ((with_reducible refine HC.out.mono ?_); rintro r w1 ⟨rfl, hb1⟩))
          | (go_at_call 50; ((with_reducible refine (HL.out _).mono ?_); rintro r w2 ⟨rfl, rfl⟩))
          | (go_at_call 51; ((with_reducible refine (HD.out _ hb1).mono ?_); rintro r w3 ⟨vd, rfl, hO, hb3⟩); obtain ⟨A', c', rfl, _⟩ := Ap.own_form hO.2; have HO := Lib.hid hO; clear hO))
        go_ret2
        exact ⟨_, _, rfl, ownsRow_mono HO.out.2 hb1.size, stepB hb1 hb3⟩
    · rw [if_neg hl] at hE; cases hE
  · rw [if_neg hp] at hE; cases hE
end
end Go.Proofs.Yteckkbjpeckjmaa.Rx
