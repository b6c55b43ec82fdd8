/- A region that draws its order, in a class of worlds: one walk in the order of the text serves every order. Plain lemmas over any program. -/
import Derived.BigQuiet
import Derived.Below
import Derived.RegionTactic
import Derived.StillTail
import Derived.OrdersHeld
import Derived.Shelf.RegionOpen
import Derived.RangeFuncCalls
namespace Go.Proofs.YtkgeihambgbjdaaDoor
open Go Go.RowKit
/-- A world of the class S. -/
structure Cls (S : World → Prop) where
  w : World
  h : S w
theorem wp_region_cls {P : Program} {id : Nat} {Q : Exit → Act → World → Prop} {a : Act} {w : World} {l : List Oper} (S : World → Prop) (hm : P.follows .mixedOrders = true) (hB : Region.lexB .any l.toArray = true) (h0 : S w.drew)
    (h : wpQuiet P l.toArray (fun w' => ∃ r : Cls S, w' = r.w) (fun a' => ∀ w', (∃ r : Cls S, w' = r.w) → Q .normal a' w') l a) : (Code.region id l.toArray true).wp P Q a w :=
  wp_region_quiet (C := fun w' => ∃ r : Cls S, w' = r.w) hm hB ⟨⟨_, h0⟩, rfl⟩ (by simpa using h)
end Go.Proofs.YtkgeihambgbjdaaDoor
/- A region that draws its order: reads, and calls that keep a class of worlds, ahead of a tail in one forced order that may write. One walk in the order of the text serves every order. Plain lemmas over any program. -/
namespace Go.Proofs.YtkgeihambgbjdaaDoor
open Go Go.RowKit
section
variable {P : Program} {ops : Array Oper} {md : Region.Mode} {C : World → Prop}
/-- Whatever order is picked among the first n operations. -/
def wpAnyLQ (P : Program) (md : Region.Mode) (ops : Array Oper) (C : World → Prop) (n : Nat) (L : Array Bool → Act → Prop) : Nat → Array Bool → Act → Prop
  | 0, listed, a => L listed a
  | f + 1, listed, a => Region.ready md ops listed ≠ [] ∧ ∀ i ∈ Region.ready md ops listed, i < n ∧ qOp P ops C i (wpAnyLQ P md ops C n L f (listed.setIfInBounds i true)) a
theorem wpAny_of_headQ {n g : Nat} {L : Array Bool → Act → Prop} {Q' : Exit → Act → World → Prop} (hL : ∀ listed a w, C w → L listed a → wpAny P md ops Q' g listed a w) :
    ∀ (f : Nat) (listed : Array Bool) (a : Act) (w : World), C w → wpAnyLQ P md ops C n L f listed a → wpAny P md ops Q' (f + g) listed a w
  | 0, listed, a, w, hw, h => by rw [Nat.zero_add]; exact hL _ _ _ hw h
  | f + 1, listed, a, w, hw, h => by
    rw [show f + 1 + g = (f + g) + 1 by omega]
    exact ⟨fun h0 => absurd h0 h.1, fun i hi => wpOp_of_qOp hw (fun a' w' hw' h' => wpAny_of_headQ hL f _ a' w' hw' h') (h.2 i hi).2⟩
theorem wpAnyLQ_first {n i : Nat} {oi : Oper} {v : Value} {L : Array Bool → Act → Prop} (hi : ops[i]? = some oi) (hsel : ∀ (j : Nat) (o : Oper) cs b, ops[j]? = some o → o.op ≠ .select cs b)
    (hs : Region.sinkB md ops n = true) (hc : Region.chainB md ops n = true) (hn : n < ops.size) (hin : i < n)
    (hdone : ∀ listed a, L listed a → ∀ j ∈ Region.ready md ops listed, n ≤ j) :
    ∀ (f : Nat) (listed : Array Bool) (a : Act), HeadInv md ops n listed →
      (∀ j oj, ops[j]? = some oj → j ≠ i → listed.getD j true = false → (∀ e ∈ oj.after, Region.binds md e = true → e.on ≠ i) → oi.apart ops oj = true) →
      i ∈ Region.ready md ops listed → YieldsIn P ops C oi v a →
      wpAnyLQ P md ops C n L f (listed.setIfInBounds i true) (a.put oi.dst v) → wpAnyLQ P md ops C n L (f + 1) listed a := by
  intro f
  induction f with
  | zero =>
    intro listed a inv _ hr hy H
    have hun := (mem_ready.1 hr).1
    refine ⟨fun h => (by rw [h] at hr; cases hr), fun j hj => ?_⟩
    have hjn : j < n := by
      rcases Nat.lt_or_ge j n with h | h
      · exact h
      · exact absurd hj (tail_waits hs hc hn inv _ i rfl hin hun j h)
    refine ⟨hjn, ?_⟩
    by_cases hji : j = i
    · subst hji; exact hy.qOp hi H
    · have := hdone _ _ H j (ready_mono hj hji)
      omega
  | succ f ih =>
    intro listed a inv hfree hr hy H
    have hun := (mem_ready.1 hr).1
    refine ⟨fun h => (by rw [h] at hr; cases hr), fun j hj => ?_⟩
    have hjn : j < n := by
      rcases Nat.lt_or_ge j n with h | h
      · exact h
      · exact absurd hj (tail_waits hs hc hn inv _ i rfl hin hun j h)
    refine ⟨hjn, ?_⟩
    by_cases hji : j = i
    · subst hji; exact hy.qOp hi H
    · have h1 := (H.2 j (ready_mono hj hji)).2
      obtain ⟨hjun, oj, hoj, hall⟩ := mem_ready.1 hj
      have hnot : ∀ e ∈ oj.after, Region.binds md e = true → e.on ≠ i := fun e he hb heq => by
        have h1 := hall e he hb
        rw [heq, getD_both hun] at h1
        cases h1
      have h2 := qOp_put hoj (hfree j oj hoj hji hjun hnot) (fun cs b => hsel i oi cs b hi) (fun cs b => hsel j oj cs b hoj) hy h1
      have hfree' : ∀ k ok, ops[k]? = some ok → k ≠ i → (listed.setIfInBounds j true).getD k true = false →
          (∀ e ∈ ok.after, Region.binds md e = true → e.on ≠ i) → oi.apart ops ok = true := fun k ok hk hki hun hno => by
        refine hfree k ok hk hki ?_ hno
        by_cases hjk : j = k
        · subst hjk; exact hjun
        · rw [getD_set_ne true hjk] at hun; exact hun
      refine qOp_mono (fun a' h3 => ih (listed.setIfInBounds j true) a' (inv.set hj hjn) hfree' (ready_mono hr (Ne.symm hji)) h3.1 ?_) h2
      rw [Array.setIfInBounds_comm _ _ hji]
      exact h3.2
theorem wpAnyLQ_lex {n g : Nat} {Lq : Act → Prop} (hsel : Region.noSelect ops = true) (hs : Region.sinkB md ops n = true) (hc : Region.chainB md ops n = true) (hn : n < ops.size) :
    ∀ (l : List Oper) (k : Nat) (listed : Array Bool) (a : Act), (∀ j, j < l.length → l[j]? = ops[k + j]?) → k + l.length = n → HeadInv md ops n listed →
    Region.lexHead md ops g l.length k listed = true → wpQuiet P ops C Lq l a →
    wpAnyLQ P md ops C n (fun listed' a' => Region.seqB md ops g n listed' = true ∧ Lq a') l.length listed a
  | [], k, listed, a, _, hk, _, hB, h => by
    have : k = n := by simpa using hk
    subst this
    exact ⟨by simpa [Region.lexHead] using hB, h⟩
  | o :: l, k, listed, a, hl, hk, inv, hB, h => by
    have h0 : ops[k]? = some o := by simpa using (hl 0 (by simp)).symm
    simp only [List.length_cons, Region.lexHead, Bool.and_eq_true] at hB
    obtain ⟨⟨hr, hf⟩, hB'⟩ := hB
    have hkn : k < n := by simp only [List.length_cons] at hk; omega
    have hr' : k ∈ Region.ready md ops listed := by simpa using hr
    have hst : qOp P ops C k (wpQuiet P ops C Lq l) a := by unfold qOp; simp only [h0]; exact h
    obtain ⟨v, hy, hK⟩ := yieldsIn_of_qOp h0 hst
    exact wpAnyLQ_first h0 (Region.noSelect_spec hsel) hs hc hn hkn (fun listed' a' hL => seqB_ready hL.1) l.length listed a inv (Region.free_spec h0 hf) hr' hy
      (wpAnyLQ_lex hsel hs hc hn l (k + 1) _ _ (fun j hj => by have := hl (j + 1) (by simp; omega); simpa [Nat.add_assoc, Nat.add_comm 1 j] using this) (by simp only [List.length_cons] at hk; omega) (inv.set hr' hkn) hB' hK)
theorem wp_region_quiet_tail {id : Nat} {Q : Exit → Act → World → Prop} {a : Act} {w : World} {l : List Oper} (n : Nat) (hm : P.follows .mixedOrders = true) (hB : Region.lexTailB .any l.toArray n = true) (hC : C { w with drawn := w.drawn + 1 })
    (h : wpQuiet P l.toArray C (fun a' => ∀ w', C w' → wpList P l.toArray Q (l.drop n) a' w') (l.take n) a) : (Code.region id l.toArray true).wp P Q a w := by
  simp only [Region.lexTailB, Bool.and_eq_true, decide_eq_true_eq] at hB
  obtain ⟨⟨⟨⟨hsel, hn⟩, hs⟩, hc⟩, hlex⟩ := hB
  have hn' : n < l.length := by simpa using hn
  have htl : (l.take n).length = n := by simp; omega
  have hdl : (l.drop n).length = l.toArray.size - n := by simp
  have inv0 : HeadInv .any l.toArray n (Array.replicate l.toArray.size false) :=
    ⟨by simp, fun j oj _ hl => (by rw [getD_replicate_false] at hl; cases hl), fun t _ ht => getD_in (by simpa using ht) (getD_replicate_false _ _)⟩
  have H := wpAnyLQ_lex (C := C) (md := .any) (g := l.toArray.size - n) hsel hs hc hn (l.take n) 0 _ a (fun j hj => by
    have hj' : j < n := by rw [htl] at hj; exact hj
    simp [hj']) (by simpa using htl) inv0 (by rw [htl]; exact hlex) h
  refine wp_region_any hm ?_
  have := wpAny_of_headQ (Q' := Q) (g := l.toArray.size - n) (fun listed a' w' hw' hL => by
    have := wpAny_of_seq (md := .any) (Q' := Q) (l.drop n) n listed a' w' (fun j => by simp [List.getElem?_drop]) (by rw [hdl]; exact hL.1) (hL.2 w' hw')
    rwa [hdl] at this) _ _ _ _ hC H
  rw [htl, show n + (l.toArray.size - n) = l.toArray.size by omega] at this
  exact this
theorem wp_region_cls_tail {id : Nat} {Q : Exit → Act → World → Prop} {a : Act} {w : World} {l : List Oper} (n : Nat) (S : World → Prop) (hm : P.follows .mixedOrders = true) (hB : Region.lexTailB .any l.toArray n = true) (h0 : S w.drew)
    (h : wpQuiet P l.toArray (fun w' => ∃ r : Cls S, w' = r.w) (fun a' => ∀ w', (∃ r : Cls S, w' = r.w) → wpList P l.toArray Q (l.drop n) a' w') (l.take n) a) : (Code.region id l.toArray true).wp P Q a w :=
  wp_region_quiet_tail (C := fun w' => ∃ r : Cls S, w' = r.w) n hm hB ⟨⟨_, h0⟩, rfl⟩ h
end
end Go.Proofs.YtkgeihambgbjdaaDoor
/- A region that draws its order: a head whose operations may write, in whatever order, with a condition S on the world that holds behind each (what reads only cells that S names is taken first), ahead of a tail in one forced order of which S is not asked. What yields in whatever world (a move, an address) is taken ahead of all that by the library's wpAny_take. Plain lemmas over any program. -/
namespace Go.Proofs.YtkgeihambgbjdaaDoor
open Go
section
variable {P : Program} {ops : Array Oper} {md : Region.Mode} {Q : Exit → Act → World → Prop} {S : World → Prop} {n : Nat} {L : Act → World → Prop} {L0 : Array Bool}
theorem at_drop {l : List Oper} {i : Nat} {o : Oper} {post : List Oper} (h : l.drop i = o :: post) : l.toArray[i]? = some o := by
  have : (l.drop i)[0]? = some o := by rw [h]; rfl
  simpa [List.getElem?_drop] using this
/-- Whatever order is picked, f operations long, all among the first n; S holds behind each. -/
def wpHead (P : Program) (md : Region.Mode) (ops : Array Oper) (Q : Exit → Act → World → Prop) (S : World → Prop) (n : Nat) (L : Act → World → Prop) : Nat → Array Bool → Act → World → Prop
  | 0, listed, a, w => ((List.range n).all fun i => listed.getD i false) = true ∧ L a w
  | f + 1, listed, a, w => Region.ready md ops listed ≠ [] ∧ ∀ i ∈ Region.ready md ops listed, i < n ∧ wpOp P ops Q i (fun a' w' => S w' ∧ wpHead P md ops Q S n L f (listed.setIfInBounds i true) a' w') a w
/-- Each of the first n that is not in L0 is waited for by a later one among the first n + 1; behind that each waits for the one before it. -/
def tailB (md : Region.Mode) (ops : Array Oper) (n : Nat) (L0 : Array Bool) : Bool :=
  ((List.range n).all fun i => L0.getD i true || (List.range (n + 1)).any fun j => decide (i < j) && Region.waitsFor md ops j i) && (Region.chainB md ops n && decide (n < ops.size))
/-- L0 is closed under what its members wait for, and holds nothing of the tail. -/
def closedB (md : Region.Mode) (ops : Array Oper) (n : Nat) (L0 : Array Bool) : Bool :=
  decide (L0.size = ops.size) && (((List.range ops.size).all fun j => !L0.getD j false || match ops[j]? with
    | some o => o.after.all fun e => !Region.binds md e || L0.getD e.on false
    | none => true) && (List.range ops.size).all fun t => decide (t < n) || !L0.getD t true)
/-- What has come up so far: L0, and a closed part of the head. -/
structure HeadAt (md : Region.Mode) (ops : Array Oper) (n : Nat) (L0 listed : Array Bool) : Prop where
  inv : HeadInv md ops n listed
  le : ∀ j, listed.getD j true = false → L0.getD j true = false
theorem HeadAt.start (h : closedB md ops n L0 = true) : HeadAt md ops n L0 L0 := by
  simp only [closedB, Bool.and_eq_true, List.all_eq_true, List.mem_range, Bool.or_eq_true, Bool.not_eq_true', decide_eq_true_eq] at h
  obtain ⟨h1, h2, h3⟩ := h
  refine ⟨⟨h1, fun j oj hj hl e he hb => ?_, fun t ht hs => ?_⟩, fun _ h => h⟩
  · have hjs : j < ops.size := (Array.getElem?_eq_some_iff.1 hj).1
    rcases h2 j hjs with h | h
    · rw [h] at hl; cases hl
    · rw [hj] at h
      simp only [Array.all_eq_true_iff_forall_mem, Bool.or_eq_true, Bool.not_eq_true'] at h
      rcases h e he with h | h
      · rw [hb] at h; cases h
      · exact h
  · rcases h3 t hs with h | h
    · omega
    · exact h
theorem HeadAt.set {listed : Array Bool} {i : Nat} (h : HeadAt md ops n L0 listed) (hi : i ∈ Region.ready md ops listed) (hin : i < n) : HeadAt md ops n L0 (listed.setIfInBounds i true) := by
  refine ⟨h.inv.set hi hin, fun j hj => h.le j ?_⟩
  by_cases hij : i = j
  · subst hij; exact (mem_ready.1 hi).1
  · rwa [getD_set_ne true hij] at hj
theorem waitsFor_some {i j : Nat} (h : Region.waitsFor md ops j i = true) : ∃ o, ops[j]? = some o ∧ ∃ e ∈ o.after, Region.binds md e = true ∧ e.on = i := by
  unfold Region.waitsFor at h
  cases hj : ops[j]? with
  | none => rw [hj] at h; cases h
  | some o =>
    rw [hj] at h
    obtain ⟨k, hk, h⟩ := Array.any_eq_true.1 h
    simp only [Bool.and_eq_true, beq_iff_eq] at h
    exact ⟨o, rfl, o.after[k], Array.getElem_mem hk, h.1, h.2⟩
theorem not_ready {i j : Nat} {listed : Array Bool} (h : Region.waitsFor md ops j i = true) (hi : listed.getD i false = false) : j ∉ Region.ready md ops listed := fun hr => by
  obtain ⟨o, ho, e, he, hb, hon⟩ := waitsFor_some h
  obtain ⟨_, o', ho', hall⟩ := mem_ready.1 hr
  rw [ho] at ho'
  cases ho'
  have := hall e he hb
  rw [hon, hi] at this
  cases this
theorem tail_not {listed : Array Bool} (hB : tailB md ops n L0 = true) (h : HeadAt md ops n L0 listed) : ∀ (d i : Nat), n - i = d → i < n → listed.getD i true = false → ∀ t ∈ Region.ready md ops listed, t < n := by
  have hB' := hB
  simp only [tailB, Region.chainB, Bool.and_eq_true, List.all_eq_true, List.mem_range, Bool.or_eq_true, List.any_eq_true, decide_eq_true_eq] at hB'
  obtain ⟨hs, hc, hn⟩ := hB'
  intro d
  induction d using Nat.strongRecOn with
  | _ d ih =>
    intro i hd hi hun t ht
    rcases Nat.lt_or_ge t n with h1 | h1
    · exact h1
    exfalso
    have hts : t < ops.size := by
      obtain ⟨_, o, ho, _⟩ := mem_ready.1 ht
      exact (Array.getElem?_eq_some_iff.1 ho).1
    rcases hs i hi with h2 | ⟨j, hj, hij, hw⟩
    · rw [h.le i hun] at h2; cases h2
    · by_cases hjn : j = n
      · subst hjn
        by_cases htj : t = j
        · subst htj; exact not_ready hw (getD_both hun) ht
        · rcases hc t hts with h3 | h3
          · omega
          · exact not_ready h3 (getD_both (h.inv.tail (t - 1) (by omega) (by omega))) ht
      · have hju : listed.getD j true = false := by
          cases hl : listed.getD j true with
          | false => rfl
          | true =>
            obtain ⟨o, ho, e, he, hb, hon⟩ := waitsFor_some hw
            have hjs : j < listed.size := by have := h.inv.size; have := (Array.getElem?_eq_some_iff.1 ho).1; omega
            have hl' : listed.getD j false = true := by simp [hjs] at hl ⊢; exact hl
            have := h.inv.closed j o ho hl' e he hb
            rw [hon, getD_both hun] at this
            cases this
        have := ih (n - j) (by omega) j rfl (by omega) hju t ht
        omega
theorem all_head {listed : Array Bool} {g : Nat} (h : HeadAt md ops n L0 listed) (ha : ((List.range n).all fun i => listed.getD i false) = true) (hs : ops.size = n + g) : listed = (List.replicate n true ++ List.replicate g false).toArray := by
  simp only [List.all_eq_true, List.mem_range] at ha
  have hsz := h.inv.size
  apply Array.ext
  · simp; omega
  · intro j h1 h2
    have hg : ∀ b, listed.getD j b = listed[j] := fun b => by simp [h1]
    rcases Nat.lt_or_ge j n with h3 | h3
    · have := ha j h3
      rw [hg] at this
      simp [this, h3]
    · have := h.inv.tail j h3 (by omega)
      rw [hg] at this
      simp [this, List.getElem_append, show ¬ j < n by omega]
theorem wpAny_of_head {l : List Oper} (hl : ∀ j, (l.drop n)[j]? = ops[n + j]?) (hs : ops.size = n + (l.drop n).length) (hB : tailB md ops n L0 = true) (hq : Region.seqB md ops (l.drop n).length n (List.replicate n true ++ List.replicate (l.drop n).length false).toArray = true) :
    ∀ (f : Nat) (listed : Array Bool) (a : Act) (w : World), HeadAt md ops n L0 listed → wpHead P md ops Q S n (wpList P ops Q (l.drop n)) f listed a w → wpAny P md ops Q (f + (l.drop n).length) listed a w
  | 0, listed, a, w, hA, h => by
    rw [Nat.zero_add]
    exact wpAny_of_seq (l.drop n) n listed a w hl (by rw [all_head hA h.1 hs]; exact hq) h.2
  | f + 1, listed, a, w, hA, h => by
    rw [show f + 1 + (l.drop n).length = (f + (l.drop n).length) + 1 by omega]
    exact ⟨fun h0 => absurd h0 h.1, fun i hi => wpOp_mono (fun a' w' h' => wpAny_of_head hl hs hB hq f _ a' w' (hA.set hi (h.2 i hi).1) h'.2) (h.2 i hi).2⟩
theorem wpAny_head {l : List Oper} {fuel : Nat} {listed : Array Bool} {a : Act} {w : World} (n f : Nat) (S : World → Prop) (hf : fuel = f + (l.drop n).length) (hs : l.toArray.size = n + (l.drop n).length) (hB : tailB md l.toArray n listed = true) (hc : closedB md l.toArray n listed = true)
    (hq : Region.seqB md l.toArray (l.drop n).length n (List.replicate n true ++ List.replicate (l.drop n).length false).toArray = true)
    (h : HeadAt md l.toArray n listed listed → wpHead P md l.toArray Q S n (wpList P l.toArray Q (l.drop n)) f listed a w) : wpAny P md l.toArray Q fuel listed a w := by
  subst hf
  exact wpAny_of_head (fun j => by simp [List.getElem?_drop]) hs hB hq f listed a w (.start hc) (h (.start hc))
/-- What yields in every world of S may be taken first. -/
theorem wpHead_first {i : Nat} {oi : Oper} {v : Value} (hB : tailB md ops n L0 = true) (hi : ops[i]? = some oi) (hin : i < n) (hsel : ∀ (j : Nat) (o : Oper) cs b, ops[j]? = some o → o.op ≠ .select cs b)
    (hQ : ∀ c a w, Q (.panic c) (a.put oi.dst v) w → Q (.panic c) a w) :
    ∀ (f : Nat) (listed : Array Bool) (a : Act) (w : World), HeadAt md ops n L0 listed →
      (∀ j oj, ops[j]? = some oj → j ≠ i → listed.getD j true = false → (∀ e ∈ oj.after, Region.binds md e = true → e.on ≠ i) → oi.apart ops oj = true) →
      i ∈ Region.ready md ops listed → YieldsIf P ops S oi v a → S w →
      wpHead P md ops Q S n L f (listed.setIfInBounds i true) (a.put oi.dst v) w → wpHead P md ops Q S n L (f + 1) listed a w := by
  intro f
  induction f with
  | zero =>
    intro listed a w hA _ hr hy hS H
    refine ⟨fun h => (by rw [h] at hr; cases hr), fun j hj => ?_⟩
    have hjn := tail_not hB hA _ i rfl hin (mem_ready.1 hr).1 j hj
    refine ⟨hjn, ?_⟩
    by_cases hji : j = i
    · subst hji; exact hy.wpOp hi hS ⟨hS, H⟩
    · have h1 := H.1
      simp only [List.all_eq_true, List.mem_range] at h1
      have h2 := h1 j hjn
      have h3 := getD_both (mem_ready.1 (ready_mono hj hji)).1
      rw [h3] at h2
      cases h2
  | succ f ih =>
    intro listed a w hA hfree hr hy hS H
    refine ⟨fun h => (by rw [h] at hr; cases hr), fun j hj => ?_⟩
    have hun := (mem_ready.1 hr).1
    have hjn := tail_not hB hA _ i rfl hin hun j hj
    refine ⟨hjn, ?_⟩
    by_cases hji : j = i
    · subst hji; exact hy.wpOp hi hS ⟨hS, H⟩
    · have h1 := (H.2 j (ready_mono hj hji)).2
      obtain ⟨hjun, oj, hoj, hall⟩ := mem_ready.1 hj
      have hnot : ∀ e ∈ oj.after, Region.binds md e = true → e.on ≠ i := fun e he hb heq => by
        have h1 := hall e he hb
        rw [heq, getD_both hun] at h1
        cases h1
      have h4 := wpOp_putIf hoj (hfree j oj hoj hji hjun hnot) (fun cs b => hsel i oi cs b hi) (fun cs b => hsel j oj cs b hoj) hQ hy h1
      refine wpOp_mono (fun a' w' h3 => ⟨h3.2.1, ih (listed.setIfInBounds j true) a' w' (hA.set hj hjn) (fun k ok hk hki hun' hno => ?_) (ready_mono hr (Ne.symm hji)) h3.1 h3.2.1 ?_⟩) h4
      · refine hfree k ok hk hki ?_ hno
        by_cases hjk : j = k
        · subst hjk; exact hjun
        · rw [getD_set_ne true hjk] at hun'; exact hun'
      · rw [Array.setIfInBounds_comm _ _ hji]
        exact h3.2.2
theorem wpHead_take {i : Nat} {oi : Oper} {v : Value} {f : Nat} {listed : Array Bool} {a : Act} {w : World} (hB : tailB md ops n L0 = true) (hA : HeadAt md ops n L0 listed) (hi : ops[i]? = some oi) (hin : i < n) (hs : Region.noSelect ops = true)
    (hf : Region.free md ops listed i = true) (hr : (Region.ready md ops listed).contains i = true) (hQ : ∀ c a w, Q (.panic c) (a.put oi.dst v) w → Q (.panic c) a w) (hy : YieldsIf P ops S oi v a) (hS : S w)
    (h : HeadAt md ops n L0 (listed.setIfInBounds i true) → wpHead P md ops Q S n L f (listed.setIfInBounds i true) (a.put oi.dst v) w) : wpHead P md ops Q S n L (f + 1) listed a w :=
  wpHead_first hB hi hin (Region.noSelect_spec hs) hQ f listed a w hA (Region.free_spec hi hf) (by simpa using hr) hy hS (h (hA.set (by simpa using hr) hin))
/-- Each of the operations rs comes up next. -/
def AllHead (P : Program) (md : Region.Mode) (ops : Array Oper) (Q : Exit → Act → World → Prop) (S : World → Prop) (n : Nat) (L : Act → World → Prop) (f : Nat) (listed : Array Bool) (a : Act) (w : World) (rs : List Nat) : Prop :=
  ∀ i ∈ rs, i < n ∧ wpOp P ops Q i (fun a' w' => S w' ∧ wpHead P md ops Q S n L f (listed.setIfInBounds i true) a' w') a w
theorem AllHead.nil {f : Nat} {listed : Array Bool} {a : Act} {w : World} : AllHead P md ops Q S n L f listed a w [] := fun _ h => by cases h
theorem AllHead.cons {f i : Nat} {listed : Array Bool} {a : Act} {w : World} {o : Oper} {rs : List Nat} (ho : ops[i]? = some o) (hin : i < n)
    (h : ∀ K' : Act → World → Prop, (∀ a w, S w → wpHead P md ops Q S n L f (listed.setIfInBounds i true) a w → K' a w) → if Region.wanted o (yielded ops a.tmps) = true then Oper.wp P o a w K' Q else K' (a.put o.dst undef) w)
    (hs : AllHead P md ops Q S n L f listed a w rs) : AllHead P md ops Q S n L f listed a w (i :: rs) := fun j hj => by
  rcases List.mem_cons.1 hj with rfl | hj
  · exact ⟨hin, wpOp_step ho fun K' hK => h K' fun a w h1 h2 => hK a w ⟨h1, h2⟩⟩
  · exact hs j hj
theorem wpHead_ready {rs : List Nat} {f : Nat} {listed : Array Bool} {a : Act} {w : World} (hr : Region.ready md ops listed = rs) (hne : rs ≠ []) (h : AllHead P md ops Q S n L f listed a w rs) : wpHead P md ops Q S n L (f + 1) listed a w := by
  subst hr; exact ⟨hne, h⟩
theorem wpHead_end {listed : Array Bool} {a : Act} {w : World} (h1 : ((List.range n).all fun i => listed.getD i false) = true) (h : L a w) : wpHead P md ops Q S n L 0 listed a w := ⟨h1, h⟩
end
end Go.Proofs.YtkgeihambgbjdaaDoor
/- A region that draws its order, in a round of a loop over a function: it is walked as anywhere else. Plain lemmas over any program. -/
namespace Go.Proofs.YtkgeihambgbjdaaDoor
open Go Go.RowKit
section
variable {P : Program} {ops : Array Oper} {md : Region.Mode} {C : World → Prop} {Q : Exit → Act → World → Prop}
def noDefer (o : Oper) : Bool := match o.op with
  | .defer _ => false
  | _ => true
theorem noDefer_spec {o : Oper} (h : noDefer o = true) : ∀ c, o.op ≠ .defer c := fun c e => by
  unfold noDefer at h
  rw [e] at h
  cases h
theorem rowsIn_round {l n : Nat} {row : String} {args : Array Value} {w : World} {R : Value → World → Prop} (h : Rows P row args w R) : RowsIn (Fence.wide.inRound l) n P row args w R :=
  fun c cs _ => let ⟨v, w', r, s⟩ := h c cs; ⟨v, w', r, stepsIn_wide.2 s⟩
theorem oper_in (l n : Nat) {o : Oper} {a : Act} {w : World} {K : Act → World → Prop} (hd : ∀ c, o.op ≠ .defer c) (h : o.wp P a w K Q) : o.wpIn (Fence.wide.inRound l) n P a w K Q := by
  refine ⟨fun f _ => trivial, ?_⟩
  rw [Fence.inRound_round, Oper.semAt_some l _ o hd]
  unfold Oper.wp at h
  cases hr : (execOp a.eval o).run P w with
  | ok x w' =>
    rw [hr] at h
    cases x with
    | value v => exact h
    | skip => exact h
    | defer d => exact h
    | enter f args => exact ⟨fun h => (by cases h), CallsIn.inRound l (callsIn_wide.2 h)⟩
    | row r args => exact ⟨fun h => (by cases h), rowsIn_round h⟩
    | _ => exact h.elim
  | halt x w' =>
    rw [hr] at h
    cases x with
    | panic u => exact h
    | _ => exact h.elim
theorem wpAny_in (l n : Nat) (hd : ∀ (i : Nat) (o : Oper), ops[i]? = some o → noDefer o = true) (hL : ¬ LetsOut Q) : ∀ (fuel : Nat) (listed : Array Bool) (a : Act) (w : World), wpAny P md ops Q fuel listed a w → wpAnyIn (Fence.wide.inRound l) n P md ops Q fuel listed a w
  | 0, listed, a, w, h => h
  | fuel + 1, listed, a, w, h => by
    refine ⟨h.1, fun i hi => ?_⟩
    have h2 := h.2 i hi
    unfold wpOp at h2
    unfold wpOpIn
    cases ho : ops[i]? with
    | none =>
      rw [ho] at h2
      exact wpAny_in l n hd hL fuel _ a w h2
    | some o =>
      rw [ho] at h2
      simp only at h2 ⊢
      split
      · rename_i hw
        rw [if_pos hw] at h2
        rcases h2 with h2 | h2
        · exact oper_in l n (noDefer_spec (hd i o ho)) (Oper.wp_mono (fun a' w' h' => wpAny_in l n hd hL fuel _ a' w' h') h2)
        · exact absurd h2.2 hL
      · rename_i hw
        rw [if_neg hw] at h2
        exact ⟨fun f _ => trivial, wpAny_in l n hd hL fuel _ _ w h2⟩
theorem any_cls_tail {a : Act} {w : World} {l : List Oper} (n : Nat) (S : World → Prop) (hB : Region.lexTailB .any l.toArray n = true) (h0 : S w)
    (h : wpQuiet P l.toArray (fun w' => ∃ r : Cls S, w' = r.w) (fun a' => ∀ w', (∃ r : Cls S, w' = r.w) → wpList P l.toArray Q (l.drop n) a' w') (l.take n) a) : wpAny P .any l.toArray Q l.toArray.size (Array.replicate l.toArray.size false) a w := by
  simp only [Region.lexTailB, Bool.and_eq_true, decide_eq_true_eq] at hB
  obtain ⟨⟨⟨⟨hsel, hn⟩, hs⟩, hc⟩, hlex⟩ := hB
  have hn' : n < l.length := by simpa using hn
  have htl : (l.take n).length = n := by simp; omega
  have hdl : (l.drop n).length = l.toArray.size - n := by simp
  have inv0 : HeadInv .any l.toArray n (Array.replicate l.toArray.size false) :=
    ⟨by simp, fun j oj _ hl => (by rw [getD_replicate_false] at hl; cases hl), fun t _ ht => getD_in (by simpa using ht) (getD_replicate_false _ _)⟩
  have H := wpAnyLQ_lex (C := fun w' => ∃ r : Cls S, w' = r.w) (md := .any) (g := l.toArray.size - n) hsel hs hc hn (l.take n) 0 _ a (fun j hj => by
    have hj' : j < n := by rw [htl] at hj; exact hj
    simp [hj']) (by simpa using htl) inv0 (by rw [htl]; exact hlex) h
  have := wpAny_of_headQ (Q' := Q) (g := l.toArray.size - n) (fun listed a' w' hw' hL => by
    have := wpAny_of_seq (md := .any) (Q' := Q) (l.drop n) n listed a' w' (fun j => by simp [List.getElem?_drop]) (by rw [hdl]; exact hL.1) (hL.2 w' hw')
    rwa [hdl] at this) _ _ _ _ ⟨⟨_, h0⟩, rfl⟩ H
  rw [htl, show n + (l.toArray.size - n) = l.toArray.size by omega] at this
  exact this
/-- A region of reads and calls that keep a class of worlds, ahead of a tail in one forced order, in a round. -/
theorem wpIn_region_cls_tail {lo m id : Nat} {a : Act} {w : World} {l : List Oper} (n : Nat) (S : World → Prop) (hm : P.follows .mixedOrders = true) (hB : Region.lexTailB .any l.toArray n = true) (hd : l.all noDefer = true) (hL : ¬ LetsOut Q) (h0 : S w.drew)
    (h : wpQuiet P l.toArray (fun w' => ∃ r : Cls S, w' = r.w) (fun a' => ∀ w', (∃ r : Cls S, w' = r.w) → wpList P l.toArray Q (l.drop n) a' w') (l.take n) a) : (Code.region id l.toArray true).wpIn (Fence.wide.inRound lo) m P Q a w := by
  refine wpIn_region_any hm (wpAny_in lo m (fun i o ho => ?_) hL _ _ _ _ (any_cls_tail n S hB h0 h))
  rw [List.all_eq_true] at hd
  exact hd o (by rw [List.getElem?_toArray] at ho; exact List.mem_of_getElem? ho)
end
end Go.Proofs.YtkgeihambgbjdaaDoor
