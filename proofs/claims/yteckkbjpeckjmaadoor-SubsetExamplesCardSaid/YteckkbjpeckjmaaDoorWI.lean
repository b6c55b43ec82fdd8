/- A region that draws its order, whose operations make memory freely of one another: a record of what each operation's slot holds, kept by all the others, serves every order. Plain lemmas over any program. -/
import Derived.Orders
import Derived.Below
import Derived.RegionTactic
namespace Go.Proofs.YteckkbjpeckjmaaDoor.Wi
open Go Go.RowKit
variable {P : Program} {ops : Array Oper} {Q : Exit → Act → World → Prop}
def dstOf (ops : Array Oper) (i : Nat) : Option Tmp := (ops[i]?).bind (·.dst)
/-- What the operations that have run have put. -/
def putL (ops : Array Oper) (listed : Array Bool) (vs : Nat → Value) (a : Act) : Nat → Act
  | 0 => a
  | k + 1 => if listed.getD k false = true then (putL ops listed vs a k).put (dstOf ops k) (vs k) else putL ops listed vs a k
/-- Each operation has a slot of its own. -/
def Slots (ops : Array Oper) : Prop := ∀ i j d, i ≠ j → dstOf ops i = some d → dstOf ops j ≠ some d
theorem put_size (a : Act) (x : Option Tmp) (v : Value) : (a.put x v).tmps.size = a.tmps.size := by
  cases x <;> simp [Act.put]
theorem putL_size (listed : Array Bool) (vs : Nat → Value) (a : Act) : ∀ k, (putL ops listed vs a k).tmps.size = a.tmps.size
  | 0 => rfl
  | k + 1 => by
    unfold putL
    split
    · rw [put_size, putL_size listed vs a k]
    · exact putL_size listed vs a k
theorem putL_set (hs : Slots ops) {listed : Array Bool} {i : Nat} (hi : listed.getD i false = false) (hl : i < listed.size) (vs : Nat → Value) (v : Value) (a : Act) : ∀ k,
    putL ops (listed.setIfInBounds i true) (fun j => if j = i then v else vs j) a k = if i < k then (putL ops listed vs a k).put (dstOf ops i) v else putL ops listed vs a k
  | 0 => by rw [if_neg (Nat.not_lt_zero i)]; rfl
  | k + 1 => by
    have ih := putL_set hs hi hl vs v a k
    rw [putL, putL]
    by_cases hk : k = i
    · subst hk
      rw [if_neg (Nat.lt_irrefl k)] at ih
      rw [ih, if_pos (by simp [hl])]
      simp only [if_true]
      rw [if_pos (Nat.lt_succ_self k), if_neg (by rw [hi]; decide)]
    · rw [getD_set_ne false (fun e => hk e.symm), ih, if_neg hk]
      by_cases hlt : i < k
      · rw [if_pos hlt, if_pos (show i < k + 1 by omega)]
        split
        · exact Act.put_comm _ _ _ fun d hd => hs i k d (fun e => hk e.symm) hd
        · rfl
      · rw [if_neg hlt, if_neg (show ¬ i < k + 1 by omega)]
theorem putL_read (hs : Slots ops) {listed : Array Bool} (vs : Nat → Value) (a : Act) {j : Nat} {d : Tmp} (hj : listed.getD j false = true) (hd : dstOf ops j = some d) (hz : d < a.tmps.size) : ∀ k, j < k →
    (putL ops listed vs a k).tmps.getD d undef = vs j
  | 0, h => absurd h (Nat.not_lt_zero j)
  | k + 1, h => by
    rw [putL]
    by_cases hk : k = j
    · subst hk
      rw [if_pos hj, hd]
      simp [Act.put, putL_size, hz]
    · have ih := putL_read hs vs a hj hd hz k (by omega)
      split
      · cases he : dstOf ops k with
        | none => exact ih
        | some e =>
          have hne : e ≠ d := fun h => hs k j e hk he (by rw [hd, h])
          simp only [Act.put, Array.getD_eq_getD_getElem?] at ih ⊢
          rw [Array.getElem?_setIfInBounds_ne hne]
          exact ih
      · exact ih
/-- How many have not run. -/
def cnt (n : Nat) (listed : Array Bool) : Nat := ((List.range n).filter fun i => !listed.getD i true).length
theorem cnt_set {n : Nat} {listed : Array Bool} {i : Nat} (hn : i < n) (hi : listed.getD i true = false) (hl : i < listed.size) : cnt n (listed.setIfInBounds i true) < cnt n listed := by
  unfold cnt
  have h : (List.range n).filter (fun j => !(listed.setIfInBounds i true).getD j true) = ((List.range n).filter fun j => !listed.getD j true).filter (fun j => j ≠ i) := by
    rw [List.filter_filter]
    refine List.filter_congr fun j _ => ?_
    by_cases hj : j = i
    · subst hj; simp [hl]
    · rw [getD_set_ne true (fun e => hj e.symm)]; simp [hj]
  rw [h]
  refine List.length_filter_lt_length_iff_exists.2 ⟨i, ?_, by simp⟩
  rw [List.mem_filter]
  exact ⟨List.mem_range.2 hn, by simp only [hi]; rfl⟩
/-- Where no operation may come up, all have run: no operation waits for a later one. -/
theorem all_run (hb : ∀ (i : Nat) (o : Oper), ops[i]? = some o → ∀ e ∈ o.after, Region.binds .any e = true → e.on < i) {listed : Array Bool} (hz : listed.size = ops.size) (hr : Region.ready .any ops listed = []) : ∀ k, k < ops.size → listed.getD k false = true := by
  intro k
  induction k using Nat.strongRecOn with
  | ind k ih =>
    intro hk
    cases h : listed.getD k false with
    | true => rfl
    | false =>
      have hm : k ∈ Region.ready .any ops listed := mem_ready.2 ⟨by
        have hlt : k < listed.size := by omega
        simp only [Array.getD_eq_getD_getElem?, Array.getElem?_eq_getElem hlt, Option.getD_some] at h ⊢
        exact h, ops[k], Array.getElem?_eq_getElem hk, fun e he hbd => by
          have := hb k _ (Array.getElem?_eq_getElem hk) e he hbd
          exact ih e.on this (by omega)⟩
      rw [hr] at hm
      cases hm
theorem wpAny_put (w0 : World) (a0 : Act) (G : Nat → Value → World → Prop) (hs : Slots ops) (hg : ∀ (i : Nat) (o : Oper), ops[i]? = some o → o.guard = none)
    (hb : ∀ (i : Nat) (o : Oper), ops[i]? = some o → ∀ e ∈ o.after, Region.binds .any e = true → e.on < i)
    (hd : ∀ i d, dstOf ops i = some d → d < a0.tmps.size)
    (hst : ∀ i v W W', G i v W → Below W.heap.size W W' → G i v W')
    (hstep : ∀ (i : Nat) (oi : Oper) (A : Act) (W : World), ops[i]? = some oi → Below w0.heap.size w0 W → (∀ e ∈ oi.after, Region.binds .any e = true → ∀ d, dstOf ops e.on = some d → G e.on (A.tmps.getD d undef) W) →
      oi.wp P A W (fun a' W' => ∃ v, a' = A.put oi.dst v ∧ Below W.heap.size W W' ∧ G i v W') Q)
    (hQ : ∀ vs W, Below w0.heap.size w0 W → (∀ i, i < ops.size → G i (vs i) W) → Q .normal (putL ops (Array.replicate ops.size true) vs a0 ops.size) W) :
    ∀ (fuel : Nat) (listed : Array Bool) (a : Act) (W : World), cnt ops.size listed ≤ fuel → listed.size = ops.size → Below w0.heap.size w0 W →
      (∃ vs, a = putL ops listed vs a0 ops.size ∧ ∀ j, j < ops.size → listed.getD j false = true → G j (vs j) W) → wpAny P .any ops Q fuel listed a W := by
  have hend : ∀ (listed : Array Bool) (a : Act) (W : World), listed.size = ops.size → Below w0.heap.size w0 W → (∃ vs, a = putL ops listed vs a0 ops.size ∧ ∀ j, j < ops.size → listed.getD j false = true → G j (vs j) W) → Region.ready .any ops listed = [] → Q .normal a W := by
    rintro listed a W hz hW ⟨vs, rfl, hG⟩ hr
    have hall := all_run hb hz hr
    have he : listed = Array.replicate ops.size true := by
      refine Array.ext (by simp [hz]) fun i h1 h2 => ?_
      have := hall i (by omega)
      simp only [Array.getD_eq_getD_getElem?, Array.getElem?_eq_getElem h1, Option.getD_some] at this
      rw [this]; simp
    rw [he]
    exact hQ vs W hW fun i hi => hG i hi (hall i hi)
  intro fuel
  induction fuel with
  | zero =>
    intro listed a W hc hz hW hI
    have hr : Region.ready .any ops listed = [] := by
      refine List.eq_nil_iff_forall_not_mem.2 fun i hi => ?_
      obtain ⟨h0, o, ho, _⟩ := mem_ready.1 hi
      have hn : i < ops.size := (Array.getElem?_eq_some_iff.1 ho).1
      have : i ∈ (List.range ops.size).filter fun i => !listed.getD i true := List.mem_filter.2 ⟨List.mem_range.2 hn, by simp only [h0]; rfl⟩
      have hp := List.length_pos_of_mem this
      unfold cnt at hc
      omega
    exact ⟨hr, hend listed a W hz hW hI hr⟩
  | succ fuel ih =>
    intro listed a W hc hz hW hI
    refine ⟨hend listed a W hz hW hI, fun i hi => ?_⟩
    obtain ⟨vs, rfl, hG⟩ := hI
    obtain ⟨h0, oi, ho, hpre⟩ := mem_ready.1 hi
    have hn : i < ops.size := (Array.getElem?_eq_some_iff.1 ho).1
    have hl : i < listed.size := by omega
    have h0' : listed.getD i false = false := by
      simp only [Array.getD_eq_getD_getElem?, Array.getElem?_eq_getElem hl, Option.getD_some] at h0 ⊢
      exact h0
    have hcs := cnt_set hn h0 hl
    unfold wpOp
    rw [ho]
    simp only [Region.wanted, hg i oi ho, if_true]
    refine .inl (Oper.wp_mono ?_ (hstep i oi (putL ops listed vs a0 ops.size) W ho hW fun e he hbd d hde => ?_))
    · rintro a' W' ⟨v, rfl, hb', hv⟩
      refine ih _ _ _ (by omega) (by simp [hz]) (hW.trans (hb'.mono hW.size)) ⟨fun j => if j = i then v else vs j, ?_, fun j hj hlj => ?_⟩
      · have := putL_set hs h0' hl vs v a0 ops.size
        rw [if_pos hn] at this
        rw [this]
        unfold dstOf
        rw [ho]
        rfl
      · by_cases hji : j = i
        · subst hji
          show G j (if j = j then v else vs j) W'
          rw [if_pos rfl]
          exact hv
        · show G j (if j = i then v else vs j) W'
          rw [if_neg hji]
          rw [getD_set_ne false (fun e => hji e.symm)] at hlj
          exact hst j _ _ _ (hG j hj hlj) hb'
    · have hlt : e.on < ops.size := by
        have := hb i oi ho e he hbd
        omega
      have hle := hpre e he hbd
      rw [putL_read hs vs a0 hle hde (hd _ _ hde) ops.size hlt]
      exact hG e.on hlt hle
/-- The region. -/
theorem wp_region_put {id : Nat} {a : Act} {w : World} (G : Nat → Value → World → Prop) (hm : P.follows .mixedOrders = true) (hs : Slots ops) (hg : ∀ (i : Nat) (o : Oper), ops[i]? = some o → o.guard = none)
    (hb : ∀ (i : Nat) (o : Oper), ops[i]? = some o → ∀ e ∈ o.after, Region.binds .any e = true → e.on < i)
    (hd : ∀ i d, dstOf ops i = some d → d < a.tmps.size)
    (hst : ∀ i v W W', G i v W → Below W.heap.size W W' → G i v W')
    (hstep : ∀ (i : Nat) (oi : Oper) (A : Act) (W : World), ops[i]? = some oi → Below w.drew.heap.size w.drew W → (∀ e ∈ oi.after, Region.binds .any e = true → ∀ d, dstOf ops e.on = some d → G e.on (A.tmps.getD d undef) W) →
      oi.wp P A W (fun a' W' => ∃ v, a' = A.put oi.dst v ∧ Below W.heap.size W W' ∧ G i v W') Q)
    (hQ : ∀ vs W, Below w.drew.heap.size w.drew W → (∀ i, i < ops.size → G i (vs i) W) → Q .normal (putL ops (Array.replicate ops.size true) vs a ops.size) W) :
    (Code.region id ops true).wp P Q a w := by
  refine wp_region_any hm (wpAny_put w.drew a G hs hg hb hd hst hstep hQ ops.size _ a w.drew ?_ (by simp) (Below.refl _ _) ⟨fun _ => undef, ?_, fun j _ hj => ?_⟩)
  · unfold cnt
    exact Nat.le_trans (List.length_filter_le _ _) (by simp)
  · have : ∀ k, putL ops (Array.replicate ops.size false) (fun _ => undef) a k = a := by
      intro k
      induction k with
      | zero => rfl
      | succ k ih => rw [putL, if_neg (by simp [Array.getElem?_replicate]; split <;> simp), ih]
    exact (this _).symm
  · simp [Array.getElem?_replicate] at hj
    split at hj <;> simp at hj
/-- The region's form, checked: no guard, no edge to a later operation, a slot of its own for each. -/
def okB (ops : Array Oper) (n : Nat) : Bool := (List.range ops.size).all fun i => match ops[i]? with
  | none => true
  | some o => o.guard.isNone && (o.after.all fun e => decide (e.on < i)) && (match o.dst with | none => false | some d => decide (d < n) && ((List.range i).all fun j => dstOf ops j != some d))
theorem okB_at {n : Nat} (h : okB ops n = true) {i : Nat} {o : Oper} (ho : ops[i]? = some o) : o.guard = none ∧ (∀ e ∈ o.after, e.on < i) ∧ ∃ d, o.dst = some d ∧ d < n ∧ ∀ j, j < i → dstOf ops j ≠ some d := by
  have hi : i < ops.size := (Array.getElem?_eq_some_iff.1 ho).1
  have h1 := List.all_eq_true.1 h i (List.mem_range.2 hi)
  simp only [ho, Bool.and_eq_true, Option.isNone_iff_eq_none] at h1
  obtain ⟨⟨h2, h3⟩, h4⟩ := h1
  refine ⟨h2, fun e he => by simpa using (Array.all_eq_true_iff_forall_mem.1 h3) e he, ?_⟩
  cases hd : o.dst with
  | none => rw [hd] at h4; cases h4
  | some d =>
    rw [hd] at h4
    simp only [Bool.and_eq_true, decide_eq_true_iff] at h4
    refine ⟨d, rfl, h4.1, fun j hj => ?_⟩
    have := List.all_eq_true.1 h4.2 j (List.mem_range.2 hj)
    simpa using this
theorem dst_at {i : Nat} {d : Tmp} (h : dstOf ops i = some d) : ∃ o, ops[i]? = some o ∧ o.dst = some d := by
  unfold dstOf at h
  cases ho : ops[i]? with
  | none => rw [ho] at h; cases h
  | some o => rw [ho] at h; exact ⟨o, rfl, h⟩
theorem okB_slots {n : Nat} (h : okB ops n = true) : Slots ops := by
  intro i j d hne hi hj
  obtain ⟨o, ho, hd⟩ := dst_at hi
  obtain ⟨u, hu, he⟩ := dst_at hj
  rcases Nat.lt_or_gt_of_ne hne with hlt | hlt
  · obtain ⟨_, _, d', e1, _, h3⟩ := okB_at h hu
    rw [he] at e1; cases e1
    exact h3 i hlt hi
  · obtain ⟨_, _, d', e1, _, h3⟩ := okB_at h ho
    rw [hd] at e1; cases e1
    exact h3 j hlt hj
theorem wp_region_rec {id : Nat} {a : Act} {w : World} (G : Nat → Value → World → Prop) (hm : P.follows .mixedOrders = true) (hok : okB ops a.tmps.size = true)
    (hst : ∀ i v W W', G i v W → Below W.heap.size W W' → G i v W')
    (hstep : ∀ (i : Nat) (oi : Oper) (A : Act) (W : World), ops[i]? = some oi → Below w.drew.heap.size w.drew W → (∀ e ∈ oi.after, Region.binds .any e = true → ∀ d, dstOf ops e.on = some d → G e.on (A.tmps.getD d undef) W) →
      oi.wp P A W (fun a' W' => ∃ v, a' = A.put oi.dst v ∧ Below W.heap.size W W' ∧ G i v W') Q)
    (hQ : ∀ vs W, Below w.drew.heap.size w.drew W → (∀ i, i < ops.size → G i (vs i) W) → Q .normal (putL ops (Array.replicate ops.size true) vs a ops.size) W) :
    (Code.region id ops true).wp P Q a w :=
  wp_region_put G hm (okB_slots hok) (fun i o ho => (okB_at hok ho).1) (fun i o ho e he _ => (okB_at hok ho).2.1 e he) (fun i d hd => by
    obtain ⟨o, ho, h1⟩ := dst_at hd
    obtain ⟨_, _, d', e1, h2, _⟩ := okB_at hok ho
    rw [h1] at e1; cases e1; exact h2) hst hstep hQ
end Go.Proofs.YteckkbjpeckjmaaDoor.Wi
