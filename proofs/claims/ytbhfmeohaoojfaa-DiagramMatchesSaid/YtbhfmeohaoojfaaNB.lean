/- The store's two maps: nodes to references, references to bools. -/
import Derived.Test.YtbhfmeohaoojfaaNA
import Derived.Test.YtbhfmeohaoojfaaAP
import Derived.Test.YtbhfmeohaoojfaaProg
import Derived.Maps.OwnSet
import Derived.DeepKeys5
namespace Go.Proofs.Ytbhfmeohaoojfaa.Dn
open Go Go.RowKit Go.Maps
set_option linter.unusedVariables false
set_option maxRecDepth 100000
/-- A node as a value. -/
def ndv (n : Nd) : Value := .agg #[.int .i64 (vr n), .int .i64 (lo n), .int .i64 (hi n), .int .i64 (vl n)]
/-- A node's numbers are ints. -/
def Fit (n : Nd) : Prop := vr n < 1000000 ∧ lo n < 1000000000 ∧ hi n < 1000000000 ∧ -9223372036854775808 ≤ vl n ∧ vl n ≤ 9223372036854775807
theorem laid_out : laidOutB Try.prog = true := by kernel_rfl
theorem node_keyed : Keyed Try.prog 113 := Keyed.of_law (deep_law_gate laid_out (of_decide_eq_true (by kernel_rfl)) (of_decide_eq_true (by kernel_rfl)) (by kernel_rfl) (by kernel_rfl))
theorem node_type : Try.prog.keyType 113 = true := by kernel_rfl
theorem node_cells : Try.prog.cellsOf 113 = 4 := by kernel_rfl
theorem types_succ : Try.prog.types.size = (Try.prog.types.size - 2) + 1 + 1 := by kernel_rfl
theorem cells_int : Try.prog.cellsOf 3 = 1 := by kernel_rfl
theorem cells_ref : Try.prog.cellsOf 46 = 1 := by kernel_rfl
theorem wf_i64 {a : Int} (h1 : -9223372036854775808 ≤ a) (h2 : a ≤ 9223372036854775807) : (Lit.int .i64 a).wf = true := by
  have e1 : IntKind.min .i64 = -9223372036854775808 := by decide
  have e2 : IntKind.max .i64 = 9223372036854775807 := by decide
  simp only [Lit.wf, e1, e2, Bool.and_eq_true, decide_eq_true_eq]
  exact ⟨h1, h2⟩
theorem keyOf_node {n : Nd} (h : Fit n) : ∃ l, keyOf Try.prog 113 (ndv n) = some l := by
  obtain ⟨h1, h2, h3, h4, h5⟩ := h
  refine ⟨.string (keyBytes [.int .i64 (vr n), .int .i64 (lo n), .int .i64 (hi n), .int .i64 (vl n)]), ?_⟩
  have w1 := wf_i64 (a := vr n) (by omega) (by omega)
  have w2 := wf_i64 (a := lo n) (by omega) (by omega)
  have w3 := wf_i64 (a := hi n) (by omega) (by omega)
  have w4 := wf_i64 h4 h5
  unfold keyOf ndv
  simp only [Try.underlying113]
  rw [if_pos (by simp [node_type, Value.formed, Try.underlying113, node_cells]), types_succ]
  unfold Program.keyLits
  simp [Try.underlying113, Value.cells, node_cells, cells_int, cells_ref]
  simp [Program.keyLits, Try.underlying3, Try.underlying46, w1, w2, w3, w4]
theorem ndv_inj {m n : Nd} (h : ndv m = ndv n) : m = n := by
  unfold ndv at h
  simp only [Value.agg.injEq, Array.mk.injEq, List.cons.injEq, Value.int.injEq, true_and, and_true] at h
  exact nd_eq (by omega) (by omega) (by omega) h.2.2.2
theorem zero_ref (w : World) : (zeroValue 46).run Try.prog w = .ok (.int .i64 0) w := by kernel_rfl
theorem zero_bool (w : World) : (zeroValue 4).run Try.prog w = .ok (.bool false) w := by kernel_rfl
theorem own_tight {w : World} {P : Program} {k : TypeId} {R : Value → Option (DataW Unit × List MemPlace)} {b n m : Nat} {D : DataW Unit} (h : w.ownsMap P k R b n D) (hm : Maps.size D ≤ m) : w.ownsMap P k R b m D := by
  obtain ⟨es, clock, hb, F, hs, rfl⟩ := h
  exact ⟨es, clock, hb, F, by simpa [Maps.size, length_sorted] using hm, rfl⟩
theorem own_block {w w' : World} {P : Program} {k : TypeId} {R : Value → Option (DataW Unit × List MemPlace)} {b n : Nat} {D : DataW Unit} (h : w.ownsMap P k R b n D) (hb' : w'.heap[b]? = w.heap[b]?) : w'.ownsMap P k R b n D := by
  obtain ⟨es, clock, hb, F, hs, rfl⟩ := h
  exact ⟨es, clock, hb'.trans hb, F, hs, rfl⟩
theorem own_obj {w : World} {P : Program} {k : TypeId} {R : Value → Option (DataW Unit × List MemPlace)} {b n : Nat} {D : DataW Unit} (h : w.ownsMap P k R b n D) : ∃ es clock, w.heap[b]? = some (.map es clock) := by
  obtain ⟨es, clock, hb, _⟩ := h
  exact ⟨es, clock, hb⟩
theorem turned_other {w w' : World} {b i : Nat} (h : w.mapTurned w' b) (hi : i ≠ b) : w'.heap[i]? = w.heap[i]? := by
  obtain ⟨es, clock, es', clock', hb, rfl⟩ := h
  exact ChangeMaps.heap_setBlock_other hb _ hi
/-- Block b is the map of the nodes N to their numbers, of those in S alone; it has s entries. -/
def RefsG (w : World) (b : Nat) (N : List Nd) (S : Nat → Prop) (s : Nat) : Prop :=
  ∃ D : DataW Unit, w.ownsMap Try.prog 113 (plainElem Try.prog 46) b s D ∧ Maps.size D = s ∧
    (∀ r, inN N r → ∀ l, keyOf Try.prog 113 (ndv (at_ N r)) = some l → (S r → Maps.has D l = true ∧ ∀ z, D.atKey l z = .lit (.int .i64 r)) ∧ (¬ S r → Maps.has D l = false)) ∧
    (∀ n l, n ∉ N → keyOf Try.prog 113 (ndv n) = some l → Maps.has D l = false)
def RefsM (w : World) (b : Nat) (N : List Nd) : Prop := RefsG w b N (fun _ => True) N.length
theorem RefsG.block {w w' : World} {b : Nat} {N : List Nd} {S : Nat → Prop} {s : Nat} (h : RefsG w b N S s) (hb : w'.heap[b]? = w.heap[b]?) : RefsG w' b N S s := by
  obtain ⟨D, h1, h2⟩ := h
  exact ⟨D, own_block h1 hb, h2⟩
theorem RefsG.obj {w : World} {b : Nat} {N : List Nd} {S : Nat → Prop} {s : Nat} (h : RefsG w b N S s) : ∃ es clock, w.heap[b]? = some (.map es clock) := by
  obtain ⟨D, h1, h2⟩ := h
  exact own_obj h1
theorem RefsM.made (w : World) : RefsM (w.alloc (.map #[] 0)) w.heap.size [] :=
  ⟨.map [], World.ownsMap_made _ _ _ _, rfl, fun r h => by have := h.1; have := h.2; simp at this; omega, fun n l _ _ => rfl⟩
theorem RefsM.look_old {w : World} {b : Nat} {N : List Nd} (h : RefsM w b N) {r : Nat} (hr : inN N r) (hf : Fit (at_ N r)) :
    (Instr.lookup 88 (.map (some b)) (ndv (at_ N r)) true).run Try.prog w = .ok (.tuple #[.int .i64 r, .bool true]) w := by
  obtain ⟨D, h1, h2, h3, h4⟩ := h
  obtain ⟨l, hl⟩ := keyOf_node hf
  obtain ⟨v, ps, hrun, hv⟩ := h1.look_ok node_keyed Try.underlying88 (zero_ref w) (plainElem_int (H := Unit) Try.underlying46 (a := 0) (by decide)) hl
  obtain ⟨h5, h6⟩ := (h3 r hr l hl).1 trivial
  rw [h5] at hrun
  obtain ⟨a, rfl, ha, _⟩ := plainElem_int_inv Try.underlying46 hv
  rw [h6] at ha
  simp only [Prod.mk.injEq, DataW.lit.injEq, Lit.int.injEq, true_and] at ha
  rw [hrun, ha.1]
theorem RefsM.look_new {w : World} {b : Nat} {N : List Nd} (h : RefsM w b N) {n : Nd} (hn : n ∉ N) (hf : Fit n) :
    (Instr.lookup 88 (.map (some b)) (ndv n) true).run Try.prog w = .ok (.tuple #[.int .i64 0, .bool false]) w := by
  obtain ⟨D, h1, h2, h3, h4⟩ := h
  obtain ⟨l, hl⟩ := keyOf_node hf
  obtain ⟨v, ps, hrun, hv⟩ := h1.look_ok node_keyed Try.underlying88 (zero_ref w) (plainElem_int (H := Unit) Try.underlying46 (a := 0) (by decide)) hl
  have h5 := h4 n l hn hl
  rw [h5] at hrun
  obtain ⟨a, rfl, ha, _⟩ := plainElem_int_inv Try.underlying46 hv
  rw [atKey_of_not_has h5] at ha
  simp only [Prod.mk.injEq, DataW.lit.injEq, Lit.int.injEq, true_and] at ha
  rw [hrun, ← ha.1]
theorem key_ne {m n : Nd} {l l' : Lit} (h : keyOf Try.prog 113 (ndv m) = some l) (h' : keyOf Try.prog 113 (ndv n) = some l') (hne : m ≠ n) : l ≠ l' := by
  rintro rfl
  exact hne (ndv_inj (node_keyed.inj h h'))
theorem RefsM.store {w : World} {b : Nat} {N : List Nd} (h : RefsM w b N) {n : Nd} (hn : n ∉ N) (hf : Fit n) (hl : N.length < 100000000) :
    ∃ w', (Instr.mapUpdate 88 (.map (some b)) (ndv n) (.int .i64 ((N.length : Nat) + 1 : Int))).run Try.prog w = .ok () w' ∧ RefsM w' b (N ++ [n]) ∧ w.mapTurned w' b := by
  obtain ⟨D, h1, h2, h3, h4⟩ := h
  obtain ⟨l, hkl⟩ := keyOf_node hf
  obtain ⟨w', hrun, h5, h6⟩ := h1.store node_keyed Try.underlying88 (by unfold maxLen; omega) hkl (plainElem_int (H := Unit) Try.underlying46 (a := ((N.length : Nat) + 1 : Int)) (wf_i64 (by omega) (by omega)))
  have hT := h1.tidy node_keyed
  have hK := node_keyed.key hkl
  refine ⟨w', hrun, ⟨D.put l (.lit (.int .i64 ((N.length : Nat) + 1 : Int))), ?_, ?_, fun r hr l' hl' => ⟨fun _ => ?_, fun h => absurd trivial h⟩, fun m l' hm hl' => ?_⟩, h6⟩
  · rw [List.length_append]; exact h5
  · rw [size_put hT, h4 n l hn hkl, h2, List.length_append]; rfl
  · by_cases hr2 : r ≤ N.length
    · rw [at_ext [n] ⟨hr.1, hr2⟩] at hl'
      have hne : at_ N r ≠ n := fun e => hn (e ▸ at_mem ⟨hr.1, hr2⟩)
      obtain ⟨h7, h8⟩ := (h3 r ⟨hr.1, hr2⟩ l' hl').1 trivial
      have hll := key_ne hl' hkl hne
      exact ⟨by rw [has_put_other hll]; exact h7, fun z => by rw [atKey_put_other hll]; exact h8 z⟩
    · have h7 := hr.2
      rw [List.length_append, List.length_singleton] at h7
      obtain rfl : r = N.length + 1 := by omega
      rw [at_last, hkl] at hl'
      cases hl'
      exact ⟨has_put_same hT.isMap hK _, fun z => by rw [atKey_put_same hT.isMap hK]; rfl⟩
  · rw [List.mem_append, List.mem_singleton, not_or] at hm
    rw [has_put_other (key_ne hl' hkl hm.2)]
    exact h4 m l' hm.1 hl'
/-- One more entry is deleted. -/
theorem RefsG.drop {w : World} {b : Nat} {N : List Nd} {S : Nat → Prop} {s : Nat} (h : RefsG w b N S (s + 1)) (hN : N.Nodup) {q : Nat} (hq : inN N q) (hS : S q) (hf : Fit (at_ N q)) (ty : TypeId) :
    ∃ w', (Builtin.delete_ #[88, 113] ty #[.map (some b), ndv (at_ N q)]).run Try.prog w = .ok (.tuple #[]) w' ∧ RefsG w' b N (fun r => S r ∧ r ≠ q) s ∧ w.mapTurned w' b := by
  obtain ⟨D, h1, h2, h3, h4⟩ := h
  obtain ⟨l, hl⟩ := keyOf_node hf
  obtain ⟨w', hrun, h5, h6⟩ := h1.drop node_keyed Try.underlying88 hl ty
  have hT := h1.tidy node_keyed
  have hsz : Maps.size (D.del l) = s := by
    have := size_del (k := l) hT
    rw [((h3 q hq l hl).1 hS).1] at this
    simp at this
    omega
  refine ⟨w', hrun, ⟨D.del l, own_tight h5 (by omega), hsz, fun r hr l' hl' => ?_, fun m l' hm hl' => ?_⟩, h6⟩
  · by_cases hrq : r = q
    · subst hrq
      rw [hl] at hl'
      cases hl'
      exact ⟨fun h => absurd rfl h.2, fun _ => has_del_same⟩
    · have hne : at_ N r ≠ at_ N q := fun e => hrq (nodup_at hN hr hq e)
      have hll := key_ne hl' hl hne
      obtain ⟨h7, h8⟩ := h3 r hr l' hl'
      refine ⟨fun h => ?_, fun h => ?_⟩
      · obtain ⟨h9, h10⟩ := h7 h.1
        exact ⟨by rw [has_del_other hll]; exact h9, fun z => by rw [atKey_del_other hll]; exact h10 z⟩
      · rw [has_del_other hll]
        exact h8 fun hs => h ⟨hs, hrq⟩
  · rw [has_del_other (key_ne hl' hl fun e => hm (e ▸ at_mem hq))]
    exact h4 m l' hm hl'
theorem RefsG.taken {w : World} {b : Nat} {N : List Nd} {S : Nat → Prop} {m : Nat} (h : RefsG w b N S m) (hm : m ≤ N.length) (hS : ∀ r, inN N r → (S r ↔ r ≤ m)) : RefsM w b (N.take m) := by
  obtain ⟨D, h1, h2, h3, h4⟩ := h
  have hlen : (N.take m).length = m := by rw [List.length_take]; omega
  have hat : ∀ r, inN (N.take m) r → inN N r ∧ r ≤ m ∧ at_ (N.take m) r = at_ N r := fun r hr => by
    have h5 := hr.2
    rw [hlen] at h5
    refine ⟨⟨hr.1, by omega⟩, h5, ?_⟩
    unfold at_
    rw [List.getD_eq_getElem?_getD, List.getD_eq_getElem?_getD, List.getElem?_take_of_lt (by have := hr.1; omega)]
  refine ⟨D, by rw [hlen]; exact h1, by rw [hlen]; exact h2, fun r hr l hl => ?_, fun n l hn hl => ?_⟩
  · obtain ⟨h5, h6, h7⟩ := hat r hr
    rw [h7] at hl
    exact ⟨fun _ => (h3 r h5 l hl).1 ((hS r h5).2 h6), fun h => absurd trivial h⟩
  · by_cases hN : n ∈ N
    · obtain ⟨r, hr, rfl⟩ := mem_at hN
      refine (h3 r hr l hl).2 fun hs => hn ?_
      have h5 := (hS r hr).1 hs
      have h6 : inN (N.take m) r := ⟨hr.1, by rw [hlen]; exact h5⟩
      rw [← (hat r h6).2.2]
      exact at_mem h6
    · exact h4 n l hN hl
/-- Whether a number is one of the references R. -/
def inR (R : List Nat) (r : Int) : Bool := R.any fun q => (q : Int) == r
theorem inR_iff {R : List Nat} {r : Int} : inR R r = true ↔ ∃ q ∈ R, (q : Int) = r := by
  unfold inR
  simp [List.any_eq_true]
def addR (R : List Nat) (q : Nat) : List Nat := if q ∈ R then R else R ++ [q]
theorem inR_add (R : List Nat) (q : Nat) (r : Int) : inR (addR R q) r = (inR R r || ((q : Int) == r)) := by
  unfold addR
  split
  · rename_i h
    cases hq : ((q : Int) == r) with
    | false => simp
    | true => rw [inR_iff.2 ⟨q, h, by simpa using hq⟩]; rfl
  · unfold inR; rw [List.any_append]; simp
/-- Block b is the map in which the references R are true. -/
def RetM (w : World) (b : Nat) (R : List Nat) : Prop :=
  ∃ D : DataW Unit, w.ownsMap Try.prog 46 (plainElem Try.prog 4) b R.length D ∧ Maps.size D = R.length ∧
    ∀ r : Int, (Lit.int .i64 r).wf = true → Maps.has D (.int .i64 r) = inR R r ∧ (inR R r = true → ∀ z, D.atKey (.int .i64 r) z = .lit (.bool true))
theorem RetM.block {w w' : World} {b : Nat} {R : List Nat} (h : RetM w b R) (hb : w'.heap[b]? = w.heap[b]?) : RetM w' b R := by
  obtain ⟨D, h1, h2⟩ := h
  exact ⟨D, own_block h1 hb, h2⟩
theorem RetM.obj {w : World} {b : Nat} {R : List Nat} (h : RetM w b R) : ∃ es clock, w.heap[b]? = some (.map es clock) := by
  obtain ⟨D, h1, h2⟩ := h
  exact own_obj h1
theorem RetM.made (w : World) : RetM (w.alloc (.map #[] 0)) w.heap.size [] :=
  ⟨.map [], World.ownsMap_made _ _ _ _, rfl, fun r _ => ⟨rfl, fun h => by cases h⟩⟩
theorem plainElem_bool_inv {v : Value} {z : DataW Unit × List MemPlace} (h : plainElem Try.prog 4 v = some z) : ∃ a, v = .bool a ∧ z = (.lit (.bool a), []) := by
  unfold plainElem at h
  rw [Try.underlying4] at h
  cases v <;> simp at h
  subst h
  exact ⟨_, rfl, rfl⟩
theorem RetM.look {w : World} {b : Nat} {R : List Nat} (h : RetM w b R) {r : Int} (hr : (Lit.int .i64 r).wf = true) :
    (Instr.lookup 89 (.map (some b)) (.int .i64 r) false).run Try.prog w = .ok (.bool (inR R r)) w := by
  obtain ⟨D, h1, h2, h3⟩ := h
  obtain ⟨v, ps, hrun, hv⟩ := h1.lookup (int_keyed Try.underlying46) Try.underlying89 (zero_bool w) (plainElem_bool (H := Unit) Try.underlying4 false) (keyOf_int_mk Try.underlying46 hr)
  obtain ⟨a, rfl, ha⟩ := plainElem_bool_inv hv
  obtain ⟨h5, h6⟩ := h3 r hr
  rw [hrun]
  cases hR : inR R r with
  | true =>
    rw [h6 hR] at ha
    simp only [Prod.mk.injEq, DataW.lit.injEq, Lit.bool.injEq] at ha
    rw [← ha.1]
  | false =>
    rw [hR] at h5
    rw [atKey_of_not_has h5] at ha
    simp only [Prod.mk.injEq, DataW.lit.injEq, Lit.bool.injEq] at ha
    rw [← ha.1]
theorem RetM.store {w : World} {b : Nat} {R : List Nat} (h : RetM w b R) {q : Nat} (hq : q < 100000000) (hl : R.length < 100000000) :
    ∃ w', (Instr.mapUpdate 89 (.map (some b)) (.int .i64 q) (.bool true)).run Try.prog w = .ok () w' ∧ RetM w' b (addR R q) ∧ w.mapTurned w' b := by
  obtain ⟨D, h1, h2, h3⟩ := h
  have hw : (Lit.int .i64 (q : Int)).wf = true := wf_i64 (by omega) (by omega)
  have K := int_keyed (P := Try.prog) Try.underlying46
  have hkl := keyOf_int_mk (P := Try.prog) Try.underlying46 hw
  obtain ⟨w', hrun, h5, h6⟩ := h1.store K Try.underlying89 (by unfold maxLen; omega) hkl (plainElem_bool (H := Unit) Try.underlying4 true)
  have hT := h1.tidy K
  have hK := K.key hkl
  have hqq : inR R (q : Int) = true ↔ q ∈ R := by
    rw [inR_iff]
    exact ⟨fun ⟨p, hp, e⟩ => (show p = q by omega) ▸ hp, fun hp => ⟨q, hp, rfl⟩⟩
  have hsz : Maps.size (D.put (.int .i64 q) (.lit (.bool true))) = (addR R q).length := by
    rw [size_put hT, (h3 q hw).1, h2]
    unfold addR
    by_cases hm : q ∈ R
    · rw [if_pos (hqq.2 hm), if_pos hm]
    · rw [if_neg (fun h => hm (hqq.1 h)), if_neg hm, List.length_append]; rfl
  refine ⟨w', hrun, ⟨_, own_tight h5 (by omega), hsz, fun r hr => ?_⟩, h6⟩
  rw [inR_add]
  by_cases hrq : (q : Int) = r
  · subst hrq
    rw [has_put_same hT.isMap hK]
    exact ⟨by simp, fun _ z => by rw [atKey_put_same hT.isMap hK]⟩
  · have hne : Lit.int .i64 r ≠ Lit.int .i64 (q : Int) := fun e => hrq (by simp at e; exact e.symm)
    have hb : ((q : Int) == r) = false := beq_eq_false_iff_ne.2 hrq
    rw [has_put_other hne, hb, Bool.or_false]
    exact ⟨(h3 r hr).1, fun h z => by rw [atKey_put_other hne]; exact (h3 r hr).2 h z⟩
theorem RetM.len {w : World} {b : Nat} {R : List Nat} (h : RetM w b R) (ty : TypeId) : (Builtin.len_ #[89] ty #[.map (some b)]).run Try.prog w = .ok (.int .i64 (R.length : Nat)) w := by
  obtain ⟨D, h1, h2, h3⟩ := h
  rw [h1.len Try.underlying89 ty, h2]
end Go.Proofs.Ytbhfmeohaoojfaa.Dn
