/- The numbers of texts, in a map that the call makes. -/
import Derived.Test.YteckkbjpeckjmaaDoorJG
import Derived.Maps.OwnSet
import Derived.DeepKeys5
namespace Go.Proofs.YteckkbjpeckjmaaDoor.Sb
open Go Go.RowKit Go.Maps Go.Proofs.YteckkbjpeckjmaaDoor Go.Proofs.YteckkbjpeckjmaaDoor.Cb
set_option linter.unusedVariables false
set_option linter.unusedSimpArgs false
set_option maxRecDepth 100000
theorem str_keyed : Keyed Tryd.prog 9 := string_keyed Tryd.underlying9
theorem zero_int (w : World) : (zeroValue 3).run Tryd.prog w = .ok (.int .i64 0) w := by kernel_rfl
theorem wf_i64J {a : Int} (h1 : -9223372036854775808 ≤ a) (h2 : a ≤ 9223372036854775807) : (Lit.int .i64 a).wf = true := by
  have e1 : IntKind.min .i64 = -9223372036854775808 := by decide
  have e2 : IntKind.max .i64 = 9223372036854775807 := by decide
  simp only [Lit.wf, e1, e2, Bool.and_eq_true, decide_eq_true_eq]
  exact ⟨h1, h2⟩
theorem key_str {t : List UInt8} (h : t.length ≤ maxLen) : keyOf Tryd.prog 9 (.string ⟨t.toArray⟩) = some (.string t) := by
  rw [WideMaps.keyOf_string_mk Tryd.underlying9 (by simpa [ByteArray.size] using h)]
theorem own_blockJ {w w' : World} {P : Program} {k : TypeId} {R : Value → Option (DataW Unit × List MemPlace)} {b n : Nat} {D : DataW Unit} (h : w.ownsMap P k R b n D) (hb' : w'.heap[b]? = w.heap[b]?) : w'.ownsMap P k R b n D := by
  obtain ⟨es, clock, hb, F, hs, rfl⟩ := h
  exact ⟨es, clock, hb'.trans hb, F, hs, rfl⟩
theorem turned_otherJ {w w' : World} {b i : Nat} (h : w.mapTurned w' b) (hi : i ≠ b) : w'.heap[i]? = w.heap[i]? := by
  obtain ⟨es, clock, es', clock', hb, rfl⟩ := h
  exact ChangeMaps.heap_setBlock_other hb _ hi
/-- Block b is the map of the texts T to their places. -/
def NumM (w : World) (b : Nat) (T : List (List UInt8)) : Prop :=
  ∃ D : DataW Unit, w.ownsMap Tryd.prog 9 (plainElem Tryd.prog 3) b T.length D ∧ Maps.size D = T.length ∧
    ∀ t : List UInt8, (t ∈ T → Maps.has D (.string t) = true ∧ ∀ z, D.atKey (.string t) z = .lit (.int .i64 (pos T t : Nat))) ∧ (t ∉ T → Maps.has D (.string t) = false)
theorem NumM.block {w w' : World} {b : Nat} {T : List (List UInt8)} (h : NumM w b T) (hb : w'.heap[b]? = w.heap[b]?) : NumM w' b T := by
  obtain ⟨D, h1, h2⟩ := h
  exact ⟨D, own_blockJ h1 hb, h2⟩
theorem NumM.obj {w : World} {b : Nat} {T : List (List UInt8)} (h : NumM w b T) : ∃ es clock, w.heap[b]? = some (.map es clock) := by
  obtain ⟨D, ⟨es, clock, hb, _⟩, _⟩ := h
  exact ⟨es, clock, hb⟩
theorem NumM.made (w : World) : NumM (w.alloc (.map #[] 0)) w.heap.size [] :=
  ⟨.map [], World.ownsMap_made _ _ _ _, rfl, fun t => ⟨fun h => absurd h (by simp), fun _ => rfl⟩⟩
theorem NumM.old {w : World} {b : Nat} {T : List (List UInt8)} (h : NumM w b T) {t : List UInt8} (ht : t ∈ T) (hl : t.length ≤ maxLen) :
    (Instr.lookup 142 (.map (some b)) (.string ⟨t.toArray⟩) true).run Tryd.prog w = .ok (.tuple #[.int .i64 (pos T t : Nat), .bool true]) w := by
  obtain ⟨D, h1, h2, h3⟩ := h
  obtain ⟨v, ps, hrun, hv⟩ := h1.look_ok str_keyed Tryd.underlying142 (zero_int w) (plainElem_int (H := Unit) Tryd.underlying3 (a := 0) (by decide)) (key_str hl)
  obtain ⟨h5, h6⟩ := (h3 t).1 ht
  rw [h5] at hrun
  obtain ⟨a, rfl, ha, _⟩ := plainElem_int_inv Tryd.underlying3 hv
  rw [h6] at ha
  simp only [Prod.mk.injEq, DataW.lit.injEq, Lit.int.injEq, true_and] at ha
  rw [hrun, ha.1]
theorem NumM.new {w : World} {b : Nat} {T : List (List UInt8)} (h : NumM w b T) {t : List UInt8} (ht : t ∉ T) (hl : t.length ≤ maxLen) :
    (Instr.lookup 142 (.map (some b)) (.string ⟨t.toArray⟩) true).run Tryd.prog w = .ok (.tuple #[.int .i64 0, .bool false]) w := by
  obtain ⟨D, h1, h2, h3⟩ := h
  obtain ⟨v, ps, hrun, hv⟩ := h1.look_ok str_keyed Tryd.underlying142 (zero_int w) (plainElem_int (H := Unit) Tryd.underlying3 (a := 0) (by decide)) (key_str hl)
  have h5 := (h3 t).2 ht
  rw [h5] at hrun
  obtain ⟨a, rfl, ha, _⟩ := plainElem_int_inv Tryd.underlying3 hv
  rw [atKey_of_not_has h5] at ha
  simp only [Prod.mk.injEq, DataW.lit.injEq, Lit.int.injEq, true_and] at ha
  rw [hrun, ← ha.1]
theorem NumM.store {w : World} {b : Nat} {T : List (List UInt8)} (h : NumM w b T) {t : List UInt8} (ht : t ∉ T) (hl : t.length ≤ maxLen) (hT : T.length < 100000000) :
    ∃ w', (Instr.mapUpdate 142 (.map (some b)) (.string ⟨t.toArray⟩) (.int .i64 (T.length : Nat))).run Tryd.prog w = .ok () w' ∧ NumM w' b (T ++ [t]) ∧ w.mapTurned w' b := by
  obtain ⟨D, h1, h2, h3⟩ := h
  have hkl := key_str hl
  obtain ⟨w', hrun, h5, h6⟩ := h1.store str_keyed Tryd.underlying142 (by unfold maxLen; omega) hkl (plainElem_int (H := Unit) Tryd.underlying3 (a := ((T.length : Nat) : Int)) (wf_i64J (by omega) (by omega)))
  have hTd := h1.tidy str_keyed
  have hK := str_keyed.key hkl
  refine ⟨w', hrun, ⟨D.put (.string t) (.lit (.int .i64 ((T.length : Nat) : Int))), ?_, ?_, fun t' => ⟨fun hm => ?_, fun hm => ?_⟩⟩, h6⟩
  · rw [List.length_append]; exact h5
  · rw [size_put hTd, (h3 t).2 ht, h2, List.length_append]; rfl
  · by_cases e : t' = t
    · subst e
      refine ⟨has_put_same hTd.isMap hK _, fun z => ?_⟩
      rw [atKey_put_same hTd.isMap hK, pos_new ht]
    · have hll : (Lit.string t') ≠ .string t := fun h => e (by injection h)
      have hm' : t' ∈ T := by simpa [e] using hm
      obtain ⟨h7, h8⟩ := (h3 t').1 hm'
      exact ⟨by rw [has_put_other hll]; exact h7, fun z => by rw [atKey_put_other hll, h8 z, idx_pre (List.prefix_append _ _) hm']⟩
  · rw [List.mem_append, List.mem_singleton, not_or] at hm
    have hll : (Lit.string t') ≠ .string t := fun h => hm.2 (by injection h)
    rw [has_put_other hll]
    exact (h3 t').2 hm.1
/-- A row of one's own stays if its block stays. -/
theorem own_eq {w w' : World} {B e size n : Nat} {v : Value} {xs : List Value} (h : w.ownsRow B e size v n xs) (hb : ∀ g, v.ownBlock = some g → w'.heap[g]? = w.heap[g]?) : w'.ownsRow B e size v n xs := by
  refine ⟨h.1, ?_⟩
  rcases h.2 with h0 | ⟨g, cap, cur, hv, hg, hc, rest⟩
  · exact .inl h0
  · refine .inr ⟨g, cap, cur, hv, hg, ?_, rest⟩
    rw [hb g (by rw [hv]; rfl)]
    exact hc
def rov (Q : List (Nat × List Int)) : List Value := Q.map fun q => .slice (some ⟨q.1, 0, none⟩) q.2.length q.2.length
/-- Rows of numbers that a call makes, each in a block of its own that satisfies C. -/
def RowsO (B : Nat) (w : World) (rv : Value) (L : List (List Int)) (C : Nat → Prop) : Prop :=
  ∃ Q : List (Nat × List Int), Q.map (fun q => q.2) = L ∧ w.ownsRow B 23 1 rv L.length (rov Q) ∧ ∀ q ∈ Q, B ≤ q.1 ∧ C q.1 ∧ w.heap[q.1]? = some (Obj.cells (Nf.zvs q.2).toArray 3 (0, 0))
theorem RowsO.nil (B : Nat) (w : World) (C : Nat → Prop) : RowsO B w (.slice none 0 0) [] C := ⟨[], rfl, ⟨rfl, .inl ⟨rfl, rfl⟩⟩, fun q h => by cases h⟩
theorem RowsO.frame {B : Nat} {w w' : World} {rv : Value} {L : List (List Int)} {C C' : Nat → Prop} (h : RowsO B w rv L C) (hk : ∀ b, b < w.heap.size → B ≤ b → (C b ∨ rv.ownBlock = some b) → w'.heap[b]? = w.heap[b]?) (hC : ∀ b, b < w.heap.size → B ≤ b → C b → C' b) : RowsO B w' rv L C' := by
  obtain ⟨Q, e, ho, hq⟩ := h
  refine ⟨Q, e, own_eq ho fun g hg => ?_, fun q h1 => ?_⟩
  · have := own_lt ho hg
    exact hk g this.2 this.1 (.inr hg)
  · obtain ⟨h2, h3, h4⟩ := hq q h1
    exact ⟨h2, hC _ (blk_lt h4) h2 h3, (hk _ (blk_lt h4) h2 (.inl h3)).trans h4⟩
theorem RowsO.form {B : Nat} {w : World} {rv : Value} {L : List (List Int)} {C : Nat → Prop} (h : RowsO B w rv L C) : ∃ A c, rv = .slice A L.length c ∧ L.length ≤ c := by
  obtain ⟨Q, e, ho, hq⟩ := h
  exact Ap.own_form ho
theorem RowsO.own_ge {B : Nat} {w : World} {rv : Value} {L : List (List Int)} {C : Nat → Prop} (h : RowsO B w rv L C) {g : Nat} (hg : rv.ownBlock = some g) : B ≤ g ∧ g < w.heap.size ∧ ∃ cs fz, w.heap[g]? = some (Obj.cells cs 23 fz) := by
  obtain ⟨Q, e, ho, hq⟩ := h
  have := own_lt ho hg
  refine ⟨this.1, this.2, ?_⟩
  rcases ho.2 with ⟨h1, _⟩ | ⟨g', cap, cur, h1, _, hg', _⟩
  · rw [h1] at hg; simp [Value.ownBlock] at hg
  · rw [h1] at hg
    obtain rfl : g' = g := by simpa [Value.ownBlock] using hg
    exact ⟨_, _, hg'⟩
theorem RowsO.tabs {B : Nat} {w : World} {A : Option Addr} {n c : Nat} {L : List (List Int)} {C : Nat → Prop} (h : RowsO B w (.slice A n c) L C) (hn : n = L.length) : Dg.Tabs w A L := by
  obtain ⟨Q, e, ho, hq⟩ := h
  subst hn
  have hl : Q.length = L.length := by rw [← e, List.length_map]
  have hv := Vals.of_own (f := fun j => (rov Q).getD j (.slice none 0 0)) ho fun j hj => by
    have : j < (rov Q).length := by unfold rov; rw [List.length_map]; omega
    rw [List.getD_eq_getElem?_getD, List.getElem?_eq_getElem this]; rfl
  intro j hj
  obtain ⟨ad, e1, h1, h2⟩ := hv j hj
  have hjQ : j < Q.length := by omega
  obtain ⟨h3, h4, h5⟩ := hq Q[j] (List.getElem_mem hjQ)
  have e2 : Dg.tb L j = Q[j].2 := by
    unfold Dg.tb
    rw [← e, List.getD_eq_getElem?_getD, List.getElem?_map, List.getElem?_eq_getElem hjQ]; rfl
  refine ⟨ad, some ⟨Q[j].1, 0, none⟩, Q[j].2.length, e1, h1, ?_, ?_⟩
  · rw [h2, e2]
    unfold rov
    simp only [List.getD_eq_getElem?_getD, List.getElem?_map, List.getElem?_eq_getElem hjQ]
    rfl
  · rw [e2]
    intro k hk
    refine ⟨⟨Q[j].1, 0, none⟩, rfl, blk_lt h5, ?_⟩
    rw [Ap.addr_add]
    simp [World.cell?, h5, Nf.zvs, nd, List.getD_eq_getElem?_getD, List.getElem?_eq_getElem hk]
theorem RowsO.push {B : Nat} {w Z : World} {rv rv' : Value} {L : List (List Int)} {C C' : Nat → Prop} {Q : List (Nat × List Int)} {l : List Int} {gr : Nat} {tmp : Obj} (e : Q.map (fun q => q.2) = L) (hq : ∀ q ∈ Q, B ≤ q.1 ∧ C q.1 ∧ w.heap[q.1]? = some (Obj.cells (Nf.zvs q.2).toArray 3 (0, 0))) (hr : w.ownsRow B 23 1 rv L.length (rov Q))
    (hgB : B ≤ gr) (hgl : w.heap[gr]? = some (Obj.cells (Nf.zvs l).toArray 3 (0, 0))) (hown : Z.ownsRow B 23 1 rv' (L.length + 1) (rov Q ++ [.slice (some ⟨gr, 0, none⟩) l.length l.length])) (hg : (w.alloc tmp).grownBy Z rv.ownBlock) (hC : ∀ b, b < w.heap.size → C b → C' b) (hCg : C' gr) : RowsO B Z rv' (L ++ [l]) C' := by
  have keep : ∀ (g : Nat) (l : List Int), w.heap[g]? = some (Obj.cells (Nf.zvs l).toArray 3 (0, 0)) → Z.heap[g]? = some (Obj.cells (Nf.zvs l).toArray 3 (0, 0)) := fun g l h => by
    have hlt := blk_lt h
    exact ((hg.block g (by simp; omega) (fun e => own_ne h hr (by decide) e.symm)).trans (Below.heap_alloc w tmp g hlt)).trans h
  refine ⟨Q ++ [(gr, l)], by rw [List.map_append, e]; rfl, ?_, fun q h1 => ?_⟩
  · rw [List.length_append]
    have e2 : rov (Q ++ [(gr, l)]) = rov Q ++ [.slice (some ⟨gr, 0, none⟩) l.length l.length] := by unfold rov; rw [List.map_append]; rfl
    rw [e2]
    exact hown
  · rcases List.mem_append.1 h1 with h2 | h2
    · obtain ⟨h3, h4, h5⟩ := hq q h2
      exact ⟨h3, hC _ (blk_lt h5) h4, keep _ _ h5⟩
    · rw [List.mem_singleton] at h2
      subst h2
      exact ⟨hgB, hCg, keep _ _ hgl⟩
theorem made_ints (K : Nat) (hK : K ≤ 1000000) (W : World) : (Instr.makeSlice 23 (.int .i64 (K : Int)) (.int .i64 (K : Int))).run Tryd.prog W = .ok (.slice (some ⟨W.heap.size, 0, none⟩) K K) (W.alloc (.cells (cells K fun _ => .int .i64 0) 3)) := by
  obtain ⟨i0, hi, hz0, hz1, hz2⟩ := info_parts Nf.info_int6
  have := run_makeSlice (P := Tryd.prog) W 23 3 i0 _ Tryd.underlying23 hi hz0 .i64 .i64 (K : Int) (K : Int) (by omega) (Int.le_refl _) (by rw [hz1]; omega) (by rw [hz2]; omega) (by omega)
  rw [this, hz1, Int.toNat_natCast, Nat.mul_one, ← made_cells]
  rfl
end Go.Proofs.YteckkbjpeckjmaaDoor.Sb
