/- setText (package subset): the text of a set; sets in canonical form have the same text only if they are equal. -/
import Derived.Test.YtkgeihambgbjdaaDoorPE
import Derived.Test.YtkgeihambgbjdaaDoorJS
import Derived.Laws.IdiomStrings
import Derived.Lib.AppendIntMem
import Derived.Lib.ItoaLen
import Derived.Maps.OwnSet
import Derived.DeepKeys5
import Derived.Deep.DeepCutAuto
import Derived.Deep.LoopGhost
import Derived.WalkMore
import Derived.Test.YtkgeihambgbjdaaDoorPD
namespace Go.Proofs.YtkgeihambgbjdaaDoor.Sb
open Go Go.RowKit Go.Proofs.YtkgeihambgbjdaaDoor Go.Proofs.YtkgeihambgbjdaaDoor.Cb
open Go.Proofs.YtkgeihambgbjdaaDoor.Nf (zvs zvs_snoc info_int6 ret_int ret_b drew_below Bys Bys.below)
set_option linter.unusedVariables false
set_option linter.unusedSimpArgs false
set_option maxRecDepth 100000
theorem info_u8J : (Tryd.prog.info? 5).map (fun i => (i.zero, i.size, i.bytes)) = some (some (.int .u8 0), 1, 1) := by kernel_rfl
/-- The number that digits are. -/
def digVal (l : List UInt8) : Nat := l.foldl (fun a d => a * 10 + (d.toNat - 48)) 0
theorem digVal_snoc (l : List UInt8) (d : UInt8) : digVal (l ++ [d]) = digVal l * 10 + (d.toNat - 48) := by
  unfold digVal
  rw [List.foldl_append]
  rfl
theorem dec_step {u : Nat} (h : ¬ u < 10) : Lib.decDigits u = Lib.decDigits (u / 10) ++ [UInt8.ofNat (48 + u % 10)] := by
  conv => lhs; rw [Lib.decDigits]
  rw [dif_neg h]
theorem digVal_dec (u : Nat) : digVal (Lib.decDigits u) = u := by
  induction u using Nat.strongRecOn with
  | _ u ih =>
    by_cases h : u < 10
    · rw [Lib.decDigits_one h]
      show 0 * 10 + ((UInt8.ofNat (48 + u)).toNat - 48) = u
      rw [UInt8.toNat_ofNat_of_lt' (by show 48 + u < 256; omega)]
      omega
    · rw [dec_step h, digVal_snoc, ih (u / 10) (by omega), UInt8.toNat_ofNat_of_lt' (by show 48 + u % 10 < 256; omega)]
      omega
theorem dec_inj {u v : Nat} (h : Lib.decDigits u = Lib.decDigits v) : u = v := by rw [← digVal_dec u, h, digVal_dec v]
theorem dec_ge (u : Nat) : ∀ d ∈ Lib.decDigits u, 48 ≤ d.toNat := by
  induction u using Nat.strongRecOn with
  | _ u ih =>
    by_cases h : u < 10
    · rw [Lib.decDigits_one h]
      intro d hd
      rw [List.mem_singleton] at hd
      subst hd
      rw [UInt8.toNat_ofNat_of_lt' (by show 48 + u < 256; omega)]
      omega
    · rw [dec_step h]
      intro d hd
      rcases List.mem_append.1 hd with h1 | h1
      · exact ih _ (by omega) d h1
      · rw [List.mem_singleton] at h1
        subst h1
        rw [UInt8.toNat_ofNat_of_lt' (by show 48 + u % 10 < 256; omega)]
        omega
/-- The text of a set: its words. -/
def txtS (xs : List Nat) : List UInt8 := xs.flatMap fun w => Lib.decDigits w ++ [32]
theorem dec_cut {a b : List UInt8} (ha : ∀ d ∈ a, 48 ≤ d.toNat) (hb : ∀ d ∈ b, 48 ≤ d.toNat) {s t : List UInt8} (h : a ++ 32 :: s = b ++ 32 :: t) : a = b ∧ s = t := by
  induction a generalizing b with
  | nil =>
    cases b with
    | nil => simp at h; exact ⟨rfl, h⟩
    | cons y b =>
      simp at h
      have := hb y (by simp)
      rw [← h.1] at this
      exact absurd this (by decide)
  | cons x a ih =>
    cases b with
    | nil =>
      simp at h
      have := ha x (by simp)
      rw [h.1] at this
      exact absurd this (by decide)
    | cons y b =>
      simp at h
      obtain ⟨h1, h2⟩ := ih (fun d hd => ha d (by simp [hd])) (fun d hd => hb d (by simp [hd])) h.2
      exact ⟨by rw [h.1, h1], h2⟩
theorem txtS_inj : ∀ {xs ys : List Nat}, txtS xs = txtS ys → xs = ys
  | [], [], _ => rfl
  | [], y :: ys, h => by
    unfold txtS at h
    rw [List.flatMap_nil, List.flatMap_cons] at h
    simp at h
  | x :: xs, [], h => by
    unfold txtS at h
    rw [List.flatMap_nil, List.flatMap_cons] at h
    simp at h
  | x :: xs, y :: ys, h => by
    unfold txtS at h
    rw [List.flatMap_cons, List.flatMap_cons, List.append_assoc, List.append_assoc, List.singleton_append, List.singleton_append] at h
    obtain ⟨h1, h2⟩ := dec_cut (dec_ge x) (dec_ge y) h
    rw [dec_inj h1, txtS_inj h2]
theorem txtS_snoc {xs : List Nat} {k : Nat} (h : k < xs.length) : txtS (xs.take (k + 1)) = txtS (xs.take k) ++ (Lib.decDigits (wd xs k) ++ [32]) := by
  unfold txtS
  rw [List.take_add_one, List.getElem?_eq_getElem h, List.flatMap_append]
  unfold wd
  rw [List.getD_eq_getElem?_getD, List.getElem?_eq_getElem h]
  simp
theorem dec_len {u : Nat} (h : u < 18446744073709551616) : (Lib.decDigits u).length ≤ 20 := by
  rw [Lib.decDigits_length]
  by_cases h0 : u = 0
  · subst h0; rw [Lib.nDigits_small (by decide)]; decide
  · have := Lib.numDigits_eq u (by omega) h
    split at this <;> omega
theorem txtS_len {xs : List Nat} (ux : U64 xs) : (txtS xs).length ≤ xs.length * 21 := by
  unfold txtS
  induction xs with
  | nil => simp
  | cons a l ih =>
    rw [List.flatMap_cons, List.length_append, List.length_append]
    have h1 := ih fun x hx => ux x (by simp [hx])
    have h2 := dec_len (u := a) (ux a (by simp))
    show _ + 1 + _ ≤ (l.length + 1) * 21
    omega
/-- The two tables of the library that are read. -/
structure Tabs2 (w : World) : Prop where
  tz : Tab w
  pw : Lib.TabIs Tryd.prog w "internal/strconv.uint64pow10" .u64 Lib.pow10Tab
theorem Tabs2.below {w w' : World} (h : Tabs2 w) (hb : Below w.heap.size w w') : Tabs2 w' := ⟨h.tz.below hb, Lib.tabBelow_of_tabIs h.pw _ hb⟩
end Go.Proofs.YtkgeihambgbjdaaDoor.Sb
/- The numbers of texts, in a map that the call makes. -/
namespace Go.Proofs.YtkgeihambgbjdaaDoor.Sb
open Go Go.RowKit Go.Maps Go.Proofs.YtkgeihambgbjdaaDoor Go.Proofs.YtkgeihambgbjdaaDoor.Cb
set_option linter.unusedVariables false
set_option linter.unusedSimpArgs false
set_option maxRecDepth 100000
theorem str_keyed : Keyed Tryd.prog 9 := string_keyed Tryd.underlying9
theorem zero_int (w : World) : (zeroValue 3).run Tryd.prog w = .ok (.int .i64 0) w := by kernel_rfl
theorem wf_i64J {a : Int} (h1 : -9223372036854775808 ≤ a) (h2 : a ≤ 9223372036854775807) : (Lit.int .i64 a).wf = true := by
  have e1 : IntKind.min .i64 = -9223372036854775808 := by decide
  have e2 : IntKind.max .i64 = 9223372036854775807 := by decide
  simp only [Lit.wf, e1, e2, Bool.and_eq_true, decide_eq_true_eq]
  exact ⟨h1, h2⟩
theorem key_str {t : List UInt8} (h : t.length ≤ maxLen) : keyOf Tryd.prog 9 (.string ⟨t.toArray⟩) = some (.string t) := by
  rw [WideMaps.keyOf_string_mk Tryd.underlying9 (by simpa [ByteArray.size] using h)]
theorem own_blockJ {w w' : World} {P : Program} {k : TypeId} {R : Value → Option (DataW Unit × List MemPlace)} {b n : Nat} {D : DataW Unit} (h : w.ownsMap P k R b n D) (hb' : w'.heap[b]? = w.heap[b]?) : w'.ownsMap P k R b n D := by
  obtain ⟨es, clock, hb, F, hs, rfl⟩ := h
  exact ⟨es, clock, hb'.trans hb, F, hs, rfl⟩
theorem turned_otherJ {w w' : World} {b i : Nat} (h : w.mapTurned w' b) (hi : i ≠ b) : w'.heap[i]? = w.heap[i]? := by
  obtain ⟨es, clock, es', clock', hb, rfl⟩ := h
  exact ChangeMaps.heap_setBlock_other hb _ hi
/-- Block b is the map of the texts T to their places. -/
def NumM (w : World) (b : Nat) (T : List (List UInt8)) : Prop :=
  ∃ D : DataW Unit, w.ownsMap Tryd.prog 9 (plainElem Tryd.prog 3) b T.length D ∧ Maps.size D = T.length ∧
    ∀ t : List UInt8, (t ∈ T → Maps.has D (.string t) = true ∧ ∀ z, D.atKey (.string t) z = .lit (.int .i64 (pos T t : Nat))) ∧ (t ∉ T → Maps.has D (.string t) = false)
theorem NumM.block {w w' : World} {b : Nat} {T : List (List UInt8)} (h : NumM w b T) (hb : w'.heap[b]? = w.heap[b]?) : NumM w' b T := by
  obtain ⟨D, h1, h2⟩ := h
  exact ⟨D, own_blockJ h1 hb, h2⟩
theorem NumM.obj {w : World} {b : Nat} {T : List (List UInt8)} (h : NumM w b T) : ∃ es clock, w.heap[b]? = some (.map es clock) := by
  obtain ⟨D, ⟨es, clock, hb, _⟩, _⟩ := h
  exact ⟨es, clock, hb⟩
theorem NumM.made (w : World) : NumM (w.alloc (.map #[] 0)) w.heap.size [] :=
  ⟨.map [], World.ownsMap_made _ _ _ _, rfl, fun t => ⟨fun h => absurd h (by simp), fun _ => rfl⟩⟩
theorem NumM.old {w : World} {b : Nat} {T : List (List UInt8)} (h : NumM w b T) {t : List UInt8} (ht : t ∈ T) (hl : t.length ≤ maxLen) :
    (Instr.lookup 101 (.map (some b)) (.string ⟨t.toArray⟩) true).run Tryd.prog w = .ok (.tuple #[.int .i64 (pos T t : Nat), .bool true]) w := by
  obtain ⟨D, h1, h2, h3⟩ := h
  obtain ⟨v, ps, hrun, hv⟩ := h1.look_ok str_keyed Tryd.underlying101 (zero_int w) (plainElem_int (H := Unit) Tryd.underlying3 (a := 0) (by decide)) (key_str hl)
  obtain ⟨h5, h6⟩ := (h3 t).1 ht
  rw [h5] at hrun
  obtain ⟨a, rfl, ha, _⟩ := plainElem_int_inv Tryd.underlying3 hv
  rw [h6] at ha
  simp only [Prod.mk.injEq, DataW.lit.injEq, Lit.int.injEq, true_and] at ha
  rw [hrun, ha.1]
theorem NumM.new {w : World} {b : Nat} {T : List (List UInt8)} (h : NumM w b T) {t : List UInt8} (ht : t ∉ T) (hl : t.length ≤ maxLen) :
    (Instr.lookup 101 (.map (some b)) (.string ⟨t.toArray⟩) true).run Tryd.prog w = .ok (.tuple #[.int .i64 0, .bool false]) w := by
  obtain ⟨D, h1, h2, h3⟩ := h
  obtain ⟨v, ps, hrun, hv⟩ := h1.look_ok str_keyed Tryd.underlying101 (zero_int w) (plainElem_int (H := Unit) Tryd.underlying3 (a := 0) (by decide)) (key_str hl)
  have h5 := (h3 t).2 ht
  rw [h5] at hrun
  obtain ⟨a, rfl, ha, _⟩ := plainElem_int_inv Tryd.underlying3 hv
  rw [atKey_of_not_has h5] at ha
  simp only [Prod.mk.injEq, DataW.lit.injEq, Lit.int.injEq, true_and] at ha
  rw [hrun, ← ha.1]
theorem NumM.store {w : World} {b : Nat} {T : List (List UInt8)} (h : NumM w b T) {t : List UInt8} (ht : t ∉ T) (hl : t.length ≤ maxLen) (hT : T.length < 100000000) :
    ∃ w', (Instr.mapUpdate 101 (.map (some b)) (.string ⟨t.toArray⟩) (.int .i64 (T.length : Nat))).run Tryd.prog w = .ok () w' ∧ NumM w' b (T ++ [t]) ∧ w.mapTurned w' b := by
  obtain ⟨D, h1, h2, h3⟩ := h
  have hkl := key_str hl
  obtain ⟨w', hrun, h5, h6⟩ := h1.store str_keyed Tryd.underlying101 (by unfold maxLen; omega) hkl (plainElem_int (H := Unit) Tryd.underlying3 (a := ((T.length : Nat) : Int)) (wf_i64J (by omega) (by omega)))
  have hTd := h1.tidy str_keyed
  have hK := str_keyed.key hkl
  refine ⟨w', hrun, ⟨D.put (.string t) (.lit (.int .i64 ((T.length : Nat) : Int))), ?_, ?_, fun t' => ⟨fun hm => ?_, fun hm => ?_⟩⟩, h6⟩
  · rw [List.length_append]; exact h5
  · rw [size_put hTd, (h3 t).2 ht, h2, List.length_append]; rfl
  · by_cases e : t' = t
    · subst e
      refine ⟨has_put_same hTd.isMap hK _, fun z => ?_⟩
      rw [atKey_put_same hTd.isMap hK, pos_new ht]
    · have hll : (Lit.string t') ≠ .string t := fun h => e (by injection h)
      have hm' : t' ∈ T := by simpa [e] using hm
      obtain ⟨h7, h8⟩ := (h3 t').1 hm'
      exact ⟨by rw [has_put_other hll]; exact h7, fun z => by rw [atKey_put_other hll, h8 z, idx_pre (List.prefix_append _ _) hm']⟩
  · rw [List.mem_append, List.mem_singleton, not_or] at hm
    have hll : (Lit.string t') ≠ .string t := fun h => hm.2 (by injection h)
    rw [has_put_other hll]
    exact (h3 t').2 hm.1
/-- A row of one's own stays if its block stays. -/
theorem own_eq {w w' : World} {B e size n : Nat} {v : Value} {xs : List Value} (h : w.ownsRow B e size v n xs) (hb : ∀ g, v.ownBlock = some g → w'.heap[g]? = w.heap[g]?) : w'.ownsRow B e size v n xs := by
  refine ⟨h.1, ?_⟩
  rcases h.2 with h0 | ⟨g, cap, cur, hv, hg, hc, rest⟩
  · exact .inl h0
  · refine .inr ⟨g, cap, cur, hv, hg, ?_, rest⟩
    rw [hb g (by rw [hv]; rfl)]
    exact hc
def rov (Q : List (Nat × List Int)) : List Value := Q.map fun q => .slice (some ⟨q.1, 0, none⟩) q.2.length q.2.length
/-- Rows of numbers that a call makes, each in a block of its own that satisfies C. -/
def RowsO (B : Nat) (w : World) (rv : Value) (L : List (List Int)) (C : Nat → Prop) : Prop :=
  ∃ Q : List (Nat × List Int), Q.map (fun q => q.2) = L ∧ w.ownsRow B 33 1 rv L.length (rov Q) ∧ ∀ q ∈ Q, B ≤ q.1 ∧ C q.1 ∧ w.heap[q.1]? = some (Obj.cells (Nf.zvs q.2).toArray 3 (0, 0))
theorem RowsO.nil (B : Nat) (w : World) (C : Nat → Prop) : RowsO B w (.slice none 0 0) [] C := ⟨[], rfl, ⟨rfl, .inl ⟨rfl, rfl⟩⟩, fun q h => by cases h⟩
theorem RowsO.frame {B : Nat} {w w' : World} {rv : Value} {L : List (List Int)} {C C' : Nat → Prop} (h : RowsO B w rv L C) (hk : ∀ b, b < w.heap.size → B ≤ b → (C b ∨ rv.ownBlock = some b) → w'.heap[b]? = w.heap[b]?) (hC : ∀ b, b < w.heap.size → B ≤ b → C b → C' b) : RowsO B w' rv L C' := by
  obtain ⟨Q, e, ho, hq⟩ := h
  refine ⟨Q, e, own_eq ho fun g hg => ?_, fun q h1 => ?_⟩
  · have := own_lt ho hg
    exact hk g this.2 this.1 (.inr hg)
  · obtain ⟨h2, h3, h4⟩ := hq q h1
    exact ⟨h2, hC _ (blk_lt h4) h2 h3, (hk _ (blk_lt h4) h2 (.inl h3)).trans h4⟩
theorem RowsO.form {B : Nat} {w : World} {rv : Value} {L : List (List Int)} {C : Nat → Prop} (h : RowsO B w rv L C) : ∃ A c, rv = .slice A L.length c ∧ L.length ≤ c := by
  obtain ⟨Q, e, ho, hq⟩ := h
  exact Ap.own_form ho
theorem RowsO.own_ge {B : Nat} {w : World} {rv : Value} {L : List (List Int)} {C : Nat → Prop} (h : RowsO B w rv L C) {g : Nat} (hg : rv.ownBlock = some g) : B ≤ g ∧ g < w.heap.size ∧ ∃ cs fz, w.heap[g]? = some (Obj.cells cs 33 fz) := by
  obtain ⟨Q, e, ho, hq⟩ := h
  have := own_lt ho hg
  refine ⟨this.1, this.2, ?_⟩
  rcases ho.2 with ⟨h1, _⟩ | ⟨g', cap, cur, h1, _, hg', _⟩
  · rw [h1] at hg; simp [Value.ownBlock] at hg
  · rw [h1] at hg
    obtain rfl : g' = g := by simpa [Value.ownBlock] using hg
    exact ⟨_, _, hg'⟩
theorem RowsO.tabs {B : Nat} {w : World} {A : Option Addr} {n c : Nat} {L : List (List Int)} {C : Nat → Prop} (h : RowsO B w (.slice A n c) L C) (hn : n = L.length) : Dg.Tabs w A L := by
  obtain ⟨Q, e, ho, hq⟩ := h
  subst hn
  have hl : Q.length = L.length := by rw [← e, List.length_map]
  have hv := Vals.of_own (f := fun j => (rov Q).getD j (.slice none 0 0)) ho fun j hj => by
    have : j < (rov Q).length := by unfold rov; rw [List.length_map]; omega
    rw [List.getD_eq_getElem?_getD, List.getElem?_eq_getElem this]; rfl
  intro j hj
  obtain ⟨ad, e1, h1, h2⟩ := hv j hj
  have hjQ : j < Q.length := by omega
  obtain ⟨h3, h4, h5⟩ := hq Q[j] (List.getElem_mem hjQ)
  have e2 : Dg.tb L j = Q[j].2 := by
    unfold Dg.tb
    rw [← e, List.getD_eq_getElem?_getD, List.getElem?_map, List.getElem?_eq_getElem hjQ]; rfl
  refine ⟨ad, some ⟨Q[j].1, 0, none⟩, Q[j].2.length, e1, h1, ?_, ?_⟩
  · rw [h2, e2]
    unfold rov
    simp only [List.getD_eq_getElem?_getD, List.getElem?_map, List.getElem?_eq_getElem hjQ]
    rfl
  · rw [e2]
    intro k hk
    refine ⟨⟨Q[j].1, 0, none⟩, rfl, blk_lt h5, ?_⟩
    rw [Ap.addr_add]
    simp [World.cell?, h5, Nf.zvs, nd, List.getD_eq_getElem?_getD, List.getElem?_eq_getElem hk]
theorem RowsO.push {B : Nat} {w Z : World} {rv rv' : Value} {L : List (List Int)} {C C' : Nat → Prop} {Q : List (Nat × List Int)} {l : List Int} {gr : Nat} {tmp : Obj} (e : Q.map (fun q => q.2) = L) (hq : ∀ q ∈ Q, B ≤ q.1 ∧ C q.1 ∧ w.heap[q.1]? = some (Obj.cells (Nf.zvs q.2).toArray 3 (0, 0))) (hr : w.ownsRow B 33 1 rv L.length (rov Q))
    (hgB : B ≤ gr) (hgl : w.heap[gr]? = some (Obj.cells (Nf.zvs l).toArray 3 (0, 0))) (hown : Z.ownsRow B 33 1 rv' (L.length + 1) (rov Q ++ [.slice (some ⟨gr, 0, none⟩) l.length l.length])) (hg : (w.alloc tmp).grownBy Z rv.ownBlock) (hC : ∀ b, b < w.heap.size → C b → C' b) (hCg : C' gr) : RowsO B Z rv' (L ++ [l]) C' := by
  have keep : ∀ (g : Nat) (l : List Int), w.heap[g]? = some (Obj.cells (Nf.zvs l).toArray 3 (0, 0)) → Z.heap[g]? = some (Obj.cells (Nf.zvs l).toArray 3 (0, 0)) := fun g l h => by
    have hlt := blk_lt h
    exact ((hg.block g (by simp; omega) (fun e => own_ne h hr (by decide) e.symm)).trans (Below.heap_alloc w tmp g hlt)).trans h
  refine ⟨Q ++ [(gr, l)], by rw [List.map_append, e]; rfl, ?_, fun q h1 => ?_⟩
  · rw [List.length_append]
    have e2 : rov (Q ++ [(gr, l)]) = rov Q ++ [.slice (some ⟨gr, 0, none⟩) l.length l.length] := by unfold rov; rw [List.map_append]; rfl
    rw [e2]
    exact hown
  · rcases List.mem_append.1 h1 with h2 | h2
    · obtain ⟨h3, h4, h5⟩ := hq q h2
      exact ⟨h3, hC _ (blk_lt h5) h4, keep _ _ h5⟩
    · rw [List.mem_singleton] at h2
      subst h2
      exact ⟨hgB, hCg, keep _ _ hgl⟩
theorem made_ints (K : Nat) (hK : K ≤ 1000000) (W : World) : (Instr.makeSlice 33 (.int .i64 (K : Int)) (.int .i64 (K : Int))).run Tryd.prog W = .ok (.slice (some ⟨W.heap.size, 0, none⟩) K K) (W.alloc (.cells (cells K fun _ => .int .i64 0) 3)) := by
  obtain ⟨i0, hi, hz0, hz1, hz2⟩ := info_parts Nf.info_int6
  have := run_makeSlice (P := Tryd.prog) W 33 3 i0 _ Tryd.underlying33 hi hz0 .i64 .i64 (K : Int) (K : Int) (by omega) (Int.le_refl _) (by rw [hz1]; omega) (by rw [hz2]; omega) (by omega)
  rw [this, hz1, Int.toNat_natCast, Nat.mul_one, ← made_cells]
  rfl
end Go.Proofs.YtkgeihambgbjdaaDoor.Sb
/- explore (package subset) over sets: numbering by first visit. -/
namespace Go.Proofs.YtkgeihambgbjdaaDoor.Sb.Xs
open Go Go.RowKit Go.Maps Go.Proofs.YtkgeihambgbjdaaDoor Go.Proofs.YtkgeihambgbjdaaDoor.Cb Go.Proofs.YtkgeihambgbjdaaDoor.Sb
open Go.Proofs.YtkgeihambgbjdaaDoor.Nf (zvs zvs_snoc info_int6 ret_int ret_b drew_below)
open Go.Proofs.YtkgeihambgbjdaaDoor.Dg (OwnT OwnT.nil own_push Tabs)
set_option linter.unusedVariables false
set_option linter.unusedSimpArgs false
set_option maxRecDepth 100000
abbrev R (w : World) (v : Value) (s : List Nat) : Prop := SetR w v s
/-- One word at most. -/
def P (s : List Nat) : Prop := U64 s ∧ s.length ≤ 64
def key (s : List Nat) : List UInt8 := txtS s
theorem key_inj : ∀ s t, P s → P t → key s = key t → s = t := fun _ _ _ _ h => txtS_inj h
theorem key_len {s : List Nat} (h : P s) : (key s).length ≤ maxLen := by
  have h1 := txtS_len h.1
  have h2 := h.2
  unfold key maxLen
  omega
theorem R_below {w w' : World} {v : Value} {s : List Nat} (h : R w v s) (hb : Below w.heap.size w w') : R w' v s := SetR.below h hb
theorem R_keep {w w' : World} {v : Value} {s : List Nat} (h : R w v s) (hs : w.heap.size ≤ w'.heap.size) (hk : ∀ (b : Nat) (cs : Array Value) (fz : Nat × Nat), w.heap[b]? = some (Obj.cells cs 116 fz) → w'.heap[b]? = some (Obj.cells cs 116 fz)) : R w' v s := SetR.keep h hs hk
theorem info_S : (Tryd.prog.info? 106).map (fun i => (i.zero, i.size, i.bytes)) = some (some (.slice none 0 0), 1, 24) := by kernel_rfl
theorem grown_frame {B : Nat} {w w' : World} {fv : Value} {n : Nat} {xs : List Value} {e : TypeId} (ho : w.ownsRow B e 1 fv n xs) (hg : w.grownBy w' fv.ownBlock) (hB : B ≤ w.heap.size) : Below B w w' :=
  (Below.refl _ _).grown hg hB (fun q hq => (ho.lt q hq).1)
end Go.Proofs.YtkgeihambgbjdaaDoor.Sb.Xs
/- explore (package subset) over sets. -/
namespace Go.Proofs.YtkgeihambgbjdaaDoor.Sb.Xs
open Go Go.RowKit Go.Maps Go.Proofs.YtkgeihambgbjdaaDoor Go.Proofs.YtkgeihambgbjdaaDoor.Cb Go.Proofs.YtkgeihambgbjdaaDoor.Sb
open Go.Proofs.YtkgeihambgbjdaaDoor.Nf (zvs zvs_snoc info_int6 ret_int ret_b drew_below)
set_option linter.unusedVariables false
set_option linter.unusedSimpArgs false
set_option maxRecDepth 100000
/-- One row so far: the numbers of the first j successors. -/
def rowC (F : List (List Nat)) (l : List (List Nat)) (j i : Nat) : Value := if i < j then (match l[i]? with | some s => .int .i64 (pos F s : Nat) | none => .int .i64 0) else .int .i64 0
/-- What a state's successors are, as a slice. -/
def SucR (B : Nat) (X : World) (L : List (List Nat)) (e : Ending) (w' : World) : Prop :=
  ∃ A c, e = .returned (.slice A L.length c) ∧ RowsR R w' A L ∧ Below X.heap.size X w' ∧ ∀ ad, A = some ad → L ≠ [] → ad.block < B ∨ X.heap.size ≤ ad.block
/-- What exploring leaves. -/
def ExplPost (w0 : World) (succ : (List Nat) → List (List Nat)) (bud : Nat) (RES : Option (List (List Nat))) (e : Ending) (w' : World) : Prop :=
  (RES = none ∧ e = .returned (.tuple #[.slice none 0 0, .slice none 0 0, .bool false]) ∧ Below w0.heap.size w0 w') ∨
  ∃ F fv rv, RES = some F ∧ e = .returned (.tuple #[fv, rv, .bool true]) ∧ (∃ vs : List Value, w'.ownsRow w0.heap.size 106 1 fv F.length vs ∧ ∀ (i : Nat) (s : (List Nat)), F[i]? = some s → ∃ u : Value, vs[i]? = some u ∧ R w' u s) ∧ RowsO (w0.heap.size + 4) w' rv (nums succ F F.length) (fun g => fv.ownBlock ≠ some g) ∧ Below w0.heap.size w0 w'
theorem rowC_all (F l : List (List Nat)) : cells l.length (rowC F l l.length) = (zvs (l.map fun s => (pos F s : Int))).toArray := by
  unfold cells zvs
  congr 1
  refine List.ext_getElem (by simp) fun i h1 h2 => ?_
  simp at h1 h2 ⊢
  unfold rowC
  rw [if_pos h1, List.getElem?_eq_getElem h1]
def lenV : Value → Nat
  | .slice _ n _ => n
  | _ => 0
end Go.Proofs.YtkgeihambgbjdaaDoor.Sb.Xs
/- Determinize (package subset). -/
namespace Go.Proofs.YtkgeihambgbjdaaDoor.Sb
open Go Go.RowKit Go.Proofs.YtkgeihambgbjdaaDoor Go.Proofs.YtkgeihambgbjdaaDoor.Cb
open Go.Proofs.YtkgeihambgbjdaaDoor.Nf (Ed ed Na NaAt NaLen Ok ok_of chkN zvs zvs_snoc info_int6 ret_int ret_b inS Boxed4 Boxed5 hnext drew_below stepW asc_in OwnW.low u64_step has_st)
open Go.Proofs.YtkgeihambgbjdaaDoor.Dg (Tabs tb)
set_option linter.unusedVariables false
set_option linter.unusedSimpArgs false
set_option maxRecDepth 100000
/-- The sets to which the letters lead. -/
def succN (n : Na) (s : List Nat) : List (List Nat) := rowS (stepW n.es) (2 ^ n.V.toNat) s
def detN (n : Na) (b : Nat) : Option (List (List Nat)) := found (succN n) b (ofL n.st)
/-- The subset automaton of the sets F. -/
def detD (n : Na) (F : List (List Nat)) : Da := ⟨n.V, 0, nums (succN n) F F.length, F.map fun s => meetB s (ofL n.fi)⟩
def detE (n : Na) (b : Int) : Int := if chkN n ≠ 0 then chkN n else if 1 ≤ b ∧ b ≤ 4096 then (match detN n b.toNat with | none => 10 | some _ => 0) else 1
/-- A set of states. -/
def PN (n : Na) (s : List Nat) : Prop := canon s = s ∧ U64 s ∧ s.length ≤ 64 ∧ ∀ k ∈ els s, k < n.S.toNat
theorem pn_of {n : Na} (hO : Ok n) {l : List Int} (h : ∀ z ∈ l, 0 ≤ z ∧ z < n.S) : PN n (ofL l) := by
  have hI : Nf.IsSet (ofL l) (fun z => (0 ≤ z ∧ z ≤ 4095) ∧ z ∈ l) := ⟨ofL_canon _, u64_of _, fun z => Nf.has_ofL⟩
  refine ⟨ofL_canon _, u64_of _, hI.len, fun k hk => ?_⟩
  obtain ⟨h1, h2⟩ := els_mem.1 hk
  have h3 : hasB (ofL l) (k : Int) = true := by rw [Nf.has_nat h1]; exact h2
  have := h _ (Nf.has_ofL.1 h3).2
  omega
theorem pn_start {n : Na} (hO : Ok n) : PN n (ofL n.st) := pn_of hO fun z hz => asc_in hO.st hz
theorem pn_step {n : Na} (hO : Ok n) (s : List Nat) (x : Nat) : PN n (stepW n.es s x) := pn_of hO fun z hz => by
  obtain ⟨e, he, _, _, rfl⟩ := Nf.mem_tg.1 hz
  exact (Nf.edE_in (hO.ed e he)).2.1
theorem pn_succ {n : Na} (hO : Ok n) (s : List Nat) : ∀ t ∈ succN n s, PN n t := fun t ht => by
  obtain ⟨x, _, rfl⟩ := List.mem_map.1 ht
  exact pn_step hO s x
/-- Slices of numbers in a row of one's own. -/
def SetsO (B : Nat) (w : World) (sv : Value) (L : List (List Int)) : Prop :=
  ∃ Q : List (Value × List Int), Q.map (fun q => q.2) = L ∧ w.ownsRow B 33 1 sv L.length (Q.map fun q => q.1) ∧ ∀ q ∈ Q, w.ownsRow B 3 1 q.1 q.2.length (zvs q.2)
theorem SetsO.nil (B : Nat) (w : World) : SetsO B w (.slice none 0 0) [] := ⟨[], rfl, ⟨rfl, .inl ⟨rfl, rfl⟩⟩, fun q h => by cases h⟩
theorem SetsO.below {B : Nat} {w w' : World} {sv : Value} {L : List (List Int)} (h : SetsO B w sv L) (hb : Below w.heap.size w w') : SetsO B w' sv L := by
  obtain ⟨Q, e, ho, hq⟩ := h
  exact ⟨Q, e, ho.below hb, fun q h1 => (hq q h1).below hb⟩
theorem SetsO.low {B B' : Nat} {w : World} {sv : Value} {L : List (List Int)} (h : SetsO B w sv L) (hb : B' ≤ B) : SetsO B' w sv L := by
  obtain ⟨Q, e, ho, hq⟩ := h
  exact ⟨Q, e, ownsRow_mono ho hb, fun q h1 => ownsRow_mono (hq q h1) hb⟩
theorem SetsO.form {B : Nat} {w : World} {sv : Value} {L : List (List Int)} (h : SetsO B w sv L) : ∃ A c, sv = .slice A L.length c ∧ L.length ≤ c := by
  obtain ⟨Q, e, ho, hq⟩ := h
  exact Ap.own_form ho
/-- A change of another row, or of a block of other cells. -/
theorem SetsO.other {B e n : Nat} {w w' : World} {sv v : Value} {L : List (List Int)} {xs : List Value} (h : SetsO B w sv L) {B' size : Nat} (hv : w.ownsRow B' e size v n xs) (h1 : 33 ≠ e) (h2 : 3 ≠ e) (hg : w.grownBy w' v.ownBlock) : SetsO B w' sv L := by
  obtain ⟨Q, e', ho, hq⟩ := h
  exact ⟨Q, e', ho.kept hg (row_ne ho hv h1), fun q hq1 => (hq q hq1).kept hg (row_ne (hq q hq1) hv h2)⟩
theorem SetsO.put {B : Nat} {w : World} {sv : Value} {L : List (List Int)} (h : SetsO B w sv L) {b : Nat} {cs : Array Value} {t : TypeId} {fz : Nat × Nat} (hb : w.heap[b]? = some (Obj.cells cs t fz)) (h1 : 33 ≠ t) (h2 : 3 ≠ t) (j : Nat) (u : Value) : SetsO B (w.setCell ⟨b, j, none⟩ u) sv L := by
  obtain ⟨Q, e, ho, hq⟩ := h
  exact ⟨Q, e, row_put ho (own_ne hb ho h1) _ _, fun q hq1 => row_put (hq q hq1) (own_ne hb (hq q hq1) h2) _ _⟩
theorem SetsO.tabs {B : Nat} {w : World} {A : Option Addr} {n c : Nat} {L : List (List Int)} (h : SetsO B w (.slice A n c) L) (hn : n = L.length) : Tabs w A L := by
  obtain ⟨Q, e, ho, hq⟩ := h
  subst hn
  have hl : Q.length = L.length := by rw [← e, List.length_map]
  have hv := Vals.of_own (f := fun j => (Q.map fun q => q.1).getD j (.slice none 0 0)) ho fun j hj => by
    have : j < (Q.map fun q => q.1).length := by rw [List.length_map]; omega
    rw [List.getD_eq_getElem?_getD, List.getElem?_eq_getElem this]; rfl
  intro j hj
  obtain ⟨ad, e1, h1, h2⟩ := hv j hj
  have hjQ : j < Q.length := by omega
  have h3 := hq Q[j] (List.getElem_mem hjQ)
  obtain ⟨p, cp, ep, _⟩ := Ap.own_form h3
  have e2 : tb L j = Q[j].2 := by
    unfold tb
    rw [← e, List.getD_eq_getElem?_getD, List.getElem?_map, List.getElem?_eq_getElem hjQ]; rfl
  refine ⟨ad, p, cp, e1, h1, ?_, ?_⟩
  · rw [h2, e2, ← ep]
    simp only [List.getD_eq_getElem?_getD, List.getElem?_map, List.getElem?_eq_getElem hjQ]
    rfl
  · rw [e2]
    rw [ep] at h3
    exact Dg.ints_row h3 rfl
theorem SetsO.push {B : Nat} {w Z : World} {sv sv' v : Value} {L : List (List Int)} {l : List Int} {tmp : Obj} {Q : List (Value × List Int)} (e : Q.map (fun q => q.2) = L) (ho : w.ownsRow B 33 1 sv L.length (Q.map fun q => q.1)) (hq : ∀ q ∈ Q, w.ownsRow B 3 1 q.1 q.2.length (zvs q.2)) (hl : w.ownsRow B 3 1 v l.length (zvs l))
    (hown : Z.ownsRow B 33 1 sv' (L.length + 1) ((Q.map fun q => q.1) ++ [v])) (hg : (w.alloc tmp).grownBy Z sv.ownBlock) : SetsO B Z sv' (L ++ [l]) := by
  have keep : ∀ {v : Value} {l : List Int}, w.ownsRow B 3 1 v l.length (zvs l) → Z.ownsRow B 3 1 v l.length (zvs l) := fun {v l} h => (h.alloc tmp).kept hg (row_ne (h.alloc tmp) (ho.alloc tmp) (by decide))
  refine ⟨Q ++ [(v, l)], by rw [List.map_append, e]; rfl, ?_, fun q h1 => ?_⟩
  · rw [List.length_append, List.map_append]
    exact hown
  · rcases List.mem_append.1 h1 with h2 | h2
    · exact keep (hq q h2)
    · rw [List.mem_singleton] at h2
      subst h2
      exact keep hl
theorem RowsO.mono {B B' : Nat} {w : World} {rv : Value} {L : List (List Int)} {C : Nat → Prop} (h : RowsO B w rv L C) (hb : B' ≤ B) : RowsO B' w rv L fun _ => True := by
  obtain ⟨Q, e, ho, hq⟩ := h
  exact ⟨Q, e, ownsRow_mono ho hb, fun q h1 => ⟨Nat.le_trans hb (hq q h1).1, trivial, (hq q h1).2.2⟩⟩
/-- A block of four cells, known whole. -/
def Blk4 (w : World) (b : Nat) (v0 v1 v2 v3 : Value) : Prop := w.heap[b]? = some (.cells #[v0, v1, v2, v3] 25 (0, 0))
theorem Blk4.new (w : World) (v0 v1 v2 v3 : Value) : Blk4 (w.alloc (.cells #[v0, v1, v2, v3] 25)) w.heap.size v0 v1 v2 v3 := World.alloc_heap_new w _
theorem Blk4.below {w w' : World} {b : Nat} {v0 v1 v2 v3 : Value} (h : Blk4 w b v0 v1 v2 v3) (hb : Below w.heap.size w w') : Blk4 w' b v0 v1 v2 v3 := (hb.block b (blk_lt h)).trans h
theorem Blk4.cells {w : World} {b : Nat} {v0 v1 v2 v3 : Value} (h : Blk4 w b v0 v1 v2 v3) : w.cell? ⟨b, 0, none⟩ = some v0 ∧ w.cell? ⟨b, 1, none⟩ = some v1 ∧ w.cell? ⟨b, 2, none⟩ = some v2 ∧ w.cell? ⟨b, 3, none⟩ = some v3 := by
  unfold Blk4 at h
  simp [World.cell?, h]
theorem Blk4.set3 {w : World} {b : Nat} {v0 v1 v2 v3 : Value} (h : Blk4 w b v0 v1 v2 v3) (u : Value) : Blk4 (w.setCell ⟨b, 3, none⟩ u) b v0 v1 v2 u := heap_put h 3 u
def put4 (Y : World) (b : Nat) (v0 v1 v2 v3 : Value) : World := (((Y.setCell ⟨b, 0, none⟩ v0).setCell ⟨b, 1, none⟩ v1).setCell ⟨b, 2, none⟩ v2).setCell ⟨b, 3, none⟩ v3
theorem store4 {Y : World} {b : Nat} {u0 u1 u2 u3 : Value} (h : Blk4 Y b u0 u1 u2 u3) (v0 v1 v2 v3 : Value) :
    (Y.cell? ⟨b, 0, none⟩ = some u0 ∧ Y.frozen? ⟨b, 0, none⟩ = false) ∧ ((Y.setCell ⟨b, 0, none⟩ v0).cell? ⟨b, 1, none⟩ = some u1 ∧ (Y.setCell ⟨b, 0, none⟩ v0).frozen? ⟨b, 1, none⟩ = false) ∧
    (((Y.setCell ⟨b, 0, none⟩ v0).setCell ⟨b, 1, none⟩ v1).cell? ⟨b, 2, none⟩ = some u2 ∧ ((Y.setCell ⟨b, 0, none⟩ v0).setCell ⟨b, 1, none⟩ v1).frozen? ⟨b, 2, none⟩ = false) ∧
    ((((Y.setCell ⟨b, 0, none⟩ v0).setCell ⟨b, 1, none⟩ v1).setCell ⟨b, 2, none⟩ v2).cell? ⟨b, 3, none⟩ = some u3 ∧ (((Y.setCell ⟨b, 0, none⟩ v0).setCell ⟨b, 1, none⟩ v1).setCell ⟨b, 2, none⟩ v2).frozen? ⟨b, 3, none⟩ = false) ∧
    Blk4 (put4 Y b v0 v1 v2 v3) b v0 v1 v2 v3 ∧ ∀ B, B ≤ b → Below B Y (put4 Y b v0 v1 v2 v3) := by
  have h1 : Blk4 (Y.setCell ⟨b, 0, none⟩ v0) b v0 u1 u2 u3 := heap_put h 0 v0
  have h2 : Blk4 ((Y.setCell ⟨b, 0, none⟩ v0).setCell ⟨b, 1, none⟩ v1) b v0 v1 u2 u3 := heap_put h1 1 v1
  have h3 : Blk4 (((Y.setCell ⟨b, 0, none⟩ v0).setCell ⟨b, 1, none⟩ v1).setCell ⟨b, 2, none⟩ v2) b v0 v1 v2 u3 := heap_put h2 2 v2
  exact ⟨⟨h.cells.1, free_of h 0⟩, ⟨h1.cells.2.1, free_of h1 1⟩, ⟨h2.cells.2.2.1, free_of h2 2⟩, ⟨h3.cells.2.2.2, free_of h3 3⟩, heap_put h3 3 v3, fun B hB => ((((Below.refl B Y).setCell (p := ⟨b, 0, none⟩) hB _).setCell (p := ⟨b, 1, none⟩) hB _).setCell (p := ⟨b, 2, none⟩) hB _).setCell (p := ⟨b, 3, none⟩) hB _⟩
theorem put4_other {Y : World} {b k : Nat} (v0 v1 v2 v3 : Value) (h : k ≠ b) : (put4 Y b v0 v1 v2 v3).heap[k]? = Y.heap[k]? := by
  unfold put4
  rw [Below.heap_setCell _ _ _ k h, Below.heap_setCell _ _ _ k h, Below.heap_setCell _ _ _ k h, Below.heap_setCell _ _ _ k h]
theorem size_put (Y : World) (p : Addr) (v : Value) : (Y.setCell p v).heap.size = Y.heap.size := by show (Array.modify _ _ _).size = _; rw [Array.size_modify]
theorem put4_size (Y : World) (b : Nat) (v0 v1 v2 v3 : Value) : (put4 Y b v0 v1 v2 v3).heap.size = Y.heap.size := by
  unfold put4
  rw [size_put, size_put, size_put, size_put]
section
variable (n : Na) (A B C : Option Addr) (a b c : Nat) (w : World) (hx : NaAt w n A B C) (hl : NaLen n)
include hx hl
omit hx hl in
end
/-- What Determinize leaves. -/
structure DetO (B : Nat) (w : World) (n : Na) (F : List (List Nat)) (rv fv sv : Value) : Prop where
  nx : RowsO B w rv (nums (succN n) F F.length) fun _ => True
  fi : w.ownsRow B 4 1 fv F.length (F.map fun s => .bool (meetB s (ofL n.fi)))
  se : SetsO B w sv (F.map elsI)
def DetPost (w : World) (n : Na) (F : List (List Nat)) (e : Ending) (w' : World) : Prop := ∃ rv fv sv, e = .returned (.tuple #[.agg #[.int .i64 n.V, .int .i64 0, rv, fv], sv, .int .i64 0]) ∧ DetO w.heap.size w' n F rv fv sv ∧ Below w.heap.size w w'
theorem row_at {w : World} {B e n c k : Nat} {A : Option Addr} {vs : List Value} {u : Value} (h : w.ownsRow B e 1 (.slice A n c) n vs) (hk : k < n) (hu : vs[k]? = some u) : ∃ ad, A = some ad ∧ ad.block < w.heap.size ∧ w.cell? (ad.add k) = some u ∧ (Value.slice A n c).ownBlock = some ad.block := by
  rcases h.2 with ⟨h3, h4⟩ | ⟨g, cap, cur, h3, _, hg, _⟩
  · omega
  · injection h3 with h4
    subst h4
    exact ⟨_, rfl, lt_of_block hg, h.cells (g := g) rfl k u hu, rfl⟩
/-- A change of one block of other cells. -/
theorem SetsO.keep {B : Nat} {w w' : World} {sv : Value} {L : List (List Int)} (h : SetsO B w sv L) {g : Nat} {cs : Array Value} {t : TypeId} {fz : Nat × Nat} (hb : w.heap[g]? = some (Obj.cells cs t fz)) (h1 : 33 ≠ t) (h2 : 3 ≠ t) (hk : ∀ b, b ≠ g → w'.heap[b]? = w.heap[b]?) : SetsO B w' sv L := by
  obtain ⟨Q, e, ho, hq⟩ := h
  exact ⟨Q, e, own_eq ho fun g' hg => hk g' (fun e => own_ne hb ho h1 (e ▸ hg)), fun q hq1 => own_eq (hq q hq1) fun g' hg => hk g' (fun e => own_ne hb (hq q hq1) h2 (e ▸ hg))⟩
/-- Behind k finals and m sets. -/
structure DetL (w w4 : World) (n : Na) (F : List (List Nat)) (g1 : Nat) (rv : Value) (k m : Nat) (A3 : Option Addr) (c3 : Nat) (sv : Value) (X : World) : Prop where
  d : Blk4 X g1 (.int .i64 n.V) (.int .i64 0) rv (.slice A3 k c3)
  f : X.ownsRow w4.heap.size 4 1 (.slice A3 k c3) k ((F.take k).map fun s => .bool (meetB s (ofL n.fi)))
  s : SetsO w4.heap.size X sv ((F.take m).map elsI)
  fr : w4.heap.size ≤ X.heap.size ∧ ∀ b, b < w4.heap.size → b ≠ g1 → X.heap[b]? = w4.heap[b]?
  b : Below w.heap.size w X
  lo : w.heap.size ≤ g1 ∧ w.heap.size ≤ w4.heap.size
theorem DetL.c3 {w w4 : World} {n : Na} {F : List (List Nat)} {g1 : Nat} {rv : Value} {k m : Nat} {A3 : Option Addr} {c3 : Nat} {sv : Value} {X : World} (h : DetL w w4 n F g1 rv k m A3 c3 sv X) : X.cell? ⟨g1, 3, none⟩ = some (.slice A3 k c3) := h.d.cells.2.2.2
theorem DetL.below {w w4 : World} {n : Na} {F : List (List Nat)} {g1 : Nat} {rv : Value} {k m : Nat} {A3 : Option Addr} {c3 : Nat} {sv : Value} {X Y : World} (h : DetL w w4 n F g1 rv k m A3 c3 sv X) (hb : Below X.heap.size X Y) : DetL w w4 n F g1 rv k m A3 c3 sv Y :=
  ⟨h.d.below hb, h.f.below hb, h.s.below hb, ⟨Nat.le_trans h.fr.1 hb.size, fun b h1 h2 => (hb.block b (by have := h.fr.1; omega)).trans (h.fr.2 b h1 h2)⟩, stepB h.b hb, h.lo⟩
theorem take_snocF {F : List (List Nat)} {k : Nat} (hk : k < F.length) {α : Type} (f : List Nat → α) : (F.take (k + 1)).map f = (F.take k).map f ++ [f (F.getD k [])] := by
  rw [List.take_add_one, List.getElem?_eq_getElem hk, List.map_append, List.getD_eq_getElem?_getD, List.getElem?_eq_getElem hk]
  rfl
theorem DetL.fin {w w4 : World} {n : Na} {F : List (List Nat)} {g1 : Nat} {rv : Value} {k m : Nat} {A3 A4 : Option Addr} {c3 c4 : Nat} {sv : Value} {X Z : World} {tmp : Obj} (h : DetL w w4 n F g1 rv k m A3 c3 sv X) (hk : k < F.length)
    (ho : Z.ownsRow w4.heap.size 4 1 (.slice A4 (k + 1) c4) (k + 1) (((F.take k).map fun s => .bool (meetB s (ofL n.fi))) ++ [.bool (meetB (F.getD k []) (ofL n.fi))])) (hg : (X.alloc tmp).grownBy Z (Value.slice A3 k c3).ownBlock) :
    Blk4 Z g1 (.int .i64 n.V) (.int .i64 0) rv (.slice A3 k c3) ∧ DetL w w4 n F g1 rv (k + 1) m A4 c4 sv (Z.setCell ⟨g1, 3, none⟩ (.slice A4 (k + 1) c4)) := by
  have hd := h.d
  have hlt := blk_lt hd
  have hfr := h.fr
  have hlo := h.lo
  have hX := hg.size
  simp at hX
  have hZ : Blk4 Z g1 (.int .i64 n.V) (.int .i64 0) rv (.slice A3 k c3) := ((hg.block g1 (by simp; omega) (fun e => own_ne hd h.f (by decide) e.symm)).trans (Below.heap_alloc X tmp _ hlt)).trans hd
  have hsZ : SetsO w4.heap.size Z sv ((F.take m).map elsI) := (h.s.below (bal (Below.refl _ _) tmp)).other (h.f.alloc tmp) (by decide) (by decide) hg
  refine ⟨hZ, hZ.set3 _, ?_, hsZ.put hZ (by decide) (by decide) _ _, ⟨by rw [size_put]; omega, fun b hb hb1 => ?_⟩, ?_, hlo⟩
  · rw [take_snocF hk]
    exact row_put ho (own_ne hZ ho (by decide)) _ _
  · rw [Below.heap_setCell _ _ _ _ hb1]
    exact ((hg.block b (by simp; omega) (fun e => by have := own_lt h.f e.symm; omega)).trans (Below.heap_alloc X tmp b (by omega))).trans (hfr.2 b hb hb1)
  · exact ((h.b.alloc (by omega) tmp).grown hg (by simp; omega) (fun q hq => by have := own_lt h.f hq; omega)).setCell (p := ⟨g1, 3, none⟩) hlo.1 _
theorem DetL.set {w w4 : World} {n : Na} {F : List (List Nat)} {g1 : Nat} {rv : Value} {k m : Nat} {A3 : Option Addr} {c3 : Nat} {sv sv' v : Value} {X Z : World} {tmp : Obj} {Q : List (Value × List Int)} (h : DetL w w4 n F g1 rv k m A3 c3 sv X) (hm : m < F.length)
    (e : Q.map (fun q => q.2) = (F.take m).map elsI) (hoQ : X.ownsRow w4.heap.size 33 1 sv ((F.take m).map elsI).length (Q.map fun q => q.1)) (hq : ∀ q ∈ Q, X.ownsRow w4.heap.size 3 1 q.1 q.2.length (zvs q.2)) (hl : X.ownsRow w4.heap.size 3 1 v (elsI (F.getD m [])).length (zvs (elsI (F.getD m []))))
    (ho : Z.ownsRow w4.heap.size 33 1 sv' (((F.take m).map elsI).length + 1) ((Q.map fun q => q.1) ++ [v])) (hg : (X.alloc tmp).grownBy Z sv.ownBlock) : DetL w w4 n F g1 rv k (m + 1) A3 c3 sv' Z := by
  have hd := h.d
  have hlt := blk_lt hd
  have hfr := h.fr
  have hlo := h.lo
  have hX := hg.size
  simp at hX
  refine ⟨((hg.block g1 (by simp; omega) (fun e => own_ne hd hoQ (by decide) e.symm)).trans (Below.heap_alloc X tmp _ hlt)).trans hd, (h.f.alloc tmp).kept hg (row_ne (h.f.alloc tmp) (hoQ.alloc tmp) (by decide)), ?_, ⟨by omega, fun b hb hb1 => ?_⟩, ?_, hlo⟩
  · rw [take_snocF hm]
    exact SetsO.push e hoQ hq hl ho hg
  · exact ((hg.block b (by simp; omega) (fun e => by have := own_lt hoQ e.symm; omega)).trans (Below.heap_alloc X tmp b (by omega))).trans (hfr.2 b hb hb1)
  · exact (h.b.alloc (by omega) tmp).grown hg (by simp; omega) (fun q hq => by have := own_lt hoQ hq; omega)
theorem info_boolJ : (Tryd.prog.info? 4).map (fun i => (i.zero, i.size, i.bytes)) = some (some (.bool false), 1, 1) := by kernel_rfl
section
variable (n : Na) (A B C : Option Addr) (a b c : Nat) (w : World) (hx : NaAt w n A B C) (hl : NaLen n)
include hx hl
end
end Go.Proofs.YtkgeihambgbjdaaDoor.Sb
/- The kit's EqualRows, EqualBools, CopyBools, CopyRows, CopyDFA; the law's second. -/
namespace Go.Proofs.YtkgeihambgbjdaaDoor.Sb
open Go Go.RowKit Go.Proofs.YtkgeihambgbjdaaDoor Go.Proofs.YtkgeihambgbjdaaDoor.Cb
open Go.Proofs.YtkgeihambgbjdaaDoor.Nf (Ed ed Na NaAt NaLen zvs ret_int ret_b hnext drew_below exN exCells ex_cells ex_fine)
open Go.Proofs.YtkgeihambgbjdaaDoor.Dg (Tabs tb tb_mem)
set_option linter.unusedVariables false
set_option linter.unusedSimpArgs false
set_option maxRecDepth 100000
set_option maxHeartbeats 4000000 in
theorem EqualRows_same (A B : Option Addr) (L : List (List Int)) (c d : Nat) (w : World) (hx : Tabs w A L) (hy : Tabs w B L) (hl : L.length ≤ 1000000) (hs : ∀ u ∈ L, u.length ≤ 1000000) :
    Calls Tryd.prog 45 #[.slice A L.length c, .slice B L.length d] w fun e w' => e = .returned (.bool true) ∧ Below w.heap.size w w' := by
  have HE : Hid (∀ j, j < L.length → ∀ X p q c' d', Ints X p (tb L j) → Ints X q (tb L j) → Calls Tryd.prog 21 #[.slice p (tb L j).length c', .slice q (tb L j).length d'] X fun e w' => e = .returned (.bool true) ∧ Below X.heap.size X w') := fun j hj X p q c' d' h1 h2 => by
    have := Dg.EqualInts_any p q (tb L j) (tb L j) c' d' X h1 h2 (by have := hs _ (tb_mem hj); unfold maxLen; omega)
    rw [decide_eq_true rfl] at this
    exact this
  have HX := Lib.hid hx
  have HY := Lib.hid hy
  have hn0 : ((L.length : Int) != (L.length : Int)) = false := by simp
  clear hs hx hy
  go_enter Tryd.func45, Tryd.ntmps45
  go_wp2
  go_loopw [5] (fun i wr => ∃ k : Nat, k ≤ L.length ∧ i = .int .i64 k ∧ Below w.heap.size w wr) (fun i _ => L.length - (intOf i).toNat)
  case atStart => exact ⟨0, by omega, rfl, Below.refl _ _⟩
  case round =>
    obtain ⟨k, hk, rfl, hb⟩ := hrel
    by_cases hlt : k < L.length
    · obtain ⟨ad, p, c', rfl, hbk, hcell, hi⟩ := (HX.out.below hb) k hlt
      obtain ⟨bd, p', d', rfl, hbk', hcell', hi'⟩ := (HY.out.below hb) k hlt
      have HEk := Lib.hid fun X hX => HE.out k hlt X p p' c' d' (Vals.below hi hX) (Vals.below hi' hX)
      have hlt2 : (k : Int) < (L.length : Int) := by omega
      clear HE hi hi' HX HY
      generalize (tb L k).length = nk at *
      go_wp2
      have KE : Below wr.heap.size wr wr.drew := drew_below wr
      have hS : wr.drew.cell? (ad.add k) = some (.slice p nk c') ∧ wr.drew.cell? (bd.add k) = some (.slice p' nk d') ∧ Below wr.heap.size wr wr.drew := ⟨(KE.cell (by rw [addr_block]; exact hbk)).trans hcell, (KE.cell (by rw [addr_block]; exact hbk')).trans hcell', KE⟩
      go_region_held3 (fun w' => w'.cell? (ad.add k) = some (.slice p nk c') ∧ w'.cell? (bd.add k) = some (.slice p' nk d') ∧ Below wr.heap.size wr w')
        (first | assumption)
        ((go_at_call 21; ((with_reducible refine (HEk.out wr.drew KE).mono ?_); rintro e w2 ⟨rfl, hb2⟩); have K2 := stepB KE hb2; have hS2 : w2.cell? (ad.add k) = some (.slice p nk c') ∧ w2.cell? (bd.add k) = some (.slice p' nk d') ∧ Below wr.heap.size wr w2 := ⟨(K2.cell (by rw [addr_block]; exact hbk)).trans hcell, (K2.cell (by rw [addr_block]; exact hbk')).trans hcell', K2⟩))
      have K := hS2.2.2
      clear hS hS2 KE K2 hb2 HEk hcell hcell'
      go_wp2
      go_roundw
      case rel => exact ⟨k + 1, by omega, by go_num, stepB hb K⟩
      case measure => simp [intOf]; omega
    · obtain rfl : k = L.length := by omega
      clear HX HY HE
      go_wp2
      go_ret
      exact ⟨rfl, hb⟩
set_option maxHeartbeats 2000000 in
theorem EqualBools_same (A B : Option Addr) (l : List Bool) (c d : Nat) (w : World) (hx : Bools w A l) (hy : Bools w B l) (hl : l.length ≤ 1000000) :
    Calls Tryd.prog 46 #[.slice A l.length c, .slice B l.length d] w fun e w' => e = .returned (.bool true) ∧ ∃ n, w' = w.drewN n := by
  have hn0 : ((l.length : Int) != (l.length : Int)) = false := by simp
  go_enter Tryd.func46, Tryd.ntmps46
  go_wp2
  go_loopw [5] (fun i wr => ∃ k q : Nat, k ≤ l.length ∧ i = .int .i64 k ∧ wr = w.drewN q) (fun i _ => l.length - (intOf i).toNat)
  case atStart => exact ⟨0, 0, by omega, rfl, rfl⟩
  case round =>
    obtain ⟨k, q, hk, rfl, rfl⟩ := hrel
    by_cases hlt : k < l.length
    · obtain ⟨ad, rfl, hcell⟩ := Vals.at_ hx hlt
      obtain ⟨bd, rfl, hcell'⟩ := Vals.at_ hy hlt
      generalize l.getD k false = x at *
      have hne : (x != x) = false := by simp
      have hlt2 : (k : Int) < (l.length : Int) := by omega
      go_wp2
      go_quiet (fail)
      go_wp2
      go_roundw
      case rel => exact ⟨k + 1, _, by omega, by go_num, rfl⟩
      case measure => simp [intOf]; omega
    · obtain rfl : k = l.length := by omega
      go_wp2
      go_ret
      exact ⟨rfl, _, rfl⟩
theorem bools_list (l : List Bool) : (List.range l.length).map (fun j => Value.bool (l.getD j false)) = l.map Value.bool := by
  apply List.ext_getElem
  · simp
  · intro j h1 h2
    have : j < l.length := by simpa using h1
    simp [this]
theorem bools_own {w : World} {B n c : Nat} {A : Option Addr} {l : List Bool} (h : w.ownsRow B 4 1 (.slice A n c) n (l.map Value.bool)) (hn : n = l.length) : Bools w A l := by
  subst hn
  exact Vals.of_own h fun j hj => by simp [hj]
theorem CopyBools_any (A : Option Addr) (l : List Bool) (c : Nat) (w : World) (hx : Bools w A l) (hl : l.length ≤ 1000000) :
    Calls Tryd.prog 39 #[.slice A l.length c] w fun e w' => ∃ A' c', e = .returned (.slice A' l.length c') ∧ w'.ownsRow w.heap.size 4 1 (.slice A' l.length c') l.length (l.map Value.bool) ∧ Below w.heap.size w w' := by
  obtain ⟨i0, hi, hz0, hz1, hz2⟩ := info_parts info_boolJ
  have HM := Lib.hid (bools_list l)
  obtain ⟨n, hn⟩ : ∃ n, n = l.length := ⟨_, rfl⟩
  have hx2 : Vals w A n fun j => .bool (l.getD j false) := by rw [hn]; exact hx
  rw [← hn] at HM hl ⊢
  clear hn hx
  go_enter Tryd.func39, Tryd.ntmps39
  go_wp2_with (at_builtin; refine Ap.wpList_copy rfl _ _ 23 rfl 4 i0 (.bool false) 1 Tryd.underlying23 hi hz0 hz1 hz2 rfl rfl A n c _ rfl hx2 (fun j _ => rfl) (by unfold maxLen; omega) (by omega) ?_; intro A' c' w' ho hc hb)
  go_ret
  rw [HM.out] at ho
  exact ⟨A', c', rfl, ho, hb⟩
set_option maxHeartbeats 4000000 in
theorem CopyRows_any (A : Option Addr) (L : List (List Int)) (c : Nat) (w : World) (hx : Tabs w A L) (hl : L.length ≤ 1000000) (hs : ∀ u ∈ L, u.length ≤ 1000000) :
    Calls Tryd.prog 38 #[.slice A L.length c] w fun e w' => ∃ A' c', e = .returned (.slice A' L.length c') ∧ SetsO w.heap.size w' (.slice A' L.length c') L ∧ Below w.heap.size w w' := by
  obtain ⟨i1, hi1, hy0, hy1, hy2⟩ := info_parts Dg.info_tab
  have HC : Hid (∀ j, j < L.length → ∀ X p c', Ints X p (tb L j) → Calls Tryd.prog 58 #[.slice p (tb L j).length c'] X fun e w' => ∃ A' c'', e = .returned (.slice A' (tb L j).length c'') ∧ w'.ownsRow X.heap.size 3 1 (.slice A' (tb L j).length c'') (tb L j).length (zvs (tb L j)) ∧ Below X.heap.size X w') := fun j hj X p c' h1 =>
    (Dg.CopyInts_any p (tb L j) c' X h1 (hs _ (tb_mem hj))).mono fun e w' ⟨A', c'', h1, h2, _, h3⟩ => ⟨A', c'', h1, h2, h3⟩
  have HX := Lib.hid hx
  clear hx hs
  go_enter Tryd.func38, Tryd.ntmps38
  go_wp2
  go_loopw [3, 4] (fun su iv wr => ∃ (k : Nat) (sv : Value), sv = su ∧ k ≤ L.length ∧ iv = .int .i64 k ∧ Hid (SetsO w.heap.size wr sv (L.take k)) ∧ Below w.heap.size w wr) (fun _ iv _ => L.length - (intOf iv).toNat)
  case atStart => exact ⟨0, _, rfl, Nat.zero_le _, rfl, SetsO.nil _ _, Below.refl _ _⟩
  case round =>
    obtain ⟨k, sv, rfl, hk, rfl, HS, hb⟩ := hrel
    by_cases hlt : k < L.length
    · obtain ⟨ad, p, c', rfl, hbk, hcell, hi⟩ := (HX.out.below hb) k hlt
      have HCk := Lib.hid (HC.out k hlt wr p c' hi)
      have hsz := hb.size
      have hSt := Lib.hid fun X (hX : Below wr.heap.size wr X) => show ∃ Q : List (Value × List Int), X.ownsRow w.heap.size 33 1 sv k (Q.map fun q => q.1) ∧ ∀ v Z sv' (tmp : Obj), X.ownsRow wr.heap.size 3 1 v (tb L k).length (zvs (tb L k)) → Z.ownsRow w.heap.size 33 1 sv' (k + 1) ((Q.map fun q => q.1) ++ [v]) → (X.alloc tmp).grownBy Z sv.ownBlock → SetsO w.heap.size Z sv' (L.take (k + 1)) by
        have hSX := HS.out.below hX
        have hlk : (L.take k).length = k := by rw [List.length_take]; omega
        obtain ⟨Q, eQ, hoQ, hqQ⟩ := hSX
        refine ⟨Q, by rw [hlk] at hoQ; exact hoQ, fun v Z sv' tmp hv ho hg => ?_⟩
        have e1 : L.take (k + 1) = L.take k ++ [tb L k] := by
          rw [List.take_add_one, List.getElem?_eq_getElem hlt]
          unfold tb
          rw [List.getD_eq_getElem?_getD, List.getElem?_eq_getElem hlt]; rfl
        rw [e1]
        exact SetsO.push eQ hoQ hqQ (ownsRow_mono hv hsz) (by rw [hlk]; exact ho) hg
      clear HC HX HS hi
      generalize zvs (tb L k) = zk at *
      generalize (tb L k).length = nk at *
      have hlt2 : (k : Int) < (L.length : Int) := by omega
      go_wp2_with (first
        | (go_at_call 58; ((with_reducible refine HCk.out.mono ?_); rintro e w5 ⟨A5, c5, rfl, ho5, hb5⟩); obtain ⟨Q, hoQ, hNext⟩ := hSt.out w5 hb5; have HOQ := Lib.hid hoQ; have HO5 := Lib.hid ho5; have HNX := Lib.hid hNext; have hs5 := hb5.size; clear hoQ ho5 hNext)
        | (at_builtin; refine wpList_append_own_at _ rfl _ _ 22 rfl w.heap.size 33 i1 (.slice none 0 0) 1 24 Tryd.underlying22 hi1 hy0 hy1 hy2 rfl (by decide) _ k _ rfl (HOQ.out.alloc _) ⟨w5.heap.size, 0, none⟩ 1 1 [.slice A5 nk c5] rfl rfl (cell_one_new _ _ _) (by simp [Value.oneCell']) (by unfold maxLen; omega) (by omega) (by simp; omega) ?_; intro v' w6 hown' hgrow _ hb6; have hnx := HNX.out _ _ _ _ HO5.out hown' hgrow; have hb7 := ((stepB hb hb5).alloc (by omega) (.cells #[.slice A5 nk c5] 33)).grown hgrow (by simp; omega) (fun q hq => by have := (HOQ.out.lt q hq).1; omega); have HN6 := Lib.hid hnx; clear hnx hown' hgrow))
      go_roundw
      case rel => exact ⟨k + 1, _, rfl, by omega, by go_num, HN6, hb7⟩
      case measure => simp [intOf]; omega
    · obtain rfl : k = L.length := by omega
      have h := HS.out
      rw [List.take_length] at h
      obtain ⟨A', c', rfl, _⟩ := h.form
      have H := Lib.hid h
      clear HC HX HS h
      go_wp2
      go_ret
      exact ⟨A', c', rfl, H.out, hb⟩
end Go.Proofs.YtkgeihambgbjdaaDoor.Sb
/- The kit's CopyDFA; the law's Long. -/
namespace Go.Proofs.YtkgeihambgbjdaaDoor.Sb
open Go Go.RowKit Go.Proofs.YtkgeihambgbjdaaDoor Go.Proofs.YtkgeihambgbjdaaDoor.Cb
open Go.Proofs.YtkgeihambgbjdaaDoor.Nf (zvs ret_int ret_b hnext drew_below)
open Go.Proofs.YtkgeihambgbjdaaDoor.Dg (Tabs tb tb_mem)
set_option linter.unusedVariables false
set_option linter.unusedSimpArgs false
set_option maxRecDepth 100000
theorem tabs_put4 {Y : World} {b : Nat} {u0 u1 u2 u3 : Value} (hb : Blk4 Y b u0 u1 u2 u3) {B : Nat} {A : Option Addr} {c : Nat} {L : List (List Int)} (h : SetsO B Y (.slice A L.length c) L) (v0 v1 v2 v3 : Value) : Tabs (put4 Y b v0 v1 v2 v3) A L :=
  (h.keep hb (by decide) (by decide) fun k hk => put4_other _ _ _ _ hk).tabs rfl
theorem bools_put4 {Y : World} {b : Nat} {u0 u1 u2 u3 : Value} (hb : Blk4 Y b u0 u1 u2 u3) {B : Nat} {A : Option Addr} {c : Nat} {l : List Bool} (h : Y.ownsRow B 4 1 (.slice A l.length c) l.length (l.map Value.bool)) (v0 v1 v2 v3 : Value) : Bools (put4 Y b v0 v1 v2 v3) A l :=
  bools_own (own_eq h (w' := put4 Y b v0 v1 v2 v3) fun g hg => put4_other _ _ _ _ (fun e => own_ne hb h (by decide) (e ▸ hg))) rfl
set_option maxHeartbeats 8000000 in
theorem CopyDFA_any (d : Da) (A B : Option Addr) (a b : Nat) (w : World) (hx : DaAt w d A B) (hl : DaLen d) :
    Calls Tryd.prog 13 #[.agg #[.int .i64 d.V, .int .i64 d.q0, .slice A d.nx.length a, .slice B d.fi.length b]] w fun e w' =>
      ∃ A' B' a' b', e = .returned (.agg #[.int .i64 d.V, .int .i64 d.q0, .slice A' d.nx.length a', .slice B' d.fi.length b']) ∧ DaAt w' d A' B' ∧ Below w.heap.size w w' := by
  have hB0 := bal (bal (Below.refl w.heap.size w) (.cells #[.int .i64 d.V, .int .i64 d.q0, .slice A d.nx.length a, .slice B d.fi.length b] 25)) (.cells #[.int .i64 0, .int .i64 0, .slice none 0 0, .slice none 0 0] 25)
  have hN0 := (Blk4.new w (.int .i64 d.V) (.int .i64 d.q0) (.slice A d.nx.length a) (.slice B d.fi.length b)).below (bal (Below.refl _ _) (.cells #[.int .i64 0, .int .i64 0, .slice none 0 0, .slice none 0 0] 25))
  have hR0 := Blk4.new (w.alloc (.cells #[.int .i64 d.V, .int .i64 d.q0, .slice A d.nx.length a, .slice B d.fi.length b] 25)) (.int .i64 0) (.int .i64 0) (.slice none 0 0) (.slice none 0 0)
  rw [World.size_alloc] at hR0
  have H1 := Lib.hid fun X (hX : Below w.heap.size w X) => CopyRows_any A d.nx a X (hx.nx.below hX) hl.nx hl.row
  have H2 := Lib.hid fun X (hX : Below w.heap.size w X) => CopyBools_any B d.fi b X (hx.fi.below hX) hl.fi
  clear hx hl
  go_enter Tryd.func13, Tryd.ntmps13
  go_wp2
  generalize ((w.alloc (.cells #[.int .i64 d.V, .int .i64 d.q0, .slice A d.nx.length a, .slice B d.fi.length b] 25)).alloc (.cells #[.int .i64 0, .int .i64 0, .slice none 0 0, .slice none 0 0] 25)) = w1 at *
  refine wp_region_any (by kernel_rfl) ?_
  change wpAny _ _ _ _ _ _ _ (World.drew _)
  have hS0 : (fun X : World => Blk4 X w.heap.size (.int .i64 d.V) (.int .i64 d.q0) (.slice A d.nx.length a) (.slice B d.fi.length b)) w1.drew := hN0.below (drew_below w1)
  have hlY : ∀ Y : World, Below w1.heap.size w1 Y → (fun X : World => Blk4 X w.heap.size (.int .i64 d.V) (.int .i64 d.q0) (.slice A d.nx.length a) (.slice B d.fi.length b)) Y := fun Y hY => hN0.below hY
  have hD : Below w1.heap.size w1 w1.drew := drew_below w1
  generalize w1.drew = X0 at *
  refine wpAny_head 11 11 (fun X : World => Blk4 X w.heap.size (.int .i64 d.V) (.int .i64 d.q0) (.slice A d.nx.length a) (.slice B d.fi.length b)) rfl rfl (by kernel_rfl) (by kernel_rfl) (by kernel_rfl) (fun hA => ?_)
  refine wpHead_take (i := 0) (v := ?_) (by kernel_rfl) hA (at_drop rfl) (by decide) (by kernel_rfl) (by kernel_rfl) (by kernel_rfl) (fun _ _ _ h => h) (Or.inl ⟨by rfl, ?_⟩) hS0 (fun hA => ?_)
  rotate_left
  · (intro Y hSw; obtain ⟨s0, s1, s2, s3⟩ := Blk4.cells hSw; go_simp <;> with_reducible rfl)
  simp only [Act.put, List.setIfInBounds_toArray, List.set_cons_zero, List.set_cons_succ]
  refine wpHead_take (i := 1) (v := ?_) (by kernel_rfl) hA (at_drop rfl) (by decide) (by kernel_rfl) (by kernel_rfl) (by kernel_rfl) (fun _ _ _ h => h) (Or.inl ⟨by rfl, ?_⟩) hS0 (fun hA => ?_)
  rotate_left
  · (intro Y hSw; obtain ⟨s0, s1, s2, s3⟩ := Blk4.cells hSw; go_simp <;> with_reducible rfl)
  simp only [Act.put, List.setIfInBounds_toArray, List.set_cons_zero, List.set_cons_succ]
  refine wpHead_take (i := 2) (v := ?_) (by kernel_rfl) hA (at_drop rfl) (by decide) (by kernel_rfl) (by kernel_rfl) (by kernel_rfl) (fun _ _ _ h => h) (Or.inl ⟨by rfl, ?_⟩) hS0 (fun hA => ?_)
  rotate_left
  · (intro Y hSw; obtain ⟨s0, s1, s2, s3⟩ := Blk4.cells hSw; go_simp <;> with_reducible rfl)
  simp only [Act.put, List.setIfInBounds_toArray, List.set_cons_zero, List.set_cons_succ]
  refine wpHead_take (i := 3) (v := ?_) (by kernel_rfl) hA (at_drop rfl) (by decide) (by kernel_rfl) (by kernel_rfl) (by kernel_rfl) (fun _ _ _ h => h) (Or.inl ⟨by rfl, ?_⟩) hS0 (fun hA => ?_)
  rotate_left
  · (intro Y hSw; obtain ⟨s0, s1, s2, s3⟩ := Blk4.cells hSw; go_simp <;> with_reducible rfl)
  simp only [Act.put, List.setIfInBounds_toArray, List.set_cons_zero, List.set_cons_succ]
  refine wpHead_take (i := 4) (v := ?_) (by kernel_rfl) hA (at_drop rfl) (by decide) (by kernel_rfl) (by kernel_rfl) (by kernel_rfl) (fun _ _ _ h => h) (Or.inl ⟨by rfl, ?_⟩) hS0 (fun hA => ?_)
  rotate_left
  · (intro Y hSw; obtain ⟨s0, s1, s2, s3⟩ := Blk4.cells hSw; go_simp <;> with_reducible rfl)
  simp only [Act.put, List.setIfInBounds_toArray, List.set_cons_zero, List.set_cons_succ]
  refine wpHead_take (i := 5) (v := ?_) (by kernel_rfl) hA (at_drop rfl) (by decide) (by kernel_rfl) (by kernel_rfl) (by kernel_rfl) (fun _ _ _ h => h) (Or.inl ⟨by rfl, ?_⟩) hS0 (fun hA => ?_)
  rotate_left
  · (intro Y hSw; obtain ⟨s0, s1, s2, s3⟩ := Blk4.cells hSw; go_simp <;> with_reducible rfl)
  simp only [Act.put, List.setIfInBounds_toArray, List.set_cons_zero, List.set_cons_succ]
  refine wpHead_take (i := 7) (v := ?_) (by kernel_rfl) hA (at_drop rfl) (by decide) (by kernel_rfl) (by kernel_rfl) (by kernel_rfl) (fun _ _ _ h => h) (Or.inl ⟨by rfl, ?_⟩) hS0 (fun hA => ?_)
  rotate_left
  · (intro Y hSw; obtain ⟨s0, s1, s2, s3⟩ := Blk4.cells hSw; go_simp <;> with_reducible rfl)
  simp only [Act.put, List.setIfInBounds_toArray, List.set_cons_zero, List.set_cons_succ]
  refine wpHead_take (i := 8) (v := ?_) (by kernel_rfl) hA (at_drop rfl) (by decide) (by kernel_rfl) (by kernel_rfl) (by kernel_rfl) (fun _ _ _ h => h) (Or.inl ⟨by rfl, ?_⟩) hS0 (fun hA => ?_)
  rotate_left
  · (intro Y hSw; obtain ⟨s0, s1, s2, s3⟩ := Blk4.cells hSw; go_simp <;> with_reducible rfl)
  simp only [Act.put, List.setIfInBounds_toArray, List.set_cons_zero, List.set_cons_succ]
  have hA6 := hnext hA (rs := [6]) (i := 6) (by kernel_rfl) (by decide) (by decide)
  refine wpHead_ready (rs := [6]) (by kernel_rfl) (by decide) (AllHead.cons (at_drop rfl) (by decide) (fun KK hK => ?_) AllHead.nil)
  replace hA := hA6
  go_simp
  refine (H1.out X0 (stepB hB0 hD)).mono ?_
  rintro e X1 ⟨A1, a1, rfl, o1, d1⟩
  have HX1 := stepB hD d1
  refine hK _ _ (hlY _ HX1) ?_
  clear hK KK
  try simp only [Act.put, List.setIfInBounds_toArray, List.set_cons_zero, List.set_cons_succ]
  have hA9 := hnext hA (rs := [9]) (i := 9) (by kernel_rfl) (by decide) (by decide)
  refine wpHead_ready (rs := [9]) (by kernel_rfl) (by decide) (AllHead.cons (at_drop rfl) (by decide) (fun KK hK => ?_) AllHead.nil)
  replace hA := hA9
  go_simp
  refine (H2.out X1 (stepB hB0 HX1)).mono ?_
  rintro e X2 ⟨B1, b1, rfl, o2, d2⟩
  have HX2 := stepB HX1 d2
  refine hK _ _ (hlY _ HX2) ?_
  clear hK KK
  try simp only [Act.put, List.setIfInBounds_toArray, List.set_cons_zero, List.set_cons_succ]
  refine wpHead_take (i := 10) (v := ?_) (by kernel_rfl) hA (at_drop rfl) (by decide) (by kernel_rfl) (by kernel_rfl) (by kernel_rfl) (fun _ _ _ h => h) (Or.inl ⟨by rfl, ?_⟩) (hlY _ HX2) (fun hA => ?_)
  rotate_left
  · (intro Y hSw; obtain ⟨s0, s1, s2, s3⟩ := Blk4.cells hSw; go_simp <;> with_reducible rfl)
  simp only [Act.put, List.setIfInBounds_toArray, List.set_cons_zero, List.set_cons_succ]
  have hR := hR0.below HX2
  have hbX := stepB hB0 HX2
  have p1 := o1.below d2
  obtain ⟨⟨q0, f0⟩, ⟨q1, f1⟩, ⟨q2, f2⟩, ⟨q3, f3⟩, hR5, hB5⟩ := store4 hR (.int .i64 d.V) (.int .i64 d.q0) (.slice A1 d.nx.length a1) (.slice B1 d.fi.length b1)
  have hT5 := tabs_put4 hR p1 (.int .i64 d.V) (.int .i64 d.q0) (.slice A1 d.nx.length a1) (.slice B1 d.fi.length b1)
  have hF5 := bools_put4 hR o2 (.int .i64 d.V) (.int .i64 d.q0) (.slice A1 d.nx.length a1) (.slice B1 d.fi.length b1)
  have HF := Lib.hid (And.intro hR5.cells (And.intro (hbX.trans (hB5 w.heap.size (by omega))) (DaAt.mk hT5 hF5)))
  clear hR5 hB5 hR hbX p1 o1 o2 d1 d2 HX1 HX2 hD hA hT5 hF5
  clear hlY hN0 hR0 H1 H2 hS0 hB0
  refine wpHead_end (by kernel_rfl) ?_
  simp only [List.drop_succ_cons, List.drop_zero]
  go_wp2
  obtain ⟨⟨y0, y1, y2, y3⟩, hb5, hN⟩ := HF.out
  unfold put4 at y0 y1 y2 y3 hb5 hN
  refine bodyPost_ret (v := .agg #[.int .i64 d.V, .int .i64 d.q0, .slice A1 d.nx.length a1, .slice B1 d.fi.length b1]) (by simp [results, Tryd.results13, go_sem, y0, y1, y2, y3]) rfl ?_
  exact ⟨_, _, _, _, rfl, hN, hb5⟩
end Go.Proofs.YtkgeihambgbjdaaDoor.Sb
/- The law's Long and awake. -/
namespace Go.Proofs.YtkgeihambgbjdaaDoor.Sb
open Go Go.RowKit Go.Proofs.YtkgeihambgbjdaaDoor Go.Proofs.YtkgeihambgbjdaaDoor.Cb
open Go.Proofs.YtkgeihambgbjdaaDoor.Nf (Na NaAt NaLen zvs ret_int ret_b hnext drew_below exN ex_ok ex_len chkN bys_new)
open Go.Proofs.YtkgeihambgbjdaaDoor.Dg (Tabs tb tb_mem)
set_option linter.unusedVariables false
set_option linter.unusedSimpArgs false
set_option maxRecDepth 100000
/-- Whether an automaton has more states than the statements examine. -/
def longT (L : List (List Int)) : Bool := L.any fun r => decide (100 < r.length)
def longD (d : Da) : Bool := decide (40 < d.nx.length) || decide (40 < d.fi.length) || longT d.nx
theorem longD_no {d : Da} (h : longD d = false) : d.nx.length ≤ 40 ∧ d.fi.length ≤ 40 ∧ ∀ r ∈ d.nx, r.length ≤ 100 := by
  unfold longD longT at h
  simp only [Bool.or_eq_false_iff, decide_eq_false_iff_not, List.any_eq_false, decide_eq_true_eq] at h
  exact ⟨by omega, by omega, fun r hr => by have := h.2 r hr; omega⟩
theorem longD_len {d : Da} (h : longD d = false) : DaLen d := by
  have := longD_no h
  exact ⟨by omega, by omega, fun r hr => by have := this.2.2 r hr; omega⟩
set_option maxHeartbeats 4000000 in
theorem Long7_any (d : Da) (A B : Option Addr) (a b : Nat) (w : World) (hx : DaAt w d A B) (h1 : d.nx.length ≤ maxLen) (h2 : d.fi.length ≤ maxLen) (h3 : ∀ r ∈ d.nx, r.length ≤ maxLen) :
    Calls Tryd.prog 10 #[.slice (some ⟨w.heap.size, 0, none⟩) 1 1] (w.alloc (.cells #[.int .i64 d.V, .int .i64 d.q0, .slice A d.nx.length a, .slice B d.fi.length b] 25)) fun e w' => e = .returned (.bool (longD d)) ∧ Below w.heap.size w w' := by
  have hb0 := bal (Below.refl w.heap.size w) (.cells #[.int .i64 d.V, .int .i64 d.q0, .slice A d.nx.length a, .slice B d.fi.length b] 25)
  obtain ⟨z0, z1, z2, z3⟩ := (Blk4.new w (.int .i64 d.V) (.int .i64 d.q0) (.slice A d.nx.length a) (.slice B d.fi.length b)).cells
  have HX := Lib.hid fun k (hk : k < d.nx.length) => (hx.nx.below hb0) k hk
  have HL : Hid (longD d = (decide (40 < d.nx.length) || decide (40 < d.fi.length) || longT d.nx)) := rfl
  have HT : Hid (∀ k, k < d.nx.length → 100 < (tb d.nx k).length → longT d.nx = true) := fun k hk h => by
    unfold longT
    rw [List.any_eq_true]
    exact ⟨_, tb_mem hk, decide_eq_true h⟩
  have HF : Hid ((∀ k, k < d.nx.length → ¬ 100 < (tb d.nx k).length) → longT d.nx = false) := fun h => by
    unfold longT
    rw [List.any_eq_false]
    intro r hr
    obtain ⟨j, hj, rfl⟩ := Dg.mem_tb hr
    have := h j hj
    simpa using this
  have HM : Hid (∀ k, k < d.nx.length → (tb d.nx k).length ≤ maxLen) := fun k hk => h3 _ (tb_mem hk)
  clear hx h3
  unfold maxLen at h1 h2
  generalize longD d = L at *
  generalize longT d.nx = T at *
  obtain ⟨V, q0, nx, fi⟩ := d
  dsimp only at *
  generalize nx.length = nn at *
  generalize fi.length = nf at *
  generalize World.alloc w (.cells #[.int .i64 V, .int .i64 q0, .slice A nn a, .slice B nf b] 25) = W at *
  generalize w.heap.size = g at *
  go_enter Tryd.func10, Tryd.ntmps10
  go_wp2
  go_loopw [3] (fun i wr => (i = .int .i64 0 ∨ (i = .int .i64 1 ∧ Hid (L = false))) ∧ wr = W) (fun i _ => 1 - (intOf i).toNat)
  case atStart => exact ⟨.inl rfl, rfl⟩
  case round =>
    obtain ⟨rfl | ⟨rfl, hF⟩, rfl⟩ := hrel
    · by_cases g1 : 40 < nn
      · have hT : Hid (L = true) := by show _ = _; rw [HL.out, decide_eq_true g1]; rfl
        have d1 : decide ((40 : Int) < (nn : Int)) = true := decide_eq_true (by omega)
        clear HL HX HT HF HM
        go_wp2
        go_ret
        exact ⟨ret_b hT.out.symm, hb0⟩
      · have d1 : decide ((40 : Int) < (nn : Int)) = false := decide_eq_false (by omega)
        by_cases g2 : 40 < nf
        · have hT : Hid (L = true) := by show _ = _; rw [HL.out, decide_eq_true g2]; simp
          have d2 : decide ((40 : Int) < (nf : Int)) = true := decide_eq_true (by omega)
          clear HL HX HT HF HM
          go_wp2
          go_ret
          exact ⟨ret_b hT.out.symm, hb0⟩
        · have d2 : decide ((40 : Int) < (nf : Int)) = false := decide_eq_false (by omega)
          have HL2 : Hid (L = T) := by show _ = _; rw [HL.out, decide_eq_false g1, decide_eq_false g2]; rfl
          clear HL
          go_wp2
          go_loopw [4] (fun s wx => ∃ k : Nat, k ≤ nn ∧ s = .int .i64 k ∧ Hid (∀ j, j < k → ¬ 100 < (tb nx j).length) ∧ wx = wr) (fun s _ => nn - (intOf s).toNat)
          case atStart => exact ⟨0, by omega, rfl, fun j hj => absurd hj (by omega), rfl⟩
          case round =>
            obtain ⟨k, hk, rfl, H, rfl⟩ := hrel
            by_cases hlt : k < nn
            · obtain ⟨ad, p, c', rfl, hbk, hcell, hi⟩ := HX.out k hlt
              have hm := HM.out k hlt
              unfold maxLen at hm
              have hlt2 : (k : Int) < (nn : Int) := by omega
              by_cases hb1 : 100 < (tb nx k).length
              · have hT : Hid (L = true) := by show _ = _; rw [HL2.out, HT.out k hlt hb1]
                have d3 : decide ((100 : Int) < ((tb nx k).length : Int)) = true := decide_eq_true (by omega)
                clear HL2 HX HT HF HM H hi
                generalize (tb nx k).length = nk at *
                go_wp2
                go_ret
                exact ⟨ret_b hT.out.symm, hb0⟩
              · have d3 : decide ((100 : Int) < ((tb nx k).length : Int)) = false := decide_eq_false (by omega)
                have H' : Hid (∀ j, j < k + 1 → ¬ 100 < (tb nx j).length) := fun j hj => by
                  rcases Nat.lt_or_eq_of_le (Nat.le_of_lt_succ hj) with h1 | rfl
                  · exact H.out j h1
                  · exact hb1
                clear HL2 HX HT HF HM H hi hb1
                generalize (tb nx k).length = nk at *
                go_wp2
                go_roundw
                case rel => exact ⟨k + 1, by omega, by go_num, H', trivial⟩
                case measure => simp [intOf]; omega
            · obtain rfl : k = nn := by omega
              have hF : Hid (L = false) := by show _ = _; rw [HL2.out]; exact HF.out H.out
              clear HL2 HX HT HF HM H
              go_wp2
              go_roundw
              case rel => exact ⟨.inr ⟨rfl, hF⟩, trivial⟩
              case measure => simp [intOf]
    · clear HL HX HT HF HM
      go_wp2
      go_ret
      exact ⟨ret_b hF.out.symm, hb0⟩
theorem DetO.at_ {B : Nat} {w : World} {n : Na} {F : List (List Nat)} {rv fv sv : Value} (h : DetO B w n F rv fv sv) : ∃ A a B' b C c, rv = .slice A F.length a ∧ fv = .slice B' F.length b ∧ sv = .slice C F.length c ∧ DaAt w (detD n F) A B' ∧ Tabs w C (F.map elsI) := by
  have hnl : (nums (succN n) F F.length).length = F.length := nums_len _ _ _ (Nat.le_refl _)
  obtain ⟨A, a, rfl, _⟩ := h.nx.form
  obtain ⟨B', b, rfl, _⟩ := Ap.own_form h.fi
  obtain ⟨C, c, rfl, _⟩ := h.se.form
  refine ⟨A, a, B', b, C, c, by rw [hnl], rfl, by rw [List.length_map], ⟨h.nx.tabs rfl, ?_⟩, h.se.tabs rfl⟩
  have hfi := h.fi
  rw [show (F.map fun s => Value.bool (meetB s (ofL n.fi))) = (F.map fun s => meetB s (ofL n.fi)).map Value.bool by rw [List.map_map]; rfl] at hfi
  exact bools_own hfi (show F.length = (F.map _).length by rw [List.length_map])
/-- The chapter's example. -/
def exF : List (List Nat) := [[1], [3], [5], [7]]
def exD : Da := ⟨1, 0, [[0, 1], [2, 3], [0, 1], [2, 3]], [false, false, true, true]⟩
theorem ex_det4 : detN exN 4 = some exF := by kernel_rfl
theorem ex_det3 : detN exN 3 = none := by kernel_rfl
theorem ex_D : detD exN exF = exD := by kernel_rfl
theorem ex_els : exF.map elsI = [[0], [0, 1], [0, 2], [0, 1, 2]] := by kernel_rfl
def exL : List (List Int) := [[0], [0, 1], [0, 2], [0, 1, 2]]
theorem tabs_ex (X : World) : Tabs (((((X.alloc (.cells #[.int .i64 0] 3)).alloc (.cells #[.int .i64 0, .int .i64 1] 3)).alloc (.cells #[.int .i64 0, .int .i64 2] 3)).alloc (.cells #[.int .i64 0, .int .i64 1, .int .i64 2] 3)).alloc (.cells #[.slice (some ⟨X.heap.size, 0, none⟩) 1 1, .slice (some ⟨X.heap.size + 1, 0, none⟩) 2 2, .slice (some ⟨X.heap.size + 1 + 1, 0, none⟩) 2 2, .slice (some ⟨X.heap.size + 1 + 1 + 1, 0, none⟩) 3 3] 33)) (some ⟨X.heap.size + 1 + 1 + 1 + 1, 0, none⟩) exL := by
  have i0 := Dg.ints_new X 3 [0]
  have i1 := Dg.ints_new (X.alloc (.cells #[.int .i64 0] 3)) 3 [0, 1]
  have i2 := Dg.ints_new ((X.alloc (.cells #[.int .i64 0] 3)).alloc (.cells #[.int .i64 0, .int .i64 1] 3)) 3 [0, 2]
  have i3 := Dg.ints_new (((X.alloc (.cells #[.int .i64 0] 3)).alloc (.cells #[.int .i64 0, .int .i64 1] 3)).alloc (.cells #[.int .i64 0, .int .i64 2] 3)) 3 [0, 1, 2]
  simp only [World.size_alloc] at i1 i2 i3
  have K := fun (Y : World) (o : Obj) => bal (Below.refl Y.heap.size Y) o
  replace i0 := (((i0.below (K _ (.cells #[.int .i64 0, .int .i64 1] 3))).below (K _ (.cells #[.int .i64 0, .int .i64 2] 3))).below (K _ (.cells #[.int .i64 0, .int .i64 1, .int .i64 2] 3)))
  replace i1 := ((i1.below (K _ (.cells #[.int .i64 0, .int .i64 2] 3))).below (K _ (.cells #[.int .i64 0, .int .i64 1, .int .i64 2] 3)))
  replace i2 := (i2.below (K _ (.cells #[.int .i64 0, .int .i64 1, .int .i64 2] 3)))
  change Ints ((((X.alloc (.cells #[.int .i64 0] 3)).alloc (.cells #[.int .i64 0, .int .i64 1] 3)).alloc (.cells #[.int .i64 0, .int .i64 2] 3)).alloc (.cells #[.int .i64 0, .int .i64 1, .int .i64 2] 3)) _ _ at i0 i1 i2 i3
  have hZ : ((((X.alloc (.cells #[.int .i64 0] 3)).alloc (.cells #[.int .i64 0, .int .i64 1] 3)).alloc (.cells #[.int .i64 0, .int .i64 2] 3)).alloc (.cells #[.int .i64 0, .int .i64 1, .int .i64 2] 3)).heap.size = X.heap.size + 1 + 1 + 1 + 1 := by simp only [World.size_alloc]
  generalize ((((X.alloc (.cells #[.int .i64 0] 3)).alloc (.cells #[.int .i64 0, .int .i64 1] 3)).alloc (.cells #[.int .i64 0, .int .i64 2] 3)).alloc (.cells #[.int .i64 0, .int .i64 1, .int .i64 2] 3)) = Z at *
  rw [← hZ]
  have hn := World.alloc_heap_new Z (.cells #[.slice (some ⟨X.heap.size, 0, none⟩) 1 1, .slice (some ⟨X.heap.size + 1, 0, none⟩) 2 2, .slice (some ⟨X.heap.size + 1 + 1, 0, none⟩) 2 2, .slice (some ⟨X.heap.size + 1 + 1 + 1, 0, none⟩) 3 3] 33)
  have hc : ∀ j u, (#[Value.slice (some ⟨X.heap.size, 0, none⟩) 1 1, .slice (some ⟨X.heap.size + 1, 0, none⟩) 2 2, .slice (some ⟨X.heap.size + 1 + 1, 0, none⟩) 2 2, .slice (some ⟨X.heap.size + 1 + 1 + 1, 0, none⟩) 3 3])[j]? = some u → (Z.alloc (.cells #[.slice (some ⟨X.heap.size, 0, none⟩) 1 1, .slice (some ⟨X.heap.size + 1, 0, none⟩) 2 2, .slice (some ⟨X.heap.size + 1 + 1, 0, none⟩) 2 2, .slice (some ⟨X.heap.size + 1 + 1 + 1, 0, none⟩) 3 3] 33)).cell? ((⟨Z.heap.size, 0, none⟩ : Addr).add j) = some u := fun j u hu => by
    rw [addr_add]
    simp only [World.cell?, hn]
    simpa using hu
  have hlt : Z.heap.size < (Z.alloc (.cells #[.slice (some ⟨X.heap.size, 0, none⟩) 1 1, .slice (some ⟨X.heap.size + 1, 0, none⟩) 2 2, .slice (some ⟨X.heap.size + 1 + 1, 0, none⟩) 2 2, .slice (some ⟨X.heap.size + 1 + 1 + 1, 0, none⟩) 3 3] 33)).heap.size := by rw [World.size_alloc]; omega
  have KZ := K Z (.cells #[.slice (some ⟨X.heap.size, 0, none⟩) 1 1, .slice (some ⟨X.heap.size + 1, 0, none⟩) 2 2, .slice (some ⟨X.heap.size + 1 + 1, 0, none⟩) 2 2, .slice (some ⟨X.heap.size + 1 + 1 + 1, 0, none⟩) 3 3] 33)
  intro j hj
  match j, hj with
  | 0, _ => exact ⟨_, _, _, rfl, hlt, hc 0 _ rfl, i0.below KZ⟩
  | 1, _ => exact ⟨_, _, _, rfl, hlt, hc 1 _ rfl, i1.below KZ⟩
  | 2, _ => exact ⟨_, _, _, rfl, hlt, hc 2 _ rfl, i2.below KZ⟩
  | 3, _ => exact ⟨_, _, _, rfl, hlt, hc 3 _ rfl, i3.below KZ⟩
theorem bools_new (W : World) (l : List Bool) : Bools (W.alloc (.cells (l.map Value.bool).toArray 4)) (some ⟨W.heap.size, 0, none⟩) l :=
  Ap.vals_new_ W _ _ _ _ fun j hj => by simp [hj]
theorem exD_len : DaLen exD := ⟨by decide, by decide, by decide⟩
theorem ex_acc1 : accD exD [1, 0] = true ∧ wrongD exD [1, 0] = 0 := ⟨by kernel_rfl, by kernel_rfl⟩
theorem ex_acc2 : accD exD [0, 1] = false ∧ wrongD exD [0, 1] = 0 := ⟨by kernel_rfl, by kernel_rfl⟩
end Go.Proofs.YtkgeihambgbjdaaDoor.Sb
/- The chapter's example holds. -/
namespace Go.Proofs.YtkgeihambgbjdaaDoor.Sb
open Go Go.RowKit Go.Proofs.YtkgeihambgbjdaaDoor Go.Proofs.YtkgeihambgbjdaaDoor.Cb
open Go.Proofs.YtkgeihambgbjdaaDoor.Nf (Na NaAt NaLen exN ex_ok ex_len bys_new bvs)
open Go.Proofs.YtkgeihambgbjdaaDoor.Dg (Tabs tb tb_mem)
set_option linter.unusedVariables false
set_option linter.unusedSimpArgs false
set_option maxRecDepth 100000
theorem ex_acc (l : List Nat) (h8 : ∀ y ∈ l, y < 256) (hl : l.length ≤ 100) (b0 : Bool) (ha : accD exD l = b0 ∧ wrongD exD l = 0) (w : World) (A B : Option Addr) (a b : Nat) (hx : DaAt w exD A B) (X : World) (hX : Below w.heap.size w X) :
    Calls Tryd.prog 32 #[.agg #[.int .i64 1, .int .i64 0, .slice A 4 a, .slice B 4 b], .slice (some ⟨X.heap.size, 0, none⟩) l.length l.length] (X.alloc (.cells (bvs l).toArray 5)) fun e w' =>
      e = .returned (.tuple #[.bool b0, .int .i64 0]) ∧ Below X.heap.size X w' := by
  have hb := bal (Below.refl X.heap.size X) (.cells (bvs l).toArray 5)
  have := AcceptsD_any exD A B a b (X.alloc (.cells (bvs l).toArray 5)) (hx.below (hX.trans (hb.mono hX.size))) exD_len (some ⟨X.heap.size, 0, none⟩) l l.length (bys_new X l) h8 (by omega)
  rw [ha.1, ha.2] at this
  exact this.mono fun e w' h => ⟨h.1, stepB hb h.2⟩
end Go.Proofs.YtkgeihambgbjdaaDoor.Sb
