/- each, text, inOrder (package minimal). -/
import Derived.Test.YtkgeihambgbjdaaDoorPC
import Derived.Test.YtkgeihambgbjdaaDoorPF
import Derived.Test.YtkgeihambgbjdaaDoorPD
import Derived.WalkMore
import Derived.Test.YtkgeihambgbjdaaDoorPE
import Derived.Test.YtkgeihambgbjdaaDoorPB
import Derived.RangeFuncIn
import Derived.RangeFuncRecord
import Derived.Test.YtkgeihambgbjdaaDoorPA
import Derived.RangeFuncNested
import Derived.Deep.LoopGhost
import Derived.Deep.DeepCutAuto
namespace Go.Proofs.YtkgeihambgbjdaaDoor.Mi
open Go Go.RowKit Go.Maps Go.Proofs.YtkgeihambgbjdaaDoor Go.Proofs.YtkgeihambgbjdaaDoor.Cb Go.Proofs.YtkgeihambgbjdaaDoor.Sb
open Go.Proofs.YtkgeihambgbjdaaDoor.Nf (zvs zvs_snoc info_int6 ret_int ret_b drew_below)
open Go.Proofs.YtkgeihambgbjdaaDoor.Dg (Tabs tb tb_mem mem_tb info_tab)
set_option linter.unusedVariables false
set_option linter.unusedSimpArgs false
set_option maxRecDepth 100000
/-- The classes of states. -/
def eachL (cl st : List Int) : List Int := st.map fun t => nd cl t.toNat
theorem cells_zvs (n : Nat) (f : Nat → Int) (l : List Int) (hl : l.length = n) (h : ∀ i, i < n → nd l i = f i) : cells n (fun i => .int .i64 (f i)) = (zvs l).toArray := by
  unfold cells zvs
  congr 1
  apply List.ext_getElem
  · simp [hl]
  · intro i h1 h2
    have hi : i < n := by simpa using h1
    rw [List.getElem_map, List.getElem_range, List.getElem_map, ← h i hi, nd_eq (by omega)]
theorem ints_blk {w : World} {g : Nat} {l : List Int} {t : TypeId} {fz : Nat × Nat} (h : w.heap[g]? = some (.cells (zvs l).toArray t fz)) : Ints w (some ⟨g, 0, none⟩) l := fun k hk => by
  refine ⟨⟨g, 0, none⟩, rfl, blk_lt h, ?_⟩
  rw [Ap.addr_add]
  simp [World.cell?, h, zvs, nd, List.getD_eq_getElem?_getD, List.getElem?_eq_getElem hk]
set_option maxHeartbeats 4000000 in
theorem each_any (A D : Option Addr) (cl st : List Int) (ca cd : Nat) (w : World) (hx : Ints w A cl) (hy : Ints w D st) (hr : ∀ z ∈ st, 0 ≤ z ∧ z < (cl.length : Int)) (hl : st.length ≤ 100000) :
    Calls Tryd.prog 43 #[.slice A cl.length ca, .slice D st.length cd] w fun e w' => e = .returned (.slice (some ⟨w.heap.size, 0, none⟩) st.length st.length) ∧ w'.heap[w.heap.size]? = some (.cells (zvs (eachL cl st)).toArray 3 (0, 0)) ∧ Below w.heap.size w w' := by
  have hm := made_ints st.length (by omega) w
  have HR := Lib.hid fun k (hk : k < st.length) => show ∃ s : Nat, nd st k = (s : Int) ∧ s < cl.length by
    have := hr (nd st k) (by rw [nd_eq hk]; exact List.getElem_mem hk)
    exact ⟨(nd st k).toNat, by omega, by omega⟩
  have HF : Hid (cells st.length (fun i => if i < st.length then .int .i64 (nd cl (nd st i).toNat) else .int .i64 0) = (zvs (eachL cl st)).toArray) := by
    show _ = _
    rw [cells_congr (g := fun i => .int .i64 (nd cl (nd st i).toNat)) fun i hi => if_pos hi]
    refine cells_zvs _ _ _ (by unfold eachL; simp) fun i hi => ?_
    unfold eachL
    rw [nd_eq (by simpa using hi), List.getElem_map, nd_eq hi]
  have hz0 : w.heap.size < (w.alloc (.cells (cells st.length fun _ => .int .i64 0) 3)).heap.size := by simp
  have h0 := World.alloc_heap_new w (.cells (cells st.length fun _ => .int .i64 0) 3)
  have hb0 := bal (Below.refl w.heap.size w) (.cells (cells st.length fun _ => .int .i64 0) 3)
  clear hr
  go_enter Tryd.func43, Tryd.ntmps43
  go_wp2
  generalize w.alloc (.cells (cells st.length fun _ => .int .i64 0) 3) = W1 at *
  generalize hgg : w.heap.size = g at *
  go_loopw [13] (fun iv wr => ∃ k : Nat, k ≤ st.length ∧ iv = .int .i64 k ∧ wr.heap[g]? = some (.cells (cells st.length (fun i => if i < k then .int .i64 (nd cl (nd st i).toNat) else .int .i64 0)) 3 (0, 0)) ∧ Below g w wr) (fun iv _ => st.length - (intOf iv).toNat)
  case atStart => exact ⟨0, by omega, rfl, by rw [cells_congr (g := fun _ => .int .i64 0) fun i hi => if_neg (by omega)]; exact h0, hb0⟩
  case round =>
    clear h0 hb0 hm hz0
    obtain ⟨k, hk, rfl, hc, hb⟩ := hrel
    by_cases hlt : k < st.length
    · obtain ⟨s, hs, hsl⟩ := HR.out k hlt
      have hbw : Below w.heap.size w wr := by rw [hgg]; exact hb
      obtain ⟨ad, rfl, hcell⟩ := (hy.below hbw).at_ hlt
      obtain ⟨ad2, rfl, hcell2⟩ := (hx.below hbw).at_ hsl
      rw [hs] at hcell
      have c1 := cell_of hc hlt
      have f1 := free_of hc k
      have hg1 := blk_lt hc
      have hn1 : (k : Int) < (st.length : Int) := by omega
      have hn2 : (s : Int) < (cl.length : Int) := by omega
      rw [if_neg (by omega)] at c1
      have HN : Hid ((wr.setCell ⟨g, k, none⟩ (.int .i64 (nd cl s))).heap[g]? = some (.cells (cells st.length (fun i => if i < k + 1 then .int .i64 (nd cl (nd st i).toNat) else .int .i64 0)) 3 (0, 0)) ∧ Below g w (wr.setCell ⟨g, k, none⟩ (.int .i64 (nd cl s)))) := by
        refine ⟨?_, hb.setCell (p := ⟨g, k, none⟩) (Nat.le_refl _) _⟩
        rw [heap_put hc, cells_set _ hlt]
        congr 2
        exact cells_congr fun i hi => by
          by_cases e : i = k
          · subst e; rw [if_pos rfl, if_pos (by omega), hs, Int.toNat_natCast]
          · rw [if_neg e]
            by_cases e2 : i < k
            · rw [if_pos e2, if_pos (by omega)]
            · rw [if_neg e2, if_neg (by omega)]
      clear hc hb hs hbw
      generalize nd cl s = v at *
      generalize cl.length = nc at *
      generalize st.length = ns at *
      go_wp2
      go_roundw
      case rel => exact ⟨k + 1, by omega, by go_num, HN.out.1, HN.out.2⟩
      case measure => simp [intOf]; omega
    · obtain rfl : k = st.length := by omega
      rw [HF.out] at hc
      subst hgg
      go_wp2
      go_ret
      exact ⟨rfl, hc, hb⟩
/-- The text of a row. -/
def txtR (row : List Int) : List UInt8 := row.flatMap fun c => [UInt8.ofNat (c.toNat % 256), UInt8.ofNat (c.toNat / 256 % 256)]
theorem txtR_len (row : List Int) : (txtR row).length = 2 * row.length := by
  induction row with
  | nil => rfl
  | cons c row ih =>
    show (txtR row).length + 1 + 1 = _
    rw [ih, List.length_cons]
    omega
theorem u8_inj {a b : Nat} (h : UInt8.ofNat (a % 256) = UInt8.ofNat (b % 256)) : a % 256 = b % 256 := by
  have := congrArg UInt8.toNat h
  rwa [UInt8.toNat_ofNat_of_lt' (by show a % 256 < 256; omega), UInt8.toNat_ofNat_of_lt' (by show b % 256 < 256; omega)] at this
theorem txtR_inj : ∀ {r s : List Int}, (∀ z ∈ r, 0 ≤ z ∧ z < 65536) → (∀ z ∈ s, 0 ≤ z ∧ z < 65536) → txtR r = txtR s → r = s
  | [], [], _, _, _ => rfl
  | [], y :: s, _, _, h => by cases h
  | x :: r, [], _, _, h => by cases h
  | x :: r, y :: s, hr, hs, h => by
    have h1 : UInt8.ofNat (x.toNat % 256) :: UInt8.ofNat (x.toNat / 256 % 256) :: txtR r = UInt8.ofNat (y.toNat % 256) :: UInt8.ofNat (y.toNat / 256 % 256) :: txtR s := h
    injection h1 with h2 h3
    injection h3 with h4 h5
    have e2 := u8_inj h2
    have e4 := u8_inj h4
    have hx := hr x (by simp)
    have hy := hs y (by simp)
    rw [txtR_inj (fun z hz => hr z (by simp [hz])) (fun z hz => hs z (by simp [hz])) h5]
    congr 1
    omega
theorem txtR_snoc {row : List Int} {k : Nat} (h : k < row.length) : txtR (row.take (k + 1)) = txtR (row.take k) ++ [UInt8.ofNat ((nd row k).toNat % 256), UInt8.ofNat ((nd row k).toNat / 256 % 256)] := by
  unfold txtR
  rw [List.take_add_one, List.getElem?_eq_getElem h, List.flatMap_append, nd_eq h]
  simp
theorem cell_two_new (w : World) (a b : Value) (t : TypeId) : ∀ j u, [a, b][j]? = some u → (w.alloc (.cells #[a, b] t)).cell? ((⟨w.heap.size, 0, none⟩ : Addr).add j) = some u := by
  intro j u h
  have h1 := World.alloc_heap_new w (.cells #[a, b] t)
  rw [Ap.addr_add]
  simp only [World.cell?, h1]
  simpa using h
theorem made_bytes (K : Nat) (hK : K ≤ 1000000) (W : World) : (Instr.makeSlice 42 (.int .i64 0) (.int .i64 (K : Int))).run Tryd.prog W = .ok (.slice (some ⟨W.heap.size, 0, none⟩) 0 K) (W.alloc (.cells (madeCells #[.int .u8 0] K) 5)) := by
  obtain ⟨i0, hi, hz0, hz1, hz2⟩ := info_parts info_u8J
  have := run_makeSlice (P := Tryd.prog) W 42 5 i0 _ Tryd.underlying42 hi hz0 .i64 .i64 0 (K : Int) (by omega) (by omega) (by rw [hz1]; omega) (by rw [hz2]; omega) (by omega)
  rw [this, hz1, Int.toNat_natCast, Nat.mul_one]
  rfl
set_option maxHeartbeats 4000000 in
theorem rowText_any (D : Option Addr) (row : List Int) (cd : Nat) (w : World) (hy : Ints w D row) (hr : ∀ z ∈ row, 0 ≤ z ∧ z < 65536) (hl : row.length ≤ 1000) :
    Calls Tryd.prog 91 #[.slice D row.length cd] w fun e w' => e = .returned (.string ⟨(txtR row).toArray⟩) ∧ Below w.heap.size w w' := by
  obtain ⟨i0, hi0, hz0, hz1, hz2⟩ := info_parts info_u8J
  have hm := made_bytes (2 * row.length) (by omega) w
  have e2 : ((2 * row.length : Nat) : Int) = 2 * (row.length : Int) := by omega
  rw [e2] at hm
  have h0 := World.ownsRow_made (base := w.heap.size) (e := 5) (size := 1) w (madeCells #[.int .u8 0] (2 * row.length)) (2 * row.length) (Nat.le_refl _) (by unfold maxLen; omega) (by rw [size_madeCells]; omega)
  have hb0 := bal (Below.refl w.heap.size w) (.cells (madeCells #[.int .u8 0] (2 * row.length)) 5)
  have HC : Hid (∀ (X : World) v, X.ownsRow w.heap.size 5 1 v (txtR row).length (Lib.byteCells (txtR row)) → (convert 42 9 v).run Tryd.prog X = .ok (.string ⟨(txtR row).toArray⟩) X) := fun X v ho => by
    rcases ho.2 with ⟨rfl, h0⟩ | ⟨g, cap, cur, rfl, _⟩
    · have h1 : txtR row = [] := List.eq_nil_of_length_eq_zero h0
      rw [h1]
      rw [run_convert_bytes_string X 42 9 5 none 0 0 Tryd.underlying42 Tryd.underlying5 Tryd.underlying9]
      rfl
    · refine run_convert_bytes_back X 42 9 5 ⟨g, 0, none⟩ cap (txtR row) Tryd.underlying42 Tryd.underlying5 Tryd.underlying9 fun j hj => ?_
      refine ho.cells rfl j _ ?_
      unfold Lib.byteCells
      rw [List.getElem?_map, List.getElem?_eq_getElem hj]
      rfl
  have HR := Lib.hid fun k (hk : k < row.length) => show ∃ s : Nat, nd row k = (s : Int) ∧ s < 65536 by
    have := hr (nd row k) (by rw [nd_eq hk]; exact List.getElem_mem hk)
    exact ⟨(nd row k).toNat, by omega, by omega⟩
  have HS := Lib.hid fun k (hk : k < row.length) => txtR_snoc hk
  have HL := Lib.hid fun k => show (txtR (row.take k)).length ≤ 2000 by rw [txtR_len, List.length_take]; omega
  clear hr
  go_enter Tryd.func91, Tryd.ntmps91
  go_wp2
  generalize w.alloc (.cells (madeCells #[.int .u8 0] (2 * row.length)) 5) = W1 at *
  have h0 := Lib.hid h0
  have hb0 := Lib.hid hb0
  go_loopw [3, 12] (fun bv iv wr => ∃ (k : Nat) (v : Value), v = bv ∧ k ≤ row.length ∧ iv = .int .i64 k ∧ Hid (wr.ownsRow w.heap.size 5 1 v (txtR (row.take k)).length (Lib.byteCells (txtR (row.take k)))) ∧ Hid (Below w.heap.size w wr)) (fun _ iv _ => row.length - (intOf iv).toNat)
  case atStart => exact ⟨0, _, rfl, Nat.zero_le _, rfl, h0.out, hb0.out⟩
  case round =>
    clear h0 hb0 hm
    obtain ⟨k, v, rfl, hk, rfl, HO, HB⟩ := hrel
    by_cases hlt : k < row.length
    · obtain ⟨ad, rfl, hc⟩ := (hy.below HB.out).at_ hlt
      obtain ⟨s, hs, hs6⟩ := HR.out k hlt
      have hlen := HL.out k
      have hsn := HS.out k hlt
      rw [hs] at hc hsn
      rw [Int.toNat_natCast] at hsn
      have hcl : Lib.byteCells (txtR (row.take (k + 1))) = Lib.byteCells (txtR (row.take k)) ++ [.int .u8 ((s : Int) % 256), .int .u8 ((s : Int) / 256)] := by
        rw [hsn]
        unfold Lib.byteCells
        rw [List.map_append]
        simp only [List.map_cons, List.map_nil]
        rw [UInt8.toNat_ofNat_of_lt' (by show s % 256 < 256; omega), UInt8.toNat_ofNat_of_lt' (by show s / 256 % 256 < 256; omega), show (((s % 256 : Nat)) : Int) = (s : Int) % 256 by omega, show (((s / 256 % 256 : Nat)) : Int) = (s : Int) / 256 by omega]
      have hll : (txtR (row.take (k + 1))).length = (txtR (row.take k)).length + 2 := by rw [hsn]; simp
      have HN : Hid (∀ (X : World) u, X.ownsRow w.heap.size 5 1 u ((txtR (row.take k)).length + 2) (Lib.byteCells (txtR (row.take k)) ++ [.int .u8 ((s : Int) % 256), .int .u8 ((s : Int) / 256)]) → X.ownsRow w.heap.size 5 1 u (txtR (row.take (k + 1))).length (Lib.byteCells (txtR (row.take (k + 1))))) := fun X u h => by rw [hcl, hll]; exact h
      clear hsn hcl hll hs
      generalize (txtR (row.take k)).length = tn at *
      generalize Lib.byteCells (txtR (row.take k)) = T at *
      have hbs := HB.out.size
      go_wp2_with (at_builtin; refine wpList_append_own _ rfl _ _ 42 rfl w.heap.size 5 i0 (.int .u8 0) 1 1 Tryd.underlying42 hi0 hz0 hz1 hz2 rfl (by decide) _ _ _ rfl (HO.out.alloc _) ⟨wr.heap.size, 0, none⟩ 2 2 [.int .u8 ((s : Int) % 256), .int .u8 ((s : Int) / 256)] rfl rfl (cell_two_new _ _ _ _) (by simp [Value.oneCell']) (by unfold maxLen; omega) (by omega) (by simp; omega) ?_; intro v' w6 hown' hgrow _; have HO6 := Lib.hid (HN.out _ _ hown'); have HG6 := Lib.hid hgrow; clear hown' hgrow)
      go_roundw
      case rel =>
        refine ⟨k + 1, _, rfl, by omega, by go_num, HO6.out, ?_⟩
        show Below _ _ _
        exact (HB.out.alloc (by omega) _).grown HG6.out (by simp; omega) (fun q hq => (HO.out.lt q hq).1)
      case measure => simp [intOf]; omega
    · obtain rfl : k = row.length := by omega
      have ho := HO.out
      rw [List.take_length] at ho
      have hcv := HC.out wr v ho
      clear ho HO
      go_wp2
      go_ret
      exact ⟨rfl, HB.out⟩
theorem int_keyI : Keyed Tryd.prog 3 := int_keyed Tryd.underlying3
theorem keyI {z : Int} (h : 0 ≤ z ∧ z ≤ 1000000) : keyOf Tryd.prog 3 (.int .i64 z) = some (.int .i64 z) := keyOf_int_mk Tryd.underlying3 (wf_i64J (by omega) (by omega))
/-- Block b is the map of the numbers T to their places. -/
def NumI (w : World) (b : Nat) (T : List Int) : Prop :=
  ∃ D : DataW Unit, w.ownsMap Tryd.prog 3 (plainElem Tryd.prog 3) b T.length D ∧ Maps.size D = T.length ∧
    ∀ t : Int, (t ∈ T → Maps.has D (.int .i64 t) = true ∧ ∀ z, D.atKey (.int .i64 t) z = .lit (.int .i64 (pos T t : Nat))) ∧ (t ∉ T → Maps.has D (.int .i64 t) = false)
theorem NumI.block {w w' : World} {b : Nat} {T : List Int} (h : NumI w b T) (hb : w'.heap[b]? = w.heap[b]?) : NumI w' b T := by
  obtain ⟨D, h1, h2⟩ := h
  exact ⟨D, own_blockJ h1 hb, h2⟩
theorem NumI.obj {w : World} {b : Nat} {T : List Int} (h : NumI w b T) : ∃ es clock, w.heap[b]? = some (.map es clock) := by
  obtain ⟨D, ⟨es, clock, hb, _⟩, _⟩ := h
  exact ⟨es, clock, hb⟩
theorem NumI.made (w : World) : NumI (w.alloc (.map #[] 0)) w.heap.size [] :=
  ⟨.map [], World.ownsMap_made _ _ _ _, rfl, fun t => ⟨fun h => absurd h (by simp), fun _ => rfl⟩⟩
theorem NumI.len {w : World} {b : Nat} {T : List Int} (h : NumI w b T) (ty : TypeId) : (Builtin.len_ #[111] ty #[.map (some b)]).run Tryd.prog w = .ok (.int .i64 (T.length : Nat)) w := by
  obtain ⟨D, h1, h2, _⟩ := h
  rw [h1.len Tryd.underlying111, h2]
theorem NumI.old {w : World} {b : Nat} {T : List Int} (h : NumI w b T) {t : Int} (ht : t ∈ T) (hl : 0 ≤ t ∧ t ≤ 1000000) :
    (Instr.lookup 111 (.map (some b)) (.int .i64 t) true).run Tryd.prog w = .ok (.tuple #[.int .i64 (pos T t : Nat), .bool true]) w := by
  obtain ⟨D, h1, h2, h3⟩ := h
  obtain ⟨v, ps, hrun, hv⟩ := h1.look_ok int_keyI Tryd.underlying111 (zero_int w) (plainElem_int (H := Unit) Tryd.underlying3 (a := 0) (by decide)) (keyI hl)
  obtain ⟨h5, h6⟩ := (h3 t).1 ht
  rw [h5] at hrun
  obtain ⟨a, rfl, ha, _⟩ := plainElem_int_inv Tryd.underlying3 hv
  rw [h6] at ha
  simp only [Prod.mk.injEq, DataW.lit.injEq, Lit.int.injEq, true_and] at ha
  rw [hrun, ha.1]
theorem NumI.new {w : World} {b : Nat} {T : List Int} (h : NumI w b T) {t : Int} (ht : t ∉ T) (hl : 0 ≤ t ∧ t ≤ 1000000) :
    (Instr.lookup 111 (.map (some b)) (.int .i64 t) true).run Tryd.prog w = .ok (.tuple #[.int .i64 0, .bool false]) w := by
  obtain ⟨D, h1, h2, h3⟩ := h
  obtain ⟨v, ps, hrun, hv⟩ := h1.look_ok int_keyI Tryd.underlying111 (zero_int w) (plainElem_int (H := Unit) Tryd.underlying3 (a := 0) (by decide)) (keyI hl)
  have h5 := (h3 t).2 ht
  rw [h5] at hrun
  obtain ⟨a, rfl, ha, _⟩ := plainElem_int_inv Tryd.underlying3 hv
  rw [atKey_of_not_has h5] at ha
  simp only [Prod.mk.injEq, DataW.lit.injEq, Lit.int.injEq, true_and] at ha
  rw [hrun, ← ha.1]
theorem NumI.store {w : World} {b : Nat} {T : List Int} (h : NumI w b T) {t : Int} (ht : t ∉ T) (hl : 0 ≤ t ∧ t ≤ 1000000) (hT : T.length < 100000000) :
    ∃ w', (Instr.mapUpdate 111 (.map (some b)) (.int .i64 t) (.int .i64 (T.length : Nat))).run Tryd.prog w = .ok () w' ∧ NumI w' b (T ++ [t]) ∧ w.mapTurned w' b := by
  obtain ⟨D, h1, h2, h3⟩ := h
  have hkl := keyI hl
  obtain ⟨w', hrun, h5, h6⟩ := h1.store int_keyI Tryd.underlying111 (by unfold maxLen; omega) hkl (plainElem_int (H := Unit) Tryd.underlying3 (a := ((T.length : Nat) : Int)) (wf_i64J (by omega) (by omega)))
  have hTd := h1.tidy int_keyI
  have hK := int_keyI.key hkl
  refine ⟨w', hrun, ⟨D.put (.int .i64 t) (.lit (.int .i64 ((T.length : Nat) : Int))), ?_, ?_, fun t' => ⟨fun hm => ?_, fun hm => ?_⟩⟩, h6⟩
  · rw [List.length_append]; exact h5
  · rw [size_put hTd, (h3 t).2 ht, h2, List.length_append]; rfl
  · by_cases e : t' = t
    · subst e
      refine ⟨has_put_same hTd.isMap hK _, fun z => ?_⟩
      rw [atKey_put_same hTd.isMap hK, pos_new ht]
    · have hll : (Lit.int .i64 t') ≠ .int .i64 t := fun h => e (by injection h)
      have hm' : t' ∈ T := by simpa [e] using hm
      obtain ⟨h7, h8⟩ := (h3 t').1 hm'
      exact ⟨by rw [has_put_other hll]; exact h7, fun z => by rw [atKey_put_other hll, h8 z, idx_pre (List.prefix_append _ _) hm']⟩
  · rw [List.mem_append, List.mem_singleton, not_or] at hm
    have hll : (Lit.int .i64 t') ≠ .int .i64 t := fun h => hm.2 (by injection h)
    rw [has_put_other hll]
    exact (h3 t').2 hm.1
/-- In the middle of numbering: the first k entries. -/
structure OrdW (w0 : World) (B mb g : Nat) (cl : List Int) (k : Nat) (w : World) : Prop where
  m : NumI w mb (rowF [] (cl.take k))
  c : w.heap[g]? = some (.cells (cells cl.length (fun i => if i < k then .int .i64 (pos (rowF [] (cl.take k)) (nd cl i) : Nat) else .int .i64 0)) 3 (0, 0))
  b : Below B w0 w
  lo : B ≤ mb ∧ B ≤ g
theorem rowF_one (l : List Int) {k : Nat} (h : k < l.length) : rowF [] (l.take (k + 1)) = add (rowF [] (l.take k)) (nd l k) := by rw [rowF_take h, nd_eq h]
theorem mem_rowF0 {l : List Int} {z : Int} : z ∈ rowF [] l ↔ z ∈ l := by rw [mem_rowF]; simp
theorem pos_more {l : List Int} {k i : Nat} (hi : i < k) (hk : k < l.length) : pos (rowF [] (l.take (k + 1))) (nd l i) = pos (rowF [] (l.take k)) (nd l i) := by
  rw [rowF_one l hk]
  refine idx_pre (add_pre _ _) (mem_rowF0.2 ?_)
  rw [nd_eq (by omega), List.mem_take_iff_getElem]
  exact ⟨i, by omega, rfl⟩
theorem OrdW.next {w0 : World} {B mb g : Nat} {cl : List Int} {k : Nat} {w : World} (h : OrdW w0 B mb g cl k w) (hk : k < cl.length) {w3 : World} (hm : NumI w3 mb (rowF [] (cl.take (k + 1)))) (hc : w3.heap[g]? = w.heap[g]?) (hb : Below B w0 w3) :
    w3.heap[g]? = some (.cells (cells cl.length (fun i => if i < k then .int .i64 (pos (rowF [] (cl.take k)) (nd cl i) : Nat) else .int .i64 0)) 3 (0, 0)) ∧ OrdW w0 B mb g cl (k + 1) (w3.setCell ⟨g, k, none⟩ (.int .i64 (pos (rowF [] (cl.take (k + 1))) (nd cl k) : Nat))) := by
  have hg := hc.trans h.c
  have hne : mb ≠ g := fun e => by obtain ⟨es, clk, ho⟩ := hm.obj; rw [e, hg] at ho; cases ho
  refine ⟨hg, hm.block (Below.heap_setCell _ _ _ _ hne), ?_, hb.setCell (p := ⟨g, k, none⟩) h.lo.2 _, h.lo⟩
  rw [heap_put hg, cells_set _ hk]
  congr 2
  exact cells_congr fun i hi => by
    by_cases e : i = k
    · subst e; rw [if_pos rfl, if_pos (by omega)]
    · rw [if_neg e]
      by_cases e2 : i < k
      · rw [if_pos e2, if_pos (by omega), pos_more e2 hk]
      · rw [if_neg e2, if_neg (by omega)]
set_option maxHeartbeats 4000000 in
theorem inOrder_any (A : Option Addr) (cl : List Int) (ca : Nat) (w : World) (hx : Ints w A cl) (hr : ∀ z ∈ cl, 0 ≤ z ∧ z ≤ 1000000) (hl : cl.length ≤ 100000) :
    Calls Tryd.prog 63 #[.slice A cl.length ca] w fun e w' => ∃ g, e = .returned (.slice (some ⟨g, 0, none⟩) cl.length cl.length) ∧ w.heap.size ≤ g ∧ w'.heap[g]? = some (.cells (zvs (ordL cl)).toArray 3 (0, 0)) ∧ Below w.heap.size w w' := by
  have hmm := @run_makeMap Tryd.prog
  have hm := made_ints cl.length (by omega) (w.alloc (.map #[] 0))
  have HF : Hid (cells cl.length (fun i => if i < cl.length then .int .i64 (pos (rowF [] (cl.take cl.length)) (nd cl i) : Nat) else .int .i64 0) = (zvs (ordL cl)).toArray) := by
    show _ = _
    rw [cells_congr (g := fun i => .int .i64 (pos (rowF [] cl) (nd cl i) : Nat)) fun i hi => by rw [if_pos hi, List.take_length]]
    refine cells_zvs _ (fun i => ((pos (rowF [] cl) (nd cl i) : Nat) : Int)) _ (ordL_len _) fun i hi => ?_
    unfold ordL
    rw [nd_eq (by simpa using hi), List.getElem_map, nd_eq hi]
  have hb1 := bal (Below.refl w.heap.size w) (.map #[] 0)
  have hb0 := bal hb1 (.cells (cells cl.length fun _ => .int .i64 0) 3)
  have hs1 : (w.alloc (.map #[] 0)).heap.size = w.heap.size + 1 := World.size_alloc ..
  have H0 : OrdW w w.heap.size w.heap.size (w.heap.size + 1) cl 0 ((w.alloc (.map #[] 0)).alloc (.cells (cells cl.length fun _ => .int .i64 0) 3)) := by
    refine ⟨(NumI.made w).block (Below.heap_alloc _ _ _ (by omega)), ?_, hb0, ⟨Nat.le_refl _, by omega⟩⟩
    rw [cells_congr (g := fun _ => .int .i64 0) fun i hi => if_neg (by omega)]
    have := World.alloc_heap_new (w.alloc (.map #[] 0)) (.cells (cells cl.length fun _ => .int .i64 0) 3)
    rwa [hs1] at this
  have HR := Lib.hid fun k (hk : k < cl.length) => show ∃ s : Nat, nd cl k = (s : Int) ∧ s ≤ 1000000 by
    have := hr (nd cl k) (by rw [nd_eq hk]; exact List.getElem_mem hk)
    exact ⟨(nd cl k).toNat, by omega, by omega⟩
  clear hr hb1 hb0
  go_enter Tryd.func63, Tryd.ntmps63
  go_wp2
  try rw [hs1]
  generalize ((w.alloc (.map #[] 0)).alloc (.cells (cells cl.length fun _ => .int .i64 0) 3)) = W1 at *
  clear hm hmm
  go_loopw [15, 5, 6, 7, 8] (fun iv _ _ _ _ wr => ∃ k : Nat, k ≤ cl.length ∧ iv = .int .i64 k ∧ Hid (OrdW w w.heap.size w.heap.size (w.heap.size + 1) cl k wr)) (fun iv _ _ _ _ _ => cl.length - (intOf iv).toNat)
  case atStart => exact ⟨0, by omega, rfl, H0⟩
  case round =>
    clear H0
    obtain ⟨k, hk, rfl, HO⟩ := hrel
    by_cases hlt : k < cl.length
    · obtain ⟨ad, rfl, hcell⟩ := (hx.below HO.out.b).at_ hlt
      obtain ⟨s, hs, hs6⟩ := HR.out k hlt
      have hn1 : (k : Int) < (cl.length : Int) := by omega
      have hmT : (rowF [] (cl.take k)).length ≤ 100000 := by
        have h1 : (rowF [] (cl.take k)).Nodup := nodup_rowF List.nodup_nil
        have h2 := List.Nodup.length_le_of_subset h1 (l₂ := cl.take k) fun z hz => mem_rowF0.1 hz
        rw [List.length_take] at h2
        omega
      have hstep := rowF_one cl hlt
      rw [hs] at hcell
      by_cases hmem : nd cl k ∈ rowF [] (cl.take k)
      · have hadd : rowF [] (cl.take (k + 1)) = rowF [] (cl.take k) := by rw [hstep]; exact if_pos hmem
        have hlk := HO.out.m.old hmem (by rw [hs]; omega)
        obtain ⟨hg, hN⟩ := HO.out.next hlt (w3 := wr) (by rw [hadd]; exact HO.out.m) rfl HO.out.b
        rw [hadd] at hN
        have c1 := cell_of hg hlt
        have f1 := free_of hg k
        have hgl := blk_lt hg
        rw [if_neg (by omega)] at c1
        have hN := Lib.hid hN
        rw [hs] at hlk hN
        clear HO hg hstep hadd hmem hs
        generalize ((pos (rowF [] (cl.take k)) (s : Int) : Nat) : Int) = pz at *
        go_wp2
        go_roundw
        case rel => exact ⟨k + 1, by omega, by go_num, hN⟩
        case measure => simp [intOf]; omega
      · have hadd : rowF [] (cl.take (k + 1)) = rowF [] (cl.take k) ++ [nd cl k] := by rw [hstep]; exact if_neg hmem
        have hlk := HO.out.m.new hmem (by rw [hs]; omega)
        have hln := HO.out.m.len
        obtain ⟨w3, hst, hm3, ht3⟩ := HO.out.m.store hmem (by rw [hs]; omega) (by omega)
        have hlo := HO.out.lo
        have hgo := HO.out.c
        have hgb : w.heap.size + 1 ≠ w.heap.size := by omega
        obtain ⟨hg, hN⟩ := HO.out.next hlt (w3 := w3) (by rw [hadd]; exact hm3) (turned_otherJ ht3 hgb) ((HO.out.b).grown ht3.grown (by have := HO.out.b.size; omega) (fun q hq => by cases hq; exact Nat.le_refl _))
        have hpz : pos (rowF [] (cl.take (k + 1))) (nd cl k) = (rowF [] (cl.take k)).length := by rw [hadd]; exact pos_new hmem
        rw [hpz] at hN
        have c1 := cell_of hg hlt
        have f1 := free_of hg k
        have hgl := blk_lt hg
        rw [if_neg (by omega)] at c1
        have hN := Lib.hid hN
        rw [hs] at hlk hst
        clear HO hg hstep hadd hmem hs hm3 ht3 hgo hpz
        generalize (rowF [] (cl.take k)).length = pz at *
        go_wp2
        go_roundw
        case rel => exact ⟨k + 1, by omega, by go_num, hN⟩
        case measure => simp [intOf]; omega
    · obtain rfl : k = cl.length := by omega
      have hc := HO.out.c
      rw [HF.out] at hc
      have hb := HO.out.b
      clear HO
      go_wp2
      go_ret
      exact ⟨_, rfl, by omega, hc, hb⟩
end Go.Proofs.YtkgeihambgbjdaaDoor.Mi
/- predecessors (package minimal): for each state those that lead tt it. -/
namespace Go.Proofs.YtkgeihambgbjdaaDoor.Mi
open Go Go.RowKit Go.Maps Go.Proofs.YtkgeihambgbjdaaDoor Go.Proofs.YtkgeihambgbjdaaDoor.Cb Go.Proofs.YtkgeihambgbjdaaDoor.Sb
open Go.Proofs.YtkgeihambgbjdaaDoor.Nf (zvs zvs_snoc info_int6 ret_int ret_b drew_below)
open Go.Proofs.YtkgeihambgbjdaaDoor.Dg (Tabs tb tb_mem mem_tb info_tab)
set_option linter.unusedVariables false
set_option linter.unusedSimpArgs false
set_option maxRecDepth 100000
def rowPre (s : Nat) (row : List Int) (tt : Nat) : List Int := (row.filter fun z => decide (z = (tt : Int))).map fun _ => (s : Int)
def preF (T : List (List Int)) (i tt : Nat) : List Int := (List.range i).flatMap fun s => rowPre s (tb T s) tt
def preP (T : List (List Int)) (i j tt : Nat) : List Int := preF T i tt ++ rowPre i ((tb T i).take j) tt
theorem rowPre_len (s : Nat) (row : List Int) (tt : Nat) : (rowPre s row tt).length ≤ row.length := by
  unfold rowPre
  rw [List.length_map]
  exact List.length_filter_le _ _
theorem preF_len {T : List (List Int)} {L : Nat} (h : ∀ s, (tb T s).length ≤ L) (i tt : Nat) : (preF T i tt).length ≤ i * L := by
  unfold preF
  induction i with
  | zero => simp
  | succ i ih =>
    rw [List.range_succ, List.flatMap_append, List.length_append, Nat.succ_mul]
    have h1 := rowPre_len i (tb T i) tt
    have h2 := h i
    simp only [List.flatMap_cons, List.flatMap_nil, List.append_nil]
    omega
theorem preP_zero (T : List (List Int)) (i tt : Nat) : preP T i 0 tt = preF T i tt := by simp [preP, rowPre]
theorem preP_end (T : List (List Int)) (i tt : Nat) : preP T i (tb T i).length tt = preF T (i + 1) tt := by
  unfold preP preF
  rw [List.take_length, List.range_succ, List.flatMap_append]
  simp
theorem preP_step {T : List (List Int)} {i j : Nat} (hj : j < (tb T i).length) {k tt : Nat} (hk : nd (tb T i) j = (k : Int)) : preP T i (j + 1) tt = if tt = k then preP T i j tt ++ [(i : Int)] else preP T i j tt := by
  unfold preP rowPre
  rw [List.take_add_one, List.getElem?_eq_getElem hj, List.filter_append, List.map_append, ← nd_eq hj, hk]
  by_cases e : tt = k
  · subst e
    rw [if_pos rfl, List.append_assoc]
    simp
  · rw [if_neg e]
    have : ¬ ((k : Int) = (tt : Int)) := by omega
    simp [this]
theorem preP_len {T : List (List Int)} {L : Nat} (h : ∀ s, (tb T s).length ≤ L) (i j tt : Nat) : (preP T i j tt).length ≤ (i + 1) * L := by
  unfold preP
  rw [List.length_append, Nat.succ_mul]
  have h1 := preF_len h i tt
  have h2 := rowPre_len i ((tb T i).take j) tt
  have h3 : ((tb T i).take j).length ≤ (tb T i).length := by rw [List.length_take]; omega
  have h4 := h i
  omega
theorem mem_preF {T : List (List Int)} {n tt : Nat} {z : Int} : z ∈ preF T n tt ↔ ∃ s : Nat, s < n ∧ z = (s : Int) ∧ (tt : Int) ∈ tb T s := by
  unfold preF rowPre
  rw [List.mem_flatMap]
  constructor
  · rintro ⟨s, hs, hz⟩
    obtain ⟨y, hy, rfl⟩ := List.mem_map.1 hz
    obtain ⟨h1, h2⟩ := List.mem_filter.1 hy
    rw [decide_eq_true_eq] at h2
    exact ⟨s, List.mem_range.1 hs, rfl, h2 ▸ h1⟩
  · rintro ⟨s, hs, rfl, hm⟩
    exact ⟨s, List.mem_range.2 hs, List.mem_map.2 ⟨_, List.mem_filter.2 ⟨hm, by simp⟩, rfl⟩⟩
/-- A table of rows of one's own that grow. -/
structure TabA (w0 : World) (B : Nat) (w : World) (g n : Nat) (v : Nat → Value) (f : Nat → List Int) : Prop where
  o : w.heap[g]? = some (.cells (cells n v) 33 (0, 0))
  own : ∀ k, k < n → w.ownsRow B 3 1 (v k) (f k).length (zvs (f k))
  dis : ∀ k, k < n → ∀ k', k' < n → k ≠ k' → (v k).ownBlock = none ∨ (v k).ownBlock ≠ (v k').ownBlock
  b : Below B w0 w
  lo : B ≤ g
theorem TabA.congr {w0 : World} {B : Nat} {w : World} {g n : Nat} {v : Nat → Value} {f f' : Nat → List Int} (h : TabA w0 B w g n v f) (e : ∀ k, k < n → f k = f' k) : TabA w0 B w g n v f' :=
  ⟨h.o, fun k hk => by rw [← e k hk]; exact h.own k hk, h.dis, h.b, h.lo⟩
theorem TabA.put {w0 : World} {B : Nat} {Y Z : World} {g n : Nat} {v : Nat → Value} {f : Nat → List Int} (h : TabA w0 B Y g n v f) {k0 : Nat} (hk0 : k0 < n) {u : Value} {z : Int} {tmp : Obj} (hg : (Y.alloc tmp).grownBy Z (v k0).ownBlock)
    (ho : Z.ownsRow B 3 1 u ((f k0).length + 1) (zvs (f k0) ++ [.int .i64 z])) (hob : u.ownBlock = (v k0).ownBlock ∨ u.ownBlock = some (Y.alloc tmp).heap.size) :
    Z.heap[g]? = some (.cells (cells n v) 33 (0, 0)) ∧ TabA w0 B (Z.setCell ⟨g, k0, none⟩ u) g n (fun k => if k = k0 then u else v k) (fun k => if k = k0 then f k ++ [z] else f k) := by
  have hv0 := h.own k0 hk0
  have hgl := blk_lt h.o
  have hgZ : Z.heap[g]? = some (.cells (cells n v) 33 (0, 0)) :=
    (hg.block g (by simp; omega) (fun e => own_ne h.o hv0 (by decide) e.symm)).trans ((Below.heap_alloc Y tmp g hgl).trans h.o)
  refine ⟨hgZ, ?_, ?_, ?_, ?_, h.lo⟩
  · rw [heap_put hgZ, cells_set _ hk0]
  · intro k hk
    show World.ownsRow _ B 3 1 (if k = k0 then u else v k) (if k = k0 then f k ++ [z] else f k).length (zvs (if k = k0 then f k ++ [z] else f k))
    by_cases e : k = k0
    · subst e
      rw [if_pos rfl, if_pos rfl, zvs_snoc, List.length_append]
      exact row_put ho (own_ne hgZ ho (by decide)) _ _
    · rw [if_neg e, if_neg e]
      have hk1 := ((h.own k hk).alloc tmp).kept hg (h.dis k hk k0 hk0 e)
      exact row_put hk1 (own_ne hgZ hk1 (by decide)) _ _
  · intro k hk k' hk' hn
    have hfresh : ∀ k, k < n → (v k).ownBlock ≠ some (Y.alloc tmp).heap.size := fun k hk he => by
      have := own_lt (h.own k hk) he
      simp at this
      omega
    show (if k = k0 then u else v k).ownBlock = none ∨ (if k = k0 then u else v k).ownBlock ≠ (if k' = k0 then u else v k').ownBlock
    by_cases e : k = k0
    · have e' : ¬ k' = k0 := fun h' => hn (by omega)
      rw [if_pos e, if_neg e']
      subst e
      rcases hob with ho1 | ho1
      · rw [ho1]; exact h.dis _ hk _ hk' hn
      · rw [ho1]; exact .inr fun he => hfresh _ hk' he.symm
    · rw [if_neg e]
      by_cases e' : k' = k0
      · rw [if_pos e']
        subst e'
        rcases hob with ho1 | ho1
        · rw [ho1]; exact h.dis _ hk _ hk' hn
        · rw [ho1]; exact .inr fun he => hfresh _ hk he
      · rw [if_neg e']; exact h.dis _ hk _ hk' hn
  · by_cases hB : B ≤ Y.heap.size
    · exact (((h.b.alloc hB tmp).grown hg (by simp; omega) (fun q hq => (own_lt hv0 hq).1))).setCell (p := ⟨g, k0, none⟩) h.lo _
    · have := h.lo; omega
/-- What predecessors leaves. -/
def PreO (B : Nat) (w : World) (g n : Nat) (T : List (List Int)) : Prop := ∃ v : Nat → Value, w.heap[g]? = some (.cells (cells n v) 33 (0, 0)) ∧ B ≤ g ∧ ∀ k, k < n → w.ownsRow B 3 1 (v k) (preF T n k).length (zvs (preF T n k))
set_option maxHeartbeats 8000000 in
theorem predecessors_any (A : Option Addr) (T : List (List Int)) (a L : Nat) (w : World) (hx : Tabs w A T) (hT : ∀ r ∈ T, r.length ≤ L ∧ ∀ z ∈ r, 0 ≤ z ∧ z < (T.length : Int)) (hn : T.length ≤ 4096) (hL : L ≤ 64) :
    Calls Tryd.prog 75 #[.slice A T.length a] w fun e w' => e = .returned (.slice (some ⟨w.heap.size, 0, none⟩) T.length T.length) ∧ PreO w.heap.size w' w.heap.size T.length T ∧ Below w.heap.size w w' := by
  have hTl : ∀ s, (tb T s).length ≤ L := fun s => by
    by_cases h : s < T.length
    · exact (hT _ (tb_mem h)).1
    · unfold tb
      rw [List.getD_eq_getElem?_getD, List.getElem?_eq_none (by omega)]
      simp
  have HB := Lib.hid fun i j tt => preP_len hTl i j tt
  have HTn := Lib.hid fun i j (hi : i < T.length) (hj : j < (tb T i).length) => show ∃ k : Nat, nd (tb T i) j = (k : Int) ∧ k < T.length by
    have := (hT _ (tb_mem hi)).2 (nd (tb T i) j) (by rw [nd_eq hj]; exact List.getElem_mem hj)
    exact ⟨(nd (tb T i) j).toNat, by omega, by omega⟩
  have HLn := Lib.hid fun i (hi : i < T.length) => (hT _ (tb_mem hi)).1
  obtain ⟨i0, hi0, hz0, hz1, hz2⟩ := info_parts info_tab
  have hm : (Instr.makeSlice 22 (.int .i64 (T.length : Int)) (.int .i64 (T.length : Int))).run Tryd.prog w = .ok (.slice (some ⟨w.heap.size, 0, none⟩) T.length T.length) (w.alloc (.cells (cells T.length fun _ => .slice none 0 0) 33)) := by
    have := run_makeSlice (P := Tryd.prog) w 22 33 i0 _ Tryd.underlying22 hi0 hz0 .i64 .i64 (T.length : Int) (T.length : Int) (by omega) (Int.le_refl _) (by rw [hz1]; omega) (by rw [hz2]; omega) (by omega)
    rw [this, hz1, Int.toNat_natCast, Nat.mul_one, ← made_cells]
    rfl
  have H0 : Hid (TabA w w.heap.size (w.alloc (.cells (cells T.length fun _ => .slice none 0 0) 33)) w.heap.size T.length (fun _ => .slice none 0 0) (preF T 0)) :=
    ⟨World.alloc_heap_new w _, fun k _ => ⟨rfl, .inl ⟨rfl, rfl⟩⟩, fun k _ k' _ _ => .inl rfl, bal (Below.refl _ _) _, Nat.le_refl _⟩
  clear hT hTl
  clear i0 hi0 hz0 hz1 hz2
  obtain ⟨i0, hi0, hz0, hz1, hz2⟩ := info_parts info_int6
  go_enter Tryd.func75, Tryd.ntmps75
  go_wp2
  generalize w.alloc (.cells (cells T.length fun _ => .slice none 0 0) 33) = W1 at *
  clear hm
  have hgg : Hid (w.heap.size = w.heap.size) := rfl
  obtain ⟨g, hg⟩ : ∃ g, g = w.heap.size := ⟨_, rfl⟩
  have HG := Lib.hid hg
  rw [← hg] at H0 ⊢
  clear hg hgg
  go_loopw [13, 4, 5, 7] (fun iv _ _ _ wr => ∃ (k : Nat) (v : Nat → Value), k ≤ T.length ∧ iv = .int .i64 k ∧ Hid (TabA w g wr g T.length v (preF T k))) (fun iv _ _ _ _ => T.length - (intOf iv).toNat)
  case atStart => exact ⟨0, _, by omega, rfl, H0⟩
  case round =>
    clear H0
    obtain ⟨k, v, hk, rfl, HA⟩ := hrel
    have hbw : Below w.heap.size w wr := by rw [← HG.out]; exact HA.out.b
    by_cases hlt : k < T.length
    · obtain ⟨ad, p, c, rfl, hbk, hcell, hi⟩ := (hx.below hbw) k hlt
      have hn1 : (k : Int) < (T.length : Int) := by omega
      have HiK := Lib.hid fun (X : World) (hX : Below w.heap.size w X) => show Ints X p (tb T k) by
        obtain ⟨ad', p', c', e1, e2, e3, e4⟩ := hx k hlt
        cases e1
        have h5 := (Below.cell hbw (p := ad.add k) (by rw [addr_block]; exact e2)).trans e3
        rw [hcell] at h5
        cases h5
        exact e4.below hX
      have hrl := HLn.out k hlt
      go_wp2
      have HA0 : Hid (TabA w g wr g T.length v (preP T k 0)) := HA.out.congr fun tt _ => (preP_zero T k tt).symm
      clear HA hi hcell hbw
      go_loopw [20, 7] (fun jv _ wr2 => ∃ (j : Nat) (v2 : Nat → Value), j ≤ (tb T k).length ∧ jv = .int .i64 j ∧ Hid (TabA w g wr2 g T.length v2 (preP T k j))) (fun jv _ _ => (tb T k).length - (intOf jv).toNat)
      case atStart => exact ⟨0, v, by omega, rfl, HA0⟩
      case round =>
        clear HA0
        obtain ⟨j, v2, hj, rfl, HA⟩ := hrel
        by_cases hjl : j < (tb T k).length
        · have hbw : Below w.heap.size w wr := by rw [← HG.out]; exact HA.out.b
          obtain ⟨ad3, hP3, hc3⟩ := (HiK.out wr hbw).at_ hjl
          subst hP3
          obtain ⟨tt, hto, htl⟩ := HTn.out k j hlt hjl
          rw [hto] at hc3
          have hov := HA.out.own tt htl
          obtain ⟨A1, c1, hv1, hcap⟩ := Ap.own_form hov
          have hPut := Lib.hid fun (Z : World) u tmp hg ho hob => HA.out.put (Z := Z) (u := u) (z := (k : Int)) (tmp := tmp) htl hg ho hob
          rw [hv1] at hPut hov
          have s0 := cell_of HA.out.o htl
          rw [hv1] at s0
          have hln := HB.out k j tt
          have hml : (preP T k j tt).length ≤ 1000000 := by
            have : (k + 1) * L ≤ 4096 * 64 := Nat.mul_le_mul (by omega) hL
            omega
          have hnx : Hid (∀ tt', preP T k (j + 1) tt' = if tt' = tt then preP T k j tt' ++ [(k : Int)] else preP T k j tt') := fun tt' => preP_step hjl hto
          have hbase : g ≤ wr.heap.size := by have := HA.out.b.size; have := blk_lt HA.out.o; omega
          have hto2 : (tt : Int) < (T.length : Int) := by omega
          have hgl : g < wr.heap.size := blk_lt HA.out.o
          clear HA hto hln hcap
          generalize hFz : zvs (preP T k j tt) = Fz at *
          generalize hFl : (preP T k j tt).length = fl at *
          go_wp2_with (at_builtin; refine wpList_append_own_at _ rfl _ _ 33 rfl g 3 i0 (.int .i64 0) 1 8 Tryd.underlying33 hi0 hz0 hz1 hz2 rfl (by decide) _ _ _ rfl (hov.alloc _) ⟨wr.heap.size, 0, none⟩ 1 1 [.int .i64 k] rfl rfl (cell_one_new _ _ _) (by simp [Value.oneCell']) (by unfold maxLen; omega) (by omega) (by simp; omega) ?_; intro v' w6 hown' hgrow _ hob; obtain ⟨A2, c2, rfl, _⟩ := Ap.own_form hown'; obtain ⟨hgZ, hnew⟩ := hPut.out w6 _ _ hgrow hown' hob; have hnew := Lib.hid hnew; have f6 := free_of hgZ tt; have c6 := cell_of hgZ htl; have l6 := blk_lt hgZ; rw [hv1] at c6; clear hown' hgrow hob hgZ)
          go_roundw
          case rel => exact ⟨j + 1, _, by omega, by go_num, hnew.out.congr fun tt' _ => (hnx.out tt').symm⟩
          case measure => simp [intOf]; omega
        · obtain rfl : j = (tb T k).length := by omega
          have HA2 : Hid (TabA w g wr g T.length v2 (preF T (k + 1))) := HA.out.congr fun tt _ => preP_end T k tt
          clear HA
          go_wp2
          go_roundw
          case rel => exact ⟨k + 1, v2, by omega, by go_num, HA2⟩
          case measure => simp [intOf]; omega
    · obtain rfl : k = T.length := by omega
      have hg := HG.out
      subst hg
      go_wp2
      go_ret
      exact ⟨rfl, ⟨v, HA.out.o, Nat.le_refl _, HA.out.own⟩, hbw⟩
end Go.Proofs.YtkgeihambgbjdaaDoor.Mi
/- A loop over an iterator whose elements are only known in the world in which they are yielded, and whose body never leaves early. Plain lemma over any program. -/
namespace Go.Proofs.YtkgeihambgbjdaaDoor.Mi
open Go Go.RowKit Go.Proofs.YtkgeihambgbjdaaDoor
set_option linter.unusedVariables false
theorem loop_pre {F : Fence} {n : Nat} {P : Program} {α : Type} {g : Operand} {ps : Array Tmp} {assign body : Code} {Q : Exit → Act → World → Prop} {a : Act} {w : World}
    (hro : F.round = none) (h1 : 1 ≤ n) {gf : Nat} {lb : Array Value} (hg : a.eval g = .func (.func gf) #[] lb) (hFg : F.fn gf) (eg : ∀ args w, (callFunc gf args).run P w = .ok (.enter gf args) w)
    (K : Nat) (encs : α → Array Value) (hps : ∀ x, (encs x).size = ps.size) (Pre : α → World → Prop) (I : List α → World → Prop) (S : List α → Prop)
    (hIb : ∀ pre X Y, I pre X → Below X.heap.size X Y → I pre Y)
    (hIp : ∀ pre X l o o', w.heap.size ≤ l → X.heap[l]? = some o → o.isCells = false → I pre X → I pre (X.putObj l o'))
    (hPp : ∀ x X l o o', w.heap.size ≤ l → X.heap[l]? = some o → o.isCells = false → Pre x X → Pre x (X.putObj l o'))
    (h0 : I [] w)
    (hseq : ∀ (l : Nat) (J : List α → World → Prop) (W : World), Below w.heap.size w W → (∀ pre X Y, J pre X → Below X.heap.size X Y → J pre Y) → (∀ pre X, J pre X → I pre X) →
      (∀ pre x X, J pre X → Pre x X → pre.length < K → YieldAt F (n - 1 - 1) P l (encs x) X fun e Y => e = .returned (.bool true) ∧ J (pre ++ [x]) Y) → J [] W →
      CallsIn F (n - 1) P gf (#[.func (.yield l) #[] #[]] ++ lb) W fun e Y => (∃ v, e = .returned v) ∧ ∃ xs, S xs ∧ J xs Y)
    (tm : α → Array Value)
    (hassign : ∀ (l : Nat) (x : α) (X : World) (KK : Act → World → Prop), KK { tmps := tm x, defers := [] } X → assign.wpIn (F.inRound l) (n - 1 - 1) P (Exit.then KK (fun _ _ _ => False)) { tmps := (ps.zip (encs x)).foldl (fun t (p, v) => t.setIfInBounds p v) a.tmps, defers := [] } X)
    (hbody : ∀ (l : Nat) (pre : List α) (x : α) (X : World), I pre X → Pre x X → pre.length < K → body.wpIn (F.inRound l) (n - 1 - 1) P (fun e _ Y => e = .normal ∧ KeepsFrom w.heap.size X Y ∧ I (pre ++ [x]) Y) { tmps := tm x, defers := [] } X)
    (hdone : ∀ (D : Nat) (xs : List α) (X : World), w.heap.size ≤ D → S xs → I xs X → X.heap[D]? = some (.deferred (some [])) → Q .normal { a with defers := { target := .collected D, args := #[] } :: a.defers } X) :
    (Code.rangeFunc g ps assign body).wpIn F n P Q a w := by
  refine wpIn_rangeFunc fun fn hfn => ?_
  rw [hro]
  -- the loop's record in the state st
  let R : LoopState → Loop := fun st => { state := st, pending := none, fn := fn, tmps := a.tmps, params := ps, assign := assign, body := body, defers := w.heap.size }
  have hsz : (w.alloc (.deferred (some []))).heap.size = w.heap.size + 1 := World.size_alloc ..
  have hrec : ((w.alloc (.deferred (some []))).alloc (.loop (R .ready))).heap[w.heap.size + 1]? = some (.loop (R .ready)) := by
    have := World.alloc_heap_new (w.alloc (.deferred (some []))) (.loop (R .ready))
    rwa [hsz] at this
  have hdef : ((w.alloc (.deferred (some []))).alloc (.loop (R .ready))).heap[w.heap.size]? = some (.deferred (some [])) :=
    (Below.heap_alloc _ _ _ (by omega)).trans (World.alloc_heap_new w _)
  have hbel : Below w.heap.size w ((w.alloc (.deferred (some []))).alloc (.loop (R .ready))) := ((Below.refl _ w).alloc (Nat.le_refl _) _).alloc (by omega) _
  have hI1 : I [] ((w.alloc (.deferred (some []))).alloc (.loop (R .ready))) := hIb _ _ _ h0 hbel
  obtain ⟨W1, hW1⟩ : ∃ X, (w.alloc (.deferred (some []))).alloc (.loop (R .ready)) = X := ⟨_, rfl⟩
  rw [hW1] at hrec hdef hbel hI1
  refine ⟨w.heap.size + 1, [{ target := .collected w.heap.size, args := #[] }], W1, { target := .fn (.func gf) lb, args := #[.func (.yield (w.heap.size + 1)) #[] #[]] }, W1, gf, #[.func (.yield (w.heap.size + 1)) #[] #[]] ++ lb, W1, ?_, ?_, ?_, ?_, fun _ => h1, ?_⟩
  · rw [← hW1]
    exact run_enterLoop_outer _ _ _ _ _
  · simp only [resolve, hg]
    simp [go_sem]
  · intro f' hf'
    simp [Target.leads] at hf'
    subst hf'
    exact hFg
  · simp [invoke, go_sem, eg]
  -- the iterator, with the two blocks of book-keeping beside the invariant
  refine (hseq (w.heap.size + 1) (fun pre X => I pre X ∧ X.heap[w.heap.size + 1]? = some (.loop (R .ready)) ∧ X.heap[w.heap.size]? = some (.deferred (some []))) W1 hbel
    (fun pre X Y h hb => ⟨hIb _ _ _ h.1 hb, (hb.block _ (Array.getElem?_eq_some_iff.1 h.2.1).1).trans h.2.1, (hb.block _ (Array.getElem?_eq_some_iff.1 h.2.2).1).trans h.2.2⟩)
    (fun pre X h => h.1) ?_ ⟨hI1, hrec, hdef⟩).mono ?_
  · rintro pre x X ⟨hi, hl, hd⟩ hp hlen
    refine ⟨fn, _, assign, body, run_yield (P := P) (args := encs x) hl (hps x), roundIn_of_wpIn hfn (hassign _ x X _ ?_)⟩
    refine ⟨_, run_beginRound hl rfl, ?_⟩
    have hlt := (Array.getElem?_eq_some_iff.1 hl).1
    have hl2 : (X.putObj (w.heap.size + 1) (.loop (R .busy))).heap[w.heap.size + 1]? = some (.loop (R .busy)) := World.putObj_heap_same hlt
    have hd2 : (X.putObj (w.heap.size + 1) (.loop (R .busy))).heap[w.heap.size]? = some (.deferred (some [])) := (World.putObj_heap_other (by omega)).trans hd
    refine wpIn_mono (hbody (w.heap.size + 1) pre x _ (hIp _ _ _ _ _ (by omega) hl rfl hi) (hPp _ _ _ _ _ (by omega) hl rfl hp) hlen) ?_
    rintro e a3 Y ⟨rfl, hk, hi3⟩
    have hl3 := hk.same _ _ (by omega) hl2 rfl
    have hd3 := hk.same _ _ (Nat.le_refl _) hd2 rfl
    exact ⟨_, _, run_endRound none hl3, rfl, hIp _ _ _ _ _ (by omega) hl3 rfl hi3, World.putObj_heap_same (Array.getElem?_eq_some_iff.1 hl3).1, (World.putObj_heap_other (by omega)).trans hd3⟩
  · rintro e Y ⟨⟨v, rfl⟩, xs, hS, hi, hl, hd⟩
    exact ⟨none, _, run_endLoop hl (by simp [R]), hdone _ xs _ (Nat.le_refl _) hS (hIp _ _ _ _ _ (by omega) hl rfl hi) ((World.putObj_heap_other (by omega)).trans hd)⟩
end Go.Proofs.YtkgeihambgbjdaaDoor.Mi
/- parts (package minimal): number, the closure that it calls. -/
namespace Go.Proofs.YtkgeihambgbjdaaDoor.Mi
open Go Go.RowKit Go.Maps Go.Proofs.YtkgeihambgbjdaaDoor Go.Proofs.YtkgeihambgbjdaaDoor.Cb Go.Proofs.YtkgeihambgbjdaaDoor.Sb
open Go.Proofs.YtkgeihambgbjdaaDoor.Nf (zvs zvs_snoc info_int6 ret_int ret_b drew_below)
open Go.Proofs.YtkgeihambgbjdaaDoor.Dg (Tabs tb tb_mem mem_tb info_tab)
set_option linter.unusedVariables false
set_option linter.unusedSimpArgs false
set_option maxRecDepth 100000
/-- What collecting the parts of a class has so far: the numbers of the rows, the parts. -/
structure PtS (w0 : World) (N bn bp rb : Nat) (Ks P : List (List Int)) (pv : Value) (vs : List Value) (w : World) : Prop where
  n : w.heap[bn]? = some (.cells #[.map (some rb)] 101 (0, 0))
  p : w.heap[bp]? = some (.cells #[pv] 22 (0, 0))
  m : NumM w rb (Ks.map txtR)
  o : w.ownsRow N 33 1 pv P.length vs
  r : ∀ i v, vs[i]? = some v → w.ownsRow N 3 1 v (tb P i).length (zvs (tb P i))
  d : ∀ (i i' : Nat) (v v' : Value), i ≠ i' → vs[i]? = some v → vs[i']? = some v' → v.ownBlock = none ∨ v.ownBlock ≠ v'.ownBlock
  lo : bn < N ∧ bp < N ∧ rb < N ∧ N ≤ w0.heap.size
  b : Exc [bp, rb] N w0 w
theorem PtS.len {w0 : World} {N bn bp rb : Nat} {Ks P : List (List Int)} {pv : Value} {vs : List Value} {w : World} (h : PtS w0 N bn bp rb Ks P pv vs w) : vs.length = P.length := by have := h.o.1; omega
theorem PtS.big {w0 : World} {N bn bp rb : Nat} {Ks P : List (List Int)} {pv : Value} {vs : List Value} {w : World} (h : PtS w0 N bn bp rb Ks P pv vs w) : N ≤ w.heap.size := Nat.le_trans h.lo.2.2.2 h.b.size
theorem PtS.below {w0 : World} {N bn bp rb : Nat} {Ks P : List (List Int)} {pv : Value} {vs : List Value} {w w' : World} (h : PtS w0 N bn bp rb Ks P pv vs w) (hb : Below w.heap.size w w') : PtS w0 N bn bp rb Ks P pv vs w' := by
  obtain ⟨es, clock, hrb⟩ := h.m.obj
  exact ⟨(hb.block _ (blk_lt h.n)).trans h.n, (hb.block _ (blk_lt h.p)).trans h.p, h.m.block (hb.block _ (blk_lt hrb)), h.o.below hb, fun i v hv => (h.r i v hv).below hb, h.d, h.lo, h.b.trans (exc_of_call hb h.big)⟩
theorem PtS.obj {w0 : World} {N bn bp rb : Nat} {Ks P : List (List Int)} {pv : Value} {vs : List Value} {w : World} (h : PtS w0 N bn bp rb Ks P pv vs w) {l : Nat} {o : Obj} (o' : Obj) (hl : N ≤ l) (ho : w.heap[l]? = some o) (hc : o.isCells = false) : PtS w0 N bn bp rb Ks P pv vs (w.putObj l o') := by
  have hlo := h.lo
  have hot : ∀ b, b ≠ l → (w.putObj l o').heap[b]? = w.heap[b]? := fun b hb => World.putObj_heap_other hb
  exact ⟨(hot _ (by omega)).trans h.n, (hot _ (by omega)).trans h.p, h.m.block (hot _ (by omega)), ownsRow_putObj h.o o' ho hc, fun i v hv => ownsRow_putObj (h.r i v hv) o' ho hc, h.d, h.lo, h.b.grown (grownBy_putObj' w l o') h.big (fun q e => by cases e; exact .inr hl)⟩
theorem tb_snoc {P : List (List Int)} {x : List Int} {i : Nat} : tb (P ++ [x]) i = if i < P.length then tb P i else if i = P.length then x else [] := by
  unfold tb
  rw [List.getD_eq_getElem?_getD, List.getElem?_append]
  split
  · rw [List.getD_eq_getElem?_getD]
  · split
    · rename_i h1 h2
      subst h2
      simp
    · rename_i h1 h2
      rw [List.getElem?_eq_none (by simp; omega)]
      rfl
/-- A map that gets one more entry: whatever is no map stays. -/
theorem own_turned {X w3 : World} {rb : Nat} (ht : X.mapTurned w3 rb) {es : Array (Value × Value)} {clk : Nat} {N e size n : Nat} {v : Value} {xs : List Value} (ho : X.ownsRow N e size v n xs) (hn : v.ownBlock ≠ some rb) : w3.ownsRow N e size v n xs := ho.kept ht.grown (.inr hn)
theorem own_nmap {w : World} {rb N e size n : Nat} {v : Value} {xs : List Value} (ho : w.ownsRow N e size v n xs) (hm : ∃ es clk, w.heap[rb]? = some (.map es clk)) : v.ownBlock ≠ some rb := fun e => by
  rcases ho.2 with ⟨h7, _⟩ | ⟨g, cap, cur, h7, _, h8, _⟩
  · rw [h7] at e; simp [Value.ownBlock] at e
  · rw [h7] at e
    obtain rfl : g = rb := by simpa [Value.ownBlock] using e
    obtain ⟨es1, clk1, hrb1⟩ := hm
    rw [hrb1] at h8
    cases h8
theorem PtS.turned {w0 : World} {N bn bp rb : Nat} {Ks P : List (List Int)} {pv : Value} {vs : List Value} {w w3 : World} (h : PtS w0 N bn bp rb Ks P pv vs w) (ht : w.mapTurned w3 rb) {T : List (List Int)} (hm : NumM w3 rb (T.map txtR)) : PtS w0 N bn bp rb T P pv vs w3 := by
  have hob := h.m.obj
  obtain ⟨es, clock, hrb⟩ := hob
  have hne1 : bn ≠ rb := fun e => by have := h.n; rw [e, hrb] at this; cases this
  have hne2 : bp ≠ rb := fun e => by have := h.p; rw [e, hrb] at this; cases this
  exact ⟨(turned_otherJ ht hne1).trans h.n, (turned_otherJ ht hne2).trans h.p, hm, h.o.kept ht.grown (.inr (own_nmap h.o h.m.obj)), fun i v hv => (h.r i v hv).kept ht.grown (.inr (own_nmap (h.r i v hv) h.m.obj)), h.d, h.lo, h.b.grown ht.grown h.big (fun q hq => by cases hq; exact .inl (by simp))⟩
theorem keeps_append {w w6 : World} {N e size n : Nat} {v : Value} {xs : List Value} {tmp : Obj} (ho : w.ownsRow N e size v n xs) (hg : (w.alloc tmp).grownBy w6 v.ownBlock) (p : Addr) (u : Value) : KeepsOthers w (w6.setCell p u) := by
  refine ((KeepsOthers.alloc w tmp).trans (KeepsOthers.of_grownBy hg fun j o ej hj => ?_)).trans (KeepsOthers.setCell _ _ _)
  rcases ho.2 with ⟨h7, _⟩ | ⟨g, cap, cur, h7, _, h8, _⟩
  · rw [h7] at ej; simp [Value.ownBlock] at ej
  · rw [h7] at ej
    have ej : g = j := by simpa [Value.ownBlock] using ej
    rw [← ej, (Below.heap_alloc w tmp g (blk_lt h8)).trans h8] at hj
    cases hj
    rfl
/-- One part more, which is empty. -/
theorem PtS.push {w0 : World} {N bn bp rb : Nat} {Ks P : List (List Int)} {pv : Value} {vs : List Value} {w w6 : World} (h : PtS w0 N bn bp rb Ks P pv vs w) {tmp : Obj} {A2 : Option Addr} {c2 : Nat} (ho : w6.ownsRow N 33 1 (.slice A2 (P.length + 1) c2) (P.length + 1) (vs ++ [.slice none 0 0])) (hg : (w.alloc tmp).grownBy w6 pv.ownBlock) :
    w6.heap[bp]? = some (.cells #[pv] 22 (0, 0)) ∧ PtS w0 N bn bp rb Ks (P ++ [[]]) (.slice A2 (P.length + 1) c2) (vs ++ [.slice none 0 0]) (w6.setCell ⟨bp, 0, none⟩ (.slice A2 (P.length + 1) c2)) := by
  have hst : ∀ b, b < w.heap.size → pv.ownBlock ≠ some b → w6.heap[b]? = w.heap[b]? := fun b hb hn => (hg.block b (by simp; omega) (fun e => hn e.symm)).trans (Below.heap_alloc w tmp b hb)
  obtain ⟨es, clock, hrb⟩ := h.m.obj
  have hn1 := own_ne h.n h.o (by decide)
  have hn2 := own_ne h.p h.o (by decide)
  have hn3 := own_nmap h.o h.m.obj
  have hbp := (hst bp (blk_lt h.p) hn2).trans h.p
  have hput : ∀ b, b ≠ bp → (w6.setCell ⟨bp, 0, none⟩ (.slice A2 (P.length + 1) c2)).heap[b]? = w6.heap[b]? := fun b hb => Below.heap_setCell _ _ _ b hb
  have hnb : bn ≠ bp := fun e => by have := h.n; rw [e, h.p] at this; exact absurd this (by simp)
  have hrp : rb ≠ bp := fun e => by have := h.p; rw [← e, hrb] at this; cases this
  have hrow : ∀ {v n xs}, w.ownsRow N 3 1 v n xs → (w6.setCell ⟨bp, 0, none⟩ (.slice A2 (P.length + 1) c2)).ownsRow N 3 1 v n xs := fun {v n xs} hv => by
    have h1 := (hv.alloc tmp).kept hg (row_ne hv h.o (by decide))
    exact row_put h1 (own_ne hbp h1 (by decide)) _ _
  have hvl := h.len
  refine ⟨hbp, (hput bn hnb).trans ((hst bn (blk_lt h.n) hn1).trans h.n), by rw [heap_put hbp]; rfl, h.m.block ((hput rb hrp).trans (hst rb (blk_lt hrb) hn3)), ?_, fun i v hv => ?_, fun i i' v v' hne hv hv' => ?_, h.lo, ?_⟩
  · rw [List.length_append]
    exact row_put ho (own_ne hbp ho (by decide)) _ _
  · rw [tb_snoc]
    by_cases hi : i < P.length
    · rw [if_pos hi]
      rw [List.getElem?_append_left (by omega)] at hv
      exact hrow (h.r i v hv)
    · rw [if_neg hi]
      have hi2 : i = P.length := by
        have := (List.getElem?_eq_some_iff.1 hv).1
        simp at this
        omega
      rw [if_pos hi2]
      subst hi2
      rw [← hvl, List.getElem?_append_right (Nat.le_refl _)] at hv
      simp at hv
      subst hv
      exact ⟨rfl, .inl ⟨rfl, rfl⟩⟩
  · by_cases hi : i < vs.length
    · rw [List.getElem?_append_left hi] at hv
      by_cases hi' : i' < vs.length
      · rw [List.getElem?_append_left hi'] at hv'
        exact h.d i i' v v' hne hv hv'
      · rw [List.getElem?_append_right (by omega)] at hv'
        have := (List.getElem?_eq_some_iff.1 hv').1
        have e : i' - vs.length = 0 := by simpa using this
        rw [e] at hv'
        simp at hv'
        subst hv'
        by_cases e1 : v.ownBlock = none
        · exact .inl e1
        · exact .inr e1
    · rw [List.getElem?_append_right (by omega)] at hv
      have := (List.getElem?_eq_some_iff.1 hv).1
      have e : i - vs.length = 0 := by simpa using this
      rw [e] at hv
      simp at hv
      subst hv
      exact .inl rfl
  · have hB := h.big
    exact (((h.b.alloc hB tmp).grown hg (by simp; omega) (fun q hq => .inr (own_lt h.o hq).1))).setCell (p := ⟨bp, 0, none⟩) (.inl (by simp)) _
/-- One state more in a part. -/
theorem PtS.into {w0 : World} {N bn bp rb : Nat} {Ks P : List (List Int)} {G c : Nat} {vs : List Value} {w w6 : World} (h : PtS w0 N bn bp rb Ks P (.slice (some ⟨G, 0, none⟩) P.length c) vs w) {k : Nat} (hk : k < P.length) {v : Value} (hv : vs[k]? = some v) {z : Int} {tmp : Obj} {u : Value}
    (hg : (w.alloc tmp).grownBy w6 v.ownBlock) (ho : w6.ownsRow N 3 1 u ((tb P k).length + 1) (zvs (tb P k) ++ [.int .i64 z])) (hob : u.ownBlock = v.ownBlock ∨ u.ownBlock = some (w.alloc tmp).heap.size) :
    w6.heap[bp]? = some (.cells #[.slice (some ⟨G, 0, none⟩) P.length c] 22 (0, 0)) ∧ w6.cell? ⟨G, k, none⟩ = some v ∧ w6.frozen? ⟨G, k, none⟩ = false ∧ G < w6.heap.size ∧ PtS w0 N bn bp rb Ks (P.set k (tb P k ++ [z])) (.slice (some ⟨G, 0, none⟩) P.length c) (vs.set k u) (w6.setCell ⟨G, k, none⟩ u) := by
  have hv0 := h.r k v hv
  have hst : ∀ b, b < w.heap.size → v.ownBlock ≠ some b → w6.heap[b]? = w.heap[b]? := fun b hb hn => (hg.block b (by simp; omega) (fun e => hn e.symm)).trans (Below.heap_alloc w tmp b hb)
  obtain ⟨es, clock, hrb⟩ := h.m.obj
  have hn1 := own_ne h.n hv0 (by decide)
  have hn2 := own_ne h.p hv0 (by decide)
  have hn3 := own_nmap hv0 h.m.obj
  have hob6 : w6.ownsRow N 33 1 (.slice (some ⟨G, 0, none⟩) P.length c) P.length vs := (h.o.alloc tmp).kept hg (row_ne h.o hv0 (by decide))
  have hGl := own_lt hob6 (g := G) rfl
  have hput : ∀ b, b ≠ G → (w6.setCell ⟨G, k, none⟩ u).heap[b]? = w6.heap[b]? := fun b hb => Below.heap_setCell _ _ _ b hb
  have gn : bn ≠ G := fun e => by subst e; exact own_ne h.n h.o (by decide) rfl
  have gp : bp ≠ G := fun e => by subst e; exact own_ne h.p h.o (by decide) rfl
  have gr : rb ≠ G := fun e => by subst e; exact own_nmap h.o h.m.obj rfl
  have hstr := (hob6.stored k u).1
  have hGn : ∀ {v' n xs}, w6.ownsRow N 3 1 v' n xs → (w6.setCell ⟨G, k, none⟩ u).ownsRow N 3 1 v' n xs := fun {v' n xs} h1 => by
    refine row_put h1 (fun e => ?_) _ _
    rcases row_ne h1 hob6 (by decide) with h2 | h2
    · rw [h2] at e; cases e
    · exact h2 e
  have hvl := h.len
  refine ⟨(hst bp (blk_lt h.p) hn2).trans h.p, ?_, hob6.frozenAt k, hGl.2, (hput bn gn).trans ((hst bn (blk_lt h.n) hn1).trans h.n), (hput bp gp).trans ((hst bp (blk_lt h.p) hn2).trans h.p), h.m.block ((hput rb gr).trans (hst rb (blk_lt hrb) hn3)), ?_, fun i v' hv' => ?_, fun i i' v1 v2 hne h1 h2 => ?_, h.lo, ?_⟩
  · rw [hob6.cellAt k (by omega), hv]
  · rw [List.length_set]
    exact hstr
  · have hi : i < P.length := by have := (List.getElem?_eq_some_iff.1 hv').1; simp at this; omega
    rw [List.getElem?_set] at hv'
    rw [tb_set hi]
    by_cases e : k = i
    · subst e
      rw [if_pos rfl, if_pos (by omega)] at hv'
      cases hv'
      rw [if_pos rfl, zvs_snoc, List.length_append]
      exact hGn ho
    · rw [if_neg e] at hv'
      rw [if_neg e]
      exact hGn (((h.r i v' hv').alloc tmp).kept hg (h.d i k v' v (fun e' => e e'.symm) hv' hv))
  · have hfr : ∀ {i : Nat} {v' : Value}, vs[i]? = some v' → v'.ownBlock ≠ some (w.alloc tmp).heap.size := fun {i} {v'} hv' he => by
      have := own_lt (h.r i v' hv') he
      simp at this
      omega
    rw [List.getElem?_set] at h1 h2
    by_cases e1 : k = i
    · rw [if_pos e1, if_pos (by omega)] at h1
      cases h1
      rw [if_neg (fun e => hne (by omega))] at h2
      subst e1
      rcases hob with q | q
      · rw [q]; exact h.d k i' v v2 hne hv h2
      · rw [q]; exact .inr fun he => hfr h2 he.symm
    · rw [if_neg e1] at h1
      by_cases e2 : k = i'
      · rw [if_pos e2, if_pos (by omega)] at h2
        cases h2
        subst e2
        rcases hob with q | q
        · rw [q]; exact h.d i k v1 v (fun e => e1 e.symm) h1 hv
        · rw [q]; exact .inr fun he => hfr h1 he
      · rw [if_neg e2] at h2
        exact h.d i i' v1 v2 hne h1 h2
  · have hB := h.big
    exact (((h.b.alloc hB tmp).grown hg (by simp; omega) (fun q hq => .inr (own_lt hv0 hq).1))).setCell (p := ⟨G, k, none⟩) (.inr hGl.1) _
/-- What numbering a row leaves. -/
def NbPost (w0 : World) (N bn bp rb : Nat) (Ks P : List (List Int)) (row : List Int) (w : World) (e : Ending) (w' : World) : Prop :=
  e = .returned (.int .i64 (pos (add Ks row) row : Nat)) ∧ KeepsFrom N w w' ∧ ∃ pv vs, PtS w0 N bn bp rb (add Ks row) (if row ∈ Ks then P else P ++ [[]]) pv vs w'
def KeyP (row : List Int) : Prop := (∀ z ∈ row, 0 ≤ z ∧ z < 65536) ∧ row.length ≤ 1000
theorem keyP_inj : ∀ s t, KeyP s → KeyP t → txtR s = txtR t → s = t := fun s t hs ht h => txtR_inj hs.1 ht.1 h
theorem keyP_len {s : List Int} (h : KeyP s) : (txtR s).length ≤ maxLen := by rw [txtR_len]; have := h.2; unfold maxLen; omega
set_option maxHeartbeats 8000000 in
theorem number_any (w0 : World) (N bn bp rb : Nat) (Ks P : List (List Int)) (pv : Value) (vs : List Value) (w : World) (h : PtS w0 N bn bp rb Ks P pv vs w) (D : Option Addr) (row : List Int) (cd : Nat) (hR : Ints w D row) (hs : KeyP row) (hF : ∀ t ∈ Ks, KeyP t) (hl : Ks.length = P.length) (hll : P.length ≤ 100000) :
    Calls Tryd.prog 90 #[.slice D row.length cd, .pointer (some ⟨bn, 0, none⟩), .pointer (some ⟨bp, 0, none⟩)] w (NbPost w0 N bn bp rb Ks P row w) := by
  have HTx := Lib.hid (rowText_any D row cd w hR hs.1 hs.2)
  have HN : Hid (∀ X, Below w.heap.size w X → X.cell? ⟨bn, 0, none⟩ = some (.map (some rb)) ∧ X.cell? ⟨bp, 0, none⟩ = some pv) := fun X hX => by
    have h2 := h.below hX
    exact ⟨by simp [World.cell?, h2.n], by simp [World.cell?, h2.p]⟩
  have hkl := keyP_len hs
  by_cases hm : row ∈ Ks
  · have hk : txtR row ∈ Ks.map txtR := List.mem_map.2 ⟨row, hm, rfl⟩
    have hid : pos (Ks.map txtR) (txtR row) = pos Ks row := idx_map txtR KeyP keyP_inj hF hs
    have hadd : add Ks row = Ks := if_pos hm
    have HL : Hid (∀ X, Below w.heap.size w X → (Instr.lookup 101 (.map (some rb)) (.string ⟨(txtR row).toArray⟩) true).run Tryd.prog X = .ok (.tuple #[.int .i64 (pos Ks row : Nat), .bool true]) X) := fun X hX => by
      rw [← hid]
      exact (h.below hX).m.old hk hkl
    have HP : Hid (∀ X, Below w.heap.size w X → NbPost w0 N bn bp rb Ks P row w (.returned (.int .i64 (pos Ks row : Nat))) X) := fun X hX => by
      unfold NbPost
      rw [hadd, if_pos hm]
      exact ⟨rfl, (others_of_below hX).from N, pv, vs, h.below hX⟩
    clear h hR hs hm hk hid hadd hF
    generalize (pos Ks row : Nat) = ix at *
    generalize txtR row = ks at *
    go_enter Tryd.func90, Tryd.ntmps90
    go_wp2_with (go_at_call 91; ((with_reducible refine HTx.out.mono ?_); rintro e w2 ⟨rfl, hb2⟩); obtain ⟨cn, cf⟩ := HN.out _ hb2; have hlk := HL.out _ hb2)
    go_ret
    exact HP.out _ hb2
  · have hk : txtR row ∉ Ks.map txtR := fun hk => hm ((mem_map_inj txtR KeyP keyP_inj hF hs).1 hk)
    have hadd : add Ks row = Ks ++ [row] := if_neg hm
    have hix : pos (add Ks row) row = P.length := by rw [idx_add_new hm, hl]
    have hfm : (Ks.map txtR).length = P.length := by rw [List.length_map, hl]
    obtain ⟨Af, cf0, rfl, _⟩ := Ap.own_form h.o
    have HL : Hid (∀ X, Below w.heap.size w X → (Instr.lookup 101 (.map (some rb)) (.string ⟨(txtR row).toArray⟩) true).run Tryd.prog X = .ok (.tuple #[.int .i64 0, .bool false]) X) := fun X hX => (h.below hX).m.new hk hkl
    have HS : Hid (∀ X, Below w.heap.size w X → ∃ w3, (Instr.mapUpdate 101 (.map (some rb)) (.string ⟨(txtR row).toArray⟩) (.int .i64 (P.length : Nat))).run Tryd.prog X = .ok () w3 ∧ PtS w0 N bn bp rb (Ks ++ [row]) P (.slice Af P.length cf0) vs w3 ∧ KeepsFrom N w w3) := fun X hX => by
      have h2 := h.below hX
      obtain ⟨w3, h3, h4, h5⟩ := h2.m.store hk hkl (by rw [hfm]; omega)
      rw [hfm] at h3
      exact ⟨w3, h3, h2.turned h5 (by rw [List.map_append]; exact h4), ((others_of_below hX).from N).trans (KeepsFrom.of_grownBy h5.grown fun j e => by cases e; exact h.lo.2.2.1)⟩
    have HP : Hid (∀ w3 w6 A2 c2, PtS w0 N bn bp rb (Ks ++ [row]) P (.slice Af P.length cf0) vs w3 → KeepsFrom N w w3 → w6.ownsRow N 33 1 (.slice A2 (P.length + 1) c2) (P.length + 1) (vs ++ [.slice none 0 0]) → (w3.alloc (.cells #[.slice none 0 0] 33)).grownBy w6 (Value.slice Af P.length cf0).ownBlock →
        w6.heap[bp]? = some (.cells #[.slice Af P.length cf0] 22 (0, 0)) ∧ bp < w6.heap.size ∧ NbPost w0 N bn bp rb Ks P row w (.returned (.int .i64 (P.length : Nat))) (w6.setCell ⟨bp, 0, none⟩ (.slice A2 (P.length + 1) c2))) := fun w3 w6 A2 c2 h3 hkf ho6 hg6 => by
      obtain ⟨h4, h5⟩ := h3.push ho6 hg6
      refine ⟨h4, blk_lt h4, ?_⟩
      unfold NbPost
      rw [hix, hadd, if_neg hm]
      exact ⟨rfl, hkf.trans ((keeps_append h3.o hg6 _ _).from N), _, _, h5⟩
    clear h hR hs hm hk hadd hix hfm hF hl
    generalize txtR row = ks at *
    obtain ⟨i0, hi0, hz0, hz1, hz2⟩ := info_parts info_tab
    go_enter Tryd.func90, Tryd.ntmps90
    go_wp2_with (first
      | (go_at_call 91; ((with_reducible refine HTx.out.mono ?_); rintro e w2 ⟨rfl, hb2⟩); obtain ⟨cn, cf⟩ := HN.out _ hb2; have hlk := HL.out _ hb2; obtain ⟨w3, hrun3, hp3, hk3⟩ := HS.out _ hb2; have HK3 := Lib.hid hk3; clear hk3; have cf3 : w3.cell? ⟨bp, 0, none⟩ = some (.slice Af P.length cf0) := (by simp [World.cell?, hp3.p]); have HP3 := Lib.hid hp3; clear hp3)
      | (at_builtin; refine wpList_append_own_at _ rfl _ _ 22 rfl N 33 i0 (.slice none 0 0) 1 24 Tryd.underlying22 hi0 hz0 hz1 hz2 rfl (by decide) _ P.length vs rfl (HP3.out.o.alloc _) ⟨w3.heap.size, 0, none⟩ 1 1 [.slice none 0 0] rfl rfl (cell_one_new _ _ _) (by simp [Value.oneCell']) (by unfold maxLen; omega) (by omega) (by have := HP3.out.big; simp; omega) ?_; intro v' w6 hown' hgrow _ hob; obtain ⟨A2, c2, rfl, _⟩ := Ap.own_form hown'; obtain ⟨hbf6, hlt6, hpost⟩ := HP.out w3 w6 A2 c2 HP3.out HK3.out hown' hgrow; have f6 := free_of hbf6 0; have c6 : w6.cell? ⟨bp, 0, none⟩ = some (.slice Af P.length cf0) := (by simp [World.cell?, hbf6]); have HPost := Lib.hid hpost; clear hpost hbf6 hown' hgrow hob))
    go_ret
    exact HPost.out
end Go.Proofs.YtkgeihambgbjdaaDoor.Mi
/- rows (package minimal): the iterator over the states of a class and their rows. -/
namespace Go.Proofs.YtkgeihambgbjdaaDoor.Mi
open Go Go.RowKit Go.Maps Go.Shelf Go.Proofs.YtkgeihambgbjdaaDoor Go.Proofs.YtkgeihambgbjdaaDoor.Cb Go.Proofs.YtkgeihambgbjdaaDoor.Sb
open Go.Proofs.YtkgeihambgbjdaaDoor.Nf (zvs zvs_snoc info_int6 ret_int ret_b drew_below wpIn_region_cls_tailW)
open Go.Proofs.YtkgeihambgbjdaaDoor.Dg (Tabs tb tb_mem mem_tb info_tab)
set_option linter.unusedVariables false
set_option linter.unusedSimpArgs false
set_option maxRecDepth 100000
attribute [local go_sem] Oper.semAt_some
/-- What the iterator reads. -/
structure RdW (w : World) (Pb : Nat) (nxA : Option Addr) (nxc : Nat) (T : List (List Int)) (cA : Option Addr) (cc : Nat) (cl : List Int) (mA : Addr) (M mc : Nat) (A : Option Addr) (ca : Nat) (l : List Int) (c : Nat) (xs : List Nat) (SA : Option Addr) : Prop where
  pl : Pb < w.heap.size
  p0 : w.cell? ⟨Pb, 0, none⟩ = some (.slice nxA T.length nxc)
  p2 : w.cell? ⟨Pb, 2, none⟩ = some (.slice cA cl.length cc)
  p3 : w.cell? ⟨Pb, 3, none⟩ = some (.slice (some mA) M mc)
  ml : mA.block < w.heap.size ∧ c < M
  m : w.cell? (mA.add c) = some (.slice A l.length ca)
  mi : Ints w A l
  ci : Ints w cA cl
  t : Tabs w nxA T
  s : Words w SA xs
theorem RdW.below {w X : World} {Pb : Nat} {nxA : Option Addr} {nxc : Nat} {T : List (List Int)} {cA : Option Addr} {cc : Nat} {cl : List Int} {mA : Addr} {M mc : Nat} {A : Option Addr} {ca : Nat} {l : List Int} {c : Nat} {xs : List Nat} {SA : Option Addr} (h : RdW w Pb nxA nxc T cA cc cl mA M mc A ca l c xs SA) (hb : Below w.heap.size w X) : RdW X Pb nxA nxc T cA cc cl mA M mc A ca l c xs SA :=
  ⟨Nat.lt_of_lt_of_le h.pl hb.size, (hb.cell (p := ⟨Pb, 0, none⟩) h.pl).trans h.p0, (hb.cell (p := ⟨Pb, 2, none⟩) h.pl).trans h.p2, (hb.cell (p := ⟨Pb, 3, none⟩) h.pl).trans h.p3, ⟨Nat.lt_of_lt_of_le h.ml.1 hb.size, h.ml.2⟩, (hb.cell (by rw [addr_block]; exact h.ml.1)).trans h.m, h.mi.below hb, h.ci.below hb, h.t.below hb, h.s.below hb⟩
def keyF (cl : List Int) (T : List (List Int)) (xs : List Nat) (z : Int) : List Int := if hasB xs z then eachL cl (tb T z.toNat) else []
theorem rows_any (Pb : Nat) (c : Int) (SA : Option Addr) (n cS : Nat) (w : World) :
    Calls Tryd.prog 92 #[.pointer (some ⟨Pb, 0, none⟩), .int .i64 c, .slice SA n cS] w fun r w' => r = .returned (.func (.func 103) #[] #[.pointer (some ⟨w.heap.size, 0, none⟩), .pointer (some ⟨w.heap.size + 1, 0, none⟩), .pointer (some ⟨w.heap.size + 1 + 1, 0, none⟩)]) ∧
      w' = ((w.alloc (.cells #[.pointer (some ⟨Pb, 0, none⟩)] 88)).alloc (.cells #[.int .i64 c] 3)).alloc (.cells #[.slice SA n cS] 106) := by
  go_enter Tryd.func92, Tryd.ntmps92
  go_wp2
  go_ret
  exact ⟨rfl, rfl⟩
/-- An element that the iterator yields: a state and its row. -/
def RowP (cl : List Int) (T : List (List Int)) (xs : List Nat) (l : List Int) (x : Int × Value) (X : World) : Prop := x.1 ∈ l ∧ ∃ D cd, x.2 = .slice D (keyF cl T xs x.1).length cd ∧ Ints X D (keyF cl T xs x.1)
def encP (x : Int × Value) : Array Value := #[.int .i64 x.1, x.2]
def fstL (pre : List (Int × Value)) : List Int := pre.map fun x => x.1
/-- In the middle of a round of the iterator. -/
def RowS (w0 : World) (b1 b2 b3 Pb : Nat) (c : Int) (SA : Option Addr) (n cS : Nat) (J : List (Int × Value) → World → Prop) (pre : List (Int × Value)) (X : World) : Prop :=
  J pre X ∧ Below w0.heap.size w0 X ∧ (b1 < X.heap.size ∧ b2 < X.heap.size ∧ b3 < X.heap.size) ∧ X.cell? ⟨b1, 0, none⟩ = some (.pointer (some ⟨Pb, 0, none⟩)) ∧ X.cell? ⟨b2, 0, none⟩ = some (.int .i64 c) ∧ X.cell? ⟨b3, 0, none⟩ = some (.slice SA n cS)
set_option maxHeartbeats 8000000 in
theorem rows_in (m : Nat) (hm : 1 ≤ m) (lo b1 b2 b3 Pb : Nat) (nxA : Option Addr) (nxc : Nat) (T : List (List Int)) (cA : Option Addr) (cc : Nat) (cl : List Int) (mA : Addr) (M mc : Nat) (A : Option Addr) (ca : Nat) (l : List Int) (c : Nat) (xs : List Nat) (SA : Option Addr) (cS : Nat) (w0 : World)
    (hR : RdW w0 Pb nxA nxc T cA cc cl mA M mc A ca l c xs SA) (ux : U64 xs) (hlT : ∀ z ∈ l, 0 ≤ z ∧ z < (T.length : Int)) (hT : ∀ r ∈ T, r.length ≤ 64 ∧ ∀ y ∈ r, 0 ≤ y ∧ y < (cl.length : Int)) (hln : l.length ≤ 100000)
    (J : List (Int × Value) → World → Prop) (hJb : ∀ pre X Y, J pre X → Below X.heap.size X Y → J pre Y)
    (hJe : ∀ pre X, J pre X → Below w0.heap.size w0 X ∧ (b1 < X.heap.size ∧ b2 < X.heap.size ∧ b3 < X.heap.size) ∧ X.cell? ⟨b1, 0, none⟩ = some (.pointer (some ⟨Pb, 0, none⟩)) ∧ X.cell? ⟨b2, 0, none⟩ = some (.int .i64 c) ∧ X.cell? ⟨b3, 0, none⟩ = some (.slice SA xs.length cS))
    (hY : ∀ pre x X, J pre X → RowP cl T xs l x X → pre.length < l.length → YieldAt Fence.wide (m - 1) Tryd.prog lo (encP x) X fun e Y => e = .returned (.bool true) ∧ J (pre ++ [x]) Y)
    (W : World) (h0 : J [] W) :
    CallsIn Fence.wide m Tryd.prog 103 (#[.func (.yield lo) #[] #[]] ++ #[.pointer (some ⟨b1, 0, none⟩), .pointer (some ⟨b2, 0, none⟩), .pointer (some ⟨b3, 0, none⟩)]) W fun e Y => (∃ v, e = .returned v) ∧ ∃ ys : List (Int × Value), fstL ys = l ∧ J ys Y := by
  have HY := Lib.hid hY
  have HJb := Lib.hid hJb
  have HJe := Lib.hid hJe
  have HR := Lib.hid hR
  have HlT := Lib.hid fun k (hk : k < l.length) => show ∃ s : Nat, nd l k = (s : Int) ∧ s < T.length ∧ nd l k ∈ l by
    have h1 : nd l k ∈ l := by rw [nd_eq hk]; exact List.getElem_mem hk
    have h2 := hlT _ h1
    exact ⟨(nd l k).toNat, by omega, by omega, h1⟩
  have HE := Lib.hid fun (s : Nat) (hs : s < T.length) (p : Option Addr) (cp : Nat) (X : World) (h1 : Ints X cA cl) (h2 : Ints X p (tb T s)) => each_any cA p cl (tb T s) cc cp X h1 h2 (hT _ (tb_mem hs)).2 (by have := (hT _ (tb_mem hs)).1; omega)
  clear hY hJb hJe hlT hT
  have hfn : ∀ f, Fence.wide.fn f := fun _ => trivial
  have HM : Hid (Tryd.prog.follows .mixedOrders = true) := (by kernel_rfl : Tryd.prog.follows .mixedOrders = true)
  refine callsIn_of_wp Tryd.func103 rfl trivial ?_ rfl
  simp only [Tryd.ntmps103, List.size_toArray, List.length_cons, List.length_nil, Nat.reduceAdd, Nat.reduceSub, Array.replicate_succ, Array.replicate_zero, List.push_toArray, List.append_toArray, List.nil_append, List.cons_append]
  obtain ⟨e1, e2, e3, e4, e5⟩ := HJe.out _ _ h0
  have r0 := hR.below e1
  have q0 := r0.p0
  have q2 := r0.p2
  have q3 := r0.p3
  have qm := r0.m
  have hcM : (c : Int) < (M : Int) := by have := hR.ml.2; omega
  gi_wp2_with fail
  gi_big_region
  have h1 := HJb.out _ _ _ h0 (drew_below W)
  clear q0 q2 q3 qm r0 e1 e2 e3 e4 e5 h0
  generalize W.drew = W1 at *
  gi_wp2
  gi_loopw [16] (fun iv wr => ∃ (k : Nat) (pre : List (Int × Value)), k ≤ l.length ∧ iv = .int .i64 k ∧ Hid (fstL pre = l.take k) ∧ Hid (J pre wr)) (fun iv _ => l.length - (intOf iv).toNat)
  case atStart => exact ⟨0, [], by omega, rfl, rfl, h1⟩
  case round =>
    clear h1
    obtain ⟨k, pre, hk, rfl, HP, HJ⟩ := hrel
    by_cases hlt : k < l.length
    · obtain ⟨e1, ⟨e2, e2', e2''⟩, e3, e4, e5⟩ := HJe.out _ _ HJ.out
      have r0 := HR.out.below e1
      obtain ⟨ad, hA, hcell⟩ := r0.mi.at_ hlt
      subst hA
      obtain ⟨s, hs, hsT, hsl⟩ := HlT.out k hlt
      have hlen : pre.length < l.length := by
        have := congrArg List.length HP.out
        unfold fstL at this
        rw [List.length_map, List.length_take] at this
        omega
      have hnx : Hid (∀ v, fstL (pre ++ [((s : Int), v)]) = l.take (k + 1)) := fun v => by
        have h1 : fstL pre = l.take k := HP.out
        unfold fstL at h1 ⊢
        rw [List.map_append, h1, List.take_add_one, List.getElem?_eq_getElem hlt, ← nd_eq hlt, hs]
        rfl
      have hkn : (k : Int) < (l.length : Int) := by omega
      rw [hs] at hcell hsl
      have HH := Lib.hid (callsIn_wide (n := m - 1).2 (Go.Proofs.YtkgeihambgbjdaaDoor.Has_any SA xs cS (s : Int) wr r0.s ux))
      have HSL := Lib.hid hsl
      clear hs hsl r0 e1 e2 e2' e2''
      cases hb : hasB xs (s : Int) with
      | false =>
        have hkey : keyF cl T xs (s : Int) = [] := by unfold keyF; rw [hb]; rfl
        have HYk := Lib.hid fun X (hX : J pre X) => HY.out pre ((s : Int), .slice none 0 0) X hX ⟨HSL.out, none, 0, by rw [hkey]; rfl, by rw [hkey]; exact Vals.nil_⟩ hlen
        rw [hb] at HH
        clear hb hkey
        gi_wp2_with (gi_at_call 104; refine HH.out.mono ?_; rintro e w3 ⟨rfl, nq, rfl⟩; have hJ2 := HJb.out _ _ _ HJ.out (Ap.drewN_below wr nq); obtain ⟨fn, tmps, assign, body, hy, hR⟩ := HYk.out _ hJ2; dsimp only [encP] at hy; generalize wr.drewN nq = X at *)
        refine hR.mono ?_
        rintro e W3 ⟨rfl, hJ3⟩
        gi_wp2
        go_roundw
        case rel => exact ⟨k + 1, _, by omega, by go_num, hnx.out _, hJ3⟩
        case measure => simp [intOf]; omega
      | true =>
        have hkey : keyF cl T xs (s : Int) = eachL cl (tb T s) := by unfold keyF; rw [hb, if_pos rfl, Int.toNat_natCast]
        have hel : (eachL cl (tb T s)).length = (tb T s).length := List.length_map _
        have HYk := Lib.hid fun X (hX : J pre X) D cd (hi : Ints X D (eachL cl (tb T s))) => HY.out pre ((s : Int), .slice D (tb T s).length cd) X hX ⟨HSL.out, D, cd, by rw [hkey, hel], by rw [hkey]; exact hi⟩ hlen
        rw [hb] at HH
        clear hb hkey hel
        gi_wp2_with (gi_at_call 104; refine HH.out.mono ?_; rintro e w3 ⟨rfl, nq, rfl⟩)
        have hJ2 := HJb.out _ _ _ HJ.out (Ap.drewN_below wr nq)
        generalize wr.drewN nq = X at *
        have hsT2 : (s : Int) < (T.length : Int) := by omega
        obtain ⟨adn, pn, cn, hnA, hnb, hnc, hni⟩ := HR.out.t s hsT
        subst hnA
        have d1 : ∀ r : Cls (J pre), r.w.cell? ⟨b1, 0, none⟩ = some (.pointer (some ⟨Pb, 0, none⟩)) := fun r => (HJe.out _ _ r.h).2.2.1
        have d2 : ∀ r : Cls (J pre), r.w.cell? ⟨Pb, 2, none⟩ = some (.slice cA cl.length cc) := fun r => (HR.out.below (HJe.out _ _ r.h).1).p2
        have d3 : ∀ r : Cls (J pre), r.w.cell? ⟨Pb, 0, none⟩ = some (.slice (some adn) T.length nxc) := fun r => (HR.out.below (HJe.out _ _ r.h).1).p0
        have d4 : ∀ r : Cls (J pre), r.w.cell? (adn.add s) = some (.slice pn (tb T s).length cn) := fun r => ((HJe.out _ _ r.h).1.cell (by rw [addr_block]; exact hnb)).trans hnc
        have HEs := Lib.hid fun X (hX : J pre X) => HE.out s hsT pn cn X (HR.out.below (HJe.out _ _ hX).1).ci (hni.below (HJe.out _ _ hX).1)
        haveI : Nonempty (Cls (J pre)) := ⟨⟨_, hJ2⟩⟩
        clear hnb hnc hni
        gi_wp2
        refine wpIn_region_cls_tailW 11 (J pre) HM.out (by kernel_rfl) (HJb.out _ _ _ hJ2 (drew_below X)) ?_
        simp only [List.take_succ_cons, List.take_zero, List.drop_succ_cons, List.drop_zero]
        repeat (go_big_quiet_step (fail))
        refine wpQuiet_nil ?_
        rintro _ ⟨r, rfl⟩
        have hX := Lib.hid r.h
        have HEr := Lib.hid (callsIn_wide (n := m - 1).2 (HEs.out _ r.h))
        generalize r.w = X2 at hX HEr ⊢
        clear d1 d2 d3 d4
        gi_wp2_with (gi_at_call 43; refine HEr.out.mono ?_; rintro e w4 ⟨rfl, hc4, hb4⟩; have hJ4 := HJb.out _ _ _ hX.out hb4; obtain ⟨fn, tmps, assign, body, hy, hR⟩ := HYk.out _ hJ4 _ (tb T s).length (ints_blk hc4); dsimp only [encP] at hy)
        refine hR.mono ?_
        rintro e W3 ⟨rfl, hJ3⟩
        gi_wp2
        go_roundw
        case rel => exact ⟨k + 1, _, by omega, by go_num, hnx.out _, hJ3⟩
        case measure => simp [intOf]; omega
    · obtain rfl : k = l.length := by omega
      have hP : fstL pre = l := by have := HP.out; rwa [List.take_length] at this
      clear HP
      gi_wp2
      go_end0
      exact ⟨⟨_, rfl⟩, pre, hP, HJ.out⟩
end Go.Proofs.YtkgeihambgbjdaaDoor.Mi
/- parts (package minimal): the states of a class, those with equal rows together. -/
namespace Go.Proofs.YtkgeihambgbjdaaDoor.Mi
open Go Go.RowKit Go.Maps Go.Shelf Go.Proofs.YtkgeihambgbjdaaDoor Go.Proofs.YtkgeihambgbjdaaDoor.Cb Go.Proofs.YtkgeihambgbjdaaDoor.Sb
open Go.Proofs.YtkgeihambgbjdaaDoor.Nf (zvs zvs_snoc info_int6 ret_int ret_b drew_below hnext)
open Go.Proofs.YtkgeihambgbjdaaDoor.Dg (Tabs tb tb_mem mem_tb info_tab)
set_option linter.unusedVariables false
set_option linter.unusedSimpArgs false
set_option maxRecDepth 100000
attribute [local go_sem] Oper.semAt_some
theorem ints_obj {X : World} {D : Option Addr} {r : List Int} (h : Ints X D r) {l : Nat} {o : Obj} (o' : Obj) (ho : X.heap[l]? = some o) (hc : o.isCells = false) : Ints (X.putObj l o') D r := fun j hj => by
  obtain ⟨ad, e, hb, hcl⟩ := h j hj
  have hne : ad.block ≠ l := fun e1 => by
    obtain ⟨o2, h2, h3⟩ := cells_of_cell hcl
    rw [addr_block, e1, ho] at h2
    cases h2
    rw [hc] at h3
    cases h3
  refine ⟨ad, e, by simpa using hb, ?_⟩
  rw [← hcl]
  exact World.cell?_of_block (by rw [addr_block]; exact World.putObj_heap_other hne)
theorem wpIn_region_round {P : Program} {lo m id : Nat} {a : Act} {w : World} {l : List Oper} {Q : Exit → Act → World → Prop} (hm : P.follows .mixedOrders = true) (hd : l.all noDefer = true) (hL : ¬ LetsOut Q)
    (h : wpAny P .any l.toArray Q l.toArray.size (Array.replicate l.toArray.size false) a w.drew) : (Code.region id l.toArray true).wpIn (Fence.wide.inRound lo) m P Q a w := by
  refine wpIn_region_any hm (wpAny_in lo m (fun i o ho => ?_) hL _ _ _ _ h)
  rw [List.all_eq_true] at hd
  exact hd o (by rw [List.getElem?_toArray] at ho; exact List.mem_of_getElem? ho)
theorem parts_step (key : Int → List Int) (l : List Int) (z : Int) : pos (add (rowF [] (l.map key)) (key z)) (key z) < (if key z ∈ rowF [] (l.map key) then partsL key l else partsL key l ++ [[]]).length ∧
    (if key z ∈ rowF [] (l.map key) then partsL key l else partsL key l ++ [[]]).set (pos (add (rowF [] (l.map key)) (key z)) (key z)) (tb (if key z ∈ rowF [] (l.map key) then partsL key l else partsL key l ++ [[]]) (pos (add (rowF [] (l.map key)) (key z)) (key z)) ++ [z]) = partsL key (l ++ [z]) := by
  by_cases h : key z ∈ rowF [] (l.map key)
  · rw [if_pos h, show add (rowF [] (l.map key)) (key z) = rowF [] (l.map key) from if_pos h]
    exact ⟨by rw [parts_len]; exact pos_lt h, (parts_old h).symm⟩
  · rw [if_neg h, idx_add_new h, ← parts_len key l]
    refine ⟨by simp, ?_⟩
    rw [parts_new h, tb_snoc, if_neg (by omega), if_pos rfl]
    simp
theorem tb_le {P : List (List Int)} {B : Nat} (h : ∀ r ∈ P, r.length ≤ B) (i : Nat) : (tb P i).length ≤ B := by
  by_cases hi : i < P.length
  · exact h _ (tb_mem hi)
  · unfold tb
    rw [List.getD_eq_getElem?_getD, List.getElem?_eq_none (by omega)]
    simp
theorem parts_rows_le (key : Int → List Int) (l : List Int) : ∀ r ∈ partsL key l, r.length ≤ l.length := fun r hr => by
  obtain ⟨K, _, rfl⟩ := List.mem_map.1 hr
  exact List.length_filter_le _ _
/-- The parts of a class, in rows of one's own. -/
def PtO (B : Nat) (w : World) (pv : Value) (vs : List Value) (P : List (List Int)) : Prop := w.ownsRow B 33 1 pv P.length vs ∧ ∀ i v, vs[i]? = some v → w.ownsRow B 3 1 v (tb P i).length (zvs (tb P i))
theorem parts_le (key : Int → List Int) (l : List Int) : (partsL key l).length ≤ l.length := by
  rw [parts_len]
  have := List.Nodup.length_le_of_subset (nodup_rowF (l := l.map key) List.nodup_nil) (l₂ := l.map key) fun z hz => mem_rowF0L.1 hz
  simpa using this
set_option maxHeartbeats 16000000 in
theorem parts_in (m : Nat) (hm : 4 ≤ m) (Pb : Nat) (nxA : Option Addr) (nxc : Nat) (T : List (List Int)) (cA : Option Addr) (cc : Nat) (cl : List Int) (mA : Addr) (M mc : Nat) (A : Option Addr) (ca : Nat) (l : List Int) (c : Nat) (xs : List Nat) (SA : Option Addr) (cS : Nat) (w : World)
    (hR : RdW w Pb nxA nxc T cA cc cl mA M mc A ca l c xs SA) (ux : U64 xs) (hlT : ∀ z ∈ l, 0 ≤ z ∧ z < (T.length : Int)) (hT : ∀ r ∈ T, r.length ≤ 64 ∧ ∀ y ∈ r, 0 ≤ y ∧ y < (cl.length : Int)) (hln : l.length ≤ 100000) (key : Int → List Int) (hkey : key = keyF cl T xs) (hK : ∀ z ∈ l, KeyP (key z)) :
    CallsIn Fence.wide m Tryd.prog 79 #[.pointer (some ⟨Pb, 0, none⟩), .int .i64 c, .slice SA xs.length cS] w fun e w' => ∃ pv vs, e = .returned pv ∧ PtO w.heap.size w' pv vs (partsL key l) ∧ Below w.heap.size w w' := by
  have hfn : ∀ f, Fence.wide.fn f := fun _ => trivial
  have HKEY := Lib.hid hkey
  clear hkey
  have h1 : 1 ≤ m := by omega
  have hmm := @run_makeMap Tryd.prog
  refine callsIn_of_wp_marks Tryd.func79 rfl trivial ?_ rfl
  simp only [Tryd.ntmps79, List.size_toArray, List.length_cons, List.length_nil, Nat.reduceAdd, Nat.reduceSub, Array.replicate_succ, Array.replicate_zero, List.push_toArray, List.append_toArray, List.nil_append, List.cons_append]
  gi_wp2_with (gi_at_call 92; refine (callsIn_wide.2 (rows_any _ _ _ _ _ _)).mono ?_; rintro e w' ⟨rfl, rfl⟩)
  obtain ⟨w1, e1⟩ : ∃ X, w.alloc (.cells #[.slice none 0 0] 22) = X := ⟨_, rfl⟩
  obtain ⟨w2, e2⟩ : ∃ X, w1.alloc (.map #[] 0) = X := ⟨_, rfl⟩
  obtain ⟨w3, e3⟩ : ∃ X, w2.alloc (.cells #[.map (some (w.heap.size + 1))] 101) = X := ⟨_, rfl⟩
  obtain ⟨w4, e4⟩ : ∃ X, w3.alloc (.cells #[.func (.func 90) #[] #[.pointer (some ⟨w.heap.size + 1 + 1, 0, none⟩), .pointer (some ⟨w.heap.size, 0, none⟩)]] 124) = X := ⟨_, rfl⟩
  obtain ⟨w5, e5⟩ : ∃ X, w4.alloc (.cells #[.pointer (some ⟨Pb, 0, none⟩)] 88) = X := ⟨_, rfl⟩
  obtain ⟨w6, e6⟩ : ∃ X, w5.alloc (.cells #[.int .i64 (c : Int)] 3) = X := ⟨_, rfl⟩
  obtain ⟨w7, e7⟩ : ∃ X, w6.alloc (.cells #[.slice SA xs.length cS] 106) = X := ⟨_, rfl⟩
  rw [e1, e2, e3, e4, e5, e6, e7]
  have s1 : w1.heap.size = w.heap.size + 1 := by rw [← e1]; exact World.size_alloc ..
  have s2 : w2.heap.size = w.heap.size + 1 + 1 := by rw [← e2, World.size_alloc, s1]
  have s3 : w3.heap.size = w.heap.size + 1 + 1 + 1 := by rw [← e3, World.size_alloc, s2]
  have s4 : w4.heap.size = w.heap.size + 1 + 1 + 1 + 1 := by rw [← e4, World.size_alloc, s3]
  have s5 : w5.heap.size = w.heap.size + 1 + 1 + 1 + 1 + 1 := by rw [← e5, World.size_alloc, s4]
  have s6 : w6.heap.size = w.heap.size + 1 + 1 + 1 + 1 + 1 + 1 := by rw [← e6, World.size_alloc, s5]
  have s7 : w7.heap.size = w.heap.size + 1 + 1 + 1 + 1 + 1 + 1 + 1 := by rw [← e7, World.size_alloc, s6]
  have k67 : Below w6.heap.size w6 w7 := by rw [← e7]; exact bal (Below.refl _ _) _
  have k57 : Below w5.heap.size w5 w7 := stepB (by rw [← e6]; exact bal (Below.refl _ _) _) k67
  have k47 : Below w4.heap.size w4 w7 := stepB (by rw [← e5]; exact bal (Below.refl _ _) _) k57
  have k37 : Below w3.heap.size w3 w7 := stepB (by rw [← e4]; exact bal (Below.refl _ _) _) k47
  have k27 : Below w2.heap.size w2 w7 := stepB (by rw [← e3]; exact bal (Below.refl _ _) _) k37
  have k17 : Below w1.heap.size w1 w7 := stepB (by rw [← e2]; exact bal (Below.refl _ _) _) k27
  have k07 : Below w.heap.size w w7 := stepB (by rw [← e1]; exact bal (Below.refl _ _) _) k17
  have hbp : w7.heap[w.heap.size]? = some (.cells #[.slice none 0 0] 22 (0, 0)) := (k17.block _ (by omega)).trans (by rw [← e1]; exact World.alloc_heap_new w _)
  have hrb : NumM w7 (w.heap.size + 1) [] := (by
    have := NumM.made w1
    rw [e2, s1] at this
    exact this.block (k27.block _ (by omega)))
  have hbn : w7.heap[w.heap.size + 1 + 1]? = some (.cells #[.map (some (w.heap.size + 1))] 101 (0, 0)) := (k37.block _ (by omega)).trans (by rw [← e3, ← s2]; exact World.alloc_heap_new w2 _)
  have hbf : w7.heap[w.heap.size + 1 + 1 + 1]? = some (.cells #[.func (.func 90) #[] #[.pointer (some ⟨w.heap.size + 1 + 1, 0, none⟩), .pointer (some ⟨w.heap.size, 0, none⟩)]] 124 (0, 0)) := (k47.block _ (by omega)).trans (by rw [← e4, ← s3]; exact World.alloc_heap_new w3 _)
  have hb1 : w7.heap[w.heap.size + 1 + 1 + 1 + 1]? = some (.cells #[.pointer (some ⟨Pb, 0, none⟩)] 88 (0, 0)) := (k57.block _ (by omega)).trans (by rw [← e5, ← s4]; exact World.alloc_heap_new w4 _)
  have hb2 : w7.heap[w.heap.size + 1 + 1 + 1 + 1 + 1]? = some (.cells #[.int .i64 (c : Int)] 3 (0, 0)) := (k67.block _ (by omega)).trans (by rw [← e6, ← s5]; exact World.alloc_heap_new w5 _)
  have hb3 : w7.heap[w.heap.size + 1 + 1 + 1 + 1 + 1 + 1]? = some (.cells #[.slice SA xs.length cS] 106 (0, 0)) := by rw [← e7, ← s6]; exact World.alloc_heap_new w6 _
  clear e1 e2 e3 e4 e5 e6 e7 s1 s2 s3 s4 s5 s6 k17 k27 k37 k47 k57 k67 w1 w2 w3 w4 w5 w6
  have hI0 : PtS w7 w7.heap.size (w.heap.size + 1 + 1) w.heap.size (w.heap.size + 1) [] [] (.slice none 0 0) [] w7 :=
    ⟨hbn, hbp, hrb, ⟨rfl, .inl ⟨rfl, rfl⟩⟩, fun i v h => by simp at h, fun i i' v v' _ h => by simp at h, ⟨by omega, by omega, by omega, Nat.le_refl _⟩, Exc.refl _ _ _⟩
  have hBel : ∀ {X : World}, Exc [w.heap.size, w.heap.size + 1] w7.heap.size w7 X → Below w.heap.size w X := fun {X} h => k07.trans (h.below (by omega) fun k hk => by simp at hk; omega)
  have hbx : ∀ {X : World} {b : Nat} {o : Obj}, Exc [w.heap.size, w.heap.size + 1] w7.heap.size w7 X → w.heap.size + 1 < b → w7.heap[b]? = some o → X.heap[b]? = some o := fun {X b o} h hb ho => h.holds (blk_lt ho) (by simp; omega) ho
  refine loop_pre rfl h1 (gf := 103) (lb := #[.pointer (some ⟨w.heap.size + 1 + 1 + 1 + 1, 0, none⟩), .pointer (some ⟨w.heap.size + 1 + 1 + 1 + 1 + 1, 0, none⟩), .pointer (some ⟨w.heap.size + 1 + 1 + 1 + 1 + 1 + 1, 0, none⟩)]) rfl trivial (enters_of Tryd.func103 (by kernel_rfl) rfl)
    l.length encP (fun _ => rfl) (RowP cl T xs l) (fun pre X => (∃ pv vs, PtS w7 w7.heap.size (w.heap.size + 1 + 1) w.heap.size (w.heap.size + 1) (rowF [] ((fstL pre).map key)) (partsL key (fstL pre)) pv vs X) ∧ ∀ z ∈ fstL pre, z ∈ l) (fun ys => fstL ys = l)
    (fun pre X Y h hb => ⟨by obtain ⟨pv, vs, h1⟩ := h.1; exact ⟨pv, vs, h1.below hb⟩, h.2⟩)
    (fun pre X b o o' hl ho hc h => ⟨by obtain ⟨pv, vs, h1⟩ := h.1; exact ⟨pv, vs, h1.obj o' hl ho hc⟩, h.2⟩)
    (fun x X b o o' hl ho hc h => ⟨h.1, by obtain ⟨D, cd, h1, h2⟩ := h.2; exact ⟨D, cd, h1, ints_obj h2 o' ho hc⟩⟩)
    ⟨⟨_, _, hI0⟩, fun z hz => by simp [fstL] at hz⟩ ?seq
    (fun x => #[.pointer (some ⟨Pb, 0, none⟩), .int .i64 c, .slice SA xs.length cS, undef, undef, undef, .slice none 0 0, .pointer (some ⟨w.heap.size, 0, none⟩), .pointer (some ⟨w.heap.size + 1 + 1, 0, none⟩), .pointer (some ⟨w.heap.size + 1 + 1 + 1, 0, none⟩), .int .i64 x.1, x.2, undef, .map (some (w.heap.size + 1)), .func (.func 90) #[] #[.pointer (some ⟨w.heap.size + 1 + 1, 0, none⟩), .pointer (some ⟨w.heap.size, 0, none⟩)], .pointer (some ⟨Pb, 0, none⟩), .int .i64 c, .slice SA xs.length cS, .func (.func 103) #[] #[.pointer (some ⟨w.heap.size + 1 + 1 + 1 + 1, 0, none⟩), .pointer (some ⟨w.heap.size + 1 + 1 + 1 + 1 + 1, 0, none⟩), .pointer (some ⟨w.heap.size + 1 + 1 + 1 + 1 + 1 + 1, 0, none⟩)], .int .i64 x.1, x.2, undef, undef, undef, undef, undef, undef, undef, undef, undef, undef, undef, undef, undef, undef])
    ?assign ?body ?done
  case seq =>
    intro lo J W hW hJb hJe hY h0
    refine rows_in (m - 1) (by omega) lo (w.heap.size + 1 + 1 + 1 + 1) (w.heap.size + 1 + 1 + 1 + 1 + 1) (w.heap.size + 1 + 1 + 1 + 1 + 1 + 1) Pb nxA nxc T cA cc cl mA M mc A ca l c xs SA cS w hR ux hlT hT hln J hJb (fun pre X hJ => ?_) hY W h0
    obtain ⟨⟨pv, vs, hp⟩, _⟩ := hJe _ _ hJ
    have q1 := hbx hp.b (by omega) hb1
    have q2 := hbx hp.b (by omega) hb2
    have q3 := hbx hp.b (by omega) hb3
    exact ⟨hBel hp.b, ⟨blk_lt q1, blk_lt q2, blk_lt q3⟩, by simp [World.cell?, q1], by simp [World.cell?, q2], by simp [World.cell?, q3]⟩
  case assign =>
    rintro lo ⟨z, v⟩ X KK hKK
    dsimp only [encP]
    gi_wp2
    exact hKK
  case body =>
    rintro lo pre ⟨z, v⟩ X ⟨⟨pv, vs, hp⟩, hzl⟩ ⟨hz, D, cd, hv, hi⟩ hlen
    dsimp only at hz hv hi ⊢
    subst hv
    rw [← HKEY.out] at hi ⊢
    have q1 := hbx hp.b (by omega) hbf
    have c1 : X.cell? ⟨w.heap.size + 1 + 1 + 1, 0, none⟩ = some (.func (.func 90) #[] #[.pointer (some ⟨w.heap.size + 1 + 1, 0, none⟩), .pointer (some ⟨w.heap.size, 0, none⟩)]) := by simp [World.cell?, q1]
    have hNb := Lib.hid (CallsIn.inRound lo (callsIn_wide (n := m - 1 - 1 - 1).2 (number_any w7 w7.heap.size (w.heap.size + 1 + 1) w.heap.size (w.heap.size + 1) _ _ pv vs X hp D (key z) cd hi (hK z hz) (fun t ht => by
      obtain ⟨y, hy, rfl⟩ := mem_keys.1 ht
      exact hK y (hzl y hy)) (parts_len key (fstL pre)).symm (by have := parts_le key (fstL pre); unfold fstL at this; rw [List.length_map] at this; unfold fstL; omega))))
    gi_wp2_with fail
    refine ⟨fun _ => by omega, ?_⟩
    refine hNb.out.mono ?_
    rintro e w3 ⟨rfl, hkf, pv2, vs2, hp2⟩
    gi_wp2_with fail
    obtain ⟨hkl, hset⟩ := parts_step key (fstL pre) z
    have hP2 : ∀ r ∈ (if key z ∈ rowF [] ((fstL pre).map key) then partsL key (fstL pre) else partsL key (fstL pre) ++ [[]]), r.length ≤ l.length := fun r hr => by
      have hpl : (fstL pre).length = pre.length := List.length_map _
      have : ∀ r ∈ partsL key (fstL pre), r.length ≤ l.length := fun r hr => by have := parts_rows_le key (fstL pre) r hr; omega
      split at hr
      · exact this r hr
      · rcases List.mem_append.1 hr with h | h
        · exact this r h
        · rw [List.mem_singleton] at h; rw [h]; simp
    have hPl : (if key z ∈ rowF [] ((fstL pre).map key) then partsL key (fstL pre) else partsL key (fstL pre) ++ [[]]).length ≤ 200000 := by
      have h1 := parts_le key (fstL pre)
      have hpl : (fstL pre).length = pre.length := List.length_map _
      split
      · omega
      · rw [List.length_append]; simp; omega
    have hkeys : rowF [] ((fstL (pre ++ [(z, Value.slice D (key z).length cd)])).map key) = add (rowF [] ((fstL pre).map key)) (key z) := by
      have : fstL (pre ++ [(z, Value.slice D (key z).length cd)]) = fstL pre ++ [z] := by unfold fstL; simp
      rw [this, keys_snoc]
    have hfs : fstL (pre ++ [(z, Value.slice D (key z).length cd)]) = fstL pre ++ [z] := by unfold fstL; simp
    have hrl := tb_le hP2 (pos (add (rowF [] ((fstL pre).map key)) (key z)) (key z))
    have HFin : Hid (∀ Y, (∃ pv vs, PtS w7 w7.heap.size (w.heap.size + 1 + 1) w.heap.size (w.heap.size + 1) (add (rowF [] ((fstL pre).map key)) (key z)) (partsL key (fstL pre ++ [z])) pv vs Y) → (∃ pv vs, PtS w7 w7.heap.size (w.heap.size + 1 + 1) w.heap.size (w.heap.size + 1) (rowF [] ((fstL (pre ++ [(z, Value.slice D (key z).length cd)])).map key)) (partsL key (fstL (pre ++ [(z, Value.slice D (key z).length cd)]))) pv vs Y) ∧ ∀ y ∈ fstL (pre ++ [(z, Value.slice D (key z).length cd)]), y ∈ l) := fun Y h => by
      rw [hkeys, hfs]
      refine ⟨h, fun y hy => ?_⟩
      rcases List.mem_append.1 hy with h1 | h1
      · exact hzl y h1
      · rw [List.mem_singleton] at h1; rw [h1]; exact hz
    rw [← hset] at HFin
    clear hkeys hset hP2 hNb
    generalize (if key z ∈ rowF [] ((fstL pre).map key) then partsL key (fstL pre) else partsL key (fstL pre) ++ [[]]) = P2 at *
    generalize hks : add (rowF [] ((fstL pre).map key)) (key z) = Ks2 at *
    generalize pos Ks2 (key z) = kk at *
    obtain ⟨G, cG, hGe, hGN⟩ := Dg.own_somev hp2.o (Nat.lt_of_le_of_lt (Nat.zero_le _) hkl)
    subst hGe
    obtain ⟨v, hv⟩ : ∃ v, vs2[kk]? = some v := ⟨_, List.getElem?_eq_getElem (by rw [hp2.len]; exact hkl)⟩
    have hrow := hp2.r kk v hv
    obtain ⟨A1, c1', rfl, _⟩ := Ap.own_form hrow
    have hInto := Lib.hid fun (X : World) (hX : PtS w7 w7.heap.size (w.heap.size + 1 + 1) w.heap.size (w.heap.size + 1) Ks2 P2 (.slice (some ⟨G, 0, none⟩) P2.length cG) vs2 X) w6 tmp u hg ho hob => And.intro (hX.into (w6 := w6) (z := z) (tmp := tmp) (u := u) hkl hv hg ho hob) (keeps_append (hX.r kk _ hv) hg ⟨G, kk, none⟩ u)
    have hPts : ∀ X, PtS w7 w7.heap.size (w.heap.size + 1 + 1) w.heap.size (w.heap.size + 1) Ks2 P2 (.slice (some ⟨G, 0, none⟩) P2.length cG) vs2 X → X.cell? ⟨w.heap.size, 0, none⟩ = some (.slice (some ⟨G, 0, none⟩) P2.length cG) ∧ X.cell? ⟨G, kk, none⟩ = some (.slice A1 (tb P2 kk).length c1') := fun X hX => ⟨by simp [World.cell?, hX.p], by rw [hX.o.cellAt kk (by omega), hv]⟩
    have hk2 : (kk : Int) < (P2.length : Int) := by omega
    obtain ⟨i0, hi0, hz0, hz1, hz2⟩ := info_parts info_int6
    refine wpIn_region_round (by kernel_rfl) (by kernel_rfl) (by rintro ⟨_, _, h⟩; cases h.1) ?_
    have hp3 := hp2.below (drew_below w3)
    have hkf3 := Lib.hid (hkf.trans ((others_of_below (drew_below w3)).from w7.heap.size))
    clear hp2 hrow hkf c1 q1 hp hi
    generalize w3.drew = X0 at *
    have hS0 : (fun X : World => X.cell? ⟨w.heap.size, 0, none⟩ = some (.slice (some ⟨G, 0, none⟩) P2.length cG) ∧ X.cell? ⟨G, kk, none⟩ = some (.slice A1 (tb P2 kk).length c1')) X0 := hPts _ hp3
    refine wpAny_head 9 9 (fun X : World => X.cell? ⟨w.heap.size, 0, none⟩ = some (.slice (some ⟨G, 0, none⟩) P2.length cG) ∧ X.cell? ⟨G, kk, none⟩ = some (.slice A1 (tb P2 kk).length c1')) rfl rfl (by kernel_rfl) (by kernel_rfl) (by kernel_rfl) (fun hA => ?_)
    refine wpHead_take (i := 0) (v := ?_) (by kernel_rfl) hA (at_drop rfl) (by decide) (by kernel_rfl) (by kernel_rfl) (by kernel_rfl) (fun _ _ _ h => h) (Or.inl ⟨by rfl, ?_⟩) hS0 (fun hA => ?_)
    rotate_left
    · (intro Y hSY; obtain ⟨s0, s1⟩ := hSY; go_simp <;> with_reducible rfl)
    simp only [Act.put, List.setIfInBounds_toArray, List.set_cons_zero, List.set_cons_succ]
    refine wpHead_take (i := 1) (v := ?_) (by kernel_rfl) hA (at_drop rfl) (by decide) (by kernel_rfl) (by kernel_rfl) (by kernel_rfl) (fun _ _ _ h => h) (Or.inl ⟨by rfl, ?_⟩) hS0 (fun hA => ?_)
    rotate_left
    · (intro Y hSY; obtain ⟨s0, s1⟩ := hSY; go_simp <;> with_reducible rfl)
    simp only [Act.put, List.setIfInBounds_toArray, List.set_cons_zero, List.set_cons_succ]
    refine wpHead_take (i := 2) (v := ?_) (by kernel_rfl) hA (at_drop rfl) (by decide) (by kernel_rfl) (by kernel_rfl) (by kernel_rfl) (fun _ _ _ h => h) (Or.inl ⟨by rfl, ?_⟩) hS0 (fun hA => ?_)
    rotate_left
    · (intro Y hSY; obtain ⟨s0, s1⟩ := hSY; go_simp <;> with_reducible rfl)
    simp only [Act.put, List.setIfInBounds_toArray, List.set_cons_zero, List.set_cons_succ]
    refine wpHead_take (i := 3) (v := ?_) (by kernel_rfl) hA (at_drop rfl) (by decide) (by kernel_rfl) (by kernel_rfl) (by kernel_rfl) (fun _ _ _ h => h) (Or.inl ⟨by rfl, ?_⟩) hS0 (fun hA => ?_)
    rotate_left
    · (intro Y hSY; obtain ⟨s0, s1⟩ := hSY; go_simp <;> with_reducible rfl)
    simp only [Act.put, List.setIfInBounds_toArray, List.set_cons_zero, List.set_cons_succ]
    refine wpHead_take (i := 4) (v := ?_) (by kernel_rfl) hA (at_drop rfl) (by decide) (by kernel_rfl) (by kernel_rfl) (by kernel_rfl) (fun _ _ _ h => h) (Or.inl ⟨by rfl, ?_⟩) hS0 (fun hA => ?_)
    rotate_left
    · (intro Y hSY; obtain ⟨s0, s1⟩ := hSY; go_simp <;> with_reducible rfl)
    simp only [Act.put, List.setIfInBounds_toArray, List.set_cons_zero, List.set_cons_succ]
    refine wpHead_take (i := 5) (v := ?_) (by kernel_rfl) hA (at_drop rfl) (by decide) (by kernel_rfl) (by kernel_rfl) (by kernel_rfl) (fun _ _ _ h => h) (Or.inl ⟨by rfl, ?_⟩) hS0 (fun hA => ?_)
    rotate_left
    · (intro Y hSY; obtain ⟨s0, s1⟩ := hSY; go_simp <;> with_reducible rfl)
    simp only [Act.put, List.setIfInBounds_toArray, List.set_cons_zero, List.set_cons_succ]
    refine wpHead_take (i := 6) (v := ?_) (by kernel_rfl) hA (at_drop rfl) (by decide) (by kernel_rfl) (by kernel_rfl) (by kernel_rfl) (fun _ _ _ h => h) (Or.inl ⟨by rfl, ?_⟩) hS0 (fun hA => ?_)
    rotate_left
    · (intro Y hSY; obtain ⟨s0, s1⟩ := hSY; go_simp <;> with_reducible rfl)
    simp only [Act.put, List.setIfInBounds_toArray, List.set_cons_zero, List.set_cons_succ]
    have hA7 := hnext hA (rs := [7]) (i := 7) (by kernel_rfl) (by decide) (by decide)
    refine wpHead_ready (rs := [7]) (by kernel_rfl) (by decide) (AllHead.cons (at_drop rfl) (by decide) (fun KK hK => ?_) AllHead.nil)
    replace hA := hA7
    go_simp
    have hp4 := hp3.below (bal (Below.refl X0.heap.size X0) (.cells #[.int .i64 z] 3))
    have hn1 := cell_one_new X0 (.int .i64 z) 3
    have hbig := hp3.big
    refine hK _ _ (hPts _ hp4) ?_
    clear hK KK
    try simp only [Act.put, List.setIfInBounds_toArray, List.set_cons_zero, List.set_cons_succ]
    have hA8 := hnext hA (rs := [8]) (i := 8) (by kernel_rfl) (by decide) (by decide)
    refine wpHead_ready (rs := [8]) (by kernel_rfl) (by decide) (AllHead.cons (at_drop rfl) (by decide) (fun KK hK => ?_) AllHead.nil)
    replace hA := hA8
    refine step_append rfl (.tmp 29) (.tmp 31) 33 rfl w7.heap.size 3 i0 (.int .i64 0) 1 8 Tryd.underlying33 hi0 hz0 hz1 hz2 rfl (by decide) (.slice A1 (tb P2 kk).length c1') (tb P2 kk).length _ (by simp [Act.eval]) (hp4.r kk _ hv) ⟨X0.heap.size, 0, none⟩ 1 1 [.int .i64 z] (by simp [Act.eval]) rfl hn1 (by simp [Value.oneCell']) (by unfold maxLen; omega) (by omega) (by simp; omega) ?_
    intro A4 c4 Z ho2 hg2 hob2
    obtain ⟨⟨p6, c6, f6, l6, hfin⟩, hkeep⟩ := hInto.out X0 hp3 Z _ _ hg2 ho2 hob2
    have hFN := Lib.hid (And.intro (hkf3.out.trans (hkeep.from w7.heap.size)) (HFin.out _ ⟨_, _, hfin⟩))
    refine hK _ _ ⟨by simp [World.cell?, p6], c6⟩ ?_
    clear hK KK hfin hkeep ho2 hg2 hob2 hInto HFin hp3 hp4 hkf3 hPts s7 hfs hks
    try simp only [Act.put, List.setIfInBounds_toArray, List.set_cons_zero, List.set_cons_succ]
    refine wpHead_end (by kernel_rfl) ?_
    simp only [List.drop_succ_cons, List.drop_zero]
    go_wp2
    first | exact ⟨rfl, hFN.out.1, hFN.out.2⟩ | exact ⟨hFN.out.1, hFN.out.2⟩
  case done =>
    rintro Db ys X hD hys ⟨⟨pv, vs, hp⟩, hzl⟩ hK
    rw [hys] at hp
    have hcp : X.cell? ⟨w.heap.size, 0, none⟩ = some pv := by simp [World.cell?, hp.p]
    have hDlt := (Array.getElem?_eq_some_iff.1 hK).1
    have hbB := hBel hp.b
    obtain ⟨Ap1, cp1, rfl, _⟩ := Ap.own_form hp.o
    gi_wp2
    refine ⟨by simp, .inl ⟨_, _, rfl, run_takeDeferred hK, ?_⟩⟩
    have hbs := hbB.size
    exact ⟨_, results_tmp rfl _ _ _, .slice Ap1 (partsL key l).length cp1, vs, rfl, ⟨ownsRow_putObj (ownsRow_mono hp.o (by omega)) _ hK rfl, fun i v hv => ownsRow_putObj (ownsRow_mono (hp.r i v hv) (by omega)) _ hK rfl⟩, hbB.grown (grownBy_putObj' X Db _) hbs (fun q e => by cases e; omega)⟩
theorem parts_any (Pb : Nat) (nxA : Option Addr) (nxc : Nat) (T : List (List Int)) (cA : Option Addr) (cc : Nat) (cl : List Int) (mA : Addr) (M mc : Nat) (A : Option Addr) (ca : Nat) (l : List Int) (c : Nat) (xs : List Nat) (SA : Option Addr) (cS : Nat) (w : World)
    (hR : RdW w Pb nxA nxc T cA cc cl mA M mc A ca l c xs SA) (ux : U64 xs) (hlT : ∀ z ∈ l, 0 ≤ z ∧ z < (T.length : Int)) (hT : ∀ r ∈ T, r.length ≤ 64 ∧ ∀ y ∈ r, 0 ≤ y ∧ y < (cl.length : Int)) (hln : l.length ≤ 100000) (key : Int → List Int) (hkey : key = keyF cl T xs) (hK : ∀ z ∈ l, KeyP (key z)) :
    Calls Tryd.prog 79 #[.pointer (some ⟨Pb, 0, none⟩), .int .i64 c, .slice SA xs.length cS] w fun e w' => ∃ pv vs, e = .returned pv ∧ PtO w.heap.size w' pv vs (partsL key l) ∧ Below w.heap.size w w' :=
  callsIn_wide.1 (parts_in 4 (by omega) Pb nxA nxc T cA cc cl mA M mc A ca l c xs SA cS w hR ux hlT hT hln key hkey hK)
end Go.Proofs.YtkgeihambgbjdaaDoor.Mi
/- slices.SortStableFunc at rows of numbers: whatever it does, a permutation is left. -/
namespace Go.Proofs.YtkgeihambgbjdaaDoor.Mi
open Go Go.RowKit Go.Proofs.YtkgeihambgbjdaaDoor Go.Proofs.YtkgeihambgbjdaaDoor.Sb
open Go.Proofs.YtkgeihambgbjdaaDoor.Nf (ret_int ret_b drew_below)
set_option linter.unusedVariables false
set_option linter.unusedSimpArgs false
set_option maxRecDepth 100000
theorem enters_cmp : ∀ args w, (callFunc 84 args).run Tryd.prog w = .ok (.enter 84 args) w := enters_of Tryd.func84 (by kernel_rfl) rfl
theorem split1_any (A A' : Option Addr) (n n' c c' : Nat) (w : World) : Calls Tryd.prog 84 #[.slice A n c, .slice A' n' c'] w fun e w' => e = .returned (.int .i64 (if (n' : Int) < n then -1 else if (n : Int) < n' then 1 else 0)) ∧ w = w' := by
  have HC := Lib.hid fun X => cmp_any (n' : Int) (n : Int) X
  generalize (if (n' : Int) < n then (-1 : Int) else if (n : Int) < n' then 1 else 0) = z at *
  go_enter Tryd.func84, Tryd.ntmps84
  go_wp2_with (go_at_call 85; ((with_reducible refine (HC.out _).mono ?_); rintro e w2 ⟨rfl, rfl⟩))
  go_ret
  exact ⟨rfl, rfl⟩
/-- A row in the middle of being sorted. -/
structure SrtW (B G m cG : Nat) (w0 : World) (vs0 : List Value) (w : World) (vs : List Value) : Prop where
  p : vs.Perm vs0
  o : w.ownsRow B 33 1 (.slice (some ⟨G, 0, none⟩) m cG) m vs
  f : ∀ b, b < w0.heap.size → b ≠ G → w.heap[b]? = w0.heap[b]?
  b : Below B w0 w
theorem SrtW.len {B G m cG : Nat} {w0 : World} {vs0 : List Value} {w : World} {vs : List Value} (h : SrtW B G m cG w0 vs0 w vs) : vs.length = m := by have := h.o.1; omega
theorem SrtW.drew {B G m cG : Nat} {w0 : World} {vs0 : List Value} {w : World} {vs : List Value} (h : SrtW B G m cG w0 vs0 w vs) : SrtW B G m cG w0 vs0 w.drew vs := ⟨h.p, h.o.drew, h.f, h.b.drew⟩
theorem SrtW.drewN {B G m cG : Nat} {w0 : World} {vs0 : List Value} {w : World} {vs : List Value} (h : SrtW B G m cG w0 vs0 w vs) (q : Nat) : SrtW B G m cG w0 vs0 (w.drewN q) vs :=
  ⟨h.p, h.o.below (Ap.drewN_below w q), h.f, ⟨h.b.os, h.b.tape, h.b.output, h.b.size, h.b.block⟩⟩
theorem SrtW.cell {B G m cG : Nat} {w0 : World} {vs0 : List Value} {w : World} {vs : List Value} (h : SrtW B G m cG w0 vs0 w vs) {j : Nat} (hj : j < m) : w.cell? ⟨G, j, none⟩ = some (vs[j]'(by have := h.len; omega)) := by
  rw [h.o.cellAt j (by omega), List.getElem?_eq_getElem]
theorem SrtW.free {B G m cG : Nat} {w0 : World} {vs0 : List Value} {w : World} {vs : List Value} (h : SrtW B G m cG w0 vs0 w vs) (j : Nat) : w.frozen? ⟨G, j, none⟩ = false := h.o.frozenAt j
theorem SrtW.swap {B G m cG : Nat} {w0 : World} {vs0 : List Value} {w : World} {vs : List Value} (h : SrtW B G m cG w0 vs0 w vs) {i j : Nat} (hi : i < m) (hj : j < m) {x y : Value} (hx : vs[i]? = some x) (hy : vs[j]? = some y) :
    SrtW B G m cG w0 vs0 ((w.setCell ⟨G, i, none⟩ y).setCell ⟨G, j, none⟩ x) ((vs.set i y).set j x) := by
  have hl := h.len
  have hG : B ≤ G := (h.o.lt G rfl).1
  have ex : x = vs[i] := by rw [List.getElem?_eq_getElem (by omega)] at hx; exact (Option.some.inj hx).symm
  have ey : y = vs[j] := by rw [List.getElem?_eq_getElem (by omega)] at hy; exact (Option.some.inj hy).symm
  refine ⟨?_, ((h.o.stored i y).1.stored j x).1, fun b hb hn => ?_, (h.b.setCell (p := ⟨G, i, none⟩) hG _).setCell (p := ⟨G, j, none⟩) hG _⟩
  · rw [ex, ey]
    exact (List.set_set_perm (by omega) (by omega)).trans h.p
  · rw [Below.heap_setCell _ _ _ b hn, Below.heap_setCell _ _ _ b hn]
    exact h.f b hb hn
/-- Two cells of a row that change places. -/
structure SwpC (B G m cG : Nat) (w0 : World) (vs0 : List Value) (X : World) (vs : List Value) (i j : Nat) (x y : Value) : Prop where
  c1 : X.cell? ⟨G, i, none⟩ = some x
  c2 : X.cell? ⟨G, j, none⟩ = some y
  f1 : X.frozen? ⟨G, i, none⟩ = false
  f2 : (X.setCell ⟨G, i, none⟩ y).frozen? ⟨G, j, none⟩ = false
  c3 : (X.setCell ⟨G, i, none⟩ y).cell? ⟨G, j, none⟩ = some y
  l : G < X.heap.size
  s : ∃ vs', SrtW B G m cG w0 vs0 ((X.setCell ⟨G, i, none⟩ y).setCell ⟨G, j, none⟩ x) vs'
theorem SrtW.swaps {B G m cG : Nat} {w0 : World} {vs0 : List Value} {w : World} {vs : List Value} (h : SrtW B G m cG w0 vs0 w vs) {i j : Nat} (hi : i < m) (hj : j < m) (hij : i ≠ j) {x y : Value} (hx : vs[i]? = some x) (hy : vs[j]? = some y) : SwpC B G m cG w0 vs0 w vs i j x y := by
  have h1 := (h.o.stored i y).1
  refine ⟨?_, ?_, h.free i, h1.frozenAt j, ?_, (h.o.lt G rfl).2, _, h.swap hi hj hx hy⟩
  · rw [h.o.cellAt i (by omega), hx]
  · rw [h.o.cellAt j (by omega), hy]
  · rw [h1.cellAt j (by omega), List.getElem?_set_ne hij, hy]
set_option maxHeartbeats 8000000 in
theorem insertion_any (B G m cG : Nat) (w0 : World) (vs0 : List Value) (a b : Nat) (w : World) (vs : List Value) (h : SrtW B G m cG w0 vs0 w vs) (hv : ∀ v ∈ vs0, ∃ A n c, v = .slice A n c) (hab : a ≤ b) (hb : b ≤ m) (hm : m ≤ 1000000) :
    Calls Tryd.prog 110 #[.slice (some ⟨G, 0, none⟩) m cG, .int .i64 a, .int .i64 b, .func (.func 84) #[] #[]] w fun e w' => e = .returned (.tuple #[]) ∧ ∃ vs', SrtW B G m cG w0 vs0 w' vs' := by
  have HC := Lib.hid fun A A' n n' c c' X => split1_any A A' n n' c c' X
  have HV := Lib.hid hv
  have H0 := Lib.hid h
  clear hv h
  go_enter Tryd.func110, Tryd.ntmps110
  go_wp2
  go_loopw [8] (fun iv wr => ∃ (i : Nat) (vk : List Value), a < i ∧ i ≤ b + 1 ∧ iv = .int .i64 i ∧ Hid (SrtW B G m cG w0 vs0 wr vk)) (fun iv _ => b + 1 - (intOf iv).toNat)
  case atStart => exact ⟨a + 1, vs, by omega, by omega, by go_num, H0⟩
  case round =>
    clear H0
    obtain ⟨i, vk, hai, hib, rfl, H1⟩ := hrel
    by_cases hlt : i < b
    · have hltz : (i : Int) < (b : Int) := by omega
      go_wp2
      go_loopw [9] (fun jv wr2 => ∃ (j : Nat) (vj : List Value), a ≤ j ∧ j ≤ i ∧ jv = .int .i64 j ∧ Hid (SrtW B G m cG w0 vs0 wr2 vj)) (fun jv _ => (intOf jv).toNat)
      case atStart => exact ⟨i, vk, by omega, Nat.le_refl _, rfl, H1⟩
      case round =>
        clear H1
        obtain ⟨j, vj, haj, hji, rfl, HJ⟩ := hrel
        by_cases hja : a < j
        · obtain ⟨jp, rfl⟩ : ∃ q, j = q + 1 := ⟨j - 1, by omega⟩
          have hl := HJ.out.len
          have c1 := HJ.out.cell (j := jp + 1) (by omega)
          have c2 := HJ.out.cell (j := jp) (by omega)
          have f1 := HJ.out.free (jp + 1)
          have f2 := HJ.out.free jp
          obtain ⟨A1, n1, k1, e1⟩ := HV.out _ (HJ.out.p.mem_iff.1 (List.getElem_mem (l := vj) (n := jp + 1) (by omega)))
          obtain ⟨A2, n2, k2, e2⟩ := HV.out _ (HJ.out.p.mem_iff.1 (List.getElem_mem (l := vj) (n := jp) (by omega)))
          rw [e1] at c1
          rw [e2] at c2
          have hjz : (a : Int) < (jp : Int) + 1 := by omega
          have hb1 : (jp : Int) + 1 < (m : Int) := by omega
          have hb2 : (jp : Int) < (m : Int) := by omega
          have hz1 : IntKind.i64.wrap (jp : Int) = (jp : Int) := by rw [IntKind.wrap_i64]; omega
          have hSw : Hid (∀ X, SrtW B G m cG w0 vs0 X vj → SwpC B G m cG w0 vs0 X vj (jp + 1) jp (.slice A1 n1 k1) (.slice A2 n2 k2)) := fun X hX => hX.swaps (by omega) (by omega) (by omega) (by rw [List.getElem?_eq_getElem (by omega), e1]) (by rw [List.getElem?_eq_getElem (by omega), e2])
          clear e1 e2
          have HJn := Lib.hid fun q => HJ.out.drewN q
          clear HJ
          by_cases hn : (n1 : Int) > (n2 : Int)
          · have hcmp : Hid ((if (n2 : Int) < n1 then (-1 : Int) else if (n1 : Int) < n2 then 1 else 0) = -1) := if_pos hn
            have HCC := Lib.hid fun X => HC.out A1 A2 n1 n2 k1 k2 X
            rw [hcmp.out] at HCC
            clear hn hcmp HC HV
            go_wp2_with fail
            go_quiet (first | (go_at_call 84; exact ((HCC.out _).mono (by rintro e w' ⟨rfl, rfl⟩; exact ⟨rfl, _, rfl⟩))))
            have H2 := HJn.out nq
            clear c1 c2 f1 f2 HJn
            generalize wr.drewN nq = X2 at *
            obtain ⟨c1, c2, f1, f2, c3, f3, hS⟩ := hSw.out X2 H2
            have hS := Lib.hid hS
            clear hSw H2
            go_wp2_with fail
            go_big_region
            obtain ⟨vq, hS⟩ := hS.out
            have hSd := Lib.hid hS.drew
            clear hS c1 c2 f1 f2 c3 f3
            generalize ((X2.setCell ⟨G, jp + 1, none⟩ (Value.slice A2 n2 k2)).setCell ⟨G, jp, none⟩ (Value.slice A1 n1 k1)).drew = X3 at *
            go_wp2
            go_roundw
            case rel => exact ⟨jp, vq, by omega, by omega, by go_num, hSd⟩
            case measure => first | (simp [intOf]; done) | (simp [intOf]; omega)
          · have hcmp : ∃ z : Int, 0 ≤ z ∧ Hid ((if (n2 : Int) < n1 then (-1 : Int) else if (n1 : Int) < n2 then 1 else 0) = z) := by
              rw [if_neg (by omega)]
              by_cases h2 : (n1 : Int) < n2
              · exact ⟨1, by omega, if_pos h2⟩
              · exact ⟨0, by omega, if_neg h2⟩
            obtain ⟨z, hz0, hcmp⟩ := hcmp
            have HCC := Lib.hid fun X => HC.out A1 A2 n1 n2 k1 k2 X
            rw [hcmp.out] at HCC
            have hzd : decide (z < 0) = false := decide_eq_false (by omega)
            clear hn hcmp HC HV
            go_wp2_with fail
            go_quiet (first | (go_at_call 84; exact ((HCC.out _).mono (by rintro e w' ⟨rfl, rfl⟩; exact ⟨rfl, _, rfl⟩))))
            have H2 := Lib.hid (HJn.out nq)
            clear c1 c2 f1 f2 HJn hSw
            generalize wr.drewN nq = X2 at *
            go_wp2
            go_roundw
            case rel => exact ⟨i + 1, vj, by omega, by omega, by go_num, H2⟩
            case measure => simp [intOf]; omega
        · obtain rfl : j = a := by omega
          have hjaz : decide ((j : Int) > (j : Int)) = false := decide_eq_false (by omega)
          have H2 := Lib.hid HJ.out.drew
          clear HJ HC HV
          go_wp2_with fail
          go_big_region
          generalize wr.drew = X2 at *
          go_wp2
          go_roundw
          case rel => exact ⟨i + 1, vj, by omega, by omega, by go_num, H2⟩
          case measure => simp [intOf]; omega
    · have hltz : decide ((i : Int) < (b : Int)) = false := decide_eq_false (by omega)
      go_wp2
      go_end0
      exact ⟨rfl, vk, H1.out⟩
/-- What symMergeCmpFunc is asked for. -/
def SymOk (B G m cG : Nat) (w0 : World) (vs0 : List Value) : Prop := (∀ v ∈ vs0, ∃ A n c, v = .slice A n c) → m ≤ 1000000 → ∀ (a q b : Nat) (X : World) (vs : List Value), SrtW B G m cG w0 vs0 X vs → a < q → q < b → b ≤ m →
  Calls Tryd.prog 111 #[.slice (some ⟨G, 0, none⟩) m cG, .int .i64 a, .int .i64 q, .int .i64 b, .func (.func 84) #[] #[]] X fun e w' => e = .returned (.tuple #[]) ∧ ∃ vs', SrtW B G m cG w0 vs0 w' vs'
set_option maxHeartbeats 8000000 in
theorem stable_any (B G m cG : Nat) (w0 : World) (vs0 : List Value) (w : World) (vs : List Value) (h : SrtW B G m cG w0 vs0 w vs) (hv : ∀ v ∈ vs0, ∃ A n c, v = .slice A n c) (hm : m ≤ 1000000) (hs : 20 < m → SymOk B G m cG w0 vs0) :
    Calls Tryd.prog 97 #[.slice (some ⟨G, 0, none⟩) m cG, .int .i64 m, .func (.func 84) #[] #[]] w fun e w' => e = .returned (.tuple #[]) ∧ ∃ vs', SrtW B G m cG w0 vs0 w' vs' := by
  have HI := Lib.hid fun a b X vs (hX : SrtW B G m cG w0 vs0 X vs) hab hb => insertion_any B G m cG w0 vs0 a b X vs hX hv hab hb hm
  have HM := Lib.hid fun (h20 : 20 < m) => hs h20 hv hm
  have H0 := Lib.hid h
  clear hv h hs
  go_enter Tryd.func97, Tryd.ntmps97
  go_wp2
  go_loopw [7, 8] (fun av bv wr => ∃ (a : Nat) (vk : List Value), a ≤ m ∧ av = .int .i64 a ∧ bv = .int .i64 ((a : Int) + 20) ∧ Hid (SrtW B G m cG w0 vs0 wr vk)) (fun av _ _ => m - (intOf av).toNat)
  case atStart => exact ⟨0, vs, by omega, rfl, rfl, H0⟩
  case round =>
    clear H0
    obtain ⟨a, vk, ham, rfl, rfl, H1⟩ := hrel
    by_cases hlt : a + 20 ≤ m
    · have hltz : (a : Int) + 20 ≤ (m : Int) := by omega
      have hC := Lib.hid (HI.out a (a + 20) wr vk H1.out (by omega) hlt)
      have e20 : ((a + 20 : Nat) : Int) = (a : Int) + 20 := by omega
      rw [e20] at hC
      clear H1
      go_wp2_with (go_at_call 110; ((with_reducible refine hC.out.mono ?_); rintro e w2 ⟨rfl, vq, H2⟩); have H2 := Lib.hid H2)
      go_roundw
      case rel => exact ⟨a + 20, vq, by omega, by go_num, by go_num, H2⟩
      case measure => simp [intOf]; omega
    · have hltz : decide ((a : Int) + 20 ≤ (m : Int)) = false := decide_eq_false (by omega)
      have hC := Lib.hid (HI.out a m wr vk H1.out ham (Nat.le_refl _))
      clear H1
      go_wp2_with (go_at_call 110; ((with_reducible refine hC.out.mono ?_); rintro e w2 ⟨rfl, vq, H2⟩); have H2 := Lib.hid H2)
      clear hC HI
      obtain ⟨wo, rfl⟩ : ∃ wo : World, wo = w2 := ⟨_, rfl⟩
      go_loopw [6, 7, 8, 9] (fun bs _ _ _ wr => ∃ (z : Nat) (vk : List Value), 20 ≤ z ∧ z ≤ 2 * m + 20 ∧ bs = .int .i64 z ∧ Hid (SrtW B G m cG w0 vs0 wr vk)) (fun bs _ _ _ _ => m - (intOf bs).toNat)
      case atStart => exact ⟨20, vq, by omega, by omega, rfl, H2⟩
      case round =>
        clear H2
        obtain ⟨z, vk2, hz20, hzm, rfl, H3⟩ := hrel
        by_cases hzl : z < m
        · have hzlz : (z : Int) < (m : Int) := by omega
          have hSym := Lib.hid (HM.out (by omega))
          go_wp2
          go_loopw [7, 8] (fun av bv wr => ∃ (a : Nat) (vk : List Value), a ≤ m ∧ av = .int .i64 a ∧ bv = .int .i64 ((a : Int) + 2 * z) ∧ Hid (SrtW B G m cG w0 vs0 wr vk)) (fun av _ _ => m - (intOf av).toNat)
          case atStart => exact ⟨0, vk2, by omega, rfl, by go_num, H3⟩
          case round =>
            clear H3
            obtain ⟨a2, vk3, ham2, rfl, rfl, H4⟩ := hrel
            by_cases hl2 : a2 + 2 * z ≤ m
            · have hl2z : (a2 : Int) + 2 * z ≤ (m : Int) := by omega
              have hC := Lib.hid (hSym.out a2 (a2 + z) (a2 + 2 * z) wr vk3 H4.out (by omega) (by omega) hl2)
              have e1 : ((a2 + z : Nat) : Int) = (a2 : Int) + z := by omega
              have e2 : ((a2 + 2 * z : Nat) : Int) = (a2 : Int) + 2 * z := by omega
              rw [e1, e2] at hC
              clear H4
              go_wp2_with (go_at_call 111; ((with_reducible refine hC.out.mono ?_); rintro e w2 ⟨rfl, vq, H2⟩); have H2 := Lib.hid H2)
              go_roundw
              case rel => exact ⟨a2 + 2 * z, vq, by omega, by go_num, by go_num, H2⟩
              case measure => simp [intOf]; omega
            · have hl2z : decide ((a2 : Int) + 2 * z ≤ (m : Int)) = false := decide_eq_false (by omega)
              by_cases hl3 : a2 + z < m
              · have hl3z : (a2 : Int) + z < (m : Int) := by omega
                have hC := Lib.hid (hSym.out a2 (a2 + z) m wr vk3 H4.out (by omega) hl3 (Nat.le_refl _))
                have e1 : ((a2 + z : Nat) : Int) = (a2 : Int) + z := by omega
                rw [e1] at hC
                clear H4
                go_wp2_with (go_at_call 111; ((with_reducible refine hC.out.mono ?_); rintro e w2 ⟨rfl, vq, H2⟩); have H2 := Lib.hid H2)
                go_roundw
                case rel => exact ⟨2 * z, vq, by omega, by omega, by go_num, H2⟩
                case measure => simp [intOf]; omega
              · have hl3z : decide ((a2 : Int) + z < (m : Int)) = false := decide_eq_false (by omega)
                go_wp2
                go_roundw
                case rel => exact ⟨2 * z, vk3, by omega, by omega, by go_num, H4⟩
                case measure => simp [intOf]; omega
        · have hzlz : decide ((z : Int) < (m : Int)) = false := decide_eq_false (by omega)
          go_wp2
          go_end0
          exact ⟨rfl, vk2, H3.out⟩
theorem SortStable_any (B G m cG : Nat) (w0 : World) (vs0 : List Value) (w : World) (vs : List Value) (h : SrtW B G m cG w0 vs0 w vs) (hv : ∀ v ∈ vs0, ∃ A n c, v = .slice A n c) (hm : m ≤ 1000000) (hs : 20 < m → SymOk B G m cG w0 vs0) :
    Calls Tryd.prog 83 #[.slice (some ⟨G, 0, none⟩) m cG, .func (.func 84) #[] #[]] w fun e w' => e = .returned (.tuple #[]) ∧ ∃ vs', SrtW B G m cG w0 vs0 w' vs' := by
  have hC := Lib.hid (stable_any B G m cG w0 vs0 w vs h hv hm hs)
  clear h hv hs
  go_enter Tryd.func83, Tryd.ntmps83
  go_wp2_with (go_at_call 97; ((with_reducible refine hC.out.mono ?_); rintro e w2 ⟨rfl, vq, H2⟩); have H2 := Lib.hid H2)
  go_end0
  exact ⟨rfl, vq, H2.out⟩
end Go.Proofs.YtkgeihambgbjdaaDoor.Mi
/- A partition in memory (package minimal), and what its changes leave. -/
namespace Go.Proofs.YtkgeihambgbjdaaDoor.Mi
open Go Go.RowKit Go.Maps Go.Proofs.YtkgeihambgbjdaaDoor Go.Proofs.YtkgeihambgbjdaaDoor.Cb Go.Proofs.YtkgeihambgbjdaaDoor.Sb
open Go.Proofs.YtkgeihambgbjdaaDoor.Nf (zvs zvs_snoc info_int6 ret_int ret_b drew_below)
open Go.Proofs.YtkgeihambgbjdaaDoor.Dg (Tabs tb tb_mem mem_tb info_tab)
set_option linter.unusedVariables false
set_option linter.unusedSimpArgs false
set_option maxRecDepth 100000
/-- A row of one's own that lies before Sm and is not the block C. -/
def RowQ (B C Sm : Nat) (w : World) (v : Value) (l : List Int) : Prop := w.ownsRow B 3 1 v l.length (zvs l) ∧ ∀ g, v.ownBlock = some g → g < Sm ∧ g ≠ C
/-- A partition: its class numbers in block C, its members a row of rows, what has moved; the table of predecessors does not change. -/
structure PAt (w0 : World) (B Pb C Ms0 S1 Sm gB : Nat) (nxA : Option Addr) (nxc : Nat) (T : List (List Int)) (vB : Nat → Value) (cl : List Int) (ms : List (List Int)) (mv : List Int) (msv mvv : Value) (vs : List Value) (w : World) : Prop where
  pb : w.heap[Pb]? = some (.cells #[.slice nxA T.length nxc, .slice (some ⟨gB, 0, none⟩) T.length T.length, .slice (some ⟨C, 0, none⟩) cl.length cl.length, msv, mvv] 91 (0, 0))
  cb : w.heap[C]? = some (.cells (zvs cl).toArray 3 (0, 0))
  mo : w.ownsRow B 33 1 msv ms.length vs
  mr : ∀ i v, vs[i]? = some v → RowQ B C Sm w v (tb ms i)
  vo : w.ownsRow B 3 1 mvv mv.length (zvs mv)
  vb : ∀ g, mvv.ownBlock = some g → Sm ≤ g
  tg : w.heap[gB]? = some (.cells (cells T.length vB) 33 (0, 0))
  tr : ∀ k, k < T.length → w.ownsRow B 3 1 (vB k) (preF T T.length k).length (zvs (preF T T.length k)) ∧ ∀ g, (vB k).ownBlock = some g → g < Sm ∧ g ≠ C
  tl : gB < S1 ∧ gB ≠ Ms0
  sb : ∀ g, msv.ownBlock = some g → g = Ms0 ∨ S1 ≤ g
  lo : B ≤ Pb ∧ B ≤ C ∧ C < Sm ∧ S1 ≤ Sm ∧ Sm ≤ w.heap.size
  b : Below B w0 w
/-- What a change leaves as it is. -/
structure Stp (Pb C G : Nat) (msv mvv : Value) (w : World) (msv' mvv' : Value) (w' : World) : Prop where
  k : ∀ b, b < w.heap.size → b ≠ Pb → b ≠ C → b ≠ G → msv.ownBlock ≠ some b → mvv.ownBlock ≠ some b → w'.heap[b]? = w.heap[b]?
  m : ∀ g, msv'.ownBlock = some g → msv.ownBlock = some g ∨ w.heap.size ≤ g
  v : ∀ g, mvv'.ownBlock = some g → mvv.ownBlock = some g ∨ w.heap.size ≤ g
  s : w.heap.size ≤ w'.heap.size
theorem Stp.refl (Pb C G : Nat) (msv mvv : Value) (w : World) : Stp Pb C G msv mvv w msv mvv w := ⟨fun _ _ _ _ _ _ _ => rfl, fun g h => .inl h, fun g h => .inl h, Nat.le_refl _⟩
theorem Stp.trans {Pb C G : Nat} {a b c a' b' c' : Value} {w w' w'' : World} (h : Stp Pb C G a a' w b b' w') (k : Stp Pb C G b b' w' c c' w'') : Stp Pb C G a a' w c c' w'' := by
  have hs := h.s
  refine ⟨fun q h1 h2 h3 h4 h5 h6 => ?_, fun g hg => ?_, fun g hg => ?_, Nat.le_trans h.s k.s⟩
  · refine (k.k q (by omega) h2 h3 h4 (fun e => ?_) (fun e => ?_)).trans (h.k q h1 h2 h3 h4 h5 h6)
    · rcases h.m q e with h7 | h7
      · exact h5 h7
      · omega
    · rcases h.v q e with h7 | h7
      · exact h6 h7
      · omega
  · rcases k.m g hg with h7 | h7
    · exact h.m g h7
    · exact .inr (by omega)
  · rcases k.v g hg with h7 | h7
    · exact h.v g h7
    · exact .inr (by omega)
theorem Stp.below {Pb C G : Nat} {msv mvv : Value} {w w' : World} (hb : Below w.heap.size w w') : Stp Pb C G msv mvv w msv mvv w' := ⟨fun b h _ _ _ _ _ => hb.block b h, fun g h => .inl h, fun g h => .inl h, hb.size⟩
/-- A row of one's own elsewhere stays. -/
theorem Stp.row {Pb C G : Nat} {a a' b b' : Value} {w w' : World} (h : Stp Pb C G a a' w b b' w') {B e size n : Nat} {v : Value} {xs : List Value} (ho : w.ownsRow B e size v n xs) (hn : ∀ g, v.ownBlock = some g → g ≠ Pb ∧ g ≠ C ∧ g ≠ G ∧ a.ownBlock ≠ some g ∧ a'.ownBlock ≠ some g) : w'.ownsRow B e size v n xs :=
  own_eq ho fun g hg => by
    obtain ⟨h1, h2, h3, h4, h5⟩ := hn g hg
    exact h.k g (own_lt ho hg).2 h1 h2 h3 h4 h5
section
variable {w0 : World} {B Pb C Ms0 S1 Sm gB : Nat} {nxA : Option Addr} {nxc : Nat} {T : List (List Int)} {vB : Nat → Value} {cl : List Int} {ms : List (List Int)} {mv : List Int} {msv mvv : Value} {vs : List Value} {w w' : World}
theorem PAt.len (h : PAt w0 B Pb C Ms0 S1 Sm gB nxA nxc T vB cl ms mv msv mvv vs w) : vs.length = ms.length := by have := h.mo.1; omega
theorem PAt.big (h : PAt w0 B Pb C Ms0 S1 Sm gB nxA nxc T vB cl ms mv msv mvv vs w) : B ≤ w.heap.size := by have := h.lo; omega
theorem PAt.below (h : PAt w0 B Pb C Ms0 S1 Sm gB nxA nxc T vB cl ms mv msv mvv vs w) (hb : Below w.heap.size w w') : PAt w0 B Pb C Ms0 S1 Sm gB nxA nxc T vB cl ms mv msv mvv vs w' :=
  ⟨(hb.block _ (blk_lt h.pb)).trans h.pb, (hb.block _ (blk_lt h.cb)).trans h.cb, h.mo.below hb, fun i v hv => ⟨(h.mr i v hv).1.below hb, (h.mr i v hv).2⟩, h.vo.below hb, h.vb, (hb.block _ (blk_lt h.tg)).trans h.tg, fun k hk => ⟨(h.tr k hk).1.below hb, (h.tr k hk).2⟩, h.tl, h.sb, ⟨h.lo.1, h.lo.2.1, h.lo.2.2.1, h.lo.2.2.2.1, Nat.le_trans h.lo.2.2.2.2 hb.size⟩, h.b.trans (hb.mono h.big)⟩
/-- The blocks of a partition are different. -/
theorem PAt.ne (h : PAt w0 B Pb C Ms0 S1 Sm gB nxA nxc T vB cl ms mv msv mvv vs w) : Pb ≠ C ∧ Pb ≠ gB ∧ C ≠ gB ∧ msv.ownBlock ≠ some Pb ∧ msv.ownBlock ≠ some C ∧ msv.ownBlock ≠ some gB ∧ mvv.ownBlock ≠ some Pb ∧ mvv.ownBlock ≠ some C ∧ mvv.ownBlock ≠ some gB := by
  have hlo := h.lo
  have htl := h.tl
  refine ⟨fun e => ?_, fun e => ?_, fun e => ?_, own_ne h.pb h.mo (by decide), own_ne h.cb h.mo (by decide), fun e => ?_, own_ne h.pb h.vo (by decide), fun e => ?_, fun e => ?_⟩
  · have := h.pb; rw [e, h.cb] at this; simp at this
  · have := h.pb; rw [e, h.tg] at this; simp at this
  · have := h.cb; rw [e, h.tg] at this; simp at this
  · have := h.sb gB e; omega
  · have := h.vb C e; omega
  · have := h.vb gB e; omega
/-- A row of numbers that lies before Sm is none of the blocks that change. -/
theorem PAt.apart (h : PAt w0 B Pb C Ms0 S1 Sm gB nxA nxc T vB cl ms mv msv mvv vs w) {v : Value} {n : Nat} {xs : List Value} (ho : w.ownsRow B 3 1 v n xs) (hc : ∀ g, v.ownBlock = some g → g < Sm ∧ g ≠ C) : ∀ g, v.ownBlock = some g → g ≠ Pb ∧ g ≠ C ∧ msv.ownBlock ≠ some g ∧ mvv.ownBlock ≠ some g := fun g hg => by
  refine ⟨fun e => own_ne h.pb ho (by decide) (e ▸ hg), (hc g hg).2, fun e => ?_, fun e => ?_⟩
  · rcases row_ne ho h.mo (by decide) with h1 | h1
    · rw [h1] at hg; cases hg
    · exact h1 (hg.trans e.symm)
  · have := h.vb g e
    have := (hc g hg).1
    omega
/-- The table of predecessors stays. -/
theorem PAt.tabs (h : PAt w0 B Pb C Ms0 S1 Sm gB nxA nxc T vB cl ms mv msv mvv vs w) {G : Nat} {msv' mvv' : Value} (hk : Stp Pb C G msv mvv w msv' mvv' w') (hG : G ≠ gB) (hGi : ∀ k, k < T.length → (vB k).ownBlock ≠ some G) :
    w'.heap[gB]? = some (.cells (cells T.length vB) 33 (0, 0)) ∧ ∀ k, k < T.length → w'.ownsRow B 3 1 (vB k) (preF T T.length k).length (zvs (preF T T.length k)) ∧ ∀ g, (vB k).ownBlock = some g → g < Sm ∧ g ≠ C := by
  obtain ⟨n1, n2, n3, n4, n5, n6, n7, n8, n9⟩ := h.ne
  refine ⟨(hk.k gB (blk_lt h.tg) n2.symm n3.symm hG.symm n6 n9).trans h.tg, fun k hkT => ⟨hk.row (h.tr k hkT).1 fun g hg => ?_, (h.tr k hkT).2⟩⟩
  obtain ⟨a1, a2, a3, a4⟩ := h.apart (h.tr k hkT).1 (h.tr k hkT).2 g hg
  exact ⟨a1, a2, fun e => hGi k hkT (e ▸ hg), a3, a4⟩
/-- A state gets another class number. -/
theorem PAt.cls (h : PAt w0 B Pb C Ms0 S1 Sm gB nxA nxc T vB cl ms mv msv mvv vs w) (s : Nat) (z : Int) : PAt w0 B Pb C Ms0 S1 Sm gB nxA nxc T vB (cl.set s z) ms mv msv mvv vs (w.setCell ⟨C, s, none⟩ (.int .i64 z)) ∧ ∀ G, Stp Pb C G msv mvv w msv mvv (w.setCell ⟨C, s, none⟩ (.int .i64 z)) := by
  obtain ⟨n1, n2, n3, n4, n5, n6, n7, n8, n9⟩ := h.ne
  have hput : ∀ b, b ≠ C → (w.setCell ⟨C, s, none⟩ (.int .i64 z)).heap[b]? = w.heap[b]? := fun b hb => Below.heap_setCell _ _ _ b hb
  have hsz : (w.setCell ⟨C, s, none⟩ (.int .i64 z)).heap.size = w.heap.size := by show (Array.modify _ _ _).size = _; rw [Array.size_modify]
  have hst : ∀ G, Stp Pb C G msv mvv w msv mvv (w.setCell ⟨C, s, none⟩ (.int .i64 z)) := fun G => ⟨fun b _ _ hc _ _ _ => hput b hc, fun g hg => .inl hg, fun g hg => .inl hg, by omega⟩
  refine ⟨⟨?_, ?_, row_put h.mo n5 _ _, fun i v hv => ⟨row_put (h.mr i v hv).1 (fun e => ((h.mr i v hv).2 _ e).2 rfl) _ _, (h.mr i v hv).2⟩, row_put h.vo n8 _ _, h.vb, (hput gB n3.symm).trans h.tg, fun k hk => ⟨row_put (h.tr k hk).1 (fun e => ((h.tr k hk).2 _ e).2 rfl) _ _, (h.tr k hk).2⟩, h.tl, h.sb, by rw [hsz]; exact h.lo, h.b.setCell (p := ⟨C, s, none⟩) h.lo.2.1 _⟩, hst⟩
  · rw [hput Pb n1, h.pb, List.length_set]
  · rw [heap_put h.cb]
    congr 2
    unfold zvs
    rw [List.setIfInBounds_toArray, List.map_set]
/-- A row of the members is replaced. -/
theorem PAt.row0 {Mb cM : Nat} (h : PAt w0 B Pb C Ms0 S1 Sm gB nxA nxc T vB cl ms mv (.slice (some ⟨Mb, 0, none⟩) ms.length cM) mvv vs w) {c : Nat} (hc : c < ms.length) {u : Value} {l : List Int} (hu : RowQ B C Sm w u l) :
    PAt w0 B Pb C Ms0 S1 Sm gB nxA nxc T vB cl (ms.set c l) mv (.slice (some ⟨Mb, 0, none⟩) ms.length cM) mvv (vs.set c u) (w.setCell ⟨Mb, c, none⟩ u) ∧ ∀ G, Stp Pb C G (.slice (some ⟨Mb, 0, none⟩) ms.length cM) mvv w (.slice (some ⟨Mb, 0, none⟩) ms.length cM) mvv (w.setCell ⟨Mb, c, none⟩ u) := by
  obtain ⟨n1, n2, n3, n4, n5, n6, n7, n8, n9⟩ := h.ne
  have hput : ∀ b, b ≠ Mb → (w.setCell ⟨Mb, c, none⟩ u).heap[b]? = w.heap[b]? := fun b hb => Below.heap_setCell _ _ _ b hb
  have hsz : (w.setCell ⟨Mb, c, none⟩ u).heap.size = w.heap.size := by show (Array.modify _ _ _).size = _; rw [Array.size_modify]
  have e1 : Mb ≠ Pb := fun e => n4 (by rw [e]; rfl)
  have e2 : Mb ≠ C := fun e => n5 (by rw [e]; rfl)
  have e3 : Mb ≠ gB := fun e => n6 (by rw [e]; rfl)
  have hrow : ∀ {v n xs}, w.ownsRow B 3 1 v n xs → (w.setCell ⟨Mb, c, none⟩ u).ownsRow B 3 1 v n xs := fun {v n xs} ho => row_put ho (fun e => by
    rcases row_ne ho h.mo (by decide) with h1 | h1
    · rw [h1] at e; cases e
    · exact h1 e) _ _
  have hst : ∀ G, Stp Pb C G (.slice (some ⟨Mb, 0, none⟩) ms.length cM) mvv w (.slice (some ⟨Mb, 0, none⟩) ms.length cM) mvv (w.setCell ⟨Mb, c, none⟩ u) := fun G => ⟨fun b _ _ _ _ hm _ => hput b (fun e => hm (by rw [e]; rfl)), fun g hg => .inl hg, fun g hg => .inl hg, by omega⟩
  have hvl := h.len
  refine ⟨⟨(hput Pb e1.symm).trans h.pb, (hput C e2.symm).trans h.cb, by rw [List.length_set]; exact (h.mo.stored c u).1, fun i v hv => ?_, hrow h.vo, h.vb, (hput gB e3.symm).trans h.tg, fun k hk => ⟨hrow (h.tr k hk).1, (h.tr k hk).2⟩, h.tl, h.sb, by rw [hsz]; exact h.lo, h.b.setCell (p := ⟨Mb, c, none⟩) (h.mo.lt Mb rfl).1 _⟩, hst⟩
  have hi : i < ms.length := by have := (List.getElem?_eq_some_iff.1 hv).1; simp at this; omega
  rw [List.getElem?_set] at hv
  rw [tb_set hi]
  by_cases e : c = i
  · rw [if_pos e, if_pos (by omega)] at hv
    cases hv
    rw [if_pos e]
    exact ⟨hrow hu.1, hu.2⟩
  · rw [if_neg e] at hv
    rw [if_neg e]
    exact ⟨hrow (h.mr i v hv).1, (h.mr i v hv).2⟩
/-- A row more among the members: append, and a store into the partition. -/
theorem PAt.app (h : PAt w0 B Pb C Ms0 S1 Sm gB nxA nxc T vB cl ms mv msv mvv vs w) {u : Value} {l : List Int} (hu : RowQ B C Sm w u l) {tmp : Obj} {w6 : World} {A2 : Option Addr} {c2 : Nat}
    (ho : w6.ownsRow B 33 1 (.slice A2 (ms.length + 1) c2) (ms.length + 1) (vs ++ [u])) (hg : (w.alloc tmp).grownBy w6 msv.ownBlock) (hob : (Value.slice A2 (ms.length + 1) c2).ownBlock = msv.ownBlock ∨ (Value.slice A2 (ms.length + 1) c2).ownBlock = some (w.alloc tmp).heap.size) :
    w6.heap[Pb]? = some (.cells #[.slice nxA T.length nxc, .slice (some ⟨gB, 0, none⟩) T.length T.length, .slice (some ⟨C, 0, none⟩) cl.length cl.length, msv, mvv] 91 (0, 0)) ∧
    PAt w0 B Pb C Ms0 S1 Sm gB nxA nxc T vB cl (ms ++ [l]) mv (.slice A2 (ms.length + 1) c2) mvv (vs ++ [u]) (w6.setCell ⟨Pb, 3, none⟩ (.slice A2 (ms.length + 1) c2)) ∧ ∀ G, Stp Pb C G msv mvv w (.slice A2 (ms.length + 1) c2) mvv (w6.setCell ⟨Pb, 3, none⟩ (.slice A2 (ms.length + 1) c2)) := by
  obtain ⟨n1, n2, n3, n4, n5, n6, n7, n8, n9⟩ := h.ne
  have hst : ∀ b, b < w.heap.size → msv.ownBlock ≠ some b → w6.heap[b]? = w.heap[b]? := fun b hb hn => (hg.block b (by simp; omega) (fun e => hn e.symm)).trans (Below.heap_alloc w tmp b hb)
  have hpb := (hst Pb (blk_lt h.pb) n4).trans h.pb
  have hput : ∀ b, b ≠ Pb → (w6.setCell ⟨Pb, 3, none⟩ (.slice A2 (ms.length + 1) c2)).heap[b]? = w6.heap[b]? := fun b hb => Below.heap_setCell _ _ _ b hb
  have hsz : (w6.setCell ⟨Pb, 3, none⟩ (.slice A2 (ms.length + 1) c2)).heap.size = w6.heap.size := by show (Array.modify _ _ _).size = _; rw [Array.size_modify]
  have hs6 : w.heap.size + 1 ≤ w6.heap.size := by have := hg.size; simpa using this
  have hrow : ∀ {v n xs}, w.ownsRow B 3 1 v n xs → (w6.setCell ⟨Pb, 3, none⟩ (.slice A2 (ms.length + 1) c2)).ownsRow B 3 1 v n xs := fun {v n xs} hv => by
    have h1 := (hv.alloc tmp).kept hg (row_ne hv h.mo (by decide))
    exact row_put h1 (own_ne hpb h1 (by decide)) _ _
  have hstp : ∀ G, Stp Pb C G msv mvv w (.slice A2 (ms.length + 1) c2) mvv (w6.setCell ⟨Pb, 3, none⟩ (.slice A2 (ms.length + 1) c2)) := fun G => by
    refine ⟨fun b hb hp _ _ hm _ => (hput b hp).trans (hst b hb hm), fun g hgg => ?_, fun g hgg => .inl hgg, by omega⟩
    rcases hob with h1 | h1
    · rw [h1] at hgg; exact .inl hgg
    · rw [h1] at hgg; right; simp at hgg; omega
  have hlo := h.lo
  refine ⟨hpb, ⟨by rw [heap_put hpb]; rfl, ((hput C n1.symm).trans (hst C (blk_lt h.cb) n5)).trans h.cb, ?_, fun i v hv => ?_, hrow h.vo, h.vb, ((hput gB n2.symm).trans (hst gB (blk_lt h.tg) n6)).trans h.tg, fun k hk => ⟨hrow (h.tr k hk).1, (h.tr k hk).2⟩, h.tl, fun g hgg => ?_, by rw [hsz]; exact ⟨hlo.1, hlo.2.1, hlo.2.2.1, hlo.2.2.2.1, by omega⟩, ?_⟩, hstp⟩
  · rw [List.length_append]
    exact row_put ho (own_ne hpb ho (by decide)) _ _
  · rw [tb_snoc]
    have hvl := h.len
    by_cases hi : i < ms.length
    · rw [if_pos hi]
      rw [List.getElem?_append_left (by omega)] at hv
      exact ⟨hrow (h.mr i v hv).1, (h.mr i v hv).2⟩
    · rw [if_neg hi]
      have hi2 : i = ms.length := by
        have := (List.getElem?_eq_some_iff.1 hv).1
        simp at this
        omega
      rw [if_pos hi2]
      subst hi2
      rw [← hvl, List.getElem?_append_right (Nat.le_refl _)] at hv
      simp at hv
      subst hv
      exact ⟨hrow hu.1, hu.2⟩
  · rcases hob with h1 | h1
    · rw [h1] at hgg; exact h.sb g hgg
    · rw [h1] at hgg
      right
      simp at hgg
      omega
  · exact (((h.b.alloc h.big tmp).grown hg (by simp; omega) (fun q hq => (own_lt h.mo hq).1))).setCell (p := ⟨Pb, 3, none⟩) hlo.1 _
/-- States more among the moved: append, and a store into the partition. -/
theorem PAt.mov (h : PAt w0 B Pb C Ms0 S1 Sm gB nxA nxc T vB cl ms mv msv mvv vs w) {l : List Int} {w6 : World} {A2 : Option Addr} {c2 : Nat}
    (ho : w6.ownsRow B 3 1 (.slice A2 (mv.length + l.length) c2) (mv.length + l.length) (zvs mv ++ zvs l)) (hg : w.grownBy w6 mvv.ownBlock) (hob : (Value.slice A2 (mv.length + l.length) c2).ownBlock = mvv.ownBlock ∨ (Value.slice A2 (mv.length + l.length) c2).ownBlock = some w.heap.size) :
    w6.heap[Pb]? = some (.cells #[.slice nxA T.length nxc, .slice (some ⟨gB, 0, none⟩) T.length T.length, .slice (some ⟨C, 0, none⟩) cl.length cl.length, msv, mvv] 91 (0, 0)) ∧
    PAt w0 B Pb C Ms0 S1 Sm gB nxA nxc T vB cl ms (mv ++ l) msv (.slice A2 (mv.length + l.length) c2) vs (w6.setCell ⟨Pb, 4, none⟩ (.slice A2 (mv.length + l.length) c2)) ∧ ∀ G, Stp Pb C G msv mvv w msv (.slice A2 (mv.length + l.length) c2) (w6.setCell ⟨Pb, 4, none⟩ (.slice A2 (mv.length + l.length) c2)) := by
  obtain ⟨n1, n2, n3, n4, n5, n6, n7, n8, n9⟩ := h.ne
  have hst : ∀ b, b < w.heap.size → mvv.ownBlock ≠ some b → w6.heap[b]? = w.heap[b]? := fun b hb hn => hg.block b hb (fun e => hn e.symm)
  have hpb := (hst Pb (blk_lt h.pb) n7).trans h.pb
  have hput : ∀ b, b ≠ Pb → (w6.setCell ⟨Pb, 4, none⟩ (.slice A2 (mv.length + l.length) c2)).heap[b]? = w6.heap[b]? := fun b hb => Below.heap_setCell _ _ _ b hb
  have hsz : (w6.setCell ⟨Pb, 4, none⟩ (.slice A2 (mv.length + l.length) c2)).heap.size = w6.heap.size := by show (Array.modify _ _ _).size = _; rw [Array.size_modify]
  have hs6 : w.heap.size ≤ w6.heap.size := hg.size
  have hlo := h.lo
  have hrow : ∀ {v n xs}, w.ownsRow B 3 1 v n xs → (∀ g, v.ownBlock = some g → g < Sm ∧ g ≠ C) → (w6.setCell ⟨Pb, 4, none⟩ (.slice A2 (mv.length + l.length) c2)).ownsRow B 3 1 v n xs := fun {v n xs} hv hc => by
    have h1 := hv.kept hg (by
      cases hvb : v.ownBlock with
      | none => exact .inl rfl
      | some g => exact .inr fun e => (h.apart hv hc g hvb).2.2.2 e.symm)
    exact row_put h1 (own_ne hpb h1 (by decide)) _ _
  have hmo : (w6.setCell ⟨Pb, 4, none⟩ (.slice A2 (mv.length + l.length) c2)).ownsRow B 33 1 msv ms.length vs := by
    have h1 := h.mo.kept hg (row_ne h.mo h.vo (by decide))
    exact row_put h1 (own_ne hpb h1 (by decide)) _ _
  have hstp : ∀ G, Stp Pb C G msv mvv w msv (.slice A2 (mv.length + l.length) c2) (w6.setCell ⟨Pb, 4, none⟩ (.slice A2 (mv.length + l.length) c2)) := fun G => by
    refine ⟨fun b hb hp _ _ _ hm => (hput b hp).trans (hst b hb hm), fun g hgg => .inl hgg, fun g hgg => ?_, by omega⟩
    rcases hob with h1 | h1
    · rw [h1] at hgg; exact .inl hgg
    · rw [h1] at hgg; right; simp at hgg; omega
  refine ⟨hpb, ⟨by rw [heap_put hpb]; rfl, ((hput C n1.symm).trans (hst C (blk_lt h.cb) n8)).trans h.cb, hmo, fun i v hv => ⟨hrow (h.mr i v hv).1 (h.mr i v hv).2, (h.mr i v hv).2⟩, ?_, fun g hgg => ?_, ((hput gB n2.symm).trans (hst gB (blk_lt h.tg) n9)).trans h.tg, fun k hk => ⟨hrow (h.tr k hk).1 (h.tr k hk).2, (h.tr k hk).2⟩, h.tl, h.sb, by rw [hsz]; exact ⟨hlo.1, hlo.2.1, hlo.2.2.1, hlo.2.2.2.1, by omega⟩, ?_⟩, hstp⟩
  · rw [List.length_append]
    have e : zvs (mv ++ l) = zvs mv ++ zvs l := by unfold zvs; rw [List.map_append]
    rw [e]
    exact row_put ho (own_ne hpb ho (by decide)) _ _
  · rcases hob with h1 | h1
    · rw [h1] at hgg; exact h.vb g hgg
    · rw [h1] at hgg
      simp at hgg
      omega
  · exact ((h.b.grown hg h.big (fun q hq => (own_lt h.vo hq).1))).setCell (p := ⟨Pb, 4, none⟩) hlo.1 _
/-- Another row, which is none of the partition's, changes. -/
theorem PAt.sorted (h : PAt w0 B Pb C Ms0 S1 Sm gB nxA nxc T vB cl ms mv msv mvv vs w) {G m cG : Nat} {vs0 vs1 : List Value} (hs : SrtW B G m cG w vs0 w' vs1) (h0 : w.ownsRow B 33 1 (.slice (some ⟨G, 0, none⟩) m cG) m vs0) (hG : msv.ownBlock ≠ some G ∧ G ≠ gB) :
    PAt w0 B Pb C Ms0 S1 Sm gB nxA nxc T vB cl ms mv msv mvv vs w' ∧ Stp Pb C G msv mvv w msv mvv w' := by
  have hstp : Stp Pb C G msv mvv w msv mvv w' := ⟨fun b hb _ _ hG _ _ => hs.f b hb hG, fun g hgg => .inl hgg, fun g hgg => .inl hgg, hs.b.size⟩
  have e1 : Pb ≠ G := fun e => own_ne h.pb h0 (by decide) (by rw [e]; rfl)
  have e2 : C ≠ G := fun e => own_ne h.cb h0 (by decide) (by rw [e]; rfl)
  have hrow : ∀ {v n xs}, w.ownsRow B 3 1 v n xs → w'.ownsRow B 3 1 v n xs := fun {v n xs} hv => own_eq hv fun g hg => hs.f g (own_lt hv hg).2 fun e => by
    rcases row_ne hv h0 (by decide) with h1 | h1
    · rw [h1] at hg; cases hg
    · exact h1 (by rw [hg, e]; rfl)
  have hlo := h.lo
  have hsz := hs.b.size
  refine ⟨⟨(hs.f Pb (blk_lt h.pb) e1).trans h.pb, (hs.f C (blk_lt h.cb) e2).trans h.cb, own_eq h.mo fun g hg => hs.f g (own_lt h.mo hg).2 fun e => hG.1 (e ▸ hg), fun i v hv => ⟨hrow (h.mr i v hv).1, (h.mr i v hv).2⟩, hrow h.vo, h.vb, (hs.f gB (blk_lt h.tg) hG.2.symm).trans h.tg, fun k hk => ⟨hrow (h.tr k hk).1, (h.tr k hk).2⟩, h.tl, h.sb, ⟨hlo.1, hlo.2.1, hlo.2.2.1, hlo.2.2.2.1, by omega⟩, h.b.trans hs.b⟩, hstp⟩
/-- What a partition offers to read. -/
theorem PAt.cells (h : PAt w0 B Pb C Ms0 S1 Sm gB nxA nxc T vB cl ms mv msv mvv vs w) : w.cell? ⟨Pb, 0, none⟩ = some (.slice nxA T.length nxc) ∧ w.cell? ⟨Pb, 1, none⟩ = some (.slice (some ⟨gB, 0, none⟩) T.length T.length) ∧ w.cell? ⟨Pb, 2, none⟩ = some (.slice (some ⟨C, 0, none⟩) cl.length cl.length) ∧ w.cell? ⟨Pb, 3, none⟩ = some msv ∧ w.cell? ⟨Pb, 4, none⟩ = some mvv ∧ Pb < w.heap.size ∧ ∀ j, w.frozen? ⟨Pb, j, none⟩ = false := by
  refine ⟨?_, ?_, ?_, ?_, ?_, blk_lt h.pb, free_of h.pb⟩ <;> simp [World.cell?, h.pb]
end
end Go.Proofs.YtkgeihambgbjdaaDoor.Mi
/- split (package minimal): a class is replaced by its parts. -/
namespace Go.Proofs.YtkgeihambgbjdaaDoor.Mi
open Go Go.RowKit Go.Maps Go.Proofs.YtkgeihambgbjdaaDoor Go.Proofs.YtkgeihambgbjdaaDoor.Cb Go.Proofs.YtkgeihambgbjdaaDoor.Sb
open Go.Proofs.YtkgeihambgbjdaaDoor.Nf (zvs zvs_snoc info_int6 ret_int ret_b drew_below)
open Go.Proofs.YtkgeihambgbjdaaDoor.Dg (Tabs tb tb_mem mem_tb info_tab)
set_option linter.unusedVariables false
set_option linter.unusedSimpArgs false
set_option maxRecDepth 100000
theorem setAll_snoc {cl p : List Int} {v : Int} {j : Nat} (h : j < p.length) : setAll cl (p.take (j + 1)) v = (setAll cl (p.take j) v).set (nd p j).toNat v := by
  unfold setAll
  rw [List.take_add_one, List.getElem?_eq_getElem h, List.foldl_append, nd_eq h]
  rfl
theorem cell_zvs {w : World} {C : Nat} {cl : List Int} {t : TypeId} {fz : Nat × Nat} (h : w.heap[C]? = some (.cells (zvs cl).toArray t fz)) {s : Nat} (hs : s < cl.length) : w.cell? ⟨C, s, none⟩ = some (.int .i64 (nd cl s)) := by
  obtain ⟨ad, e, _, hc⟩ := ints_blk h s hs
  cases e
  rwa [Ap.addr_add] at hc
def rws (Q : List (Value × List Int)) : List (List Int) := Q.map fun q => q.2
def vls (Q : List (Value × List Int)) : List Value := Q.map fun q => q.1
/-- In the middle of splitting. -/
structure SpI (w0 : World) (B Pb C Ms0 S1 Sm gB : Nat) (nxA : Option Addr) (nxc : Nat) (T : List (List Int)) (vB : Nat → Value) (G cG : Nat) (q0 : Value × List Int) (Q : List (Value × List Int)) (msv mvv : Value) (w : World) (cl : List Int) (ms : List (List Int)) (mv : List Int) (msv' mvv' : Value) (vs' : List Value) (wr : World) : Prop where
  p : PAt w0 B Pb C Ms0 S1 Sm gB nxA nxc T vB cl ms mv msv' mvv' vs' wr
  g : wr.ownsRow B 33 1 (.slice (some ⟨G, 0, none⟩) (Q.length + 1) cG) (Q.length + 1) (vls (q0 :: Q))
  r : ∀ q ∈ q0 :: Q, RowQ B C Sm wr q.1 q.2
  s : Stp Pb C G msv mvv w msv' mvv' wr
  n : msv'.ownBlock ≠ some G
section
variable {w0 : World} {B Pb C Ms0 S1 Sm gB : Nat} {nxA : Option Addr} {nxc : Nat} {T : List (List Int)} {vB : Nat → Value} {G cG : Nat} {q0 : Value × List Int} {Q : List (Value × List Int)} {msv mvv : Value} {w : World} {cl : List Int} {ms : List (List Int)} {mv : List Int} {msv' mvv' : Value} {vs' : List Value} {wr : World}
theorem SpI.next (h : SpI w0 B Pb C Ms0 S1 Sm gB nxA nxc T vB G cG q0 Q msv mvv w cl ms mv msv' mvv' vs' wr) {cl2 : List Int} {ms2 : List (List Int)} {mv2 : List Int} {msv2 mvv2 : Value} {vs2 : List Value} {X : World}
    (hp : PAt w0 B Pb C Ms0 S1 Sm gB nxA nxc T vB cl2 ms2 mv2 msv2 mvv2 vs2 X) (hs : ∀ G, Stp Pb C G msv' mvv' wr msv2 mvv2 X) : SpI w0 B Pb C Ms0 S1 Sm gB nxA nxc T vB G cG q0 Q msv mvv w cl2 ms2 mv2 msv2 mvv2 vs2 X := by
  have e1 : G ≠ Pb := fun e => own_ne h.p.pb h.g (by decide) (by rw [← e]; rfl)
  have e2 : G ≠ C := fun e => own_ne h.p.cb h.g (by decide) (by rw [← e]; rfl)
  have e3 : mvv'.ownBlock ≠ some G := fun e => by
    rcases row_ne h.g h.p.vo (by decide) with h1 | h1
    · cases h1
    · exact h1 (by rw [e]; rfl)
  have hGl := own_lt h.g (g := G) rfl
  refine ⟨hp, (hs Pb).row h.g fun g hg => ?_, fun q hq => ⟨(hs Pb).row (h.r q hq).1 fun g hg => ?_, (h.r q hq).2⟩, h.s.trans (hs G), fun e => ?_⟩
  · obtain rfl : G = g := by simpa [Value.ownBlock] using hg
    exact ⟨e1, e2, e1, h.n, e3⟩
  · obtain ⟨a1, a2, a3, a4⟩ := h.p.apart (h.r q hq).1 (h.r q hq).2 g hg
    exact ⟨a1, a2, a1, a3, a4⟩
  · rcases (hs Pb).m G e with h1 | h1
    · exact h.n h1
    · omega
end
theorem SpI.below {w0 : World} {B Pb C Ms0 S1 Sm gB : Nat} {nxA : Option Addr} {nxc : Nat} {T : List (List Int)} {vB : Nat → Value} {G cG : Nat} {q0 : Value × List Int} {Q : List (Value × List Int)} {msv mvv : Value} {w : World} {cl : List Int} {ms : List (List Int)} {mv : List Int} {msv' mvv' : Value} {vs' : List Value} {wr X : World}
    (h : SpI w0 B Pb C Ms0 S1 Sm gB nxA nxc T vB G cG q0 Q msv mvv w cl ms mv msv' mvv' vs' wr) (hb : Below wr.heap.size wr X) : SpI w0 B Pb C Ms0 S1 Sm gB nxA nxc T vB G cG q0 Q msv mvv w cl ms mv msv' mvv' vs' X := h.next (h.p.below hb) fun _ => Stp.below hb
theorem rws_take (Q : List (Value × List Int)) (i : Nat) : rws (Q.take i) = (rws Q).take i := by unfold rws; rw [List.map_take]
theorem rws_len (Q : List (Value × List Int)) : (rws Q).length = Q.length := List.length_map _
theorem rws_step {Q : List (Value × List Int)} {i : Nat} (h : i < Q.length) : (rws Q).take (i + 1) = (rws Q).take i ++ [Q[i].2] := by
  unfold rws
  rw [List.take_add_one, List.getElem?_map, List.getElem?_eq_getElem h]
  rfl
section
variable {P : Program}
/-- append of whatever slice, with what is known of the row's block. -/
theorem wpList_append_at {w : World} {ops : Array Oper} {rest : List Oper} {o : Oper} {a : Act} {Q : Exit → Act → World → Prop} (hgd : o.guard = none) (s x : Operand) (t : TypeId)
    (ho : o.op = .call { callee := .builtin .append, args := #[s, x], argTypes := #[t, t] }) (base : Nat)
    (e : TypeId) (i : TypeInfo) (z : Value) (size bytes : Nat) (ht : P.underlying t = some (.slice e)) (hi : P.info? e = some i) (hz : i.zero = some z)
    (hsize : i.size = size) (hby : i.bytes = bytes) (hzs : z.cells.size = size) (hsz : 0 < size) (v : Value) (n : Nat) (xs : List Value) (hs : a.eval s = v) (hown : w.ownsRow base e size v n xs)
    (A : Option Addr) (m c : Nat) (news : List Value) (hx : a.eval x = .slice A m c) (hl : news.length = m * size) (hn : A = none → m = 0) (hnews : ∀ ad, A = some ad → ∀ j u, news[j]? = some u → w.cell? (ad.add j) = some u) (h1 : ∀ u ∈ news, u.oneCell' = true)
    (h63 : n + m ≤ maxLen) (hbytes : (n + m) * bytes ≤ 140737488355328) (hbase : base ≤ w.heap.size)
    (h : ∀ A' c' w', w'.ownsRow base e size (.slice A' (n + m) c') (n + m) (xs ++ news) → w.grownBy w' v.ownBlock → ((Value.slice A' (n + m) c').ownBlock = v.ownBlock ∨ (Value.slice A' (n + m) c').ownBlock = some w.heap.size) → wpList P ops Q rest (a.put o.dst (.slice A' (n + m) c')) w') : wpList P ops Q (o :: rest) a w := by
  refine wpList_plain hgd fun K hK => ?_
  have hrun : ∃ v' w', (Builtin.append_ #[t, t] o.type #[v, .slice A m c]).run P w = .ok v' w' ∧ w'.ownsRow base e size v' (n + m) (xs ++ news) ∧ w.grownBy w' v.ownBlock ∧ (v'.ownBlock = v.ownBlock ∨ v'.ownBlock = some w.heap.size) := by
    rcases A with _ | ad
    · have hm := hn rfl
      subst hm
      have h0 : news = [] := List.eq_nil_of_length_eq_zero (by rw [hl]; omega)
      subst h0
      refine ⟨v, w, ?_, by simpa using hown, World.grownBy.refl w _, .inl rfl⟩
      rcases hown.2 with ⟨rfl, rfl⟩ | ⟨g, cap, cur, rfl, _, _, hc, _⟩
      · simp [Builtin.append_, run_underlying ht, sizeOf, typeInfo, hi, Builtin.lenOf, Builtin.firstCells]
      · simp [Builtin.append_, run_underlying ht, sizeOf, typeInfo, hi, Builtin.lenOf, Builtin.firstCells, hc, storeCells]
    · obtain ⟨v', w', hr, h2, h3, _, h4⟩ := run_append_own_at (P := P) w base t o.type e i z size bytes ht hi hz hsize hby hzs hsz v n xs hown ad m c news hl (hnews ad rfl) h1 h63 hbytes hbase
      exact ⟨v', w', hr, h2, h3, h4⟩
  obtain ⟨v', w', hr, h2, h3, h4⟩ := hrun
  obtain ⟨A', c', rfl, _⟩ := Ap.own_form h2
  unfold Oper.wp execOp
  simp only [ho, resolve, invoke, builtin, Sem.run_bind, Sem.run_pure, Result.andThen_ok, List.map_toArray, List.map_cons, List.map_nil, hs, hx, hr]
  exact hK _ _ (h A' c' w' h2 h3 h4)
end
theorem info_rowI : (Tryd.prog.info? 33).map (fun i => (i.zero, i.size, i.bytes)) = some (some (.slice none 0 0), 1, 24) := by kernel_rfl
set_option maxHeartbeats 16000000 in
theorem split_any {w0 : World} {B Pb C Ms0 S1 Sm gB : Nat} {nxA : Option Addr} {nxc : Nat} {T : List (List Int)} {vB : Nat → Value} {cl : List Int} {ms : List (List Int)} {mv : List Int} {msv mvv : Value} {vs : List Value} {w : World}
    (h : PAt w0 B Pb C Ms0 S1 Sm gB nxA nxc T vB cl ms mv msv mvv vs w) (c : Nat) (hc : c < ms.length) (G cG : Nat) (Q : List (Value × List Int)) (hQ : 0 < Q.length) (hgo : w.ownsRow B 33 1 (.slice (some ⟨G, 0, none⟩) Q.length cG) Q.length (vls Q)) (hgr : ∀ q ∈ Q, RowQ B C Sm w q.1 q.2)
    (hG : msv.ownBlock ≠ some G ∧ G ≠ gB) (hz : ∀ q ∈ Q, ∀ z ∈ q.2, 0 ≤ z ∧ z < (cl.length : Int)) (hsz : cl.length ≤ 100000 ∧ ms.length ≤ 200000 ∧ mv.length ≤ 200000 ∧ Q.length ≤ 100000 ∧ ∀ Q' : List (Value × List Int), Q'.Perm Q → ∀ i, ((rws Q').take i).flatten.length ≤ 100000) (hsm : 20 < Q.length → SymOk B G Q.length cG w (vls Q)) :
    Calls Tryd.prog 76 #[.pointer (some ⟨Pb, 0, none⟩), .int .i64 c, .slice (some ⟨G, 0, none⟩) Q.length cG] w fun e w' => e = .returned (.tuple #[]) ∧
      ∃ q0 Q' msv' mvv' vs', (q0 :: Q').Perm Q ∧ PAt w0 B Pb C Ms0 S1 Sm gB nxA nxc T vB (splitC cl ms.length (rws Q')) (ms.set c q0.2 ++ rws Q') (mv ++ (rws Q').flatten) msv' mvv' vs' w' ∧ Stp Pb C G msv mvv w msv' mvv' w' := by
  have HS := Lib.hid (SortStable_any B G Q.length cG w (vls Q) w (vls Q) ⟨.refl _, hgo, fun _ _ _ => rfl, Below.refl _ _⟩ (fun v hv => by
    obtain ⟨q, hq, rfl⟩ := List.mem_map.1 hv
    obtain ⟨A, c', e, _⟩ := Ap.own_form (hgr q hq).1
    exact ⟨A, _, c', e⟩) (by omega) hsm)
  have HAft : Hid (∀ X ps', SrtW B G Q.length cG w (vls Q) X ps' → ∃ q0 Q', (q0 :: Q').Perm Q ∧ SpI w0 B Pb C Ms0 S1 Sm gB nxA nxc T vB G cG q0 Q' msv mvv w cl ms mv msv mvv vs X ∧ Q'.length + 1 = Q.length) := fun X ps' hS => by
    obtain ⟨Qs, hp, he⟩ := perm_map_inv (fun q : Value × List Int => q.1) hS.p (l := Q) rfl
    cases Qs with
    | nil => have := hp.length_eq; simp at this; omega
    | cons q0 Q' =>
      have hl := hp.length_eq
      rw [List.length_cons] at hl
      obtain ⟨h1, h2⟩ := h.sorted hS hgo hG
      have ho := hS.o
      rw [he, ← hl] at ho
      refine ⟨q0, Q', hp, ⟨h1, ho, fun q hq => ?_, h2, hG.1⟩, hl⟩
      have hr := hgr q (hp.mem_iff.1 hq)
      refine ⟨own_eq hr.1 fun g hg => hS.f g (own_lt hr.1 hg).2 fun e => ?_, hr.2⟩
      rcases row_ne hr.1 hgo (by decide) with h3 | h3
      · rw [h3] at hg; cases hg
      · exact h3 (by rw [hg, e]; rfl)
  have HZ := Lib.hid hz
  have HSz := Lib.hid hsz
  obtain ⟨s1, s2, s3, s4, _⟩ := hsz
  clear hgo hgr hG hz hsm h
  obtain ⟨i0, hi0, hz0, hz1, hz2⟩ := info_parts info_rowI
  obtain ⟨i1, hi1, hy0, hy1, hy2⟩ := info_parts info_int6
  go_enter Tryd.func76, Tryd.ntmps76
  go_wp2_with (go_at_call 83; ((with_reducible refine HS.out.mono ?_); rintro e w2 ⟨rfl, ps', hS⟩); have HA := Lib.hid (HAft.out _ _ hS); clear hS HAft)
  obtain ⟨q0, Q', hperm, hI, hQl⟩ := HA.out
  clear HA HS
  obtain ⟨Mb, cM, hMe, _⟩ := Dg.own_somev hI.p.mo (Nat.lt_of_le_of_lt (Nat.zero_le _) hc)
  subst hMe
  obtain ⟨A0, c0', hq0, _⟩ := Ap.own_form (hI.r q0 (by simp)).1
  have r0 := hI.p.row0 hc (hI.r q0 (by simp))
  have hI1 := hI.next r0.1 r0.2
  have z3 := hI.p.cells.2.2.2.1
  have zf := hI.p.cells.2.2.2.2.2.1
  have zg : w2.cell? ⟨G, 0, none⟩ = some (.slice A0 q0.2.length c0') := by rw [hI.g.cellAt 0 (by omega)]; show some q0.1 = _; rw [hq0]
  have zm : w2.cell? ⟨Mb, c, none⟩ = vs[c]? := hI.p.mo.cellAt c (by omega)
  obtain ⟨old, hold⟩ : ∃ o, vs[c]? = some o := ⟨_, List.getElem?_eq_getElem (by rw [hI.p.len]; exact hc)⟩
  rw [hold] at zm
  clear hold
  have zk := hI.p.mo.frozenAt c
  have zl := (hI.p.mo.lt Mb rfl).2
  have hcn : (c : Int) < (ms.length : Int) := by omega
  have hQn : (0 : Int) < (Q.length : Int) := by omega
  rw [hq0] at hI1
  have hI2 := Lib.hid (hI1.below (drew_below _))
  clear hI r0 hI1
  go_wp2_with fail
  go_big_region
  clear z3 zf zg zm zk zl
  generalize (w2.setCell ⟨Mb, c, none⟩ (.slice A0 q0.2.length c0')).drew = w3 at *
  have hQn' : (1 : Int) ≤ (Q.length : Int) := by omega
  have HSz2 := Lib.hid fun i => HSz.out.2.2.2.2 (q0 :: Q') hperm i
  have HZ2 := Lib.hid fun q hq => HZ.out q (hperm.mem_iff.1 hq)
  have HPm := Lib.hid hperm
  clear HSz HZ hperm
  generalize Q.length = nq at *
  subst hQl
  have hcap : Q'.length + 1 ≤ cG := by
    obtain ⟨A', c', e, h1⟩ := Ap.own_form hI2.out.g
    cases e
    exact h1
  by_cases hcG : cG = 1
  · obtain rfl : Q' = [] := List.eq_nil_of_length_eq_zero (by omega)
    subst hcG
    go_wp2
    refine wp_loop_rounds 1 ?_
    rw [rounds_succ]
    go_wp2
    go_end0
    refine ⟨rfl, q0, [], _, _, vs.set c (.slice A0 q0.2.length c0'), HPm.out, ?_, hI2.out.s⟩
    simpa [splitC, rws] using hI2.out.p
  go_wp2
  go_loopw [24] (fun iv wr => ∃ (i : Nat) (msv' mvv' : Value) (vs' : List Value), i ≤ Q'.length ∧ iv = .int .i64 i ∧ Hid (SpI w0 B Pb C Ms0 S1 Sm gB nxA nxc T vB G cG q0 Q' (.slice (some ⟨Mb, 0, none⟩) ms.length cM) mvv w (splitC cl ms.length ((rws Q').take i)) (ms.set c q0.2 ++ (rws Q').take i) (mv ++ ((rws Q').take i).flatten) msv' mvv' vs' wr)) (fun iv _ => Q'.length - (intOf iv).toNat)
  case atStart => exact ⟨0, _, _, _, by omega, rfl, by simpa [splitC] using hI2⟩
  case round =>
    clear hI2
    obtain ⟨i, msv1, mvv1, vs1, hi, rfl, HI⟩ := hrel
    by_cases hlt : i < Q'.length
    · have zg : wr.cell? ⟨G, 1 + i, none⟩ = some Q'[i].1 := by
        rw [HI.out.g.cellAt (1 + i) (by omega)]
        unfold vls
        rw [List.getElem?_map, Nat.add_comm 1 i, List.getElem?_cons_succ, List.getElem?_eq_getElem hlt]
        rfl
      have hqm : Q'[i] ∈ q0 :: Q' := List.mem_cons_of_mem _ (List.getElem_mem hlt)
      have hstp := rws_step hlt
      have hzq := HZ2.out _ hqm
      have hfl := HSz2.out i
      have hfl' := HSz2.out 0
      have HSt : Hid (splitC cl ms.length ((rws Q').take (i + 1)) = setAll (splitC cl ms.length ((rws Q').take i)) Q'[i].2 ((ms.length + i : Nat) : Int) ∧ ms.set c q0.2 ++ (rws Q').take (i + 1) = (ms.set c q0.2 ++ (rws Q').take i) ++ [Q'[i].2] ∧ mv ++ ((rws Q').take (i + 1)).flatten = (mv ++ ((rws Q').take i).flatten) ++ Q'[i].2) := by
        refine ⟨?_, ?_, ?_⟩
        · rw [hstp, splitC_snoc, List.length_take, rws_len, Nat.min_eq_left (by omega)]
        · rw [hstp, List.append_assoc]
        · rw [hstp, List.flatten_append, List.append_assoc]
          simp
      have hcl1 : (splitC cl ms.length ((rws Q').take i)).length = cl.length := splitC_len _ _ _
      have hms1 : (ms.set c q0.2 ++ (rws Q').take i).length = ms.length + i := by rw [List.length_append, List.length_set, List.length_take, rws_len, Nat.min_eq_left (by omega)]
      have hmv1 : (mv ++ ((rws Q').take i).flatten).length ≤ 400000 := by
        have : ((rws (q0 :: Q')).take (i + 1)).flatten.length ≤ 100000 := HSz2.out (i + 1)
        have e : (rws (q0 :: Q')).take (i + 1) = q0.2 :: (rws Q').take i := rfl
        rw [e, List.flatten_cons, List.length_append] at this
        rw [List.length_append]
        omega
      have hpl : Q'[i].2.length ≤ 100000 := by
        have : ((rws (q0 :: Q')).take (i + 2)).flatten.length ≤ 100000 := HSz2.out (i + 2)
        have e : (rws (q0 :: Q')).take (i + 2) = q0.2 :: (rws Q').take (i + 1) := rfl
        rw [e, hstp, List.flatten_cons, List.length_append, List.flatten_append, List.length_append] at this
        simp at this
        omega
      clear hstp hfl hfl'
      have HI := HI
      generalize splitC cl ms.length ((rws Q').take i) = cl1 at *
      generalize ms.set c q0.2 ++ (rws Q').take i = ms1 at *
      generalize mv ++ ((rws Q').take i).flatten = mv1 at *
      rw [← hms1] at HSt
      have HML := Lib.hid hms1
      have hml3 : ms1.length ≤ 300000 := by omega
      clear hms1
      obtain ⟨v, part, hqe⟩ : ∃ v part, Q'[i] = (v, part) := ⟨_, _, rfl⟩
      rw [hqe] at HSt zg hqm hzq hpl
      dsimp only at HSt zg hzq hpl
      have hrq : wr.ownsRow B 3 1 v part.length (zvs part) := (HI.out.r _ hqm).1
      obtain ⟨Apt, cpt, rfl, hcpt⟩ := Ap.own_form hrq
      have hqi : (i : Int) < (Q'.length : Int) := by omega
      go_wp2
      have HI0 : Hid (SpI w0 B Pb C Ms0 S1 Sm gB nxA nxc T vB G cG q0 Q' (.slice (some ⟨Mb, 0, none⟩) ms.length cM) mvv w (setAll cl1 (part.take 0) ((ms1.length : Nat) : Int)) ms1 mv1 msv1 mvv1 vs1 wr) := by simpa [setAll] using HI
      clear HI zg
      go_loopw [30, 9] (fun jv _ wr2 => ∃ (j : Nat), j ≤ part.length ∧ jv = .int .i64 j ∧ Hid (SpI w0 B Pb C Ms0 S1 Sm gB nxA nxc T vB G cG q0 Q' (.slice (some ⟨Mb, 0, none⟩) ms.length cM) mvv w (setAll cl1 (part.take j) ((ms1.length : Nat) : Int)) ms1 mv1 msv1 mvv1 vs1 wr2)) (fun jv _ _ => part.length - (intOf jv).toNat)
      case atStart => exact ⟨0, by omega, rfl, HI0⟩
      case round =>
        clear HI0 hrq
        obtain ⟨j, hj, rfl, HJ⟩ := hrel
        have hrq : wr.ownsRow B 3 1 (.slice Apt part.length cpt) part.length (zvs part) := (HJ.out.r _ hqm).1
        have hip := Dg.ints_row hrq rfl
        by_cases hjl : j < part.length
        · obtain ⟨ad, hAp, hcell⟩ := hip.at_ hjl
          subst hAp
          have hzz := hzq (nd part j) (by rw [nd_eq hjl]; exact List.getElem_mem hjl)
          obtain ⟨s, hs⟩ : ∃ s : Nat, nd part j = s := ⟨(nd part j).toNat, by omega⟩
          have hsl : s < (setAll cl1 (part.take j) ((ms1.length : Nat) : Int)).length := by rw [setAll_len]; omega
          have hnx := setAll_snoc (cl := cl1) (v := ((ms1.length : Nat) : Int)) hjl
          rw [hs, Int.toNat_natCast] at hnx
          rw [hs] at hcell
          have hc1 := HJ.out.p.cls s ((ms1.length : Nat) : Int)
          rw [← hnx] at hc1
          have HN := Lib.hid ((HJ.out.next hc1.1 hc1.2).below (drew_below _))
          obtain ⟨_, _, z2, z3, _, zP, _⟩ := HJ.out.p.cells
          have zc : wr.cell? ⟨C, s, none⟩ = some (.int .i64 (nd (setAll cl1 (part.take j) ((ms1.length : Nat) : Int)) s)) := by
            exact cell_zvs HJ.out.p.cb hsl
          have zf := free_of HJ.out.p.cb s
          have zC := blk_lt HJ.out.p.cb
          have hmsv := HJ.out.p.mo
          obtain ⟨Am, cm, hme, _⟩ := Ap.own_form hmsv
          rw [hme] at z3
          have hsl2 : (s : Int) < ((setAll cl1 (part.take j) ((ms1.length : Nat) : Int)).length : Int) := by omega
          have HME := Lib.hid hme
          clear hip hrq hc1 hnx hmsv hme HJ hs hzz
          generalize (setAll cl1 (part.take j) ((ms1.length : Nat) : Int)).length = nl at *
          go_wp2_with fail
          go_big_region
          clear z2 z3 zP zc zf zC
          generalize (wr.setCell ⟨C, s, none⟩ (.int .i64 ((ms1.length : Nat) : Int))).drew = w5 at *
          go_wp2
          go_roundw
          case rel => exact ⟨j + 1, by omega, by go_num, HN⟩
          case measure => simp [intOf]; omega
        · obtain rfl : j = part.length := by omega
          rw [List.take_length, ← HSt.out.1] at HJ
          have hRQ : RowQ B C Sm wr (.slice Apt part.length cpt) part := HJ.out.r _ hqm
          obtain ⟨_, _, _, z3, _, zP, zf⟩ := HJ.out.p.cells
          have zf3 := zf 3
          obtain ⟨Am, cm, hme, _⟩ := Ap.own_form HJ.out.p.mo
          obtain ⟨Av, cv, hve, _⟩ := Ap.own_form HJ.out.p.vo
          have HME := Lib.hid hme
          have HVE := Lib.hid hve
          have hmo := HJ.out.p.mo
          rw [hme] at z3 hmo
          have hbig := HJ.out.p.big
          have hA1 := Lib.hid fun w6 A2 c2 (ho : w6.ownsRow B 33 1 (.slice A2 (ms1.length + 1) c2) (ms1.length + 1) (vs1 ++ [.slice Apt part.length cpt])) (hg : (wr.alloc (.cells #[.slice Apt part.length cpt] 33)).grownBy w6 msv1.ownBlock) hob => HJ.out.p.app hRQ ho hg hob
          have HJn := Lib.hid fun X cl2 ms2 mv2 msv2 mvv2 vs2 hp hs => HJ.out.next (cl2 := cl2) (ms2 := ms2) (mv2 := mv2) (msv2 := msv2) (mvv2 := mvv2) (vs2 := vs2) (X := X) hp hs
          rw [hme] at hA1
          clear hip hrq hme hve hRQ HJ zf
          go_wp2_with (first
            | (at_builtin; refine wpList_append_own_at _ rfl _ _ 22 rfl B 33 i0 (.slice none 0 0) 1 24 Tryd.underlying22 hi0 hz0 hz1 hz2 rfl (by decide) _ _ _ rfl (hmo.alloc _) ⟨wr.heap.size, 0, none⟩ 1 1 [.slice Apt part.length cpt] rfl rfl (cell_one_new _ _ _) (by simp [Value.oneCell']) (by unfold maxLen; omega) (by omega) (by simp; omega) ?_; intro v' w6 hown' hgrow _ hob; obtain ⟨A2, c2, rfl, _⟩ := Ap.own_form hown'; obtain ⟨p6, hp6, hs6⟩ := hA1.out w6 A2 c2 hown' hgrow hob; have c6 : w6.cell? ⟨Pb, 3, none⟩ = some (.slice Am ms1.length cm) := (by simp [World.cell?, p6]); have f6 := free_of p6 3; have l6 := blk_lt p6; have HI6 := Lib.hid (HJn.out _ _ _ _ _ _ _ hp6 (fun G => by rw [HME.out]; exact hs6 G)); clear hown' hgrow hob hp6 hs6 p6; obtain ⟨_, _, _, _, z4, z4l, z4f⟩ := HI6.out.p.cells; have z4f4 := z4f 4; clear z4f; rw [HVE.out] at z4; have hvo6 := HI6.out.p.vo; rw [HVE.out] at hvo6; have hpi6 := ints_from (Dg.ints_row (show World.ownsRow _ B 3 1 (.slice Apt part.length cpt) part.length (zvs part) from (HI6.out.r _ hqm).1) rfl); have hbig6 := HI6.out.p.big; have hM1 := Lib.hid fun w7 A3 c3 (ho : World.ownsRow w7 B 3 1 (.slice A3 (mv1.length + part.length) c3) (mv1.length + part.length) (zvs mv1 ++ zvs part)) hg hob => HI6.out.p.mov (w6 := w7) ho hg hob; rw [HVE.out] at hM1; have hpl0 := hpi6.1; have hpl1 := hpi6.2; clear hpi6)
            | (at_builtin; refine wpList_append_at rfl _ _ 33 rfl B 3 i1 (.int .i64 0) 1 8 Tryd.underlying33 hi1 hy0 hy1 hy2 rfl (by decide) _ _ _ rfl hvo6 Apt part.length cpt (zvs part) rfl (by simp [zvs]) hpl0 hpl1 (by intro u hu; obtain ⟨x, _, rfl⟩ := List.mem_map.1 hu; rfl) (by unfold maxLen; omega) (by omega) (by omega) ?_; intro A3 c3 w7 hown7 hgrow7 hob7; obtain ⟨p7, hp7, hs7⟩ := hM1.out w7 A3 c3 hown7 hgrow7 hob7; have c7 : w7.cell? ⟨Pb, 4, none⟩ = some (.slice Av mv1.length cv) := (by simp [World.cell?, p7]); have f7 := free_of p7 4; have l7 := blk_lt p7; have HI7 := Lib.hid (HI6.out.next hp7 (fun G => by rw [HVE.out]; exact hs7 G)); clear hown7 hgrow7 hob7 hp7 hs7 p7))
          go_roundw
          case rel =>
            rw [← HSt.out.2.1, ← HSt.out.2.2] at HI7
            exact ⟨i + 1, _, _, _, by omega, by go_num, HI7⟩
          case measure => simp [intOf]; omega
    · obtain rfl : i = Q'.length := by omega
      have hI3 := HI
      rw [show (rws Q').take Q'.length = rws Q' by rw [← rws_len]; exact List.take_length] at hI3
      clear HI
      go_wp2
      go_end0
      exact ⟨rfl, q0, Q', _, _, _, HPm.out, hI3.out.p, hI3.out.s⟩
end Go.Proofs.YtkgeihambgbjdaaDoor.Mi
/- round (package minimal): what is affected, what is touched; sets as lists. -/
namespace Go.Proofs.YtkgeihambgbjdaaDoor.Mi
open Go Go.RowKit Go.Maps Go.Proofs.YtkgeihambgbjdaaDoor Go.Proofs.YtkgeihambgbjdaaDoor.Cb Go.Proofs.YtkgeihambgbjdaaDoor.Sb
open Go.Proofs.YtkgeihambgbjdaaDoor.Nf (zvs zvs_snoc info_int6 ret_int ret_b drew_below)
open Go.Proofs.YtkgeihambgbjdaaDoor.Dg (Tabs tb tb_mem mem_tb info_tab)
set_option linter.unusedVariables false
set_option linter.unusedSectionVars false
set_option linter.unusedSimpArgs false
set_option maxRecDepth 100000
theorem nd_mapL {l : List Int} {g : Int → Int} {x : Nat} (h : x < l.length) : nd (l.map g) x = g (nd l x) := by
  rw [nd_eq (by simpa using h), List.getElem_map, nd_eq h]
/-- A table of a deterministic automaton with L letters. -/
structure TOk (T : List (List Int)) (L : Nat) : Prop where
  row : ∀ r ∈ T, r.length = L ∧ ∀ z ∈ r, 0 ≤ z ∧ z < (T.length : Int)
  l1 : 1 ≤ L
  l6 : L ≤ 64
  n : T.length ≤ 4095
def dlt (T : List (List Int)) (s x : Nat) : Nat := (nd (tb T s) x).toNat
theorem TOk.len {T : List (List Int)} {L : Nat} (h : TOk T L) {s : Nat} (hs : s < T.length) : (tb T s).length = L := (h.row _ (tb_mem hs)).1
theorem TOk.at_ {T : List (List Int)} {L : Nat} (h : TOk T L) {s x : Nat} (hs : s < T.length) (hx : x < L) : nd (tb T s) x = (dlt T s x : Int) ∧ dlt T s x < T.length := by
  have hl := h.len hs
  have := (h.row _ (tb_mem hs)).2 (nd (tb T s) x) (by rw [nd_eq (by omega)]; exact List.getElem_mem (by omega))
  unfold dlt
  omega
theorem TOk.dl {T : List (List Int)} {L : Nat} (h : TOk T L) : ∀ s x, s < T.length → x < L → dlt T s x < T.length := fun s x hs hx => (h.at_ hs hx).2
/-- What leads to the first i of the moved. -/
def catL (T : List (List Int)) (mv : List Int) (i : Nat) : List Int := ((mv.take i).map fun z => preF T T.length z.toNat).flatten
theorem catL_step {T : List (List Int)} {mv : List Int} {i : Nat} (h : i < mv.length) : catL T mv (i + 1) = catL T mv i ++ preF T T.length (nd mv i).toNat := by
  unfold catL
  rw [List.take_add_one, List.getElem?_eq_getElem h, List.map_append, List.flatten_append, nd_eq h]
  simp
theorem preF_le {T : List (List Int)} {L : Nat} (h : TOk T L) (k : Nat) : (preF T T.length k).length ≤ 262144 := by
  have h2 := preF_len (T := T) (L := 64) (fun s => by
    by_cases hs : s < T.length
    · rw [h.len hs]; exact h.l6
    · unfold tb; rw [List.getD_eq_getElem?_getD, List.getElem?_eq_none (by omega)]; simp) T.length k
  have h3 : T.length * 64 ≤ 4095 * 64 := Nat.mul_le_mul_right 64 h.n
  omega
theorem catL_len {T : List (List Int)} {L : Nat} (h : TOk T L) (mv : List Int) : ∀ i, (catL T mv i).length ≤ i * 262144
  | 0 => by simp [catL]
  | i + 1 => by
    by_cases hi : i < mv.length
    · rw [catL_step hi, List.length_append]
      have h1 := catL_len h mv i
      have h2 := preF_le h (nd mv i).toNat
      rw [Nat.succ_mul]
      exact Nat.add_le_add h1 h2
    · have : catL T mv (i + 1) = catL T mv i := by unfold catL; rw [List.take_of_length_le (by omega), List.take_of_length_le (by omega)]
      rw [this]
      have := catL_len h mv i
      rw [Nat.succ_mul]
      exact Nat.le_trans this (Nat.le_add_right _ _)
/-- A state that leads to a moved one. -/
def Aff (T : List (List Int)) (L : Nat) (mv : List Int) (s : Nat) : Prop := ∃ x, x < L ∧ ((dlt T s x : Nat) : Int) ∈ mv
theorem mem_cat {T : List (List Int)} {L : Nat} (h : TOk T L) {mv : List Int} (hm : ∀ z ∈ mv, 0 ≤ z ∧ z < (T.length : Int)) {y : Int} : y ∈ catL T mv mv.length ↔ ∃ s : Nat, s < T.length ∧ y = (s : Int) ∧ Aff T L mv s := by
  unfold catL Aff
  rw [List.take_length, List.mem_flatten]
  constructor
  · rintro ⟨P, hP, hy⟩
    obtain ⟨z, hz, rfl⟩ := List.mem_map.1 hP
    obtain ⟨s, hs, rfl, hm2⟩ := mem_preF.1 hy
    refine ⟨s, hs, rfl, ?_⟩
    rw [Int.toNat_of_nonneg (hm z hz).1] at hm2
    obtain ⟨x, hx, e⟩ := List.mem_iff_getElem.1 hm2
    rw [h.len hs] at hx
    refine ⟨x, hx, ?_⟩
    rw [← (h.at_ hs hx).1, nd_eq (by rw [h.len hs]; exact hx), e]
    exact hz
  · rintro ⟨s, hs, rfl, x, hx, hz⟩
    refine ⟨_, List.mem_map.2 ⟨_, hz, rfl⟩, mem_preF.2 ⟨s, hs, rfl, ?_⟩⟩
    rw [Int.toNat_natCast, ← (h.at_ hs hx).1, nd_eq (by rw [h.len hs]; exact hx)]
    exact List.getElem_mem _
theorem mem_elsI {l : List Int} {k : Int} : k ∈ elsI (ofL l) ↔ (0 ≤ k ∧ k ≤ 4095) ∧ k ∈ l := by
  rw [elsI_mem]
  unfold hasB
  rw [Bool.and_eq_true, decide_eq_true_eq]
  constructor
  · rintro ⟨h1, h2⟩
    rw [mem_ofL l (by omega), decide_eq_true_eq, Int.toNat_of_nonneg h1.1] at h2
    exact ⟨h1, h2⟩
  · rintro ⟨h1, h2⟩
    refine ⟨h1, ?_⟩
    rw [mem_ofL l (by omega), decide_eq_true_eq, Int.toNat_of_nonneg h1.1]
    exact h2
theorem elsI_nodup (xs : List Nat) : (elsI xs).Nodup := by
  unfold elsI
  refine List.Pairwise.map _ (fun a b h => ?_) (els_sorted (xs := xs))
  intro e
  have : a < b := h
  omega
theorem has_cat {T : List (List Int)} {L : Nat} (h : TOk T L) {mv : List Int} (hm : ∀ z ∈ mv, 0 ≤ z ∧ z < (T.length : Int)) {s : Nat} (hs : s < T.length) : hasB (ofL (catL T mv mv.length)) (s : Int) = true ↔ Aff T L mv s := by
  rw [← elsI_mem, mem_elsI, mem_cat h hm]
  have := h.n
  constructor
  · rintro ⟨_, s', _, e, h2⟩
    have : s = s' := by omega
    exact this ▸ h2
  · intro h2
    exact ⟨by omega, s, hs, rfl, h2⟩
/-- The classes of the affected states. -/
def touch (T : List (List Int)) (cl mv : List Int) : List Int := elsI (ofL (eachL cl (elsI (ofL (catL T mv mv.length)))))
section
variable {T : List (List Int)} {L : Nat} (h : TOk T L) {cl : List Int} {ms : List (List Int)} {mv : List Int} (hP : Part T.length cl ms) (hm : ∀ z ∈ mv, 0 ≤ z ∧ z < (T.length : Int)) (hM : ms.length ≤ 4096)
include h hP hm hM
theorem mem_touch {z : Int} : z ∈ touch T cl mv ↔ ∃ s : Nat, s < T.length ∧ Aff T L mv s ∧ z = nd cl s := by
  unfold touch eachL
  rw [mem_elsI, List.mem_map]
  constructor
  · rintro ⟨_, y, hy, rfl⟩
    obtain ⟨_, h2⟩ := mem_elsI.1 hy
    obtain ⟨s, hs, rfl, ha⟩ := (mem_cat h hm).1 h2
    exact ⟨s, hs, ha, by rw [Int.toNat_natCast]⟩
  · rintro ⟨s, hs, ha, rfl⟩
    have hr := hP.rng s hs
    have hn := h.n
    exact ⟨by omega, (s : Int), mem_elsI.2 ⟨by omega, (mem_cat h hm).2 ⟨s, hs, rfl, ha⟩⟩, by rw [Int.toNat_natCast]⟩
theorem touch_ok (z : Int) (hz : z ∈ touch T cl mv) : ∃ c : Nat, z = (c : Int) ∧ c < ms.length ∧ ∃ s, s < T.length ∧ nd cl s = z := by
  obtain ⟨s, hs, _, rfl⟩ := (mem_touch h hP hm hM).1 hz
  have := hP.rng s hs
  exact ⟨(nd cl s).toNat, by omega, by omega, s, hs, rfl⟩
theorem htouch : ∀ s, s < T.length → (nd cl s ∈ touch T cl mv ↔ ∃ t x, t < T.length ∧ x < L ∧ ((dlt T t x : Nat) : Int) ∈ mv ∧ nd cl t = nd cl s) := fun s hs => by
  rw [mem_touch h hP hm hM]
  constructor
  · rintro ⟨t, ht, ⟨x, hx, hm⟩, e⟩
    exact ⟨t, x, ht, hx, hm, e.symm⟩
  · rintro ⟨t, x, ht, hx, hm, e⟩
    exact ⟨t, ht, ⟨x, hx, hm⟩, e.symm⟩
omit hM in
theorem hkeyF : ∀ s t, s < T.length → t < T.length → (keyF cl T (ofL (catL T mv mv.length)) s = keyF cl T (ofL (catL T mv mv.length)) t ↔ (Aff T L mv s ↔ Aff T L mv t) ∧ (Aff T L mv s → ∀ x, x < L → nd cl (dlt T s x) = nd cl (dlt T t x))) := fun s t hs ht => by
  have e : ∀ {s}, s < T.length → (eachL cl (tb T s)).length = L := fun {s} hs => by unfold eachL; rw [List.length_map]; exact h.len hs
  have e2 : ∀ {s x}, s < T.length → x < L → nd (eachL cl (tb T s)) x = nd cl (dlt T s x) := fun {s x} hs hx => by
    unfold eachL dlt
    exact nd_mapL (by rw [h.len hs]; exact hx)
  unfold keyF
  rw [Int.toNat_natCast, Int.toNat_natCast]
  have hl1 := h.l1
  by_cases a : Aff T L mv s
  · rw [if_pos ((has_cat h hm hs).2 a)]
    by_cases b : Aff T L mv t
    · rw [if_pos ((has_cat h hm ht).2 b)]
      constructor
      · intro hh
        refine ⟨⟨fun _ => b, fun _ => a⟩, fun _ x hx => ?_⟩
        rw [← e2 hs hx, ← e2 ht hx, hh]
      · rintro ⟨_, hh⟩
        apply List.ext_getElem
        · rw [e hs, e ht]
        · intro x h1 h2
          rw [← nd_eq h1, ← nd_eq h2]
          rw [e hs] at h1
          rw [e2 hs h1, e2 ht h1]
          exact hh a x h1
    · rw [if_neg (fun q => b ((has_cat h hm ht).1 q))]
      constructor
      · intro hh
        have := e hs
        rw [hh] at this
        simp at this
        omega
      · rintro ⟨hh, _⟩
        exact absurd (hh.1 a) b
  · rw [if_neg (fun q => a ((has_cat h hm hs).1 q))]
    by_cases b : Aff T L mv t
    · rw [if_pos ((has_cat h hm ht).2 b)]
      constructor
      · intro hh
        have := e ht
        rw [← hh] at this
        simp at this
        omega
      · rintro ⟨hh, _⟩
        exact absurd (hh.2 b) a
    · rw [if_neg (fun q => b ((has_cat h hm ht).1 q))]
      exact ⟨fun _ => ⟨⟨fun q => absurd q a, fun q => absurd q b⟩, fun q => absurd q a⟩, fun _ => rfl⟩
omit hm in
theorem key_ok (hM2 : ms.length ≤ 65536) (xs : List Nat) {z : Int} (hz : 0 ≤ z ∧ z < (T.length : Int)) : KeyP (keyF cl T xs z) := by
  have hs : z.toNat < T.length := by omega
  unfold keyF
  split
  · refine ⟨fun y hy => ?_, ?_⟩
    · obtain ⟨t, ht, rfl⟩ := List.mem_map.1 hy
      have h1 := (h.row _ (tb_mem hs)).2 t ht
      have h2 := hP.rng t.toNat (by omega)
      omega
    · unfold eachL
      rw [List.length_map, h.len hs]
      have := h.l6
      omega
  · exact ⟨fun y hy => (by cases hy), by simp⟩
end
theorem ListI_any (A : Option Addr) (xs : List Nat) (c : Nat) (w : World) (hx : Words w A xs) (ux : U64 xs) (hc : xs.length ≤ c) (hT : Tab w) :
    Calls Tryd.prog 78 #[.slice A xs.length c] w fun e w' => ∃ A' c', e = .returned (.slice A' (elsI xs).length c') ∧ w'.ownsRow w.heap.size 3 1 (.slice A' (elsI xs).length c') (elsI xs).length (zvs (elsI xs)) ∧ Below w.heap.size w w' :=
  (List_any A xs c w hx ux hc hT).mono fun e w' ⟨v, h1, h2, h3⟩ => by
    obtain ⟨A', c', rfl, _⟩ := Ap.own_form h2
    have hl : (elsI xs).length = (els xs).length := by simp [elsI]
    have hz : zvs (elsI xs) = ivs (els xs) := by unfold zvs elsI ivs; rw [List.map_map]; rfl
    exact ⟨A', c', by rw [hl]; exact h1, by rw [hl, hz]; exact h2, h3⟩
section
variable {w0 : World} {B Pb C Ms0 S1 Sm gB : Nat} {nxA : Option Addr} {nxc : Nat} {T : List (List Int)} {vB : Nat → Value} {cl : List Int} {ms : List (List Int)} {mv : List Int} {msv mvv : Value} {vs : List Value} {w w' : World}
/-- The moved are forgotten. -/
theorem PAt.reset (h : PAt w0 B Pb C Ms0 S1 Sm gB nxA nxc T vB cl ms mv msv mvv vs w) {Sm' : Nat} (hS : Sm ≤ Sm' ∧ Sm' ≤ w.heap.size) :
    PAt w0 B Pb C Ms0 S1 Sm' gB nxA nxc T vB cl ms [] msv (.slice none 0 0) vs (w.setCell ⟨Pb, 4, none⟩ (.slice none 0 0)) ∧ ∀ G, Stp Pb C G msv mvv w msv (.slice none 0 0) (w.setCell ⟨Pb, 4, none⟩ (.slice none 0 0)) := by
  obtain ⟨n1, n2, n3, n4, n5, n6, n7, n8, n9⟩ := h.ne
  have hput : ∀ b, b ≠ Pb → (w.setCell ⟨Pb, 4, none⟩ (.slice none 0 0)).heap[b]? = w.heap[b]? := fun b hb => Below.heap_setCell _ _ _ b hb
  have hsz : (w.setCell ⟨Pb, 4, none⟩ (.slice none 0 0)).heap.size = w.heap.size := by show (Array.modify _ _ _).size = _; rw [Array.size_modify]
  have hlo := h.lo
  have hrow : ∀ {e v n xs}, w.ownsRow B e 1 v n xs → e ≠ 91 → (w.setCell ⟨Pb, 4, none⟩ (.slice none 0 0)).ownsRow B e 1 v n xs := fun {e v n xs} hv he => row_put hv (own_ne h.pb hv he) _ _
  refine ⟨⟨by rw [heap_put h.pb]; rfl, (hput C n1.symm).trans h.cb, hrow h.mo (by decide), fun i v hv => ⟨hrow (h.mr i v hv).1 (by decide), fun g hg => ⟨Nat.lt_of_lt_of_le ((h.mr i v hv).2 g hg).1 hS.1, ((h.mr i v hv).2 g hg).2⟩⟩, ⟨rfl, .inl ⟨rfl, rfl⟩⟩, fun g hg => by simp [Value.ownBlock] at hg, (hput gB n2.symm).trans h.tg, fun k hk => ⟨hrow (h.tr k hk).1 (by decide), fun g hg => ⟨Nat.lt_of_lt_of_le ((h.tr k hk).2 g hg).1 hS.1, ((h.tr k hk).2 g hg).2⟩⟩, h.tl, h.sb, by rw [hsz]; exact ⟨hlo.1, hlo.2.1, by omega, by omega, hS.2⟩, h.b.setCell (p := ⟨Pb, 4, none⟩) hlo.1 _⟩, fun G => ⟨fun b _ hb _ _ _ _ => hput b hb, fun g hg => .inl hg, fun g hg => by simp [Value.ownBlock] at hg, by omega⟩⟩
end
end Go.Proofs.YtkgeihambgbjdaaDoor.Mi
/- round (package minimal): the parts of the classes that are touched, in memory. -/
namespace Go.Proofs.YtkgeihambgbjdaaDoor.Mi
open Go Go.RowKit Go.Maps Go.Proofs.YtkgeihambgbjdaaDoor Go.Proofs.YtkgeihambgbjdaaDoor.Cb Go.Proofs.YtkgeihambgbjdaaDoor.Sb
open Go.Proofs.YtkgeihambgbjdaaDoor.Nf (zvs zvs_snoc info_int6 ret_int ret_b drew_below)
open Go.Proofs.YtkgeihambgbjdaaDoor.Dg (Tabs tb tb_mem mem_tb info_tab)
set_option linter.unusedVariables false
set_option linter.unusedSimpArgs false
set_option maxRecDepth 100000
/-- Parts as pairs of a slice and its states. -/
structure PtQ (B C : Nat) (w : World) (pv : Value) (Q : List (Value × List Int)) (P : List (List Int)) : Prop where
  o : w.ownsRow B 33 1 pv Q.length (vls Q)
  r : ∀ q ∈ Q, w.ownsRow B 3 1 q.1 q.2.length (zvs q.2) ∧ ∀ g, q.1.ownBlock = some g → g ≠ C
  e : rws Q = P
theorem PtQ.below {B C : Nat} {w w' : World} {pv : Value} {Q : List (Value × List Int)} {P : List (List Int)} (h : PtQ B C w pv Q P) (hb : Below w.heap.size w w') : PtQ B C w' pv Q P := ⟨h.o.below hb, fun q hq => ⟨(h.r q hq).1.below hb, (h.r q hq).2⟩, h.e⟩
theorem PtQ.of {B C N : Nat} {w : World} {pv : Value} {vs : List Value} {P : List (List Int)} (h : PtO N w pv vs P) (hB : B ≤ N) (hC : C < N) : PtQ B C w pv (vs.zip P) P := by
  have hl : vs.length = P.length := by have := h.1.1; omega
  have hv : vls (vs.zip P) = vs := by
    unfold vls
    apply List.ext_getElem
    · simp [hl]
    · intro i h1 h2; simp
  have hp : rws (vs.zip P) = P := by
    unfold rws
    apply List.ext_getElem
    · simp [hl]
    · intro i h1 h2; simp
  have hlz : (vs.zip P).length = P.length := by simp [hl]
  refine ⟨by rw [hv, hlz]; exact ownsRow_mono h.1 hB, fun q hq => ?_, hp⟩
  obtain ⟨i, hi, e⟩ := List.mem_iff_getElem.1 hq
  have hiv : i < vs.length := by rw [hlz] at hi; omega
  have hip : i < P.length := by rw [hlz] at hi; exact hi
  rw [List.getElem_zip] at e
  have h1 := h.2 i vs[i] (List.getElem?_eq_getElem hiv)
  have h2 : tb P i = P[i] := by unfold tb; rw [List.getD_eq_getElem?_getD, List.getElem?_eq_getElem hip]; rfl
  rw [h2] at h1
  rw [← e]
  exact ⟨ownsRow_mono h1 hB, fun g hg => by have := (own_lt h1 hg).1; omega⟩
/-- The parts of the first i classes. -/
structure PtT (B C Gt m Sr : Nat) (tc : List Int) (Pf : Int → List (List Int)) (i : Nat) (pvs : Nat → Value) (Qs : Nat → List (Value × List Int)) (w : World) : Prop where
  o : w.heap[Gt]? = some (.cells (cells m (fun j => if j < i then pvs j else .slice none 0 0)) 22 (0, 0))
  g : ∀ j, j < i → PtQ B C w (pvs j) (Qs j) (Pf (nd tc j)) ∧ ∀ g, (pvs j).ownBlock = some g → Sr ≤ g
  d : ∀ j j', j < i → j' < i → j ≠ j' → ∀ g, (pvs j).ownBlock = some g → (pvs j').ownBlock ≠ some g
theorem PtT.next {B C Gt m Sr : Nat} {tc : List Int} {Pf : Int → List (List Int)} {i : Nat} {pvs : Nat → Value} {Qs : Nat → List (Value × List Int)} {w w' : World} (h : PtT B C Gt m Sr tc Pf i pvs Qs w) (hi : i < m) (hb : Below w.heap.size w w') {pv : Value} {vs : List Value} (hp : PtO w.heap.size w' pv vs (Pf (nd tc i))) (hB : B ≤ w.heap.size) (hC : C < w.heap.size) (hS : Sr ≤ w.heap.size) :
    w'.heap[Gt]? = some (.cells (cells m (fun j => if j < i then pvs j else .slice none 0 0)) 22 (0, 0)) ∧ PtT B C Gt m Sr tc Pf (i + 1) (fun j => if j = i then pv else pvs j) (fun j => if j = i then vs.zip (Pf (nd tc i)) else Qs j) (w'.setCell ⟨Gt, i, none⟩ pv) := by
  have hg := (hb.block _ (blk_lt h.o)).trans h.o
  have hq := PtQ.of (B := B) (C := C) hp hB hC
  have hk : ∀ {u pv Q P}, PtQ B C w' pv Q P → PtQ B C (w'.setCell ⟨Gt, i, none⟩ u) pv Q P := fun {u pv Q P} hh => ⟨row_put hh.o (own_ne hg hh.o (by decide)) _ _, fun q hq => ⟨row_put (hh.r q hq).1 (own_ne hg (hh.r q hq).1 (by decide)) _ _, (hh.r q hq).2⟩, hh.e⟩
  refine ⟨hg, ?_, fun j hj => ?_, fun j j' hj hj' hne g hgg => ?_⟩
  · rw [heap_put hg, cells_set _ hi]
    congr 2
    exact cells_congr fun k hk => by
      by_cases e : k = i
      · rw [if_pos e, if_pos (by omega), if_pos e]
      · rw [if_neg e]
        by_cases e2 : k < i
        · rw [if_pos e2, if_pos (by omega), if_neg e]
        · rw [if_neg e2, if_neg (by omega)]
  · by_cases e : j = i
    · subst e
      simp only [if_pos]
      exact ⟨hk hq, fun g hgg => Nat.le_trans hS (own_lt hp.1 hgg).1⟩
    · simp only [if_neg e]
      exact ⟨hk ((h.g j (by omega)).1.below hb), (h.g j (by omega)).2⟩
  · have hold : ∀ k, k < i → ∀ g, (pvs k).ownBlock = some g → g < w.heap.size := fun k hk g hgk => (own_lt (h.g k hk).1.o hgk).2
    by_cases e : j = i
    · have e' : ¬ j' = i := by omega
      simp only [if_pos e] at hgg
      simp only [if_neg e']
      intro h2
      have h3 := hold j' (by omega) g h2
      have h4 := (own_lt hp.1 hgg).1
      omega
    · simp only [if_neg e] at hgg
      by_cases e' : j' = i
      · simp only [if_pos e']
        intro h2
        have h3 := hold j (by omega) g hgg
        have h4 := (own_lt hp.1 h2).1
        omega
      · simp only [if_neg e']
        exact h.d j j' (by omega) (by omega) hne g hgg
theorem PtT.below {B C Gt m Sr : Nat} {tc : List Int} {Pf : Int → List (List Int)} {i : Nat} {pvs : Nat → Value} {Qs : Nat → List (Value × List Int)} {w w' : World} (h : PtT B C Gt m Sr tc Pf i pvs Qs w) (hb : Below w.heap.size w w') : PtT B C Gt m Sr tc Pf i pvs Qs w' :=
  ⟨(hb.block _ (blk_lt h.o)).trans h.o, fun j hj => ⟨(h.g j hj).1.below hb, (h.g j hj).2⟩, h.d⟩
/-- While the classes are split: the parts from number i on still lie. -/
structure L3 (w0 : World) (B Pb C Ms0 S1 Sm gB : Nat) (nxA : Option Addr) (nxc : Nat) (T : List (List Int)) (vB : Nat → Value) (cl0 : List Int) (ms0 : List (List Int)) (key : Int → List Int) (tc : List Int) (tv : Value) (Gt : Nat) (pvs : Nat → Value) (Qs : Nat → List (Value × List Int)) (i : Nat) (cl : List Int) (ms : List (List Int)) (mv : List Int) (msv mvv : Value) (vs : List Value) (w : World) : Prop where
  t : RowQ B C Sm w tv tc
  p : PAt w0 B Pb C Ms0 S1 Sm gB nxA nxc T vB cl ms mv msv mvv vs w
  m : Mid T.length cl0 ms0 key tc i cl ms mv
  o : w.heap[Gt]? = some (.cells (cells tc.length pvs) 22 (0, 0))
  g : ∀ j, i ≤ j → j < tc.length → w.ownsRow B 33 1 (pvs j) (Qs j).length (vls (Qs j)) ∧ (∀ q ∈ Qs j, RowQ B C Sm w q.1 q.2) ∧ rws (Qs j) = partsL key (tb ms0 (nd tc j).toNat) ∧ ∀ g, (pvs j).ownBlock = some g → msv.ownBlock ≠ some g ∧ g ≠ gB
  d : ∀ j j', j < tc.length → j' < tc.length → j ≠ j' → ∀ g, (pvs j).ownBlock = some g → (pvs j').ownBlock ≠ some g
theorem flat_perm_len {A B : List (List Int)} (h : A.Perm B) : A.flatten.length = B.flatten.length := h.flatten.length_eq
theorem flat_take_le : ∀ (A : List (List Int)) (i : Nat), (A.take i).flatten.length ≤ A.flatten.length
  | [], i => by simp
  | a :: A, 0 => by simp
  | a :: A, i + 1 => by
    rw [List.take_succ_cons, List.flatten_cons, List.flatten_cons, List.length_append, List.length_append]
    have := flat_take_le A i
    omega
theorem parts_flat (key : Int → List Int) {l : List Int} (h : l.Nodup) : (partsL key l).flatten.length ≤ l.length :=
  List.Nodup.length_le_of_subset (nodup_flat (key := key) h (nodup_rowF (l := l.map key) List.nodup_nil)) fun z hz => (mem_flat.1 hz).1
theorem L3.next {w0 : World} {B Pb C Ms0 S1 Sm gB : Nat} {nxA : Option Addr} {nxc : Nat} {T : List (List Int)} {vB : Nat → Value} {cl0 : List Int} {ms0 : List (List Int)} {key : Int → List Int} {tc : List Int} {tv : Value} {Gt : Nat} {pvs : Nat → Value} {Qs : Nat → List (Value × List Int)} {i : Nat} {cl : List Int} {ms : List (List Int)} {mv : List Int} {msv mvv : Value} {vs : List Value} {w : World}
    (h : L3 w0 B Pb C Ms0 S1 Sm gB nxA nxc T vB cl0 ms0 key tc tv Gt pvs Qs i cl ms mv msv mvv vs w) (h0 : Part T.length cl0 ms0) (hd : tc.Nodup) (hi : i < tc.length) {c : Nat} (hc : nd tc i = (c : Int)) (hcM : c < ms0.length) {G cG : Nat} (hG : pvs i = .slice (some ⟨G, 0, none⟩) (Qs i).length cG)
    {q0 : Value × List Int} {Q' : List (Value × List Int)} (hp : (q0 :: Q').Perm (Qs i)) {msv' mvv' : Value} {vs' : List Value} {w' : World}
    (hP : PAt w0 B Pb C Ms0 S1 Sm gB nxA nxc T vB (splitC cl ms.length (rws Q')) (ms.set c q0.2 ++ rws Q') (mv ++ (rws Q').flatten) msv' mvv' vs' w') (hS : Stp Pb C G msv mvv w msv' mvv' w') :
    L3 w0 B Pb C Ms0 S1 Sm gB nxA nxc T vB cl0 ms0 key tc tv Gt pvs Qs (i + 1) (splitC cl ms.length (rws Q')) (ms.set c q0.2 ++ rws Q') (mv ++ (rws Q').flatten) msv' mvv' vs' w' := by
  obtain ⟨g1, g2, g3, g4⟩ := h.g i (Nat.le_refl _) hi
  rw [hG] at g1 g4
  have eG : (Value.slice (some ⟨G, 0, none⟩) (Qs i).length cG).ownBlock = some G := rfl
  have hrowq : ∀ {v l}, RowQ B C Sm w v l → RowQ B C Sm w' v l := fun {v l} hr => ⟨hS.row hr.1 fun g hg => by
    obtain ⟨b1, b2, b3, b4⟩ := h.p.apart hr.1 hr.2 g hg
    refine ⟨b1, b2, fun e => ?_, b3, b4⟩
    rcases row_ne hr.1 g1 (by decide) with h1 | h1
    · rw [h1] at hg; cases hg
    · exact h1 (by rw [hg, e]; rfl), hr.2⟩
  refine ⟨hrowq h.t, hP, ?_, ?_, fun j hj hjt => ?_, h.d⟩
  · have hperm : (rws (q0 :: Q')).Perm ((rowF [] ((tb ms0 c).map key)).map (grp key (tb ms0 c))) := by
      have e : rws (Qs i) = partsL key (tb ms0 c) := by rw [g3, hc, Int.toNat_natCast]
      have := (hp.map fun q => q.2)
      unfold rws at e ⊢
      rw [e] at this
      exact this
    obtain ⟨KS, hk1, hk2⟩ := perm_map_inv (grp key (tb ms0 c)) hperm rfl
    cases KS with
    | nil => cases hk2
    | cons K0 Ks =>
      have e1 : q0.2 = grp key (tb ms0 c) K0 := by
        have := congrArg List.head? hk2
        simpa [rws] using this
      have e2 : rws Q' = Ks.map (grp key (tb ms0 c)) := by
        have := congrArg List.tail hk2
        simpa [rws] using this
      rw [e1, e2]
      exact h.m.step h0 hd hi (by rw [← nd_eq hi]; exact hc) hcM hk1
  · refine (hS.k Gt (blk_lt h.o) (fun e => ?_) (fun e => ?_) (fun e => ?_) (own_ne h.o h.p.mo (by decide)) (own_ne h.o h.p.vo (by decide))).trans h.o
    · have := h.o; rw [e, h.p.pb] at this; simp at this
    · have := h.o; rw [e, h.p.cb] at this; simp at this
    · exact own_ne h.o g1 (by decide) (by rw [e]; rfl)
  · obtain ⟨a1, a2, a3, a4⟩ := h.g j (by omega) hjt
    have hne : ∀ g, (pvs j).ownBlock = some g → g ≠ Pb ∧ g ≠ C ∧ g ≠ G ∧ msv.ownBlock ≠ some g ∧ mvv.ownBlock ≠ some g := fun g hg => by
      refine ⟨fun e => own_ne h.p.pb a1 (by decide) (e ▸ hg), fun e => own_ne h.p.cb a1 (by decide) (e ▸ hg), fun e => ?_, (a4 g hg).1, fun e => ?_⟩
      · refine h.d j i hjt hi (by omega) g hg ?_
        rw [hG, e]; rfl
      · rcases row_ne a1 h.p.vo (by decide) with h1 | h1
        · rw [h1] at hg; cases hg
        · exact h1 (hg.trans e.symm)
    refine ⟨hS.row a1 hne, fun q hq => hrowq (a2 q hq), a3, fun g hg => ⟨fun e => ?_, (a4 g hg).2⟩⟩
    · rcases hS.m g e with h1 | h1
      · exact (a4 g hg).1 h1
      · have := (own_lt a1 hg).2
        omega
end Go.Proofs.YtkgeihambgbjdaaDoor.Mi
/- round (package minimal): one round of refinement. -/
namespace Go.Proofs.YtkgeihambgbjdaaDoor.Mi
open Go Go.RowKit Go.Maps Go.Proofs.YtkgeihambgbjdaaDoor Go.Proofs.YtkgeihambgbjdaaDoor.Cb Go.Proofs.YtkgeihambgbjdaaDoor.Sb
open Go.Proofs.YtkgeihambgbjdaaDoor.Nf (zvs zvs_snoc info_int6 ret_int ret_b drew_below hnext)
open Go.Proofs.YtkgeihambgbjdaaDoor.Dg (Tabs tb tb_mem mem_tb info_tab)
set_option linter.unusedVariables false
set_option linter.unusedSimpArgs false
set_option maxRecDepth 100000
theorem info_tab3 : (Tryd.prog.info? 22).map (fun i => (i.zero, i.size, i.bytes)) = some (some (.slice none 0 0), 1, 24) := by kernel_rfl
theorem made_tab3 (K : Nat) (hK : K ≤ 100000) (W : World) : (Instr.makeSlice 109 (.int .i64 (K : Int)) (.int .i64 (K : Int))).run Tryd.prog W = .ok (.slice (some ⟨W.heap.size, 0, none⟩) K K) (W.alloc (.cells (cells K fun _ => .slice none 0 0) 22)) := by
  obtain ⟨i0, hi, hz0, hz1, hz2⟩ := info_parts info_tab3
  have := run_makeSlice (P := Tryd.prog) W 109 22 i0 _ Tryd.underlying109 hi hz0 .i64 .i64 (K : Int) (K : Int) (by omega) (Int.le_refl _) (by rw [hz1]; omega) (by rw [hz2]; omega) (by omega)
  rw [this, hz1, Int.toNat_natCast, Nat.mul_one, ← made_cells]
  rfl
/-- What a round leaves. -/
def RoundPost (w0 : World) (B Pb C Ms0 S1 gB : Nat) (nxA : Option Addr) (nxc : Nat) (T : List (List Int)) (L : Nat) (f : Nat → Bool) (j : Nat) (vB : Nat → Value) (e : Ending) (w' : World) : Prop :=
  e = .returned (.tuple #[]) ∧ ∃ Sm cl ms mv msv mvv vs, PAt w0 B Pb C Ms0 S1 Sm gB nxA nxc T vB cl ms mv msv mvv vs w' ∧ Inv T.length L (dlt T) f j cl ms mv
set_option maxHeartbeats 16000000 in
theorem round_any {w0 : World} {B Pb C Ms0 S1 Sm gB : Nat} {nxA : Option Addr} {nxc : Nat} {T : List (List Int)} {vB : Nat → Value} {cl : List Int} {ms : List (List Int)} {mv : List Int} {msv mvv : Value} {vs : List Value} {w : World} {L : Nat} {f : Nat → Bool} {j : Nat}
    (h : PAt w0 B Pb C Ms0 S1 Sm gB nxA nxc T vB cl ms mv msv mvv vs w) (hT : TOk T L) (hTab : ∀ X, Below B w0 X → Tab X) (hnx : ∀ X, Below B w0 X → Tabs X nxA T) (hI : Inv T.length L (dlt T) f j cl ms mv) (hsm : ∀ (G m cG : Nat) (X : World) (vs0 : List Value), 20 < m → m ≤ T.length → SymOk B G m cG X vs0) :
    Calls Tryd.prog 62 #[.pointer (some ⟨Pb, 0, none⟩)] w (RoundPost w0 B Pb C Ms0 S1 gB nxA nxc T L f (j + 1) vB) := by
  have hmvl : mv.length ≤ T.length := nodup_range hI.mvn hI.mvr
  have hn := hT.n
  have hms := classes_le hI.p hI.ne
  have hcl := hI.p.len
  have HP := Lib.hid fun X (hX : Below w.heap.size w X) => h.below hX
  have HTn := Lib.hid fun k (hk : k < mv.length) => show ∃ s : Nat, nd mv k = (s : Int) ∧ s < T.length by
    have := hI.mvr (nd mv k) (by rw [nd_eq hk]; exact List.getElem_mem hk)
    exact ⟨(nd mv k).toNat, by omega, by omega⟩
  have HTab := Lib.hid hTab
  have HNx := Lib.hid hnx
  have HI := Lib.hid hI
  have HT := Lib.hid hT
  have HSM := Lib.hid hsm
  have HCL := Lib.hid hcl
  obtain ⟨z0, z1, z2, z3, z4, zP, _⟩ := h.cells
  obtain ⟨Av, cv, hve, _⟩ := Ap.own_form h.vo
  have HVE := Lib.hid hve
  rw [hve] at z4
  have hmvi : Hid (∀ X, Below w.heap.size w X → Ints X Av mv) := fun X hX => by
    have := (h.below hX).vo
    rw [hve] at this
    exact Dg.ints_row this rfl
  have HCat := Lib.hid fun i (hi : i < mv.length) => catL_step (T := T) hi
  have HCl := Lib.hid fun i => catL_len hT mv i
  have HPf := Lib.hid fun k => preF_le hT k
  have hbig := h.big
  clear h hTab hnx hI hsm hve hcl hT
  obtain ⟨i1, hi1, hy0, hy1, hy2⟩ := info_parts info_int6
  go_enter Tryd.func62, Tryd.ntmps62
  go_wp2
  go_loopw [2, 17] (fun lv iv wr => ∃ (i : Nat) (v : Value), v = lv ∧ i ≤ mv.length ∧ iv = .int .i64 i ∧ Hid (wr.ownsRow w.heap.size 3 1 v (catL T mv i).length (zvs (catL T mv i))) ∧ Hid (Below w.heap.size w wr)) (fun _ iv _ => mv.length - (intOf iv).toNat)
  case atStart => exact ⟨0, _, rfl, by omega, rfl, ⟨by simp [catL, zvs], .inl ⟨rfl, by simp [catL]⟩⟩, Below.refl _ _⟩
  case round =>
    clear z0 z1 z2 z3 z4 zP
    obtain ⟨i, v, rfl, hi, rfl, HO, HB⟩ := hrel
    have hPr := HP.out _ HB.out
    obtain ⟨z0, z1, z2, z3, z4, zP, _⟩ := hPr.cells
    by_cases hlt : i < mv.length
    · obtain ⟨ad, hAv, hcell⟩ := (hmvi.out _ HB.out).at_ hlt
      subst hAv
      obtain ⟨s, hs, hsT⟩ := HTn.out i hlt
      rw [hs] at hcell
      obtain ⟨t1, t2⟩ := hPr.tr s hsT
      obtain ⟨Ab, cb, hbe, _⟩ := Ap.own_form t1
      have zt := cell_of hPr.tg hsT
      rw [hbe] at zt t1
      have hpi := ints_from (Dg.ints_row t1 rfl)
      have hpl0 := hpi.1
      have hpl1 := hpi.2
      have hstep := HCat.out i hlt
      rw [hs, Int.toNat_natCast] at hstep
      have hcl1 := HCl.out i
      have hpf := HPf.out s
      have hbnd : i * 262144 ≤ 4095 * 262144 := Nat.mul_le_mul_right _ (by omega)
      have HN : Hid (∀ (X : World) A' c', X.ownsRow w.heap.size 3 1 (.slice A' ((catL T mv i).length + (preF T T.length s).length) c') ((catL T mv i).length + (preF T T.length s).length) (zvs (catL T mv i) ++ zvs (preF T T.length s)) → X.ownsRow w.heap.size 3 1 (.slice A' ((catL T mv i).length + (preF T T.length s).length) c') (catL T mv (i + 1)).length (zvs (catL T mv (i + 1)))) := fun X A' c' hX => by
        rw [hstep, List.length_append]
        have : zvs (catL T mv i ++ preF T T.length s) = zvs (catL T mv i) ++ zvs (preF T T.length s) := by unfold zvs; rw [List.map_append]
        rw [this]
        exact hX
      have hsT2 : (s : Int) < (T.length : Int) := by omega
      have hbs := HB.out.size
      clear hPr hs t1 t2 hpi hstep hbe
      generalize (catL T mv i).length = tn at *
      generalize zvs (catL T mv i) = TT at *
      go_wp2_with (at_builtin; refine wpList_append_at rfl _ _ 33 rfl w.heap.size 3 i1 (.int .i64 0) 1 8 Tryd.underlying33 hi1 hy0 hy1 hy2 rfl (by decide) _ _ _ rfl HO.out Ab (preF T T.length s).length cb (zvs (preF T T.length s)) rfl (by simp [zvs]) hpl0 hpl1 (by intro u hu; obtain ⟨x, _, rfl⟩ := List.mem_map.1 hu; rfl) (by unfold maxLen; omega) (by omega) (by omega) ?_; intro A3 c3 w7 hown7 hgrow7 hob7; have HO7 := Lib.hid (HN.out _ _ _ hown7); have HB7 := Lib.hid (HB.out.grown hgrow7 (by omega) (fun q hq => (HO.out.lt q hq).1)); clear hown7 hgrow7 hob7)
      go_roundw
      case rel => exact ⟨i + 1, _, rfl, by omega, by go_num, HO7, HB7⟩
      case measure => simp [intOf]; omega
    · obtain rfl : i = mv.length := by omega
      obtain ⟨Al, cl1, rfl, _⟩ := Ap.own_form HO.out
      have hcm := HCl.out mv.length
      have hbnd : mv.length * 262144 ≤ 4095 * 262144 := Nat.mul_le_mul_right _ (by omega)
      have hOf := Lib.hid (Of_own Al (catL T mv mv.length) cl1 wr (Dg.ints_row HO.out rfl) (by unfold maxLen; omega))
      have HB0 := HB
      clear HO hPr z0 z1 z2 z3 z4 zP hcm
      go_wp2_with (go_at_call 77; ((with_reducible refine hOf.out.mono ?_); rintro e w2 ⟨As, cs, rfl, hos, hb2⟩))
      clear hOf
      have HB2 := Lib.hid (HB0.out.trans (hb2.mono HB0.out.size))
      clear HB HB0 hb2
      have HXS : Hid (∀ X, Below w2.heap.size w2 X → Words X As (ofL (catL T mv mv.length)) ∧ U64 (ofL (catL T mv mv.length)) ∧ (ofL (catL T mv mv.length)).length ≤ cs) := fun X hX => ⟨hos.words.below hX, hos.2.1, hos.2.2⟩
      clear hos
      have hTch : Hid (elsI (ofL (eachL cl (elsI (ofL (catL T mv mv.length))))) = touch T cl mv) := rfl
      obtain ⟨xs, hxs⟩ : ∃ xs, xs = ofL (catL T mv mv.length) := ⟨_, rfl⟩
      have HXE := Lib.hid hxs
      rw [← hxs] at HXS hTch ⊢
      clear hxs
      refine wp_region_any (by kernel_rfl) ?_
      change wpAny _ _ _ _ _ _ _ (World.drew _)
      have hB3 := HB2.out.trans ((drew_below w2).mono HB2.out.size)
      have hX3 := HXS.out _ (drew_below w2)
      have HXS3 : Hid (∀ X, Below w2.drew.heap.size w2.drew X → Words X As xs) := fun X hX => (HXS.out X (stepB (drew_below w2) hX)).1
      clear HB2 HXS
      generalize w2.drew = X0 at *
      have hS0 : (fun X : World => X.cell? ⟨Pb, 2, none⟩ = some (.slice (some ⟨C, 0, none⟩) cl.length cl.length)) X0 := (HP.out _ hB3).cells.2.2.1
      have HSB := Lib.hid fun (X : World) (hX : Below w.heap.size w X) => (HP.out _ hX).cells.2.2.1
      have HTb := Lib.hid fun (X : World) (hX : Below w.heap.size w X) => HTab.out X (HP.out _ hX).b
      refine wpAny_head 9 9 (fun X : World => X.cell? ⟨Pb, 2, none⟩ = some (.slice (some ⟨C, 0, none⟩) cl.length cl.length)) rfl rfl (by kernel_rfl) (by kernel_rfl) (by kernel_rfl) (fun hA => ?_)
      refine wpHead_take (i := 0) (v := ?_) (by kernel_rfl) hA (at_drop rfl) (by decide) (by kernel_rfl) (by kernel_rfl) (by kernel_rfl) (fun _ _ _ h => h) (Or.inl ⟨by rfl, ?_⟩) hS0 (fun hA => ?_)
      rotate_left
      · (intro Y hSY; go_simp <;> with_reducible rfl)
      simp only [Act.put, List.setIfInBounds_toArray, List.set_cons_zero, List.set_cons_succ]
      refine wpHead_take (i := 1) (v := ?_) (by kernel_rfl) hA (at_drop rfl) (by decide) (by kernel_rfl) (by kernel_rfl) (by kernel_rfl) (fun _ _ _ h => h) (Or.inl ⟨by rfl, ?_⟩) hS0 (fun hA => ?_)
      rotate_left
      · (intro Y hSY; go_simp <;> with_reducible rfl)
      simp only [Act.put, List.setIfInBounds_toArray, List.set_cons_zero, List.set_cons_succ]
      refine wpHead_take (i := 2) (v := ?_) (by kernel_rfl) hA (at_drop rfl) (by decide) (by kernel_rfl) (by kernel_rfl) (by kernel_rfl) (fun _ _ _ h => h) (Or.inl ⟨by rfl, ?_⟩) hS0 (fun hA => ?_)
      rotate_left
      · (intro Y hSY; go_simp <;> with_reducible rfl)
      simp only [Act.put, List.setIfInBounds_toArray, List.set_cons_zero, List.set_cons_succ]
      refine wpHead_take (i := 3) (v := ?_) (by kernel_rfl) hA (at_drop rfl) (by decide) (by kernel_rfl) (by kernel_rfl) (by kernel_rfl) (fun _ _ _ h => h) (Or.inl ⟨by rfl, ?_⟩) hS0 (fun hA => ?_)
      rotate_left
      · (intro Y hSY; go_simp <;> with_reducible rfl)
      simp only [Act.put, List.setIfInBounds_toArray, List.set_cons_zero, List.set_cons_succ]
      refine wpHead_take (i := 4) (v := ?_) (by kernel_rfl) hA (at_drop rfl) (by decide) (by kernel_rfl) (by kernel_rfl) (by kernel_rfl) (fun _ _ _ h => h) (Or.inl ⟨by rfl, ?_⟩) hS0 (fun hA => ?_)
      rotate_left
      · (intro Y hSY; go_simp <;> with_reducible rfl)
      simp only [Act.put, List.setIfInBounds_toArray, List.set_cons_zero, List.set_cons_succ]
      have hA5 := hnext hA (rs := [5]) (i := 5) (by kernel_rfl) (by decide) (by decide)
      refine wpHead_ready (rs := [5]) (by kernel_rfl) (by decide) (AllHead.cons (at_drop rfl) (by decide) (fun KK hK => ?_) AllHead.nil)
      replace hA := hA5
      go_simp
      refine (ListI_any As xs cs X0 hX3.1 hX3.2.1 hX3.2.2 (HTb.out _ hB3)).mono ?_
      rintro e X1 ⟨A1, c1, rfl, hi1', hb1⟩
      have hB4 := hB3.trans (hb1.mono hB3.size)
      refine hK _ _ (HSB.out _ hB4) ?_
      clear hK KK
      try simp only [Act.put, List.setIfInBounds_toArray, List.set_cons_zero, List.set_cons_succ]
      have hA6 := hnext hA (rs := [6]) (i := 6) (by kernel_rfl) (by decide) (by decide)
      refine wpHead_ready (rs := [6]) (by kernel_rfl) (by decide) (AllHead.cons (at_drop rfl) (by decide) (fun KK hK => ?_) AllHead.nil)
      replace hA := hA6
      go_simp
      have hrg : ∀ z ∈ elsI xs, 0 ≤ z ∧ z < (cl.length : Int) := fun z hz => by
        rw [HXE.out] at hz
        obtain ⟨s, hs, rfl, _⟩ := (mem_cat HT.out HI.out.mvr).1 (mem_elsI.1 hz).2
        have := HCL.out
        omega
      have hln : (elsI xs).length ≤ 100000 := by
        have := nodup_range (elsI_nodup xs) (n := T.length) (fun z hz => by have := hrg z hz; have := HCL.out; omega)
        omega
      refine (each_any (some ⟨C, 0, none⟩) A1 cl (elsI xs) cl.length c1 X1 (ints_blk (HP.out _ hB4).cb) (Dg.ints_row hi1' rfl) hrg hln).mono ?_
      rintro e X2 ⟨rfl, hc2, hb2⟩
      have hB5 := hB4.trans (hb2.mono hB4.size)
      have hel : (eachL cl (elsI xs)).length = (elsI xs).length := List.length_map _
      have hi2' := ints_blk hc2
      refine hK _ _ (HSB.out _ hB5) ?_
      clear hK KK hrg hi1' hc2
      try simp only [Act.put, List.setIfInBounds_toArray, List.set_cons_zero, List.set_cons_succ]
      have hA7 := hnext hA (rs := [7]) (i := 7) (by kernel_rfl) (by decide) (by decide)
      refine wpHead_ready (rs := [7]) (by kernel_rfl) (by decide) (AllHead.cons (at_drop rfl) (by decide) (fun KK hK => ?_) AllHead.nil)
      replace hA := hA7
      go_simp
      rw [← hel]
      refine (Of_own (some ⟨X1.heap.size, 0, none⟩) (eachL cl (elsI xs)) _ X2 hi2' (by rw [hel]; unfold maxLen; omega)).mono ?_
      rintro e X3 ⟨A3, c3, rfl, ho3, hb3⟩
      have hB6 := hB5.trans (hb3.mono hB5.size)
      refine hK _ _ (HSB.out _ hB6) ?_
      clear hK KK hi2'
      try simp only [Act.put, List.setIfInBounds_toArray, List.set_cons_zero, List.set_cons_succ]
      have hA8 := hnext hA (rs := [8]) (i := 8) (by kernel_rfl) (by decide) (by decide)
      refine wpHead_ready (rs := [8]) (by kernel_rfl) (by decide) (AllHead.cons (at_drop rfl) (by decide) (fun KK hK => ?_) AllHead.nil)
      replace hA := hA8
      go_simp
      refine (ListI_any A3 (ofL (eachL cl (elsI xs))) c3 X3 ho3.words ho3.2.1 ho3.2.2 (HTb.out _ hB6)).mono ?_
      rw [hTch.out]
      rintro e X4 ⟨At, ct, rfl, hti, hb4⟩
      have hB7 := hB6.trans (hb4.mono hB6.size)
      have hX7 := HXS3.out X4 (stepB (stepB (stepB hb1 hb2) hb3) hb4)
      refine hK _ _ (HSB.out _ hB7) ?_
      clear hK KK ho3
      try simp only [Act.put, List.setIfInBounds_toArray, List.set_cons_zero, List.set_cons_succ]
      refine wpHead_end (by kernel_rfl) ?_
      simp only [List.drop_succ_cons, List.drop_zero]
      have hP7 := HP.out _ hB7
      have hMs : ms.length ≤ 4096 := by omega
      have HTo := Lib.hid fun z hz => touch_ok HT.out HI.out.p HI.out.mvr hMs z hz
      have HTd : Hid ((touch T cl mv).Nodup) := elsI_nodup _
      have HTc := Lib.hid (htouch HT.out HI.out.p HI.out.mvr hMs)
      have HKf : Hid (∀ s t, s < T.length → t < T.length → (keyF cl T xs s = keyF cl T xs t ↔ (Aff T L mv s ↔ Aff T L mv t) ∧ (Aff T L mv s → ∀ x, x < L → nd cl (dlt T s x) = nd cl (dlt T t x)))) := by rw [HXE.out]; exact hkeyF HT.out HI.out.p HI.out.mvr
      have HKo := Lib.hid fun z hz => key_ok HT.out HI.out.p hMs (by omega : ms.length ≤ 65536) xs (z := z) hz
      have htl : (touch T cl mv).length ≤ 100000 := by
        have := nodup_range HTd.out (n := ms.length) (fun z hz => by obtain ⟨c, rfl, hc, _⟩ := HTo.out z hz; omega)
        omega
      have hB6s := hB6.size
      clear hb1 hb2 hb3 hb4 hel hB3 hB4 hB5 hB6 hS0 hX3 HXS3
      have hm3 := made_tab3 (touch T cl mv).length htl X4
      generalize touch T cl mv = tc at *
      go_wp2
      have hb8 := Lib.hid (bal (Below.refl X4.heap.size X4) (.cells (cells tc.length fun _ => .slice none 0 0) 22))
      have hPT : Hid (PtT B C X4.heap.size tc.length X4.heap.size tc (fun c => partsL (keyF cl T xs) (tb ms c.toNat)) 0 (fun _ => .slice none 0 0) (fun _ => []) (X4.alloc (.cells (cells tc.length fun _ => .slice none 0 0) 22))) := by
        refine ⟨?_, fun j hj => absurd hj (by omega), fun j j' hj => absurd hj (by omega)⟩
        rw [cells_congr (g := fun _ => .slice none 0 0) fun i hi => if_neg (by omega)]
        exact World.alloc_heap_new _ _
      have hs4 := hB7.size
      have HX4 : Hid (∀ X, Below X4.heap.size X4 X → Words X As xs ∧ Ints X At tc ∧ Below w.heap.size w X) := fun X hX => ⟨hX7.below hX, (Dg.ints_row hti rfl).below hX, hB7.trans (hX.mono hs4)⟩
      have HTW : Hid (∀ X, Below X4.heap.size X4 X → X.ownsRow w.heap.size 3 1 (.slice At tc.length ct) tc.length (zvs tc)) := fun X hX => ownsRow_mono (hti.below hX) hB6s
      clear hti hX7 hm3
      generalize X4.alloc (.cells (cells tc.length fun _ => .slice none 0 0) 22) = W2 at *
      generalize hgt : X4.heap.size = Gt at *
      have HGt : Hid (w.heap.size ≤ Gt) := hs4
      clear hgt hs4 hB7 hP7
      go_loopw [47, 8, 9] (fun iv _ _ wr => ∃ (i : Nat) (pvs : Nat → Value) (Qs : Nat → List (Value × List Int)), i ≤ tc.length ∧ iv = .int .i64 i ∧ Hid (PtT B C Gt tc.length Gt tc (fun c => partsL (keyF cl T xs) (tb ms c.toNat)) i pvs Qs wr) ∧ Hid (Below Gt X4 wr)) (fun iv _ _ _ => tc.length - (intOf iv).toNat)
      case atStart => exact ⟨0, _, _, by omega, rfl, hPT, hb8⟩
      case round =>
        clear hPT hb8
        obtain ⟨i, pvs, Qs, hi, rfl, HPt, HBG⟩ := hrel
        obtain ⟨hWx, hTix, hBx⟩ := HX4.out _ HBG.out
        have HX := Lib.hid hWx
        have HTi := Lib.hid hTix
        have HB := Lib.hid hBx
        clear hWx hTix hBx
        by_cases hlt : i < tc.length
        · obtain ⟨ad, hAt, hcell⟩ := HTi.out.at_ hlt
          subst hAt
          obtain ⟨c, hc, hcM, sx, hsx, hsc⟩ := HTo.out (nd tc i) (by rw [nd_eq hlt]; exact List.getElem_mem hlt)
          rw [hc] at hcell
          have hPr := HP.out _ HB.out
          obtain ⟨Am, cm, hme, _⟩ := Ap.own_form hPr.mo
          obtain ⟨Mb, cM, hme2, _⟩ := Dg.own_somev hPr.mo (Nat.lt_of_le_of_lt (Nat.zero_le _) hcM)
          obtain ⟨u, hu⟩ : ∃ u, vs[c]? = some u := ⟨_, List.getElem?_eq_getElem (by rw [hPr.len]; exact hcM)⟩
          have hru := hPr.mr c u hu
          obtain ⟨Au, cu, rfl, _⟩ := Ap.own_form hru.1
          have hRd : RdW wr Pb nxA nxc T (some ⟨C, 0, none⟩) cl.length cl ⟨Mb, 0, none⟩ ms.length cM Au cu (tb ms c) c xs As := by
            obtain ⟨y0, y1, y2, y3, y4, yP, _⟩ := hPr.cells
            have hmo := hPr.mo
            rw [hme2] at y3 hmo
            refine ⟨yP, y0, y2, y3, ⟨(hmo.lt Mb rfl).2, hcM⟩, ?_, Dg.ints_row hru.1 rfl, ints_blk hPr.cb, HNx.out _ hPr.b, HX.out⟩
            rw [Ap.addr_add]
            rw [hmo.cellAt c (by omega), hu]
          have hPa := Lib.hid (parts_any Pb nxA nxc T (some ⟨C, 0, none⟩) cl.length cl ⟨Mb, 0, none⟩ ms.length cM Au cu (tb ms c) c xs As cs wr hRd (by rw [HXE.out]; exact (ofTo_ok _ _).1) (fun z hz => by have := (HI.out.p.mem c hcM z).1 hz; omega) (fun r hr => by have := HT.out.row r hr; have := HT.out.l6; have := HCL.out; exact ⟨by omega, fun y hy => by have := (HT.out.row r hr).2 y hy; omega⟩) (by have := HI.out.p.row_len hcM; omega) (keyF cl T xs) rfl (fun z hz => HKo.out z (by have := (HI.out.p.mem c hcM z).1 hz; omega)))
          have hin : (i : Int) < (tc.length : Int) := by omega
          have hGl := blk_lt HPt.out.o
          have hwb := HB.out.size
          have hCl : C < wr.heap.size := blk_lt hPr.cb
          have hNx := Lib.hid fun (w' : World) (hb : Below wr.heap.size wr w') pv vs' (hp : PtO wr.heap.size w' pv vs' (partsL (keyF cl T xs) (tb ms c))) => HPt.out.next hlt hb (pv := pv) (vs := vs') (by rw [hc, Int.toNat_natCast]; exact hp) (by omega) hCl (by omega)
          have hc0 := cell_of HPt.out.o hlt
          clear hRd hru hu hme hme2 hPr hc
          go_wp2_with (go_at_call 79; ((with_reducible refine hPa.out.mono ?_); rintro e w5 ⟨pv, vs5, rfl, hp5, hb5⟩); obtain ⟨A5, c5, rfl, _⟩ := Ap.own_form hp5.1; obtain ⟨o5, h5⟩ := hNx.out w5 hb5 _ vs5 hp5; have h5 := Lib.hid h5; have k5 := cell_of o5 hlt; have f5 := free_of o5 i; have l5 := blk_lt o5; have HB5 := Lib.hid ((HBG.out.trans (hb5.mono (by omega))).setCell (p := ⟨Gt, i, none⟩) (Nat.le_refl _) (.slice A5 (partsL (keyF cl T xs) (tb ms c)).length c5)); clear hp5)
          go_roundw
          case rel => exact ⟨i + 1, _, _, by omega, by go_num, h5, HB5⟩
          case measure => simp [intOf]; omega
        · obtain rfl : i = tc.length := by omega
          have hPr := HP.out _ HB.out
          obtain ⟨y0, y1, y2, y3, y4, yP, yf⟩ := hPr.cells
          have yf4 := yf 4
          rw [HVE.out] at y4
          obtain ⟨r1, r2⟩ := hPr.reset (Sm' := wr.heap.size) ⟨hPr.lo.2.2.2.2, Nat.le_refl _⟩
          have hCl : C < w.heap.size := by have := hPr.cb; have h1 := (HP.out _ (Below.refl _ _)).cb; exact blk_lt h1
          have hgBl : gB < w.heap.size := blk_lt (HP.out _ (Below.refl _ _)).tg
          have hL3 : L3 w0 B Pb C Ms0 S1 wr.heap.size gB nxA nxc T vB cl ms (keyF cl T xs) tc (.slice At tc.length ct) Gt pvs Qs 0 cl ms [] msv (.slice none 0 0) vs (wr.setCell ⟨Pb, 4, none⟩ (.slice none 0 0)) := by
            have hGP : Gt ≠ Pb := fun e => by have := HPt.out.o; rw [e, hPr.pb] at this; simp at this
            refine ⟨⟨row_put (ownsRow_mono (HTW.out _ HBG.out) (by omega)) (own_ne hPr.pb (HTW.out _ HBG.out) (by decide)) _ _, fun g hg => by have := own_lt (HTW.out _ HBG.out) hg; omega⟩, r1, Mid.start HI.out.p HI.out.ne, ?_, fun j _ hj => ?_, fun j j' hj hj' => HPt.out.d j j' hj hj'⟩
            · rw [Below.heap_setCell _ _ _ _ hGP, HPt.out.o]
              congr 2
              exact cells_congr fun k hk => if_pos hk
            · obtain ⟨g1, g2⟩ := HPt.out.g j hj
              have hk : ∀ {e v n xs}, wr.ownsRow B e 1 v n xs → e ≠ 91 → (wr.setCell ⟨Pb, 4, none⟩ (.slice none 0 0)).ownsRow B e 1 v n xs := fun {e v n xs} hv he => row_put hv (own_ne hPr.pb hv he) _ _
              refine ⟨hk g1.o (by decide), fun q hq => ⟨hk (g1.r q hq).1 (by decide), fun g hg => ⟨(own_lt (g1.r q hq).1 hg).2, (g1.r q hq).2 g hg⟩⟩, g1.e, fun g hg => ⟨fun e => ?_, ?_⟩⟩
              · have h1 := g2 g hg
                have h2 := (own_lt (HP.out _ (Below.refl _ _)).mo e).2
                have := HGt.out
                omega
              · have h1 := g2 g hg
                have := HGt.out
                omega
          have hL3 := Lib.hid hL3
          clear r1 r2 hPr yf HTi HX HPt HB HBG HX4 HTW
          generalize hsm' : wr.heap.size = Sm' at *
          go_wp2
          clear y0 y1 y2 y3 y4 yP yf4
          generalize wr.setCell ⟨Pb, 4, none⟩ (.slice none 0 0) = W5 at *
          go_loopw [65, 10, 11] (fun iv _ _ wq => ∃ (i : Nat) (cl1 : List Int) (ms1 : List (List Int)) (mv1 : List Int) (msv1 mvv1 : Value) (vs1 : List Value), i ≤ tc.length ∧ iv = .int .i64 i ∧ Hid (L3 w0 B Pb C Ms0 S1 Sm' gB nxA nxc T vB cl ms (keyF cl T xs) tc (.slice At tc.length ct) Gt pvs Qs i cl1 ms1 mv1 msv1 mvv1 vs1 wq)) (fun iv _ _ _ => tc.length - (intOf iv).toNat)
          case atStart => exact ⟨0, _, _, _, _, _, _, by omega, rfl, hL3⟩
          case round =>
            clear hL3
            obtain ⟨i, cl1, ms1, mv1, msv1, mvv1, vs1, hi2, rfl, HL⟩ := hrel
            by_cases hlt : i < tc.length
            · obtain ⟨ad, hAt, hcell⟩ := (Dg.ints_row HL.out.t.1 rfl).at_ hlt
              subst hAt
              obtain ⟨c, hc, hcM, sx, hsx, hsc⟩ := HTo.out (nd tc i) (by rw [nd_eq hlt]; exact List.getElem_mem hlt)
              rw [hc] at hcell
              have hHC := Lib.hid hc
              obtain ⟨g1, g2, g3, g4⟩ := HL.out.g i (Nat.le_refl _) hlt
              rw [hc, Int.toNat_natCast] at g3
              have hin : (i : Int) < (tc.length : Int) := by omega
              have zq := cell_of HL.out.o hlt
              have hcne : 0 < (Qs i).length := by
                rw [← rws_len, g3, parts_len]
                rw [hc] at hsc
                have hmem : (sx : Int) ∈ tb ms c := (HI.out.p.mem c hcM _).2 ⟨by omega, by omega, by rw [Int.toNat_natCast]; exact hsc⟩
                exact List.length_pos_iff.2 (List.ne_nil_of_mem (mem_keys.2 ⟨_, hmem, rfl⟩))
              obtain ⟨G, cG, hGe, _⟩ := Dg.own_somev g1 hcne
              have hGi : (pvs i).ownBlock = some G := by rw [hGe]; rfl
              have hn1 := HL.out.m.p.len
              have hflt : ∀ Q' : List (Value × List Int), Q'.Perm (Qs i) → ∀ k, ((rws Q').take k).flatten.length ≤ 100000 := fun Q' hp k => by
                have h1 := flat_take_le (rws Q') k
                have h2 := flat_perm_len (A := rws Q') (B := rws (Qs i)) (show (Q'.map fun q : Value × List Int => q.2).Perm ((Qs i).map fun q : Value × List Int => q.2) from hp.map _)
                have h3 := parts_flat (keyF cl T xs) (HI.out.p.nod c hcM)
                have h4 := HI.out.p.row_len hcM
                rw [g3] at h2
                omega
              have hzz : ∀ q ∈ Qs i, ∀ z ∈ q.2, 0 ≤ z ∧ z < (cl1.length : Int) := fun q hq z hz => by
                have h1 : q.2 ∈ partsL (keyF cl T xs) (tb ms c) := by rw [← g3]; exact List.mem_map.2 ⟨q, hq, rfl⟩
                obtain ⟨K, _, e⟩ := List.mem_map.1 h1
                rw [← e] at hz
                have := (HI.out.p.mem c hcM z).1 (List.mem_filter.1 hz).1
                omega
              have hSp := Lib.hid (split_any HL.out.p c (Nat.lt_of_lt_of_le hcM HL.out.m.le) G cG (Qs i) hcne (by rw [← hGe]; exact g1) g2 ⟨(g4 G hGi).1, (g4 G hGi).2⟩ hzz ⟨by omega, by have := classes_le HL.out.m.p HL.out.m.ne; omega, by have := nodup_range HL.out.m.mvn HL.out.m.mvr; omega, by
                have h1 := parts_le (keyF cl T xs) (tb ms c)
                have h2 := HI.out.p.row_len hcM
                rw [← rws_len, g3]
                omega, hflt⟩ (fun h20 => HSM.out G (Qs i).length cG wr (vls (Qs i)) h20 (by
                have h1 := parts_le (keyF cl T xs) (tb ms c)
                have h2 := HI.out.p.row_len hcM
                rw [← rws_len, g3]
                omega)))
              have hNx := Lib.hid fun q0 Q' hp msv' mvv' vs' w' hP hS => HL.out.next HI.out.p HTd.out hlt hHC.out hcM hGe (q0 := q0) (Q' := Q') hp (msv' := msv') (mvv' := mvv') (vs' := vs') (w' := w') hP hS
              rw [hGe] at zq
              clear hc hsc g1 g2 g3 g4 hGe hflt hzz hcne HL hn1
              go_wp2_with (go_at_call 76; ((with_reducible refine hSp.out.mono ?_); rintro e w6 ⟨rfl, q0, Q', msv', mvv', vs', hperm, hP, hS⟩); have hL6 := Lib.hid (hNx.out q0 Q' hperm msv' mvv' vs' w6 hP hS); clear hP hS)
              go_roundw
              case rel => exact ⟨i + 1, _, _, _, _, _, _, by omega, by go_num, hL6⟩
              case measure => simp [intOf]; omega
            · obtain rfl : i = tc.length := by omega
              go_wp2
              go_end0
              exact ⟨rfl, _, _, _, _, _, _, _, HL.out.p, HI.out.round HT.out.dl HKf.out HTc.out HL.out.m⟩
end Go.Proofs.YtkgeihambgbjdaaDoor.Mi
