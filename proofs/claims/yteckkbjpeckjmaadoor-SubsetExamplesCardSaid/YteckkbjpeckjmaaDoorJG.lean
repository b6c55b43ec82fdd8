/- setText (package subset): the text of a set; sets in canonical form have the same text only if they are equal. -/
import Derived.Test.YteckkbjpeckjmaaDoorJF
import Derived.Test.YteckkbjpeckjmaaDoorJS
import Derived.Laws.IdiomStrings
import Derived.Lib.ItoaLen
namespace Go.Proofs.YteckkbjpeckjmaaDoor.Sb
open Go Go.RowKit Go.Proofs.YteckkbjpeckjmaaDoor Go.Proofs.YteckkbjpeckjmaaDoor.Cb
open Go.Proofs.YteckkbjpeckjmaaDoor.Nf (zvs zvs_snoc info_int6 ret_int ret_b drew_below Bys Bys.below)
set_option linter.unusedVariables false
set_option linter.unusedSimpArgs false
set_option maxRecDepth 100000
theorem info_u8J : (Tryd.prog.info? 5).map (fun i => (i.zero, i.size, i.bytes)) = some (some (.int .u8 0), 1, 1) := by kernel_rfl
/-- The number that digits are. -/
def digVal (l : List UInt8) : Nat := l.foldl (fun a d => a * 10 + (d.toNat - 48)) 0
theorem digVal_snoc (l : List UInt8) (d : UInt8) : digVal (l ++ [d]) = digVal l * 10 + (d.toNat - 48) := by
  unfold digVal
  rw [List.foldl_append]
  rfl
theorem dec_step {u : Nat} (h : ¬ u < 10) : Lib.decDigits u = Lib.decDigits (u / 10) ++ [UInt8.ofNat (48 + u % 10)] := by
  conv => lhs; rw [Lib.decDigits]
  rw [dif_neg h]
theorem digVal_dec (u : Nat) : digVal (Lib.decDigits u) = u := by
  induction u using Nat.strongRecOn with
  | _ u ih =>
    by_cases h : u < 10
    · rw [Lib.decDigits_one h]
      show 0 * 10 + ((UInt8.ofNat (48 + u)).toNat - 48) = u
      rw [UInt8.toNat_ofNat_of_lt' (by show 48 + u < 256; omega)]
      omega
    · rw [dec_step h, digVal_snoc, ih (u / 10) (by omega), UInt8.toNat_ofNat_of_lt' (by show 48 + u % 10 < 256; omega)]
      omega
theorem dec_inj {u v : Nat} (h : Lib.decDigits u = Lib.decDigits v) : u = v := by rw [← digVal_dec u, h, digVal_dec v]
theorem dec_ge (u : Nat) : ∀ d ∈ Lib.decDigits u, 48 ≤ d.toNat := by
  induction u using Nat.strongRecOn with
  | _ u ih =>
    by_cases h : u < 10
    · rw [Lib.decDigits_one h]
      intro d hd
      rw [List.mem_singleton] at hd
      subst hd
      rw [UInt8.toNat_ofNat_of_lt' (by show 48 + u < 256; omega)]
      omega
    · rw [dec_step h]
      intro d hd
      rcases List.mem_append.1 hd with h1 | h1
      · exact ih _ (by omega) d h1
      · rw [List.mem_singleton] at h1
        subst h1
        rw [UInt8.toNat_ofNat_of_lt' (by show 48 + u % 10 < 256; omega)]
        omega
/-- The text of a set: its words. -/
def txtS (xs : List Nat) : List UInt8 := xs.flatMap fun w => Lib.decDigits w ++ [32]
theorem dec_cut {a b : List UInt8} (ha : ∀ d ∈ a, 48 ≤ d.toNat) (hb : ∀ d ∈ b, 48 ≤ d.toNat) {s t : List UInt8} (h : a ++ 32 :: s = b ++ 32 :: t) : a = b ∧ s = t := by
  induction a generalizing b with
  | nil =>
    cases b with
    | nil => simp at h; exact ⟨rfl, h⟩
    | cons y b =>
      simp at h
      have := hb y (by simp)
      rw [← h.1] at this
      exact absurd this (by decide)
  | cons x a ih =>
    cases b with
    | nil =>
      simp at h
      have := ha x (by simp)
      rw [h.1] at this
      exact absurd this (by decide)
    | cons y b =>
      simp at h
      obtain ⟨h1, h2⟩ := ih (fun d hd => ha d (by simp [hd])) (fun d hd => hb d (by simp [hd])) h.2
      exact ⟨by rw [h.1, h1], h2⟩
theorem txtS_inj : ∀ {xs ys : List Nat}, txtS xs = txtS ys → xs = ys
  | [], [], _ => rfl
  | [], y :: ys, h => by
    unfold txtS at h
    rw [List.flatMap_nil, List.flatMap_cons] at h
    simp at h
  | x :: xs, [], h => by
    unfold txtS at h
    rw [List.flatMap_nil, List.flatMap_cons] at h
    simp at h
  | x :: xs, y :: ys, h => by
    unfold txtS at h
    rw [List.flatMap_cons, List.flatMap_cons, List.append_assoc, List.append_assoc, List.singleton_append, List.singleton_append] at h
    obtain ⟨h1, h2⟩ := dec_cut (dec_ge x) (dec_ge y) h
    rw [dec_inj h1, txtS_inj h2]
theorem txtS_snoc {xs : List Nat} {k : Nat} (h : k < xs.length) : txtS (xs.take (k + 1)) = txtS (xs.take k) ++ (Lib.decDigits (wd xs k) ++ [32]) := by
  unfold txtS
  rw [List.take_add_one, List.getElem?_eq_getElem h, List.flatMap_append]
  unfold wd
  rw [List.getD_eq_getElem?_getD, List.getElem?_eq_getElem h]
  simp
theorem dec_len {u : Nat} (h : u < 18446744073709551616) : (Lib.decDigits u).length ≤ 20 := by
  rw [Lib.decDigits_length]
  by_cases h0 : u = 0
  · subst h0; rw [Lib.nDigits_small (by decide)]; decide
  · have := Lib.numDigits_eq u (by omega) h
    split at this <;> omega
theorem txtS_len {xs : List Nat} (ux : U64 xs) : (txtS xs).length ≤ xs.length * 21 := by
  unfold txtS
  induction xs with
  | nil => simp
  | cons a l ih =>
    rw [List.flatMap_cons, List.length_append, List.length_append]
    have h1 := ih fun x hx => ux x (by simp [hx])
    have h2 := dec_len (u := a) (ux a (by simp))
    show _ + 1 + _ ≤ (l.length + 1) * 21
    omega
/-- The two tables of the library that are read. -/
structure Tabs2 (w : World) : Prop where
  tz : Tab w
  pw : Lib.TabIs Tryd.prog w "internal/strconv.uint64pow10" .u64 Lib.pow10Tab
theorem Tabs2.below {w w' : World} (h : Tabs2 w) (hb : Below w.heap.size w w') : Tabs2 w' := ⟨h.tz.below hb, Lib.tabBelow_of_tabIs h.pw _ hb⟩
theorem AppendUint_any (B n u : Nat) (hu : u < 18446744073709551616) (sv : Value) (xs : List Value) (w : World) (hown : w.ownsRow B 5 1 sv n xs) (hBw : B ≤ w.heap.size) (hlim : n ≤ 100000) (hT : Tabs2 w) :
    Calls Tryd.prog 101 #[sv, .int .u64 u, .int .i64 10] w fun e w' => ∃ v', e = .returned v' ∧ w'.ownsRow B 5 1 v' (n + (Lib.decDigits u).length) (xs ++ Lib.byteCells (Lib.decDigits u)) ∧ Below B w w' := by
  have H : Hid (Calls Tryd.prog 116 #[sv, .int .u64 u, .int .i64 10] w fun e w' => ∃ v', e = .returned v' ∧ w'.ownsRow B 5 1 v' (n + (Lib.decDigits u).length) (xs ++ Lib.byteCells (Lib.decDigits u)) ∧ Below B w w') := by
    by_cases h : u < 100
    · exact (Tryd.internal_strconv_AppendUint_10_small B n u h sv xs w hown hBw (by omega)).mono fun e w' ⟨v', h1, h2, h3, _⟩ => ⟨v', h1, h2, h3⟩
    · exact (Tryd.internal_strconv_AppendUint_10_big B n u (by omega) hu sv xs w hown hBw (by omega) hT.pw).mono fun e w' ⟨v', h1, h2, h3, _⟩ => ⟨v', h1, h2, h3⟩
  clear hown hBw hlim hT hu
  generalize Lib.byteCells (Lib.decDigits u) = D at *
  generalize (Lib.decDigits u).length = m at *
  go_enter Tryd.func101, Tryd.ntmps101
  go_wp2_with (go_at_call 116; ((with_reducible refine H.out.mono ?_); rintro e w2 ⟨v2, rfl, ho2, hb2⟩))
  go_ret
  exact ⟨_, rfl, ho2, hb2⟩
set_option maxHeartbeats 2000000 in
theorem setText_any (P : Option Addr) (xs : List Nat) (c : Nat) (w : World) (hx : Words w P xs) (ux : U64 xs) (hl : xs.length ≤ 1000) (hT : Tabs2 w) :
    Calls Tryd.prog 66 #[.slice P xs.length c] w fun e w' => e = .returned (.string ⟨(txtS xs).toArray⟩) ∧ Below w.heap.size w w' := by
  obtain ⟨i0, hi0, hz0, hz1, hz2⟩ := info_parts info_u8J
  have HA := Lib.hid fun (X : World) (hX : Below w.heap.size w X) u hu n sv row (ho : X.ownsRow w.heap.size 5 1 sv n row) (hn : n ≤ 100000) => AppendUint_any w.heap.size n u hu sv row X ho hX.size hn (hT.below hX)
  have HC : Hid (∀ (X : World) v, X.ownsRow w.heap.size 5 1 v (txtS xs).length (Lib.byteCells (txtS xs)) → (convert 39 9 v).run Tryd.prog X = .ok (.string ⟨(txtS xs).toArray⟩) X) := fun X v ho => by
    rcases ho.2 with ⟨rfl, h0⟩ | ⟨g, cap, cur, rfl, _⟩
    · have h1 : txtS xs = [] := List.eq_nil_of_length_eq_zero h0
      rw [h1]
      rw [run_convert_bytes_string X 39 9 5 none 0 0 Tryd.underlying39 Tryd.underlying5 Tryd.underlying9]
      rfl
    · refine run_convert_bytes_back X 39 9 5 ⟨g, 0, none⟩ cap (txtS xs) Tryd.underlying39 Tryd.underlying5 Tryd.underlying9 fun j hj => ?_
      refine ho.cells rfl j _ ?_
      unfold Lib.byteCells
      rw [List.getElem?_map, List.getElem?_eq_getElem hj]
      rfl
  have HS := Lib.hid fun k (hk : k < xs.length) => txtS_snoc hk
  have HL := Lib.hid fun k => Nat.le_trans (txtS_len (xs := xs.take k) fun x hx' => ux x (List.mem_of_mem_take hx')) (Nat.mul_le_mul_right 21 (show (xs.take k).length ≤ 1000 by rw [List.length_take]; omega))
  have HU := Lib.hid fun k => U64.at_ ux k
  clear ux hT
  go_enter Tryd.func66, Tryd.ntmps66
  go_wp2
  go_loopw [3, 8] (fun bv iv wr => ∃ (k : Nat) (v : Value), v = bv ∧ k ≤ xs.length ∧ iv = .int .i64 k ∧ Hid (wr.ownsRow w.heap.size 5 1 v (txtS (xs.take k)).length (Lib.byteCells (txtS (xs.take k)))) ∧ Hid (Below w.heap.size w wr)) (fun _ iv _ => xs.length - (intOf iv).toNat)
  case atStart => exact ⟨0, _, rfl, Nat.zero_le _, rfl, ⟨rfl, .inl ⟨rfl, rfl⟩⟩, Below.refl _ _⟩
  case round =>
    obtain ⟨k, v, rfl, hk, rfl, HO, HB⟩ := hrel
    by_cases hlt : k < xs.length
    · obtain ⟨ad, rfl, hc⟩ := (hx.below HB.out).at_ hlt
      have hlen := HL.out k
      have HAk := HA.out wr HB.out (wd xs k) (by have := HU.out k; omega) _ _ _ HO.out (by omega)
      have HAk := Lib.hid HAk
      have hsn := HS.out k hlt
      have hcl : (Lib.byteCells (txtS (xs.take (k + 1)))) = Lib.byteCells (txtS (xs.take k)) ++ Lib.byteCells (Lib.decDigits (wd xs k)) ++ [.int .u8 32] := by rw [hsn]; simp [Lib.byteCells]
      have hll : (txtS (xs.take (k + 1))).length = (txtS (xs.take k)).length + (Lib.decDigits (wd xs k)).length + 1 := by rw [hsn]; simp; omega
      have hd20 := dec_len (u := wd xs k) (by have := HU.out k; omega)
      have HN : Hid (∀ (X : World) u, X.ownsRow w.heap.size 5 1 u ((txtS (xs.take k)).length + (Lib.decDigits (wd xs k)).length + 1) (Lib.byteCells (txtS (xs.take k)) ++ Lib.byteCells (Lib.decDigits (wd xs k)) ++ [.int .u8 32]) → X.ownsRow w.heap.size 5 1 u (txtS (xs.take (k + 1))).length (Lib.byteCells (txtS (xs.take (k + 1))))) := fun X u h => by rw [hcl, hll]; exact h
      clear hsn hcl hll
      generalize (Lib.decDigits (wd xs k)).length = dn at *
      generalize Lib.byteCells (Lib.decDigits (wd xs k)) = D at *
      generalize (txtS (xs.take k)).length = tn at *
      generalize Lib.byteCells (txtS (xs.take k)) = T at *
      generalize wd xs k = x at *
      have hbs := HB.out.size
      go_wp2_with (first
        | (go_at_call 101; ((with_reducible refine HAk.out.mono ?_); rintro e w2 ⟨v2, rfl, ho2, hb2⟩); have hs2 := hb2.size)
        | (at_builtin; refine wpList_append_own _ rfl _ _ 39 rfl w.heap.size 5 i0 (.int .u8 0) 1 1 Tryd.underlying39 hi0 hz0 hz1 hz2 rfl (by decide) _ _ _ rfl (ho2.alloc _) ⟨w2.heap.size, 0, none⟩ 1 1 [.int .u8 32] rfl rfl (cell_one_new _ _ _) (by simp [Value.oneCell']) (by unfold maxLen; omega) (by omega) (by simp; omega) ?_; intro v' w6 hown' hgrow _; have HO6 := Lib.hid (HN.out _ _ hown'); have HG6 := Lib.hid hgrow; clear hown' hgrow))
      go_roundw
      case rel =>
        refine ⟨k + 1, _, rfl, by omega, by go_num, HO6.out, ?_⟩
        show Below _ _ _
        have h3 : Below w.heap.size w w2 := HB.out.trans hb2
        exact (h3.alloc (by omega) _).grown HG6.out (by simp; omega) (fun q hq => (ho2.lt q hq).1)
      case measure => simp [intOf]; omega
    · obtain rfl : k = xs.length := by omega
      have ho := HO.out
      rw [List.take_length] at ho
      have hcv := HC.out wr v ho
      clear ho HO
      go_wp2
      go_ret
      exact ⟨rfl, HB.out⟩
end Go.Proofs.YteckkbjpeckjmaaDoor.Sb
