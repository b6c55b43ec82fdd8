/- The reference's Rounds and Classes. -/
import Derived.Test.YtkgeihambgbjdaaDoorSQ
namespace Go.Proofs.YtkgeihambgbjdaaDoor.Mi
open Go Go.RowKit Go.Proofs.YtkgeihambgbjdaaDoor Go.Proofs.YtkgeihambgbjdaaDoor.Cb Go.Proofs.YtkgeihambgbjdaaDoor.Sb
open Go.Proofs.YtkgeihambgbjdaaDoor.Nf (Bys zvs zvs_snoc bvs ret_int ret_b drew_below info_int6)
open Go.Proofs.YtkgeihambgbjdaaDoor.Dg (Tabs tb tb_mem)
set_option linter.unusedVariables false
set_option linter.unusedSimpArgs false
set_option linter.unusedSectionVars false
set_option maxRecDepth 100000
theorem least_false (f : Nat → Bool) (s : Nat) : f s = false → ∃ T, T ≤ s ∧ f T = false ∧ ∀ y, y < T → f y = true := by
  induction s using Nat.strongRecOn with
  | ind s ih =>
    intro h
    by_cases h2 : ∃ y, y < s ∧ f y = false
    · obtain ⟨y, hy, hf⟩ := h2
      obtain ⟨T, h3, h4, h5⟩ := ih y hy hf
      exact ⟨T, by omega, h4, h5⟩
    · refine ⟨s, Nat.le_refl _, h, fun y hy => ?_⟩
      cases e : f y with
      | true => rfl
      | false => exact absurd ⟨y, hy, e⟩ h2
theorem fst_mono {cl : List Int} {j k : Nat} (h : j ≤ k) : (fst cl j).length ≤ (fst cl k).length := by
  induction k with
  | zero => obtain rfl : j = 0 := by omega
            exact Nat.le_refl _
  | succ k ih =>
    by_cases e : j = k + 1
    · subst e; exact Nat.le_refl _
    · have := ih (by omega)
      by_cases h2 : nd cl k = ((fst cl k).length : Int)
      · rw [fst_yes h2, List.length_append]; omega
      · rw [fst_no h2]; exact this
section
variable {d : Da} (hO : OkD d)
include hO
theorem cls_old {k t s : Nat} (hts : t < s) (hs : s < d.nx.length) (h : nd (clsD d k) s = nd (clsD d k) t) : (fst (clsD d k) (s + 1)).length = (fst (clsD d k) s).length := by
  rcases fst_max hO (k := k) hs with ⟨_, _, h3⟩ | ⟨h1, _⟩
  · rw [h3]
  · exfalso
    have h4 : nd (clsD d k) t < ((fst (clsD d k) (t + 1)).length : Int) := by
      rcases fst_max hO (k := k) (show t < d.nx.length by omega) with ⟨_, h5, h6⟩ | ⟨h5, h6⟩
      · rw [h6]; exact h5
      · rw [h5, h6]; omega
    have h5 := fst_mono (cl := clsD d k) (show t + 1 ≤ s by omega)
    omega
theorem cls_new {k s : Nat} (hs : s < d.nx.length) (h : ∀ y, y < s → nd (clsD d k) s ≠ nd (clsD d k) y) : nd (clsD d k) s = ((fst (clsD d k) s).length : Int) ∧ (fst (clsD d k) (s + 1)).length = (fst (clsD d k) s).length + 1 := by
  rcases fst_max hO (k := k) hs with ⟨h1, h2, h3⟩ | h1
  · exfalso
    have h4 := fst_cls hO (k := k) s (by omega)
    have h5 : nd (clsD d k) s ∈ (List.range (fst (clsD d k) s).length).map fun i : Nat => (i : Int) := by
      rw [List.mem_map]
      exact ⟨(nd (clsD d k) s).toNat, by rw [List.mem_range]; omega, by omega⟩
    rw [← h4, List.mem_map] at h5
    obtain ⟨y, hy, e⟩ := h5
    exact h y (fst_mem hy) e.symm
  · exact h1
end
theorem te_same_refl {d : Da} (k s : Nat) : te (2 ^ d.V.toNat) (dlt d.nx) (fiB d) k s s = false := te_refl _ _ _ k s
section
variable (d : Da) (A B : Option Addr) (a b : Nat) (w : World)
theorem refRounds_bad (hx : DaAt w d A B) (hl : DaLen d) (k : Int) (h0 : chkD d ≠ 0) :
    Calls Tryd.prog 16 #[.agg #[.int .i64 d.V, .int .i64 d.q0, .slice A d.nx.length a, .slice B d.fi.length b], .int .i64 k] w fun e w' => e = .returned (.tuple #[.slice none 0 0, .int .i64 (chkD d)]) ∧ Below w.heap.size w w' := by
  have hb0 := bal (Below.refl w.heap.size w) (.cells #[.int .i64 d.V, .int .i64 d.q0, .slice A d.nx.length a, .slice B d.fi.length b] 25)
  have hB0 := Blk4.new w (.int .i64 d.V) (.int .i64 d.q0) (.slice A d.nx.length a) (.slice B d.fi.length b)
  obtain ⟨z0, z1, z2, z3⟩ := hB0.cells
  have HC := Lib.hid (refCheck7_any d A B a b (w.alloc (.cells #[.int .i64 d.V, .int .i64 d.q0, .slice A d.nx.length a, .slice B d.fi.length b] 25)) (hx.below hb0) hl)
  have hne : (chkD d != 0) = true := by rw [bne_iff_ne]; exact h0
  clear hx hl h0
  generalize chkD d = E at *
  generalize d.nx.length = nn at *
  generalize d.fi.length = nf at *
  go_enter Tryd.func16, Tryd.ntmps16
  go_wp2_with (go_at_call 11; ((with_reducible refine HC.out.mono ?_); rintro e w2 ⟨rfl, hb2⟩); replace hb0 := stepB hb0 hb2; clear z0 z1 z2 z3)
  go_ret2
  exact ⟨rfl, hb0⟩
set_option maxHeartbeats 32000000 in
theorem refRounds_good (hx : DaAt w d A B) (h0 : chkD d = 0) (hn : d.nx.length ≤ 1000) (k : Int) (hk1 : -9223372036854775808 ≤ k) (hk2 : k ≤ 9223372036854775807) (cl : List Int) (hcl : cl = clsD d (min k.toNat d.nx.length)) :
    Calls Tryd.prog 16 #[.agg #[.int .i64 d.V, .int .i64 d.q0, .slice A d.nx.length a, .slice B d.fi.length b], .int .i64 k] w fun e w' => ∃ A' c', e = .returned (.tuple #[.slice A' d.nx.length c', .int .i64 0]) ∧ Ints w' A' cl ∧ Below w.heap.size w w' := by
  have hO := okD_of h0
  have hb0 := bal (Below.refl w.heap.size w) (.cells #[.int .i64 d.V, .int .i64 d.q0, .slice A d.nx.length a, .slice B d.fi.length b] 25)
  have hB0 := Blk4.new w (.int .i64 d.V) (.int .i64 d.q0) (.slice A d.nx.length a) (.slice B d.fi.length b)
  have HC := refCheck7_any d A B a b (w.alloc (.cells #[.int .i64 d.V, .int .i64 d.q0, .slice A d.nx.length a, .slice B d.fi.length b] 25)) (hx.below hb0) hO.len
  rw [h0] at HC
  have HC := Lib.hid HC
  have HDf := Lib.hid fun X (hX : Below w.heap.size w X) => differ_any d A B a b X (hx.below hX) hO hn k hk1 hk2
  have HLe : Hid (∀ s, ∃ T, T ≤ s ∧ te (2 ^ d.V.toNat) (dlt d.nx) (fiB d) (min k.toNat d.nx.length) s T = false ∧ ∀ y, y < T → te (2 ^ d.V.toNat) (dlt d.nx) (fiB d) (min k.toNat d.nx.length) s y = true) := fun s => least_false (te (2 ^ d.V.toNat) (dlt d.nx) (fiB d) (min k.toNat d.nx.length) s) s (te_same_refl _ _)
  obtain ⟨Fl, HOld, HNew, HF0, HFl⟩ : ∃ Fl : Nat → Nat, Hid (∀ s t, t < s → s < d.nx.length → te (2 ^ d.V.toNat) (dlt d.nx) (fiB d) (min k.toNat d.nx.length) s t = false → nd cl s = nd cl t ∧ Fl (s + 1) = Fl s) ∧ Hid (∀ s, s < d.nx.length → (∀ y, y < s → te (2 ^ d.V.toNat) (dlt d.nx) (fiB d) (min k.toNat d.nx.length) s y = true) → nd cl s = (Fl s : Int) ∧ Fl (s + 1) = Fl s + 1) ∧ Hid (Fl 0 = 0) ∧ Hid (∀ j, Fl j ≤ j) := by
    subst hcl
    refine ⟨fun s => (fst (clsD d (min k.toNat d.nx.length)) s).length, fun s t hts hs h => ?_, fun s hs h => ?_, rfl, fst_len _⟩
    · have h1 := (clsD_te hO hs (show t < d.nx.length by omega)).2 h
      exact ⟨h1, cls_old hO hts hs h1⟩
    · refine cls_new hO hs fun y hy e => ?_
      have h1 := (clsD_te hO hs (show y < d.nx.length by omega)).1 e
      rw [h y hy] at h1; cases h1
  have hcn : cl.length = d.nx.length := by rw [hcl]; exact clsD_len hO _
  have HTk : Hid (∀ s, s < d.nx.length → cl.take (s + 1) = cl.take s ++ [nd cl s]) := fun s hs => by
    rw [nd_eq (show s < cl.length by omega), List.take_add_one, List.getElem?_eq_getElem (by omega)]; rfl
  have HNd : Hid (∀ s t, t < s → s < d.nx.length → nd (cl.take s) t = nd cl t) := fun s t hts hs => by
    unfold nd
    rw [List.getD_eq_getElem?_getD, List.getD_eq_getElem?_getD, List.getElem?_take_of_lt hts]
  have HTl : Hid (∀ s, s ≤ d.nx.length → (cl.take s).length = s) := fun s hs => by rw [List.length_take]; omega
  have HAll : Hid (cl.take d.nx.length = cl) := by show _ = _; rw [← hcn, List.take_length]
  generalize te (2 ^ d.V.toNat) (dlt d.nx) (fiB d) (min k.toNat d.nx.length) = g at *
  obtain ⟨i0, hi0, hz0, hz1, hz2⟩ := info_parts Nf.info_int6
  obtain ⟨z0, z1, z2, z3⟩ := hB0.cells
  clear hx hO h0 hcl hcn
  generalize d.nx.length = n at *
  generalize d.fi.length = nf at *
  go_enter Tryd.func16, Tryd.ntmps16
  go_wp2_with (first
    | (go_at_call 11; ((with_reducible refine HC.out.mono ?_); rintro e w2 ⟨rfl, hb2⟩); replace hB0 := hB0.below hb2; replace hb0 := stepB hb0 hb2; clear z0 z1 z2 z3; obtain ⟨z0, z1, z2, z3⟩ := hB0.cells)
    | (go_at_call 41; ((with_reducible refine (HDf.out _ hb0).mono ?_); rintro e w4 ⟨mb, f, rfl, hm, hf, hb4⟩); clear z0 z1 z2 z3;
        have HM : Hid (∀ X, Below w4.heap.size w4 X → ∀ i j, i < n → j < n → X.cell? ⟨mb, i, none⟩ = some (.slice (some ⟨mb + 1 + i, 0, none⟩) n n) ∧ X.cell? ⟨mb + 1 + i, j, none⟩ = some (.bool (g i j))) := (fun X hX i j hi hj => by have h := (hm.below hX).cell hi hj; rw [hf i j hi hj] at h; exact h);
        have HB := Lib.hid (stepB hb0 hb4); clear hm hf hb4 hb0 hB0 HDf HC))
  go_loopw [8, 9, 10, 11] (fun lv mv sv _ wr => ∃ (s : Nat) (v : Value), v = lv ∧ s ≤ n ∧ mv = .int .i64 (Fl s) ∧ sv = .int .i64 s ∧ Hid (wr.ownsRow w4.heap.size 3 1 v s (zvs (cl.take s))) ∧ Hid (Below w4.heap.size w4 wr)) (fun _ _ sv _ _ => n - (intOf sv).toNat)
  case atStart => exact ⟨0, _, rfl, by omega, by rw [HF0.out]; rfl, rfl, own_nil _ _ _, Below.refl _ _⟩
  case round =>
    obtain ⟨s, v, rfl, hs, rfl, rfl, HO, HBi⟩ := hrel
    by_cases hs2 : s = n
    · subst hs2
      have hd1 : decide ((s : Int) < (s : Int)) = false := decide_eq_false (by omega)
      have hd2 : decide (s < s) = false := decide_eq_false (by omega)
      have hTl := HTl.out s (Nat.le_refl _)
      rw [HAll.out] at hTl
      obtain ⟨A8, c8, rfl, _⟩ := Ap.own_form HO.out
      have hi8 : Hid (Ints wr A8 cl) := by
        have h := HO.out
        rw [HAll.out] at h
        exact Dg.ints_row (l := cl) (by rw [hTl]; exact h) rfl
      have hbb := Lib.hid (stepB HB.out HBi.out)
      clear hTl HO HBi HM
      go_wp2
      go_ret2
      exact ⟨A8, c8, rfl, hi8.out, hbb.out⟩
    · have hd1 : decide ((s : Int) < (n : Int)) = true := decide_eq_true (by omega)
      have hd2 : decide (s < n) = true := decide_eq_true (by omega)
      obtain ⟨T, hT, hgT, hgy⟩ := HLe.out s
      have HgT := Lib.hid hgT
      have Hgy := Lib.hid hgy
      clear hgT hgy
      go_wp2
      go_loopw [11] (fun tv wr => ∃ t : Nat, t ≤ T ∧ tv = .int .i64 t ∧ Hid (wr.ownsRow w4.heap.size 3 1 v s (zvs (cl.take s))) ∧ Hid (Below w4.heap.size w4 wr)) (fun tv _ => T - (intOf tv).toNat)
      case atStart => exact ⟨0, by omega, rfl, HO, HBi⟩
      case round =>
        clear HO HBi
        obtain ⟨t, ht, rfl, HO, HBi⟩ := hrel
        obtain ⟨m1, m2⟩ := HM.out wr HBi.out s t (by omega) (by omega)
        have hsn : (s : Int) < (n : Int) := by omega
        have htn : (t : Int) < (n : Int) := by omega
        have hszr := HBi.out.size
        by_cases htT : t = T
        · subst htT
          rw [HgT.out] at m2
          obtain ⟨A8, c8, rfl, _⟩ := Ap.own_form HO.out
          by_cases hts : t < s
          · have hd3 : decide ((t : Int) < (s : Int)) = true := decide_eq_true (by omega)
            have hd4 : decide (t < s) = true := decide_eq_true hts
            have hts2 : (t : Int) < (s : Int) := by omega
            have hTl := HTl.out s (by omega)
            have hi8 : Ints wr A8 (cl.take s) := by
              have h := HO.out
              exact Dg.ints_row (l := cl.take s) (by rw [hTl]; exact h) rfl
            obtain ⟨ld, rfl, hlc⟩ := Vals.at_ hi8 (show t < (cl.take s).length by omega)
            rw [HNd.out s t hts (by omega)] at hlc
            obtain ⟨e1, e2⟩ := HOld.out s t hts (by omega) HgT.out
            have HE2 := Lib.hid e2
            have htk := HTk.out s (by omega)
            rw [e1] at htk
            have HTK := Lib.hid htk
            clear e1 e2 htk hi8 hTl
            generalize nd cl t = z at *
            go_wp2_with (at_builtin; refine wpList_append_own_at _ rfl _ _ 33 rfl w4.heap.size 3 i0 (.int .i64 0) 1 8 Tryd.underlying33 hi0 hz0 hz1 hz2 rfl (by decide) _ s _ rfl (HO.out.alloc _) ⟨wr.heap.size, 0, none⟩ 1 1 [.int .i64 z] rfl rfl (cell_one_new _ _ _) (by simp [Value.oneCell']) (by unfold maxLen; omega) (by omega) (by simp; omega) ?_; intro v' w6 hown' hgrow _ hb6; have HO6 := Lib.hid hown'; have HB6 := Lib.hid ((HBi.out.alloc (by have := HBi.out.size; omega) (.cells #[.int .i64 z] 3)).grown hgrow (by simp; have := HBi.out.size; omega) (fun q hq => (own_lt HO.out hq).1)); clear hown' hgrow hb6)
            go_roundw
            case rel => exact ⟨s + 1, _, rfl, by omega, by rw [HE2.out], by go_num, by show World.ownsRow _ _ _ _ _ _ _; rw [HTK.out, zvs_snoc]; exact HO6.out, HB6⟩
            case measure => simp [intOf]; omega
          · obtain rfl : t = s := by omega
            have hd3 : decide ((t : Int) < (t : Int)) = false := decide_eq_false (by omega)
            have hd4 : decide (t < t) = false := decide_eq_false (by omega)
            obtain ⟨e1, e2⟩ := HNew.out t (by omega) Hgy.out
            have HE2 := Lib.hid e2
            have htk := HTk.out t (by omega)
            rw [e1] at htk
            have HTK := Lib.hid htk
            have hFl := HFl.out t
            clear e1 e2 htk
            go_wp2_with (at_builtin; refine wpList_append_own_at _ rfl _ _ 33 rfl w4.heap.size 3 i0 (.int .i64 0) 1 8 Tryd.underlying33 hi0 hz0 hz1 hz2 rfl (by decide) _ t _ rfl (HO.out.alloc _) ⟨wr.heap.size, 0, none⟩ 1 1 [.int .i64 (Fl t)] rfl rfl (cell_one_new _ _ _) (by simp [Value.oneCell']) (by unfold maxLen; omega) (by omega) (by simp; omega) ?_; intro v' w6 hown' hgrow _ hb6; have HO6 := Lib.hid hown'; have HB6 := Lib.hid ((HBi.out.alloc (by have := HBi.out.size; omega) (.cells #[.int .i64 (Fl t)] 3)).grown hgrow (by simp; have := HBi.out.size; omega) (fun q hq => (own_lt HO.out hq).1)); clear hown' hgrow hb6)
            go_roundw
            case rel => exact ⟨t + 1, _, rfl, by omega, by rw [HE2.out]; go_num, by go_num, by show World.ownsRow _ _ _ _ _ _ _; rw [HTK.out, zvs_snoc]; exact HO6.out, HB6⟩
            case measure => simp [intOf]; omega
        · rw [Hgy.out t (by omega)] at m2
          go_wp2
          go_roundw
          case rel => exact ⟨t + 1, by omega, by go_num, HO, HBi⟩
          case measure => simp [intOf]; omega
set_option maxHeartbeats 4000000 in
theorem refClasses_any (R : Ending → World → Prop) (hx : DaAt w d A B) (hn : d.nx.length ≤ 1000) (hR : Calls Tryd.prog 16 #[.agg #[.int .i64 d.V, .int .i64 d.q0, .slice A d.nx.length a, .slice B d.fi.length b], .int .i64 d.nx.length] (w.alloc (.cells #[.int .i64 d.V, .int .i64 d.q0, .slice A d.nx.length a, .slice B d.fi.length b] 25)) fun e w' => (∃ a b, e = .returned (.tuple #[a, b])) ∧ R e w') :
    Calls Tryd.prog 15 #[.agg #[.int .i64 d.V, .int .i64 d.q0, .slice A d.nx.length a, .slice B d.fi.length b]] w R := by
  have hB0 := Blk4.new w (.int .i64 d.V) (.int .i64 d.q0) (.slice A d.nx.length a) (.slice B d.fi.length b)
  obtain ⟨z0, z1, z2, z3⟩ := hB0.cells
  have HR := Lib.hid hR
  clear hR hx
  generalize d.nx.length = n at *
  generalize d.fi.length = nf at *
  go_enter Tryd.func15, Tryd.ntmps15
  go_wp2_with (go_at_call 16; ((with_reducible refine HR.out.mono ?_); rintro e w2 ⟨⟨ra, rb, rfl⟩, hr⟩); have HF := Lib.hid hr; clear hr z0 z1 z2 z3)
  exact HF.out
end
end Go.Proofs.YtkgeihambgbjdaaDoor.Mi
