/- Trim (package nfa). -/
import Derived.Test.YteckkbjpeckjmaaDoorTO
import Derived.Test.YteckkbjpeckjmaaDoorFP
import Derived.Deep.DeepCutAuto
namespace Go.Proofs.YteckkbjpeckjmaaDoor.Nf
open Go Go.RowKit Go.Proofs.YteckkbjpeckjmaaDoor Go.Proofs.YteckkbjpeckjmaaDoor.Cb
set_option linter.unusedVariables false
set_option linter.unusedSimpArgs false
set_option maxRecDepth 100000
theorem inter7_any {P Q : Int → Prop} {B1 B2 : Nat} (A1 A2 : Option Addr) (xs ys : List Nat) (a1 a2 : Nat) (w : World) (o1 : OwnW B1 w A1 a1 xs) (o2 : OwnW B2 w A2 a2 ys) (h1 : IsSet xs P) (h2 : IsSet ys Q) :
    Calls Tryd.prog 36 #[.slice A1 xs.length a1, .slice A2 ys.length a2] w fun e w' =>
      ∃ zs A' c', e = .returned (.slice A' zs.length c') ∧ (∀ z, hasB zs z = true ↔ P z ∧ Q z) ∧ OwnW w.heap.size w' A' c' zs ∧ Below w.heap.size w w' :=
  (Intersect_any A1 A2 xs ys a1 a2 w o1.words (OwnW.u64 o1) (OwnW.cap o1) o2.words (OwnW.u64 o2) (OwnW.cap o2)).mono fun e w' ⟨A', c', g1, g2, g3⟩ =>
    ⟨_, A', c', g1, fun z => by rw [has_and, Bool.and_eq_true, h1.2.2 z, h2.2.2 z], g2, g3⟩
theorem list7s_any {B : Nat} (A : Option Addr) (zs : List Nat) (c : Nat) (w : World) (o : OwnW B w A c zs) (hT : Tab w) :
    Calls Tryd.prog 35 #[.slice A zs.length c] w fun e w' =>
      ∃ us A' c', e = .returned (.slice A' us.length c') ∧ us.Pairwise (· < ·) ∧ (∀ z : Int, z ∈ us ↔ hasB zs z = true) ∧ w'.ownsRow w.heap.size 3 1 (.slice A' us.length c') us.length (zvs us) ∧ Below w.heap.size w w' := by
  refine (List_any A zs c w o.words (OwnW.u64 o) (OwnW.cap o) hT).mono ?_
  rintro e w' ⟨v, rfl, hr, hb⟩
  obtain ⟨A', c', rfl, _⟩ := Ap.own_form hr
  have hl : (elsI zs).length = (els zs).length := by unfold elsI; rw [List.length_map]
  have hz : zvs (elsI zs) = ivs (els zs) := by unfold zvs elsI ivs; rw [List.map_map]; rfl
  refine ⟨elsI zs, A', c', by rw [hl], ?_, fun z => elsI_mem, by rw [hl, hz]; exact hr, hb⟩
  unfold elsI
  rw [List.pairwise_map]
  exact els_sorted.imp fun h => by omega
/-- Behind the statement that lists the useful states. -/
structure TrP (w : World) (n : Na) (A B C : Option Addr) (a b c : Nat) (us : List Int) (Au : Option Addr) (cu b5 : Nat) (Y : World) : Prop where
  bel : Below w.heap.size w Y
  nb : Blk Y w.heap.size (.int .i64 n.V) (.int .i64 n.S) (.slice A n.st.length a) (.slice B n.fi.length b) (.slice C n.es.length c)
  rb : Blk Y (w.heap.size + 1) (.int .i64 0) (.int .i64 0) (.slice none 0 0) (.slice none 0 0) (.slice none 0 0)
  ub : Boxed Y b5 23 (.slice Au us.length cu)
  ui : Ints Y Au us
theorem TrP.mk_ {w : World} {n : Na} {A B C : Option Addr} {a b c : Nat} {us : List Int} {Au : Option Addr} {cu b5 B5 : Nat} {X : World} (hb : Below w.heap.size w X) (nb : Blk X w.heap.size (.int .i64 n.V) (.int .i64 n.S) (.slice A n.st.length a) (.slice B n.fi.length b) (.slice C n.es.length c)) (rb : Blk X (w.heap.size + 1) (.int .i64 0) (.int .i64 0) (.slice none 0 0) (.slice none 0 0) (.slice none 0 0)) (ub : Boxed X b5 23 (.slice none 0 0)) (hlt : w.heap.size + 1 < b5) (row : X.ownsRow B5 3 1 (.slice Au us.length cu) us.length (zvs us)) :
    TrP w n A B C a b c us Au cu b5 (X.setCell ⟨b5, 0, none⟩ (.slice Au us.length cu)) := by
  have hne : ∀ g, g ≠ b5 → (X.setCell ⟨b5, 0, none⟩ (.slice Au us.length cu)).heap[g]? = X.heap[g]? := fun g hgb => Below.heap_setCell _ _ _ g hgb
  exact ⟨hb.setCell (p := ⟨b5, 0, none⟩) (by show w.heap.size ≤ b5; omega) _, (hne _ (by omega)).trans nb, (hne _ (by omega)).trans rb, ub.set _,
    Dg.ints_row (row.kept (grownBy_setCell' X b5 _) (.inr fun e => ub.not_row (by decide) row e.symm)) rfl⟩
set_option maxHeartbeats 8000000 in
theorem Trim_good (n : Na) (A B C : Option Addr) (a b c : Nat) (w : World) (hx : NaAt w n A B C) (hl : NaLen n) (h0 : chkN n = 0) (hT : Tab w) :
    Calls Tryd.prog 8 #[.agg #[.int .i64 n.V, .int .i64 n.S, .slice A n.st.length a, .slice B n.fi.length b, .slice C n.es.length c]] w fun e w' =>
      ∃ us A' B' C' a' b' c', us.Pairwise (· < ·) ∧ Useful n us ∧ e = .returned (.tuple #[.agg #[.int .i64 n.V, .int .i64 us.length, .slice A' (renL us n.st).length a', .slice B' (renL us n.fi).length b', .slice C' (esU us n.es n.es.length).length c'], .int .i64 0]) ∧ Below w.heap.size w w' ∧ OwnN w.heap.size w' (trimN n us) A' B' C' a' b' c' := by
  have hO := ok_of h0
  have hb0 := bal (bal (Below.refl w.heap.size w) (.cells #[.int .i64 n.V, .int .i64 n.S, .slice A n.st.length a, .slice B n.fi.length b, .slice C n.es.length c] 26)) (.cells #[.int .i64 0, .int .i64 0, .slice none 0 0, .slice none 0 0, .slice none 0 0] 26)
  have hN0 := (Blk.new w (.int .i64 n.V) (.int .i64 n.S) (.slice A n.st.length a) (.slice B n.fi.length b) (.slice C n.es.length c)).below (bal (Below.refl _ _) (.cells #[.int .i64 0, .int .i64 0, .slice none 0 0, .slice none 0 0, .slice none 0 0] 26))
  have hR0 := Blk.new (w.alloc (.cells #[.int .i64 n.V, .int .i64 n.S, .slice A n.st.length a, .slice B n.fi.length b, .slice C n.es.length c] 26)) (.int .i64 0) (.int .i64 0) (.slice none 0 0) (.slice none 0 0) (.slice none 0 0)
  rw [World.size_alloc] at hR0
  have hsz : ((w.alloc (.cells #[.int .i64 n.V, .int .i64 n.S, .slice A n.st.length a, .slice B n.fi.length b, .slice C n.es.length c] 26)).alloc (.cells #[.int .i64 0, .int .i64 0, .slice none 0 0, .slice none 0 0, .slice none 0 0] 26)).heap.size = w.heap.size + 1 + 1 := by simp
  have HC := Check6_any n A B C a b c _ (hx.below hb0) hl
  rw [h0] at HC
  have HC := Lib.hid HC
  have H1 := Lib.hid fun X (hX : Below w.heap.size w X) => reachable_any n hO A B C a b c X (hx.below hX) hl
  have H2 := Lib.hid fun X (hX : Below w.heap.size w X) => productive_any n A B C a b c X (hx.below hX) hl hO
  have H3 := Lib.hid fun us Au cu b5 X (hX : Below w.heap.size w X) (hui : Ints X Au us) (hp : us.Pairwise (· < ·)) (hU : Useful n us) hba hS => renumbered7_any n A B C a b c us Au cu us.length b5 X (hx.below hX) hl hO hui hp (by have := us_len hp (use_in hO hp hU) hO.s0; have := hO.s64; omega) hba hS
  have HT := Lib.hid hT
  clear hx hl h0 hO hT
  go_enter Tryd.func8, Tryd.ntmps8
  go_upto_region 4 with (go_at_call 10; ((with_reducible refine HC.out.mono ?_); rintro e w1 ⟨rfl, hb2⟩); replace hR0 := hR0.below hb2; replace hN0 := hN0.below hb2; replace hb0 := stepB hb0 hb2; have hsz1 := hb2.size; rw [hsz] at hsz1; clear hsz hb2 HC)
  go_cut [5] from 13 to 18 (fun t wx => ∃ us Au cu b5, t = .pointer (some ⟨b5, 0, none⟩) ∧ Hid (us.Pairwise (· < ·) ∧ Useful n us) ∧ Hid (TrP w n A B C a b c us Au cu b5 wx))
  case first =>
    refine wp_region_any (by kernel_rfl) ?_
    change wpAny _ _ _ _ _ _ _ (World.drew _)
    have hS0 : (fun X : World => Blk X w.heap.size (.int .i64 n.V) (.int .i64 n.S) (.slice A n.st.length a) (.slice B n.fi.length b) (.slice C n.es.length c)) w1.drew := hN0
    have hlY : ∀ Y : World, Below w1.heap.size w1 Y → (fun X : World => Blk X w.heap.size (.int .i64 n.V) (.int .i64 n.S) (.slice A n.st.length a) (.slice B n.fi.length b) (.slice C n.es.length c)) Y := fun Y hY => hN0.below hY
    have hD : Below w1.heap.size w1 w1.drew := drew_below w1
    have hT0 := hb0
    have hT := HT.out
    have hB0 := hb0
    have hsz : w.heap.size + 1 < w1.heap.size := by omega
    clear hsz1 hb0
    generalize w1.drew = X0 at *
    refine wpAny_head 7 7 (fun X : World => Blk X w.heap.size (.int .i64 n.V) (.int .i64 n.S) (.slice A n.st.length a) (.slice B n.fi.length b) (.slice C n.es.length c)) rfl rfl (by kernel_rfl) (by kernel_rfl) (by kernel_rfl) (fun hA => ?_)
    refine wpHead_take (i := 0) (v := ?_) (by kernel_rfl) hA (at_drop rfl) (by decide) (by kernel_rfl) (by kernel_rfl) (by kernel_rfl) (fun _ _ _ h => h) (Or.inl ⟨by rfl, ?_⟩) hS0 (fun hA => ?_)
    rotate_left
    · (intro w hSw; obtain ⟨s0, s1, s2, s3, s4⟩ := hSw.cells; go_simp <;> with_reducible rfl)
    simp only [Act.put, List.setIfInBounds_toArray, List.set_cons_zero, List.set_cons_succ]
    refine wpHead_take (i := 2) (v := ?_) (by kernel_rfl) hA (at_drop rfl) (by decide) (by kernel_rfl) (by kernel_rfl) (by kernel_rfl) (fun _ _ _ h => h) (Or.inl ⟨by rfl, ?_⟩) hS0 (fun hA => ?_)
    rotate_left
    · (intro w hSw; obtain ⟨s0, s1, s2, s3, s4⟩ := hSw.cells; go_simp <;> with_reducible rfl)
    simp only [Act.put, List.setIfInBounds_toArray, List.set_cons_zero, List.set_cons_succ]
    have hA1 := hnext hA (rs := [1, 6]) (i := 1) (by kernel_rfl) (by decide) (by decide)
    have hA6 := hnext hA (rs := [1, 6]) (i := 6) (by kernel_rfl) (by decide) (by decide)
    refine wpHead_ready (rs := [1, 6]) (by kernel_rfl) (by decide) (AllHead.cons (at_drop rfl) (by decide) (fun KK hK => ?_) (AllHead.cons (at_drop rfl) (by decide) (fun KK hK => ?_) AllHead.nil))
    · replace hA := hA1
      go_simp
      refine (H1.out X0 (stepB hB0 hD)).mono ?_
      rintro e X1 ⟨xs1, A1, a1, rfl, hi1, o1, d1⟩
      have HX1 := stepB hD d1
      refine hK _ _ (hlY _ HX1) ?_
      clear hK KK
      try simp only [Act.put, List.setIfInBounds_toArray, List.set_cons_zero, List.set_cons_succ]
      have hA3 := hnext hA (rs := [3, 6]) (i := 3) (by kernel_rfl) (by decide) (by decide)
      have hA6 := hnext hA (rs := [3, 6]) (i := 6) (by kernel_rfl) (by decide) (by decide)
      refine wpHead_ready (rs := [3, 6]) (by kernel_rfl) (by decide) (AllHead.cons (at_drop rfl) (by decide) (fun KK hK => ?_) (AllHead.cons (at_drop rfl) (by decide) (fun KK hK => ?_) AllHead.nil))
      · replace hA := hA3
        go_simp
        refine (H2.out X1 (stepB hB0 HX1)).mono ?_
        rintro e X2 ⟨xs2, A2, a2, rfl, hi2, o2, d2⟩
        have HX2 := stepB HX1 d2
        refine hK _ _ (hlY _ HX2) ?_
        clear hK KK
        try simp only [Act.put, List.setIfInBounds_toArray, List.set_cons_zero, List.set_cons_succ]
        have hA4 := hnext hA (rs := [4, 6]) (i := 4) (by kernel_rfl) (by decide) (by decide)
        have hA6 := hnext hA (rs := [4, 6]) (i := 6) (by kernel_rfl) (by decide) (by decide)
        refine wpHead_ready (rs := [4, 6]) (by kernel_rfl) (by decide) (AllHead.cons (at_drop rfl) (by decide) (fun KK hK => ?_) (AllHead.cons (at_drop rfl) (by decide) (fun KK hK => ?_) AllHead.nil))
        · replace hA := hA4
          go_simp
          refine (inter7_any A1 A2 xs1 xs2 a1 a2 X2 (OwnW.bel o1 d2) o2 hi1 hi2).mono ?_
          rintro e X3 ⟨zs, A3, a3, rfl, hz7, o3, d3⟩
          have HX3 := stepB HX2 d3
          refine hK _ _ (hlY _ HX3) ?_
          clear hK KK
          try simp only [Act.put, List.setIfInBounds_toArray, List.set_cons_zero, List.set_cons_succ]
          have hA5 := hnext hA (rs := [5, 6]) (i := 5) (by kernel_rfl) (by decide) (by decide)
          have hA6 := hnext hA (rs := [5, 6]) (i := 6) (by kernel_rfl) (by decide) (by decide)
          refine wpHead_ready (rs := [5, 6]) (by kernel_rfl) (by decide) (AllHead.cons (at_drop rfl) (by decide) (fun KK hK => ?_) (AllHead.cons (at_drop rfl) (by decide) (fun KK hK => ?_) AllHead.nil))
          · replace hA := hA5
            go_simp
            refine (list7s_any A3 zs a3 X3 o3 (hT.below (stepB hT0 HX3))).mono ?_
            rintro e X4 ⟨us, Au, cu, rfl, hp7, hu7, o4, d4⟩
            have HX4 := stepB HX3 d4
            refine hK _ _ (hlY _ HX4) ?_
            clear hK KK
            try simp only [Act.put, List.setIfInBounds_toArray, List.set_cons_zero, List.set_cons_succ]
            have hA6 := hnext hA (rs := [6]) (i := 6) (by kernel_rfl) (by decide) (by decide)
            refine wpHead_ready (rs := [6]) (by kernel_rfl) (by decide) (AllHead.cons (at_drop rfl) (by decide) (fun KK hK => ?_) AllHead.nil)
            replace hA := hA6
            go_simp
            have d5 := bal (Below.refl X4.heap.size X4) (.cells #[.slice none 0 0] 23)
            have r3 := Boxed.new X4 23 (.slice none 0 0)
            generalize (World.alloc X4 (.cells #[.slice none 0 0] 23)) = X5 at *
            have HX5 := stepB HX4 d5
            refine hK _ _ (hlY _ HX5) ?_
            clear hK KK
            have HP := Lib.hid (TrP.mk_ (w := w) (n := n) (us := us) (stepB hB0 HX5) (hlY _ HX5) (hR0.below HX5) r3 (Nat.lt_of_lt_of_le hsz HX4.size) (o4.below d5))
            obtain ⟨q0, f0⟩ := And.intro (Boxed.cell r3) (Boxed.frozen r3)
            have HU : Hid (us.Pairwise (· < ·) ∧ Useful n us) := ⟨hp7, fun z => (hu7 z).trans (hz7 z)⟩
            clear hlY hR0 hB0 o1 o2 o3 o4 hA r3 hp7 hu7 hz7 hi1 hi2
            refine wpHead_end (by kernel_rfl) ?_
            simp only [List.drop_succ_cons, List.drop_zero]
            generalize X4.heap.size = b5 at *
            go_wp2_with fail
            go_meet
            exact ⟨us, Au, cu, b5, rfl, HU, HP⟩
          · replace hA := hA6
            go_simp
            have d4 := bal (Below.refl X3.heap.size X3) (.cells #[.slice none 0 0] 23)
            have r3 := Boxed.new X3 23 (.slice none 0 0)
            generalize (World.alloc X3 (.cells #[.slice none 0 0] 23)) = X4 at *
            have HX4 := stepB HX3 d4
            refine hK _ _ (hlY _ HX4) ?_
            clear hK KK
            have hA5 := hnext hA (rs := [5]) (i := 5) (by kernel_rfl) (by decide) (by decide)
            refine wpHead_ready (rs := [5]) (by kernel_rfl) (by decide) (AllHead.cons (at_drop rfl) (by decide) (fun KK hK => ?_) AllHead.nil)
            replace hA := hA5
            go_simp
            refine (list7s_any A3 zs a3 X4 (OwnW.bel o3 d4) (hT.below (stepB hT0 HX4))).mono ?_
            rintro e X5 ⟨us, Au, cu, rfl, hp7, hu7, o4, d5⟩
            have HX5 := stepB HX4 d5
            refine hK _ _ (hlY _ HX5) ?_
            clear hK KK
            try simp only [Act.put, List.setIfInBounds_toArray, List.set_cons_zero, List.set_cons_succ]
            have HP := Lib.hid (TrP.mk_ (w := w) (n := n) (us := us) (stepB hB0 HX5) (hlY _ HX5) (hR0.below HX5) (r3.below d5) (Nat.lt_of_lt_of_le hsz HX3.size) o4)
            obtain ⟨q0, f0⟩ := And.intro (Boxed.cell (r3.below d5)) (Boxed.frozen (r3.below d5))
            have HU : Hid (us.Pairwise (· < ·) ∧ Useful n us) := ⟨hp7, fun z => (hu7 z).trans (hz7 z)⟩
            clear hlY hR0 hB0 o1 o2 o3 o4 hA r3 hp7 hu7 hz7 hi1 hi2
            refine wpHead_end (by kernel_rfl) ?_
            simp only [List.drop_succ_cons, List.drop_zero]
            generalize X3.heap.size = b5 at *
            go_wp2_with fail
            go_meet
            exact ⟨us, Au, cu, b5, rfl, HU, HP⟩
        · replace hA := hA6
          go_simp
          have d3 := bal (Below.refl X2.heap.size X2) (.cells #[.slice none 0 0] 23)
          have r3 := Boxed.new X2 23 (.slice none 0 0)
          generalize (World.alloc X2 (.cells #[.slice none 0 0] 23)) = X3 at *
          have HX3 := stepB HX2 d3
          refine hK _ _ (hlY _ HX3) ?_
          clear hK KK
          have hA4 := hnext hA (rs := [4]) (i := 4) (by kernel_rfl) (by decide) (by decide)
          refine wpHead_ready (rs := [4]) (by kernel_rfl) (by decide) (AllHead.cons (at_drop rfl) (by decide) (fun KK hK => ?_) AllHead.nil)
          replace hA := hA4
          go_simp
          refine (inter7_any A1 A2 xs1 xs2 a1 a2 X3 (OwnW.bel (OwnW.bel o1 d2) d3) (OwnW.bel o2 d3) hi1 hi2).mono ?_
          rintro e X4 ⟨zs, A3, a3, rfl, hz7, o3, d4⟩
          have HX4 := stepB HX3 d4
          refine hK _ _ (hlY _ HX4) ?_
          clear hK KK
          try simp only [Act.put, List.setIfInBounds_toArray, List.set_cons_zero, List.set_cons_succ]
          have hA5 := hnext hA (rs := [5]) (i := 5) (by kernel_rfl) (by decide) (by decide)
          refine wpHead_ready (rs := [5]) (by kernel_rfl) (by decide) (AllHead.cons (at_drop rfl) (by decide) (fun KK hK => ?_) AllHead.nil)
          replace hA := hA5
          go_simp
          refine (list7s_any A3 zs a3 X4 o3 (hT.below (stepB hT0 HX4))).mono ?_
          rintro e X5 ⟨us, Au, cu, rfl, hp7, hu7, o4, d5⟩
          have HX5 := stepB HX4 d5
          refine hK _ _ (hlY _ HX5) ?_
          clear hK KK
          try simp only [Act.put, List.setIfInBounds_toArray, List.set_cons_zero, List.set_cons_succ]
          have HP := Lib.hid (TrP.mk_ (w := w) (n := n) (us := us) (stepB hB0 HX5) (hlY _ HX5) (hR0.below HX5) ((r3.below d4).below d5) (Nat.lt_of_lt_of_le hsz HX2.size) o4)
          obtain ⟨q0, f0⟩ := And.intro (Boxed.cell ((r3.below d4).below d5)) (Boxed.frozen ((r3.below d4).below d5))
          have HU : Hid (us.Pairwise (· < ·) ∧ Useful n us) := ⟨hp7, fun z => (hu7 z).trans (hz7 z)⟩
          clear hlY hR0 hB0 o1 o2 o3 o4 hA r3 hp7 hu7 hz7 hi1 hi2
          refine wpHead_end (by kernel_rfl) ?_
          simp only [List.drop_succ_cons, List.drop_zero]
          generalize X2.heap.size = b5 at *
          go_wp2_with fail
          go_meet
          exact ⟨us, Au, cu, b5, rfl, HU, HP⟩
      · replace hA := hA6
        go_simp
        have d2 := bal (Below.refl X1.heap.size X1) (.cells #[.slice none 0 0] 23)
        have r3 := Boxed.new X1 23 (.slice none 0 0)
        generalize (World.alloc X1 (.cells #[.slice none 0 0] 23)) = X2 at *
        have HX2 := stepB HX1 d2
        refine hK _ _ (hlY _ HX2) ?_
        clear hK KK
        have hA3 := hnext hA (rs := [3]) (i := 3) (by kernel_rfl) (by decide) (by decide)
        refine wpHead_ready (rs := [3]) (by kernel_rfl) (by decide) (AllHead.cons (at_drop rfl) (by decide) (fun KK hK => ?_) AllHead.nil)
        replace hA := hA3
        go_simp
        refine (H2.out X2 (stepB hB0 HX2)).mono ?_
        rintro e X3 ⟨xs2, A2, a2, rfl, hi2, o2, d3⟩
        have HX3 := stepB HX2 d3
        refine hK _ _ (hlY _ HX3) ?_
        clear hK KK
        try simp only [Act.put, List.setIfInBounds_toArray, List.set_cons_zero, List.set_cons_succ]
        have hA4 := hnext hA (rs := [4]) (i := 4) (by kernel_rfl) (by decide) (by decide)
        refine wpHead_ready (rs := [4]) (by kernel_rfl) (by decide) (AllHead.cons (at_drop rfl) (by decide) (fun KK hK => ?_) AllHead.nil)
        replace hA := hA4
        go_simp
        refine (inter7_any A1 A2 xs1 xs2 a1 a2 X3 (OwnW.bel (OwnW.bel o1 d2) d3) o2 hi1 hi2).mono ?_
        rintro e X4 ⟨zs, A3, a3, rfl, hz7, o3, d4⟩
        have HX4 := stepB HX3 d4
        refine hK _ _ (hlY _ HX4) ?_
        clear hK KK
        try simp only [Act.put, List.setIfInBounds_toArray, List.set_cons_zero, List.set_cons_succ]
        have hA5 := hnext hA (rs := [5]) (i := 5) (by kernel_rfl) (by decide) (by decide)
        refine wpHead_ready (rs := [5]) (by kernel_rfl) (by decide) (AllHead.cons (at_drop rfl) (by decide) (fun KK hK => ?_) AllHead.nil)
        replace hA := hA5
        go_simp
        refine (list7s_any A3 zs a3 X4 o3 (hT.below (stepB hT0 HX4))).mono ?_
        rintro e X5 ⟨us, Au, cu, rfl, hp7, hu7, o4, d5⟩
        have HX5 := stepB HX4 d5
        refine hK _ _ (hlY _ HX5) ?_
        clear hK KK
        try simp only [Act.put, List.setIfInBounds_toArray, List.set_cons_zero, List.set_cons_succ]
        have HP := Lib.hid (TrP.mk_ (w := w) (n := n) (us := us) (stepB hB0 HX5) (hlY _ HX5) (hR0.below HX5) (((r3.below d3).below d4).below d5) (Nat.lt_of_lt_of_le hsz HX1.size) o4)
        obtain ⟨q0, f0⟩ := And.intro (Boxed.cell (((r3.below d3).below d4).below d5)) (Boxed.frozen (((r3.below d3).below d4).below d5))
        have HU : Hid (us.Pairwise (· < ·) ∧ Useful n us) := ⟨hp7, fun z => (hu7 z).trans (hz7 z)⟩
        clear hlY hR0 hB0 o1 o2 o3 o4 hA r3 hp7 hu7 hz7 hi1 hi2
        refine wpHead_end (by kernel_rfl) ?_
        simp only [List.drop_succ_cons, List.drop_zero]
        generalize X1.heap.size = b5 at *
        go_wp2_with fail
        go_meet
        exact ⟨us, Au, cu, b5, rfl, HU, HP⟩
    · replace hA := hA6
      go_simp
      have d1 := bal (Below.refl X0.heap.size X0) (.cells #[.slice none 0 0] 23)
      have r3 := Boxed.new X0 23 (.slice none 0 0)
      generalize (World.alloc X0 (.cells #[.slice none 0 0] 23)) = X1 at *
      have HX1 := stepB hD d1
      refine hK _ _ (hlY _ HX1) ?_
      clear hK KK
      have hA1 := hnext hA (rs := [1]) (i := 1) (by kernel_rfl) (by decide) (by decide)
      refine wpHead_ready (rs := [1]) (by kernel_rfl) (by decide) (AllHead.cons (at_drop rfl) (by decide) (fun KK hK => ?_) AllHead.nil)
      replace hA := hA1
      go_simp
      refine (H1.out X1 (stepB hB0 HX1)).mono ?_
      rintro e X2 ⟨xs1, A1, a1, rfl, hi1, o1, d2⟩
      have HX2 := stepB HX1 d2
      refine hK _ _ (hlY _ HX2) ?_
      clear hK KK
      try simp only [Act.put, List.setIfInBounds_toArray, List.set_cons_zero, List.set_cons_succ]
      have hA3 := hnext hA (rs := [3]) (i := 3) (by kernel_rfl) (by decide) (by decide)
      refine wpHead_ready (rs := [3]) (by kernel_rfl) (by decide) (AllHead.cons (at_drop rfl) (by decide) (fun KK hK => ?_) AllHead.nil)
      replace hA := hA3
      go_simp
      refine (H2.out X2 (stepB hB0 HX2)).mono ?_
      rintro e X3 ⟨xs2, A2, a2, rfl, hi2, o2, d3⟩
      have HX3 := stepB HX2 d3
      refine hK _ _ (hlY _ HX3) ?_
      clear hK KK
      try simp only [Act.put, List.setIfInBounds_toArray, List.set_cons_zero, List.set_cons_succ]
      have hA4 := hnext hA (rs := [4]) (i := 4) (by kernel_rfl) (by decide) (by decide)
      refine wpHead_ready (rs := [4]) (by kernel_rfl) (by decide) (AllHead.cons (at_drop rfl) (by decide) (fun KK hK => ?_) AllHead.nil)
      replace hA := hA4
      go_simp
      refine (inter7_any A1 A2 xs1 xs2 a1 a2 X3 (OwnW.bel o1 d3) o2 hi1 hi2).mono ?_
      rintro e X4 ⟨zs, A3, a3, rfl, hz7, o3, d4⟩
      have HX4 := stepB HX3 d4
      refine hK _ _ (hlY _ HX4) ?_
      clear hK KK
      try simp only [Act.put, List.setIfInBounds_toArray, List.set_cons_zero, List.set_cons_succ]
      have hA5 := hnext hA (rs := [5]) (i := 5) (by kernel_rfl) (by decide) (by decide)
      refine wpHead_ready (rs := [5]) (by kernel_rfl) (by decide) (AllHead.cons (at_drop rfl) (by decide) (fun KK hK => ?_) AllHead.nil)
      replace hA := hA5
      go_simp
      refine (list7s_any A3 zs a3 X4 o3 (hT.below (stepB hT0 HX4))).mono ?_
      rintro e X5 ⟨us, Au, cu, rfl, hp7, hu7, o4, d5⟩
      have HX5 := stepB HX4 d5
      refine hK _ _ (hlY _ HX5) ?_
      clear hK KK
      try simp only [Act.put, List.setIfInBounds_toArray, List.set_cons_zero, List.set_cons_succ]
      have HP := Lib.hid (TrP.mk_ (w := w) (n := n) (us := us) (stepB hB0 HX5) (hlY _ HX5) (hR0.below HX5) ((((r3.below d2).below d3).below d4).below d5) (Nat.lt_of_lt_of_le hsz hD.size) o4)
      obtain ⟨q0, f0⟩ := And.intro (Boxed.cell ((((r3.below d2).below d3).below d4).below d5)) (Boxed.frozen ((((r3.below d2).below d3).below d4).below d5))
      have HU : Hid (us.Pairwise (· < ·) ∧ Useful n us) := ⟨hp7, fun z => (hu7 z).trans (hz7 z)⟩
      clear hlY hR0 hB0 o1 o2 o3 o4 hA r3 hp7 hu7 hz7 hi1 hi2
      refine wpHead_end (by kernel_rfl) ?_
      simp only [List.drop_succ_cons, List.drop_zero]
      generalize X0.heap.size = b5 at *
      go_wp2_with fail
      go_meet
      exact ⟨us, Au, cu, b5, rfl, HU, HP⟩
  case rest =>
    obtain ⟨us, Au, cu, b5, rfl, HU, HP⟩ := hcut
    have hP := HP.out
    have HR := Lib.hid (H3.out us Au cu b5 _ hP.bel hP.ui HU.out.1 HU.out.2 hP.ub.lt hP.ub.cell)
    have hub := hP.ub.cell
    have hR0 := hP.rb
    have hb0 := hP.bel
    obtain ⟨z0, z1, z2, z3, z4⟩ := hP.nb.cells
    clear hP HP H1 H2 H3 hN0 HT hsz1
    go_wp2_with (go_at_call 41; ((with_reducible refine HR.out.mono ?_); rintro e w3 ⟨A3, B3, C3, a3, b3, c3, rfl, hb3, o1, o2, o3⟩); replace hR0 := hR0.below hb3; obtain ⟨⟨p0, f0⟩, ⟨p1, f1⟩, ⟨p2, f2⟩, ⟨p3, f3⟩, ⟨p4, f4⟩, hR5, hB5, hO5⟩ := store5 hR0 (.int .i64 n.V) (.int .i64 us.length) (.slice A3 (renL us n.st).length a3) (.slice B3 (renL us n.fi).length b3) (.slice C3 (esU us n.es n.es.length).length c3); have HF := Lib.hid (And.intro hR5.cells (And.intro (hB5 w.heap.size (by omega)) (And.intro (hO5 _ _ _ _ _ _ (ownsRow_mono o1 hb0.size) (by decide)) (And.intro (hO5 _ _ _ _ _ _ (ownsRow_mono o2 hb0.size) (by decide)) (hO5 _ _ _ _ _ _ (ownsRow_mono o3 hb0.size) (by decide)))))); clear hR5 hB5 hO5 o1 o2 o3)
    obtain ⟨⟨y0, y1, y2, y3, y4⟩, hb5, o1, o2, o3⟩ := HF.out
    unfold put5 at y0 y1 y2 y3 y4 hb5 o1 o2 o3
    refine bodyPost_ret (v := .tuple #[.agg #[.int .i64 n.V, .int .i64 us.length, .slice A3 (renL us n.st).length a3, .slice B3 (renL us n.fi).length b3, .slice C3 (esU us n.es n.es.length).length c3], .int .i64 0]) (by simp [results, Tryd.results8, go_sem, y0, y1, y2, y3, y4]) rfl ?_
    have he : esU us n.es n.es.length = (n.es.filter (inU us)).map (reN us) := by unfold esU; rw [List.take_length]
    refine ⟨us, A3, B3, C3, a3, b3, c3, HU.out.1, HU.out.2, rfl, (stepB hb0 hb3).trans hb5, ⟨o1, o2, ?_⟩⟩
    show World.ownsRow _ _ _ _ (.slice C3 ((n.es.filter (inU us)).map (reN us)).length c3) ((n.es.filter (inU us)).map (reN us)).length (evs ((n.es.filter (inU us)).map (reN us)))
    rw [← he]
    exact o3
set_option maxHeartbeats 2000000 in
theorem Trim_bad (n : Na) (A B C : Option Addr) (a b c : Nat) (w : World) (hx : NaAt w n A B C) (hl : NaLen n) (h0 : chkN n ≠ 0) :
    Calls Tryd.prog 8 #[.agg #[.int .i64 n.V, .int .i64 n.S, .slice A n.st.length a, .slice B n.fi.length b, .slice C n.es.length c]] w fun e w' =>
      e = .returned (.tuple #[.agg #[.int .i64 0, .int .i64 0, .slice none 0 0, .slice none 0 0, .slice none 0 0], .int .i64 (chkN n)]) ∧ Below w.heap.size w w' := by
  have hb0 := bal (bal (Below.refl w.heap.size w) (.cells #[.int .i64 n.V, .int .i64 n.S, .slice A n.st.length a, .slice B n.fi.length b, .slice C n.es.length c] 26)) (.cells #[.int .i64 0, .int .i64 0, .slice none 0 0, .slice none 0 0, .slice none 0 0] 26)
  have hR0 := Blk.new (w.alloc (.cells #[.int .i64 n.V, .int .i64 n.S, .slice A n.st.length a, .slice B n.fi.length b, .slice C n.es.length c] 26)) (.int .i64 0) (.int .i64 0) (.slice none 0 0) (.slice none 0 0) (.slice none 0 0)
  rw [World.size_alloc] at hR0
  have HC := Lib.hid (Check6_any n A B C a b c _ (hx.below hb0) hl)
  have hne : (chkN n != 0) = true := by rw [bne_iff_ne]; exact h0
  clear hx hl h0
  generalize chkN n = E at *
  go_enter Tryd.func8, Tryd.ntmps8
  go_wp2_with (first
    | (go_at_call 10; ((with_reducible refine HC.out.mono ?_); rintro e w2 ⟨rfl, hb2⟩); replace hR0 := hR0.below hb2; replace hb0 := stepB hb0 hb2; obtain ⟨⟨p0, f0⟩, ⟨p1, f1⟩, ⟨p2, f2⟩, ⟨p3, f3⟩, ⟨p4, f4⟩, hR5, hB5, _⟩ := store5 hR0 (.int .i64 0) (.int .i64 0) (.slice none 0 0) (.slice none 0 0) (.slice none 0 0); have HF := Lib.hid (And.intro hR5.cells (hB5 w.heap.size (by omega))); clear hR5 hB5))
  obtain ⟨⟨y0, y1, y2, y3, y4⟩, hb5⟩ := HF.out
  unfold put5 at y0 y1 y2 y3 y4 hb5
  refine bodyPost_ret (v := .tuple #[.agg #[.int .i64 0, .int .i64 0, .slice none 0 0, .slice none 0 0, .slice none 0 0], .int .i64 E]) (by simp [results, Tryd.results8, go_sem, y0, y1, y2, y3, y4]) rfl ?_
  exact ⟨rfl, hb0.trans hb5⟩
end Go.Proofs.YteckkbjpeckjmaaDoor.Nf
