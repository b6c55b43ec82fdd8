/- The walk of MinimalRounds. -/
import Derived.Test.YtkgeihambgbjdaaDoorPJ
namespace Go.Proofs.YtkgeihambgbjdaaDoor.Mi
open Go Go.RowKit Go.Proofs.YtkgeihambgbjdaaDoor Go.Proofs.YtkgeihambgbjdaaDoor.Cb Go.Proofs.YtkgeihambgbjdaaDoor.Sb
open Go.Proofs.YtkgeihambgbjdaaDoor.Nf (Bys zvs bvs ret_int ret_b drew_below)
open Go.Proofs.YtkgeihambgbjdaaDoor.Dg (Tabs tb tb_mem)
set_option linter.unusedVariables false
set_option linter.unusedSimpArgs false
set_option linter.unusedSectionVars false
set_option maxRecDepth 100000
/-- Three lists and the argument in memory. -/
structure RSt (w : World) (g0 : Nat) (v0 v1 v2 v3 : Value) (pa pb pc : Option Addr) (La Lb Lc : List Int) (X : World) : Prop where
  b : Below w.heap.size w X
  n : Blk4 X g0 v0 v1 v2 v3
  a : Ints X pa La
  bb : Ints X pb Lb
  c : Ints X pc Lc
theorem RSt.below {w : World} {g0 : Nat} {v0 v1 v2 v3 : Value} {pa pb pc : Option Addr} {La Lb Lc : List Int} {X Y : World} (h : RSt w g0 v0 v1 v2 v3 pa pb pc La Lb Lc X) (hb : Below X.heap.size X Y) : RSt w g0 v0 v1 v2 v3 pa pb pc La Lb Lc Y :=
  ⟨stepB h.b hb, h.n.below hb, h.a.below hb, h.bb.below hb, h.c.below hb⟩
section
variable (d : Da) (A B : Option Addr) (a b : Nat) (k : Nat) (s t : Int) (w : World)
set_option maxHeartbeats 16000000 in
theorem minimalRounds_walk (hx : DaAt w d A B) (m1 : d.nx.length ≤ maxLen) (m2 : d.fi.length ≤ maxLen) (m3 : ∀ r ∈ d.nx, r.length ≤ maxLen) (hk : k < 256) (hs : -9223372036854775808 ≤ s ∧ s ≤ 9223372036854775807) (ht : -9223372036854775808 ≤ t ∧ t ≤ 9223372036854775807) (hT : Tabs2 w) :
    Calls Tryd.prog 9 #[.agg #[.int .i64 d.V, .int .i64 d.q0, .slice A d.nx.length a, .slice B d.fi.length b], .int .u8 k, .int .i64 s, .int .i64 t] w fun e w' => e = .returned (.bool true) ∧ Below w.heap.size w w' := by
  have HAw := Lib.hid fun X (hX : Below w.heap.size w X) => awake_any8 X (hT.below hX)
  have HLo : Hid (∀ X (hX : Below w.heap.size w X) g, g = X.heap.size → Calls Tryd.prog 10 #[.slice (some ⟨g, 0, none⟩) 1 1] (X.alloc (.cells #[.int .i64 d.V, .int .i64 d.q0, .slice A d.nx.length a, .slice B d.fi.length b] 25)) fun e w' => e = .returned (.bool (longD d)) ∧ Below X.heap.size X w') := fun X hX g hg => by
    subst hg
    exact Long7_any d A B a b X (hx.below hX) m1 m2 m3
  have hB0 := Blk4.new w (.int .i64 d.V) (.int .i64 d.q0) (.slice A d.nx.length a) (.slice B d.fi.length b)
  have hb0 := bal (Below.refl w.heap.size w) (.cells #[.int .i64 d.V, .int .i64 d.q0, .slice A d.nx.length a, .slice B d.fi.length b] 25)
  by_cases hlong : longD d = true
  · rw [hlong] at HLo
    clear hlong hx m1 m2 m3
    obtain ⟨z0, z1, z2, z3⟩ := hB0.cells
    go_enter Tryd.func9, Tryd.ntmps9
    go_wp2_with (first
      | (go_at_call 10; ((with_reducible refine (HLo.out _ hb0 _ (by simp)).mono ?_); rintro e w2 ⟨rfl, hb2⟩); replace hb0 := stepB hb0 hb2)
      | (go_at_call 12; ((with_reducible refine (HAw.out _ hb0).mono ?_); rintro e w3 ⟨rfl, hb3⟩)))
    go_ret
    exact ⟨rfl, stepB hb0 hb3⟩
  have hL : longD d = false := Bool.eq_false_iff.2 hlong
  have hlen := longD_len hL
  have h40 := (longD_no hL).1
  rw [hL] at HLo
  clear hlong hL m1 m2 m3
  obtain ⟨r, hr⟩ : ∃ r, r = k % 8 := ⟨_, rfl⟩
  have hr1 : (k : Int) % 8 = (r : Int) := by omega
  have hr2 : ((k : Nat) : Int).tmod 8 = (r : Int) := by rw [Int.tmod_eq_emod_of_nonneg (by omega)]; exact hr1
  have hr3 : r < 8 := by omega
  clear hr
  by_cases h0 : chkD d = 0
  · have hO := okD_of h0
    have hnn := Lib.hid (clsD_len hO r)
    have hnb := Lib.hid (clsD_len hO (r + 1))
    have hnc := Lib.hid (clsD_len hO d.nx.length)
    have HRa : Hid (∀ X, Below w.heap.size w X → Calls Tryd.prog 19 #[.agg #[.int .i64 d.V, .int .i64 d.q0, .slice A d.nx.length a, .slice B d.fi.length b], .int .i64 (r : Int)] X fun e w' => ∃ p c, e = .returned (.tuple #[.slice p d.nx.length c, .int .i64 0]) ∧ Ints w' p (clsD d r) ∧ Below X.heap.size X w') := fun X hX =>
      (rounds_ints d A B a b X (hx.below hX) (hT.below hX).tz h0 (by omega) (r : Int) (by omega)).mono fun e w' ⟨g, h1, h2, h3⟩ => ⟨_, _, h1, by rwa [Int.toNat_natCast] at h2, h3⟩
    have HRb : Hid (∀ X, Below w.heap.size w X → Calls Tryd.prog 19 #[.agg #[.int .i64 d.V, .int .i64 d.q0, .slice A d.nx.length a, .slice B d.fi.length b], .int .i64 ((r : Int) + 1)] X fun e w' => ∃ p c, e = .returned (.tuple #[.slice p d.nx.length c, .int .i64 0]) ∧ Ints w' p (clsD d (r + 1)) ∧ Below X.heap.size X w') := fun X hX =>
      (rounds_ints d A B a b X (hx.below hX) (hT.below hX).tz h0 (by omega) ((r : Int) + 1) (by omega)).mono fun e w' ⟨g, h1, h2, h3⟩ => ⟨_, _, h1, by rwa [show ((r : Int) + 1).toNat = r + 1 by omega] at h2, h3⟩
    have HCl : Hid (∀ X, Below w.heap.size w X → Calls Tryd.prog 18 #[.agg #[.int .i64 d.V, .int .i64 d.q0, .slice A d.nx.length a, .slice B d.fi.length b]] X fun e w' => ∃ p c, e = .returned (.tuple #[.slice p d.nx.length c, .int .i64 0]) ∧ Ints w' p (clsD d d.nx.length) ∧ Below X.heap.size X w') := fun X hX =>
      (classes_ints d A B a b X (hx.below hX) (hT.below hX).tz h0 (by omega)).mono fun e w' ⟨g, h1, h2, h3⟩ => ⟨_, _, h1, h2, h3⟩
    obtain ⟨P, hP⟩ : ∃ P, P = decide (clsD d r = clsD d (r + 1)) := ⟨_, rfl⟩
    have HEab : Hid (∀ X p q c c', Ints X p (clsD d r) → Ints X q (clsD d (r + 1)) → Calls Tryd.prog 21 #[.slice p d.nx.length c, .slice q d.nx.length c'] X fun e w' => e = .returned (.bool P) ∧ Below X.heap.size X w') := fun X p q c c' h1 h2 => by
      have := Dg.EqualInts_any p q (clsD d r) (clsD d (r + 1)) c c' X h1 h2 (by rw [clsD_len hO]; unfold maxLen; omega)
      rwa [clsD_len hO, clsD_len hO, ← hP] at this
    have HEac : Hid (P = true → ∀ X p q c c', Ints X p (clsD d r) → Ints X q (clsD d d.nx.length) → Calls Tryd.prog 21 #[.slice p d.nx.length c, .slice q d.nx.length c'] X fun e w' => e = .returned (.bool true) ∧ Below X.heap.size X w') := fun hPt X p q c c' h1 h2 => by
      have := Dg.EqualInts_any p q (clsD d r) (clsD d d.nx.length) c c' X h1 h2 (by rw [clsD_len hO]; unfold maxLen; omega)
      rwa [clsD_len hO, clsD_len hO, decide_eq_true (clsD_still hO (of_decide_eq_true (hP ▸ hPt)))] at this
    have HF2 : Hid (∀ i j, i < d.nx.length → j < d.nx.length → nd (clsD d (r + 1)) i = nd (clsD d (r + 1)) j → nd (clsD d r) i = nd (clsD d r) j) := fun i j hi hj h => clsD_next hO hi hj h
    have HD : Hid ((∃ (S T nu : Nat) (q : Bool), s = (S : Int) ∧ t = (T : Int) ∧ S < d.nx.length ∧ T < d.nx.length ∧ (nd (clsD d r) S != nd (clsD d r) T) = (q && decide ((nu : Int) ≤ (r : Int))) ∧ (nd (clsD d d.nx.length) S != nd (clsD d d.nx.length) T) = q ∧ nu ≤ 4096 ∧
        ∀ X, Below w.heap.size w X → Calls Tryd.prog 25 #[.agg #[.int .i64 d.V, .int .i64 d.q0, .slice A d.nx.length a, .slice B d.fi.length b], .int .i64 s, .int .i64 t] X fun e w' => ∃ D c, e = .returned (.tuple #[.slice D nu c, .bool q, .int .i64 0]) ∧ Below X.heap.size X w') ∨
        ∀ X, Below w.heap.size w X → Calls Tryd.prog 25 #[.agg #[.int .i64 d.V, .int .i64 d.q0, .slice A d.nx.length a, .slice B d.fi.length b], .int .i64 s, .int .i64 t] X fun e w' => e = .returned (.tuple #[.slice none 0 0, .bool false, .int .i64 8]) ∧ Below X.heap.size X w') := by
      by_cases hc : chkS d s t = 0
      · obtain ⟨_, ⟨h1, h2⟩, h3, h4⟩ := chkS_inv d hc
        obtain ⟨S, rfl⟩ : ∃ S : Nat, s = (S : Int) := ⟨s.toNat, by omega⟩
        obtain ⟨T, rfl⟩ : ∃ T : Nat, t = (T : Int) := ⟨t.toNat, by omega⟩
        obtain ⟨u, q, hu⟩ := least_ex d S T
        have hul := hu.short hO (by omega) (by omega)
        refine .inl ⟨S, T, u.length, q, rfl, rfl, by omega, by omega, ?_, ?_, by omega, fun X hX => (dis_good d A B a b X (hx.below hX) h0 (by omega) S T (by omega) (by omega) hu).mono fun e w' ⟨D, c, h5, _, h6⟩ => ⟨D, c, h5, h6⟩⟩
        · have h5 := hu.tek r
          have h6 := clsD_te hO (k := r) (show S < d.nx.length by omega) (show T < d.nx.length by omega)
          rw [show decide ((u.length : Int) ≤ (r : Int)) = decide (u.length ≤ r) by simp, ← h5]
          cases h7 : te (2 ^ d.V.toNat) (dlt d.nx) (fiB d) r S T with
          | true => rw [bne_iff_ne]; intro h8; rw [h6.1 h8] at h7; cases h7
          | false => rw [bne_eq_false_iff_eq]; exact h6.2 h7
        · have h6 := clsD_lg hO (k := d.nx.length) (show S < d.nx.length by omega) (show T < d.nx.length by omega) (Nat.le_succ _)
          cases q with
          | true => rw [bne_iff_ne]; intro h8; exact hu.q_iff.1 rfl (h6.1 h8)
          | false => rw [bne_eq_false_iff_eq]; exact h6.2 (hu.no rfl).2
      · refine .inr fun X hX => ?_
        have := Distinguish_bad d A B a b X (hx.below hX) hlen s t hc
        have h8 : chkS d s t = 8 := by
          unfold chkS at hc ⊢
          rw [if_neg (by simpa using h0)] at hc ⊢
          split at hc
          · exact absurd rfl hc
          · rename_i h9; rw [if_neg h9]
        rwa [h8] at this
    clear hx hT hlen hO h0
    have hP2 := Lib.hid hP
    clear hP
    generalize clsD d r = La at *
    generalize clsD d (r + 1) = Lb at *
    generalize clsD d d.nx.length = Lc at *
    generalize hnx : d.nx.length = nn at *
    generalize d.fi.length = nf at *
    clear hnx hP2
    obtain ⟨z0, z1, z2, z3⟩ := hB0.cells
    cases P
    all_goals
      try replace HEac := Lib.hid (HEac.out rfl)
      go_enter Tryd.func9, Tryd.ntmps9
      go_wp2_with (first
        | (go_at_call 10; ((with_reducible refine (HLo.out _ hb0 _ (by simp)).mono ?_); rintro e w2 ⟨rfl, hb2⟩); replace hb0 := stepB hb0 hb2; replace hB0 := hB0.below hb2; clear HLo z0 z1 z2 z3; obtain ⟨z0, z1, z2, z3⟩ := hB0.cells)
        | (go_at_call 12; ((with_reducible refine (HAw.out _ hb0).mono ?_); rintro e w3 ⟨rfl, hb3⟩); replace hb0 := stepB hb0 hb3; replace hB0 := hB0.below hb3; clear HAw z0 z1 z2 z3; obtain ⟨z0, z1, z2, z3⟩ := hB0.cells)
        | (go_at_call 19; ((with_reducible refine (HRa.out _ hb0).mono ?_); rintro e w4 ⟨pa, ca, rfl, hpa, hb4⟩); replace hb0 := stepB hb0 hb4; replace hB0 := hB0.below hb4; clear HRa z0 z1 z2 z3; obtain ⟨z0, z1, z2, z3⟩ := hB0.cells)
        | (go_at_call 19; ((with_reducible refine (HRb.out _ hb0).mono ?_); rintro e w5 ⟨pb, cb, rfl, hpb, hb5⟩); replace hb0 := stepB hb0 hb5; replace hB0 := hB0.below hb5; replace hpa := hpa.below hb5; clear HRb z0 z1 z2 z3; obtain ⟨z0, z1, z2, z3⟩ := hB0.cells)
        | (go_at_call 18; ((with_reducible refine (HCl.out _ hb0).mono ?_); rintro e w6 ⟨pc, cc, rfl, hpc, hb6⟩); clear HCl z0 z1 z2 z3; have hR := RSt.mk (stepB hb0 hb6) (hB0.below hb6) (hpa.below hb6) (hpb.below hb6) hpc; clear hpa hpb hpc hB0 hb0; obtain ⟨z0, z1, z2, z3⟩ := hR.n.cells)
        | (go_at_call 21; ((with_reducible refine (HEab.out _ _ _ _ _ hR.a hR.bb).mono ?_); rintro e w7 ⟨rfl, hb7⟩); replace hR := hR.below hb7; clear HEab z0 z1 z2 z3; obtain ⟨z0, z1, z2, z3⟩ := hR.n.cells)
        | (go_at_call 21; ((with_reducible refine (HEac.out _ _ _ _ _ hR.a hR.c).mono ?_); rintro e w8 ⟨rfl, hb8⟩); replace hR := hR.below hb8; clear HEac z0 z1 z2 z3; obtain ⟨z0, z1, z2, z3⟩ := hR.n.cells))
      have HR := Lib.hid hR
      clear hR z0 z1 z2 z3
      go_loopw [16, 17] (fun iv _ wr => ∃ i : Nat, i ≤ nn ∧ iv = .int .i64 i ∧ Hid (RSt w w.heap.size (.int .i64 d.V) (.int .i64 d.q0) (.slice A nn a) (.slice B nf b) pa pb pc La Lb Lc wr)) (fun iv _ _ => nn - (intOf iv).toNat)
      case atStart => exact ⟨0, by omega, rfl, HR⟩
      case round =>
        clear HR
        obtain ⟨i, hi, rfl, HR⟩ := hrel
        by_cases hi2 : i = nn
        · clear HF2
          obtain ⟨z0, z1, z2, z3⟩ := HR.out.n.cells
          rcases HD.out with ⟨S, T, nu, q, rfl, rfl, hS, hTT, hA1, hC1, hnu, hDi⟩ | hDi
          · have HDi := Lib.hid hDi
            clear hDi HD
            obtain ⟨p1, E1, l1, c1⟩ := HR.out.a S (by have := hnn.out; omega)
            obtain ⟨p2, E2, l2, c2⟩ := HR.out.a T (by have := hnn.out; omega)
            obtain ⟨p3, E3, l3, c3⟩ := HR.out.c S (by have := hnc.out; omega)
            obtain ⟨p4, E4, l4, c4⟩ := HR.out.c T (by have := hnc.out; omega)
            subst E1
            cases E2
            subst E3
            cases E4
            replace c1 : wr.cell? (p1.add S) = some (.int .i64 (nd La S)) := c1
            replace c2 : wr.cell? (p1.add T) = some (.int .i64 (nd La T)) := c2
            replace c3 : wr.cell? (p3.add S) = some (.int .i64 (nd Lc S)) := c3
            replace c4 : wr.cell? (p3.add T) = some (.int .i64 (nd Lc T)) := c4
            have HX := Lib.hid fun X (hX : Below wr.heap.size wr X) => show X.cell? (p1.add S) = some (.int .i64 (nd La S)) ∧ X.cell? (p1.add T) = some (.int .i64 (nd La T)) ∧ X.cell? (p3.add S) = some (.int .i64 (nd Lc S)) ∧ X.cell? (p3.add T) = some (.int .i64 (nd Lc T)) from
              ⟨(hX.cell (by rw [addr_block]; exact l1)).trans c1, (hX.cell (by rw [addr_block]; exact l1)).trans c2, (hX.cell (by rw [addr_block]; exact l3)).trans c3, (hX.cell (by rw [addr_block]; exact l3)).trans c4⟩
            have HB := Lib.hid HR.out.b
            clear c1 c2 c3 c4 l1 l2 l3 l4 HR
            generalize nd La S = xs at *
            generalize nd La T = xt at *
            generalize nd Lc S = ys at *
            generalize nd Lc T = yt at *
            have hSn : (S : Int) < (nn : Int) := by omega
            have hTn : (T : Int) < (nn : Int) := by omega
            subst hi2
            obtain ⟨Y, hY⟩ : ∃ Y, Y = decide ((nu : Int) ≤ (r : Int)) := ⟨_, rfl⟩
            rw [← hY] at hA1
            have hYs := hY.symm
            have hYt : decide (nu ≤ r) = Y := by rw [hY]; simp
            clear hY hnn hnb hnc
            cases q <;> cases Y
            all_goals
              simp only [Bool.and_true, Bool.and_false, Bool.true_and, Bool.false_and] at hA1
              have hG1 : ((xs != xt) == (xs != xt)) = true := by simp
              have hG3 : ((ys != yt) == (ys != yt)) = true := by simp
              conv at hG1 => lhs; rhs; rw [hA1]
              conv at hG3 => lhs; rhs; rw [hC1]
              go_wp2_with (go_at_call 25; ((with_reducible refine (HDi.out _ HB.out).mono ?_); rintro e w9 ⟨D9, c9, rfl, hb9⟩); obtain ⟨k1, k2, k3, k4⟩ := HX.out _ hb9; have HB9 := Lib.hid (stepB HB.out hb9); clear HDi HX HB z0 z1 z2 z3)
              go_quiet (fail)
              go_wp2
              go_ret
              exact ⟨rfl, stepB HB9.out (Ap.drewN_below _ _)⟩
          · have HDi := Lib.hid hDi
            have HB := Lib.hid HR.out.b
            clear hDi HD HR hnn hnb hnc
            subst hi2
            go_wp2_with (go_at_call 25; ((with_reducible refine (HDi.out _ HB.out).mono ?_); rintro e w9 ⟨rfl, hb9⟩); have HB9 := Lib.hid (stepB HB.out hb9); clear HDi HB z0 z1 z2 z3)
            go_ret
            exact ⟨rfl, HB9.out⟩
        · have hi1 : i < nn := by omega
          have hdi : decide ((i : Int) < (nn : Int)) = true := decide_eq_true (by omega)
          go_wp2
          obtain ⟨wq2, rfl⟩ : ∃ wq : World, wq = wr := ⟨_, rfl⟩
          go_loopw [17] (fun jv wr => ∃ j : Nat, j ≤ nn ∧ jv = .int .i64 j ∧ Hid (RSt w w.heap.size (.int .i64 d.V) (.int .i64 d.q0) (.slice A nn a) (.slice B nf b) pa pb pc La Lb Lc wr)) (fun jv _ => nn - (intOf jv).toNat)
          case atStart => exact ⟨0, by omega, rfl, HR⟩
          case round =>
            clear HR
            obtain ⟨j, hj, rfl, HR⟩ := hrel
            by_cases hj2 : j = nn
            · subst hj2
              go_wp2
              go_roundw
              case rel => exact ⟨i + 1, by omega, by go_num, HR⟩
              case measure => simp [intOf]; omega
            · have hj1 : j < nn := by omega
              have hdj : decide ((j : Int) < (nn : Int)) = true := decide_eq_true (by omega)
              obtain ⟨p1, E1, l1, c1⟩ := HR.out.a i (by have := hnn.out; omega)
              obtain ⟨p2, E2, l2, c2⟩ := HR.out.a j (by have := hnn.out; omega)
              obtain ⟨p3, E3, l3, c3⟩ := HR.out.bb i (by have := hnb.out; omega)
              obtain ⟨p4, E4, l4, c4⟩ := HR.out.bb j (by have := hnb.out; omega)
              have hF := HF2.out i j hi1 hj1
              have HR2 := Lib.hid fun q => HR.out.below (Ap.drewN_below wr q)
              clear HR
              subst E1
              cases E2
              subst E3
              cases E4
              replace c1 : wr.cell? (p1.add i) = some (.int .i64 (nd La i)) := c1
              replace c2 : wr.cell? (p1.add j) = some (.int .i64 (nd La j)) := c2
              replace c3 : wr.cell? (p3.add i) = some (.int .i64 (nd Lb i)) := c3
              replace c4 : wr.cell? (p3.add j) = some (.int .i64 (nd Lb j)) := c4
              have hin : (i : Int) < (nn : Int) := by omega
              have hjn : (j : Int) < (nn : Int) := by omega
              generalize nd La i = xi at *
              generalize nd La j = xj at *
              generalize nd Lb i = yi at *
              generalize nd Lb j = yj at *
              by_cases hyy : yi = yj
              · have hxx := hF hyy
                subst hyy
                subst hxx
                have h1 : (yi == yi) = true := by simp
                have h2 : (xi != xi) = false := by simp
                clear hF
                go_wp2
                go_quiet (fail)
                go_wp2
                go_roundw
                case rel => exact ⟨j + 1, by omega, by go_num, HR2.out _⟩
                case measure => simp [intOf]; omega
              · have h1 : (yi == yj) = false := by rw [beq_eq_false_iff_ne]; exact hyy
                clear hF hyy
                go_wp2
                go_quiet (fail)
                go_wp2
                go_roundw
                case rel => exact ⟨j + 1, by omega, by go_num, HR2.out _⟩
                case measure => simp [intOf]; omega
  · have hBad : Hid (∀ X, Below w.heap.size w X → ∀ z, Calls Tryd.prog 19 #[.agg #[.int .i64 d.V, .int .i64 d.q0, .slice A d.nx.length a, .slice B d.fi.length b], .int .i64 z] X fun e w' => e = .returned (.tuple #[.slice none 0 0, .int .i64 (chkD d)]) ∧ Below X.heap.size X w') := fun X hX z => Rounds_bad d A B a b X (hx.below hX) hlen h0 z
    have hCl := Lib.hid fun X (hX : Below w.heap.size w X) => Classes_bad d A B a b X (hx.below hX) hlen h0
    have hCk := Lib.hid fun X (hX : Below w.heap.size w X) => CheckD_any d A B a b X (hx.below hX) hlen
    have hne : (chkD d != 0) = true := by rw [bne_iff_ne]; exact h0
    have hee : (chkD d == chkD d) = true := by simp
    clear hx hlen hT h0
    generalize chkD d = E at *
    generalize d.nx.length = nn at *
    generalize d.fi.length = nf at *
    obtain ⟨z0, z1, z2, z3⟩ := hB0.cells
    go_enter Tryd.func9, Tryd.ntmps9
    go_wp2_with (first
      | (go_at_call 10; ((with_reducible refine (HLo.out _ hb0 _ (by simp)).mono ?_); rintro e w2 ⟨rfl, hb2⟩); replace hb0 := stepB hb0 hb2; replace hB0 := hB0.below hb2; clear HLo z0 z1 z2 z3; obtain ⟨z0, z1, z2, z3⟩ := hB0.cells)
      | (go_at_call 12; ((with_reducible refine (HAw.out _ hb0).mono ?_); rintro e w3 ⟨rfl, hb3⟩); replace hb0 := stepB hb0 hb3; replace hB0 := hB0.below hb3; clear HAw z0 z1 z2 z3; obtain ⟨z0, z1, z2, z3⟩ := hB0.cells)
      | (go_at_call 19; ((with_reducible refine (hBad.out _ hb0 _).mono ?_); rintro e w4 ⟨rfl, hb4⟩); replace hb0 := stepB hb0 hb4; replace hB0 := hB0.below hb4; clear z0 z1 z2 z3; obtain ⟨z0, z1, z2, z3⟩ := hB0.cells)
      | (go_at_call 18; ((with_reducible refine (hCl.out _ hb0).mono ?_); rintro e w6 ⟨rfl, hb6⟩); replace hb0 := stepB hb0 hb6; replace hB0 := hB0.below hb6; clear z0 z1 z2 z3; obtain ⟨z0, z1, z2, z3⟩ := hB0.cells)
      | (go_at_call 31; ((with_reducible refine (hCk.out _ hb0).mono ?_); rintro e w7 ⟨rfl, hb7⟩); replace hb0 := stepB hb0 hb7; clear z0 z1 z2 z3))
    go_ret
    exact ⟨rfl, hb0⟩
end
end Go.Proofs.YtkgeihambgbjdaaDoor.Mi
