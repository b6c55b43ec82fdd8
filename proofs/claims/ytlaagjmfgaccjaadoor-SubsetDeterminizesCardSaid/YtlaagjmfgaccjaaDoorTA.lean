/- The walk of SubsetDeterminizes. -/
import Derived.Test.YtlaagjmfgaccjaaDoorKW
import Derived.Test.YtlaagjmfgaccjaaDoorKZ
namespace Go.Proofs.YtlaagjmfgaccjaaDoor.Sb
open Go Go.RowKit Go.Proofs.YtlaagjmfgaccjaaDoor Go.Proofs.YtlaagjmfgaccjaaDoor.Cb
open Go.Proofs.YtlaagjmfgaccjaaDoor.Nf (Na Ed ed NaAt NaLen Blk Blk.new Blk.below Blk.cells chkN zvs EqualNFA_same CopyNFA_any refCheck6_any longB long_no long_len ok_of)
open Go.Proofs.YtlaagjmfgaccjaaDoor.Dg (Tabs tb tb_mem CanI)
set_option linter.unusedVariables false
set_option linter.unusedSimpArgs false
set_option maxRecDepth 100000
theorem SetsO.zero (B : Nat) (w : World) : SetsO B w (.slice none 0 0) [] := SetsO.nil B w
/-- What Determinize returns, on any automaton and any budget. -/
theorem det_res (n : Na) (bud : Int) : ∃ (rD : Da) (rS : List (List Int)) (E : Int), DaLen rD ∧ rS.length ≤ 1000000 ∧ (∀ l ∈ rS, l.length ≤ 1000000) ∧ ∀ (A B C : Option Addr) (a b c : Nat) (w : World), NaAt w n A B C → NaLen n → Tabs2 w →
    (Calls Tryd.prog 35 #[.agg #[.int .i64 n.V, .int .i64 n.S, .slice A n.st.length a, .slice B n.fi.length b, .slice C n.es.length c], .int .i64 bud] w fun e w' => ∃ A' a' B' b' C' c', e = .returned (.tuple #[.agg #[.int .i64 rD.V, .int .i64 rD.q0, .slice A' rD.nx.length a', .slice B' rD.fi.length b'], .slice C' rS.length c', .int .i64 E]) ∧ OwnD w.heap.size w' rD A' B' a' b' ∧ SetsO w.heap.size w' (.slice C' rS.length c') rS ∧ Below w.heap.size w w') ∧
    (Calls Tryd.prog 34 #[.agg #[.int .i64 n.V, .int .i64 n.S, .slice A n.st.length a, .slice B n.fi.length b, .slice C n.es.length c], .int .i64 bud] w fun e w' => ∃ A' a' B' b' C' c', e = .returned (.tuple #[.agg #[.int .i64 rD.V, .int .i64 rD.q0, .slice A' rD.nx.length a', .slice B' rD.fi.length b'], .slice C' rS.length c', .int .i64 E]) ∧ DaAt w' rD A' B' ∧ Tabs w' C' rS ∧ Below w.heap.size w w') := by
  have hz : DaLen zeroD := ⟨by decide, by decide, fun r hr => by cases hr⟩
  have hzt : ∀ w : World, Tabs w none [] := fun w => (SetsO.nil 0 w).tabs rfl
  by_cases h0 : chkN n = 0
  · by_cases hb : 1 ≤ bud ∧ bud ≤ 4096
    · obtain ⟨bn, rfl⟩ := Int.eq_ofNat_of_zero_le (show 0 ≤ bud by omega)
      have hb1 : 1 ≤ bn := by omega
      have hb2 : bn ≤ 4096 := by omega
      have hO := ok_of h0
      have hfe := found_els hO bn
      cases hd : detN n bn with
      | none =>
        rw [hd] at hfe
        refine ⟨zeroD, [], 10, hz, by decide, (fun l hl => by cases hl), fun A B C a b c w hx hl hT => ⟨?_, ?_⟩⟩
        · exact (Determinize_none n A B C a b c w hx hl bn hT h0 hb1 hb2 hd).mono fun e w' ⟨h1, h2⟩ => ⟨none, 0, none, 0, none, 0, h1, OwnD.zero _ _, SetsO.nil _ _, h2⟩
        · have hr := refDet_ok n A B C a b c w hx hl h0 bn hb1 hb2
          rw [hfe] at hr
          exact hr.mono fun e w' ⟨h1, h2⟩ => ⟨none, 0, none, 0, none, 0, h1, DaAt.zero _, hzt _, h2⟩
      | some F =>
        rw [hd] at hfe
        have hM := det_ok hO hb1 hb2 hd
        have hpn := det_pn hO hd
        have hfl : F.length ≤ 4096 := by have := (det_found hb1 hd).len; omega
        have hfi : (F.map elsI).map (flagR n) = F.map fun s => meetB s (ofL n.fi) := by
          rw [List.map_map]
          exact List.map_congr_left fun s hs => meet_els hO s (hpn s hs).2.1
        refine ⟨detD n F, F.map elsI, 0, hM.len, by rw [List.length_map]; omega, fun l hl => by
          obtain ⟨s, hs, rfl⟩ := List.mem_map.1 hl
          exact Nat.le_trans (elsI_small s) (by decide), fun A B C a b c w hx hl hT => ⟨?_, ?_⟩⟩
        · refine (Determinize_good n A B C a b c w hx hl bn hT h0 hb1 hb2 F hd).mono fun e w' ⟨rv, fv, sv, h1, h2, h3⟩ => ?_
          have hrows : ∀ l ∈ nums (succN n) F F.length, l.length ≤ 1000000 := hM.len.row
          have hs := h2.nx.sets hrows
          have hnl : (nums (succN n) F F.length).length = F.length := nums_len _ _ _ (Nat.le_refl _)
          obtain ⟨A', a', e1, _⟩ := hs.form
          obtain ⟨B', b', e2, _⟩ := Ap.own_form h2.fi
          obtain ⟨C', c', e3, _⟩ := h2.se.form
          have hfi2 := h2.fi
          have hse := h2.se
          rw [show (F.map fun s => Value.bool (meetB s (ofL n.fi))) = (F.map fun s => meetB s (ofL n.fi)).map Value.bool by rw [List.map_map]; rfl] at hfi2
          subst e1 e2 e3
          refine ⟨A', a', B', b', C', c', ?_, ⟨hs, ?_⟩, hse, h3⟩
          · rw [h1, det_fi]
            rfl
          · rw [det_fi]
            exact hfi2
        · have hr := refDet_ok n A B C a b c w hx hl h0 bn hb1 hb2
          rw [hfe] at hr
          refine hr.mono fun e w' ⟨A', a', B', b', C', c', h1, h2, h3, h4⟩ => ⟨A', a', B', b', C', c', ?_, ?_, h3, h4⟩
          · rw [det_nx, det_fi]
            rw [List.length_map] at h1 ⊢
            exact h1
          · rw [hfi, nums_els hO hpn, List.length_map] at h2
            exact h2
    · refine ⟨zeroD, [], 1, hz, by decide, (fun l hl => by cases hl), fun A B C a b c w hx hl hT => ⟨?_, ?_⟩⟩
      · have he : detE n bud = 1 := by unfold detE; rw [if_neg (by rw [h0]; simp), if_neg hb]
        have hr := Determinize_bad n A B C a b c w hx hl bud (.inr hb)
        rw [he] at hr
        exact hr.mono fun e w' ⟨h1, h2⟩ => ⟨none, 0, none, 0, none, 0, h1, OwnD.zero _ _, SetsO.nil _ _, h2⟩
      · exact (refDet_arg n A B C a b c w hx hl bud h0 hb).mono fun e w' ⟨h1, h2⟩ => ⟨none, 0, none, 0, none, 0, h1, DaAt.zero _, hzt _, h2⟩
  · refine ⟨zeroD, [], chkN n, hz, by decide, (fun l hl => by cases hl), fun A B C a b c w hx hl hT => ⟨?_, ?_⟩⟩
    · have he : detE n bud = chkN n := by unfold detE; rw [if_pos h0]
      have hr := Determinize_bad n A B C a b c w hx hl bud (.inl h0)
      rw [he] at hr
      exact hr.mono fun e w' ⟨h1, h2⟩ => ⟨none, 0, none, 0, none, 0, h1, OwnD.zero _ _, SetsO.nil _ _, h2⟩
    · exact (refDet_bad n A B C a b c w hx hl bud h0).mono fun e w' ⟨h1, h2⟩ => ⟨none, 0, none, 0, none, 0, h1, DaAt.zero _, hzt _, h2⟩
theorem CanR.low {I : Nat → Prop} {B B2 : Nat} {w : World} {A : Option Addr} {n : Nat} (h : CanR I B w A n) (hb : B2 ≤ B) : CanR I B2 w A n := fun k hk => by
  obtain ⟨ad, q, m, c, e, h0, h1, h2, h3, h4⟩ := h k hk
  exact ⟨ad, q, m, c, e, h0, h1, h2, fun j hj => by obtain ⟨ad', e', g1, g2, g3⟩ := h3 j hj; exact ⟨ad', e', Nat.le_trans hb g1, g2, g3⟩, h4⟩
section
variable (n : Na) (A B C : Option Addr) (a b c : Nat) (bud : Int) (w : World)
set_option maxHeartbeats 8000000 in
theorem subsetDeterminizes_walk (hx : NaAt w n A B C) (hM : NaMax7 n) (hI : -9223372036854775808 ≤ bud ∧ bud ≤ 9223372036854775807) (hT : Tabs2 w) :
    Calls Tryd.prog 6 #[.agg #[.int .i64 n.V, .int .i64 n.S, .slice A n.st.length a, .slice B n.fi.length b, .slice C n.es.length c], .int .i64 bud] w fun e w' => e = .returned (.bool true) ∧ Below w.heap.size w w' := by
  have HAw := Lib.hid fun X (hX : Below w.heap.size w X) => awake_any7 X (hT.below hX)
  have HLo := Lib.hid (Long6_any n A B C a b c w hM)
  have hB0 := Blk.new w (.int .i64 n.V) (.int .i64 n.S) (.slice A n.st.length a) (.slice B n.fi.length b) (.slice C n.es.length c)
  have hb0 := bal (Below.refl w.heap.size w) (.cells #[.int .i64 n.V, .int .i64 n.S, .slice A n.st.length a, .slice B n.fi.length b, .slice C n.es.length c] 26)
  cases hL : longB n with
  | true =>
    rw [hL] at HLo
    clear hx hM
    obtain ⟨z0, z1, z2, z3, z4⟩ := Blk.cells hB0
    go_enter Tryd.func6, Tryd.ntmps6
    go_wp2_with (first
      | (go_at_call 17; ((with_reducible refine (HLo.out _ _ (by simp)).mono ?_); rintro e w2 ⟨rfl, hb2⟩); replace hb0 := stepB hb0 hb2)
      | (go_at_call 23; ((with_reducible refine (HAw.out _ hb0).mono ?_); rintro e w3 ⟨rfl, hb3⟩)))
    go_ret
    exact ⟨rfl, stepB hb0 hb3⟩
  | false =>
    rw [hL] at HLo
    have hlen := long_len hL
    have HCk := Lib.hid fun X (hX : Below w.heap.size w X) => refCheck6_any n A B C a b c X (hx.below hX) hlen
    by_cases hbig : chkN n = 0 ∧ 7 < n.S
    · rw [hbig.1] at HCk
      have hdb : decide ((7 : Int) < n.S) = true := decide_eq_true hbig.2
      clear hx hM hlen hL hbig
      obtain ⟨z0, z1, z2, z3, z4⟩ := Blk.cells hB0
      go_enter Tryd.func6, Tryd.ntmps6
      go_wp2_with (first
        | (go_at_call 17; ((with_reducible refine (HLo.out _ _ (by simp)).mono ?_); rintro e w2 ⟨rfl, hb2⟩); replace hb0 := stepB hb0 hb2; replace hB0 := Blk.below hB0 hb2; clear z0 z1 z2 z3 z4; obtain ⟨z0, z1, z2, z3, z4⟩ := Blk.cells hB0)
        | (go_at_call 32; ((with_reducible refine (HCk.out _ hb0).mono ?_); rintro e w4 ⟨rfl, hb4⟩); replace hb0 := stepB hb0 hb4; replace hB0 := Blk.below hB0 hb4; clear z0 z1 z2 z3 z4; obtain ⟨z0, z1, z2, z3, z4⟩ := Blk.cells hB0)
        | (go_at_call 23; ((with_reducible refine (HAw.out _ hb0).mono ?_); rintro e w3 ⟨rfl, hb3⟩)))
      go_ret
      exact ⟨rfl, stepB hb0 hb3⟩
    · have hsm : (chkN n == 0) = false ∨ ((chkN n == 0) = true ∧ decide ((7 : Int) < n.S) = false) := by
        by_cases h : chkN n = 0
        · exact .inr ⟨beq_iff_eq.2 h, decide_eq_false fun h7 => hbig ⟨h, h7⟩⟩
        · exact .inl (beq_eq_false_iff_ne.2 h)
      obtain ⟨rD, rS, E, hrl, hsl, hsr, hD⟩ := det_res n bud
      have HCp := Lib.hid fun X (hX : Below w.heap.size w X) => CopyNFA_any n A B C a b c X (hx.below hX) hlen
      have HDr := Lib.hid fun X (hX : Below w.heap.size w X) => (hD A B C a b c X (hx.below hX) hlen (hT.below hX)).2
      have HDm := Lib.hid fun X (hX : Below w.heap.size w X) Ai Bi Ci ai bi ci (hi : NaAt X n Ai Bi Ci) => (hD Ai Bi Ci ai bi ci X hi hlen (hT.below hX)).1
      have HEd := Lib.hid fun X A1 B1 A2 B2 a1 b1 a2 b2 (h1 : DaAt X rD A1 B1) (h2 : DaAt X rD A2 B2) => EqualDFA_same rD A1 B1 A2 B2 a1 b1 a2 b2 X h1 h2 hrl
      have HEs := Lib.hid fun X C1 C2 c1 c2 (h1 : Tabs X C1 rS) (h2 : Tabs X C2 rS) => EqualRows_same C1 C2 rS c1 c2 X h1 h2 hsl hsr
      have HEn := Lib.hid fun X (hX : Below w.heap.size w X) A1 B1 C1 a1 b1 c1 (h1 : NaAt X n A1 B1 C1) => EqualNFA_same n A1 B1 C1 A B C a1 b1 c1 a b c X h1 (hx.below hX) hlen
      have HOd := Lib.hid fun (Bs : Nat) X A1 B1 a1 b1 (h : OwnD Bs X rD A1 B1 a1 b1) (hB : Bs ≤ X.heap.size) C2 c2 (h2 : SetsO Bs X (.slice C2 rS.length c2) rS) => over_own (fun Y => CanR (TyB X 3) Bs Y C2 rS.length) Bs rD A1 B1 a1 b1 X h hrl hB (h2.can rfl hsr) (fun X Y hb h => h.below hb) (fun Y p v hp hY => by
        by_cases h0 : 0 < rS.length
        · refine hY.set p v fun ad e e2 => ?_
          obtain ⟨Q, eQ, hoQ, _⟩ := h2
          have ht := TyB.of_own hoQ (g := ad.block) (by rw [e]; rfl)
          rcases hp with hp | hp
          · exact ht.other (t' := 3) (by decide) (e2 ▸ hp)
          · exact ht.other (t' := 4) (by decide) (e2 ▸ hp)
        · intro k hk; omega)
      have HOs := Lib.hid fun (Bs : Nat) (I : Nat → Prop) X C2 c2 (h2 : CanR I Bs X C2 rS.length) => OverRows_keep (fun _ => True) I Bs C2 rS.length c2 X hsl h2 trivial (fun _ _ _ _ _ => trivial)
      have hEE : (E != E) = false := by simp
      clear hx hM hlen hD hT hL hbig
      generalize chkN n = E6 at *
      generalize n.st.length = n1 at *
      generalize n.fi.length = n2 at *
      generalize n.es.length = n3 at *
      generalize hrn : rD.nx.length = rn at *
      generalize hrf : rD.fi.length = rf at *
      generalize hrs : rS.length = rs at *
      have HRS := Lib.hid hrs.symm
      clear hrn hrf hrs hrl hsl hsr
      rcases hsm with hsm | ⟨hsm, hsm2⟩
      all_goals
        obtain ⟨z0, z1, z2, z3, z4⟩ := Blk.cells hB0
        go_enter Tryd.func6, Tryd.ntmps6
        go_upto_region 5 with (first
          | (go_at_call 17; ((with_reducible refine (HLo.out _ _ (by simp)).mono ?_); rintro e w2 ⟨rfl, hb2⟩); replace hb0 := stepB hb0 hb2; replace hB0 := Blk.below hB0 hb2; clear HLo; clear z0 z1 z2 z3 z4; obtain ⟨z0, z1, z2, z3, z4⟩ := Blk.cells hB0)
          | (go_at_call 32; ((with_reducible refine (HCk.out _ hb0).mono ?_); rintro e w6 ⟨rfl, hb6⟩); clear HCk; replace hb0 := stepB hb0 hb6; replace hB0 := Blk.below hB0 hb6; clear z0 z1 z2 z3 z4; obtain ⟨z0, z1, z2, z3, z4⟩ := Blk.cells hB0)
          | (go_at_call 33; ((with_reducible refine (HCp.out _ hb0).mono ?_); rintro e w3 ⟨A3, B3, C3, a3, b3, c3, rfl, hb3, hin⟩); clear HCp;
              have K3 := bal (Below.refl w3.heap.size w3) (.cells #[.int .i64 n.V, .int .i64 n.S, .slice A3 n1 a3, .slice B3 n2 b3, .slice C3 n3 c3] 26);
              have hB3 := Blk.new w3 (.int .i64 n.V) (.int .i64 n.S) (.slice A3 n1 a3) (.slice B3 n2 b3) (.slice C3 n3 c3);
              replace hb0 := stepB (stepB hb0 hb3) K3; replace hB0 := Blk.below (Blk.below hB0 hb3) K3; replace hin := hin.below K3; clear z0 z1 z2 z3 z4; obtain ⟨z0, z1, z2, z3, z4⟩ := Blk.cells hB0)
          | (go_at_call 34; ((with_reducible refine (HDr.out _ hb0).mono ?_); rintro e w4 ⟨A4, a4, B4, b4, C4, c4, rfl, hwa, hws, hb4⟩); clear HDr;
              have K4 := bal (Below.refl w4.heap.size w4) (.cells #[.int .i64 rD.V, .int .i64 rD.q0, .slice A4 rn a4, .slice B4 rf b4] 54);
              have hB4 := Blk4.new w4 (.int .i64 rD.V) (.int .i64 rD.q0) (.slice A4 rn a4) (.slice B4 rf b4);
              replace hb0 := stepB (stepB hb0 hb4) K4; replace hB0 := Blk.below (Blk.below hB0 hb4) K4; replace hB3 := Blk.below (Blk.below hB3 hb4) K4; replace hin := (hin.below hb4).below K4; replace hwa := hwa.below K4; replace hws := hws.below K4; clear z0 z1 z2 z3 z4))
        generalize (w4.alloc (.cells #[.int .i64 rD.V, .int .i64 rD.q0, .slice A4 rn a4, .slice B4 rf b4] 54)) = wb at *
        generalize w4.heap.size = g4 at *
        generalize w3.heap.size = g3 at *
        have HB := Lib.hid (And.intro hB0 (And.intro hB3 (And.intro hB4 (And.intro hin (And.intro hwa (And.intro hws hb0))))))
        clear hB0 hB3 hB4 hin hwa hws hb0 K3 K4
        go_wp2
        go_loopw [9] (fun i wr => ∃ k : Nat, k ≤ 2 ∧ i = .int .i64 k ∧ Hid (Below wb.heap.size wb wr)) (fun i _ => 2 - (intOf i).toNat)
        case atStart => exact ⟨0, by omega, rfl, Below.refl _ _⟩
        case round =>
          obtain ⟨k, hk, rfl, HY⟩ := hrel
          have hY := HY.out
          obtain ⟨hB0, hB3, hB4, hin, hwa, hws, hb0⟩ := HB.out
          have hsz := hY.size
          replace hb0 := stepB hb0 hY
          replace hB0 := Blk.below hB0 hY
          replace hB3 := Blk.below hB3 hY
          replace hB4 := hB4.below hY
          replace hin := hin.below hY
          replace hwa := hwa.below hY
          replace hws := hws.below hY
          clear HY
          by_cases hk2 : k = 2
          · subst hk2
            clear hB0 hB3 hB4 hin hwa hws hY
            go_wp2_with (go_at_call 23; ((with_reducible refine (HAw.out _ hb0).mono ?_); rintro e w30 ⟨rfl, hb30⟩))
            go_ret
            exact ⟨rfl, stepB hb0 hb30⟩
          · have hk3 : k < 2 := by omega
            have hk4 : decide ((k : Int) < 2) = true := decide_eq_true (by omega)
            obtain ⟨z0, z1, z2, z3, z4⟩ := Blk.cells hB3
            obtain ⟨y0, y1, y2, y3, y4⟩ := Blk.cells hB0
            obtain ⟨x0, x1, x2, x3⟩ := hB4.cells
            go_wp2_with (first
              | (go_at_call 35; ((with_reducible refine (HDm.out _ hb0 A3 B3 C3 a3 b3 c3 hin).mono ?_); rintro e w10 ⟨A10, a10, B10, b10, C10, c10, rfl, ho10, hs10, hb10⟩); clear z0 z1 z2 z3 z4 y0 y1 y2 y3 y4 x0 x1 x2 x3; replace ho10 := OwnD.low ho10 hY.size; replace hs10 := SetsO.low hs10 hY.size;
                  have K10 := bal (Below.refl w10.heap.size w10) (.cells #[.int .i64 rD.V, .int .i64 rD.q0, .slice A10 rn a10, .slice B10 rf b10] 54);
                  have hG := Blk4.new w10 (.int .i64 rD.V) (.int .i64 rD.q0) (.slice A10 rn a10) (.slice B10 rf b10);
                  replace ho10 := OwnD.below ho10 K10; replace hs10 := SetsO.below hs10 K10; have hbq := stepB hb10 K10; replace hB0 := Blk.below hB0 hbq; replace hB3 := Blk.below hB3 hbq; replace hB4 := hB4.below hbq; replace hin := hin.below hbq; replace hwa := hwa.below hbq; replace hws := hws.below hbq; replace hb0 := stepB hb0 hbq; replace hY := stepB hY hbq; clear hbq;
                  obtain ⟨z0, z1, z2, z3, z4⟩ := Blk.cells hB3; obtain ⟨y0, y1, y2, y3, y4⟩ := Blk.cells hB0; obtain ⟨x0, x1, x2, x3⟩ := hB4.cells; obtain ⟨v0, v1, v2, v3⟩ := hG.cells)
              | (go_at_call 29; ((with_reducible refine (HEd.out _ A10 B10 A4 B4 a10 b10 a4 b4 (OwnD.at_ ho10) hwa).mono ?_); rintro e w12 ⟨rfl, hb12⟩); clear z0 z1 z2 z3 z4 y0 y1 y2 y3 y4 x0 x1 x2 x3 v0 v1 v2 v3; replace ho10 := OwnD.below ho10 hb12; replace hs10 := SetsO.below hs10 hb12; replace hG := hG.below hb12; replace hB0 := Blk.below hB0 hb12; replace hB3 := Blk.below hB3 hb12; replace hin := hin.below hb12; replace hws := hws.below hb12; replace hb0 := stepB hb0 hb12; replace hY := stepB hY hb12;
                  have ht10 := SetsO.tabs hs10 HRS.out; obtain ⟨z0, z1, z2, z3, z4⟩ := Blk.cells hB3; obtain ⟨y0, y1, y2, y3, y4⟩ := Blk.cells hB0; obtain ⟨v0, v1, v2, v3⟩ := hG.cells)
              | (go_at_call 36; ((with_reducible refine (HEs.out _ C10 C4 c10 c4 ht10 hws).mono ?_); rintro e w13 ⟨rfl, hb13⟩); clear z0 z1 z2 z3 z4 y0 y1 y2 y3 y4 v0 v1 v2 v3; replace ho10 := OwnD.below ho10 hb13; replace hs10 := SetsO.below hs10 hb13; replace hG := hG.below hb13; replace hB0 := Blk.below hB0 hb13; replace hB3 := Blk.below hB3 hb13; replace hin := hin.below hb13; replace hb0 := stepB hb0 hb13; replace hY := stepB hY hb13;
                  obtain ⟨z0, z1, z2, z3, z4⟩ := Blk.cells hB3; obtain ⟨y0, y1, y2, y3, y4⟩ := Blk.cells hB0; obtain ⟨v0, v1, v2, v3⟩ := hG.cells)
              | (go_at_call 20; ((with_reducible refine (HEn.out _ hb0 A3 B3 C3 a3 b3 c3 hin).mono ?_); rintro e w14 ⟨rfl, hb14⟩); clear z0 z1 z2 z3 z4 y0 y1 y2 y3 y4 v0 v1 v2 v3; replace ho10 := OwnD.below ho10 hb14; replace hs10 := SetsO.below hs10 hb14; replace hG := hG.below hb14; replace hY := stepB hY hb14;
                  obtain ⟨v0, v1, v2, v3⟩ := hG.cells)
              | (go_at_call 30; ((with_reducible refine (HOd.out wb.heap.size _ A10 B10 a10 b10 ho10 hY.size C10 c10 hs10).mono ?_); rintro e w15 ⟨rfl, hb15, hc15⟩); clear v0 v1 v2 v3 hB0 hB3 hB4 hin hwa hws hb0 ho10 hs10 hG; replace hY := hY.trans hb15)
              | (go_at_call 37; ((with_reducible refine (HOs.out wb.heap.size _ _ C10 c10 hc15).mono ?_); rintro e w16 ⟨rfl, hb16, _⟩); replace hY := hY.trans hb16))
            go_roundw
            case rel => exact ⟨k + 1, by omega, by go_num, hY⟩
            case measure => simp [intOf]; omega
end
end Go.Proofs.YtlaagjmfgaccjaaDoor.Sb
