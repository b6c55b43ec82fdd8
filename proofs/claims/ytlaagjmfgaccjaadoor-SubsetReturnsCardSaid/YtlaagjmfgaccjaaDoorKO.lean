/- The walk of SubsetReturns. -/
import Derived.Test.YtlaagjmfgaccjaaDoorKN
namespace Go.Proofs.YtlaagjmfgaccjaaDoor.Sb
open Go Go.RowKit Go.Proofs.YtlaagjmfgaccjaaDoor Go.Proofs.YtlaagjmfgaccjaaDoor.Cb
open Go.Proofs.YtlaagjmfgaccjaaDoor.Nf (Na Ed ed NaAt NaLen Blk Blk.new Blk.below Blk.cells OwnN chkN accW wrongN wordE Bys drew_below EdOk ok_chk InJ Check6_any)
open Go.Proofs.YtlaagjmfgaccjaaDoor.Dg (Tabs tb tb_mem)
set_option linter.unusedVariables false
set_option linter.unusedSimpArgs false
set_option maxRecDepth 100000
section
variable (d : Da) (A B : Option Addr) (a b : Nat) (D : Option Addr) (l : List Nat) (dl : Nat) (w : World)
theorem toN_len {d : Da} (hO : OkD d) (h512 : d.nx.length * 2 ^ d.V.toNat ≤ 512) : NaLen (toN d) :=
  ⟨by show 1 ≤ 1000000; decide, by have := finT_len d d.nx.length; have := hO.n4; show (finT d d.nx.length).length ≤ _; omega, by show (edsT d d.nx.length).length ≤ _; rw [edsT_len hO _ (Nat.le_refl _)]; omega⟩
theorem nfaAccepts_any (n : Na) (A B C : Option Addr) (a b c : Nat) (w : World) (hx : NaAt w n A B C) (hl : NaLen n) (D : Option Addr) (l : List Nat) (dl : Nat) (hw : Bys w D l) (h8 : ∀ y ∈ l, y < 256) (hll : l.length ≤ 1000000) :
    Calls Tryd.prog 10 #[.agg #[.int .i64 n.V, .int .i64 n.S, .slice A n.st.length a, .slice B n.fi.length b, .slice C n.es.length c], .slice D l.length dl] w fun e w' => e = .returned (.tuple #[.bool (if wrongN n l = 0 then accW n l else false), .int .i64 (wrongN n l)]) ∧ Below w.heap.size w w' := by
  by_cases h0 : wrongN n l = 0
  · rw [if_pos h0]
    have := Nf.Accepts_good n A B C a b c w hx hl D l dl hw h8 hll h0
    rw [h0]
    exact this
  · rw [if_neg h0]
    exact Nf.Accepts_bad n A B C a b c w hx hl D l dl hw h8 hll h0
set_option maxHeartbeats 8000000 in
theorem subsetReturns_walk (hx : DaAt w d A B) (m1 : d.nx.length ≤ maxLen) (m2 : d.fi.length ≤ maxLen) (m3 : ∀ r ∈ d.nx, r.length ≤ maxLen) (hD : Bys w D l) (h8 : ∀ y ∈ l, y < 256) (hll : l.length ≤ maxLen) (hT : Tabs2 w) :
    Calls Tryd.prog 8 #[.agg #[.int .i64 d.V, .int .i64 d.q0, .slice A d.nx.length a, .slice B d.fi.length b], .slice D l.length dl] w fun e w' => e = .returned (.bool true) ∧ Below w.heap.size w w' := by
  unfold maxLen at hll
  have HAw := Lib.hid fun X (hX : Below w.heap.size w X) => awake_any7 X (hT.below hX)
  have HLo : Hid (∀ X (hX : Below w.heap.size w X) g, g = X.heap.size → Calls Tryd.prog 22 #[.slice (some ⟨g, 0, none⟩) 1 1] (X.alloc (.cells #[.int .i64 d.V, .int .i64 d.q0, .slice A d.nx.length a, .slice B d.fi.length b] 54)) fun e w' => e = .returned (.bool (longD d)) ∧ Below X.heap.size X w') := fun X hX g hg => by
    subst hg
    exact Long7_any d A B a b X (hx.below hX) m1 m2 m3
  have hB0 := Blk4.new w (.int .i64 d.V) (.int .i64 d.q0) (.slice A d.nx.length a) (.slice B d.fi.length b)
  have hb0 := bal (Below.refl w.heap.size w) (.cells #[.int .i64 d.V, .int .i64 d.q0, .slice A d.nx.length a, .slice B d.fi.length b] 54)
  by_cases hlong : longD d = true ∨ 100 < l.length
  · have hor : (longD d = true) ∨ (longD d = false ∧ decide (100 < (l.length : Int)) = true) := by
      cases hc : longD d with
      | true => exact .inl rfl
      | false => exact .inr ⟨rfl, decide_eq_true (by rcases hlong with h | h; (rw [hc] at h; cases h); omega)⟩
    clear hlong hx m1 m2 m3 hD h8
    obtain ⟨z0, z1, z2, z3⟩ := hB0.cells
    generalize l.length = nl at *
    generalize longD d = L at *
    rcases hor with rfl | ⟨rfl, hd⟩
    all_goals
      go_enter Tryd.func8, Tryd.ntmps8
      go_wp2_with (first
        | (go_at_call 22; ((with_reducible refine (HLo.out _ hb0 _ (by simp)).mono ?_); rintro e w2 ⟨rfl, hb2⟩); replace hb0 := stepB hb0 hb2)
        | (go_at_call 23; ((with_reducible refine (HAw.out _ hb0).mono ?_); rintro e w3 ⟨rfl, hb3⟩)))
      go_ret
      exact ⟨rfl, stepB hb0 hb3⟩
  have hL : longD d = false := by
    cases hc : longD d with
    | true => exact absurd (.inl hc) hlong
    | false => rfl
  have hl100 : l.length ≤ 100 := by
    by_cases h1 : 100 < l.length
    · exact absurd (.inr h1) hlong
    · omega
  have hd2 : decide (100 < (l.length : Int)) = false := decide_eq_false (by omega)
  have hlen := longD_len hL
  rw [hL] at HLo
  clear hlong hL m1 m2 m3
  by_cases h0 : chkD d = 0
  · have hO := okD_of h0
    by_cases hbig : 64 < d.nx.length ∨ 512 < d.nx.length * 2 ^ d.V.toNat
    · have HTo := Lib.hid fun X (hX : Below w.heap.size w X) => ToNFA_long d A B a b X (hx.below hX) hlen h0 hbig
      have HCk := Lib.hid fun X (hX : Below w.heap.size w X) => CheckD_any d A B a b X (hx.below hX) hlen
      rw [h0] at HCk
      clear hx hlen hT hD h8 h0 hbig hO
      generalize d.nx.length = nn at *
      generalize d.fi.length = nf at *
      generalize l.length = nl at *
      obtain ⟨z0, z1, z2, z3⟩ := hB0.cells
      go_enter Tryd.func8, Tryd.ntmps8
      go_wp2_with (first
        | (go_at_call 22; ((with_reducible refine (HLo.out _ hb0 _ (by simp)).mono ?_); rintro e w2 ⟨rfl, hb2⟩); replace hb0 := stepB hb0 hb2; replace hB0 := hB0.below hb2; clear HLo; clear z0 z1 z2 z3; obtain ⟨z0, z1, z2, z3⟩ := hB0.cells)
        | (go_at_call 23; ((with_reducible refine (HAw.out _ hb0).mono ?_); rintro e w3 ⟨rfl, hb3⟩); replace hb0 := stepB hb0 hb3; replace hB0 := hB0.below hb3; clear HAw; clear z0 z1 z2 z3; obtain ⟨z0, z1, z2, z3⟩ := hB0.cells)
        | (go_at_call 28; ((with_reducible refine (HTo.out _ hb0).mono ?_); rintro e w4 ⟨rfl, hb4⟩); clear HTo;
            have K4 := bal (Below.refl w4.heap.size w4) (.cells #[.int .i64 0, .int .i64 0, .slice none 0 0, .slice none 0 0, .slice none 0 0] 26);
            have hG := Blk.new w4 (.int .i64 0) (.int .i64 0) (.slice none 0 0) (.slice none 0 0) (.slice none 0 0);
            replace hb0 := stepB (stepB hb0 hb4) K4; replace hB0 := (hB0.below hb4).below K4; clear z0 z1 z2 z3; obtain ⟨z0, z1, z2, z3⟩ := hB0.cells; obtain ⟨x0, x1, x2, x3, x4⟩ := hG.cells)
        | (go_at_call 40; ((with_reducible refine (HCk.out _ hb0).mono ?_); rintro e w5 ⟨rfl, hb5⟩); replace hb0 := stepB hb0 hb5; replace hG := hG.below hb5; clear z0 z1 z2 z3 x0 x1 x2 x3 x4; obtain ⟨x0, x1, x2, x3, x4⟩ := hG.cells))
      go_ret
      exact ⟨rfl, hb0⟩
    · have h64 : d.nx.length ≤ 64 := by omega
      have h512 : d.nx.length * 2 ^ d.V.toNat ≤ 512 := by omega
      obtain ⟨F, hF, hFp⟩ := ren_some hO
      have hN := toN_ok hO h64 h512
      have hNl := toN_len hO h512
      have hDet := toN_det hO h64 h512 hF
      have hDD := toN_detD hO h64 h512 hFp
      have hM := ren_ok hO hF hFp
      have HTo := Lib.hid fun X (hX : Below w.heap.size w X) => ToNFA_good d A B a b X (hx.below hX) hlen h0 h64 h512
      have HNa : Hid (∀ X B1 A' B' C' a' b' c', OwnN B1 X (toN d) A' B' C' a' b' c' → NaAt X (toN d) A' B' C') := fun X B1 A' B' C' a' b' c' h => toN_at hO h64 h512 h
      have HA1 := Lib.hid fun X (hX : Below w.heap.size w X) => AcceptsD_any d A B a b X (hx.below hX) hlen D l dl (hD.below hX) h8 (by omega)
      have HA2 : Hid (∀ X A' B' C' a' b' c', Below w.heap.size w X → NaAt X (toN d) A' B' C' → Calls Tryd.prog 10 #[.agg #[.int .i64 d.V, .int .i64 d.nx.length, .slice A' 1 a', .slice B' (finT d d.nx.length).length b', .slice C' (edsT d d.nx.length).length c'], .slice D l.length dl] X fun e w' => e = .returned (.tuple #[.bool (accD d l), .int .i64 (wrongD d l)]) ∧ Below X.heap.size X w') := fun X A' B' C' a' b' c' hX hn => by
        have := nfaAccepts_any (toN d) A' B' C' a' b' c' X hn hNl D l dl (hD.below hX) h8 (by omega)
        rw [toN_acc hO h64 h512, toN_wrong hO h64 h512] at this
        exact this
      have HR1 := Lib.hid fun X (hX : Below w.heap.size w X) => ren_good d A B a b X (hx.below hX) (hT.below hX) h0 F hF hFp
      have HDt : Hid (∀ X A' B' C' a' b' c', Below w.heap.size w X → NaAt X (toN d) A' B' C' → Calls Tryd.prog 35 #[.agg #[.int .i64 d.V, .int .i64 d.nx.length, .slice A' 1 a', .slice B' (finT d d.nx.length).length b', .slice C' (edsT d d.nx.length).length c'], .int .i64 4096] X fun e w' =>
          ∃ A' a' B' b' C' c', e = .returned (.tuple #[.agg #[.int .i64 d.V, .int .i64 0, .slice A' F.length a', .slice B' F.length b'], .slice C' F.length c', .int .i64 0]) ∧ DaAt w' (renD d F) A' B' ∧ Tabs w' C' ((F.map one1).map elsI) ∧ Below X.heap.size X w') := fun X A' B' C' a' b' c' hX hn => by
        have := det_most (toN d) A' B' C' a' b' c' X hn hNl (hT.below hX) (ok_chk hN) (F.map one1) hDet
        rw [hDD, List.length_map] at this
        exact this
      have HC6 : Hid (∀ X A' B' C' a' b' c', NaAt X (toN d) A' B' C' → Calls Tryd.prog 13 #[.agg #[.int .i64 d.V, .int .i64 d.nx.length, .slice A' 1 a', .slice B' (finT d d.nx.length).length b', .slice C' (edsT d d.nx.length).length c']] X fun e w' => e = .returned (.int .i64 0) ∧ Below X.heap.size X w') := fun X A' B' C' a' b' c' hn => by
        have := Check6_any (toN d) A' B' C' a' b' c' X hn hNl
        rw [ok_chk hN] at this
        exact this
      have HEq : Hid (∀ X A' B' A'' B'' a' b' a'' b'', DaAt X (renD d F) A' B' → DaAt X (renD d F) A'' B'' → Calls Tryd.prog 29 #[.agg #[.int .i64 d.V, .int .i64 0, .slice A' F.length a', .slice B' F.length b'], .agg #[.int .i64 d.V, .int .i64 0, .slice A'' F.length a'', .slice B'' F.length b'']] X fun e w' => e = .returned (.bool true) ∧ Below X.heap.size X w') := fun X A' B' A'' B'' a' b' a'' b'' h1 h2 => by
        have := EqualDFA_same (renD d F) A' B' A'' B'' a' b' a'' b'' X h1 h2 hM.len
        rw [ren_nx, ren_fi] at this
        exact this
      have HOne : Hid (∀ X C', Tabs X C' ((F.map one1).map elsI) → ∀ k, k < F.length → ∃ ad p c, C' = some ad ∧ ad.block < X.heap.size ∧ X.cell? (ad.add k) = some (.slice p 1 c)) := fun X C' h k hk => by
        obtain ⟨ad, p, c, e, h1, h2, _⟩ := h k (by simpa using hk)
        have e3 : tb ((F.map one1).map elsI) k = [F[k]] := by
          unfold tb
          rw [List.getD_eq_getElem?_getD, List.map_map, List.getElem?_map, List.getElem?_eq_getElem hk]
          exact els_one hO h64 h512 (hFp _ (List.getElem_mem hk))
        rw [e3] at h2
        exact ⟨ad, p, c, e, h1, h2⟩
      have hee : (wrongD d l != wrongD d l) = false := by simp
      have haa : (accD d l != accD d l) = false := by simp
      have hfl : F.length ≤ 4096 := by have := ren_le hO hF; omega
      clear hx hlen hT hD h8 h0 hO hF hFp hM hN hNl hDet hDD h64 h512 hbig
      generalize renD d F = M at *
      generalize wrongD d l = E at *
      generalize accD d l = AE at *
      generalize (F.map one1).map elsI = SL at *
      generalize F.length = fl at *
      generalize toN d = N at *
      generalize (finT d d.nx.length).length = mf at *
      generalize (edsT d d.nx.length).length = me at *
      generalize d.nx.length = nn at *
      generalize d.fi.length = nf at *
      generalize l.length = nl at *
      obtain ⟨z0, z1, z2, z3⟩ := hB0.cells
      go_enter Tryd.func8, Tryd.ntmps8
      go_wp2_with (first
        | (go_at_call 22; ((with_reducible refine (HLo.out _ hb0 _ (by simp)).mono ?_); rintro e w2 ⟨rfl, hb2⟩); replace hb0 := stepB hb0 hb2; replace hB0 := hB0.below hb2; clear HLo; clear z0 z1 z2 z3; obtain ⟨z0, z1, z2, z3⟩ := hB0.cells)
        | (go_at_call 23; ((with_reducible refine (HAw.out _ hb0).mono ?_); rintro e w3 ⟨rfl, hb3⟩); replace hb0 := stepB hb0 hb3; replace hB0 := hB0.below hb3; clear HAw; clear z0 z1 z2 z3; obtain ⟨z0, z1, z2, z3⟩ := hB0.cells)
        | (go_at_call 28; ((with_reducible refine (HTo.out _ hb0).mono ?_); rintro e w4 ⟨A4, B4, C4, a4, b4, c4, rfl, hown, hb4⟩); clear HTo; have hna := HNa.out _ _ _ _ _ _ _ _ hown; clear hown;
            have K4 := bal (Below.refl w4.heap.size w4) (.cells #[.int .i64 d.V, .int .i64 nn, .slice A4 1 a4, .slice B4 mf b4, .slice C4 me c4] 26);
            have hG := Blk.new w4 (.int .i64 d.V) (.int .i64 nn) (.slice A4 1 a4) (.slice B4 mf b4) (.slice C4 me c4);
            replace hb0 := stepB (stepB hb0 hb4) K4; replace hB0 := (hB0.below hb4).below K4; replace hna := hna.below K4; clear z0 z1 z2 z3; obtain ⟨z0, z1, z2, z3⟩ := hB0.cells; obtain ⟨x0, x1, x2, x3, x4⟩ := hG.cells)
        | (go_at_call 39; ((with_reducible refine (HA1.out _ hb0).mono ?_); rintro e w6 ⟨rfl, hb6⟩); replace hb0 := stepB hb0 hb6; replace hB0 := hB0.below hb6; replace hna := hna.below hb6; replace hG := hG.below hb6; clear x0 x1 x2 x3 x4; obtain ⟨x0, x1, x2, x3, x4⟩ := hG.cells; clear z0 z1 z2 z3; obtain ⟨z0, z1, z2, z3⟩ := hB0.cells; clear HA1)
        | (go_at_call 10; ((with_reducible refine (HA2.out _ A4 B4 C4 a4 b4 c4 hb0 hna).mono ?_); rintro e w7 ⟨rfl, hb7⟩); replace hb0 := stepB hb0 hb7; replace hB0 := hB0.below hb7; replace hna := hna.below hb7; replace hG := hG.below hb7; clear x0 x1 x2 x3 x4; obtain ⟨x0, x1, x2, x3, x4⟩ := hG.cells; clear z0 z1 z2 z3; obtain ⟨z0, z1, z2, z3⟩ := hB0.cells; clear HA2)
        | (go_at_call 27; ((with_reducible refine (HR1.out _ hb0).mono ?_); rintro e w8 ⟨A8, a8, B8, b8, rfl, hda, hb8⟩); clear HR1;
            have K8 := bal (Below.refl w8.heap.size w8) (.cells #[.int .i64 d.V, .int .i64 0, .slice A8 fl a8, .slice B8 fl b8] 54);
            have hH := Blk4.new w8 (.int .i64 d.V) (.int .i64 0) (.slice A8 fl a8) (.slice B8 fl b8);
            replace hb0 := stepB (stepB hb0 hb8) K8; replace hB0 := (hB0.below hb8).below K8; replace hna := (hna.below hb8).below K8; replace hG := (hG.below hb8).below K8; replace hda := hda.below K8; clear z0 z1 z2 z3 x0 x1 x2 x3 x4; obtain ⟨z0, z1, z2, z3⟩ := hB0.cells; obtain ⟨x0, x1, x2, x3, x4⟩ := hG.cells; obtain ⟨y0, y1, y2, y3⟩ := hH.cells)
        | (go_at_call 35; ((with_reducible refine (HDt.out _ A4 B4 C4 a4 b4 c4 hb0 hna).mono ?_); rintro e w9 ⟨A9, a9, B9, b9, C9, c9, rfl, hdk, hts, hb9⟩); clear HDt;
            have K9 := bal (Below.refl w9.heap.size w9) (.cells #[.int .i64 d.V, .int .i64 0, .slice A9 fl a9, .slice B9 fl b9] 54);
            have hJ := Blk4.new w9 (.int .i64 d.V) (.int .i64 0) (.slice A9 fl a9) (.slice B9 fl b9);
            replace hb0 := stepB (stepB hb0 hb9) K9; replace hna := (hna.below hb9).below K9; replace hG := (hG.below hb9).below K9; replace hH := (hH.below hb9).below K9; replace hda := (hda.below hb9).below K9; replace hdk := hdk.below K9; replace hts := hts.below K9; clear z0 z1 z2 z3 x0 x1 x2 x3 x4 y0 y1 y2 y3; obtain ⟨x0, x1, x2, x3, x4⟩ := hG.cells; obtain ⟨y0, y1, y2, y3⟩ := hH.cells; obtain ⟨u0, u1, u2, u3⟩ := hJ.cells)
        | (go_at_call 13; ((with_reducible refine (HC6.out _ A4 B4 C4 a4 b4 c4 hna).mono ?_); rintro e w10 ⟨rfl, hb10⟩); replace hb0 := stepB hb0 hb10; replace hH := hH.below hb10; replace hJ := hJ.below hb10; replace hda := hda.below hb10; replace hdk := hdk.below hb10; replace hts := hts.below hb10; clear x0 x1 x2 x3 x4 y0 y1 y2 y3 u0 u1 u2 u3; obtain ⟨y0, y1, y2, y3⟩ := hH.cells; obtain ⟨u0, u1, u2, u3⟩ := hJ.cells; clear HC6)
        | (go_at_call 29; ((with_reducible refine (HEq.out _ A9 B9 A8 B8 a9 b9 a8 b8 hdk hda).mono ?_); rintro e w11 ⟨rfl, hb11⟩); replace hb0 := stepB hb0 hb11; replace hts := hts.below hb11; clear y0 y1 y2 y3 u0 u1 u2 u3; clear HEq))
      go_loopw [16] (fun i wr => ∃ (k : Nat), k ≤ fl ∧ i = .int .i64 k ∧ Below w.heap.size w wr ∧ Hid (Tabs wr C9 SL)) (fun i _ => fl - (intOf i).toNat)
      case atStart => exact ⟨0, by omega, rfl, hb0, hts⟩
      case round =>
        clear hb0 hts hna hG hH hJ hda hdk
        obtain ⟨k, hk, rfl, hb0, hts⟩ := hrel
        by_cases hlt : k < fl
        · obtain ⟨ad, p, c, rfl, hbk, hcell⟩ := HOne.out _ _ hts.out k hlt
          have hlt2 : (k : Int) < (fl : Int) := by omega
          go_wp2
          go_roundw
          case rel => exact ⟨k + 1, by omega, by go_num, hb0, hts⟩
          case measure => simp [intOf]; omega
        · obtain rfl : k = fl := by omega
          go_wp2
          go_ret
          exact ⟨rfl, hb0⟩
  · have HTo := Lib.hid fun X (hX : Below w.heap.size w X) => ToNFA_bad d A B a b X (hx.below hX) hlen h0
    have HCk := Lib.hid fun X (hX : Below w.heap.size w X) => CheckD_any d A B a b X (hx.below hX) hlen
    have hne : (chkD d != 0) = true := by rw [bne_iff_ne]; exact h0
    have hee : (chkD d == chkD d) = true := by simp
    clear hx hlen hT hD h8 h0
    generalize chkD d = E at *
    generalize d.nx.length = nn at *
    generalize d.fi.length = nf at *
    generalize l.length = nl at *
    obtain ⟨z0, z1, z2, z3⟩ := hB0.cells
    go_enter Tryd.func8, Tryd.ntmps8
    go_wp2_with (first
      | (go_at_call 22; ((with_reducible refine (HLo.out _ hb0 _ (by simp)).mono ?_); rintro e w2 ⟨rfl, hb2⟩); replace hb0 := stepB hb0 hb2; replace hB0 := hB0.below hb2; clear HLo; clear z0 z1 z2 z3; obtain ⟨z0, z1, z2, z3⟩ := hB0.cells)
      | (go_at_call 23; ((with_reducible refine (HAw.out _ hb0).mono ?_); rintro e w3 ⟨rfl, hb3⟩); replace hb0 := stepB hb0 hb3; replace hB0 := hB0.below hb3; clear HAw; clear z0 z1 z2 z3; obtain ⟨z0, z1, z2, z3⟩ := hB0.cells)
      | (go_at_call 28; ((with_reducible refine (HTo.out _ hb0).mono ?_); rintro e w4 ⟨rfl, hb4⟩); clear HTo;
          have K4 := bal (Below.refl w4.heap.size w4) (.cells #[.int .i64 0, .int .i64 0, .slice none 0 0, .slice none 0 0, .slice none 0 0] 26);
          have hG := Blk.new w4 (.int .i64 0) (.int .i64 0) (.slice none 0 0) (.slice none 0 0) (.slice none 0 0);
          replace hb0 := stepB (stepB hb0 hb4) K4; replace hB0 := (hB0.below hb4).below K4; clear z0 z1 z2 z3; obtain ⟨z0, z1, z2, z3⟩ := hB0.cells; obtain ⟨x0, x1, x2, x3, x4⟩ := hG.cells)
      | (go_at_call 40; ((with_reducible refine (HCk.out _ hb0).mono ?_); rintro e w5 ⟨rfl, hb5⟩); replace hb0 := stepB hb0 hb5; replace hG := hG.below hb5; clear z0 z1 z2 z3 x0 x1 x2 x3 x4; obtain ⟨x0, x1, x2, x3, x4⟩ := hG.cells))
    go_ret
    exact ⟨rfl, hb0⟩
end
end Go.Proofs.YtlaagjmfgaccjaaDoor.Sb
