/- The walk of MinimalWords. -/
import Derived.Test.YtkgeihambgbjdaaDoorPJ
namespace Go.Proofs.YtkgeihambgbjdaaDoor.Mi
open Go Go.RowKit Go.Proofs.YtkgeihambgbjdaaDoor Go.Proofs.YtkgeihambgbjdaaDoor.Cb Go.Proofs.YtkgeihambgbjdaaDoor.Sb
open Go.Proofs.YtkgeihambgbjdaaDoor.Nf (Bys zvs bvs ret_int ret_b drew_below)
open Go.Proofs.YtkgeihambgbjdaaDoor.Dg (Tabs tb tb_mem)
set_option linter.unusedVariables false
set_option linter.unusedSimpArgs false
set_option linter.unusedSectionVars false
set_option maxRecDepth 100000
/-- Two automata at two places, a list and what was before. -/
structure WSt (w : World) (g1 g2 g3 : Nat) (m : Da) (A1 B1 A2 B2 : Option Addr) (v0 v1 v2 v3 u0 u1 u2 u3 x0 x1 x2 x3 : Value) (X : World) : Prop where
  b : Below w.heap.size w X
  n1 : Blk4 X g1 v0 v1 v2 v3
  n2 : Blk4 X g2 u0 u1 u2 u3
  n3 : Blk4 X g3 x0 x1 x2 x3
  d1 : DaAt X m A1 B1
  d2 : DaAt X m A2 B2
theorem WSt.below {w : World} {g1 g2 g3 : Nat} {m : Da} {A1 B1 A2 B2 : Option Addr} {v0 v1 v2 v3 u0 u1 u2 u3 x0 x1 x2 x3 : Value} {X Y : World} (h : WSt w g1 g2 g3 m A1 B1 A2 B2 v0 v1 v2 v3 u0 u1 u2 u3 x0 x1 x2 x3 X) (hb : Below X.heap.size X Y) : WSt w g1 g2 g3 m A1 B1 A2 B2 v0 v1 v2 v3 u0 u1 u2 u3 x0 x1 x2 x3 Y :=
  ⟨stepB h.b hb, h.n1.below hb, h.n2.below hb, h.n3.below hb, h.d1.below hb, h.d2.below hb⟩
section
variable (d : Da) (A B : Option Addr) (a b : Nat) (D : Option Addr) (l : List Nat) (dl : Nat) (w : World)
set_option maxHeartbeats 16000000 in
theorem minimalWords_walk (hx : DaAt w d A B) (m1 : d.nx.length ≤ maxLen) (m2 : d.fi.length ≤ maxLen) (m3 : ∀ r ∈ d.nx, r.length ≤ maxLen) (hD : Bys w D l) (h8 : ∀ y ∈ l, y < 256) (hll : l.length ≤ maxLen) (hT : Tabs2 w) :
    Calls Tryd.prog 6 #[.agg #[.int .i64 d.V, .int .i64 d.q0, .slice A d.nx.length a, .slice B d.fi.length b], .slice D l.length dl] w fun e w' => e = .returned (.bool true) ∧ Below w.heap.size w w' := by
  unfold maxLen at hll
  have HAw := Lib.hid fun X (hX : Below w.heap.size w X) => awake_any8 X (hT.below hX)
  have HLo : Hid (∀ X (hX : Below w.heap.size w X) g, g = X.heap.size → Calls Tryd.prog 10 #[.slice (some ⟨g, 0, none⟩) 1 1] (X.alloc (.cells #[.int .i64 d.V, .int .i64 d.q0, .slice A d.nx.length a, .slice B d.fi.length b] 25)) fun e w' => e = .returned (.bool (longD d)) ∧ Below X.heap.size X w') := fun X hX g hg => by
    subst hg
    exact Long7_any d A B a b X (hx.below hX) m1 m2 m3
  have hB0 := Blk4.new w (.int .i64 d.V) (.int .i64 d.q0) (.slice A d.nx.length a) (.slice B d.fi.length b)
  have hb0 := bal (Below.refl w.heap.size w) (.cells #[.int .i64 d.V, .int .i64 d.q0, .slice A d.nx.length a, .slice B d.fi.length b] 25)
  by_cases hlong : longD d = true ∨ 100 < l.length
  · have hor : (longD d = true) ∨ (longD d = false ∧ decide (100 < (l.length : Int)) = true) := by
      cases hc : longD d with
      | true => exact .inl rfl
      | false => exact .inr ⟨rfl, decide_eq_true (by rcases hlong with h | h; (rw [hc] at h; cases h); omega)⟩
    clear hlong hx m1 m2 m3 hD h8
    obtain ⟨z0, z1, z2, z3⟩ := hB0.cells
    generalize l.length = nl at *
    generalize longD d = L at *
    rcases hor with rfl | ⟨rfl, hd⟩
    all_goals
      go_enter Tryd.func6, Tryd.ntmps6
      go_wp2_with (first
        | (go_at_call 10; ((with_reducible refine (HLo.out _ hb0 _ (by simp)).mono ?_); rintro e w2 ⟨rfl, hb2⟩); replace hb0 := stepB hb0 hb2)
        | (go_at_call 12; ((with_reducible refine (HAw.out _ hb0).mono ?_); rintro e w3 ⟨rfl, hb3⟩)))
      go_ret
      exact ⟨rfl, stepB hb0 hb3⟩
  have hL : longD d = false := by
    cases hc : longD d with
    | true => exact absurd (.inl hc) hlong
    | false => rfl
  have hl100 : l.length ≤ 100 := by
    by_cases h1 : 100 < l.length
    · exact absurd (.inr h1) hlong
    · omega
  have hd2 : decide (100 < (l.length : Int)) = false := decide_eq_false (by omega)
  have hlen := longD_len hL
  have h40 := (longD_no hL).1
  rw [hL] at HLo
  clear hlong hL m1 m2 m3
  by_cases h0 : chkD d = 0
  · have hO := okD_of h0
    obtain ⟨F, hF, hFp⟩ := ren_some hO
    have hOr := ren_ok hO hF hFp
    have hOm := min_ok hO hF hFp
    have hle := min_le hO hF hFp
    obtain ⟨F', hF', hFp'⟩ := ren_some hOm
    have hag := min_again hO hF hFp hF' hFp'
    have hfl := ren_le hO hF
    have hV : (minR (renD d F)).V = d.V := rfl
    have hq : (minR (renD d F)).q0 = 0 := rfl
    have hM1 : Hid (∀ X, Below w.heap.size w X → Calls Tryd.prog 17 #[.agg #[.int .i64 d.V, .int .i64 d.q0, .slice A d.nx.length a, .slice B d.fi.length b]] X fun e w' => ∃ A' a' B' b', e = .returned (.tuple #[.agg #[.int .i64 d.V, .int .i64 0, .slice A' (minR (renD d F)).nx.length a', .slice B' (minR (renD d F)).fi.length b'], .int .i64 0]) ∧ DaAt w' (minR (renD d F)) A' B' ∧ Below X.heap.size X w') := fun X hX =>
      (min_good d A B a b X (hx.below hX) (hT.below hX) h0 (by omega) F hF hFp rfl).mono fun e w' ⟨A', a', B', b', h1, h2, h3, _⟩ => ⟨A', a', B', b', h1, h2, h3⟩
    have hM2 : Hid (∀ X A' B' a' b', Below w.heap.size w X → DaAt X (minR (renD d F)) A' B' → Calls Tryd.prog 17 #[.agg #[.int .i64 d.V, .int .i64 0, .slice A' (minR (renD d F)).nx.length a', .slice B' (minR (renD d F)).fi.length b']] X fun e w' => ∃ A'' a'' B'' b'', e = .returned (.tuple #[.agg #[.int .i64 d.V, .int .i64 0, .slice A'' (minR (renD d F)).nx.length a'', .slice B'' (minR (renD d F)).fi.length b''], .int .i64 0]) ∧ DaAt w' (minR (renD d F)) A'' B'' ∧ Below X.heap.size X w') := fun X A' B' a' b' hX hd =>
      (min_good (minR (renD d F)) A' B' a' b' X hd (hT.below hX) (okD_chk hOm) (by omega) F' hF' hFp' hag).mono fun e w' ⟨A'', a'', B'', b'', h1, h2, h3, _⟩ => ⟨A'', a'', B'', b'', h1, h2, h3⟩
    have hRn := Lib.hid fun X (hX : Below w.heap.size w X) => ren_good d A B a b X (hx.below hX) (hT.below hX) h0 F hF hFp
    have hCl : Hid (∀ X A' B' a' b', Below w.heap.size w X → DaAt X (renD d F) A' B' → Calls Tryd.prog 18 #[.agg #[.int .i64 d.V, .int .i64 0, .slice A' F.length a', .slice B' F.length b']] X fun e w' => ∃ p c, e = .returned (.tuple #[.slice p F.length c, .int .i64 0]) ∧ Ints w' p (clsD (renD d F) (renD d F).nx.length) ∧ Below X.heap.size X w') := fun X A' B' a' b' hX hd => by
      have := classes_ints (renD d F) A' B' a' b' X hd (hT.below hX).tz (okD_chk hOr) (by rw [ren_nx]; omega)
      rw [ren_nx, ren_fi] at this
      rw [ren_nx]
      exact this.mono fun e w' ⟨g, h1, h2, h3⟩ => ⟨_, _, h1, h2, h3⟩
    have hA1 := Lib.hid fun X (hX : Below w.heap.size w X) => AcceptsD_any d A B a b X (hx.below hX) hlen D l dl (hD.below hX) h8 (by omega)
    have hA2 : Hid (∀ X A' B' a' b', Below w.heap.size w X → DaAt X (minR (renD d F)) A' B' → Calls Tryd.prog 32 #[.agg #[.int .i64 d.V, .int .i64 0, .slice A' (minR (renD d F)).nx.length a', .slice B' (minR (renD d F)).fi.length b'], .slice D l.length dl] X fun e w' => e = .returned (.tuple #[.bool (accD d l), .int .i64 (wrongD d l)]) ∧ Below X.heap.size X w') := fun X A' B' a' b' hX hd => by
      have := AcceptsD_any (minR (renD d F)) A' B' a' b' X hd hOm.len D l dl (hD.below hX) h8 (by omega)
      rw [min_wrong hO hF hFp, min_acc hO hF hFp] at this
      exact this
    have hEq : Hid (∀ X A' B' A'' B'' a' b' a'' b'', DaAt X (minR (renD d F)) A' B' → DaAt X (minR (renD d F)) A'' B'' → Calls Tryd.prog 20 #[.agg #[.int .i64 d.V, .int .i64 0, .slice A' (minR (renD d F)).nx.length a', .slice B' (minR (renD d F)).fi.length b'], .agg #[.int .i64 d.V, .int .i64 0, .slice A'' (minR (renD d F)).nx.length a'', .slice B'' (minR (renD d F)).fi.length b'']] X fun e w' => e = .returned (.bool true) ∧ Below X.heap.size X w') := fun X A' B' A'' B'' a' b' a'' b'' h1 h2 => EqualDFA_same (minR (renD d F)) A' B' A'' B'' a' b' a'' b'' X h1 h2 hOm.len
    have hCk : Hid (∀ X A' B' a' b', DaAt X (minR (renD d F)) A' B' → Calls Tryd.prog 31 #[.agg #[.int .i64 d.V, .int .i64 0, .slice A' (minR (renD d F)).nx.length a', .slice B' (minR (renD d F)).fi.length b']] X fun e w' => e = .returned (.int .i64 0) ∧ Below X.heap.size X w') := fun X A' B' a' b' hd => by
      have := CheckD_any (minR (renD d F)) A' B' a' b' X hd hOm.len
      rw [okD_chk hOm] at this
      exact this
    obtain ⟨fm, hfm⟩ : ∃ fm : Nat → Nat, ∀ j, (fst (clsD (renD d F) (renD d F).nx.length) j).length = fm j := ⟨_, fun j => rfl⟩
    have hf0 := Lib.hid (show fm 0 = 0 by rw [← hfm]; rfl)
    have hfn := Lib.hid (show fm F.length = (minR (renD d F)).nx.length by
      rw [← hfm]
      show _ = (nxM _ _ _).length
      unfold nxM
      rw [List.length_map, ren_nx])
    have hfj := Lib.hid (show ∀ j, j < F.length → fm j ≤ j ∧ ((0 ≤ nd (clsD (renD d F) (renD d F).nx.length) j ∧ nd (clsD (renD d F) (renD d F).nx.length) j < (fm j : Int) ∧ fm (j + 1) = fm j) ∨ (nd (clsD (renD d F) (renD d F).nx.length) j = (fm j : Int) ∧ fm (j + 1) = fm j + 1)) from fun j hj => by
      have h1 := fst_max hOr (k := (renD d F).nx.length) (j := j) (by rw [ren_nx]; exact hj)
      have h2 := fst_len (clsD (renD d F) (renD d F).nx.length) j
      rw [hfm] at h1 h2
      rw [hfm] at h1
      refine ⟨h2, ?_⟩
      rcases h1 with ⟨h3, h4, h5⟩ | ⟨h3, h5⟩
      · refine .inl ⟨h3, h4, ?_⟩
        rw [← hfm, ← hfm, h5]
      · exact .inr ⟨h3, h5⟩)
    have hLc := Lib.hid (show (clsD (renD d F) (renD d F).nx.length).length = F.length by rw [clsD_len hOr, ren_nx])
    have hsm := Lib.hid (show F.length ≤ 40 by omega)
    have hee : (wrongD d l == wrongD d l) = true := by simp
    have haa : (accD d l == accD d l) = true := by simp
    clear hx hlen hT hD h8 h0 hO hF hFp hOr hOm hle hF' hFp' hag hfl hV hq hfm
    generalize clsD (renD d F) (renD d F).nx.length = Lc at *
    generalize minR (renD d F) = M at *
    generalize renD d F = R at *
    generalize wrongD d l = E at *
    generalize accD d l = AE at *
    generalize F.length = fl at *
    generalize hMl : M.nx.length = ml at *
    generalize hMf : M.fi.length = mf at *
    clear hMl hMf
    generalize d.nx.length = nn at *
    generalize d.fi.length = nf at *
    generalize l.length = nl at *
    obtain ⟨z0, z1, z2, z3⟩ := hB0.cells
    go_enter Tryd.func6, Tryd.ntmps6
    go_wp2_with (first
      | (go_at_call 10; ((with_reducible refine (HLo.out _ hb0 _ (by simp)).mono ?_); rintro e w2 ⟨rfl, hb2⟩); replace hb0 := stepB hb0 hb2; replace hB0 := hB0.below hb2; clear HLo; clear z0 z1 z2 z3; obtain ⟨z0, z1, z2, z3⟩ := hB0.cells)
      | (go_at_call 12; ((with_reducible refine (HAw.out _ hb0).mono ?_); rintro e w3 ⟨rfl, hb3⟩); replace hb0 := stepB hb0 hb3; replace hB0 := hB0.below hb3; clear HAw; clear z0 z1 z2 z3; obtain ⟨z0, z1, z2, z3⟩ := hB0.cells)
      | (go_at_call 17; ((with_reducible refine (hM1.out _ hb0).mono ?_); rintro e w4 ⟨A4, a4, B4, b4, rfl, hda, hb4⟩); clear hM1;
          have K4 := bal (Below.refl w4.heap.size w4) (.cells #[.int .i64 d.V, .int .i64 0, .slice A4 ml a4, .slice B4 mf b4] 25);
          have hG := Blk4.new w4 (.int .i64 d.V) (.int .i64 0) (.slice A4 ml a4) (.slice B4 mf b4);
          replace hb0 := stepB (stepB hb0 hb4) K4; replace hB0 := (hB0.below hb4).below K4; replace hda := hda.below K4; clear z0 z1 z2 z3; obtain ⟨z0, z1, z2, z3⟩ := hB0.cells; obtain ⟨x0, x1, x2, x3⟩ := hG.cells)
      | (go_at_call 32; ((with_reducible refine (hA1.out _ hb0).mono ?_); rintro e w6 ⟨rfl, hb6⟩); replace hb0 := stepB hb0 hb6; replace hB0 := hB0.below hb6; replace hda := hda.below hb6; replace hG := hG.below hb6; clear hA1 z0 z1 z2 z3 x0 x1 x2 x3; obtain ⟨x0, x1, x2, x3⟩ := hG.cells; obtain ⟨z0, z1, z2, z3⟩ := hB0.cells)
      | (go_at_call 32; ((with_reducible refine (hA2.out _ A4 B4 a4 b4 hb0 hda).mono ?_); rintro e w7 ⟨rfl, hb7⟩); replace hb0 := stepB hb0 hb7; replace hB0 := hB0.below hb7; replace hda := hda.below hb7; replace hG := hG.below hb7; clear hA2 z0 z1 z2 z3 x0 x1 x2 x3; obtain ⟨x0, x1, x2, x3⟩ := hG.cells; obtain ⟨z0, z1, z2, z3⟩ := hB0.cells)
      | (go_at_call 17; ((with_reducible refine (hM2.out _ A4 B4 a4 b4 hb0 hda).mono ?_); rintro e w5 ⟨A5, a5, B5, b5, rfl, hda5, hb5⟩); clear hM2;
          have K5 := bal (Below.refl w5.heap.size w5) (.cells #[.int .i64 d.V, .int .i64 0, .slice A5 ml a5, .slice B5 mf b5] 25);
          have hH := Blk4.new w5 (.int .i64 d.V) (.int .i64 0) (.slice A5 ml a5) (.slice B5 mf b5);
          replace hb0 := stepB (stepB hb0 hb5) K5; replace hB0 := (hB0.below hb5).below K5; replace hG := (hG.below hb5).below K5; replace hda := (hda.below hb5).below K5; replace hda5 := hda5.below K5; clear x0 x1 x2 x3; clear z0 z1 z2 z3; obtain ⟨z0, z1, z2, z3⟩ := hB0.cells)
      | (go_at_call 33; ((with_reducible refine (hRn.out _ hb0).mono ?_); rintro e w8 ⟨A8, a8, B8, b8, rfl, hda8, hb8⟩); clear hRn;
          have K8 := bal (Below.refl w8.heap.size w8) (.cells #[.int .i64 d.V, .int .i64 0, .slice A8 fl a8, .slice B8 fl b8] 25);
          have hI := Blk4.new w8 (.int .i64 d.V) (.int .i64 0) (.slice A8 fl a8) (.slice B8 fl b8);
          have hW := WSt.mk (stepB (stepB hb0 hb8) K8) ((hG.below hb8).below K8) ((hH.below hb8).below K8) hI ((hda.below hb8).below K8) ((hda5.below hb8).below K8); replace hda8 := hda8.below K8; clear hb0 hB0 hG hH hda hda5 z0 z1 z2 z3; obtain ⟨y0, y1, y2, y3⟩ := hI.cells)
      | (go_at_call 18; ((with_reducible refine (hCl.out _ A8 B8 a8 b8 hW.b hda8).mono ?_); rintro e w9 ⟨pc, cc, rfl, hpc, hb9⟩); clear hCl; replace hW := hW.below hb9; clear y0 y1 y2 y3 hda8 hI))
    have HW := Lib.hid hW
    clear hW
    have HPC := Lib.hid hpc
    clear hpc
    go_loopw [17, 18] (fun mv iv wr => ∃ j : Nat, j ≤ fl ∧ iv = .int .i64 j ∧ mv = .int .i64 (fm j : Nat) ∧ Hid (Ints wr pc Lc) ∧ Hid (WSt w w4.heap.size w5.heap.size w8.heap.size M A4 B4 A5 B5 (.int .i64 d.V) (.int .i64 0) (.slice A4 ml a4) (.slice B4 mf b4) (.int .i64 d.V) (.int .i64 0) (.slice A5 ml a5) (.slice B5 mf b5) (.int .i64 d.V) (.int .i64 0) (.slice A8 fl a8) (.slice B8 fl b8) wr)) (fun _ iv _ => fl - (intOf iv).toNat)
    case atStart => exact ⟨0, by omega, rfl, by rw [hf0.out]; rfl, HPC, HW⟩
    case round =>
      clear HW HPC
      obtain ⟨j, hj, rfl, rfl, HPC, HW⟩ := hrel
      by_cases hj2 : j = fl
      · subst hj2
        have hfe := hfn.out
        clear hfj hfn hf0 hLc hsm HPC
        rw [hfe] at *
        have HW2 := HW.out
        clear HW
        obtain ⟨x0, x1, x2, x3⟩ := HW2.n1.cells
        obtain ⟨y0, y1, y2, y3⟩ := HW2.n2.cells
        go_wp2_with (first
          | (go_at_call 20; ((with_reducible refine (hEq.out _ A5 B5 A4 B4 a5 b5 a4 b4 HW2.d2 HW2.d1).mono ?_); rintro e w10 ⟨rfl, hb10⟩); replace HW2 := HW2.below hb10; clear x0 x1 x2 x3 y0 y1 y2 y3 hEq; obtain ⟨x0, x1, x2, x3⟩ := HW2.n1.cells)
          | (go_at_call 31; ((with_reducible refine (hCk.out _ A4 B4 a4 b4 HW2.d1).mono ?_); rintro e w11 ⟨rfl, hb11⟩); replace HW2 := HW2.below hb11; clear x0 x1 x2 x3 hCk))
        go_ret
        exact ⟨rfl, HW2.b⟩
      · have hj1 : j < fl := by omega
        have hdj : decide ((j : Int) < (fl : Int)) = true := decide_eq_true (by omega)
        obtain ⟨p1, E1, l1, c1⟩ := HPC.out j (by have := hLc.out; omega)
        subst E1
        replace c1 : wr.cell? (p1.add j) = some (.int .i64 (nd Lc j)) := c1
        have hjn : (j : Int) < (fl : Int) := by omega
        obtain ⟨hfjj, hor⟩ := hfj.out j hj1
        have hsm2 := hsm.out
        rcases hor with ⟨h1, h2, h3⟩ | ⟨h1, h3⟩
        · have H3 := Lib.hid h3
          clear h3
          generalize nd Lc j = z at *
          obtain ⟨N, hN⟩ : ∃ N, N = fm j := ⟨_, rfl⟩
          rw [← hN] at h2 hfjj
          have HN := Lib.hid hN
          rw [← hN]
          clear hN
          have hmx : max (N : Int) (z + 1) = (N : Int) := by omega
          have hle : decide ((N : Int) < z + 1) = false := decide_eq_false (by omega)
          go_wp2
          go_roundw
          case rel => exact ⟨j + 1, by omega, by go_num, by rw [H3.out, ← HN.out], HPC, HW⟩
          case measure => simp [intOf]; omega
        · have H3 := Lib.hid h3
          clear h3
          rw [h1] at c1
          clear h1
          obtain ⟨N, hN⟩ : ∃ N, N = fm j := ⟨_, rfl⟩
          rw [← hN] at c1 hfjj
          have HN := Lib.hid hN
          rw [← hN]
          clear hN
          have hmx : max (N : Int) ((N : Int) + 1) = (N : Int) + 1 := by omega
          have hle : decide ((N : Int) < (N : Int) + 1) = true := decide_eq_true (by omega)
          go_wp2
          go_roundw
          case rel => exact ⟨j + 1, by omega, by go_num, by rw [H3.out, ← HN.out]; go_num, HPC, HW⟩
          case measure => simp [intOf]; omega
  · have hBad := Lib.hid fun X (hX : Below w.heap.size w X) => Minimize_bad d A B a b X (hx.below hX) hlen h0
    have hCk := Lib.hid fun X (hX : Below w.heap.size w X) => CheckD_any d A B a b X (hx.below hX) hlen
    have hne : (chkD d != 0) = true := by rw [bne_iff_ne]; exact h0
    have hee : (chkD d == chkD d) = true := by simp
    clear hx hlen hT hD h8 h0
    generalize chkD d = E at *
    generalize d.nx.length = nn at *
    generalize d.fi.length = nf at *
    generalize l.length = nl at *
    obtain ⟨z0, z1, z2, z3⟩ := hB0.cells
    go_enter Tryd.func6, Tryd.ntmps6
    go_wp2_with (first
      | (go_at_call 10; ((with_reducible refine (HLo.out _ hb0 _ (by simp)).mono ?_); rintro e w2 ⟨rfl, hb2⟩); replace hb0 := stepB hb0 hb2; replace hB0 := hB0.below hb2; clear HLo; clear z0 z1 z2 z3; obtain ⟨z0, z1, z2, z3⟩ := hB0.cells)
      | (go_at_call 12; ((with_reducible refine (HAw.out _ hb0).mono ?_); rintro e w3 ⟨rfl, hb3⟩); replace hb0 := stepB hb0 hb3; replace hB0 := hB0.below hb3; clear HAw; clear z0 z1 z2 z3; obtain ⟨z0, z1, z2, z3⟩ := hB0.cells)
      | (go_at_call 17; ((with_reducible refine (hBad.out _ hb0).mono ?_); rintro e w4 ⟨rfl, hb4⟩); clear hBad;
          have K4 := bal (Below.refl w4.heap.size w4) (.cells #[.int .i64 0, .int .i64 0, .slice none 0 0, .slice none 0 0] 25);
          have hG := Blk4.new w4 (.int .i64 0) (.int .i64 0) (.slice none 0 0) (.slice none 0 0);
          replace hb0 := stepB (stepB hb0 hb4) K4; replace hB0 := (hB0.below hb4).below K4; clear z0 z1 z2 z3; obtain ⟨z0, z1, z2, z3⟩ := hB0.cells; obtain ⟨x0, x1, x2, x3⟩ := hG.cells)
      | (go_at_call 31; ((with_reducible refine (hCk.out _ hb0).mono ?_); rintro e w5 ⟨rfl, hb5⟩); replace hb0 := stepB hb0 hb5; replace hG := hG.below hb5; clear z0 z1 z2 z3 x0 x1 x2 x3; obtain ⟨x0, x1, x2, x3⟩ := hG.cells))
    go_ret
    exact ⟨rfl, hb0⟩
end
end Go.Proofs.YtkgeihambgbjdaaDoor.Mi
