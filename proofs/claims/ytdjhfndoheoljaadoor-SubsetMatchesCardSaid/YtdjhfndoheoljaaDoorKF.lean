/- The walk of SubsetMatches. -/
import Derived.Test.YtdjhfndoheoljaaDoorKE
import Derived.Test.YtdjhfndoheoljaaDoorKB
namespace Go.Proofs.YtdjhfndoheoljaaDoor.Sb
open Go Go.RowKit Go.Proofs.YtdjhfndoheoljaaDoor Go.Proofs.YtdjhfndoheoljaaDoor.Cb
open Go.Proofs.YtdjhfndoheoljaaDoor.Nf (Bys drew_below)
open Go.Proofs.YtdjhfndoheoljaaDoor.Dg (Tabs tb tb_mem)
set_option linter.unusedVariables false
set_option linter.unusedSimpArgs false
set_option maxRecDepth 100000
section
variable (d : Da) (A B : Option Addr) (a b : Nat) (D : Option Addr) (l : List Nat) (dl : Nat) (w : World)
set_option maxHeartbeats 8000000 in
theorem subsetMatches_walk (hx : DaAt w d A B) (m1 : d.nx.length ≤ maxLen) (m2 : d.fi.length ≤ maxLen) (m3 : ∀ r ∈ d.nx, r.length ≤ maxLen) (hD : Bys w D l) (h8 : ∀ y ∈ l, y < 256) (hll : l.length ≤ maxLen) (hT : Tabs2 w) :
    Calls Tryd.prog 3 #[.agg #[.int .i64 d.V, .int .i64 d.q0, .slice A d.nx.length a, .slice B d.fi.length b], .slice D l.length dl] w fun e w' => e = .returned (.bool true) ∧ Below w.heap.size w w' := by
  unfold maxLen at hll
  have HAw := Lib.hid fun X (hX : Below w.heap.size w X) => awake_any7 X (hT.below hX)
  have HLo : Hid (∀ X (hX : Below w.heap.size w X) g, g = X.heap.size → Calls Tryd.prog 14 #[.slice (some ⟨g, 0, none⟩) 1 1] (X.alloc (.cells #[.int .i64 d.V, .int .i64 d.q0, .slice A d.nx.length a, .slice B d.fi.length b] 25)) fun e w' => e = .returned (.bool (longD d)) ∧ Below X.heap.size X w') := fun X hX g hg => by
    subst hg
    exact Long7_any d A B a b X (hx.below hX) m1 m2 m3
  have hB0 := Blk4.new w (.int .i64 d.V) (.int .i64 d.q0) (.slice A d.nx.length a) (.slice B d.fi.length b)
  have hb0 := bal (Below.refl w.heap.size w) (.cells #[.int .i64 d.V, .int .i64 d.q0, .slice A d.nx.length a, .slice B d.fi.length b] 25)
  by_cases hlong : longD d = true ∨ 100 < l.length
  · have hor : (longD d = true) ∨ (longD d = false ∧ decide (100 < (l.length : Int)) = true) := by
      cases hc : longD d with
      | true => exact .inl rfl
      | false => exact .inr ⟨rfl, decide_eq_true (by rcases hlong with h | h; (rw [hc] at h; cases h); omega)⟩
    clear hlong hx m1 m2 m3 hD h8
    obtain ⟨z0, z1, z2, z3⟩ := hB0.cells
    generalize l.length = nl at *
    generalize longD d = L at *
    rcases hor with rfl | ⟨rfl, hd⟩
    all_goals
      go_enter Tryd.func3, Tryd.ntmps3
      go_wp2_with (first
        | (go_at_call 14; ((with_reducible refine (HLo.out _ hb0 _ (by simp)).mono ?_); rintro e w2 ⟨rfl, hb2⟩); replace hb0 := stepB hb0 hb2)
        | (go_at_call 15; ((with_reducible refine (HAw.out _ hb0).mono ?_); rintro e w3 ⟨rfl, hb3⟩)))
      go_ret
      exact ⟨rfl, stepB hb0 hb3⟩
  have hL : longD d = false := by
    cases hc : longD d with
    | true => exact absurd (.inl hc) hlong
    | false => rfl
  have hl100 : l.length ≤ 100 := by
    by_cases h1 : 100 < l.length
    · exact absurd (.inr h1) hlong
    · omega
  have hd2 : decide (100 < (l.length : Int)) = false := decide_eq_false (by omega)
  have hlen := longD_len hL
  rw [hL] at HLo
  clear hlong hL m1 m2 m3
  have HCp := Lib.hid fun X (hX : Below w.heap.size w X) => CopyDFA_any d A B a b X (hx.below hX) hlen
  have HCb := Lib.hid fun X (hX : Below w.heap.size w X) => CopyBytes6_any D l dl X (hD.below hX) (by omega)
  have HWr := Lib.hid fun X (hX : Below w.heap.size w X) => refWrong7_any d A B a b X (hx.below hX) hlen D l dl (hD.below hX) h8 (by omega)
  have HAr := Lib.hid fun X (hX : Below w.heap.size w X) => refAccepts7_any d A B a b X (hx.below hX) hlen D l dl (hD.below hX) h8 (by omega)
  have HCr := Lib.hid fun X (hX : Below w.heap.size w X) => refCheck7_any d A B a b X (hx.below hX) hlen
  have HRu := Lib.hid fun X A' B' a' b' D' c' (hX : DaAt X d A' B') (hY : Bys X D' l) => RunD_any d A' B' a' b' X hX hlen D' l c' hY h8 (by omega)
  have HAc := Lib.hid fun X A' B' a' b' D' c' (hX : DaAt X d A' B') (hY : Bys X D' l) => AcceptsD_any d A' B' a' b' X hX hlen D' l c' hY h8 (by omega)
  have HCk := Lib.hid fun X A' B' a' b' (hX : DaAt X d A' B') => CheckD_any d A' B' a' b' X hX hlen
  have HEq := Lib.hid fun X A' B' a' b' (hX : Below w.heap.size w X) (h : DaAt X d A' B') => EqualDFA_same d A' B' A B a' b' a b X h (hx.below hX) hlen
  have HEb := Lib.hid fun X D' c' (hX : Below w.heap.size w X) (h : Bys X D' l) => (EqualBytes6_same D' D l c' dl X h (hD.below hX) (by omega)).mono (R' := fun e w' => e = .returned (.bool true) ∧ Below X.heap.size X w') fun e w' ⟨h1, n, h2⟩ => ⟨h1, h2 ▸ Ap.drewN_below _ n⟩
  have hcc : (chkD d == chkD d) = true := by simp
  have hee : (wrongD d l == wrongD d l) = true := by simp
  have hrr : (runD d l == runD d l) = true := by simp
  have haa : (accD d l == accD d l) = true := by simp
  by_cases h0 : wrongD d l = 0
  · have HRr := Lib.hid fun X (hX : Below w.heap.size w X) => refRun7_any d A B a b X (hx.below hX) D l dl (hD.below hX) h0
    rw [h0] at HWr HAr HRu HAc hee
    clear hx hlen hT hD h8 h0
    generalize chkD d = CE at *
    generalize accD d l = AE at *
    generalize d.nx.length = nn at *
    generalize d.fi.length = nf at *
    generalize l.length = nl at *
    obtain ⟨z0, z1, z2, z3⟩ := hB0.cells
    generalize runD d l = R at *
    go_enter Tryd.func3, Tryd.ntmps3
    go_wp2_with (first
      | (go_at_call 14; ((with_reducible refine (HLo.out _ hb0 _ (by simp)).mono ?_); rintro e w2 ⟨rfl, hb2⟩); replace hb0 := stepB hb0 hb2; replace hB0 := hB0.below hb2; clear HLo; clear z0 z1 z2 z3; obtain ⟨z0, z1, z2, z3⟩ := hB0.cells)
      | (go_at_call 16; ((with_reducible refine (HCp.out _ hb0).mono ?_); rintro e w3 ⟨A3, B3, a3, b3, rfl, hda, hb3⟩); replace hb0 := stepB hb0 hb3; replace hB0 := hB0.below hb3; clear HCp; clear z0 z1 z2 z3; obtain ⟨z0, z1, z2, z3⟩ := hB0.cells)
      | (go_at_call 17; ((with_reducible refine (HCb.out _ hb0).mono ?_); rintro e w4 ⟨D4, c4, rfl, hby, hb4⟩); replace hb0 := stepB hb0 hb4; replace hB0 := hB0.below hb4; replace hda := hda.below hb4; clear HCb;
          have hG := Blk4.new w4 (.int .i64 d.V) (.int .i64 d.q0) (.slice A3 nn a3) (.slice B3 nf b3);
          have K4 := bal (Below.refl w4.heap.size w4) (.cells #[.int .i64 d.V, .int .i64 d.q0, .slice A3 nn a3, .slice B3 nf b3] 25);
          replace hb0 := stepB hb0 K4; replace hB0 := hB0.below K4; replace hda := hda.below K4; replace hby := hby.below K4; clear z0 z1 z2 z3; obtain ⟨z0, z1, z2, z3⟩ := hB0.cells; obtain ⟨x0, x1, x2, x3⟩ := hG.cells)
      | (go_at_call 18; ((with_reducible refine (HWr.out _ hb0).mono ?_); rintro e w5 ⟨rfl, hb5⟩); replace hb0 := stepB hb0 hb5; replace hB0 := hB0.below hb5; replace hda := hda.below hb5; replace hby := hby.below hb5; replace hG := hG.below hb5; clear x0 x1 x2 x3; obtain ⟨x0, x1, x2, x3⟩ := hG.cells; clear z0 z1 z2 z3; obtain ⟨z0, z1, z2, z3⟩ := hB0.cells; clear HWr)
      | (go_at_call 19; ((with_reducible refine (HRr.out _ hb0).mono ?_); rintro e w6 ⟨rfl, hb6⟩); replace hb0 := stepB hb0 hb6; replace hB0 := hB0.below hb6; replace hda := hda.below hb6; replace hby := hby.below hb6; replace hG := hG.below hb6; clear x0 x1 x2 x3; obtain ⟨x0, x1, x2, x3⟩ := hG.cells; clear z0 z1 z2 z3; obtain ⟨z0, z1, z2, z3⟩ := hB0.cells; clear HRr)
      | (go_at_call 20; ((with_reducible refine (HAr.out _ hb0).mono ?_); rintro e w7 ⟨rfl, hb7⟩); replace hb0 := stepB hb0 hb7; replace hB0 := hB0.below hb7; replace hda := hda.below hb7; replace hby := hby.below hb7; replace hG := hG.below hb7; clear x0 x1 x2 x3; obtain ⟨x0, x1, x2, x3⟩ := hG.cells; clear z0 z1 z2 z3; obtain ⟨z0, z1, z2, z3⟩ := hB0.cells; clear HAr)
      | (go_at_call 21; ((with_reducible refine (HRu.out _ A3 B3 a3 b3 D4 c4 hda hby).mono ?_); rintro e w8 ⟨rfl, hb8⟩); replace hb0 := stepB hb0 hb8; replace hB0 := hB0.below hb8; replace hda := hda.below hb8; replace hby := hby.below hb8; replace hG := hG.below hb8; clear x0 x1 x2 x3; obtain ⟨x0, x1, x2, x3⟩ := hG.cells; clear z0 z1 z2 z3; obtain ⟨z0, z1, z2, z3⟩ := hB0.cells; clear HRu)
      | (go_at_call 22; ((with_reducible refine (HAc.out _ A3 B3 a3 b3 D4 c4 hda hby).mono ?_); rintro e w9 ⟨rfl, hb9⟩); replace hb0 := stepB hb0 hb9; replace hB0 := hB0.below hb9; replace hda := hda.below hb9; replace hby := hby.below hb9; replace hG := hG.below hb9; clear x0 x1 x2 x3; obtain ⟨x0, x1, x2, x3⟩ := hG.cells; clear z0 z1 z2 z3; obtain ⟨z0, z1, z2, z3⟩ := hB0.cells; clear HAc))
    have KE : Below w9.heap.size w9 w9.drew := drew_below w9
    have HSx : Hid (∀ X, Below w9.heap.size w9 X → X.cell? ⟨w.heap.size, 0, none⟩ = some (.int .i64 d.V) ∧ X.cell? ⟨w.heap.size, 1, none⟩ = some (.int .i64 d.q0) ∧ X.cell? ⟨w.heap.size, 2, none⟩ = some (.slice A nn a) ∧ X.cell? ⟨w.heap.size, 3, none⟩ = some (.slice B nf b) ∧ X.cell? ⟨w4.heap.size, 0, none⟩ = some (.int .i64 d.V) ∧ X.cell? ⟨w4.heap.size, 1, none⟩ = some (.int .i64 d.q0) ∧ X.cell? ⟨w4.heap.size, 2, none⟩ = some (.slice A3 nn a3) ∧ X.cell? ⟨w4.heap.size, 3, none⟩ = some (.slice B3 nf b3) ∧ Below w9.heap.size w9 X) := fun X hX => ⟨(hB0.below hX).cells.1, (hB0.below hX).cells.2.1, (hB0.below hX).cells.2.2.1, (hB0.below hX).cells.2.2.2, (hG.below hX).cells.1, (hG.below hX).cells.2.1, (hG.below hX).cells.2.2.1, (hG.below hX).cells.2.2.2, hX⟩
    have hSd := HSx.out _ KE
    have G1 := Lib.hid fun X (hX : Below w9.heap.size w9 X) => HCk.out X A3 B3 a3 b3 (hda.below hX)
    have G2 := Lib.hid fun X (hX : Below w9.heap.size w9 X) => HCr.out X (stepB hb0 hX)
    have G3 := Lib.hid fun X (hX : Below w9.heap.size w9 X) => HEq.out X A3 B3 a3 b3 (stepB hb0 hX) (hda.below hX)
    have G4 := Lib.hid fun X (hX : Below w9.heap.size w9 X) => HEb.out X D4 c4 (stepB hb0 hX) (hby.below hX)
    have G5 := Lib.hid fun X (hX : Below w9.heap.size w9 X) => HAw.out X (stepB hb0 hX)
    clear HCk HCr HEq HEb HAw
    go_region_held3 (fun w' => w'.cell? ⟨w.heap.size, 0, none⟩ = some (.int .i64 d.V) ∧ w'.cell? ⟨w.heap.size, 1, none⟩ = some (.int .i64 d.q0) ∧ w'.cell? ⟨w.heap.size, 2, none⟩ = some (.slice A nn a) ∧ w'.cell? ⟨w.heap.size, 3, none⟩ = some (.slice B nf b) ∧ w'.cell? ⟨w4.heap.size, 0, none⟩ = some (.int .i64 d.V) ∧ w'.cell? ⟨w4.heap.size, 1, none⟩ = some (.int .i64 d.q0) ∧ w'.cell? ⟨w4.heap.size, 2, none⟩ = some (.slice A3 nn a3) ∧ w'.cell? ⟨w4.heap.size, 3, none⟩ = some (.slice B3 nf b3) ∧ Below w9.heap.size w9 w')
      (first | assumption)
      (first
        | (go_at_call 23; ((with_reducible refine (G1.out _ (by assumption)).mono ?_); rintro e wA ⟨rfl, hbwA⟩); have KwA : Below w9.heap.size w9 wA := stepB (by assumption) hbwA; have hSwA := HSx.out wA KwA)
        | (go_at_call 24; ((with_reducible refine (G2.out _ (by assumption)).mono ?_); rintro e wB ⟨rfl, hbwB⟩); have KwB : Below w9.heap.size w9 wB := stepB (by assumption) hbwB; have hSwB := HSx.out wB KwB)
        | (go_at_call 25; ((with_reducible refine (G3.out _ (by assumption)).mono ?_); rintro e wC ⟨rfl, hbwC⟩); have KwC : Below w9.heap.size w9 wC := stepB (by assumption) hbwC; have hSwC := HSx.out wC KwC)
        | (go_at_call 26; ((with_reducible refine (G4.out _ (by assumption)).mono ?_); rintro e wD ⟨rfl, hbwD⟩); have KwD : Below w9.heap.size w9 wD := stepB (by assumption) hbwD; have hSwD := HSx.out wD KwD)
        | (go_at_call 15; ((with_reducible refine (G5.out _ (by assumption)).mono ?_); rintro e wE ⟨rfl, hbwE⟩); have KwE : Below w9.heap.size w9 wE := stepB (by assumption) hbwE; have hSwE := HSx.out wE KwE))
    all_goals
      have K := KwE
      go_wp2
      go_ret
      exact ⟨rfl, stepB hb0 K⟩
  · have hr0 : runD d l = 0 := by unfold runD; rw [if_neg h0]
    have hne : (wrongD d l == 0) = false := by rw [beq_eq_false_iff_ne]; exact h0
    rw [hr0] at HRu hrr
    clear hx hlen hT hD h8 h0 hr0
    generalize chkD d = CE at *
    generalize accD d l = AE at *
    generalize d.nx.length = nn at *
    generalize d.fi.length = nf at *
    generalize l.length = nl at *
    obtain ⟨z0, z1, z2, z3⟩ := hB0.cells
    generalize wrongD d l = E at *
    go_enter Tryd.func3, Tryd.ntmps3
    go_wp2_with (first
      | (go_at_call 14; ((with_reducible refine (HLo.out _ hb0 _ (by simp)).mono ?_); rintro e w2 ⟨rfl, hb2⟩); replace hb0 := stepB hb0 hb2; replace hB0 := hB0.below hb2; clear HLo; clear z0 z1 z2 z3; obtain ⟨z0, z1, z2, z3⟩ := hB0.cells)
      | (go_at_call 16; ((with_reducible refine (HCp.out _ hb0).mono ?_); rintro e w3 ⟨A3, B3, a3, b3, rfl, hda, hb3⟩); replace hb0 := stepB hb0 hb3; replace hB0 := hB0.below hb3; clear HCp; clear z0 z1 z2 z3; obtain ⟨z0, z1, z2, z3⟩ := hB0.cells)
      | (go_at_call 17; ((with_reducible refine (HCb.out _ hb0).mono ?_); rintro e w4 ⟨D4, c4, rfl, hby, hb4⟩); replace hb0 := stepB hb0 hb4; replace hB0 := hB0.below hb4; replace hda := hda.below hb4; clear HCb;
          have hG := Blk4.new w4 (.int .i64 d.V) (.int .i64 d.q0) (.slice A3 nn a3) (.slice B3 nf b3);
          have K4 := bal (Below.refl w4.heap.size w4) (.cells #[.int .i64 d.V, .int .i64 d.q0, .slice A3 nn a3, .slice B3 nf b3] 25);
          replace hb0 := stepB hb0 K4; replace hB0 := hB0.below K4; replace hda := hda.below K4; replace hby := hby.below K4; clear z0 z1 z2 z3; obtain ⟨z0, z1, z2, z3⟩ := hB0.cells; obtain ⟨x0, x1, x2, x3⟩ := hG.cells)
      | (go_at_call 18; ((with_reducible refine (HWr.out _ hb0).mono ?_); rintro e w5 ⟨rfl, hb5⟩); replace hb0 := stepB hb0 hb5; replace hB0 := hB0.below hb5; replace hda := hda.below hb5; replace hby := hby.below hb5; replace hG := hG.below hb5; clear x0 x1 x2 x3; obtain ⟨x0, x1, x2, x3⟩ := hG.cells; clear z0 z1 z2 z3; obtain ⟨z0, z1, z2, z3⟩ := hB0.cells; clear HWr)
      | (go_at_call 20; ((with_reducible refine (HAr.out _ hb0).mono ?_); rintro e w7 ⟨rfl, hb7⟩); replace hb0 := stepB hb0 hb7; replace hB0 := hB0.below hb7; replace hda := hda.below hb7; replace hby := hby.below hb7; replace hG := hG.below hb7; clear x0 x1 x2 x3; obtain ⟨x0, x1, x2, x3⟩ := hG.cells; clear z0 z1 z2 z3; obtain ⟨z0, z1, z2, z3⟩ := hB0.cells; clear HAr)
      | (go_at_call 21; ((with_reducible refine (HRu.out _ A3 B3 a3 b3 D4 c4 hda hby).mono ?_); rintro e w8 ⟨rfl, hb8⟩); replace hb0 := stepB hb0 hb8; replace hB0 := hB0.below hb8; replace hda := hda.below hb8; replace hby := hby.below hb8; replace hG := hG.below hb8; clear x0 x1 x2 x3; obtain ⟨x0, x1, x2, x3⟩ := hG.cells; clear z0 z1 z2 z3; obtain ⟨z0, z1, z2, z3⟩ := hB0.cells; clear HRu)
      | (go_at_call 22; ((with_reducible refine (HAc.out _ A3 B3 a3 b3 D4 c4 hda hby).mono ?_); rintro e w9 ⟨rfl, hb9⟩); replace hb0 := stepB hb0 hb9; replace hB0 := hB0.below hb9; replace hda := hda.below hb9; replace hby := hby.below hb9; replace hG := hG.below hb9; clear x0 x1 x2 x3; obtain ⟨x0, x1, x2, x3⟩ := hG.cells; clear z0 z1 z2 z3; obtain ⟨z0, z1, z2, z3⟩ := hB0.cells; clear HAc))
    have KE : Below w9.heap.size w9 w9.drew := drew_below w9
    have HSx : Hid (∀ X, Below w9.heap.size w9 X → X.cell? ⟨w.heap.size, 0, none⟩ = some (.int .i64 d.V) ∧ X.cell? ⟨w.heap.size, 1, none⟩ = some (.int .i64 d.q0) ∧ X.cell? ⟨w.heap.size, 2, none⟩ = some (.slice A nn a) ∧ X.cell? ⟨w.heap.size, 3, none⟩ = some (.slice B nf b) ∧ X.cell? ⟨w4.heap.size, 0, none⟩ = some (.int .i64 d.V) ∧ X.cell? ⟨w4.heap.size, 1, none⟩ = some (.int .i64 d.q0) ∧ X.cell? ⟨w4.heap.size, 2, none⟩ = some (.slice A3 nn a3) ∧ X.cell? ⟨w4.heap.size, 3, none⟩ = some (.slice B3 nf b3) ∧ Below w9.heap.size w9 X) := fun X hX => ⟨(hB0.below hX).cells.1, (hB0.below hX).cells.2.1, (hB0.below hX).cells.2.2.1, (hB0.below hX).cells.2.2.2, (hG.below hX).cells.1, (hG.below hX).cells.2.1, (hG.below hX).cells.2.2.1, (hG.below hX).cells.2.2.2, hX⟩
    have hSd := HSx.out _ KE
    have G1 := Lib.hid fun X (hX : Below w9.heap.size w9 X) => HCk.out X A3 B3 a3 b3 (hda.below hX)
    have G2 := Lib.hid fun X (hX : Below w9.heap.size w9 X) => HCr.out X (stepB hb0 hX)
    have G3 := Lib.hid fun X (hX : Below w9.heap.size w9 X) => HEq.out X A3 B3 a3 b3 (stepB hb0 hX) (hda.below hX)
    have G4 := Lib.hid fun X (hX : Below w9.heap.size w9 X) => HEb.out X D4 c4 (stepB hb0 hX) (hby.below hX)
    have G5 := Lib.hid fun X (hX : Below w9.heap.size w9 X) => HAw.out X (stepB hb0 hX)
    clear HCk HCr HEq HEb HAw
    go_region_held3 (fun w' => w'.cell? ⟨w.heap.size, 0, none⟩ = some (.int .i64 d.V) ∧ w'.cell? ⟨w.heap.size, 1, none⟩ = some (.int .i64 d.q0) ∧ w'.cell? ⟨w.heap.size, 2, none⟩ = some (.slice A nn a) ∧ w'.cell? ⟨w.heap.size, 3, none⟩ = some (.slice B nf b) ∧ w'.cell? ⟨w4.heap.size, 0, none⟩ = some (.int .i64 d.V) ∧ w'.cell? ⟨w4.heap.size, 1, none⟩ = some (.int .i64 d.q0) ∧ w'.cell? ⟨w4.heap.size, 2, none⟩ = some (.slice A3 nn a3) ∧ w'.cell? ⟨w4.heap.size, 3, none⟩ = some (.slice B3 nf b3) ∧ Below w9.heap.size w9 w')
      (first | assumption)
      (first
        | (go_at_call 23; ((with_reducible refine (G1.out _ (by assumption)).mono ?_); rintro e wA ⟨rfl, hbwA⟩); have KwA : Below w9.heap.size w9 wA := stepB (by assumption) hbwA; have hSwA := HSx.out wA KwA)
        | (go_at_call 24; ((with_reducible refine (G2.out _ (by assumption)).mono ?_); rintro e wB ⟨rfl, hbwB⟩); have KwB : Below w9.heap.size w9 wB := stepB (by assumption) hbwB; have hSwB := HSx.out wB KwB)
        | (go_at_call 25; ((with_reducible refine (G3.out _ (by assumption)).mono ?_); rintro e wC ⟨rfl, hbwC⟩); have KwC : Below w9.heap.size w9 wC := stepB (by assumption) hbwC; have hSwC := HSx.out wC KwC)
        | (go_at_call 26; ((with_reducible refine (G4.out _ (by assumption)).mono ?_); rintro e wD ⟨rfl, hbwD⟩); have KwD : Below w9.heap.size w9 wD := stepB (by assumption) hbwD; have hSwD := HSx.out wD KwD)
        | (go_at_call 15; ((with_reducible refine (G5.out _ (by assumption)).mono ?_); rintro e wE ⟨rfl, hbwE⟩); have KwE : Below w9.heap.size w9 wE := stepB (by assumption) hbwE; have hSwE := HSx.out wE KwE))
    all_goals
      have K := KwE
      go_wp2
      go_ret
      exact ⟨rfl, stepB hb0 K⟩
end
end Go.Proofs.YtdjhfndoheoljaaDoor.Sb
