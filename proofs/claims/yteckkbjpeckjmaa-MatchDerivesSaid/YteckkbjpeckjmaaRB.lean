/- The reference's reader (package regex): a cube. -/
import Derived.Test.YteckkbjpeckjmaaRA
import Derived.Test.YteckkbjpeckjmaaYM
import Derived.Test.YteckkbjpeckjmaaRK
import Derived.Test.YteckkbjpeckjmaaYZP
namespace Go.Proofs.Yteckkbjpeckjmaa.Rx
open Go Go.RowKit Go.Proofs.Yteckkbjpeckjmaa
set_option linter.unusedVariables false
set_option linter.unusedSimpArgs false
set_option maxRecDepth 100000
section
variable {B rb : Nat} {s : ByteArray} {r : RS} {v v' : Value} {w w' : World}
set_option maxHeartbeats 16000000 in
theorem rCube_any (a : Nat) (l : List Pc) (hs : s.size ≤ 4096) (ha : a ≤ s.size) (h : RdAt w B rb s ⟨a, l, 0⟩ v) :
    Calls Try.prog 111 #[.pointer (some ⟨rb, 0, none⟩)] w (CubP B rb s a l v w (pcube (Dl s a))) := by
  have HSee := Lib.hid fun i v X hi (hX : RdAt X B rb s ⟨i, l, 0⟩ v) => see_at (by omega) hi hX
  have HStop := Lib.hid fun v X (hX : RdAt X B rb s ⟨s.size, l, 0⟩ v) => see_stop (by omega) hX
  have HErr := Lib.hid fun i v X k hi hk (hX : RdAt X B rb s ⟨i, l, k⟩ v) => see_err (by omega) hi hk hX
  have bR := (Box2.new w 103 (.int .u8 0) (.int .u8 0)).alloc (.cells #[.int .u8 0, .int .u8 0] 103)
  have bC := Box2.new (w.alloc (.cells #[.int .u8 0, .int .u8 0] 103)) 103 (.int .u8 0) (.int .u8 0)
  simp only [World.size_alloc] at bC
  have hb0 : Below w.heap.size w ((w.alloc (.cells #[.int .u8 0, .int .u8 0] 103)).alloc (.cells #[.int .u8 0, .int .u8 0] 103)) := bal (bal (Below.refl _ _) _) _
  have hR0 := h.below hb0
  have HW0 := Lib.hid h
  go_enter Try.func111, Try.ntmps111
  go_upto_region 2 with fail
  obtain ⟨W2, hW2⟩ : ∃ W2, (w.alloc (.cells #[.int .u8 0, .int .u8 0] 103)).alloc (.cells #[.int .u8 0, .int .u8 0] 103) = W2 := ⟨_, rfl⟩
  rw [hW2] at bR bC hb0 hR0 ⊢
  obtain ⟨bq, hbq⟩ : ∃ bq, bq = w.heap.size := ⟨_, rfl⟩
  rw [← hbq] at bR bC ⊢
  have HBq := Lib.hid hbq
  have F0 : Hid (Fr rb v v w W2) := Fr.of_below hb0
  clear hW2 hb0 hbq h
  have bqx : bq + 1 ≠ bq := by omega
  by_cases hz : a = s.size
  · subst hz
    have HP : Hid (∀ e w', (e = .returned (.agg #[.int .u8 0, .int .u8 0]) ∧ ∃ v', RdAt w' B rb s ⟨s.size, l, 3⟩ v' ∧ Fr rb v v' w w') → CubP B rb s s.size l v w (pcube (Dl s s.size)) e w') := fun e w' h => by
      rw [Dl_end]
      exact ⟨s.size, Nat.le_refl _, Nat.le_refl _, h.1, h.2⟩
    have HS1 := Lib.hid (HStop.out v W2 hR0)
    have HqW : Hid (w.heap.size ≤ bq) := Nat.le_of_eq HBq.out.symm
    have H0 := Lib.hid hR0
    have BR0 : Hid (Box2 W2 bq 103 (.int .u8 0) (.int .u8 0)) := bR
    have BC0 : Hid (Box2 W2 (bq + 1) 103 (.int .u8 0) (.int .u8 0)) := bC
    clear HSee HStop HErr hR0 bR bC
    go_wp2_with (go_at_call 109; ((with_reducible refine (HS1.out).mono ?_); rintro x w3 ⟨rfl, v3, hR3, hF3⟩); obtain ⟨⟨ka3, kb3⟩, ⟨za3, zb3⟩, rl3⟩ := hR3.all; have BR3 : Hid (Box2 w3 bq 103 (.int .u8 0) (.int .u8 0)) := H0.out.keeps hF3 BR0.out (by decide) (by decide); have BC3 : Hid (Box2 w3 (bq + 1) 103 (.int .u8 0) (.int .u8 0)) := H0.out.keeps hF3 BC0.out (by decide) (by decide); have gr3 := BR3.out.f0; have gs3 := BR3.out.f1; have dr3 := BC3.out.c0; have ds3 := BC3.out.c1; have gt3 := BC3.out.f0; have gu3 := BC3.out.f1; have dt3 := BR3.out.c0; have du3 := BR3.out.c1; have ql3 := BR3.out.lt; have qm3 := BC3.out.lt; have H3 := Lib.hid hR3; have F3 := Lib.hid (F0.out.trans hF3); clear hR3 hF3)
    go_loopw [4, 5, 6] (fun _ _ _ wr => wr = w3) (fun _ _ _ _ => 0)
    case atStart => rfl
    case round =>
      subst hrel
      go_wp2
      obtain ⟨r0, r1, hRX, hFX⟩ := cub_fin (p := .int .u8 0) (q := .int .u8 0) BR3.out H3.out F3.out HqW.out
      refine ⟨rfl, .agg #[.int .u8 0, .int .u8 0], ?_, HP.out _ _ ⟨rfl, _, hRX, hFX⟩⟩
      simp [results, Try.f111, go_sem, r0, r1]
  · have hi1 : a < s.size := by omega
    have HqW : Hid (w.heap.size ≤ bq) := Nat.le_of_eq HBq.out.symm
    have H0 := Lib.hid hR0
    have BR0 : Hid (Box2 W2 bq 103 (.int .u8 0) (.int .u8 0)) := bR
    have BC0 : Hid (Box2 W2 (bq + 1) 103 (.int .u8 0) (.int .u8 0)) := bC
    have hpc : pcube (Dl s a) = if ch s a = 42 then (match eat 93 (Dl s (a + 1)) with | .error e => .error e | .ok r' => .ok ((0, 0), r')) else pcl (0, 0, 0, true) (Dl s a) := by
      rw [Dl_cons s a hi1, pcube_cons, ofNat_ch]
      cases eat 93 (Dl s (a + 1)) <;> rfl
    have HS1 := Lib.hid (HSee.out a v W2 hi1 hR0)
    clear hR0 bR bC
    by_cases h42 : ch s a = 42
    · rw [if_pos h42] at hpc
      have HEat : Hid (∀ v X, RdAt X B rb s ⟨a + 1, l, 0⟩ v → _) := fun v X hX => eat_at93 (by omega) (by omega) hX
      rw [h42] at HS1
      have ha5 : a < 4096 := by omega
      clear h42 HSee HStop HErr
      cases he : eat 93 (Dl s (a + 1)) with
      | error k =>
        rw [he] at HEat hpc
        have HPc := Lib.hid hpc
        have HP : Hid (∀ e w', (e = .returned (.agg #[.int .u8 0, .int .u8 0]) ∧ ∃ v', RdAt w' B rb s ⟨a + 1, l, k⟩ v' ∧ Fr rb v v' w w') → CubP B rb s a l v w (pcube (Dl s a)) e w') := fun e w' h => by
          rw [HPc.out]
          exact ⟨a + 1, by omega, by omega, h.1, h.2⟩
        clear he hpc
        go_wp2_with (first
          | (go_at_call 109; ((with_reducible refine (HS1.out).mono ?_); rintro x w3 ⟨rfl, v3, hR3, hF3⟩); obtain ⟨⟨ka3, kb3⟩, ⟨za3, zb3⟩, rl3⟩ := hR3.all; have BR3 : Hid (Box2 w3 bq 103 (.int .u8 0) (.int .u8 0)) := H0.out.keeps hF3 BR0.out (by decide) (by decide); have BC3 : Hid (Box2 w3 (bq + 1) 103 (.int .u8 0) (.int .u8 0)) := H0.out.keeps hF3 BC0.out (by decide) (by decide); have gr3 := BR3.out.f0; have gs3 := BR3.out.f1; have dr3 := BC3.out.c0; have ds3 := BC3.out.c1; have gt3 := BC3.out.f0; have gu3 := BC3.out.f1; have dt3 := BR3.out.c0; have du3 := BR3.out.c1; have ql3 := BR3.out.lt; have qm3 := BC3.out.lt; have H3 := Lib.hid hR3; have F3 := Lib.hid (F0.out.trans hF3); have H4 : Hid (RdAt (w3.setCell ⟨rb, 1, none⟩ (.int .i64 ((a : Int) + 1))) B rb s ⟨a + 1, l, 0⟩ v3) := H3.out.step.1; have F4 : Hid (Fr rb v v3 w (w3.setCell ⟨rb, 1, none⟩ (.int .i64 ((a : Int) + 1)))) := F3.out.trans H3.out.step.2; have BR4 : Hid (Box2 (w3.setCell ⟨rb, 1, none⟩ (.int .i64 ((a : Int) + 1))) bq 103 (.int .u8 0) (.int .u8 0)) := BR3.out.other ⟨rb, 1, none⟩ (.int .i64 ((a : Int) + 1)) (H3.out.apart BR3.out (by decide)); have BC4 : Hid (Box2 (w3.setCell ⟨rb, 1, none⟩ (.int .i64 ((a : Int) + 1))) (bq + 1) 103 (.int .u8 0) (.int .u8 0)) := BC3.out.other ⟨rb, 1, none⟩ (.int .i64 ((a : Int) + 1)) (H3.out.apart BC3.out (by decide)); have ka4 := H4.out.all.1.1; have kb4 := H4.out.all.1.2; have za4 := H4.out.all.2.1; have zb4 := H4.out.all.2.2; have rl4 := H4.out.lt; have gr4 := BR4.out.f0; have gs4 := BR4.out.f1; have dr4 := BC4.out.c0; have ds4 := BC4.out.c1; have gt4 := BC4.out.f0; have gu4 := BC4.out.f1; have dt4 := BR4.out.c0; have du4 := BR4.out.c1; have ql4 := BR4.out.lt; have qm4 := BC4.out.lt; clear hR3 hF3)
          | (go_at_call 140; ((with_reducible refine (HEat.out v3 _ H4.out).mono ?_); rintro x w5 ⟨rfl, v5, hR5, hF5⟩); obtain ⟨⟨ka5, kb5⟩, ⟨za5, zb5⟩, rl5⟩ := hR5.all; have BR5 : Hid (Box2 w5 bq 103 (.int .u8 0) (.int .u8 0)) := H4.out.keeps hF5 BR4.out (by decide) (by decide); have BC5 : Hid (Box2 w5 (bq + 1) 103 (.int .u8 0) (.int .u8 0)) := H4.out.keeps hF5 BC4.out (by decide) (by decide); have gr5 := BR5.out.f0; have gs5 := BR5.out.f1; have dr5 := BC5.out.c0; have ds5 := BC5.out.c1; have gt5 := BC5.out.f0; have gu5 := BC5.out.f1; have dt5 := BR5.out.c0; have du5 := BR5.out.c1; have ql5 := BR5.out.lt; have qm5 := BC5.out.lt; have H5 := Lib.hid hR5; have F5 := Lib.hid (F4.out.trans hF5); clear hR5 hF5))
        obtain ⟨r0, r1, hRX, hFX⟩ := cub_fin (p := .int .u8 0) (q := .int .u8 0) BR5.out H5.out F5.out HqW.out
        refine ⟨rfl, .agg #[.int .u8 0, .int .u8 0], ?_, HP.out _ _ ⟨rfl, _, hRX, hFX⟩⟩
        simp [results, Try.f111, go_sem, r0, r1]
      | ok r' =>
        rw [he] at HEat hpc
        have HPc := Lib.hid hpc
        have HP : Hid (∀ e w', (e = .returned (.agg #[.int .u8 0, .int .u8 0]) ∧ ∃ v', RdAt w' B rb s ⟨s.size - r'.length, l, 0⟩ v' ∧ Fr rb v v' w w') → CubP B rb s a l v w (pcube (Dl s a)) e w') := fun e w' h => by
          rw [HPc.out]
          exact h
        clear he hpc
        go_wp2_with (first
          | (go_at_call 109; ((with_reducible refine (HS1.out).mono ?_); rintro x w3 ⟨rfl, v3, hR3, hF3⟩); obtain ⟨⟨ka3, kb3⟩, ⟨za3, zb3⟩, rl3⟩ := hR3.all; have BR3 : Hid (Box2 w3 bq 103 (.int .u8 0) (.int .u8 0)) := H0.out.keeps hF3 BR0.out (by decide) (by decide); have BC3 : Hid (Box2 w3 (bq + 1) 103 (.int .u8 0) (.int .u8 0)) := H0.out.keeps hF3 BC0.out (by decide) (by decide); have gr3 := BR3.out.f0; have gs3 := BR3.out.f1; have dr3 := BC3.out.c0; have ds3 := BC3.out.c1; have gt3 := BC3.out.f0; have gu3 := BC3.out.f1; have dt3 := BR3.out.c0; have du3 := BR3.out.c1; have ql3 := BR3.out.lt; have qm3 := BC3.out.lt; have H3 := Lib.hid hR3; have F3 := Lib.hid (F0.out.trans hF3); have H4 : Hid (RdAt (w3.setCell ⟨rb, 1, none⟩ (.int .i64 ((a : Int) + 1))) B rb s ⟨a + 1, l, 0⟩ v3) := H3.out.step.1; have F4 : Hid (Fr rb v v3 w (w3.setCell ⟨rb, 1, none⟩ (.int .i64 ((a : Int) + 1)))) := F3.out.trans H3.out.step.2; have BR4 : Hid (Box2 (w3.setCell ⟨rb, 1, none⟩ (.int .i64 ((a : Int) + 1))) bq 103 (.int .u8 0) (.int .u8 0)) := BR3.out.other ⟨rb, 1, none⟩ (.int .i64 ((a : Int) + 1)) (H3.out.apart BR3.out (by decide)); have BC4 : Hid (Box2 (w3.setCell ⟨rb, 1, none⟩ (.int .i64 ((a : Int) + 1))) (bq + 1) 103 (.int .u8 0) (.int .u8 0)) := BC3.out.other ⟨rb, 1, none⟩ (.int .i64 ((a : Int) + 1)) (H3.out.apart BC3.out (by decide)); have ka4 := H4.out.all.1.1; have kb4 := H4.out.all.1.2; have za4 := H4.out.all.2.1; have zb4 := H4.out.all.2.2; have rl4 := H4.out.lt; have gr4 := BR4.out.f0; have gs4 := BR4.out.f1; have dr4 := BC4.out.c0; have ds4 := BC4.out.c1; have gt4 := BC4.out.f0; have gu4 := BC4.out.f1; have dt4 := BR4.out.c0; have du4 := BR4.out.c1; have ql4 := BR4.out.lt; have qm4 := BC4.out.lt; clear hR3 hF3)
          | (go_at_call 140; ((with_reducible refine (HEat.out v3 _ H4.out).mono ?_); rintro x w5 ⟨rfl, v5, hR5, hF5⟩); obtain ⟨⟨ka5, kb5⟩, ⟨za5, zb5⟩, rl5⟩ := hR5.all; have BR5 : Hid (Box2 w5 bq 103 (.int .u8 0) (.int .u8 0)) := H4.out.keeps hF5 BR4.out (by decide) (by decide); have BC5 : Hid (Box2 w5 (bq + 1) 103 (.int .u8 0) (.int .u8 0)) := H4.out.keeps hF5 BC4.out (by decide) (by decide); have gr5 := BR5.out.f0; have gs5 := BR5.out.f1; have dr5 := BC5.out.c0; have ds5 := BC5.out.c1; have gt5 := BC5.out.f0; have gu5 := BC5.out.f1; have dt5 := BR5.out.c0; have du5 := BR5.out.c1; have ql5 := BR5.out.lt; have qm5 := BC5.out.lt; have H5 := Lib.hid hR5; have F5 := Lib.hid (F4.out.trans hF5); clear hR5 hF5))
        obtain ⟨r0, r1, hRX, hFX⟩ := cub_fin (p := .int .u8 0) (q := .int .u8 0) BR5.out H5.out F5.out HqW.out
        refine ⟨rfl, .agg #[.int .u8 0, .int .u8 0], ?_, HP.out _ _ ⟨rfl, _, hRX, hFX⟩⟩
        simp [results, Try.f111, go_sem, r0, r1]
    · rw [if_neg h42] at hpc
      have e42 : ((ch s a : Int) == 42) = false := by rw [beq_eq_false_iff_ne]; omega
      have HPa : Hid (pcl (0, 0, 0, true) (Dl s a) = pcube (Dl s a)) := hpc.symm
      clear hpc
      generalize hca : ch s a = ca at *
      clear hca h42
      go_wp2_with (go_at_call 109; ((with_reducible refine (HS1.out).mono ?_); rintro x w3 ⟨rfl, v3, hR3, hF3⟩); obtain ⟨⟨ka3, kb3⟩, ⟨za3, zb3⟩, rl3⟩ := hR3.all; have BR3 : Hid (Box2 w3 bq 103 (.int .u8 0) (.int .u8 0)) := H0.out.keeps hF3 BR0.out (by decide) (by decide); have BC3 : Hid (Box2 w3 (bq + 1) 103 (.int .u8 0) (.int .u8 0)) := H0.out.keeps hF3 BC0.out (by decide) (by decide); have gr3 := BR3.out.f0; have gs3 := BR3.out.f1; have dr3 := BC3.out.c0; have ds3 := BC3.out.c1; have gt3 := BC3.out.f0; have gu3 := BC3.out.f1; have dt3 := BR3.out.c0; have du3 := BR3.out.c1; have ql3 := BR3.out.lt; have qm3 := BC3.out.lt; have H3 := Lib.hid hR3; have F3 := Lib.hid (F0.out.trans hF3); clear hR3 hF3)
      go_loopg [4, 5, 6] (s.size - a) (fun g last nt b wr => ∃ (i p q n : Nat) (lv : Int) (v' : Value), a ≤ i ∧ i ≤ s.size ∧ g = s.size - i ∧ last = .int .i64 lv ∧ lv + 1 ≤ n ∧ n ≤ lv + 1 ∧ n ≤ 6 ∧ p < 64 ∧ q < 64 ∧ Hid (pcl (p, q, n, true) (Dl s i) = pcube (Dl s a)) ∧ Hid (RdAt wr B rb s ⟨i, l, 0⟩ v') ∧ Hid (Fr rb v v' w wr) ∧ Hid (Box2 wr bq 103 (.int .u8 0) (.int .u8 0)) ∧ Hid (Box2 wr (bq + 1) 103 (.int .u8 p) (.int .u8 q)))
      case atStart => exact ⟨a, 0, 0, 0, -1, v3, Nat.le_refl _, ha, rfl, rfl, by decide, by decide, by decide, by decide, by decide, HPa.out, H3, F3, BR3, BC3⟩
      case round =>
        clear gr3 gs3 dr3 ds3 gt3 gu3 dt3 du3 ql3 qm3 ka3 kb3 za3 zb3 rl3 H3 F3 BR3 BC3 H0 BR0 BC0 F0 HS1 e42
        obtain ⟨i, p, q, n, lv, v0, hai, his, hg, rfl, hl1, hl2, hn6, hp, hq, HPc, H0, F0, BR0, BC0⟩ := hrel
        obtain ⟨w0, hw0⟩ : ∃ w0, w0 = wr := ⟨_, rfl⟩
        subst hw0
        obtain ⟨⟨ka0, kb0⟩, ⟨za0, zb0⟩, rl0⟩ := H0.out.all
        have gr0 := BR0.out.f0
        have dt0 := BR0.out.c0
        have du0 := BR0.out.c1
        have gs0 := BR0.out.f1
        have ql0 := BR0.out.lt
        have hlv : -1 ≤ lv ∧ lv ≤ 5 := by omega
        by_cases hz2 : i = s.size
        · subst hz2
          have HX := Lib.hid (pcl_fin (s := s) (p, q, n, true))
          have HP : Hid (∀ e w', (e = .returned (.agg #[.int .u8 0, .int .u8 0]) ∧ ∃ v', RdAt w' B rb s ⟨s.size, l, 3⟩ v' ∧ Fr rb v v' w w') → CubP B rb s a l v w (pcube (Dl s a)) e w') := fun e w' h => by
            rw [← HPc.out, HX.out]
            exact ⟨s.size, by omega, by omega, h.1, h.2⟩
          have HS1 := Lib.hid (HStop.out v0 w0 H0.out)
          have HE2 : Hid (∀ v X, RdAt X B rb s ⟨s.size, l, 3⟩ v → _) := fun v X hX => HErr.out s.size v X 3 (Nat.le_refl _) (by decide) hX
          clear HSee HStop HErr
          go_wp2_with (first
            | (go_at_call 109; ((with_reducible refine (HS1.out).mono ?_); rintro x w5 ⟨rfl, v5, hR5, hF5⟩); obtain ⟨⟨ka5, kb5⟩, ⟨za5, zb5⟩, rl5⟩ := hR5.all; have BR5 : Hid (Box2 w5 bq 103 (.int .u8 0) (.int .u8 0)) := H0.out.keeps hF5 BR0.out (by decide) (by decide); have BC5 : Hid (Box2 w5 (bq + 1) 103 (.int .u8 p) (.int .u8 q)) := H0.out.keeps hF5 BC0.out (by decide) (by decide); have gr5 := BR5.out.f0; have gs5 := BR5.out.f1; have dr5 := BC5.out.c0; have ds5 := BC5.out.c1; have gt5 := BC5.out.f0; have gu5 := BC5.out.f1; have dt5 := BR5.out.c0; have du5 := BR5.out.c1; have ql5 := BR5.out.lt; have qm5 := BC5.out.lt; have H5 := Lib.hid hR5; have F5 := Lib.hid (F0.out.trans hF5); clear hR5 hF5)
            | (go_at_call 109; ((with_reducible refine (HE2.out v5 _ H5.out).mono ?_); rintro x w6 ⟨rfl, v6, hR6, hF6⟩); obtain ⟨⟨ka6, kb6⟩, ⟨za6, zb6⟩, rl6⟩ := hR6.all; have BR6 : Hid (Box2 w6 bq 103 (.int .u8 0) (.int .u8 0)) := H5.out.keeps hF6 BR5.out (by decide) (by decide); have BC6 : Hid (Box2 w6 (bq + 1) 103 (.int .u8 p) (.int .u8 q)) := H5.out.keeps hF6 BC5.out (by decide) (by decide); have gr6 := BR6.out.f0; have gs6 := BR6.out.f1; have dr6 := BC6.out.c0; have ds6 := BC6.out.c1; have gt6 := BC6.out.f0; have gu6 := BC6.out.f1; have dt6 := BR6.out.c0; have du6 := BR6.out.c1; have ql6 := BR6.out.lt; have qm6 := BC6.out.lt; have H6 := Lib.hid hR6; have F6 := Lib.hid (F5.out.trans hF6); clear hR6 hF6))
          obtain ⟨r0, r1, hRX, hFX⟩ := cub_fin (p := .int .u8 0) (q := .int .u8 0) BR6.out H6.out F6.out HqW.out
          refine ⟨rfl, .agg #[.int .u8 0, .int .u8 0], ?_, HP.out _ _ ⟨rfl, _, hRX, hFX⟩⟩
          simp [results, Try.f111, go_sem, r0, r1]
        · have hi2 : i < s.size := by omega
          have hi3 : (i : Int) < 4096 := by omega
          have HS1 := Lib.hid (HSee.out i v0 w0 hi2 H0.out)
          have HS2 : Hid (∀ v X, RdAt X B rb s ⟨i, l, 0⟩ v → _) := fun v X hX => HSee.out i v X hi2 hX
          by_cases hA : ch s i = 33 ∧ n ≤ 5
          · have HX := Lib.hid (px_not (p := p) (q := q) hi2 hA.1 hA.2)
            have h33 : ((ch s i : Int) == 33) = true := by rw [beq_iff_eq]; omega
            have hlv5 : lv < 5 := by omega
            obtain ⟨hA1, hA2⟩ := hA
            rw [hA1] at HS1
            clear h33 hA1 HS2
            by_cases hz3 : i + 1 = s.size
            · have HZ := Lib.hid hz3
              have HX2 : Hid (pcl (p, q, n, false) (Dl s (i + 1)) = .error 3) := by
                rw [hz3]; exact pcl_fin _
              have HP : Hid (∀ e w', (e = .returned (.agg #[.int .u8 0, .int .u8 0]) ∧ ∃ v', RdAt w' B rb s ⟨s.size, l, 3⟩ v' ∧ Fr rb v v' w w') → CubP B rb s a l v w (pcube (Dl s a)) e w') := fun e w' h => by
                rw [← HPc.out, HX.out, HX2.out]
                exact ⟨s.size, by omega, by omega, h.1, h.2⟩
              have HE2 : Hid (∀ v X, RdAt X B rb s ⟨i + 1, l, 0⟩ v → _) := fun v X hX => by
                rw [hz3] at hX
                exact HStop.out v X hX
              clear HSee HStop HErr hz3
              go_wp2_with (first
                | (go_at_call 109; ((with_reducible refine (HS1.out).mono ?_); rintro x w5 ⟨rfl, v5, hR5, hF5⟩); obtain ⟨⟨ka5, kb5⟩, ⟨za5, zb5⟩, rl5⟩ := hR5.all; have BR5 : Hid (Box2 w5 bq 103 (.int .u8 0) (.int .u8 0)) := H0.out.keeps hF5 BR0.out (by decide) (by decide); have BC5 : Hid (Box2 w5 (bq + 1) 103 (.int .u8 p) (.int .u8 q)) := H0.out.keeps hF5 BC0.out (by decide) (by decide); have gr5 := BR5.out.f0; have gs5 := BR5.out.f1; have dr5 := BC5.out.c0; have ds5 := BC5.out.c1; have gt5 := BC5.out.f0; have gu5 := BC5.out.f1; have dt5 := BR5.out.c0; have du5 := BR5.out.c1; have ql5 := BR5.out.lt; have qm5 := BC5.out.lt; have H5 := Lib.hid hR5; have F5 := Lib.hid (F0.out.trans hF5); have H6 : Hid (RdAt (w5.setCell ⟨rb, 1, none⟩ (.int .i64 ((i : Int) + 1))) B rb s ⟨i + 1, l, 0⟩ v5) := H5.out.step.1; have F6 : Hid (Fr rb v v5 w (w5.setCell ⟨rb, 1, none⟩ (.int .i64 ((i : Int) + 1)))) := F5.out.trans H5.out.step.2; have BR6 : Hid (Box2 (w5.setCell ⟨rb, 1, none⟩ (.int .i64 ((i : Int) + 1))) bq 103 (.int .u8 0) (.int .u8 0)) := BR5.out.other ⟨rb, 1, none⟩ (.int .i64 ((i : Int) + 1)) (H5.out.apart BR5.out (by decide)); have BC6 : Hid (Box2 (w5.setCell ⟨rb, 1, none⟩ (.int .i64 ((i : Int) + 1))) (bq + 1) 103 (.int .u8 p) (.int .u8 q)) := BC5.out.other ⟨rb, 1, none⟩ (.int .i64 ((i : Int) + 1)) (H5.out.apart BC5.out (by decide)); have ka6 := H6.out.all.1.1; have kb6 := H6.out.all.1.2; have za6 := H6.out.all.2.1; have zb6 := H6.out.all.2.2; have rl6 := H6.out.lt; have gr6 := BR6.out.f0; have gs6 := BR6.out.f1; have dr6 := BC6.out.c0; have ds6 := BC6.out.c1; have gt6 := BC6.out.f0; have gu6 := BC6.out.f1; have dt6 := BR6.out.c0; have du6 := BR6.out.c1; have ql6 := BR6.out.lt; have qm6 := BC6.out.lt; clear hR5 hF5)
                | (go_at_call 109; ((with_reducible refine (HE2.out v5 _ H6.out).mono ?_); rintro x w7 ⟨rfl, v7, hR7, hF7⟩); obtain ⟨⟨ka7, kb7⟩, ⟨za7, zb7⟩, rl7⟩ := hR7.all; have BR7 : Hid (Box2 w7 bq 103 (.int .u8 0) (.int .u8 0)) := H6.out.keeps hF7 BR6.out (by decide) (by decide); have BC7 : Hid (Box2 w7 (bq + 1) 103 (.int .u8 p) (.int .u8 q)) := H6.out.keeps hF7 BC6.out (by decide) (by decide); have gr7 := BR7.out.f0; have gs7 := BR7.out.f1; have dr7 := BC7.out.c0; have ds7 := BC7.out.c1; have gt7 := BC7.out.f0; have gu7 := BC7.out.f1; have dt7 := BR7.out.c0; have du7 := BR7.out.c1; have ql7 := BR7.out.lt; have qm7 := BC7.out.lt; have H7 := Lib.hid hR7; have F7 := Lib.hid (F6.out.trans hF7); clear hR7 hF7))
              obtain ⟨r0, r1, hRX, hFX⟩ := cub_fin (p := .int .u8 0) (q := .int .u8 0) BR7.out H7.out F7.out HqW.out
              refine ⟨rfl, .agg #[.int .u8 0, .int .u8 0], ?_, HP.out _ _ ⟨rfl, _, hRX, hFX⟩⟩
              simp [results, Try.f111, go_sem, r0, r1]
            · have hi4 : i + 1 < s.size := by omega
              have HE2 : Hid (∀ v X, RdAt X B rb s ⟨i + 1, l, 0⟩ v → _) := fun v X hX => HSee.out (i + 1) v X hi4 hX
              clear HSee HStop HErr hz3
              by_cases hG : 97 + n ≤ ch s (i + 1) ∧ ch s (i + 1) < 103
              · obtain ⟨hG1, hG2⟩ := hG
                have HX2 := Lib.hid (px_neg (p := p) (q := q) hi4 hG1 hG2)
                generalize ch s (i + 1) = c at *
                obtain ⟨j, hj⟩ : ∃ j, c - 97 = j := ⟨_, rfl⟩
                rw [hj] at HX2
                have hj' : (c : Int) - 97 = (j : Int) := by omega
                have hj6 : j < 6 := by omega
                have hjl : ¬ ((j : Int) ≤ lv) := by omega
                have e1 := or8 (p := q) (k := j) (by omega) (by omega)
                have h93 : ((c : Int) == 93) = false := by rw [beq_eq_false_iff_ne]; omega
                have h97 : 97 ≤ (c : Int) := by omega
                have h102 : (c : Int) ≤ 102 := by omega
                clear hj
                have hnq : bq + 1 ≠ rb := H0.out.apart BC0.out (by decide)
                have hnr : rb ≠ bq + 1 := fun e => hnq e.symm
                go_wp2_with (first
                  | (go_at_call 109; ((with_reducible refine (HS1.out).mono ?_); rintro x w5 ⟨rfl, v5, hR5, hF5⟩); obtain ⟨⟨ka5, kb5⟩, ⟨za5, zb5⟩, rl5⟩ := hR5.all; have BR5 : Hid (Box2 w5 bq 103 (.int .u8 0) (.int .u8 0)) := H0.out.keeps hF5 BR0.out (by decide) (by decide); have BC5 : Hid (Box2 w5 (bq + 1) 103 (.int .u8 p) (.int .u8 q)) := H0.out.keeps hF5 BC0.out (by decide) (by decide); have gr5 := BR5.out.f0; have gs5 := BR5.out.f1; have dr5 := BC5.out.c0; have ds5 := BC5.out.c1; have gt5 := BC5.out.f0; have gu5 := BC5.out.f1; have dt5 := BR5.out.c0; have du5 := BR5.out.c1; have ql5 := BR5.out.lt; have qm5 := BC5.out.lt; have H5 := Lib.hid hR5; have F5 := Lib.hid (F0.out.trans hF5); have H6 : Hid (RdAt (w5.setCell ⟨rb, 1, none⟩ (.int .i64 ((i : Int) + 1))) B rb s ⟨i + 1, l, 0⟩ v5) := H5.out.step.1; have F6 : Hid (Fr rb v v5 w (w5.setCell ⟨rb, 1, none⟩ (.int .i64 ((i : Int) + 1)))) := F5.out.trans H5.out.step.2; have BR6 : Hid (Box2 (w5.setCell ⟨rb, 1, none⟩ (.int .i64 ((i : Int) + 1))) bq 103 (.int .u8 0) (.int .u8 0)) := BR5.out.other ⟨rb, 1, none⟩ (.int .i64 ((i : Int) + 1)) (H5.out.apart BR5.out (by decide)); have BC6 : Hid (Box2 (w5.setCell ⟨rb, 1, none⟩ (.int .i64 ((i : Int) + 1))) (bq + 1) 103 (.int .u8 p) (.int .u8 q)) := BC5.out.other ⟨rb, 1, none⟩ (.int .i64 ((i : Int) + 1)) (H5.out.apart BC5.out (by decide)); have ka6 := H6.out.all.1.1; have kb6 := H6.out.all.1.2; have za6 := H6.out.all.2.1; have zb6 := H6.out.all.2.2; have rl6 := H6.out.lt; have gr6 := BR6.out.f0; have gs6 := BR6.out.f1; have dr6 := BC6.out.c0; have ds6 := BC6.out.c1; have gt6 := BC6.out.f0; have gu6 := BC6.out.f1; have dt6 := BR6.out.c0; have du6 := BR6.out.c1; have ql6 := BR6.out.lt; have qm6 := BC6.out.lt; clear hR5 hF5)
                  | (go_at_call 109; ((with_reducible refine (HE2.out v5 _ H6.out).mono ?_); rintro x w7 ⟨rfl, v7, hR7, hF7⟩); obtain ⟨⟨ka7, kb7⟩, ⟨za7, zb7⟩, rl7⟩ := hR7.all; have BR7 : Hid (Box2 w7 bq 103 (.int .u8 0) (.int .u8 0)) := H6.out.keeps hF7 BR6.out (by decide) (by decide); have BC7 : Hid (Box2 w7 (bq + 1) 103 (.int .u8 p) (.int .u8 q)) := H6.out.keeps hF7 BC6.out (by decide) (by decide); have gr7 := BR7.out.f0; have gs7 := BR7.out.f1; have dr7 := BC7.out.c0; have ds7 := BC7.out.c1; have gt7 := BC7.out.f0; have gu7 := BC7.out.f1; have dt7 := BR7.out.c0; have du7 := BR7.out.c1; have ql7 := BR7.out.lt; have qm7 := BC7.out.lt; have H7 := Lib.hid hR7; have F7 := Lib.hid (F6.out.trans hF7); clear hR7 hF7))
                have HN := Lib.hid (cub_next1 (u := .int .u8 ((q ||| 2 ^ j : Nat) : Int)) BR7.out BC7.out H7.out F7.out HqW.out)
                go_roundg (s.size - (i + 2))
                case rel => exact ⟨i + 2, p, q ||| 2 ^ j, j + 1, (j : Int), v7, by omega, by omega, rfl, rfl, by omega, by omega, by omega, hp, lor64 hq hj6, HX2.out.symm.trans (HX.out.symm.trans HPc.out), HN.out.1, HN.out.2.1, HN.out.2.2.1, HN.out.2.2.2⟩
                case measure => omega
              · have HX2 := Lib.hid (px_badn (p := p) (q := q) hi4 hG)
                have HP : Hid (∀ e w', (e = .returned (.agg #[.int .u8 0, .int .u8 0]) ∧ ∃ v', RdAt w' B rb s ⟨i + 1, l, 2⟩ v' ∧ Fr rb v v' w w') → CubP B rb s a l v w (pcube (Dl s a)) e w') := fun e w' h => by
                  rw [← HPc.out, HX.out, HX2.out]
                  exact ⟨i + 1, by omega, by omega, h.1, h.2⟩
                generalize ch s (i + 1) = c at *
                have hcase : (c = 93) ∨ (c ≠ 93 ∧ c < 97) ∨ (102 < c) ∨ (97 ≤ c ∧ c ≤ 102 ∧ (c : Int) - 97 ≤ lv) := by omega
                clear hG
                rcases hcase with hc1 | ⟨hc1, hc2⟩ | hc1 | ⟨hc1, hc2, hc3⟩
                · subst hc1
                  go_wp2_with (first
                    | (go_at_call 109; ((with_reducible refine (HS1.out).mono ?_); rintro x w5 ⟨rfl, v5, hR5, hF5⟩); obtain ⟨⟨ka5, kb5⟩, ⟨za5, zb5⟩, rl5⟩ := hR5.all; have BR5 : Hid (Box2 w5 bq 103 (.int .u8 0) (.int .u8 0)) := H0.out.keeps hF5 BR0.out (by decide) (by decide); have BC5 : Hid (Box2 w5 (bq + 1) 103 (.int .u8 p) (.int .u8 q)) := H0.out.keeps hF5 BC0.out (by decide) (by decide); have gr5 := BR5.out.f0; have gs5 := BR5.out.f1; have dr5 := BC5.out.c0; have ds5 := BC5.out.c1; have gt5 := BC5.out.f0; have gu5 := BC5.out.f1; have dt5 := BR5.out.c0; have du5 := BR5.out.c1; have ql5 := BR5.out.lt; have qm5 := BC5.out.lt; have H5 := Lib.hid hR5; have F5 := Lib.hid (F0.out.trans hF5); have H6 : Hid (RdAt (w5.setCell ⟨rb, 1, none⟩ (.int .i64 ((i : Int) + 1))) B rb s ⟨i + 1, l, 0⟩ v5) := H5.out.step.1; have F6 : Hid (Fr rb v v5 w (w5.setCell ⟨rb, 1, none⟩ (.int .i64 ((i : Int) + 1)))) := F5.out.trans H5.out.step.2; have BR6 : Hid (Box2 (w5.setCell ⟨rb, 1, none⟩ (.int .i64 ((i : Int) + 1))) bq 103 (.int .u8 0) (.int .u8 0)) := BR5.out.other ⟨rb, 1, none⟩ (.int .i64 ((i : Int) + 1)) (H5.out.apart BR5.out (by decide)); have BC6 : Hid (Box2 (w5.setCell ⟨rb, 1, none⟩ (.int .i64 ((i : Int) + 1))) (bq + 1) 103 (.int .u8 p) (.int .u8 q)) := BC5.out.other ⟨rb, 1, none⟩ (.int .i64 ((i : Int) + 1)) (H5.out.apart BC5.out (by decide)); have ka6 := H6.out.all.1.1; have kb6 := H6.out.all.1.2; have za6 := H6.out.all.2.1; have zb6 := H6.out.all.2.2; have rl6 := H6.out.lt; have gr6 := BR6.out.f0; have gs6 := BR6.out.f1; have dr6 := BC6.out.c0; have ds6 := BC6.out.c1; have gt6 := BC6.out.f0; have gu6 := BC6.out.f1; have dt6 := BR6.out.c0; have du6 := BR6.out.c1; have ql6 := BR6.out.lt; have qm6 := BC6.out.lt; clear hR5 hF5)
                    | (go_at_call 109; ((with_reducible refine (HE2.out v5 _ H6.out).mono ?_); rintro x w7 ⟨rfl, v7, hR7, hF7⟩); obtain ⟨⟨ka7, kb7⟩, ⟨za7, zb7⟩, rl7⟩ := hR7.all; have BR7 : Hid (Box2 w7 bq 103 (.int .u8 0) (.int .u8 0)) := H6.out.keeps hF7 BR6.out (by decide) (by decide); have BC7 : Hid (Box2 w7 (bq + 1) 103 (.int .u8 p) (.int .u8 q)) := H6.out.keeps hF7 BC6.out (by decide) (by decide); have gr7 := BR7.out.f0; have gs7 := BR7.out.f1; have dr7 := BC7.out.c0; have ds7 := BC7.out.c1; have gt7 := BC7.out.f0; have gu7 := BC7.out.f1; have dt7 := BR7.out.c0; have du7 := BR7.out.c1; have ql7 := BR7.out.lt; have qm7 := BC7.out.lt; have H7 := Lib.hid hR7; have F7 := Lib.hid (F6.out.trans hF7); clear hR7 hF7))
                  have HN := Lib.hid (cub_fail BR7.out H7.out F7.out)
                  obtain ⟨r0, r1, hRX, hFX⟩ := cub_fin (p := .int .u8 0) (q := .int .u8 0) HN.out.2.2 HN.out.1 HN.out.2.1 HqW.out
                  refine ⟨rfl, .agg #[.int .u8 0, .int .u8 0], ?_, HP.out _ _ ⟨rfl, _, hRX, hFX⟩⟩
                  simp [results, Try.f111, go_sem, r0, r1]
                · have h93 : ((c : Int) == 93) = false := by rw [beq_eq_false_iff_ne]; omega
                  go_wp2_with (first
                    | (go_at_call 109; ((with_reducible refine (HS1.out).mono ?_); rintro x w5 ⟨rfl, v5, hR5, hF5⟩); obtain ⟨⟨ka5, kb5⟩, ⟨za5, zb5⟩, rl5⟩ := hR5.all; have BR5 : Hid (Box2 w5 bq 103 (.int .u8 0) (.int .u8 0)) := H0.out.keeps hF5 BR0.out (by decide) (by decide); have BC5 : Hid (Box2 w5 (bq + 1) 103 (.int .u8 p) (.int .u8 q)) := H0.out.keeps hF5 BC0.out (by decide) (by decide); have gr5 := BR5.out.f0; have gs5 := BR5.out.f1; have dr5 := BC5.out.c0; have ds5 := BC5.out.c1; have gt5 := BC5.out.f0; have gu5 := BC5.out.f1; have dt5 := BR5.out.c0; have du5 := BR5.out.c1; have ql5 := BR5.out.lt; have qm5 := BC5.out.lt; have H5 := Lib.hid hR5; have F5 := Lib.hid (F0.out.trans hF5); have H6 : Hid (RdAt (w5.setCell ⟨rb, 1, none⟩ (.int .i64 ((i : Int) + 1))) B rb s ⟨i + 1, l, 0⟩ v5) := H5.out.step.1; have F6 : Hid (Fr rb v v5 w (w5.setCell ⟨rb, 1, none⟩ (.int .i64 ((i : Int) + 1)))) := F5.out.trans H5.out.step.2; have BR6 : Hid (Box2 (w5.setCell ⟨rb, 1, none⟩ (.int .i64 ((i : Int) + 1))) bq 103 (.int .u8 0) (.int .u8 0)) := BR5.out.other ⟨rb, 1, none⟩ (.int .i64 ((i : Int) + 1)) (H5.out.apart BR5.out (by decide)); have BC6 : Hid (Box2 (w5.setCell ⟨rb, 1, none⟩ (.int .i64 ((i : Int) + 1))) (bq + 1) 103 (.int .u8 p) (.int .u8 q)) := BC5.out.other ⟨rb, 1, none⟩ (.int .i64 ((i : Int) + 1)) (H5.out.apart BC5.out (by decide)); have ka6 := H6.out.all.1.1; have kb6 := H6.out.all.1.2; have za6 := H6.out.all.2.1; have zb6 := H6.out.all.2.2; have rl6 := H6.out.lt; have gr6 := BR6.out.f0; have gs6 := BR6.out.f1; have dr6 := BC6.out.c0; have ds6 := BC6.out.c1; have gt6 := BC6.out.f0; have gu6 := BC6.out.f1; have dt6 := BR6.out.c0; have du6 := BR6.out.c1; have ql6 := BR6.out.lt; have qm6 := BC6.out.lt; clear hR5 hF5)
                    | (go_at_call 109; ((with_reducible refine (HE2.out v5 _ H6.out).mono ?_); rintro x w7 ⟨rfl, v7, hR7, hF7⟩); obtain ⟨⟨ka7, kb7⟩, ⟨za7, zb7⟩, rl7⟩ := hR7.all; have BR7 : Hid (Box2 w7 bq 103 (.int .u8 0) (.int .u8 0)) := H6.out.keeps hF7 BR6.out (by decide) (by decide); have BC7 : Hid (Box2 w7 (bq + 1) 103 (.int .u8 p) (.int .u8 q)) := H6.out.keeps hF7 BC6.out (by decide) (by decide); have gr7 := BR7.out.f0; have gs7 := BR7.out.f1; have dr7 := BC7.out.c0; have ds7 := BC7.out.c1; have gt7 := BC7.out.f0; have gu7 := BC7.out.f1; have dt7 := BR7.out.c0; have du7 := BR7.out.c1; have ql7 := BR7.out.lt; have qm7 := BC7.out.lt; have H7 := Lib.hid hR7; have F7 := Lib.hid (F6.out.trans hF7); clear hR7 hF7))
                  have HN := Lib.hid (cub_fail BR7.out H7.out F7.out)
                  obtain ⟨r0, r1, hRX, hFX⟩ := cub_fin (p := .int .u8 0) (q := .int .u8 0) HN.out.2.2 HN.out.1 HN.out.2.1 HqW.out
                  refine ⟨rfl, .agg #[.int .u8 0, .int .u8 0], ?_, HP.out _ _ ⟨rfl, _, hRX, hFX⟩⟩
                  simp [results, Try.f111, go_sem, r0, r1]
                · have h93 : ((c : Int) == 93) = false := by rw [beq_eq_false_iff_ne]; omega
                  go_wp2_with (first
                    | (go_at_call 109; ((with_reducible refine (HS1.out).mono ?_); rintro x w5 ⟨rfl, v5, hR5, hF5⟩); obtain ⟨⟨ka5, kb5⟩, ⟨za5, zb5⟩, rl5⟩ := hR5.all; have BR5 : Hid (Box2 w5 bq 103 (.int .u8 0) (.int .u8 0)) := H0.out.keeps hF5 BR0.out (by decide) (by decide); have BC5 : Hid (Box2 w5 (bq + 1) 103 (.int .u8 p) (.int .u8 q)) := H0.out.keeps hF5 BC0.out (by decide) (by decide); have gr5 := BR5.out.f0; have gs5 := BR5.out.f1; have dr5 := BC5.out.c0; have ds5 := BC5.out.c1; have gt5 := BC5.out.f0; have gu5 := BC5.out.f1; have dt5 := BR5.out.c0; have du5 := BR5.out.c1; have ql5 := BR5.out.lt; have qm5 := BC5.out.lt; have H5 := Lib.hid hR5; have F5 := Lib.hid (F0.out.trans hF5); have H6 : Hid (RdAt (w5.setCell ⟨rb, 1, none⟩ (.int .i64 ((i : Int) + 1))) B rb s ⟨i + 1, l, 0⟩ v5) := H5.out.step.1; have F6 : Hid (Fr rb v v5 w (w5.setCell ⟨rb, 1, none⟩ (.int .i64 ((i : Int) + 1)))) := F5.out.trans H5.out.step.2; have BR6 : Hid (Box2 (w5.setCell ⟨rb, 1, none⟩ (.int .i64 ((i : Int) + 1))) bq 103 (.int .u8 0) (.int .u8 0)) := BR5.out.other ⟨rb, 1, none⟩ (.int .i64 ((i : Int) + 1)) (H5.out.apart BR5.out (by decide)); have BC6 : Hid (Box2 (w5.setCell ⟨rb, 1, none⟩ (.int .i64 ((i : Int) + 1))) (bq + 1) 103 (.int .u8 p) (.int .u8 q)) := BC5.out.other ⟨rb, 1, none⟩ (.int .i64 ((i : Int) + 1)) (H5.out.apart BC5.out (by decide)); have ka6 := H6.out.all.1.1; have kb6 := H6.out.all.1.2; have za6 := H6.out.all.2.1; have zb6 := H6.out.all.2.2; have rl6 := H6.out.lt; have gr6 := BR6.out.f0; have gs6 := BR6.out.f1; have dr6 := BC6.out.c0; have ds6 := BC6.out.c1; have gt6 := BC6.out.f0; have gu6 := BC6.out.f1; have dt6 := BR6.out.c0; have du6 := BR6.out.c1; have ql6 := BR6.out.lt; have qm6 := BC6.out.lt; clear hR5 hF5)
                    | (go_at_call 109; ((with_reducible refine (HE2.out v5 _ H6.out).mono ?_); rintro x w7 ⟨rfl, v7, hR7, hF7⟩); obtain ⟨⟨ka7, kb7⟩, ⟨za7, zb7⟩, rl7⟩ := hR7.all; have BR7 : Hid (Box2 w7 bq 103 (.int .u8 0) (.int .u8 0)) := H6.out.keeps hF7 BR6.out (by decide) (by decide); have BC7 : Hid (Box2 w7 (bq + 1) 103 (.int .u8 p) (.int .u8 q)) := H6.out.keeps hF7 BC6.out (by decide) (by decide); have gr7 := BR7.out.f0; have gs7 := BR7.out.f1; have dr7 := BC7.out.c0; have ds7 := BC7.out.c1; have gt7 := BC7.out.f0; have gu7 := BC7.out.f1; have dt7 := BR7.out.c0; have du7 := BR7.out.c1; have ql7 := BR7.out.lt; have qm7 := BC7.out.lt; have H7 := Lib.hid hR7; have F7 := Lib.hid (F6.out.trans hF7); clear hR7 hF7))
                  have HN := Lib.hid (cub_fail BR7.out H7.out F7.out)
                  obtain ⟨r0, r1, hRX, hFX⟩ := cub_fin (p := .int .u8 0) (q := .int .u8 0) HN.out.2.2 HN.out.1 HN.out.2.1 HqW.out
                  refine ⟨rfl, .agg #[.int .u8 0, .int .u8 0], ?_, HP.out _ _ ⟨rfl, _, hRX, hFX⟩⟩
                  simp [results, Try.f111, go_sem, r0, r1]
                · have h93 : ((c : Int) == 93) = false := by rw [beq_eq_false_iff_ne]; omega
                  obtain ⟨j, hj⟩ : ∃ j, c - 97 = j := ⟨_, rfl⟩
                  have hj' : (c : Int) - 97 = (j : Int) := by omega
                  have hj6 : j < 6 := by omega
                  have hjl : (j : Int) ≤ lv := by omega
                  clear hj hc3
                  go_wp2_with (first
                    | (go_at_call 109; ((with_reducible refine (HS1.out).mono ?_); rintro x w5 ⟨rfl, v5, hR5, hF5⟩); obtain ⟨⟨ka5, kb5⟩, ⟨za5, zb5⟩, rl5⟩ := hR5.all; have BR5 : Hid (Box2 w5 bq 103 (.int .u8 0) (.int .u8 0)) := H0.out.keeps hF5 BR0.out (by decide) (by decide); have BC5 : Hid (Box2 w5 (bq + 1) 103 (.int .u8 p) (.int .u8 q)) := H0.out.keeps hF5 BC0.out (by decide) (by decide); have gr5 := BR5.out.f0; have gs5 := BR5.out.f1; have dr5 := BC5.out.c0; have ds5 := BC5.out.c1; have gt5 := BC5.out.f0; have gu5 := BC5.out.f1; have dt5 := BR5.out.c0; have du5 := BR5.out.c1; have ql5 := BR5.out.lt; have qm5 := BC5.out.lt; have H5 := Lib.hid hR5; have F5 := Lib.hid (F0.out.trans hF5); have H6 : Hid (RdAt (w5.setCell ⟨rb, 1, none⟩ (.int .i64 ((i : Int) + 1))) B rb s ⟨i + 1, l, 0⟩ v5) := H5.out.step.1; have F6 : Hid (Fr rb v v5 w (w5.setCell ⟨rb, 1, none⟩ (.int .i64 ((i : Int) + 1)))) := F5.out.trans H5.out.step.2; have BR6 : Hid (Box2 (w5.setCell ⟨rb, 1, none⟩ (.int .i64 ((i : Int) + 1))) bq 103 (.int .u8 0) (.int .u8 0)) := BR5.out.other ⟨rb, 1, none⟩ (.int .i64 ((i : Int) + 1)) (H5.out.apart BR5.out (by decide)); have BC6 : Hid (Box2 (w5.setCell ⟨rb, 1, none⟩ (.int .i64 ((i : Int) + 1))) (bq + 1) 103 (.int .u8 p) (.int .u8 q)) := BC5.out.other ⟨rb, 1, none⟩ (.int .i64 ((i : Int) + 1)) (H5.out.apart BC5.out (by decide)); have ka6 := H6.out.all.1.1; have kb6 := H6.out.all.1.2; have za6 := H6.out.all.2.1; have zb6 := H6.out.all.2.2; have rl6 := H6.out.lt; have gr6 := BR6.out.f0; have gs6 := BR6.out.f1; have dr6 := BC6.out.c0; have ds6 := BC6.out.c1; have gt6 := BC6.out.f0; have gu6 := BC6.out.f1; have dt6 := BR6.out.c0; have du6 := BR6.out.c1; have ql6 := BR6.out.lt; have qm6 := BC6.out.lt; clear hR5 hF5)
                    | (go_at_call 109; ((with_reducible refine (HE2.out v5 _ H6.out).mono ?_); rintro x w7 ⟨rfl, v7, hR7, hF7⟩); obtain ⟨⟨ka7, kb7⟩, ⟨za7, zb7⟩, rl7⟩ := hR7.all; have BR7 : Hid (Box2 w7 bq 103 (.int .u8 0) (.int .u8 0)) := H6.out.keeps hF7 BR6.out (by decide) (by decide); have BC7 : Hid (Box2 w7 (bq + 1) 103 (.int .u8 p) (.int .u8 q)) := H6.out.keeps hF7 BC6.out (by decide) (by decide); have gr7 := BR7.out.f0; have gs7 := BR7.out.f1; have dr7 := BC7.out.c0; have ds7 := BC7.out.c1; have gt7 := BC7.out.f0; have gu7 := BC7.out.f1; have dt7 := BR7.out.c0; have du7 := BR7.out.c1; have ql7 := BR7.out.lt; have qm7 := BC7.out.lt; have H7 := Lib.hid hR7; have F7 := Lib.hid (F6.out.trans hF7); clear hR7 hF7))
                  have HN := Lib.hid (cub_fail BR7.out H7.out F7.out)
                  obtain ⟨r0, r1, hRX, hFX⟩ := cub_fin (p := .int .u8 0) (q := .int .u8 0) HN.out.2.2 HN.out.1 HN.out.2.1 HqW.out
                  refine ⟨rfl, .agg #[.int .u8 0, .int .u8 0], ?_, HP.out _ _ ⟨rfl, _, hRX, hFX⟩⟩
                  simp [results, Try.f111, go_sem, r0, r1]
          · have hpath : (ch s i = 33 ∧ lv = 5) ∨ ch s i ≠ 33 := by omega
            clear HSee HStop HErr
            by_cases hO : ch s i = 93 ∧ n ≠ 0
            · have HX := Lib.hid (px_ok (p := p) (q := q) hi2 hO.1 hO.2)
              have HP : Hid (∀ e w', (e = .returned (.agg #[.int .u8 p, .int .u8 q]) ∧ ∃ v', RdAt w' B rb s ⟨i + 1, l, 0⟩ v' ∧ Fr rb v v' w w') → CubP B rb s a l v w (pcube (Dl s a)) e w') := fun e w' h => by
                rw [← HPc.out, HX.out]
                refine ⟨h.1, ?_⟩
                rw [Dl_len, show s.size - (s.size - (i + 1)) = i + 1 by omega]
                exact h.2
              obtain ⟨h93, hn0⟩ := hO
              rw [h93] at HS1 HS2
              have hlv0 : 0 ≤ lv := by omega
              clear hA hpath h93
              go_wp2_with (first
                | (go_at_call 109; ((with_reducible refine (HS1.out).mono ?_); rintro x w5 ⟨rfl, v5, hR5, hF5⟩); obtain ⟨⟨ka5, kb5⟩, ⟨za5, zb5⟩, rl5⟩ := hR5.all; have BR5 : Hid (Box2 w5 bq 103 (.int .u8 0) (.int .u8 0)) := H0.out.keeps hF5 BR0.out (by decide) (by decide); have BC5 : Hid (Box2 w5 (bq + 1) 103 (.int .u8 p) (.int .u8 q)) := H0.out.keeps hF5 BC0.out (by decide) (by decide); have gr5 := BR5.out.f0; have gs5 := BR5.out.f1; have dr5 := BC5.out.c0; have ds5 := BC5.out.c1; have gt5 := BC5.out.f0; have gu5 := BC5.out.f1; have dt5 := BR5.out.c0; have du5 := BR5.out.c1; have ql5 := BR5.out.lt; have qm5 := BC5.out.lt; have H5 := Lib.hid hR5; have F5 := Lib.hid (F0.out.trans hF5); clear hR5 hF5)
                | (go_at_call 109; ((with_reducible refine (HS2.out v5 _ H5.out).mono ?_); rintro x w6 ⟨rfl, v6, hR6, hF6⟩); obtain ⟨⟨ka6, kb6⟩, ⟨za6, zb6⟩, rl6⟩ := hR6.all; have BR6 : Hid (Box2 w6 bq 103 (.int .u8 0) (.int .u8 0)) := H5.out.keeps hF6 BR5.out (by decide) (by decide); have BC6 : Hid (Box2 w6 (bq + 1) 103 (.int .u8 p) (.int .u8 q)) := H5.out.keeps hF6 BC5.out (by decide) (by decide); have gr6 := BR6.out.f0; have gs6 := BR6.out.f1; have dr6 := BC6.out.c0; have ds6 := BC6.out.c1; have gt6 := BC6.out.f0; have gu6 := BC6.out.f1; have dt6 := BR6.out.c0; have du6 := BR6.out.c1; have ql6 := BR6.out.lt; have qm6 := BC6.out.lt; have H6 := Lib.hid hR6; have F6 := Lib.hid (F5.out.trans hF6); have H7 : Hid (RdAt (w6.setCell ⟨rb, 1, none⟩ (.int .i64 ((i : Int) + 1))) B rb s ⟨i + 1, l, 0⟩ v6) := H6.out.step.1; have F7 : Hid (Fr rb v v6 w (w6.setCell ⟨rb, 1, none⟩ (.int .i64 ((i : Int) + 1)))) := F6.out.trans H6.out.step.2; have BR7 : Hid (Box2 (w6.setCell ⟨rb, 1, none⟩ (.int .i64 ((i : Int) + 1))) bq 103 (.int .u8 0) (.int .u8 0)) := BR6.out.other ⟨rb, 1, none⟩ (.int .i64 ((i : Int) + 1)) (H6.out.apart BR6.out (by decide)); have BC7 : Hid (Box2 (w6.setCell ⟨rb, 1, none⟩ (.int .i64 ((i : Int) + 1))) (bq + 1) 103 (.int .u8 p) (.int .u8 q)) := BC6.out.other ⟨rb, 1, none⟩ (.int .i64 ((i : Int) + 1)) (H6.out.apart BC6.out (by decide)); have ka7 := H7.out.all.1.1; have kb7 := H7.out.all.1.2; have za7 := H7.out.all.2.1; have zb7 := H7.out.all.2.2; have rl7 := H7.out.lt; have gr7 := BR7.out.f0; have gs7 := BR7.out.f1; have dr7 := BC7.out.c0; have ds7 := BC7.out.c1; have gt7 := BC7.out.f0; have gu7 := BC7.out.f1; have dt7 := BR7.out.c0; have du7 := BR7.out.c1; have ql7 := BR7.out.lt; have qm7 := BC7.out.lt; clear hR6 hF6))
              obtain ⟨r0, r1, hRX, hFX⟩ := cub_fin (p := .int .u8 p) (q := .int .u8 q) BR7.out H7.out F7.out HqW.out
              refine ⟨rfl, .agg #[.int .u8 p, .int .u8 q], ?_, HP.out _ _ ⟨rfl, _, hRX, hFX⟩⟩
              simp [results, Try.f111, go_sem, r0, r1]
            · by_cases hG : 97 + n ≤ ch s i ∧ ch s i < 103
              · obtain ⟨hG1, hG2⟩ := hG
                have HX2 := Lib.hid (px_pos (p := p) (q := q) hi2 hG1 hG2)
                clear hpath hO hA
                generalize ch s i = c at *
                obtain ⟨j, hj⟩ : ∃ j, c - 97 = j := ⟨_, rfl⟩
                rw [hj] at HX2
                have hj' : (c : Int) - 97 = (j : Int) := by omega
                have hj6 : j < 6 := by omega
                have hjl : ¬ ((j : Int) ≤ lv) := by omega
                have e1 := or8 (p := p) (k := j) (by omega) (by omega)
                have h33 : ((c : Int) == 33) = false := by rw [beq_eq_false_iff_ne]; omega
                have h93 : ((c : Int) == 93) = false := by rw [beq_eq_false_iff_ne]; omega
                clear hj
                go_wp2_with (first
                  | (go_at_call 109; ((with_reducible refine (HS1.out).mono ?_); rintro x w5 ⟨rfl, v5, hR5, hF5⟩); obtain ⟨⟨ka5, kb5⟩, ⟨za5, zb5⟩, rl5⟩ := hR5.all; have BR5 : Hid (Box2 w5 bq 103 (.int .u8 0) (.int .u8 0)) := H0.out.keeps hF5 BR0.out (by decide) (by decide); have BC5 : Hid (Box2 w5 (bq + 1) 103 (.int .u8 p) (.int .u8 q)) := H0.out.keeps hF5 BC0.out (by decide) (by decide); have gr5 := BR5.out.f0; have gs5 := BR5.out.f1; have dr5 := BC5.out.c0; have ds5 := BC5.out.c1; have gt5 := BC5.out.f0; have gu5 := BC5.out.f1; have dt5 := BR5.out.c0; have du5 := BR5.out.c1; have ql5 := BR5.out.lt; have qm5 := BC5.out.lt; have H5 := Lib.hid hR5; have F5 := Lib.hid (F0.out.trans hF5); clear hR5 hF5)
                  | (go_at_call 109; ((with_reducible refine (HS2.out v5 _ H5.out).mono ?_); rintro x w6 ⟨rfl, v6, hR6, hF6⟩); obtain ⟨⟨ka6, kb6⟩, ⟨za6, zb6⟩, rl6⟩ := hR6.all; have BR6 : Hid (Box2 w6 bq 103 (.int .u8 0) (.int .u8 0)) := H5.out.keeps hF6 BR5.out (by decide) (by decide); have BC6 : Hid (Box2 w6 (bq + 1) 103 (.int .u8 p) (.int .u8 q)) := H5.out.keeps hF6 BC5.out (by decide) (by decide); have gr6 := BR6.out.f0; have gs6 := BR6.out.f1; have dr6 := BC6.out.c0; have ds6 := BC6.out.c1; have gt6 := BC6.out.f0; have gu6 := BC6.out.f1; have dt6 := BR6.out.c0; have du6 := BR6.out.c1; have ql6 := BR6.out.lt; have qm6 := BC6.out.lt; have H6 := Lib.hid hR6; have F6 := Lib.hid (F5.out.trans hF6); clear hR6 hF6))
                have HN := Lib.hid (cub_next0 (u := .int .u8 ((p ||| 2 ^ j : Nat) : Int)) BR6.out BC6.out H6.out F6.out HqW.out)
                go_roundg (s.size - (i + 1))
                case rel => exact ⟨i + 1, p ||| 2 ^ j, q, j + 1, (j : Int), v6, by omega, by omega, rfl, rfl, by omega, by omega, by omega, lor64 hp hj6, hq, HX2.out.symm.trans HPc.out, HN.out.1, HN.out.2.1, HN.out.2.2.1, HN.out.2.2.2⟩
                case measure => omega
              · have HX2 := Lib.hid (px_bad (p := p) (q := q) hi2 hO hA hG)
                have HP : Hid (∀ e w', (e = .returned (.agg #[.int .u8 0, .int .u8 0]) ∧ ∃ v', RdAt w' B rb s ⟨i, l, 2⟩ v' ∧ Fr rb v v' w w') → CubP B rb s a l v w (pcube (Dl s a)) e w') := fun e w' h => by
                  rw [← HPc.out, HX2.out]
                  exact ⟨i, by omega, by omega, h.1, h.2⟩
                have hcase : (ch s i = 33 ∧ lv = 5) ∨ (ch s i = 93 ∧ lv = -1) ∨ (ch s i ≠ 33 ∧ ch s i ≠ 93 ∧ ch s i < 97) ∨ (102 < ch s i) ∨ (97 ≤ ch s i ∧ ch s i ≤ 102 ∧ (ch s i : Int) - 97 ≤ lv) := by omega
                clear hG hA hO hpath
                generalize ch s i = c at *
                rcases hcase with ⟨hc1, hc2⟩ | ⟨hc1, hc2⟩ | ⟨hc1, hc2, hc3⟩ | hc1 | ⟨hc1, hc2, hc3⟩
                · subst hc1
                  subst hc2
                  go_wp2_with (first
                    | (go_at_call 109; ((with_reducible refine (HS1.out).mono ?_); rintro x w5 ⟨rfl, v5, hR5, hF5⟩); obtain ⟨⟨ka5, kb5⟩, ⟨za5, zb5⟩, rl5⟩ := hR5.all; have BR5 : Hid (Box2 w5 bq 103 (.int .u8 0) (.int .u8 0)) := H0.out.keeps hF5 BR0.out (by decide) (by decide); have BC5 : Hid (Box2 w5 (bq + 1) 103 (.int .u8 p) (.int .u8 q)) := H0.out.keeps hF5 BC0.out (by decide) (by decide); have gr5 := BR5.out.f0; have gs5 := BR5.out.f1; have dr5 := BC5.out.c0; have ds5 := BC5.out.c1; have gt5 := BC5.out.f0; have gu5 := BC5.out.f1; have dt5 := BR5.out.c0; have du5 := BR5.out.c1; have ql5 := BR5.out.lt; have qm5 := BC5.out.lt; have H5 := Lib.hid hR5; have F5 := Lib.hid (F0.out.trans hF5); clear hR5 hF5)
                    | (go_at_call 109; ((with_reducible refine (HS2.out v5 _ H5.out).mono ?_); rintro x w6 ⟨rfl, v6, hR6, hF6⟩); obtain ⟨⟨ka6, kb6⟩, ⟨za6, zb6⟩, rl6⟩ := hR6.all; have BR6 : Hid (Box2 w6 bq 103 (.int .u8 0) (.int .u8 0)) := H5.out.keeps hF6 BR5.out (by decide) (by decide); have BC6 : Hid (Box2 w6 (bq + 1) 103 (.int .u8 p) (.int .u8 q)) := H5.out.keeps hF6 BC5.out (by decide) (by decide); have gr6 := BR6.out.f0; have gs6 := BR6.out.f1; have dr6 := BC6.out.c0; have ds6 := BC6.out.c1; have gt6 := BC6.out.f0; have gu6 := BC6.out.f1; have dt6 := BR6.out.c0; have du6 := BR6.out.c1; have ql6 := BR6.out.lt; have qm6 := BC6.out.lt; have H6 := Lib.hid hR6; have F6 := Lib.hid (F5.out.trans hF6); clear hR6 hF6))
                  have HN := Lib.hid (cub_fail BR6.out H6.out F6.out)
                  obtain ⟨r0, r1, hRX, hFX⟩ := cub_fin (p := .int .u8 0) (q := .int .u8 0) HN.out.2.2 HN.out.1 HN.out.2.1 HqW.out
                  refine ⟨rfl, .agg #[.int .u8 0, .int .u8 0], ?_, HP.out _ _ ⟨rfl, _, hRX, hFX⟩⟩
                  simp [results, Try.f111, go_sem, r0, r1]
                · subst hc1
                  subst hc2
                  go_wp2_with (first
                    | (go_at_call 109; ((with_reducible refine (HS1.out).mono ?_); rintro x w5 ⟨rfl, v5, hR5, hF5⟩); obtain ⟨⟨ka5, kb5⟩, ⟨za5, zb5⟩, rl5⟩ := hR5.all; have BR5 : Hid (Box2 w5 bq 103 (.int .u8 0) (.int .u8 0)) := H0.out.keeps hF5 BR0.out (by decide) (by decide); have BC5 : Hid (Box2 w5 (bq + 1) 103 (.int .u8 p) (.int .u8 q)) := H0.out.keeps hF5 BC0.out (by decide) (by decide); have gr5 := BR5.out.f0; have gs5 := BR5.out.f1; have dr5 := BC5.out.c0; have ds5 := BC5.out.c1; have gt5 := BC5.out.f0; have gu5 := BC5.out.f1; have dt5 := BR5.out.c0; have du5 := BR5.out.c1; have ql5 := BR5.out.lt; have qm5 := BC5.out.lt; have H5 := Lib.hid hR5; have F5 := Lib.hid (F0.out.trans hF5); clear hR5 hF5)
                    | (go_at_call 109; ((with_reducible refine (HS2.out v5 _ H5.out).mono ?_); rintro x w6 ⟨rfl, v6, hR6, hF6⟩); obtain ⟨⟨ka6, kb6⟩, ⟨za6, zb6⟩, rl6⟩ := hR6.all; have BR6 : Hid (Box2 w6 bq 103 (.int .u8 0) (.int .u8 0)) := H5.out.keeps hF6 BR5.out (by decide) (by decide); have BC6 : Hid (Box2 w6 (bq + 1) 103 (.int .u8 p) (.int .u8 q)) := H5.out.keeps hF6 BC5.out (by decide) (by decide); have gr6 := BR6.out.f0; have gs6 := BR6.out.f1; have dr6 := BC6.out.c0; have ds6 := BC6.out.c1; have gt6 := BC6.out.f0; have gu6 := BC6.out.f1; have dt6 := BR6.out.c0; have du6 := BR6.out.c1; have ql6 := BR6.out.lt; have qm6 := BC6.out.lt; have H6 := Lib.hid hR6; have F6 := Lib.hid (F5.out.trans hF6); clear hR6 hF6))
                  have HN := Lib.hid (cub_fail BR6.out H6.out F6.out)
                  obtain ⟨r0, r1, hRX, hFX⟩ := cub_fin (p := .int .u8 0) (q := .int .u8 0) HN.out.2.2 HN.out.1 HN.out.2.1 HqW.out
                  refine ⟨rfl, .agg #[.int .u8 0, .int .u8 0], ?_, HP.out _ _ ⟨rfl, _, hRX, hFX⟩⟩
                  simp [results, Try.f111, go_sem, r0, r1]
                · have h33 : ((c : Int) == 33) = false := by rw [beq_eq_false_iff_ne]; omega
                  have h93 : ((c : Int) == 93) = false := by rw [beq_eq_false_iff_ne]; omega
                  go_wp2_with (first
                    | (go_at_call 109; ((with_reducible refine (HS1.out).mono ?_); rintro x w5 ⟨rfl, v5, hR5, hF5⟩); obtain ⟨⟨ka5, kb5⟩, ⟨za5, zb5⟩, rl5⟩ := hR5.all; have BR5 : Hid (Box2 w5 bq 103 (.int .u8 0) (.int .u8 0)) := H0.out.keeps hF5 BR0.out (by decide) (by decide); have BC5 : Hid (Box2 w5 (bq + 1) 103 (.int .u8 p) (.int .u8 q)) := H0.out.keeps hF5 BC0.out (by decide) (by decide); have gr5 := BR5.out.f0; have gs5 := BR5.out.f1; have dr5 := BC5.out.c0; have ds5 := BC5.out.c1; have gt5 := BC5.out.f0; have gu5 := BC5.out.f1; have dt5 := BR5.out.c0; have du5 := BR5.out.c1; have ql5 := BR5.out.lt; have qm5 := BC5.out.lt; have H5 := Lib.hid hR5; have F5 := Lib.hid (F0.out.trans hF5); clear hR5 hF5)
                    | (go_at_call 109; ((with_reducible refine (HS2.out v5 _ H5.out).mono ?_); rintro x w6 ⟨rfl, v6, hR6, hF6⟩); obtain ⟨⟨ka6, kb6⟩, ⟨za6, zb6⟩, rl6⟩ := hR6.all; have BR6 : Hid (Box2 w6 bq 103 (.int .u8 0) (.int .u8 0)) := H5.out.keeps hF6 BR5.out (by decide) (by decide); have BC6 : Hid (Box2 w6 (bq + 1) 103 (.int .u8 p) (.int .u8 q)) := H5.out.keeps hF6 BC5.out (by decide) (by decide); have gr6 := BR6.out.f0; have gs6 := BR6.out.f1; have dr6 := BC6.out.c0; have ds6 := BC6.out.c1; have gt6 := BC6.out.f0; have gu6 := BC6.out.f1; have dt6 := BR6.out.c0; have du6 := BR6.out.c1; have ql6 := BR6.out.lt; have qm6 := BC6.out.lt; have H6 := Lib.hid hR6; have F6 := Lib.hid (F5.out.trans hF6); clear hR6 hF6))
                  have HN := Lib.hid (cub_fail BR6.out H6.out F6.out)
                  obtain ⟨r0, r1, hRX, hFX⟩ := cub_fin (p := .int .u8 0) (q := .int .u8 0) HN.out.2.2 HN.out.1 HN.out.2.1 HqW.out
                  refine ⟨rfl, .agg #[.int .u8 0, .int .u8 0], ?_, HP.out _ _ ⟨rfl, _, hRX, hFX⟩⟩
                  simp [results, Try.f111, go_sem, r0, r1]
                · have h33 : ((c : Int) == 33) = false := by rw [beq_eq_false_iff_ne]; omega
                  have h93 : ((c : Int) == 93) = false := by rw [beq_eq_false_iff_ne]; omega
                  go_wp2_with (first
                    | (go_at_call 109; ((with_reducible refine (HS1.out).mono ?_); rintro x w5 ⟨rfl, v5, hR5, hF5⟩); obtain ⟨⟨ka5, kb5⟩, ⟨za5, zb5⟩, rl5⟩ := hR5.all; have BR5 : Hid (Box2 w5 bq 103 (.int .u8 0) (.int .u8 0)) := H0.out.keeps hF5 BR0.out (by decide) (by decide); have BC5 : Hid (Box2 w5 (bq + 1) 103 (.int .u8 p) (.int .u8 q)) := H0.out.keeps hF5 BC0.out (by decide) (by decide); have gr5 := BR5.out.f0; have gs5 := BR5.out.f1; have dr5 := BC5.out.c0; have ds5 := BC5.out.c1; have gt5 := BC5.out.f0; have gu5 := BC5.out.f1; have dt5 := BR5.out.c0; have du5 := BR5.out.c1; have ql5 := BR5.out.lt; have qm5 := BC5.out.lt; have H5 := Lib.hid hR5; have F5 := Lib.hid (F0.out.trans hF5); clear hR5 hF5)
                    | (go_at_call 109; ((with_reducible refine (HS2.out v5 _ H5.out).mono ?_); rintro x w6 ⟨rfl, v6, hR6, hF6⟩); obtain ⟨⟨ka6, kb6⟩, ⟨za6, zb6⟩, rl6⟩ := hR6.all; have BR6 : Hid (Box2 w6 bq 103 (.int .u8 0) (.int .u8 0)) := H5.out.keeps hF6 BR5.out (by decide) (by decide); have BC6 : Hid (Box2 w6 (bq + 1) 103 (.int .u8 p) (.int .u8 q)) := H5.out.keeps hF6 BC5.out (by decide) (by decide); have gr6 := BR6.out.f0; have gs6 := BR6.out.f1; have dr6 := BC6.out.c0; have ds6 := BC6.out.c1; have gt6 := BC6.out.f0; have gu6 := BC6.out.f1; have dt6 := BR6.out.c0; have du6 := BR6.out.c1; have ql6 := BR6.out.lt; have qm6 := BC6.out.lt; have H6 := Lib.hid hR6; have F6 := Lib.hid (F5.out.trans hF6); clear hR6 hF6))
                  have HN := Lib.hid (cub_fail BR6.out H6.out F6.out)
                  obtain ⟨r0, r1, hRX, hFX⟩ := cub_fin (p := .int .u8 0) (q := .int .u8 0) HN.out.2.2 HN.out.1 HN.out.2.1 HqW.out
                  refine ⟨rfl, .agg #[.int .u8 0, .int .u8 0], ?_, HP.out _ _ ⟨rfl, _, hRX, hFX⟩⟩
                  simp [results, Try.f111, go_sem, r0, r1]
                · have h33 : ((c : Int) == 33) = false := by rw [beq_eq_false_iff_ne]; omega
                  have h93 : ((c : Int) == 93) = false := by rw [beq_eq_false_iff_ne]; omega
                  obtain ⟨j, hj⟩ : ∃ j, c - 97 = j := ⟨_, rfl⟩
                  have hj' : (c : Int) - 97 = (j : Int) := by omega
                  have hj6 : j < 6 := by omega
                  have hjl : (j : Int) ≤ lv := by omega
                  clear hj hc3
                  go_wp2_with (first
                    | (go_at_call 109; ((with_reducible refine (HS1.out).mono ?_); rintro x w5 ⟨rfl, v5, hR5, hF5⟩); obtain ⟨⟨ka5, kb5⟩, ⟨za5, zb5⟩, rl5⟩ := hR5.all; have BR5 : Hid (Box2 w5 bq 103 (.int .u8 0) (.int .u8 0)) := H0.out.keeps hF5 BR0.out (by decide) (by decide); have BC5 : Hid (Box2 w5 (bq + 1) 103 (.int .u8 p) (.int .u8 q)) := H0.out.keeps hF5 BC0.out (by decide) (by decide); have gr5 := BR5.out.f0; have gs5 := BR5.out.f1; have dr5 := BC5.out.c0; have ds5 := BC5.out.c1; have gt5 := BC5.out.f0; have gu5 := BC5.out.f1; have dt5 := BR5.out.c0; have du5 := BR5.out.c1; have ql5 := BR5.out.lt; have qm5 := BC5.out.lt; have H5 := Lib.hid hR5; have F5 := Lib.hid (F0.out.trans hF5); clear hR5 hF5)
                    | (go_at_call 109; ((with_reducible refine (HS2.out v5 _ H5.out).mono ?_); rintro x w6 ⟨rfl, v6, hR6, hF6⟩); obtain ⟨⟨ka6, kb6⟩, ⟨za6, zb6⟩, rl6⟩ := hR6.all; have BR6 : Hid (Box2 w6 bq 103 (.int .u8 0) (.int .u8 0)) := H5.out.keeps hF6 BR5.out (by decide) (by decide); have BC6 : Hid (Box2 w6 (bq + 1) 103 (.int .u8 p) (.int .u8 q)) := H5.out.keeps hF6 BC5.out (by decide) (by decide); have gr6 := BR6.out.f0; have gs6 := BR6.out.f1; have dr6 := BC6.out.c0; have ds6 := BC6.out.c1; have gt6 := BC6.out.f0; have gu6 := BC6.out.f1; have dt6 := BR6.out.c0; have du6 := BR6.out.c1; have ql6 := BR6.out.lt; have qm6 := BC6.out.lt; have H6 := Lib.hid hR6; have F6 := Lib.hid (F5.out.trans hF6); clear hR6 hF6))
                  have HN := Lib.hid (cub_fail BR6.out H6.out F6.out)
                  obtain ⟨r0, r1, hRX, hFX⟩ := cub_fin (p := .int .u8 0) (q := .int .u8 0) HN.out.2.2 HN.out.1 HN.out.2.1 HqW.out
                  refine ⟨rfl, .agg #[.int .u8 0, .int .u8 0], ?_, HP.out _ _ ⟨rfl, _, hRX, hFX⟩⟩
                  simp [results, Try.f111, go_sem, r0, r1]
end
end Go.Proofs.Yteckkbjpeckjmaa.Rx
/- The reference's reader (package regex): an expression. -/
namespace Go.Proofs.Yteckkbjpeckjmaa.Rx
open Go Go.RowKit Go.Proofs.Yteckkbjpeckjmaa
set_option linter.unusedVariables false
set_option linter.unusedSimpArgs false
set_option maxRecDepth 100000
section
variable {B rb : Nat} {s : ByteArray} {v : Value} {w : World}
theorem add_lf (op p q : Nat) {i : Nat} {l : List Pc} {k : Int} (hN : l.length ≤ 100000) (h : RdAt w B rb s ⟨i, l, k⟩ v) : Calls Try.prog 110 #[.pointer (some ⟨rb, 0, none⟩), .agg #[.int .u8 op, .int .u8 p, .int .u8 q, .int .i64 0, .int .i64 0]] w fun e w' => e = .returned (.int .i64 ((l.length : Nat) : Int)) ∧ ∃ v', RdAt w' B rb s ⟨i, l ++ [⟨op, p, q, 0, 0⟩], k⟩ v' ∧ Fr rb v v' w w' :=
  rAdd_any (B := B) (rb := rb) (s := s) (r := ⟨i, l, k⟩) (v := v) (w := w) ⟨op, p, q, 0, 0⟩ h hN
theorem xr_leaf {N i j op p q : Nat} {l : List Pc} (hj : j = i + 1) (hi : i < s.size) (hN : l.length + (s.size - i) ≤ N) : XR s N l (.ok (.leaf op p q, Dl s j)) ((l.length : Nat) : Int) ⟨j, l ++ [⟨op, p, q, 0, 0⟩], 0⟩ := by
  subst hj
  refine ⟨⟨by show i + 1 ≤ _; omega, by show (l ++ [_]).length + (s.size - (i + 1)) ≤ N; rw [List.length_append]; simp only [List.length_cons, List.length_nil]; omega⟩, by show _ = ((l.length + 1 : Nat) : Int) - 1; omega, ?_⟩
  rw [Dl_len, show s.size - (s.size - (i + 1)) = i + 1 by omega]
  rfl
def cubR : Except Int ((Nat × Nat) × List UInt8) → Except Int (Ex × List UInt8)
  | .error e => .error e
  | .ok (pq, r') => .ok (.leaf 3 pq.1 pq.2, r')
/-- cube, whatever it answers. -/
theorem cube_gen {i j : Nat} {l : List Pc} (hs : s.size ≤ 4096) (hj : j = i + 1) (hi : i < s.size) (h : RdAt w B rb s ⟨j, l, 0⟩ v) :
    Calls Try.prog 111 #[.pointer (some ⟨rb, 0, none⟩)] w fun e w' => ∃ (p q k : Nat) (e0 : Int) (v' : Value), Hid (XR s (l.length + (s.size - i)) l (cubR (pcube (Dl s j))) ((l.length : Nat) : Int) ⟨k, l ++ [⟨3, p, q, 0, 0⟩], e0⟩) ∧ e = .returned (.agg #[.int .u8 p, .int .u8 q]) ∧ RdAt w' B rb s ⟨k, l, e0⟩ v' ∧ Fr rb v v' w w' := by
  refine (rCube_any j l hs (by omega) h).mono fun e w' hp => ?_
  unfold CubP at hp
  cases hc : pcube (Dl s j) with
  | error k =>
    rw [hc] at hp
    obtain ⟨m, h1, h2, he, v', hR, hF⟩ := hp
    refine ⟨0, 0, m, k, v', ⟨⟨h2, ?_⟩, rfl, pcube_err hc⟩, he, hR, hF⟩
    show (l ++ [_]).length + (s.size - m) ≤ _
    rw [List.length_append]; simp only [List.length_cons, List.length_nil]; omega
  | ok x =>
    obtain ⟨⟨p, q⟩, r⟩ := x
    rw [hc] at hp
    obtain ⟨he, v', hR, hF⟩ := hp
    have hl := congrArg List.length (pcube_ok hc).2.2.2
    rw [Dl_len, List.length_append, List.length_cons] at hl
    refine ⟨p, q, s.size - r.length, 0, v', ⟨⟨by show _ - _ ≤ _; omega, ?_⟩, ?_, rfl⟩, he, hR, hF⟩
    · show (l ++ [_]).length + (s.size - (s.size - r.length)) ≤ _
      rw [List.length_append]; simp only [List.length_cons, List.length_nil]; omega
    · show _ = ((l.length + 1 : Nat) : Int) - 1
      omega
end
set_option maxHeartbeats 16000000 in
theorem rExpr_all (B rb : Nat) (s : ByteArray) (hs : s.size ≤ 4096) : ∀ f, ExR B rb s f
  | 0 => fun i v l w h hi hf hl => by
    obtain rfl : i = s.size := by omega
    have HS := Lib.hid (see_stop (by omega) h)
    have F0 : Hid (Fr rb v v w w) := Fr.of_below (Below.refl _ _)
    clear h
    show Calls _ _ _ _ (ExO B rb s (l.length + (s.size - s.size)) l v w (.error 3))
    have HXR : Hid (XR s (l.length + (s.size - s.size)) l (.error 3) 0 ⟨s.size, l, 3⟩) := ⟨⟨Nat.le_refl _, Nat.le_refl _⟩, rfl, by decide⟩
    go_enter Try.func91, Try.ntmps91
    go_wp2_with (go_at_call 109; ((with_reducible refine (HS.out).mono ?_); rintro y1 w1 ⟨rfl, v1, hR1, hF1⟩); obtain ⟨⟨ka1, kb1⟩, ⟨za1, zb1⟩, rl1⟩ := hR1.all; have H1 := Lib.hid hR1; have F1 := Lib.hid (F0.out.trans hF1); clear hR1 hF1)
    go_ret
    exact ⟨0, _, v1, HXR, rfl, H1.out, F1.out⟩
  | f + 1 => fun i v l w h hi hf hl => by
    have HE := rExpr_all B rb s hs f
    have F0 : Hid (Fr rb v v w w) := Fr.of_below (Below.refl _ _)
    by_cases hz : i = s.size
    · subst hz
      have HS := Lib.hid (see_stop (by omega) h)
      rw [Dl_end]
      clear h HE
      show Calls _ _ _ _ (ExO B rb s (l.length + (s.size - s.size)) l v w (.error 3))
      have HXR : Hid (XR s (l.length + (s.size - s.size)) l (.error 3) 0 ⟨s.size, l, 3⟩) := ⟨⟨Nat.le_refl _, Nat.le_refl _⟩, rfl, by decide⟩
      go_enter Try.func91, Try.ntmps91
      go_wp2_with (go_at_call 109; ((with_reducible refine (HS.out).mono ?_); rintro y1 w1 ⟨rfl, v1, hR1, hF1⟩); obtain ⟨⟨ka1, kb1⟩, ⟨za1, zb1⟩, rl1⟩ := hR1.all; have H1 := Lib.hid hR1; have F1 := Lib.hid (F0.out.trans hF1); clear hR1 hF1)
      go_ret
      exact ⟨0, _, v1, HXR, rfl, H1.out, F1.out⟩
    · have hi1 : i < s.size := by omega
      have HS := Lib.hid (see_at (by omega) hi1 h)
      rw [pex_ch (f := f) hi1]
      obtain ⟨j, hj⟩ : ∃ j, j = i + 1 := ⟨_, rfl⟩
      rw [← hj]
      have hc8 := ch_lt s i
      generalize ch s i = c at *
      have hi4 : i < 4096 := by omega
      clear h hz
      by_cases h48 : c = 48
      · rw [if_pos h48]
        have HXR := Lib.hid (xr_leaf (s := s) (N := l.length + (s.size - i)) (op := 1) (p := 0) (q := 0) (l := l) hj hi1 (Nat.le_refl _))
        have HA : Hid (∀ v X, RdAt X B rb s ⟨i + 1, l, 0⟩ v → Calls Try.prog 110 #[.pointer (some ⟨rb, 0, none⟩), .agg #[.int .u8 1, .int .u8 0, .int .u8 0, .int .i64 0, .int .i64 0]] X fun e w' => e = .returned (.int .i64 ((l.length : Nat) : Int)) ∧ ∃ v', RdAt w' B rb s ⟨i + 1, l ++ [⟨1, 0, 0, 0, 0⟩], 0⟩ v' ∧ Fr rb v v' X w') := fun v X hX => add_lf 1 0 0 (by omega) hX
        subst h48
        subst hj
        clear HE hf hl hi1
        go_enter Try.func91, Try.ntmps91
        go_wp2_with (first
  | (go_at_call 109; ((with_reducible refine (HS.out).mono ?_); rintro y1 w1 ⟨rfl, v1, hR1, hF1⟩); obtain ⟨⟨ka1, kb1⟩, ⟨za1, zb1⟩, rl1⟩ := hR1.all; have H1 := Lib.hid hR1; have F1 := Lib.hid (F0.out.trans hF1); have H2 : Hid (RdAt (w1.setCell ⟨rb, 1, none⟩ (.int .i64 ((i : Int) + 1))) B rb s ⟨i + 1, l, 0⟩ v1) := H1.out.step.1; have F2 : Hid (Fr rb v v1 w (w1.setCell ⟨rb, 1, none⟩ (.int .i64 ((i : Int) + 1)))) := F1.out.trans H1.out.step.2; clear hR1 hF1)
  | (go_at_call 110; ((with_reducible refine (HA.out v1 _ H2.out).mono ?_); rintro y3 w3 ⟨rfl, v3, hR3, hF3⟩); obtain ⟨⟨ka3, kb3⟩, ⟨za3, zb3⟩, rl3⟩ := hR3.all; have H3 := Lib.hid hR3; have F3 := Lib.hid (F2.out.trans hF3); clear hR3 hF3))
        go_ret
        exact ⟨_, _, v3, HXR, rfl, H3.out, F3.out⟩
      rw [if_neg h48]
      have n48 := nat_ne0 (n := c) (k := 48) (by omega)
      by_cases h49 : c = 49
      · rw [if_pos h49]
        have HXR := Lib.hid (xr_leaf (s := s) (N := l.length + (s.size - i)) (op := 2) (p := 0) (q := 0) (l := l) hj hi1 (Nat.le_refl _))
        have HA : Hid (∀ v X, RdAt X B rb s ⟨i + 1, l, 0⟩ v → Calls Try.prog 110 #[.pointer (some ⟨rb, 0, none⟩), .agg #[.int .u8 2, .int .u8 0, .int .u8 0, .int .i64 0, .int .i64 0]] X fun e w' => e = .returned (.int .i64 ((l.length : Nat) : Int)) ∧ ∃ v', RdAt w' B rb s ⟨i + 1, l ++ [⟨2, 0, 0, 0, 0⟩], 0⟩ v' ∧ Fr rb v v' X w') := fun v X hX => add_lf 2 0 0 (by omega) hX
        subst h49
        subst hj
        clear HE hf hl hi1
        go_enter Try.func91, Try.ntmps91
        go_wp2_with (first
  | (go_at_call 109; ((with_reducible refine (HS.out).mono ?_); rintro y1 w1 ⟨rfl, v1, hR1, hF1⟩); obtain ⟨⟨ka1, kb1⟩, ⟨za1, zb1⟩, rl1⟩ := hR1.all; have H1 := Lib.hid hR1; have F1 := Lib.hid (F0.out.trans hF1); have H2 : Hid (RdAt (w1.setCell ⟨rb, 1, none⟩ (.int .i64 ((i : Int) + 1))) B rb s ⟨i + 1, l, 0⟩ v1) := H1.out.step.1; have F2 : Hid (Fr rb v v1 w (w1.setCell ⟨rb, 1, none⟩ (.int .i64 ((i : Int) + 1)))) := F1.out.trans H1.out.step.2; clear hR1 hF1)
  | (go_at_call 110; ((with_reducible refine (HA.out v1 _ H2.out).mono ?_); rintro y3 w3 ⟨rfl, v3, hR3, hF3⟩); obtain ⟨⟨ka3, kb3⟩, ⟨za3, zb3⟩, rl3⟩ := hR3.all; have H3 := Lib.hid hR3; have F3 := Lib.hid (F2.out.trans hF3); clear hR3 hF3))
        go_ret
        exact ⟨_, _, v3, HXR, rfl, H3.out, F3.out⟩
      rw [if_neg h49]
      have n49 := nat_ne0 (n := c) (k := 49) (by omega)
      by_cases h91 : c = 91
      · rw [if_pos h91]
        have HC : Hid (∀ v X, RdAt X B rb s ⟨i + 1, l, 0⟩ v → _) := fun v X hX => cube_gen (v := v) (w := X) hs hj hi1 (hj ▸ hX)
        have HA : Hid (∀ (p q k : Nat) (e0 : Int) v X, RdAt X B rb s ⟨k, l, e0⟩ v → Calls Try.prog 110 #[.pointer (some ⟨rb, 0, none⟩), .agg #[.int .u8 3, .int .u8 p, .int .u8 q, .int .i64 0, .int .i64 0]] X fun e w' => e = .returned (.int .i64 ((l.length : Nat) : Int)) ∧ ∃ v', RdAt w' B rb s ⟨k, l ++ [⟨3, p, q, 0, 0⟩], e0⟩ v' ∧ Fr rb v v' X w') := fun p q k e0 v X hX => add_lf 3 p q (by omega) hX
        change Calls _ _ _ _ (ExO B rb s _ l v w (cubR (pcube (Dl s j))))
        generalize cubR (pcube (Dl s j)) = RR at *
        subst h91
        subst hj
        clear HE hf hl hi1
        go_enter Try.func91, Try.ntmps91
        go_wp2_with (first
  | (go_at_call 109; ((with_reducible refine (HS.out).mono ?_); rintro y1 w1 ⟨rfl, v1, hR1, hF1⟩); obtain ⟨⟨ka1, kb1⟩, ⟨za1, zb1⟩, rl1⟩ := hR1.all; have H1 := Lib.hid hR1; have F1 := Lib.hid (F0.out.trans hF1); have H2 : Hid (RdAt (w1.setCell ⟨rb, 1, none⟩ (.int .i64 ((i : Int) + 1))) B rb s ⟨i + 1, l, 0⟩ v1) := H1.out.step.1; have F2 : Hid (Fr rb v v1 w (w1.setCell ⟨rb, 1, none⟩ (.int .i64 ((i : Int) + 1)))) := F1.out.trans H1.out.step.2; clear hR1 hF1)
  | (go_at_call 111; ((with_reducible refine (HC.out v1 _ H2.out).mono ?_); rintro y3 w3 ⟨p3, q3, k3, e3, v3, HX3, rfl, hR3, hF3⟩); have H3 := Lib.hid hR3; have F3 := Lib.hid (F2.out.trans hF3); clear hR3 hF3)
  | (go_at_call 110; ((with_reducible refine (HA.out p3 q3 k3 e3 v3 _ (H3.out.below (bal (Below.refl _ _) _))).mono ?_); rintro y4 w4 ⟨rfl, v4, hR4, hF4⟩); have H4 := Lib.hid hR4; have F4 := Lib.hid (F3.out.trans ((Fr.of_below (bal (Below.refl _ _) _)).trans hF4)); clear hR4 hF4))
        go_ret
        exact ⟨_, _, v4, HX3, rfl, H4.out, F4.out⟩
      rw [if_neg h91]
      have n91 := nat_ne0 (n := c) (k := 91) (by omega)
      by_cases h40 : c = 40
      · rw [if_pos h40]
        have HI : Hid (∀ v X, RdAt X B rb s ⟨i + 1, l, 0⟩ v → Calls Try.prog 112 #[.pointer (some ⟨rb, 0, none⟩)] X (ExO B rb s (l.length + (s.size - i)) l v X (pex (f + 1) (40 :: Dl s j)))) := fun v X hX => by
          have := inner_any (v := v) (w := X) f hs HE (i + 1) l hX (by omega) (by omega) (by omega)
          rw [show l.length + (s.size - (i + 1)) + 1 = l.length + (s.size - i) by omega, ← hj] at this
          exact this
        generalize pex (f + 1) (40 :: Dl s j) = RR at *
        subst h40
        subst hj
        clear HE hf hl hi1
        go_enter Try.func91, Try.ntmps91
        go_wp2_with (first
  | (go_at_call 109; ((with_reducible refine (HS.out).mono ?_); rintro y1 w1 ⟨rfl, v1, hR1, hF1⟩); obtain ⟨⟨ka1, kb1⟩, ⟨za1, zb1⟩, rl1⟩ := hR1.all; have H1 := Lib.hid hR1; have F1 := Lib.hid (F0.out.trans hF1); have H2 : Hid (RdAt (w1.setCell ⟨rb, 1, none⟩ (.int .i64 ((i : Int) + 1))) B rb s ⟨i + 1, l, 0⟩ v1) := H1.out.step.1; have F2 : Hid (Fr rb v v1 w (w1.setCell ⟨rb, 1, none⟩ (.int .i64 ((i : Int) + 1)))) := F1.out.trans H1.out.step.2; clear hR1 hF1)
  | (go_at_call 112; ((with_reducible refine (HI.out v1 _ H2.out).mono ?_); rintro y3 w3 ⟨x3, R3, v3, HX3, rfl, hR3, hF3⟩); have H3 := Lib.hid hR3; have F3 := Lib.hid (F2.out.trans hF3); clear hR3 hF3))
        go_ret
        exact ⟨_, _, v3, HX3, rfl, H3.out, F3.out⟩
      rw [if_neg h40]
      have n40 := nat_ne0 (n := c) (k := 40) (by omega)
      have HXR : Hid (XR s (l.length + (s.size - i)) l (.error 2) 0 ⟨i + 1, l, 2⟩) := ⟨⟨hi1, by show l.length + (s.size - (i + 1)) ≤ _; omega⟩, rfl, by decide⟩
      clear HE hf hl hi1 h48 h49 h91 h40
      go_enter Try.func91, Try.ntmps91
      go_wp2_with (go_at_call 109; ((with_reducible refine (HS.out).mono ?_); rintro y1 w1 ⟨rfl, v1, hR1, hF1⟩); obtain ⟨⟨ka1, kb1⟩, ⟨za1, zb1⟩, rl1⟩ := hR1.all; have H1 := Lib.hid hR1; have F1 := Lib.hid (F0.out.trans hF1); have H2 : Hid (RdAt (w1.setCell ⟨rb, 1, none⟩ (.int .i64 ((i : Int) + 1))) B rb s ⟨i + 1, l, 0⟩ v1) := H1.out.step.1; have F2 : Hid (Fr rb v v1 w (w1.setCell ⟨rb, 1, none⟩ (.int .i64 ((i : Int) + 1)))) := F1.out.trans H1.out.step.2; clear hR1 hF1)
      go_ret
      exact ⟨0, _, v1, HXR, rfl, H2.out.fail 2, F2.out.trans (H2.out.fr 3 _)⟩
end Go.Proofs.Yteckkbjpeckjmaa.Rx
/- The reference's Parse (package regex). -/
namespace Go.Proofs.Yteckkbjpeckjmaa.Rx
open Go Go.RowKit Go.Proofs.Yteckkbjpeckjmaa
set_option linter.unusedVariables false
set_option linter.unusedSimpArgs false
set_option maxRecDepth 100000
section
variable (s : ByteArray) (w : World)
/-- A new reader. -/
theorem rd_new : RdAt (w.alloc (.cells #[.string s, .int .i64 0, .slice none 0 0, .int .i64 0] 127)) w.heap.size w.heap.size s ⟨0, [], 0⟩ (.slice none 0 0) :=
  ⟨World.alloc_heap_new w (.cells #[.string s, .int .i64 0, .slice none 0 0, .int .i64 0] 127), ⟨rfl, .inl ⟨rfl, rfl⟩⟩, Nat.le_refl _, by simp⟩
/-- What expr makes of the whole text. -/
theorem rExpr_new (hs : s.size ≤ 4096) : Calls Try.prog 91 #[.pointer (some ⟨w.heap.size, 0, none⟩)] (w.alloc (.cells #[.string s, .int .i64 0, .slice none 0 0, .int .i64 0] 127)) fun e w' => ∃ x R1 v', Hid (XR s s.size [] (pex s.size s.data.toList) x R1) ∧ e = .returned (.int .i64 x) ∧ RdAt w' w.heap.size w.heap.size s R1 v' ∧ Below w.heap.size w w' := by
  have h := rd_new s w
  have := rExpr_all w.heap.size w.heap.size s hs s.size 0 _ [] _ h (Nat.zero_le _) (by omega) (by simp; omega)
  refine this.mono fun e w' ⟨x, R1, v', hx, he, hR, hF⟩ => ⟨x, R1, v', ?_, he, hR, (bal (Below.refl _ _) _).trans (h.bel hF)⟩
  have hx := hx.out
  rw [show ([] : List Pc).length + (s.size - 0) = s.size by simp] at hx
  exact hx
end
set_option maxHeartbeats 8000000 in
theorem refParse_bad (s : ByteArray) (v k : Int) (w : World) (hs2 : s.size ≤ 1000000) (h : parE s.data.toList v = .error k) :
    Calls Try.prog 67 #[.string s, .int .i64 v] w fun r w' => r = .returned (.tuple #[.slice none 0 0, .int .i64 k]) ∧ Below w.heap.size w w' := by
  have hl : s.data.toList.length = s.size := by simp
  unfold parE at h
  by_cases hv : v < 0 ∨ 6 < v
  · rw [if_pos hv] at h
    cases h
    clear hl hs2
    have hd : decide (v < 0) = true ∨ (decide (v < 0) = false ∧ decide (6 < v) = true) := by
      by_cases h0 : v < 0
      · exact .inl (decide_eq_true h0)
      · exact .inr ⟨decide_eq_false h0, decide_eq_true (by omega)⟩
    rcases hd with hd | ⟨hd, hd2⟩
    all_goals
      clear hv
      go_enter Try.func67, Try.ntmps67
      go_wp2
      go_ret2
      exact ⟨rfl, Below.refl _ _⟩
  · rw [if_neg hv, hl] at h
    have d1 : decide (v < 0) = false := decide_eq_false (by omega)
    have d2 : decide (6 < v) = false := decide_eq_false (by omega)
    by_cases h4 : 4096 < s.size
    · rw [if_pos h4] at h
      cases h
      have hd : decide ((4096 : Int) < s.size) = true := decide_eq_true (by omega)
      clear hl hv
      go_enter Try.func67, Try.ntmps67
      go_wp2
      go_ret2
      exact ⟨rfl, Below.refl _ _⟩
    · rw [if_neg h4] at h
      have hd : decide ((4096 : Int) < s.size) = false := decide_eq_false (by omega)
      have HE0 := rExpr_new s w (by omega)
      have hp0 := fun t r => pex_left (s := s) (i := 0) (f := s.size) (t := t) (r := r)
      rw [show Dl s 0 = s.data.toList from rfl] at hp0
      cases hx : pex s.size s.data.toList with
      | error k' =>
        rw [hx] at h HE0
        have e1 : k' = k := by cases h; rfl
        subst e1
        have hk : k' ≠ 0 := pex_err _ _ _ hx
        have hk1 : (k' == 0) = false := by rw [beq_eq_false_iff_ne]; exact hk
        have hk2 := int_ne hk
        have HE := Lib.hid HE0
        clear HE0 hp0 hx h hl hv h4 hs2
        go_enter Try.func67, Try.ntmps67
        go_wp2_with (go_at_call 91; ((with_reducible refine HE.out.mono ?_); rintro y w3 ⟨x, ⟨i3, l3, e3⟩, v3, HX, rfl, hR, hb⟩); obtain rfl : e3 = k' := HX.out.err; obtain ⟨⟨ka, kb⟩, ⟨za, zb⟩, rl⟩ := hR.all)
        go_quiet (fail)
        go_wp2
        go_ret2
        exact ⟨rfl, stepB hb (Ap.drewN_below _ _)⟩
      | ok y =>
        obtain ⟨t, r⟩ := y
        rw [hx] at h HE0
        obtain ⟨hr, hq1, hq2⟩ := hp0 _ _ hx (Nat.zero_le _)
        cases r with
        | cons c r =>
          have e1 : (5 : Int) = k := by cases h; rfl
          subst e1
          obtain ⟨m, hm⟩ : ∃ m, m = s.size - (c :: r).length := ⟨_, rfl⟩
          have hml : m < s.size := by rw [hm]; simp only [List.length_cons]; simp only [List.length_cons] at hq2; omega
          have HE : Hid (Calls Try.prog 91 #[.pointer (some ⟨w.heap.size, 0, none⟩)] (w.alloc (.cells #[.string s, .int .i64 0, .slice none 0 0, .int .i64 0] 127)) fun e w' => ∃ x v', e = .returned (.int .i64 x) ∧ RdAt w' w.heap.size w.heap.size s ⟨m, [] ++ flat t 0, 0⟩ v' ∧ Below w.heap.size w w') := HE0.mono fun e w' ⟨x, R1, v', hX, he, hR, hb⟩ => by
            obtain ⟨_, _, rfl⟩ := hX.out
            rw [hm]
            exact ⟨x, v', he, hR, hb⟩
          have hmi : decide ((m : Int) < s.size) = true := decide_eq_true (by omega)
          clear HE0 hp0 hx h hl hv h4 hr hm hq1 hq2
          go_enter Try.func67, Try.ntmps67
          go_wp2_with (go_at_call 91; ((with_reducible refine HE.out.mono ?_); rintro y w3 ⟨x, v3, rfl, hR, hb⟩); obtain ⟨⟨ka, kb⟩, ⟨za, zb⟩, rl⟩ := hR.all)
          go_quiet (fail)
          go_wp2
          go_ret2
          exact ⟨rfl, stepB (hb.setCell (by simp) _) (Ap.drewN_below _ _)⟩
        | nil =>
          simp only at h
          obtain ⟨h1, h2, h3⟩ := pex_ok _ _ _ _ hx
          by_cases hc : chkC v t = 0
          · rw [if_pos hc] at h; cases h
          · rw [if_neg hc] at h
            have e1 : chkC v t = k := by cases h; rfl
            have hne := int_ne hc
            have hn0 : (chkC v t == 0) = false := by rw [beq_eq_false_iff_ne]; exact hc
            have hsz : t.size ≤ 4096 := by simp at hq1; omega
            have HE : Hid (Calls Try.prog 91 #[.pointer (some ⟨w.heap.size, 0, none⟩)] (w.alloc (.cells #[.string s, .int .i64 0, .slice none 0 0, .int .i64 0] 127)) fun e w' => ∃ x A' c', e = .returned (.int .i64 x) ∧ RdAt w' w.heap.size w.heap.size s ⟨s.size, flat t 0, 0⟩ (.slice A' t.size c') ∧ Below w.heap.size w w') := HE0.mono fun e w' ⟨x, R1, v', hX, he, hR, hb⟩ => by
              obtain ⟨_, _, rfl⟩ := hX.out
              obtain ⟨A', c', hv', _⟩ := Ap.own_form hR.o
              simp only [List.nil_append, List.length_nil, Nat.sub_zero] at hR hv'
              rw [flat_len] at hv'
              subst hv'
              exact ⟨x, A', c', he, hR, hb⟩
            have HK : Hid (∀ X A' c', RdAt X w.heap.size w.heap.size s ⟨s.size, flat t 0, 0⟩ (.slice A' t.size c') → Calls Try.prog 68 #[.slice A' t.size c', .int .i64 v] X fun r w' => r = .returned (.int .i64 (chkC v t)) ∧ Below X.heap.size X w') := fun X A' c' hR => by
              have ho := hR.o
              simp only [flat_len] at ho
              have := refCheck_L A' (flat t 0) c' v X (pcs_of_own ho (flat_fine t 0 h1 (p8_six t h1 h2) (by omega))) (by rw [flat_len]; omega)
              rwa [flat_len, chkL_flat h1] at this
            subst e1
            generalize chkC v t = E at *
            have hsi : decide ((s.size : Int) < s.size) = false := decide_eq_false (by omega)
            clear HE0 hp0 hx h hl hv h4 hr hq1 hq2 hc h1 h2 h3
            go_enter Try.func67, Try.ntmps67
            go_wp2_with (first
              | (go_at_call 91; ((with_reducible refine HE.out.mono ?_); rintro y w3 ⟨x, A3, c3, rfl, hR, hb⟩); obtain ⟨⟨ka, kb⟩, ⟨za, zb⟩, rl⟩ := hR.all; have kc := hR.cells.2.2.1; have HR := Lib.hid hR; have HB := Lib.hid hb; clear hR hb)
              | (go_at_call 68; ((with_reducible refine (HK.out _ _ _ HR.out).mono ?_); rintro y w4 ⟨rfl, hb4⟩); have hR4 := HR.out.below hb4; have HB4 := Lib.hid (stepB HB.out hb4); obtain ⟨⟨ka4, kb4⟩, ⟨za4, zb4⟩, rl4⟩ := hR4.all; have HR4 := Lib.hid hR4; clear hR4 hb4))
            go_quiet (fail)
            go_wp2
            go_ret2
            exact ⟨rfl, stepB (HB4.out.setCell (by simp) _) (Ap.drewN_below _ _)⟩
set_option maxHeartbeats 8000000 in
theorem refParse_good (s : ByteArray) (v : Int) (t : Ex) (w : World) (h : parE s.data.toList v = .ok t) :
    Calls Try.prog 67 #[.string s, .int .i64 v] w fun r w' => ∃ A' c', r = .returned (.tuple #[.slice A' t.size c', .int .i64 0]) ∧ w'.ownsRow w.heap.size 32 5 (.slice A' t.size c') t.size (pvs (flat t 0)) ∧ Below w.heap.size w w' := by
  have hl : s.data.toList.length = s.size := by simp
  obtain ⟨hV, hT⟩ := parE_ok h
  unfold parE at h
  by_cases hv : v < 0 ∨ 6 < v
  · rw [if_pos hv] at h; cases h
  · rw [if_neg hv, hl] at h
    have d1 : decide (v < 0) = false := decide_eq_false (by omega)
    have d2 : decide (6 < v) = false := decide_eq_false (by omega)
    by_cases h4 : 4096 < s.size
    · rw [if_pos h4] at h; cases h
    · rw [if_neg h4] at h
      have hd : decide ((4096 : Int) < s.size) = false := decide_eq_false (by omega)
      have HE0 := rExpr_new s w (by omega)
      cases hx : pex s.size s.data.toList with
      | error k' => rw [hx] at h; cases h
      | ok y =>
        obtain ⟨u, r⟩ := y
        rw [hx] at h HE0
        cases r with
        | cons c r => cases h
        | nil =>
          simp only at h
          obtain ⟨h1, h2, h3⟩ := pex_ok _ _ _ _ hx
          by_cases hc : chkC v u = 0
          · rw [if_pos hc] at h
            obtain rfl : u = t := by cases h; rfl
            have hsz := hV.size
            have HE : Hid (Calls Try.prog 91 #[.pointer (some ⟨w.heap.size, 0, none⟩)] (w.alloc (.cells #[.string s, .int .i64 0, .slice none 0 0, .int .i64 0] 127)) fun e w' => ∃ x A' c', e = .returned (.int .i64 x) ∧ RdAt w' w.heap.size w.heap.size s ⟨s.size, flat u 0, 0⟩ (.slice A' u.size c') ∧ Below w.heap.size w w') := HE0.mono fun e w' ⟨x, R1, v', hX, he, hR, hb⟩ => by
              obtain ⟨_, _, rfl⟩ := hX.out
              obtain ⟨A', c', hv', _⟩ := Ap.own_form hR.o
              simp only [List.nil_append, List.length_nil, Nat.sub_zero] at hR hv'
              rw [flat_len] at hv'
              subst hv'
              exact ⟨x, A', c', he, hR, hb⟩
            have HK : Hid (∀ X A' c', RdAt X w.heap.size w.heap.size s ⟨s.size, flat u 0, 0⟩ (.slice A' u.size c') → Calls Try.prog 68 #[.slice A' u.size c', .int .i64 v] X fun r w' => r = .returned (.int .i64 0) ∧ Below X.heap.size X w') := fun X A' c' hR => by
              have ho := hR.o
              simp only [flat_len] at ho
              have := refCheck_L A' (flat u 0) c' v X (pcs_of_own ho (flat_fine u 0 h1 (p8_six u h1 h2) (by omega))) (by rw [flat_len]; omega)
              rwa [flat_len, chkL_flat h1, hc] at this
            have HO : Hid (∀ X A' c', RdAt X w.heap.size w.heap.size s ⟨s.size, flat u 0, 0⟩ (.slice A' u.size c') → X.ownsRow w.heap.size 32 5 (.slice A' u.size c') u.size (pvs (flat u 0))) := fun X A' c' hR => by
              have ho := hR.o
              simp only [flat_len] at ho
              exact ho
            have hsi : decide ((s.size : Int) < s.size) = false := decide_eq_false (by omega)
            clear HE0 hx h hl hv h4 hc h1 h2 h3 hV hT
            go_enter Try.func67, Try.ntmps67
            go_wp2_with (first
              | (go_at_call 91; ((with_reducible refine HE.out.mono ?_); rintro y w3 ⟨x, A3, c3, rfl, hR, hb⟩); obtain ⟨⟨ka, kb⟩, ⟨za, zb⟩, rl⟩ := hR.all; have kc := hR.cells.2.2.1; have HR := Lib.hid hR; have HB := Lib.hid hb; clear hR hb)
              | (go_at_call 68; ((with_reducible refine (HK.out _ _ _ HR.out).mono ?_); rintro y w4 ⟨rfl, hb4⟩); have hR4 := HR.out.below hb4; have HB4 := Lib.hid (stepB HB.out hb4); obtain ⟨⟨ka4, kb4⟩, ⟨za4, zb4⟩, rl4⟩ := hR4.all; have kc4 := hR4.cells.2.2.1; have HR4 := Lib.hid hR4; clear hR4 hb4))
            go_ret2
            exact ⟨_, _, rfl, HO.out _ _ _ (HR4.out.fail 0), HB4.out.setCell (by simp) _⟩
          · rw [if_neg hc] at h; cases h
end Go.Proofs.Yteckkbjpeckjmaa.Rx
/- The walk of RegexParse. -/
namespace Go.Proofs.Yteckkbjpeckjmaa.Rx
open Go Go.RowKit Go.Shelf Go.Proofs.Yteckkbjpeckjmaa
set_option linter.unusedVariables false
set_option maxRecDepth 100000
theorem CanP.nil {B : Nat} {w : World} : CanP B w none 0 := fun j hj => absurd hj (Nat.not_lt_zero j)
end Go.Proofs.Yteckkbjpeckjmaa.Rx
