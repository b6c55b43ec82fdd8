/- The walk of SubsetBudgets. -/
import Derived.Test.YtdjhfndoheoljaaDoorKB
namespace Go.Proofs.YtdjhfndoheoljaaDoor.Sb
open Go Go.RowKit Go.Proofs.YtdjhfndoheoljaaDoor Go.Proofs.YtdjhfndoheoljaaDoor.Cb
open Go.Proofs.YtdjhfndoheoljaaDoor.Nf (Na NaAt NaLen Ok ok_of chkN longB long_len Check6_any Blk Blk.new Blk.below Blk.cells)
open Go.Proofs.YtdjhfndoheoljaaDoor.Dg (Tabs tb tb_mem)
set_option linter.unusedVariables false
set_option linter.unusedSimpArgs false
set_option maxRecDepth 100000
section
variable (n : Na) (A B C : Option Addr) (a b c : Nat) (bud : Int) (w : World)
set_option maxHeartbeats 8000000 in
theorem subsetBudgets_walk (hx : NaAt w n A B C) (hM : NaMax7 n) (hI : -9223372036854775808 ≤ bud ∧ bud ≤ 9223372036854775807) (hT : Tabs2 w) :
    Calls Tryd.prog 11 #[.agg #[.int .i64 n.V, .int .i64 n.S, .slice A n.st.length a, .slice B n.fi.length b, .slice C n.es.length c], .int .i64 bud] w fun e w' => e = .returned (.bool true) ∧ Below w.heap.size w w' := by
  have HAw := Lib.hid fun X (hX : Below w.heap.size w X) => awake_any7 X (hT.below hX)
  have HLo := Lib.hid (Long6_any n A B C a b c w hM)
  have hN0 := Blk.new w (.int .i64 n.V) (.int .i64 n.S) (.slice A n.st.length a) (.slice B n.fi.length b) (.slice C n.es.length c)
  have hb0 := bal (Below.refl w.heap.size w) (.cells #[.int .i64 n.V, .int .i64 n.S, .slice A n.st.length a, .slice B n.fi.length b, .slice C n.es.length c] 47)
  by_cases hL : longB n = true
  · rw [hL] at HLo
    clear hx hM
    obtain ⟨z0, z1, z2, z3, z4⟩ := hN0.cells
    go_enter Tryd.func11, Tryd.ntmps11
    go_wp2_with (first
      | (go_at_call 34; ((with_reducible refine (HLo.out _ _ (by simp)).mono ?_); rintro e w2 ⟨rfl, hb2⟩); replace hb0 := stepB hb0 hb2)
      | (go_at_call 15; ((with_reducible refine (HAw.out _ hb0).mono ?_); rintro e w3 ⟨rfl, hb3⟩)))
    go_ret
    exact ⟨rfl, stepB hb0 hb3⟩
  have hL' : longB n = false := by
    cases hc : longB n with
    | true => exact absurd hc hL
    | false => rfl
  have hlen := long_len hL'
  rw [hL'] at HLo
  clear hL hL' hM
  have HCh := Lib.hid fun X (hX : Below w.heap.size w X) => Check6_any n A B C a b c X (hx.below hX) hlen
  by_cases hearly : chkN n ≠ 0 ∨ 7 < n.S ∨ bud < 1 ∨ 4096 < bud
  · have hor : (chkN n != 0) = true ∨ ((chkN n = 0) ∧ decide (7 < n.S) = true) ∨ ((chkN n = 0) ∧ decide (7 < n.S) = false ∧ decide (bud < 1) = true) ∨ ((chkN n = 0) ∧ decide (7 < n.S) = false ∧ decide (bud < 1) = false ∧ decide (4096 < bud) = true) := by
      by_cases h1 : chkN n = 0
      · by_cases h2 : 7 < n.S
        · exact .inr (.inl ⟨h1, decide_eq_true h2⟩)
        · by_cases h3 : bud < 1
          · exact .inr (.inr (.inl ⟨h1, decide_eq_false h2, decide_eq_true h3⟩))
          · exact .inr (.inr (.inr ⟨h1, decide_eq_false h2, decide_eq_false h3, decide_eq_true (by omega)⟩))
      · exact .inl (by rw [bne_iff_ne]; exact h1)
    clear hearly hx hlen hT
    obtain ⟨z0, z1, z2, z3, z4⟩ := hN0.cells
    generalize chkN n = E at *
    generalize n.S = S at *
    rcases hor with hd1 | ⟨rfl, hd1⟩ | ⟨rfl, hd1, hd2⟩ | ⟨rfl, hd1, hd2, hd3⟩
    all_goals
      go_enter Tryd.func11, Tryd.ntmps11
      go_wp2_with (first
        | (go_at_call 34; ((with_reducible refine (HLo.out _ _ (by simp)).mono ?_); rintro e w2 ⟨rfl, hb2⟩); replace hb0 := stepB hb0 hb2; replace hN0 := hN0.below hb2; clear z0 z1 z2 z3 z4; obtain ⟨z0, z1, z2, z3, z4⟩ := hN0.cells)
        | (go_at_call 43; ((with_reducible refine (HCh.out _ hb0).mono ?_); rintro e w4 ⟨rfl, hb4⟩); replace hb0 := stepB hb0 hb4; replace hN0 := hN0.below hb4; clear z0 z1 z2 z3 z4; obtain ⟨z0, z1, z2, z3, z4⟩ := hN0.cells)
        | (go_at_call 15; ((with_reducible refine (HAw.out _ hb0).mono ?_); rintro e w3 ⟨rfl, hb3⟩)))
      go_ret
      exact ⟨rfl, stepB hb0 hb3⟩
  have hc0 : chkN n = 0 := by
    by_cases h1 : chkN n = 0
    · exact h1
    · exact absurd (.inl h1) hearly
  have hO := ok_of hc0
  have hS7 : n.S ≤ 7 := by
    by_cases h1 : 7 < n.S
    · exact absurd (.inr (.inl h1)) hearly
    · omega
  obtain ⟨β, rfl⟩ : ∃ β : Nat, bud = β := ⟨bud.toNat, by
    by_cases h1 : bud < 1
    · exact absurd (.inr (.inr (.inl h1))) hearly
    · omega⟩
  have hβ1 : 1 ≤ β := by
    by_cases h1 : (β : Int) < 1
    · exact absurd (.inr (.inr (.inl h1))) hearly
    · omega
  have hβ2 : β ≤ 4096 := by
    by_cases h1 : 4096 < (β : Int)
    · exact absurd (.inr (.inr (.inr h1))) hearly
    · omega
  have hd1 : decide (7 < n.S) = false := decide_eq_false (by omega)
  have hd2 : decide ((β : Int) < 1) = false := decide_eq_false (by omega)
  have hd3 : decide (4096 < (β : Int)) = false := decide_eq_false (by omega)
  clear hearly hI
  have hpow : 2 ^ n.S.toNat ≤ 2 ^ 7 := Nat.pow_le_pow_right (by decide) (by omega)
  obtain ⟨F, hF, hFl⟩ := det_some hO (b := 4096) (by omega)
  have hFm : F.length ≤ 128 := by omega
  have hbd := det_budget hF hβ1 hβ2
  have hD := det_ok hO (by decide) (by decide) hF
  rw [hc0] at HCh
  have HD1 := Lib.hid fun X (hX : Below w.heap.size w X) => det_most n A B C a b c X (hx.below hX) hlen (hT.below hX) hc0 F hF
  by_cases hlt : β < F.length
  · rw [if_pos hlt] at hbd
    have HD2 := Lib.hid fun X (hX : Below w.heap.size w X) => Determinize_none n A B C a b c X (hx.below hX) hlen β (hT.below hX) hc0 hβ1 hβ2 hbd
    have hd4 : decide ((β : Int) < (F.length : Int)) = true := decide_eq_true (by omega)
    clear hx hlen hT hc0 hO hbd hF hFl hpow hD
    generalize detD n F = DD at *
    generalize F.map elsI = FL at *
    generalize F.length = fl at *
    obtain ⟨z0, z1, z2, z3, z4⟩ := hN0.cells
    go_enter Tryd.func11, Tryd.ntmps11
    go_wp2_with (first
      | (go_at_call 34; ((with_reducible refine (HLo.out _ _ (by simp)).mono ?_); rintro e w2 ⟨rfl, hb2⟩); replace hb0 := stepB hb0 hb2; replace hN0 := hN0.below hb2; clear HLo z0 z1 z2 z3 z4; obtain ⟨z0, z1, z2, z3, z4⟩ := hN0.cells)
      | (go_at_call 43; ((with_reducible refine (HCh.out _ hb0).mono ?_); rintro e w4 ⟨rfl, hb4⟩); replace hb0 := stepB hb0 hb4; replace hN0 := hN0.below hb4; clear HCh z0 z1 z2 z3 z4; obtain ⟨z0, z1, z2, z3, z4⟩ := hN0.cells)
      | (go_at_call 15; ((with_reducible refine (HAw.out _ hb0).mono ?_); rintro e w3 ⟨rfl, hb3⟩); replace hb0 := stepB hb0 hb3; replace hN0 := hN0.below hb3; clear HAw z0 z1 z2 z3 z4; obtain ⟨z0, z1, z2, z3, z4⟩ := hN0.cells)
      | (go_at_call 38; ((with_reducible refine (HD1.out _ hb0).mono ?_); rintro e w5 ⟨A5, a5, B5, b5, C5, c5, rfl, hda5, ht5, hb5⟩); replace hb0 := stepB hb0 hb5; replace hN0 := hN0.below hb5; clear HD1 z0 z1 z2 z3 z4;
          have hG := Blk4.new w5 (.int .i64 n.V) (.int .i64 0) (.slice A5 fl a5) (.slice B5 fl b5);
          have K5 := bal (Below.refl w5.heap.size w5) (.cells #[.int .i64 n.V, .int .i64 0, .slice A5 fl a5, .slice B5 fl b5] 25);
          replace hb0 := stepB hb0 K5; replace hN0 := hN0.below K5; obtain ⟨z0, z1, z2, z3, z4⟩ := hN0.cells)
      | (go_at_call 38; ((with_reducible refine (HD2.out _ hb0).mono ?_); rintro e w6 ⟨rfl, hb6⟩); clear HD2 z0 z1 z2 z3 z4;
          have K6 := bal (Below.refl w6.heap.size w6) (.cells #[.int .i64 0, .int .i64 0, .slice none 0 0, .slice none 0 0] 25);
          have hG2 := Blk4.new w6 (.int .i64 0) (.int .i64 0) (.slice none 0 0) (.slice none 0 0); replace hG := (hG.below hb6).below K6; replace hb0 := stepB (stepB hb0 hb6) K6; obtain ⟨x0, x1, x2, x3⟩ := hG.cells; obtain ⟨y0, y1, y2, y3⟩ := hG2.cells))
    go_ret
    exact ⟨rfl, hb0⟩
  · rw [if_neg hlt] at hbd
    have HD2 := Lib.hid fun X (hX : Below w.heap.size w X) => det_good n A B C a b c X (hx.below hX) hlen β (hT.below hX) hc0 hβ1 hβ2 F hbd
    have hd4 : decide ((β : Int) < (F.length : Int)) = false := decide_eq_false (by omega)
    have HQ : Hid (∀ X A' B' A'' B'' a' b' a'' b'', DaAt X (detD n F) A' B' → DaAt X (detD n F) A'' B'' → Calls Tryd.prog 25 #[.agg #[.int .i64 n.V, .int .i64 0, .slice A' F.length a', .slice B' F.length b'], .agg #[.int .i64 n.V, .int .i64 0, .slice A'' F.length a'', .slice B'' F.length b'']] X fun e w' => e = .returned (.bool true) ∧ Below X.heap.size X w') := fun X A' B' A'' B'' a' b' a'' b'' h1 h2 => by
      have := EqualDFA_same (detD n F) A' B' A'' B'' a' b' a'' b'' X h1 h2 hD.len
      rwa [det_nx, det_fi] at this
    have HR : Hid (∀ X A' A'' a' a'', Tabs X A' (F.map elsI) → Tabs X A'' (F.map elsI) → Calls Tryd.prog 39 #[.slice A' F.length a', .slice A'' F.length a''] X fun e w' => e = .returned (.bool true) ∧ Below X.heap.size X w') := fun X A' A'' a' a'' h1 h2 => by
      have := EqualRows_same A' A'' (F.map elsI) a' a'' X h1 h2 (by rw [List.length_map]; omega) (fun u hu => by
        obtain ⟨s, _, rfl⟩ := List.mem_map.1 hu
        have := elsI_small s
        omega)
      rwa [List.length_map] at this
    clear hx hlen hT hc0 hO hbd hF hFl hpow hD
    generalize detD n F = DD at *
    generalize F.map elsI = FL at *
    generalize F.length = fl at *
    obtain ⟨z0, z1, z2, z3, z4⟩ := hN0.cells
    go_enter Tryd.func11, Tryd.ntmps11
    go_wp2_with (first
      | (go_at_call 34; ((with_reducible refine (HLo.out _ _ (by simp)).mono ?_); rintro e w2 ⟨rfl, hb2⟩); replace hb0 := stepB hb0 hb2; replace hN0 := hN0.below hb2; clear HLo z0 z1 z2 z3 z4; obtain ⟨z0, z1, z2, z3, z4⟩ := hN0.cells)
      | (go_at_call 43; ((with_reducible refine (HCh.out _ hb0).mono ?_); rintro e w4 ⟨rfl, hb4⟩); replace hb0 := stepB hb0 hb4; replace hN0 := hN0.below hb4; clear HCh z0 z1 z2 z3 z4; obtain ⟨z0, z1, z2, z3, z4⟩ := hN0.cells)
      | (go_at_call 15; ((with_reducible refine (HAw.out _ hb0).mono ?_); rintro e w3 ⟨rfl, hb3⟩); replace hb0 := stepB hb0 hb3; replace hN0 := hN0.below hb3; clear HAw z0 z1 z2 z3 z4; obtain ⟨z0, z1, z2, z3, z4⟩ := hN0.cells)
      | (go_at_call 38; ((with_reducible refine (HD1.out _ hb0).mono ?_); rintro e w5 ⟨A5, a5, B5, b5, C5, c5, rfl, hda5, ht5, hb5⟩); replace hb0 := stepB hb0 hb5; replace hN0 := hN0.below hb5; clear HD1 z0 z1 z2 z3 z4;
          have hG := Blk4.new w5 (.int .i64 n.V) (.int .i64 0) (.slice A5 fl a5) (.slice B5 fl b5);
          have K5 := bal (Below.refl w5.heap.size w5) (.cells #[.int .i64 n.V, .int .i64 0, .slice A5 fl a5, .slice B5 fl b5] 25);
          replace hda5 := hda5.below K5; replace ht5 := ht5.below K5; replace hb0 := stepB hb0 K5; replace hN0 := hN0.below K5; obtain ⟨z0, z1, z2, z3, z4⟩ := hN0.cells)
      | (go_at_call 38; ((with_reducible refine (HD2.out _ hb0).mono ?_); rintro e w6 ⟨A6, a6, B6, b6, C6, c6, rfl, hda6, ht6, hb6⟩); clear HD2 z0 z1 z2 z3 z4;
          have K6 := bal (Below.refl w6.heap.size w6) (.cells #[.int .i64 n.V, .int .i64 0, .slice A6 fl a6, .slice B6 fl b6] 25);
          have hG2 := Blk4.new w6 (.int .i64 n.V) (.int .i64 0) (.slice A6 fl a6) (.slice B6 fl b6); replace hG := (hG.below hb6).below K6; replace hb0 := stepB (stepB hb0 hb6) K6; replace hda5 := (hda5.below hb6).below K6; replace ht5 := (ht5.below hb6).below K6; replace hda6 := hda6.below K6; replace ht6 := ht6.below K6; obtain ⟨x0, x1, x2, x3⟩ := hG.cells; obtain ⟨y0, y1, y2, y3⟩ := hG2.cells)
      | (go_at_call 25; ((with_reducible refine (HQ.out _ A6 B6 A5 B5 a6 b6 a5 b5 hda6 hda5).mono ?_); rintro e w7 ⟨rfl, hb7⟩); replace hb0 := stepB hb0 hb7; replace ht5 := ht5.below hb7; replace ht6 := ht6.below hb7; clear HQ x0 x1 x2 x3 y0 y1 y2 y3)
      | (go_at_call 39; ((with_reducible refine (HR.out _ C6 C5 c6 c5 ht6 ht5).mono ?_); rintro e w8 ⟨rfl, hb8⟩); replace hb0 := stepB hb0 hb8))
    go_ret
    exact ⟨rfl, hb0⟩
end
end Go.Proofs.YtdjhfndoheoljaaDoor.Sb
