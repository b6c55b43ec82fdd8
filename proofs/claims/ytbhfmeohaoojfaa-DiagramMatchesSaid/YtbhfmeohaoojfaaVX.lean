/- DiagramMatches. -/
import Derived.Test.YtbhfmeohaoojfaaVU
import Derived.Outline
namespace Go.Proofs.Ytbhfmeohaoojfaa.Dn
open Go Go.RowKit Go.Proofs.Ytbhfmeohaoojfaa.Ap
open Go.Proofs.Ytbhfmeohaoojfaa.Dg
set_option linter.unusedVariables false
set_option maxRecDepth 100000
set_option maxHeartbeats 8000000 in
theorem diagramMatches_walk (v cap : Int) (A : Option Addr) (l : List SD) (c : Nat) (w : World) (hv0 : IntOk v) (hcap0 : IntOk cap) (hs : StepsAt w A l) (hl : l.length ≤ maxLen) :
    Calls Try.prog 3 #[.int .i64 v, .int .i64 cap, .slice A l.length c] w fun e w' => e = .returned (.bool true) ∧ Below w.heap.size w w' := by
  have HAw := Lib.hid fun X => awake_any X
  have HLo := Lib.hid (Long_b v A l c w hs hl)
  by_cases hB : longB v l = true
  · rw [hB] at HLo
    clear hB
    go_enter Try.func3, Try.ntmps3
    go_wp2_with (first
      | (go_at_call 9; ((with_reducible refine HLo.out.mono ?_); rintro e w1 ⟨rfl, hb1⟩))
      | (go_at_call 10; ((with_reducible refine (HAw.out _).mono ?_); rintro e w2 ⟨rfl, hb2⟩)))
    go_ret
    exact ⟨rfl, stepB hb1 hb2⟩
  have hB := eq_false_of_ne_true hB
  rw [hB] at HLo
  by_cases hE : newE v cap = 0
  · obtain ⟨v, cap, rfl, rfl, h6, h1, h4⟩ := newE_yes hE
    obtain ⟨hv4, hlen, hu⟩ := longB_no hB
    have HBe := Lib.hid fun X => begin_e v cap X h6 h1 h4
    clear hB hE
    go_enter Try.func3, Try.ntmps3
    go_wp2_with (first
      | (go_at_call 9; ((with_reducible refine HLo.out.mono ?_); rintro e w1 ⟨rfl, hb1⟩))
      | (go_at_call 11; ((with_reducible refine (HBe.out _).mono ?_); rintro e w2 ⟨qb, sb, cb, rb, tb, mb, rfl, hR0⟩)))
    have hs1 := hs.below hb1
    have HB1 := Lib.hid hb1
    clear hs hb1
    go_loopw [10] (fun i wr => ∃ m : Nat, m ≤ l.length ∧ i = .int .i64 m ∧ RunE w1 wr qb sb cb rb tb mb v cap m) (fun i _ => l.length - (intOf i).toNat)
    case atStart => exact ⟨0, by omega, rfl, hR0⟩
    case round =>
      clear hR0
      obtain ⟨m, hm, rfl, hR⟩ := hrel
      by_cases hlt : m < l.length
      · as_aux_lemma =>
        obtain ⟨hok, hi, ad, rfl, _, hc⟩ := hs1.nine hlt
        have h70 := hu m hlt
        obtain ⟨c0, c1, c2, c3, c4, c5, c6, c7, c8⟩ := nine_at fun i v hv => hc i v hv wr hR.bel
        have HSt := Lib.hid (step_at hR (by omega) (sd l m) hok hi h70)
        clear hs1 hu hok hi hc h70 hR
        generalize sd l m = s at *
        go_upto_region 11 with (go_at_call 12; ((with_reducible refine HSt.out.mono ?_); rintro e w5 ⟨rfl, hR5⟩))
        obtain ⟨nv, N, R, A2, c2, Q, rv, rs, tv, T, hRun, hT⟩ := hR5.open
        have hcells := hRun.law.cells
        have hqb := hRun.law.lt.1
        have HNo := Lib.hid hRun.nodes
        have HMn := Lib.hid fun Y (hY : Below w5.heap.size w5 Y) => (hRun.below hY).refNodes (by omega)
        have HVs := Lib.hid fun Y (hY : Below w5.heap.size w5 Y) => (hRun.below hY).vars
        have z0 := hcells.1
        have HC0 := Lib.hid fun Y (hY : Below w5.heap.size w5 Y) => (Below.cell hY hqb).trans hcells.1
        have HC1 := Lib.hid fun Y (hY : Below w5.heap.size w5 Y) => (Below.cell hY hqb).trans hcells.2.1
        have HR5 := Lib.hid fun Y (hY : Below w5.heap.size w5 Y) => hR5.below hY
        clear hRun hT hcells hqb hR5
        go_wp2_with (first
          | (go_at_call 13; ((with_reducible refine HNo.out.mono ?_); rintro e w6 ⟨rfl, b6⟩); have y0 := HC0.out _ b6; have y1 := HC1.out _ b6)
          | (go_at_call 14; ((with_reducible refine (HMn.out _ b6).mono ?_); rintro e w7 ⟨rfl, bx⟩); have b7 := stepB b6 bx; have x0 := HC0.out _ b7; clear bx)
          | (go_at_call 15; ((with_reducible refine (HVs.out _ b7).mono ?_); rintro e w8 ⟨rfl, bx⟩); have b8 := stepB b7 bx; clear bx))
        go_roundw
        case rel => exact ⟨m + 1, by omega, by go_num, HR5.out _ b8⟩
        case measure => simp [intOf]; omega
      · obtain rfl : m = l.length := by omega
        obtain ⟨nv, N, R, A2, c2, Q, rv, rs, tv, T, hRun, hT⟩ := hR
        have hS : Same w1 wr qb sb cb rb tb mb v cap N R A2 c2 Q rv rs tv T := ⟨nv, hRun⟩
        obtain ⟨A1, c1, e1⟩ := hS.rform
        obtain ⟨A3, c3, e3⟩ := hRun.tform
        obtain ⟨_, _, hv6⟩ := hS.len
        have hcells := hRun.law.cells
        have hqb := hRun.law.lt.1
        have hK := pow7 hv6
        have hrl : rs.length ≤ 1000 := by rw [hRun.len]; omega
        have HC0 := Lib.hid fun Y (hY : Below wr.heap.size wr Y) => (Below.cell hY hqb).trans hcells.1
        have HC1 := Lib.hid fun Y (hY : Below wr.heap.size wr Y) => (Below.cell hY hqb).trans hcells.2.1
        have HC2 : Hid (∀ Y, Below wr.heap.size wr Y → Y.cell? ⟨qb, 2, none⟩ = some (.slice A1 rs.length c1)) := fun Y hY => by rw [← e1]; exact (Below.cell hY hqb).trans hcells.2.2.1
        have HC3 : Hid (∀ Y, Below wr.heap.size wr Y → Y.cell? ⟨qb, 3, none⟩ = some (.slice A3 rs.length c3)) := fun Y hY => by rw [← e3]; exact (Below.cell hY hqb).trans hcells.2.2.2
        have HVr : Hid (∀ Y, Below wr.heap.size wr Y → Vals Y A1 rs.length fun j => .int .i64 ((rs.getD j 0 : Nat) : Int)) := fun Y hY => (hS.below hY).refs e1
        have HVt : Hid (∀ Y, Below wr.heap.size wr Y → Vals Y A3 rs.length (slf T)) := fun Y hY => (hRun.below hY).tabs e3
        have HTt : Hid (∀ i, i < rs.length → ∃ (B : Addr) (d : Nat), slf T i = .slice (some B) (2 ^ v) d ∧ ∀ Y, Below wr.heap.size wr Y → Ints Y (some B) (tabD v N (rs.getD i 0))) := fun i hi => by
          obtain ⟨B, d, e, hB⟩ := hRun.tabAt hi
          obtain ⟨ad, rfl, _⟩ := hB.1 0 (by rw [tabD_len]; exact Nat.two_pow_pos v)
          exact ⟨ad, d, e, fun Y hY => Ints.below hB.1 hY⟩
        have HTa := Lib.hid fun Y (hY : Below wr.heap.size wr Y) i (hi : i < rs.length) => (hS.below hY).table i hi
        have HSi := Lib.hid fun Y (hY : Below wr.heap.size wr Y) i (hi : i < rs.length) => Size_yes Y (hRun.own.inv.below hY) (rs.getD i 0) (hRun.each i hi).1
        have HMs := Lib.hid fun Y (hY : Below wr.heap.size wr Y) i (hi : i < rs.length) B d (hB : Ints Y B (tabD v N (rs.getD i 0))) => (hRun.below hY).refSize hi (d := d) hB
        have HCo := Lib.hid fun Y (hY : Below wr.heap.size wr Y) i (hi : i < rs.length) z => Count_yes Y (hRun.own.inv.below hY) (rs.getD i 0) z (hRun.each i hi).1
        have HMc : Hid (∀ Y B i d z, Ints Y B (tabD v N (rs.getD i 0)) → Calls Try.prog 22 #[.slice B (2 ^ v) d, .int .i64 z] Y fun e w' => e = .returned (.int .i64 ((tabD v N (rs.getD i 0)).count z : Nat)) ∧ Below Y.heap.size Y w') := fun Y B i d z hB => by
          have := Count_any B _ d z Y hB (by rw [tabD_len]; omega)
          rw [tabD_len] at this
          exact this
        have HEv : Hid (∀ Y, Below wr.heap.size wr Y → ∀ i, i < rs.length → ∀ x : Nat, x < 256 → Calls Try.prog 23 #[.pointer (some ⟨sb, 0, none⟩), .int .i64 (rs.getD i 0 : Nat), .int .u8 x] Y fun e w' => e = .returned (.tuple #[.int .i64 (if x < 2 ^ v then nd (tabD v N (rs.getD i 0)) x else 0), .int .i64 (if x < 2 ^ v then 0 else 1)]) ∧ Below Y.heap.size Y w') := fun Y hY i hi x hx => by
          refine (Eval_yes Y (hRun.own.inv.below hY) _ x (hRun.each i hi).1 hx).mono fun e w' ⟨he, hb⟩ => ⟨?_, hb⟩
          by_cases h : x < 2 ^ v
          · rw [he, tabD_nd h]
          · rw [he, if_neg h, if_neg h, if_neg h]
        have HEq : Hid (∀ X B C cc dd i, Ints X B (tabD v N (rs.getD i 0)) → Ints X C (tabD v N (rs.getD i 0)) → Calls Try.prog 17 #[.slice B (2 ^ v) cc, .slice C (2 ^ v) dd] X fun e w' => e = .returned (.bool true) ∧ Below X.heap.size X w') := fun X B C cc dd i hB hC => by
          have := EqualInts_any B C _ _ cc dd X hB hC (by rw [tabD_len]; unfold maxLen; omega)
          rw [tabD_len, decide_eq_true rfl] at this
          exact this
        have HOv := Lib.hid fun B A cc X (hw : CanI B X A (2 ^ v)) => OverInts_any B A (2 ^ v) cc X (by omega) hw
        obtain ⟨tf, htf⟩ : ∃ tf : Nat → List Int, ∀ j, tabD v N (rs.getD j 0) = tf j := ⟨fun j => tabD v N (rs.getD j 0), fun _ => rfl⟩
        have htl : ∀ j, (tf j).length = 2 ^ v := fun j => by rw [← htf, tabD_len]
        simp only [htf] at HTt HTa HMs HCo HMc HEv HEq
        obtain ⟨zf, hzf⟩ : ∃ zf : Nat → Nat, ∀ j, (vis v N v [] (rs.getD j 0)).length = zf j := ⟨fun j => (vis v N v [] (rs.getD j 0)).length, fun _ => rfl⟩
        simp only [hzf] at HSi HMs
        obtain ⟨rf, hrf⟩ : ∃ rf : Nat → Nat, ∀ j, rs.getD j 0 = rf j := ⟨fun j => rs.getD j 0, fun _ => rfl⟩
        simp only [hrf] at HTa HVr HSi HCo HEv
        have HB2 : Hid (∀ X, Below wr.heap.size wr X → Below w.heap.size w X) := fun X h => stepB (stepB HB1.out hRun.own.bel) h
        have hKp : 0 < 2 ^ v := Nat.two_pow_pos v
        have HN0 : Hid (∀ Y B i x, Ints Y (some B) (tf i) → x < 2 ^ v → Y.cell? (B.add x) = some (.int .i64 (nd (tf i) x))) := fun Y B i x hB hx => by
          obtain ⟨_, e, hc⟩ := Vals.at_ hB (j := x) (by rw [htl]; exact hx)
          cases e
          exact hc
        have HOw : Hid (∀ B X g cc (xs : List Value), X.ownsRow B 3 1 (.slice (some ⟨g, 0, none⟩) (2 ^ v) cc) (2 ^ v) xs → CanI B X (some ⟨g, 0, none⟩) (2 ^ v)) := fun B X g cc xs h => CanI.own h
        have HRo : Hid (∀ B X g cc i, X.ownsRow B 3 1 (.slice (some ⟨g, 0, none⟩) (2 ^ v) cc) (2 ^ v) ((tf i).map (Value.int .i64)) → Ints X (some ⟨g, 0, none⟩) (tf i)) := fun B X g cc i h => ints_row h (htl i).symm
        clear hs1 hu hRun hT hS e1 e3 hcells hqb htf hzf hrf hv6 htl
        generalize rs.length = n at *
        generalize 2 ^ v = K at *
        generalize wr = wb at *
        go_wp2
        go_loopw [13] (fun i wx => ∃ m : Nat, m ≤ n ∧ i = .int .i64 m ∧ Hid (Below wb.heap.size wb wx)) (fun i _ => n - (intOf i).toNat)
        case atStart => exact ⟨0, by omega, rfl, Below.refl _ _⟩
        case round =>
          obtain ⟨i, hi, rfl, HW⟩ := hrel
          have z2 := HC2.out _ HW.out
          by_cases hin : i < n
          · obtain ⟨ad, rfl, _⟩ := (HVr.out _ HW.out).at_ hin
            obtain ⟨ad3, rfl, _⟩ := (HVt.out _ HW.out).at_ hin
            obtain ⟨B, d, eB, HBt⟩ := HTt.out i hin
            have HBt := Lib.hid HBt
            have HFi : Hid (∀ Y, Below wb.heap.size wb Y → Y.cell? (ad.add i) = some (.int .i64 ((rf i : Nat) : Int))) := fun Y hY => by
              obtain ⟨_, e, hc⟩ := (HVr.out Y hY).at_ hin
              cases e
              exact hc
            have HFt : Hid (∀ Y, Below wb.heap.size wb Y → Y.cell? (ad3.add i) = some (.slice (some B) K d)) := fun Y hY => by
              obtain ⟨_, e, hc⟩ := (HVt.out Y hY).at_ hin
              cases e
              rw [← eB]
              exact hc
            have HF0 : Hid (∀ Y, Below wb.heap.size wb Y → Y.cell? B = some (.int .i64 (nd (tf i) 0))) := fun Y hY => HN0.out Y B i 0 (HBt.out Y hY) hKp
            have HTa := Lib.hid fun Y hY => HTa.out Y hY i hin
            have HSi := Lib.hid fun Y hY => HSi.out Y hY i hin
            have HMs := Lib.hid fun Y hY => HMs.out Y hY i hin (some B) d (HBt.out Y hY)
            have HCo := Lib.hid fun Y hY => HCo.out Y hY i hin
            have HMc := Lib.hid fun Y (hY : Below wb.heap.size wb Y) => HMc.out Y (some B) i d (nd (tf i) 0) (HBt.out Y hY)
            have HEv := Lib.hid fun Y hY => HEv.out Y hY i hin
            have HEq := Lib.hid fun Y (hY : Below wb.heap.size wb Y) g cc h => HEq.out Y (some g) (some B) cc d i h (HBt.out Y hY)
            clear eB
            go_wp2
            go_loopw [14] (fun r wy => ∃ q : Nat, q ≤ 2 ∧ r = .int .i64 q ∧ Hid (Below wb.heap.size wb wy)) (fun r _ => 2 - (intOf r).toNat)
            case atStart => exact ⟨0, by omega, rfl, HW.out⟩
            case round =>
              clear z2 HW
              obtain ⟨q, hq, rfl, HY⟩ := hrel
              by_cases hq2 : q < 2
              · as_aux_lemma =>
                have HYd := Lib.hid (stepB HY.out (drew_below _))
                have z0 := HC0.out _ HY.out
                have z2 := HC2.out _ HY.out
                have zi := HFi.out _ HY.out
                go_wp2
                go_region_held3 (fun w' => w'.cell? ⟨qb, 0, none⟩ = some (.pointer (some ⟨sb, 0, none⟩)) ∧ w'.cell? ⟨qb, 2, none⟩ = some (.slice (some ad) n c1) ∧ w'.cell? (ad.add i) = some (.int .i64 ((rf i : Nat) : Int)))
                  (first | exact ⟨z0, z2, zi⟩ | assumption)
                  (first | (go_at_call 16; ((with_reducible refine (HTa.out _ HYd.out).mono ?_); rintro e w7 ⟨g, cc, rfl, ho7, b7⟩); have B7 := stepB HYd.out b7; have hS7 : w7.cell? ⟨qb, 0, none⟩ = some (.pointer (some ⟨sb, 0, none⟩)) ∧ w7.cell? ⟨qb, 2, none⟩ = some (.slice (some ad) n c1) ∧ w7.cell? (ad.add i) = some (.int .i64 ((rf i : Nat) : Int)) := ⟨HC0.out _ B7, HC2.out _ B7, HFi.out _ B7⟩))
                have x3 := HC3.out _ B7
                have xt := HFt.out _ B7
                have HI7 := Lib.hid (HRo.out _ _ _ _ _ ho7)
                have HO7 := Lib.hid ho7
                have HY7 : Hid (Below wr.heap.size wr w7) := (drew_below _).trans b7
                clear hS7 z0 z2 zi ho7 b7 HYd
                go_wp2_with (first
                  | (go_at_call 17; ((with_reducible refine (HEq.out _ B7 _ _ HI7.out).mono ?_); rintro e w8 ⟨rfl, b8⟩); have HY8 := Lib.hid (stepB HY7.out b8); have HO8 := Lib.hid (HOw.out _ _ _ _ _ (own_bel HO7.out b8)); clear b8)
                  | (go_at_call 18; ((with_reducible refine (HOv.out _ _ _ _ HO8.out).mono ?_); rintro e w9 ⟨rfl, b9⟩); have HY9 := Lib.hid (stepB HY.out (Below.trans HY8.out b9)); clear b9))
                go_roundw
                case rel => exact ⟨q + 1, by omega, by go_num, HY9.out⟩
                case measure => simp [intOf]; omega
              · obtain rfl : q = 2 := by omega
                have HYd := Lib.hid (stepB HY.out (drew_below _))
                have z0 := HC0.out _ HY.out
                have z2 := HC2.out _ HY.out
                have zi := HFi.out _ HY.out
                go_wp2
                go_region_held3 (fun w' => w'.cell? ⟨qb, 0, none⟩ = some (.pointer (some ⟨sb, 0, none⟩)) ∧ w'.cell? ⟨qb, 2, none⟩ = some (.slice (some ad) n c1) ∧ w'.cell? (ad.add i) = some (.int .i64 ((rf i : Nat) : Int)))
                  (first | exact ⟨z0, z2, zi⟩ | assumption)
                  (first | (go_at_call 19; ((with_reducible refine (HSi.out _ HYd.out).mono ?_); rintro e w7 ⟨rfl, b7⟩); have B7 := stepB HYd.out b7; have hS7 : w7.cell? ⟨qb, 0, none⟩ = some (.pointer (some ⟨sb, 0, none⟩)) ∧ w7.cell? ⟨qb, 2, none⟩ = some (.slice (some ad) n c1) ∧ w7.cell? (ad.add i) = some (.int .i64 ((rf i : Nat) : Int)) := ⟨HC0.out _ B7, HC2.out _ B7, HFi.out _ B7⟩))
                have HB7d := Lib.hid (stepB B7 (drew_below _))
                have y0 := HC0.out _ B7
                have y2 := HC2.out _ B7
                have y3 := HC3.out _ B7
                have yi := HFi.out _ B7
                have yt := HFt.out _ B7
                have yz := HF0.out _ B7
                clear hS7 z0 z2 zi b7 HYd
                go_wp2
                go_region_held3 (fun w' => w'.cell? ⟨qb, 0, none⟩ = some (.pointer (some ⟨sb, 0, none⟩)) ∧ w'.cell? ⟨qb, 2, none⟩ = some (.slice (some ad) n c1) ∧ w'.cell? (ad.add i) = some (.int .i64 ((rf i : Nat) : Int)) ∧ w'.cell? ⟨qb, 3, none⟩ = some (.slice (some ad3) n c3) ∧ w'.cell? (ad3.add i) = some (.slice (some B) K d) ∧ w'.cell? B = some (.int .i64 (nd (tf i) 0)))
                  (first | exact ⟨y0, y2, yi, y3, yt, yz⟩ | assumption)
                  (first | (go_at_call 20; ((with_reducible refine (HCo.out _ HB7d.out _).mono ?_); rintro e w8 ⟨rfl, b8⟩); have B8 := stepB HB7d.out b8; have hS8 : w8.cell? ⟨qb, 0, none⟩ = some (.pointer (some ⟨sb, 0, none⟩)) ∧ w8.cell? ⟨qb, 2, none⟩ = some (.slice (some ad) n c1) ∧ w8.cell? (ad.add i) = some (.int .i64 ((rf i : Nat) : Int)) ∧ w8.cell? ⟨qb, 3, none⟩ = some (.slice (some ad3) n c3) ∧ w8.cell? (ad3.add i) = some (.slice (some B) K d) ∧ w8.cell? B = some (.int .i64 (nd (tf i) 0)) := ⟨HC0.out _ B8, HC2.out _ B8, HFi.out _ B8, HC3.out _ B8, HFt.out _ B8, HF0.out _ B8⟩))
                have HB8d := Lib.hid (stepB B8 (drew_below _))
                have x1 := HC1.out _ B8
                have x3 := HC3.out _ B8
                have xt := HFt.out _ B8
                have xz := HF0.out _ B8
                clear hS8 y0 y2 y3 yi yt yz b8 HB7d B7
                go_wp2
                go_region_held3 (fun w' => w'.cell? ⟨qb, 1, none⟩ = some (.pointer (some ⟨mb, 0, none⟩)) ∧ w'.cell? ⟨qb, 3, none⟩ = some (.slice (some ad3) n c3) ∧ w'.cell? (ad3.add i) = some (.slice (some B) K d) ∧ w'.cell? B = some (.int .i64 (nd (tf i) 0)))
                  (first | exact ⟨x1, x3, xt, xz⟩ | assumption)
                  (first
                    | (go_at_call 21; ((with_reducible refine (HMs.out _ HB8d.out).mono ?_); rintro e w9 ⟨rfl, b9⟩); have HB9 := Lib.hid (stepB HB8d.out b9); have hS9 : w9.cell? ⟨qb, 1, none⟩ = some (.pointer (some ⟨mb, 0, none⟩)) ∧ w9.cell? ⟨qb, 3, none⟩ = some (.slice (some ad3) n c3) ∧ w9.cell? (ad3.add i) = some (.slice (some B) K d) ∧ w9.cell? B = some (.int .i64 (nd (tf i) 0)) := ⟨HC1.out _ HB9.out, HC3.out _ HB9.out, HFt.out _ HB9.out, HF0.out _ HB9.out⟩)
                    | (go_at_call 22; ((with_reducible refine (HMc.out _ HB9.out).mono ?_); rintro e w10 ⟨rfl, b10⟩); have HB10 := Lib.hid (stepB HB9.out b10); have hS10 : w10.cell? ⟨qb, 1, none⟩ = some (.pointer (some ⟨mb, 0, none⟩)) ∧ w10.cell? ⟨qb, 3, none⟩ = some (.slice (some ad3) n c3) ∧ w10.cell? (ad3.add i) = some (.slice (some B) K d) ∧ w10.cell? B = some (.int .i64 (nd (tf i) 0)) := ⟨HC1.out _ HB10.out, HC3.out _ HB10.out, HFt.out _ HB10.out, HF0.out _ HB10.out⟩))
                clear hS9 hS10 x1 x3 xt xz B8 HB8d b9 b10
                go_wp2
                go_loopw [21] (fun x wy => ∃ q : Nat, q ≤ 256 ∧ x = .int .i64 q ∧ Hid (Below wb.heap.size wb wy)) (fun x _ => 256 - (intOf x).toNat)
                case atStart => exact ⟨0, by omega, rfl, HB10.out⟩
                case round => as_aux_lemma =>
                  clear HB9 HB10 HY
                  obtain ⟨x, hx, rfl, HY⟩ := hrel
                  by_cases hx2 : x < 256
                  · as_aux_lemma =>
                    have HYd := Lib.hid (stepB HY.out (drew_below _))
                    have z0 := HC0.out _ HY.out
                    have z2 := HC2.out _ HY.out
                    have zi := HFi.out _ HY.out
                    have hw8 : IntKind.u8.wrap (x : Int) = (x : Int) := by rw [IntKind.wrap_u8]; omega
                    have HEx := Lib.hid fun Y hY => HEv.out Y hY x hx2
                    by_cases hxK : x < K
                    · simp only [if_pos hxK] at HEx
                      have dx : decide ((x : Int) < (K : Int)) = true := decide_eq_true (by omega)
                      have dy : decide ((K : Int) ≤ (x : Int)) = false := decide_eq_false (by omega)
                      have dy2 : decide (K ≤ x) = false := decide_eq_false (by omega)
                      go_wp2
                      go_region_held3 (fun w' => w'.cell? ⟨qb, 0, none⟩ = some (.pointer (some ⟨sb, 0, none⟩)) ∧ w'.cell? ⟨qb, 2, none⟩ = some (.slice (some ad) n c1) ∧ w'.cell? (ad.add i) = some (.int .i64 ((rf i : Nat) : Int)))
                        (first | exact ⟨z0, z2, zi⟩ | assumption)
                        (first | (go_at_call 23; ((with_reducible refine (HEx.out _ HYd.out).mono ?_); rintro e w11 ⟨rfl, b11⟩); have B11 := stepB HYd.out b11; have hS11 : w11.cell? ⟨qb, 0, none⟩ = some (.pointer (some ⟨sb, 0, none⟩)) ∧ w11.cell? ⟨qb, 2, none⟩ = some (.slice (some ad) n c1) ∧ w11.cell? (ad.add i) = some (.int .i64 ((rf i : Nat) : Int)) := ⟨HC0.out _ B11, HC2.out _ B11, HFi.out _ B11⟩))
                      have y3 := HC3.out _ B11
                      have yt := HFt.out _ B11
                      have yx := HN0.out w11 B i x (HBt.out _ B11) hxK
                      have HY11 := Lib.hid B11
                      clear hS11 b11 B11
                      go_wp2
                      go_roundw
                      case rel => exact ⟨x + 1, by omega, by go_num, HY11.out⟩
                      case measure => simp [intOf]; omega
                    · simp only [if_neg hxK] at HEx
                      have dx : decide ((x : Int) < (K : Int)) = false := decide_eq_false (by omega)
                      have dx2 : decide (x < K) = false := decide_eq_false (by omega)
                      have dy : decide ((K : Int) ≤ (x : Int)) = true := decide_eq_true (by omega)
                      go_wp2
                      go_region_held3 (fun w' => w'.cell? ⟨qb, 0, none⟩ = some (.pointer (some ⟨sb, 0, none⟩)) ∧ w'.cell? ⟨qb, 2, none⟩ = some (.slice (some ad) n c1) ∧ w'.cell? (ad.add i) = some (.int .i64 ((rf i : Nat) : Int)))
                        (first | exact ⟨z0, z2, zi⟩ | assumption)
                        (first | (go_at_call 23; ((with_reducible refine (HEx.out _ HYd.out).mono ?_); rintro e w11 ⟨rfl, b11⟩); have B11 := stepB HYd.out b11; have hS11 : w11.cell? ⟨qb, 0, none⟩ = some (.pointer (some ⟨sb, 0, none⟩)) ∧ w11.cell? ⟨qb, 2, none⟩ = some (.slice (some ad) n c1) ∧ w11.cell? (ad.add i) = some (.int .i64 ((rf i : Nat) : Int)) := ⟨HC0.out _ B11, HC2.out _ B11, HFi.out _ B11⟩))
                      have y3 := HC3.out _ B11
                      have yt := HFt.out _ B11
                      have HY11 := Lib.hid B11
                      clear hS11 b11 B11
                      go_wp2
                      go_roundw
                      case rel => exact ⟨x + 1, by omega, by go_num, HY11.out⟩
                      case measure => simp [intOf]; omega
                  · obtain rfl : x = 256 := by omega
                    go_wp2
                    go_roundw
                    case rel => exact ⟨i + 1, by omega, by go_num, HY.out⟩
                    case measure => simp [intOf]; omega
          · obtain rfl : i = n := by omega
            go_wp2_with (go_at_call 10; ((with_reducible refine (HAw.out _).mono ?_); rintro e w9 ⟨rfl, b9⟩))
            go_ret
            exact ⟨rfl, stepB (HB2.out _ HW.out) b9⟩
  · have HBe := Lib.hid fun X => begin_no v cap X hE
    clear hE hB
    go_enter Try.func3, Try.ntmps3
    go_wp2_with (first
      | (go_at_call 9; ((with_reducible refine HLo.out.mono ?_); rintro e w1 ⟨rfl, hb1⟩))
      | (go_at_call 11; ((with_reducible refine (HBe.out _).mono ?_); rintro e w2 ⟨b, rfl, hb2⟩))
      | (go_at_call 10; ((with_reducible refine (HAw.out _).mono ?_); rintro e w3 ⟨rfl, hb3⟩)))
    go_ret
    exact ⟨rfl, stepB (stepB hb1 hb2) hb3⟩
end Go.Proofs.Ytbhfmeohaoojfaa.Dn
