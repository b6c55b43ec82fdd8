/- DiagramCanonical. -/
import Derived.Test.YtbhfmeohaoojfaaVO
import Derived.Outline
namespace Go.Proofs.Ytbhfmeohaoojfaa.Dn
open Go Go.RowKit Go.Proofs.Ytbhfmeohaoojfaa.Ap
open Go.Proofs.Ytbhfmeohaoojfaa.Dg
set_option linter.unusedVariables false
set_option maxRecDepth 100000
set_option maxHeartbeats 8000000 in
theorem diagramCanonical_walk (v cap : Int) (A : Option Addr) (l : List SD) (c : Nat) (w : World) (hv0 : IntOk v) (hcap0 : IntOk cap) (hs : StepsAt w A l) (hl : l.length ≤ maxLen) :
    Calls Try.prog 6 #[.int .i64 v, .int .i64 cap, .slice A l.length c] w fun e w' => e = .returned (.bool true) ∧ Below w.heap.size w w' := by
  have HAw := Lib.hid fun X => awake_any X
  have HLo := Lib.hid (Long_b v A l c w hs hl)
  by_cases hB : longB v l = true
  · rw [hB] at HLo
    clear hB
    go_enter Try.func6, Try.ntmps6
    go_wp2_with (first
      | (go_at_call 9; ((with_reducible refine HLo.out.mono ?_); rintro e w1 ⟨rfl, hb1⟩))
      | (go_at_call 10; ((with_reducible refine (HAw.out _).mono ?_); rintro e w2 ⟨rfl, hb2⟩)))
    go_ret
    exact ⟨rfl, stepB hb1 hb2⟩
  have hB := eq_false_of_ne_true hB
  rw [hB] at HLo
  by_cases hE : newE v cap = 0
  · obtain ⟨v, cap, rfl, rfl, h6, h1, h4⟩ := newE_yes hE
    obtain ⟨hv4, hlen, hu⟩ := longB_no hB
    have HBe := Lib.hid fun X => begin_e v cap X h6 h1 h4
    clear hB hE
    go_enter Try.func6, Try.ntmps6
    go_wp2_with (first
      | (go_at_call 9; ((with_reducible refine HLo.out.mono ?_); rintro e w1 ⟨rfl, hb1⟩))
      | (go_at_call 10; ((with_reducible refine (HAw.out _).mono ?_); rintro e w1' ⟨rfl, hb1'⟩))
      | (go_at_call 11; ((with_reducible refine (HBe.out _).mono ?_); rintro e w2 ⟨qb, sb, cb, rb, tb, mb, rfl, hR0⟩)))
    have hb11 := stepB hb1 hb1'
    have hs1 := hs.below hb11
    have HB1 := Lib.hid hb11
    clear hs hb1 hb1' hb11
    go_loopw [10] (fun i wr => ∃ m : Nat, m ≤ l.length ∧ i = .int .i64 m ∧ RunE w1' wr qb sb cb rb tb mb v cap m) (fun i _ => l.length - (intOf i).toNat)
    case atStart => exact ⟨0, by omega, rfl, hR0⟩
    case round =>
      clear hR0
      obtain ⟨m, hm, rfl, hR⟩ := hrel
      by_cases hlt : m < l.length
      · obtain ⟨hok, hi, ad, rfl, _, hc⟩ := hs1.nine hlt
        have h70 := hu m hlt
        obtain ⟨c0, c1, c2, c3, c4, c5, c6, c7, c8⟩ := nine_at fun i v hv => hc i v hv wr hR.bel
        have HSt := Lib.hid (step_at hR (by omega) (sd l m) hok hi h70)
        clear hs1 hu hok hi hc h70 hR
        generalize sd l m = s at *
        go_wp2_with (go_at_call 12; ((with_reducible refine HSt.out.mono ?_); rintro e w5 ⟨rfl, hR5⟩))
        go_roundw
        case rel => exact ⟨m + 1, by omega, by go_num, hR5⟩
        case measure => simp [intOf]; omega
      · obtain rfl : m = l.length := by omega
        obtain ⟨nv, N, R, A2, c2, Q, rv, rs, tv, T, hRun, hT⟩ := hR
        have hrl : rs.length ≤ 1000 := by rw [hRun.len]; omega
        have hS0 : Same w1' wr qb sb cb rb tb mb v cap N R A2 c2 Q rv rs tv T := ⟨nv, hRun⟩
        obtain ⟨A1, c1, e1⟩ := hS0.rform
        obtain ⟨hNc, hc4, hv6⟩ := hS0.len
        have HNo := Lib.hid fun X (h : Same w1' X qb sb cb rb tb mb v cap N R A2 c2 Q rv rs tv T) => h.nodes
        have HTa := Lib.hid fun X (h : Same w1' X qb sb cb rb tb mb v cap N R A2 c2 Q rv rs tv T) i (hi : i < rs.length) => h.table i hi
        have HFr := Lib.hid fun X (h : Same w1' X qb sb cb rb tb mb v cap N R A2 c2 Q rv rs tv T) i (hi : i < rs.length) B cc (hB : TabI X B (tabD v N (rs.getD i 0))) => h.from i hi B cc hB
        have HVa : Hid (∀ X, Same w1' X qb sb cb rb tb mb v cap N R A2 c2 Q rv rs tv T → Vals X A1 rs.length fun j => .int .i64 ((rs.getD j 0 : Nat) : Int)) := fun X h => h.refs e1
        have HC0 : Hid (∀ X, Same w1' X qb sb cb rb tb mb v cap N R A2 c2 Q rv rs tv T → X.cell? ⟨qb, 0, none⟩ = some (.pointer (some ⟨sb, 0, none⟩))) := fun X h => h.cells.1
        have HC2 : Hid (∀ X, Same w1' X qb sb cb rb tb mb v cap N R A2 c2 Q rv rs tv T → X.cell? ⟨qb, 2, none⟩ = some (.slice A1 rs.length c1)) := fun X h => by rw [← e1]; exact h.cells.2.2.1
        have HCp : Hid (∀ X B cc i, TabI X B (tabD v N (rs.getD i 0)) → Calls Try.prog 34 #[.slice B (2 ^ v) cc] X fun e w' => ∃ A' c', e = .returned (.slice A' (2 ^ v) c') ∧ TabI w' A' (tabD v N (rs.getD i 0)) ∧ Below X.heap.size X w') := fun X B cc i hB => by
          have := CopyInts_any B (tabD v N (rs.getD i 0)) cc X hB.1 (by rw [tabD_len]; have := pow7 hv6; omega)
          rw [tabD_len] at this
          refine this.mono ?_
          rintro e w' ⟨A', c', he, ho, _, hb⟩
          exact ⟨A', c', he, tabI_own ho (tabD_len _ _ _).symm, hb⟩
        have HEq : Hid (∀ X B C cc dd i j, TabI X B (tabD v N (rs.getD i 0)) → TabI X C (tabD v N (rs.getD j 0)) → Calls Try.prog 17 #[.slice B (2 ^ v) cc, .slice C (2 ^ v) dd] X fun e w' => e = .returned (.bool (decide (tabD v N (rs.getD i 0) = tabD v N (rs.getD j 0)))) ∧ Below X.heap.size X w') := fun X B C cc dd i j hB hC => by
          have := EqualInts_any B C _ _ cc dd X hB.1 hC.1 (by rw [tabD_len]; have := pow7 hv6; unfold maxLen; omega)
          rw [tabD_len, tabD_len] at this
          exact this
        have HIn := Lib.hid fun X (h : Same w1' X qb sb cb rb tb mb v cap N R A2 c2 Q rv rs tv T) i j (hi : i < rs.length) (hj : j < rs.length) => h.inj hi hj
        have HS0 := Lib.hid hS0
        have hd2 : decide ((N.length : Int) ≤ (cap : Int)) = true := decide_eq_true (by omega)
        have hd3 : decide (N.length ≤ cap) = true := decide_eq_true hNc
        clear hs1 hu hRun hT hS0 e1 hNc
        obtain ⟨rf, hrf⟩ : ∃ rf : Nat → Nat, ∀ j, rs.getD j 0 = rf j := ⟨fun j => rs.getD j 0, fun _ => rfl⟩
        simp only [hrf] at HTa HFr HVa HCp HEq HIn
        clear hrf
        have HB2 : Hid (∀ X, Same w1' X qb sb cb rb tb mb v cap N R A2 c2 Q rv rs tv T → Below w.heap.size w X) := fun X h => stepB HB1.out h.bel
        generalize rs.length = n at *
        have z0 := HC0.out wr HS0.out
        go_wp2_with (go_at_call 13; ((with_reducible refine (HNo.out _ HS0.out).mono ?_); rintro e w6 ⟨rfl, b6⟩))
        have HS6 := Lib.hid (HS0.out.below b6)
        clear z0 b6 HS0
        go_loopw [13] (fun i wr => ∃ m : Nat, m ≤ n ∧ i = .int .i64 m ∧ Hid (Same w1' wr qb sb cb rb tb mb v cap N R A2 c2 Q rv rs tv T)) (fun i _ => n - (intOf i).toNat)
        case atStart => exact ⟨0, by omega, rfl, HS6⟩
        case round =>
          clear HS6
          obtain ⟨i, hi, rfl, HS⟩ := hrel
          have z2 := HC2.out _ HS.out
          by_cases hin : i < n
          · have z0 := HC0.out _ HS.out
            obtain ⟨ad, rfl, hci⟩ := (HVa.out _ HS.out).at_ hin
            have HSd := Lib.hid (HS.out.below (drew_below _))
            go_wp2
            go_region_held3 (fun w' => w'.cell? ⟨qb, 0, none⟩ = some (.pointer (some ⟨sb, 0, none⟩)) ∧ w'.cell? ⟨qb, 2, none⟩ = some (.slice (some ad) n c1) ∧ w'.cell? (ad.add i) = some (.int .i64 ((rf i : Nat) : Int)))
              (first | exact ⟨z0, z2, hci⟩ | assumption)
              (first | (go_at_call 16; ((with_reducible refine (HTa.out _ HSd.out i hin).mono ?_); rintro e w7 ⟨g, cc, rfl, ho7, b7⟩); have S7 := HSd.out.below b7; obtain ⟨_, e7, hc7⟩ := (HVa.out _ S7).at_ hin; cases e7; have hS7 : w7.cell? ⟨qb, 0, none⟩ = some (.pointer (some ⟨sb, 0, none⟩)) ∧ w7.cell? ⟨qb, 2, none⟩ = some (.slice (some ad) n c1) ∧ w7.cell? (ad.add i) = some (.int .i64 ((rf i : Nat) : Int)) := ⟨HC0.out _ S7, HC2.out _ S7, hc7⟩))
            have hT7 : TabI w7 (some ⟨g, 0, none⟩) (tabD v N (rf i)) := tabI_own ho7 (tabD_len _ _ _).symm
            have HT7 := Lib.hid (hT7.keep (KeepT.of_below (P := fun _ => True) (drew_below w7)) trivial)
            have HS7 := Lib.hid (S7.below (drew_below w7))
            have y0 := HC0.out _ S7
            clear hT7 S7 hS7 hc7 ho7 b7 z0 z2 hci HSd HS
            go_wp2
            go_region_held3 (fun w' => w'.cell? ⟨qb, 0, none⟩ = some (.pointer (some ⟨sb, 0, none⟩)))
              (first | exact y0 | assumption)
              (first
                | (go_at_call 34; ((with_reducible refine (HCp.out _ _ _ i HT7.out).mono ?_); rintro e w8 ⟨B8, c8, rfl, t8, b8⟩); have S8 := HS7.out.below b8; have HT8 := Lib.hid (HT7.out.keep (KeepT.of_below (P := fun _ => True) b8) trivial); have hS8 : w8.cell? ⟨qb, 0, none⟩ = some (.pointer (some ⟨sb, 0, none⟩)) := HC0.out _ S8)
                | (go_at_call 31; ((with_reducible refine (HFr.out w8 S8 i hin B8 c8 t8).mono ?_); rintro e w9 ⟨rfl, S9, K9⟩); have HT9 := Lib.hid (HT8.out.keep (.of_keeps K9 LawP.p) (.inr rfl)); have hS9 : w9.cell? ⟨qb, 0, none⟩ = some (.pointer (some ⟨sb, 0, none⟩)) := HC0.out _ S9))
            have HS9 := Lib.hid S9
            have z2 := HC2.out _ S9
            obtain ⟨_, e9, hci⟩ := (HVa.out _ S9).at_ hin
            cases e9
            clear hS8 hS9 S8 S9 HT8 HT7 HS7 K9 t8 b8 y0
            have HIn2 := Lib.hid fun X h j hj => HIn.out X h i j hin hj
            clear HIn
            go_wp2
            go_loopw [18] (fun j wr => ∃ m : Nat, m ≤ i ∧ j = .int .i64 m ∧ Hid (Same w1' wr qb sb cb rb tb mb v cap N R A2 c2 Q rv rs tv T ∧ TabI wr (some ⟨g, 0, none⟩) (tabD v N (rf i)))) (fun j _ => i - (intOf j).toNat)
            case atStart => exact ⟨0, by omega, rfl, HS9.out, HT9.out⟩
            case round =>
              clear HS9 HT9 z2 hci
              obtain ⟨j, hj, rfl, HS⟩ := hrel
              by_cases hji : j < i
              · have hjn : j < n := by omega
                have z0 := HC0.out _ HS.out.1
                have z2 := HC2.out _ HS.out.1
                obtain ⟨_, ej, hcj⟩ := (HVa.out _ HS.out.1).at_ hjn
                cases ej
                have HSd := Lib.hid (HS.out.1.below (drew_below _))
                have HTd := Lib.hid (HS.out.2.keep (KeepT.of_below (P := fun _ => True) (drew_below _)) trivial)
                go_wp2
                go_region_held3 (fun w' => w'.cell? ⟨qb, 0, none⟩ = some (.pointer (some ⟨sb, 0, none⟩)) ∧ w'.cell? ⟨qb, 2, none⟩ = some (.slice (some ad) n c1) ∧ w'.cell? (ad.add j) = some (.int .i64 ((rf j : Nat) : Int)))
                  (first | exact ⟨z0, z2, hcj⟩ | assumption)
                  (first | (go_at_call 16; ((with_reducible refine (HTa.out _ HSd.out j hjn).mono ?_); rintro e w10 ⟨g2, cc2, rfl, ho10, b10⟩); have S10 := HSd.out.below b10; have T10 := HTd.out.keep (KeepT.of_below (P := fun _ => True) b10) trivial; obtain ⟨_, e10, hc10⟩ := (HVa.out _ S10).at_ hjn; cases e10; have hS10 : w10.cell? ⟨qb, 0, none⟩ = some (.pointer (some ⟨sb, 0, none⟩)) ∧ w10.cell? ⟨qb, 2, none⟩ = some (.slice (some ad) n c1) ∧ w10.cell? (ad.add j) = some (.int .i64 ((rf j : Nat) : Int)) := ⟨HC0.out _ S10, HC2.out _ S10, hc10⟩))
                have hT10 : TabI w10 (some ⟨g2, 0, none⟩) (tabD v N (rf j)) := tabI_own ho10 (tabD_len _ _ _).symm
                have HT10 := Lib.hid (hT10.keep (KeepT.of_below (P := fun _ => True) (drew_below w10)) trivial)
                have HU10 := Lib.hid (T10.keep (KeepT.of_below (P := fun _ => True) (drew_below w10)) trivial)
                have HS10 := Lib.hid (S10.below (drew_below w10))
                have x2 := HC2.out _ S10
                obtain ⟨_, e10, hc10i⟩ := (HVa.out _ S10).at_ hin
                cases e10
                have hIJ := HIn2.out _ S10 j hjn
                have HEQ := Lib.hid (HEq.out _ _ _ cc cc2 i j HU10.out HT10.out)
                obtain ⟨bq, hbq⟩ : ∃ bq, bq = decide (tabD v N (rf i) = tabD v N (rf j)) := ⟨_, rfl⟩
                rw [← hbq] at hIJ HEQ
                clear hbq hT10 T10 S10 hS10 ho10 b10 z0 z2 hcj HSd HTd HS
                go_wp2
                go_region_held3 (fun w' => w'.cell? ⟨qb, 2, none⟩ = some (.slice (some ad) n c1) ∧ w'.cell? (ad.add i) = some (.int .i64 ((rf i : Nat) : Int)) ∧ w'.cell? (ad.add j) = some (.int .i64 ((rf j : Nat) : Int)))
                  (first | exact ⟨x2, hc10i, hc10⟩ | assumption)
                  (first | (go_at_call 17; ((with_reducible refine HEQ.out.mono ?_); rintro e w11 ⟨rfl, b11⟩); have S11 := HS10.out.below b11; have T11 := HU10.out.keep (KeepT.of_below (P := fun _ => True) b11) trivial; obtain ⟨_, e11, hc11⟩ := (HVa.out _ S11).at_ hin; cases e11; obtain ⟨_, e11, hd11⟩ := (HVa.out _ S11).at_ hjn; cases e11; have hS11 : w11.cell? ⟨qb, 2, none⟩ = some (.slice (some ad) n c1) ∧ w11.cell? (ad.add i) = some (.int .i64 ((rf i : Nat) : Int)) ∧ w11.cell? (ad.add j) = some (.int .i64 ((rf j : Nat) : Int)) := ⟨HC2.out _ S11, hc11, hd11⟩))
                clear hS11 hc11 hd11
                go_wp2
                go_roundw
                case rel => exact ⟨j + 1, by omega, by go_num, S11, T11⟩
                case measure => simp [intOf]; omega
              · obtain rfl : j = i := by omega
                go_wp2
                go_roundw
                case rel => exact ⟨j + 1, by omega, by go_num, HS.out.1⟩
                case measure => simp [intOf]; omega
          · obtain rfl : i = n := by omega
            have z0 := HC0.out _ HS.out
            go_wp2_with (go_at_call 13; ((with_reducible refine (HNo.out _ HS.out).mono ?_); rintro e w12 ⟨rfl, b12⟩))
            go_ret
            exact ⟨rfl, HB2.out _ (HS.out.below b12)⟩
  · have HBe := Lib.hid fun X => begin_no v cap X hE
    clear hE hB
    go_enter Try.func6, Try.ntmps6
    go_wp2_with (first
      | (go_at_call 9; ((with_reducible refine HLo.out.mono ?_); rintro e w1 ⟨rfl, hb1⟩))
      | (go_at_call 10; ((with_reducible refine (HAw.out _).mono ?_); rintro e w3 ⟨rfl, hb3⟩))
      | (go_at_call 11; ((with_reducible refine (HBe.out _).mono ?_); rintro e w2 ⟨b, rfl, hb2⟩)))
    go_ret
    exact ⟨rfl, stepB (stepB hb1 hb3) hb2⟩
end Go.Proofs.Ytbhfmeohaoojfaa.Dn
