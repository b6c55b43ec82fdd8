/- The reference's Parse. -/
import Derived.Test.YtjjdhegkcilaiaaDoorDF
import Derived.RegionTactic
namespace Go.Proofs.YtjjdhegkcilaiaaDoor
open Go Go.RowKit
set_option maxRecDepth 100000
theorem prs_ref (s : List UInt8) (v : Int) : prs s v = if ¬ (0 ≤ v ∧ v ≤ 6) then ((0, 0), 7) else if 4096 < s.length then ((0, 0), 4) else
    if (scan s).1 &&& (scan s).2.1 = 0 ∧ fmtT (scan s).1 (scan s).2.1 = s then (if chk (scan s).1 (scan s).2.1 v = 0 then (((scan s).1, (scan s).2.1), 0) else ((0, 0), chk (scan s).1 (scan s).2.1 v)) else ((0, 0), 2) := by
  unfold prs
  rw [← refP_eq]
  unfold refP
  split
  · rfl
  · split
    · rfl
    · by_cases h : (scan s).1 &&& (scan s).2.1 = 0 ∧ fmtT (scan s).1 (scan s).2.1 = s
      · rw [if_pos h, if_pos h]
      · rw [if_neg h, if_neg h]
theorem scan_take (s : ByteArray) (k : Nat) (h : k < s.size) : scan (s.data.toList.take (k + 1)) = scanStep (scan (s.data.toList.take k)) s[k].toNat := by
  have hk : k < s.data.toList.length := by simpa using h
  rw [List.take_succ_eq_append_getElem hk, scan_snoc]
  rfl
theorem pow8c {c k : Nat} (h1 : 97 ≤ c) (h2 : c ≤ 102) (hk : k = c - 97) : IntKind.u8.wrap ((2 : Int) ^ (c - 97 : Int).toNat) = ((2 ^ k : Nat) : Int) := by
  have : (c - 97 : Int).toNat = k := by omega
  rw [this]
  have := pow8 (k := k) (by omega)
  exact this.1
theorem bytes_eq2 {s : ByteArray} {l : List UInt8} (h : l = s.data.toList) : (⟨l.toArray⟩ : ByteArray) = s := by
  cases s; simp at h; simp [h]
set_option maxHeartbeats 4000000 in
theorem refParse_any (s : ByteArray) (v : Int) (w : World) (hs : s.size ≤ 4611686018427387904) :
    Calls Tryd.prog 50 #[.string s, .int .i64 v] w fun e w' => e = .returned (.tuple #[.agg #[.int .u8 (prs s.data.toList v).1.1, .int .u8 (prs s.data.toList v).1.2], .int .i64 (prs s.data.toList v).2]) ∧ Below w.heap.size w w' := by
  have hlen : s.data.toList.length = s.size := by simp
  have hP := prs_ref s.data.toList v
  rw [hlen] at hP
  by_cases hv : 0 ≤ v ∧ v ≤ 6
  · obtain ⟨n, rfl⟩ : ∃ n : Nat, v = n := ⟨v.toNat, by omega⟩
    have hn : n ≤ 6 := by omega
    rw [if_neg (by omega)] at hP
    by_cases hl : 4096 < s.size
    · rw [if_pos hl] at hP
      have HO := Lib.hid hP
      clear hv hP
      go_enter Tryd.func50, Tryd.ntmps50
      go_wp2
      rw [HO.out]
      exact bodyPost_ret (v := .tuple #[.agg #[.int .u8 0, .int .u8 0], .int .i64 4]) (by simp [results, Tryd.f50, go_sem]) rfl ⟨rfl, bal (Below.refl _ _) _⟩
    · have hl' : s.size ≤ 4096 := by omega
      rw [if_neg hl] at hP
      have HO := Lib.hid hP
      clear hP hv hl
      go_enter Tryd.func50, Tryd.ntmps50
      go_wp2
      have bR := (Box2.new w 42 (.int .u8 0) (.int .u8 0)).alloc (.cells #[.int .u8 0, .int .u8 0] 42)
      have bC := Box2.new (w.alloc (.cells #[.int .u8 0, .int .u8 0] 42)) 42 (.int .u8 0) (.int .u8 0)
      simp only [World.size_alloc] at bC
      have hb0 : Below w.heap.size w ((w.alloc (.cells #[.int .u8 0, .int .u8 0] 42)).alloc (.cells #[.int .u8 0, .int .u8 0] 42)) := bal (bal (Below.refl _ _) _) _
      go_loopw [7, 8] (fun no i wr => ∃ (k p q : Nat) (nt : Bool), k ≤ s.size ∧ i = .int .i64 k ∧ no = .bool nt ∧ Hid (scan (s.data.toList.take k) = (p, q, nt)) ∧
        Box2 wr w.heap.size 42 (.int .u8 0) (.int .u8 0) ∧ Box2 wr (w.heap.size + 1) 42 (.int .u8 p) (.int .u8 q) ∧ Below w.heap.size w wr) (fun _ i _ => s.size - (intOf i).toNat)
      case atStart => exact ⟨0, 0, 0, false, by omega, rfl, rfl, rfl, bR, bC, hb0⟩
      case round =>
        clear bR bC hb0
        obtain ⟨k, p, q, nt, hk, rfl, rfl, HR, bR, bC, hb⟩ := hrel
        have hpq := scan_lt (s.data.toList.take k)
        rw [HR.out] at hpq
        simp only at hpq
        obtain ⟨hp, hq⟩ := hpq
        by_cases hlt : k < s.size
        · have hT := scan_take s k hlt
          rw [HR.out] at hT
          have hc8 : s[k].toNat < 256 := s[k].toNat_lt
          obtain ⟨c, hc⟩ : ∃ c, s[k].toNat = c := ⟨_, rfl⟩
          rw [hc] at hT hc8
          unfold scanStep at hT
          simp only at hT
          have c0 := bC.c0
          have c1 := bC.c1
          have g0 := bC.f0
          have g1 := bC.f1
          by_cases hA : c = 33 ∧ nt = false
          · rw [if_pos hA] at hT
            obtain ⟨h33, rfl⟩ := hA
            have HT := Lib.hid hT
            have h33' : ((c : Int) == 33) = true := by rw [beq_iff_eq]; omega
            clear hT h33
            go_wp2
            go_roundw
            case rel => exact ⟨k + 1, p, q, true, by omega, by go_num, rfl, HT.out, bR, bC, hb⟩
            case measure => simp [intOf]; omega
          · rw [if_neg hA] at hT
            by_cases hB : 97 ≤ c ∧ c ≤ 102
            · obtain ⟨hB1, hB2⟩ := hB
              have h33' : ((c : Int) == 33) = false := by rw [beq_eq_false_iff_ne]; omega
              obtain ⟨j, hj⟩ : ∃ j, c - 97 = j := ⟨_, rfl⟩
              rw [hj] at hT
              have hj' : (c : Int) - 97 = (j : Int) := by omega
              have hj6 : j < 6 := by omega
              clear hA hj
              cases nt with
              | false =>
                have HT : Hid (scan (s.data.toList.take (k + 1)) = (p ||| 2 ^ j, q, false)) := by
                  show _ = _
                  rw [hT]; simp [hB1, hB2]
                have e1 := or8 (p := p) (k := j) (by omega) (by omega)
                clear hT
                go_wp2
                go_region
                all_goals
                  go_wp2
                  go_roundw
                  case rel => exact ⟨k + 1, _, q, false, by omega, by go_num, rfl, HT.out, (bR.other _ _ (by simp)), (bC.set0 _), (hb.drew.setCell (by simp) _)⟩
                  case measure => simp [intOf]; omega
              | true =>
                have HT : Hid (scan (s.data.toList.take (k + 1)) = (p, q ||| 2 ^ j, false)) := by
                  show _ = _
                  rw [hT]; simp [hB1, hB2]
                have e1 := or8 (p := q) (k := j) (by omega) (by omega)
                clear hT
                go_wp2
                go_region
                all_goals
                  go_wp2
                  go_roundw
                  case rel => exact ⟨k + 1, p, _, false, by omega, by go_num, rfl, HT.out, (bR.other _ _ (by simp)), (bC.set1 _), (hb.drew.setCell (by simp) _)⟩
                  case measure => simp [intOf]; omega
            · have HT : Hid (scan (s.data.toList.take (k + 1)) = (p, q, false)) := by
                show _ = _
                rw [hT, if_neg (by omega), if_neg (by omega)]
              clear hT
              by_cases h33 : c = 33
              · have h33' : ((c : Int) == 33) = true := by rw [beq_iff_eq]; omega
                have hc33 : c ≤ 33 := by omega
                have hv : nt = true := by
                  cases nt with
                  | true => rfl
                  | false => exact absurd ⟨h33, rfl⟩ hA
                subst hv
                clear hA hB h33
                go_wp2
                go_roundw
                case rel => exact ⟨k + 1, p, q, false, by omega, by go_num, rfl, HT.out, bR, bC, hb⟩
                case measure => simp [intOf]; omega
              · have h33' : ((c : Int) == 33) = false := by rw [beq_eq_false_iff_ne]; omega
                clear hA
                by_cases hlo : c < 97
                · clear hB h33
                  go_wp2
                  go_roundw
                  case rel => exact ⟨k + 1, p, q, false, by omega, by go_num, rfl, HT.out, bR, bC, hb⟩
                  case measure => simp [intOf]; omega
                · have hhi : 103 ≤ c := by omega
                  clear hB h33
                  go_wp2
                  go_roundw
                  case rel => exact ⟨k + 1, p, q, false, by omega, by go_num, rfl, HT.out, bR, bC, hb⟩
                  case measure => simp [intOf]; omega
        · obtain rfl : k = s.size := by omega
          have hall := HR.out
          rw [List.take_of_length_le (by omega)] at hall
          rw [hall] at HO
          simp only at HO
          clear HR hall
          have c0 := bC.c0
          have c1 := bC.c1
          by_cases h0 : p &&& q = 0
          · have hC6 : Cube p q 6 := ⟨by omega, by omega, by omega, h0⟩
            have HF := Lib.hid fun w => refFormat_ok p q 6 w hC6
            by_cases hf : fmtT p q = s.data.toList
            · have HO2 := HO.out
              rw [if_pos ⟨h0, hf⟩] at HO2
              rw [bytes_eq2 hf] at HF
              have HK := Lib.hid fun w => refCheck_any p q n w (by omega) (by omega)
              clear HO hf hC6
              by_cases hk0 : chk p q n = 0
              · rw [hk0] at HK
                rw [if_pos hk0] at HO2
                have HO := Lib.hid HO2
                clear hk0 HO2 h0
                go_wp2_with (first
                  | (go_at_call 32; refine (HF.out _).mono ?_; rintro e w2 ⟨rfl, hb2⟩; have bR2 := bR.below hb2; have bC2 := bC.below hb2; have hbb := stepB hb hb2; clear c0 c1 bR bC hb2 hb; have c0 := bC2.c0; have c1 := bC2.c1)
                  | (go_at_call 30; refine (HK.out _).mono ?_; rintro e w3 ⟨rfl, hb3⟩; have bR3 := bR2.below hb3; have bC3 := bC2.below hb3; have hbb3 := stepB hbb hb3; clear c0 c1 bR2 bC2 hb3 hbb; have c0 := bC3.c0; have c1 := bC3.c1; have x0 := bR3.c0; have x1 := bR3.c1; have z0 := bR3.f0; have z1 := bR3.f1))
                rw [HO.out]
                have r0 := ((bR3.set0 (.int .u8 p)).set1 (.int .u8 q)).c0
                have r1 := ((bR3.set0 (.int .u8 p)).set1 (.int .u8 q)).c1
                exact bodyPost_ret (v := .tuple #[.agg #[.int .u8 p, .int .u8 q], .int .i64 0]) (by simp [results, Tryd.f50, go_sem, r0, r1]) rfl ⟨rfl, (hbb3.setCell (by simp) _).setCell (by simp) _⟩
              · have h7 : chk p q n = 7 := by
                  rcases chk_cases p q n with h | h | h
                  · exact absurd h hk0
                  · exact h
                  · exfalso
                    rw [chk_in n hn] at h
                    split at h
                    · simp at h
                    · simp [*] at h
                rw [if_neg hk0, h7] at HO2
                rw [h7] at HK
                have HO := Lib.hid HO2
                clear hk0 HO2 h7 h0
                go_wp2_with (first
                  | (go_at_call 32; refine (HF.out _).mono ?_; rintro e w2 ⟨rfl, hb2⟩; have bR2 := bR.below hb2; have bC2 := bC.below hb2; have hbb := stepB hb hb2; clear c0 c1 bR bC hb2 hb; have c0 := bC2.c0; have c1 := bC2.c1)
                  | (go_at_call 30; refine (HK.out _).mono ?_; rintro e w3 ⟨rfl, hb3⟩; have bR3 := bR2.below hb3; have bC3 := bC2.below hb3; have hbb3 := stepB hbb hb3; clear c0 c1 bR2 bC2 hb3 hbb; have c0 := bC3.c0; have c1 := bC3.c1; have x0 := bR3.c0; have x1 := bR3.c1; have z0 := bR3.f0; have z1 := bR3.f1))
                rw [HO.out]
                have r0 := ((bR3.set0 (.int .u8 0)).set1 (.int .u8 0)).c0
                have r1 := ((bR3.set0 (.int .u8 0)).set1 (.int .u8 0)).c1
                exact bodyPost_ret (v := .tuple #[.agg #[.int .u8 0, .int .u8 0], .int .i64 7]) (by simp [results, Tryd.f50, go_sem, r0, r1]) rfl ⟨rfl, (hbb3.setCell (by simp) _).setCell (by simp) _⟩
            · have HO2 := HO.out
              rw [if_neg (fun h => hf h.2)] at HO2
              have hne : (fmtT p q == s.toList) = false := by rw [ByteArray.toList_eq]; exact beq_eq_false_iff_ne.2 hf
              clear HO
              have HO := Lib.hid HO2
              clear HO2 hf hC6 h0
              generalize fmtT p q = t at *
              go_wp2_with (go_at_call 32; refine (HF.out _).mono ?_; rintro e w2 ⟨rfl, hb2⟩; have bR2 := bR.below hb2; have bC2 := bC.below hb2; have hbb := stepB hb hb2; clear c0 c1 bR bC hb2 hb; have c0 := bC2.c0; have c1 := bC2.c1; have x0 := bR2.c0; have x1 := bR2.c1; have z0 := bR2.f0; have z1 := bR2.f1)
              rw [HO.out]
              have r0 := ((bR2.set0 (.int .u8 0)).set1 (.int .u8 0)).c0
              have r1 := ((bR2.set0 (.int .u8 0)).set1 (.int .u8 0)).c1
              exact bodyPost_ret (v := .tuple #[.agg #[.int .u8 0, .int .u8 0], .int .i64 2]) (by simp [results, Tryd.f50, go_sem, r0, r1]) rfl ⟨rfl, (hbb.setCell (by simp) _).setCell (by simp) _⟩
          · have HO2 := HO.out
            rw [if_neg (fun h => h0 h.1)] at HO2
            have hc2 : chk p q ((6 : Nat) : Int) = 2 := by
              rw [chk_in 6 (by omega), if_neg (by omega), if_neg h0]
            have HF := Lib.hid fun w => refFormat_no p q ((6 : Nat) : Int) w (by omega) (by omega) (by rw [hc2]; decide)
            rw [hc2] at HF
            have HO := Lib.hid HO2
            clear HO2 hc2 h0
            go_wp2_with (go_at_call 32; refine (HF.out _).mono ?_; rintro e w2 ⟨rfl, hb2⟩; have bR2 := bR.below hb2; have bC2 := bC.below hb2; have hbb := stepB hb hb2; clear c0 c1 bR bC hb2 hb; have c0 := bC2.c0; have c1 := bC2.c1; have x0 := bR2.c0; have x1 := bR2.c1; have z0 := bR2.f0; have z1 := bR2.f1)
            rw [HO.out]
            have r0 := ((bR2.set0 (.int .u8 0)).set1 (.int .u8 0)).c0
            have r1 := ((bR2.set0 (.int .u8 0)).set1 (.int .u8 0)).c1
            exact bodyPost_ret (v := .tuple #[.agg #[.int .u8 0, .int .u8 0], .int .i64 2]) (by simp [results, Tryd.f50, go_sem, r0, r1]) rfl ⟨rfl, (hbb.setCell (by simp) _).setCell (by simp) _⟩
  · rw [if_pos hv] at hP
    have HO := Lib.hid hP
    clear hP
    by_cases h1 : v < 0
    · go_enter Tryd.func50, Tryd.ntmps50
      go_wp2
      rw [HO.out]
      exact bodyPost_ret (v := .tuple #[.agg #[.int .u8 0, .int .u8 0], .int .i64 7]) (by simp [results, Tryd.f50, go_sem]) rfl ⟨rfl, bal (Below.refl _ _) _⟩
    · have h2 : 6 < v := by omega
      go_enter Tryd.func50, Tryd.ntmps50
      go_wp2
      rw [HO.out]
      exact bodyPost_ret (v := .tuple #[.agg #[.int .u8 0, .int .u8 0], .int .i64 7]) (by simp [results, Tryd.f50, go_sem]) rfl ⟨rfl, bal (Below.refl _ _) _⟩
end Go.Proofs.YtjjdhegkcilaiaaDoor
