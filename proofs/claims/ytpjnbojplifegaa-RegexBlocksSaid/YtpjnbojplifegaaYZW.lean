/- The walk of RegexBlocks. -/
import Derived.Test.YtpjnbojplifegaaYZV
import Derived.IntWalk
namespace Go.Proofs.Ytpjnbojplifegaa.Rx
open Go Go.RowKit Go.Shelf Go.Proofs.Ytpjnbojplifegaa
set_option linter.unusedVariables false
set_option maxRecDepth 100000
theorem last_op {t : Ex} {i : Nat} (hi : i < t.size) (ho : (sub t i).Ok) : (pc (flat (sub t i) 0) ((sub t i).size - 1)).op = (pc (flat t 0) i).op := by
  obtain ⟨s, h1, h2⟩ := sub_flat t i 0 hi
  have hp := (sub t i).pos
  rw [Nat.zero_add] at h2
  have hs := flat_shift (sub t i) s 0 ho
  rw [Nat.add_zero] at hs
  have e1 : (flat t 0)[i]? = (flat (sub t i) s)[(sub t i).size - 1]? := by
    rw [← h2, List.getElem?_take, if_pos (by omega), List.getElem?_drop]
    congr 1
    omega
  have hl : (sub t i).size - 1 < (flat (sub t i) s).length := by rw [flat_len]; omega
  rw [← hs]
  unfold pc
  rw [List.getD_eq_getElem?_getD, List.getD_eq_getElem?_getD, List.getElem?_map, e1, List.getElem?_eq_getElem hl]
  rfl
theorem text_in {a b x y : List UInt8} (h : a = x ++ b ++ y) : x.length + (⟨b.toArray⟩ : ByteArray).size ≤ (⟨a.toArray⟩ : ByteArray).size ∧ (⟨a.toArray⟩ : ByteArray).extract x.length (x.length + (⟨b.toArray⟩ : ByteArray).size) = ⟨b.toArray⟩ := by
  have hb : (⟨b.toArray⟩ : ByteArray).size = b.length := by show b.toArray.size = _; simp
  have ha : (⟨a.toArray⟩ : ByteArray).size = a.length := by show a.toArray.size = _; simp
  have hl : x.length + b.length ≤ a.length := by rw [h]; simp
  refine ⟨by omega, ?_⟩
  apply ByteArray.ext
  apply Array.ext'
  rw [ext_list _ _ _ (by omega), hb]
  show (a.toArray.toList.drop x.length).take _ = b.toArray.toList
  rw [List.toList_toArray, List.toList_toArray, h, List.append_assoc, List.drop_left, Nat.add_sub_cancel_left, List.take_left]
theorem drewB (X : World) (n : Nat) : Below X.heap.size X (X.drewN n) := Ap.drewN_below X n
set_option maxHeartbeats 16000000 in
theorem regexBlocks_walk (A : Option Addr) (l : List Pc) (c : Nat) (v i : Int) (w : World) (hx : PcsAt w A l) (hl : l.length ≤ maxLen) (hv : -9223372036854775808 ≤ v ∧ v ≤ 9223372036854775807) (hi : -9223372036854775808 ≤ i ∧ i ≤ 9223372036854775807) :
    Calls Try.prog 8 #[.slice A l.length c, .int .i64 v, .int .i64 i] w fun e w' => e = .returned (.bool true) ∧ Below w.heap.size w w' := by
  have HAw := Lib.hid fun X => awake_any X
  by_cases h100 : 100 < l.length
  · have d1 : decide ((100 : Int) < (l.length : Int)) = true := decide_eq_true (by omega)
    have h101 : (100 : Int) < (l.length : Int) := by omega
    clear hx hv hl
    generalize l.length = n at *
    go_enter Try.func8, Try.ntmps8
    go_wp2_with (go_at_call 10; ((with_reducible refine (HAw.out _).mono ?_); rintro r w2 ⟨rfl, hb2⟩))
    go_ret
    exact ⟨rfl, hb2⟩
  have d1 : decide ((100 : Int) < (l.length : Int)) = false := decide_eq_false (by omega)
  have hl6 : l.length ≤ 1000000 := by omega
  by_cases hE : chkL v l = 0
  · obtain ⟨t, hV, rfl⟩ := chkL_ok hE
    have hlen : t.size = (flat t 0).length := (flat_len t 0).symm
    have hsm := txt_small hV
    have hp := t.pos
    have hsz := hV.size
    obtain ⟨S, hS⟩ : ∃ S : ByteArray, S = ⟨(txt t).toArray⟩ := ⟨_, rfl⟩
    have hz : S.size = (txt t).length := by rw [hS]; show (txt t).toArray.size = _; simp
    have HF : Hid (∀ X, Below w.heap.size w X → Calls Try.prog 16 #[.slice A (flat t 0).length c, .int .i64 v] X fun r w' => r = .returned (.tuple #[.string S, .int .i64 0]) ∧ Below X.heap.size X w') := fun X hX => hS ▸ Format_good A t _ c v X (hx.below hX) hV hlen.symm
    have HW : Hid (∀ X, Below w.heap.size w X → Calls Try.prog 18 #[.slice A (flat t 0).length c, .int .i64 v, .int .i64 (((flat t 0).length : Int) - 1)] X fun r w' => ∃ B d, r = .returned (.tuple #[.slice B (flat t 0).length d, .int .i64 0]) ∧ PcsAt w' B (flat t 0) ∧ Below X.heap.size X w') := fun X hX => by
      have := Block_good A t (flat t 0).length c v X (t.size - 1) (hx.below hX) hV hlen.symm (by omega)
      rw [sub_last, show ((t.size - 1 : Nat) : Int) = ((flat t 0).length : Int) - 1 by omega] at this
      exact this.mono fun r w' ⟨B, d, h1, h2, h3⟩ => ⟨B, d, by rw [h1, hlen], pcs_of_own h2 (valid_fine hV), h3⟩
    have HPl : Hid (∀ X, Below w.heap.size w X → Calls Try.prog 17 #[.slice A (flat t 0).length c, .int .i64 v] X fun r w' => r = .returned (.tuple #[.bool (plainT t), .int .i64 0]) ∧ Below X.heap.size X w') := fun X hX =>
      Plain_good A t _ c v X (hx.below hX) hV hlen.symm
    have HEq : Hid (∀ X B d, Below w.heap.size w X → PcsAt X B (flat t 0) → Calls Try.prog 22 #[.slice B (flat t 0).length d, .slice A (flat t 0).length c] X fun r w' => r = .returned (.bool true) ∧ Below X.heap.size X w') := fun X B d hX hB => by
      have := EqualRegex_any B A (flat t 0) (flat t 0) d c X hB (hx.below hX) hl6
      rw [decide_eq_true rfl] at this
      exact this.mono fun e w' ⟨h1, n, h2⟩ => ⟨h1, h2 ▸ Ap.drewN_below X n⟩
    by_cases hin : 0 ≤ i ∧ i < t.size
    · obtain ⟨j, rfl, hj⟩ : ∃ j : Nat, i = j ∧ j < t.size := ⟨i.toNat, by omega, by omega⟩
      obtain ⟨so, sc, ss, sp, x, y, st⟩ := sub_ok v t j hj hV.ok hV.cubes
      have hop := last_op hj so
      have hsp := (sub t j).pos
      have hfine : ∀ x ∈ flat (sub t j) 0, PcOk x := flat_fine (sub t j) 0 so (p8_cubes _ so sc) (by omega)
      have HB : Hid (∀ X, Below w.heap.size w X → Calls Try.prog 18 #[.slice A (flat t 0).length c, .int .i64 v, .int .i64 j] X fun r w' => ∃ B d, r = .returned (.tuple #[.slice B (sub t j).size d, .int .i64 0]) ∧ PcsAt w' B (flat (sub t j) 0) ∧ Below X.heap.size X w') := fun X hX =>
        (Block_good A t (flat t 0).length c v X j (hx.below hX) hV hlen.symm hj).mono fun r w' ⟨B, d, h1, h2, h3⟩ => ⟨B, d, h1, pcs_of_own h2 hfine, h3⟩
      have hK : ∃ (T : ByteArray) (K : Int), (∀ X B d, PcsAt X B (flat (sub t j) 0) → Calls Try.prog 16 #[.slice B (sub t j).size d, .int .i64 v] X fun r w' => r = .returned (.tuple #[.string T, .int .i64 K]) ∧ Below X.heap.size X w') ∧ (plainT t = true → K = 0 ∧ ∀ X, Calls Try.prog 26 #[.string S, .string T] X fun r w' => r = .returned (.bool true) ∧ w' = X) := by
        by_cases hc : chkL v (flat (sub t j) 0) = 0
        · have hV2 : (sub t j).Valid v := by rw [chkL_flat so] at hc; exact chkC_valid so hc
          refine ⟨⟨(txt (sub t j)).toArray⟩, 0, fun X B d hX => Format_good B (sub t j) _ d v X hX hV2 rfl, fun _ => ⟨rfl, fun X => ?_⟩⟩
          obtain ⟨h1, h2⟩ := text_in st
          rw [← hS] at h1 h2
          exact contains_any S _ x.length h1 h2 (by omega) X
        · refine ⟨⟨#[]⟩, chkL v (flat (sub t j) 0), fun X B d hX => ?_, fun hpl => absurd (chkL_valid ⟨hV.v0, hV.v6, so, by omega, sc, plain_free _ _ (sp hpl)⟩) hc⟩
          have := Format_bad B (flat (sub t j) 0) d v X hX (by rw [flat_len]; omega) hc
          rwa [flat_len] at this
      obtain ⟨T, K, hT, hT2⟩ := hK
      have HX := Lib.hid hT
      have HA := Lib.hid fun (wr : World) (hb : Below w.heap.size w wr) => pcs_five hx hb (j := j) (by omega)
      obtain ⟨M, hM⟩ : ∃ M, M + 1 = (sub t j).size := ⟨(sub t j).size - 1, by omega⟩
      have HBc := Lib.hid fun (wr : World) (B : Option Addr) (hb : PcsAt wr B (flat (sub t j) 0)) => pcs_five hb (Below.refl _ _) (j := M) (by rw [flat_len]; omega)
      rw [← hM, Nat.add_sub_cancel] at hop
      have hj3 : (j : Int) < ((flat t 0).length : Int) := by omega
      have hd3 : decide ((j : Int) + 1 < ((sub t j).size : Int)) = false := decide_eq_false (by omega)
      have hM3 : (M : Int) < ((sub t j).size : Int) := by omega
      have hm0 : (((sub t j).size : Int) == 0) = false := nat_ne0 (by omega)
      have hw1 : IntKind.i64.wrap (((sub t j).size : Int) - 1) = (M : Int) := by
        rw [show ((sub t j).size : Int) - 1 = (M : Int) by omega]
        exact IntWalk.i64_in _ (by omega)
      have hw2 : IntKind.i64.wrap ((j : Int) + 1) = (j : Int) + 1 := IntWalk.i64_in _ (by omega)
      have hn64 : (flat t 0).length ≤ 64 := by omega
      have hm64 : (sub t j).size ≤ 64 := by omega
      have hj64 : j < (flat t 0).length := by omega
      have hM64 : M < (sub t j).size := by omega
      clear hE hV hlen hx hl6 hsm hS hz hT hp hsz so sc sp st hin hfine hj hsp hM ss
      generalize (flat t 0).length = n at *
      generalize (sub t j).size = m at *
      generalize flat t 0 = F at *
      generalize flat (sub t j) 0 = G at *
      generalize plainT t = R at *
      have HG := Lib.hid hop
      clear hop
      have HW1 := Lib.hid hw1
      have HW2 := Lib.hid hw2
      have HD3 := Lib.hid hd3
      clear hw1 hw2 hd3
      cases R
      · clear hT2
        go_enter Try.func8, Try.ntmps8
        go_upto_region 13 with (first
          | (go_at_call 10; ((with_reducible refine (HAw.out _).mono ?_); rintro r w1 ⟨rfl, hb1⟩))
          | (go_at_call 16; ((with_reducible refine (HF.out _ hb1).mono ?_); rintro r w2 ⟨rfl, hb⟩); have K2 := stepB hb1 hb; clear hb)
          | (go_at_call 18; ((with_reducible refine (HB.out _ K2).mono ?_); rintro r w3 ⟨B, d, rfl, P3, hb⟩); have K3 := stepB K2 hb; clear hb)
          | (go_at_call 18; ((with_reducible refine (HW.out _ K3).mono ?_); rintro r w4 ⟨C, f, rfl, P4, hb⟩); have K4 := stepB K3 hb; have P3 := P3.below hb; clear hb)
          | (go_at_call 17; ((with_reducible refine (HPl.out _ K4).mono ?_); rintro r w5 ⟨rfl, hb⟩); have K5 := stepB K4 hb; have P3 := P3.below hb; have P4 := P4.below hb; clear hb)
          | (go_at_call 22; ((with_reducible refine (HEq.out _ _ _ K5 P4).mono ?_); rintro r w6 ⟨rfl, hb⟩); have K6 := stepB K5 hb; have P3 := P3.below hb; clear hb P4))
        obtain ⟨ad, rfl, had, hok, f0, f1, f2, f3, f4⟩ := HA.out _ K6
        obtain ⟨bd, rfl, hbd, hok2, g0, g1, g2, g3, g4⟩ := HBc.out _ _ P3
        rw [HG.out] at g0
        generalize (pc F j).op = o at *
        have hoo : ((o : Int) != (o : Int)) = false := by simp
        have hw1 := HW1.out
        have hw2 := HW2.out
        have hd3 := HD3.out
        clear f1 f2 f3 f4 g1 g2 g3 g4 hok hok2
        go_wp2
        go_quiet (fail)
        go_wp2_with (go_at_call 16; ((with_reducible refine (HX.out _ _ _ (P3.below (drewB _ _))).mono ?_); rintro r w7 ⟨rfl, hb7⟩))
        go_ret
        exact ⟨rfl, stepB (stepB K6 (drewB _ _)) hb7⟩
      · obtain ⟨rfl, hC⟩ := hT2 rfl
        have HC := Lib.hid hC
        clear hT2 hC
        go_enter Try.func8, Try.ntmps8
        go_upto_region 13 with (first
          | (go_at_call 10; ((with_reducible refine (HAw.out _).mono ?_); rintro r w1 ⟨rfl, hb1⟩))
          | (go_at_call 16; ((with_reducible refine (HF.out _ hb1).mono ?_); rintro r w2 ⟨rfl, hb⟩); have K2 := stepB hb1 hb; clear hb)
          | (go_at_call 18; ((with_reducible refine (HB.out _ K2).mono ?_); rintro r w3 ⟨B, d, rfl, P3, hb⟩); have K3 := stepB K2 hb; clear hb)
          | (go_at_call 18; ((with_reducible refine (HW.out _ K3).mono ?_); rintro r w4 ⟨C, f, rfl, P4, hb⟩); have K4 := stepB K3 hb; have P3 := P3.below hb; clear hb)
          | (go_at_call 17; ((with_reducible refine (HPl.out _ K4).mono ?_); rintro r w5 ⟨rfl, hb⟩); have K5 := stepB K4 hb; have P3 := P3.below hb; have P4 := P4.below hb; clear hb)
          | (go_at_call 22; ((with_reducible refine (HEq.out _ _ _ K5 P4).mono ?_); rintro r w6 ⟨rfl, hb⟩); have K6 := stepB K5 hb; have P3 := P3.below hb; clear hb P4))
        obtain ⟨ad, rfl, had, hok, f0, f1, f2, f3, f4⟩ := HA.out _ K6
        obtain ⟨bd, rfl, hbd, hok2, g0, g1, g2, g3, g4⟩ := HBc.out _ _ P3
        rw [HG.out] at g0
        generalize (pc F j).op = o at *
        have hoo : ((o : Int) != (o : Int)) = false := by simp
        have hw1 := HW1.out
        have hw2 := HW2.out
        have hd3 := HD3.out
        clear f1 f2 f3 f4 g1 g2 g3 g4 hok hok2
        go_wp2
        go_quiet (fail)
        go_wp2_with (first
          | (go_at_call 16; ((with_reducible refine (HX.out _ _ _ (P3.below (drewB _ _))).mono ?_); rintro r w7 ⟨rfl, hb7⟩))
          | (go_at_call 26; ((with_reducible refine (HC.out _).mono ?_); rintro r w8 ⟨rfl, rfl⟩)))
        go_ret
        exact ⟨rfl, stepB (stepB K6 (drewB _ _)) hb7⟩
    · have HB := Lib.hid fun X (hX : Below w.heap.size w X) => Block_out A t (flat t 0).length c v X i (hx.below hX) hV hlen.symm (by omega)
      have hd : (i < 0 ∧ decide (i < 0) = true) ∨ (0 ≤ i ∧ decide (i < 0) = false ∧ decide (((flat t 0).length : Int) ≤ i) = true) := by
        by_cases h : i < 0
        · exact .inl ⟨h, decide_eq_true h⟩
        · exact .inr ⟨by omega, decide_eq_false h, decide_eq_true (by omega)⟩
      have hn64 : (flat t 0).length ≤ 64 := by omega
      clear hE hV hlen hx hl6 hsm hS hz hp hsz hin
      generalize (flat t 0).length = n at *
      generalize flat t 0 = F at *
      generalize plainT t = R at *
      rcases hd with ⟨h0, e1⟩ | ⟨h0, e1, e2⟩
      all_goals
        clear h0
        go_enter Try.func8, Try.ntmps8
        go_wp2_with (first
          | (go_at_call 10; ((with_reducible refine (HAw.out _).mono ?_); rintro r w1 ⟨rfl, hb1⟩))
          | (go_at_call 16; ((with_reducible refine (HF.out _ hb1).mono ?_); rintro r w2 ⟨rfl, hb⟩); have K2 := stepB hb1 hb; clear hb)
          | (go_at_call 18; ((with_reducible refine (HB.out _ K2).mono ?_); rintro r w3 ⟨rfl, hb⟩); have K3 := stepB K2 hb; clear hb)
          | (go_at_call 18; ((with_reducible refine (HW.out _ K3).mono ?_); rintro r w4 ⟨C, f, rfl, P4, hb⟩); have K4 := stepB K3 hb; clear hb)
          | (go_at_call 17; ((with_reducible refine (HPl.out _ K4).mono ?_); rintro r w5 ⟨rfl, hb⟩); have K5 := stepB K4 hb; have P4 := P4.below hb; clear hb)
          | (go_at_call 22; ((with_reducible refine (HEq.out _ _ _ K5 P4).mono ?_); rintro r w6 ⟨rfl, hb⟩); have K6 := stepB K5 hb; clear hb P4))
        go_ret
        exact ⟨rfl, K6⟩
  · have HF := Lib.hid fun X (hX : Below w.heap.size w X) => Format_bad A l c v X (hx.below hX) hl6 hE
    have HB := Lib.hid fun X (hX : Below w.heap.size w X) => Block_bad A l c v X i (hx.below hX) hl6 hE
    have h1 := int_ne hE
    clear hx hl6
    generalize chkL v l = E at *
    have h2 : (E == E) = true := beq_self_eq_true E
    generalize l.length = n at *
    go_enter Try.func8, Try.ntmps8
    go_wp2_with (first
      | (go_at_call 10; ((with_reducible refine (HAw.out _).mono ?_); rintro r w1 ⟨rfl, hb1⟩))
      | (go_at_call 16; ((with_reducible refine (HF.out _ hb1).mono ?_); rintro r w2 ⟨rfl, hb⟩); have K2 := stepB hb1 hb; clear hb)
      | (go_at_call 18; ((with_reducible refine (HB.out _ K2).mono ?_); rintro r w3 ⟨rfl, hb3⟩)))
    go_ret
    exact ⟨rfl, stepB K2 hb3⟩
end Go.Proofs.Ytpjnbojplifegaa.Rx
