/- The law's reversed word (stage 5). -/
import Derived.Test.YtbimfndkmolcdaaRM
namespace Go.Proofs.Ytbimfndkmolcdaa.Rx
open Go Go.RowKit Go.Shelf Go.Proofs.Ytbimfndkmolcdaa
set_option linter.unusedVariables false
set_option maxRecDepth 100000
theorem info_u8R : (Try.prog.info? 5).map (fun i => (i.zero, i.size, i.bytes)) = some (some (.int .u8 0), 1, 1) := by kernel_rfl
theorem rev_take {l : List Nat} {j k : Nat} (h : j + 1 + k = l.length) : l.reverse.take (k + 1) = l.reverse.take k ++ [wd l j] := by
  rw [List.take_add_one]
  congr 1
  rw [List.getElem?_reverse (by omega), show l.length - 1 - k = j by omega]
  unfold wd
  rw [List.getD_eq_getElem?_getD, List.getElem?_eq_getElem (by omega)]
  rfl
set_option maxHeartbeats 4000000 in
theorem reversed_any (B : Option Addr) (word : List Nat) (d : Nat) (w : World) (hB : Bys w B word) (hn : word.length ≤ 1000) :
    Calls Try.prog 45 #[.slice B word.length d] w fun r w' => ∃ A' c', r = .returned (.slice A' word.length c') ∧ Bys w' A' word.reverse ∧ Below w.heap.size w w' := by
  obtain ⟨i0, hi0, hz0, hz1, hz2⟩ := info_parts info_u8R
  have HT := Lib.hid fun j k (h : j + 1 + k = word.length) => rev_take (l := word) h
  have HF : Hid (∀ (X : World) v, X.ownsRow w.heap.size 5 1 v word.length (bvs (word.reverse.take word.length)) → ∃ A' c', v = .slice A' word.length c' ∧ Bys X A' word.reverse) := fun X v h => by
    obtain ⟨A', c', rfl, _⟩ := Ap.own_form h
    rw [List.take_of_length_le (by simp)] at h
    exact ⟨A', c', rfl, own_bys h (by simp)⟩
  have HC : Hid (∀ X, Below w.heap.size w X → ∀ j, j < word.length → ∃ ad, B = some ad ∧ X.cell? (ad.add j) = some (.int .u8 ((wd word j : Nat) : Int))) := fun X hX j hj => by
    obtain ⟨ad, e, _, h⟩ := (hB.below hX) j hj
    exact ⟨ad, e, h⟩
  generalize word.length = n at *
  generalize word.reverse = R at *
  generalize wd word = W at *
  clear hB
  go_enter Try.func45, Try.ntmps45
  go_wp2
  go_loopw [3, 4] (fun ov iv wr => ∃ (k : Nat) (i : Int), i + 1 + k = n ∧ -1 ≤ i ∧ iv = .int .i64 i ∧ Hid (wr.ownsRow w.heap.size 5 1 ov k (bvs (R.take k))) ∧ Hid (Below w.heap.size w wr)) (fun _ i _ => (intOf i + 1).toNat)
  case atStart => exact ⟨0, (n : Int) - 1, by omega, by omega, rfl, ⟨rfl, .inl ⟨rfl, rfl⟩⟩, Below.refl _ _⟩
  case round =>
    obtain ⟨k, i, hik, hi1, rfl, hO, hb⟩ := hrel
    by_cases hi : i = -1
    · subst hi
      obtain rfl : k = n := by omega
      obtain ⟨A', c', rfl, hF⟩ := HF.out _ _ hO.out
      have HF2 := Lib.hid hF
      clear hF
      go_wp2
      go_ret
      exact ⟨A', c', rfl, HF2.out, hb.out⟩
    · obtain ⟨j, rfl⟩ : ∃ j : Nat, i = j := ⟨i.toNat, by omega⟩
      obtain ⟨ad, rfl, hc⟩ := HC.out _ hb.out j (by omega)
      have hT := Lib.hid (HT.out j k (by omega))
      have hjn : (j : Int) < (n : Int) := by omega
      have hge : decide ((0 : Int) ≤ (j : Int)) = true := decide_eq_true (by omega)
      have hbs := hb.out.size
      generalize W j = x at *
      go_wp2_with (at_builtin; refine wpList_append_own_at _ rfl _ _ 46 rfl w.heap.size 5 i0 (.int .u8 0) 1 1 Try.underlying46 hi0 hz0 hz1 hz2 rfl (by decide) _ _ _ rfl (Ap.own_bel hO.out (bal (Below.refl _ _) _)) ⟨wr.heap.size, 0, none⟩ 1 1 [.int .u8 x] rfl rfl (fun j u hu => cells_new wr _ 5 j u hu) (by simp [Value.oneCell']) (by unfold maxLen; omega) (by omega) (by simp; omega) ?_; intro v' w6 hown' hgrow _ hob; have HO6 := Lib.hid hown'; have HG6 := Lib.hid hgrow; clear hown' hgrow hob)
      go_roundw
      case rel =>
        refine ⟨k + 1, (j : Int) - 1, by omega, by omega, by go_num, ?_, ?_⟩
        · show World.ownsRow _ _ _ _ _ _ _
          rw [hT.out, bvs_snoc]
          exact HO6.out
        · exact (hb.out.alloc hbs _).grown HG6.out (by simp; omega) (fun q hq => (hO.out.lt q hq).1)
      case measure => simp [intOf]
theorem wordE_rev (v : Nat) (l : List Nat) : wordE v l.reverse = wordE v l := by
  unfold wordE
  rw [List.length_reverse, List.all_reverse]
theorem chkL_nil (v : Int) : chkL v [] ≠ 0 := fun h => by
  obtain ⟨t, _, e⟩ := chkL_ok h
  have := congrArg List.length e
  rw [flat_len] at this
  have := t.pos
  simp at *
  omega
set_option maxHeartbeats 16000000 in
theorem matchReverses_walk (A : Option Addr) (l : List Pc) (c : Nat) (v : Int) (B : Option Addr) (word : List Nat) (d : Nat) (w : World) (hx : PcsAt w A l) (hl : l.length ≤ maxLen) (hv : -9223372036854775808 ≤ v ∧ v ≤ 9223372036854775807) (hB : Bys w B word) (hw8 : ∀ x ∈ word, x < 256) (hm : word.length ≤ maxLen) (hd : word.length ≤ d) :
    Calls Try.prog 11 #[.slice A l.length c, .int .i64 v, .slice B word.length d] w fun e w' => e = .returned (.bool true) ∧ Below w.heap.size w w' := by
  have HAw := Lib.hid fun X => awake5_any X
  by_cases hL : longP l.length word.length
  · have HL := Lib.hid (long_yes A B l.length c word.length d w hL)
    clear hx hl hv hB hw8 hm hd hL
    generalize l.length = n at *
    generalize word.length = m at *
    go_enter Try.func11, Try.ntmps11
    go_wp2_with (first
      | (go_at_call 29; ((with_reducible refine HL.out.mono ?_); rintro r w1 ⟨rfl, rfl⟩))
      | (go_at_call 30; ((with_reducible refine (HAw.out _).mono ?_); rintro r w2 ⟨rfl, hb2⟩)))
    go_ret
    exact ⟨rfl, hb2⟩
  have HL := Lib.hid (long_no A B l.length c word.length d w hL)
  have hl40 : l.length ≤ 40 := by unfold longP at hL; omega
  have hm100 : word.length ≤ 100 := by unfold longP at hL; omega
  clear hL
  have hr8 : ∀ x ∈ word.reverse, x < 256 := fun x h => hw8 x (List.mem_reverse.1 h)
  have hrl : word.reverse.length = word.length := List.length_reverse
  have HRe := Lib.hid fun X (hX : Below w.heap.size w X) => reversed_any B word d X (hB.below hX) (by omega)
  by_cases hE : chkL v l = 0
  · obtain ⟨t, hV, rfl⟩ := chkL_ok hE
    clear hE
    have hV' := rev_valid hV
    have hlen : (flat t 0).length = t.size := flat_len t 0
    have hlen' : (flat t 0).length = (rev t).size := by rw [hlen, rev_size]
    have HRv : Hid (∀ X, Below w.heap.size w X → Calls Try.prog 22 #[.slice A (flat t 0).length c, .int .i64 v] X fun r w' => ∃ A' c', r = .returned (.tuple #[.slice A' (flat t 0).length c', .int .i64 0]) ∧ PcsAt w' A' (flat (rev t) 0) ∧ Below X.heap.size X w') := fun X hX =>
      (Reverse_good A t _ c v X (hx.below hX) hV hlen).mono fun r w' ⟨A', c', h1, h2, h3⟩ => ⟨A', c', h1, pcs_of_own (hlen ▸ h2) (valid_fine hV'), h3⟩
    by_cases hW : wordE v.toNat word = 0
    · have HTa : Hid (∀ X, Below w.heap.size w X → Calls Try.prog 34 #[.slice A (flat t 0).length c, .int .i64 v, .slice B word.length d] X fun r w' => ∃ mb, r = .returned (.tuple #[.slice (some ⟨mb, 0, none⟩) (word.length + 1) (word.length + 1), .int .i64 0]) ∧ MatAt w' mb word.length (half word.length (mt word t)) ∧ Below X.heap.size X w') := fun X hX => (Table_good (A := A) (B := B) (c := c) (d := d) (v := v) (word := word) (w := X) (t := t) (L := (flat t 0).length) (n := word.length) (hx.below hX) hV hlen (hB.below hX) rfl hw8 hW (by omega)).mono fun e w' ⟨mb, h1, h2, h3, h4⟩ => ⟨mb, h1, h2, h3⟩
      have HTb : Hid (∀ X A' c' B' d', PcsAt X A' (flat (rev t) 0) → Bys X B' word.reverse → Calls Try.prog 34 #[.slice A' (flat t 0).length c', .int .i64 v, .slice B' word.length d'] X fun r w' => ∃ mb, r = .returned (.tuple #[.slice (some ⟨mb, 0, none⟩) (word.length + 1) (word.length + 1), .int .i64 0]) ∧ MatAt w' mb word.length (half word.length (mt word.reverse (rev t))) ∧ Below X.heap.size X w') := fun X A' c' B' d' hP hR => (Table_good (A := A') (B := B') (c := c') (d := d') (v := v) (word := word.reverse) (w := X) (t := rev t) (L := (flat t 0).length) (n := word.length) hP hV' hlen' hR hrl.symm hr8 (by rw [wordE_rev]; exact hW) (by omega)).mono fun e w' ⟨mb, h1, h2, h3, h4⟩ => ⟨mb, h1, h2, h3⟩
      have HG : Hid (∀ i j, i ≤ j → j ≤ word.length → half word.length (mt word.reverse (rev t)) (word.length - j) (word.length - i) = half word.length (mt word t) i j) := fun i j h1 h2 => by
        rw [half_at h1 h2, half_at (by omega) (by omega)]
        exact (mt_rev word t i j hV.ok h1 h2).symm
      clear hx hB hV hV' hlen hlen' hw8 hW hv hm hl hl40 hd hr8 hrl
      generalize (flat t 0).length = n at *
      generalize half word.length (mt word t) = G at *
      generalize half word.length (mt word.reverse (rev t)) = G2 at *
      generalize word.reverse = Wr at *
      generalize flat (rev t) 0 = F2 at *
      generalize word.length = m at *
      go_enter Try.func11, Try.ntmps11
      go_wp2_with (first
        | (go_at_call 29; ((with_reducible refine HL.out.mono ?_); rintro r w1 ⟨rfl, rfl⟩))
        | (go_at_call 30; ((with_reducible refine (HAw.out _).mono ?_); rintro r w2 ⟨rfl, hb2⟩))
        | (go_at_call 22; ((with_reducible refine (HRv.out _ hb2).mono ?_); rintro r w3 ⟨A3, c3, rfl, hP3, hb3⟩); have P3 := Lib.hid hP3; have K3 := stepB hb2 hb3; clear hb3 hP3)
        | (go_at_call 34; ((with_reducible refine (HTa.out _ K3).mono ?_); rintro r w4 ⟨mb, rfl, hM4, hb4⟩); have M4 := Lib.hid hM4; have P4 := Lib.hid (P3.out.below hb4); have K4 := stepB K3 hb4; clear hb4 hM4)
        | (go_at_call 45; ((with_reducible refine (HRe.out _ K4).mono ?_); rintro r w5 ⟨A5, c5, rfl, hP5, hb5⟩); have P5 := Lib.hid hP5; have K5 := stepB K4 hb5; have P6 := Lib.hid (P4.out.below hb5); have M5 := Lib.hid (M4.out.below hb5); clear hb5 hP5)
        | (go_at_call 34; ((with_reducible refine (HTb.out _ _ _ _ _ P6.out P5.out).mono ?_); rintro r w6 ⟨nb, rfl, hM6, hb6⟩); have N6 := Lib.hid hM6; have M6 := Lib.hid (M5.out.below hb6); have K6 := stepB K5 hb6; clear hb6 hM6))
      go_loopw [14, 15] (fun i _ wr => ∃ k : Nat, k ≤ m + 1 ∧ i = .int .i64 k ∧ Hid (Below w6.heap.size w6 wr)) (fun i _ _ => m + 1 - (intOf i).toNat)
      case atStart => exact ⟨0, by omega, rfl, Below.refl _ _⟩
      case round =>
        obtain ⟨i, hi, rfl, hK⟩ := hrel
        by_cases hi2 : i = m + 1
        · subst hi2
          go_wp2
          go_ret
          exact ⟨rfl, stepB K6 hK.out⟩
        · have hi1 : i ≤ m := by omega
          have hdi : decide ((i : Int) ≤ (m : Int)) = true := decide_eq_true (by omega)
          go_wp2
          obtain ⟨wq2, rfl⟩ : ∃ wq : World, wq = wr := ⟨_, rfl⟩
          go_loopw [15] (fun j wr => ∃ k : Nat, i ≤ k ∧ k ≤ m + 1 ∧ j = .int .i64 k ∧ Hid (Below w6.heap.size w6 wr)) (fun j _ => m + 1 - (intOf j).toNat)
          case atStart => exact ⟨i, Nat.le_refl _, by omega, rfl, hK⟩
          case round =>
            clear hK
            obtain ⟨j, hij, hj, rfl, hK⟩ := hrel
            by_cases hj2 : j = m + 1
            · subst hj2
              go_wp2
              go_roundw
              case rel => exact ⟨i + 1, by omega, by go_num, hK⟩
              case measure => simp [intOf]; omega
            · have hj1 : j ≤ m := by omega
              have hdj : decide ((j : Int) ≤ (m : Int)) = true := decide_eq_true (by omega)
              obtain ⟨p, hp⟩ : ∃ p, p = m - j := ⟨_, rfl⟩
              obtain ⟨q, hq⟩ : ∃ q, q = m - i := ⟨_, rfl⟩
              have hpi : (m : Int) - (j : Int) = (p : Int) := by omega
              have hqi : (m : Int) - (i : Int) = (q : Int) := by omega
              have hpm : p ≤ m := by omega
              have hqm : q ≤ m := by omega
              have hGG := HG.out i j hij hj1
              rw [← hp, ← hq] at hGG
              have hMr := M6.out.below hK.out
              have hNr := N6.out.below hK.out
              have mo := cell_of hMr.o (i := i) (by omega)
              have mr := cell_of (hMr.r i hi1) (i := j) (by omega)
              have no := cell_of hNr.o (i := p) (by omega)
              have nr := cell_of (hNr.r p hpm) (i := q) (by omega)
              unfold rowV at mo no
              unfold boolV at mr nr
              rw [hGG] at nr
              generalize G i j = b at *
              have hbb : (b != b) = false := by simp
              have mlt : mb < wr.heap.size := by have := hMr.lt; omega
              have mlr : mb + 1 + i < wr.heap.size := by have := hMr.lt; omega
              have nlt : nb < wr.heap.size := by have := hNr.lt; omega
              have nlr : nb + 1 + p < wr.heap.size := by have := hNr.lt; omega
              have b1 : (i : Int) < (m : Int) + 1 := by omega
              have b2 : (j : Int) < (m : Int) + 1 := by omega
              have b3 : (p : Int) < (m : Int) + 1 := by omega
              have b4 : (q : Int) < (m : Int) + 1 := by omega
              have HKr := Lib.hid hK.out
              clear hMr hNr hGG hp hq
              go_wp2
              go_quiet (fail)
              go_wp2
              go_roundw
              case rel => exact ⟨j + 1, by omega, by omega, by go_num, stepB HKr.out (Ap.drewN_below _ _)⟩
              case measure => simp [intOf]; omega
    · have hw2 : wrongL v (flat t 0) word ≠ 0 := by rw [wrong_valid hV]; exact hW
      have HTa : Hid (∀ X, Below w.heap.size w X → Calls Try.prog 34 #[.slice A (flat t 0).length c, .int .i64 v, .slice B word.length d] X fun r w' => r = .returned (.tuple #[.slice none 0 0, .int .i64 (wordE v.toNat word)]) ∧ Below X.heap.size X w') := fun X hX => by
        have := Table_bad (A := A) (B := B) (c := c) (d := d) (v := v) (word := word) (w := X) (flat t 0) (hx.below hX) (by omega) (hB.below hX) (by omega) hw8 hw2
        rwa [wrong_valid hV] at this
      have HTb : Hid (∀ X A' c' B' d', PcsAt X A' (flat (rev t) 0) → Bys X B' word.reverse → Calls Try.prog 34 #[.slice A' (flat t 0).length c', .int .i64 v, .slice B' word.length d'] X fun r w' => r = .returned (.tuple #[.slice none 0 0, .int .i64 (wordE v.toNat word)]) ∧ Below X.heap.size X w') := fun X A' c' B' d' hP hR => by
        have := Table_bad (A := A') (B := B') (c := c') (d := d') (v := v) (word := word.reverse) (w := X) (flat (rev t) 0) hP (by rw [flat_len, rev_size, ← hlen]; omega) hR (by rw [hrl]; omega) hr8 (by rw [wrong_valid hV', wordE_rev]; exact hW)
        rw [wrong_valid hV', wordE_rev, hrl, show (flat (rev t) 0).length = (flat t 0).length by rw [flat_len, rev_size, hlen]] at this
        exact this
      have h1 := int_ne hW
      have h0 : (wordE v.toNat word == 0) = false := by rw [beq_eq_false_iff_ne]; exact hW
      clear hx hB hV hV' hlen hlen' hw8 hW hv hd hm hl hl40 hm100 hw2 hr8 hrl
      generalize (flat t 0).length = n at *
      generalize wordE v.toNat word = k at *
      generalize word.reverse = Wr at *
      generalize flat (rev t) 0 = F2 at *
      generalize word.length = m at *
      go_enter Try.func11, Try.ntmps11
      go_wp2_with (first
        | (go_at_call 29; ((with_reducible refine HL.out.mono ?_); rintro r w1 ⟨rfl, rfl⟩))
        | (go_at_call 30; ((with_reducible refine (HAw.out _).mono ?_); rintro r w2 ⟨rfl, hb2⟩))
        | (go_at_call 22; ((with_reducible refine (HRv.out _ hb2).mono ?_); rintro r w3 ⟨A3, c3, rfl, hP3, hb3⟩); have P3 := Lib.hid hP3; have K3 := stepB hb2 hb3; clear hb3 hP3)
        | (go_at_call 34; ((with_reducible refine (HTa.out _ K3).mono ?_); rintro r w4 ⟨rfl, hb4⟩); have P4 := Lib.hid (P3.out.below hb4); have K4 := stepB K3 hb4; clear hb4)
        | (go_at_call 45; ((with_reducible refine (HRe.out _ K4).mono ?_); rintro r w5 ⟨A5, c5, rfl, hP5, hb5⟩); have P5 := Lib.hid hP5; have K5 := stepB K4 hb5; have P6 := Lib.hid (P4.out.below hb5); clear hb5 hP5)
        | (go_at_call 34; ((with_reducible refine (HTb.out _ _ _ _ _ P6.out P5.out).mono ?_); rintro r w6 ⟨rfl, hb6⟩); have K6 := stepB K5 hb6; clear hb6))
      go_ret
      exact ⟨rfl, K6⟩
  · have hw2 : wrongL v l word ≠ 0 := by rw [wrong_bad hE]; exact hE
    have HRv := Lib.hid fun X (hX : Below w.heap.size w X) => Reverse_bad A l c v X (hx.below hX) (by omega) hE
    have HTa : Hid (∀ X, Below w.heap.size w X → Calls Try.prog 34 #[.slice A l.length c, .int .i64 v, .slice B word.length d] X fun r w' => r = .returned (.tuple #[.slice none 0 0, .int .i64 (chkL v l)]) ∧ Below X.heap.size X w') := fun X hX => by
      have := Table_bad (A := A) (B := B) (c := c) (d := d) (v := v) (word := word) (w := X) l (hx.below hX) (by omega) (hB.below hX) (by omega) hw8 hw2
      rwa [wrong_bad hE] at this
    have HTb : Hid (∀ X B' d', Bys X B' word.reverse → Calls Try.prog 34 #[.slice none 0 0, .int .i64 v, .slice B' word.length d'] X fun r w' => r = .returned (.tuple #[.slice none 0 0, .int .i64 (chkL v [])]) ∧ Below X.heap.size X w') := fun X B' d' hR => by
      have := Table_bad (A := none) (B := B') (c := 0) (d := d') (v := v) (word := word.reverse) (w := X) [] (fun j hj => absurd hj (Nat.not_lt_zero j)) (by decide) hR (by rw [hrl]; omega) hr8 (by rw [wrong_bad (chkL_nil v)]; exact chkL_nil v)
      rw [wrong_bad (chkL_nil v), hrl] at this
      exact this
    have h1 := int_ne hE
    have h0 : (chkL v l == 0) = false := by rw [beq_eq_false_iff_ne]; exact hE
    clear hx hB hw8 hv hd hm hl hl40 hm100 hw2 hE hr8 hrl
    generalize chkL v l = k at *
    generalize chkL v [] = k2 at *
    have h2 : (k == k) = true := beq_self_eq_true k
    generalize l.length = n at *
    generalize word.reverse = Wr at *
    generalize word.length = m at *
    go_enter Try.func11, Try.ntmps11
    go_wp2_with (first
        | (go_at_call 29; ((with_reducible refine HL.out.mono ?_); rintro r w1 ⟨rfl, rfl⟩))
        | (go_at_call 30; ((with_reducible refine (HAw.out _).mono ?_); rintro r w2 ⟨rfl, hb2⟩))
        | (go_at_call 22; ((with_reducible refine (HRv.out _ hb2).mono ?_); rintro r w3 ⟨rfl, hb3⟩); have K3 := stepB hb2 hb3; clear hb3)
        | (go_at_call 34; ((with_reducible refine (HTa.out _ K3).mono ?_); rintro r w4 ⟨rfl, hb4⟩); have K4 := stepB K3 hb4; clear hb4)
        | (go_at_call 45; ((with_reducible refine (HRe.out _ K4).mono ?_); rintro r w5 ⟨A5, c5, rfl, hP5, hb5⟩); have P5 := Lib.hid hP5; have K5 := stepB K4 hb5; clear hb5 hP5)
        | (go_at_call 34; ((with_reducible refine (HTb.out _ _ _ P5.out).mono ?_); rintro r w6 ⟨rfl, hb6⟩); have K6 := stepB K5 hb6; clear hb6))
    go_ret
    exact ⟨rfl, K6⟩
end Go.Proofs.Ytbimfndkmolcdaa.Rx
