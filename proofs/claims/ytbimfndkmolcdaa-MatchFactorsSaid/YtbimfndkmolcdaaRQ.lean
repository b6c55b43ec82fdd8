/- The walk of MatchFactors. -/
import Derived.Test.YtbimfndkmolcdaaRM
namespace Go.Proofs.Ytbimfndkmolcdaa.Rx
open Go Go.RowKit Go.Shelf Go.Proofs.Ytbimfndkmolcdaa
set_option linter.unusedVariables false
set_option maxRecDepth 100000
theorem fac_len {l : List Nat} {i k : Nat} (h : i + k ≤ l.length) : ((l.drop i).take k).length = k := by simp; omega
theorem fac_at {l : List Nat} {i k x : Nat} (hx : x < k) : ((l.drop i).take k).getD x 0 = l.getD (i + x) 0 := by
  rw [List.getD_eq_getElem?_getD, List.getD_eq_getElem?_getD, List.getElem?_take, if_pos hx, List.getElem?_drop]
theorem fac_in {l : List Nat} {i k y : Nat} (h : y ∈ (l.drop i).take k) : y ∈ l := List.mem_of_mem_drop (List.mem_of_mem_take h)
theorem fac_mt (word : List Nat) {t : Ex} (ho : t.Ok) (hp : plainT t = true) (i k : Nat) : mt ((word.drop i).take k) t 0 k = mt word t i (i + k) := by
  have := mt_local word ((word.drop i).take k) t i 0 k ho hp fun x hx => by rw [Nat.zero_add, fac_at hx]
  rw [Nat.zero_add] at this
  exact this.symm
theorem wordE_fac {v i k : Nat} {l : List Nat} (h : wordE v l = 0) : wordE v ((l.drop i).take k) = 0 := by
  unfold wordE at h ⊢
  by_cases h1 : 64 < l.length
  · rw [if_pos h1] at h; cases h
  · rw [if_neg h1] at h
    by_cases h2 : l.all (fun x => decide (x < 2 ^ v)) = true
    · rw [if_neg (by simp; omega), if_pos]
      rw [List.all_eq_true] at h2 ⊢
      exact fun x hx => h2 x (fac_in hx)
    · rw [if_neg h2] at h; cases h
theorem bys_fac {w : World} {ad : Addr} {i k : Nat} {l : List Nat} (h : Bys w (some ad) l) (hk : i + k ≤ l.length) : Bys w (some (ad.add i)) ((l.drop i).take k) := by
  intro j hj
  rw [fac_len hk] at hj
  obtain ⟨ad', e, h1, h2⟩ := h (i + j) (by omega)
  cases e
  refine ⟨_, rfl, by rw [addr_block]; exact h1, ?_⟩
  rw [add_addB, h2]
  have : wd ((l.drop i).take k) j = wd l (i + j) := fac_at hj
  simp only [this]
set_option maxHeartbeats 16000000 in
theorem matchFactors_walk (A : Option Addr) (l : List Pc) (c : Nat) (v : Int) (B : Option Addr) (word : List Nat) (d : Nat) (w : World) (hx : PcsAt w A l) (hl : l.length ≤ maxLen) (hv : -9223372036854775808 ≤ v ∧ v ≤ 9223372036854775807) (hB : Bys w B word) (hw8 : ∀ x ∈ word, x < 256) (hm : word.length ≤ maxLen) (hd : word.length ≤ d) :
    Calls Try.prog 9 #[.slice A l.length c, .int .i64 v, .slice B word.length d] w fun e w' => e = .returned (.bool true) ∧ Below w.heap.size w w' := by
  have HAw := Lib.hid fun X => awake5_any X
  by_cases hL : longP l.length word.length
  · have HL := Lib.hid (long_yes A B l.length c word.length d w hL)
    clear hx hl hv hB hw8 hm hd hL
    generalize l.length = n at *
    generalize word.length = m at *
    go_enter Try.func9, Try.ntmps9
    go_wp2_with (first
      | (go_at_call 29; ((with_reducible refine HL.out.mono ?_); rintro r w1 ⟨rfl, rfl⟩))
      | (go_at_call 30; ((with_reducible refine (HAw.out _).mono ?_); rintro r w2 ⟨rfl, hb2⟩)))
    go_ret
    exact ⟨rfl, hb2⟩
  have HL := Lib.hid (long_no A B l.length c word.length d w hL)
  have hl40 : l.length ≤ 40 := by unfold longP at hL; omega
  have hm100 : word.length ≤ 100 := by unfold longP at hL; omega
  clear hL
  by_cases h6 : 6 < word.length
  · have h6' : decide ((6 : Int) < word.length) = true := decide_eq_true (by omega)
    clear hx hl hv hB hw8 hm hd h6
    generalize l.length = n at *
    generalize word.length = m at *
    go_enter Try.func9, Try.ntmps9
    go_wp2_with (first
      | (go_at_call 29; ((with_reducible refine HL.out.mono ?_); rintro r w1 ⟨rfl, rfl⟩))
      | (go_at_call 30; ((with_reducible refine (HAw.out _).mono ?_); rintro r w2 ⟨rfl, hb2⟩)))
    go_ret
    exact ⟨rfl, hb2⟩
  have h6' : decide ((6 : Int) < word.length) = false := decide_eq_false (by omega)
  by_cases hE : chkL v l = 0
  · obtain ⟨t, hV, rfl⟩ := chkL_ok hE
    clear hE
    have hlen : (flat t 0).length = t.size := flat_len t 0
    have HPl := Lib.hid fun X (hX : Below w.heap.size w X) => Plain_good A t (flat t 0).length c v X (hx.below hX) hV hlen
    by_cases hW : wordE v.toNat word = 0
    · have HTa : Hid (∀ X, Below w.heap.size w X → Calls Try.prog 34 #[.slice A (flat t 0).length c, .int .i64 v, .slice B word.length d] X fun r w' => ∃ mb, r = .returned (.tuple #[.slice (some ⟨mb, 0, none⟩) (word.length + 1) (word.length + 1), .int .i64 0]) ∧ MatAt w' mb word.length (half word.length (mt word t)) ∧ Below X.heap.size X w') := fun X hX => (Table_good (A := A) (B := B) (c := c) (d := d) (v := v) (word := word) (w := X) (t := t) (L := (flat t 0).length) (n := word.length) (hx.below hX) hV hlen (hB.below hX) rfl hw8 hW (by omega)).mono fun e w' ⟨mb, h1, h2, h3, h4⟩ => ⟨mb, h1, h2, h3⟩
      cases hp : plainT t with
      | false =>
        rw [hp] at HPl
        clear hx hB hV hlen hw8 hW hv hp hd hm hl hl40 hm100 h6
        generalize (flat t 0).length = n at *
        generalize half word.length (mt word t) = G at *
        generalize word.length = m at *
        go_enter Try.func9, Try.ntmps9
        go_wp2_with (first
          | (go_at_call 29; ((with_reducible refine HL.out.mono ?_); rintro r w1 ⟨rfl, rfl⟩))
          | (go_at_call 30; ((with_reducible refine (HAw.out _).mono ?_); rintro r w2 ⟨rfl, hb2⟩))
          | (go_at_call 20; ((with_reducible refine (HPl.out _ hb2).mono ?_); rintro r w3 ⟨rfl, hb3⟩); have K3 := stepB hb2 hb3; clear hb3)
          | (go_at_call 34; ((with_reducible refine (HTa.out _ K3).mono ?_); rintro r w4 ⟨mb, rfl, hM, hb4⟩); have K4 := stepB K3 hb4; clear hb4))
        go_ret
        exact ⟨rfl, K4⟩
      | true =>
        rw [hp] at HPl
        have HAc : Hid (∀ X (i j : Nat) P d', Below w.heap.size w X → i ≤ j → j ≤ word.length → Bys w P ((word.drop i).take (j - i)) → Calls Try.prog 35 #[.slice A (flat t 0).length c, .int .i64 v, .slice P (j - i) d'] X fun r w' => r = .returned (.tuple #[.bool (half word.length (mt word t) i j), .int .i64 0]) ∧ Below X.heap.size X w') := fun X i j P d' hX hij hj hP => by
          have hk : i + (j - i) ≤ word.length := by omega
          have := Accepts_good (A := A) (B := P) (c := c) (d := d') (v := v) (word := (word.drop i).take (j - i)) (w := X) (t := t) (L := (flat t 0).length) (n := j - i) (hx.below hX) hV hlen (hP.below hX) (fac_len hk).symm (fun y hy => hw8 y (fac_in hy)) (wordE_fac hW) (by rw [fac_len hk]; omega)
          rw [fac_mt word hV.ok hp, show i + (j - i) = j by omega] at this
          rw [half_at hij hj]
          exact this
        have HBy : Hid (∀ ad, B = some ad → ∀ i j, i ≤ j → j ≤ word.length → Bys w (some (ad.add i)) ((word.drop i).take (j - i))) := fun ad e i j hij hj => by
          subst e
          exact bys_fac hB (by omega)
        have HB0 : Hid (∀ P i j, j - i = 0 → Bys w P ((word.drop i).take (j - i))) := fun P i j h => bys_zero (by rw [h]; simp)
        have HLo : Hid (∀ i j, j < i → half word.length (mt word t) i j = false) := fun i j h => if_neg (by omega)
        have hBn : B = none → word.length = 0 := fun e => by
          subst e
          cases word with
          | nil => rfl
          | cons x r => obtain ⟨_, h, _⟩ := hB 0 (by simp); cases h
        clear hx hB hV hlen hw8 hW hv hp hm hl hl40 hm100
        generalize (flat t 0).length = n at *
        generalize half word.length (mt word t) = G at *
        generalize word.length = m at *
        go_enter Try.func9, Try.ntmps9
        go_wp2_with (first
          | (go_at_call 29; ((with_reducible refine HL.out.mono ?_); rintro r w1 ⟨rfl, rfl⟩))
          | (go_at_call 30; ((with_reducible refine (HAw.out _).mono ?_); rintro r w2 ⟨rfl, hb2⟩))
          | (go_at_call 20; ((with_reducible refine (HPl.out _ hb2).mono ?_); rintro r w3 ⟨rfl, hb3⟩); have K3 := stepB hb2 hb3; clear hb3)
          | (go_at_call 34; ((with_reducible refine (HTa.out _ K3).mono ?_); rintro r w4 ⟨mb, rfl, hM, hb4⟩); have HM := Lib.hid hM; have K4 := Lib.hid (stepB K3 hb4); clear hb4 hM K3 hb2))
        go_loopw [11, 12, 13, 14] (fun i _ _ _ wr => ∃ k : Nat, k ≤ m + 1 ∧ i = .int .i64 k ∧ Hid (Below w4.heap.size w4 wr)) (fun i _ _ _ _ => m + 1 - (intOf i).toNat)
        case atStart => exact ⟨0, by omega, rfl, Below.refl _ _⟩
        case round =>
          obtain ⟨i, hi, rfl, hK⟩ := hrel
          by_cases hi2 : i = m + 1
          · subst hi2
            go_wp2
            go_ret
            exact ⟨rfl, stepB K4.out hK.out⟩
          · have hi1 : i ≤ m := by omega
            have hdi : decide ((i : Int) < (m : Int) + 1) = true := decide_eq_true (by omega)
            go_wp2
            obtain ⟨wq2, rfl⟩ : ∃ wq : World, wq = wr := ⟨_, rfl⟩
            go_loopw [12, 13, 14] (fun j _ _ wr => ∃ k : Nat, k ≤ m + 1 ∧ j = .int .i64 k ∧ Hid (Below w4.heap.size w4 wr)) (fun j _ _ _ => m + 1 - (intOf j).toNat)
            case atStart => exact ⟨0, by omega, rfl, hK⟩
            case round =>
              clear hK
              obtain ⟨j, hj, rfl, hK⟩ := hrel
              by_cases hj2 : j = m + 1
              · subst hj2
                go_wp2
                go_roundw
                case rel => exact ⟨i + 1, by omega, by go_num, hK⟩
                case measure => simp [intOf]; omega
              · have hj1 : j ≤ m := by omega
                have hdj : decide ((j : Int) < (m : Int) + 1) = true := decide_eq_true (by omega)
                have hMr := HM.out.below hK.out
                have mo := cell_of hMr.o (i := i) (by omega)
                have mr := cell_of (hMr.r i hi1) (i := j) (by omega)
                unfold rowV at mo
                unfold boolV at mr
                have mlt : mb < wr.heap.size := by have := hMr.lt; omega
                have mlr : mb + 1 + i < wr.heap.size := by have := hMr.lt; omega
                have HMr := Lib.hid hMr
                clear hMr
                by_cases hji : j < i
                · have hg : G i j = false := HLo.out i j hji
                  rw [hg] at mr
                  go_wp2
                  go_roundw
                  case rel => exact ⟨j + 1, by omega, by go_num, hK⟩
                  case measure => simp [intOf]; omega
                · have hij : i ≤ j := by omega
                  have hbb : (G i j != G i j) = false := by simp
                  have HK2 := Lib.hid (stepB K4.out hK.out)
                  cases B with
                  | none =>
                    have HZ : Hid (m = 0) := hBn rfl
                    clear hBn
                    go_wp2_with (go_at_call 35; ((with_reducible refine (HAc.out _ i j _ _ HK2.out hij hj1 (HB0.out _ i j (by have := HZ.out; omega))).mono ?_); rintro r w5 ⟨rfl, hb5⟩); have hMr5 := HMr.out.below hb5; have mo5 := cell_of hMr5.o (i := i) (by omega); have mr5 := cell_of (hMr5.r i (by omega)) (i := j) (by omega); unfold rowV at mo5; unfold boolV at mr5; have ml5 : mb < w5.heap.size := (by have := hMr5.lt; omega); have mk5 : mb + 1 + i < w5.heap.size := (by have := hMr5.lt; omega); have HK5 := Lib.hid (stepB hK.out hb5); clear hb5 hMr5)
                    all_goals
                      try (have ed : d = i := (by omega); subst ed)
                      go_roundw
                      case rel => exact ⟨j + 1, by omega, by go_num, HK5⟩
                      case measure => simp [intOf]; omega
                  | some ad =>
                    have HBa := Lib.hid (HBy.out ad rfl i j hij hj1)
                    go_wp2_with (go_at_call 35; ((with_reducible first | refine (HAc.out _ i j _ _ HK2.out hij hj1 HBa.out).mono ?_ | refine (HAc.out _ i j _ _ HK2.out hij hj1 (HB0.out _ i j (by omega))).mono ?_); rintro r w5 ⟨rfl, hb5⟩); have hMr5 := HMr.out.below hb5; have mo5 := cell_of hMr5.o (i := i) (by omega); have mr5 := cell_of (hMr5.r i (by omega)) (i := j) (by omega); unfold rowV at mo5; unfold boolV at mr5; have ml5 : mb < w5.heap.size := (by have := hMr5.lt; omega); have mk5 : mb + 1 + i < w5.heap.size := (by have := hMr5.lt; omega); have HK5 := Lib.hid (stepB hK.out hb5); clear hb5 hMr5)
                    all_goals
                      try (have ed : d = i := (by omega); subst ed)
                      go_roundw
                      case rel => exact ⟨j + 1, by omega, by go_num, HK5⟩
                      case measure => simp [intOf]; omega
    · have hw2 : wrongL v (flat t 0) word ≠ 0 := by rw [wrong_valid hV]; exact hW
      have HTa : Hid (∀ X, Below w.heap.size w X → Calls Try.prog 34 #[.slice A (flat t 0).length c, .int .i64 v, .slice B word.length d] X fun r w' => r = .returned (.tuple #[.slice none 0 0, .int .i64 (wordE v.toNat word)]) ∧ Below X.heap.size X w') := fun X hX => by
        have := Table_bad (A := A) (B := B) (c := c) (d := d) (v := v) (word := word) (w := X) (flat t 0) (hx.below hX) (by omega) (hB.below hX) (by omega) hw8 hw2
        rwa [wrong_valid hV] at this
      have h1 := int_ne hW
      clear hx hB hV hlen hw8 hW hv hd hm hl hl40 hm100 hw2 h6
      generalize (flat t 0).length = n at *
      generalize wordE v.toNat word = k at *
      generalize word.length = m at *
      generalize plainT t = b at *
      go_enter Try.func9, Try.ntmps9
      go_wp2_with (first
        | (go_at_call 29; ((with_reducible refine HL.out.mono ?_); rintro r w1 ⟨rfl, rfl⟩))
        | (go_at_call 30; ((with_reducible refine (HAw.out _).mono ?_); rintro r w2 ⟨rfl, hb2⟩))
        | (go_at_call 20; ((with_reducible refine (HPl.out _ hb2).mono ?_); rintro r w3 ⟨rfl, hb3⟩); have K3 := stepB hb2 hb3; clear hb3)
        | (go_at_call 34; ((with_reducible refine (HTa.out _ K3).mono ?_); rintro r w4 ⟨rfl, hb4⟩); have K4 := stepB K3 hb4; clear hb4))
      go_ret
      exact ⟨rfl, K4⟩
  · have hw2 : wrongL v l word ≠ 0 := by rw [wrong_bad hE]; exact hE
    have HPl := Lib.hid fun X (hX : Below w.heap.size w X) => Plain_bad A l c v X (hx.below hX) (by omega) hE
    have HTa : Hid (∀ X, Below w.heap.size w X → Calls Try.prog 34 #[.slice A l.length c, .int .i64 v, .slice B word.length d] X fun r w' => r = .returned (.tuple #[.slice none 0 0, .int .i64 (chkL v l)]) ∧ Below X.heap.size X w') := fun X hX => by
      have := Table_bad (A := A) (B := B) (c := c) (d := d) (v := v) (word := word) (w := X) l (hx.below hX) (by omega) (hB.below hX) (by omega) hw8 hw2
      rwa [wrong_bad hE] at this
    have h1 := int_ne hE
    have h0 : (chkL v l == 0) = false := by rw [beq_eq_false_iff_ne]; exact hE
    clear hx hB hw8 hv hd hm hl hl40 hm100 hw2 hE h6
    generalize chkL v l = k at *
    have h2 : (k == k) = true := beq_self_eq_true k
    generalize l.length = n at *
    generalize word.length = m at *
    go_enter Try.func9, Try.ntmps9
    go_wp2_with (first
        | (go_at_call 29; ((with_reducible refine HL.out.mono ?_); rintro r w1 ⟨rfl, rfl⟩))
        | (go_at_call 30; ((with_reducible refine (HAw.out _).mono ?_); rintro r w2 ⟨rfl, hb2⟩))
        | (go_at_call 20; ((with_reducible refine (HPl.out _ hb2).mono ?_); rintro r w3 ⟨rfl, hb3⟩); have K3 := stepB hb2 hb3; clear hb3)
        | (go_at_call 34; ((with_reducible refine (HTa.out _ K3).mono ?_); rintro r w4 ⟨rfl, hb4⟩); have K4 := stepB K3 hb4; clear hb4))
    go_ret
    exact ⟨rfl, K4⟩
end Go.Proofs.Ytbimfndkmolcdaa.Rx
