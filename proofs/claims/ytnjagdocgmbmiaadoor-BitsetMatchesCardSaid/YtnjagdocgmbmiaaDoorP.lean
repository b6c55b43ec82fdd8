/- The chapter's examples hold: awake. -/
import Derived.Test.YtnjagdocgmbmiaaDoorM
namespace Go.Proofs.YtnjagdocgmbmiaaDoor
open Go Go.RowKit
set_option maxRecDepth 100000
theorem ex1 : ofL [70, 3, 3, -1] = [8, 64] := by decide +kernel
theorem ex2 : els [8, 64] = [3, 70] := by decide +kernel
theorem ex3 : ofL [70] = [0, 64] := by decide +kernel
theorem ex4 : canon (zipW andNot [8, 64] [0, 64]) = [8] := by decide +kernel
theorem ex5 : cmpS (ofL [1, 5]) (ofL [1]) = 1 := by decide +kernel
theorem ex6 : cmpS (ofL [0, 9]) (ofL [1]) = -1 := by decide +kernel
theorem of_lit (l : List Int) (rs : List Nat) (h : ofL l = rs) (hl : l.length ≤ 100) (W : World) :
    Calls Tryd.prog 15 #[.slice (some ⟨W.heap.size, 0, none⟩) l.length l.length] (W.alloc (.cells (l.map (Value.int .i64)).toArray 3)) fun e w' =>
      ∃ A' c', e = .returned (.slice A' rs.length c') ∧ Words w' A' rs ∧ U64 rs ∧ rs.length ≤ c' ∧ Below W.heap.size W w' := by
  subst h
  refine (Of_own _ l _ _ (ints_new W _ l) (by unfold maxLen; omega)).mono ?_
  rintro e w' ⟨A', c', he, ho, hb⟩
  exact ⟨A', c', he, ho.words, ho.2.1, ho.2.2, ((Below.refl _ W).alloc (Nat.le_refl _) _).trans (hb.mono (by simp))⟩
theorem drewN_below (w : World) (n : Nat) : Below w.heap.size w (w.drewN n) := below_drewN_k (Below.refl _ _) n
theorem alloc_below (w : World) (o : Obj) : Below w.heap.size w (w.alloc o) := (Below.refl _ w).alloc (Nat.le_refl _) _
set_option maxHeartbeats 2000000 in
theorem awake_any (w : World) (hT : Tab w) :
    Calls Tryd.prog 12 #[] w fun e w' => e = .returned (.bool true) ∧ Below w.heap.size w w' := by
  go_enter Tryd.func12, Tryd.ntmps12
  go_wp2_with fail
  refine (of_lit [70, 3, 3, -1] [8, 64] ex1 (by decide) w).mono ?_
  rintro e w1 ⟨A1, c1, rfl, hw1, u1, l1, hb1⟩
  have hT1 := hT.below hb1
  go_wp2_with fail
  refine (Min_any A1 [8, 64] c1 _ hw1 u1 l1 hT1).mono ?_
  rw [ex2]
  rintro e w2 ⟨rfl, hb2⟩
  have hw2 := hw1.below hb2
  have hT2 := hT1.below hb2
  have hb2' := stepB hb1 hb2
  clear hb2 hw1 hT1 hb1
  go_wp2_with fail
  have hs2 := Same_any A1 (some ⟨w2.heap.size, 0, none⟩) [8, 64] [8, 64] c1 2 _ (hw2.below (alloc_below w2 _)) (words_new w2 43 [8, 64]) (by decide)
  rw [decide_eq_true rfl] at hs2
  refine hs2.mono ?_
  clear hs2
  rintro e w3 ⟨rfl, q, hq⟩
  have hb3 : Below w2.heap.size w2 w3 := by rw [hq]; exact (alloc_below w2 _).trans ((drewN_below _ _).mono (by simp))
  clear hq
  have hw3 := hw2.below hb3
  have hT3 := hT2.below hb3
  have hb3' := stepB hb2' hb3
  clear hb3 hw2 hT2 hb2'
  go_wp2_with fail
  refine (List_any A1 [8, 64] c1 _ hw3 u1 l1 hT3).mono ?_
  rw [ex2]
  rintro e w4 ⟨v4, rfl, ho4, hb4⟩
  obtain ⟨A4, c4, rfl, hc4⟩ := own_form ho4
  have hi4 : Ints w4 A4 [3, 70] := own_ints ho4 rfl
  have hw4 := hw3.below hb4
  have hT4 := hT3.below hb4
  have hb4' := stepB hb3' hb4
  clear hb4 hw3 hT3 hb3' ho4
  go_wp2_with fail
  have hs4 := Ints_any A4 (some ⟨w4.heap.size, 0, none⟩) [3, 70] [3, 70] c4 2 _ (hi4.below (alloc_below w4 _)) (ints_new w4 3 [3, 70]) (by decide) (by decide)
  rw [show cmpL [3, 70] [3, 70] = 0 by decide] at hs4
  refine hs4.mono ?_
  clear hs4
  rintro e w5 ⟨rfl, q, hq⟩
  have hb5 : Below w4.heap.size w4 w5 := by rw [hq]; exact (alloc_below w4 _).trans ((drewN_below _ _).mono (by simp))
  clear hq
  have hw5 := hw4.below hb5
  have hT5 := hT4.below hb5
  have hb5' := stepB hb4' hb5
  clear hb5 hw4 hT4 hb4' hi4
  go_wp2_with fail
  refine (Len_any A1 [8, 64] c1 _ hw5 u1 l1).mono ?_
  rw [ex2]
  rintro e w' ⟨rfl, rfl⟩
  go_wp2_with fail
  refine (of_lit [70] [0, 64] ex3 (by decide) w5).mono ?_
  rintro e w6 ⟨A6, c6, rfl, hv6, u6, l6, hb6⟩
  have hw6 := hw5.below hb6
  have hT6 := hT5.below hb6
  have hb6' := stepB hb5' hb6
  clear hb6 hw5 hT5 hb5'
  go_wp2_with fail
  refine (Minus_any A1 A6 [8, 64] [0, 64] c1 c6 _ hw6 u1 l1 hv6 u6 l6).mono ?_
  rw [ex4]
  rintro e w7 ⟨A7, c7, rfl, ho7, hb7⟩
  have hw7 := ho7.words
  have hT7 := hT6.below hb7
  have hb7' := stepB hb6' hb7
  clear hb7 hw6 hT6 hb6' ho7
  go_wp2_with fail
  have hs7 := Same_any A7 (some ⟨w7.heap.size, 0, none⟩) [8] [8] c7 1 _ (hw7.below (alloc_below w7 _)) (words_new w7 43 [8]) (by decide)
  rw [decide_eq_true rfl] at hs7
  refine hs7.mono ?_
  clear hs7
  rintro e w8 ⟨rfl, q, hq⟩
  have hb8 : Below w7.heap.size w7 w8 := by rw [hq]; exact (alloc_below w7 _).trans ((drewN_below _ _).mono (by simp))
  clear hq
  have hT8 := hT7.below hb8
  have hb8' := stepB hb7' hb8
  clear hb8 hw7 hT7 hb7'
  go_wp2_with fail
  refine (of_lit [1, 5] _ rfl (by decide) w8).mono ?_
  rintro e w9 ⟨A9, c9, rfl, hw9, u9, l9, hb9⟩
  have hT9 := hT8.below hb9
  have hb9' := stepB hb8' hb9
  clear hb9 hT8 hb8'
  go_wp2_with fail
  refine (of_lit [1] _ rfl (by decide) w9).mono ?_
  rintro e w10 ⟨A10, c10, rfl, hv10, u10, l10, hb10⟩
  have hw10 := hw9.below hb10
  have hT10 := hT9.below hb10
  have hb10' := stepB hb9' hb10
  clear hb10 hT9 hb9' hw9
  go_wp2_with fail
  refine (Compare_any A9 A10 (ofL [1, 5]) (ofL [1]) c9 c10 _ hw10 u9 l9 hv10 u10 l10 hT10).mono ?_
  rw [ex5]
  rintro e w11 ⟨rfl, hb11⟩
  have hT11 := hT10.below hb11
  have hb11' := stepB hb10' hb11
  clear hb11 hT10 hb10' hw10 hv10 u9 l9 u10 l10
  go_wp2_with fail
  refine (of_lit [0, 9] _ rfl (by decide) w11).mono ?_
  rintro e w12 ⟨A12, c12, rfl, hw12, u12, l12, hb12⟩
  have hT12 := hT11.below hb12
  have hb12' := stepB hb11' hb12
  clear hb12 hT11 hb11'
  go_wp2_with fail
  refine (of_lit [1] _ rfl (by decide) w12).mono ?_
  rintro e w13 ⟨A13, c13, rfl, hv13, u13, l13, hb13⟩
  have hw13 := hw12.below hb13
  have hT13 := hT12.below hb13
  have hb13' := stepB hb12' hb13
  clear hb13 hT12 hb12' hw12
  go_wp2_with fail
  refine (Compare_any A12 A13 (ofL [0, 9]) (ofL [1]) c12 c13 _ hw13 u12 l12 hv13 u13 l13 hT13).mono ?_
  rw [ex6]
  rintro e w14 ⟨rfl, hb14⟩
  have hb14' := stepB hb13' hb14
  clear hb14 hT13 hb13' hw13 hv13 u12 l12 u13 l13
  go_wp2
  go_ret
  exact ⟨rfl, hb14'⟩
end Go.Proofs.YtnjagdocgmbmiaaDoor
