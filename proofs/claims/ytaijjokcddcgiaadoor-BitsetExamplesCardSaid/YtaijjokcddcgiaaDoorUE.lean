/- The walk of the closed law BitsetExamples. -/
import Derived.Test.YtaijjokcddcgiaaDoorLM
namespace Go.Proofs.YtaijjokcddcgiaaDoor
open Go Go.RowKit
set_option maxRecDepth 100000
/-- A set with words beyond the range: 130, and a number of word 64. -/
def far : List Nat := ((List.replicate 70 0).set 64 1).set 2 4
def topL : List Int := [4095, 4096, -1, -9223372036854775808, 9223372036854775807]
/-- The set of the greatest element. -/
def top : List Nat := ofL topL
theorem top_eq : ofL topL = top := by unfold top; rfl
theorem of_top (W : World) (n : Nat) (hn : n = W.heap.size) :
    Calls Tryd.prog 15 #[.slice (some ⟨n, 0, none⟩) 5 5] (W.alloc (.cells #[.int .i64 4095, .int .i64 4096, .int .i64 (-1), .int .i64 (-9223372036854775808), .int .i64 9223372036854775807] 3)) fun e w' =>
      ∃ A' c', e = .returned (.slice A' top.length c') ∧ Words w' A' top ∧ U64 top ∧ top.length ≤ c' ∧ Below W.heap.size W w' := by
  subst hn
  have h := of_lit topL top top_eq (by decide) W
  unfold topL at h
  simpa only [List.length_cons, List.length_nil, List.map_cons, List.map_nil, Nat.zero_add, Nat.reduceAdd] using h
theorem fx1 : els far = [130] := by decide +kernel
theorem fx2 : (canon far).length = 3 := by decide +kernel
theorem fx3 : top.length = 64 := by decide +kernel
theorem fx4 : wd top 63 = 9223372036854775808 := by decide +kernel
theorem fx5 : (els top).length = 1 := by decide +kernel
theorem fx6 : hasB far 4096 = false := by decide +kernel
theorem fx6' : hasB far (-1) = false := by decide +kernel
theorem fx7 : (canon (zipW (· ||| ·) [] (ofL [4096]))).length = 0 := by decide +kernel
theorem fx8 : eqB far (ofL [130]) = true := by decide +kernel
theorem fx9 : cmpS [] far = -1 := by decide +kernel
theorem fx10 : far.length = 70 := by decide +kernel
theorem u64_far : U64 far := by
  intro x hx
  unfold far at hx
  rcases List.mem_or_eq_of_mem_set hx with h | rfl
  · rcases List.mem_or_eq_of_mem_set h with h | rfl
    · rw [(List.mem_replicate.1 h).2]; decide
    · decide
  · decide
theorem uvs_zero (n : Nat) : uvs (List.replicate n 0) = List.replicate n (.int .u64 0) := by simp [uvs]
theorem make_far {w w1 w2 : World} (E : Env w w1 []) (hown : w2.ownsRow w1.heap.size 43 1 (.slice (some ⟨w1.heap.size, 0, none⟩) 70 70) 70 (madeCells (Value.int .u64 0).cells (70 * 1)).toList) (hg : w1.grownBy w2 none) :
    w2.cell? ⟨w1.heap.size, 64, none⟩ = some (.int .u64 0) ∧ w2.frozen? ⟨w1.heap.size, 64, none⟩ = false ∧
    (w2.setCell ⟨w1.heap.size, 64, none⟩ (.int .u64 1)).cell? ⟨w1.heap.size, 2, none⟩ = some (.int .u64 0) ∧ (w2.setCell ⟨w1.heap.size, 64, none⟩ (.int .u64 1)).frozen? ⟨w1.heap.size, 2, none⟩ = false ∧
    Env w ((w2.setCell ⟨w1.heap.size, 64, none⟩ (.int .u64 1)).setCell ⟨w1.heap.size, 2, none⟩ (.int .u64 4)) [(some ⟨w1.heap.size, 0, none⟩, 70, far), (none, 0, [])] := by
  have ho0 : w2.ownsRow w1.heap.size 43 1 (.slice (some ⟨w1.heap.size, 0, none⟩) 70 70) 70 (uvs (List.replicate 70 0)) := by
    rw [uvs_zero, ← toList_madeCells_one]
    exact hown
  have ho1 := (ho0.stored 64 (.int .u64 1)).1
  have ho2 := (ho1.stored 2 (.int .u64 4)).1
  have hb : Below w1.heap.size w1 ((w2.setCell ⟨w1.heap.size, 64, none⟩ (.int .u64 1)).setCell ⟨w1.heap.size, 2, none⟩ (.int .u64 4)) :=
    (((Below.refl _ _).grown hg (Nat.le_refl _) (by simp)).setCell (p := ⟨w1.heap.size, 64, none⟩) (Nat.le_refl _) _).setCell (p := ⟨w1.heap.size, 2, none⟩) (Nat.le_refl _) _
  have hu : ((uvs (List.replicate 70 0)).set 64 (.int .u64 1)).set 2 (.int .u64 4) = uvs far := by
    have e1 := uvs_set (List.replicate 70 0) 64 1
    have e2 := uvs_set ((List.replicate 70 0).set 64 1) 2 4
    rw [show (.int .u64 1 : Value) = .int .u64 ((1 : Nat) : Int) from rfl, show (.int .u64 4 : Value) = .int .u64 ((4 : Nat) : Int) from rfl, e1, e2]
    rfl
  rw [hu] at ho2
  have hw : Words ((w2.setCell ⟨w1.heap.size, 64, none⟩ (.int .u64 1)).setCell ⟨w1.heap.size, 2, none⟩ (.int .u64 4)) (some ⟨w1.heap.size, 0, none⟩) far := by
    unfold Words
    rw [fx10]
    exact Vals.of_own ho2 fun j hj => uvs_get far j (by rw [fx10]; exact hj)
  refine ⟨(ho0.cellAt 64 (by omega)).trans ?_, ho0.frozenAt 64, (ho1.cellAt 2 (by omega)).trans ?_, ho1.frozenAt 2, ((E.step hb).push (A := none) (c := 0) (xs := []) Vals.nil_ (fun x hx => by cases hx) (Nat.le_refl _)).push hw u64_far (by rw [fx10]; exact Nat.le_refl _)⟩
  · rw [uvs_zero]; rfl
  · rw [uvs_zero]; rfl
set_option maxHeartbeats 4000000 in
theorem bitsetExamples_walk (w : World) (hT : Tab w) :
    Calls Tryd.prog 5 #[] w fun e w' => e = .returned (.bool true) ∧ Below w.heap.size w w' := by
  obtain ⟨i0, hi, hz0, hz1, hz2⟩ := info_parts info_u64
  have E : Env w w [] := ⟨Below.refl _ _, hT, (fun q hq => by cases hq)⟩
  go_enter Tryd.func5, Tryd.ntmps5
  go_wp2_with (first
    | (go_at_call 12; refine (awake_env E).mono ?_; rintro e w1 ⟨rfl, E⟩)
    | (at_make; refine wpList_make_full w1 rfl _ _ _ rfl w1.heap.size 43 i0 _ 1 Tryd.underlying23 hi hz0 hz1 _ _ _ _ 70 rfl rfl rfl rfl (by rw [hz2]; omega) (by unfold maxLen; omega) (Nat.le_refl _) ?_; intro w2 hown hg; have HM := make_far E hown hg; obtain ⟨c64, f64, c2, f2, E4⟩ := HM; clear hown hg)
    | (go_at_call 15; fail))
  refine (of_top _ _ (by simp [World.setCell])).mono ?_
  rintro e w5 ⟨A5, c5, rfl, hw5, u5, l5, hb5⟩
  have E5 := (E4.step hb5).push hw5 u5 l5
  rw [fx3]
  clear E E4 c64 f64 c2 f2 hb5
  go_wp2_with fail
  have h1 := E5.2.2 (some ⟨w1.heap.size, 0, none⟩, 70, far) (by repeat (first | with_reducible exact List.mem_cons_self | apply List.mem_cons_of_mem))
  obtain ⟨a1, a2, a3⟩ := h1
  have hl := List_any (some ⟨w1.heap.size, 0, none⟩) far 70 _ a1 a2 a3 E5.2.1
  rw [fx10, fx1] at hl
  refine hl.mono ?_
  clear hl a1 a2 a3
  rintro e w6 ⟨v6, rfl, ho6, hb6⟩
  obtain ⟨A6, c6, rfl, hc6⟩ := own_form ho6
  have hi6 : Ints w6 A6 [130] := own_ints ho6 rfl
  have E6 := E5.step hb6
  have hc6' := hw5.below hb6
  clear E5 hw5 ho6
  go_wp2_with fail
  have hs6 := Ints_any A6 (some ⟨w6.heap.size, 0, none⟩) [130] [130] c6 1 _ (hi6.below (alloc_below w6 _)) (ints_new w6 3 [130]) (by decide) (by decide)
  rw [show cmpL [130] [130] = 0 by decide] at hs6
  refine hs6.mono ?_
  clear hs6 hi6
  rintro e w7 ⟨rfl, q7, hq7⟩
  have hb7 : Below w6.heap.size w6 w7 := by rw [hq7]; exact (alloc_below w6 _).trans ((drewN_below _ _).mono (by simp))
  have E7 := E6.step hb7
  have hc7' := hc6'.below hb7
  clear E6 hc6' hb7 hq7
  go_wp2_with fail
  have h7 := Canonical_env E7 (A := some ⟨w1.heap.size, 0, none⟩) (c := 70) (xs := far) (by repeat (first | with_reducible exact List.mem_cons_self | apply List.mem_cons_of_mem))
  rw [fx10, fx2] at h7
  refine h7.mono ?_
  clear h7
  rintro e w8 ⟨A8, c8, rfl, E8⟩
  have ht8 := (E8.2.2 (A5, c5, top) (by repeat (first | with_reducible exact List.mem_cons_self | apply List.mem_cons_of_mem))).1
  obtain ⟨ad5, e5, hc5⟩ := ht8.at_ (j := 63) (by rw [fx3]; decide)
  subst e5
  have hc5' : w8.cell? (ad5.add 63) = some (.int .u64 ((wd top 63 : Nat) : Int)) := hc5
  rw [fx4] at hc5'
  have hc6' : w8.cell? { block := ad5.block, off := ad5.off + 63 } = some (.int .u64 9223372036854775808) := hc5'
  clear ht8 E7 hc7' hc6 hc5 hc5'
  go_wp2_with fail
  have h9 := Len_env E8 (A := some ad5) (c := c5) (xs := top) (by repeat (first | with_reducible exact List.mem_cons_self | apply List.mem_cons_of_mem))
  rw [fx3, fx5] at h9
  refine h9.mono ?_
  clear h9
  rintro e w' ⟨rfl, rfl⟩
  clear hc6'
  go_wp2_with fail
  have h10 := Has_env E8 (A := some ⟨w1.heap.size, 0, none⟩) (c := 70) (xs := far) (by repeat (first | with_reducible exact List.mem_cons_self | apply List.mem_cons_of_mem)) 4096 (b := false) fx6
  rw [fx10] at h10
  refine h10.mono ?_
  clear h10
  rintro e w10 ⟨rfl, E10⟩
  clear E8
  go_wp2_with fail
  have h11 := Has_env E10 (A := some ⟨w1.heap.size, 0, none⟩) (c := 70) (xs := far) (by repeat (first | with_reducible exact List.mem_cons_self | apply List.mem_cons_of_mem)) (-1) (b := false) fx6'
  rw [fx10] at h11
  refine h11.mono ?_
  clear h11
  rintro e w11 ⟨rfl, E11⟩
  clear E10
  go_wp2_with fail
  have h12 := With_env E11 (A := none) (c := 0) (xs := []) (by repeat (first | with_reducible exact List.mem_cons_self | apply List.mem_cons_of_mem)) 4096
  rw [fx7] at h12
  refine h12.mono ?_
  clear h12
  rintro e w12 ⟨A12, c12, rfl, E12⟩
  clear E11
  go_wp2_with fail
  have h13 := Of_own none [] 0 w12 Vals.nil_ (by decide)
  refine h13.mono ?_
  clear h13
  rintro e w13 ⟨A13, c13, rfl, ho13, hb13⟩
  have E13 := E12.step hb13
  clear E12 ho13 hb13
  rw [show (ofL []).length = 0 from rfl]
  go_wp2_with fail
  refine (of_lit [130] (ofL [130]) rfl (by decide) w13).mono ?_
  rintro e w14 ⟨A14, c14, rfl, hw14, u14, l14, hb14⟩
  have E14 := (E13.step hb14).push hw14 u14 l14
  clear E13 hw14 u14 l14 hb14
  go_wp2_with fail
  have h15 := Equal_env E14 (A := some ⟨w1.heap.size, 0, none⟩) (c := 70) (xs := far) (by repeat (first | with_reducible exact List.mem_cons_self | apply List.mem_cons_of_mem)) (B := A14) (d := c14) (ys := ofL [130]) (by repeat (first | with_reducible exact List.mem_cons_self | apply List.mem_cons_of_mem)) (b := true) fx8
  rw [fx10] at h15
  refine h15.mono ?_
  clear h15
  rintro e w' ⟨rfl, rfl⟩
  go_wp2_with fail
  have h16 := Compare_env E14 (A := none) (c := 0) (xs := []) (by repeat (first | with_reducible exact List.mem_cons_self | apply List.mem_cons_of_mem)) (B := some ⟨w1.heap.size, 0, none⟩) (d := 70) (ys := far) (by repeat (first | with_reducible exact List.mem_cons_self | apply List.mem_cons_of_mem))
  rw [fx10, fx9] at h16
  refine h16.mono ?_
  clear h16
  rintro e w16 ⟨rfl, E16⟩
  clear E14
  go_wp2
  go_ret
  exact ⟨rfl, E16.1⟩
end Go.Proofs.YtaijjokcddcgiaaDoor
