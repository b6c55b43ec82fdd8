/- The reference's Has and List; Own. -/
import Derived.Test.YtnjagdocgmbmiaaDoorLM
namespace Go.Proofs.YtnjagdocgmbmiaaDoor
open Go Go.RowKit
set_option maxRecDepth 100000
set_option linter.unusedVariables false
set_option maxHeartbeats 400000 in
theorem refHas_any (A : Option Addr) (l : List Int) (c : Nat) (k : Int) (w : World) (hx : Ints w A l) (hl : l.length ≤ maxLen) :
    Calls Tryd.prog 26 #[.slice A l.length c, .int .i64 k] w fun e w' => e = .returned (.bool (decide (k ∈ l))) ∧ w = w' := by
  unfold maxLen at hl
  go_enter Tryd.func26, Tryd.ntmps26
  go_wp2
  go_loop [5] (fun i => ∃ j : Nat, j ≤ l.length ∧ i = .int .i64 j ∧ Hid (k ∉ l.take j)) (fun i => l.length - (intOf i).toNat)
  case atStart => exact ⟨0, by omega, rfl, (show k ∉ List.take 0 l from by simp)⟩
  case round =>
    obtain ⟨j, hj, rfl, H⟩ := hrel
    by_cases hlt : j < l.length
    · obtain ⟨ad, rfl, hcell⟩ := hx.at_ hlt
      have htf := take_found (k := k) hlt
      rw [decide_eq_false H.out, Bool.false_or] at htf
      have hmem := nd_mem hlt
      generalize nd l j = z at *
      by_cases hz : z = k
      · have HV : Hid (decide (k ∈ l) = true) := by show _ = _; rw [← hz]; exact decide_eq_true hmem
        have hb : (z == k) = true := beq_iff_eq.2 hz
        clear hz htf hmem H
        go_wp2
        go_ret
        exact ⟨ret_bool HV.out.symm, rfl⟩
      · have HV : Hid (k ∉ l.take (j + 1)) := by
          have := htf.trans (decide_eq_false hz)
          exact of_decide_eq_false this
        have hb : (z == k) = false := beq_eq_false_iff_ne.2 hz
        clear hz htf hmem H
        go_wp2
        go_round
        case rel => exact ⟨j + 1, by omega, by go_num, HV⟩
        case measure => simp [intOf]; omega
    · obtain rfl : j = l.length := by omega
      have HV : Hid (decide (k ∈ l) = false) := by
        show _ = _
        have := H.out
        rw [List.take_length] at this
        exact decide_eq_false this
      clear H
      go_wp2
      go_ret
      exact ⟨ret_bool HV.out.symm, rfl⟩
theorem Own_any (A : Option Addr) (xs : List Nat) (c : Nat) (w : World) (hx : Words w A xs) (ux : U64 xs) (hl : xs.length ≤ 80) :
    Calls Tryd.prog 13 #[.slice A xs.length c] w fun e w' =>
      ∃ A' c', e = .returned (.slice A' xs.length c') ∧ OwnW w.heap.size w' A' c' xs ∧ Below w.heap.size w w' := by
  obtain ⟨i0, hi, hz0, hz1, hz2⟩ := info_parts info_u64
  obtain ⟨n, hn⟩ : ∃ n, n = xs.length := ⟨_, rfl⟩
  have hv : Vals w A n (fun j => .int .u64 (wd xs j : Nat)) := by rw [hn]; exact hx
  rw [← hn] at hl ⊢
  have HN := Lib.hid hn
  clear hn hx
  go_enter Tryd.func13, Tryd.ntmps13
  go_wp2_with (at_builtin; refine wpList_copy rfl _ _ _ rfl 43 i0 (.int .u64 0) 8 Tryd.underlying23 hi hz0 hz1 hz2 rfl rfl A _ c _ rfl hv (fun _ _ => rfl) (by unfold maxLen; omega) (by omega) ?_; intro A8 c8 w8 ho8 hc8 hb8)
  go_ret
  refine ⟨A8, c8, rfl, ⟨?_, ux, by rw [← HN.out]; exact hc8⟩, hb8⟩
  rw [← HN.out]
  have e : uvs xs = (List.range n).map fun j => .int .u64 (wd xs j : Nat) := by
    apply List.ext_getElem
    · simp [uvs, HN.out]
    · intro j h1 h2
      simp only [uvs_len] at h1
      simp [uvs, wd, h1]
  rw [e]
  exact ho8
theorem bit_test (x t : Nat) : ((((x : Int) / 2 ^ t).tmod 2) == 1) = x.testBit t := by
  have e : ((x : Int) / 2 ^ t) = ((x / 2 ^ t : Nat) : Int) := by
    rw [Int.natCast_ediv]
    congr 1
  have e2 : (((x / 2 ^ t : Nat) : Int).tmod 2) = ((x / 2 ^ t % 2 : Nat) : Int) := rfl
  rw [e, e2, Nat.testBit_eq_decide_div_mod_eq, Bool.eq_iff_iff, beq_iff_eq, decide_eq_true_iff]
  omega
theorem ivs_app (l m : List Nat) : ivs (l ++ m) = ivs l ++ ivs m := by simp [ivs]
set_option maxHeartbeats 1000000 in
theorem refList_any (A : Option Addr) (xs : List Nat) (c : Nat) (w : World) (hx : Words w A xs) (ux : U64 xs) (hl : xs.length ≤ 80) :
    Calls Tryd.prog 14 #[.slice A xs.length c] w fun e w' =>
      ∃ v, e = .returned v ∧ w'.ownsRow w.heap.size 3 1 v (els xs).length (ivs (els xs)) ∧ Below w.heap.size w w' := by
  obtain ⟨i0, hi, hz0, hz1, hz2⟩ := info_parts info_int
  go_enter Tryd.func14, Tryd.ntmps14
  go_wp2
  go_loopw [3, 4] (fun v i wr => ∃ j n : Nat, j ≤ xs.length ∧ j ≤ 64 ∧ i = .int .i64 j ∧ Hid (n = (elsTo xs (64 * j)).length) ∧ wr.ownsRow w.heap.size 3 1 v n (ivs (elsTo xs (64 * j))) ∧ Below w.heap.size w wr) (fun _ i _ => xs.length - (intOf i).toNat)
  case atStart => exact ⟨0, 0, by omega, by omega, rfl, rfl, ⟨rfl, .inl ⟨rfl, rfl⟩⟩, Below.refl _ _⟩
  case round =>
    obtain ⟨j, n, hj, hj64, rfl, HN, ho, hb⟩ := hrel
    obtain ⟨vA, vc, rfl, hvc⟩ := own_form ho
    by_cases hlt : j < xs.length
    · by_cases h64 : j < 64
      · have hd : decide ((j : Int) < 64) = true := decide_eq_true (by omega)
        go_wp2
        clear hd
        obtain ⟨wo, rfl⟩ : ∃ wo : World, wo = wr := ⟨_, rfl⟩
        go_loopw [3, 5] (fun v k wr => ∃ t m : Nat, t ≤ 64 ∧ k = .int .i64 t ∧ Hid (m = (elsTo xs (64 * j + t)).length) ∧ wr.ownsRow w.heap.size 3 1 v m (ivs (elsTo xs (64 * j + t))) ∧ Below w.heap.size w wr) (fun _ k _ => 64 - (intOf k).toNat)
        case atStart => exact ⟨0, n, by omega, rfl, HN, ho, hb⟩
        case round =>
          clear ho hb HN hvc
          obtain ⟨t, m, ht, rfl, HM, ho, hb⟩ := hrel
          obtain ⟨vA, vc, rfl, hvc⟩ := own_form ho
          by_cases ht64 : t < 64
          · obtain ⟨ad, rfl, hcell⟩ := (hx.below hb).at_ hlt
            have hm : m ≤ 4096 := by
              have := elsTo_len xs (64 * j + t)
              rw [← HM.out] at this
              omega
            have hbt := bit_test (wd xs j) t
            have hma := mem_at xs j t ht64
            generalize wd xs j = x at *
            cases hbit : x.testBit t with
            | true =>
              rw [hbit] at hbt hma
              have HE := Lib.hid (elsTo_succ hma)
              clear hbit hma
              have HM2 : Hid (m + 1 = (elsTo xs (64 * j + (t + 1))).length) := by
                show _ = _
                rw [← Nat.add_assoc, HE.out, List.length_append, ← HM.out]
                rfl
              go_wp2_with (at_builtin; refine wpList_append_own _ rfl _ _ 24 rfl w.heap.size 3 i0 (.int .i64 0) 1 8 Tryd.underlying24 hi hz0 hz1 hz2 rfl (by decide) _ _ _ rfl (ho.alloc _) ⟨wr.heap.size, 0, none⟩ 1 1 [.int .i64 (64 * (j : Int) + (t : Int))] rfl rfl (cell_one_new _ _ _) (by simp [Value.oneCell']) (by unfold maxLen; omega) (by omega) (by have := hb.size; simp; omega) ?_; intro v' w2 hown' hgrow _)
              have hb3 : Below w.heap.size w w2 := (hb.alloc hb.size _).grown hgrow (by have := hb.size; simp; omega) (fun q hq => (ho.lt q hq).1)
              obtain ⟨g', cap', rfl⟩ := ownsRow_succ hown'
              have hown2 : w2.ownsRow w.heap.size 3 1 (.slice (some ⟨g', 0, none⟩) (m + 1) cap') (m + 1) (ivs (elsTo xs (64 * j + (t + 1)))) := by
                rw [← Nat.add_assoc, HE.out, ivs_app]
                exact hown'
              go_roundw
              case rel => exact ⟨t + 1, m + 1, by omega, by go_num, HM2, hown2, hb3⟩
              case measure => simp [intOf]; omega
            | false =>
              rw [hbit] at hbt hma
              have HE := Lib.hid (elsTo_same hma)
              clear hbit hma
              go_wp2
              go_roundw
              case rel => exact ⟨t + 1, m, by omega, by go_num, by show _ = _; rw [← Nat.add_assoc, HE.out]; exact HM.out, by rw [← Nat.add_assoc, HE.out]; exact ho, hb⟩
              case measure => simp [intOf]; omega
          · obtain rfl : t = 64 := by omega
            go_wp2
            go_roundw
            case rel => exact ⟨j + 1, m, by omega, by omega, by go_num, HM, ho, hb⟩
            case measure => simp [intOf]; omega
      · have HF : Hid (elsTo xs (64 * j) = els xs) := by
          show _ = elsTo xs 4096
          rw [show 64 * j = 4096 by omega]
        go_wp2
        go_ret
        refine ⟨_, rfl, ?_, hb⟩
        rw [← HF.out, ← HN.out]
        exact ho
    · obtain rfl : j = xs.length := by omega
      have HF : Hid (elsTo xs (64 * xs.length) = els xs) := by
        show _ = elsTo xs 4096
        symm
        refine elsTo_skip (by omega) fun k h1 h2 => ?_
        unfold mem
        rw [wd_out (by omega), Nat.zero_testBit]
      go_wp2
      go_ret
      refine ⟨_, rfl, ?_, hb⟩
      rw [← HF.out, ← HN.out]
      exact ho
end Go.Proofs.YtnjagdocgmbmiaaDoor
