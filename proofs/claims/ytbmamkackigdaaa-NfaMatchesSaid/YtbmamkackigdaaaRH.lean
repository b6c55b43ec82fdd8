/- The reference's Has and List; Own. -/
import Derived.Test.YtbmamkackigdaaaLM
namespace Go.Proofs.Ytbmamkackigdaaa
open Go Go.RowKit
set_option maxRecDepth 100000
set_option linter.unusedVariables false
theorem bit_test (x t : Nat) : ((((x : Int) / 2 ^ t).tmod 2) == 1) = x.testBit t := by
  have e : ((x : Int) / 2 ^ t) = ((x / 2 ^ t : Nat) : Int) := by
    rw [Int.natCast_ediv]
    congr 1
  have e2 : (((x / 2 ^ t : Nat) : Int).tmod 2) = ((x / 2 ^ t % 2 : Nat) : Int) := rfl
  rw [e, e2, Nat.testBit_eq_decide_div_mod_eq, Bool.eq_iff_iff, beq_iff_eq, decide_eq_true_iff]
  omega
theorem ivs_app (l m : List Nat) : ivs (l ++ m) = ivs l ++ ivs m := by simp [ivs]
set_option maxHeartbeats 1000000 in
theorem refList_any (A : Option Addr) (xs : List Nat) (c : Nat) (w : World) (hx : Words w A xs) (ux : U64 xs) (hl : xs.length ≤ 80) :
    Calls Try.prog 16 #[.slice A xs.length c] w fun e w' =>
      ∃ v, e = .returned v ∧ w'.ownsRow w.heap.size 3 1 v (els xs).length (ivs (els xs)) ∧ Below w.heap.size w w' := by
  obtain ⟨i0, hi, hz0, hz1, hz2⟩ := info_parts info_int
  go_enter Try.func16, Try.ntmps16
  go_wp2
  go_loopw [3, 4] (fun v i wr => ∃ j n : Nat, j ≤ xs.length ∧ j ≤ 64 ∧ i = .int .i64 j ∧ Hid (n = (elsTo xs (64 * j)).length) ∧ wr.ownsRow w.heap.size 3 1 v n (ivs (elsTo xs (64 * j))) ∧ Below w.heap.size w wr) (fun _ i _ => xs.length - (intOf i).toNat)
  case atStart => exact ⟨0, 0, by omega, by omega, rfl, rfl, ⟨rfl, .inl ⟨rfl, rfl⟩⟩, Below.refl _ _⟩
  case round =>
    obtain ⟨j, n, hj, hj64, rfl, HN, ho, hb⟩ := hrel
    obtain ⟨vA, vc, rfl, hvc⟩ := own_form ho
    by_cases hlt : j < xs.length
    · by_cases h64 : j < 64
      · have hd : decide ((j : Int) < 64) = true := decide_eq_true (by omega)
        go_wp2
        clear hd
        obtain ⟨wo, rfl⟩ : ∃ wo : World, wo = wr := ⟨_, rfl⟩
        go_loopw [3, 5] (fun v k wr => ∃ t m : Nat, t ≤ 64 ∧ k = .int .i64 t ∧ Hid (m = (elsTo xs (64 * j + t)).length) ∧ wr.ownsRow w.heap.size 3 1 v m (ivs (elsTo xs (64 * j + t))) ∧ Below w.heap.size w wr) (fun _ k _ => 64 - (intOf k).toNat)
        case atStart => exact ⟨0, n, by omega, rfl, HN, ho, hb⟩
        case round =>
          clear ho hb HN hvc
          obtain ⟨t, m, ht, rfl, HM, ho, hb⟩ := hrel
          obtain ⟨vA, vc, rfl, hvc⟩ := own_form ho
          by_cases ht64 : t < 64
          · obtain ⟨ad, rfl, hcell⟩ := (hx.below hb).at_ hlt
            have hm : m ≤ 4096 := by
              have := elsTo_len xs (64 * j + t)
              rw [← HM.out] at this
              omega
            have hbt := bit_test (wd xs j) t
            have hma := mem_at xs j t ht64
            generalize wd xs j = x at *
            cases hbit : x.testBit t with
            | true =>
              rw [hbit] at hbt hma
              have HE := Lib.hid (elsTo_succ hma)
              clear hbit hma
              have HM2 : Hid (m + 1 = (elsTo xs (64 * j + (t + 1))).length) := by
                show _ = _
                rw [← Nat.add_assoc, HE.out, List.length_append, ← HM.out]
                rfl
              go_wp2_with (at_builtin; refine wpList_append_own _ rfl _ _ 22 rfl w.heap.size 3 i0 (.int .i64 0) 1 8 Try.underlying22 hi hz0 hz1 hz2 rfl (by decide) _ _ _ rfl (ho.alloc _) ⟨wr.heap.size, 0, none⟩ 1 1 [.int .i64 (64 * (j : Int) + (t : Int))] rfl rfl (cell_one_new _ _ _) (by simp [Value.oneCell']) (by unfold maxLen; omega) (by omega) (by have := hb.size; simp; omega) ?_; intro v' w2 hown' hgrow _)
              have hb3 : Below w.heap.size w w2 := (hb.alloc hb.size _).grown hgrow (by have := hb.size; simp; omega) (fun q hq => (ho.lt q hq).1)
              obtain ⟨g', cap', rfl⟩ := ownsRow_succ hown'
              have hown2 : w2.ownsRow w.heap.size 3 1 (.slice (some ⟨g', 0, none⟩) (m + 1) cap') (m + 1) (ivs (elsTo xs (64 * j + (t + 1)))) := by
                rw [← Nat.add_assoc, HE.out, ivs_app]
                exact hown'
              go_roundw
              case rel => exact ⟨t + 1, m + 1, by omega, by go_num, HM2, hown2, hb3⟩
              case measure => simp [intOf]; omega
            | false =>
              rw [hbit] at hbt hma
              have HE := Lib.hid (elsTo_same hma)
              clear hbit hma
              go_wp2
              go_roundw
              case rel => exact ⟨t + 1, m, by omega, by go_num, by show _ = _; rw [← Nat.add_assoc, HE.out]; exact HM.out, by rw [← Nat.add_assoc, HE.out]; exact ho, hb⟩
              case measure => simp [intOf]; omega
          · obtain rfl : t = 64 := by omega
            go_wp2
            go_roundw
            case rel => exact ⟨j + 1, m, by omega, by omega, by go_num, HM, ho, hb⟩
            case measure => simp [intOf]; omega
      · have HF : Hid (elsTo xs (64 * j) = els xs) := by
          show _ = elsTo xs 4096
          rw [show 64 * j = 4096 by omega]
        go_wp2
        go_ret
        refine ⟨_, rfl, ?_, hb⟩
        rw [← HF.out, ← HN.out]
        exact ho
    · obtain rfl : j = xs.length := by omega
      have HF : Hid (elsTo xs (64 * xs.length) = els xs) := by
        show _ = elsTo xs 4096
        symm
        refine elsTo_skip (by omega) fun k h1 h2 => ?_
        unfold mem
        rw [wd_out (by omega), Nat.zero_testBit]
      go_wp2
      go_ret
      refine ⟨_, rfl, ?_, hb⟩
      rw [← HF.out, ← HN.out]
      exact ho
end Go.Proofs.Ytbmamkackigdaaa
