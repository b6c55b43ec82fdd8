/- The reference's Of. -/
import Derived.Test.YtbmamkackigdaaaRH
namespace Go.Proofs.Ytbmamkackigdaaa
open Go Go.RowKit
set_option maxRecDepth 100000
set_option linter.unusedVariables false
theorem wrap_bit (m : Nat) : IntKind.u64.wrap (2 ^ (m % 64)) = ((2 ^ (m % 64) : Nat) : Int) := by
  have h : (2 : Int) ^ (m % 64) < 2 ^ 64 := by
    have : (2 : Nat) ^ (m % 64) < 2 ^ 64 := Nat.pow_lt_pow_right (by omega) (by omega)
    exact_mod_cast this
  have h0 : (0 : Int) ≤ 2 ^ (m % 64) := by
    have : (0 : Nat) ≤ 2 ^ (m % 64) := Nat.zero_le _
    exact_mod_cast this
  rw [IntKind.wrap_u64, Int.emod_eq_of_lt h0 (by omega)]
  exact_mod_cast rfl
set_option maxHeartbeats 1000000 in
theorem refOf_any (A : Option Addr) (l : List Int) (c : Nat) (w : World) (hx : Ints w A l) (hl : l.length ≤ maxLen) :
    Calls Try.prog 53 #[.slice A l.length c] w fun e w' =>
      ∃ v, e = .returned v ∧ w'.ownsRow w.heap.size 66 1 v (ofL l).length (uvs (ofL l)) ∧ Below w.heap.size w w' := by
  unfold maxLen at hl
  obtain ⟨i0, hi, hz0, hz1, hz2⟩ := info_parts info_u64
  go_enter Try.func53, Try.ntmps53
  go_wp2
  go_loopw [3, 4] (fun s i wr => ∃ (k : Nat) (ys : List Nat), k ≤ l.length ∧ i = .int .i64 k ∧ Hid (ys = ofTo l k) ∧ wr.ownsRow w.heap.size 66 1 s ys.length (uvs ys) ∧ Below w.heap.size w wr) (fun _ i _ => l.length - (intOf i).toNat)
  case atStart => exact ⟨0, [], by omega, rfl, rfl, ⟨rfl, .inl ⟨rfl, rfl⟩⟩, Below.refl _ _⟩
  case round =>
    obtain ⟨k, ys, hk, rfl, HY, ho, hb⟩ := hrel
    have hys : U64 ys ∧ ys.length ≤ 64 := by rw [HY.out]; exact ofTo_ok l k
    obtain ⟨uy, ly⟩ := hys
    obtain ⟨sA, sc, rfl, hsc⟩ := own_form ho
    by_cases hlt : k < l.length
    · obtain ⟨ad, rfl, hcell⟩ := (hx.below hb).at_ hlt
      have HS : Hid (ofTo l (k + 1) = addI ys (nd l k)) := by
        show addI (ofTo l k) (nd l k) = _
        rw [HY.out]
      generalize nd l k = z at *
      clear HY
      by_cases hz : 0 ≤ z ∧ z ≤ 4095
      · have HS' : Hid (ofTo l (k + 1) = setBit ys z.toNat) := by
          show _ = _
          rw [HS.out, addI, if_pos hz]
        clear HS
        obtain ⟨z0, z1⟩ := hz
        obtain ⟨m, rfl⟩ := Int.eq_ofNat_of_zero_le z0
        rw [Int.toNat_natCast] at HS'
        have hm : m ≤ 4095 := by omega
        have hd1 : decide ((m : Int) < 0) = false := decide_eq_false (by omega)
        have hd2 : decide ((4095 : Int) < (m : Int)) = false := decide_eq_false (by omega)
        clear z0 z1
        have hbit : 2 ^ (m % 64) < 2 ^ 64 := Nat.pow_lt_pow_right (by omega) (by omega)
        have HSB : Hid (setBit ys m = (grow ys (m / 64 + 1)).set (m / 64) (wd ys (m / 64) ||| 2 ^ (m % 64))) := rfl
        go_wp2
        clear hd1 hd2
        have ho1 := ho
        have hb1 := hb
        have lz : ys.length ≤ 64 := ly
        clear ho hb hcell
        obtain ⟨wo, rfl⟩ : ∃ wo : World, wo = wr := ⟨_, rfl⟩
        go_loopw [3] (fun s wr2 => ∃ n t : Nat, Hid (n = ys.length + t) ∧ t ≤ (m / 64) + 1 - ys.length ∧ n ≤ 64 ∧ wr2.ownsRow w.heap.size 66 1 s n (uvs (ys ++ List.replicate t 0)) ∧ Below w.heap.size w wr2) (fun s _ => 65 - sliceLen s)
        case atStart => exact ⟨ys.length, 0, rfl, by omega, by omega, by simpa using ho1, hb1⟩
        case round =>
          clear ho1 hb1
          obtain ⟨n, t, HN, ht, hn, ho2, hb2⟩ := hrel
          obtain ⟨sA2, sc2, rfl, hsc2⟩ := own_form ho2
          by_cases hle : n ≤ (m / 64)
          · have ht2 : t + 1 ≤ (m / 64) + 1 - ys.length := by have := HN.out; omega
            have HN2 : Hid (n + 1 = ys.length + (t + 1)) := by have := HN.out; show _ = _; omega
            go_wp2_with (at_builtin; refine wpList_append_own _ rfl _ _ 27 rfl w.heap.size 66 i0 (.int .u64 0) 1 8 Try.underlying27 hi hz0 hz1 hz2 rfl (by decide) _ _ _ rfl (ho2.alloc _) ⟨wr.heap.size, 0, none⟩ 1 1 [.int .u64 0] rfl rfl (cell_one_new _ _ _) (by simp [Value.oneCell']) (by unfold maxLen; omega) (by omega) (by have := hb2.size; simp; omega) ?_; intro v' w2 hown' hgrow _)
            rw [uvs_grow] at hown'
            have hb3 : Below w.heap.size w w2 := (hb2.alloc hb2.size _).grown hgrow (by have := hb2.size; simp; omega) (fun j hj => (ho2.lt j hj).1)
            obtain ⟨g', cap', rfl⟩ := ownsRow_succ hown'
            go_roundw
            case rel => exact ⟨n + 1, t + 1, HN2, ht2, by omega, hown', hb3⟩
            case measure => simp [sliceLen]; omega
          · have HN2 := HN.out
            have ht2 : t = (m / 64) + 1 - ys.length := by omega
            have hgr : ys ++ List.replicate t 0 = grow ys ((m / 64) + 1) := by rw [ht2]; rfl
            have hgl : (grow ys ((m / 64) + 1)).length = n := by rw [grow_len]; omega
            rw [hgr] at ho2
            obtain ⟨g, c', hv, hg⟩ := own_some ho2 (by omega)
            injection hv with hv _ _
            subst hv
            have hcell := ho2.cellAt (m / 64) (by omega)
            rw [uvs_get _ _ (by omega), wd_grow] at hcell
            have hfr := ho2.frozenAt (m / 64)
            have hst := (ho2.stored (m / 64) (.int .u64 ((wd ys (m / 64) ||| 2 ^ (m % 64) : Nat) : Int))).1
            rw [uvs_set, ← HSB.out] at hst
            have hsl : (setBit ys m).length = n := by rw [HSB.out, List.length_set, hgl]
            have hb3 := hb2.setCell (p := ⟨g, (m / 64), none⟩) hg (.int .u64 ((wd ys (m / 64) ||| 2 ^ (m % 64) : Nat) : Int))
            have hor : Hid (bits BinOp.or IntKind.u64 ((wd ys (m / 64) : Nat) : Int) (IntKind.u64.wrap (2 ^ (m % 64))) = ((wd ys (m / 64) ||| 2 ^ (m % 64) : Nat) : Int)) := by
              show _ = _
              rw [wrap_bit]
              exact u64_or_nat _ _ (uy.at_ (m / 64)) hbit
            have HSL := Lib.hid hsl
            have HST := Lib.hid hst
            clear hst hsl hgr hgl ht2 HN2 ho2
            have hin : (m / 64) < n := by omega
            go_wp2
            rw [hor.out]
            go_roundw
            case rel => exact ⟨k + 1, setBit ys m, by omega, by go_num, HS'.out.symm, by rw [HSL.out]; exact HST.out, hb3⟩
            case measure => simp [intOf]; omega
      · have HS' : Hid (ofTo l (k + 1) = ys) := by
          show _ = _
          rw [HS.out, addI, if_neg hz]
        clear HS
        by_cases hz0 : z < 0
        · have hd1 : decide (z < 0) = true := decide_eq_true hz0
          clear hz hz0
          go_wp2
          go_roundw
          case rel => exact ⟨k + 1, ys, by omega, by go_num, HS'.out.symm, ho, hb⟩
          case measure => simp [intOf]; omega
        have hd1 : decide (z < 0) = false := decide_eq_false hz0
        have hd2 : decide (4095 < z) = true := decide_eq_true (by omega)
        clear hz hz0
        go_wp2
        go_roundw
        case rel => exact ⟨k + 1, ys, by omega, by go_num, HS'.out.symm, ho, hb⟩
        case measure => simp [intOf]; omega
    · obtain rfl : k = l.length := by omega
      have hf : ys = ofL l := HY.out
      have HF := Lib.hid hf
      clear hf HY
      go_wp2
      go_ret
      refine ⟨_, rfl, ?_, hb⟩
      rw [← HF.out]
      exact ho
end Go.Proofs.Ytbmamkackigdaaa
