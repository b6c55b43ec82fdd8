/- The reference's Constant; a store's block. -/
import Derived.Test.YtbhfmeohaoojfaaHG
namespace Go.Proofs.Ytbhfmeohaoojfaa.Dg
open Go Go.RowKit Go.Proofs.Ytbhfmeohaoojfaa.Ap
set_option maxRecDepth 100000
theorem kitLetters_any (v : Nat) (w : World) (hv : v ≤ 6) :
    Calls Try.prog 37 #[.int .i64 v] w fun e w' => e = .returned (.int .i64 (2 ^ v : Nat)) ∧ w = w' := by
  go_enter Try.func37, Try.ntmps37
  go_wp2
  go_ret
  exact ⟨ret_of (shl_i64 hv), rfl⟩
set_option maxHeartbeats 2000000 in
theorem Constant_any (b v : Nat) (x : Int) (w : World) (hc : w.cell? ⟨b, 0, none⟩ = some (.int .i64 v)) (hv : v ≤ 6) :
    Calls Try.prog 36 #[.pointer (some ⟨b, 0, none⟩), .int .i64 x] w fun e w' =>
      ∃ A' c', e = .returned (.slice A' (2 ^ v) c') ∧ w'.ownsRow w.heap.size 3 1 (.slice A' (2 ^ v) c') (2 ^ v) ((List.replicate (2 ^ v) x).map (Value.int .i64)) ∧ Below w.heap.size w w' := by
  obtain ⟨i0, hi, hz0, hz1, hz2⟩ := info_parts info_int
  have h64 := pow7 hv
  have HL := Lib.hid fun w => kitLetters_any v w hv
  have hbl := World.block_lt_of_cell? w _ hc
  generalize 2 ^ v = N at *
  have HC := Lib.hid hc
  have HS : Hid (∀ y, List.replicate (y + 1) x = List.replicate y x ++ [x]) := fun y => List.replicate_succ'
  clear hc
  go_enter Try.func36, Try.ntmps36
  go_wp2
  go_loopw [5, 6] (fun u i wr => ∃ y : Nat, y ≤ N ∧ i = .int .i64 y ∧ wr.ownsRow w.heap.size 3 1 u y ((List.replicate y x).map (Value.int .i64)) ∧ Below w.heap.size w wr) (fun _ i _ => N - (intOf i).toNat)
  case atStart => exact ⟨0, by omega, rfl, ⟨rfl, .inl ⟨rfl, rfl⟩⟩, Below.refl _ _⟩
  case round =>
    obtain ⟨y, hy, rfl, ho, hb⟩ := hrel
    obtain ⟨vA, vc, rfl, hvc⟩ := own_form ho
    have hcell := (hb.cell hbl).trans HC.out
    by_cases hyn : y < N
    · have HE := Lib.hid (HS.out y)
      go_wp2_with (first
        | (go_at_call 37; ((with_reducible refine (HL.out _).mono ?_); rintro e w2 ⟨rfl, rfl⟩))
        | (at_builtin; refine wpList_append_own _ rfl _ _ 29 rfl w.heap.size 3 i0 (.int .i64 0) 1 8 Try.underlying29 hi hz0 hz1 hz2 rfl (by decide) _ _ _ rfl (ho.alloc _) ⟨wr.heap.size, 0, none⟩ 1 1 [.int .i64 x] rfl rfl (cell_one _ _ _) (by simp [Value.oneCell']) (by unfold maxLen; omega) (by omega) (by have := hb.size; simp; omega) ?_; intro v' w4 hown' hgrow _))
      have hb4 : Below w.heap.size w w4 := (hb.alloc hb.size _).grown hgrow (by have := hb.size; simp; omega) (fun q hq => (ho.lt q hq).1)
      have hown2 : w4.ownsRow w.heap.size 3 1 v' (y + 1) ((List.replicate (y + 1) x).map (Value.int .i64)) := by
        rw [HE.out, List.map_append]; exact hown'
      go_roundw
      case rel => exact ⟨y + 1, by omega, by go_num, hown2, hb4⟩
      case measure => simp [intOf]; omega
    · obtain rfl : y = N := by omega
      go_wp2_with (go_at_call 37; ((with_reducible refine (HL.out _).mono ?_); rintro e w2 ⟨rfl, rfl⟩))
      go_ret
      exact ⟨vA, vc, rfl, ho, hb⟩
end Go.Proofs.Ytbhfmeohaoojfaa.Dg
