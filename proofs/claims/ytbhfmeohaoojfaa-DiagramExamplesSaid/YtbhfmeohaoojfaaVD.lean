/- nothing. -/
import Derived.Test.YtbhfmeohaoojfaaVC
import Derived.Outline
namespace Go.Proofs.Ytbhfmeohaoojfaa.Dn
open Go Go.RowKit Go.Proofs.Ytbhfmeohaoojfaa.Ap
open Go.Proofs.Ytbhfmeohaoojfaa.Dg (shl_i64 pow7 cell_one info_int ints_row nd_ext)
set_option linter.unusedVariables false
set_option maxRecDepth 100000
theorem stores_at {w : World} {g zb k : Nat} (h : w.heap[g]? = some (.cells #[.pointer none, .pointer (some ⟨zb, 0, none⟩)] 36 (0, 0))) (hz : w.heap[zb]? = some (.cells #[.pointer none] 106 (0, 0))) (hk : k < 2) : ∃ sp, w.cell? ⟨g, k, none⟩ = some (.pointer sp) ∧ Bad sp w := by
  match k, hk with
  | 0, _ => exact ⟨none, by simp [World.cell?, h], .inl rfl⟩
  | 1, _ => exact ⟨some ⟨zb, 0, none⟩, by simp [World.cell?, h], .inr ⟨zb, rfl, cell_of_one hz⟩⟩
set_option maxHeartbeats 8000000 in
theorem nothing_any (w : World) : Calls Try.prog 29 #[] w fun e w' => e = .returned (.bool true) ∧ Below w.heap.size w w' := by
  have HNodes := Lib.hid fun sp (X : World) (hX : Bad sp X) => Nodes_bad sp  X hX
  have HConstant := Lib.hid fun sp (X : World) (hX : Bad sp X) => Constant_bad sp 1 X hX
  have HFromTable := Lib.hid fun sp (X : World) (hX : Bad sp X) => FromTable_bad sp none 0 0 X hX
  have HFromCube := Lib.hid fun sp (X : World) (hX : Bad sp X) => FromCube_bad sp 200 0 1 0 X hX
  have HTable := Lib.hid fun sp (X : World) (hX : Bad sp X) => Table_bad sp 0 X hX
  have HEval := Lib.hid fun sp (X : World) (hX : Bad sp X) => Eval_bad sp 0 0 X hX
  have HApply := Lib.hid fun sp (X : World) (hX : Bad sp X) => Apply_bad sp 9 0 0 X hX
  have HRestrict := Lib.hid fun sp (X : World) (hX : Bad sp X) => Restrict_bad sp 0 0 true X hX
  have HExists := Lib.hid fun sp (X : World) (hX : Bad sp X) => Exists_bad sp 0 0 X hX
  have HSize := Lib.hid fun sp (X : World) (hX : Bad sp X) => Size_bad sp 0 X hX
  have HCount := Lib.hid fun sp (X : World) (hX : Bad sp X) => Count_bad sp 0 0 X hX
  have HVars := Lib.hid fun sp (X : World) (hX : Bad sp X) => Vars_bad sp  X hX
  go_enter Try.func29, Try.ntmps29
  go_wp2
  obtain ⟨x0, x1, x2⟩ := two_new w (.cells #[.pointer none] 106) (.cells #[.pointer none, .pointer (some ⟨w.heap.size, 0, none⟩)] 36) _ rfl
  generalize (w.alloc (.cells #[.pointer none] 106)).alloc (.cells #[.pointer none, .pointer (some ⟨w.heap.size, 0, none⟩)] 36) = W at *
  obtain ⟨zb, hzb⟩ : ∃ zb, zb = w.heap.size := ⟨_, rfl⟩
  rw [← hzb] at x1 x2 ⊢
  clear hzb
  go_loopw [30] (fun i wr => ∃ k : Nat, k ≤ 2 ∧ i = .int .i64 k ∧ wr.heap[zb]? = some (.cells #[.pointer none] 106 (0, 0)) ∧ wr.heap[zb + 1]? = some (.cells #[.pointer none, .pointer (some ⟨zb, 0, none⟩)] 36 (0, 0)) ∧ Below w.heap.size w wr) (fun i _ => 2 - (intOf i).toNat)
  case atStart => exact ⟨0, by omega, rfl, x1, x2, x0⟩
  case round =>
    clear x0 x1 x2
    obtain ⟨k, hk, rfl, h1, h2, hb⟩ := hrel
    by_cases hk2 : k < 2
    · obtain ⟨sp, hcell, ba0⟩ := stores_at h2 h1 hk2
      have hi : (k : Int) < 2 := by omega
      have HK := Lib.hid h1
      have HK2 := Lib.hid h2
      have bl0 := Below.refl wr.heap.size wr
      clear h1 h2
      go_wp2_with (first
        | (go_at_call 13; ((with_reducible refine (HNodes.out _ _ ba0).mono ?_); rintro e w1 ⟨rfl, hb1⟩); have ba1 := ba0.below hb1; have bl1 := stepB bl0 hb1; clear ba0 bl0 hb1)
        | (go_at_call 33; ((with_reducible refine (HConstant.out _ _ ba1).mono ?_); rintro e w2 ⟨rfl, hb2⟩); have ba2 := ba1.below hb2; have bl2 := stepB bl1 hb2; clear ba1 bl1 hb2)
        | (go_at_call 31; ((with_reducible refine (HFromTable.out _ _ ba2).mono ?_); rintro e w3 ⟨rfl, hb3⟩); have ba3 := ba2.below hb3; have bl3 := stepB bl2 hb3; clear ba2 bl2 hb3)
        | (go_at_call 32; ((with_reducible refine (HFromCube.out _ _ ba3).mono ?_); rintro e w4 ⟨rfl, hb4⟩); have ba4 := ba3.below hb4; have bl4 := stepB bl3 hb4; clear ba3 bl3 hb4)
        | (go_at_call 16; ((with_reducible refine (HTable.out _ _ ba4).mono ?_); rintro e w5 ⟨rfl, hb5⟩); have ba5 := ba4.below hb5; have bl5 := stepB bl4 hb5; clear ba4 bl4 hb5)
        | (go_at_call 23; ((with_reducible refine (HEval.out _ _ ba5).mono ?_); rintro e w6 ⟨rfl, hb6⟩); have ba6 := ba5.below hb6; have bl6 := stepB bl5 hb6; clear ba5 bl5 hb6)
        | (go_at_call 25; ((with_reducible refine (HApply.out _ _ ba6).mono ?_); rintro e w7 ⟨rfl, hb7⟩); have ba7 := ba6.below hb7; have bl7 := stepB bl6 hb7; clear ba6 bl6 hb7)
        | (go_at_call 26; ((with_reducible refine (HRestrict.out _ _ ba7).mono ?_); rintro e w8 ⟨rfl, hb8⟩); have ba8 := ba7.below hb8; have bl8 := stepB bl7 hb8; clear ba7 bl7 hb8)
        | (go_at_call 27; ((with_reducible refine (HExists.out _ _ ba8).mono ?_); rintro e w9 ⟨rfl, hb9⟩); have ba9 := ba8.below hb9; have bl9 := stepB bl8 hb9; clear ba8 bl8 hb9)
        | (go_at_call 19; ((with_reducible refine (HSize.out _ _ ba9).mono ?_); rintro e w10 ⟨rfl, hb10⟩); have ba10 := ba9.below hb10; have bl10 := stepB bl9 hb10; clear ba9 bl9 hb10)
        | (go_at_call 20; ((with_reducible refine (HCount.out _ _ ba10).mono ?_); rintro e w11 ⟨rfl, hb11⟩); have ba11 := ba10.below hb11; have bl11 := stepB bl10 hb11; clear ba10 bl10 hb11)
        | (go_at_call 15; ((with_reducible refine (HVars.out _ _ ba11).mono ?_); rintro e w12 ⟨rfl, hb12⟩); have ba12 := ba11.below hb12; have bl12 := stepB bl11 hb12; clear ba11 bl11 hb12))
      go_roundw
      case rel => exact ⟨k + 1, by omega, by go_num, (bl12.block _ (lt_of_block HK.out)).trans HK.out, (bl12.block _ (lt_of_block HK2.out)).trans HK2.out, stepB hb bl12⟩
      case measure => simp [intOf]; omega
    · obtain rfl : k = 2 := by omega
      go_wp2
      go_ret
      exact ⟨rfl, hb⟩
end Go.Proofs.Ytbhfmeohaoojfaa.Dn
