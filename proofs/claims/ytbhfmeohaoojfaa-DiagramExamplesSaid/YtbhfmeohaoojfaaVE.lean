/- DiagramExamples. -/
import Derived.Test.YtbhfmeohaoojfaaVD
import Derived.Outline
namespace Go.Proofs.Ytbhfmeohaoojfaa.Dn
open Go Go.RowKit Go.Proofs.Ytbhfmeohaoojfaa.Ap
open Go.Proofs.Ytbhfmeohaoojfaa.Dg (shl_i64 pow7 cell_one info_int ints_row nd_ext valI)
set_option linter.unusedVariables false
set_option maxRecDepth 100000
def t64 : List Int := (List.range 64).map Int.ofNat
theorem t64_len : t64.length = 64 := by simp [t64]
theorem t64_nd {k : Nat} (h : k < 64) : nd t64 k = k := by simp [t64, nd, h]
def eN : List Nd := (addM 6 4096 (fun x => nd t64 x) [] []).N
theorem e1 : addM 6 4096 (fun x => nd t64 x) [] [] = ⟨eN, [127], 127, 0⟩ := by kernel_rfl
theorem e2 : addM 6 4096 (fun x => if cHas 1 0 x then 5 else 5) eN [127] = ⟨eN, [127, 79], 79, 0⟩ := by kernel_rfl
theorem e3 : addM 6 4096 (fun _ => 5) eN [127, 79] = ⟨eN, [127, 79], 79, 0⟩ := by kernel_rfl
theorem e4 : (vis 6 eN 6 [] 127).length = 127 := by kernel_rfl
theorem e5 : eN.length = 127 := by kernel_rfl
theorem e6 : addM 0 1 (fun _ => 3) [] [] = ⟨[(0, 0, 0, 3)], [1], 1, 0⟩ := by kernel_rfl
theorem e7 : addM 0 1 (fun _ => 4) [(0, 0, 0, 3)] [1] = ⟨[(0, 0, 0, 3)], [1], 0, 10⟩ := by kernel_rfl
theorem e8 : addM 0 1 (fun x => nd [3] x) [(0, 0, 0, 3)] [1] = ⟨[(0, 0, 0, 3)], [1], 1, 0⟩ := by kernel_rfl
/-- One store of the call's own. -/
def OneS (w X : World) (sb cb rb tb v cap : Nat) (N : List Nd) (R : List Nat) : Prop := ∃ nv, Own w X sb cb rb tb v cap nv N R
theorem OneS.below {w X X' : World} {sb cb rb tb v cap : Nat} {N : List Nd} {R : List Nat} (h : OneS w X sb cb rb tb v cap N R) (hb : Below X.heap.size X X') : OneS w X' sb cb rb tb v cap N R := by
  obtain ⟨nv, ho⟩ := h
  exact ⟨nv, ho.below hb⟩
theorem OneS.bel {w X : World} {sb cb rb tb v cap : Nat} {N : List Nd} {R : List Nat} (h : OneS w X sb cb rb tb v cap N R) : Below w.heap.size w X := by
  obtain ⟨nv, ho⟩ := h
  exact ho.bel
theorem i5 : InI 5 := by unfold InI; omega
theorem one_start {w w0 w1 : World} {sb cb rb tb v cap : Nat} (hb0 : Below w.heap.size w w0) (h1 : Inv w1 sb cb rb tb v cap (.slice none 0 0) [] []) (g1 : w0.heap.size ≤ sb) (g2 : w0.heap.size ≤ cb) (g3 : w0.heap.size ≤ rb) (g4 : w0.heap.size ≤ tb) (hb1 : Below w0.heap.size w0 w1) : OneS w w1 sb cb rb tb v cap [] [] := by
  have := hb0.size
  exact ⟨.slice none 0 0, h1, by omega, by omega, by omega, by omega, fun k hk => by simp [Value.ownBlock] at hk, stepB hb0 hb1⟩
set_option maxHeartbeats 16000000 in
theorem diagramExamples_walk (w : World) : Calls Try.prog 5 #[] w fun e w' => e = .returned (.bool true) ∧ Below w.heap.size w w' := by
  obtain ⟨i0, hi0, hz0, hz1, hz2⟩ := info_parts info_int
  have HAw := Lib.hid fun X => awake_any X
  have HNo := Lib.hid fun X => nothing_any X
  have HW0 : Hid (∀ X, Calls Try.prog 30 #[.int .i64 7, .int .i64 0] X fun e w' => e = .returned (.tuple #[.pointer none, .int .i64 7]) ∧ Below X.heap.size X w') := fun X => New_no 7 0 X (by decide)
  have HW1 : Hid (∀ X, Calls Try.prog 30 #[.int .i64 (-1), .int .i64 1] X fun e w' => e = .returned (.tuple #[.pointer none, .int .i64 7]) ∧ Below X.heap.size X w') := fun X => New_no (-1) 1 X (by decide)
  have HW2 : Hid (∀ X, Calls Try.prog 30 #[.int .i64 0, .int .i64 0] X fun e w' => e = .returned (.tuple #[.pointer none, .int .i64 1]) ∧ Below X.heap.size X w') := fun X => New_no 0 0 X (by decide)
  have HW3 : Hid (∀ X, Calls Try.prog 30 #[.int .i64 6, .int .i64 4097] X fun e w' => e = .returned (.tuple #[.pointer none, .int .i64 1]) ∧ Below X.heap.size X w') := fun X => New_no 6 4097 X (by decide)
  have HN1 : Hid (∀ X, Calls Try.prog 30 #[.int .i64 6, .int .i64 4096] X fun e w' => ∃ sb cb rb tb, e = .returned (.tuple #[.pointer (some ⟨sb, 0, none⟩), .int .i64 0]) ∧ Inv w' sb cb rb tb 6 4096 (.slice none 0 0) [] [] ∧ X.heap.size ≤ sb ∧ X.heap.size ≤ cb ∧ X.heap.size ≤ rb ∧ X.heap.size ≤ tb ∧ Below X.heap.size X w') := fun X => New_yes 6 4096 X (by decide) (by decide) (by decide)
  have HN2 : Hid (∀ X, Calls Try.prog 30 #[.int .i64 0, .int .i64 1] X fun e w' => ∃ sb cb rb tb, e = .returned (.tuple #[.pointer (some ⟨sb, 0, none⟩), .int .i64 0]) ∧ Inv w' sb cb rb tb 0 1 (.slice none 0 0) [] [] ∧ X.heap.size ≤ sb ∧ X.heap.size ≤ cb ∧ X.heap.size ≤ rb ∧ X.heap.size ≤ tb ∧ Below X.heap.size X w') := fun X => New_yes 0 1 X (by decide) (by decide) (by decide)
  have HV : Hid (∀ sb cb rb tb X, OneS w X sb cb rb tb 6 4096 [] [] → Calls Try.prog 15 #[.pointer (some ⟨sb, 0, none⟩)] X fun e w' => e = .returned (.int .i64 6) ∧ OneS w w' sb cb rb tb 6 4096 [] []) := fun sb cb rb tb X ⟨nv, h⟩ => by
    exact (Vars_any X h.inv).mono fun e w' ⟨he, hb⟩ => ⟨he, nv, h.below hb⟩
  have H1 : Hid (∀ sb cb rb tb X g, TabK X (some ⟨g, 0, none⟩) t64 → OneS w X sb cb rb tb 6 4096 [] [] → Calls Try.prog 31 #[.pointer (some ⟨sb, 0, none⟩), .slice (some ⟨g, 0, none⟩) 64 64] X fun e w' => e = .returned (.tuple #[.int .i64 127, .int .i64 0]) ∧ OneS w w' sb cb rb tb 6 4096 eN [127]) := fun sb cb rb tb X g ht ⟨nv, h⟩ => by
    have := FromTable_yes X h.inv (some ⟨g, 0, none⟩) t64 64 ht t64_len (fun x hx => by rw [t64_nd hx]; unfold InI; have : x < 64 := hx; omega)
    rw [t64_len] at this
    refine this.mono fun e w' hp => ?_
    obtain ⟨he, nv', ho, hs⟩ := h.add hp
    rw [e1] at he ho
    exact ⟨he, nv', ho⟩
  have H2 : Hid (∀ sb cb rb tb X, OneS w X sb cb rb tb 6 4096 eN [127] → Calls Try.prog 19 #[.pointer (some ⟨sb, 0, none⟩), .int .i64 127] X fun e w' => e = .returned (.tuple #[.int .i64 127, .int .i64 0]) ∧ OneS w w' sb cb rb tb 6 4096 eN [127]) := fun sb cb rb tb X ⟨nv, h⟩ => by
    have := Size_yes X h.inv 127 (by simp)
    rw [e4] at this
    exact this.mono fun e w' ⟨he, hb⟩ => ⟨he, nv, h.below hb⟩
  have H3 : Hid (∀ sb cb rb tb X g, OneS w X sb cb rb tb 6 4096 eN [127] → Calls Try.prog 31 #[.pointer (some ⟨sb, 0, none⟩), .slice (some ⟨g, 0, none⟩) 63 64] X fun e w' => e = .returned (.tuple #[.int .i64 0, .int .i64 1]) ∧ OneS w w' sb cb rb tb 6 4096 eN [127]) := fun sb cb rb tb X g ⟨nv, h⟩ => by
    exact (FromTable_no X h.inv (some ⟨g, 0, none⟩) 63 64 (by decide) (by decide)).mono fun e w' ⟨he, hb⟩ => ⟨he, nv, h.below hb⟩
  have H4 : Hid (∀ sb cb rb tb X, OneS w X sb cb rb tb 6 4096 eN [127] → Calls Try.prog 32 #[.pointer (some ⟨sb, 0, none⟩), .agg #[.int .u8 64, .int .u8 0], .int .i64 1, .int .i64 0] X fun e w' => e = .returned (.tuple #[.int .i64 0, .int .i64 7]) ∧ OneS w w' sb cb rb tb 6 4096 eN [127]) := fun sb cb rb tb X ⟨nv, h⟩ => by
    exact (FromCube_no X h.inv 64 0 1 0 (by decide) (by decide) (by decide)).mono fun e w' ⟨he, hb⟩ => ⟨he, nv, h.below hb⟩
  have H5 : Hid (∀ sb cb rb tb X, OneS w X sb cb rb tb 6 4096 eN [127] → Calls Try.prog 32 #[.pointer (some ⟨sb, 0, none⟩), .agg #[.int .u8 1, .int .u8 1], .int .i64 1, .int .i64 0] X fun e w' => e = .returned (.tuple #[.int .i64 0, .int .i64 2]) ∧ OneS w w' sb cb rb tb 6 4096 eN [127]) := fun sb cb rb tb X ⟨nv, h⟩ => by
    exact (FromCube_no X h.inv 1 1 1 0 (by decide) (by decide) (by decide)).mono fun e w' ⟨he, hb⟩ => ⟨he, nv, h.below hb⟩
  have H6 : Hid (∀ sb cb rb tb X, OneS w X sb cb rb tb 6 4096 eN [127] → Calls Try.prog 32 #[.pointer (some ⟨sb, 0, none⟩), .agg #[.int .u8 1, .int .u8 0], .int .i64 5, .int .i64 5] X fun e w' => e = .returned (.tuple #[.int .i64 79, .int .i64 0]) ∧ OneS w w' sb cb rb tb 6 4096 eN [127, 79]) := fun sb cb rb tb X ⟨nv, h⟩ => by
    refine (FromCube_yes X h.inv 1 0 5 5 (by decide) (by decide) i5 i5 (by decide)).mono fun e w' hp => ?_
    obtain ⟨he, nv', ho, hs⟩ := h.add hp
    rw [e2] at he ho
    exact ⟨he, nv', ho⟩
  have H7 : Hid (∀ sb cb rb tb X, OneS w X sb cb rb tb 6 4096 eN [127, 79] → Calls Try.prog 33 #[.pointer (some ⟨sb, 0, none⟩), .int .i64 5] X fun e w' => e = .returned (.tuple #[.int .i64 79, .int .i64 0]) ∧ OneS w w' sb cb rb tb 6 4096 eN [127, 79]) := fun sb cb rb tb X ⟨nv, h⟩ => by
    refine (Constant_yes X h.inv 5 i5).mono fun e w' hp => ?_
    obtain ⟨he, nv', ho, hs⟩ := h.add hp
    rw [e3] at he ho
    exact ⟨he, nv', ho⟩
  have H8 : Hid (∀ sb cb rb tb X, OneS w X sb cb rb tb 6 4096 eN [127, 79] → Calls Try.prog 13 #[.pointer (some ⟨sb, 0, none⟩)] X fun e w' => e = .returned (.tuple #[.int .i64 127, .int .i64 0]) ∧ OneS w w' sb cb rb tb 6 4096 eN [127, 79]) := fun sb cb rb tb X ⟨nv, h⟩ => by
    have := Nodes_any X h.inv
    rw [e5] at this
    exact this.mono fun e w' ⟨he, hb⟩ => ⟨he, nv, h.below hb⟩
  have H9 : Hid (∀ sb cb rb tb X, OneS w X sb cb rb tb 0 1 [] [] → Calls Try.prog 33 #[.pointer (some ⟨sb, 0, none⟩), .int .i64 3] X fun e w' => e = .returned (.tuple #[.int .i64 1, .int .i64 0]) ∧ OneS w w' sb cb rb tb 0 1 [(0, 0, 0, 3)] [1]) := fun sb cb rb tb X ⟨nv, h⟩ => by
    refine (Constant_yes X h.inv 3 (by unfold InI; omega)).mono fun e w' hp => ?_
    obtain ⟨he, nv', ho, hs⟩ := h.add hp
    rw [e6] at he ho
    exact ⟨he, nv', ho⟩
  have H10 : Hid (∀ sb cb rb tb X, OneS w X sb cb rb tb 0 1 [(0, 0, 0, 3)] [1] → Calls Try.prog 33 #[.pointer (some ⟨sb, 0, none⟩), .int .i64 4] X fun e w' => e = .returned (.tuple #[.int .i64 0, .int .i64 10]) ∧ OneS w w' sb cb rb tb 0 1 [(0, 0, 0, 3)] [1]) := fun sb cb rb tb X ⟨nv, h⟩ => by
    refine (Constant_yes X h.inv 4 (by unfold InI; omega)).mono fun e w' hp => ?_
    obtain ⟨he, nv', ho, hs⟩ := h.add hp
    rw [e7] at he ho
    exact ⟨he, nv', ho⟩
  have H11 : Hid (∀ sb cb rb tb X, OneS w X sb cb rb tb 0 1 [(0, 0, 0, 3)] [1] → Calls Try.prog 31 #[.pointer (some ⟨sb, 0, none⟩), .slice (some ⟨X.heap.size, 0, none⟩) 1 1] (X.alloc (.cells #[.int .i64 3] 3)) fun e w' => e = .returned (.tuple #[.int .i64 1, .int .i64 0]) ∧ OneS w w' sb cb rb tb 0 1 [(0, 0, 0, 3)] [1]) := fun sb cb rb tb X ⟨nv, h0⟩ => by
    have h := h0.below (bal (Below.refl _ _) (.cells #[.int .i64 3] 3))
    refine (FromTable_yes _ h.inv _ [3] 1 (tabK_lit X [3]) rfl (fun x hx => by obtain rfl : x = 0 := (by have : x < 1 := hx; omega); show InI 3; unfold InI; omega)).mono fun e w' hp => ?_
    obtain ⟨he, nv', ho, hs⟩ := h.add hp
    rw [e8] at he ho
    exact ⟨he, nv', ho⟩
  have HF0 := Lib.hid (fillT_zero t64 64)
  have HFF := Lib.hid (fillT_full t64)
  rw [t64_len] at HFF
  go_enter Try.func5, Try.ntmps5
  go_wp2_with (first
    | (go_at_call 10; ((with_reducible refine (HAw.out _).mono ?_); rintro e w1 ⟨rfl, hb1⟩))
    | (go_at_call 29; ((with_reducible refine (HNo.out _).mono ?_); rintro e w2 ⟨rfl, hb2⟩); have bl2 := stepB hb1 hb2; clear hb1 hb2)
    | (go_at_call 30; ((with_reducible refine (HW0.out _).mono ?_); rintro e w3 ⟨rfl, hb3⟩); have bl3 := stepB bl2 hb3; clear bl2 hb3)
    | (go_at_call 30; ((with_reducible refine (HW1.out _).mono ?_); rintro e w4 ⟨rfl, hb4⟩); have bl4 := stepB bl3 hb4; clear bl3 hb4)
    | (go_at_call 30; ((with_reducible refine (HW2.out _).mono ?_); rintro e w5 ⟨rfl, hb5⟩); have bl5 := stepB bl4 hb5; clear bl4 hb5)
    | (go_at_call 30; ((with_reducible refine (HW3.out _).mono ?_); rintro e w6 ⟨rfl, hb6⟩); have bl6 := stepB bl5 hb6; clear bl5 hb6)
    | (go_at_call 30; ((with_reducible refine (HN1.out _).mono ?_); rintro e w7 ⟨sb, cb, rb, tb, rfl, n1, g1, g2, g3, g4, hb7⟩); have U0 := one_start bl6 n1 g1 g2 g3 g4 hb7; clear n1 g1 g2 g3 g4 hb7 bl6)
    | (go_at_call 15; ((with_reducible refine (HV.out _ _ _ _ _ U0).mono ?_); rintro e w8 ⟨rfl, U1⟩); clear U0)
    | (at_make; refine wpList_make_full w8 rfl _ _ _ rfl w8.heap.size 3 i0 _ 1 Try.underlying29 hi0 hz0 hz1 _ _ _ _ 64 rfl rfl rfl rfl (by rw [hz2]; omega) (by unfold maxLen; omega) (Nat.le_refl _) ?_; intro w9 hown hg))
  have hown0 : w9.ownsRow w8.heap.size 3 1 (.slice (some ⟨w8.heap.size, 0, none⟩) 64 64) 64 (fillT t64 0 64) := by
    rw [HF0.out, ← made_rep 64]
    exact hown
  have hb9 : Below w8.heap.size w8 w9 := (Below.refl _ _).grown hg (Nat.le_refl _) (fun q hq => by cases hq)
  obtain ⟨g, hgd⟩ : ∃ g, g = w8.heap.size := ⟨_, rfl⟩
  have hs1 : w8.heap.size ≤ g := by omega
  rw [← hgd] at hown0 ⊢
  clear hown hg hgd
  go_loopw [12] (fun i wr => ∃ k : Nat, k ≤ 64 ∧ i = .int .i64 k ∧ wr.ownsRow g 3 1 (.slice (some ⟨g, 0, none⟩) 64 64) 64 (fillT t64 k 64) ∧ Below w8.heap.size w8 wr) (fun i _ => 64 - (intOf i).toNat)
  case atStart => exact ⟨0, by omega, rfl, hown0, hb9⟩
  case round =>
    clear hown0 hb9
    obtain ⟨k, hk, rfl, ho, hb⟩ := hrel
    by_cases hkK : k < 64
    · have HSt := Lib.hid (fillT_set t64 k 64)
      rw [t64_nd hkK] at HSt
      obtain ⟨u0, hu0⟩ := own_some ho hkK
      have hfz := ho.frozenAt k
      have ho4 := own_set ho k (.int .i64 k) hkK
      rw [HSt.out] at ho4
      have HO4 := Lib.hid ho4
      have hb4 : Below w8.heap.size w8 (wr.setCell ⟨g, k, none⟩ (.int .i64 k)) := hb.setCell hs1 _
      have hi : (k : Int) < 64 := by omega
      clear ho4
      go_wp2
      go_roundw
      case rel => exact ⟨k + 1, by omega, by go_num, HO4.out, hb4⟩
      case measure => simp [intOf]; omega
    · obtain rfl : k = 64 := by omega
      rw [HFF.out] at ho
      have K0 := tabK_row ho t64_len.symm
      have U2 := U1.below hb
      clear U1 hb ho
      go_wp2_with (first
        | (go_at_call 31; ((with_reducible refine (H1.out _ _ _ _ _ _ K0 U2).mono ?_); rintro e w10 ⟨rfl, U3⟩); clear U2)
        | (go_at_call 19; ((with_reducible refine (H2.out _ _ _ _ _ U3).mono ?_); rintro e w11 ⟨rfl, U4⟩); clear U3)
        | (go_at_call 31; ((with_reducible refine (H3.out _ _ _ _ _ _ U4).mono ?_); rintro e w12 ⟨rfl, U5⟩); clear U4)
        | (go_at_call 32; ((with_reducible refine (H4.out _ _ _ _ _ U5).mono ?_); rintro e w13 ⟨rfl, U6⟩); clear U5)
        | (go_at_call 32; ((with_reducible refine (H5.out _ _ _ _ _ U6).mono ?_); rintro e w14 ⟨rfl, U7⟩); clear U6)
        | (go_at_call 32; ((with_reducible refine (H6.out _ _ _ _ _ U7).mono ?_); rintro e w15 ⟨rfl, U8⟩); clear U7)
        | (go_at_call 33; ((with_reducible refine (H7.out _ _ _ _ _ U8).mono ?_); rintro e w16 ⟨rfl, U9⟩); clear U8)
        | (go_at_call 13; ((with_reducible refine (H8.out _ _ _ _ _ U9).mono ?_); rintro e w17 ⟨rfl, U10⟩); have bl17 := U10.bel; clear U9 U10)
        | (go_at_call 30; ((with_reducible refine (HN2.out _).mono ?_); rintro e w18 ⟨s2, c2, r2, t2, rfl, n2, k1, k2, k3, k4, hb18⟩); have V0 := one_start bl17 n2 k1 k2 k3 k4 hb18; clear n2 k1 k2 k3 k4 hb18 bl17)
        | (go_at_call 33; ((with_reducible refine (H9.out _ _ _ _ _ V0).mono ?_); rintro e w19 ⟨rfl, V1⟩); clear V0)
        | (go_at_call 33; ((with_reducible refine (H10.out _ _ _ _ _ V1).mono ?_); rintro e w20 ⟨rfl, V2⟩); clear V1)
        | (go_at_call 31; ((with_reducible refine (H11.out _ _ _ _ _ V2).mono ?_); rintro e w21 ⟨rfl, V3⟩)))
      go_ret
      exact ⟨rfl, V3.bel⟩
end Go.Proofs.Ytbhfmeohaoojfaa.Dn
