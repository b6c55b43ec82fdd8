/- The reference's Restrict. -/
import Derived.Test.YtbhfmeohaoojfaaHF
namespace Go.Proofs.Ytbhfmeohaoojfaa.Dg
open Go Go.RowKit Go.Proofs.Ytbhfmeohaoojfaa.Ap
set_option maxRecDepth 100000
/-- The letter x with variable v fixed. -/
def setV (x v : Nat) (b : Bool) : Nat := if b then x ||| 2 ^ v else if x.testBit v then x - 2 ^ v else x
theorem set_all : ((List.range 6).all fun v => (List.range 64).all fun x => (bits .or .i64 (x : Int) ((2 ^ v : Nat) : Int) == ((setV x v true : Nat) : Int)) && (bits .andNot .i64 (x : Int) ((2 ^ v : Nat) : Int) == ((setV x v false : Nat) : Int))) = true := by decide +kernel
theorem set_bits {v x : Nat} (hv : v < 6) (hx : x < 64) : bits .or .i64 (x : Int) ((2 ^ v : Nat) : Int) = ((setV x v true : Nat) : Int) ∧ bits .andNot .i64 (x : Int) ((2 ^ v : Nat) : Int) = ((setV x v false : Nat) : Int) := by
  have h := List.all_eq_true.1 (List.all_eq_true.1 set_all v (List.mem_range.2 hv)) x (List.mem_range.2 hx)
  rw [Bool.and_eq_true, beq_iff_eq, beq_iff_eq] at h
  exact h
theorem set_lt {n v x : Nat} (b : Bool) (hv : v < n) (hx : x < 2 ^ n) : setV x v b < 2 ^ n := by
  unfold setV
  split
  · exact Nat.or_lt_two_pow hx (Nat.pow_lt_pow_right (by decide) hv)
  · split
    · exact Nat.lt_of_le_of_lt (Nat.sub_le _ _) hx
    · exact hx
/-- The table in which variable v is fixed. -/
def resL (t : List Int) (v : Nat) (b : Bool) (m : Nat) : List Int := (List.range m).map fun x => nd t (setV x v b)
theorem resL_succ (t : List Int) (v : Nat) (b : Bool) (m : Nat) : resL t v b (m + 1) = resL t v b m ++ [nd t (setV m v b)] := by
  unfold resL
  rw [List.range_succ, List.map_append]; rfl
theorem resL_len (t : List Int) (v : Nat) (b : Bool) (m : Nat) : (resL t v b m).length = m := by simp [resL]
set_option maxHeartbeats 2000000 in
theorem Restrict_any (A : Option Addr) (t : List Int) (c v n : Nat) (b : Bool) (w : World) (hx : Ints w A t) (hn : n ≤ 6) (ht : t.length = 2 ^ n) (hv : v < n) :
    Calls Try.prog 41 #[.slice A t.length c, .int .i64 v, .bool b] w fun e w' =>
      ∃ A' c', e = .returned (.slice A' t.length c') ∧ w'.ownsRow w.heap.size 3 1 (.slice A' t.length c') t.length ((resL t v b t.length).map (Value.int .i64)) ∧ Below w.heap.size w w' := by
  obtain ⟨i0, hi, hz0, hz1, hz2⟩ := info_parts info_int
  have h64 := pow7 hn
  have HB : Hid (∀ x : Nat, x < 64 → bits .or .i64 (x : Int) (wrap64 ((2 : Int) ^ v)) = ((setV x v true : Nat) : Int) ∧ bits .andNot .i64 (x : Int) (wrap64 ((2 : Int) ^ v)) = ((setV x v false : Nat) : Int)) := fun x hx => by
    rw [shl_i64 (v := v) (by omega)]
    exact set_bits (by omega) hx
  rw [← ht] at h64
  have HLt : Hid (∀ x, x < t.length → setV x v b < t.length) := fun x hx => by rw [ht]; exact set_lt b hv (by rw [← ht]; exact hx)
  have HS := Lib.hid fun m => resL_succ t v b m
  have hv6 : v < 6 := by omega
  clear ht hn hv
  obtain ⟨N, hN⟩ : ∃ N, N = t.length := ⟨_, rfl⟩
  have hx2 : Vals w A N fun j => .int .i64 (nd t j) := by rw [hN]; exact hx
  rw [← hN] at HLt h64 ⊢
  clear hN hx
  go_enter Try.func41, Try.ntmps41
  go_wp2
  go_loopw [7, 9] (fun u i wr => ∃ y : Nat, y ≤ N ∧ i = .int .i64 y ∧ wr.ownsRow w.heap.size 3 1 u y ((resL t v b y).map (Value.int .i64)) ∧ Below w.heap.size w wr) (fun _ i _ => N - (intOf i).toNat)
  case atStart => exact ⟨0, by omega, rfl, ⟨rfl, .inl ⟨rfl, rfl⟩⟩, Below.refl _ _⟩
  case round =>
    obtain ⟨y, hy, rfl, ho, hb⟩ := hrel
    obtain ⟨vA, vc, rfl, hvc⟩ := own_form ho
    by_cases hyn : y < N
    · obtain ⟨q1, q2⟩ := HB.out y (by omega)
      have hj := HLt.out y hyn
      have HE := Lib.hid (HS.out y)
      cases b with
      | true =>
        clear q2
        generalize setV y v true = j at *
        obtain ⟨ad, rfl, hcell⟩ := (hx2.below hb).at_ hj
        have hji : (j : Int) < (N : Int) := by omega
        generalize nd t j = z at *
        go_wp2_with (at_builtin; refine wpList_append_own _ rfl _ _ 29 rfl w.heap.size 3 i0 (.int .i64 0) 1 8 Try.underlying29 hi hz0 hz1 hz2 rfl (by decide) _ _ _ rfl (ho.alloc _) ⟨wr.heap.size, 0, none⟩ 1 1 [.int .i64 z] rfl rfl (cell_one _ _ _) (by simp [Value.oneCell']) (by unfold maxLen; omega) (by omega) (by have := hb.size; simp; omega) ?_; intro v' w4 hown' hgrow _)
        have hb4 : Below w.heap.size w w4 := (hb.alloc hb.size _).grown hgrow (by have := hb.size; simp; omega) (fun q hq => (ho.lt q hq).1)
        have hown2 : w4.ownsRow w.heap.size 3 1 v' (y + 1) ((resL t v true (y + 1)).map (Value.int .i64)) := by
          rw [HE.out, List.map_append]; exact hown'
        go_roundw
        case rel => exact ⟨y + 1, by omega, by go_num, hown2, hb4⟩
        case measure => simp [intOf]; omega
      | false =>
        clear q1
        generalize setV y v false = j at *
        obtain ⟨ad, rfl, hcell⟩ := (hx2.below hb).at_ hj
        have hji : (j : Int) < (N : Int) := by omega
        generalize nd t j = z at *
        go_wp2_with (at_builtin; refine wpList_append_own _ rfl _ _ 29 rfl w.heap.size 3 i0 (.int .i64 0) 1 8 Try.underlying29 hi hz0 hz1 hz2 rfl (by decide) _ _ _ rfl (ho.alloc _) ⟨wr.heap.size, 0, none⟩ 1 1 [.int .i64 z] rfl rfl (cell_one _ _ _) (by simp [Value.oneCell']) (by unfold maxLen; omega) (by omega) (by have := hb.size; simp; omega) ?_; intro v' w4 hown' hgrow _)
        have hb4 : Below w.heap.size w w4 := (hb.alloc hb.size _).grown hgrow (by have := hb.size; simp; omega) (fun q hq => (ho.lt q hq).1)
        have hown2 : w4.ownsRow w.heap.size 3 1 v' (y + 1) ((resL t v false (y + 1)).map (Value.int .i64)) := by
          rw [HE.out, List.map_append]; exact hown'
        go_roundw
        case rel => exact ⟨y + 1, by omega, by go_num, hown2, hb4⟩
        case measure => simp [intOf]; omega
    · obtain rfl : y = N := by omega
      go_wp2
      go_ret
      exact ⟨vA, vc, rfl, ho, hb⟩
end Go.Proofs.Ytbhfmeohaoojfaa.Dg
