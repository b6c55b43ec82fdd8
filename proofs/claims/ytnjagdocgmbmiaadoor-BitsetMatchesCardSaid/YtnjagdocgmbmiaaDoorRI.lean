/- The reference's Intersect and Minus. -/
import Derived.Test.YtnjagdocgmbmiaaDoorSP
import Derived.Deep.RegionHeld3
namespace Go.Proofs.YtnjagdocgmbmiaaDoor
open Go Go.RowKit
set_option maxRecDepth 100000
set_option linter.unusedVariables false
def meetTo (l m : List Int) (j : Nat) : List Int := (l.take j).filter fun k => decide (k ∈ m)
theorem meetTo_succ {l m : List Int} {j : Nat} (h : j < l.length) : meetTo l m (j + 1) = meetTo l m j ++ (if decide (nd l j ∈ m) then [nd l j] else []) := by
  unfold meetTo
  rw [List.take_succ_eq_append_getElem h, List.filter_append]
  have e : nd l j = l[j] := by simp [nd, h]
  rw [e]
  congr 1
  by_cases hm : l[j] ∈ m <;> simp [hm]
theorem meetTo_len (l m : List Int) (j : Nat) : (meetTo l m j).length ≤ l.length := by
  unfold meetTo
  refine Nat.le_trans (List.length_filter_le _ _) ?_
  rw [List.length_take]; omega
theorem refHas_m (A : Option Addr) (l : List Int) (m c : Nat) (k : Int) (w : World) (hm : l.length = m) (hx : Vals w A m fun j => .int .i64 (nd l j)) (hl : m ≤ 4096) :
    Calls Tryd.prog 26 #[.slice A m c, .int .i64 k] w fun e w' => e = .returned (.bool (decide (k ∈ l))) ∧ w = w' := by
  subst hm
  exact refHas_any A l c k w hx (by unfold maxLen; omega)
set_option maxHeartbeats 1000000 in
theorem refIntersect_any (A B : Option Addr) (xs ys : List Nat) (c d : Nat) (w : World) (hx : Words w A xs) (ux : U64 xs) (hl : xs.length ≤ 80) (hy : Words w B ys) (uy : U64 ys) (hm : ys.length ≤ 80) :
    Calls Tryd.prog 29 #[.slice A xs.length c, .slice B ys.length d] w fun e w' =>
      ∃ A' c', e = .returned (.slice A' (ofL (meetTo (elsI xs) (elsI ys) (elsI xs).length)).length c') ∧ OwnW w.heap.size w' A' c' (ofL (meetTo (elsI xs) (elsI ys) (elsI xs).length)) ∧ Below w.heap.size w w' := by
  obtain ⟨i0, hi, hz0, hz1, hz2⟩ := info_parts info_int
  obtain ⟨n, hn⟩ : ∃ n, n = (els xs).length := ⟨_, rfl⟩
  obtain ⟨m, hm'⟩ : ∃ m, m = (els ys).length := ⟨_, rfl⟩
  have ln : n ≤ 4096 := by rw [hn]; exact elsTo_len xs 4096
  have lm : m ≤ 4096 := by rw [hm']; exact elsTo_len ys 4096
  have HL1 := Lib.hid (refList_n A xs c n w hx ux hl hn)
  have HL2 := Lib.hid (fun w2 h => refList_n B ys d m w2 h uy hm hm')
  have HN : Hid ((elsI xs).length = n) := by show _ = _; rw [elsI_len, hn]
  have HM : Hid ((elsI ys).length = m) := by show _ = _; rw [elsI_len, hm']
  clear hn hm'
  rw [HN.out]
  generalize elsI xs = l1 at *
  generalize elsI ys = l2 at *
  go_enter Tryd.func29, Tryd.ntmps29
  go_wp2_with (first
    | (go_at_call 14; have hc0 := HL1.out; with_reducible refine hc0.mono ?_; clear hc0; rintro e w1 ⟨A1, c1, rfl, hi1, hc1, hb1⟩))
  have hy1 : Words w1 B ys := hy.below hb1
  go_loopw [5, 7] (fun v i wr => ∃ j q : Nat, j ≤ n ∧ i = .int .i64 j ∧ Hid (q = (meetTo l1 l2 j).length) ∧ wr.ownsRow w1.heap.size 3 1 v q ((meetTo l1 l2 j).map (Value.int .i64)) ∧ Below w1.heap.size w1 wr) (fun _ i _ => n - (intOf i).toNat)
  case atStart => exact ⟨0, 0, by omega, rfl, rfl, ⟨rfl, .inl ⟨rfl, rfl⟩⟩, Below.refl _ _⟩
  case round =>
    obtain ⟨j, q, hj, rfl, HQ, ho, hb⟩ := hrel
    obtain ⟨vA, vc, rfl, hvc⟩ := own_form ho
    by_cases hlt : j < n
    · obtain ⟨ad, rfl, hbk, hcell⟩ := Vals.below hi1 hb j hlt
      have hcell : wr.cell? (ad.add j) = some (.int .i64 (nd l1 j)) := hcell
      have hq : q ≤ 4096 := by have := meetTo_len l1 l2 j; rw [← HQ.out, HN.out] at this; omega
      have HE := Lib.hid (meetTo_succ (m := l2) (j := j) (by rw [HN.out]; exact hlt))
      have hyr : Words wr B ys := hy1.below hb
      generalize nd l1 j = z at *
      go_wp2
      go_region_held3 (fun w' => w'.cell? (ad.add j) = some (.int .i64 z) ∧ Below wr.heap.size wr w')
        (first | exact ⟨hcell, (Below.refl _ _).drew⟩ | exact ⟨hcell, Below.refl _ _⟩ | assumption)
        (first
          | (go_at_call 14; refine (HL2.out wr.drew hyr).mono ?_; rintro e w3 ⟨A3, c3, rfl, hi3, hc3, hb3⟩; have hS3 : w3.cell? (ad.add j) = some (.int .i64 z) ∧ Below wr.heap.size wr w3 := ⟨(Below.cell hb3 (by rw [addr_block]; exact hbk)).trans hcell, Below.trans ((Below.refl _ _).drew) hb3⟩)
          | (go_at_call 26; refine (refHas_m _ l2 m _ z _ HM.out (by assumption) (by omega)).mono ?_; rintro e w4 ⟨rfl, rfl⟩))
      obtain ⟨hcell3, hb13⟩ := hS3
      have ho3 := own_bel ho hb13
      have hb03 : Below w1.heap.size w1 w3 := stepB hb hb13
      clear ho hb hb3 hcell hi3 hc3 hb13 hbk hyr
      by_cases hzm : z ∈ l2
      · have HE2 : Hid (meetTo l1 l2 (j + 1) = meetTo l1 l2 j ++ [z]) := by
          show _ = _
          rw [HE.out, if_pos (decide_eq_true hzm)]
        have HQ2 : Hid (q + 1 = (meetTo l1 l2 (j + 1)).length) := by
          show _ = _
          rw [HE2.out, List.length_append, ← HQ.out]
          rfl
        rw [decide_eq_true hzm]
        clear hzm HE HQ
        go_wp2_with (at_builtin; refine wpList_append_own _ rfl _ _ 24 rfl w1.heap.size 3 i0 (.int .i64 0) 1 8 Tryd.underlying24 hi hz0 hz1 hz2 rfl (by decide) _ _ _ rfl (ho3.alloc _) ⟨w3.heap.size, 0, none⟩ 1 1 [.int .i64 z] rfl rfl (cell_one_new _ _ _) (by simp [Value.oneCell']) (by unfold maxLen; omega) (by omega) (by have := hb03.size; simp; omega) ?_; intro v' w4 hown' hgrow _)
        have hb4 : Below w1.heap.size w1 w4 := (hb03.alloc hb03.size _).grown hgrow (by have := hb03.size; simp; omega) (fun p hp => (ho3.lt p hp).1)
        obtain ⟨g', cap', rfl⟩ := ownsRow_succ hown'
        have hown2 : w4.ownsRow w1.heap.size 3 1 (.slice (some ⟨g', 0, none⟩) (q + 1) cap') (q + 1) ((meetTo l1 l2 (j + 1)).map (Value.int .i64)) := by
          rw [HE2.out, List.map_append]
          exact hown'
        go_roundw
        case rel => exact ⟨j + 1, q + 1, by omega, by go_num, HQ2, hown2, hb4⟩
        case measure => simp [intOf]; omega
      · have HE2 : Hid (meetTo l1 l2 (j + 1) = meetTo l1 l2 j) := by
          show _ = _
          rw [HE.out, if_neg (by simpa using hzm), List.append_nil]
        rw [decide_eq_false hzm]
        clear hzm HE
        go_wp2
        go_roundw
        case rel => exact ⟨j + 1, q, by omega, by go_num, by show _ = _; rw [HE2.out]; exact HQ.out, by rw [HE2.out]; exact ho3, hb03⟩
        case measure => simp [intOf]; omega
    · obtain rfl : j = n := by omega
      have hq : q ≤ 4096 := by have := meetTo_len l1 l2 j; rw [← HQ.out, HN.out] at this; omega
      have HO := Lib.hid (refOf_own vA (meetTo l1 l2 j) q vc wr HQ.out (ints_own ho HQ.out) (by rw [← HQ.out]; unfold maxLen; omega))
      have hb0 : Below w.heap.size w wr := stepB hb1 hb
      clear ho
      go_wp2_with (go_at_call 23; refine HO.out.mono ?_; rintro e w5 ⟨A5, c5, rfl, ho5, hb5⟩)
      go_ret
      exact ⟨A5, c5, rfl, ⟨own_low ho5.1 hb0.size, ho5.2⟩, stepB hb0 hb5⟩
def lessTo (l m : List Int) (j : Nat) : List Int := (l.take j).filter fun k => !decide (k ∈ m)
theorem lessTo_succ {l m : List Int} {j : Nat} (h : j < l.length) : lessTo l m (j + 1) = lessTo l m j ++ (if (!decide (nd l j ∈ m)) = true then [nd l j] else []) := by
  unfold lessTo
  rw [List.take_succ_eq_append_getElem h, List.filter_append]
  have e : nd l j = l[j] := by simp [nd, h]
  rw [e]
  congr 1
  by_cases hm : l[j] ∈ m <;> simp [hm]
theorem lessTo_len (l m : List Int) (j : Nat) : (lessTo l m j).length ≤ l.length := by
  unfold lessTo
  refine Nat.le_trans (List.length_filter_le _ _) ?_
  rw [List.length_take]; omega
set_option maxHeartbeats 1000000 in
theorem refMinus_any (A B : Option Addr) (xs ys : List Nat) (c d : Nat) (w : World) (hx : Words w A xs) (ux : U64 xs) (hl : xs.length ≤ 80) (hy : Words w B ys) (uy : U64 ys) (hm : ys.length ≤ 80) :
    Calls Tryd.prog 28 #[.slice A xs.length c, .slice B ys.length d] w fun e w' =>
      ∃ A' c', e = .returned (.slice A' (ofL (lessTo (elsI xs) (elsI ys) (elsI xs).length)).length c') ∧ OwnW w.heap.size w' A' c' (ofL (lessTo (elsI xs) (elsI ys) (elsI xs).length)) ∧ Below w.heap.size w w' := by
  obtain ⟨i0, hi, hz0, hz1, hz2⟩ := info_parts info_int
  obtain ⟨n, hn⟩ : ∃ n, n = (els xs).length := ⟨_, rfl⟩
  obtain ⟨m, hm'⟩ : ∃ m, m = (els ys).length := ⟨_, rfl⟩
  have ln : n ≤ 4096 := by rw [hn]; exact elsTo_len xs 4096
  have lm : m ≤ 4096 := by rw [hm']; exact elsTo_len ys 4096
  have HL1 := Lib.hid (refList_n A xs c n w hx ux hl hn)
  have HL2 := Lib.hid (fun w2 h => refList_n B ys d m w2 h uy hm hm')
  have HN : Hid ((elsI xs).length = n) := by show _ = _; rw [elsI_len, hn]
  have HM : Hid ((elsI ys).length = m) := by show _ = _; rw [elsI_len, hm']
  clear hn hm'
  rw [HN.out]
  generalize elsI xs = l1 at *
  generalize elsI ys = l2 at *
  go_enter Tryd.func28, Tryd.ntmps28
  go_wp2_with (first
    | (go_at_call 14; have hc0 := HL1.out; with_reducible refine hc0.mono ?_; clear hc0; rintro e w1 ⟨A1, c1, rfl, hi1, hc1, hb1⟩))
  have hy1 : Words w1 B ys := hy.below hb1
  go_loopw [5, 7] (fun v i wr => ∃ j q : Nat, j ≤ n ∧ i = .int .i64 j ∧ Hid (q = (lessTo l1 l2 j).length) ∧ wr.ownsRow w1.heap.size 3 1 v q ((lessTo l1 l2 j).map (Value.int .i64)) ∧ Below w1.heap.size w1 wr) (fun _ i _ => n - (intOf i).toNat)
  case atStart => exact ⟨0, 0, by omega, rfl, rfl, ⟨rfl, .inl ⟨rfl, rfl⟩⟩, Below.refl _ _⟩
  case round =>
    obtain ⟨j, q, hj, rfl, HQ, ho, hb⟩ := hrel
    obtain ⟨vA, vc, rfl, hvc⟩ := own_form ho
    by_cases hlt : j < n
    · obtain ⟨ad, rfl, hbk, hcell⟩ := Vals.below hi1 hb j hlt
      have hcell : wr.cell? (ad.add j) = some (.int .i64 (nd l1 j)) := hcell
      have hq : q ≤ 4096 := by have := lessTo_len l1 l2 j; rw [← HQ.out, HN.out] at this; omega
      have HE := Lib.hid (lessTo_succ (m := l2) (j := j) (by rw [HN.out]; exact hlt))
      have hyr : Words wr B ys := hy1.below hb
      generalize nd l1 j = z at *
      go_wp2
      go_region_held3 (fun w' => w'.cell? (ad.add j) = some (.int .i64 z) ∧ Below wr.heap.size wr w')
        (first | exact ⟨hcell, (Below.refl _ _).drew⟩ | exact ⟨hcell, Below.refl _ _⟩ | assumption)
        (first
          | (go_at_call 14; refine (HL2.out wr.drew hyr).mono ?_; rintro e w3 ⟨A3, c3, rfl, hi3, hc3, hb3⟩; have hS3 : w3.cell? (ad.add j) = some (.int .i64 z) ∧ Below wr.heap.size wr w3 := ⟨(Below.cell hb3 (by rw [addr_block]; exact hbk)).trans hcell, Below.trans ((Below.refl _ _).drew) hb3⟩)
          | (go_at_call 26; refine (refHas_m _ l2 m _ z _ HM.out (by assumption) (by omega)).mono ?_; rintro e w4 ⟨rfl, rfl⟩))
      obtain ⟨hcell3, hb13⟩ := hS3
      have ho3 := own_bel ho hb13
      have hb03 : Below w1.heap.size w1 w3 := stepB hb hb13
      clear ho hb hb3 hcell hi3 hc3 hb13 hbk hyr
      by_cases hzm : z ∉ l2
      · have HE2 : Hid (lessTo l1 l2 (j + 1) = lessTo l1 l2 j ++ [z]) := by
          show _ = _
          rw [HE.out, if_pos (by simpa using hzm)]
        have HQ2 : Hid (q + 1 = (lessTo l1 l2 (j + 1)).length) := by
          show _ = _
          rw [HE2.out, List.length_append, ← HQ.out]
          rfl
        rw [decide_eq_false hzm]
        clear hzm HE HQ
        go_wp2_with (at_builtin; refine wpList_append_own _ rfl _ _ 24 rfl w1.heap.size 3 i0 (.int .i64 0) 1 8 Tryd.underlying24 hi hz0 hz1 hz2 rfl (by decide) _ _ _ rfl (ho3.alloc _) ⟨w3.heap.size, 0, none⟩ 1 1 [.int .i64 z] rfl rfl (cell_one_new _ _ _) (by simp [Value.oneCell']) (by unfold maxLen; omega) (by omega) (by have := hb03.size; simp; omega) ?_; intro v' w4 hown' hgrow _)
        have hb4 : Below w1.heap.size w1 w4 := (hb03.alloc hb03.size _).grown hgrow (by have := hb03.size; simp; omega) (fun p hp => (ho3.lt p hp).1)
        obtain ⟨g', cap', rfl⟩ := ownsRow_succ hown'
        have hown2 : w4.ownsRow w1.heap.size 3 1 (.slice (some ⟨g', 0, none⟩) (q + 1) cap') (q + 1) ((lessTo l1 l2 (j + 1)).map (Value.int .i64)) := by
          rw [HE2.out, List.map_append]
          exact hown'
        go_roundw
        case rel => exact ⟨j + 1, q + 1, by omega, by go_num, HQ2, hown2, hb4⟩
        case measure => simp [intOf]; omega
      · have HE2 : Hid (lessTo l1 l2 (j + 1) = lessTo l1 l2 j) := by
          show _ = _
          rw [HE.out, if_neg (by simpa using hzm), List.append_nil]
        rw [decide_eq_true (Decidable.of_not_not hzm)]
        clear hzm HE
        go_wp2
        go_roundw
        case rel => exact ⟨j + 1, q, by omega, by go_num, by show _ = _; rw [HE2.out]; exact HQ.out, by rw [HE2.out]; exact ho3, hb03⟩
        case measure => simp [intOf]; omega
    · obtain rfl : j = n := by omega
      have hq : q ≤ 4096 := by have := lessTo_len l1 l2 j; rw [← HQ.out, HN.out] at this; omega
      have HO := Lib.hid (refOf_own vA (lessTo l1 l2 j) q vc wr HQ.out (ints_own ho HQ.out) (by rw [← HQ.out]; unfold maxLen; omega))
      have hb0 : Below w.heap.size w wr := stepB hb1 hb
      clear ho
      go_wp2_with (go_at_call 23; refine HO.out.mono ?_; rintro e w5 ⟨A5, c5, rfl, ho5, hb5⟩)
      go_ret
      exact ⟨A5, c5, rfl, ⟨own_low ho5.1 hb0.size, ho5.2⟩, stepB hb0 hb5⟩
end Go.Proofs.YtnjagdocgmbmiaaDoor
