/- The reference's join of two expressions. -/
import Derived.Test.YtlaagjmfgaccjaaUB
namespace Go.Proofs.Ytlaagjmfgaccjaa.Rx
open Go Go.RowKit Go.Proofs.Ytlaagjmfgaccjaa
set_option linter.unusedVariables false
set_option maxRecDepth 100000
/-- A piece whose children's numbers begin k higher. -/
def up (k : Nat) (x : Pc) : Pc := ⟨x.op, x.p, x.q, if kids x.op ≥ 1 then x.a + k else x.a, if kids x.op = 2 then x.b + k else x.b⟩
theorem up_shift (k : Nat) (x : Pc) : up k (shift k x) = x := by
  unfold up shift
  dsimp only
  by_cases h1 : kids x.op ≥ 1
  · rw [if_pos h1, if_pos h1]
    by_cases h2 : kids x.op = 2
    · rw [if_pos h2, if_pos h2, Int.sub_add_cancel, Int.sub_add_cancel]
    · rw [if_neg h2, if_neg h2, Int.sub_add_cancel]
  · rw [if_neg h1, if_neg h1]
    by_cases h2 : kids x.op = 2
    · rw [if_pos h2, if_pos h2, Int.sub_add_cancel]
    · rw [if_neg h2, if_neg h2]
theorem flat_up (t : Ex) (k : Nat) (ho : t.Ok) : flat t k = (flat t 0).map (up k) := by
  have h := flat_shift t k 0 ho
  rw [Nat.add_zero] at h
  rw [← h, List.map_map]
  conv => lhs; rw [← List.map_id (flat t k)]
  exact List.map_congr_left fun x _ => (up_shift k x).symm
theorem pc_map {l : List Pc} {f : Pc → Pc} {d : Nat} (h : d < l.length) : pc (l.map f) d = f (pc l d) := by
  unfold pc
  rw [List.getD_eq_getElem?_getD, List.getD_eq_getElem?_getD, List.getElem?_map, List.getElem?_eq_getElem h]
  rfl
theorem pc_right {l m : List Pc} {d : Nat} : pc (l ++ m) (l.length + d) = pc m d := by
  unfold pc
  rw [List.getD_eq_getElem?_getD, List.getD_eq_getElem?_getD, List.getElem?_append_right (by omega)]
  congr 2
  omega
set_option maxHeartbeats 8000000 in
theorem join_any (ad : Addr) (B : Option Addr) (la lb : List Pc) (ca cb op : Nat) (w : World) (hA : PcsAt w (some ad) la) (hB : PcsAt w B lb) (h1 : 0 < la.length) (hl : la.length + lb.length ≤ 1000)
    (hU : ∀ d, d < lb.length → PcOk (up la.length (pc lb d))) :
    Calls Try.prog 70 #[.int .u8 op, .slice (some ad) la.length ca, .slice B lb.length cb] w fun r w' => ∃ A' c', r = .returned (.slice A' (la.length + lb.length + 1) c') ∧ w'.ownsRow w.heap.size 43 5 (.slice A' (la.length + lb.length + 1) c') (la.length + lb.length + 1) (pvs (la ++ lb.map (up la.length) ++ [⟨op, 0, 0, (la.length : Int) - 1, if lb.length = 0 then 0 else ((la.length + lb.length : Nat) : Int) - 1⟩])) ∧ Below w.heap.size w w' := by
  have HX := Lib.hid fun wr (h : Below w.heap.size w wr) q (hq : q < lb.length) => pcs_five hB h hq
  have HCp : Hid (∀ d, d < lb.length → PcOk (up la.length (pc lb d)) ∧ pvs ((la ++ lb.map (up la.length)).take (la.length + (d + 1))) = pvs ((la ++ lb.map (up la.length)).take (la.length + d)) ++ pv (up la.length (pc lb d))) := fun d hd => by
    refine ⟨hU d hd, ?_⟩
    have h := take_next (l := la ++ lb.map (up la.length)) (d := la.length + d) (by simp; exact hd)
    rw [pc_right, pc_map hd] at h
    exact h
  have H0 : Hid (pvs ((la ++ lb.map (up la.length)).take (la.length + 0)) = pvs la) := by show _ = _; rw [Nat.add_zero, List.take_left]
  have HEnd : Hid (∀ y, pvs ((la ++ lb.map (up la.length)).take (la.length + lb.length)) ++ pv y = pvs (la ++ lb.map (up la.length) ++ [y])) := fun y => by
    rw [pvs_snoc, List.take_of_length_le (by simp)]
  have hc := Lib.hid (pcs_cells hA)
  have HL := Lib.hid (pvs_len la)
  have hone : Hid (∀ x ∈ pvs la, x.oneCell' = true) := by
    intro x hx
    simp only [pvs, List.mem_flatMap, pv] at hx
    obtain ⟨y, _, hy⟩ := hx
    simp at hy
    rcases hy with rfl | rfl | rfl | rfl | rfl <;> rfl
  have HG := Lib.hid fun y : Pc => show pvs (la ++ lb.map (up la.length) ++ [y]) = pvs (la ++ lb.map (up la.length) ++ [y]) from rfl
  obtain ⟨i0, hi, hz0, hz1, hz2⟩ := info_parts info_piece
  have hnil : w.ownsRow w.heap.size 43 5 (.slice none 0 0) 0 [] := ⟨rfl, .inl ⟨rfl, rfl⟩⟩
  clear hA hB hU HG
  have hgo : Hid (∀ y, pvs (la ++ lb.map (up la.length) ++ [y]) = pvs (la ++ lb.map (up la.length) ++ [y])) := fun _ => rfl
  generalize hFN : la ++ lb.map (up la.length) = F at *
  clear hFN hgo
  generalize pvs la = LA at *
  generalize la.length = n at *
  generalize hm : lb.length = m at *
  clear hm
  go_enter Try.func70, Try.ntmps70
  go_wp2_with (at_builtin; refine wpList_append_own _ rfl _ _ 23 rfl w.heap.size 43 i0 _ 5 24 Try.underlying23 hi hz0 hz1 hz2 rfl (by decide) _ _ _ rfl hnil ad n ca LA rfl (by have := HL.out; omega) hc.out hone.out (by unfold maxLen; omega) (by omega) (Nat.le_refl _) ?_; intro v0 w1 hown1 hgrow1 _)
  rw [Nat.zero_add, List.nil_append] at hown1
  have hb1 : Below w.heap.size w w1 := (Below.refl _ _).grown hgrow1 (Nat.le_refl _) (fun q hq => by cases hq)
  clear hc hone HL hnil hgrow1
  go_loopw [7, 8] (fun u i wr => ∃ d : Nat, d ≤ m ∧ i = .int .i64 d ∧ wr.ownsRow w.heap.size 43 5 u (n + d) (pvs (F.take (n + d))) ∧ Below w.heap.size w wr) (fun _ i _ => m - (intOf i).toNat)
  case atStart => exact ⟨0, by omega, rfl, by rw [H0.out, Nat.add_zero]; exact hown1, hb1⟩
  case round =>
    clear hown1 hb1 H0
    obtain ⟨d, hd, rfl, hown, hb⟩ := hrel
    by_cases hlt : d < m
    · obtain ⟨ad', rfl, had, hok, f0, f1, f2, f3, f4⟩ := HX.out _ hb d hlt
      obtain ⟨hpo, htk⟩ := HCp.out d hlt
      have HCh := Lib.hid fun X => Children_any (pc lb d).op X hok.op
      have hln : (d : Int) < (m : Int) := by omega
      obtain ⟨y, hy⟩ : ∃ y, y = up n (pc lb d) := ⟨_, rfl⟩
      have hsh := hy
      rw [← hy] at hpo htk
      clear hy
      generalize pc lb d = x at *
      go_upto_region 6 with fail
      have HB3 : Hid (Bx5 (wr.alloc (.cells #[.int .u8 x.op, .int .u8 x.p, .int .u8 x.q, .int .i64 x.a, .int .i64 x.b] 43)) wr.heap.size x) := Bx5.new wr x
      have B3 : Hid (Below wr.heap.size wr (wr.alloc (.cells #[.int .u8 x.op, .int .u8 x.p, .int .u8 x.q, .int .i64 x.a, .int .i64 x.b] 43))) := bal (Below.refl _ _) _
      generalize wr.alloc (.cells #[.int .u8 x.op, .int .u8 x.p, .int .u8 x.q, .int .i64 x.a, .int .i64 x.b] 43) = w3 at *
      obtain ⟨p, hp⟩ : ∃ p, p = wr.heap.size := ⟨_, rfl⟩
      have HP : Hid (wr.heap.size ≤ p) := Nat.le_of_eq hp.symm
      rw [← hp] at HB3 ⊢
      clear hp f0 f1 f2 f3 f4 hok HX HCp HEnd
      obtain ⟨b0, b1, b2, b3, b4⟩ := HB3.out.cells
      have z3 := HB3.out.free 3
      have z4 := HB3.out.free 4
      rcases (show kids x.op < 1 ∨ kids x.op = 1 ∨ kids x.op = 2 by rcases kids_cases x.op with h | h | h | h <;> omega) with hK | hK | hK
      · have hyx : y = x := by rw [hsh]; unfold up; rw [if_neg (by omega), if_neg (by omega)]
        subst hyx
        have q1 : decide (1 ≤ kids y.op) = false := decide_eq_false (by omega)
        have q2 : (kids y.op == 2) = false := by rw [beq_eq_false_iff_ne]; omega
        clear hsh hpo
        generalize kids y.op = K at *
        go_upto_region 10 with (go_at_call 53; ((with_reducible refine (HCh.out _).mono ?_); rintro r w9 ⟨rfl, rfl⟩))
        have HB5 := HB3
        have B5 := B3
        obtain ⟨w5, h5⟩ : ∃ w5, w5 = w3 := ⟨_, rfl⟩
        rw [← h5] at HB5 B5 ⊢
        clear h5 b0 b1 b2 b3 b4 z3 z4 q1 q2 hK HB3 B3 HCh
        · obtain ⟨b0, b1, b2, b3, b4⟩ := HB5.out.cells
          have own5 := Ap.own_bel hown B5.out
          have hb5 := Lib.hid (stepB hb B5.out)
          have hs5 := hb5.out.size
          try simp only at b0 b1 b2 b3 b4
          go_wp2_with (at_builtin; refine wpList_append_own _ rfl _ _ 23 rfl w.heap.size 43 i0 _ 5 24 Try.underlying23 hi hz0 hz1 hz2 rfl (by decide) _ _ _ rfl (Ap.own_bel own5 (bal (Below.refl _ _) _)) ⟨w5.heap.size, 0, none⟩ 1 1 (pv y) rfl rfl (cells_new _ _ _) (by simp [pv, Value.oneCell']) (by unfold maxLen; omega) (by omega) (by simp; omega) ?_; intro v' w6 hown' hgrow _)
          have hb6 : Below w.heap.size w w6 := (hb5.out.alloc hs5 _).grown hgrow (by simp; omega) (fun q hq => (own5.lt q hq).1)
          go_roundw
          case rel => exact ⟨d + 1, by omega, by go_num, by rw [htk]; exact hown', hb6⟩
          case measure => simp [intOf]; omega
      · have hyx : y = ⟨x.op, x.p, x.q, x.a + (n : Int), x.b⟩ := by rw [hsh]; unfold up; rw [if_pos (by omega), if_neg (by omega)]
        clear hsh
        subst hyx
        have hya : -9223372036854775808 ≤ x.a + (n : Int) ∧ x.a + (n : Int) ≤ 9223372036854775807 := hpo.a
        rw [hK] at HCh
        clear hpo hK
        go_upto_region 10 with (go_at_call 53; ((with_reducible refine (HCh.out _).mono ?_); rintro r w9 ⟨rfl, rfl⟩))
        have HB5 := Lib.hid (HB3.out.setA (x.a + (n : Int)))
        have B5 := Lib.hid (B3.out.setCell (p := ⟨p, 3, none⟩) HP.out (.int .i64 (x.a + (n : Int))))
        generalize (w3.setCell ⟨p, 3, none⟩ (.int .i64 (x.a + (n : Int)))) = w5 at *
        clear b0 b1 b2 b3 b4 z3 z4 HB3 B3 HCh
        · obtain ⟨b0, b1, b2, b3, b4⟩ := HB5.out.cells
          have own5 := Ap.own_bel hown B5.out
          have hb5 := Lib.hid (stepB hb B5.out)
          have hs5 := hb5.out.size
          try simp only at b0 b1 b2 b3 b4
          go_wp2_with (at_builtin; refine wpList_append_own _ rfl _ _ 23 rfl w.heap.size 43 i0 _ 5 24 Try.underlying23 hi hz0 hz1 hz2 rfl (by decide) _ _ _ rfl (Ap.own_bel own5 (bal (Below.refl _ _) _)) ⟨w5.heap.size, 0, none⟩ 1 1 [.int .u8 x.op, .int .u8 x.p, .int .u8 x.q, .int .i64 (x.a + (n : Int)), .int .i64 (x.b)] rfl rfl (cells_new _ _ _) (by simp [Value.oneCell']) (by unfold maxLen; omega) (by omega) (by simp; omega) ?_; intro v' w6 hown' hgrow _)
          have hb6 : Below w.heap.size w w6 := (hb5.out.alloc hs5 _).grown hgrow (by simp; omega) (fun q hq => (own5.lt q hq).1)
          go_roundw
          case rel => exact ⟨d + 1, by omega, by go_num, by rw [htk]; exact hown', hb6⟩
          case measure => simp [intOf]; omega
      · have hyx : y = ⟨x.op, x.p, x.q, x.a + (n : Int), x.b + (n : Int)⟩ := by rw [hsh]; unfold up; rw [if_pos (by omega), if_pos (by omega)]
        clear hsh
        subst hyx
        have hya : -9223372036854775808 ≤ x.a + (n : Int) ∧ x.a + (n : Int) ≤ 9223372036854775807 := hpo.a
        have hyb : -9223372036854775808 ≤ x.b + (n : Int) ∧ x.b + (n : Int) ≤ 9223372036854775807 := hpo.b
        rw [hK] at HCh
        clear hpo hK
        go_upto_region 10 with (go_at_call 53; ((with_reducible refine (HCh.out _).mono ?_); rintro r w9 ⟨rfl, rfl⟩))
        have HB5 := Lib.hid (HB3.out.setA (x.a + (n : Int)))
        have B5 := Lib.hid (B3.out.setCell (p := ⟨p, 3, none⟩) HP.out (.int .i64 (x.a + (n : Int))))
        have HB5 := Lib.hid (HB5.out.setB (x.b + (n : Int)))
        have B5 := Lib.hid (B5.out.setCell (p := ⟨p, 4, none⟩) HP.out (.int .i64 (x.b + (n : Int))))
        generalize ((w3.setCell ⟨p, 3, none⟩ (.int .i64 (x.a + (n : Int)))).setCell ⟨p, 4, none⟩ (.int .i64 (x.b + (n : Int)))) = w5 at *
        clear b0 b1 b2 b3 b4 z3 z4 HB3 B3 HCh
        · obtain ⟨b0, b1, b2, b3, b4⟩ := HB5.out.cells
          have own5 := Ap.own_bel hown B5.out
          have hb5 := Lib.hid (stepB hb B5.out)
          have hs5 := hb5.out.size
          try simp only at b0 b1 b2 b3 b4
          go_wp2_with (at_builtin; refine wpList_append_own _ rfl _ _ 23 rfl w.heap.size 43 i0 _ 5 24 Try.underlying23 hi hz0 hz1 hz2 rfl (by decide) _ _ _ rfl (Ap.own_bel own5 (bal (Below.refl _ _) _)) ⟨w5.heap.size, 0, none⟩ 1 1 [.int .u8 x.op, .int .u8 x.p, .int .u8 x.q, .int .i64 (x.a + (n : Int)), .int .i64 (x.b + (n : Int))] rfl rfl (cells_new _ _ _) (by simp [Value.oneCell']) (by unfold maxLen; omega) (by omega) (by simp; omega) ?_; intro v' w6 hown' hgrow _)
          have hb6 : Below w.heap.size w w6 := (hb5.out.alloc hs5 _).grown hgrow (by simp; omega) (fun q hq => (own5.lt q hq).1)
          go_roundw
          case rel => exact ⟨d + 1, by omega, by go_num, by rw [htk]; exact hown', hb6⟩
          case measure => simp [intOf]; omega
    · obtain rfl : d = m := by omega
      have hs5 := hb.size
      clear HX HCp
      by_cases hd0 : d = 0
      · subst hd0
        have HE := Lib.hid (HEnd.out ⟨op, 0, 0, (n : Int) - 1, 0⟩)
        clear HEnd
        go_wp2_with (at_builtin; refine wpList_append_own _ rfl _ _ 23 rfl w.heap.size 43 i0 _ 5 24 Try.underlying23 hi hz0 hz1 hz2 rfl (by decide) _ _ _ rfl (Ap.own_bel hown (bal (Below.refl _ _) _)) ⟨wr.heap.size, 0, none⟩ 1 1 [.int .u8 op, .int .u8 0, .int .u8 0, .int .i64 ((n : Int) - 1), .int .i64 0] rfl rfl (cells_new _ _ _) (by simp [Value.oneCell']) (by unfold maxLen; omega) (by omega) (by simp; omega) ?_; intro v' w6 hown' hgrow _)
        have hb6 : Below w.heap.size w w6 := (hb.alloc hs5 _).grown hgrow (by simp; omega) (fun q hq => (hown.lt q hq).1)
        go_ret
        obtain ⟨A', c', rfl, _⟩ := Ap.own_form hown'
        exact ⟨A', c', rfl, by rw [← HE.out]; exact hown', hb6⟩
      · have hne : ((d : Int) == 0) = false := by rw [beq_eq_false_iff_ne]; omega
        have HE := Lib.hid (HEnd.out ⟨op, 0, 0, (n : Int) - 1, (n : Int) + (d : Int) - 1⟩)
        clear HEnd
        go_wp2_with (at_builtin; refine wpList_append_own _ rfl _ _ 23 rfl w.heap.size 43 i0 _ 5 24 Try.underlying23 hi hz0 hz1 hz2 rfl (by decide) _ _ _ rfl (Ap.own_bel hown (bal (Below.refl _ _) _)) ⟨wr.heap.size, 0, none⟩ 1 1 [.int .u8 op, .int .u8 0, .int .u8 0, .int .i64 ((n : Int) - 1), .int .i64 ((n : Int) + (d : Int) - 1)] rfl rfl (cells_new _ _ _) (by simp [Value.oneCell']) (by unfold maxLen; omega) (by omega) (by simp; omega) ?_; intro v' w6 hown' hgrow _)
        have hb6 : Below w.heap.size w w6 := (hb.alloc hs5 _).grown hgrow (by simp; omega) (fun q hq => (hown.lt q hq).1)
        go_ret
        obtain ⟨A', c', rfl, _⟩ := Ap.own_form hown'
        exact ⟨A', c', rfl, by rw [← HE.out]; exact hown', hb6⟩
end Go.Proofs.Ytlaagjmfgaccjaa.Rx
