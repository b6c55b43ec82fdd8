/- The reference's derivative (package sentinelref05). -/
import Derived.Test.YteckkbjpeckjmaaTBE
import Derived.Test.YteckkbjpeckjmaaYZZA
import Derived.Test.YteckkbjpeckjmaaYZZC
namespace Go.Proofs.Yteckkbjpeckjmaa.Rx
open Go Go.RowKit Go.Proofs.Yteckkbjpeckjmaa
set_option linter.unusedVariables false
set_option linter.unusedSimpArgs false
set_option maxRecDepth 100000
/-- A piece whose children's numbers begin k higher. -/
def up (k : Nat) (x : Pc) : Pc := ⟨x.op, x.p, x.q, if kids x.op ≥ 1 then x.a + k else x.a, if kids x.op = 2 then x.b + k else x.b⟩
theorem up_shift (k : Nat) (x : Pc) : up k (shift k x) = x := by
  unfold up shift
  dsimp only
  by_cases h1 : kids x.op ≥ 1
  · rw [if_pos h1, if_pos h1]
    by_cases h2 : kids x.op = 2
    · rw [if_pos h2, if_pos h2, Int.sub_add_cancel, Int.sub_add_cancel]
    · rw [if_neg h2, if_neg h2, Int.sub_add_cancel]
  · rw [if_neg h1, if_neg h1]
    by_cases h2 : kids x.op = 2
    · rw [if_pos h2, if_pos h2, Int.sub_add_cancel]
    · rw [if_neg h2, if_neg h2]
theorem flat_up (t : Ex) (k : Nat) (ho : t.Ok) : flat t k = (flat t 0).map (up k) := by
  have h := flat_shift t k 0 ho
  rw [Nat.add_zero] at h
  rw [← h, List.map_map]
  conv => lhs; rw [← List.map_id (flat t k)]
  exact List.map_congr_left fun x _ => (up_shift k x).symm
theorem pc_map {l : List Pc} {f : Pc → Pc} {d : Nat} (h : d < l.length) : pc (l.map f) d = f (pc l d) := by
  unfold pc
  rw [List.getD_eq_getElem?_getD, List.getD_eq_getElem?_getD, List.getElem?_map, List.getElem?_eq_getElem h]
  rfl
theorem pc_right {l m : List Pc} {d : Nat} : pc (l ++ m) (l.length + d) = pc m d := by
  unfold pc
  rw [List.getD_eq_getElem?_getD, List.getD_eq_getElem?_getD, List.getElem?_append_right (by omega)]
  congr 2
  omega
set_option maxHeartbeats 8000000 in
theorem join5_any (ad : Addr) (B : Option Addr) (la lb : List Pc) (ca cb op : Nat) (w : World) (hA : PcsAt w (some ad) la) (hB : PcsAt w B lb) (h1 : 0 < la.length) (hl : la.length + lb.length ≤ 20000)
    (hU : ∀ d, d < lb.length → PcOk (up la.length (pc lb d))) :
    Calls Try.prog 75 #[.int .u8 op, .slice (some ad) la.length ca, .slice B lb.length cb] w fun r w' => ∃ A' c', r = .returned (.slice A' (la.length + lb.length + 1) c') ∧ w'.ownsRow w.heap.size 32 5 (.slice A' (la.length + lb.length + 1) c') (la.length + lb.length + 1) (pvs (la ++ lb.map (up la.length) ++ [⟨op, 0, 0, (la.length : Int) - 1, if lb.length = 0 then 0 else ((la.length + lb.length : Nat) : Int) - 1⟩])) ∧ Below w.heap.size w w' := by
  have HX := Lib.hid fun wr (h : Below w.heap.size w wr) q (hq : q < lb.length) => pcs_five hB h hq
  have HCp : Hid (∀ d, d < lb.length → PcOk (up la.length (pc lb d)) ∧ pvs ((la ++ lb.map (up la.length)).take (la.length + (d + 1))) = pvs ((la ++ lb.map (up la.length)).take (la.length + d)) ++ pv (up la.length (pc lb d))) := fun d hd => by
    refine ⟨hU d hd, ?_⟩
    have h := take_next (l := la ++ lb.map (up la.length)) (d := la.length + d) (by simp; exact hd)
    rw [pc_right, pc_map hd] at h
    exact h
  have H0 : Hid (pvs ((la ++ lb.map (up la.length)).take (la.length + 0)) = pvs la) := by show _ = _; rw [Nat.add_zero, List.take_left]
  have HEnd : Hid (∀ y, pvs ((la ++ lb.map (up la.length)).take (la.length + lb.length)) ++ pv y = pvs (la ++ lb.map (up la.length) ++ [y])) := fun y => by
    rw [pvs_snoc, List.take_of_length_le (by simp)]
  have hc := Lib.hid (pcs_cells hA)
  have HL := Lib.hid (pvs_len la)
  have hone : Hid (∀ x ∈ pvs la, x.oneCell' = true) := by
    intro x hx
    simp only [pvs, List.mem_flatMap, pv] at hx
    obtain ⟨y, _, hy⟩ := hx
    simp at hy
    rcases hy with rfl | rfl | rfl | rfl | rfl <;> rfl
  have HG := Lib.hid fun y : Pc => show pvs (la ++ lb.map (up la.length) ++ [y]) = pvs (la ++ lb.map (up la.length) ++ [y]) from rfl
  obtain ⟨i0, hi, hz0, hz1, hz2⟩ := info_parts info_piece
  have hnil : w.ownsRow w.heap.size 32 5 (.slice none 0 0) 0 [] := ⟨rfl, .inl ⟨rfl, rfl⟩⟩
  clear hA hB hU HG
  have hgo : Hid (∀ y, pvs (la ++ lb.map (up la.length) ++ [y]) = pvs (la ++ lb.map (up la.length) ++ [y])) := fun _ => rfl
  generalize hFN : la ++ lb.map (up la.length) = F at *
  clear hFN hgo
  generalize pvs la = LA at *
  generalize la.length = n at *
  generalize hm : lb.length = m at *
  clear hm
  go_enter Try.func75, Try.ntmps75
  go_wp2_with (at_builtin; refine wpList_append_own _ rfl _ _ 27 rfl w.heap.size 32 i0 _ 5 24 Try.underlying27 hi hz0 hz1 hz2 rfl (by decide) _ _ _ rfl hnil ad n ca LA rfl (by have := HL.out; omega) hc.out hone.out (by unfold maxLen; omega) (by omega) (Nat.le_refl _) ?_; intro v0 w1 hown1 hgrow1 _)
  rw [Nat.zero_add, List.nil_append] at hown1
  have hb1 : Below w.heap.size w w1 := (Below.refl _ _).grown hgrow1 (Nat.le_refl _) (fun q hq => by cases hq)
  clear hc hone HL hnil hgrow1
  go_loopw [7, 8] (fun u i wr => ∃ d : Nat, d ≤ m ∧ i = .int .i64 d ∧ wr.ownsRow w.heap.size 32 5 u (n + d) (pvs (F.take (n + d))) ∧ Below w.heap.size w wr) (fun _ i _ => m - (intOf i).toNat)
  case atStart => exact ⟨0, by omega, rfl, by rw [H0.out, Nat.add_zero]; exact hown1, hb1⟩
  case round =>
    clear hown1 hb1 H0
    obtain ⟨d, hd, rfl, hown, hb⟩ := hrel
    by_cases hlt : d < m
    · obtain ⟨ad', rfl, had, hok, f0, f1, f2, f3, f4⟩ := HX.out _ hb d hlt
      obtain ⟨hpo, htk⟩ := HCp.out d hlt
      have HCh := Lib.hid fun X => Children_any (pc lb d).op X hok.op
      have hln : (d : Int) < (m : Int) := by omega
      obtain ⟨y, hy⟩ : ∃ y, y = up n (pc lb d) := ⟨_, rfl⟩
      have hsh := hy
      rw [← hy] at hpo htk
      clear hy
      generalize pc lb d = x at *
      go_upto_region 6 with fail
      have HB3 : Hid (Bx5 (wr.alloc (.cells #[.int .u8 x.op, .int .u8 x.p, .int .u8 x.q, .int .i64 x.a, .int .i64 x.b] 32)) wr.heap.size x) := Bx5.new wr x
      have B3 : Hid (Below wr.heap.size wr (wr.alloc (.cells #[.int .u8 x.op, .int .u8 x.p, .int .u8 x.q, .int .i64 x.a, .int .i64 x.b] 32))) := bal (Below.refl _ _) _
      generalize wr.alloc (.cells #[.int .u8 x.op, .int .u8 x.p, .int .u8 x.q, .int .i64 x.a, .int .i64 x.b] 32) = w3 at *
      obtain ⟨p, hp⟩ : ∃ p, p = wr.heap.size := ⟨_, rfl⟩
      have HP : Hid (wr.heap.size ≤ p) := Nat.le_of_eq hp.symm
      rw [← hp] at HB3 ⊢
      clear hp f0 f1 f2 f3 f4 hok HX HCp HEnd
      obtain ⟨b0, b1, b2, b3, b4⟩ := HB3.out.cells
      have z3 := HB3.out.free 3
      have z4 := HB3.out.free 4
      rcases (show kids x.op < 1 ∨ kids x.op = 1 ∨ kids x.op = 2 by rcases kids_cases x.op with h | h | h | h <;> omega) with hK | hK | hK
      · have hyx : y = x := by rw [hsh]; unfold up; rw [if_neg (by omega), if_neg (by omega)]
        subst hyx
        have q1 : decide (1 ≤ kids y.op) = false := decide_eq_false (by omega)
        have q2 : (kids y.op == 2) = false := by rw [beq_eq_false_iff_ne]; omega
        clear hsh hpo
        generalize kids y.op = K at *
        go_upto_region 10 with (go_at_call 93; ((with_reducible refine (HCh.out _).mono ?_); rintro r w9 ⟨rfl, rfl⟩))
        have HB5 := HB3
        have B5 := B3
        obtain ⟨w5, h5⟩ : ∃ w5, w5 = w3 := ⟨_, rfl⟩
        rw [← h5] at HB5 B5 ⊢
        clear h5 b0 b1 b2 b3 b4 z3 z4 q1 q2 hK HB3 B3 HCh
        · obtain ⟨b0, b1, b2, b3, b4⟩ := HB5.out.cells
          have own5 := Ap.own_bel hown B5.out
          have hb5 := Lib.hid (stepB hb B5.out)
          have hs5 := hb5.out.size
          try simp only at b0 b1 b2 b3 b4
          go_wp2_with (at_builtin; refine wpList_append_own _ rfl _ _ 27 rfl w.heap.size 32 i0 _ 5 24 Try.underlying27 hi hz0 hz1 hz2 rfl (by decide) _ _ _ rfl (Ap.own_bel own5 (bal (Below.refl _ _) _)) ⟨w5.heap.size, 0, none⟩ 1 1 (pv y) rfl rfl (cells_new _ _ _) (by simp [pv, Value.oneCell']) (by unfold maxLen; omega) (by omega) (by simp; omega) ?_; intro v' w6 hown' hgrow _)
          have hb6 : Below w.heap.size w w6 := (hb5.out.alloc hs5 _).grown hgrow (by simp; omega) (fun q hq => (own5.lt q hq).1)
          go_roundw
          case rel => exact ⟨d + 1, by omega, by go_num, by rw [htk]; exact hown', hb6⟩
          case measure => simp [intOf]; omega
      · have hyx : y = ⟨x.op, x.p, x.q, x.a + (n : Int), x.b⟩ := by rw [hsh]; unfold up; rw [if_pos (by omega), if_neg (by omega)]
        clear hsh
        subst hyx
        have hya : -9223372036854775808 ≤ x.a + (n : Int) ∧ x.a + (n : Int) ≤ 9223372036854775807 := hpo.a
        rw [hK] at HCh
        clear hpo hK
        go_upto_region 10 with (go_at_call 93; ((with_reducible refine (HCh.out _).mono ?_); rintro r w9 ⟨rfl, rfl⟩))
        have HB5 := Lib.hid (HB3.out.setA (x.a + (n : Int)))
        have B5 := Lib.hid (B3.out.setCell (p := ⟨p, 3, none⟩) HP.out (.int .i64 (x.a + (n : Int))))
        generalize (w3.setCell ⟨p, 3, none⟩ (.int .i64 (x.a + (n : Int)))) = w5 at *
        clear b0 b1 b2 b3 b4 z3 z4 HB3 B3 HCh
        · obtain ⟨b0, b1, b2, b3, b4⟩ := HB5.out.cells
          have own5 := Ap.own_bel hown B5.out
          have hb5 := Lib.hid (stepB hb B5.out)
          have hs5 := hb5.out.size
          try simp only at b0 b1 b2 b3 b4
          go_wp2_with (at_builtin; refine wpList_append_own _ rfl _ _ 27 rfl w.heap.size 32 i0 _ 5 24 Try.underlying27 hi hz0 hz1 hz2 rfl (by decide) _ _ _ rfl (Ap.own_bel own5 (bal (Below.refl _ _) _)) ⟨w5.heap.size, 0, none⟩ 1 1 [.int .u8 x.op, .int .u8 x.p, .int .u8 x.q, .int .i64 (x.a + (n : Int)), .int .i64 (x.b)] rfl rfl (cells_new _ _ _) (by simp [Value.oneCell']) (by unfold maxLen; omega) (by omega) (by simp; omega) ?_; intro v' w6 hown' hgrow _)
          have hb6 : Below w.heap.size w w6 := (hb5.out.alloc hs5 _).grown hgrow (by simp; omega) (fun q hq => (own5.lt q hq).1)
          go_roundw
          case rel => exact ⟨d + 1, by omega, by go_num, by rw [htk]; exact hown', hb6⟩
          case measure => simp [intOf]; omega
      · have hyx : y = ⟨x.op, x.p, x.q, x.a + (n : Int), x.b + (n : Int)⟩ := by rw [hsh]; unfold up; rw [if_pos (by omega), if_pos (by omega)]
        clear hsh
        subst hyx
        have hya : -9223372036854775808 ≤ x.a + (n : Int) ∧ x.a + (n : Int) ≤ 9223372036854775807 := hpo.a
        have hyb : -9223372036854775808 ≤ x.b + (n : Int) ∧ x.b + (n : Int) ≤ 9223372036854775807 := hpo.b
        rw [hK] at HCh
        clear hpo hK
        go_upto_region 10 with (go_at_call 93; ((with_reducible refine (HCh.out _).mono ?_); rintro r w9 ⟨rfl, rfl⟩))
        have HB5 := Lib.hid (HB3.out.setA (x.a + (n : Int)))
        have B5 := Lib.hid (B3.out.setCell (p := ⟨p, 3, none⟩) HP.out (.int .i64 (x.a + (n : Int))))
        have HB5 := Lib.hid (HB5.out.setB (x.b + (n : Int)))
        have B5 := Lib.hid (B5.out.setCell (p := ⟨p, 4, none⟩) HP.out (.int .i64 (x.b + (n : Int))))
        generalize ((w3.setCell ⟨p, 3, none⟩ (.int .i64 (x.a + (n : Int)))).setCell ⟨p, 4, none⟩ (.int .i64 (x.b + (n : Int)))) = w5 at *
        clear b0 b1 b2 b3 b4 z3 z4 HB3 B3 HCh
        · obtain ⟨b0, b1, b2, b3, b4⟩ := HB5.out.cells
          have own5 := Ap.own_bel hown B5.out
          have hb5 := Lib.hid (stepB hb B5.out)
          have hs5 := hb5.out.size
          try simp only at b0 b1 b2 b3 b4
          go_wp2_with (at_builtin; refine wpList_append_own _ rfl _ _ 27 rfl w.heap.size 32 i0 _ 5 24 Try.underlying27 hi hz0 hz1 hz2 rfl (by decide) _ _ _ rfl (Ap.own_bel own5 (bal (Below.refl _ _) _)) ⟨w5.heap.size, 0, none⟩ 1 1 [.int .u8 x.op, .int .u8 x.p, .int .u8 x.q, .int .i64 (x.a + (n : Int)), .int .i64 (x.b + (n : Int))] rfl rfl (cells_new _ _ _) (by simp [Value.oneCell']) (by unfold maxLen; omega) (by omega) (by simp; omega) ?_; intro v' w6 hown' hgrow _)
          have hb6 : Below w.heap.size w w6 := (hb5.out.alloc hs5 _).grown hgrow (by simp; omega) (fun q hq => (own5.lt q hq).1)
          go_roundw
          case rel => exact ⟨d + 1, by omega, by go_num, by rw [htk]; exact hown', hb6⟩
          case measure => simp [intOf]; omega
    · obtain rfl : d = m := by omega
      have hs5 := hb.size
      clear HX HCp
      by_cases hd0 : d = 0
      · subst hd0
        have HE := Lib.hid (HEnd.out ⟨op, 0, 0, (n : Int) - 1, 0⟩)
        clear HEnd
        go_wp2_with (at_builtin; refine wpList_append_own _ rfl _ _ 27 rfl w.heap.size 32 i0 _ 5 24 Try.underlying27 hi hz0 hz1 hz2 rfl (by decide) _ _ _ rfl (Ap.own_bel hown (bal (Below.refl _ _) _)) ⟨wr.heap.size, 0, none⟩ 1 1 [.int .u8 op, .int .u8 0, .int .u8 0, .int .i64 ((n : Int) - 1), .int .i64 0] rfl rfl (cells_new _ _ _) (by simp [Value.oneCell']) (by unfold maxLen; omega) (by omega) (by simp; omega) ?_; intro v' w6 hown' hgrow _)
        have hb6 : Below w.heap.size w w6 := (hb.alloc hs5 _).grown hgrow (by simp; omega) (fun q hq => (hown.lt q hq).1)
        go_ret
        obtain ⟨A', c', rfl, _⟩ := Ap.own_form hown'
        exact ⟨A', c', rfl, by rw [← HE.out]; exact hown', hb6⟩
      · have hne : ((d : Int) == 0) = false := by rw [beq_eq_false_iff_ne]; omega
        have HE := Lib.hid (HEnd.out ⟨op, 0, 0, (n : Int) - 1, (n : Int) + (d : Int) - 1⟩)
        clear HEnd
        obtain ⟨Ao, co, rfl, _⟩ := Ap.own_form hown
        go_wp2_with (at_builtin; refine wpList_append_own _ rfl _ _ 27 rfl w.heap.size 32 i0 _ 5 24 Try.underlying27 hi hz0 hz1 hz2 rfl (by decide) _ _ _ rfl (Ap.own_bel hown (bal (Below.refl _ _) _)) ⟨wr.heap.size, 0, none⟩ 1 1 [.int .u8 op, .int .u8 0, .int .u8 0, .int .i64 ((n : Int) - 1), .int .i64 ((n : Int) + (d : Int) - 1)] rfl rfl (cells_new _ _ _) (by simp [Value.oneCell']) (by unfold maxLen; omega) (by omega) (by simp; omega) ?_; intro v' w6 hown' hgrow _)
        have hb6 : Below w.heap.size w w6 := (hb.alloc hs5 _).grown hgrow (by simp; omega) (fun q hq => (hown.lt q hq).1)
        go_ret
        obtain ⟨A', c', rfl, _⟩ := Ap.own_form hown'
        exact ⟨A', c', rfl, by rw [← HE.out]; exact hown', hb6⟩
theorem pcs_some {w : World} {A : Option Addr} {l : List Pc} (h : PcsAt w A l) (h0 : 0 < l.length) : ∃ ad, A = some ad := by
  obtain ⟨_, ad, e, _⟩ := h 0 h0
  exact ⟨ad, e⟩
theorem flat_pos (t : Ex) (k : Nat) : 0 < (flat t k).length := by rw [flat_len]; exact t.pos
theorem fine_all {t : Ex} (ho : t.Ok) (hP : t.P8) (hs : t.size ≤ 100000) (k : Nat) (hk : k ≤ 100000) : ∀ x ∈ flat t k, PcOk x := flat_fine t k ho hP (by omega)
/-- Cut, with a block of a tree. -/
theorem cut_tree (A : Option Addr) (t a : Ex) (n c s j : Nat) (hn : n = t.size) (hs : t.size ≤ 400) (w : World) (hx : PcsAt w A (flat t 0)) (ho : a.Ok) (hP : a.P8) (hb : Bl (flat t 0) s j a) (hz : a.size ≤ 400) (J : Int) (hJ : J = j) :
    Calls Try.prog 74 #[.slice A n c, .int .i64 J] w fun r w' => ∃ ad c', r = .returned (.slice (some ad) a.size c') ∧ PcsAt w' (some ad) (flat a 0) ∧ Below w.heap.size w w' := by
  have h := Cut_any A (flat t 0) c (by rw [flat_len]; omega) a s j w hx ho hP hb (by omega)
  rw [flat_len] at h
  subst hn hJ
  refine h.mono ?_
  rintro r w' ⟨A', c', rfl, hown, hb⟩
  have hp := pcs_of_own hown (fine_all ho hP (by omega) 0 (by omega))
  obtain ⟨ad, rfl⟩ := pcs_some hp (flat_pos a 0)
  exact ⟨ad, c', rfl, hp, hb⟩
theorem join5_one (ad : Addr) (x : Ex) (n c op : Nat) (hn : n = x.size) (w : World) (hx : PcsAt w (some ad) (flat x 0)) (ho : (Ex.one op x).Ok) (hP : x.P8) (hs : x.size ≤ 20000) :
    Calls Try.prog 75 #[.int .u8 op, .slice (some ad) n c, .slice none 0 0] w fun r w' => ∃ ad' c', r = .returned (.slice (some ad') (n + 1) c') ∧ PcsAt w' (some ad') (flat (.one op x) 0) ∧ Below w.heap.size w w' := by
  have h := join5_any ad none (flat x 0) [] c 0 op w hx (fun j hj => absurd hj (by simp)) (flat_pos x 0) (by rw [flat_len]; simp; omega) (fun d hd => absurd hd (by simp))
  subst hn
  rw [flat_len] at h
  refine Calls.mono h ?_
  rintro r w' ⟨A', c', rfl, hown, hb⟩
  rw [show flat x 0 ++ ([] : List Pc).map (up x.size) ++ [⟨op, 0, 0, (x.size : Int) - 1, if ([] : List Pc).length = 0 then 0 else ((x.size + ([] : List Pc).length : Nat) : Int) - 1⟩] = flat (.one op x) 0 by simp [flat]] at hown
  have hp := pcs_of_own hown (fine_all ho (show (Ex.one op x).P8 from hP) (by show x.size + 1 ≤ _; omega) 0 (by omega))
  obtain ⟨ad', rfl⟩ := pcs_some hp (flat_pos _ 0)
  exact ⟨ad', c', rfl, hp, hb⟩
theorem join5_two (ad ae : Addr) (x y : Ex) (n m c d op : Nat) (hn : n = x.size) (hm : m = y.size) (w : World) (hx : PcsAt w (some ad) (flat x 0)) (hy : PcsAt w (some ae) (flat y 0)) (ho : (Ex.two op x y).Ok) (hP : x.P8) (hQ : y.P8) (hs : x.size + y.size ≤ 20000) :
    Calls Try.prog 75 #[.int .u8 op, .slice (some ad) n c, .slice (some ae) m d] w fun r w' => ∃ ad' c', r = .returned (.slice (some ad') (n + m + 1) c') ∧ PcsAt w' (some ad') (flat (.two op x y) 0) ∧ Below w.heap.size w w' := by
  have hup := flat_up y x.size ho.2.2
  have h := join5_any ad (some ae) (flat x 0) (flat y 0) c d op w hx hy (flat_pos x 0) (by rw [flat_len, flat_len]; omega) (fun d hd => by
    rw [← pc_map (f := up (flat x 0).length) hd, flat_len, ← hup]
    refine fine_all ho.2.2 hQ (by omega) x.size (by omega) _ ?_
    unfold pc
    rw [flat_len] at hd
    rw [List.getD_eq_getElem?_getD, List.getElem?_eq_getElem (by rw [flat_len]; exact hd)]
    exact List.getElem_mem _)
  subst hn hm
  rw [flat_len, flat_len, ← hup] at h
  have hy0 := y.pos
  refine Calls.mono h ?_
  rintro r w' ⟨A', c', rfl, hown, hb⟩
  rw [if_neg (by omega), show flat x 0 ++ flat y x.size ++ [⟨op, 0, 0, (x.size : Int) - 1, ((x.size + y.size : Nat) : Int) - 1⟩] = flat (.two op x y) 0 by simp [flat]] at hown
  have hp := pcs_of_own hown (fine_all ho (show (Ex.two op x y).P8 from ⟨hP, hQ⟩) (by show x.size + y.size + 1 ≤ _; omega) 0 (by omega))
  obtain ⟨ad', rfl⟩ := pcs_some hp (flat_pos _ 0)
  exact ⟨ad', c', rfl, hp, hb⟩
theorem ret_slice5 {ad : Addr} {n m c : Nat} (h : n = m) : Ending.returned (.slice (some ad) n c) = .returned (.slice (some ad) m c) := by rw [h]
theorem der_le (x : Nat) (t : Ex) (h : t.size ≤ 64) : (der x t).size ≤ 4224 := by
  have := der_size x t
  have h2 : t.size * (t.size + 2) ≤ 64 * 66 := Nat.mul_le_mul h (by omega)
  omega
theorem none_ok : (Ex.leaf 1 0 0).Ok := ⟨by decide, fun _ => ⟨rfl, rfl⟩⟩
theorem empty_ok : (Ex.leaf 2 0 0).Ok := ⟨by decide, fun _ => ⟨rfl, rfl⟩⟩
set_option maxHeartbeats 8000000 in
theorem derive5_any (v : Int) (hv0 : 0 ≤ v) (hv6 : v ≤ 6) (y : Nat) (hy : y < 256) : ∀ (t : Ex) (A : Option Addr) (n c : Nat) (w : World), n = t.size → PcsAt w A (flat t 0) → t.Ok → t.Cubes v → plainT t = true → t.size ≤ 64 →
    Calls Try.prog 48 #[.slice A n c, .int .i64 v, .int .u8 y] w fun r w' => ∃ ad c', r = .returned (.slice (some ad) (der y t).size c') ∧ PcsAt w' (some ad) (flat (der y t) 0) ∧ Below w.heap.size w w'
  | .leaf op p q, A, n, c, w, hn, hx, ho, hcu, hpl, hs => by
    obtain rfl : n = 1 := hn
    obtain ⟨hok, ad, rfl, _, hc⟩ := hx 0 (by simp [flat])
    obtain ⟨f0, f1, f2, f3, f4⟩ := five_at hc
    rw [show pc (flat (.leaf op p q) 0) 0 = ⟨op, p, q, 0, 0⟩ from rfl] at f0 f1 f2 f3 f4 hok
    dsimp only at f0 f1 f2 f3 f4
    have e0 : ad.add (0 * 5) = ad := by simp [Addr.add]
    rw [e0] at f0 f1 f2 f3 f4
    clear e0
    have HF1 := Lib.hid fun X => pcs_new X (flat (.leaf 1 0 0) 0) (by simp [flat]) (fine_all none_ok (show (Ex.leaf 1 0 0).P8 from ⟨by decide, by decide⟩) (show (1 : Nat) ≤ 100000 by decide) 0 (by omega))
    have HF2 := Lib.hid fun X => pcs_new X (flat (.leaf 2 0 0) 0) (by simp [flat]) (fine_all empty_ok (show (Ex.leaf 2 0 0).P8 from ⟨by decide, by decide⟩) (show (1 : Nat) ≤ 100000 by decide) 0 (by omega))
    have hop := ho.1
    have HLt := Lib.hid fun X => kitLetter_any y p q X hok.p hok.q hy
    have hy2 := Lib.hid hy
    clear hc hok hx ho hcu hs hpl
    rcases leaf_ops hop with rfl | rfl | rfl
    · go_enter Try.func48, Try.ntmps48
      go_wp2
      go_ret
      have h := HF1.out (w.alloc (.cells #[.int .u8 1, .int .u8 p, .int .u8 q, .int .i64 0, .int .i64 0] 32))
      rw [World.size_alloc] at h
      exact ⟨_, _, rfl, h, bal (bal (Below.refl _ _) _) _⟩
    · go_enter Try.func48, Try.ntmps48
      go_wp2
      go_ret
      have h := HF1.out (w.alloc (.cells #[.int .u8 2, .int .u8 p, .int .u8 q, .int .i64 0, .int .i64 0] 32))
      rw [World.size_alloc] at h
      exact ⟨_, _, rfl, h, bal (bal (Below.refl _ _) _) _⟩
    · have hd : der y (.leaf 3 p q) = if cHas p q y = true then .leaf 2 0 0 else .leaf 1 0 0 := by
        unfold der
        by_cases h : cHas p q y = true
        · rw [if_pos ⟨rfl, h⟩, if_pos h]
        · rw [if_neg (fun h2 => h h2.2), if_neg h]
      rw [hd]
      generalize cHas p q y = b at *
      clear hd
      cases b with
      | false =>
        rw [if_neg (by simp)]
        go_enter Try.func48, Try.ntmps48
        go_wp2_with (go_at_call 73; ((with_reducible refine (HLt.out _).mono ?_); rintro r w3 ⟨rfl, rfl⟩))
        go_ret
        have h := HF1.out (w.alloc (.cells #[.int .u8 3, .int .u8 p, .int .u8 q, .int .i64 0, .int .i64 0] 32))
        rw [World.size_alloc] at h
        exact ⟨_, _, rfl, h, bal (bal (Below.refl _ _) _) _⟩
      | true =>
        rw [if_pos rfl]
        go_enter Try.func48, Try.ntmps48
        go_wp2_with (go_at_call 73; ((with_reducible refine (HLt.out _).mono ?_); rintro r w3 ⟨rfl, rfl⟩))
        go_ret
        have h := HF2.out ((w.alloc (.cells #[.int .u8 3, .int .u8 p, .int .u8 q, .int .i64 0, .int .i64 0] 32)).alloc (.cells #[.int .u8 1, .int .u8 0, .int .u8 0, .int .i64 0, .int .i64 0] 32))
        rw [World.size_alloc, World.size_alloc] at h
        exact ⟨_, _, rfl, h, bal (bal (bal (Below.refl _ _) _) _) _⟩
  | .one op a, A, n, c, w, hn, hx, ho, hcu, hpl, hs => by
    have hsz : a.size + 1 ≤ 64 := hs
    have hn' : n = a.size + 1 := hn
    obtain ⟨hop2, hpla⟩ := plain_one hpl ho.1
    have hbw := bl_whole (t := .one op a)
    rw [flat_len] at hbw
    obtain ⟨h0, hpc, hba⟩ := bl_one' hbw
    have hj : (Ex.one op a).size - 1 = a.size := by show a.size + 1 - 1 = _; omega
    rw [hj] at hpc hba
    obtain ⟨hok, ad, rfl, _, hc⟩ := hx a.size (by rw [flat_len]; show _ < a.size + 1; omega)
    obtain ⟨f0, f1, f2, f3, f4⟩ := five_at hc
    rw [hpc] at f0 f1 f2 f3 f4 hok
    dsimp only at f0 f1 f2 f3 f4
    have hpa := a.pos
    have hP := p8_cubes (v := v) _ ho hcu
    have hda := der_ok v y a ho.2 hcu hpla
    have hdp := p8_cubes (v := v) _ hda.1 hda.2.1
    have hdl := der_le y a (by omega)
    have HK := Lib.hid fun X (hX : Below w.heap.size w X) => cut_tree (some ad) (.one op a) a n c 0 (a.size - 1) hn (by omega) X (hx.below hX) ho.2 hP hba (by omega) ((a.size : Int) - 1) (by omega)
    have HI := Lib.hid fun X ad c hX => derive5_any v hv0 hv6 y hy a (some ad) a.size c X rfl hX ho.2 hcu hpla (by omega)
    have HJ1 : Hid (op = 7 → ∀ X ad c, PcsAt X (some ad) (flat (der y a) 0) → Calls Try.prog 75 #[.int .u8 7, .slice (some ad) (der y a).size c, .slice none 0 0] X fun r w' => ∃ ad' c', r = .returned (.slice (some ad') ((der y a).size + 1) c') ∧ PcsAt w' (some ad') (flat (der y (.one op a)) 0) ∧ Below X.heap.size X w') := fun h X ad c hX => by
      subst h
      exact join5_one ad (der y a) (der y a).size c 7 rfl X hX ⟨by decide, hda.1⟩ hdp (by omega)
    have HJ2 : Hid (op = 8 → ∀ X ad2 c2, Below w.heap.size w X → PcsAt X (some ad2) (flat (der y a) 0) → Calls Try.prog 75 #[.int .u8 4, .slice (some ad2) (der y a).size c2, .slice (some ad) (a.size + 1) c] X fun r w' => ∃ ad' c', r = .returned (.slice (some ad') ((der y a).size + (a.size + 1) + 1) c') ∧ PcsAt w' (some ad') (flat (der y (.one op a)) 0) ∧ Below X.heap.size X w') := fun h X ad2 c2 hB hX => by
      subst h
      exact join5_two ad2 ad (der y a) (.one 8 a) (der y a).size (a.size + 1) c2 c 4 rfl rfl X hX (hx.below hB) ⟨by decide, hda.1, ho⟩ hdp hP (by show (der y a).size + (a.size + 1) ≤ _; omega)
    have hD7 : Hid (op = 7 → (der y (.one op a)).size = (der y a).size + 1) := fun h => by subst h; rfl
    have hD8 : Hid (op = 8 → (der y (.one op a)).size = (der y a).size + (a.size + 1) + 1) := fun h => by subst h; rfl
    clear hc hok hx ho hP hs hn hbw hba hpc hj h0 hda hdp hpl hpla hcu
    subst hn'
    generalize der y (.one op a) = RV at *
    generalize flat a 0 = FA at *
    generalize flat (der y a) 0 = FR at *
    generalize hna : (der y a).size = nd5 at *
    generalize hnb : a.size = na at *
    clear hna hnb
    rcases hop2 with rfl | rfl
    · have HJ := Lib.hid (HJ1.out rfl)
      have HD := Lib.hid (hD7.out rfl)
      clear HJ1 HJ2 hD7 hD8
      go_enter Try.func48, Try.ntmps48
      go_upto_region 3 with fail
      have HB3 : Hid (Bx5 ((w.alloc (.cells #[.int .u8 7, .int .u8 0, .int .u8 0, .int .i64 ((na : Int) - 1), .int .i64 0] 32)).alloc (.cells #[.int .u8 1, .int .u8 0, .int .u8 0, .int .i64 0, .int .i64 0] 32)) w.heap.size ⟨7, 0, 0, (na : Int) - 1, 0⟩) := (Bx5.new w ⟨7, 0, 0, (na : Int) - 1, 0⟩).below (bal (Below.refl _ _) _)
      have K9 : Hid (Below w.heap.size w ((w.alloc (.cells #[.int .u8 7, .int .u8 0, .int .u8 0, .int .i64 ((na : Int) - 1), .int .i64 0] 32)).alloc (.cells #[.int .u8 1, .int .u8 0, .int .u8 0, .int .i64 0, .int .i64 0] 32))) := bal (bal (Below.refl _ _) _) _
      generalize (w.alloc (.cells #[.int .u8 7, .int .u8 0, .int .u8 0, .int .i64 ((na : Int) - 1), .int .i64 0] 32)).alloc (.cells #[.int .u8 1, .int .u8 0, .int .u8 0, .int .i64 0, .int .i64 0] 32) = w9 at *
      have d0 : w9.cell? ⟨w.heap.size, 0, none⟩ = some (.int .u8 7) := HB3.out.cells.1
      have d3 : w9.cell? ⟨w.heap.size, 3, none⟩ = some (.int .i64 ((na : Int) - 1)) := HB3.out.cells.2.2.2.1
      clear f0 f1 f2 f3 f4
      go_upto_region 13 with (first
        | (go_at_call 74; ((with_reducible refine (HK.out _ K9.out).mono ?_); rintro r w3 ⟨ad3, c3, rfl, hp3, hb3⟩))
        | (go_at_call 48; ((with_reducible refine (HI.out _ _ _ hp3).mono ?_); rintro r w4 ⟨ad4, c4, rfl, hp4, hb4⟩)))
      have hb9 := stepB hb3 hb4
      have d5 : w4.cell? ⟨w.heap.size, 0, none⟩ = some (.int .u8 7) := (HB3.out.below hb9).cells.1
      clear d0 d3
      go_wp2_with (go_at_call 75; ((with_reducible refine (HJ.out _ _ _ hp4).mono ?_); rintro r w5 ⟨ad5, c5, rfl, hp5, hb5⟩))
      go_ret
      exact ⟨_, _, ret_slice5 HD.out.symm, hp5, stepB (stepB K9.out hb9) hb5⟩
    · have HJ := Lib.hid (HJ2.out rfl)
      have HD := Lib.hid (hD8.out rfl)
      clear HJ1 HJ2 hD7 hD8
      go_enter Try.func48, Try.ntmps48
      go_upto_region 3 with fail
      have HB3 : Hid (Bx5 ((w.alloc (.cells #[.int .u8 8, .int .u8 0, .int .u8 0, .int .i64 ((na : Int) - 1), .int .i64 0] 32)).alloc (.cells #[.int .u8 1, .int .u8 0, .int .u8 0, .int .i64 0, .int .i64 0] 32)) w.heap.size ⟨8, 0, 0, (na : Int) - 1, 0⟩) := (Bx5.new w ⟨8, 0, 0, (na : Int) - 1, 0⟩).below (bal (Below.refl _ _) _)
      have K9 : Hid (Below w.heap.size w ((w.alloc (.cells #[.int .u8 8, .int .u8 0, .int .u8 0, .int .i64 ((na : Int) - 1), .int .i64 0] 32)).alloc (.cells #[.int .u8 1, .int .u8 0, .int .u8 0, .int .i64 0, .int .i64 0] 32))) := bal (bal (Below.refl _ _) _) _
      generalize (w.alloc (.cells #[.int .u8 8, .int .u8 0, .int .u8 0, .int .i64 ((na : Int) - 1), .int .i64 0] 32)).alloc (.cells #[.int .u8 1, .int .u8 0, .int .u8 0, .int .i64 0, .int .i64 0] 32) = w9 at *
      have d0 : w9.cell? ⟨w.heap.size, 0, none⟩ = some (.int .u8 8) := HB3.out.cells.1
      have d3 : w9.cell? ⟨w.heap.size, 3, none⟩ = some (.int .i64 ((na : Int) - 1)) := HB3.out.cells.2.2.2.1
      clear f0 f1 f2 f3 f4
      go_upto_region 13 with (first
        | (go_at_call 74; ((with_reducible refine (HK.out _ K9.out).mono ?_); rintro r w3 ⟨ad3, c3, rfl, hp3, hb3⟩))
        | (go_at_call 48; ((with_reducible refine (HI.out _ _ _ hp3).mono ?_); rintro r w4 ⟨ad4, c4, rfl, hp4, hb4⟩)))
      have hb9 := stepB hb3 hb4
      have d5 : w4.cell? ⟨w.heap.size, 0, none⟩ = some (.int .u8 8) := (HB3.out.below hb9).cells.1
      have K4 := Lib.hid (stepB K9.out hb9)
      clear d0 d3
      go_wp2_with (go_at_call 75; ((with_reducible refine (HJ.out _ _ _ K4.out hp4).mono ?_); rintro r w5 ⟨ad5, c5, rfl, hp5, hb5⟩))
      go_ret
      exact ⟨_, _, ret_slice5 HD.out.symm, hp5, stepB K4.out hb5⟩
  | .two op a b, A, n, c, w, hn, hx, ho, hcu, hpl, hs => by
    have hsz : a.size + b.size + 1 ≤ 64 := hs
    have hn' : n = a.size + b.size + 1 := hn
    obtain ⟨hpla, hplb⟩ := plain_two hpl
    have hbw := bl_whole (t := .two op a b)
    rw [flat_len] at hbw
    obtain ⟨h0, hpc, hba, hbb⟩ := bl_two' hbw
    have hj : (Ex.two op a b).size - 1 = a.size + b.size := by show a.size + b.size + 1 - 1 = _; omega
    rw [hj] at hpc hbb
    rw [Nat.zero_add] at hpc hba hbb
    obtain ⟨hok, ad, rfl, _, hc⟩ := hx (a.size + b.size) (by rw [flat_len]; show _ < a.size + b.size + 1; omega)
    obtain ⟨f0, f1, f2, f3, f4⟩ := five_at hc
    rw [hpc] at f0 f1 f2 f3 f4 hok
    dsimp only at f0 f1 f2 f3 f4
    have hop := hok.op
    have hpa := a.pos
    have hpb := b.pos
    have hP := p8_cubes (v := v) _ ho hcu
    have hda := der_ok v y a ho.2.1 hcu.1 hpla
    have hdb := der_ok v y b ho.2.2 hcu.2 hplb
    have hdpa := p8_cubes (v := v) _ hda.1 hda.2.1
    have hdpb := p8_cubes (v := v) _ hdb.1 hdb.2.1
    have hdla := der_le y a (by omega)
    have hdlb := der_le y b (by omega)
    have HKa := Lib.hid fun X (hX : Below w.heap.size w X) => cut_tree (some ad) (.two op a b) a n c 0 (a.size - 1) hn (by omega) X (hx.below hX) ho.2.1 hP.1 hba (by omega) ((a.size : Int) - 1) (by omega)
    have HKb := Lib.hid fun X (hX : Below w.heap.size w X) => cut_tree (some ad) (.two op a b) b n c a.size (a.size + b.size - 1) hn (by omega) X (hx.below hX) ho.2.2 hP.2 hbb (by omega) ((a.size : Int) + (b.size : Int) - 1) (by omega)
    have HIa := Lib.hid fun X ad c hX => derive5_any v hv0 hv6 y hy a (some ad) a.size c X rfl hX ho.2.1 hcu.1 hpla (by omega)
    have HIb := Lib.hid fun X ad c hX => derive5_any v hv0 hv6 y hy b (some ad) b.size c X rfl hX ho.2.2 hcu.2 hplb (by omega)
    have HJ6 : Hid (op ≠ 4 → ∀ X ad1 c1 ad2 c2, PcsAt X (some ad1) (flat (der y a) 0) → PcsAt X (some ad2) (flat (der y b) 0) → Calls Try.prog 75 #[.int .u8 op, .slice (some ad1) (der y a).size c1, .slice (some ad2) (der y b).size c2] X fun r w' => ∃ ad' c', r = .returned (.slice (some ad') (der y (.two op a b)).size c') ∧ PcsAt w' (some ad') (flat (der y (.two op a b)) 0) ∧ Below X.heap.size X w') := fun h X ad1 c1 ad2 c2 h1 h2 => by
      rw [der_two, if_neg h]
      exact join5_two ad1 ad2 (der y a) (der y b) _ _ c1 c2 op rfl rfl X h1 h2 ⟨ho.1, hda.1, hdb.1⟩ hdpa hdpb (by omega)
    have HJf : Hid (∀ X ad1 c1 ad2 c2, PcsAt X (some ad1) (flat (der y a) 0) → PcsAt X (some ad2) (flat b 0) → Calls Try.prog 75 #[.int .u8 4, .slice (some ad1) (der y a).size c1, .slice (some ad2) b.size c2] X fun r w' => ∃ ad' c', r = .returned (.slice (some ad') ((der y a).size + b.size + 1) c') ∧ PcsAt w' (some ad') (flat (.two 4 (der y a) b) 0) ∧ Below X.heap.size X w') := fun X ad1 c1 ad2 c2 h1 h2 =>
      join5_two ad1 ad2 (der y a) b _ _ c1 c2 4 rfl rfl X h1 h2 ⟨by decide, hda.1, ho.2.2⟩ hdpa hP.2 (by omega)
    have HJ5 : Hid (∀ X ad1 c1 ad2 c2, PcsAt X (some ad1) (flat (.two 4 (der y a) b) 0) → PcsAt X (some ad2) (flat (der y b) 0) → Calls Try.prog 75 #[.int .u8 5, .slice (some ad1) ((der y a).size + b.size + 1) c1, .slice (some ad2) (der y b).size c2] X fun r w' => ∃ ad' c', r = .returned (.slice (some ad') ((der y a).size + b.size + 1 + (der y b).size + 1) c') ∧ PcsAt w' (some ad') (flat (.two 5 (.two 4 (der y a) b) (der y b)) 0) ∧ Below X.heap.size X w') := fun X ad1 c1 ad2 c2 h1 h2 =>
      join5_two ad1 ad2 (.two 4 (der y a) b) (der y b) _ _ c1 c2 5 rfl rfl X h1 h2 ⟨by decide, ⟨by decide, hda.1, ho.2.2⟩, hdb.1⟩ ⟨hdpa, hP.2⟩ hdpb (by show (der y a).size + b.size + 1 + _ ≤ _; omega)
    have hVa : a.Valid v := ⟨hv0, hv6, ho.2.1, by omega, hcu.1, plain_free a true hpla⟩
    have HAc := Lib.hid fun X ad c hX => refAccepts5_good (some ad) none c 0 v [] X a a.size 0 hX hVa rfl (bys_nil X) rfl (fun x h => by cases h) (by unfold wordE; rfl) (by decide)
    have hD : op = 4 → der y (.two op a b) = if mt [] a 0 0 = true then .two 5 (.two 4 (der y a) b) (der y b) else .two 4 (der y a) b := fun h => by
      rw [der_two, if_pos h]
    have hop4 : op = 4 ∨ op = 5 ∨ op = 6 := by have := ho.1; omega
    clear hc hok hx ho hP hs hop hn hbw hba hbb hpc hj h0 hda hdb hdpa hdpb hpl hpla hplb hcu hVa
    subst hn'
    rcases hop4 with rfl | rfl | rfl
    · rw [hD rfl]
      clear HJ6 hD
      generalize mt [] a 0 0 = nul at *
      have hS5 : (Ex.two 5 (.two 4 (der y a) b) (der y b)).size = (der y a).size + b.size + 1 + (der y b).size + 1 := rfl
      have hS4 : (Ex.two 4 (der y a) b).size = (der y a).size + b.size + 1 := rfl
      have HS5 := Lib.hid hS5
      have HS4 := Lib.hid hS4
      clear hS5 hS4
      generalize Ex.two 5 (.two 4 (der y a) b) (der y b) = R5 at *
      generalize Ex.two 4 (der y a) b = R4 at *
      have HR5 : Hid (nul = true → (if nul = true then R5 else R4) = R5) := fun h => if_pos h
      have HR4 : Hid (nul = false → (if nul = true then R5 else R4) = R4) := fun h => if_neg (by rw [h]; decide)
      generalize hRR : (if nul = true then R5 else R4) = RR at *
      clear hRR
      generalize flat a 0 = FA at *
      generalize flat b 0 = FB at *
      generalize flat (der y a) 0 = FDA at *
      generalize flat (der y b) 0 = FDB at *
      generalize hz1 : (der y a).size = nda at *
      generalize hz2 : (der y b).size = ndb at *
      generalize hz3 : a.size = na at *
      generalize hz4 : b.size = nb at *
      clear hz1 hz2 hz3 hz4
      go_enter Try.func48, Try.ntmps48
      go_upto_region 3 with fail
      have HB3 : Hid (Bx5 ((w.alloc (.cells #[.int .u8 4, .int .u8 0, .int .u8 0, .int .i64 ((na : Int) - 1), .int .i64 ((na : Int) + (nb : Int) - 1)] 32)).alloc (.cells #[.int .u8 1, .int .u8 0, .int .u8 0, .int .i64 0, .int .i64 0] 32)) w.heap.size ⟨4, 0, 0, (na : Int) - 1, (na : Int) + (nb : Int) - 1⟩) := (Bx5.new w ⟨4, 0, 0, (na : Int) - 1, (na : Int) + (nb : Int) - 1⟩).below (bal (Below.refl _ _) _)
      have K9 : Hid (Below w.heap.size w ((w.alloc (.cells #[.int .u8 4, .int .u8 0, .int .u8 0, .int .i64 ((na : Int) - 1), .int .i64 ((na : Int) + (nb : Int) - 1)] 32)).alloc (.cells #[.int .u8 1, .int .u8 0, .int .u8 0, .int .i64 0, .int .i64 0] 32))) := bal (bal (Below.refl _ _) _) _
      generalize (w.alloc (.cells #[.int .u8 4, .int .u8 0, .int .u8 0, .int .i64 ((na : Int) - 1), .int .i64 ((na : Int) + (nb : Int) - 1)] 32)).alloc (.cells #[.int .u8 1, .int .u8 0, .int .u8 0, .int .i64 0, .int .i64 0] 32) = w9 at *
      have d0 : w9.cell? ⟨w.heap.size, 0, none⟩ = some (.int .u8 4) := HB3.out.cells.1
      have d3 : w9.cell? ⟨w.heap.size, 3, none⟩ = some (.int .i64 ((na : Int) - 1)) := HB3.out.cells.2.2.2.1
      clear f0 f1 f2 f3 f4
      go_upto_region 13 with (first
        | (go_at_call 74; ((with_reducible refine (HKa.out _ K9.out).mono ?_); rintro r w3 ⟨ad3, c3, rfl, hp3, hb3⟩))
        | (go_at_call 48; ((with_reducible refine (HIa.out _ _ _ hp3).mono ?_); rintro r w4 ⟨ad4, c4, rfl, hp4, hb4⟩)))
      have Pa := Lib.hid (hp3.below hb4)
      have Qa := Lib.hid hp4
      have K4 := Lib.hid (stepB K9.out (stepB hb3 hb4))
      have HB4 := Lib.hid (HB3.out.below (stepB hb3 hb4))
      have d5 : w4.cell? ⟨w.heap.size, 0, none⟩ = some (.int .u8 4) := HB4.out.cells.1
      have d6 : w4.cell? ⟨w.heap.size, 4, none⟩ = some (.int .i64 ((na : Int) + (nb : Int) - 1)) := HB4.out.cells.2.2.2.2
      clear d0 d3 hp3 hp4 hb3 hb4 HB3 K9
      go_upto_region 20 with (first
        | (go_at_call 74; ((with_reducible refine (HKb.out _ K4.out).mono ?_); rintro r w5 ⟨ad5, c5, rfl, hp5, hb5⟩))
        | (go_at_call 48; ((with_reducible refine (HIb.out _ _ _ hp5).mono ?_); rintro r w6 ⟨ad6, c6, rfl, hp6, hb6⟩)))
      have hb46 := stepB hb5 hb6
      have Pa6 := Lib.hid (Pa.out.below hb46)
      have Qa6 := Lib.hid (Qa.out.below hb46)
      have Pb6 := Lib.hid (hp5.below hb6)
      have Qb6 := Lib.hid hp6
      have K6 := Lib.hid (stepB K4.out hb46)
      have d7 : w6.cell? ⟨w.heap.size, 0, none⟩ = some (.int .u8 4) := (HB4.out.below hb46).cells.1
      clear d5 d6 hp5 hp6 hb5 hb6 HB4 K4 Pa Qa hb46
      go_upto_region 23 with (go_at_call 75; ((with_reducible refine (HJf.out _ _ _ _ _ Qa6.out Pb6.out).mono ?_); rintro r w7 ⟨ad7, c7, rfl, hp7, hb7⟩))
      have Pa7 := Lib.hid (Pa6.out.below hb7)
      have Qb7 := Lib.hid (Qb6.out.below hb7)
      have F7 := Lib.hid hp7
      have K7 := Lib.hid (stepB K6.out hb7)
      clear hp7 hb7 Pa6 Qa6 Pb6 Qb6 K6 d7 HJf
      cases nul with
      | true =>
        have HRf := Lib.hid (HR5.out rfl)
        clear HR4 HR5
        go_wp2_with (first
          | (go_at_call 17; ((with_reducible refine (HAc.out _ _ _ Pa7.out).mono ?_); rintro r w8 ⟨rfl, hb8⟩); have F8 := Lib.hid (F7.out.below hb8); have Qb8 := Lib.hid (Qb7.out.below hb8); have K8 := Lib.hid (stepB K7.out hb8); clear hb8)
          | (go_at_call 75; ((with_reducible refine (HJ5.out _ _ _ _ _ F8.out Qb8.out).mono ?_); rintro r w10 ⟨ad10, c10, rfl, hp10, hb10⟩)))
        go_ret
        rw [HRf.out]
        exact ⟨_, _, ret_slice5 HS5.out.symm, hp10, stepB K8.out hb10⟩
      | false =>
        have HRf := Lib.hid (HR4.out rfl)
        clear HR4 HR5
        go_wp2_with (go_at_call 17; ((with_reducible refine (HAc.out _ _ _ Pa7.out).mono ?_); rintro r w8 ⟨rfl, hb8⟩); have F8 := Lib.hid (F7.out.below hb8); have K8 := Lib.hid (stepB K7.out hb8); clear hb8)
        go_ret
        rw [HRf.out]
        exact ⟨_, _, ret_slice5 HS4.out.symm, F8.out, K8.out⟩
    all_goals
      have HJ := Lib.hid (HJ6.out (by decide))
      clear HJ6 HJf HJ5 HAc hD
      generalize der y (.two _ a b) = RV at *
      generalize flat a 0 = FA at *
      generalize flat b 0 = FB at *
      generalize flat (der y a) 0 = FDA at *
      generalize flat (der y b) 0 = FDB at *
      generalize hz1 : (der y a).size = nda at *
      generalize hz2 : (der y b).size = ndb at *
      generalize hz3 : a.size = na at *
      generalize hz4 : b.size = nb at *
      clear hz1 hz2 hz3 hz4
      go_enter Try.func48, Try.ntmps48
      go_upto_region 3 with fail
    · have HB3 : Hid (Bx5 ((w.alloc (.cells #[.int .u8 5, .int .u8 0, .int .u8 0, .int .i64 ((na : Int) - 1), .int .i64 ((na : Int) + (nb : Int) - 1)] 32)).alloc (.cells #[.int .u8 1, .int .u8 0, .int .u8 0, .int .i64 0, .int .i64 0] 32)) w.heap.size ⟨5, 0, 0, (na : Int) - 1, (na : Int) + (nb : Int) - 1⟩) := (Bx5.new w ⟨5, 0, 0, (na : Int) - 1, (na : Int) + (nb : Int) - 1⟩).below (bal (Below.refl _ _) _)
      have K9 : Hid (Below w.heap.size w ((w.alloc (.cells #[.int .u8 5, .int .u8 0, .int .u8 0, .int .i64 ((na : Int) - 1), .int .i64 ((na : Int) + (nb : Int) - 1)] 32)).alloc (.cells #[.int .u8 1, .int .u8 0, .int .u8 0, .int .i64 0, .int .i64 0] 32))) := bal (bal (Below.refl _ _) _) _
      generalize (w.alloc (.cells #[.int .u8 5, .int .u8 0, .int .u8 0, .int .i64 ((na : Int) - 1), .int .i64 ((na : Int) + (nb : Int) - 1)] 32)).alloc (.cells #[.int .u8 1, .int .u8 0, .int .u8 0, .int .i64 0, .int .i64 0] 32) = w9 at *
      have d0 : w9.cell? ⟨w.heap.size, 0, none⟩ = some (.int .u8 5) := HB3.out.cells.1
      have d3 : w9.cell? ⟨w.heap.size, 3, none⟩ = some (.int .i64 ((na : Int) - 1)) := HB3.out.cells.2.2.2.1
      clear f0 f1 f2 f3 f4
      go_upto_region 13 with (first
        | (go_at_call 74; ((with_reducible refine (HKa.out _ K9.out).mono ?_); rintro r w3 ⟨ad3, c3, rfl, hp3, hb3⟩))
        | (go_at_call 48; ((with_reducible refine (HIa.out _ _ _ hp3).mono ?_); rintro r w4 ⟨ad4, c4, rfl, hp4, hb4⟩)))
      have Qa := Lib.hid hp4
      have K4 := Lib.hid (stepB K9.out (stepB hb3 hb4))
      have HB4 := Lib.hid (HB3.out.below (stepB hb3 hb4))
      have d5 : w4.cell? ⟨w.heap.size, 0, none⟩ = some (.int .u8 5) := HB4.out.cells.1
      have d6 : w4.cell? ⟨w.heap.size, 4, none⟩ = some (.int .i64 ((na : Int) + (nb : Int) - 1)) := HB4.out.cells.2.2.2.2
      clear d0 d3 hp3 hp4 hb3 hb4 HB3 K9
      go_upto_region 20 with (first
        | (go_at_call 74; ((with_reducible refine (HKb.out _ K4.out).mono ?_); rintro r w5 ⟨ad5, c5, rfl, hp5, hb5⟩))
        | (go_at_call 48; ((with_reducible refine (HIb.out _ _ _ hp5).mono ?_); rintro r w6 ⟨ad6, c6, rfl, hp6, hb6⟩)))
      have hb46 := stepB hb5 hb6
      have Qa6 := Lib.hid (Qa.out.below hb46)
      have Qb6 := Lib.hid hp6
      have K6 := Lib.hid (stepB K4.out hb46)
      have d7 : w6.cell? ⟨w.heap.size, 0, none⟩ = some (.int .u8 5) := (HB4.out.below hb46).cells.1
      clear d5 d6 hp5 hp6 hb5 hb6 HB4 K4 Qa hb46
      go_wp2_with (go_at_call 75; ((refine (HJ.out _ _ _ _ _ Qa6.out Qb6.out).mono ?_); rintro r w7 ⟨ad7, c7, rfl, hp7, hb7⟩))
      go_ret
      exact ⟨_, _, rfl, hp7, stepB K6.out hb7⟩
    · have HB3 : Hid (Bx5 ((w.alloc (.cells #[.int .u8 6, .int .u8 0, .int .u8 0, .int .i64 ((na : Int) - 1), .int .i64 ((na : Int) + (nb : Int) - 1)] 32)).alloc (.cells #[.int .u8 1, .int .u8 0, .int .u8 0, .int .i64 0, .int .i64 0] 32)) w.heap.size ⟨6, 0, 0, (na : Int) - 1, (na : Int) + (nb : Int) - 1⟩) := (Bx5.new w ⟨6, 0, 0, (na : Int) - 1, (na : Int) + (nb : Int) - 1⟩).below (bal (Below.refl _ _) _)
      have K9 : Hid (Below w.heap.size w ((w.alloc (.cells #[.int .u8 6, .int .u8 0, .int .u8 0, .int .i64 ((na : Int) - 1), .int .i64 ((na : Int) + (nb : Int) - 1)] 32)).alloc (.cells #[.int .u8 1, .int .u8 0, .int .u8 0, .int .i64 0, .int .i64 0] 32))) := bal (bal (Below.refl _ _) _) _
      generalize (w.alloc (.cells #[.int .u8 6, .int .u8 0, .int .u8 0, .int .i64 ((na : Int) - 1), .int .i64 ((na : Int) + (nb : Int) - 1)] 32)).alloc (.cells #[.int .u8 1, .int .u8 0, .int .u8 0, .int .i64 0, .int .i64 0] 32) = w9 at *
      have d0 : w9.cell? ⟨w.heap.size, 0, none⟩ = some (.int .u8 6) := HB3.out.cells.1
      have d3 : w9.cell? ⟨w.heap.size, 3, none⟩ = some (.int .i64 ((na : Int) - 1)) := HB3.out.cells.2.2.2.1
      clear f0 f1 f2 f3 f4
      go_upto_region 13 with (first
        | (go_at_call 74; ((with_reducible refine (HKa.out _ K9.out).mono ?_); rintro r w3 ⟨ad3, c3, rfl, hp3, hb3⟩))
        | (go_at_call 48; ((with_reducible refine (HIa.out _ _ _ hp3).mono ?_); rintro r w4 ⟨ad4, c4, rfl, hp4, hb4⟩)))
      have Qa := Lib.hid hp4
      have K4 := Lib.hid (stepB K9.out (stepB hb3 hb4))
      have HB4 := Lib.hid (HB3.out.below (stepB hb3 hb4))
      have d5 : w4.cell? ⟨w.heap.size, 0, none⟩ = some (.int .u8 6) := HB4.out.cells.1
      have d6 : w4.cell? ⟨w.heap.size, 4, none⟩ = some (.int .i64 ((na : Int) + (nb : Int) - 1)) := HB4.out.cells.2.2.2.2
      clear d0 d3 hp3 hp4 hb3 hb4 HB3 K9
      go_upto_region 20 with (first
        | (go_at_call 74; ((with_reducible refine (HKb.out _ K4.out).mono ?_); rintro r w5 ⟨ad5, c5, rfl, hp5, hb5⟩))
        | (go_at_call 48; ((with_reducible refine (HIb.out _ _ _ hp5).mono ?_); rintro r w6 ⟨ad6, c6, rfl, hp6, hb6⟩)))
      have hb46 := stepB hb5 hb6
      have Qa6 := Lib.hid (Qa.out.below hb46)
      have Qb6 := Lib.hid hp6
      have K6 := Lib.hid (stepB K4.out hb46)
      have d7 : w6.cell? ⟨w.heap.size, 0, none⟩ = some (.int .u8 6) := (HB4.out.below hb46).cells.1
      clear d5 d6 hp5 hp6 hb5 hb6 HB4 K4 Qa hb46
      go_wp2_with (go_at_call 75; ((refine (HJ.out _ _ _ _ _ Qa6.out Qb6.out).mono ?_); rintro r w7 ⟨ad7, c7, rfl, hp7, hb7⟩))
      go_ret
      exact ⟨_, _, rfl, hp7, stepB K6.out hb7⟩
end Go.Proofs.Yteckkbjpeckjmaa.Rx
