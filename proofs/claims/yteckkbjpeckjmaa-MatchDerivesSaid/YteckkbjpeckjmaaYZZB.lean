/- The reference's Cut. -/
import Derived.Test.YteckkbjpeckjmaaYZZA
namespace Go.Proofs.Yteckkbjpeckjmaa.Rx
open Go Go.RowKit Go.Proofs.Yteckkbjpeckjmaa
set_option linter.unusedVariables false
set_option maxRecDepth 100000
theorem cut_piece {e : List Pc} {t : Ex} {s j d : Nat} (ho : t.Ok) (hb : Bl e s j t) (hd : d < t.size) : pc (flat t 0) d = shift s (pc e (s + d)) := by
  have h1 := flat_shift t s 0 ho
  rw [Nat.add_zero] at h1
  have hl : d < (flat t s).length := by rw [flat_len]; exact hd
  have h3 : e[s + d]? = (flat t s)[d]? := by rw [← hb.2, List.getElem?_take, if_pos hd, List.getElem?_drop]
  rw [← h1]
  unfold pc
  rw [List.getD_eq_getElem?_getD, List.getD_eq_getElem?_getD, List.getElem?_map, h3, List.getElem?_eq_getElem hl]
  rfl
theorem take_next {l : List Pc} {d : Nat} (hd : d < l.length) : pvs (l.take (d + 1)) = pvs (l.take d) ++ pv (pc l d) := by
  rw [← pvs_snoc]
  congr 1
  unfold pc
  rw [List.getD_eq_getElem?_getD, List.getElem?_eq_getElem hd, List.take_add_one, List.getElem?_eq_getElem hd]
  rfl
set_option maxHeartbeats 8000000 in
theorem Cut_any (A : Option Addr) (e : List Pc) (c : Nat) (hl : e.length ≤ 1000000) (t : Ex) (s j : Nat) (w : World) (hx : PcsAt w A e) (ho : t.Ok) (hP : t.P8) (hb : Bl e s j t) (hs : t.size ≤ 1000) :
    Calls Try.prog 74 #[.slice A e.length c, .int .i64 j] w fun r w' => ∃ A' c', r = .returned (.slice A' t.size c') ∧ w'.ownsRow w.heap.size 32 5 (.slice A' t.size c') t.size (pvs (flat t 0)) ∧ Below w.heap.size w w' := by
  have hj := bl_lt hb
  have hsz : s + t.size = j + 1 := hb.1
  have HFi := Lib.hid (First_any A e c hl t s j w hx ho hb)
  have HX := Lib.hid fun wr (h : Below w.heap.size w wr) q (hq : q < e.length) => pcs_five hx h hq
  have HCp : Hid (∀ d, d < t.size → pc (flat t 0) d = shift s (pc e (s + d)) ∧ PcOk (pc (flat t 0) d) ∧ pvs ((flat t 0).take (d + 1)) = pvs ((flat t 0).take d) ++ pv (pc (flat t 0) d)) := fun d hd => by
    have hdl : d < (flat t 0).length := by rw [flat_len]; exact hd
    refine ⟨cut_piece ho hb hd, flat_fine t 0 ho hP (by omega) _ ?_, take_next hdl⟩
    unfold pc
    rw [List.getD_eq_getElem?_getD, List.getElem?_eq_getElem hdl]
    exact List.getElem_mem hdl
  have HEnd : Hid (pvs ((flat t 0).take t.size) = pvs (flat t 0)) := by
    show _ = _
    rw [List.take_of_length_le (by rw [flat_len]; exact Nat.le_refl _)]
  obtain ⟨i0, hi, hz0, hz1, hz2⟩ := info_parts info_piece
  clear hb hx ho hP
  generalize flat t 0 = F at *
  generalize t.size = N at *
  generalize e.length = n at *
  go_enter Try.func74, Try.ntmps74
  go_wp2_with (go_at_call 98; ((with_reducible refine HFi.out.mono ?_); rintro r w1 ⟨rfl, hb1⟩))
  go_loopw [6, 7] (fun u i wr => ∃ d : Nat, d ≤ N ∧ i = .int .i64 (s + d : Nat) ∧ wr.ownsRow w.heap.size 32 5 u d (pvs (F.take d)) ∧ Below w.heap.size w wr) (fun _ i _ => j + 1 - (intOf i).toNat)
  case atStart => exact ⟨0, by omega, rfl, ⟨rfl, .inl ⟨rfl, rfl⟩⟩, hb1⟩
  case round =>
    obtain ⟨d, hd, rfl, hown, hb⟩ := hrel
    by_cases hlt : d < N
    · obtain ⟨ad, rfl, had, hok, f0, f1, f2, f3, f4⟩ := HX.out _ hb (s + d) (by omega)
      obtain ⟨hsh, hpo, htk⟩ := HCp.out d hlt
      have HCh := Lib.hid fun X => Children_any (pc e (s + d)).op X hok.op
      have hle : ((s + d : Nat) : Int) ≤ (j : Int) := by omega
      have hln : ((s + d : Nat) : Int) < (n : Int) := by omega
      generalize pc F d = y at *
      generalize pc e (s + d) = x at *
      go_upto_region 7 with fail
      have HB3 : Hid (Bx5 (wr.alloc (.cells #[.int .u8 x.op, .int .u8 x.p, .int .u8 x.q, .int .i64 x.a, .int .i64 x.b] 32)) wr.heap.size x) := Bx5.new wr x
      have B3 : Hid (Below wr.heap.size wr (wr.alloc (.cells #[.int .u8 x.op, .int .u8 x.p, .int .u8 x.q, .int .i64 x.a, .int .i64 x.b] 32))) := bal (Below.refl _ _) _
      generalize wr.alloc (.cells #[.int .u8 x.op, .int .u8 x.p, .int .u8 x.q, .int .i64 x.a, .int .i64 x.b] 32) = w3 at *
      obtain ⟨p, hp⟩ : ∃ p, p = wr.heap.size := ⟨_, rfl⟩
      have HP : Hid (wr.heap.size ≤ p) := Nat.le_of_eq hp.symm
      rw [← hp] at HB3 ⊢
      clear hp f0 f1 f2 f3 f4 hok HFi HX HCp HEnd
      obtain ⟨b0, b1, b2, b3, b4⟩ := HB3.out.cells
      have z3 := HB3.out.free 3
      have z4 := HB3.out.free 4
      rcases (show kids x.op < 1 ∨ kids x.op = 1 ∨ kids x.op = 2 by rcases kids_cases x.op with h | h | h | h <;> omega) with hK | hK | hK
      · have hyx : y = x := by rw [hsh]; unfold shift; rw [if_neg (by omega), if_neg (by omega)]
        subst hyx
        have q1 : decide (1 ≤ kids y.op) = false := decide_eq_false (by omega)
        have q2 : (kids y.op == 2) = false := by rw [beq_eq_false_iff_ne]; omega
        clear hsh hpo
        generalize kids y.op = K at *
        go_upto_region 11 with (go_at_call 93; ((with_reducible refine (HCh.out _).mono ?_); rintro r w9 ⟨rfl, rfl⟩))
        have HB5 := HB3
        have B5 := B3
        obtain ⟨w5, h5⟩ : ∃ w5, w5 = w3 := ⟨_, rfl⟩
        rw [← h5] at HB5 B5 ⊢
        clear h5 b0 b1 b2 b3 b4 z3 z4 q1 q2 hK HB3 B3 HCh
        · obtain ⟨b0, b1, b2, b3, b4⟩ := HB5.out.cells
          have own5 := Ap.own_bel hown B5.out
          have hb5 := Lib.hid (stepB hb B5.out)
          have hs5 := hb5.out.size
          try simp only at b0 b1 b2 b3 b4
          go_wp2_with (at_builtin; refine wpList_append_own _ rfl _ _ 27 rfl w.heap.size 32 i0 _ 5 24 Try.underlying27 hi hz0 hz1 hz2 rfl (by decide) _ _ _ rfl (Ap.own_bel own5 (bal (Below.refl _ _) _)) ⟨w5.heap.size, 0, none⟩ 1 1 (pv y) rfl rfl (cells_new _ _ _) (by simp [pv, Value.oneCell']) (by unfold maxLen; omega) (by omega) (by simp; omega) ?_; intro v' w6 hown' hgrow _)
          have hb6 : Below w.heap.size w w6 := (hb5.out.alloc hs5 _).grown hgrow (by simp; omega) (fun q hq => (own5.lt q hq).1)
          go_roundw
          case rel => exact ⟨d + 1, by omega, by go_num, by rw [htk]; exact hown', hb6⟩
          case measure => simp [intOf]; omega
      · have hyx : y = ⟨x.op, x.p, x.q, x.a - (s : Int), x.b⟩ := by rw [hsh]; unfold shift; rw [if_pos (by omega), if_neg (by omega)]
        clear hsh
        subst hyx
        have hya : -9223372036854775808 ≤ x.a - (s : Int) ∧ x.a - (s : Int) ≤ 9223372036854775807 := hpo.a
        rw [hK] at HCh
        clear hpo hK
        go_upto_region 11 with (go_at_call 93; ((with_reducible refine (HCh.out _).mono ?_); rintro r w9 ⟨rfl, rfl⟩))
        have HB5 := Lib.hid (HB3.out.setA (x.a - (s : Int)))
        have B5 := Lib.hid (B3.out.setCell (p := ⟨p, 3, none⟩) HP.out (.int .i64 (x.a - (s : Int))))
        generalize (w3.setCell ⟨p, 3, none⟩ (.int .i64 (x.a - (s : Int)))) = w5 at *
        clear b0 b1 b2 b3 b4 z3 z4 HB3 B3 HCh
        · obtain ⟨b0, b1, b2, b3, b4⟩ := HB5.out.cells
          have own5 := Ap.own_bel hown B5.out
          have hb5 := Lib.hid (stepB hb B5.out)
          have hs5 := hb5.out.size
          try simp only at b0 b1 b2 b3 b4
          go_wp2_with (at_builtin; refine wpList_append_own _ rfl _ _ 27 rfl w.heap.size 32 i0 _ 5 24 Try.underlying27 hi hz0 hz1 hz2 rfl (by decide) _ _ _ rfl (Ap.own_bel own5 (bal (Below.refl _ _) _)) ⟨w5.heap.size, 0, none⟩ 1 1 [.int .u8 x.op, .int .u8 x.p, .int .u8 x.q, .int .i64 (x.a - (s : Int)), .int .i64 (x.b)] rfl rfl (cells_new _ _ _) (by simp [Value.oneCell']) (by unfold maxLen; omega) (by omega) (by simp; omega) ?_; intro v' w6 hown' hgrow _)
          have hb6 : Below w.heap.size w w6 := (hb5.out.alloc hs5 _).grown hgrow (by simp; omega) (fun q hq => (own5.lt q hq).1)
          go_roundw
          case rel => exact ⟨d + 1, by omega, by go_num, by rw [htk]; exact hown', hb6⟩
          case measure => simp [intOf]; omega
      · have hyx : y = ⟨x.op, x.p, x.q, x.a - (s : Int), x.b - (s : Int)⟩ := by rw [hsh]; unfold shift; rw [if_pos (by omega), if_pos (by omega)]
        clear hsh
        subst hyx
        have hya : -9223372036854775808 ≤ x.a - (s : Int) ∧ x.a - (s : Int) ≤ 9223372036854775807 := hpo.a
        have hyb : -9223372036854775808 ≤ x.b - (s : Int) ∧ x.b - (s : Int) ≤ 9223372036854775807 := hpo.b
        rw [hK] at HCh
        clear hpo hK
        go_upto_region 11 with (go_at_call 93; ((with_reducible refine (HCh.out _).mono ?_); rintro r w9 ⟨rfl, rfl⟩))
        have HB5 := Lib.hid (HB3.out.setA (x.a - (s : Int)))
        have B5 := Lib.hid (B3.out.setCell (p := ⟨p, 3, none⟩) HP.out (.int .i64 (x.a - (s : Int))))
        have HB5 := Lib.hid (HB5.out.setB (x.b - (s : Int)))
        have B5 := Lib.hid (B5.out.setCell (p := ⟨p, 4, none⟩) HP.out (.int .i64 (x.b - (s : Int))))
        generalize ((w3.setCell ⟨p, 3, none⟩ (.int .i64 (x.a - (s : Int)))).setCell ⟨p, 4, none⟩ (.int .i64 (x.b - (s : Int)))) = w5 at *
        clear b0 b1 b2 b3 b4 z3 z4 HB3 B3 HCh
        · obtain ⟨b0, b1, b2, b3, b4⟩ := HB5.out.cells
          have own5 := Ap.own_bel hown B5.out
          have hb5 := Lib.hid (stepB hb B5.out)
          have hs5 := hb5.out.size
          try simp only at b0 b1 b2 b3 b4
          go_wp2_with (at_builtin; refine wpList_append_own _ rfl _ _ 27 rfl w.heap.size 32 i0 _ 5 24 Try.underlying27 hi hz0 hz1 hz2 rfl (by decide) _ _ _ rfl (Ap.own_bel own5 (bal (Below.refl _ _) _)) ⟨w5.heap.size, 0, none⟩ 1 1 [.int .u8 x.op, .int .u8 x.p, .int .u8 x.q, .int .i64 (x.a - (s : Int)), .int .i64 (x.b - (s : Int))] rfl rfl (cells_new _ _ _) (by simp [Value.oneCell']) (by unfold maxLen; omega) (by omega) (by simp; omega) ?_; intro v' w6 hown' hgrow _)
          have hb6 : Below w.heap.size w w6 := (hb5.out.alloc hs5 _).grown hgrow (by simp; omega) (fun q hq => (own5.lt q hq).1)
          go_roundw
          case rel => exact ⟨d + 1, by omega, by go_num, by rw [htk]; exact hown', hb6⟩
          case measure => simp [intOf]; omega
    · obtain rfl : d = N := by omega
      obtain ⟨A', c', rfl, _⟩ := Ap.own_form hown
      rw [HEnd.out] at hown
      have hgt : ¬ ((s + d : Nat) : Int) ≤ (j : Int) := by omega
      have HO := Lib.hid hown
      clear HX HCp HFi HEnd hown
      go_wp2
      go_ret
      exact ⟨A', c', rfl, HO.out, hb⟩
end Go.Proofs.Yteckkbjpeckjmaa.Rx
