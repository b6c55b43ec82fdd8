/- The kit's EqualRegex. -/
import Derived.Test.YteckkbjpeckjmaaYZN
import Derived.Test.YteckkbjpeckjmaaYG
import Derived.Test.YteckkbjpeckjmaaYT
import Derived.Test.YteckkbjpeckjmaaAP
import Derived.BigQuiet
import Derived.IntWalk
import Derived.Deep.QuietTactic
namespace Go.Proofs.Yteckkbjpeckjmaa.Rx
open Go Go.RowKit Go.Shelf Go.Proofs.Yteckkbjpeckjmaa
set_option linter.unusedVariables false
set_option maxRecDepth 100000
theorem pc_ext {xs ys : List Pc} (h : xs.length = ys.length) (hk : ∀ i, i < xs.length → pc xs i = pc ys i) : xs = ys := by
  apply List.ext_getElem h
  intro i h1 h2
  have := hk i h1
  simpa [pc, h1, h2] using this
set_option maxHeartbeats 8000000 in
theorem EqualRegex_any (A B : Option Addr) (xs ys : List Pc) (c d : Nat) (w : World) (hx : PcsAt w A xs) (hy : PcsAt w B ys) (hl : xs.length ≤ 1000000) :
    Calls Try.prog 22 #[.slice A xs.length c, .slice B ys.length d] w fun e w' => e = .returned (.bool (decide (xs = ys))) ∧ ∃ n, w' = w.drewN n := by
  by_cases hlen : xs.length = ys.length
  · have HE := Lib.hid hlen
    have HX := Lib.hid fun (q : Nat) j (hj : j < xs.length) => pcs_five (w := w) (wr := w) hx (Below.refl _ _) hj
    have HY := Lib.hid fun (q : Nat) j (hj : j < ys.length) => pcs_five (w := w) (wr := w) hy (Below.refl _ _) hj
    obtain ⟨n, hn⟩ : ∃ n, n = xs.length := ⟨_, rfl⟩
    have HN := Lib.hid hn
    rw [← hlen, ← hn] at HY ⊢
    rw [← hn] at HX hl
    have hn2 : n = ys.length := by omega
    have HN2 := Lib.hid hn2
    clear hlen hx hy hn hn2
    go_enter Try.func22, Try.ntmps22
    go_wp2
    go_loopw [5] (fun i wr => ∃ k q : Nat, k ≤ n ∧ i = .int .i64 k ∧ Hid (∀ i, i < k → pc xs i = pc ys i) ∧ wr = w.drewN q) (fun i _ => n - (intOf i).toNat)
    case atStart => exact ⟨0, 0, by omega, rfl, fun i hi => absurd hi (by omega), rfl⟩
    case round =>
      obtain ⟨k, q, hk, rfl, H, rfl⟩ := hrel
      by_cases hlt : k < n
      · obtain ⟨ad, rfl, _, _, f0, f1, f2, f3, f4⟩ := HX.out q k hlt
        obtain ⟨bd, rfl, _, _, g0, g1, g2, g3, g4⟩ := HY.out q k hlt
        have hlt2 : (k : Int) < n := by omega
        by_cases h : pc xs k = pc ys k
        · have H' : Hid (∀ i, i < k + 1 → pc xs i = pc ys i) := fun i hi => by
            rcases Nat.lt_or_eq_of_le (Nat.le_of_lt_succ hi) with h1 | rfl
            · exact H.out i h1
            · exact h
          rw [← h] at g0 g1 g2 g3 g4
          clear h H HX HY
          generalize pc xs k = x at *
          go_wp2
          go_quiet (fail)
          go_wp2
          go_roundw
          case rel => exact ⟨k + 1, _, by omega, by go_num, H', rfl⟩
          case measure => simp [intOf]; omega
        · have H' : Hid (decide (xs = ys) = false) := by
            show _ = _
            rw [decide_eq_false_iff_not]
            rintro rfl
            exact h rfl
          generalize pc xs k = x at *
          generalize pc ys k = y at *
          obtain ⟨o1, p1, q1, a1, b1⟩ := x
          obtain ⟨o2, p2, q2, a2, b2⟩ := y
          simp only at f0 f1 f2 f3 f4 g0 g1 g2 g3 g4
          have hcs : ((o1 : Int) == (o2 : Int)) = false ∨ (((o1 : Int) == (o2 : Int)) = true ∧ ((p1 : Int) == (p2 : Int)) = false) ∨ (((o1 : Int) == (o2 : Int)) = true ∧ ((p1 : Int) == (p2 : Int)) = true ∧ ((q1 : Int) == (q2 : Int)) = false) ∨
              (((o1 : Int) == (o2 : Int)) = true ∧ ((p1 : Int) == (p2 : Int)) = true ∧ ((q1 : Int) == (q2 : Int)) = true ∧ (a1 == a2) = false) ∨ (((o1 : Int) == (o2 : Int)) = true ∧ ((p1 : Int) == (p2 : Int)) = true ∧ ((q1 : Int) == (q2 : Int)) = true ∧ (a1 == a2) = true ∧ (b1 == b2) = false) := by
            by_cases h1 : o1 = o2
            · have e1 := nat_eq0 (n := o1) (k := (o2 : Int)) (by omega)
              by_cases h2 : p1 = p2
              · have e2 := nat_eq0 (n := p1) (k := (p2 : Int)) (by omega)
                by_cases h3 : q1 = q2
                · have e3 := nat_eq0 (n := q1) (k := (q2 : Int)) (by omega)
                  by_cases h4 : a1 = a2
                  · have e4 := int_eq0 h4
                    by_cases h5 : b1 = b2
                    · exact absurd (by rw [h1, h2, h3, h4, h5]) h
                    · exact .inr (.inr (.inr (.inr ⟨e1, e2, e3, e4, int_ne0 h5⟩)))
                  · exact .inr (.inr (.inr (.inl ⟨e1, e2, e3, int_ne0 h4⟩)))
                · exact .inr (.inr (.inl ⟨e1, e2, nat_ne0 (by omega)⟩))
              · exact .inr (.inl ⟨e1, nat_ne0 (by omega)⟩)
            · exact .inl (nat_ne0 (by omega))
          clear h H HX HY
          rcases hcs with e1 | ⟨e1, e2⟩ | ⟨e1, e2, e3⟩ | ⟨e1, e2, e3, e4⟩ | ⟨e1, e2, e3, e4, e5⟩
          all_goals
            go_wp2
            go_quiet (fail)
            go_wp2
            go_ret
            exact ⟨ret_bf H'.out, _, by rw [World.drewN_drewN]⟩
      · have H' : Hid (decide (xs = ys) = true) := by
          show _ = _
          rw [decide_eq_true_iff]
          exact pc_ext HE.out fun i hi => H.out i (by have := HN.out; omega)
        clear H HX HY
        obtain rfl : k = n := by omega
        go_wp2
        go_ret
        exact ⟨ret_bt H'.out, _, rfl⟩
  · have H' : Hid (decide (xs = ys) = false) := by
      show _ = _
      rw [decide_eq_false_iff_not]
      rintro rfl
      exact hlen rfl
    have hne : (((xs.length : Nat) : Int) != ((ys.length : Nat) : Int)) = true := by rw [bne_iff_ne]; exact_mod_cast hlen
    clear hlen hx hy
    generalize xs.length = n at *
    generalize ys.length = m at *
    go_enter Try.func22, Try.ntmps22
    go_wp2
    go_ret
    exact ⟨ret_bf H'.out, 0, rfl⟩
end Go.Proofs.Yteckkbjpeckjmaa.Rx
/- The reference's Check. -/
namespace Go.Proofs.Yteckkbjpeckjmaa.Rx
open Go Go.RowKit Go.Proofs.Yteckkbjpeckjmaa Go.Proofs.Yteckkbjpeckjmaa.Ap
set_option linter.unusedVariables false
set_option maxRecDepth 100000
theorem chk_piece {v : Int} {e : List Pc} {k : Nat} {fs : List Nat} (h : chkTo v e k = .ok fs) (hg : pieceE v (pc e k) ≠ 0) : chkTo v e (k + 1) = .error (pieceE v (pc e k)) := by
  unfold chkTo
  rw [h]
  simp only
  rw [if_pos hg]
theorem chk_state {v : Int} {e : List Pc} {k : Nat} {fs : List Nat} (h : chkTo v e k = .ok fs) (hg : pieceE v (pc e k) = 0) (hb : beginE fs k (pc e k) = none) : chkTo v e (k + 1) = .error 8 := by
  unfold chkTo
  rw [h]
  simp only
  rw [if_neg (by simp [hg]), hb]
section
variable {v : Int} {e : List Pc}
theorem begin_leaf {fs : List Nat} {k : Nat} {x : Pc} (h : kids x.op = 0) : beginE fs k x = some k := by unfold beginE; rw [if_neg (by rw [h]; decide), if_neg (by rw [h]; decide)]
theorem begin_one {fs : List Nat} {k : Nat} {x : Pc} (h : kids x.op = 1) : beginE fs k x = if x.a ≠ (k : Int) - 1 ∨ k = 0 then none else some (fs.getD (k - 1) 0) := by unfold beginE; rw [if_pos h]
theorem begin_two {fs : List Nat} {k : Nat} {x : Pc} (h : kids x.op = 2) : beginE fs k x = if x.b ≠ (k : Int) - 1 ∨ k = 0 ∨ fs.getD (k - 1) 0 = 0 ∨ x.a ≠ (fs.getD (k - 1) 0 : Int) - 1 then none else some (fs.getD (fs.getD (k - 1) 0 - 1) 0) := by unfold beginE; rw [if_neg (by rw [h]; decide), if_pos h]
end
theorem info_int : (Try.prog.info? 3).map (fun i => (i.zero, i.size, i.bytes)) = some (some (.int .i64 0), 1, 8) := by kernel_rfl
set_option maxHeartbeats 8000000 in
theorem refCheck_L (A : Option Addr) (e : List Pc) (c : Nat) (v : Int) (w : World) (hx : PcsAt w A e) (hl : e.length ≤ 1000000) :
    Calls Try.prog 68 #[.slice A e.length c, .int .i64 v] w fun r w' => r = .returned (.int .i64 (chkL v e)) ∧ Below w.heap.size w w' := by
  by_cases hv : v < 0 ∨ 6 < v
  · have HE := Lib.hid (chkL_vars (e := e) (v := v) (by omega))
    have hd : decide (v < 0) = true ∨ (decide (v < 0) = false ∧ decide (6 < v) = true) := by
      by_cases h : v < 0
      · exact .inl (decide_eq_true h)
      · exact .inr ⟨decide_eq_false h, decide_eq_true (by omega)⟩
    generalize chkL v e = E at *
    clear hv hx
    rcases hd with d1 | ⟨d1, d2⟩
    all_goals
      go_enter Try.func68, Try.ntmps68
      go_wp2
      go_ret
      exact ⟨ret_int HE.out.symm, Below.refl _ _⟩
  have hv' : 0 ≤ v ∧ v ≤ 6 := by omega
  have d1 : decide (v < 0) = false := decide_eq_false (by omega)
  have d2 : decide (6 < v) = false := decide_eq_false (by omega)
  by_cases h0 : e.length = 0
  · have HE := Lib.hid (chkL_short hv' h0)
    have hn : ((e.length : Int) == 0) = true := by rw [h0]; rfl
    generalize chkL v e = E at *
    generalize e.length = n at *
    clear hv hv' hx h0
    go_enter Try.func68, Try.ntmps68
    go_wp2
    go_ret
    exact ⟨ret_int HE.out.symm, Below.refl _ _⟩
  have hn : ((e.length : Int) == 0) = false := by rw [beq_eq_false_iff_ne]; omega
  by_cases h64 : 64 < e.length
  · have HE := Lib.hid (chkL_long hv' h64)
    have hd : decide ((64 : Int) < e.length) = true := decide_eq_true (by omega)
    generalize chkL v e = E at *
    generalize e.length = n at *
    clear hv hv' hx h0 h64
    go_enter Try.func68, Try.ntmps68
    go_wp2
    go_ret
    exact ⟨ret_int HE.out.symm, Below.refl _ _⟩
  have hd : decide ((64 : Int) < e.length) = false := decide_eq_false (by omega)
  obtain ⟨i0, hi, hz0, hz1, hz2⟩ := info_parts info_int
  have HErr : Hid (∀ k f, k < e.length → chkTo v e (k + 1) = .error f → chkL v e = f) := fun k f hk h => chkL_err hv' h0 h64 (chk_err' h (by omega))
  have HEnd := Lib.hid fun first => chkL_end (first := first) hv' h0 h64
  obtain ⟨n, hnn⟩ : ∃ n, n = e.length := ⟨_, rfl⟩
  have HN := Lib.hid hnn
  rw [← hnn] at hl h0 h64 hd hn HErr HEnd ⊢
  clear hnn
  obtain ⟨E, hE⟩ : ∃ E, E = chkL v e := ⟨_, rfl⟩
  rw [← hE] at HErr HEnd ⊢
  clear hE
  go_enter Try.func68, Try.ntmps68
  go_wp2
  go_loopw [5, 6] (fun u i wr => ∃ (k : Nat) (fs : List Nat), k ≤ n ∧ i = .int .i64 k ∧ Hid (chkTo v e k = .ok fs ∧ fs.length = k) ∧ wr.ownsRow w.heap.size 3 1 u k (fs.map fun (f : Nat) => .int .i64 f) ∧ Below w.heap.size w wr) (fun _ i _ => n - (intOf i).toNat)
  case atStart => exact ⟨0, [], by omega, rfl, ⟨rfl, rfl⟩, ⟨rfl, .inl ⟨rfl, rfl⟩⟩, Below.refl _ _⟩
  case round =>
    obtain ⟨k, fs, hk, rfl, HF, ho, hb⟩ := hrel
    by_cases hlt : k < n
    · obtain ⟨hok, ad, rfl, had, hc⟩ := hx k (by rw [← HN.out]; exact hlt)
      obtain ⟨f00, _, _, f33, f44⟩ := five_at hc
      obtain ⟨f0, f1, f2, f3, f4⟩ := five_at fun i v hv => (Below.cell hb (by rw [addr_block2]; exact had)).trans (hc i v hv)
      have HPi := Lib.hid fun X => piece_any (pc e k) v X hok
      obtain ⟨x, hxx⟩ : ∃ x, x = pc e k := ⟨_, rfl⟩
      have HX := Lib.hid hxx
      rw [← hxx] at f00 f33 f44 f0 f1 f2 f3 f4 HPi
      have hop : x.op < 256 := by rw [hxx]; exact hok.op
      have HCh := Lib.hid fun X => Children_any x.op X hop
      clear hxx hok hc hop hx
      by_cases hg : pieceE v x = 0
      · have HF0 : Hid (∀ Y, Below wr.heap.size wr Y → Y.cell? (ad.add (k * 5)) = some (.int .u8 x.op)) := fun Y hY => (Below.cell (Below.trans hb (hY.mono hb.size)) (by rw [addr_block]; exact had)).trans f00
        have HF3 : Hid (∀ Y, Below wr.heap.size wr Y → Y.cell? ⟨(ad.add (k * 5)).block, (ad.add (k * 5)).off + 3, none⟩ = some (.int .i64 x.a) ∧ Y.cell? ⟨(ad.add (k * 5)).block, (ad.add (k * 5)).off + 4, none⟩ = some (.int .i64 x.b)) := fun Y hY => ⟨(Below.cell (Below.trans hb (hY.mono hb.size)) (by rw [addr_block]; exact had)).trans f33, (Below.cell (Below.trans hb (hY.mono hb.size)) (by rw [addr_block]; exact had)).trans f44⟩
        clear f00 f33 f44
        have HPi : Hid (∀ X, Calls Try.prog 92 #[.agg #[.int .u8 x.op, .int .u8 x.p, .int .u8 x.q, .int .i64 x.a, .int .i64 x.b], .int .i64 v] X fun r w' => r = .returned (.int .i64 0) ∧ Below X.heap.size X w') := fun X => by
          have := HPi.out X
          rwa [hg] at this
        have hsucc : ∀ b, beginE fs k x = some b → Hid (chkTo v e (k + 1) = .ok (fs ++ [b]) ∧ (fs ++ [b]).length = k + 1) := fun b h => ⟨chk_succ HF.out.1 (by rw [← HX.out]; exact hg) (by rw [← HX.out]; exact h), by rw [List.length_append, HF.out.2]; rfl⟩
        have hfail : beginE fs k x = none → Hid (E = 8) := fun h => HErr.out k _ hlt (chk_state HF.out.1 (by rw [← HX.out]; exact hg) (by rw [← HX.out]; exact h))
        have hinv := chk_inv k fs (by rw [← HN.out]; exact hk) HF.out.1
        have hk0 : ¬ kids x.op = -1 := fun h => by unfold pieceE at hg; rw [h] at hg; simp at hg
        have hkk : kids x.op = 0 ∨ kids x.op = 1 ∨ kids x.op = 2 := by rcases kids_cases x.op with h | h | h | h <;> omega
        clear HEnd HErr HX hg
        rcases hkk with hK | hK | hK
        · have HK := hsucc k (begin_leaf hK)
          rw [hK] at HCh
          clear hsucc hfail hinv hk0 hK HF
          go_wp2_with (first
            | (go_at_call 92; ((with_reducible refine (HPi.out _).mono ?_); rintro r w2 ⟨rfl, b2⟩); have b3 := stepB hb b2; have f0 := HF0.out _ b2; have ho2 := own_bel ho b2)
            | (go_at_call 93; ((with_reducible refine (HCh.out _).mono ?_); rintro r w3 ⟨rfl, rfl⟩))
            | (at_builtin; refine wpList_append_own _ rfl _ _ 98 rfl w.heap.size 3 i0 (.int .i64 0) 1 8 Try.underlying98 hi hz0 hz1 hz2 rfl (by decide) _ _ _ rfl (ho2.alloc _) ⟨w2.heap.size, 0, none⟩ 1 1 [.int .i64 (k : Nat)] rfl rfl (cell_one_new _ _ _) (by simp [Value.oneCell']) (by unfold maxLen; omega) (by omega) (by have := b3.size; simp; omega) ?_; intro v' w5 hown' hgrow _))
          have hs4 : w.heap.size ≤ w2.heap.size := b3.size
          have hb6 : Below w.heap.size w w5 := (b3.alloc hs4 _).grown hgrow (by simp; omega) (fun q hq => (ho2.lt q hq).1)
          go_roundw
          case rel => exact ⟨k + 1, fs ++ [k], by omega, by go_num, HK.out, by rw [List.map_append]; exact hown', hb6⟩
          case measure => simp [intOf]; omega
        · have HB := Lib.hid (begin_one (fs := fs) (k := k) hK)
          rw [hK] at HCh
          obtain ⟨A2, c2, rfl, hc2⟩ := own_form ho
          by_cases ha : x.a = (k : Int) - 1
          · by_cases hk0 : k = 0
            · have HE := hfail (by rw [HB.out, if_pos (.inr hk0)])
              have e1 : (x.a != (k : Int) - 1) = false := by rw [ha]; simp
              have e2 : ((k : Int) == 0) = true := nat_eq0 (by omega)
              clear hsucc hfail hinv hK HF HB ha hk0
              go_wp2_with (first
                | (go_at_call 92; ((with_reducible refine (HPi.out _).mono ?_); rintro r w2 ⟨rfl, b2⟩); have b3 := stepB hb b2; have f0 := HF0.out _ b2; have ff := HF3.out _ b2; obtain ⟨f3, f4⟩ := ff)
                | (go_at_call 93; ((with_reducible refine (HCh.out _).mono ?_); rintro r w3 ⟨rfl, rfl⟩)))
              go_ret
              exact ⟨ret_int HE.out.symm, b3⟩
            · obtain ⟨m, rfl⟩ : ∃ m, k = m + 1 := ⟨k - 1, by omega⟩
              obtain ⟨ad2, rfl, had2, hc3⟩ := Vals.of_own (f := fun j => .int .i64 (fs.getD j 0 : Nat)) ho (fun j hj => by
                have hl := HF.out.2
                rw [List.getElem?_map, List.getElem?_eq_getElem (by omega), List.getD_eq_getElem?_getD, List.getElem?_eq_getElem (by omega)]; rfl) m (by omega)
              have HFm : Hid (∀ Y, Below wr.heap.size wr Y → Y.cell? (ad2.add m) = some (.int .i64 (fs.getD m 0 : Nat))) := fun Y hY => (Below.cell hY (by rw [addr_block]; exact had2)).trans hc3
              have HK := hsucc (fs.getD m 0) (by rw [HB.out, if_neg (fun h => h.elim (fun h => h ha) (fun h => by omega)), Nat.add_sub_cancel])
              have ha' : x.a = (m : Int) := by omega
              have e1 : (x.a != (m : Int)) = false := by rw [ha']; simp
              have e2 : (((m + 1 : Nat) : Int) == 0) = false := nat_ne0 (by omega)
              have e3 : ((m + 1 : Nat) : Int) - 1 = (m : Int) := by omega
              clear hsucc hfail hinv hK HF HB ha hk0 hc3 ha'
              generalize fs.getD m 0 = f1 at *
              go_wp2_with (first
                | (go_at_call 92; ((with_reducible refine (HPi.out _).mono ?_); rintro r w2 ⟨rfl, b2⟩); have b3 := stepB hb b2; have f0 := HF0.out _ b2; have ff := HF3.out _ b2; obtain ⟨f3, f4⟩ := ff; have g1 := HFm.out _ b2; have ho2 := own_bel ho b2)
                | (go_at_call 93; ((with_reducible refine (HCh.out _).mono ?_); rintro r w3 ⟨rfl, rfl⟩))
                | (at_builtin; refine wpList_append_own _ rfl _ _ 98 rfl w.heap.size 3 i0 (.int .i64 0) 1 8 Try.underlying98 hi hz0 hz1 hz2 rfl (by decide) _ _ _ rfl (ho2.alloc _) ⟨w2.heap.size, 0, none⟩ 1 1 [.int .i64 (f1 : Nat)] rfl rfl (cell_one_new _ _ _) (by simp [Value.oneCell']) (by unfold maxLen; omega) (by omega) (by have := b3.size; simp; omega) ?_; intro v' w5 hown' hgrow _))
              have hs4 : w.heap.size ≤ w2.heap.size := b3.size
              have hb6 : Below w.heap.size w w5 := (b3.alloc hs4 _).grown hgrow (by simp; omega) (fun q hq => (ho2.lt q hq).1)
              go_roundw
              case rel => exact ⟨m + 1 + 1, fs ++ [f1], by omega, by go_num, HK.out, by rw [List.map_append]; exact hown', hb6⟩
              case measure => simp [intOf]; omega
          · have HE := hfail (by rw [HB.out, if_pos (.inl ha)])
            have e1 : (x.a != (k : Int) - 1) = true := by rw [bne_iff_ne]; exact ha
            clear hsucc hfail hinv hK HF HB ha hk0
            go_wp2_with (first
              | (go_at_call 92; ((with_reducible refine (HPi.out _).mono ?_); rintro r w2 ⟨rfl, b2⟩); have b3 := stepB hb b2; have f0 := HF0.out _ b2; have ff := HF3.out _ b2; obtain ⟨f3, f4⟩ := ff)
              | (go_at_call 93; ((with_reducible refine (HCh.out _).mono ?_); rintro r w3 ⟨rfl, rfl⟩)))
            go_ret
            exact ⟨ret_int HE.out.symm, b3⟩
        · have HB := Lib.hid (begin_two (fs := fs) (k := k) hK)
          rw [hK] at HCh
          obtain ⟨A2, c2, rfl, hc2⟩ := own_form ho
          have hw1 : IntKind.i64.wrap ((k : Int) - 1) = (k : Int) - 1 := IntWalk.i64_in _ (by omega)
          by_cases hbb : x.b = (k : Int) - 1
          · by_cases hk0 : k = 0
            · have HE := hfail (by rw [HB.out, if_pos (.inr (.inl hk0))])
              have e1 : (x.b != (k : Int) - 1) = false := by rw [hbb]; simp
              have e2 : ((k : Int) == 0) = true := nat_eq0 (by omega)
              clear hsucc hfail hinv hK HF HB hbb hk0
              go_wp2_with (first
                | (go_at_call 92; ((with_reducible refine (HPi.out _).mono ?_); rintro r w2 ⟨rfl, b2⟩); have b3 := stepB hb b2; have f0 := HF0.out _ b2; have ff := HF3.out _ b2; obtain ⟨f3, f4⟩ := ff)
                | (go_at_call 93; ((with_reducible refine (HCh.out _).mono ?_); rintro r w3 ⟨rfl, rfl⟩)))
              go_quiet (fail)
              go_wp2
              go_ret
              exact ⟨ret_int HE.out.symm, stepB b3 (Ap.drewN_below _ _)⟩
            · obtain ⟨m, rfl⟩ : ∃ m, k = m + 1 := ⟨k - 1, by omega⟩
              obtain ⟨ad2, rfl, had2, hc3⟩ := Vals.of_own (f := fun j => .int .i64 (fs.getD j 0 : Nat)) ho (fun j hj => by
                have hl := HF.out.2
                rw [List.getElem?_map, List.getElem?_eq_getElem (by omega), List.getD_eq_getElem?_getD, List.getElem?_eq_getElem (by omega)]; rfl) m (by omega)
              have HFm : Hid (∀ Y, Below wr.heap.size wr Y → Y.cell? (ad2.add m) = some (.int .i64 (fs.getD m 0 : Nat))) := fun Y hY => (Below.cell hY (by rw [addr_block]; exact had2)).trans hc3
              have hbm : x.b = (m : Int) := by omega
              have e1 : (x.b != (m : Int)) = false := by rw [hbm]; simp
              have e2 : (((m + 1 : Nat) : Int) == 0) = false := nat_ne0 (by omega)
              have e2' : ((m : Int) + 1 == 0) = false := by rw [beq_eq_false_iff_ne]; omega
              have hw3 : IntKind.i64.wrap ((m : Int) + 1 - 1) = (m : Int) := by rw [show (m : Int) + 1 - 1 = m by omega]; exact IntWalk.i64_in _ (by omega)
              have hw4 : IntKind.i64.wrap (m : Int) = (m : Int) := IntWalk.i64_in _ (by omega)
              have hm1 : (m : Int) < ((m + 1 : Nat) : Int) := by omega
              have hm2 : (m : Int) < (m : Int) + 1 := by omega
              have hfm : fs.getD m 0 ≤ m := by
                obtain ⟨t, _, ht⟩ := hinv.bl m (by omega)
                have := ht.1
                have := t.pos
                omega
              clear hw1
              by_cases hf : fs.getD m 0 = 0
              · have HE := hfail (by rw [HB.out, if_pos (.inr (.inr (.inl (by rw [Nat.add_sub_cancel]; exact hf))))])
                have HFm : Hid (∀ Y, Below wr.heap.size wr Y → Y.cell? (ad2.add m) = some (.int .i64 0)) := fun Y hY => by have := HFm.out Y hY; rwa [hf] at this
                clear hsucc hfail hinv hK HF HB hbb hk0 hc3 hf hfm hbm
                go_wp2_with (first
                  | (go_at_call 92; ((with_reducible refine (HPi.out _).mono ?_); rintro r w2 ⟨rfl, b2⟩); have b3 := stepB hb b2; have f0 := HF0.out _ b2; have ff := HF3.out _ b2; obtain ⟨f3, f4⟩ := ff; have g1 := HFm.out _ b2)
                  | (go_at_call 93; ((with_reducible refine (HCh.out _).mono ?_); rintro r w3 ⟨rfl, rfl⟩)))
                go_quiet (fail)
                go_wp2
                go_ret
                exact ⟨ret_int HE.out.symm, stepB b3 (Ap.drewN_below _ _)⟩
              · have e3 : ((fs.getD m 0 : Nat) : Int) ≠ 0 := by omega
                have e3' : (((fs.getD m 0 : Nat) : Int) == 0) = false := by rw [beq_eq_false_iff_ne]; exact e3
                have hw5 : IntKind.i64.wrap (((fs.getD m 0 : Nat) : Int) - 1) = ((fs.getD m 0 : Nat) : Int) - 1 := IntWalk.i64_in _ (by omega)
                by_cases haa : x.a = ((fs.getD m 0 : Nat) : Int) - 1
                · obtain ⟨g, hg1⟩ : ∃ g, fs.getD m 0 = g + 1 := ⟨fs.getD m 0 - 1, by omega⟩
                  have HFg : Hid (∀ Y, Below wr.heap.size wr Y → Y.cell? (ad2.add g) = some (.int .i64 (fs.getD g 0 : Nat))) := by
                    obtain ⟨ad3, e3, had3, hc4⟩ := Vals.of_own (f := fun j => .int .i64 (fs.getD j 0 : Nat)) ho (fun j hj => by
                      have hl := HF.out.2
                      rw [List.getElem?_map, List.getElem?_eq_getElem (by omega), List.getD_eq_getElem?_getD, List.getElem?_eq_getElem (by omega)]; rfl) g (by omega)
                    cases e3
                    exact fun Y hY => (Below.cell hY (by rw [addr_block]; exact had3)).trans hc4
                  have HK := hsucc (fs.getD g 0) (by
                    rw [HB.out, if_neg (fun h => ?_), Nat.add_sub_cancel, hg1, Nat.add_sub_cancel]
                    rw [Nat.add_sub_cancel] at h
                    omega)
                  have hag : x.a = (g : Int) := by omega
                  have e4 : (x.a != (g : Int)) = false := by rw [hag]; simp
                  have hw6 : IntKind.i64.wrap ((g : Int) + 1 - 1) = (g : Int) := by rw [show (g : Int) + 1 - 1 = g by omega]; exact IntWalk.i64_in _ (by omega)
                  have hw7 : IntKind.i64.wrap (g : Int) = (g : Int) := IntWalk.i64_in _ (by omega)
                  have hg2 : (g : Int) < (m : Int) + 1 := by omega
                  have hg3 : g < m + 1 := by omega
                  rw [hg1] at HFm e3'
                  clear hw5
                  have e5 : ((g : Int) + 1 == 0) = false := by rw [beq_eq_false_iff_ne]; omega
                  clear hsucc hfail hinv hK HF HB hbb hk0 hc3 hf haa hbm hag hg1 hfm e3
                  generalize fs.getD g 0 = f2 at *
                  go_wp2_with (first
                    | (go_at_call 92; ((with_reducible refine (HPi.out _).mono ?_); rintro r w2 ⟨rfl, b2⟩); have b3 := stepB hb b2; have f0 := HF0.out _ b2; have ff := HF3.out _ b2; obtain ⟨f3, f4⟩ := ff; have g1 := HFm.out _ b2; have g2 := HFg.out _ b2; have ho2 := own_bel ho b2)
                    | (go_at_call 93; ((with_reducible refine (HCh.out _).mono ?_); rintro r w3 ⟨rfl, rfl⟩)))
                  go_quiet (fail)
                  go_wp2_with (first
                    | (at_builtin; refine wpList_append_own _ rfl _ _ 98 rfl w.heap.size 3 i0 (.int .i64 0) 1 8 Try.underlying98 hi hz0 hz1 hz2 rfl (by decide) _ _ _ rfl ((own_bel ho2 (Ap.drewN_below _ _)).alloc _) ⟨w2.heap.size, 0, none⟩ 1 1 [.int .i64 (f2 : Nat)] rfl rfl (cell_one_new _ _ _) (by simp [Value.oneCell']) (by unfold maxLen; omega) (by omega) (by have := b3.size; simp; omega) ?_; intro v' w5 hown' hgrow _))
                  have hs4 : w.heap.size ≤ w2.heap.size := b3.size
                  have hb6 : Below w.heap.size w w5 := ((stepB b3 (Ap.drewN_below _ _)).alloc hs4 _).grown hgrow (by simp; omega) (fun q hq => (ho2.lt q hq).1)
                  go_roundw
                  case rel => exact ⟨m + 1 + 1, fs ++ [f2], by omega, by go_num, HK.out, by rw [List.map_append]; exact hown', hb6⟩
                  case measure => simp [intOf]; omega
                · have HE := hfail (by rw [HB.out, if_pos (.inr (.inr (.inr (by rw [Nat.add_sub_cancel]; exact haa))))])
                  have e4 : (x.a != ((fs.getD m 0 : Nat) : Int) - 1) = true := by rw [bne_iff_ne]; exact haa
                  clear hsucc hfail hinv hK HF HB hbb hk0 hc3 hf haa hbm
                  generalize fs.getD m 0 = f1 at *
                  go_wp2_with (first
                    | (go_at_call 92; ((with_reducible refine (HPi.out _).mono ?_); rintro r w2 ⟨rfl, b2⟩); have b3 := stepB hb b2; have f0 := HF0.out _ b2; have ff := HF3.out _ b2; obtain ⟨f3, f4⟩ := ff; have g1 := HFm.out _ b2)
                    | (go_at_call 93; ((with_reducible refine (HCh.out _).mono ?_); rintro r w3 ⟨rfl, rfl⟩)))
                  go_quiet (fail)
                  go_wp2
                  go_ret
                  exact ⟨ret_int HE.out.symm, stepB b3 (Ap.drewN_below _ _)⟩
          · have HE := hfail (by rw [HB.out, if_pos (.inl hbb)])
            have e1 : (x.b != (k : Int) - 1) = true := by rw [bne_iff_ne]; exact hbb
            clear hsucc hfail hinv hK HF HB hbb
            go_wp2_with (first
              | (go_at_call 92; ((with_reducible refine (HPi.out _).mono ?_); rintro r w2 ⟨rfl, b2⟩); have b3 := stepB hb b2; have f0 := HF0.out _ b2; have ff := HF3.out _ b2; obtain ⟨f3, f4⟩ := ff)
              | (go_at_call 93; ((with_reducible refine (HCh.out _).mono ?_); rintro r w3 ⟨rfl, rfl⟩)))
            go_quiet (fail)
            go_wp2
            go_ret
            exact ⟨ret_int HE.out.symm, stepB b3 (Ap.drewN_below _ _)⟩
      · have HE : Hid (E = pieceE v x) := HErr.out k _ hlt (by rw [HX.out]; exact chk_piece HF.out.1 (by rw [← HX.out]; exact hg))
        have hne : (pieceE v x != 0) = true := by rw [bne_iff_ne]; exact hg
        generalize pieceE v x = P at *
        clear HEnd HErr hg
        go_wp2_with (go_at_call 92; ((with_reducible refine (HPi.out _).mono ?_); rintro r w2 ⟨rfl, b2⟩))
        go_ret
        exact ⟨ret_int HE.out.symm, stepB hb b2⟩
    · obtain rfl : k = n := by omega
      obtain ⟨m, rfl⟩ : ∃ m, k = m + 1 := ⟨k - 1, by omega⟩
      have hI := chk_inv (m + 1) fs (by have := HN.out; omega) HF.out.1
      have hE := HEnd.out fs HF.out.1
      rw [Nat.add_sub_cancel] at hE
      obtain ⟨t, ht, hbl⟩ := hI.bl m (by omega)
      obtain ⟨A2, c2, rfl, hc2⟩ := own_form ho
      obtain ⟨ad2, rfl, had2, hc3⟩ := Vals.of_own (f := fun j => .int .i64 (fs.getD j 0 : Nat)) ho (fun j hj => by
        have hl := HF.out.2
        rw [List.getElem?_map, List.getElem?_eq_getElem (by omega), List.getD_eq_getElem?_getD, List.getElem?_eq_getElem (by omega)]; rfl) m (by omega)
      obtain ⟨s, hs⟩ : ∃ s, s = fs.getD m 0 := ⟨_, rfl⟩
      have hc4 : wr.cell? (ad2.add m) = some (.int .i64 (s : Nat)) := by rw [hs]; exact hc3
      rw [← hs] at hE hbl
      by_cases hs0 : s = 0
      · subst hs0
        have hT : treeOf e = t := by
          have h1 := hbl.1
          have h2 := hbl.2
          have hsz : t.size = e.length := by have := HN.out; omega
          rw [List.drop_zero, hsz, List.take_length] at h2
          rw [h2, treeOf_flat ht]
        rw [if_neg (by simp), hT] at hE
        have HE := Lib.hid hE
        have HBl : Hid (Calls Try.prog 94 #[.slice A (m + 1) c, .int .i64 (m : Nat), .bool true] wr fun r w' => r = .returned (.bool (badT t true)) ∧ Below wr.heap.size wr w') := by
          have := badLook_any A e c (by have := HN.out; omega) t 0 m true wr (hx.below hb) ht hbl
          rwa [← HN.out] at this
        have hc5 : wr.cell? (ad2.add m) = some (.int .i64 0) := hc4
        clear hE hT hbl ht hI HEnd HErr HF hc3 hc4 hs hx hv hv'
        generalize badT t true = R at *
        cases R
        all_goals
          go_wp2_with (go_at_call 94; ((with_reducible refine HBl.out.mono ?_); rintro r w2 ⟨rfl, hb2⟩))
          go_ret
          exact ⟨ret_int HE.out.symm, stepB hb hb2⟩
      · rw [if_pos hs0] at hE
        have HE := Lib.hid hE
        have hne : ((s : Int) != 0) = true := int_ne (by omega)
        clear hE hbl ht hI HEnd HErr HF hc3 hs hx hs0
        go_wp2
        go_ret
        exact ⟨ret_int HE.out.symm, hb⟩
end Go.Proofs.Yteckkbjpeckjmaa.Rx
/- The kit's OverRegex. -/
namespace Go.Proofs.Yteckkbjpeckjmaa.Rx
open Go Go.RowKit Go.Proofs.Yteckkbjpeckjmaa
set_option linter.unusedVariables false
set_option maxRecDepth 100000
/-- Each of the n pieces at A may be overwritten; they lie in no block below B. -/
def CanP (B : Nat) (w : World) (A : Option Addr) (n : Nat) : Prop :=
  ∀ j, j < n → ∃ ad, A = some ad ∧ B ≤ ad.block ∧ ∀ i, i < 5 → w.frozen? ((ad.add (j * 5)).add i) = false ∧ ∃ u, w.cell? ((ad.add (j * 5)).add i) = some u
theorem CanP.set {B : Nat} {w : World} {A : Option Addr} {n : Nat} (h : CanP B w A n) (p : Addr) (v : Value) : CanP B (w.setCell p v) A n := by
  intro j hj
  obtain ⟨ad, e, h1, h2⟩ := h j hj
  refine ⟨ad, e, h1, fun i hi => ?_⟩
  obtain ⟨h3, u, h4⟩ := h2 i hi
  refine ⟨by rw [World.frozen?_setCell]; exact h3, ?_⟩
  by_cases hp : p = (ad.add (j * 5)).add i
  · subst hp
    exact ⟨v, World.cell?_setCell_same _ _ _ h4⟩
  · exact ⟨u, by rw [World.cell?_setCell_other _ _ _ _ hp]; exact h4⟩
set_option maxHeartbeats 4000000 in
theorem OverRegex_any (B : Nat) (A : Option Addr) (n c : Nat) (w : World) (hn : n ≤ 1000000) (hw : CanP B w A n) :
    Calls Try.prog 29 #[.slice A n c] w fun e w' => e = .returned (.tuple #[]) ∧ Below B w w' := by
  go_enter Try.func29, Try.ntmps29
  go_wp2
  go_loopw [2] (fun i wr => ∃ k : Nat, k ≤ n ∧ i = .int .i64 k ∧ CanP B wr A n ∧ Below B w wr) (fun i _ => n - (intOf i).toNat)
  case atStart => exact ⟨0, by omega, rfl, hw, Below.refl _ _⟩
  case round =>
    clear hw
    obtain ⟨k, hk, rfl, hw, hb⟩ := hrel
    by_cases hlt : k < n
    · obtain ⟨ad, e0, g1, _⟩ := hw k hlt
      subst e0
      have k0 : wr.frozen? (ad.add (k * 5)) = false ∧ ∃ u, wr.cell? (ad.add (k * 5)) = some u := by obtain ⟨a2, e2, _, g⟩ := hw k hlt; cases e2; exact g 0 (by omega)
      obtain ⟨z0, v0, c0⟩ := k0
      have hw0 := hw.set (ad.add (k * 5)) (.int .u8 99)
      have hb0 := hb.setCell (p := (ad.add (k * 5))) (by rw [addr_block]; exact g1) (.int .u8 99)
      have k1 : (wr.setCell (ad.add (k * 5)) (.int .u8 99)).frozen? ⟨(ad.add (k * 5)).block, (ad.add (k * 5)).off + 1, none⟩ = false ∧ ∃ u, (wr.setCell (ad.add (k * 5)) (.int .u8 99)).cell? ⟨(ad.add (k * 5)).block, (ad.add (k * 5)).off + 1, none⟩ = some u := by obtain ⟨a2, e2, _, g⟩ := hw0 k hlt; cases e2; exact g 1 (by omega)
      obtain ⟨z1, v1, c1⟩ := k1
      have hw1 := hw0.set ⟨(ad.add (k * 5)).block, (ad.add (k * 5)).off + 1, none⟩ (.int .u8 0)
      have hb1 := hb0.setCell (p := ⟨(ad.add (k * 5)).block, (ad.add (k * 5)).off + 1, none⟩) (by show B ≤ (ad.add (k * 5)).block; rw [addr_block]; exact g1) (.int .u8 0)
      have k2 : ((wr.setCell (ad.add (k * 5)) (.int .u8 99)).setCell ⟨(ad.add (k * 5)).block, (ad.add (k * 5)).off + 1, none⟩ (.int .u8 0)).frozen? ⟨(ad.add (k * 5)).block, (ad.add (k * 5)).off + 2, none⟩ = false ∧ ∃ u, ((wr.setCell (ad.add (k * 5)) (.int .u8 99)).setCell ⟨(ad.add (k * 5)).block, (ad.add (k * 5)).off + 1, none⟩ (.int .u8 0)).cell? ⟨(ad.add (k * 5)).block, (ad.add (k * 5)).off + 2, none⟩ = some u := by obtain ⟨a2, e2, _, g⟩ := hw1 k hlt; cases e2; exact g 2 (by omega)
      obtain ⟨z2, v2, c2⟩ := k2
      have hw2 := hw1.set ⟨(ad.add (k * 5)).block, (ad.add (k * 5)).off + 2, none⟩ (.int .u8 0)
      have hb2 := hb1.setCell (p := ⟨(ad.add (k * 5)).block, (ad.add (k * 5)).off + 2, none⟩) (by show B ≤ (ad.add (k * 5)).block; rw [addr_block]; exact g1) (.int .u8 0)
      have k3 : (((wr.setCell (ad.add (k * 5)) (.int .u8 99)).setCell ⟨(ad.add (k * 5)).block, (ad.add (k * 5)).off + 1, none⟩ (.int .u8 0)).setCell ⟨(ad.add (k * 5)).block, (ad.add (k * 5)).off + 2, none⟩ (.int .u8 0)).frozen? ⟨(ad.add (k * 5)).block, (ad.add (k * 5)).off + 3, none⟩ = false ∧ ∃ u, (((wr.setCell (ad.add (k * 5)) (.int .u8 99)).setCell ⟨(ad.add (k * 5)).block, (ad.add (k * 5)).off + 1, none⟩ (.int .u8 0)).setCell ⟨(ad.add (k * 5)).block, (ad.add (k * 5)).off + 2, none⟩ (.int .u8 0)).cell? ⟨(ad.add (k * 5)).block, (ad.add (k * 5)).off + 3, none⟩ = some u := by obtain ⟨a2, e2, _, g⟩ := hw2 k hlt; cases e2; exact g 3 (by omega)
      obtain ⟨z3, v3, c3⟩ := k3
      have hw3 := hw2.set ⟨(ad.add (k * 5)).block, (ad.add (k * 5)).off + 3, none⟩ (.int .i64 0)
      have hb3 := hb2.setCell (p := ⟨(ad.add (k * 5)).block, (ad.add (k * 5)).off + 3, none⟩) (by show B ≤ (ad.add (k * 5)).block; rw [addr_block]; exact g1) (.int .i64 0)
      have k4 : ((((wr.setCell (ad.add (k * 5)) (.int .u8 99)).setCell ⟨(ad.add (k * 5)).block, (ad.add (k * 5)).off + 1, none⟩ (.int .u8 0)).setCell ⟨(ad.add (k * 5)).block, (ad.add (k * 5)).off + 2, none⟩ (.int .u8 0)).setCell ⟨(ad.add (k * 5)).block, (ad.add (k * 5)).off + 3, none⟩ (.int .i64 0)).frozen? ⟨(ad.add (k * 5)).block, (ad.add (k * 5)).off + 4, none⟩ = false ∧ ∃ u, ((((wr.setCell (ad.add (k * 5)) (.int .u8 99)).setCell ⟨(ad.add (k * 5)).block, (ad.add (k * 5)).off + 1, none⟩ (.int .u8 0)).setCell ⟨(ad.add (k * 5)).block, (ad.add (k * 5)).off + 2, none⟩ (.int .u8 0)).setCell ⟨(ad.add (k * 5)).block, (ad.add (k * 5)).off + 3, none⟩ (.int .i64 0)).cell? ⟨(ad.add (k * 5)).block, (ad.add (k * 5)).off + 4, none⟩ = some u := by obtain ⟨a2, e2, _, g⟩ := hw3 k hlt; cases e2; exact g 4 (by omega)
      obtain ⟨z4, v4, c4⟩ := k4
      have hw4 := hw3.set ⟨(ad.add (k * 5)).block, (ad.add (k * 5)).off + 4, none⟩ (.int .i64 0)
      have hb4 := hb3.setCell (p := ⟨(ad.add (k * 5)).block, (ad.add (k * 5)).off + 4, none⟩) (by show B ≤ (ad.add (k * 5)).block; rw [addr_block]; exact g1) (.int .i64 0)
      have HW := Lib.hid hw4
      have HB := Lib.hid hb4
      clear hw hb hw0 hw1 hw2 hw3 hw4 hb0 hb1 hb2 hb3 hb4 g1
      go_wp2
      go_roundw
      case rel => exact ⟨k + 1, by omega, by go_num, HW.out, HB.out⟩
      case measure => simp [intOf]; omega
    · obtain rfl : k = n := by omega
      go_wp2
      go_end0
      exact ⟨rfl, hb⟩
theorem CanP.own {B : Nat} {w : World} {e : TypeId} {n c : Nat} {A : Option Addr} {xs : List Value} (h : w.ownsRow B e 5 (.slice A n c) n xs) : CanP B w A n := by
  intro j hj
  have hl := h.1
  rcases h.2 with ⟨_, h0⟩ | ⟨g, cap, cur, hv, hg, hb, _, _, _, ht⟩
  · omega
  · have h' := h
    injection hv with hA hB hc
    subst hA hc
    refine ⟨⟨g, 0, none⟩, rfl, hg, fun i hi => ?_⟩
    rw [Ap.addr_add, show ((⟨g, j * 5, none⟩ : Addr).add i) = ⟨g, j * 5 + i, none⟩ by unfold Addr.add; split; simp; rfl]
    have hx : j * 5 + i < xs.length := by omega
    refine ⟨h'.frozenAt (j * 5 + i), xs[j * 5 + i], ?_⟩
    rw [h'.cellAt (j * 5 + i) (by omega), List.getElem?_eq_getElem hx]
end Go.Proofs.Yteckkbjpeckjmaa.Rx
