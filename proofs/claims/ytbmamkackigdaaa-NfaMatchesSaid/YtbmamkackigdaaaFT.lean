/- The kit's and the reference's small functions of layer 6: HasInt, Vars, OverSet, CopyBytes, CopyEdges, EqualBytes; States, Edges, Check, Word. -/
import Derived.Test.YtbmamkackigdaaaFR
namespace Go.Proofs.Ytbmamkackigdaaa.Nf
open Go Go.RowKit Go.Proofs.Ytbmamkackigdaaa Go.Proofs.Ytbmamkackigdaaa.Cb
set_option linter.unusedVariables false
set_option linter.unusedSimpArgs false
set_option maxRecDepth 100000
set_option maxHeartbeats 2000000 in
theorem HasInt_any (A : Option Addr) (l : List Int) (c : Nat) (z : Int) (w : World) (hx : Ints w A l) (hl : l.length ≤ 1000000) :
    Calls Try.prog 45 #[.slice A l.length c, .int .i64 z] w fun e w' => e = .returned (.bool (decide (z ∈ l))) ∧ w = w' := by
  go_enter Try.func45, Try.ntmps45
  go_wp2
  go_loopw [5] (fun i wr => ∃ k : Nat, k ≤ l.length ∧ i = .int .i64 k ∧ Hid (∀ i, i < k → nd l i ≠ z) ∧ wr = w) (fun i _ => l.length - (intOf i).toNat)
  case atStart => exact ⟨0, by omega, rfl, fun i hi => absurd hi (by omega), rfl⟩
  case round =>
    obtain ⟨k, hk, rfl, H, rfl⟩ := hrel
    by_cases hlt : k < l.length
    · obtain ⟨ad, rfl, hcell⟩ := hx.at_ hlt
      by_cases he : nd l k = z
      · have hin : Hid (decide (z ∈ l) = true) := decide_eq_true (by
          rw [← he]
          unfold nd
          rw [List.getD_eq_getElem?_getD, List.getElem?_eq_getElem hlt]
          exact List.getElem_mem hlt)
        have hb : (nd l k == z) = true := beq_iff_eq.2 he
        clear H he hx
        generalize nd l k = x at *
        generalize l.length = n at *
        go_wp2
        go_ret
        exact ⟨ret_b hin.out.symm, rfl⟩
      · have hb : (nd l k == z) = false := beq_eq_false_iff_ne.2 he
        have H' : Hid (∀ i, i < k + 1 → nd l i ≠ z) := fun i hi => by
          rcases Nat.lt_or_eq_of_le (Nat.le_of_lt_succ hi) with h1 | rfl
          · exact H.out i h1
          · exact he
        clear H he
        generalize nd l k = x at *
        go_wp2
        go_roundw
        case rel => exact ⟨k + 1, by omega, by go_num, H', trivial⟩
        case measure => simp [intOf]; omega
    · have hno : Hid (decide (z ∈ l) = false) := decide_eq_false fun hm => by
        obtain ⟨j, hj, rfl⟩ := List.getElem_of_mem hm
        refine H.out j (by omega) ?_
        unfold nd
        rw [List.getD_eq_getElem?_getD, List.getElem?_eq_getElem hj]
        rfl
      clear H
      go_wp2
      go_ret
      exact ⟨ret_b hno.out.symm, rfl⟩
theorem Vars6_any (v : Int) (w : World) : Calls Try.prog 42 #[.int .i64 v] w fun e w' => e = .returned (.bool (decide (0 ≤ v ∧ v ≤ 6))) ∧ w = w' := by
  by_cases h : 0 ≤ v ∧ v ≤ 6
  · rw [decide_eq_true h]
    have h1 : decide (0 ≤ v) = true := decide_eq_true h.1
    have h2 : decide (v ≤ 6) = true := decide_eq_true h.2
    clear h
    go_enter Try.func42, Try.ntmps42
    go_wp2
    go_ret
    exact ⟨rfl, rfl⟩
  · rw [decide_eq_false h]
    have h1 : decide (0 ≤ v) = false ∨ (decide (0 ≤ v) = true ∧ decide (v ≤ 6) = false) := by
      by_cases h0 : 0 ≤ v
      · exact .inr ⟨decide_eq_true h0, decide_eq_false fun h6 => h ⟨h0, h6⟩⟩
      · exact .inl (decide_eq_false h0)
    clear h
    rcases h1 with h1 | ⟨h1, h2⟩
    all_goals
      go_enter Try.func42, Try.ntmps42
      go_wp2
      go_ret
      exact ⟨rfl, rfl⟩
theorem OverSet_any (B : Nat) (A : Option Addr) (n c : Nat) (w : World) (hn : n ≤ 1000000) (hw : Dg.CanI B w A n) :
    Calls Try.prog 27 #[.slice A n c] w fun e w' => e = .returned (.tuple #[]) ∧ Below B w w' := by
  go_enter Try.func27, Try.ntmps27
  go_wp2
  go_loopw [2] (fun i wr => ∃ k : Nat, k ≤ n ∧ i = .int .i64 k ∧ Dg.CanI B wr A n ∧ Below B w wr) (fun i _ => n - (intOf i).toNat)
  case atStart => exact ⟨0, by omega, rfl, hw, Below.refl _ _⟩
  case round =>
    clear hw
    obtain ⟨k, hk, rfl, hw, hb⟩ := hrel
    by_cases hlt : k < n
    · obtain ⟨ad, rfl, g1, g2, u, g3⟩ := hw k hlt
      have hb2 := hb.setCell (p := ad.add k) (by rw [addr_block]; exact g1) (.int .u64 77)
      have hw2 := hw.set (ad.add k) (.int .u64 77)
      clear hb hw g1
      go_wp2
      go_roundw
      case rel => exact ⟨k + 1, by omega, by go_num, hw2, hb2⟩
      case measure => simp [intOf]; omega
    · obtain rfl : k = n := by omega
      go_wp2
      go_end0
      exact ⟨rfl, hb⟩
theorem CopyBytes6_any (A : Option Addr) (l : List Nat) (c : Nat) (w : World) (hx : Bys w A l) (hl : l.length ≤ 1000000) :
    Calls Try.prog 12 #[.slice A l.length c] w fun e w' => ∃ A' c', e = .returned (.slice A' l.length c') ∧ Bys w' A' l ∧ Below w.heap.size w w' := by
  obtain ⟨i0, hi, hz0, hz1, hz2⟩ := info_parts info_u8R
  have HM := Lib.hid (bvs_range l)
  have HF : Hid (∀ (X : World) B1 A1 c1, X.ownsRow B1 5 1 (.slice A1 l.length c1) l.length (bvs l) → Bys X A1 l) := fun X B1 A1 c1 h => own_bys h rfl
  have hx2 : Vals w A l.length fun j => .int .u8 (wd l j : Nat) := hx
  clear hx
  generalize l.length = n at *
  go_enter Try.func12, Try.ntmps12
  go_wp2_with (at_builtin; refine wpList_copy rfl _ _ 28 rfl 5 i0 (.int .u8 0) 1 Try.underlying28 hi hz0 hz1 hz2 rfl rfl A n c _ rfl hx2 (fun j _ => rfl) (by unfold maxLen; omega) (by omega) ?_; intro A' c' w' ho hc hb)
  go_ret
  rw [HM.out] at ho
  exact ⟨A', c', rfl, HF.out _ _ _ _ ho, hb⟩
set_option maxHeartbeats 2000000 in
theorem EqualBytes6_same (A B : Option Addr) (l : List Nat) (c d : Nat) (w : World) (hx : Bys w A l) (hy : Bys w B l) (hl : l.length ≤ 1000000) :
    Calls Try.prog 26 #[.slice A l.length c, .slice B l.length d] w fun e w' => e = .returned (.bool true) ∧ ∃ n, w' = w.drewN n := by
  have hn0 : ((l.length : Int) != (l.length : Int)) = false := by simp
  have hx2 : Vals w A l.length fun j => .int .u8 (wd l j : Nat) := hx
  have hy2 : Vals w B l.length fun j => .int .u8 (wd l j : Nat) := hy
  clear hx hy
  generalize wd l = f at *
  generalize l.length = n at *
  go_enter Try.func26, Try.ntmps26
  go_wp2
  go_loopw [5] (fun i wr => ∃ k q : Nat, k ≤ n ∧ i = .int .i64 k ∧ wr = w.drewN q) (fun i _ => n - (intOf i).toNat)
  case atStart => exact ⟨0, 0, by omega, rfl, rfl⟩
  case round =>
    obtain ⟨k, q, hk, rfl, rfl⟩ := hrel
    by_cases hlt : k < n
    · obtain ⟨ad, rfl, _, hcell⟩ := hx2 k hlt
      obtain ⟨bd, rfl, _, hcell'⟩ := hy2 k hlt
      generalize f k = x at *
      have hne : ((x : Int) != (x : Int)) = false := by simp
      go_wp2
      go_quiet (fail)
      go_wp2
      go_roundw
      case rel => exact ⟨k + 1, _, by omega, by go_num, rfl⟩
      case measure => simp [intOf]; omega
    · obtain rfl : k = n := by omega
      go_wp2
      go_ret
      exact ⟨rfl, _, rfl⟩
set_option maxHeartbeats 2000000 in
theorem CopyEdges_any (A : Option Addr) (l : List Ed) (c : Nat) (w : World) (hx : EdsAt w A l) (hl : l.length ≤ 1000000) :
    Calls Try.prog 41 #[.slice A l.length c] w fun e w' => ∃ A' c', e = .returned (.slice A' l.length c') ∧ w'.ownsRow w.heap.size 73 4 (.slice A' l.length c') l.length (evs l) ∧ Below w.heap.size w w' := by
  obtain ⟨i0, hi, hz0, hz1, hz2⟩ := info_parts info_edge
  have hnil : w.ownsRow w.heap.size 73 4 (.slice none 0 0) 0 [] := ⟨rfl, .inl ⟨rfl, rfl⟩⟩
  rcases A with _ | ad
  · have hl0 : l = [] := by
      cases l with
      | nil => rfl
      | cons x r => obtain ⟨_, ad, e, _⟩ := hx 0 (by simp); cases e
    subst hl0
    have hr : ∀ ty, (Builtin.append_ #[23, 23] ty #[.slice none 0 0, .slice none 0 c]).run Try.prog w = .ok (.slice none 0 0) w := fun ty => by simp [Builtin.append_, run_underlying Try.underlying23, sizeOf, typeInfo, hi, Builtin.lenOf, Builtin.firstCells]
    clear hx
    show Calls Try.prog 41 #[.slice none 0 c] w _
    go_enter Try.func41, Try.ntmps41
    go_wp2_with (at_builtin; refine wpList_plain rfl fun K hK => ?_; unfold Oper.wp execOp; simp only [resolve, invoke, builtin, Sem.run_bind, Sem.run_pure, Result.andThen_ok, List.map_toArray, List.map_cons, List.map_nil, Act.eval]; refine hK _ _ ?_)
    go_ret
    exact ⟨none, 0, rfl, hnil, Below.refl _ _⟩
  · have hc := Lib.hid (eds_cells hx)
    have HL := Lib.hid (evs_len l)
    have h1 := Lib.hid (evs_one (l := l))
    clear hx
    generalize evs l = F at *
    generalize l.length = n at *
    go_enter Try.func41, Try.ntmps41
    go_wp2_with (at_builtin; refine wpList_append_own _ rfl _ _ 23 rfl w.heap.size 73 i0 _ 4 24 Try.underlying23 hi hz0 hz1 hz2 rfl (by decide) _ _ _ rfl hnil ad n c F rfl (by have := HL.out; omega) hc.out h1.out (by unfold maxLen; omega) (by omega) (Nat.le_refl _) ?_; intro v' w5 hown' hgrow _)
    go_ret
    rw [Nat.zero_add, List.nil_append] at hown'
    obtain ⟨A', c', rfl, _⟩ := Ap.own_form hown'
    exact ⟨A', c', rfl, hown', (Below.refl _ _).grown hgrow (Nat.le_refl _) (fun q hq => by cases hq)⟩
theorem asc_stop {S : Int} {l : List Int} {k : Nat} (hk : k < l.length) (h : ascP S l k = false) : asc S l = false := allB_false hk h
set_option maxHeartbeats 4000000 in
theorem refStates_any (S : Int) (A : Option Addr) (l : List Int) (c : Nat) (w : World) (hx : Ints w A l) (hl : l.length ≤ 1000000) :
    Calls Try.prog 43 #[.slice A l.length c, .int .i64 S] w fun r w' => r = .returned (.bool (asc S l)) ∧ Below w.heap.size w w' := by
  go_enter Try.func43, Try.ntmps43
  go_wp2
  go_loopw [5] (fun i wr => ∃ k q : Nat, k ≤ l.length ∧ i = .int .i64 k ∧ Hid (∀ i, i < k → ascP S l i = true) ∧ wr = w.drewN q) (fun i _ => l.length - (intOf i).toNat)
  case atStart => exact ⟨0, 0, by omega, rfl, fun i hi => absurd hi (by omega), rfl⟩
  case round =>
    obtain ⟨k, q, hk, rfl, H, rfl⟩ := hrel
    by_cases hlt : k < l.length
    · obtain ⟨ad, rfl, hcell⟩ := hx.at_ hlt
      have hkn : (k : Int) < (l.length : Int) := by omega
      have hstep : Hid (ascP S l k = true → ∀ i, i < k + 1 → ascP S l i = true) := fun hok i hi => by
        rcases Nat.lt_or_eq_of_le (Nat.le_of_lt_succ hi) with h1 | rfl
        · exact H.out i h1
        · exact hok
      have hfail : Hid (ascP S l k = false → asc S l = false) := fun hno => asc_stop hlt hno
      by_cases hx0 : nd l k < 0
      · have d1 : decide (nd l k < 0) = true := decide_eq_true hx0
        have hno : Hid (asc S l = false) := hfail.out (by unfold ascP inS; rw [decide_eq_false (fun h => by omega), Bool.false_and])
        clear hstep hfail H hx hx0
        generalize nd l k = x at *
        generalize l.length = n at *
        go_wp2
        go_quiet (fail)
        go_wp2
        go_ret
        exact ⟨ret_b hno.out.symm, stepB (Ap.drewN_below w q) (Ap.drewN_below _ _)⟩
      · have d1 : decide (nd l k < 0) = false := decide_eq_false hx0
        by_cases hxS : S ≤ nd l k
        · have d2 : decide (S ≤ nd l k) = true := decide_eq_true hxS
          have hno : Hid (asc S l = false) := hfail.out (by unfold ascP inS; rw [decide_eq_false (fun h => by omega), Bool.false_and])
          clear hstep hfail H hx hx0 hxS
          generalize nd l k = x at *
          generalize l.length = n at *
          go_wp2
          go_quiet (fail)
          go_wp2
          go_ret
          exact ⟨ret_b hno.out.symm, stepB (Ap.drewN_below w q) (Ap.drewN_below _ _)⟩
        · have d2 : decide (S ≤ nd l k) = false := decide_eq_false hxS
          have hin : inS S (nd l k) = true := by unfold inS; exact decide_eq_true ⟨by omega, by omega⟩
          by_cases h0 : k = 0
          · have hok : Hid (∀ i, i < k + 1 → ascP S l i = true) := hstep.out (by unfold ascP; rw [hin, decide_eq_true h0]; rfl)
            have d3 : decide (0 < k) = false := by rw [decide_eq_false_iff_not]; omega
            have d4 : decide ((0 : Int) < (k : Int)) = false := by rw [decide_eq_false_iff_not]; omega
            clear hin hstep hfail H h0 hx0 hxS
            generalize nd l k = x at *
            go_wp2
            go_quiet (fail)
            go_wp2
            go_roundw
            case rel => exact ⟨k + 1, _, by omega, by go_num, hok, rfl⟩
            case measure => simp [intOf]; omega
          · obtain ⟨j, hj⟩ : ∃ j, k = j + 1 := ⟨k - 1, by omega⟩
            have d3 : decide (0 < k) = true := decide_eq_true (by omega)
            have d4 : decide ((0 : Int) < (k : Int)) = true := decide_eq_true (by omega)
            have hokd : ascP S l k = decide (nd l j < nd l k) := by
              unfold ascP
              rw [hin, decide_eq_false h0, show k - 1 = j by omega]; simp
            obtain ⟨ad', e', hbk, hc2⟩ := hx j (by omega)
            cases e'
            replace hc2 : w.cell? (ad.add j) = some (.int .i64 (nd l j)) := hc2
            have hkw : IntKind.i64.wrap ((k : Int) - 1) = (j : Int) := by rw [IntKind.wrap_i64]; omega
            have hj0 : (0 : Int) ≤ (j : Int) := by omega
            have hjn : (j : Int) < (l.length : Int) := by omega
            by_cases hlt2 : nd l j < nd l k
            · have hok : Hid (∀ i, i < k + 1 → ascP S l i = true) := hstep.out (by rw [hokd, decide_eq_true hlt2])
              have d5 : decide (nd l k ≤ nd l j) = false := decide_eq_false (by omega)
              clear hin hstep hfail H h0 hokd hj hx0 hxS hlt2 hbk
              generalize nd l k = x at *
              generalize nd l j = y at *
              go_wp2
              go_quiet (fail)
              go_wp2
              go_roundw
              case rel => exact ⟨k + 1, _, by omega, by go_num, hok, rfl⟩
              case measure => simp [intOf]; omega
            · have hno : Hid (asc S l = false) := hfail.out (by rw [hokd, decide_eq_false hlt2])
              have d5 : decide (nd l k ≤ nd l j) = true := decide_eq_true (by omega)
              clear hin hstep hfail H h0 hokd hj hx0 hxS hlt2 hbk hx
              generalize nd l k = x at *
              generalize nd l j = y at *
              generalize l.length = n at *
              go_wp2
              go_quiet (fail)
              go_wp2
              go_ret
              exact ⟨ret_b hno.out.symm, stepB (Ap.drewN_below w q) (Ap.drewN_below _ _)⟩
    · have hyes : Hid (asc S l = true) := (allB_iff _ _).2 fun i hi => H.out i (by omega)
      clear H
      go_wp2
      go_ret
      exact ⟨ret_b hyes.out.symm, Ap.drewN_below w q⟩
theorem chkE_any (e : Ed) (v : Int) (w : World) (he : EdOk e) : Calls Try.prog 70 #[.agg #[.int .u8 e.p, .int .u8 e.q], .int .i64 v] w fun r w' => r = .returned (.int .i64 (chk e.p e.q v)) ∧ Below w.heap.size w w' := refCheck_any e.p e.q v w he.p he.q
set_option maxHeartbeats 4000000 in
theorem refEdges_any (V S : Int) (A : Option Addr) (l : List Ed) (c : Nat) (w : World) (hx : EdsAt w A l) (hl : l.length ≤ 1000000) :
    Calls Try.prog 44 #[.slice A l.length c, .int .i64 V, .int .i64 S] w fun r w' => r = .returned (.int .i64 (edsE V S l l.length)) ∧ Below w.heap.size w w' := by
  go_enter Try.func44, Try.ntmps44
  go_wp2
  go_loopw [7, 8] (fun i _ wr => ∃ k : Nat, k ≤ l.length ∧ i = .int .i64 k ∧ Hid (edsE V S l k = 0) ∧ Below w.heap.size w wr) (fun i _ _ => l.length - (intOf i).toNat)
  case atStart => exact ⟨0, by omega, rfl, rfl, Below.refl _ _⟩
  case round =>
    obtain ⟨k, hk, rfl, H, hb⟩ := hrel
    by_cases hlt : k < l.length
    · obtain ⟨ad, rfl, f0, f1, f2, f3⟩ := eds_four (wr := wr) hx hb hlt
      have hok := eds_mem hx (ed l k) (by unfold ed; rw [List.getD_eq_getElem?_getD, List.getElem?_eq_getElem hlt]; exact List.getElem_mem hlt)
      have hkn : (k : Int) < (l.length : Int) := by omega
      have hCh := Lib.hid fun X => chkE_any (ed l k) V X hok
      have hs : Hid (edE V S (ed l k) = 0 → edsE V S l (k + 1) = 0) := fun h => by
        show (if edsE V S l k = 0 then edE V S (ed l k) else _) = 0
        rw [if_pos H.out]; exact h
      have hf : Hid (edE V S (ed l k) ≠ 0 → edsE V S l l.length = edE V S (ed l k)) := fun h => edsE_err H.out hlt h
      clear hx H hok
      cases hi : (inS S (ed l k).fr && inS S (ed l k).to) with
      | false =>
        have he : edE V S (ed l k) = 8 := by unfold edE; rw [hi]; rfl
        have hno : Hid (edsE V S l l.length = 8) := (hf.out (by rw [he]; decide)).trans he
        have hc : (decide ((ed l k).fr < 0) = true) ∨ (decide ((ed l k).fr < 0) = false ∧ decide (S ≤ (ed l k).fr) = true) ∨ (decide ((ed l k).fr < 0) = false ∧ decide (S ≤ (ed l k).fr) = false ∧ decide ((ed l k).to < 0) = true) ∨ (decide ((ed l k).fr < 0) = false ∧ decide (S ≤ (ed l k).fr) = false ∧ decide ((ed l k).to < 0) = false ∧ decide (S ≤ (ed l k).to) = true) := by
          unfold inS at hi
          simp only [decide_eq_true_iff, decide_eq_false_iff_not, Bool.and_eq_false_iff] at hi ⊢
          omega
        clear hi he hs hf hCh
        generalize ed l k = x at *
        rcases hc with h1 | ⟨h1, h2⟩ | ⟨h1, h2, h3⟩ | ⟨h1, h2, h3, h4⟩
        all_goals
          go_wp2
          go_ret
          exact ⟨ret_int hno.out.symm, hb⟩
      | true =>
        have he : edE V S (ed l k) = chk (ed l k).p (ed l k).q V := by unfold edE; rw [hi]; rfl
        rw [he] at hs hf
        have h1 : decide ((ed l k).fr < 0) = false ∧ decide (S ≤ (ed l k).fr) = false ∧ decide ((ed l k).to < 0) = false ∧ decide (S ≤ (ed l k).to) = false := by
          unfold inS at hi
          simp only [decide_eq_true_iff, decide_eq_false_iff_not, Bool.and_eq_true] at hi ⊢
          omega
        obtain ⟨h1, h2, h3, h4⟩ := h1
        have hblk : (ad.add (k * 4)).block < wr.heap.size := World.block_lt_of_cell? wr _ f0
        clear hi he
        generalize ed l k = x at *
        generalize chk x.p x.q V = e at *
        by_cases he : e = 0
        · have hR := Lib.hid (hs.out he)
          clear hs hf
          subst he
          go_wp2
          have KE : Below wr.heap.size wr wr.drew := drew_below wr
          have hSd : wr.drew.cell? ⟨(ad.add (k * 4)).block, (ad.add (k * 4)).off + 2, none⟩ = some (.int .u8 x.p) ∧ wr.drew.cell? ⟨(ad.add (k * 4)).block, (ad.add (k * 4)).off + 3, none⟩ = some (.int .u8 x.q) ∧ Below wr.heap.size wr wr.drew := ⟨f2, f3, KE⟩
          go_region_held3 (fun w' => w'.cell? ⟨(ad.add (k * 4)).block, (ad.add (k * 4)).off + 2, none⟩ = some (.int .u8 x.p) ∧ w'.cell? ⟨(ad.add (k * 4)).block, (ad.add (k * 4)).off + 3, none⟩ = some (.int .u8 x.q) ∧ Below wr.heap.size wr w')
            (first | assumption)
            ((go_at_call 70; ((with_reducible refine (hCh.out wr.drew).mono ?_); rintro e w2 ⟨rfl, hb2⟩); have K2 := stepB KE hb2; have hS2 : w2.cell? ⟨(ad.add (k * 4)).block, (ad.add (k * 4)).off + 2, none⟩ = some (.int .u8 x.p) ∧ w2.cell? ⟨(ad.add (k * 4)).block, (ad.add (k * 4)).off + 3, none⟩ = some (.int .u8 x.q) ∧ Below wr.heap.size wr w2 := ⟨(Below.cell (p := ⟨(ad.add (k * 4)).block, (ad.add (k * 4)).off + 2, none⟩) K2 hblk).trans f2, (Below.cell (p := ⟨(ad.add (k * 4)).block, (ad.add (k * 4)).off + 3, none⟩) K2 hblk).trans f3, K2⟩))
          have hb3 := stepB hb K2
          clear hSd hS2 K2 KE
          go_wp2
          go_roundw
          case rel => exact ⟨k + 1, by omega, by go_num, hR, hb3⟩
          case measure => simp [intOf]; omega
        · have hR := Lib.hid (hf.out he)
          have hne : (e != 0) = true := by rw [bne_iff_ne]; exact he
          clear hs hf
          go_wp2
          have KE : Below wr.heap.size wr wr.drew := drew_below wr
          have hSd : wr.drew.cell? ⟨(ad.add (k * 4)).block, (ad.add (k * 4)).off + 2, none⟩ = some (.int .u8 x.p) ∧ wr.drew.cell? ⟨(ad.add (k * 4)).block, (ad.add (k * 4)).off + 3, none⟩ = some (.int .u8 x.q) ∧ Below wr.heap.size wr wr.drew := ⟨f2, f3, KE⟩
          go_region_held3 (fun w' => w'.cell? ⟨(ad.add (k * 4)).block, (ad.add (k * 4)).off + 2, none⟩ = some (.int .u8 x.p) ∧ w'.cell? ⟨(ad.add (k * 4)).block, (ad.add (k * 4)).off + 3, none⟩ = some (.int .u8 x.q) ∧ Below wr.heap.size wr w')
            (first | assumption)
            ((go_at_call 70; ((with_reducible refine (hCh.out wr.drew).mono ?_); rintro e w2 ⟨rfl, hb2⟩); have K2 := stepB KE hb2; have hS2 : w2.cell? ⟨(ad.add (k * 4)).block, (ad.add (k * 4)).off + 2, none⟩ = some (.int .u8 x.p) ∧ w2.cell? ⟨(ad.add (k * 4)).block, (ad.add (k * 4)).off + 3, none⟩ = some (.int .u8 x.q) ∧ Below wr.heap.size wr w2 := ⟨(Below.cell (p := ⟨(ad.add (k * 4)).block, (ad.add (k * 4)).off + 2, none⟩) K2 hblk).trans f2, (Below.cell (p := ⟨(ad.add (k * 4)).block, (ad.add (k * 4)).off + 3, none⟩) K2 hblk).trans f3, K2⟩))
          have hb3 := stepB hb K2
          clear hSd hS2 K2 KE
          go_wp2
          go_ret
          exact ⟨ret_int hR.out.symm, hb3⟩
    · obtain rfl : k = l.length := by omega
      go_wp2
      go_ret
      exact ⟨ret_int H.out.symm, hb⟩
set_option maxHeartbeats 8000000 in
theorem refCheck6_any (n : Na) (A B C : Option Addr) (a b c : Nat) (w : World) (hx : NaAt w n A B C) (hl : NaLen n) :
    Calls Try.prog 13 #[.agg #[.int .i64 n.V, .int .i64 n.S, .slice A n.st.length a, .slice B n.fi.length b, .slice C n.es.length c]] w fun r w' => r = .returned (.int .i64 (chkN n)) ∧ Below w.heap.size w w' := by
  have hB0 := Boxed5.mk0 w n A B C a b c
  have hb0 := bal (Below.refl w.heap.size w) (.cells #[.int .i64 n.V, .int .i64 n.S, .slice A n.st.length a, .slice B n.fi.length b, .slice C n.es.length c] 25)
  have HV := Lib.hid fun X => Vars6_any n.V X
  have H1 := Lib.hid fun X (hX : Below w.heap.size w X) => refStates_any n.S A n.st a X (hx.st.below hX) hl.st
  have H2 := Lib.hid fun X (hX : Below w.heap.size w X) => refStates_any n.S B n.fi b X (hx.fi.below hX) hl.fi
  have H3 := Lib.hid fun X (hX : Below w.heap.size w X) => refEdges_any n.V n.S C n.es c X (hx.es.below hX) hl.es
  have hle := hl.es
  clear hx hl
  by_cases hV : 0 ≤ n.V ∧ n.V ≤ 6
  · rw [decide_eq_true hV] at HV
    by_cases hS : n.S < 0
    · have HE : Hid (chkN n = 1) := by unfold Hid chkN; rw [if_neg (fun h => h hV), if_pos hS]
      have d1 : decide (n.S < 0) = true := decide_eq_true hS
      clear hV hS
      go_enter Try.func13, Try.ntmps13
      go_wp2_with (first
        | (go_at_call 42; ((with_reducible refine (HV.out _).mono ?_); rintro e w2 ⟨rfl, rfl⟩); obtain ⟨z0, z1, z2, z3, z4⟩ := hB0.cells)
        | (go_at_call 43; ((with_reducible refine (H1.out _ hb0).mono ?_); rintro e w3 ⟨rfl, hb3⟩); clear z0 z1 z2 z3 z4 H1; replace hB0 := hB0.below hb3; replace hb0 := stepB hb0 hb3; clear hb3; obtain ⟨z0, z1, z2, z3, z4⟩ := hB0.cells)
        | (go_at_call 43; ((with_reducible refine (H2.out _ hb0).mono ?_); rintro e w4 ⟨rfl, hb4⟩); clear z0 z1 z2 z3 z4 H2; replace hB0 := hB0.below hb4; replace hb0 := stepB hb0 hb4; clear hb4; obtain ⟨z0, z1, z2, z3, z4⟩ := hB0.cells)
        | (go_at_call 44; ((with_reducible refine (H3.out _ hb0).mono ?_); rintro e w5 ⟨rfl, hb5⟩); replace hb0 := stepB hb0 hb5))
      go_ret
      exact ⟨ret_int HE.out.symm, hb0⟩
    have d1 : decide (n.S < 0) = false := decide_eq_false hS
    by_cases hL : n.S ≤ 64 ∧ n.es.length ≤ 512
    · have d2 : decide ((64 : Int) < n.S) = false := decide_eq_false (by omega)
      have d3 : decide ((512 : Int) < (n.es.length : Int)) = false := decide_eq_false (by omega)
      cases hs : asc n.S n.st with
      | false =>
        have HE : Hid (chkN n = 8) := by unfold Hid chkN; rw [if_neg (fun h => h hV), if_neg hS, if_neg (fun h => h hL), if_pos hs]
        rw [hs] at H1
        clear hV hS hL hs
        go_enter Try.func13, Try.ntmps13
        go_wp2_with (first
          | (go_at_call 42; ((with_reducible refine (HV.out _).mono ?_); rintro e w2 ⟨rfl, rfl⟩); obtain ⟨z0, z1, z2, z3, z4⟩ := hB0.cells)
          | (go_at_call 43; ((with_reducible refine (H1.out _ hb0).mono ?_); rintro e w3 ⟨rfl, hb3⟩); clear z0 z1 z2 z3 z4 H1; replace hB0 := hB0.below hb3; replace hb0 := stepB hb0 hb3; clear hb3; obtain ⟨z0, z1, z2, z3, z4⟩ := hB0.cells)
          | (go_at_call 43; ((with_reducible refine (H2.out _ hb0).mono ?_); rintro e w4 ⟨rfl, hb4⟩); clear z0 z1 z2 z3 z4 H2; replace hB0 := hB0.below hb4; replace hb0 := stepB hb0 hb4; clear hb4; obtain ⟨z0, z1, z2, z3, z4⟩ := hB0.cells)
          | (go_at_call 44; ((with_reducible refine (H3.out _ hb0).mono ?_); rintro e w5 ⟨rfl, hb5⟩); replace hb0 := stepB hb0 hb5))
        go_ret
        exact ⟨ret_int HE.out.symm, hb0⟩
      | true =>
        rw [hs] at H1
        cases hf : asc n.S n.fi with
        | false =>
          have HE : Hid (chkN n = 8) := by unfold Hid chkN; rw [if_neg (fun h => h hV), if_neg hS, if_neg (fun h => h hL), if_neg (by rw [hs]; simp), if_pos hf]
          rw [hf] at H2
          clear hV hS hL hs hf
          go_enter Try.func13, Try.ntmps13
          go_wp2_with (first
            | (go_at_call 42; ((with_reducible refine (HV.out _).mono ?_); rintro e w2 ⟨rfl, rfl⟩); obtain ⟨z0, z1, z2, z3, z4⟩ := hB0.cells)
            | (go_at_call 43; ((with_reducible refine (H1.out _ hb0).mono ?_); rintro e w3 ⟨rfl, hb3⟩); clear z0 z1 z2 z3 z4 H1; replace hB0 := hB0.below hb3; replace hb0 := stepB hb0 hb3; clear hb3; obtain ⟨z0, z1, z2, z3, z4⟩ := hB0.cells)
            | (go_at_call 43; ((with_reducible refine (H2.out _ hb0).mono ?_); rintro e w4 ⟨rfl, hb4⟩); clear z0 z1 z2 z3 z4 H2; replace hB0 := hB0.below hb4; replace hb0 := stepB hb0 hb4; clear hb4; obtain ⟨z0, z1, z2, z3, z4⟩ := hB0.cells)
            | (go_at_call 44; ((with_reducible refine (H3.out _ hb0).mono ?_); rintro e w5 ⟨rfl, hb5⟩); replace hb0 := stepB hb0 hb5))
          go_ret
          exact ⟨ret_int HE.out.symm, hb0⟩
        | true =>
          have HE : Hid (chkN n = edsE n.V n.S n.es n.es.length) := by unfold Hid chkN; rw [if_neg (fun h => h hV), if_neg hS, if_neg (fun h => h hL), if_neg (by rw [hs]; simp), if_neg (by rw [hf]; simp)]
          rw [hf] at H2
          clear hV hS hL hs hf
          go_enter Try.func13, Try.ntmps13
          go_wp2_with (first
            | (go_at_call 42; ((with_reducible refine (HV.out _).mono ?_); rintro e w2 ⟨rfl, rfl⟩); obtain ⟨z0, z1, z2, z3, z4⟩ := hB0.cells)
            | (go_at_call 43; ((with_reducible refine (H1.out _ hb0).mono ?_); rintro e w3 ⟨rfl, hb3⟩); clear z0 z1 z2 z3 z4 H1; replace hB0 := hB0.below hb3; replace hb0 := stepB hb0 hb3; clear hb3; obtain ⟨z0, z1, z2, z3, z4⟩ := hB0.cells)
            | (go_at_call 43; ((with_reducible refine (H2.out _ hb0).mono ?_); rintro e w4 ⟨rfl, hb4⟩); clear z0 z1 z2 z3 z4 H2; replace hB0 := hB0.below hb4; replace hb0 := stepB hb0 hb4; clear hb4; obtain ⟨z0, z1, z2, z3, z4⟩ := hB0.cells)
            | (go_at_call 44; ((with_reducible refine (H3.out _ hb0).mono ?_); rintro e w5 ⟨rfl, hb5⟩); replace hb0 := stepB hb0 hb5))
          go_ret
          exact ⟨ret_int HE.out.symm, hb0⟩
    · have HE : Hid (chkN n = 4) := by unfold Hid chkN; rw [if_neg (fun h => h hV), if_neg hS, if_pos hL]
      have d2 : decide ((64 : Int) < n.S) = true ∨ (decide ((64 : Int) < n.S) = false ∧ decide ((512 : Int) < (n.es.length : Int)) = true) := by
        simp only [decide_eq_true_iff, decide_eq_false_iff_not]
        omega
      clear hV hS hL
      rcases d2 with d2 | ⟨d2, d3⟩
      all_goals
        go_enter Try.func13, Try.ntmps13
        go_wp2_with (first
          | (go_at_call 42; ((with_reducible refine (HV.out _).mono ?_); rintro e w2 ⟨rfl, rfl⟩); obtain ⟨z0, z1, z2, z3, z4⟩ := hB0.cells)
          | (go_at_call 43; ((with_reducible refine (H1.out _ hb0).mono ?_); rintro e w3 ⟨rfl, hb3⟩); clear z0 z1 z2 z3 z4 H1; replace hB0 := hB0.below hb3; replace hb0 := stepB hb0 hb3; clear hb3; obtain ⟨z0, z1, z2, z3, z4⟩ := hB0.cells)
          | (go_at_call 43; ((with_reducible refine (H2.out _ hb0).mono ?_); rintro e w4 ⟨rfl, hb4⟩); clear z0 z1 z2 z3 z4 H2; replace hB0 := hB0.below hb4; replace hb0 := stepB hb0 hb4; clear hb4; obtain ⟨z0, z1, z2, z3, z4⟩ := hB0.cells)
          | (go_at_call 44; ((with_reducible refine (H3.out _ hb0).mono ?_); rintro e w5 ⟨rfl, hb5⟩); replace hb0 := stepB hb0 hb5))
        go_ret
        exact ⟨ret_int HE.out.symm, hb0⟩
  · have HE : Hid (chkN n = 7) := by unfold Hid chkN; rw [if_pos hV]
    rw [decide_eq_false hV] at HV
    clear hV
    go_enter Try.func13, Try.ntmps13
    go_wp2_with (first
      | (go_at_call 42; ((with_reducible refine (HV.out _).mono ?_); rintro e w2 ⟨rfl, rfl⟩); obtain ⟨z0, z1, z2, z3, z4⟩ := hB0.cells)
      | (go_at_call 43; ((with_reducible refine (H1.out _ hb0).mono ?_); rintro e w3 ⟨rfl, hb3⟩); clear z0 z1 z2 z3 z4 H1; replace hB0 := hB0.below hb3; replace hb0 := stepB hb0 hb3; clear hb3; obtain ⟨z0, z1, z2, z3, z4⟩ := hB0.cells)
      | (go_at_call 43; ((with_reducible refine (H2.out _ hb0).mono ?_); rintro e w4 ⟨rfl, hb4⟩); clear z0 z1 z2 z3 z4 H2; replace hB0 := hB0.below hb4; replace hb0 := stepB hb0 hb4; clear hb4; obtain ⟨z0, z1, z2, z3, z4⟩ := hB0.cells)
      | (go_at_call 44; ((with_reducible refine (H3.out _ hb0).mono ?_); rintro e w5 ⟨rfl, hb5⟩); replace hb0 := stepB hb0 hb5))
    go_ret
    exact ⟨ret_int HE.out.symm, hb0⟩
set_option maxHeartbeats 4000000 in
theorem refWord_any (v : Nat) (hv : v ≤ 6) (A : Option Addr) (l : List Nat) (c : Nat) (w : World) (hx : Bys w A l) (h8 : ∀ y ∈ l, y < 256) (hl : l.length ≤ 1000000) :
    Calls Try.prog 14 #[.slice A l.length c, .int .i64 v] w fun r w' => r = .returned (.int .i64 (wordE v l)) ∧ Below w.heap.size w w' := by
  have HL := Lib.hid fun X => kitLetters_any v X hv
  have hn64 := Nat.pow_le_pow_right (show 0 < 2 by decide) hv
  by_cases h64 : 64 < l.length
  · have HE : Hid (wordE v l = 4) := if_pos h64
    have d1 : decide ((64 : Int) < (l.length : Int)) = true := decide_eq_true (by omega)
    clear hx h64 hn64
    go_enter Try.func14, Try.ntmps14
    go_wp2
    go_ret
    exact ⟨ret_int HE.out.symm, Below.refl _ _⟩
  · have d1 : decide ((64 : Int) < (l.length : Int)) = false := decide_eq_false (by omega)
    have HE1 : Hid ((∀ i, i < l.length → wd l i < 2 ^ v) → wordE v l = 0) := fun h => by
      unfold wordE
      rw [if_neg h64, if_pos]
      rw [List.all_eq_true]
      intro y hy
      obtain ⟨j, hj, rfl⟩ := List.getElem_of_mem hy
      have := h j hj
      unfold wd at this
      rw [List.getD_eq_getElem?_getD, List.getElem?_eq_getElem hj] at this
      exact decide_eq_true this
    have HE2 : Hid (∀ i, i < l.length → ¬ wd l i < 2 ^ v → wordE v l = 1) := fun i hi h => by
      unfold wordE
      rw [if_neg h64, if_neg]
      intro h2
      rw [List.all_eq_true] at h2
      refine h (of_decide_eq_true (h2 (wd l i) ?_))
      unfold wd
      rw [List.getD_eq_getElem?_getD, List.getElem?_eq_getElem hi]
      exact List.getElem_mem hi
    have h8w : ∀ i, i < l.length → wd l i < 256 := fun i hi => h8 _ (by
      unfold wd
      rw [List.getD_eq_getElem?_getD, List.getElem?_eq_getElem hi]
      exact List.getElem_mem hi)
    clear h64 h8
    generalize 2 ^ v = K at *
    go_enter Try.func14, Try.ntmps14
    go_wp2
    go_loopw [5] (fun i wr => ∃ k q : Nat, k ≤ l.length ∧ i = .int .i64 k ∧ Hid (∀ i, i < k → wd l i < K) ∧ wr = w.drewN q) (fun i _ => l.length - (intOf i).toNat)
    case atStart => exact ⟨0, 0, by omega, rfl, fun i hi => absurd hi (by omega), rfl⟩
    case round =>
      obtain ⟨k, q, hk, rfl, H, rfl⟩ := hrel
      by_cases hlt : k < l.length
      · obtain ⟨ad, rfl, hcell⟩ := hx.at_ hlt
        have hkn : (k : Int) < (l.length : Int) := by omega
        have hy8 := h8w k hlt
        by_cases hin : wd l k < K
        · have H' : Hid (∀ i, i < k + 1 → wd l i < K) := fun i hi => by
            rcases Nat.lt_or_eq_of_le (Nat.le_of_lt_succ hi) with h1 | rfl
            · exact H.out i h1
            · exact hin
          have d2 : decide ((K : Int) ≤ (wd l k : Int)) = false := decide_eq_false (by omega)
          have d3 : decide (K ≤ wd l k) = false := decide_eq_false (by omega)
          clear H HE1 HE2
          generalize wd l k = x at *
          go_wp2
          go_quiet (first | (go_at_call 37; exact ((HL.out _).mono (by rintro e w' ⟨rfl, rfl⟩; exact ⟨rfl, _, rfl⟩))))
          go_wp2
          go_roundw
          case rel => exact ⟨k + 1, _, by omega, by go_num, H', rfl⟩
          case measure => simp [intOf]; omega
        · have HE := Lib.hid (HE2.out k hlt hin)
          have d2 : decide ((K : Int) ≤ (wd l k : Int)) = true := decide_eq_true (by omega)
          have d3 : decide (K ≤ wd l k) = true := decide_eq_true (by omega)
          clear H HE1 HE2
          generalize wd l k = x at *
          go_wp2
          go_quiet (first | (go_at_call 37; exact ((HL.out _).mono (by rintro e w' ⟨rfl, rfl⟩; exact ⟨rfl, _, rfl⟩))))
          go_wp2
          go_ret
          exact ⟨ret_int HE.out.symm, stepB (Ap.drewN_below w q) (Ap.drewN_below _ _)⟩
      · have HE := Lib.hid (HE1.out fun i hi => H.out i (by omega))
        obtain rfl : k = l.length := by omega
        clear H HE1 HE2
        go_wp2
        go_ret
        exact ⟨ret_int HE.out.symm, Ap.drewN_below w q⟩
end Go.Proofs.Ytbmamkackigdaaa.Nf
