/- The kit's and the reference's functions of layer 6 that layer 7's reference calls: HasInt, Check, CopyNFA, After (with its row one's own). -/
import Derived.Test.YtlaagjmfgaccjaaDoorFS
import Derived.Test.YtlaagjmfgaccjaaDoorFL
import Derived.Test.YtlaagjmfgaccjaaDoorFM
import Derived.Test.YtlaagjmfgaccjaaDoorFN
import Derived.Deep.DeepCutAuto
namespace Go.Proofs.YtlaagjmfgaccjaaDoor.Nf
open Go Go.RowKit Go.Proofs.YtlaagjmfgaccjaaDoor Go.Proofs.YtlaagjmfgaccjaaDoor.Cb
set_option linter.unusedVariables false
set_option linter.unusedSimpArgs false
set_option maxRecDepth 100000
set_option maxHeartbeats 2000000 in
theorem HasInt_any (A : Option Addr) (l : List Int) (c : Nat) (z : Int) (w : World) (hx : Ints w A l) (hl : l.length ≤ 1000000) :
    Calls Tryd.prog 88 #[.slice A l.length c, .int .i64 z] w fun e w' => e = .returned (.bool (decide (z ∈ l))) ∧ w = w' := by
  go_enter Tryd.func88, Tryd.ntmps88
  go_wp2
  go_loopw [5] (fun i wr => ∃ k : Nat, k ≤ l.length ∧ i = .int .i64 k ∧ Hid (∀ i, i < k → nd l i ≠ z) ∧ wr = w) (fun i _ => l.length - (intOf i).toNat)
  case atStart => exact ⟨0, by omega, rfl, fun i hi => absurd hi (by omega), rfl⟩
  case round =>
    obtain ⟨k, hk, rfl, H, rfl⟩ := hrel
    by_cases hlt : k < l.length
    · obtain ⟨ad, rfl, hcell⟩ := hx.at_ hlt
      by_cases he : nd l k = z
      · have hin : Hid (decide (z ∈ l) = true) := decide_eq_true (by
          rw [← he]
          unfold nd
          rw [List.getD_eq_getElem?_getD, List.getElem?_eq_getElem hlt]
          exact List.getElem_mem hlt)
        have hb : (nd l k == z) = true := beq_iff_eq.2 he
        clear H he hx
        generalize nd l k = x at *
        generalize l.length = n at *
        go_wp2
        go_ret
        exact ⟨ret_b hin.out.symm, rfl⟩
      · have hb : (nd l k == z) = false := beq_eq_false_iff_ne.2 he
        have H' : Hid (∀ i, i < k + 1 → nd l i ≠ z) := fun i hi => by
          rcases Nat.lt_or_eq_of_le (Nat.le_of_lt_succ hi) with h1 | rfl
          · exact H.out i h1
          · exact he
        clear H he
        generalize nd l k = x at *
        go_wp2
        go_roundw
        case rel => exact ⟨k + 1, by omega, by go_num, H', trivial⟩
        case measure => simp [intOf]; omega
    · have hno : Hid (decide (z ∈ l) = false) := decide_eq_false fun hm => by
        obtain ⟨j, hj, rfl⟩ := List.getElem_of_mem hm
        refine H.out j (by omega) ?_
        unfold nd
        rw [List.getD_eq_getElem?_getD, List.getElem?_eq_getElem hj]
        rfl
      clear H
      go_wp2
      go_ret
      exact ⟨ret_b hno.out.symm, rfl⟩
theorem Vars6_any (v : Int) (w : World) : Calls Tryd.prog 81 #[.int .i64 v] w fun e w' => e = .returned (.bool (decide (0 ≤ v ∧ v ≤ 6))) ∧ w = w' := by
  by_cases h : 0 ≤ v ∧ v ≤ 6
  · rw [decide_eq_true h]
    have h1 : decide (0 ≤ v) = true := decide_eq_true h.1
    have h2 : decide (v ≤ 6) = true := decide_eq_true h.2
    clear h
    go_enter Tryd.func81, Tryd.ntmps81
    go_wp2
    go_ret
    exact ⟨rfl, rfl⟩
  · rw [decide_eq_false h]
    have h1 : decide (0 ≤ v) = false ∨ (decide (0 ≤ v) = true ∧ decide (v ≤ 6) = false) := by
      by_cases h0 : 0 ≤ v
      · exact .inr ⟨decide_eq_true h0, decide_eq_false fun h6 => h ⟨h0, h6⟩⟩
      · exact .inl (decide_eq_false h0)
    clear h
    rcases h1 with h1 | ⟨h1, h2⟩
    all_goals
      go_enter Tryd.func81, Tryd.ntmps81
      go_wp2
      go_ret
      exact ⟨rfl, rfl⟩
set_option maxHeartbeats 2000000 in
theorem CopyEdges_any (A : Option Addr) (l : List Ed) (c : Nat) (w : World) (hx : EdsAt w A l) (hl : l.length ≤ 1000000) :
    Calls Tryd.prog 85 #[.slice A l.length c] w fun e w' => ∃ A' c', e = .returned (.slice A' l.length c') ∧ w'.ownsRow w.heap.size 30 4 (.slice A' l.length c') l.length (evs l) ∧ Below w.heap.size w w' := by
  obtain ⟨i0, hi, hz0, hz1, hz2⟩ := info_parts info_edge
  have hnil : w.ownsRow w.heap.size 30 4 (.slice none 0 0) 0 [] := ⟨rfl, .inl ⟨rfl, rfl⟩⟩
  rcases A with _ | ad
  · have hl0 : l = [] := by
      cases l with
      | nil => rfl
      | cons x r => obtain ⟨_, ad, e, _⟩ := hx 0 (by simp); cases e
    subst hl0
    have hr : ∀ ty, (Builtin.append_ #[24, 24] ty #[.slice none 0 0, .slice none 0 c]).run Tryd.prog w = .ok (.slice none 0 0) w := fun ty => by simp [Builtin.append_, run_underlying Tryd.underlying24, sizeOf, typeInfo, hi, Builtin.lenOf, Builtin.firstCells]
    clear hx
    show Calls Tryd.prog 85 #[.slice none 0 c] w _
    go_enter Tryd.func85, Tryd.ntmps85
    go_wp2_with (at_builtin; refine wpList_plain rfl fun K hK => ?_; unfold Oper.wp execOp; simp only [resolve, invoke, builtin, Sem.run_bind, Sem.run_pure, Result.andThen_ok, List.map_toArray, List.map_cons, List.map_nil, Act.eval]; refine hK _ _ ?_)
    go_ret
    exact ⟨none, 0, rfl, hnil, Below.refl _ _⟩
  · have hc := Lib.hid (eds_cells hx)
    have HL := Lib.hid (evs_len l)
    have h1 := Lib.hid (evs_one (l := l))
    clear hx
    generalize evs l = F at *
    generalize l.length = n at *
    go_enter Tryd.func85, Tryd.ntmps85
    go_wp2_with (at_builtin; refine wpList_append_own _ rfl _ _ 24 rfl w.heap.size 30 i0 _ 4 24 Tryd.underlying24 hi hz0 hz1 hz2 rfl (by decide) _ _ _ rfl hnil ad n c F rfl (by have := HL.out; omega) hc.out h1.out (by unfold maxLen; omega) (by omega) (Nat.le_refl _) ?_; intro v' w5 hown' hgrow _)
    go_ret
    rw [Nat.zero_add, List.nil_append] at hown'
    obtain ⟨A', c', rfl, _⟩ := Ap.own_form hown'
    exact ⟨A', c', rfl, hown', (Below.refl _ _).grown hgrow (Nat.le_refl _) (fun q hq => by cases hq)⟩
theorem asc_stop {S : Int} {l : List Int} {k : Nat} (hk : k < l.length) (h : ascP S l k = false) : asc S l = false := allB_false hk h
set_option maxHeartbeats 4000000 in
theorem refStates_any (S : Int) (A : Option Addr) (l : List Int) (c : Nat) (w : World) (hx : Ints w A l) (hl : l.length ≤ 1000000) :
    Calls Tryd.prog 82 #[.slice A l.length c, .int .i64 S] w fun r w' => r = .returned (.bool (asc S l)) ∧ Below w.heap.size w w' := by
  go_enter Tryd.func82, Tryd.ntmps82
  go_wp2
  go_loopw [5] (fun i wr => ∃ k q : Nat, k ≤ l.length ∧ i = .int .i64 k ∧ Hid (∀ i, i < k → ascP S l i = true) ∧ wr = w.drewN q) (fun i _ => l.length - (intOf i).toNat)
  case atStart => exact ⟨0, 0, by omega, rfl, fun i hi => absurd hi (by omega), rfl⟩
  case round =>
    obtain ⟨k, q, hk, rfl, H, rfl⟩ := hrel
    by_cases hlt : k < l.length
    · obtain ⟨ad, rfl, hcell⟩ := hx.at_ hlt
      have hkn : (k : Int) < (l.length : Int) := by omega
      have hstep : Hid (ascP S l k = true → ∀ i, i < k + 1 → ascP S l i = true) := fun hok i hi => by
        rcases Nat.lt_or_eq_of_le (Nat.le_of_lt_succ hi) with h1 | rfl
        · exact H.out i h1
        · exact hok
      have hfail : Hid (ascP S l k = false → asc S l = false) := fun hno => asc_stop hlt hno
      by_cases hx0 : nd l k < 0
      · have d1 : decide (nd l k < 0) = true := decide_eq_true hx0
        have hno : Hid (asc S l = false) := hfail.out (by unfold ascP inS; rw [decide_eq_false (fun h => by omega), Bool.false_and])
        clear hstep hfail H hx hx0
        generalize nd l k = x at *
        generalize l.length = n at *
        go_wp2
        go_quiet (fail)
        go_wp2
        go_ret
        exact ⟨ret_b hno.out.symm, stepB (Ap.drewN_below w q) (Ap.drewN_below _ _)⟩
      · have d1 : decide (nd l k < 0) = false := decide_eq_false hx0
        by_cases hxS : S ≤ nd l k
        · have d2 : decide (S ≤ nd l k) = true := decide_eq_true hxS
          have hno : Hid (asc S l = false) := hfail.out (by unfold ascP inS; rw [decide_eq_false (fun h => by omega), Bool.false_and])
          clear hstep hfail H hx hx0 hxS
          generalize nd l k = x at *
          generalize l.length = n at *
          go_wp2
          go_quiet (fail)
          go_wp2
          go_ret
          exact ⟨ret_b hno.out.symm, stepB (Ap.drewN_below w q) (Ap.drewN_below _ _)⟩
        · have d2 : decide (S ≤ nd l k) = false := decide_eq_false hxS
          have hin : inS S (nd l k) = true := by unfold inS; exact decide_eq_true ⟨by omega, by omega⟩
          by_cases h0 : k = 0
          · have hok : Hid (∀ i, i < k + 1 → ascP S l i = true) := hstep.out (by unfold ascP; rw [hin, decide_eq_true h0]; rfl)
            have d3 : decide (0 < k) = false := by rw [decide_eq_false_iff_not]; omega
            have d4 : decide ((0 : Int) < (k : Int)) = false := by rw [decide_eq_false_iff_not]; omega
            clear hin hstep hfail H h0 hx0 hxS
            generalize nd l k = x at *
            go_wp2
            go_quiet (fail)
            go_wp2
            go_roundw
            case rel => exact ⟨k + 1, _, by omega, by go_num, hok, rfl⟩
            case measure => simp [intOf]; omega
          · obtain ⟨j, hj⟩ : ∃ j, k = j + 1 := ⟨k - 1, by omega⟩
            have d3 : decide (0 < k) = true := decide_eq_true (by omega)
            have d4 : decide ((0 : Int) < (k : Int)) = true := decide_eq_true (by omega)
            have hokd : ascP S l k = decide (nd l j < nd l k) := by
              unfold ascP
              rw [hin, decide_eq_false h0, show k - 1 = j by omega]; simp
            obtain ⟨ad', e', hbk, hc2⟩ := hx j (by omega)
            cases e'
            replace hc2 : w.cell? (ad.add j) = some (.int .i64 (nd l j)) := hc2
            have hkw : IntKind.i64.wrap ((k : Int) - 1) = (j : Int) := by rw [IntKind.wrap_i64]; omega
            have hj0 : (0 : Int) ≤ (j : Int) := by omega
            have hjn : (j : Int) < (l.length : Int) := by omega
            by_cases hlt2 : nd l j < nd l k
            · have hok : Hid (∀ i, i < k + 1 → ascP S l i = true) := hstep.out (by rw [hokd, decide_eq_true hlt2])
              have d5 : decide (nd l k ≤ nd l j) = false := decide_eq_false (by omega)
              clear hin hstep hfail H h0 hokd hj hx0 hxS hlt2 hbk
              generalize nd l k = x at *
              generalize nd l j = y at *
              go_wp2
              go_quiet (fail)
              go_wp2
              go_roundw
              case rel => exact ⟨k + 1, _, by omega, by go_num, hok, rfl⟩
              case measure => simp [intOf]; omega
            · have hno : Hid (asc S l = false) := hfail.out (by rw [hokd, decide_eq_false hlt2])
              have d5 : decide (nd l k ≤ nd l j) = true := decide_eq_true (by omega)
              clear hin hstep hfail H h0 hokd hj hx0 hxS hlt2 hbk hx
              generalize nd l k = x at *
              generalize nd l j = y at *
              generalize l.length = n at *
              go_wp2
              go_quiet (fail)
              go_wp2
              go_ret
              exact ⟨ret_b hno.out.symm, stepB (Ap.drewN_below w q) (Ap.drewN_below _ _)⟩
    · have hyes : Hid (asc S l = true) := (allB_iff _ _).2 fun i hi => H.out i (by omega)
      clear H
      go_wp2
      go_ret
      exact ⟨ret_b hyes.out.symm, Ap.drewN_below w q⟩
theorem chkE_any (e : Ed) (v : Int) (w : World) (he : EdOk e) : Calls Tryd.prog 126 #[.agg #[.int .u8 e.p, .int .u8 e.q], .int .i64 v] w fun r w' => r = .returned (.int .i64 (chk e.p e.q v)) ∧ Below w.heap.size w w' := refCheck_any e.p e.q v w he.p he.q
set_option maxHeartbeats 4000000 in
theorem refEdges_any (V S : Int) (A : Option Addr) (l : List Ed) (c : Nat) (w : World) (hx : EdsAt w A l) (hl : l.length ≤ 1000000) :
    Calls Tryd.prog 83 #[.slice A l.length c, .int .i64 V, .int .i64 S] w fun r w' => r = .returned (.int .i64 (edsE V S l l.length)) ∧ Below w.heap.size w w' := by
  go_enter Tryd.func83, Tryd.ntmps83
  go_wp2
  go_loopw [7, 8] (fun i _ wr => ∃ k : Nat, k ≤ l.length ∧ i = .int .i64 k ∧ Hid (edsE V S l k = 0) ∧ Below w.heap.size w wr) (fun i _ _ => l.length - (intOf i).toNat)
  case atStart => exact ⟨0, by omega, rfl, rfl, Below.refl _ _⟩
  case round =>
    obtain ⟨k, hk, rfl, H, hb⟩ := hrel
    by_cases hlt : k < l.length
    · obtain ⟨ad, rfl, f0, f1, f2, f3⟩ := eds_four (wr := wr) hx hb hlt
      have hok := eds_mem hx (ed l k) (by unfold ed; rw [List.getD_eq_getElem?_getD, List.getElem?_eq_getElem hlt]; exact List.getElem_mem hlt)
      have hkn : (k : Int) < (l.length : Int) := by omega
      have hCh := Lib.hid fun X => chkE_any (ed l k) V X hok
      have hs : Hid (edE V S (ed l k) = 0 → edsE V S l (k + 1) = 0) := fun h => by
        show (if edsE V S l k = 0 then edE V S (ed l k) else _) = 0
        rw [if_pos H.out]; exact h
      have hf : Hid (edE V S (ed l k) ≠ 0 → edsE V S l l.length = edE V S (ed l k)) := fun h => edsE_err H.out hlt h
      clear hx H hok
      cases hi : (inS S (ed l k).fr && inS S (ed l k).to) with
      | false =>
        have he : edE V S (ed l k) = 8 := by unfold edE; rw [hi]; rfl
        have hno : Hid (edsE V S l l.length = 8) := (hf.out (by rw [he]; decide)).trans he
        have hc : (decide ((ed l k).fr < 0) = true) ∨ (decide ((ed l k).fr < 0) = false ∧ decide (S ≤ (ed l k).fr) = true) ∨ (decide ((ed l k).fr < 0) = false ∧ decide (S ≤ (ed l k).fr) = false ∧ decide ((ed l k).to < 0) = true) ∨ (decide ((ed l k).fr < 0) = false ∧ decide (S ≤ (ed l k).fr) = false ∧ decide ((ed l k).to < 0) = false ∧ decide (S ≤ (ed l k).to) = true) := by
          unfold inS at hi
          simp only [decide_eq_true_iff, decide_eq_false_iff_not, Bool.and_eq_false_iff] at hi ⊢
          omega
        clear hi he hs hf hCh
        generalize ed l k = x at *
        rcases hc with h1 | ⟨h1, h2⟩ | ⟨h1, h2, h3⟩ | ⟨h1, h2, h3, h4⟩
        all_goals
          go_wp2
          go_ret
          exact ⟨ret_int hno.out.symm, hb⟩
      | true =>
        have he : edE V S (ed l k) = chk (ed l k).p (ed l k).q V := by unfold edE; rw [hi]; rfl
        rw [he] at hs hf
        have h1 : decide ((ed l k).fr < 0) = false ∧ decide (S ≤ (ed l k).fr) = false ∧ decide ((ed l k).to < 0) = false ∧ decide (S ≤ (ed l k).to) = false := by
          unfold inS at hi
          simp only [decide_eq_true_iff, decide_eq_false_iff_not, Bool.and_eq_true] at hi ⊢
          omega
        obtain ⟨h1, h2, h3, h4⟩ := h1
        have hblk : (ad.add (k * 4)).block < wr.heap.size := World.block_lt_of_cell? wr _ f0
        clear hi he
        generalize ed l k = x at *
        generalize chk x.p x.q V = e at *
        by_cases he : e = 0
        · have hR := Lib.hid (hs.out he)
          clear hs hf
          subst he
          go_wp2
          have KE : Below wr.heap.size wr wr.drew := drew_below wr
          have hSd : wr.drew.cell? ⟨(ad.add (k * 4)).block, (ad.add (k * 4)).off + 2, none⟩ = some (.int .u8 x.p) ∧ wr.drew.cell? ⟨(ad.add (k * 4)).block, (ad.add (k * 4)).off + 3, none⟩ = some (.int .u8 x.q) ∧ Below wr.heap.size wr wr.drew := ⟨f2, f3, KE⟩
          go_region_held3 (fun w' => w'.cell? ⟨(ad.add (k * 4)).block, (ad.add (k * 4)).off + 2, none⟩ = some (.int .u8 x.p) ∧ w'.cell? ⟨(ad.add (k * 4)).block, (ad.add (k * 4)).off + 3, none⟩ = some (.int .u8 x.q) ∧ Below wr.heap.size wr w')
            (first | assumption)
            ((go_at_call 126; ((with_reducible refine (hCh.out wr.drew).mono ?_); rintro e w2 ⟨rfl, hb2⟩); have K2 := stepB KE hb2; have hS2 : w2.cell? ⟨(ad.add (k * 4)).block, (ad.add (k * 4)).off + 2, none⟩ = some (.int .u8 x.p) ∧ w2.cell? ⟨(ad.add (k * 4)).block, (ad.add (k * 4)).off + 3, none⟩ = some (.int .u8 x.q) ∧ Below wr.heap.size wr w2 := ⟨(Below.cell (p := ⟨(ad.add (k * 4)).block, (ad.add (k * 4)).off + 2, none⟩) K2 hblk).trans f2, (Below.cell (p := ⟨(ad.add (k * 4)).block, (ad.add (k * 4)).off + 3, none⟩) K2 hblk).trans f3, K2⟩))
          have hb3 := stepB hb K2
          clear hSd hS2 K2 KE
          go_wp2
          go_roundw
          case rel => exact ⟨k + 1, by omega, by go_num, hR, hb3⟩
          case measure => simp [intOf]; omega
        · have hR := Lib.hid (hf.out he)
          have hne : (e != 0) = true := by rw [bne_iff_ne]; exact he
          clear hs hf
          go_wp2
          have KE : Below wr.heap.size wr wr.drew := drew_below wr
          have hSd : wr.drew.cell? ⟨(ad.add (k * 4)).block, (ad.add (k * 4)).off + 2, none⟩ = some (.int .u8 x.p) ∧ wr.drew.cell? ⟨(ad.add (k * 4)).block, (ad.add (k * 4)).off + 3, none⟩ = some (.int .u8 x.q) ∧ Below wr.heap.size wr wr.drew := ⟨f2, f3, KE⟩
          go_region_held3 (fun w' => w'.cell? ⟨(ad.add (k * 4)).block, (ad.add (k * 4)).off + 2, none⟩ = some (.int .u8 x.p) ∧ w'.cell? ⟨(ad.add (k * 4)).block, (ad.add (k * 4)).off + 3, none⟩ = some (.int .u8 x.q) ∧ Below wr.heap.size wr w')
            (first | assumption)
            ((go_at_call 126; ((with_reducible refine (hCh.out wr.drew).mono ?_); rintro e w2 ⟨rfl, hb2⟩); have K2 := stepB KE hb2; have hS2 : w2.cell? ⟨(ad.add (k * 4)).block, (ad.add (k * 4)).off + 2, none⟩ = some (.int .u8 x.p) ∧ w2.cell? ⟨(ad.add (k * 4)).block, (ad.add (k * 4)).off + 3, none⟩ = some (.int .u8 x.q) ∧ Below wr.heap.size wr w2 := ⟨(Below.cell (p := ⟨(ad.add (k * 4)).block, (ad.add (k * 4)).off + 2, none⟩) K2 hblk).trans f2, (Below.cell (p := ⟨(ad.add (k * 4)).block, (ad.add (k * 4)).off + 3, none⟩) K2 hblk).trans f3, K2⟩))
          have hb3 := stepB hb K2
          clear hSd hS2 K2 KE
          go_wp2
          go_ret
          exact ⟨ret_int hR.out.symm, hb3⟩
    · obtain rfl : k = l.length := by omega
      go_wp2
      go_ret
      exact ⟨ret_int H.out.symm, hb⟩
set_option maxHeartbeats 8000000 in
theorem refCheck6_any (n : Na) (A B C : Option Addr) (a b c : Nat) (w : World) (hx : NaAt w n A B C) (hl : NaLen n) :
    Calls Tryd.prog 32 #[.agg #[.int .i64 n.V, .int .i64 n.S, .slice A n.st.length a, .slice B n.fi.length b, .slice C n.es.length c]] w fun r w' => r = .returned (.int .i64 (chkN n)) ∧ Below w.heap.size w w' := by
  have hB0 := Boxed5.mk0 w n A B C a b c
  have hb0 := bal (Below.refl w.heap.size w) (.cells #[.int .i64 n.V, .int .i64 n.S, .slice A n.st.length a, .slice B n.fi.length b, .slice C n.es.length c] 26)
  have HV := Lib.hid fun X => Vars6_any n.V X
  have H1 := Lib.hid fun X (hX : Below w.heap.size w X) => refStates_any n.S A n.st a X (hx.st.below hX) hl.st
  have H2 := Lib.hid fun X (hX : Below w.heap.size w X) => refStates_any n.S B n.fi b X (hx.fi.below hX) hl.fi
  have H3 := Lib.hid fun X (hX : Below w.heap.size w X) => refEdges_any n.V n.S C n.es c X (hx.es.below hX) hl.es
  have hle := hl.es
  clear hx hl
  by_cases hV : 0 ≤ n.V ∧ n.V ≤ 6
  · rw [decide_eq_true hV] at HV
    by_cases hS : n.S < 0
    · have HE : Hid (chkN n = 1) := by unfold Hid chkN; rw [if_neg (fun h => h hV), if_pos hS]
      have d1 : decide (n.S < 0) = true := decide_eq_true hS
      clear hV hS
      go_enter Tryd.func32, Tryd.ntmps32
      go_wp2_with (first
        | (go_at_call 81; ((with_reducible refine (HV.out _).mono ?_); rintro e w2 ⟨rfl, rfl⟩); obtain ⟨z0, z1, z2, z3, z4⟩ := hB0.cells)
        | (go_at_call 82; ((with_reducible refine (H1.out _ hb0).mono ?_); rintro e w3 ⟨rfl, hb3⟩); clear z0 z1 z2 z3 z4 H1; replace hB0 := hB0.below hb3; replace hb0 := stepB hb0 hb3; clear hb3; obtain ⟨z0, z1, z2, z3, z4⟩ := hB0.cells)
        | (go_at_call 82; ((with_reducible refine (H2.out _ hb0).mono ?_); rintro e w4 ⟨rfl, hb4⟩); clear z0 z1 z2 z3 z4 H2; replace hB0 := hB0.below hb4; replace hb0 := stepB hb0 hb4; clear hb4; obtain ⟨z0, z1, z2, z3, z4⟩ := hB0.cells)
        | (go_at_call 83; ((with_reducible refine (H3.out _ hb0).mono ?_); rintro e w5 ⟨rfl, hb5⟩); replace hb0 := stepB hb0 hb5))
      go_ret
      exact ⟨ret_int HE.out.symm, hb0⟩
    have d1 : decide (n.S < 0) = false := decide_eq_false hS
    by_cases hL : n.S ≤ 64 ∧ n.es.length ≤ 512
    · have d2 : decide ((64 : Int) < n.S) = false := decide_eq_false (by omega)
      have d3 : decide ((512 : Int) < (n.es.length : Int)) = false := decide_eq_false (by omega)
      cases hs : asc n.S n.st with
      | false =>
        have HE : Hid (chkN n = 8) := by unfold Hid chkN; rw [if_neg (fun h => h hV), if_neg hS, if_neg (fun h => h hL), if_pos hs]
        rw [hs] at H1
        clear hV hS hL hs
        go_enter Tryd.func32, Tryd.ntmps32
        go_wp2_with (first
          | (go_at_call 81; ((with_reducible refine (HV.out _).mono ?_); rintro e w2 ⟨rfl, rfl⟩); obtain ⟨z0, z1, z2, z3, z4⟩ := hB0.cells)
          | (go_at_call 82; ((with_reducible refine (H1.out _ hb0).mono ?_); rintro e w3 ⟨rfl, hb3⟩); clear z0 z1 z2 z3 z4 H1; replace hB0 := hB0.below hb3; replace hb0 := stepB hb0 hb3; clear hb3; obtain ⟨z0, z1, z2, z3, z4⟩ := hB0.cells)
          | (go_at_call 82; ((with_reducible refine (H2.out _ hb0).mono ?_); rintro e w4 ⟨rfl, hb4⟩); clear z0 z1 z2 z3 z4 H2; replace hB0 := hB0.below hb4; replace hb0 := stepB hb0 hb4; clear hb4; obtain ⟨z0, z1, z2, z3, z4⟩ := hB0.cells)
          | (go_at_call 83; ((with_reducible refine (H3.out _ hb0).mono ?_); rintro e w5 ⟨rfl, hb5⟩); replace hb0 := stepB hb0 hb5))
        go_ret
        exact ⟨ret_int HE.out.symm, hb0⟩
      | true =>
        rw [hs] at H1
        cases hf : asc n.S n.fi with
        | false =>
          have HE : Hid (chkN n = 8) := by unfold Hid chkN; rw [if_neg (fun h => h hV), if_neg hS, if_neg (fun h => h hL), if_neg (by rw [hs]; simp), if_pos hf]
          rw [hf] at H2
          clear hV hS hL hs hf
          go_enter Tryd.func32, Tryd.ntmps32
          go_wp2_with (first
            | (go_at_call 81; ((with_reducible refine (HV.out _).mono ?_); rintro e w2 ⟨rfl, rfl⟩); obtain ⟨z0, z1, z2, z3, z4⟩ := hB0.cells)
            | (go_at_call 82; ((with_reducible refine (H1.out _ hb0).mono ?_); rintro e w3 ⟨rfl, hb3⟩); clear z0 z1 z2 z3 z4 H1; replace hB0 := hB0.below hb3; replace hb0 := stepB hb0 hb3; clear hb3; obtain ⟨z0, z1, z2, z3, z4⟩ := hB0.cells)
            | (go_at_call 82; ((with_reducible refine (H2.out _ hb0).mono ?_); rintro e w4 ⟨rfl, hb4⟩); clear z0 z1 z2 z3 z4 H2; replace hB0 := hB0.below hb4; replace hb0 := stepB hb0 hb4; clear hb4; obtain ⟨z0, z1, z2, z3, z4⟩ := hB0.cells)
            | (go_at_call 83; ((with_reducible refine (H3.out _ hb0).mono ?_); rintro e w5 ⟨rfl, hb5⟩); replace hb0 := stepB hb0 hb5))
          go_ret
          exact ⟨ret_int HE.out.symm, hb0⟩
        | true =>
          have HE : Hid (chkN n = edsE n.V n.S n.es n.es.length) := by unfold Hid chkN; rw [if_neg (fun h => h hV), if_neg hS, if_neg (fun h => h hL), if_neg (by rw [hs]; simp), if_neg (by rw [hf]; simp)]
          rw [hf] at H2
          clear hV hS hL hs hf
          go_enter Tryd.func32, Tryd.ntmps32
          go_wp2_with (first
            | (go_at_call 81; ((with_reducible refine (HV.out _).mono ?_); rintro e w2 ⟨rfl, rfl⟩); obtain ⟨z0, z1, z2, z3, z4⟩ := hB0.cells)
            | (go_at_call 82; ((with_reducible refine (H1.out _ hb0).mono ?_); rintro e w3 ⟨rfl, hb3⟩); clear z0 z1 z2 z3 z4 H1; replace hB0 := hB0.below hb3; replace hb0 := stepB hb0 hb3; clear hb3; obtain ⟨z0, z1, z2, z3, z4⟩ := hB0.cells)
            | (go_at_call 82; ((with_reducible refine (H2.out _ hb0).mono ?_); rintro e w4 ⟨rfl, hb4⟩); clear z0 z1 z2 z3 z4 H2; replace hB0 := hB0.below hb4; replace hb0 := stepB hb0 hb4; clear hb4; obtain ⟨z0, z1, z2, z3, z4⟩ := hB0.cells)
            | (go_at_call 83; ((with_reducible refine (H3.out _ hb0).mono ?_); rintro e w5 ⟨rfl, hb5⟩); replace hb0 := stepB hb0 hb5))
          go_ret
          exact ⟨ret_int HE.out.symm, hb0⟩
    · have HE : Hid (chkN n = 4) := by unfold Hid chkN; rw [if_neg (fun h => h hV), if_neg hS, if_pos hL]
      have d2 : decide ((64 : Int) < n.S) = true ∨ (decide ((64 : Int) < n.S) = false ∧ decide ((512 : Int) < (n.es.length : Int)) = true) := by
        simp only [decide_eq_true_iff, decide_eq_false_iff_not]
        omega
      clear hV hS hL
      rcases d2 with d2 | ⟨d2, d3⟩
      all_goals
        go_enter Tryd.func32, Tryd.ntmps32
        go_wp2_with (first
          | (go_at_call 81; ((with_reducible refine (HV.out _).mono ?_); rintro e w2 ⟨rfl, rfl⟩); obtain ⟨z0, z1, z2, z3, z4⟩ := hB0.cells)
          | (go_at_call 82; ((with_reducible refine (H1.out _ hb0).mono ?_); rintro e w3 ⟨rfl, hb3⟩); clear z0 z1 z2 z3 z4 H1; replace hB0 := hB0.below hb3; replace hb0 := stepB hb0 hb3; clear hb3; obtain ⟨z0, z1, z2, z3, z4⟩ := hB0.cells)
          | (go_at_call 82; ((with_reducible refine (H2.out _ hb0).mono ?_); rintro e w4 ⟨rfl, hb4⟩); clear z0 z1 z2 z3 z4 H2; replace hB0 := hB0.below hb4; replace hb0 := stepB hb0 hb4; clear hb4; obtain ⟨z0, z1, z2, z3, z4⟩ := hB0.cells)
          | (go_at_call 83; ((with_reducible refine (H3.out _ hb0).mono ?_); rintro e w5 ⟨rfl, hb5⟩); replace hb0 := stepB hb0 hb5))
        go_ret
        exact ⟨ret_int HE.out.symm, hb0⟩
  · have HE : Hid (chkN n = 7) := by unfold Hid chkN; rw [if_pos hV]
    rw [decide_eq_false hV] at HV
    clear hV
    go_enter Tryd.func32, Tryd.ntmps32
    go_wp2_with (first
      | (go_at_call 81; ((with_reducible refine (HV.out _).mono ?_); rintro e w2 ⟨rfl, rfl⟩); obtain ⟨z0, z1, z2, z3, z4⟩ := hB0.cells)
      | (go_at_call 82; ((with_reducible refine (H1.out _ hb0).mono ?_); rintro e w3 ⟨rfl, hb3⟩); clear z0 z1 z2 z3 z4 H1; replace hB0 := hB0.below hb3; replace hb0 := stepB hb0 hb3; clear hb3; obtain ⟨z0, z1, z2, z3, z4⟩ := hB0.cells)
      | (go_at_call 82; ((with_reducible refine (H2.out _ hb0).mono ?_); rintro e w4 ⟨rfl, hb4⟩); clear z0 z1 z2 z3 z4 H2; replace hB0 := hB0.below hb4; replace hb0 := stepB hb0 hb4; clear hb4; obtain ⟨z0, z1, z2, z3, z4⟩ := hB0.cells)
      | (go_at_call 83; ((with_reducible refine (H3.out _ hb0).mono ?_); rintro e w5 ⟨rfl, hb5⟩); replace hb0 := stepB hb0 hb5))
    go_ret
    exact ⟨ret_int HE.out.symm, hb0⟩
end Go.Proofs.YtlaagjmfgaccjaaDoor.Nf
namespace Go.Proofs.YtlaagjmfgaccjaaDoor.Nf
open Go Go.RowKit Go.Proofs.YtlaagjmfgaccjaaDoor Go.Proofs.YtlaagjmfgaccjaaDoor.Cb
set_option linter.unusedVariables false
set_option linter.unusedSimpArgs false
set_option maxRecDepth 100000
set_option maxHeartbeats 8000000 in
theorem CopyNFA_any (n : Na) (A B C : Option Addr) (a b c : Nat) (w : World) (hx : NaAt w n A B C) (hl : NaLen n) :
    Calls Tryd.prog 33 #[.agg #[.int .i64 n.V, .int .i64 n.S, .slice A n.st.length a, .slice B n.fi.length b, .slice C n.es.length c]] w fun e w' =>
      ∃ A' B' C' a' b' c', e = .returned (.agg #[.int .i64 n.V, .int .i64 n.S, .slice A' n.st.length a', .slice B' n.fi.length b', .slice C' n.es.length c']) ∧ Below w.heap.size w w' ∧ NaAt w' n A' B' C' := by
  have hB0 := bal (bal (Below.refl w.heap.size w) (.cells #[.int .i64 n.V, .int .i64 n.S, .slice A n.st.length a, .slice B n.fi.length b, .slice C n.es.length c] 26)) (.cells #[.int .i64 0, .int .i64 0, .slice none 0 0, .slice none 0 0, .slice none 0 0] 26)
  have hN0 := (Blk.new w (.int .i64 n.V) (.int .i64 n.S) (.slice A n.st.length a) (.slice B n.fi.length b) (.slice C n.es.length c)).below (bal (Below.refl _ _) (.cells #[.int .i64 0, .int .i64 0, .slice none 0 0, .slice none 0 0, .slice none 0 0] 26))
  have hR0 := Blk.new (w.alloc (.cells #[.int .i64 n.V, .int .i64 n.S, .slice A n.st.length a, .slice B n.fi.length b, .slice C n.es.length c] 26)) (.int .i64 0) (.int .i64 0) (.slice none 0 0) (.slice none 0 0) (.slice none 0 0)
  rw [World.size_alloc] at hR0
  have H1 := Lib.hid fun X (hX : Below w.heap.size w X) => Dg.CopyInts_any A n.st a X (hx.st.below hX) hl.st
  have H2 := Lib.hid fun X (hX : Below w.heap.size w X) => Dg.CopyInts_any B n.fi b X (hx.fi.below hX) hl.fi
  have H3 := Lib.hid fun X (hX : Below w.heap.size w X) => CopyEdges_any C n.es c X (hx.es.below hX) hl.es
  have HP : Hid (∀ X A' B' C' a' b' c' B1 B2 B3, X.ownsRow B1 3 1 (.slice A' n.st.length a') n.st.length (n.st.map (Value.int .i64)) → X.ownsRow B2 3 1 (.slice B' n.fi.length b') n.fi.length (n.fi.map (Value.int .i64)) → X.ownsRow B3 30 4 (.slice C' n.es.length c') n.es.length (evs n.es) → NaAt X n A' B' C') := fun X A' B' C' a' b' c' B1 B2 B3 h1 h2 h3 => ⟨hx.v, hx.s, Dg.ints_row h1 rfl, Dg.ints_row h2 rfl, eds_of_own h3 (eds_mem hx.es)⟩
  clear hx hl
  go_enter Tryd.func33, Tryd.ntmps33
  go_wp2
  generalize ((w.alloc (.cells #[.int .i64 n.V, .int .i64 n.S, .slice A n.st.length a, .slice B n.fi.length b, .slice C n.es.length c] 26)).alloc (.cells #[.int .i64 0, .int .i64 0, .slice none 0 0, .slice none 0 0, .slice none 0 0] 26)) = w1 at *
  refine wp_region_any (by kernel_rfl) ?_
  change wpAny _ _ _ _ _ _ _ (World.drew _)
  have hS0 : (fun X : World => Blk X w.heap.size (.int .i64 n.V) (.int .i64 n.S) (.slice A n.st.length a) (.slice B n.fi.length b) (.slice C n.es.length c)) w1.drew := hN0
  have hlY : ∀ Y : World, Below w1.heap.size w1 Y → (fun X : World => Blk X w.heap.size (.int .i64 n.V) (.int .i64 n.S) (.slice A n.st.length a) (.slice B n.fi.length b) (.slice C n.es.length c)) Y := fun Y hY => hN0.below hY
  have hD : Below w1.heap.size w1 w1.drew := drew_below w1
  generalize w1.drew = X0 at *
  refine wpAny_head 14 14 (fun X : World => Blk X w.heap.size (.int .i64 n.V) (.int .i64 n.S) (.slice A n.st.length a) (.slice B n.fi.length b) (.slice C n.es.length c)) rfl rfl (by kernel_rfl) (by kernel_rfl) (by kernel_rfl) (fun hA => ?_)
  refine wpHead_take (i := 0) (v := ?_) (by kernel_rfl) hA (at_drop rfl) (by decide) (by kernel_rfl) (by kernel_rfl) (by kernel_rfl) (fun _ _ _ h => h) (Or.inl ⟨by rfl, ?_⟩) hS0 (fun hA => ?_)
  rotate_left
  · (intro w hSw; obtain ⟨s0, s1, s2, s3, s4⟩ := hSw.cells; go_simp <;> with_reducible rfl)
  simp only [Act.put, List.setIfInBounds_toArray, List.set_cons_zero, List.set_cons_succ]
  refine wpHead_take (i := 1) (v := ?_) (by kernel_rfl) hA (at_drop rfl) (by decide) (by kernel_rfl) (by kernel_rfl) (by kernel_rfl) (fun _ _ _ h => h) (Or.inl ⟨by rfl, ?_⟩) hS0 (fun hA => ?_)
  rotate_left
  · (intro w hSw; obtain ⟨s0, s1, s2, s3, s4⟩ := hSw.cells; go_simp <;> with_reducible rfl)
  simp only [Act.put, List.setIfInBounds_toArray, List.set_cons_zero, List.set_cons_succ]
  refine wpHead_take (i := 2) (v := ?_) (by kernel_rfl) hA (at_drop rfl) (by decide) (by kernel_rfl) (by kernel_rfl) (by kernel_rfl) (fun _ _ _ h => h) (Or.inl ⟨by rfl, ?_⟩) hS0 (fun hA => ?_)
  rotate_left
  · (intro w hSw; obtain ⟨s0, s1, s2, s3, s4⟩ := hSw.cells; go_simp <;> with_reducible rfl)
  simp only [Act.put, List.setIfInBounds_toArray, List.set_cons_zero, List.set_cons_succ]
  refine wpHead_take (i := 3) (v := ?_) (by kernel_rfl) hA (at_drop rfl) (by decide) (by kernel_rfl) (by kernel_rfl) (by kernel_rfl) (fun _ _ _ h => h) (Or.inl ⟨by rfl, ?_⟩) hS0 (fun hA => ?_)
  rotate_left
  · (intro w hSw; obtain ⟨s0, s1, s2, s3, s4⟩ := hSw.cells; go_simp <;> with_reducible rfl)
  simp only [Act.put, List.setIfInBounds_toArray, List.set_cons_zero, List.set_cons_succ]
  refine wpHead_take (i := 4) (v := ?_) (by kernel_rfl) hA (at_drop rfl) (by decide) (by kernel_rfl) (by kernel_rfl) (by kernel_rfl) (fun _ _ _ h => h) (Or.inl ⟨by rfl, ?_⟩) hS0 (fun hA => ?_)
  rotate_left
  · (intro w hSw; obtain ⟨s0, s1, s2, s3, s4⟩ := hSw.cells; go_simp <;> with_reducible rfl)
  simp only [Act.put, List.setIfInBounds_toArray, List.set_cons_zero, List.set_cons_succ]
  refine wpHead_take (i := 5) (v := ?_) (by kernel_rfl) hA (at_drop rfl) (by decide) (by kernel_rfl) (by kernel_rfl) (by kernel_rfl) (fun _ _ _ h => h) (Or.inl ⟨by rfl, ?_⟩) hS0 (fun hA => ?_)
  rotate_left
  · (intro w hSw; obtain ⟨s0, s1, s2, s3, s4⟩ := hSw.cells; go_simp <;> with_reducible rfl)
  simp only [Act.put, List.setIfInBounds_toArray, List.set_cons_zero, List.set_cons_succ]
  refine wpHead_take (i := 7) (v := ?_) (by kernel_rfl) hA (at_drop rfl) (by decide) (by kernel_rfl) (by kernel_rfl) (by kernel_rfl) (fun _ _ _ h => h) (Or.inl ⟨by rfl, ?_⟩) hS0 (fun hA => ?_)
  rotate_left
  · (intro w hSw; obtain ⟨s0, s1, s2, s3, s4⟩ := hSw.cells; go_simp <;> with_reducible rfl)
  simp only [Act.put, List.setIfInBounds_toArray, List.set_cons_zero, List.set_cons_succ]
  refine wpHead_take (i := 8) (v := ?_) (by kernel_rfl) hA (at_drop rfl) (by decide) (by kernel_rfl) (by kernel_rfl) (by kernel_rfl) (fun _ _ _ h => h) (Or.inl ⟨by rfl, ?_⟩) hS0 (fun hA => ?_)
  rotate_left
  · (intro w hSw; obtain ⟨s0, s1, s2, s3, s4⟩ := hSw.cells; go_simp <;> with_reducible rfl)
  simp only [Act.put, List.setIfInBounds_toArray, List.set_cons_zero, List.set_cons_succ]
  refine wpHead_take (i := 10) (v := ?_) (by kernel_rfl) hA (at_drop rfl) (by decide) (by kernel_rfl) (by kernel_rfl) (by kernel_rfl) (fun _ _ _ h => h) (Or.inl ⟨by rfl, ?_⟩) hS0 (fun hA => ?_)
  rotate_left
  · (intro w hSw; obtain ⟨s0, s1, s2, s3, s4⟩ := hSw.cells; go_simp <;> with_reducible rfl)
  simp only [Act.put, List.setIfInBounds_toArray, List.set_cons_zero, List.set_cons_succ]
  refine wpHead_take (i := 11) (v := ?_) (by kernel_rfl) hA (at_drop rfl) (by decide) (by kernel_rfl) (by kernel_rfl) (by kernel_rfl) (fun _ _ _ h => h) (Or.inl ⟨by rfl, ?_⟩) hS0 (fun hA => ?_)
  rotate_left
  · (intro w hSw; obtain ⟨s0, s1, s2, s3, s4⟩ := hSw.cells; go_simp <;> with_reducible rfl)
  simp only [Act.put, List.setIfInBounds_toArray, List.set_cons_zero, List.set_cons_succ]
  have hA6 := hnext hA (rs := [6]) (i := 6) (by kernel_rfl) (by decide) (by decide)
  refine wpHead_ready (rs := [6]) (by kernel_rfl) (by decide) (AllHead.cons (at_drop rfl) (by decide) (fun KK hK => ?_) AllHead.nil)
  replace hA := hA6
  go_simp
  refine (H1.out X0 (stepB hB0 hD)).mono ?_
  rintro e X1 ⟨A1, a1, rfl, o1, k1, d1⟩
  have HX1 := stepB hD d1
  refine hK _ _ (hlY _ HX1) ?_
  clear hK KK
  try simp only [Act.put, List.setIfInBounds_toArray, List.set_cons_zero, List.set_cons_succ]
  have hA9 := hnext hA (rs := [9]) (i := 9) (by kernel_rfl) (by decide) (by decide)
  refine wpHead_ready (rs := [9]) (by kernel_rfl) (by decide) (AllHead.cons (at_drop rfl) (by decide) (fun KK hK => ?_) AllHead.nil)
  replace hA := hA9
  go_simp
  refine (H2.out X1 (stepB hB0 HX1)).mono ?_
  rintro e X2 ⟨B1, b1, rfl, o2, k2, d2⟩
  have HX2 := stepB HX1 d2
  refine hK _ _ (hlY _ HX2) ?_
  clear hK KK
  try simp only [Act.put, List.setIfInBounds_toArray, List.set_cons_zero, List.set_cons_succ]
  have hA12 := hnext hA (rs := [12]) (i := 12) (by kernel_rfl) (by decide) (by decide)
  refine wpHead_ready (rs := [12]) (by kernel_rfl) (by decide) (AllHead.cons (at_drop rfl) (by decide) (fun KK hK => ?_) AllHead.nil)
  replace hA := hA12
  go_simp
  refine (H3.out X2 (stepB hB0 HX2)).mono ?_
  rintro e X3 ⟨C1, c1, rfl, o3, d3⟩
  have HX3 := stepB HX2 d3
  refine hK _ _ (hlY _ HX3) ?_
  clear hK KK
  try simp only [Act.put, List.setIfInBounds_toArray, List.set_cons_zero, List.set_cons_succ]
  refine wpHead_take (i := 13) (v := ?_) (by kernel_rfl) hA (at_drop rfl) (by decide) (by kernel_rfl) (by kernel_rfl) (by kernel_rfl) (fun _ _ _ h => h) (Or.inl ⟨by rfl, ?_⟩) (hlY _ HX3) (fun hA => ?_)
  rotate_left
  · (intro w hSw; obtain ⟨s0, s1, s2, s3, s4⟩ := hSw.cells; go_simp <;> with_reducible rfl)
  simp only [Act.put, List.setIfInBounds_toArray, List.set_cons_zero, List.set_cons_succ]
  have hR := hR0.below HX3
  have hbX := stepB hB0 HX3
  have p1 := (o1.below d2).below d3
  have p2 := o2.below d3
  obtain ⟨⟨q0, f0⟩, ⟨q1, f1⟩, ⟨q2, f2⟩, ⟨q3, f3⟩, ⟨q4, f4⟩, hR5, hB5, hO5⟩ := store5 hR (.int .i64 n.V) (.int .i64 n.S) (.slice A1 n.st.length a1) (.slice B1 n.fi.length b1) (.slice C1 n.es.length c1)
  have HF := Lib.hid (And.intro hR5.cells (And.intro (hbX.trans (hB5 w.heap.size (by omega))) (HP.out _ _ _ _ _ _ _ _ _ _ (hO5 _ _ _ _ _ _ p1 (by decide)) (hO5 _ _ _ _ _ _ p2 (by decide)) (hO5 _ _ _ _ _ _ o3 (by decide)))))
  clear hR5 hB5 hO5 hR hbX p1 p2 o1 o2 o3 d1 d2 d3 HX1 HX2 HX3 hD hA HP k1 k2
  clear hlY hN0 hR0 H1 H2 H3 hS0 hB0
  refine wpHead_end (by kernel_rfl) ?_
  simp only [List.drop_succ_cons, List.drop_zero]
  go_wp2
  obtain ⟨⟨y0, y1, y2, y3, y4⟩, hb5, hN⟩ := HF.out
  unfold put5 at y0 y1 y2 y3 y4 hb5 hN
  refine bodyPost_ret (v := .agg #[.int .i64 n.V, .int .i64 n.S, .slice A1 n.st.length a1, .slice B1 n.fi.length b1, .slice C1 n.es.length c1]) (by simp [results, Tryd.results33, go_sem, y0, y1, y2, y3, y4]) rfl ?_
  exact ⟨_, _, _, _, _, _, rfl, hb5, hN⟩
end Go.Proofs.YtlaagjmfgaccjaaDoor.Nf
namespace Go.Proofs.YtlaagjmfgaccjaaDoor.Nf
open Go Go.RowKit Go.Proofs.YtlaagjmfgaccjaaDoor Go.Proofs.YtlaagjmfgaccjaaDoor.Cb
set_option linter.unusedVariables false
set_option linter.unusedSimpArgs false
set_option maxRecDepth 100000
/-- An edge leads from a state of s to q under the letter x. -/
def hitE (s : List Int) (x : Nat) (q : Int) (e : Ed) : Bool := e.to == q && (decide (e.fr ∈ s) && cHas e.p e.q x)
def aftTo (l : List Ed) (s : List Int) (x : Nat) : Nat → List Int
  | 0 => []
  | k + 1 => aftTo l s x k ++ if l.any (hitE s x k) then [(k : Int)] else []
def aftL (n : Na) (s : List Int) (x : Nat) : List Int := aftTo n.es s x n.S.toNat
theorem mem_aftTo {l : List Ed} {s : List Int} {x : Nat} {z : Int} : ∀ {k : Nat}, z ∈ aftTo l s x k ↔ ∃ j : Nat, j < k ∧ z = j ∧ l.any (hitE s x j) = true
  | 0 => ⟨fun h => (by cases h), fun ⟨j, h, _⟩ => absurd h (Nat.not_lt_zero j)⟩
  | k + 1 => by
    show z ∈ aftTo l s x k ++ (if l.any (hitE s x k) then [(k : Int)] else []) ↔ _
    rw [List.mem_append, mem_aftTo]
    constructor
    · rintro (⟨j, h1, h2⟩ | h)
      · exact ⟨j, by omega, h2⟩
      · split at h
        · rename_i hh
          exact ⟨k, by omega, List.mem_singleton.1 h, hh⟩
        · cases h
    · rintro ⟨j, h1, h2, h3⟩
      rcases Nat.lt_or_eq_of_le (Nat.le_of_lt_succ h1) with h | rfl
      · exact .inl ⟨j, h, h2, h3⟩
      · right
        rw [if_pos h3, h2]
        exact List.mem_singleton.2 rfl
theorem aftTo_len {l : List Ed} {s : List Int} {x : Nat} : ∀ {k : Nat}, (aftTo l s x k).length ≤ k
  | 0 => Nat.le_refl _
  | k + 1 => by
    show (aftTo l s x k ++ (if l.any (hitE s x k) then [(k : Int)] else [])).length ≤ k + 1
    rw [List.length_append]
    have := aftTo_len (l := l) (s := s) (x := x) (k := k)
    split <;> simp <;> omega
theorem mem_aft {n : Na} (h : Ok n) {s : List Int} {xs : List Nat} (hs : ∀ z, z ∈ s ↔ hasB xs z = true) {x : Nat} {z : Int} : z ∈ aftL n s x ↔ hasB (stepW n.es xs x) z = true := by
  unfold aftL
  rw [mem_aftTo, has_step h.ed h.s64]
  constructor
  · rintro ⟨j, h1, rfl, h3⟩
    obtain ⟨e, he, h4⟩ := List.any_eq_true.1 h3
    unfold hitE at h4
    rw [Bool.and_eq_true, Bool.and_eq_true, beq_iff_eq, decide_eq_true_iff] at h4
    exact ⟨e, he, h4.2.2, (hs _).1 h4.2.1, h4.1⟩
  · rintro ⟨e, he, h1, h2, rfl⟩
    have hi := (edE_in (h.ed e he)).2.1
    refine ⟨e.to.toNat, by omega, by omega, List.any_eq_true.2 ⟨e, he, ?_⟩⟩
    unfold hitE
    rw [Bool.and_eq_true, Bool.and_eq_true, beq_iff_eq, decide_eq_true_iff]
    exact ⟨by omega, (hs _).2 h2, h1⟩
theorem ofL_of {l : List Int} {xs : List Nat} (hc : canon xs = xs) (ux : U64 xs) (h : ∀ z, z ∈ l ↔ hasB xs z = true) : ofL l = xs := by
  refine IsSet.unique (P := fun z => z ∈ l) ⟨ofL_canon l, u64_of l, fun z => ?_⟩ ⟨hc, ux, fun z => (h z).symm⟩
  rw [has_ofL]
  refine ⟨fun h => h.2, fun hz => ⟨?_, hz⟩⟩
  have := (h z).1 hz
  unfold hasB at this
  rw [Bool.and_eq_true, decide_eq_true_iff] at this
  exact this.1
/-- The list that the reference's Run keeps. -/
def runL (n : Na) (w : List Nat) (k : Nat) : List Int := (w.take k).foldl (aftL n) n.st
theorem runL_succ (n : Na) {w : List Nat} {k : Nat} (h : k < w.length) : aftL n (runL n w k) (wd w k) = runL n w (k + 1) := by
  unfold runL
  have e : w.take (k + 1) = w.take k ++ [wd w k] := by
    rw [List.take_succ_eq_append_getElem h]
    simp [wd, h]
  rw [e, List.foldl_append]
  rfl
theorem mem_runL {n : Na} (h : Ok n) {w : List Nat} : ∀ (k : Nat), k ≤ w.length → ∀ z, z ∈ runL n w k ↔ hasB (runTo n w k) z = true
  | 0, _, z => (has_st h.s64 h.st).symm
  | k + 1, hk, z => by
    rw [← runL_succ n (by omega), runTo_succ n (by omega)]
    exact mem_aft h (mem_runL h k (by omega))
theorem runL_len {n : Na} {w : List Nat} {k : Nat} (hs : n.S ≤ 64) (hst : n.st.length ≤ 1000000) (hk : k ≤ w.length) : (runL n w k).length ≤ 1000000 := by
  cases k with
  | zero => exact hst
  | succ k =>
    rw [← runL_succ n (by omega)]
    have : (aftL n (runL n w k) (wd w k)).length ≤ n.S.toNat := aftTo_len
    omega
theorem any_take_succ {l : List Ed} {p : Ed → Bool} {j : Nat} (h : j < l.length) : (l.take (j + 1)).any p = ((l.take j).any p || p (ed l j)) := by
  rw [List.take_succ_eq_append_getElem h, List.any_append]
  have : ed l j = l[j] := by unfold ed; rw [List.getD_eq_getElem?_getD, List.getElem?_eq_getElem h]; rfl
  rw [this]
  simp
theorem Boxed5.belowB {w w' : World} {b B : Nat} {u0 u1 s2 s3 s4 : Value} (h : Boxed5 w b u0 u1 s2 s3 s4) (hb : Below B w w') (hB : b < B) : Boxed5 w' b u0 u1 s2 s3 s4 :=
  ⟨Nat.lt_of_lt_of_le h.lt hb.size, (hb.cell (p := ⟨b, 0, none⟩) hB).trans h.c0, (hb.cell (p := ⟨b, 1, none⟩) hB).trans h.c1, (hb.cell (p := ⟨b, 2, none⟩) hB).trans h.c2, (hb.cell (p := ⟨b, 3, none⟩) hB).trans h.c3, (hb.cell (p := ⟨b, 4, none⟩) hB).trans h.c4⟩
set_option maxHeartbeats 8000000 in
theorem refAfter_any (n : Na) (A B C : Option Addr) (a b c : Nat) (w : World) (hx : NaAt w n A B C) (hl : NaLen n) (hO : Ok n) (D : Option Addr) (s : List Int) (d : Nat) (hs : Ints w D s) (hsl : s.length ≤ 1000000) (x : Nat) (h8 : x < 256) :
    Calls Tryd.prog 86 #[.agg #[.int .i64 n.V, .int .i64 n.S, .slice A n.st.length a, .slice B n.fi.length b, .slice C n.es.length c], .slice D s.length d, .int .u8 x] w fun e w' =>
      ∃ A' c', e = .returned (.slice A' (aftL n s x).length c') ∧ w'.ownsRow w.heap.size 3 1 (.slice A' (aftL n s x).length c') (aftL n s x).length (zvs (aftL n s x)) ∧ Below w.heap.size w w' := by
  obtain ⟨i0, hi0, hz0, hz1, hz2⟩ := info_parts info_int6
  have hB0 := Boxed5.mk0 w n A B C a b c
  have hb00 := bal (Below.refl w.heap.size w) (.cells #[.int .i64 n.V, .int .i64 n.S, .slice A n.st.length a, .slice B n.fi.length b, .slice C n.es.length c] 26)
  obtain ⟨S, hS⟩ : ∃ S : Nat, n.S = S := ⟨n.S.toNat, by have := hO.s0; omega⟩
  have hS64 : S ≤ 64 := by have := hO.s64; omega
  have hes := hx.es
  have hle := hl.es
  have hIn := Lib.hid fun z X (hX : Below w.heap.size w X) => HasInt_any D s d z X (hs.below hX) hsl
  have hRes : Hid (aftL n s x = aftTo n.es s x S) := by unfold Hid aftL; rw [hS, Int.toNat_natCast]
  rw [hRes.out]
  have hsz0 : (w.alloc (.cells #[.int .i64 n.V, .int .i64 n.S, .slice A n.st.length a, .slice B n.fi.length b, .slice C n.es.length c] 26)).heap.size = w.heap.size + 1 := by simp
  clear hx hl hs hsl hRes hO
  rw [hS] at hB0 hb00 hsz0 ⊢
  clear hS
  go_enter Tryd.func86, Tryd.ntmps86
  go_wp2
  generalize World.alloc w (.cells #[.int .i64 n.V, .int .i64 S, .slice A n.st.length a, .slice B n.fi.length b, .slice C n.es.length c] 26) = w0 at *
  have hB00 := Lib.hid hB0
  have hsz00 : w.heap.size + 1 ≤ w0.heap.size := by omega
  go_loopw [7, 8, 9] (fun lv qv _ wr => ∃ (k : Nat) (v : Value), k ≤ S ∧ v = lv ∧ qv = .int .i64 k ∧ Hid (wr.ownsRow (w.heap.size + 1) 3 1 v (aftTo n.es s x k).length (zvs (aftTo n.es s x k))) ∧ Hid (Below (w.heap.size + 1) w0 wr)) (fun _ q _ _ => S - (intOf q).toNat)
  case atStart => exact ⟨0, _, by omega, rfl, rfl, ⟨rfl, .inl ⟨rfl, rfl⟩⟩, Below.refl _ _⟩
  case round =>
    clear hB0 hsz0
    obtain ⟨k, v, hk, rfl, rfl, hO, hb⟩ := hrel
    have hB := hB00.out.belowB hb.out (Nat.lt_succ_self _)
    obtain ⟨z0, z1, z2, z3, z4⟩ := hB.cells
    by_cases hkS : k < S
    · go_wp2
      obtain ⟨wq2, rfl⟩ : ∃ wq : World, wq = wr := ⟨_, rfl⟩
      have hO0 : Hid (wq2.ownsRow (w.heap.size + 1) 3 1 v (aftTo n.es s x k ++ if (n.es.take 0).any (hitE s x k) then [(k : Int)] else []).length (zvs (aftTo n.es s x k ++ if (n.es.take 0).any (hitE s x k) then [(k : Int)] else []))) := by
        simp only [List.take_zero, List.any_nil, Bool.false_eq_true, if_false, List.append_nil]
        exact hO
      go_loopw [7, 9] (fun lv jv wr => ∃ (j : Nat) (v : Value), j ≤ n.es.length ∧ v = lv ∧ jv = .int .i64 j ∧ Hid (wr.ownsRow (w.heap.size + 1) 3 1 v (aftTo n.es s x k ++ if (n.es.take j).any (hitE s x k) then [(k : Int)] else []).length (zvs (aftTo n.es s x k ++ if (n.es.take j).any (hitE s x k) then [(k : Int)] else []))) ∧ Hid (Below (w.heap.size + 1) w0 wr)) (fun _ j _ => n.es.length - (intOf j).toNat)
      case atStart => exact ⟨0, _, by omega, rfl, rfl, hO0, hb⟩
      case round =>
        clear hO hb hO0 hB z0 z1 z2 z3 z4
        obtain ⟨j, v, hj, rfl, rfl, hO, hb⟩ := hrel
        have hB := hB00.out.belowB hb.out (Nat.lt_succ_self _)
        obtain ⟨z0, z1, z2, z3, z4⟩ := hB.cells
        by_cases hjn : j < n.es.length
        · have hbw : Below w.heap.size w wr := hb00.trans (hb.out.mono (Nat.le_succ _))
          obtain ⟨hok, ad, rfl, had, hc⟩ := (hes.below hbw) j hjn
          obtain ⟨q0, q1, q2, q3⟩ := four_at hc
          have hPs := any_take_succ (p := hitE s x k) hjn
          obtain ⟨L, hL⟩ : ∃ L, L = aftTo n.es s x k ++ if (n.es.take j).any (hitE s x k) then [(k : Int)] else [] := ⟨_, rfl⟩
          obtain ⟨L', hL'⟩ : ∃ L', L' = aftTo n.es s x k ++ if (n.es.take (j + 1)).any (hitE s x k) then [(k : Int)] else [] := ⟨_, rfl⟩
          rw [← hL] at hO
          have hmem : decide ((k : Int) ∈ L) = (n.es.take j).any (hitE s x k) := by
            rw [hL, Bool.eq_iff_iff, decide_eq_true_iff, List.mem_append, mem_aftTo]
            constructor
            · rintro (⟨i, h1, h2, _⟩ | h)
              · omega
              · split at h
                · assumption
                · cases h
            · intro h
              right
              rw [if_pos h]
              exact List.mem_singleton.2 rfl
          have HNo : (hitE s x k (ed n.es j) = false ∨ (n.es.take j).any (hitE s x k) = true) → Hid (L' = L) := fun h => by
            show L' = L
            rw [hL', hL, hPs]
            rcases h with h | h
            · rw [h, Bool.or_false]
            · rw [h, Bool.true_or]
          have HYes : hitE s x k (ed n.es j) = true → (n.es.take j).any (hitE s x k) = false → Hid (L' = L ++ [(k : Int)]) := fun h1 h2 => by
            show L' = _
            rw [hL', hL, hPs, h1, h2]
            simp
          have hLl : L.length ≤ 70 := by
            have := aftTo_len (l := n.es) (s := s) (x := x) (k := k)
            rw [hL, List.length_append]
            split <;> simp <;> omega
          clear hL hPs
          obtain ⟨A7, c7, rfl, _⟩ := Ap.own_form hO.out
          have HL2 := Lib.hid fun X (h : Ints X A7 L) => HasInt_any A7 L c7 (k : Int) X h (by omega)
          rw [hmem] at HL2
          clear hmem
          have hHS := fun z => hIn.out z
          have hLx := fun X => Cb.Letter_any x (ed n.es j).p (ed n.es j).q X hok.p hok.q h8
          have hB4 := Boxed4.new wr 30 (.int .i64 (ed n.es j).fr) (.int .i64 (ed n.es j).to) (.int .u8 (ed n.es j).p) (.int .u8 (ed n.es j).q)
          have hszw := hb.out.size
          have hb2 := hbw.alloc hbw.size (.cells #[.int .i64 (ed n.es j).fr, .int .i64 (ed n.es j).to, .int .u8 (ed n.es j).p, .int .u8 (ed n.es j).q] 30)
          have HB2 := Lib.hid (hb.out.alloc (by omega) (.cells #[.int .i64 (ed n.es j).fr, .int .i64 (ed n.es j).to, .int .u8 (ed n.es j).p, .int .u8 (ed n.es j).q] 30))
          have ho2 := hO.out.alloc (.cells #[.int .i64 (ed n.es j).fr, .int .i64 (ed n.es j).to, .int .u8 (ed n.es j).p, .int .u8 (ed n.es j).q] 30)
          have hi2 : Ints _ A7 L := Dg.ints_row ho2 rfl
          clear hO hb hbw hB hc had hok
          generalize (n.es.take j).any (hitE s x k) = P at *
          unfold hitE at HNo HYes
          generalize ed n.es j = e at *
          go_upto_region 9 with fail
          generalize World.alloc wr (.cells #[.int .i64 e.fr, .int .i64 e.to, .int .u8 e.p, .int .u8 e.q] 30) = W1 at *
          generalize wr.heap.size = g at *
          obtain ⟨e0, e1, e2, e3⟩ := hB4.cells
          cases h1 : (e.to == (k : Int)) with
          | false =>
            have hN := HNo (.inl (by rw [h1]; rfl))
            clear HNo HYes HL2 hHS hLx
            go_wp2
            go_roundw
            case rel => exact ⟨j + 1, _, by omega, rfl, by go_num, by rw [← hL', hN.out]; exact ho2, HB2.out⟩
            case measure => simp [intOf]; omega
          | true =>
            cases h2 : decide (e.fr ∈ s) with
            | false =>
              have hN := HNo (.inl (by rw [h1, h2]; rfl))
              have HS := Lib.hid (hHS e.fr)
              rw [h2] at HS
              clear HNo HYes HL2 hHS hLx
              go_wp2_with (first
                | (go_at_call 88; ((with_reducible refine (HS.out _ hb2).mono ?_); rintro r w2 ⟨rfl, rfl⟩); clear HS)
                | (go_at_call 127; ((with_reducible refine (HLe.out _).mono ?_); rintro r w3 ⟨rfl, rfl⟩))
                | (go_at_call 88; ((with_reducible refine (HL2.out _ hi2).mono ?_); rintro r w4 ⟨rfl, rfl⟩)))
              go_roundw
              case rel => exact ⟨j + 1, _, by omega, rfl, by go_num, by rw [← hL', hN.out]; exact ho2, HB2.out⟩
              case measure => simp [intOf]; omega
            | true =>
              have HS := Lib.hid (hHS e.fr)
              rw [h2] at HS
              cases h3 : cHas e.p e.q x with
              | false =>
                have hN := HNo (.inl (by rw [h1, h2, h3]; rfl))
                have HLe := Lib.hid hLx
                rw [h3] at HLe
                clear HNo HYes HL2 hHS hLx
                go_wp2_with (first
                  | (go_at_call 88; ((with_reducible refine (HS.out _ hb2).mono ?_); rintro r w2 ⟨rfl, rfl⟩); clear HS)
                  | (go_at_call 127; ((with_reducible refine (HLe.out _).mono ?_); rintro r w3 ⟨rfl, rfl⟩))
                  | (go_at_call 88; ((with_reducible refine (HL2.out _ hi2).mono ?_); rintro r w4 ⟨rfl, rfl⟩)))
                go_roundw
                case rel => exact ⟨j + 1, _, by omega, rfl, by go_num, by rw [← hL', hN.out]; exact ho2, HB2.out⟩
                case measure => simp [intOf]; omega
              | true =>
                have HLe := Lib.hid hLx
                rw [h3] at HLe
                cases P with
                | true =>
                  have hN := HNo (.inr rfl)
                  clear HNo HYes hHS hLx
                  go_wp2_with (first
                    | (go_at_call 88; ((with_reducible refine (HS.out _ hb2).mono ?_); rintro r w2 ⟨rfl, rfl⟩); clear HS)
                    | (go_at_call 127; ((with_reducible refine (HLe.out _).mono ?_); rintro r w3 ⟨rfl, rfl⟩))
                    | (go_at_call 88; ((with_reducible refine (HL2.out _ hi2).mono ?_); rintro r w4 ⟨rfl, rfl⟩)))
                  go_roundw
                  case rel => exact ⟨j + 1, _, by omega, rfl, by go_num, by rw [← hL', hN.out]; exact ho2, HB2.out⟩
                  case measure => simp [intOf]; omega
                | false =>
                  have hY := HYes (by rw [h1, h2, h3]; rfl) rfl
                  clear HNo HYes hHS hLx
                  have hW1 : w.heap.size + 1 ≤ W1.heap.size := Nat.le_trans hsz00 HB2.out.size
                  go_wp2_with (first
                    | (go_at_call 88; ((with_reducible refine (HS.out _ hb2).mono ?_); rintro r w2 ⟨rfl, rfl⟩); clear HS)
                    | (go_at_call 127; ((with_reducible refine (HLe.out _).mono ?_); rintro r w3 ⟨rfl, rfl⟩))
                    | (go_at_call 88; ((with_reducible refine (HL2.out _ hi2).mono ?_); rintro r w4 ⟨rfl, rfl⟩))
                    | (at_builtin; refine wpList_append_own _ rfl _ _ 23 rfl (w.heap.size + 1) 3 i0 (.int .i64 0) 1 8 Tryd.underlying23 hi0 hz0 hz1 hz2 rfl (by decide) _ _ _ rfl (ho2.alloc _) ⟨W1.heap.size, 0, none⟩ 1 1 [.int .i64 k] rfl rfl (cell_one_new _ _ _) (by simp [Value.oneCell']) (by unfold maxLen; omega) (by omega) (by simp; omega) ?_; intro v' w6 hown' hgrow _; have HO6 := Lib.hid hown'; have HB6 := Lib.hid ((HB2.out.alloc hW1 (.cells #[.int .i64 k] 3)).grown hgrow (by simp; omega) (fun q hq => (ho2.lt q hq).1)); clear hown' hgrow))
                  go_roundw
                  case rel => exact ⟨j + 1, _, by omega, rfl, by go_num, by rw [← hL', hY.out, List.length_append, zvs_snoc]; exact HO6.out, HB6.out⟩
                  case measure => simp [intOf]; omega
        · obtain rfl : j = n.es.length := by omega
          have hO2 : Hid (wr.ownsRow (w.heap.size + 1) 3 1 v (aftTo n.es s x (k + 1)).length (zvs (aftTo n.es s x (k + 1)))) := by
            have := hO.out
            rw [List.take_length] at this
            exact this
          go_wp2
          go_roundw
          case rel => exact ⟨k + 1, v, by omega, rfl, by go_num, hO2, hb⟩
          case measure => simp [intOf]; omega
    · obtain rfl : k = S := by omega
      obtain ⟨A', c', rfl, _⟩ := Ap.own_form hO.out
      have hR := Lib.hid (ownsRow_mono hO.out (Nat.le_succ w.heap.size))
      have hbb := Lib.hid (hb00.trans (hb.out.mono (Nat.le_succ _)))
      go_wp2
      go_ret
      exact ⟨A', c', rfl, hR.out, hbb.out⟩
theorem wd_in {l : List Nat} {k : Nat} (h : k < l.length) : wd l k ∈ l := by
  unfold wd
  rw [List.getD_eq_getElem?_getD, List.getElem?_eq_getElem h]
  exact List.getElem_mem h
theorem nd_in {l : List Int} {k : Nat} (h : k < l.length) : nd l k ∈ l := by
  unfold nd
  rw [List.getD_eq_getElem?_getD, List.getElem?_eq_getElem h]
  exact List.getElem_mem h
theorem acc_runL {n : Na} (hO : Ok n) (l : List Nat) : accW n l = true ↔ ∃ k, k < (runL n l l.length).length ∧ nd (runL n l l.length) k ∈ n.fi := by
  unfold accW
  rw [meetB_has (u64_run _ _)]
  constructor
  · rintro ⟨z, h1, h2⟩
    rw [← runTo_all, ← mem_runL hO l.length (Nat.le_refl _)] at h1
    obtain ⟨k, hk, rfl⟩ := List.getElem_of_mem h1
    refine ⟨k, hk, ?_⟩
    unfold nd
    rw [List.getD_eq_getElem?_getD, List.getElem?_eq_getElem hk]
    exact (has_st hO.s64 hO.fi).1 h2
  · rintro ⟨k, hk, h⟩
    refine ⟨nd (runL n l l.length) k, ?_, (has_st hO.s64 hO.fi).2 h⟩
    rw [← runTo_all, ← mem_runL hO l.length (Nat.le_refl _)]
    exact nd_in hk
section
variable (n : Na) (A B C : Option Addr) (a b c : Nat) (w : World) (hx : NaAt w n A B C) (hl : NaLen n) (D : Option Addr) (l : List Nat) (d : Nat) (hw : Bys w D l) (h8 : ∀ y ∈ l, y < 256) (hll : l.length ≤ 1000000)
include hx hl hw h8 hll
end
end Go.Proofs.YtlaagjmfgaccjaaDoor.Nf
