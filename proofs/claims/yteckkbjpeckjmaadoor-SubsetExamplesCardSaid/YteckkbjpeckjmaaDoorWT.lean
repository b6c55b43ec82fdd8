/- The walk of SubsetExamples. -/
import Derived.Test.YteckkbjpeckjmaaDoorWR
import Derived.Test.YteckkbjpeckjmaaDoorWS
namespace Go.Proofs.YteckkbjpeckjmaaDoor.Sx
open Go Go.RowKit Go.Proofs.YteckkbjpeckjmaaDoor Go.Proofs.YteckkbjpeckjmaaDoor.Cb Go.Proofs.YteckkbjpeckjmaaDoor.Wi Go.Proofs.YteckkbjpeckjmaaDoor.Sb
open Go.Proofs.YteckkbjpeckjmaaDoor.Nf (info_int6 Na NaAt NaLen OwnN wordE exN ex_ok ex_len chkN Bys bvs bys_new hnext drew_below)
open Go.Proofs.YteckkbjpeckjmaaDoor.Dg (Tabs tb tb_mem)
set_option linter.unusedVariables false
set_option linter.unusedSectionVars false
set_option linter.unusedSimpArgs false
set_option maxRecDepth 100000
set_option maxHeartbeats 16000000 in
theorem subsetExamples_walk (w : World) (hT : Tabs2 w) : Calls Tryd.prog 5 #[] w fun e w' => e = .returned (.bool true) ∧ Below w.heap.size w w' := by
  have HAw := Lib.hid (awake_any7 w hT)
  have HT := Lib.hid hT
  clear hT
  go_enter Tryd.func5, Tryd.ntmps5
  go_upto_region 3 with (go_at_call 19; ((with_reducible refine HAw.out.mono ?_); rintro r w2 ⟨rfl, hb2⟩))
  obtain ⟨i1, hj, hy0, hy1, hy2⟩ := info_parts info_intX
  obtain ⟨i2, hk, hx0, hx1, hx2⟩ := info_parts info_rowX
  obtain ⟨i3, hl, hw0, hw1, hw2⟩ := info_parts info_intsX
  obtain ⟨i4, hm, hu0, hu1, hu2⟩ := info_parts info_boolX
  refine wp_region_rec (fun i => (recsX.getD i .any).holds) (by kernel_rfl) (by kernel_rfl) (fun i v W W' h hb => Rec.below _ h hb) ?_ ?_
  · intro i oi A W ho hbW hpre
    clear HAw
    rw [List.getElem?_toArray] at ho
    rcases i with _ | i
    · rw [List.getElem?_cons_zero] at ho
      obtain rfl := Option.some.inj ho
      exact op_build _ _ rfl #[.int .i64 (0), .int .i64 (0), .slice none 0 0, .slice none 0 0] (by kernel_rfl) ⟨_, rfl, Below.refl _ _, ⟨none, none, 0, 0, rfl, ⟨fun j hj => absurd hj (Nat.not_lt_zero j), fun j hj => absurd hj (Nat.not_lt_zero j)⟩⟩⟩
    rw [List.getElem?_cons_succ] at ho
    rcases i with _ | i
    · rw [List.getElem?_cons_zero] at ho
      obtain rfl := Option.some.inj ho
      obtain ⟨A1, B1, a1, b1, e0, hN⟩ : DfaP ⟨0, 0, [], []⟩ (A.tmps.getD 36 undef) W := hpre ⟨0, .data⟩ (by simp) rfl 36 rfl
      exact op_build _ _ rfl #[.int .i64 (⟨0, 0, [], []⟩ : Da).V, .int .i64 (⟨0, 0, [], []⟩ : Da).q0, .slice A1 (⟨0, 0, [], []⟩ : Da).nx.length a1, .slice B1 (⟨0, 0, [], []⟩ : Da).fi.length b1, .int .i64 (3)] (by show Program.built _ _ [(0, A.tmps.getD 36 undef), (1, _)] = _; rw [e0]; kernel_rfl) ⟨_, rfl, Below.refl _ _, ⟨A1, B1, a1, b1, rfl, hN⟩⟩
    rw [List.getElem?_cons_succ] at ho
    rcases i with _ | i
    · rw [List.getElem?_cons_zero] at ho
      obtain rfl := Option.some.inj ho
      exact op_build _ _ rfl #[.int .i64 (7), .int .i64 (0), .slice none 0 0, .slice none 0 0] (by kernel_rfl) ⟨_, rfl, Below.refl _ _, ⟨none, none, 0, 0, rfl, ⟨fun j hj => absurd hj (Nat.not_lt_zero j), fun j hj => absurd hj (Nat.not_lt_zero j)⟩⟩⟩
    rw [List.getElem?_cons_succ] at ho
    rcases i with _ | i
    · rw [List.getElem?_cons_zero] at ho
      obtain rfl := Option.some.inj ho
      obtain ⟨A1, B1, a1, b1, e0, hN⟩ : DfaP ⟨7, 0, [], []⟩ (A.tmps.getD 38 undef) W := hpre ⟨2, .data⟩ (by simp) rfl 38 rfl
      exact op_build _ _ rfl #[.int .i64 (⟨7, 0, [], []⟩ : Da).V, .int .i64 (⟨7, 0, [], []⟩ : Da).q0, .slice A1 (⟨7, 0, [], []⟩ : Da).nx.length a1, .slice B1 (⟨7, 0, [], []⟩ : Da).fi.length b1, .int .i64 (7)] (by show Program.built _ _ [(0, A.tmps.getD 38 undef), (1, _)] = _; rw [e0]; kernel_rfl) ⟨_, rfl, Below.refl _ _, ⟨A1, B1, a1, b1, rfl, hN⟩⟩
    rw [List.getElem?_cons_succ] at ho
    rcases i with _ | i
    · rw [List.getElem?_cons_zero] at ho
      obtain rfl := Option.some.inj ho
      exact op_build _ _ rfl #[.int .i64 (-1), .int .i64 (0), .slice none 0 0, .slice none 0 0] (by kernel_rfl) ⟨_, rfl, Below.refl _ _, ⟨none, none, 0, 0, rfl, ⟨fun j hj => absurd hj (Nat.not_lt_zero j), fun j hj => absurd hj (Nat.not_lt_zero j)⟩⟩⟩
    rw [List.getElem?_cons_succ] at ho
    rcases i with _ | i
    · rw [List.getElem?_cons_zero] at ho
      obtain rfl := Option.some.inj ho
      obtain ⟨A1, B1, a1, b1, e0, hN⟩ : DfaP ⟨-1, 0, [], []⟩ (A.tmps.getD 40 undef) W := hpre ⟨4, .data⟩ (by simp) rfl 40 rfl
      exact op_build _ _ rfl #[.int .i64 (⟨-1, 0, [], []⟩ : Da).V, .int .i64 (⟨-1, 0, [], []⟩ : Da).q0, .slice A1 (⟨-1, 0, [], []⟩ : Da).nx.length a1, .slice B1 (⟨-1, 0, [], []⟩ : Da).fi.length b1, .int .i64 (7)] (by show Program.built _ _ [(0, A.tmps.getD 40 undef), (1, _)] = _; rw [e0]; kernel_rfl) ⟨_, rfl, Below.refl _ _, ⟨A1, B1, a1, b1, rfl, hN⟩⟩
    rw [List.getElem?_cons_succ] at ho
    rcases i with _ | i
    · rw [List.getElem?_cons_zero] at ho
      obtain rfl := Option.some.inj ho
      exact op_make _ _ _ rfl _ _ (made4097 W) ⟨_, rfl, bal (Below.refl _ _) _, ⟨_, 4097, by rw [List.length_replicate], tabs_made W 4097⟩⟩
    rw [List.getElem?_cons_succ] at ho
    rcases i with _ | i
    · rw [List.getElem?_cons_zero] at ho
      obtain rfl := Option.some.inj ho
      obtain ⟨A1, a1, enx, hnx⟩ : TabP (List.replicate 4097 []) (A.tmps.getD 42 undef) W := hpre ⟨6, .data⟩ (by simp) rfl 42 rfl
      exact op_build _ _ rfl #[.int .i64 (0), .int .i64 (0), .slice A1 ((List.replicate 4097 []) : List (List Int)).length a1, .slice none 0 0] (by show Program.built _ _ [(2, A.tmps.getD 42 undef)] = _; rw [enx]; kernel_rfl) ⟨_, rfl, Below.refl _ _, ⟨A1, none, a1, 0, rfl, ⟨hnx, fun j hj => absurd hj (Nat.not_lt_zero j)⟩⟩⟩
    rw [List.getElem?_cons_succ] at ho
    rcases i with _ | i
    · rw [List.getElem?_cons_zero] at ho
      obtain rfl := Option.some.inj ho
      obtain ⟨A1, B1, a1, b1, e0, hN⟩ : DfaP ⟨0, 0, (List.replicate 4097 []), []⟩ (A.tmps.getD 43 undef) W := hpre ⟨7, .data⟩ (by simp) rfl 43 rfl
      exact op_build _ _ rfl #[.int .i64 (⟨0, 0, (List.replicate 4097 []), []⟩ : Da).V, .int .i64 (⟨0, 0, (List.replicate 4097 []), []⟩ : Da).q0, .slice A1 (⟨0, 0, (List.replicate 4097 []), []⟩ : Da).nx.length a1, .slice B1 (⟨0, 0, (List.replicate 4097 []), []⟩ : Da).fi.length b1, .int .i64 (4)] (by show Program.built _ _ [(0, A.tmps.getD 43 undef), (1, _)] = _; rw [e0]; kernel_rfl) ⟨_, rfl, Below.refl _ _, ⟨A1, B1, a1, b1, rfl, hN⟩⟩
    rw [List.getElem?_cons_succ] at ho
    rcases i with _ | i
    · rw [List.getElem?_cons_zero] at ho
      obtain rfl := Option.some.inj ho
      exact op_make _ _ _ rfl _ _ (made4096 W) ⟨_, rfl, bal (Below.refl _ _) _, ⟨_, 4096, by rw [List.length_replicate], tabs_made W 4096⟩⟩
    rw [List.getElem?_cons_succ] at ho
    rcases i with _ | i
    · rw [List.getElem?_cons_zero] at ho
      obtain rfl := Option.some.inj ho
      obtain ⟨A1, a1, enx, hnx⟩ : TabP (List.replicate 4096 []) (A.tmps.getD 45 undef) W := hpre ⟨9, .data⟩ (by simp) rfl 45 rfl
      exact op_build _ _ rfl #[.int .i64 (0), .int .i64 (0), .slice A1 ((List.replicate 4096 []) : List (List Int)).length a1, .slice none 0 0] (by show Program.built _ _ [(2, A.tmps.getD 45 undef)] = _; rw [enx]; kernel_rfl) ⟨_, rfl, Below.refl _ _, ⟨A1, none, a1, 0, rfl, ⟨hnx, fun j hj => absurd hj (Nat.not_lt_zero j)⟩⟩⟩
    rw [List.getElem?_cons_succ] at ho
    rcases i with _ | i
    · rw [List.getElem?_cons_zero] at ho
      obtain rfl := Option.some.inj ho
      obtain ⟨A1, B1, a1, b1, e0, hN⟩ : DfaP ⟨0, 0, (List.replicate 4096 []), []⟩ (A.tmps.getD 46 undef) W := hpre ⟨10, .data⟩ (by simp) rfl 46 rfl
      exact op_build _ _ rfl #[.int .i64 (⟨0, 0, (List.replicate 4096 []), []⟩ : Da).V, .int .i64 (⟨0, 0, (List.replicate 4096 []), []⟩ : Da).q0, .slice A1 (⟨0, 0, (List.replicate 4096 []), []⟩ : Da).nx.length a1, .slice B1 (⟨0, 0, (List.replicate 4096 []), []⟩ : Da).fi.length b1, .int .i64 (2)] (by show Program.built _ _ [(0, A.tmps.getD 46 undef), (1, _)] = _; rw [e0]; kernel_rfl) ⟨_, rfl, Below.refl _ _, ⟨A1, B1, a1, b1, rfl, hN⟩⟩
    rw [List.getElem?_cons_succ] at ho
    rcases i with _ | i
    · rw [List.getElem?_cons_zero] at ho
      obtain rfl := Option.some.inj ho
      exact op_slice _ _ 1 _ rfl (([0] : List Int).map (Value.int .i64)).toArray i1 _ Tryd.underlying23 hj hy0 (by rw [hy1]; decide) (by rw [hy1]; decide) (by rw [hy1]; kernel_rfl) ⟨_, rfl, bal (Below.refl _ _) _, ⟨_, 1, rfl, Dg.ints_new W _ [0]⟩⟩
    rw [List.getElem?_cons_succ] at ho
    rcases i with _ | i
    · rw [List.getElem?_cons_zero] at ho
      obtain rfl := Option.some.inj ho
      obtain ⟨P0, m0, e0, h0⟩ : IntP [0] (A.tmps.getD 48 undef) W := hpre ⟨12, .data⟩ (by simp) rfl 48 rfl
      exact op_slice _ _ 1 _ rfl ([.slice P0 ([0] : List Int).length m0] : List Value).toArray i3 _ Tryd.underlying51 hl hw0 (by rw [hw1]; decide) (by rw [hw1]; decide) (by rw [hw1]; show Instr.fill _ _ [(0, A.tmps.getD 48 undef)] = _; rw [e0]; kernel_rfl) ⟨_, rfl, bal (Below.refl _ _) _, ⟨_, 1, rfl, tabs1 W _ _ _ _ h0⟩⟩
    rw [List.getElem?_cons_succ] at ho
    rcases i with _ | i
    · rw [List.getElem?_cons_zero] at ho
      obtain rfl := Option.some.inj ho
      exact op_slice _ _ 2 _ rfl (([true, true] : List Bool).map Value.bool).toArray i4 _ Tryd.underlying52 hm hu0 (by rw [hu1]; decide) (by rw [hu1]; decide) (by rw [hu1]; kernel_rfl) ⟨_, rfl, bal (Below.refl _ _) _, ⟨_, 2, rfl, bools_new W [true, true]⟩⟩
    rw [List.getElem?_cons_succ] at ho
    rcases i with _ | i
    · rw [List.getElem?_cons_zero] at ho
      obtain rfl := Option.some.inj ho
      obtain ⟨A1, a1, enx, hnx⟩ : TabP [[0]] (A.tmps.getD 49 undef) W := hpre ⟨13, .data⟩ (by simp) rfl 49 rfl
      obtain ⟨B1, b1, efi, hfi⟩ : BooP [true, true] (A.tmps.getD 50 undef) W := hpre ⟨14, .data⟩ (by simp) rfl 50 rfl
      exact op_build _ _ rfl #[.int .i64 (0), .int .i64 (5), .slice A1 ([[0]] : List (List Int)).length a1, .slice B1 ([true, true] : List Bool).length b1] (by show Program.built _ _ [(2, A.tmps.getD 49 undef), (3, A.tmps.getD 50 undef), (1, _)] = _; rw [enx, efi]; kernel_rfl) ⟨_, rfl, Below.refl _ _, ⟨A1, B1, a1, b1, rfl, ⟨hnx, hfi⟩⟩⟩
    rw [List.getElem?_cons_succ] at ho
    rcases i with _ | i
    · rw [List.getElem?_cons_zero] at ho
      obtain rfl := Option.some.inj ho
      obtain ⟨A1, B1, a1, b1, e0, hN⟩ : DfaP ⟨0, 5, [[0]], [true, true]⟩ (A.tmps.getD 51 undef) W := hpre ⟨15, .data⟩ (by simp) rfl 51 rfl
      exact op_build _ _ rfl #[.int .i64 (⟨0, 5, [[0]], [true, true]⟩ : Da).V, .int .i64 (⟨0, 5, [[0]], [true, true]⟩ : Da).q0, .slice A1 (⟨0, 5, [[0]], [true, true]⟩ : Da).nx.length a1, .slice B1 (⟨0, 5, [[0]], [true, true]⟩ : Da).fi.length b1, .int .i64 (2)] (by show Program.built _ _ [(0, A.tmps.getD 51 undef), (1, _)] = _; rw [e0]; kernel_rfl) ⟨_, rfl, Below.refl _ _, ⟨A1, B1, a1, b1, rfl, hN⟩⟩
    rw [List.getElem?_cons_succ] at ho
    rcases i with _ | i
    · rw [List.getElem?_cons_zero] at ho
      obtain rfl := Option.some.inj ho
      exact op_slice _ _ 1 _ rfl (([0] : List Int).map (Value.int .i64)).toArray i1 _ Tryd.underlying23 hj hy0 (by rw [hy1]; decide) (by rw [hy1]; decide) (by rw [hy1]; kernel_rfl) ⟨_, rfl, bal (Below.refl _ _) _, ⟨_, 1, rfl, Dg.ints_new W _ [0]⟩⟩
    rw [List.getElem?_cons_succ] at ho
    rcases i with _ | i
    · rw [List.getElem?_cons_zero] at ho
      obtain rfl := Option.some.inj ho
      obtain ⟨P0, m0, e0, h0⟩ : IntP [0] (A.tmps.getD 53 undef) W := hpre ⟨17, .data⟩ (by simp) rfl 53 rfl
      exact op_slice _ _ 1 _ rfl ([.slice P0 ([0] : List Int).length m0] : List Value).toArray i3 _ Tryd.underlying51 hl hw0 (by rw [hw1]; decide) (by rw [hw1]; decide) (by rw [hw1]; show Instr.fill _ _ [(0, A.tmps.getD 53 undef)] = _; rw [e0]; kernel_rfl) ⟨_, rfl, bal (Below.refl _ _) _, ⟨_, 1, rfl, tabs1 W _ _ _ _ h0⟩⟩
    rw [List.getElem?_cons_succ] at ho
    rcases i with _ | i
    · rw [List.getElem?_cons_zero] at ho
      obtain rfl := Option.some.inj ho
      exact op_slice _ _ 1 _ rfl (([true] : List Bool).map Value.bool).toArray i4 _ Tryd.underlying52 hm hu0 (by rw [hu1]; decide) (by rw [hu1]; decide) (by rw [hu1]; kernel_rfl) ⟨_, rfl, bal (Below.refl _ _) _, ⟨_, 1, rfl, bools_new W [true]⟩⟩
    rw [List.getElem?_cons_succ] at ho
    rcases i with _ | i
    · rw [List.getElem?_cons_zero] at ho
      obtain rfl := Option.some.inj ho
      obtain ⟨A1, a1, enx, hnx⟩ : TabP [[0]] (A.tmps.getD 54 undef) W := hpre ⟨18, .data⟩ (by simp) rfl 54 rfl
      obtain ⟨B1, b1, efi, hfi⟩ : BooP [true] (A.tmps.getD 55 undef) W := hpre ⟨19, .data⟩ (by simp) rfl 55 rfl
      exact op_build _ _ rfl #[.int .i64 (0), .int .i64 (1), .slice A1 ([[0]] : List (List Int)).length a1, .slice B1 ([true] : List Bool).length b1] (by show Program.built _ _ [(2, A.tmps.getD 54 undef), (3, A.tmps.getD 55 undef), (1, _)] = _; rw [enx, efi]; kernel_rfl) ⟨_, rfl, Below.refl _ _, ⟨A1, B1, a1, b1, rfl, ⟨hnx, hfi⟩⟩⟩
    rw [List.getElem?_cons_succ] at ho
    rcases i with _ | i
    · rw [List.getElem?_cons_zero] at ho
      obtain rfl := Option.some.inj ho
      obtain ⟨A1, B1, a1, b1, e0, hN⟩ : DfaP ⟨0, 1, [[0]], [true]⟩ (A.tmps.getD 56 undef) W := hpre ⟨20, .data⟩ (by simp) rfl 56 rfl
      exact op_build _ _ rfl #[.int .i64 (⟨0, 1, [[0]], [true]⟩ : Da).V, .int .i64 (⟨0, 1, [[0]], [true]⟩ : Da).q0, .slice A1 (⟨0, 1, [[0]], [true]⟩ : Da).nx.length a1, .slice B1 (⟨0, 1, [[0]], [true]⟩ : Da).fi.length b1, .int .i64 (8)] (by show Program.built _ _ [(0, A.tmps.getD 56 undef), (1, _)] = _; rw [e0]; kernel_rfl) ⟨_, rfl, Below.refl _ _, ⟨A1, B1, a1, b1, rfl, hN⟩⟩
    rw [List.getElem?_cons_succ] at ho
    rcases i with _ | i
    · rw [List.getElem?_cons_zero] at ho
      obtain rfl := Option.some.inj ho
      exact op_slice _ _ 1 _ rfl (([0] : List Int).map (Value.int .i64)).toArray i1 _ Tryd.underlying23 hj hy0 (by rw [hy1]; decide) (by rw [hy1]; decide) (by rw [hy1]; kernel_rfl) ⟨_, rfl, bal (Below.refl _ _) _, ⟨_, 1, rfl, Dg.ints_new W _ [0]⟩⟩
    rw [List.getElem?_cons_succ] at ho
    rcases i with _ | i
    · rw [List.getElem?_cons_zero] at ho
      obtain rfl := Option.some.inj ho
      obtain ⟨P0, m0, e0, h0⟩ : IntP [0] (A.tmps.getD 58 undef) W := hpre ⟨22, .data⟩ (by simp) rfl 58 rfl
      exact op_slice _ _ 1 _ rfl ([.slice P0 ([0] : List Int).length m0] : List Value).toArray i3 _ Tryd.underlying51 hl hw0 (by rw [hw1]; decide) (by rw [hw1]; decide) (by rw [hw1]; show Instr.fill _ _ [(0, A.tmps.getD 58 undef)] = _; rw [e0]; kernel_rfl) ⟨_, rfl, bal (Below.refl _ _) _, ⟨_, 1, rfl, tabs1 W _ _ _ _ h0⟩⟩
    rw [List.getElem?_cons_succ] at ho
    rcases i with _ | i
    · rw [List.getElem?_cons_zero] at ho
      obtain rfl := Option.some.inj ho
      exact op_slice _ _ 1 _ rfl (([true] : List Bool).map Value.bool).toArray i4 _ Tryd.underlying52 hm hu0 (by rw [hu1]; decide) (by rw [hu1]; decide) (by rw [hu1]; kernel_rfl) ⟨_, rfl, bal (Below.refl _ _) _, ⟨_, 1, rfl, bools_new W [true]⟩⟩
    rw [List.getElem?_cons_succ] at ho
    rcases i with _ | i
    · rw [List.getElem?_cons_zero] at ho
      obtain rfl := Option.some.inj ho
      obtain ⟨A1, a1, enx, hnx⟩ : TabP [[0]] (A.tmps.getD 59 undef) W := hpre ⟨23, .data⟩ (by simp) rfl 59 rfl
      obtain ⟨B1, b1, efi, hfi⟩ : BooP [true] (A.tmps.getD 60 undef) W := hpre ⟨24, .data⟩ (by simp) rfl 60 rfl
      exact op_build _ _ rfl #[.int .i64 (0), .int .i64 (-1), .slice A1 ([[0]] : List (List Int)).length a1, .slice B1 ([true] : List Bool).length b1] (by show Program.built _ _ [(2, A.tmps.getD 59 undef), (3, A.tmps.getD 60 undef), (1, _)] = _; rw [enx, efi]; kernel_rfl) ⟨_, rfl, Below.refl _ _, ⟨A1, B1, a1, b1, rfl, ⟨hnx, hfi⟩⟩⟩
    rw [List.getElem?_cons_succ] at ho
    rcases i with _ | i
    · rw [List.getElem?_cons_zero] at ho
      obtain rfl := Option.some.inj ho
      obtain ⟨A1, B1, a1, b1, e0, hN⟩ : DfaP ⟨0, -1, [[0]], [true]⟩ (A.tmps.getD 61 undef) W := hpre ⟨25, .data⟩ (by simp) rfl 61 rfl
      exact op_build _ _ rfl #[.int .i64 (⟨0, -1, [[0]], [true]⟩ : Da).V, .int .i64 (⟨0, -1, [[0]], [true]⟩ : Da).q0, .slice A1 (⟨0, -1, [[0]], [true]⟩ : Da).nx.length a1, .slice B1 (⟨0, -1, [[0]], [true]⟩ : Da).fi.length b1, .int .i64 (8)] (by show Program.built _ _ [(0, A.tmps.getD 61 undef), (1, _)] = _; rw [e0]; kernel_rfl) ⟨_, rfl, Below.refl _ _, ⟨A1, B1, a1, b1, rfl, hN⟩⟩
    rw [List.getElem?_cons_succ] at ho
    rcases i with _ | i
    · rw [List.getElem?_cons_zero] at ho
      obtain rfl := Option.some.inj ho
      exact op_slice _ _ 2 _ rfl (([0, 0] : List Int).map (Value.int .i64)).toArray i1 _ Tryd.underlying23 hj hy0 (by rw [hy1]; decide) (by rw [hy1]; decide) (by rw [hy1]; kernel_rfl) ⟨_, rfl, bal (Below.refl _ _) _, ⟨_, 2, rfl, Dg.ints_new W _ [0, 0]⟩⟩
    rw [List.getElem?_cons_succ] at ho
    rcases i with _ | i
    · rw [List.getElem?_cons_zero] at ho
      obtain rfl := Option.some.inj ho
      obtain ⟨P0, m0, e0, h0⟩ : IntP [0, 0] (A.tmps.getD 63 undef) W := hpre ⟨27, .data⟩ (by simp) rfl 63 rfl
      exact op_slice _ _ 1 _ rfl ([.slice P0 ([0, 0] : List Int).length m0] : List Value).toArray i3 _ Tryd.underlying51 hl hw0 (by rw [hw1]; decide) (by rw [hw1]; decide) (by rw [hw1]; show Instr.fill _ _ [(0, A.tmps.getD 63 undef)] = _; rw [e0]; kernel_rfl) ⟨_, rfl, bal (Below.refl _ _) _, ⟨_, 1, rfl, tabs1 W _ _ _ _ h0⟩⟩
    rw [List.getElem?_cons_succ] at ho
    rcases i with _ | i
    · rw [List.getElem?_cons_zero] at ho
      obtain rfl := Option.some.inj ho
      exact op_slice _ _ 1 _ rfl (([true] : List Bool).map Value.bool).toArray i4 _ Tryd.underlying52 hm hu0 (by rw [hu1]; decide) (by rw [hu1]; decide) (by rw [hu1]; kernel_rfl) ⟨_, rfl, bal (Below.refl _ _) _, ⟨_, 1, rfl, bools_new W [true]⟩⟩
    rw [List.getElem?_cons_succ] at ho
    rcases i with _ | i
    · rw [List.getElem?_cons_zero] at ho
      obtain rfl := Option.some.inj ho
      obtain ⟨A1, a1, enx, hnx⟩ : TabP [[0, 0]] (A.tmps.getD 64 undef) W := hpre ⟨28, .data⟩ (by simp) rfl 64 rfl
      obtain ⟨B1, b1, efi, hfi⟩ : BooP [true] (A.tmps.getD 65 undef) W := hpre ⟨29, .data⟩ (by simp) rfl 65 rfl
      exact op_build _ _ rfl #[.int .i64 (0), .int .i64 (0), .slice A1 ([[0, 0]] : List (List Int)).length a1, .slice B1 ([true] : List Bool).length b1] (by show Program.built _ _ [(2, A.tmps.getD 64 undef), (3, A.tmps.getD 65 undef)] = _; rw [enx, efi]; kernel_rfl) ⟨_, rfl, Below.refl _ _, ⟨A1, B1, a1, b1, rfl, ⟨hnx, hfi⟩⟩⟩
    rw [List.getElem?_cons_succ] at ho
    rcases i with _ | i
    · rw [List.getElem?_cons_zero] at ho
      obtain rfl := Option.some.inj ho
      obtain ⟨A1, B1, a1, b1, e0, hN⟩ : DfaP ⟨0, 0, [[0, 0]], [true]⟩ (A.tmps.getD 66 undef) W := hpre ⟨30, .data⟩ (by simp) rfl 66 rfl
      exact op_build _ _ rfl #[.int .i64 (⟨0, 0, [[0, 0]], [true]⟩ : Da).V, .int .i64 (⟨0, 0, [[0, 0]], [true]⟩ : Da).q0, .slice A1 (⟨0, 0, [[0, 0]], [true]⟩ : Da).nx.length a1, .slice B1 (⟨0, 0, [[0, 0]], [true]⟩ : Da).fi.length b1, .int .i64 (2)] (by show Program.built _ _ [(0, A.tmps.getD 66 undef), (1, _)] = _; rw [e0]; kernel_rfl) ⟨_, rfl, Below.refl _ _, ⟨A1, B1, a1, b1, rfl, hN⟩⟩
    rw [List.getElem?_cons_succ] at ho
    rcases i with _ | i
    · rw [List.getElem?_cons_zero] at ho
      obtain rfl := Option.some.inj ho
      exact op_slice _ _ 1 _ rfl (([1] : List Int).map (Value.int .i64)).toArray i1 _ Tryd.underlying23 hj hy0 (by rw [hy1]; decide) (by rw [hy1]; decide) (by rw [hy1]; kernel_rfl) ⟨_, rfl, bal (Below.refl _ _) _, ⟨_, 1, rfl, Dg.ints_new W _ [1]⟩⟩
    rw [List.getElem?_cons_succ] at ho
    rcases i with _ | i
    · rw [List.getElem?_cons_zero] at ho
      obtain rfl := Option.some.inj ho
      obtain ⟨P0, m0, e0, h0⟩ : IntP [1] (A.tmps.getD 68 undef) W := hpre ⟨32, .data⟩ (by simp) rfl 68 rfl
      exact op_slice _ _ 1 _ rfl ([.slice P0 ([1] : List Int).length m0] : List Value).toArray i3 _ Tryd.underlying51 hl hw0 (by rw [hw1]; decide) (by rw [hw1]; decide) (by rw [hw1]; show Instr.fill _ _ [(0, A.tmps.getD 68 undef)] = _; rw [e0]; kernel_rfl) ⟨_, rfl, bal (Below.refl _ _) _, ⟨_, 1, rfl, tabs1 W _ _ _ _ h0⟩⟩
    rw [List.getElem?_cons_succ] at ho
    rcases i with _ | i
    · rw [List.getElem?_cons_zero] at ho
      obtain rfl := Option.some.inj ho
      exact op_slice _ _ 1 _ rfl (([true] : List Bool).map Value.bool).toArray i4 _ Tryd.underlying52 hm hu0 (by rw [hu1]; decide) (by rw [hu1]; decide) (by rw [hu1]; kernel_rfl) ⟨_, rfl, bal (Below.refl _ _) _, ⟨_, 1, rfl, bools_new W [true]⟩⟩
    rw [List.getElem?_cons_succ] at ho
    rcases i with _ | i
    · rw [List.getElem?_cons_zero] at ho
      obtain rfl := Option.some.inj ho
      obtain ⟨A1, a1, enx, hnx⟩ : TabP [[1]] (A.tmps.getD 69 undef) W := hpre ⟨33, .data⟩ (by simp) rfl 69 rfl
      obtain ⟨B1, b1, efi, hfi⟩ : BooP [true] (A.tmps.getD 70 undef) W := hpre ⟨34, .data⟩ (by simp) rfl 70 rfl
      exact op_build _ _ rfl #[.int .i64 (0), .int .i64 (0), .slice A1 ([[1]] : List (List Int)).length a1, .slice B1 ([true] : List Bool).length b1] (by show Program.built _ _ [(2, A.tmps.getD 69 undef), (3, A.tmps.getD 70 undef)] = _; rw [enx, efi]; kernel_rfl) ⟨_, rfl, Below.refl _ _, ⟨A1, B1, a1, b1, rfl, ⟨hnx, hfi⟩⟩⟩
    rw [List.getElem?_cons_succ] at ho
    rcases i with _ | i
    · rw [List.getElem?_cons_zero] at ho
      obtain rfl := Option.some.inj ho
      obtain ⟨A1, B1, a1, b1, e0, hN⟩ : DfaP ⟨0, 0, [[1]], [true]⟩ (A.tmps.getD 71 undef) W := hpre ⟨35, .data⟩ (by simp) rfl 71 rfl
      exact op_build _ _ rfl #[.int .i64 (⟨0, 0, [[1]], [true]⟩ : Da).V, .int .i64 (⟨0, 0, [[1]], [true]⟩ : Da).q0, .slice A1 (⟨0, 0, [[1]], [true]⟩ : Da).nx.length a1, .slice B1 (⟨0, 0, [[1]], [true]⟩ : Da).fi.length b1, .int .i64 (8)] (by show Program.built _ _ [(0, A.tmps.getD 71 undef), (1, _)] = _; rw [e0]; kernel_rfl) ⟨_, rfl, Below.refl _ _, ⟨A1, B1, a1, b1, rfl, hN⟩⟩
    rw [List.getElem?_cons_succ] at ho
    rcases i with _ | i
    · rw [List.getElem?_cons_zero] at ho
      obtain rfl := Option.some.inj ho
      exact op_slice _ _ 1 _ rfl (([-1] : List Int).map (Value.int .i64)).toArray i1 _ Tryd.underlying23 hj hy0 (by rw [hy1]; decide) (by rw [hy1]; decide) (by rw [hy1]; kernel_rfl) ⟨_, rfl, bal (Below.refl _ _) _, ⟨_, 1, rfl, Dg.ints_new W _ [-1]⟩⟩
    rw [List.getElem?_cons_succ] at ho
    rcases i with _ | i
    · rw [List.getElem?_cons_zero] at ho
      obtain rfl := Option.some.inj ho
      obtain ⟨P0, m0, e0, h0⟩ : IntP [-1] (A.tmps.getD 73 undef) W := hpre ⟨37, .data⟩ (by simp) rfl 73 rfl
      exact op_slice _ _ 1 _ rfl ([.slice P0 ([-1] : List Int).length m0] : List Value).toArray i3 _ Tryd.underlying51 hl hw0 (by rw [hw1]; decide) (by rw [hw1]; decide) (by rw [hw1]; show Instr.fill _ _ [(0, A.tmps.getD 73 undef)] = _; rw [e0]; kernel_rfl) ⟨_, rfl, bal (Below.refl _ _) _, ⟨_, 1, rfl, tabs1 W _ _ _ _ h0⟩⟩
    rw [List.getElem?_cons_succ] at ho
    rcases i with _ | i
    · rw [List.getElem?_cons_zero] at ho
      obtain rfl := Option.some.inj ho
      exact op_slice _ _ 1 _ rfl (([true] : List Bool).map Value.bool).toArray i4 _ Tryd.underlying52 hm hu0 (by rw [hu1]; decide) (by rw [hu1]; decide) (by rw [hu1]; kernel_rfl) ⟨_, rfl, bal (Below.refl _ _) _, ⟨_, 1, rfl, bools_new W [true]⟩⟩
    rw [List.getElem?_cons_succ] at ho
    rcases i with _ | i
    · rw [List.getElem?_cons_zero] at ho
      obtain rfl := Option.some.inj ho
      obtain ⟨A1, a1, enx, hnx⟩ : TabP [[-1]] (A.tmps.getD 74 undef) W := hpre ⟨38, .data⟩ (by simp) rfl 74 rfl
      obtain ⟨B1, b1, efi, hfi⟩ : BooP [true] (A.tmps.getD 75 undef) W := hpre ⟨39, .data⟩ (by simp) rfl 75 rfl
      exact op_build _ _ rfl #[.int .i64 (0), .int .i64 (0), .slice A1 ([[-1]] : List (List Int)).length a1, .slice B1 ([true] : List Bool).length b1] (by show Program.built _ _ [(2, A.tmps.getD 74 undef), (3, A.tmps.getD 75 undef)] = _; rw [enx, efi]; kernel_rfl) ⟨_, rfl, Below.refl _ _, ⟨A1, B1, a1, b1, rfl, ⟨hnx, hfi⟩⟩⟩
    rw [List.getElem?_cons_succ] at ho
    rcases i with _ | i
    · rw [List.getElem?_cons_zero] at ho
      obtain rfl := Option.some.inj ho
      obtain ⟨A1, B1, a1, b1, e0, hN⟩ : DfaP ⟨0, 0, [[-1]], [true]⟩ (A.tmps.getD 76 undef) W := hpre ⟨40, .data⟩ (by simp) rfl 76 rfl
      exact op_build _ _ rfl #[.int .i64 (⟨0, 0, [[-1]], [true]⟩ : Da).V, .int .i64 (⟨0, 0, [[-1]], [true]⟩ : Da).q0, .slice A1 (⟨0, 0, [[-1]], [true]⟩ : Da).nx.length a1, .slice B1 (⟨0, 0, [[-1]], [true]⟩ : Da).fi.length b1, .int .i64 (8)] (by show Program.built _ _ [(0, A.tmps.getD 76 undef), (1, _)] = _; rw [e0]; kernel_rfl) ⟨_, rfl, Below.refl _ _, ⟨A1, B1, a1, b1, rfl, hN⟩⟩
    rw [List.getElem?_cons_succ] at ho
    rcases i with _ | i
    · rw [List.getElem?_cons_zero] at ho
      obtain rfl := Option.some.inj ho
      exact op_slice _ _ 2 _ rfl (([0, 1] : List Int).map (Value.int .i64)).toArray i1 _ Tryd.underlying23 hj hy0 (by rw [hy1]; decide) (by rw [hy1]; decide) (by rw [hy1]; kernel_rfl) ⟨_, rfl, bal (Below.refl _ _) _, ⟨_, 2, rfl, Dg.ints_new W _ [0, 1]⟩⟩
    rw [List.getElem?_cons_succ] at ho
    rcases i with _ | i
    · rw [List.getElem?_cons_zero] at ho
      obtain rfl := Option.some.inj ho
      exact op_slice _ _ 1 _ rfl (([1] : List Int).map (Value.int .i64)).toArray i1 _ Tryd.underlying23 hj hy0 (by rw [hy1]; decide) (by rw [hy1]; decide) (by rw [hy1]; kernel_rfl) ⟨_, rfl, bal (Below.refl _ _) _, ⟨_, 1, rfl, Dg.ints_new W _ [1]⟩⟩
    rw [List.getElem?_cons_succ] at ho
    rcases i with _ | i
    · rw [List.getElem?_cons_zero] at ho
      obtain rfl := Option.some.inj ho
      obtain ⟨P0, m0, e0, h0⟩ : IntP [0, 1] (A.tmps.getD 78 undef) W := hpre ⟨42, .data⟩ (by simp) rfl 78 rfl
      obtain ⟨P1, m1, e1, h1⟩ : IntP [1] (A.tmps.getD 79 undef) W := hpre ⟨43, .data⟩ (by simp) rfl 79 rfl
      exact op_slice _ _ 2 _ rfl ([.slice P0 ([0, 1] : List Int).length m0, .slice P1 ([1] : List Int).length m1] : List Value).toArray i3 _ Tryd.underlying51 hl hw0 (by rw [hw1]; decide) (by rw [hw1]; decide) (by rw [hw1]; show Instr.fill _ _ [(0, A.tmps.getD 78 undef), (1, A.tmps.getD 79 undef)] = _; rw [e0, e1]; kernel_rfl) ⟨_, rfl, bal (Below.refl _ _) _, ⟨_, 2, rfl, tabs2 W _ _ _ _ _ _ _ h0 h1⟩⟩
    rw [List.getElem?_cons_succ] at ho
    rcases i with _ | i
    · rw [List.getElem?_cons_zero] at ho
      obtain rfl := Option.some.inj ho
      exact op_slice _ _ 2 _ rfl (([true, true] : List Bool).map Value.bool).toArray i4 _ Tryd.underlying52 hm hu0 (by rw [hu1]; decide) (by rw [hu1]; decide) (by rw [hu1]; kernel_rfl) ⟨_, rfl, bal (Below.refl _ _) _, ⟨_, 2, rfl, bools_new W [true, true]⟩⟩
    rw [List.getElem?_cons_succ] at ho
    rcases i with _ | i
    · rw [List.getElem?_cons_zero] at ho
      obtain rfl := Option.some.inj ho
      obtain ⟨A1, a1, enx, hnx⟩ : TabP [[0, 1], [1]] (A.tmps.getD 80 undef) W := hpre ⟨44, .data⟩ (by simp) rfl 80 rfl
      obtain ⟨B1, b1, efi, hfi⟩ : BooP [true, true] (A.tmps.getD 81 undef) W := hpre ⟨45, .data⟩ (by simp) rfl 81 rfl
      exact op_build _ _ rfl #[.int .i64 (1), .int .i64 (0), .slice A1 ([[0, 1], [1]] : List (List Int)).length a1, .slice B1 ([true, true] : List Bool).length b1] (by show Program.built _ _ [(0, _), (2, A.tmps.getD 80 undef), (3, A.tmps.getD 81 undef)] = _; rw [enx, efi]; kernel_rfl) ⟨_, rfl, Below.refl _ _, ⟨A1, B1, a1, b1, rfl, ⟨hnx, hfi⟩⟩⟩
    rw [List.getElem?_cons_succ] at ho
    rcases i with _ | i
    · rw [List.getElem?_cons_zero] at ho
      obtain rfl := Option.some.inj ho
      obtain ⟨A1, B1, a1, b1, e0, hN⟩ : DfaP ⟨1, 0, [[0, 1], [1]], [true, true]⟩ (A.tmps.getD 82 undef) W := hpre ⟨46, .data⟩ (by simp) rfl 82 rfl
      exact op_build _ _ rfl #[.int .i64 (⟨1, 0, [[0, 1], [1]], [true, true]⟩ : Da).V, .int .i64 (⟨1, 0, [[0, 1], [1]], [true, true]⟩ : Da).q0, .slice A1 (⟨1, 0, [[0, 1], [1]], [true, true]⟩ : Da).nx.length a1, .slice B1 (⟨1, 0, [[0, 1], [1]], [true, true]⟩ : Da).fi.length b1, .int .i64 (2)] (by show Program.built _ _ [(0, A.tmps.getD 82 undef), (1, _)] = _; rw [e0]; kernel_rfl) ⟨_, rfl, Below.refl _ _, ⟨A1, B1, a1, b1, rfl, hN⟩⟩
    rw [List.getElem?_cons_succ] at ho
    rcases i with _ | i
    · rw [List.getElem?_cons_zero] at ho
      obtain rfl := Option.some.inj ho
      go_simp
      refine (even_any W).mono ?_
      rintro r W' ⟨A1, B1, rfl, h1, h2⟩
      exact ⟨_, rfl, h2, ⟨A1, B1, 2, 2, rfl, h1⟩⟩
    rw [List.getElem?_cons_succ] at ho
    rcases i with _ | i
    · rw [List.getElem?_cons_zero] at ho
      obtain rfl := Option.some.inj ho
      obtain ⟨A1, B1, a1, b1, e0, hN⟩ : DfaP ⟨0, 0, [[1], [0]], [true, false]⟩ (A.tmps.getD 84 undef) W := hpre ⟨48, .data⟩ (by simp) rfl 84 rfl
      exact op_build _ _ rfl #[.int .i64 (⟨0, 0, [[1], [0]], [true, false]⟩ : Da).V, .int .i64 (⟨0, 0, [[1], [0]], [true, false]⟩ : Da).q0, .slice A1 (⟨0, 0, [[1], [0]], [true, false]⟩ : Da).nx.length a1, .slice B1 (⟨0, 0, [[1], [0]], [true, false]⟩ : Da).fi.length b1, .int .i64 (0)] (by show Program.built _ _ [(0, A.tmps.getD 84 undef), (1, _)] = _; rw [e0]; kernel_rfl) ⟨_, rfl, Below.refl _ _, ⟨A1, B1, a1, b1, rfl, hN⟩⟩
    rw [List.getElem?_cons_succ] at ho
    rcases i with _ | i
    · rw [List.getElem?_cons_zero] at ho
      obtain rfl := Option.some.inj ho
      obtain ⟨A0, B0, a0, b0, e0, h0⟩ : RowP ⟨0, 0, [], []⟩ (3) (A.tmps.getD 37 undef) W := hpre ⟨1, .data⟩ (by simp) rfl 37 rfl
      obtain ⟨A1, B1, a1, b1, e1, h1⟩ : RowP ⟨7, 0, [], []⟩ (7) (A.tmps.getD 39 undef) W := hpre ⟨3, .data⟩ (by simp) rfl 39 rfl
      obtain ⟨A2, B2, a2, b2, e2, h2⟩ : RowP ⟨-1, 0, [], []⟩ (7) (A.tmps.getD 41 undef) W := hpre ⟨5, .data⟩ (by simp) rfl 41 rfl
      obtain ⟨A3, B3, a3, b3, e3, h3⟩ : RowP ⟨0, 0, (List.replicate 4097 []), []⟩ (4) (A.tmps.getD 44 undef) W := hpre ⟨8, .data⟩ (by simp) rfl 44 rfl
      obtain ⟨A4, B4, a4, b4, e4, h4⟩ : RowP ⟨0, 0, (List.replicate 4096 []), []⟩ (2) (A.tmps.getD 47 undef) W := hpre ⟨11, .data⟩ (by simp) rfl 47 rfl
      obtain ⟨A5, B5, a5, b5, e5, h5⟩ : RowP ⟨0, 5, [[0]], [true, true]⟩ (2) (A.tmps.getD 52 undef) W := hpre ⟨16, .data⟩ (by simp) rfl 52 rfl
      obtain ⟨A6, B6, a6, b6, e6, h6⟩ : RowP ⟨0, 1, [[0]], [true]⟩ (8) (A.tmps.getD 57 undef) W := hpre ⟨21, .data⟩ (by simp) rfl 57 rfl
      obtain ⟨A7, B7, a7, b7, e7, h7⟩ : RowP ⟨0, -1, [[0]], [true]⟩ (8) (A.tmps.getD 62 undef) W := hpre ⟨26, .data⟩ (by simp) rfl 62 rfl
      obtain ⟨A8, B8, a8, b8, e8, h8⟩ : RowP ⟨0, 0, [[0, 0]], [true]⟩ (2) (A.tmps.getD 67 undef) W := hpre ⟨31, .data⟩ (by simp) rfl 67 rfl
      obtain ⟨A9, B9, a9, b9, e9, h9⟩ : RowP ⟨0, 0, [[1]], [true]⟩ (8) (A.tmps.getD 72 undef) W := hpre ⟨36, .data⟩ (by simp) rfl 72 rfl
      obtain ⟨A10, B10, a10, b10, e10, h10⟩ : RowP ⟨0, 0, [[-1]], [true]⟩ (8) (A.tmps.getD 77 undef) W := hpre ⟨41, .data⟩ (by simp) rfl 77 rfl
      obtain ⟨A11, B11, a11, b11, e11, h11⟩ : RowP ⟨1, 0, [[0, 1], [1]], [true, true]⟩ (2) (A.tmps.getD 83 undef) W := hpre ⟨47, .data⟩ (by simp) rfl 83 rfl
      obtain ⟨A12, B12, a12, b12, e12, h12⟩ : RowP ⟨0, 0, [[1], [0]], [true, false]⟩ (0) (A.tmps.getD 85 undef) W := hpre ⟨49, .data⟩ (by simp) rfl 85 rfl
      have bT := bal (Below.refl W.heap.size W) (.cells ([.int .i64 (⟨0, 0, [], []⟩ : Da).V, .int .i64 (⟨0, 0, [], []⟩ : Da).q0, .slice A0 (⟨0, 0, [], []⟩ : Da).nx.length a0, .slice B0 (⟨0, 0, [], []⟩ : Da).fi.length b0, .int .i64 (3), .int .i64 (⟨7, 0, [], []⟩ : Da).V, .int .i64 (⟨7, 0, [], []⟩ : Da).q0, .slice A1 (⟨7, 0, [], []⟩ : Da).nx.length a1, .slice B1 (⟨7, 0, [], []⟩ : Da).fi.length b1, .int .i64 (7), .int .i64 (⟨-1, 0, [], []⟩ : Da).V, .int .i64 (⟨-1, 0, [], []⟩ : Da).q0, .slice A2 (⟨-1, 0, [], []⟩ : Da).nx.length a2, .slice B2 (⟨-1, 0, [], []⟩ : Da).fi.length b2, .int .i64 (7), .int .i64 (⟨0, 0, (List.replicate 4097 []), []⟩ : Da).V, .int .i64 (⟨0, 0, (List.replicate 4097 []), []⟩ : Da).q0, .slice A3 (⟨0, 0, (List.replicate 4097 []), []⟩ : Da).nx.length a3, .slice B3 (⟨0, 0, (List.replicate 4097 []), []⟩ : Da).fi.length b3, .int .i64 (4), .int .i64 (⟨0, 0, (List.replicate 4096 []), []⟩ : Da).V, .int .i64 (⟨0, 0, (List.replicate 4096 []), []⟩ : Da).q0, .slice A4 (⟨0, 0, (List.replicate 4096 []), []⟩ : Da).nx.length a4, .slice B4 (⟨0, 0, (List.replicate 4096 []), []⟩ : Da).fi.length b4, .int .i64 (2), .int .i64 (⟨0, 5, [[0]], [true, true]⟩ : Da).V, .int .i64 (⟨0, 5, [[0]], [true, true]⟩ : Da).q0, .slice A5 (⟨0, 5, [[0]], [true, true]⟩ : Da).nx.length a5, .slice B5 (⟨0, 5, [[0]], [true, true]⟩ : Da).fi.length b5, .int .i64 (2), .int .i64 (⟨0, 1, [[0]], [true]⟩ : Da).V, .int .i64 (⟨0, 1, [[0]], [true]⟩ : Da).q0, .slice A6 (⟨0, 1, [[0]], [true]⟩ : Da).nx.length a6, .slice B6 (⟨0, 1, [[0]], [true]⟩ : Da).fi.length b6, .int .i64 (8), .int .i64 (⟨0, -1, [[0]], [true]⟩ : Da).V, .int .i64 (⟨0, -1, [[0]], [true]⟩ : Da).q0, .slice A7 (⟨0, -1, [[0]], [true]⟩ : Da).nx.length a7, .slice B7 (⟨0, -1, [[0]], [true]⟩ : Da).fi.length b7, .int .i64 (8), .int .i64 (⟨0, 0, [[0, 0]], [true]⟩ : Da).V, .int .i64 (⟨0, 0, [[0, 0]], [true]⟩ : Da).q0, .slice A8 (⟨0, 0, [[0, 0]], [true]⟩ : Da).nx.length a8, .slice B8 (⟨0, 0, [[0, 0]], [true]⟩ : Da).fi.length b8, .int .i64 (2), .int .i64 (⟨0, 0, [[1]], [true]⟩ : Da).V, .int .i64 (⟨0, 0, [[1]], [true]⟩ : Da).q0, .slice A9 (⟨0, 0, [[1]], [true]⟩ : Da).nx.length a9, .slice B9 (⟨0, 0, [[1]], [true]⟩ : Da).fi.length b9, .int .i64 (8), .int .i64 (⟨0, 0, [[-1]], [true]⟩ : Da).V, .int .i64 (⟨0, 0, [[-1]], [true]⟩ : Da).q0, .slice A10 (⟨0, 0, [[-1]], [true]⟩ : Da).nx.length a10, .slice B10 (⟨0, 0, [[-1]], [true]⟩ : Da).fi.length b10, .int .i64 (8), .int .i64 (⟨1, 0, [[0, 1], [1]], [true, true]⟩ : Da).V, .int .i64 (⟨1, 0, [[0, 1], [1]], [true, true]⟩ : Da).q0, .slice A11 (⟨1, 0, [[0, 1], [1]], [true, true]⟩ : Da).nx.length a11, .slice B11 (⟨1, 0, [[0, 1], [1]], [true, true]⟩ : Da).fi.length b11, .int .i64 (2), .int .i64 (⟨0, 0, [[1], [0]], [true, false]⟩ : Da).V, .int .i64 (⟨0, 0, [[1], [0]], [true, false]⟩ : Da).q0, .slice A12 (⟨0, 0, [[1], [0]], [true, false]⟩ : Da).nx.length a12, .slice B12 (⟨0, 0, [[1], [0]], [true, false]⟩ : Da).fi.length b12, .int .i64 (0)] : List Value).toArray 55)
      refine op_slice _ _ 13 _ rfl ([.int .i64 (⟨0, 0, [], []⟩ : Da).V, .int .i64 (⟨0, 0, [], []⟩ : Da).q0, .slice A0 (⟨0, 0, [], []⟩ : Da).nx.length a0, .slice B0 (⟨0, 0, [], []⟩ : Da).fi.length b0, .int .i64 (3), .int .i64 (⟨7, 0, [], []⟩ : Da).V, .int .i64 (⟨7, 0, [], []⟩ : Da).q0, .slice A1 (⟨7, 0, [], []⟩ : Da).nx.length a1, .slice B1 (⟨7, 0, [], []⟩ : Da).fi.length b1, .int .i64 (7), .int .i64 (⟨-1, 0, [], []⟩ : Da).V, .int .i64 (⟨-1, 0, [], []⟩ : Da).q0, .slice A2 (⟨-1, 0, [], []⟩ : Da).nx.length a2, .slice B2 (⟨-1, 0, [], []⟩ : Da).fi.length b2, .int .i64 (7), .int .i64 (⟨0, 0, (List.replicate 4097 []), []⟩ : Da).V, .int .i64 (⟨0, 0, (List.replicate 4097 []), []⟩ : Da).q0, .slice A3 (⟨0, 0, (List.replicate 4097 []), []⟩ : Da).nx.length a3, .slice B3 (⟨0, 0, (List.replicate 4097 []), []⟩ : Da).fi.length b3, .int .i64 (4), .int .i64 (⟨0, 0, (List.replicate 4096 []), []⟩ : Da).V, .int .i64 (⟨0, 0, (List.replicate 4096 []), []⟩ : Da).q0, .slice A4 (⟨0, 0, (List.replicate 4096 []), []⟩ : Da).nx.length a4, .slice B4 (⟨0, 0, (List.replicate 4096 []), []⟩ : Da).fi.length b4, .int .i64 (2), .int .i64 (⟨0, 5, [[0]], [true, true]⟩ : Da).V, .int .i64 (⟨0, 5, [[0]], [true, true]⟩ : Da).q0, .slice A5 (⟨0, 5, [[0]], [true, true]⟩ : Da).nx.length a5, .slice B5 (⟨0, 5, [[0]], [true, true]⟩ : Da).fi.length b5, .int .i64 (2), .int .i64 (⟨0, 1, [[0]], [true]⟩ : Da).V, .int .i64 (⟨0, 1, [[0]], [true]⟩ : Da).q0, .slice A6 (⟨0, 1, [[0]], [true]⟩ : Da).nx.length a6, .slice B6 (⟨0, 1, [[0]], [true]⟩ : Da).fi.length b6, .int .i64 (8), .int .i64 (⟨0, -1, [[0]], [true]⟩ : Da).V, .int .i64 (⟨0, -1, [[0]], [true]⟩ : Da).q0, .slice A7 (⟨0, -1, [[0]], [true]⟩ : Da).nx.length a7, .slice B7 (⟨0, -1, [[0]], [true]⟩ : Da).fi.length b7, .int .i64 (8), .int .i64 (⟨0, 0, [[0, 0]], [true]⟩ : Da).V, .int .i64 (⟨0, 0, [[0, 0]], [true]⟩ : Da).q0, .slice A8 (⟨0, 0, [[0, 0]], [true]⟩ : Da).nx.length a8, .slice B8 (⟨0, 0, [[0, 0]], [true]⟩ : Da).fi.length b8, .int .i64 (2), .int .i64 (⟨0, 0, [[1]], [true]⟩ : Da).V, .int .i64 (⟨0, 0, [[1]], [true]⟩ : Da).q0, .slice A9 (⟨0, 0, [[1]], [true]⟩ : Da).nx.length a9, .slice B9 (⟨0, 0, [[1]], [true]⟩ : Da).fi.length b9, .int .i64 (8), .int .i64 (⟨0, 0, [[-1]], [true]⟩ : Da).V, .int .i64 (⟨0, 0, [[-1]], [true]⟩ : Da).q0, .slice A10 (⟨0, 0, [[-1]], [true]⟩ : Da).nx.length a10, .slice B10 (⟨0, 0, [[-1]], [true]⟩ : Da).fi.length b10, .int .i64 (8), .int .i64 (⟨1, 0, [[0, 1], [1]], [true, true]⟩ : Da).V, .int .i64 (⟨1, 0, [[0, 1], [1]], [true, true]⟩ : Da).q0, .slice A11 (⟨1, 0, [[0, 1], [1]], [true, true]⟩ : Da).nx.length a11, .slice B11 (⟨1, 0, [[0, 1], [1]], [true, true]⟩ : Da).fi.length b11, .int .i64 (2), .int .i64 (⟨0, 0, [[1], [0]], [true, false]⟩ : Da).V, .int .i64 (⟨0, 0, [[1], [0]], [true, false]⟩ : Da).q0, .slice A12 (⟨0, 0, [[1], [0]], [true, false]⟩ : Da).nx.length a12, .slice B12 (⟨0, 0, [[1], [0]], [true, false]⟩ : Da).fi.length b12, .int .i64 (0)] : List Value).toArray i2 _ Tryd.underlying57 hk hx0 (by rw [hx1]; decide) (by rw [hx1]; decide) (by rw [hx1]; show Instr.fill _ _ [(0, A.tmps.getD 37 undef), (1, A.tmps.getD 39 undef), (2, A.tmps.getD 41 undef), (3, A.tmps.getD 44 undef), (4, A.tmps.getD 47 undef), (5, A.tmps.getD 52 undef), (6, A.tmps.getD 57 undef), (7, A.tmps.getD 62 undef), (8, A.tmps.getD 67 undef), (9, A.tmps.getD 72 undef), (10, A.tmps.getD 77 undef), (11, A.tmps.getD 83 undef), (12, A.tmps.getD 85 undef)] = _; rw [e0, e1, e2, e3, e4, e5, e6, e7, e8, e9, e10, e11, e12]; kernel_rfl) ⟨_, rfl, bT, ⟨_, rfl, by simp, fun r n v hr => ?_⟩⟩
      have hr15 : r < 13 := (List.getElem?_eq_some_iff.1 hr).1
      rcases (by omega : r = 0 ∨ r = 1 ∨ r = 2 ∨ r = 3 ∨ r = 4 ∨ r = 5 ∨ r = 6 ∨ r = 7 ∨ r = 8 ∨ r = 9 ∨ r = 10 ∨ r = 11 ∨ r = 12) with rfl | rfl | rfl | rfl | rfl | rfl | rfl | rfl | rfl | rfl | rfl | rfl | rfl
      · cases hr
        exact ⟨A0, B0, a0, b0, h0.below bT, cell_new _ _ _ _ _ rfl, cell_newf _ _ _ _ 1 _ rfl, cell_newf _ _ _ _ 2 _ rfl, cell_newf _ _ _ _ 3 _ rfl, cell_newf _ _ _ _ 4 _ rfl⟩
      · cases hr
        exact ⟨A1, B1, a1, b1, h1.below bT, cell_new _ _ _ _ _ rfl, cell_newf _ _ _ _ 1 _ rfl, cell_newf _ _ _ _ 2 _ rfl, cell_newf _ _ _ _ 3 _ rfl, cell_newf _ _ _ _ 4 _ rfl⟩
      · cases hr
        exact ⟨A2, B2, a2, b2, h2.below bT, cell_new _ _ _ _ _ rfl, cell_newf _ _ _ _ 1 _ rfl, cell_newf _ _ _ _ 2 _ rfl, cell_newf _ _ _ _ 3 _ rfl, cell_newf _ _ _ _ 4 _ rfl⟩
      · cases hr
        exact ⟨A3, B3, a3, b3, h3.below bT, cell_new _ _ _ _ _ rfl, cell_newf _ _ _ _ 1 _ rfl, cell_newf _ _ _ _ 2 _ rfl, cell_newf _ _ _ _ 3 _ rfl, cell_newf _ _ _ _ 4 _ rfl⟩
      · cases hr
        exact ⟨A4, B4, a4, b4, h4.below bT, cell_new _ _ _ _ _ rfl, cell_newf _ _ _ _ 1 _ rfl, cell_newf _ _ _ _ 2 _ rfl, cell_newf _ _ _ _ 3 _ rfl, cell_newf _ _ _ _ 4 _ rfl⟩
      · cases hr
        exact ⟨A5, B5, a5, b5, h5.below bT, cell_new _ _ _ _ _ rfl, cell_newf _ _ _ _ 1 _ rfl, cell_newf _ _ _ _ 2 _ rfl, cell_newf _ _ _ _ 3 _ rfl, cell_newf _ _ _ _ 4 _ rfl⟩
      · cases hr
        exact ⟨A6, B6, a6, b6, h6.below bT, cell_new _ _ _ _ _ rfl, cell_newf _ _ _ _ 1 _ rfl, cell_newf _ _ _ _ 2 _ rfl, cell_newf _ _ _ _ 3 _ rfl, cell_newf _ _ _ _ 4 _ rfl⟩
      · cases hr
        exact ⟨A7, B7, a7, b7, h7.below bT, cell_new _ _ _ _ _ rfl, cell_newf _ _ _ _ 1 _ rfl, cell_newf _ _ _ _ 2 _ rfl, cell_newf _ _ _ _ 3 _ rfl, cell_newf _ _ _ _ 4 _ rfl⟩
      · cases hr
        exact ⟨A8, B8, a8, b8, h8.below bT, cell_new _ _ _ _ _ rfl, cell_newf _ _ _ _ 1 _ rfl, cell_newf _ _ _ _ 2 _ rfl, cell_newf _ _ _ _ 3 _ rfl, cell_newf _ _ _ _ 4 _ rfl⟩
      · cases hr
        exact ⟨A9, B9, a9, b9, h9.below bT, cell_new _ _ _ _ _ rfl, cell_newf _ _ _ _ 1 _ rfl, cell_newf _ _ _ _ 2 _ rfl, cell_newf _ _ _ _ 3 _ rfl, cell_newf _ _ _ _ 4 _ rfl⟩
      · cases hr
        exact ⟨A10, B10, a10, b10, h10.below bT, cell_new _ _ _ _ _ rfl, cell_newf _ _ _ _ 1 _ rfl, cell_newf _ _ _ _ 2 _ rfl, cell_newf _ _ _ _ 3 _ rfl, cell_newf _ _ _ _ 4 _ rfl⟩
      · cases hr
        exact ⟨A11, B11, a11, b11, h11.below bT, cell_new _ _ _ _ _ rfl, cell_newf _ _ _ _ 1 _ rfl, cell_newf _ _ _ _ 2 _ rfl, cell_newf _ _ _ _ 3 _ rfl, cell_newf _ _ _ _ 4 _ rfl⟩
      · cases hr
        exact ⟨A12, B12, a12, b12, h12.below bT, cell_new _ _ _ _ _ rfl, cell_newf _ _ _ _ 1 _ rfl, cell_newf _ _ _ _ 2 _ rfl, cell_newf _ _ _ _ 3 _ rfl, cell_newf _ _ _ _ 4 _ rfl⟩
    rw [List.getElem?_cons_succ] at ho
    rcases i with _ | i
    · rw [List.getElem?_cons_zero] at ho
      obtain rfl := Option.some.inj ho
      obtain ⟨ad, e0, _⟩ : TabX rowsY (A.tmps.getD 86 undef) W := hpre ⟨50, .data⟩ (by simp) rfl 86 rfl
      unfold Oper.wp execOp
      simp only [resolve, invoke, builtin, Sem.run_bind, Sem.run_pure, Result.andThen_ok, List.map_toArray, List.map_cons, List.map_nil, Act.eval, e0]
      exact ⟨_, rfl, Below.refl _ _, rfl⟩
    rw [List.getElem?_cons_succ] at ho
    rcases i with _ | i
    · rw [List.getElem?_cons_zero] at ho
      obtain rfl := Option.some.inj ho
      unfold Oper.wp execOp
      exact ⟨_, rfl, Below.refl _ _, rfl⟩
    rw [List.getElem?_cons_succ] at ho
    cases ho
  · intro vs W hbW hG
    obtain ⟨ad, e48, hlt, hrows⟩ : TabX rowsY (vs 50) W := hG 50 (by decide)
    have e49 : vs 51 = .int .i64 13 := hG 51 (by decide)
    have e50 : vs 52 = .int .i64 0 := hG 52 (by decide)
    clear hG
    simp only [putL, dstOf, List.size_toArray, List.length_cons, List.length_nil, Nat.reduceAdd, Array.getD_eq_getD_getElem?, Array.getElem?_replicate, Nat.reduceLT, if_true, Option.getD_some, List.getElem?_toArray, List.getElem?_cons_succ, List.getElem?_cons_zero, Option.bind_some, e48, e49, e50]
    go_simp
    go_wp2
    have HP := Lib.hid fun r n e h => hrows r n e h
    have KTW : Below w.heap.size w W := stepB hb2 ((drew_below w2).trans (hbW.mono (drew_below w2).size))
    clear hrows e48 e49 e50 hbW hb2
    go_loopw [2, 3, 4, 5, 6, 7, 8, 88] (fun _ _ _ _ _ _ _ i X => ∃ k : Nat, k ≤ 13 ∧ i = .int .i64 k ∧ Below W.heap.size W X) (fun _ _ _ _ _ _ _ i _ => 13 - (intOf i).toNat)
    case atStart => exact ⟨0, by decide, rfl, Below.refl _ _⟩
    case round =>
          obtain ⟨k, hk, rfl, hbX⟩ := hrel
          by_cases h13 : k = 13
          · subst h13
            have K : Below w.heap.size w wr := stepB KTW hbX
            have HTb := Lib.hid fun X (hX : Below w.heap.size w X) => HT.out.below hX
            clear hbX KTW HP HAw hlt HT
            go_upto_region 12 with fail
            go_cut [9, 10] from 136 to 141 (fun a t wx => a = .bool true ∧ t = .int .i64 0 ∧ Hid (Below wr.heap.size wr wx))
            case first =>
              refine wp_region_any (by kernel_rfl) ?_
              change wpAny _ _ _ _ _ _ _ (World.drew _)
              have hlY : ∀ Y : World, Below wr.heap.size wr Y → (fun _ : World => True) Y := fun _ _ => trivial
              have hD : Below wr.heap.size wr wr.drew := drew_below wr
              generalize wr.drew = X0 at *
              refine wpAny_head 7 7 (fun _ : World => True) rfl rfl (by kernel_rfl) (by kernel_rfl) (by kernel_rfl) (fun hA => ?_)
              have hA0 := hnext hA (rs := [0, 1]) (i := 0) (by kernel_rfl) (by decide) (by decide)
              have hA1 := hnext hA (rs := [0, 1]) (i := 1) (by kernel_rfl) (by decide) (by decide)
              refine wpHead_ready (rs := [0, 1]) (by kernel_rfl) (by decide) (AllHead.cons (at_drop rfl) (by decide) (fun KK hK => ?_) (AllHead.cons (at_drop rfl) (by decide) (fun KK hK => ?_) AllHead.nil))
              · replace hA := hA0
                go_simp
                refine (even_any X0).mono ?_
                rintro r X1 ⟨A, B, rfl, hde, d1⟩
                have HX1 := stepB hD d1
                refine hK _ _ (hlY _ HX1) ?_
                clear hK KK
                try simp only [Act.put, List.setIfInBounds_toArray, List.set_cons_zero, List.set_cons_succ]
                have hA1 := hnext hA (rs := [1]) (i := 1) (by kernel_rfl) (by decide) (by decide)
                refine wpHead_ready (rs := [1]) (by kernel_rfl) (by decide) (AllHead.cons (at_drop rfl) (by decide) (fun KK hK => ?_) AllHead.nil)
                replace hA := hA1
                obtain ⟨X2, hr1, ho1, d2⟩ := made64_any X1
                refine op_make _ _ _ rfl _ _ hr1 ?_
                have HX2 := stepB HX1 d2
                refine hK _ _ (hlY _ HX2) ?_
                clear hK KK
                try simp only [Act.put, List.setIfInBounds_toArray, List.set_cons_zero, List.set_cons_succ]
                have hA2 := hnext hA (rs := [2]) (i := 2) (by kernel_rfl) (by decide) (by decide)
                refine wpHead_ready (rs := [2]) (by kernel_rfl) (by decide) (AllHead.cons (at_drop rfl) (by decide) (fun KK hK => ?_) AllHead.nil)
                replace hA := hA2
                have hc12 := sx12 X2 A B (hde.below d2) (some ⟨X1.heap.size, 0, none⟩) 64 (bys_row ho1 (by rw [List.length_replicate]))
                go_simp
                refine hc12.mono ?_
                rintro r X3 ⟨rfl, d3⟩
                have HX3 := stepB HX2 d3
                refine hK _ _ (hlY _ HX3) ?_
                clear hK KK
                try simp only [Act.put, List.setIfInBounds_toArray, List.set_cons_zero, List.set_cons_succ]
                refine wpHead_take (i := 3) (v := ?_) (by kernel_rfl) hA (at_drop rfl) (by decide) (by kernel_rfl) (by kernel_rfl) (by kernel_rfl) (fun _ _ _ h => h) (Or.inl ⟨by rfl, ?_⟩) trivial (fun hA => ?_)
                rotate_left
                · (intro w hSw; go_simp <;> with_reducible rfl)
                simp only [Act.put, List.setIfInBounds_toArray, List.set_cons_zero, List.set_cons_succ]
                refine wpHead_take (i := 4) (v := ?_) (by kernel_rfl) hA (at_drop rfl) (by decide) (by kernel_rfl) (by kernel_rfl) (by kernel_rfl) (fun _ _ _ h => h) (Or.inl ⟨by rfl, ?_⟩) trivial (fun hA => ?_)
                rotate_left
                · (intro w hSw; go_simp <;> with_reducible rfl)
                simp only [Act.put, List.setIfInBounds_toArray, List.set_cons_zero, List.set_cons_succ]
                refine wpHead_take (i := 5) (v := ?_) (by kernel_rfl) hA (at_drop rfl) (by decide) (by kernel_rfl) (by kernel_rfl) (by kernel_rfl) (fun _ _ _ h => h) (Or.inl ⟨by rfl, ?_⟩) trivial (fun hA => ?_)
                rotate_left
                · (intro w hSw; go_simp <;> with_reducible rfl)
                simp only [Act.put, List.setIfInBounds_toArray, List.set_cons_zero, List.set_cons_succ]
                refine wpHead_take (i := 6) (v := ?_) (by kernel_rfl) hA (at_drop rfl) (by decide) (by kernel_rfl) (by kernel_rfl) (by kernel_rfl) (fun _ _ _ h => h) (Or.inl ⟨by rfl, ?_⟩) trivial (fun hA => ?_)
                rotate_left
                · (intro w hSw; go_simp <;> with_reducible rfl)
                simp only [Act.put, List.setIfInBounds_toArray, List.set_cons_zero, List.set_cons_succ]
                refine wpHead_end (by kernel_rfl) ?_
                simp only [List.drop_succ_cons, List.drop_zero]
                have HP := Lib.hid HX3
                clear hlY hD HX1 HX2 HX3 hA hr1 ho1 d1 d2 d3 hde hc12
                go_wp2_with fail
                go_meet
                exact ⟨rfl, rfl, HP⟩
              · replace hA := hA1
                obtain ⟨X1, hr1, ho1, d1⟩ := made64_any X0
                refine op_make _ _ _ rfl _ _ hr1 ?_
                have HX1 := stepB hD d1
                refine hK _ _ (hlY _ HX1) ?_
                clear hK KK
                try simp only [Act.put, List.setIfInBounds_toArray, List.set_cons_zero, List.set_cons_succ]
                have hA0 := hnext hA (rs := [0]) (i := 0) (by kernel_rfl) (by decide) (by decide)
                refine wpHead_ready (rs := [0]) (by kernel_rfl) (by decide) (AllHead.cons (at_drop rfl) (by decide) (fun KK hK => ?_) AllHead.nil)
                replace hA := hA0
                go_simp
                refine (even_any X1).mono ?_
                rintro r X2 ⟨A, B, rfl, hde, d2⟩
                have HX2 := stepB HX1 d2
                refine hK _ _ (hlY _ HX2) ?_
                clear hK KK
                try simp only [Act.put, List.setIfInBounds_toArray, List.set_cons_zero, List.set_cons_succ]
                have hA2 := hnext hA (rs := [2]) (i := 2) (by kernel_rfl) (by decide) (by decide)
                refine wpHead_ready (rs := [2]) (by kernel_rfl) (by decide) (AllHead.cons (at_drop rfl) (by decide) (fun KK hK => ?_) AllHead.nil)
                replace hA := hA2
                have hc12 := sx12 X2 A B hde (some ⟨X0.heap.size, 0, none⟩) 64 (bys_row (ho1.below d2) (by rw [List.length_replicate]))
                go_simp
                refine hc12.mono ?_
                rintro r X3 ⟨rfl, d3⟩
                have HX3 := stepB HX2 d3
                refine hK _ _ (hlY _ HX3) ?_
                clear hK KK
                try simp only [Act.put, List.setIfInBounds_toArray, List.set_cons_zero, List.set_cons_succ]
                refine wpHead_take (i := 3) (v := ?_) (by kernel_rfl) hA (at_drop rfl) (by decide) (by kernel_rfl) (by kernel_rfl) (by kernel_rfl) (fun _ _ _ h => h) (Or.inl ⟨by rfl, ?_⟩) trivial (fun hA => ?_)
                rotate_left
                · (intro w hSw; go_simp <;> with_reducible rfl)
                simp only [Act.put, List.setIfInBounds_toArray, List.set_cons_zero, List.set_cons_succ]
                refine wpHead_take (i := 4) (v := ?_) (by kernel_rfl) hA (at_drop rfl) (by decide) (by kernel_rfl) (by kernel_rfl) (by kernel_rfl) (fun _ _ _ h => h) (Or.inl ⟨by rfl, ?_⟩) trivial (fun hA => ?_)
                rotate_left
                · (intro w hSw; go_simp <;> with_reducible rfl)
                simp only [Act.put, List.setIfInBounds_toArray, List.set_cons_zero, List.set_cons_succ]
                refine wpHead_take (i := 5) (v := ?_) (by kernel_rfl) hA (at_drop rfl) (by decide) (by kernel_rfl) (by kernel_rfl) (by kernel_rfl) (fun _ _ _ h => h) (Or.inl ⟨by rfl, ?_⟩) trivial (fun hA => ?_)
                rotate_left
                · (intro w hSw; go_simp <;> with_reducible rfl)
                simp only [Act.put, List.setIfInBounds_toArray, List.set_cons_zero, List.set_cons_succ]
                refine wpHead_take (i := 6) (v := ?_) (by kernel_rfl) hA (at_drop rfl) (by decide) (by kernel_rfl) (by kernel_rfl) (by kernel_rfl) (fun _ _ _ h => h) (Or.inl ⟨by rfl, ?_⟩) trivial (fun hA => ?_)
                rotate_left
                · (intro w hSw; go_simp <;> with_reducible rfl)
                simp only [Act.put, List.setIfInBounds_toArray, List.set_cons_zero, List.set_cons_succ]
                refine wpHead_end (by kernel_rfl) ?_
                simp only [List.drop_succ_cons, List.drop_zero]
                have HP := Lib.hid HX3
                clear hlY hD HX1 HX2 HX3 hA hr1 ho1 d1 d2 d3 hde hc12
                go_wp2_with fail
                go_meet
                exact ⟨rfl, rfl, HP⟩
            case rest =>
              obtain ⟨rfl, rfl, K7⟩ := hcut
              replace K := stepB K K7.out
              clear K7
              rename World => w7
              go_upto_region 13 with fail
              go_cut [11, 12] from 142 to 149 (fun _ t wx => t = .int .i64 4 ∧ Hid (Below w.heap.size w wx))
              case first =>
                obtain ⟨iu, hiu, hv0, hv1, hv2⟩ := info_parts info_u8X
                refine wp_region_any (by kernel_rfl) ?_
                change wpAny _ _ _ _ _ _ _ (World.drew _)
                have hlY : ∀ Y : World, Below w7.heap.size w7 Y → (fun _ : World => True) Y := fun _ _ => trivial
                have hD : Below w7.heap.size w7 w7.drew := drew_below w7
                generalize w7.drew = X0 at *
                refine wpAny_head 9 9 (fun _ : World => True) rfl rfl (by kernel_rfl) (by kernel_rfl) (by kernel_rfl) (fun hA => ?_)
                have hA0 := hnext hA (rs := [0, 1, 2]) (i := 0) (by kernel_rfl) (by decide) (by decide)
                have hA1 := hnext hA (rs := [0, 1, 2]) (i := 1) (by kernel_rfl) (by decide) (by decide)
                have hA2 := hnext hA (rs := [0, 1, 2]) (i := 2) (by kernel_rfl) (by decide) (by decide)
                refine wpHead_ready (rs := [0, 1, 2]) (by kernel_rfl) (by decide) (AllHead.cons (at_drop rfl) (by decide) (fun KK hK => ?_) (AllHead.cons (at_drop rfl) (by decide) (fun KK hK => ?_) (AllHead.cons (at_drop rfl) (by decide) (fun KK hK => ?_) AllHead.nil)))
                · replace hA := hA0
                  go_simp
                  refine (even_any X0).mono ?_
                  rintro r X1 ⟨A, B, rfl, hde, d1⟩
                  have HX1 := stepB hD d1
                  refine hK _ _ (hlY _ HX1) ?_
                  clear hK KK
                  try simp only [Act.put, List.setIfInBounds_toArray, List.set_cons_zero, List.set_cons_succ]
                  have hA1 := hnext hA (rs := [1, 2]) (i := 1) (by kernel_rfl) (by decide) (by decide)
                  have hA2 := hnext hA (rs := [1, 2]) (i := 2) (by kernel_rfl) (by decide) (by decide)
                  refine wpHead_ready (rs := [1, 2]) (by kernel_rfl) (by decide) (AllHead.cons (at_drop rfl) (by decide) (fun KK hK => ?_) (AllHead.cons (at_drop rfl) (by decide) (fun KK hK => ?_) AllHead.nil))
                  · replace hA := hA1
                    obtain ⟨X2, hr1, ho1, d2⟩ := made64_any X1
                    refine op_make _ _ _ rfl _ _ hr1 ?_
                    have HX2 := stepB HX1 d2
                    refine hK _ _ (hlY _ HX2) ?_
                    clear hK KK
                    try simp only [Act.put, List.setIfInBounds_toArray, List.set_cons_zero, List.set_cons_succ]
                    have hA2 := hnext hA (rs := [2]) (i := 2) (by kernel_rfl) (by decide) (by decide)
                    refine wpHead_ready (rs := [2]) (by kernel_rfl) (by decide) (AllHead.cons (at_drop rfl) (by decide) (fun KK hK => ?_) AllHead.nil)
                    replace hA := hA2
                    have hb2 := bys_new X2 [1]
                    have d3 := bal (Below.refl X2.heap.size X2) (.cells (bvs [1]).toArray 5)
                    refine op_slice _ _ 1 _ rfl (bvs [1]).toArray iu _ Tryd.underlying39 hiu hv0 (by rw [hv1]; decide) (by rw [hv1]; decide) (by rw [hv1]; kernel_rfl) ?_
                    generalize X2.alloc (.cells (bvs [1]).toArray 5) = X3 at *
                    have HX3 := stepB HX2 d3
                    refine hK _ _ (hlY _ HX3) ?_
                    clear hK KK
                    try simp only [Act.put, List.setIfInBounds_toArray, List.set_cons_zero, List.set_cons_succ]
                    have hA3 := hnext hA (rs := [3]) (i := 3) (by kernel_rfl) (by decide) (by decide)
                    refine wpHead_ready (rs := [3]) (by kernel_rfl) (by decide) (AllHead.cons (at_drop rfl) (by decide) (fun KK hK => ?_) AllHead.nil)
                    replace hA := hA3
                    refine op_append65 _ _ rfl X1.heap.size X2.heap.size (by rfl) (by rfl) (bys_row (ho1.below d3) (by rw [List.length_replicate])) (hb2) ?_
                    intro D6 d6 X4 hy6 d4
                    have HX4 := stepB HX3 d4
                    refine hK _ _ (hlY _ HX4) ?_
                    clear hK KK
                    try simp only [Act.put, List.setIfInBounds_toArray, List.set_cons_zero, List.set_cons_succ]
                    have hA4 := hnext hA (rs := [4]) (i := 4) (by kernel_rfl) (by decide) (by decide)
                    refine wpHead_ready (rs := [4]) (by kernel_rfl) (by decide) (AllHead.cons (at_drop rfl) (by decide) (fun KK hK => ?_) AllHead.nil)
                    replace hA := hA4
                    have hc13 := sx13 X4 A B (((hde.below d2).below d3).below d4) D6 d6 (hy6)
                    go_simp
                    refine hc13.mono ?_
                    rintro r X5 ⟨rfl, d5⟩
                    have HX5 := stepB HX4 d5
                    refine hK _ _ (hlY _ HX5) ?_
                    clear hK KK
                    try simp only [Act.put, List.setIfInBounds_toArray, List.set_cons_zero, List.set_cons_succ]
                    refine wpHead_take (i := 5) (v := ?_) (by kernel_rfl) hA (at_drop rfl) (by decide) (by kernel_rfl) (by kernel_rfl) (by kernel_rfl) (fun _ _ _ h => h) (Or.inl ⟨by rfl, ?_⟩) trivial (fun hA => ?_)
                    rotate_left
                    · (intro w hSw; go_simp <;> with_reducible rfl)
                    simp only [Act.put, List.setIfInBounds_toArray, List.set_cons_zero, List.set_cons_succ]
                    refine wpHead_take (i := 6) (v := ?_) (by kernel_rfl) hA (at_drop rfl) (by decide) (by kernel_rfl) (by kernel_rfl) (by kernel_rfl) (fun _ _ _ h => h) (Or.inl ⟨by rfl, ?_⟩) trivial (fun hA => ?_)
                    rotate_left
                    · (intro w hSw; go_simp <;> with_reducible rfl)
                    simp only [Act.put, List.setIfInBounds_toArray, List.set_cons_zero, List.set_cons_succ]
                    refine wpHead_take (i := 7) (v := ?_) (by kernel_rfl) hA (at_drop rfl) (by decide) (by kernel_rfl) (by kernel_rfl) (by kernel_rfl) (fun _ _ _ h => h) (Or.inl ⟨by rfl, ?_⟩) trivial (fun hA => ?_)
                    rotate_left
                    · (intro w hSw; go_simp <;> with_reducible rfl)
                    simp only [Act.put, List.setIfInBounds_toArray, List.set_cons_zero, List.set_cons_succ]
                    refine wpHead_take (i := 8) (v := ?_) (by kernel_rfl) hA (at_drop rfl) (by decide) (by kernel_rfl) (by kernel_rfl) (by kernel_rfl) (fun _ _ _ h => h) (Or.inl ⟨by rfl, ?_⟩) trivial (fun hA => ?_)
                    rotate_left
                    · (intro w hSw; go_simp <;> with_reducible rfl)
                    simp only [Act.put, List.setIfInBounds_toArray, List.set_cons_zero, List.set_cons_succ]
                    refine wpHead_end (by kernel_rfl) ?_
                    simp only [List.drop_succ_cons, List.drop_zero]
                    have HP := Lib.hid (stepB K HX5)
                    clear hlY hD HX1 HX2 HX3 HX4 HX5 hA hr1 ho1 d1 d2 d3 d4 d5 hde hb2 hy6 hc13
                    go_wp2_with fail
                    go_meet
                    exact ⟨rfl, HP⟩
                  · replace hA := hA2
                    have hb2 := bys_new X1 [1]
                    have d2 := bal (Below.refl X1.heap.size X1) (.cells (bvs [1]).toArray 5)
                    refine op_slice _ _ 1 _ rfl (bvs [1]).toArray iu _ Tryd.underlying39 hiu hv0 (by rw [hv1]; decide) (by rw [hv1]; decide) (by rw [hv1]; kernel_rfl) ?_
                    generalize X1.alloc (.cells (bvs [1]).toArray 5) = X2 at *
                    have HX2 := stepB HX1 d2
                    refine hK _ _ (hlY _ HX2) ?_
                    clear hK KK
                    try simp only [Act.put, List.setIfInBounds_toArray, List.set_cons_zero, List.set_cons_succ]
                    have hA1 := hnext hA (rs := [1]) (i := 1) (by kernel_rfl) (by decide) (by decide)
                    refine wpHead_ready (rs := [1]) (by kernel_rfl) (by decide) (AllHead.cons (at_drop rfl) (by decide) (fun KK hK => ?_) AllHead.nil)
                    replace hA := hA1
                    obtain ⟨X3, hr1, ho1, d3⟩ := made64_any X2
                    refine op_make _ _ _ rfl _ _ hr1 ?_
                    have HX3 := stepB HX2 d3
                    refine hK _ _ (hlY _ HX3) ?_
                    clear hK KK
                    try simp only [Act.put, List.setIfInBounds_toArray, List.set_cons_zero, List.set_cons_succ]
                    have hA3 := hnext hA (rs := [3]) (i := 3) (by kernel_rfl) (by decide) (by decide)
                    refine wpHead_ready (rs := [3]) (by kernel_rfl) (by decide) (AllHead.cons (at_drop rfl) (by decide) (fun KK hK => ?_) AllHead.nil)
                    replace hA := hA3
                    refine op_append65 _ _ rfl X2.heap.size X1.heap.size (by rfl) (by rfl) (bys_row ho1 (by rw [List.length_replicate])) ((Vals.below hb2 d3)) ?_
                    intro D6 d6 X4 hy6 d4
                    have HX4 := stepB HX3 d4
                    refine hK _ _ (hlY _ HX4) ?_
                    clear hK KK
                    try simp only [Act.put, List.setIfInBounds_toArray, List.set_cons_zero, List.set_cons_succ]
                    have hA4 := hnext hA (rs := [4]) (i := 4) (by kernel_rfl) (by decide) (by decide)
                    refine wpHead_ready (rs := [4]) (by kernel_rfl) (by decide) (AllHead.cons (at_drop rfl) (by decide) (fun KK hK => ?_) AllHead.nil)
                    replace hA := hA4
                    have hc13 := sx13 X4 A B (((hde.below d2).below d3).below d4) D6 d6 (hy6)
                    go_simp
                    refine hc13.mono ?_
                    rintro r X5 ⟨rfl, d5⟩
                    have HX5 := stepB HX4 d5
                    refine hK _ _ (hlY _ HX5) ?_
                    clear hK KK
                    try simp only [Act.put, List.setIfInBounds_toArray, List.set_cons_zero, List.set_cons_succ]
                    refine wpHead_take (i := 5) (v := ?_) (by kernel_rfl) hA (at_drop rfl) (by decide) (by kernel_rfl) (by kernel_rfl) (by kernel_rfl) (fun _ _ _ h => h) (Or.inl ⟨by rfl, ?_⟩) trivial (fun hA => ?_)
                    rotate_left
                    · (intro w hSw; go_simp <;> with_reducible rfl)
                    simp only [Act.put, List.setIfInBounds_toArray, List.set_cons_zero, List.set_cons_succ]
                    refine wpHead_take (i := 6) (v := ?_) (by kernel_rfl) hA (at_drop rfl) (by decide) (by kernel_rfl) (by kernel_rfl) (by kernel_rfl) (fun _ _ _ h => h) (Or.inl ⟨by rfl, ?_⟩) trivial (fun hA => ?_)
                    rotate_left
                    · (intro w hSw; go_simp <;> with_reducible rfl)
                    simp only [Act.put, List.setIfInBounds_toArray, List.set_cons_zero, List.set_cons_succ]
                    refine wpHead_take (i := 7) (v := ?_) (by kernel_rfl) hA (at_drop rfl) (by decide) (by kernel_rfl) (by kernel_rfl) (by kernel_rfl) (fun _ _ _ h => h) (Or.inl ⟨by rfl, ?_⟩) trivial (fun hA => ?_)
                    rotate_left
                    · (intro w hSw; go_simp <;> with_reducible rfl)
                    simp only [Act.put, List.setIfInBounds_toArray, List.set_cons_zero, List.set_cons_succ]
                    refine wpHead_take (i := 8) (v := ?_) (by kernel_rfl) hA (at_drop rfl) (by decide) (by kernel_rfl) (by kernel_rfl) (by kernel_rfl) (fun _ _ _ h => h) (Or.inl ⟨by rfl, ?_⟩) trivial (fun hA => ?_)
                    rotate_left
                    · (intro w hSw; go_simp <;> with_reducible rfl)
                    simp only [Act.put, List.setIfInBounds_toArray, List.set_cons_zero, List.set_cons_succ]
                    refine wpHead_end (by kernel_rfl) ?_
                    simp only [List.drop_succ_cons, List.drop_zero]
                    have HP := Lib.hid (stepB K HX5)
                    clear hlY hD HX1 HX2 HX3 HX4 HX5 hA hr1 ho1 d1 d2 d3 d4 d5 hde hb2 hy6 hc13
                    go_wp2_with fail
                    go_meet
                    exact ⟨rfl, HP⟩
                · replace hA := hA1
                  obtain ⟨X1, hr1, ho1, d1⟩ := made64_any X0
                  refine op_make _ _ _ rfl _ _ hr1 ?_
                  have HX1 := stepB hD d1
                  refine hK _ _ (hlY _ HX1) ?_
                  clear hK KK
                  try simp only [Act.put, List.setIfInBounds_toArray, List.set_cons_zero, List.set_cons_succ]
                  have hA0 := hnext hA (rs := [0, 2]) (i := 0) (by kernel_rfl) (by decide) (by decide)
                  have hA2 := hnext hA (rs := [0, 2]) (i := 2) (by kernel_rfl) (by decide) (by decide)
                  refine wpHead_ready (rs := [0, 2]) (by kernel_rfl) (by decide) (AllHead.cons (at_drop rfl) (by decide) (fun KK hK => ?_) (AllHead.cons (at_drop rfl) (by decide) (fun KK hK => ?_) AllHead.nil))
                  · replace hA := hA0
                    go_simp
                    refine (even_any X1).mono ?_
                    rintro r X2 ⟨A, B, rfl, hde, d2⟩
                    have HX2 := stepB HX1 d2
                    refine hK _ _ (hlY _ HX2) ?_
                    clear hK KK
                    try simp only [Act.put, List.setIfInBounds_toArray, List.set_cons_zero, List.set_cons_succ]
                    have hA2 := hnext hA (rs := [2]) (i := 2) (by kernel_rfl) (by decide) (by decide)
                    refine wpHead_ready (rs := [2]) (by kernel_rfl) (by decide) (AllHead.cons (at_drop rfl) (by decide) (fun KK hK => ?_) AllHead.nil)
                    replace hA := hA2
                    have hb2 := bys_new X2 [1]
                    have d3 := bal (Below.refl X2.heap.size X2) (.cells (bvs [1]).toArray 5)
                    refine op_slice _ _ 1 _ rfl (bvs [1]).toArray iu _ Tryd.underlying39 hiu hv0 (by rw [hv1]; decide) (by rw [hv1]; decide) (by rw [hv1]; kernel_rfl) ?_
                    generalize X2.alloc (.cells (bvs [1]).toArray 5) = X3 at *
                    have HX3 := stepB HX2 d3
                    refine hK _ _ (hlY _ HX3) ?_
                    clear hK KK
                    try simp only [Act.put, List.setIfInBounds_toArray, List.set_cons_zero, List.set_cons_succ]
                    have hA3 := hnext hA (rs := [3]) (i := 3) (by kernel_rfl) (by decide) (by decide)
                    refine wpHead_ready (rs := [3]) (by kernel_rfl) (by decide) (AllHead.cons (at_drop rfl) (by decide) (fun KK hK => ?_) AllHead.nil)
                    replace hA := hA3
                    refine op_append65 _ _ rfl X0.heap.size X2.heap.size (by rfl) (by rfl) (bys_row ((ho1.below d2).below d3) (by rw [List.length_replicate])) (hb2) ?_
                    intro D6 d6 X4 hy6 d4
                    have HX4 := stepB HX3 d4
                    refine hK _ _ (hlY _ HX4) ?_
                    clear hK KK
                    try simp only [Act.put, List.setIfInBounds_toArray, List.set_cons_zero, List.set_cons_succ]
                    have hA4 := hnext hA (rs := [4]) (i := 4) (by kernel_rfl) (by decide) (by decide)
                    refine wpHead_ready (rs := [4]) (by kernel_rfl) (by decide) (AllHead.cons (at_drop rfl) (by decide) (fun KK hK => ?_) AllHead.nil)
                    replace hA := hA4
                    have hc13 := sx13 X4 A B ((hde.below d3).below d4) D6 d6 (hy6)
                    go_simp
                    refine hc13.mono ?_
                    rintro r X5 ⟨rfl, d5⟩
                    have HX5 := stepB HX4 d5
                    refine hK _ _ (hlY _ HX5) ?_
                    clear hK KK
                    try simp only [Act.put, List.setIfInBounds_toArray, List.set_cons_zero, List.set_cons_succ]
                    refine wpHead_take (i := 5) (v := ?_) (by kernel_rfl) hA (at_drop rfl) (by decide) (by kernel_rfl) (by kernel_rfl) (by kernel_rfl) (fun _ _ _ h => h) (Or.inl ⟨by rfl, ?_⟩) trivial (fun hA => ?_)
                    rotate_left
                    · (intro w hSw; go_simp <;> with_reducible rfl)
                    simp only [Act.put, List.setIfInBounds_toArray, List.set_cons_zero, List.set_cons_succ]
                    refine wpHead_take (i := 6) (v := ?_) (by kernel_rfl) hA (at_drop rfl) (by decide) (by kernel_rfl) (by kernel_rfl) (by kernel_rfl) (fun _ _ _ h => h) (Or.inl ⟨by rfl, ?_⟩) trivial (fun hA => ?_)
                    rotate_left
                    · (intro w hSw; go_simp <;> with_reducible rfl)
                    simp only [Act.put, List.setIfInBounds_toArray, List.set_cons_zero, List.set_cons_succ]
                    refine wpHead_take (i := 7) (v := ?_) (by kernel_rfl) hA (at_drop rfl) (by decide) (by kernel_rfl) (by kernel_rfl) (by kernel_rfl) (fun _ _ _ h => h) (Or.inl ⟨by rfl, ?_⟩) trivial (fun hA => ?_)
                    rotate_left
                    · (intro w hSw; go_simp <;> with_reducible rfl)
                    simp only [Act.put, List.setIfInBounds_toArray, List.set_cons_zero, List.set_cons_succ]
                    refine wpHead_take (i := 8) (v := ?_) (by kernel_rfl) hA (at_drop rfl) (by decide) (by kernel_rfl) (by kernel_rfl) (by kernel_rfl) (fun _ _ _ h => h) (Or.inl ⟨by rfl, ?_⟩) trivial (fun hA => ?_)
                    rotate_left
                    · (intro w hSw; go_simp <;> with_reducible rfl)
                    simp only [Act.put, List.setIfInBounds_toArray, List.set_cons_zero, List.set_cons_succ]
                    refine wpHead_end (by kernel_rfl) ?_
                    simp only [List.drop_succ_cons, List.drop_zero]
                    have HP := Lib.hid (stepB K HX5)
                    clear hlY hD HX1 HX2 HX3 HX4 HX5 hA hr1 ho1 d1 d2 d3 d4 d5 hde hb2 hy6 hc13
                    go_wp2_with fail
                    go_meet
                    exact ⟨rfl, HP⟩
                  · replace hA := hA2
                    have hb2 := bys_new X1 [1]
                    have d2 := bal (Below.refl X1.heap.size X1) (.cells (bvs [1]).toArray 5)
                    refine op_slice _ _ 1 _ rfl (bvs [1]).toArray iu _ Tryd.underlying39 hiu hv0 (by rw [hv1]; decide) (by rw [hv1]; decide) (by rw [hv1]; kernel_rfl) ?_
                    generalize X1.alloc (.cells (bvs [1]).toArray 5) = X2 at *
                    have HX2 := stepB HX1 d2
                    refine hK _ _ (hlY _ HX2) ?_
                    clear hK KK
                    try simp only [Act.put, List.setIfInBounds_toArray, List.set_cons_zero, List.set_cons_succ]
                    have hA0 := hnext hA (rs := [0]) (i := 0) (by kernel_rfl) (by decide) (by decide)
                    refine wpHead_ready (rs := [0]) (by kernel_rfl) (by decide) (AllHead.cons (at_drop rfl) (by decide) (fun KK hK => ?_) AllHead.nil)
                    replace hA := hA0
                    go_simp
                    refine (even_any X2).mono ?_
                    rintro r X3 ⟨A, B, rfl, hde, d3⟩
                    have HX3 := stepB HX2 d3
                    refine hK _ _ (hlY _ HX3) ?_
                    clear hK KK
                    try simp only [Act.put, List.setIfInBounds_toArray, List.set_cons_zero, List.set_cons_succ]
                    have hA3 := hnext hA (rs := [3]) (i := 3) (by kernel_rfl) (by decide) (by decide)
                    refine wpHead_ready (rs := [3]) (by kernel_rfl) (by decide) (AllHead.cons (at_drop rfl) (by decide) (fun KK hK => ?_) AllHead.nil)
                    replace hA := hA3
                    refine op_append65 _ _ rfl X0.heap.size X1.heap.size (by rfl) (by rfl) (bys_row ((ho1.below d2).below d3) (by rw [List.length_replicate])) ((Vals.below hb2 d3)) ?_
                    intro D6 d6 X4 hy6 d4
                    have HX4 := stepB HX3 d4
                    refine hK _ _ (hlY _ HX4) ?_
                    clear hK KK
                    try simp only [Act.put, List.setIfInBounds_toArray, List.set_cons_zero, List.set_cons_succ]
                    have hA4 := hnext hA (rs := [4]) (i := 4) (by kernel_rfl) (by decide) (by decide)
                    refine wpHead_ready (rs := [4]) (by kernel_rfl) (by decide) (AllHead.cons (at_drop rfl) (by decide) (fun KK hK => ?_) AllHead.nil)
                    replace hA := hA4
                    have hc13 := sx13 X4 A B (hde.below d4) D6 d6 (hy6)
                    go_simp
                    refine hc13.mono ?_
                    rintro r X5 ⟨rfl, d5⟩
                    have HX5 := stepB HX4 d5
                    refine hK _ _ (hlY _ HX5) ?_
                    clear hK KK
                    try simp only [Act.put, List.setIfInBounds_toArray, List.set_cons_zero, List.set_cons_succ]
                    refine wpHead_take (i := 5) (v := ?_) (by kernel_rfl) hA (at_drop rfl) (by decide) (by kernel_rfl) (by kernel_rfl) (by kernel_rfl) (fun _ _ _ h => h) (Or.inl ⟨by rfl, ?_⟩) trivial (fun hA => ?_)
                    rotate_left
                    · (intro w hSw; go_simp <;> with_reducible rfl)
                    simp only [Act.put, List.setIfInBounds_toArray, List.set_cons_zero, List.set_cons_succ]
                    refine wpHead_take (i := 6) (v := ?_) (by kernel_rfl) hA (at_drop rfl) (by decide) (by kernel_rfl) (by kernel_rfl) (by kernel_rfl) (fun _ _ _ h => h) (Or.inl ⟨by rfl, ?_⟩) trivial (fun hA => ?_)
                    rotate_left
                    · (intro w hSw; go_simp <;> with_reducible rfl)
                    simp only [Act.put, List.setIfInBounds_toArray, List.set_cons_zero, List.set_cons_succ]
                    refine wpHead_take (i := 7) (v := ?_) (by kernel_rfl) hA (at_drop rfl) (by decide) (by kernel_rfl) (by kernel_rfl) (by kernel_rfl) (fun _ _ _ h => h) (Or.inl ⟨by rfl, ?_⟩) trivial (fun hA => ?_)
                    rotate_left
                    · (intro w hSw; go_simp <;> with_reducible rfl)
                    simp only [Act.put, List.setIfInBounds_toArray, List.set_cons_zero, List.set_cons_succ]
                    refine wpHead_take (i := 8) (v := ?_) (by kernel_rfl) hA (at_drop rfl) (by decide) (by kernel_rfl) (by kernel_rfl) (by kernel_rfl) (fun _ _ _ h => h) (Or.inl ⟨by rfl, ?_⟩) trivial (fun hA => ?_)
                    rotate_left
                    · (intro w hSw; go_simp <;> with_reducible rfl)
                    simp only [Act.put, List.setIfInBounds_toArray, List.set_cons_zero, List.set_cons_succ]
                    refine wpHead_end (by kernel_rfl) ?_
                    simp only [List.drop_succ_cons, List.drop_zero]
                    have HP := Lib.hid (stepB K HX5)
                    clear hlY hD HX1 HX2 HX3 HX4 HX5 hA hr1 ho1 d1 d2 d3 d4 d5 hde hb2 hy6 hc13
                    go_wp2_with fail
                    go_meet
                    exact ⟨rfl, HP⟩
                · replace hA := hA2
                  have hb2 := bys_new X0 [1]
                  have d1 := bal (Below.refl X0.heap.size X0) (.cells (bvs [1]).toArray 5)
                  refine op_slice _ _ 1 _ rfl (bvs [1]).toArray iu _ Tryd.underlying39 hiu hv0 (by rw [hv1]; decide) (by rw [hv1]; decide) (by rw [hv1]; kernel_rfl) ?_
                  generalize X0.alloc (.cells (bvs [1]).toArray 5) = X1 at *
                  have HX1 := stepB hD d1
                  refine hK _ _ (hlY _ HX1) ?_
                  clear hK KK
                  try simp only [Act.put, List.setIfInBounds_toArray, List.set_cons_zero, List.set_cons_succ]
                  have hA0 := hnext hA (rs := [0, 1]) (i := 0) (by kernel_rfl) (by decide) (by decide)
                  have hA1 := hnext hA (rs := [0, 1]) (i := 1) (by kernel_rfl) (by decide) (by decide)
                  refine wpHead_ready (rs := [0, 1]) (by kernel_rfl) (by decide) (AllHead.cons (at_drop rfl) (by decide) (fun KK hK => ?_) (AllHead.cons (at_drop rfl) (by decide) (fun KK hK => ?_) AllHead.nil))
                  · replace hA := hA0
                    go_simp
                    refine (even_any X1).mono ?_
                    rintro r X2 ⟨A, B, rfl, hde, d2⟩
                    have HX2 := stepB HX1 d2
                    refine hK _ _ (hlY _ HX2) ?_
                    clear hK KK
                    try simp only [Act.put, List.setIfInBounds_toArray, List.set_cons_zero, List.set_cons_succ]
                    have hA1 := hnext hA (rs := [1]) (i := 1) (by kernel_rfl) (by decide) (by decide)
                    refine wpHead_ready (rs := [1]) (by kernel_rfl) (by decide) (AllHead.cons (at_drop rfl) (by decide) (fun KK hK => ?_) AllHead.nil)
                    replace hA := hA1
                    obtain ⟨X3, hr1, ho1, d3⟩ := made64_any X2
                    refine op_make _ _ _ rfl _ _ hr1 ?_
                    have HX3 := stepB HX2 d3
                    refine hK _ _ (hlY _ HX3) ?_
                    clear hK KK
                    try simp only [Act.put, List.setIfInBounds_toArray, List.set_cons_zero, List.set_cons_succ]
                    have hA3 := hnext hA (rs := [3]) (i := 3) (by kernel_rfl) (by decide) (by decide)
                    refine wpHead_ready (rs := [3]) (by kernel_rfl) (by decide) (AllHead.cons (at_drop rfl) (by decide) (fun KK hK => ?_) AllHead.nil)
                    replace hA := hA3
                    refine op_append65 _ _ rfl X2.heap.size X0.heap.size (by rfl) (by rfl) (bys_row ho1 (by rw [List.length_replicate])) (((Vals.below hb2 d2).below d3)) ?_
                    intro D6 d6 X4 hy6 d4
                    have HX4 := stepB HX3 d4
                    refine hK _ _ (hlY _ HX4) ?_
                    clear hK KK
                    try simp only [Act.put, List.setIfInBounds_toArray, List.set_cons_zero, List.set_cons_succ]
                    have hA4 := hnext hA (rs := [4]) (i := 4) (by kernel_rfl) (by decide) (by decide)
                    refine wpHead_ready (rs := [4]) (by kernel_rfl) (by decide) (AllHead.cons (at_drop rfl) (by decide) (fun KK hK => ?_) AllHead.nil)
                    replace hA := hA4
                    have hc13 := sx13 X4 A B ((hde.below d3).below d4) D6 d6 (hy6)
                    go_simp
                    refine hc13.mono ?_
                    rintro r X5 ⟨rfl, d5⟩
                    have HX5 := stepB HX4 d5
                    refine hK _ _ (hlY _ HX5) ?_
                    clear hK KK
                    try simp only [Act.put, List.setIfInBounds_toArray, List.set_cons_zero, List.set_cons_succ]
                    refine wpHead_take (i := 5) (v := ?_) (by kernel_rfl) hA (at_drop rfl) (by decide) (by kernel_rfl) (by kernel_rfl) (by kernel_rfl) (fun _ _ _ h => h) (Or.inl ⟨by rfl, ?_⟩) trivial (fun hA => ?_)
                    rotate_left
                    · (intro w hSw; go_simp <;> with_reducible rfl)
                    simp only [Act.put, List.setIfInBounds_toArray, List.set_cons_zero, List.set_cons_succ]
                    refine wpHead_take (i := 6) (v := ?_) (by kernel_rfl) hA (at_drop rfl) (by decide) (by kernel_rfl) (by kernel_rfl) (by kernel_rfl) (fun _ _ _ h => h) (Or.inl ⟨by rfl, ?_⟩) trivial (fun hA => ?_)
                    rotate_left
                    · (intro w hSw; go_simp <;> with_reducible rfl)
                    simp only [Act.put, List.setIfInBounds_toArray, List.set_cons_zero, List.set_cons_succ]
                    refine wpHead_take (i := 7) (v := ?_) (by kernel_rfl) hA (at_drop rfl) (by decide) (by kernel_rfl) (by kernel_rfl) (by kernel_rfl) (fun _ _ _ h => h) (Or.inl ⟨by rfl, ?_⟩) trivial (fun hA => ?_)
                    rotate_left
                    · (intro w hSw; go_simp <;> with_reducible rfl)
                    simp only [Act.put, List.setIfInBounds_toArray, List.set_cons_zero, List.set_cons_succ]
                    refine wpHead_take (i := 8) (v := ?_) (by kernel_rfl) hA (at_drop rfl) (by decide) (by kernel_rfl) (by kernel_rfl) (by kernel_rfl) (fun _ _ _ h => h) (Or.inl ⟨by rfl, ?_⟩) trivial (fun hA => ?_)
                    rotate_left
                    · (intro w hSw; go_simp <;> with_reducible rfl)
                    simp only [Act.put, List.setIfInBounds_toArray, List.set_cons_zero, List.set_cons_succ]
                    refine wpHead_end (by kernel_rfl) ?_
                    simp only [List.drop_succ_cons, List.drop_zero]
                    have HP := Lib.hid (stepB K HX5)
                    clear hlY hD HX1 HX2 HX3 HX4 HX5 hA hr1 ho1 d1 d2 d3 d4 d5 hde hb2 hy6 hc13
                    go_wp2_with fail
                    go_meet
                    exact ⟨rfl, HP⟩
                  · replace hA := hA1
                    obtain ⟨X2, hr1, ho1, d2⟩ := made64_any X1
                    refine op_make _ _ _ rfl _ _ hr1 ?_
                    have HX2 := stepB HX1 d2
                    refine hK _ _ (hlY _ HX2) ?_
                    clear hK KK
                    try simp only [Act.put, List.setIfInBounds_toArray, List.set_cons_zero, List.set_cons_succ]
                    have hA0 := hnext hA (rs := [0]) (i := 0) (by kernel_rfl) (by decide) (by decide)
                    refine wpHead_ready (rs := [0]) (by kernel_rfl) (by decide) (AllHead.cons (at_drop rfl) (by decide) (fun KK hK => ?_) AllHead.nil)
                    replace hA := hA0
                    go_simp
                    refine (even_any X2).mono ?_
                    rintro r X3 ⟨A, B, rfl, hde, d3⟩
                    have HX3 := stepB HX2 d3
                    refine hK _ _ (hlY _ HX3) ?_
                    clear hK KK
                    try simp only [Act.put, List.setIfInBounds_toArray, List.set_cons_zero, List.set_cons_succ]
                    have hA3 := hnext hA (rs := [3]) (i := 3) (by kernel_rfl) (by decide) (by decide)
                    refine wpHead_ready (rs := [3]) (by kernel_rfl) (by decide) (AllHead.cons (at_drop rfl) (by decide) (fun KK hK => ?_) AllHead.nil)
                    replace hA := hA3
                    refine op_append65 _ _ rfl X1.heap.size X0.heap.size (by rfl) (by rfl) (bys_row (ho1.below d3) (by rw [List.length_replicate])) (((Vals.below hb2 d2).below d3)) ?_
                    intro D6 d6 X4 hy6 d4
                    have HX4 := stepB HX3 d4
                    refine hK _ _ (hlY _ HX4) ?_
                    clear hK KK
                    try simp only [Act.put, List.setIfInBounds_toArray, List.set_cons_zero, List.set_cons_succ]
                    have hA4 := hnext hA (rs := [4]) (i := 4) (by kernel_rfl) (by decide) (by decide)
                    refine wpHead_ready (rs := [4]) (by kernel_rfl) (by decide) (AllHead.cons (at_drop rfl) (by decide) (fun KK hK => ?_) AllHead.nil)
                    replace hA := hA4
                    have hc13 := sx13 X4 A B (hde.below d4) D6 d6 (hy6)
                    go_simp
                    refine hc13.mono ?_
                    rintro r X5 ⟨rfl, d5⟩
                    have HX5 := stepB HX4 d5
                    refine hK _ _ (hlY _ HX5) ?_
                    clear hK KK
                    try simp only [Act.put, List.setIfInBounds_toArray, List.set_cons_zero, List.set_cons_succ]
                    refine wpHead_take (i := 5) (v := ?_) (by kernel_rfl) hA (at_drop rfl) (by decide) (by kernel_rfl) (by kernel_rfl) (by kernel_rfl) (fun _ _ _ h => h) (Or.inl ⟨by rfl, ?_⟩) trivial (fun hA => ?_)
                    rotate_left
                    · (intro w hSw; go_simp <;> with_reducible rfl)
                    simp only [Act.put, List.setIfInBounds_toArray, List.set_cons_zero, List.set_cons_succ]
                    refine wpHead_take (i := 6) (v := ?_) (by kernel_rfl) hA (at_drop rfl) (by decide) (by kernel_rfl) (by kernel_rfl) (by kernel_rfl) (fun _ _ _ h => h) (Or.inl ⟨by rfl, ?_⟩) trivial (fun hA => ?_)
                    rotate_left
                    · (intro w hSw; go_simp <;> with_reducible rfl)
                    simp only [Act.put, List.setIfInBounds_toArray, List.set_cons_zero, List.set_cons_succ]
                    refine wpHead_take (i := 7) (v := ?_) (by kernel_rfl) hA (at_drop rfl) (by decide) (by kernel_rfl) (by kernel_rfl) (by kernel_rfl) (fun _ _ _ h => h) (Or.inl ⟨by rfl, ?_⟩) trivial (fun hA => ?_)
                    rotate_left
                    · (intro w hSw; go_simp <;> with_reducible rfl)
                    simp only [Act.put, List.setIfInBounds_toArray, List.set_cons_zero, List.set_cons_succ]
                    refine wpHead_take (i := 8) (v := ?_) (by kernel_rfl) hA (at_drop rfl) (by decide) (by kernel_rfl) (by kernel_rfl) (by kernel_rfl) (fun _ _ _ h => h) (Or.inl ⟨by rfl, ?_⟩) trivial (fun hA => ?_)
                    rotate_left
                    · (intro w hSw; go_simp <;> with_reducible rfl)
                    simp only [Act.put, List.setIfInBounds_toArray, List.set_cons_zero, List.set_cons_succ]
                    refine wpHead_end (by kernel_rfl) ?_
                    simp only [List.drop_succ_cons, List.drop_zero]
                    have HP := Lib.hid (stepB K HX5)
                    clear hlY hD HX1 HX2 HX3 HX4 HX5 hA hr1 ho1 d1 d2 d3 d4 d5 hde hb2 hy6 hc13
                    go_wp2_with fail
                    go_meet
                    exact ⟨rfl, HP⟩
              case rest =>
                obtain ⟨rfl, K8⟩ := hcut
                replace K := K8.out
                clear K8
                go_upto_region 20 with (first
                  | (go_at_call 20; ((with_reducible refine (even_any _).mono ?_); rintro r x14 ⟨A14, B14, rfl, hd14, hb14⟩); replace K := stepB K hb14; clear hb14)
                  | (go_at_call 21; ((with_reducible refine (sx14b _ _ _ hd14).mono ?_); rintro r x15 ⟨rfl, hb15⟩); replace K := stepB K hb15; clear hb15 hd14)
                  | (go_at_call 26; ((with_reducible refine (second_any7 _).mono ?_); rintro r x16 ⟨A16, B16, C16, rfl, hn16, hb16⟩); replace K := stepB K hb16; (try (replace hBm := hBm.below hb16; replace hd18 := DaAt.below hd18 hb16; replace ht18 := Tabs.below ht18 hb16)); clear hb16)
                  | (go_at_call 25; ((with_reducible refine (sx_bad _ _ _ _ hn16 0 (by decide)).mono ?_); rintro r x17 ⟨rfl, hb17⟩); replace K := bal (stepB K hb17) (.cells #[.int .i64 0, .int .i64 0, .slice none 0 0, .slice none 0 0] 54); clear hb17)
                  | (go_at_call 25; ((with_reducible refine (sx_bad _ _ _ _ hn16 4097 (by decide)).mono ?_); rintro r x20 ⟨rfl, hb20⟩); replace K := bal (stepB K hb20) (.cells #[.int .i64 0, .int .i64 0, .slice none 0 0, .slice none 0 0] 54); clear hb20)
                  | (go_at_call 25; ((with_reducible refine (sx17 _).mono ?_); rintro r x21 ⟨rfl, hb21⟩); replace K := bal (stepB K hb21) (.cells #[.int .i64 0, .int .i64 0, .slice none 0 0, .slice none 0 0] 54); clear hb21)
                  | (go_at_call 25; ((with_reducible refine (sx18 _ (HTb.out _ K)).mono ?_); rintro r x18 ⟨A18, a18, B18, b18, C18, c18, rfl, hd18, ht18, hb18⟩); have hBm := Blk4.new x18 (.int .i64 1) (.int .i64 0) (.slice A18 1 a18) (.slice B18 1 b18); have hbm := bal (Below.refl x18.heap.size x18) (.cells #[.int .i64 1, .int .i64 0, .slice A18 1 a18, .slice B18 1 b18] 54); replace K := stepB (stepB K hb18) hbm; replace hd18 := DaAt.below hd18 hbm; replace ht18 := Tabs.below ht18 hbm; clear hb18 hbm)
                  | (go_at_call 25; ((with_reducible refine (sx19 _ _ _ _ hn16 (HTb.out _ K)).mono ?_); rintro r x19 ⟨A19, a19, B19, b19, C19, c19, rfl, hb19⟩); replace hb19 := stepB hb19 (bal (Below.refl x19.heap.size x19) (.cells #[.int .i64 1, .int .i64 0, .slice A19 4 a19, .slice B19 4 b19] 54)); replace K := stepB K hb19; (try (replace hBm := hBm.below hb19; replace hd18 := DaAt.below hd18 hb19; replace ht18 := Tabs.below ht18 hb19)); clear hb19))
                generalize hYY : x19.alloc (.cells #[.int .i64 1, .int .i64 0, .slice A19 4 a19, .slice B19 4 b19] 54) = w12 at *
                clear hYY
                generalize x18.heap.size = bm at *
                obtain ⟨ad8, p8, n8, rfl, hlt8, hc8, _⟩ := ht18 0 (by decide)
                have hz8 : ad8.add 0 = ad8 := by first | simp | (simp [Addr.add]; done) | (obtain ⟨g, o, p⟩ := ad8; cases p <;> simp [Addr.add])
                have hc8 : w12.cell? (ad8.add 0) = some (.slice p8 0 n8) := hc8
                rw [hz8] at hc8
                have HC8 := Lib.hid fun Y (hY : Below w12.heap.size w12 Y) => (hY.cell (p := ad8) hlt8).trans hc8
                clear hz8
                obtain ⟨z0, z1, z2, z3⟩ := hBm.cells
                go_wp2_with (go_at_call 27; ((with_reducible refine (sx20 _ _ _ _ _ hd18).mono ?_); rintro r x22 ⟨rfl, hb22⟩); have hc9 := HC8.out _ hb22)
                go_ret
                exact ⟨rfl, stepB K hb22⟩
          · have hk13 : k < rowsY.length := by show k < 13; omega
            obtain ⟨⟨d, e⟩, hrow⟩ : ∃ x, rowsY[k]? = some x := ⟨_, List.getElem?_eq_getElem hk13⟩
            obtain ⟨A, B, a, b, hN, q0, q1, q2, q3, q4⟩ := HP.out k d e hrow
            obtain ⟨hc, hw0, hsm, hl⟩ := rowsY_at hrow
            have hlb : (ad.add (k * 5)).block < W.heap.size := by rw [addr_block]; exact hlt
            have r0 := (Below.cell hbX (p := ad.add (k * 5)) hlb).trans q0
            have r1 := (Below.cell hbX (p := ⟨(ad.add (k * 5)).block, (ad.add (k * 5)).off + 1, none⟩) hlb).trans q1
            have r2 := (Below.cell hbX (p := ⟨(ad.add (k * 5)).block, (ad.add (k * 5)).off + 2, none⟩) hlb).trans q2
            have r3 := (Below.cell hbX (p := ⟨(ad.add (k * 5)).block, (ad.add (k * 5)).off + 3, none⟩) hlb).trans q3
            have r4 := (Below.cell hbX (p := ⟨(ad.add (k * 5)).block, (ad.add (k * 5)).off + 4, none⟩) hlb).trans q4
            clear q0 q1 q2 q3 q4 HP hrow
            have hk2 : k < 13 := by omega
            have hx := hN.below hbX
            have hTr : Tabs2 wr := HT.out.below (stepB KTW hbX)
            have HA : Hid (∀ X, Below wr.heap.size wr X → Calls Tryd.prog 21 #[.agg #[.int .i64 d.V, .int .i64 d.q0, .slice A d.nx.length a, .slice B d.fi.length b], .slice (some ⟨X.heap.size, 0, none⟩) 1 1] (X.alloc (.cells #[.int .u8 0] 5)) fun r w' => ∃ g, r = .returned (.tuple #[.bool g, .int .i64 e]) ∧ Below X.heap.size X w') := fun X hX => by
              have hb := bal (Below.refl X.heap.size X) (.cells (bvs [0]).toArray 5)
              have := AcceptsD_any d A B a b (X.alloc (.cells (bvs [0]).toArray 5)) ((hx.below hX).below hb) hl (some ⟨X.heap.size, 0, none⟩) [0] 1 (bys_new X [0]) (by decide) (by decide)
              rw [hw0] at this
              exact this.mono fun r w' h => ⟨_, h.1, stepB hb h.2⟩
            have HTm := Lib.hid fun X (hX : Below wr.heap.size wr X) => hc ▸ Ren_ex d A B a b X (hx.below hX) hl (hTr.below hX)
            have HU1 := Lib.hid fun X (hX : Below wr.heap.size wr X) => hc ▸ To_ex d A B a b X (hx.below hX) hl hsm
            have HC := Lib.hid fun X (hX : Below wr.heap.size wr X) => hc ▸ CheckD_any d A B a b X (hx.below hX) hl
            clear hN hx hc hl hw0 hTr hsm
            go_upto_region 6 with fail
            have K9 : Hid (Below wr.heap.size wr (wr.alloc (.cells #[.int .i64 d.V, .int .i64 d.q0, .slice A d.nx.length a, .slice B d.fi.length b, .int .i64 e] 55))) := bal (Below.refl _ _) _
            have c0 : (wr.alloc (.cells #[.int .i64 d.V, .int .i64 d.q0, .slice A d.nx.length a, .slice B d.fi.length b, .int .i64 e] 55)).cell? ⟨wr.heap.size, 0, none⟩ = some (.int .i64 d.V) := by rw [World.cell?_alloc_at _ _ _ _ rfl]; rfl
            have c1 : (wr.alloc (.cells #[.int .i64 d.V, .int .i64 d.q0, .slice A d.nx.length a, .slice B d.fi.length b, .int .i64 e] 55)).cell? ⟨wr.heap.size, 1, none⟩ = some (.int .i64 d.q0) := by rw [World.cell?_alloc_at _ _ _ _ rfl]; rfl
            have c2 : (wr.alloc (.cells #[.int .i64 d.V, .int .i64 d.q0, .slice A d.nx.length a, .slice B d.fi.length b, .int .i64 e] 55)).cell? ⟨wr.heap.size, 2, none⟩ = some (.slice A d.nx.length a) := by rw [World.cell?_alloc_at _ _ _ _ rfl]; rfl
            have c3 : (wr.alloc (.cells #[.int .i64 d.V, .int .i64 d.q0, .slice A d.nx.length a, .slice B d.fi.length b, .int .i64 e] 55)).cell? ⟨wr.heap.size, 3, none⟩ = some (.slice B d.fi.length b) := by rw [World.cell?_alloc_at _ _ _ _ rfl]; rfl
            have c4 : (wr.alloc (.cells #[.int .i64 d.V, .int .i64 d.q0, .slice A d.nx.length a, .slice B d.fi.length b, .int .i64 e] 55)).cell? ⟨wr.heap.size, 4, none⟩ = some (.int .i64 e) := by rw [World.cell?_alloc_at _ _ _ _ rfl]; rfl
            have hs9 : wr.heap.size < (wr.alloc (.cells #[.int .i64 d.V, .int .i64 d.q0, .slice A d.nx.length a, .slice B d.fi.length b, .int .i64 e] 55)).heap.size := by rw [World.size_alloc]; omega
            clear r0 r1 r2 r3 r4 hlb
            generalize wr.alloc (.cells #[.int .i64 d.V, .int .i64 d.q0, .slice A d.nx.length a, .slice B d.fi.length b, .int .i64 e] 55) = w9 at *
            have HQ : Hid (∀ X, Below w9.heap.size w9 X → X.cell? ⟨wr.heap.size, 0, none⟩ = some (.int .i64 d.V) ∧ X.cell? ⟨wr.heap.size, 1, none⟩ = some (.int .i64 d.q0) ∧ X.cell? ⟨wr.heap.size, 2, none⟩ = some (.slice A d.nx.length a) ∧ X.cell? ⟨wr.heap.size, 3, none⟩ = some (.slice B d.fi.length b) ∧ X.cell? ⟨wr.heap.size, 4, none⟩ = some (.int .i64 e)) := fun X h => ⟨(Below.cell h hs9).trans c0, (Below.cell h hs9).trans c1, (Below.cell h hs9).trans c2, (Below.cell h hs9).trans c3, (Below.cell h hs9).trans c4⟩
            clear hs9
            go_upto_region 9 with (first
              | (go_at_call 21; ((with_reducible refine (HA.out _ K9.out).mono ?_); rintro r wA ⟨g, rfl, hb5⟩); have K := hb5; clear c0 c1 c2 c3 c4 hb5 HA; obtain ⟨c0, c1, c2, c3, c4⟩ := HQ.out _ K)
              | (go_at_call 22; ((with_reducible refine (HTm.out _ (stepB K9.out K)).mono ?_); rintro r wB ⟨V6, q6, A6, B6, p6, a6, k6, b6, rfl, hb6⟩); replace K := stepB (stepB K hb6) (bal (Below.refl wB.heap.size wB) (.cells #[.int .i64 V6, .int .i64 q6, .slice A6 p6 a6, .slice B6 k6 b6] 54)); clear c0 c1 c2 c3 c4 hb6 HTm; obtain ⟨c0, c1, c2, c3, c4⟩ := HQ.out _ K)
              | (go_at_call 23; ((with_reducible refine (HU1.out _ (stepB K9.out K)).mono ?_); rintro r wD ⟨V7, S7, A7, B7, C7, p7, a7, q7, b7, k7, c7, rfl, hb8⟩); replace K := stepB (stepB K hb8) (bal (Below.refl wD.heap.size wD) (.cells #[.int .i64 V7, .int .i64 S7, .slice A7 p7 a7, .slice B7 q7 b7, .slice C7 k7 c7] 26)); clear c0 c1 c2 c3 c4 hb8 HU1))
            have d0 : ∀ r : Cls (fun X => Below w9.heap.size w9 X), r.w.cell? ⟨wr.heap.size, 0, none⟩ = some (.int .i64 d.V) := fun r => (HQ.out _ r.h).1
            have d1 : ∀ r : Cls (fun X => Below w9.heap.size w9 X), r.w.cell? ⟨wr.heap.size, 1, none⟩ = some (.int .i64 d.q0) := fun r => (HQ.out _ r.h).2.1
            have d2 : ∀ r : Cls (fun X => Below w9.heap.size w9 X), r.w.cell? ⟨wr.heap.size, 2, none⟩ = some (.slice A d.nx.length a) := fun r => (HQ.out _ r.h).2.2.1
            have d3 : ∀ r : Cls (fun X => Below w9.heap.size w9 X), r.w.cell? ⟨wr.heap.size, 3, none⟩ = some (.slice B d.fi.length b) := fun r => (HQ.out _ r.h).2.2.2.1
            have d4 : ∀ r : Cls (fun X => Below w9.heap.size w9 X), r.w.cell? ⟨wr.heap.size, 4, none⟩ = some (.int .i64 e) := fun r => (HQ.out _ r.h).2.2.2.2
            have G1 := Lib.hid fun X (hX : Below w9.heap.size w9 X) => HC.out X (stepB K9.out hX)
            have q1 : (e != e) = false := by simp
            clear HC HQ HAw
            generalize hWW : wD.alloc (.cells #[.int .i64 V7, .int .i64 S7, .slice A7 p7 a7, .slice B7 q7 b7, .slice C7 k7 c7] 26) = WW at *
            clear hWW
            haveI : Nonempty (Cls (fun X => Below w9.heap.size w9 X)) := ⟨⟨w9, Below.refl _ _⟩⟩
            have hdr : Below w9.heap.size w9 WW.drew := stepB K (drew_below WW)
            have KF : Hid (∀ X, Below w9.heap.size w9 X → Below W.heap.size W X) := fun X hX => stepB (stepB hbX K9.out) hX
            refine wp_region_cls (fun X => Below w9.heap.size w9 X) (by kernel_rfl) (by kernel_rfl) hdr ?_
            repeat (go_big_quiet_step (first | (go_at_call 24; rename_i r; (with_reducible refine (G1.out r.w r.h).mono ?_); rintro e5 w5 ⟨rfl, hb9⟩; exact ⟨rfl, ⟨⟨w5, stepB r.h hb9⟩, rfl⟩⟩)))
            refine wpQuiet_nil ?_
            rintro _ ⟨⟨X, hX⟩, rfl⟩
            clear d0 d1 d2 d3 d4
            go_wp2
            go_roundw
            case rel => exact ⟨k + 1, by omega, by go_num, KF.out _ hX⟩
            case measure => simp [intOf]; omega
end Go.Proofs.YteckkbjpeckjmaaDoor.Sx
