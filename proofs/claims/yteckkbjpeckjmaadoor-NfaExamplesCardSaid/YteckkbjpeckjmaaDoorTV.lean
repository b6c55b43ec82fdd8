/- The walk of NfaExamples. -/
import Derived.Test.YteckkbjpeckjmaaDoorTR
import Derived.Test.YteckkbjpeckjmaaDoorTW
namespace Go.Proofs.YteckkbjpeckjmaaDoor.Nx
open Go Go.RowKit Go.Proofs.YteckkbjpeckjmaaDoor Go.Proofs.YteckkbjpeckjmaaDoor.Wi Go.Proofs.YteckkbjpeckjmaaDoor.Nf Go.Proofs.YteckkbjpeckjmaaDoor.Cb
set_option linter.unusedVariables false
set_option linter.unusedSectionVars false
set_option linter.unusedSimpArgs false
set_option maxRecDepth 100000
set_option maxHeartbeats 16000000 in
theorem nfaExamples_walk (w : World) (hT : Tab w) : Calls Tryd.prog 3 #[] w fun e w' => e = .returned (.bool true) ∧ Below w.heap.size w w' := by
  have HAw := Lib.hid fun X => awake_any6 X
  have HT := Lib.hid hT
  clear hT
  go_enter Tryd.func3, Tryd.ntmps3
  go_upto_region 3 with (go_at_call 6; ((with_reducible refine (HAw.out _).mono ?_); rintro r w2 ⟨rfl, hb2⟩))
  obtain ⟨i0, hi, hz0, hz1, hz2⟩ := info_parts info_edge
  obtain ⟨i1, hj, hy0, hy1, hy2⟩ := info_parts info_intX
  obtain ⟨i2, hk, hx0, hx1, hx2⟩ := info_parts info_rowX
  refine wp_region_rec (fun i => (recsX.getD i .any).holds) (by kernel_rfl) (by kernel_rfl) (fun i v W W' h hb => Rec.below _ h hb) ?_ ?_
  · intro i oi A W ho hbW hpre
    clear HAw
    rw [List.getElem?_toArray] at ho
    rcases i with _ | i
    · rw [List.getElem?_cons_zero] at ho
      obtain rfl := Option.some.inj ho
      exact op_build _ _ rfl #[.int .i64 (0), .int .i64 (0), .slice none 0 0, .slice none 0 0, .slice none 0 0] (by kernel_rfl) ⟨_, rfl, Below.refl _ _, ⟨none, none, none, 0, 0, 0, rfl, ⟨by constructor <;> decide, by constructor <;> decide, fun j hj => absurd hj (Nat.not_lt_zero j), fun j hj => absurd hj (Nat.not_lt_zero j), fun j hj => absurd hj (Nat.not_lt_zero j)⟩⟩⟩
    rw [List.getElem?_cons_succ] at ho
    rcases i with _ | i
    · rw [List.getElem?_cons_zero] at ho
      obtain rfl := Option.some.inj ho
      obtain ⟨A1, B1, C1, a1, b1, c1, e0, hN⟩ : NfaP ⟨0, 0, [], [], []⟩ (A.tmps.getD 38 undef) W := hpre ⟨0, .data⟩ (by simp) rfl 38 rfl
      exact op_build _ _ rfl #[.int .i64 (⟨0, 0, [], [], []⟩ : Na).V, .int .i64 (⟨0, 0, [], [], []⟩ : Na).S, .slice A1 (⟨0, 0, [], [], []⟩ : Na).st.length a1, .slice B1 (⟨0, 0, [], [], []⟩ : Na).fi.length b1, .slice C1 (⟨0, 0, [], [], []⟩ : Na).es.length c1, .int .i64 (0)] (by show Program.built _ _ [(0, A.tmps.getD 38 undef), (1, _)] = _; rw [e0]; kernel_rfl) ⟨_, rfl, Below.refl _ _, ⟨A1, B1, C1, a1, b1, c1, rfl, hN⟩⟩
    rw [List.getElem?_cons_succ] at ho
    rcases i with _ | i
    · rw [List.getElem?_cons_zero] at ho
      obtain rfl := Option.some.inj ho
      exact op_build _ _ rfl #[.int .i64 (-1), .int .i64 (-1), .slice none 0 0, .slice none 0 0, .slice none 0 0] (by kernel_rfl) ⟨_, rfl, Below.refl _ _, ⟨none, none, none, 0, 0, 0, rfl, ⟨by constructor <;> decide, by constructor <;> decide, fun j hj => absurd hj (Nat.not_lt_zero j), fun j hj => absurd hj (Nat.not_lt_zero j), fun j hj => absurd hj (Nat.not_lt_zero j)⟩⟩⟩
    rw [List.getElem?_cons_succ] at ho
    rcases i with _ | i
    · rw [List.getElem?_cons_zero] at ho
      obtain rfl := Option.some.inj ho
      obtain ⟨A1, B1, C1, a1, b1, c1, e0, hN⟩ : NfaP ⟨-1, -1, [], [], []⟩ (A.tmps.getD 40 undef) W := hpre ⟨2, .data⟩ (by simp) rfl 40 rfl
      exact op_build _ _ rfl #[.int .i64 (⟨-1, -1, [], [], []⟩ : Na).V, .int .i64 (⟨-1, -1, [], [], []⟩ : Na).S, .slice A1 (⟨-1, -1, [], [], []⟩ : Na).st.length a1, .slice B1 (⟨-1, -1, [], [], []⟩ : Na).fi.length b1, .slice C1 (⟨-1, -1, [], [], []⟩ : Na).es.length c1, .int .i64 (7)] (by show Program.built _ _ [(0, A.tmps.getD 40 undef), (1, _)] = _; rw [e0]; kernel_rfl) ⟨_, rfl, Below.refl _ _, ⟨A1, B1, C1, a1, b1, c1, rfl, hN⟩⟩
    rw [List.getElem?_cons_succ] at ho
    rcases i with _ | i
    · rw [List.getElem?_cons_zero] at ho
      obtain rfl := Option.some.inj ho
      exact op_build _ _ rfl #[.int .i64 (7), .int .i64 (0), .slice none 0 0, .slice none 0 0, .slice none 0 0] (by kernel_rfl) ⟨_, rfl, Below.refl _ _, ⟨none, none, none, 0, 0, 0, rfl, ⟨by constructor <;> decide, by constructor <;> decide, fun j hj => absurd hj (Nat.not_lt_zero j), fun j hj => absurd hj (Nat.not_lt_zero j), fun j hj => absurd hj (Nat.not_lt_zero j)⟩⟩⟩
    rw [List.getElem?_cons_succ] at ho
    rcases i with _ | i
    · rw [List.getElem?_cons_zero] at ho
      obtain rfl := Option.some.inj ho
      obtain ⟨A1, B1, C1, a1, b1, c1, e0, hN⟩ : NfaP ⟨7, 0, [], [], []⟩ (A.tmps.getD 42 undef) W := hpre ⟨4, .data⟩ (by simp) rfl 42 rfl
      exact op_build _ _ rfl #[.int .i64 (⟨7, 0, [], [], []⟩ : Na).V, .int .i64 (⟨7, 0, [], [], []⟩ : Na).S, .slice A1 (⟨7, 0, [], [], []⟩ : Na).st.length a1, .slice B1 (⟨7, 0, [], [], []⟩ : Na).fi.length b1, .slice C1 (⟨7, 0, [], [], []⟩ : Na).es.length c1, .int .i64 (7)] (by show Program.built _ _ [(0, A.tmps.getD 42 undef), (1, _)] = _; rw [e0]; kernel_rfl) ⟨_, rfl, Below.refl _ _, ⟨A1, B1, C1, a1, b1, c1, rfl, hN⟩⟩
    rw [List.getElem?_cons_succ] at ho
    rcases i with _ | i
    · rw [List.getElem?_cons_zero] at ho
      obtain rfl := Option.some.inj ho
      exact op_make _ _ _ rfl _ _ (made513 W) ⟨_, rfl, bal (Below.refl _ _) _, ⟨_, 513, by rw [List.length_replicate], eds_made W 513⟩⟩
    rw [List.getElem?_cons_succ] at ho
    rcases i with _ | i
    · rw [List.getElem?_cons_zero] at ho
      obtain rfl := Option.some.inj ho
      obtain ⟨C1, c1, ees, hes⟩ : EdgP (List.replicate 513 ⟨0, 0, 0, 0⟩) (A.tmps.getD 44 undef) W := hpre ⟨6, .data⟩ (by simp) rfl 44 rfl
      exact op_build _ _ rfl #[.int .i64 (0), .int .i64 (-1), .slice none 0 0, .slice none 0 0, .slice C1 ((List.replicate 513 ⟨0, 0, 0, 0⟩) : List Ed).length c1] (by show Program.built _ _ [(1, _), (4, A.tmps.getD 44 undef)] = _; rw [ees]; kernel_rfl) ⟨_, rfl, Below.refl _ _, ⟨none, none, C1, 0, 0, c1, rfl, ⟨by constructor <;> decide, by constructor <;> decide, fun j hj => absurd hj (Nat.not_lt_zero j), fun j hj => absurd hj (Nat.not_lt_zero j), hes⟩⟩⟩
    rw [List.getElem?_cons_succ] at ho
    rcases i with _ | i
    · rw [List.getElem?_cons_zero] at ho
      obtain rfl := Option.some.inj ho
      obtain ⟨A1, B1, C1, a1, b1, c1, e0, hN⟩ : NfaP ⟨0, -1, [], [], (List.replicate 513 ⟨0, 0, 0, 0⟩)⟩ (A.tmps.getD 45 undef) W := hpre ⟨7, .data⟩ (by simp) rfl 45 rfl
      exact op_build _ _ rfl #[.int .i64 (⟨0, -1, [], [], (List.replicate 513 ⟨0, 0, 0, 0⟩)⟩ : Na).V, .int .i64 (⟨0, -1, [], [], (List.replicate 513 ⟨0, 0, 0, 0⟩)⟩ : Na).S, .slice A1 (⟨0, -1, [], [], (List.replicate 513 ⟨0, 0, 0, 0⟩)⟩ : Na).st.length a1, .slice B1 (⟨0, -1, [], [], (List.replicate 513 ⟨0, 0, 0, 0⟩)⟩ : Na).fi.length b1, .slice C1 (⟨0, -1, [], [], (List.replicate 513 ⟨0, 0, 0, 0⟩)⟩ : Na).es.length c1, .int .i64 (1)] (by show Program.built _ _ [(0, A.tmps.getD 45 undef), (1, _)] = _; rw [e0]; kernel_rfl) ⟨_, rfl, Below.refl _ _, ⟨A1, B1, C1, a1, b1, c1, rfl, hN⟩⟩
    rw [List.getElem?_cons_succ] at ho
    rcases i with _ | i
    · rw [List.getElem?_cons_zero] at ho
      obtain rfl := Option.some.inj ho
      exact op_make _ _ _ rfl _ _ (made512 W) ⟨_, rfl, bal (Below.refl _ _) _, ⟨_, 512, by rw [List.length_replicate], eds_made W 512⟩⟩
    rw [List.getElem?_cons_succ] at ho
    rcases i with _ | i
    · rw [List.getElem?_cons_zero] at ho
      obtain rfl := Option.some.inj ho
      obtain ⟨C1, c1, ees, hes⟩ : EdgP (List.replicate 512 ⟨0, 0, 0, 0⟩) (A.tmps.getD 47 undef) W := hpre ⟨9, .data⟩ (by simp) rfl 47 rfl
      exact op_build _ _ rfl #[.int .i64 (0), .int .i64 (64), .slice none 0 0, .slice none 0 0, .slice C1 ((List.replicate 512 ⟨0, 0, 0, 0⟩) : List Ed).length c1] (by show Program.built _ _ [(1, _), (4, A.tmps.getD 47 undef)] = _; rw [ees]; kernel_rfl) ⟨_, rfl, Below.refl _ _, ⟨none, none, C1, 0, 0, c1, rfl, ⟨by constructor <;> decide, by constructor <;> decide, fun j hj => absurd hj (Nat.not_lt_zero j), fun j hj => absurd hj (Nat.not_lt_zero j), hes⟩⟩⟩
    rw [List.getElem?_cons_succ] at ho
    rcases i with _ | i
    · rw [List.getElem?_cons_zero] at ho
      obtain rfl := Option.some.inj ho
      obtain ⟨A1, B1, C1, a1, b1, c1, e0, hN⟩ : NfaP ⟨0, 64, [], [], (List.replicate 512 ⟨0, 0, 0, 0⟩)⟩ (A.tmps.getD 48 undef) W := hpre ⟨10, .data⟩ (by simp) rfl 48 rfl
      exact op_build _ _ rfl #[.int .i64 (⟨0, 64, [], [], (List.replicate 512 ⟨0, 0, 0, 0⟩)⟩ : Na).V, .int .i64 (⟨0, 64, [], [], (List.replicate 512 ⟨0, 0, 0, 0⟩)⟩ : Na).S, .slice A1 (⟨0, 64, [], [], (List.replicate 512 ⟨0, 0, 0, 0⟩)⟩ : Na).st.length a1, .slice B1 (⟨0, 64, [], [], (List.replicate 512 ⟨0, 0, 0, 0⟩)⟩ : Na).fi.length b1, .slice C1 (⟨0, 64, [], [], (List.replicate 512 ⟨0, 0, 0, 0⟩)⟩ : Na).es.length c1, .int .i64 (0)] (by show Program.built _ _ [(0, A.tmps.getD 48 undef), (1, _)] = _; rw [e0]; kernel_rfl) ⟨_, rfl, Below.refl _ _, ⟨A1, B1, C1, a1, b1, c1, rfl, hN⟩⟩
    rw [List.getElem?_cons_succ] at ho
    rcases i with _ | i
    · rw [List.getElem?_cons_zero] at ho
      obtain rfl := Option.some.inj ho
      exact op_slice _ _ 1 _ rfl (([-1] : List Int).map (Value.int .i64)).toArray i1 _ Tryd.underlying23 hj hy0 (by rw [hy1]; decide) (by rw [hy1]; decide) (by rw [hy1]; kernel_rfl) ⟨_, rfl, bal (Below.refl _ _) _, ⟨_, 1, rfl, Dg.ints_new W _ [-1]⟩⟩
    rw [List.getElem?_cons_succ] at ho
    rcases i with _ | i
    · rw [List.getElem?_cons_zero] at ho
      obtain rfl := Option.some.inj ho
      obtain ⟨A1, a1, est, hst⟩ : IntP [-1] (A.tmps.getD 50 undef) W := hpre ⟨12, .data⟩ (by simp) rfl 50 rfl
      exact op_build _ _ rfl #[.int .i64 (0), .int .i64 (65), .slice A1 ([-1] : List Int).length a1, .slice none 0 0, .slice none 0 0] (by show Program.built _ _ [(1, _), (2, A.tmps.getD 50 undef)] = _; rw [est]; kernel_rfl) ⟨_, rfl, Below.refl _ _, ⟨A1, none, none, a1, 0, 0, rfl, ⟨by constructor <;> decide, by constructor <;> decide, hst, fun j hj => absurd hj (Nat.not_lt_zero j), fun j hj => absurd hj (Nat.not_lt_zero j)⟩⟩⟩
    rw [List.getElem?_cons_succ] at ho
    rcases i with _ | i
    · rw [List.getElem?_cons_zero] at ho
      obtain rfl := Option.some.inj ho
      obtain ⟨A1, B1, C1, a1, b1, c1, e0, hN⟩ : NfaP ⟨0, 65, [-1], [], []⟩ (A.tmps.getD 51 undef) W := hpre ⟨13, .data⟩ (by simp) rfl 51 rfl
      exact op_build _ _ rfl #[.int .i64 (⟨0, 65, [-1], [], []⟩ : Na).V, .int .i64 (⟨0, 65, [-1], [], []⟩ : Na).S, .slice A1 (⟨0, 65, [-1], [], []⟩ : Na).st.length a1, .slice B1 (⟨0, 65, [-1], [], []⟩ : Na).fi.length b1, .slice C1 (⟨0, 65, [-1], [], []⟩ : Na).es.length c1, .int .i64 (4)] (by show Program.built _ _ [(0, A.tmps.getD 51 undef), (1, _)] = _; rw [e0]; kernel_rfl) ⟨_, rfl, Below.refl _ _, ⟨A1, B1, C1, a1, b1, c1, rfl, hN⟩⟩
    rw [List.getElem?_cons_succ] at ho
    rcases i with _ | i
    · rw [List.getElem?_cons_zero] at ho
      obtain rfl := Option.some.inj ho
      exact op_make _ _ _ rfl _ _ (made513 W) ⟨_, rfl, bal (Below.refl _ _) _, ⟨_, 513, by rw [List.length_replicate], eds_made W 513⟩⟩
    rw [List.getElem?_cons_succ] at ho
    rcases i with _ | i
    · rw [List.getElem?_cons_zero] at ho
      obtain rfl := Option.some.inj ho
      obtain ⟨C1, c1, ees, hes⟩ : EdgP (List.replicate 513 ⟨0, 0, 0, 0⟩) (A.tmps.getD 53 undef) W := hpre ⟨15, .data⟩ (by simp) rfl 53 rfl
      exact op_build _ _ rfl #[.int .i64 (0), .int .i64 (1), .slice none 0 0, .slice none 0 0, .slice C1 ((List.replicate 513 ⟨0, 0, 0, 0⟩) : List Ed).length c1] (by show Program.built _ _ [(1, _), (4, A.tmps.getD 53 undef)] = _; rw [ees]; kernel_rfl) ⟨_, rfl, Below.refl _ _, ⟨none, none, C1, 0, 0, c1, rfl, ⟨by constructor <;> decide, by constructor <;> decide, fun j hj => absurd hj (Nat.not_lt_zero j), fun j hj => absurd hj (Nat.not_lt_zero j), hes⟩⟩⟩
    rw [List.getElem?_cons_succ] at ho
    rcases i with _ | i
    · rw [List.getElem?_cons_zero] at ho
      obtain rfl := Option.some.inj ho
      obtain ⟨A1, B1, C1, a1, b1, c1, e0, hN⟩ : NfaP ⟨0, 1, [], [], (List.replicate 513 ⟨0, 0, 0, 0⟩)⟩ (A.tmps.getD 54 undef) W := hpre ⟨16, .data⟩ (by simp) rfl 54 rfl
      exact op_build _ _ rfl #[.int .i64 (⟨0, 1, [], [], (List.replicate 513 ⟨0, 0, 0, 0⟩)⟩ : Na).V, .int .i64 (⟨0, 1, [], [], (List.replicate 513 ⟨0, 0, 0, 0⟩)⟩ : Na).S, .slice A1 (⟨0, 1, [], [], (List.replicate 513 ⟨0, 0, 0, 0⟩)⟩ : Na).st.length a1, .slice B1 (⟨0, 1, [], [], (List.replicate 513 ⟨0, 0, 0, 0⟩)⟩ : Na).fi.length b1, .slice C1 (⟨0, 1, [], [], (List.replicate 513 ⟨0, 0, 0, 0⟩)⟩ : Na).es.length c1, .int .i64 (4)] (by show Program.built _ _ [(0, A.tmps.getD 54 undef), (1, _)] = _; rw [e0]; kernel_rfl) ⟨_, rfl, Below.refl _ _, ⟨A1, B1, C1, a1, b1, c1, rfl, hN⟩⟩
    rw [List.getElem?_cons_succ] at ho
    rcases i with _ | i
    · rw [List.getElem?_cons_zero] at ho
      obtain rfl := Option.some.inj ho
      exact op_slice _ _ 2 _ rfl (([1, 1] : List Int).map (Value.int .i64)).toArray i1 _ Tryd.underlying23 hj hy0 (by rw [hy1]; decide) (by rw [hy1]; decide) (by rw [hy1]; kernel_rfl) ⟨_, rfl, bal (Below.refl _ _) _, ⟨_, 2, rfl, Dg.ints_new W _ [1, 1]⟩⟩
    rw [List.getElem?_cons_succ] at ho
    rcases i with _ | i
    · rw [List.getElem?_cons_zero] at ho
      obtain rfl := Option.some.inj ho
      obtain ⟨A1, a1, est, hst⟩ : IntP [1, 1] (A.tmps.getD 56 undef) W := hpre ⟨18, .data⟩ (by simp) rfl 56 rfl
      exact op_build _ _ rfl #[.int .i64 (0), .int .i64 (2), .slice A1 ([1, 1] : List Int).length a1, .slice none 0 0, .slice none 0 0] (by show Program.built _ _ [(1, _), (2, A.tmps.getD 56 undef)] = _; rw [est]; kernel_rfl) ⟨_, rfl, Below.refl _ _, ⟨A1, none, none, a1, 0, 0, rfl, ⟨by constructor <;> decide, by constructor <;> decide, hst, fun j hj => absurd hj (Nat.not_lt_zero j), fun j hj => absurd hj (Nat.not_lt_zero j)⟩⟩⟩
    rw [List.getElem?_cons_succ] at ho
    rcases i with _ | i
    · rw [List.getElem?_cons_zero] at ho
      obtain rfl := Option.some.inj ho
      obtain ⟨A1, B1, C1, a1, b1, c1, e0, hN⟩ : NfaP ⟨0, 2, [1, 1], [], []⟩ (A.tmps.getD 57 undef) W := hpre ⟨19, .data⟩ (by simp) rfl 57 rfl
      exact op_build _ _ rfl #[.int .i64 (⟨0, 2, [1, 1], [], []⟩ : Na).V, .int .i64 (⟨0, 2, [1, 1], [], []⟩ : Na).S, .slice A1 (⟨0, 2, [1, 1], [], []⟩ : Na).st.length a1, .slice B1 (⟨0, 2, [1, 1], [], []⟩ : Na).fi.length b1, .slice C1 (⟨0, 2, [1, 1], [], []⟩ : Na).es.length c1, .int .i64 (8)] (by show Program.built _ _ [(0, A.tmps.getD 57 undef), (1, _)] = _; rw [e0]; kernel_rfl) ⟨_, rfl, Below.refl _ _, ⟨A1, B1, C1, a1, b1, c1, rfl, hN⟩⟩
    rw [List.getElem?_cons_succ] at ho
    rcases i with _ | i
    · rw [List.getElem?_cons_zero] at ho
      obtain rfl := Option.some.inj ho
      exact op_slice _ _ 2 _ rfl (([1, 0] : List Int).map (Value.int .i64)).toArray i1 _ Tryd.underlying23 hj hy0 (by rw [hy1]; decide) (by rw [hy1]; decide) (by rw [hy1]; kernel_rfl) ⟨_, rfl, bal (Below.refl _ _) _, ⟨_, 2, rfl, Dg.ints_new W _ [1, 0]⟩⟩
    rw [List.getElem?_cons_succ] at ho
    rcases i with _ | i
    · rw [List.getElem?_cons_zero] at ho
      obtain rfl := Option.some.inj ho
      obtain ⟨B1, b1, efi, hfi⟩ : IntP [1, 0] (A.tmps.getD 59 undef) W := hpre ⟨21, .data⟩ (by simp) rfl 59 rfl
      exact op_build _ _ rfl #[.int .i64 (0), .int .i64 (2), .slice none 0 0, .slice B1 ([1, 0] : List Int).length b1, .slice none 0 0] (by show Program.built _ _ [(1, _), (3, A.tmps.getD 59 undef)] = _; rw [efi]; kernel_rfl) ⟨_, rfl, Below.refl _ _, ⟨none, B1, none, 0, b1, 0, rfl, ⟨by constructor <;> decide, by constructor <;> decide, fun j hj => absurd hj (Nat.not_lt_zero j), hfi, fun j hj => absurd hj (Nat.not_lt_zero j)⟩⟩⟩
    rw [List.getElem?_cons_succ] at ho
    rcases i with _ | i
    · rw [List.getElem?_cons_zero] at ho
      obtain rfl := Option.some.inj ho
      obtain ⟨A1, B1, C1, a1, b1, c1, e0, hN⟩ : NfaP ⟨0, 2, [], [1, 0], []⟩ (A.tmps.getD 60 undef) W := hpre ⟨22, .data⟩ (by simp) rfl 60 rfl
      exact op_build _ _ rfl #[.int .i64 (⟨0, 2, [], [1, 0], []⟩ : Na).V, .int .i64 (⟨0, 2, [], [1, 0], []⟩ : Na).S, .slice A1 (⟨0, 2, [], [1, 0], []⟩ : Na).st.length a1, .slice B1 (⟨0, 2, [], [1, 0], []⟩ : Na).fi.length b1, .slice C1 (⟨0, 2, [], [1, 0], []⟩ : Na).es.length c1, .int .i64 (8)] (by show Program.built _ _ [(0, A.tmps.getD 60 undef), (1, _)] = _; rw [e0]; kernel_rfl) ⟨_, rfl, Below.refl _ _, ⟨A1, B1, C1, a1, b1, c1, rfl, hN⟩⟩
    rw [List.getElem?_cons_succ] at ho
    rcases i with _ | i
    · rw [List.getElem?_cons_zero] at ho
      obtain rfl := Option.some.inj ho
      exact op_slice _ _ 1 _ rfl (([2] : List Int).map (Value.int .i64)).toArray i1 _ Tryd.underlying23 hj hy0 (by rw [hy1]; decide) (by rw [hy1]; decide) (by rw [hy1]; kernel_rfl) ⟨_, rfl, bal (Below.refl _ _) _, ⟨_, 1, rfl, Dg.ints_new W _ [2]⟩⟩
    rw [List.getElem?_cons_succ] at ho
    rcases i with _ | i
    · rw [List.getElem?_cons_zero] at ho
      obtain rfl := Option.some.inj ho
      obtain ⟨B1, b1, efi, hfi⟩ : IntP [2] (A.tmps.getD 62 undef) W := hpre ⟨24, .data⟩ (by simp) rfl 62 rfl
      exact op_build _ _ rfl #[.int .i64 (0), .int .i64 (2), .slice none 0 0, .slice B1 ([2] : List Int).length b1, .slice none 0 0] (by show Program.built _ _ [(1, _), (3, A.tmps.getD 62 undef)] = _; rw [efi]; kernel_rfl) ⟨_, rfl, Below.refl _ _, ⟨none, B1, none, 0, b1, 0, rfl, ⟨by constructor <;> decide, by constructor <;> decide, fun j hj => absurd hj (Nat.not_lt_zero j), hfi, fun j hj => absurd hj (Nat.not_lt_zero j)⟩⟩⟩
    rw [List.getElem?_cons_succ] at ho
    rcases i with _ | i
    · rw [List.getElem?_cons_zero] at ho
      obtain rfl := Option.some.inj ho
      obtain ⟨A1, B1, C1, a1, b1, c1, e0, hN⟩ : NfaP ⟨0, 2, [], [2], []⟩ (A.tmps.getD 63 undef) W := hpre ⟨25, .data⟩ (by simp) rfl 63 rfl
      exact op_build _ _ rfl #[.int .i64 (⟨0, 2, [], [2], []⟩ : Na).V, .int .i64 (⟨0, 2, [], [2], []⟩ : Na).S, .slice A1 (⟨0, 2, [], [2], []⟩ : Na).st.length a1, .slice B1 (⟨0, 2, [], [2], []⟩ : Na).fi.length b1, .slice C1 (⟨0, 2, [], [2], []⟩ : Na).es.length c1, .int .i64 (8)] (by show Program.built _ _ [(0, A.tmps.getD 63 undef), (1, _)] = _; rw [e0]; kernel_rfl) ⟨_, rfl, Below.refl _ _, ⟨A1, B1, C1, a1, b1, c1, rfl, hN⟩⟩
    rw [List.getElem?_cons_succ] at ho
    rcases i with _ | i
    · rw [List.getElem?_cons_zero] at ho
      obtain rfl := Option.some.inj ho
      exact op_slice _ _ 2 _ rfl (([0, 1] : List Int).map (Value.int .i64)).toArray i1 _ Tryd.underlying23 hj hy0 (by rw [hy1]; decide) (by rw [hy1]; decide) (by rw [hy1]; kernel_rfl) ⟨_, rfl, bal (Below.refl _ _) _, ⟨_, 2, rfl, Dg.ints_new W _ [0, 1]⟩⟩
    rw [List.getElem?_cons_succ] at ho
    rcases i with _ | i
    · rw [List.getElem?_cons_zero] at ho
      obtain rfl := Option.some.inj ho
      exact op_slice _ _ 2 _ rfl (([0, 1] : List Int).map (Value.int .i64)).toArray i1 _ Tryd.underlying23 hj hy0 (by rw [hy1]; decide) (by rw [hy1]; decide) (by rw [hy1]; kernel_rfl) ⟨_, rfl, bal (Below.refl _ _) _, ⟨_, 2, rfl, Dg.ints_new W _ [0, 1]⟩⟩
    rw [List.getElem?_cons_succ] at ho
    rcases i with _ | i
    · rw [List.getElem?_cons_zero] at ho
      obtain rfl := Option.some.inj ho
      obtain ⟨A1, a1, est, hst⟩ : IntP [0, 1] (A.tmps.getD 65 undef) W := hpre ⟨27, .data⟩ (by simp) rfl 65 rfl
      obtain ⟨B1, b1, efi, hfi⟩ : IntP [0, 1] (A.tmps.getD 66 undef) W := hpre ⟨28, .data⟩ (by simp) rfl 66 rfl
      exact op_build _ _ rfl #[.int .i64 (0), .int .i64 (2), .slice A1 ([0, 1] : List Int).length a1, .slice B1 ([0, 1] : List Int).length b1, .slice none 0 0] (by show Program.built _ _ [(1, _), (2, A.tmps.getD 65 undef), (3, A.tmps.getD 66 undef)] = _; rw [est, efi]; kernel_rfl) ⟨_, rfl, Below.refl _ _, ⟨A1, B1, none, a1, b1, 0, rfl, ⟨by constructor <;> decide, by constructor <;> decide, hst, hfi, fun j hj => absurd hj (Nat.not_lt_zero j)⟩⟩⟩
    rw [List.getElem?_cons_succ] at ho
    rcases i with _ | i
    · rw [List.getElem?_cons_zero] at ho
      obtain rfl := Option.some.inj ho
      obtain ⟨A1, B1, C1, a1, b1, c1, e0, hN⟩ : NfaP ⟨0, 2, [0, 1], [0, 1], []⟩ (A.tmps.getD 67 undef) W := hpre ⟨29, .data⟩ (by simp) rfl 67 rfl
      exact op_build _ _ rfl #[.int .i64 (⟨0, 2, [0, 1], [0, 1], []⟩ : Na).V, .int .i64 (⟨0, 2, [0, 1], [0, 1], []⟩ : Na).S, .slice A1 (⟨0, 2, [0, 1], [0, 1], []⟩ : Na).st.length a1, .slice B1 (⟨0, 2, [0, 1], [0, 1], []⟩ : Na).fi.length b1, .slice C1 (⟨0, 2, [0, 1], [0, 1], []⟩ : Na).es.length c1, .int .i64 (0)] (by show Program.built _ _ [(0, A.tmps.getD 67 undef), (1, _)] = _; rw [e0]; kernel_rfl) ⟨_, rfl, Below.refl _ _, ⟨A1, B1, C1, a1, b1, c1, rfl, hN⟩⟩
    rw [List.getElem?_cons_succ] at ho
    rcases i with _ | i
    · rw [List.getElem?_cons_zero] at ho
      obtain rfl := Option.some.inj ho
      exact op_build _ _ rfl (#[.int .i64 (2), .int .i64 (0), .int .u8 1, .int .u8 1]) (by kernel_rfl) ⟨_, rfl, Below.refl _ _, rfl⟩
    rw [List.getElem?_cons_succ] at ho
    rcases i with _ | i
    · rw [List.getElem?_cons_zero] at ho
      obtain rfl := Option.some.inj ho
      have e0 : A.tmps.getD 69 undef = .agg #[.int .i64 (2), .int .i64 (0), .int .u8 1, .int .u8 1] := hpre ⟨31, .data⟩ (by simp) rfl 69 rfl
      exact op_slice _ _ 1 _ rfl (evs ([⟨2, 0, 1, 1⟩] : List Ed)).toArray i0 _ Tryd.underlying24 hi hz0 (by rw [hz1]; decide) (by rw [hz1]; decide) (by rw [hz1]; show Instr.fill _ _ [(0, A.tmps.getD 69 undef)] = _; rw [e0]; kernel_rfl) ⟨_, rfl, bal (Below.refl _ _) _, ⟨_, 1, rfl, eds_new _ _ (by decide) (edfine (by decide))⟩⟩
    rw [List.getElem?_cons_succ] at ho
    rcases i with _ | i
    · rw [List.getElem?_cons_zero] at ho
      obtain rfl := Option.some.inj ho
      obtain ⟨C1, c1, ees, hes⟩ : EdgP [⟨2, 0, 1, 1⟩] (A.tmps.getD 70 undef) W := hpre ⟨32, .data⟩ (by simp) rfl 70 rfl
      exact op_build _ _ rfl #[.int .i64 (0), .int .i64 (2), .slice none 0 0, .slice none 0 0, .slice C1 ([⟨2, 0, 1, 1⟩] : List Ed).length c1] (by show Program.built _ _ [(1, _), (4, A.tmps.getD 70 undef)] = _; rw [ees]; kernel_rfl) ⟨_, rfl, Below.refl _ _, ⟨none, none, C1, 0, 0, c1, rfl, ⟨by constructor <;> decide, by constructor <;> decide, fun j hj => absurd hj (Nat.not_lt_zero j), fun j hj => absurd hj (Nat.not_lt_zero j), hes⟩⟩⟩
    rw [List.getElem?_cons_succ] at ho
    rcases i with _ | i
    · rw [List.getElem?_cons_zero] at ho
      obtain rfl := Option.some.inj ho
      obtain ⟨A1, B1, C1, a1, b1, c1, e0, hN⟩ : NfaP ⟨0, 2, [], [], [⟨2, 0, 1, 1⟩]⟩ (A.tmps.getD 71 undef) W := hpre ⟨33, .data⟩ (by simp) rfl 71 rfl
      exact op_build _ _ rfl #[.int .i64 (⟨0, 2, [], [], [⟨2, 0, 1, 1⟩]⟩ : Na).V, .int .i64 (⟨0, 2, [], [], [⟨2, 0, 1, 1⟩]⟩ : Na).S, .slice A1 (⟨0, 2, [], [], [⟨2, 0, 1, 1⟩]⟩ : Na).st.length a1, .slice B1 (⟨0, 2, [], [], [⟨2, 0, 1, 1⟩]⟩ : Na).fi.length b1, .slice C1 (⟨0, 2, [], [], [⟨2, 0, 1, 1⟩]⟩ : Na).es.length c1, .int .i64 (8)] (by show Program.built _ _ [(0, A.tmps.getD 71 undef), (1, _)] = _; rw [e0]; kernel_rfl) ⟨_, rfl, Below.refl _ _, ⟨A1, B1, C1, a1, b1, c1, rfl, hN⟩⟩
    rw [List.getElem?_cons_succ] at ho
    rcases i with _ | i
    · rw [List.getElem?_cons_zero] at ho
      obtain rfl := Option.some.inj ho
      exact op_build _ _ rfl (#[.int .i64 (0), .int .i64 (-1), .int .u8 0, .int .u8 0]) (by kernel_rfl) ⟨_, rfl, Below.refl _ _, rfl⟩
    rw [List.getElem?_cons_succ] at ho
    rcases i with _ | i
    · rw [List.getElem?_cons_zero] at ho
      obtain rfl := Option.some.inj ho
      have e0 : A.tmps.getD 73 undef = .agg #[.int .i64 (0), .int .i64 (-1), .int .u8 0, .int .u8 0] := hpre ⟨35, .data⟩ (by simp) rfl 73 rfl
      exact op_slice _ _ 1 _ rfl (evs ([⟨0, -1, 0, 0⟩] : List Ed)).toArray i0 _ Tryd.underlying24 hi hz0 (by rw [hz1]; decide) (by rw [hz1]; decide) (by rw [hz1]; show Instr.fill _ _ [(0, A.tmps.getD 73 undef)] = _; rw [e0]; kernel_rfl) ⟨_, rfl, bal (Below.refl _ _) _, ⟨_, 1, rfl, eds_new _ _ (by decide) (edfine (by decide))⟩⟩
    rw [List.getElem?_cons_succ] at ho
    rcases i with _ | i
    · rw [List.getElem?_cons_zero] at ho
      obtain rfl := Option.some.inj ho
      obtain ⟨C1, c1, ees, hes⟩ : EdgP [⟨0, -1, 0, 0⟩] (A.tmps.getD 74 undef) W := hpre ⟨36, .data⟩ (by simp) rfl 74 rfl
      exact op_build _ _ rfl #[.int .i64 (0), .int .i64 (2), .slice none 0 0, .slice none 0 0, .slice C1 ([⟨0, -1, 0, 0⟩] : List Ed).length c1] (by show Program.built _ _ [(1, _), (4, A.tmps.getD 74 undef)] = _; rw [ees]; kernel_rfl) ⟨_, rfl, Below.refl _ _, ⟨none, none, C1, 0, 0, c1, rfl, ⟨by constructor <;> decide, by constructor <;> decide, fun j hj => absurd hj (Nat.not_lt_zero j), fun j hj => absurd hj (Nat.not_lt_zero j), hes⟩⟩⟩
    rw [List.getElem?_cons_succ] at ho
    rcases i with _ | i
    · rw [List.getElem?_cons_zero] at ho
      obtain rfl := Option.some.inj ho
      obtain ⟨A1, B1, C1, a1, b1, c1, e0, hN⟩ : NfaP ⟨0, 2, [], [], [⟨0, -1, 0, 0⟩]⟩ (A.tmps.getD 75 undef) W := hpre ⟨37, .data⟩ (by simp) rfl 75 rfl
      exact op_build _ _ rfl #[.int .i64 (⟨0, 2, [], [], [⟨0, -1, 0, 0⟩]⟩ : Na).V, .int .i64 (⟨0, 2, [], [], [⟨0, -1, 0, 0⟩]⟩ : Na).S, .slice A1 (⟨0, 2, [], [], [⟨0, -1, 0, 0⟩]⟩ : Na).st.length a1, .slice B1 (⟨0, 2, [], [], [⟨0, -1, 0, 0⟩]⟩ : Na).fi.length b1, .slice C1 (⟨0, 2, [], [], [⟨0, -1, 0, 0⟩]⟩ : Na).es.length c1, .int .i64 (8)] (by show Program.built _ _ [(0, A.tmps.getD 75 undef), (1, _)] = _; rw [e0]; kernel_rfl) ⟨_, rfl, Below.refl _ _, ⟨A1, B1, C1, a1, b1, c1, rfl, hN⟩⟩
    rw [List.getElem?_cons_succ] at ho
    rcases i with _ | i
    · rw [List.getElem?_cons_zero] at ho
      obtain rfl := Option.some.inj ho
      exact op_build _ _ rfl (#[.int .i64 (0), .int .i64 (0), .int .u8 1, .int .u8 1]) (by kernel_rfl) ⟨_, rfl, Below.refl _ _, rfl⟩
    rw [List.getElem?_cons_succ] at ho
    rcases i with _ | i
    · rw [List.getElem?_cons_zero] at ho
      obtain rfl := Option.some.inj ho
      exact op_build _ _ rfl (#[.int .i64 (0), .int .i64 (2), .int .u8 0, .int .u8 0]) (by kernel_rfl) ⟨_, rfl, Below.refl _ _, rfl⟩
    rw [List.getElem?_cons_succ] at ho
    rcases i with _ | i
    · rw [List.getElem?_cons_zero] at ho
      obtain rfl := Option.some.inj ho
      have e0 : A.tmps.getD 77 undef = .agg #[.int .i64 (0), .int .i64 (0), .int .u8 1, .int .u8 1] := hpre ⟨39, .data⟩ (by simp) rfl 77 rfl
      have e1 : A.tmps.getD 78 undef = .agg #[.int .i64 (0), .int .i64 (2), .int .u8 0, .int .u8 0] := hpre ⟨40, .data⟩ (by simp) rfl 78 rfl
      exact op_slice _ _ 2 _ rfl (evs ([⟨0, 0, 1, 1⟩, ⟨0, 2, 0, 0⟩] : List Ed)).toArray i0 _ Tryd.underlying24 hi hz0 (by rw [hz1]; decide) (by rw [hz1]; decide) (by rw [hz1]; show Instr.fill _ _ [(0, A.tmps.getD 77 undef), (1, A.tmps.getD 78 undef)] = _; rw [e0, e1]; kernel_rfl) ⟨_, rfl, bal (Below.refl _ _) _, ⟨_, 2, rfl, eds_new _ _ (by decide) (edfine (by decide))⟩⟩
    rw [List.getElem?_cons_succ] at ho
    rcases i with _ | i
    · rw [List.getElem?_cons_zero] at ho
      obtain rfl := Option.some.inj ho
      obtain ⟨C1, c1, ees, hes⟩ : EdgP [⟨0, 0, 1, 1⟩, ⟨0, 2, 0, 0⟩] (A.tmps.getD 79 undef) W := hpre ⟨41, .data⟩ (by simp) rfl 79 rfl
      exact op_build _ _ rfl #[.int .i64 (0), .int .i64 (2), .slice none 0 0, .slice none 0 0, .slice C1 ([⟨0, 0, 1, 1⟩, ⟨0, 2, 0, 0⟩] : List Ed).length c1] (by show Program.built _ _ [(1, _), (4, A.tmps.getD 79 undef)] = _; rw [ees]; kernel_rfl) ⟨_, rfl, Below.refl _ _, ⟨none, none, C1, 0, 0, c1, rfl, ⟨by constructor <;> decide, by constructor <;> decide, fun j hj => absurd hj (Nat.not_lt_zero j), fun j hj => absurd hj (Nat.not_lt_zero j), hes⟩⟩⟩
    rw [List.getElem?_cons_succ] at ho
    rcases i with _ | i
    · rw [List.getElem?_cons_zero] at ho
      obtain rfl := Option.some.inj ho
      obtain ⟨A1, B1, C1, a1, b1, c1, e0, hN⟩ : NfaP ⟨0, 2, [], [], [⟨0, 0, 1, 1⟩, ⟨0, 2, 0, 0⟩]⟩ (A.tmps.getD 80 undef) W := hpre ⟨42, .data⟩ (by simp) rfl 80 rfl
      exact op_build _ _ rfl #[.int .i64 (⟨0, 2, [], [], [⟨0, 0, 1, 1⟩, ⟨0, 2, 0, 0⟩]⟩ : Na).V, .int .i64 (⟨0, 2, [], [], [⟨0, 0, 1, 1⟩, ⟨0, 2, 0, 0⟩]⟩ : Na).S, .slice A1 (⟨0, 2, [], [], [⟨0, 0, 1, 1⟩, ⟨0, 2, 0, 0⟩]⟩ : Na).st.length a1, .slice B1 (⟨0, 2, [], [], [⟨0, 0, 1, 1⟩, ⟨0, 2, 0, 0⟩]⟩ : Na).fi.length b1, .slice C1 (⟨0, 2, [], [], [⟨0, 0, 1, 1⟩, ⟨0, 2, 0, 0⟩]⟩ : Na).es.length c1, .int .i64 (7)] (by show Program.built _ _ [(0, A.tmps.getD 80 undef), (1, _)] = _; rw [e0]; kernel_rfl) ⟨_, rfl, Below.refl _ _, ⟨A1, B1, C1, a1, b1, c1, rfl, hN⟩⟩
    rw [List.getElem?_cons_succ] at ho
    rcases i with _ | i
    · rw [List.getElem?_cons_zero] at ho
      obtain rfl := Option.some.inj ho
      exact op_build _ _ rfl (#[.int .i64 (0), .int .i64 (0), .int .u8 1, .int .u8 1]) (by kernel_rfl) ⟨_, rfl, Below.refl _ _, rfl⟩
    rw [List.getElem?_cons_succ] at ho
    rcases i with _ | i
    · rw [List.getElem?_cons_zero] at ho
      obtain rfl := Option.some.inj ho
      have e0 : A.tmps.getD 82 undef = .agg #[.int .i64 (0), .int .i64 (0), .int .u8 1, .int .u8 1] := hpre ⟨44, .data⟩ (by simp) rfl 82 rfl
      exact op_slice _ _ 1 _ rfl (evs ([⟨0, 0, 1, 1⟩] : List Ed)).toArray i0 _ Tryd.underlying24 hi hz0 (by rw [hz1]; decide) (by rw [hz1]; decide) (by rw [hz1]; show Instr.fill _ _ [(0, A.tmps.getD 82 undef)] = _; rw [e0]; kernel_rfl) ⟨_, rfl, bal (Below.refl _ _) _, ⟨_, 1, rfl, eds_new _ _ (by decide) (edfine (by decide))⟩⟩
    rw [List.getElem?_cons_succ] at ho
    rcases i with _ | i
    · rw [List.getElem?_cons_zero] at ho
      obtain rfl := Option.some.inj ho
      obtain ⟨C1, c1, ees, hes⟩ : EdgP [⟨0, 0, 1, 1⟩] (A.tmps.getD 83 undef) W := hpre ⟨45, .data⟩ (by simp) rfl 83 rfl
      exact op_build _ _ rfl #[.int .i64 (1), .int .i64 (2), .slice none 0 0, .slice none 0 0, .slice C1 ([⟨0, 0, 1, 1⟩] : List Ed).length c1] (by show Program.built _ _ [(0, _), (1, _), (4, A.tmps.getD 83 undef)] = _; rw [ees]; kernel_rfl) ⟨_, rfl, Below.refl _ _, ⟨none, none, C1, 0, 0, c1, rfl, ⟨by constructor <;> decide, by constructor <;> decide, fun j hj => absurd hj (Nat.not_lt_zero j), fun j hj => absurd hj (Nat.not_lt_zero j), hes⟩⟩⟩
    rw [List.getElem?_cons_succ] at ho
    rcases i with _ | i
    · rw [List.getElem?_cons_zero] at ho
      obtain rfl := Option.some.inj ho
      obtain ⟨A1, B1, C1, a1, b1, c1, e0, hN⟩ : NfaP ⟨1, 2, [], [], [⟨0, 0, 1, 1⟩]⟩ (A.tmps.getD 84 undef) W := hpre ⟨46, .data⟩ (by simp) rfl 84 rfl
      exact op_build _ _ rfl #[.int .i64 (⟨1, 2, [], [], [⟨0, 0, 1, 1⟩]⟩ : Na).V, .int .i64 (⟨1, 2, [], [], [⟨0, 0, 1, 1⟩]⟩ : Na).S, .slice A1 (⟨1, 2, [], [], [⟨0, 0, 1, 1⟩]⟩ : Na).st.length a1, .slice B1 (⟨1, 2, [], [], [⟨0, 0, 1, 1⟩]⟩ : Na).fi.length b1, .slice C1 (⟨1, 2, [], [], [⟨0, 0, 1, 1⟩]⟩ : Na).es.length c1, .int .i64 (2)] (by show Program.built _ _ [(0, A.tmps.getD 84 undef), (1, _)] = _; rw [e0]; kernel_rfl) ⟨_, rfl, Below.refl _ _, ⟨A1, B1, C1, a1, b1, c1, rfl, hN⟩⟩
    rw [List.getElem?_cons_succ] at ho
    rcases i with _ | i
    · rw [List.getElem?_cons_zero] at ho
      obtain rfl := Option.some.inj ho
      obtain ⟨A0, B0, C0, a0, b0, c0, e0, h0⟩ : RowP ⟨0, 0, [], [], []⟩ (0) (A.tmps.getD 39 undef) W := hpre ⟨1, .data⟩ (by simp) rfl 39 rfl
      obtain ⟨A1, B1, C1, a1, b1, c1, e1, h1⟩ : RowP ⟨-1, -1, [], [], []⟩ (7) (A.tmps.getD 41 undef) W := hpre ⟨3, .data⟩ (by simp) rfl 41 rfl
      obtain ⟨A2, B2, C2, a2, b2, c2, e2, h2⟩ : RowP ⟨7, 0, [], [], []⟩ (7) (A.tmps.getD 43 undef) W := hpre ⟨5, .data⟩ (by simp) rfl 43 rfl
      obtain ⟨A3, B3, C3, a3, b3, c3, e3, h3⟩ : RowP ⟨0, -1, [], [], (List.replicate 513 ⟨0, 0, 0, 0⟩)⟩ (1) (A.tmps.getD 46 undef) W := hpre ⟨8, .data⟩ (by simp) rfl 46 rfl
      obtain ⟨A4, B4, C4, a4, b4, c4, e4, h4⟩ : RowP ⟨0, 64, [], [], (List.replicate 512 ⟨0, 0, 0, 0⟩)⟩ (0) (A.tmps.getD 49 undef) W := hpre ⟨11, .data⟩ (by simp) rfl 49 rfl
      obtain ⟨A5, B5, C5, a5, b5, c5, e5, h5⟩ : RowP ⟨0, 65, [-1], [], []⟩ (4) (A.tmps.getD 52 undef) W := hpre ⟨14, .data⟩ (by simp) rfl 52 rfl
      obtain ⟨A6, B6, C6, a6, b6, c6, e6, h6⟩ : RowP ⟨0, 1, [], [], (List.replicate 513 ⟨0, 0, 0, 0⟩)⟩ (4) (A.tmps.getD 55 undef) W := hpre ⟨17, .data⟩ (by simp) rfl 55 rfl
      obtain ⟨A7, B7, C7, a7, b7, c7, e7, h7⟩ : RowP ⟨0, 2, [1, 1], [], []⟩ (8) (A.tmps.getD 58 undef) W := hpre ⟨20, .data⟩ (by simp) rfl 58 rfl
      obtain ⟨A8, B8, C8, a8, b8, c8, e8, h8⟩ : RowP ⟨0, 2, [], [1, 0], []⟩ (8) (A.tmps.getD 61 undef) W := hpre ⟨23, .data⟩ (by simp) rfl 61 rfl
      obtain ⟨A9, B9, C9, a9, b9, c9, e9, h9⟩ : RowP ⟨0, 2, [], [2], []⟩ (8) (A.tmps.getD 64 undef) W := hpre ⟨26, .data⟩ (by simp) rfl 64 rfl
      obtain ⟨A10, B10, C10, a10, b10, c10, e10, h10⟩ : RowP ⟨0, 2, [0, 1], [0, 1], []⟩ (0) (A.tmps.getD 68 undef) W := hpre ⟨30, .data⟩ (by simp) rfl 68 rfl
      obtain ⟨A11, B11, C11, a11, b11, c11, e11, h11⟩ : RowP ⟨0, 2, [], [], [⟨2, 0, 1, 1⟩]⟩ (8) (A.tmps.getD 72 undef) W := hpre ⟨34, .data⟩ (by simp) rfl 72 rfl
      obtain ⟨A12, B12, C12, a12, b12, c12, e12, h12⟩ : RowP ⟨0, 2, [], [], [⟨0, -1, 0, 0⟩]⟩ (8) (A.tmps.getD 76 undef) W := hpre ⟨38, .data⟩ (by simp) rfl 76 rfl
      obtain ⟨A13, B13, C13, a13, b13, c13, e13, h13⟩ : RowP ⟨0, 2, [], [], [⟨0, 0, 1, 1⟩, ⟨0, 2, 0, 0⟩]⟩ (7) (A.tmps.getD 81 undef) W := hpre ⟨43, .data⟩ (by simp) rfl 81 rfl
      obtain ⟨A14, B14, C14, a14, b14, c14, e14, h14⟩ : RowP ⟨1, 2, [], [], [⟨0, 0, 1, 1⟩]⟩ (2) (A.tmps.getD 85 undef) W := hpre ⟨47, .data⟩ (by simp) rfl 85 rfl
      have bT := bal (Below.refl W.heap.size W) (.cells ([.int .i64 (⟨0, 0, [], [], []⟩ : Na).V, .int .i64 (⟨0, 0, [], [], []⟩ : Na).S, .slice A0 (⟨0, 0, [], [], []⟩ : Na).st.length a0, .slice B0 (⟨0, 0, [], [], []⟩ : Na).fi.length b0, .slice C0 (⟨0, 0, [], [], []⟩ : Na).es.length c0, .int .i64 (0), .int .i64 (⟨-1, -1, [], [], []⟩ : Na).V, .int .i64 (⟨-1, -1, [], [], []⟩ : Na).S, .slice A1 (⟨-1, -1, [], [], []⟩ : Na).st.length a1, .slice B1 (⟨-1, -1, [], [], []⟩ : Na).fi.length b1, .slice C1 (⟨-1, -1, [], [], []⟩ : Na).es.length c1, .int .i64 (7), .int .i64 (⟨7, 0, [], [], []⟩ : Na).V, .int .i64 (⟨7, 0, [], [], []⟩ : Na).S, .slice A2 (⟨7, 0, [], [], []⟩ : Na).st.length a2, .slice B2 (⟨7, 0, [], [], []⟩ : Na).fi.length b2, .slice C2 (⟨7, 0, [], [], []⟩ : Na).es.length c2, .int .i64 (7), .int .i64 (⟨0, -1, [], [], (List.replicate 513 ⟨0, 0, 0, 0⟩)⟩ : Na).V, .int .i64 (⟨0, -1, [], [], (List.replicate 513 ⟨0, 0, 0, 0⟩)⟩ : Na).S, .slice A3 (⟨0, -1, [], [], (List.replicate 513 ⟨0, 0, 0, 0⟩)⟩ : Na).st.length a3, .slice B3 (⟨0, -1, [], [], (List.replicate 513 ⟨0, 0, 0, 0⟩)⟩ : Na).fi.length b3, .slice C3 (⟨0, -1, [], [], (List.replicate 513 ⟨0, 0, 0, 0⟩)⟩ : Na).es.length c3, .int .i64 (1), .int .i64 (⟨0, 64, [], [], (List.replicate 512 ⟨0, 0, 0, 0⟩)⟩ : Na).V, .int .i64 (⟨0, 64, [], [], (List.replicate 512 ⟨0, 0, 0, 0⟩)⟩ : Na).S, .slice A4 (⟨0, 64, [], [], (List.replicate 512 ⟨0, 0, 0, 0⟩)⟩ : Na).st.length a4, .slice B4 (⟨0, 64, [], [], (List.replicate 512 ⟨0, 0, 0, 0⟩)⟩ : Na).fi.length b4, .slice C4 (⟨0, 64, [], [], (List.replicate 512 ⟨0, 0, 0, 0⟩)⟩ : Na).es.length c4, .int .i64 (0), .int .i64 (⟨0, 65, [-1], [], []⟩ : Na).V, .int .i64 (⟨0, 65, [-1], [], []⟩ : Na).S, .slice A5 (⟨0, 65, [-1], [], []⟩ : Na).st.length a5, .slice B5 (⟨0, 65, [-1], [], []⟩ : Na).fi.length b5, .slice C5 (⟨0, 65, [-1], [], []⟩ : Na).es.length c5, .int .i64 (4), .int .i64 (⟨0, 1, [], [], (List.replicate 513 ⟨0, 0, 0, 0⟩)⟩ : Na).V, .int .i64 (⟨0, 1, [], [], (List.replicate 513 ⟨0, 0, 0, 0⟩)⟩ : Na).S, .slice A6 (⟨0, 1, [], [], (List.replicate 513 ⟨0, 0, 0, 0⟩)⟩ : Na).st.length a6, .slice B6 (⟨0, 1, [], [], (List.replicate 513 ⟨0, 0, 0, 0⟩)⟩ : Na).fi.length b6, .slice C6 (⟨0, 1, [], [], (List.replicate 513 ⟨0, 0, 0, 0⟩)⟩ : Na).es.length c6, .int .i64 (4), .int .i64 (⟨0, 2, [1, 1], [], []⟩ : Na).V, .int .i64 (⟨0, 2, [1, 1], [], []⟩ : Na).S, .slice A7 (⟨0, 2, [1, 1], [], []⟩ : Na).st.length a7, .slice B7 (⟨0, 2, [1, 1], [], []⟩ : Na).fi.length b7, .slice C7 (⟨0, 2, [1, 1], [], []⟩ : Na).es.length c7, .int .i64 (8), .int .i64 (⟨0, 2, [], [1, 0], []⟩ : Na).V, .int .i64 (⟨0, 2, [], [1, 0], []⟩ : Na).S, .slice A8 (⟨0, 2, [], [1, 0], []⟩ : Na).st.length a8, .slice B8 (⟨0, 2, [], [1, 0], []⟩ : Na).fi.length b8, .slice C8 (⟨0, 2, [], [1, 0], []⟩ : Na).es.length c8, .int .i64 (8), .int .i64 (⟨0, 2, [], [2], []⟩ : Na).V, .int .i64 (⟨0, 2, [], [2], []⟩ : Na).S, .slice A9 (⟨0, 2, [], [2], []⟩ : Na).st.length a9, .slice B9 (⟨0, 2, [], [2], []⟩ : Na).fi.length b9, .slice C9 (⟨0, 2, [], [2], []⟩ : Na).es.length c9, .int .i64 (8), .int .i64 (⟨0, 2, [0, 1], [0, 1], []⟩ : Na).V, .int .i64 (⟨0, 2, [0, 1], [0, 1], []⟩ : Na).S, .slice A10 (⟨0, 2, [0, 1], [0, 1], []⟩ : Na).st.length a10, .slice B10 (⟨0, 2, [0, 1], [0, 1], []⟩ : Na).fi.length b10, .slice C10 (⟨0, 2, [0, 1], [0, 1], []⟩ : Na).es.length c10, .int .i64 (0), .int .i64 (⟨0, 2, [], [], [⟨2, 0, 1, 1⟩]⟩ : Na).V, .int .i64 (⟨0, 2, [], [], [⟨2, 0, 1, 1⟩]⟩ : Na).S, .slice A11 (⟨0, 2, [], [], [⟨2, 0, 1, 1⟩]⟩ : Na).st.length a11, .slice B11 (⟨0, 2, [], [], [⟨2, 0, 1, 1⟩]⟩ : Na).fi.length b11, .slice C11 (⟨0, 2, [], [], [⟨2, 0, 1, 1⟩]⟩ : Na).es.length c11, .int .i64 (8), .int .i64 (⟨0, 2, [], [], [⟨0, -1, 0, 0⟩]⟩ : Na).V, .int .i64 (⟨0, 2, [], [], [⟨0, -1, 0, 0⟩]⟩ : Na).S, .slice A12 (⟨0, 2, [], [], [⟨0, -1, 0, 0⟩]⟩ : Na).st.length a12, .slice B12 (⟨0, 2, [], [], [⟨0, -1, 0, 0⟩]⟩ : Na).fi.length b12, .slice C12 (⟨0, 2, [], [], [⟨0, -1, 0, 0⟩]⟩ : Na).es.length c12, .int .i64 (8), .int .i64 (⟨0, 2, [], [], [⟨0, 0, 1, 1⟩, ⟨0, 2, 0, 0⟩]⟩ : Na).V, .int .i64 (⟨0, 2, [], [], [⟨0, 0, 1, 1⟩, ⟨0, 2, 0, 0⟩]⟩ : Na).S, .slice A13 (⟨0, 2, [], [], [⟨0, 0, 1, 1⟩, ⟨0, 2, 0, 0⟩]⟩ : Na).st.length a13, .slice B13 (⟨0, 2, [], [], [⟨0, 0, 1, 1⟩, ⟨0, 2, 0, 0⟩]⟩ : Na).fi.length b13, .slice C13 (⟨0, 2, [], [], [⟨0, 0, 1, 1⟩, ⟨0, 2, 0, 0⟩]⟩ : Na).es.length c13, .int .i64 (7), .int .i64 (⟨1, 2, [], [], [⟨0, 0, 1, 1⟩]⟩ : Na).V, .int .i64 (⟨1, 2, [], [], [⟨0, 0, 1, 1⟩]⟩ : Na).S, .slice A14 (⟨1, 2, [], [], [⟨0, 0, 1, 1⟩]⟩ : Na).st.length a14, .slice B14 (⟨1, 2, [], [], [⟨0, 0, 1, 1⟩]⟩ : Na).fi.length b14, .slice C14 (⟨1, 2, [], [], [⟨0, 0, 1, 1⟩]⟩ : Na).es.length c14, .int .i64 (2)] : List Value).toArray 28)
      refine op_slice _ _ 15 _ rfl ([.int .i64 (⟨0, 0, [], [], []⟩ : Na).V, .int .i64 (⟨0, 0, [], [], []⟩ : Na).S, .slice A0 (⟨0, 0, [], [], []⟩ : Na).st.length a0, .slice B0 (⟨0, 0, [], [], []⟩ : Na).fi.length b0, .slice C0 (⟨0, 0, [], [], []⟩ : Na).es.length c0, .int .i64 (0), .int .i64 (⟨-1, -1, [], [], []⟩ : Na).V, .int .i64 (⟨-1, -1, [], [], []⟩ : Na).S, .slice A1 (⟨-1, -1, [], [], []⟩ : Na).st.length a1, .slice B1 (⟨-1, -1, [], [], []⟩ : Na).fi.length b1, .slice C1 (⟨-1, -1, [], [], []⟩ : Na).es.length c1, .int .i64 (7), .int .i64 (⟨7, 0, [], [], []⟩ : Na).V, .int .i64 (⟨7, 0, [], [], []⟩ : Na).S, .slice A2 (⟨7, 0, [], [], []⟩ : Na).st.length a2, .slice B2 (⟨7, 0, [], [], []⟩ : Na).fi.length b2, .slice C2 (⟨7, 0, [], [], []⟩ : Na).es.length c2, .int .i64 (7), .int .i64 (⟨0, -1, [], [], (List.replicate 513 ⟨0, 0, 0, 0⟩)⟩ : Na).V, .int .i64 (⟨0, -1, [], [], (List.replicate 513 ⟨0, 0, 0, 0⟩)⟩ : Na).S, .slice A3 (⟨0, -1, [], [], (List.replicate 513 ⟨0, 0, 0, 0⟩)⟩ : Na).st.length a3, .slice B3 (⟨0, -1, [], [], (List.replicate 513 ⟨0, 0, 0, 0⟩)⟩ : Na).fi.length b3, .slice C3 (⟨0, -1, [], [], (List.replicate 513 ⟨0, 0, 0, 0⟩)⟩ : Na).es.length c3, .int .i64 (1), .int .i64 (⟨0, 64, [], [], (List.replicate 512 ⟨0, 0, 0, 0⟩)⟩ : Na).V, .int .i64 (⟨0, 64, [], [], (List.replicate 512 ⟨0, 0, 0, 0⟩)⟩ : Na).S, .slice A4 (⟨0, 64, [], [], (List.replicate 512 ⟨0, 0, 0, 0⟩)⟩ : Na).st.length a4, .slice B4 (⟨0, 64, [], [], (List.replicate 512 ⟨0, 0, 0, 0⟩)⟩ : Na).fi.length b4, .slice C4 (⟨0, 64, [], [], (List.replicate 512 ⟨0, 0, 0, 0⟩)⟩ : Na).es.length c4, .int .i64 (0), .int .i64 (⟨0, 65, [-1], [], []⟩ : Na).V, .int .i64 (⟨0, 65, [-1], [], []⟩ : Na).S, .slice A5 (⟨0, 65, [-1], [], []⟩ : Na).st.length a5, .slice B5 (⟨0, 65, [-1], [], []⟩ : Na).fi.length b5, .slice C5 (⟨0, 65, [-1], [], []⟩ : Na).es.length c5, .int .i64 (4), .int .i64 (⟨0, 1, [], [], (List.replicate 513 ⟨0, 0, 0, 0⟩)⟩ : Na).V, .int .i64 (⟨0, 1, [], [], (List.replicate 513 ⟨0, 0, 0, 0⟩)⟩ : Na).S, .slice A6 (⟨0, 1, [], [], (List.replicate 513 ⟨0, 0, 0, 0⟩)⟩ : Na).st.length a6, .slice B6 (⟨0, 1, [], [], (List.replicate 513 ⟨0, 0, 0, 0⟩)⟩ : Na).fi.length b6, .slice C6 (⟨0, 1, [], [], (List.replicate 513 ⟨0, 0, 0, 0⟩)⟩ : Na).es.length c6, .int .i64 (4), .int .i64 (⟨0, 2, [1, 1], [], []⟩ : Na).V, .int .i64 (⟨0, 2, [1, 1], [], []⟩ : Na).S, .slice A7 (⟨0, 2, [1, 1], [], []⟩ : Na).st.length a7, .slice B7 (⟨0, 2, [1, 1], [], []⟩ : Na).fi.length b7, .slice C7 (⟨0, 2, [1, 1], [], []⟩ : Na).es.length c7, .int .i64 (8), .int .i64 (⟨0, 2, [], [1, 0], []⟩ : Na).V, .int .i64 (⟨0, 2, [], [1, 0], []⟩ : Na).S, .slice A8 (⟨0, 2, [], [1, 0], []⟩ : Na).st.length a8, .slice B8 (⟨0, 2, [], [1, 0], []⟩ : Na).fi.length b8, .slice C8 (⟨0, 2, [], [1, 0], []⟩ : Na).es.length c8, .int .i64 (8), .int .i64 (⟨0, 2, [], [2], []⟩ : Na).V, .int .i64 (⟨0, 2, [], [2], []⟩ : Na).S, .slice A9 (⟨0, 2, [], [2], []⟩ : Na).st.length a9, .slice B9 (⟨0, 2, [], [2], []⟩ : Na).fi.length b9, .slice C9 (⟨0, 2, [], [2], []⟩ : Na).es.length c9, .int .i64 (8), .int .i64 (⟨0, 2, [0, 1], [0, 1], []⟩ : Na).V, .int .i64 (⟨0, 2, [0, 1], [0, 1], []⟩ : Na).S, .slice A10 (⟨0, 2, [0, 1], [0, 1], []⟩ : Na).st.length a10, .slice B10 (⟨0, 2, [0, 1], [0, 1], []⟩ : Na).fi.length b10, .slice C10 (⟨0, 2, [0, 1], [0, 1], []⟩ : Na).es.length c10, .int .i64 (0), .int .i64 (⟨0, 2, [], [], [⟨2, 0, 1, 1⟩]⟩ : Na).V, .int .i64 (⟨0, 2, [], [], [⟨2, 0, 1, 1⟩]⟩ : Na).S, .slice A11 (⟨0, 2, [], [], [⟨2, 0, 1, 1⟩]⟩ : Na).st.length a11, .slice B11 (⟨0, 2, [], [], [⟨2, 0, 1, 1⟩]⟩ : Na).fi.length b11, .slice C11 (⟨0, 2, [], [], [⟨2, 0, 1, 1⟩]⟩ : Na).es.length c11, .int .i64 (8), .int .i64 (⟨0, 2, [], [], [⟨0, -1, 0, 0⟩]⟩ : Na).V, .int .i64 (⟨0, 2, [], [], [⟨0, -1, 0, 0⟩]⟩ : Na).S, .slice A12 (⟨0, 2, [], [], [⟨0, -1, 0, 0⟩]⟩ : Na).st.length a12, .slice B12 (⟨0, 2, [], [], [⟨0, -1, 0, 0⟩]⟩ : Na).fi.length b12, .slice C12 (⟨0, 2, [], [], [⟨0, -1, 0, 0⟩]⟩ : Na).es.length c12, .int .i64 (8), .int .i64 (⟨0, 2, [], [], [⟨0, 0, 1, 1⟩, ⟨0, 2, 0, 0⟩]⟩ : Na).V, .int .i64 (⟨0, 2, [], [], [⟨0, 0, 1, 1⟩, ⟨0, 2, 0, 0⟩]⟩ : Na).S, .slice A13 (⟨0, 2, [], [], [⟨0, 0, 1, 1⟩, ⟨0, 2, 0, 0⟩]⟩ : Na).st.length a13, .slice B13 (⟨0, 2, [], [], [⟨0, 0, 1, 1⟩, ⟨0, 2, 0, 0⟩]⟩ : Na).fi.length b13, .slice C13 (⟨0, 2, [], [], [⟨0, 0, 1, 1⟩, ⟨0, 2, 0, 0⟩]⟩ : Na).es.length c13, .int .i64 (7), .int .i64 (⟨1, 2, [], [], [⟨0, 0, 1, 1⟩]⟩ : Na).V, .int .i64 (⟨1, 2, [], [], [⟨0, 0, 1, 1⟩]⟩ : Na).S, .slice A14 (⟨1, 2, [], [], [⟨0, 0, 1, 1⟩]⟩ : Na).st.length a14, .slice B14 (⟨1, 2, [], [], [⟨0, 0, 1, 1⟩]⟩ : Na).fi.length b14, .slice C14 (⟨1, 2, [], [], [⟨0, 0, 1, 1⟩]⟩ : Na).es.length c14, .int .i64 (2)] : List Value).toArray i2 _ Tryd.underlying31 hk hx0 (by rw [hx1]; decide) (by rw [hx1]; decide) (by rw [hx1]; show Instr.fill _ _ [(0, A.tmps.getD 39 undef), (1, A.tmps.getD 41 undef), (2, A.tmps.getD 43 undef), (3, A.tmps.getD 46 undef), (4, A.tmps.getD 49 undef), (5, A.tmps.getD 52 undef), (6, A.tmps.getD 55 undef), (7, A.tmps.getD 58 undef), (8, A.tmps.getD 61 undef), (9, A.tmps.getD 64 undef), (10, A.tmps.getD 68 undef), (11, A.tmps.getD 72 undef), (12, A.tmps.getD 76 undef), (13, A.tmps.getD 81 undef), (14, A.tmps.getD 85 undef)] = _; rw [e0, e1, e2, e3, e4, e5, e6, e7, e8, e9, e10, e11, e12, e13, e14]; kernel_rfl) ⟨_, rfl, bT, ⟨_, rfl, by simp, fun r n v hr => ?_⟩⟩
      have hr15 : r < 15 := (List.getElem?_eq_some_iff.1 hr).1
      rcases (by omega : r = 0 ∨ r = 1 ∨ r = 2 ∨ r = 3 ∨ r = 4 ∨ r = 5 ∨ r = 6 ∨ r = 7 ∨ r = 8 ∨ r = 9 ∨ r = 10 ∨ r = 11 ∨ r = 12 ∨ r = 13 ∨ r = 14) with rfl | rfl | rfl | rfl | rfl | rfl | rfl | rfl | rfl | rfl | rfl | rfl | rfl | rfl | rfl
      · cases hr
        exact ⟨A0, B0, C0, a0, b0, c0, h0.below bT, cell_new _ _ _ _ _ rfl, cell_newf _ _ _ _ 1 _ rfl, cell_newf _ _ _ _ 2 _ rfl, cell_newf _ _ _ _ 3 _ rfl, cell_newf _ _ _ _ 4 _ rfl, cell_newf _ _ _ _ 5 _ rfl⟩
      · cases hr
        exact ⟨A1, B1, C1, a1, b1, c1, h1.below bT, cell_new _ _ _ _ _ rfl, cell_newf _ _ _ _ 1 _ rfl, cell_newf _ _ _ _ 2 _ rfl, cell_newf _ _ _ _ 3 _ rfl, cell_newf _ _ _ _ 4 _ rfl, cell_newf _ _ _ _ 5 _ rfl⟩
      · cases hr
        exact ⟨A2, B2, C2, a2, b2, c2, h2.below bT, cell_new _ _ _ _ _ rfl, cell_newf _ _ _ _ 1 _ rfl, cell_newf _ _ _ _ 2 _ rfl, cell_newf _ _ _ _ 3 _ rfl, cell_newf _ _ _ _ 4 _ rfl, cell_newf _ _ _ _ 5 _ rfl⟩
      · cases hr
        exact ⟨A3, B3, C3, a3, b3, c3, h3.below bT, cell_new _ _ _ _ _ rfl, cell_newf _ _ _ _ 1 _ rfl, cell_newf _ _ _ _ 2 _ rfl, cell_newf _ _ _ _ 3 _ rfl, cell_newf _ _ _ _ 4 _ rfl, cell_newf _ _ _ _ 5 _ rfl⟩
      · cases hr
        exact ⟨A4, B4, C4, a4, b4, c4, h4.below bT, cell_new _ _ _ _ _ rfl, cell_newf _ _ _ _ 1 _ rfl, cell_newf _ _ _ _ 2 _ rfl, cell_newf _ _ _ _ 3 _ rfl, cell_newf _ _ _ _ 4 _ rfl, cell_newf _ _ _ _ 5 _ rfl⟩
      · cases hr
        exact ⟨A5, B5, C5, a5, b5, c5, h5.below bT, cell_new _ _ _ _ _ rfl, cell_newf _ _ _ _ 1 _ rfl, cell_newf _ _ _ _ 2 _ rfl, cell_newf _ _ _ _ 3 _ rfl, cell_newf _ _ _ _ 4 _ rfl, cell_newf _ _ _ _ 5 _ rfl⟩
      · cases hr
        exact ⟨A6, B6, C6, a6, b6, c6, h6.below bT, cell_new _ _ _ _ _ rfl, cell_newf _ _ _ _ 1 _ rfl, cell_newf _ _ _ _ 2 _ rfl, cell_newf _ _ _ _ 3 _ rfl, cell_newf _ _ _ _ 4 _ rfl, cell_newf _ _ _ _ 5 _ rfl⟩
      · cases hr
        exact ⟨A7, B7, C7, a7, b7, c7, h7.below bT, cell_new _ _ _ _ _ rfl, cell_newf _ _ _ _ 1 _ rfl, cell_newf _ _ _ _ 2 _ rfl, cell_newf _ _ _ _ 3 _ rfl, cell_newf _ _ _ _ 4 _ rfl, cell_newf _ _ _ _ 5 _ rfl⟩
      · cases hr
        exact ⟨A8, B8, C8, a8, b8, c8, h8.below bT, cell_new _ _ _ _ _ rfl, cell_newf _ _ _ _ 1 _ rfl, cell_newf _ _ _ _ 2 _ rfl, cell_newf _ _ _ _ 3 _ rfl, cell_newf _ _ _ _ 4 _ rfl, cell_newf _ _ _ _ 5 _ rfl⟩
      · cases hr
        exact ⟨A9, B9, C9, a9, b9, c9, h9.below bT, cell_new _ _ _ _ _ rfl, cell_newf _ _ _ _ 1 _ rfl, cell_newf _ _ _ _ 2 _ rfl, cell_newf _ _ _ _ 3 _ rfl, cell_newf _ _ _ _ 4 _ rfl, cell_newf _ _ _ _ 5 _ rfl⟩
      · cases hr
        exact ⟨A10, B10, C10, a10, b10, c10, h10.below bT, cell_new _ _ _ _ _ rfl, cell_newf _ _ _ _ 1 _ rfl, cell_newf _ _ _ _ 2 _ rfl, cell_newf _ _ _ _ 3 _ rfl, cell_newf _ _ _ _ 4 _ rfl, cell_newf _ _ _ _ 5 _ rfl⟩
      · cases hr
        exact ⟨A11, B11, C11, a11, b11, c11, h11.below bT, cell_new _ _ _ _ _ rfl, cell_newf _ _ _ _ 1 _ rfl, cell_newf _ _ _ _ 2 _ rfl, cell_newf _ _ _ _ 3 _ rfl, cell_newf _ _ _ _ 4 _ rfl, cell_newf _ _ _ _ 5 _ rfl⟩
      · cases hr
        exact ⟨A12, B12, C12, a12, b12, c12, h12.below bT, cell_new _ _ _ _ _ rfl, cell_newf _ _ _ _ 1 _ rfl, cell_newf _ _ _ _ 2 _ rfl, cell_newf _ _ _ _ 3 _ rfl, cell_newf _ _ _ _ 4 _ rfl, cell_newf _ _ _ _ 5 _ rfl⟩
      · cases hr
        exact ⟨A13, B13, C13, a13, b13, c13, h13.below bT, cell_new _ _ _ _ _ rfl, cell_newf _ _ _ _ 1 _ rfl, cell_newf _ _ _ _ 2 _ rfl, cell_newf _ _ _ _ 3 _ rfl, cell_newf _ _ _ _ 4 _ rfl, cell_newf _ _ _ _ 5 _ rfl⟩
      · cases hr
        exact ⟨A14, B14, C14, a14, b14, c14, h14.below bT, cell_new _ _ _ _ _ rfl, cell_newf _ _ _ _ 1 _ rfl, cell_newf _ _ _ _ 2 _ rfl, cell_newf _ _ _ _ 3 _ rfl, cell_newf _ _ _ _ 4 _ rfl, cell_newf _ _ _ _ 5 _ rfl⟩
    rw [List.getElem?_cons_succ] at ho
    rcases i with _ | i
    · rw [List.getElem?_cons_zero] at ho
      obtain rfl := Option.some.inj ho
      obtain ⟨ad, e0, _⟩ : TabX rowsX (A.tmps.getD 86 undef) W := hpre ⟨48, .data⟩ (by simp) rfl 86 rfl
      unfold Oper.wp execOp
      simp only [resolve, invoke, builtin, Sem.run_bind, Sem.run_pure, Result.andThen_ok, List.map_toArray, List.map_cons, List.map_nil, Act.eval, e0]
      exact ⟨_, rfl, Below.refl _ _, rfl⟩
    rw [List.getElem?_cons_succ] at ho
    rcases i with _ | i
    · rw [List.getElem?_cons_zero] at ho
      obtain rfl := Option.some.inj ho
      unfold Oper.wp execOp
      exact ⟨_, rfl, Below.refl _ _, rfl⟩
    rw [List.getElem?_cons_succ] at ho
    cases ho
  · intro vs W hbW hG
    obtain ⟨ad, e48, hlt, hrows⟩ : TabX rowsX (vs 48) W := hG 48 (by decide)
    have e49 : vs 49 = .int .i64 15 := hG 49 (by decide)
    have e50 : vs 50 = .int .i64 0 := hG 50 (by decide)
    clear hG
    simp only [putL, dstOf, List.size_toArray, List.length_cons, List.length_nil, Nat.reduceAdd, Array.getD_eq_getD_getElem?, Array.getElem?_replicate, Nat.reduceLT, if_true, Option.getD_some, List.getElem?_toArray, List.getElem?_cons_succ, List.getElem?_cons_zero, Option.bind_some, e48, e49, e50]
    go_simp
    go_wp2
    have HP := Lib.hid fun r n e h => hrows r n e h
    have KTW : Below w.heap.size w W := stepB hb2 ((drew_below w2).trans (hbW.mono (drew_below w2).size))
    clear hrows e48 e49 e50 hbW hb2
    go_loopw [2, 3, 4, 5, 6, 7, 8, 9, 10, 88] (fun _ _ _ _ _ _ _ _ _ i X => ∃ k : Nat, k ≤ 15 ∧ i = .int .i64 k ∧ Below W.heap.size W X) (fun _ _ _ _ _ _ _ _ _ i _ => 15 - (intOf i).toNat)
    case atStart => exact ⟨0, by decide, rfl, Below.refl _ _⟩
    case round =>
          obtain ⟨k, hk, rfl, hbX⟩ := hrel
          by_cases h15 : k = 15
          · subst h15
            have K : Below w.heap.size w wr := stepB KTW hbX
            clear hbX KTW HP HAw hlt HT
            have HS := Lib.hid fun X => second_any X
            go_upto_region 14 with (go_at_call 11; ((with_reducible refine (HS.out _).mono ?_); rintro r w5 ⟨A, B, C, rfl, hn5, hb5⟩); have hBn := Boxed5.new w5 26 (.int .i64 1) (.int .i64 3) (.slice A 1 1) (.slice B 1 1) (.slice C 3 3); have hbn := bal (Below.refl w5.heap.size w5) (.cells #[.int .i64 1, .int .i64 3, .slice A 1 1, .slice B 1 1, .slice C 3 3] 26); replace K := stepB (stepB K hb5) hbn; replace hn5 := hn5.below hbn; clear hb5 hbn HS)
            generalize hWW : w5.alloc (.cells #[.int .i64 1, .int .i64 3, .slice A 1 1, .slice B 1 1, .slice C 3 3] 26) = w6 at *
            generalize w5.heap.size = bn at *
            clear hWW
            refine wp_region_any (by kernel_rfl) ?_
            change wpAny _ _ _ _ _ _ _ (World.drew _)
            have hS0 : (fun X : World => Boxed5 X bn (.int .i64 1) (.int .i64 3) (.slice A 1 1) (.slice B 1 1) (.slice C 3 3)) w6.drew := hBn.below (drew_below w6)
            have hlY : ∀ Y : World, Below w6.heap.size w6 Y → (fun X : World => Boxed5 X bn (.int .i64 1) (.int .i64 3) (.slice A 1 1) (.slice B 1 1) (.slice C 3 3)) Y := fun Y hY => hBn.below hY
            have hD : Below w6.heap.size w6 w6.drew := drew_below w6
            generalize w6.drew = X0 at *
            refine wpAny_head 7 7 (fun X : World => Boxed5 X bn (.int .i64 1) (.int .i64 3) (.slice A 1 1) (.slice B 1 1) (.slice C 3 3)) rfl rfl (by kernel_rfl) (by kernel_rfl) (by kernel_rfl) (fun hA => ?_)
            refine wpHead_take (i := 0) (v := ?_) (by kernel_rfl) hA (at_drop rfl) (by decide) (by kernel_rfl) (by kernel_rfl) (by kernel_rfl) (fun _ _ _ h => h) (Or.inl ⟨by rfl, ?_⟩) hS0 (fun hA => ?_)
            rotate_left
            · (intro w hSw; obtain ⟨s0, s1, s2, s3, s4⟩ := hSw.cells; go_simp <;> with_reducible rfl)
            simp only [Act.put, List.setIfInBounds_toArray, List.set_cons_zero, List.set_cons_succ]
            have hA1 := hnext hA (rs := [1]) (i := 1) (by kernel_rfl) (by decide) (by decide)
            refine wpHead_ready (rs := [1]) (by kernel_rfl) (by decide) (AllHead.cons (at_drop rfl) (by decide) (fun KK hK => ?_) AllHead.nil)
            replace hA := hA1
            obtain ⟨X1, hr1, ho1, d1⟩ := made64_any X0
            refine op_make _ _ _ rfl _ _ hr1 ?_
            have HX1 := stepB hD d1
            refine hK _ _ (hlY _ HX1) ?_
            clear hK KK
            try simp only [Act.put, List.setIfInBounds_toArray, List.set_cons_zero, List.set_cons_succ]
            have hA2 := hnext hA (rs := [2]) (i := 2) (by kernel_rfl) (by decide) (by decide)
            refine wpHead_ready (rs := [2]) (by kernel_rfl) (by decide) (AllHead.cons (at_drop rfl) (by decide) (fun KK hK => ?_) AllHead.nil)
            replace hA := hA2
            have hc14 := ex14 X1 A B C (hn5.below HX1) (some ⟨X0.heap.size, 0, none⟩) 64 (bys_row ho1 (by rw [List.length_replicate]))
            go_simp
            refine hc14.mono ?_
            rintro r X2 ⟨rfl, d2⟩
            have HX2 := stepB HX1 d2
            refine hK _ _ (hlY _ HX2) ?_
            clear hK KK
            try simp only [Act.put, List.setIfInBounds_toArray, List.set_cons_zero, List.set_cons_succ]
            refine wpHead_take (i := 3) (v := ?_) (by kernel_rfl) hA (at_drop rfl) (by decide) (by kernel_rfl) (by kernel_rfl) (by kernel_rfl) (fun _ _ _ h => h) (Or.inl ⟨by rfl, ?_⟩) (hlY _ HX2) (fun hA => ?_)
            rotate_left
            · (intro w hSw; obtain ⟨s0, s1, s2, s3, s4⟩ := hSw.cells; go_simp <;> with_reducible rfl)
            simp only [Act.put, List.setIfInBounds_toArray, List.set_cons_zero, List.set_cons_succ]
            refine wpHead_take (i := 4) (v := ?_) (by kernel_rfl) hA (at_drop rfl) (by decide) (by kernel_rfl) (by kernel_rfl) (by kernel_rfl) (fun _ _ _ h => h) (Or.inl ⟨by rfl, ?_⟩) (hlY _ HX2) (fun hA => ?_)
            rotate_left
            · (intro w hSw; obtain ⟨s0, s1, s2, s3, s4⟩ := hSw.cells; go_simp <;> with_reducible rfl)
            simp only [Act.put, List.setIfInBounds_toArray, List.set_cons_zero, List.set_cons_succ]
            refine wpHead_take (i := 5) (v := ?_) (by kernel_rfl) hA (at_drop rfl) (by decide) (by kernel_rfl) (by kernel_rfl) (by kernel_rfl) (fun _ _ _ h => h) (Or.inl ⟨by rfl, ?_⟩) (hlY _ HX2) (fun hA => ?_)
            rotate_left
            · (intro w hSw; obtain ⟨s0, s1, s2, s3, s4⟩ := hSw.cells; go_simp <;> with_reducible rfl)
            simp only [Act.put, List.setIfInBounds_toArray, List.set_cons_zero, List.set_cons_succ]
            refine wpHead_take (i := 6) (v := ?_) (by kernel_rfl) hA (at_drop rfl) (by decide) (by kernel_rfl) (by kernel_rfl) (by kernel_rfl) (fun _ _ _ h => h) (Or.inl ⟨by rfl, ?_⟩) (hlY _ HX2) (fun hA => ?_)
            rotate_left
            · (intro w hSw; obtain ⟨s0, s1, s2, s3, s4⟩ := hSw.cells; go_simp <;> with_reducible rfl)
            simp only [Act.put, List.setIfInBounds_toArray, List.set_cons_zero, List.set_cons_succ]
            refine wpHead_end (by kernel_rfl) ?_
            simp only [List.drop_succ_cons, List.drop_zero, List.drop_nil]
            replace K := stepB K HX2
            replace hn5 := hn5.below HX2
            replace hBn := hBn.below HX2
            clear hS0 hlY hD HX1 HX2 hA hr1 ho1 d1 d2 hc14
            go_upto_region 15 with fail
            generalize X2 = w7 at *
            go_cut [14, 15] from 162 to 168 (fun _ t wx => t = .int .i64 4 ∧ Hid (Below w7.heap.size w7 wx))
            case first =>
              refine wp_region_any (by kernel_rfl) ?_
              change wpAny _ _ _ _ _ _ _ (World.drew _)
              have hS0 : (fun X : World => Boxed5 X bn (.int .i64 1) (.int .i64 3) (.slice A 1 1) (.slice B 1 1) (.slice C 3 3)) w7.drew := hBn.below (drew_below w7)
              have hlY : ∀ Y : World, Below w7.heap.size w7 Y → (fun X : World => Boxed5 X bn (.int .i64 1) (.int .i64 3) (.slice A 1 1) (.slice B 1 1) (.slice C 3 3)) Y := fun Y hY => hBn.below hY
              have hD : Below w7.heap.size w7 w7.drew := drew_below w7
              generalize w7.drew = X0 at *
              refine wpAny_head 9 9 (fun X : World => Boxed5 X bn (.int .i64 1) (.int .i64 3) (.slice A 1 1) (.slice B 1 1) (.slice C 3 3)) rfl rfl (by kernel_rfl) (by kernel_rfl) (by kernel_rfl) (fun hA => ?_)
              obtain ⟨iu, hiu, hv0, hv1, hv2⟩ := info_parts info_u8X
              refine wpHead_take (i := 0) (v := ?_) (by kernel_rfl) hA (at_drop rfl) (by decide) (by kernel_rfl) (by kernel_rfl) (by kernel_rfl) (fun _ _ _ h => h) (Or.inl ⟨by rfl, ?_⟩) hS0 (fun hA => ?_)
              rotate_left
              · (intro w hSw; obtain ⟨s0, s1, s2, s3, s4⟩ := hSw.cells; go_simp <;> with_reducible rfl)
              simp only [Act.put, List.setIfInBounds_toArray, List.set_cons_zero, List.set_cons_succ]
              have hA1 := hnext hA (rs := [1, 2]) (i := 1) (by kernel_rfl) (by decide) (by decide)
              have hA2 := hnext hA (rs := [1, 2]) (i := 2) (by kernel_rfl) (by decide) (by decide)
              refine wpHead_ready (rs := [1, 2]) (by kernel_rfl) (by decide) (AllHead.cons (at_drop rfl) (by decide) (fun KK hK => ?_) (AllHead.cons (at_drop rfl) (by decide) (fun KK hK => ?_) AllHead.nil))
              · replace hA := hA1
                obtain ⟨X1, hr1, ho1, d1⟩ := made64_any X0
                refine op_make _ _ _ rfl _ _ hr1 ?_
                have HX1 := stepB hD d1
                refine hK _ _ (hlY _ HX1) ?_
                clear hK KK
                try simp only [Act.put, List.setIfInBounds_toArray, List.set_cons_zero, List.set_cons_succ]
                have hA2 := hnext hA (rs := [2]) (i := 2) (by kernel_rfl) (by decide) (by decide)
                refine wpHead_ready (rs := [2]) (by kernel_rfl) (by decide) (AllHead.cons (at_drop rfl) (by decide) (fun KK hK => ?_) AllHead.nil)
                replace hA := hA2
                have hb2 := Nf.bys_new X1 [2]
                have d2 := bal (Below.refl X1.heap.size X1) (.cells (bvs [2]).toArray 5)
                refine op_slice _ _ 1 _ rfl (bvs [2]).toArray iu _ Tryd.underlying39 hiu hv0 (by rw [hv1]; decide) (by rw [hv1]; decide) (by rw [hv1]; kernel_rfl) ?_
                generalize X1.alloc (.cells (bvs [2]).toArray 5) = X2 at *
                have HX2 := stepB HX1 d2
                refine hK _ _ (hlY _ HX2) ?_
                clear hK KK
                try simp only [Act.put, List.setIfInBounds_toArray, List.set_cons_zero, List.set_cons_succ]
                have hA3 := hnext hA (rs := [3]) (i := 3) (by kernel_rfl) (by decide) (by decide)
                refine wpHead_ready (rs := [3]) (by kernel_rfl) (by decide) (AllHead.cons (at_drop rfl) (by decide) (fun KK hK => ?_) AllHead.nil)
                replace hA := hA3
                refine wp_append_own _ _ _ 39 rfl X0.heap.size 5 iu (.int .u8 0) 1 1 Tryd.underlying39 hiu hv0 hv1 hv2 rfl (by decide) _ 64 _ (by rfl) (ownsRow_mono (ho1.below d2) (Nat.le_refl _)) ⟨X1.heap.size, 0, none⟩ 1 1 [.int .u8 2] (by rfl) rfl (news2 hb2) (by simp [Value.oneCell']) (by unfold maxLen; omega) (by omega) (by have := d1.size; have := d2.size; omega) ?_
                intro v6 X3 ho6 hg6 _
                have d3 : Below X2.heap.size X2 X2 := Below.refl _ _
                have HB6 : Below X0.heap.size X0 X3 := (stepB d1 d2).grown hg6 (by have := d1.size; have := d2.size; omega) (fun q hq => ((ownsRow_mono (ho1.below d2) (Nat.le_refl _) : X2.ownsRow X0.heap.size 5 1 _ 64 _).lt q hq).1)
                rw [bvs65] at ho6
                obtain ⟨D6, d6, rfl, _⟩ := Ap.own_form ho6
                have HX3 := stepB hD HB6
                refine hK _ _ (hlY _ HX3) ?_
                clear hK KK
                try simp only [Act.put, List.setIfInBounds_toArray, List.set_cons_zero, List.set_cons_succ]
                have hA4 := hnext hA (rs := [4]) (i := 4) (by kernel_rfl) (by decide) (by decide)
                refine wpHead_ready (rs := [4]) (by kernel_rfl) (by decide) (AllHead.cons (at_drop rfl) (by decide) (fun KK hK => ?_) AllHead.nil)
                replace hA := hA4
                have hc15 := ex15 X3 A B C (hn5.below HX3) D6 d6 (bys_row ho6 (by rfl))
                go_simp
                refine hc15.mono ?_
                rintro r X4 ⟨rfl, d4⟩
                have HX4 := stepB HX3 d4
                refine hK _ _ (hlY _ HX4) ?_
                clear hK KK
                try simp only [Act.put, List.setIfInBounds_toArray, List.set_cons_zero, List.set_cons_succ]
                refine wpHead_take (i := 5) (v := ?_) (by kernel_rfl) hA (at_drop rfl) (by decide) (by kernel_rfl) (by kernel_rfl) (by kernel_rfl) (fun _ _ _ h => h) (Or.inl ⟨by rfl, ?_⟩) (hlY _ HX4) (fun hA => ?_)
                rotate_left
                · (intro w hSw; obtain ⟨s0, s1, s2, s3, s4⟩ := hSw.cells; go_simp <;> with_reducible rfl)
                simp only [Act.put, List.setIfInBounds_toArray, List.set_cons_zero, List.set_cons_succ]
                refine wpHead_take (i := 6) (v := ?_) (by kernel_rfl) hA (at_drop rfl) (by decide) (by kernel_rfl) (by kernel_rfl) (by kernel_rfl) (fun _ _ _ h => h) (Or.inl ⟨by rfl, ?_⟩) (hlY _ HX4) (fun hA => ?_)
                rotate_left
                · (intro w hSw; obtain ⟨s0, s1, s2, s3, s4⟩ := hSw.cells; go_simp <;> with_reducible rfl)
                simp only [Act.put, List.setIfInBounds_toArray, List.set_cons_zero, List.set_cons_succ]
                refine wpHead_take (i := 7) (v := ?_) (by kernel_rfl) hA (at_drop rfl) (by decide) (by kernel_rfl) (by kernel_rfl) (by kernel_rfl) (fun _ _ _ h => h) (Or.inl ⟨by rfl, ?_⟩) (hlY _ HX4) (fun hA => ?_)
                rotate_left
                · (intro w hSw; obtain ⟨s0, s1, s2, s3, s4⟩ := hSw.cells; go_simp <;> with_reducible rfl)
                simp only [Act.put, List.setIfInBounds_toArray, List.set_cons_zero, List.set_cons_succ]
                refine wpHead_take (i := 8) (v := ?_) (by kernel_rfl) hA (at_drop rfl) (by decide) (by kernel_rfl) (by kernel_rfl) (by kernel_rfl) (fun _ _ _ h => h) (Or.inl ⟨by rfl, ?_⟩) (hlY _ HX4) (fun hA => ?_)
                rotate_left
                · (intro w hSw; obtain ⟨s0, s1, s2, s3, s4⟩ := hSw.cells; go_simp <;> with_reducible rfl)
                simp only [Act.put, List.setIfInBounds_toArray, List.set_cons_zero, List.set_cons_succ]
                refine wpHead_end (by kernel_rfl) ?_
                simp only [List.drop_succ_cons, List.drop_zero, List.drop_nil]
                have HP := Lib.hid HX4
                clear hS0 hlY hD HX1 HX2 HX3 HX4 hA hr1 ho1 d1 d2 d3 d4 hb2 ho6 hg6 HB6 hc15
                go_wp2_with fail
                go_meet
                exact ⟨rfl, HP⟩
              · replace hA := hA2
                have hb2 := Nf.bys_new X0 [2]
                have d1 := bal (Below.refl X0.heap.size X0) (.cells (bvs [2]).toArray 5)
                refine op_slice _ _ 1 _ rfl (bvs [2]).toArray iu _ Tryd.underlying39 hiu hv0 (by rw [hv1]; decide) (by rw [hv1]; decide) (by rw [hv1]; kernel_rfl) ?_
                generalize X0.alloc (.cells (bvs [2]).toArray 5) = X1 at *
                have HX1 := stepB hD d1
                refine hK _ _ (hlY _ HX1) ?_
                clear hK KK
                try simp only [Act.put, List.setIfInBounds_toArray, List.set_cons_zero, List.set_cons_succ]
                have hA1 := hnext hA (rs := [1]) (i := 1) (by kernel_rfl) (by decide) (by decide)
                refine wpHead_ready (rs := [1]) (by kernel_rfl) (by decide) (AllHead.cons (at_drop rfl) (by decide) (fun KK hK => ?_) AllHead.nil)
                replace hA := hA1
                obtain ⟨X2, hr1, ho1, d2⟩ := made64_any X1
                refine op_make _ _ _ rfl _ _ hr1 ?_
                have HX2 := stepB HX1 d2
                refine hK _ _ (hlY _ HX2) ?_
                clear hK KK
                try simp only [Act.put, List.setIfInBounds_toArray, List.set_cons_zero, List.set_cons_succ]
                have hA3 := hnext hA (rs := [3]) (i := 3) (by kernel_rfl) (by decide) (by decide)
                refine wpHead_ready (rs := [3]) (by kernel_rfl) (by decide) (AllHead.cons (at_drop rfl) (by decide) (fun KK hK => ?_) AllHead.nil)
                replace hA := hA3
                refine wp_append_own _ _ _ 39 rfl X0.heap.size 5 iu (.int .u8 0) 1 1 Tryd.underlying39 hiu hv0 hv1 hv2 rfl (by decide) _ 64 _ (by rfl) (ownsRow_mono ho1 d1.size) ⟨X0.heap.size, 0, none⟩ 1 1 [.int .u8 2] (by rfl) rfl (news2 (hb2.below d2)) (by simp [Value.oneCell']) (by unfold maxLen; omega) (by omega) (by have := d1.size; have := d2.size; omega) ?_
                intro v6 X3 ho6 hg6 _
                have d3 : Below X2.heap.size X2 X2 := Below.refl _ _
                have HB6 : Below X0.heap.size X0 X3 := (stepB d1 d2).grown hg6 (by have := d1.size; have := d2.size; omega) (fun q hq => ((ownsRow_mono ho1 d1.size : X2.ownsRow X0.heap.size 5 1 _ 64 _).lt q hq).1)
                rw [bvs65] at ho6
                obtain ⟨D6, d6, rfl, _⟩ := Ap.own_form ho6
                have HX3 := stepB hD HB6
                refine hK _ _ (hlY _ HX3) ?_
                clear hK KK
                try simp only [Act.put, List.setIfInBounds_toArray, List.set_cons_zero, List.set_cons_succ]
                have hA4 := hnext hA (rs := [4]) (i := 4) (by kernel_rfl) (by decide) (by decide)
                refine wpHead_ready (rs := [4]) (by kernel_rfl) (by decide) (AllHead.cons (at_drop rfl) (by decide) (fun KK hK => ?_) AllHead.nil)
                replace hA := hA4
                have hc15 := ex15 X3 A B C (hn5.below HX3) D6 d6 (bys_row ho6 (by rfl))
                go_simp
                refine hc15.mono ?_
                rintro r X4 ⟨rfl, d4⟩
                have HX4 := stepB HX3 d4
                refine hK _ _ (hlY _ HX4) ?_
                clear hK KK
                try simp only [Act.put, List.setIfInBounds_toArray, List.set_cons_zero, List.set_cons_succ]
                refine wpHead_take (i := 5) (v := ?_) (by kernel_rfl) hA (at_drop rfl) (by decide) (by kernel_rfl) (by kernel_rfl) (by kernel_rfl) (fun _ _ _ h => h) (Or.inl ⟨by rfl, ?_⟩) (hlY _ HX4) (fun hA => ?_)
                rotate_left
                · (intro w hSw; obtain ⟨s0, s1, s2, s3, s4⟩ := hSw.cells; go_simp <;> with_reducible rfl)
                simp only [Act.put, List.setIfInBounds_toArray, List.set_cons_zero, List.set_cons_succ]
                refine wpHead_take (i := 6) (v := ?_) (by kernel_rfl) hA (at_drop rfl) (by decide) (by kernel_rfl) (by kernel_rfl) (by kernel_rfl) (fun _ _ _ h => h) (Or.inl ⟨by rfl, ?_⟩) (hlY _ HX4) (fun hA => ?_)
                rotate_left
                · (intro w hSw; obtain ⟨s0, s1, s2, s3, s4⟩ := hSw.cells; go_simp <;> with_reducible rfl)
                simp only [Act.put, List.setIfInBounds_toArray, List.set_cons_zero, List.set_cons_succ]
                refine wpHead_take (i := 7) (v := ?_) (by kernel_rfl) hA (at_drop rfl) (by decide) (by kernel_rfl) (by kernel_rfl) (by kernel_rfl) (fun _ _ _ h => h) (Or.inl ⟨by rfl, ?_⟩) (hlY _ HX4) (fun hA => ?_)
                rotate_left
                · (intro w hSw; obtain ⟨s0, s1, s2, s3, s4⟩ := hSw.cells; go_simp <;> with_reducible rfl)
                simp only [Act.put, List.setIfInBounds_toArray, List.set_cons_zero, List.set_cons_succ]
                refine wpHead_take (i := 8) (v := ?_) (by kernel_rfl) hA (at_drop rfl) (by decide) (by kernel_rfl) (by kernel_rfl) (by kernel_rfl) (fun _ _ _ h => h) (Or.inl ⟨by rfl, ?_⟩) (hlY _ HX4) (fun hA => ?_)
                rotate_left
                · (intro w hSw; obtain ⟨s0, s1, s2, s3, s4⟩ := hSw.cells; go_simp <;> with_reducible rfl)
                simp only [Act.put, List.setIfInBounds_toArray, List.set_cons_zero, List.set_cons_succ]
                refine wpHead_end (by kernel_rfl) ?_
                simp only [List.drop_succ_cons, List.drop_zero, List.drop_nil]
                have HP := Lib.hid HX4
                clear hS0 hlY hD HX1 HX2 HX3 HX4 hA hr1 ho1 d1 d2 d3 d4 hb2 ho6 hg6 HB6 hc15
                go_wp2_with fail
                go_meet
                exact ⟨rfl, HP⟩
            case rest =>
              obtain ⟨rfl, K7⟩ := hcut
              replace K := stepB K K7.out
              replace hn5 := hn5.below K7.out
              replace hBn := hBn.below K7.out
              clear K7
              obtain ⟨z0, z1, z2, z3, z4⟩ := hBn.cells
              have H16 : Hid (∀ W : World, NaAt W exN A B C → Calls Tryd.prog 7 #[.agg #[.int .i64 1, .int .i64 3, .slice A 1 1, .slice B 1 1, .slice C 3 3], .slice (some ⟨W.heap.size, 0, none⟩) 2 2] (W.alloc (.cells #[.int .u8 0, .int .u8 2] 5)) fun r w' => r = .returned (.tuple #[.bool false, .int .i64 1]) ∧ Below W.heap.size W w') := fun W h => by
                have hb := bal (Below.refl W.heap.size W) (.cells (bvs [0, 2]).toArray 5)
                have := ex16 (W.alloc (.cells (bvs [0, 2]).toArray 5)) A B C (h.below hb) _ 2 (Nf.bys_new W [0, 2])
                exact this.mono fun r w' h => ⟨h.1, stepB hb h.2⟩
              have H17 : Hid (∀ W : World, NaAt W exN A B C → Calls Tryd.prog 12 #[.agg #[.int .i64 1, .int .i64 3, .slice A 1 1, .slice B 1 1, .slice C 3 3], .slice (some ⟨W.heap.size, 0, none⟩) 1 1, .int .u8 2] (W.alloc (.cells #[.int .u64 1] 44)) fun r w' => r = .returned (.tuple #[.slice none 0 0, .int .i64 1]) ∧ Below W.heap.size W w') := fun W h => by
                have hb := bal (Below.refl W.heap.size W) (.cells #[.int .u64 1] 44)
                have := ex17 (W.alloc (.cells #[.int .u64 1] 44)) A B C (h.below hb) (some ⟨W.heap.size, 0, none⟩) 1
                exact this.mono fun r w' h => ⟨h.1, stepB hb h.2⟩
              have H18 := Lib.hid fun W (h : NaAt W exN A B C) => ex18 W A B C h
              have H19 := Lib.hid fun W (h : NaAt W exN A B C) => ex19 W A B C h
              have H20 := Lib.hid fun W (h : NaAt W exN A B C) => ex20 W A B C h
              have H21 := Lib.hid fun W (h : NaAt W exN A B C) => ex21 W A B C h
              have H22 : Hid (∀ W : World, NaAt W exN A B C → Calls Tryd.prog 12 #[.agg #[.int .i64 1, .int .i64 3, .slice A 1 1, .slice B 1 1, .slice C 3 3], .slice (some ⟨W.heap.size, 0, none⟩) 1 1, .int .u8 1] (W.alloc (.cells #[.int .u64 9223372036854775809] 44)) fun r w' => ∃ A' c', r = .returned (.tuple #[.slice A' 1 c', .int .i64 0]) ∧ Words w' A' [3] ∧ Below W.heap.size W w') := fun W h => by
                have hb := bal (Below.refl W.heap.size W) (.cells (uvs [9223372036854775809]).toArray 44)
                have := ex22 (W.alloc (.cells (uvs [9223372036854775809]).toArray 44)) A B C (h.below hb) (some ⟨W.heap.size, 0, none⟩) 1 (by decide) (words_new W 44 [9223372036854775809])
                exact this.mono fun r w' ⟨A', c', h1, h2, h3⟩ => ⟨A', c', h1, h2, stepB hb h3⟩
              have HEq : Hid (∀ W A' c', Words W A' [3] → Calls Tryd.prog 13 #[.slice A' 1 c', .slice (some ⟨W.heap.size, 0, none⟩) 1 1] (W.alloc (.cells #[.int .u64 3] 44)) fun r w' => r = .returned (.bool true) ∧ Below W.heap.size W w') := fun W A' c' h => by
                have hb := bal (Below.refl W.heap.size W) (.cells (uvs [3]).toArray 44)
                have := EqualSet_same A' (some ⟨W.heap.size, 0, none⟩) [3] c' 1 (W.alloc (.cells (uvs [3]).toArray 44)) (Vals.below h hb) (words_new W 44 [3]) (by decide)
                exact this.mono fun r w' ⟨h1, n, h2⟩ => ⟨h1, by subst h2; exact hb.trans ((Ap.drewN_below _ n).mono hb.size)⟩
              go_upto_region 21 with (first
                | (go_at_call 7; ((with_reducible refine (H16.out _ hn5).mono ?_); rintro r x16 ⟨rfl, hb16⟩); clear z0 z1 z2 z3 z4; replace K := stepB K hb16; replace hn5 := hn5.below hb16; replace hBn := hBn.below hb16; clear hb16; obtain ⟨z0, z1, z2, z3, z4⟩ := hBn.cells)
                | (go_at_call 12; ((with_reducible refine (H17.out _ hn5).mono ?_); rintro r x17 ⟨rfl, hb17⟩); clear z0 z1 z2 z3 z4; replace K := stepB K hb17; replace hn5 := hn5.below hb17; replace hBn := hBn.below hb17; clear hb17; obtain ⟨z0, z1, z2, z3, z4⟩ := hBn.cells)
                | (go_at_call 9; ((with_reducible refine (H18.out _ hn5).mono ?_); rintro r x18 ⟨V18, S18, A18, B18, C18, p18, a18, q18, b18, k18, c18, rfl, hb18⟩); clear z0 z1 z2 z3 z4; replace hb18 := stepB hb18 (bal (Below.refl x18.heap.size x18) (.cells #[.int .i64 V18, .int .i64 S18, .slice A18 p18 a18, .slice B18 q18 b18, .slice C18 k18 c18] 26)); replace K := stepB K hb18; replace hn5 := hn5.below hb18; replace hBn := hBn.below hb18; clear hb18; obtain ⟨z0, z1, z2, z3, z4⟩ := hBn.cells)
                | (go_at_call 9; ((with_reducible refine (H19.out _ hn5).mono ?_); rintro r x19 ⟨V19, S19, A19, B19, C19, p19, a19, q19, b19, k19, c19, rfl, hb19⟩); clear z0 z1 z2 z3 z4; replace hb19 := stepB hb19 (bal (Below.refl x19.heap.size x19) (.cells #[.int .i64 V19, .int .i64 S19, .slice A19 p19 a19, .slice B19 q19 b19, .slice C19 k19 c19] 26)); replace K := stepB K hb19; replace hn5 := hn5.below hb19; replace hBn := hBn.below hb19; clear hb19; obtain ⟨z0, z1, z2, z3, z4⟩ := hBn.cells)
                | (go_at_call 9; ((with_reducible refine (H20.out _ hn5).mono ?_); rintro r x20 ⟨V20, S20, A20, B20, C20, p20, a20, q20, b20, k20, c20, rfl, hb20⟩); clear z0 z1 z2 z3 z4; replace hb20 := stepB hb20 (bal (Below.refl x20.heap.size x20) (.cells #[.int .i64 V20, .int .i64 S20, .slice A20 p20 a20, .slice B20 q20 b20, .slice C20 k20 c20] 26)); replace K := stepB K hb20; replace hn5 := hn5.below hb20; replace hBn := hBn.below hb20; clear hb20; obtain ⟨z0, z1, z2, z3, z4⟩ := hBn.cells))
              clear H16 H17 H18 H19 H20
              generalize hYY : x20.alloc (.cells #[.int .i64 V20, .int .i64 S20, .slice A20 p20 a20, .slice B20 q20 b20, .slice C20 k20 c20] 26) = w12 at *
              clear hYY z0 z1 z2 z3 z4
              go_cut [26, 27] from 200 to 205 (fun _ t wx => t = .int .i64 4 ∧ Hid (Below w12.heap.size w12 wx))
              case first =>
                refine wp_region_any (by kernel_rfl) ?_
                change wpAny _ _ _ _ _ _ _ (World.drew _)
                have hS0 : (fun X : World => Boxed5 X bn (.int .i64 1) (.int .i64 3) (.slice A 1 1) (.slice B 1 1) (.slice C 3 3)) w12.drew := hBn.below (drew_below w12)
                have hlY : ∀ Y : World, Below w12.heap.size w12 Y → (fun X : World => Boxed5 X bn (.int .i64 1) (.int .i64 3) (.slice A 1 1) (.slice B 1 1) (.slice C 3 3)) Y := fun Y hY => hBn.below hY
                have hD : Below w12.heap.size w12 w12.drew := drew_below w12
                generalize w12.drew = X0 at *
                refine wpAny_head 9 9 (fun X : World => Boxed5 X bn (.int .i64 1) (.int .i64 3) (.slice A 1 1) (.slice B 1 1) (.slice C 3 3)) rfl rfl (by kernel_rfl) (by kernel_rfl) (by kernel_rfl) (fun hA => ?_)
                refine wpHead_take (i := 2) (v := ?_) (by kernel_rfl) hA (at_drop rfl) (by decide) (by kernel_rfl) (by kernel_rfl) (by kernel_rfl) (fun _ _ _ h => h) (Or.inl ⟨by rfl, ?_⟩) hS0 (fun hA => ?_)
                rotate_left
                · (intro w hSw; obtain ⟨s0, s1, s2, s3, s4⟩ := hSw.cells; go_simp <;> with_reducible rfl)
                simp only [Act.put, List.setIfInBounds_toArray, List.set_cons_zero, List.set_cons_succ]
                have hA0 := hnext hA (rs := [0, 7]) (i := 0) (by kernel_rfl) (by decide) (by decide)
                have hA7 := hnext hA (rs := [0, 7]) (i := 7) (by kernel_rfl) (by decide) (by decide)
                refine wpHead_ready (rs := [0, 7]) (by kernel_rfl) (by decide) (AllHead.cons (at_drop rfl) (by decide) (fun KK hK => ?_) (AllHead.cons (at_drop rfl) (by decide) (fun KK hK => ?_) AllHead.nil))
                · replace hA := hA0
                  have hr1 := made510 X0
                  have hE := eds_made X0 510
                  have d1 := bal (Below.refl X0.heap.size X0) (.cells (madeCells zEdge (510 * 4)) 30)
                  refine op_make _ _ _ rfl _ _ hr1 ?_
                  clear hr1
                  generalize (World.alloc X0 (.cells (madeCells zEdge (510 * 4)) 30)) = X1 at *
                  have HX1 := stepB hD d1
                  refine hK _ _ (hlY _ HX1) ?_
                  clear hK KK
                  try simp only [Act.put, List.setIfInBounds_toArray, List.set_cons_zero, List.set_cons_succ]
                  refine wpHead_take (i := 1) (v := ?_) (by kernel_rfl) hA (at_drop rfl) (by decide) (by kernel_rfl) (by kernel_rfl) (by kernel_rfl) (fun _ _ _ h => h) (Or.inl ⟨by rfl, ?_⟩) (hlY _ HX1) (fun hA => ?_)
                  rotate_left
                  · (intro w hSw; obtain ⟨s0, s1, s2, s3, s4⟩ := hSw.cells; go_simp <;> with_reducible rfl)
                  simp only [Act.put, List.setIfInBounds_toArray, List.set_cons_zero, List.set_cons_succ]
                  have hA3 := hnext hA (rs := [3, 7]) (i := 3) (by kernel_rfl) (by decide) (by decide)
                  have hA7 := hnext hA (rs := [3, 7]) (i := 7) (by kernel_rfl) (by decide) (by decide)
                  refine wpHead_ready (rs := [3, 7]) (by kernel_rfl) (by decide) (AllHead.cons (at_drop rfl) (by decide) (fun KK hK => ?_) (AllHead.cons (at_drop rfl) (by decide) (fun KK hK => ?_) AllHead.nil))
                  · replace hA := hA3
                    have hc21 := H21.out X1 (hn5.below HX1) _ 510 hE
                    go_simp
                    refine hc21.mono ?_
                    clear hc21
                    rintro r X2 ⟨V1, S1, A1, B1, C1, p1, a1, q1, b1, k1, c1, rfl, d2⟩
                    have HX2 := stepB HX1 d2
                    refine hK _ _ (hlY _ HX2) ?_
                    clear hK KK
                    try simp only [Act.put, List.setIfInBounds_toArray, List.set_cons_zero, List.set_cons_succ]
                    refine wpHead_take (i := 4) (v := ?_) (by kernel_rfl) hA (at_drop rfl) (by decide) (by kernel_rfl) (by kernel_rfl) (by kernel_rfl) (fun _ _ _ h => h) (Or.inl ⟨by rfl, ?_⟩) (hlY _ HX2) (fun hA => ?_)
                    rotate_left
                    · (intro w hSw; obtain ⟨s0, s1, s2, s3, s4⟩ := hSw.cells; go_simp <;> with_reducible rfl)
                    simp only [Act.put, List.setIfInBounds_toArray, List.set_cons_zero, List.set_cons_succ]
                    refine wpHead_take (i := 5) (v := ?_) (by kernel_rfl) hA (at_drop rfl) (by decide) (by kernel_rfl) (by kernel_rfl) (by kernel_rfl) (fun _ _ _ h => h) (Or.inl ⟨by rfl, ?_⟩) (hlY _ HX2) (fun hA => ?_)
                    rotate_left
                    · (intro w hSw; obtain ⟨s0, s1, s2, s3, s4⟩ := hSw.cells; go_simp <;> with_reducible rfl)
                    simp only [Act.put, List.setIfInBounds_toArray, List.set_cons_zero, List.set_cons_succ]
                    refine wpHead_take (i := 6) (v := ?_) (by kernel_rfl) hA (at_drop rfl) (by decide) (by kernel_rfl) (by kernel_rfl) (by kernel_rfl) (fun _ _ _ h => h) (Or.inl ⟨by rfl, ?_⟩) (hlY _ HX2) (fun hA => ?_)
                    rotate_left
                    · (intro w hSw; obtain ⟨s0, s1, s2, s3, s4⟩ := hSw.cells; go_simp <;> with_reducible rfl)
                    simp only [Act.put, List.setIfInBounds_toArray, List.set_cons_zero, List.set_cons_succ]
                    have hA7 := hnext hA (rs := [7]) (i := 7) (by kernel_rfl) (by decide) (by decide)
                    refine wpHead_ready (rs := [7]) (by kernel_rfl) (by decide) (AllHead.cons (at_drop rfl) (by decide) (fun KK hK => ?_) AllHead.nil)
                    replace hA := hA7
                    go_simp
                    have d3 := bal (Below.refl X2.heap.size X2) (.cells #[.int .i64 0, .int .i64 0, .slice none 0 0, .slice none 0 0, .slice none 0 0] 26)
                    have r3 := Blk.new X2 (.int .i64 0) (.int .i64 0) (.slice none 0 0) (.slice none 0 0) (.slice none 0 0)
                    generalize (World.alloc X2 (.cells #[.int .i64 0, .int .i64 0, .slice none 0 0, .slice none 0 0, .slice none 0 0] 26)) = X3 at *
                    have HX3 := stepB HX2 d3
                    refine hK _ _ (hlY _ HX3) ?_
                    clear hK KK
                    try simp only [Act.put, List.setIfInBounds_toArray, List.set_cons_zero, List.set_cons_succ]
                    have hA8 := hnext hA (rs := [8]) (i := 8) (by kernel_rfl) (by decide) (by decide)
                    refine wpHead_ready (rs := [8]) (by kernel_rfl) (by decide) (AllHead.cons (at_drop rfl) (by decide) (fun KK hK => ?_) AllHead.nil)
                    replace hA := hA8
                    obtain ⟨⟨q0, f0⟩, ⟨q1', f1⟩, ⟨q2, f2⟩, ⟨q3, f3⟩, ⟨q4, f4⟩, hR5, hB5, _⟩ := store5 r3 (.int .i64 V1) (.int .i64 S1) (.slice A1 p1 a1) (.slice B1 q1 b1) (.slice C1 k1 c1)
                    have HXS := HX3.trans (hB5 w12.heap.size HX2.size)
                    have HP := Lib.hid HXS
                    unfold put5 at HXS HP
                    go_simp
                    refine hK _ _ (hlY _ HXS) ?_
                    clear hK KK HXS
                    try simp only [Act.put, List.setIfInBounds_toArray, List.set_cons_zero, List.set_cons_succ]
                    clear hR5 hB5 hS0 hlY hD HX1 HX2 HX3 hA d1 d2 d3 r3 hE H21 H22 HEq q0 f0 q1' f1 q2 f2 q3 f3 q4 f4
                    refine wpHead_end (by kernel_rfl) ?_
                    simp only [List.drop_succ_cons, List.drop_zero]
                    generalize X2.heap.size = b3 at *
                    go_wp2_with fail
                    go_meet
                    exact ⟨rfl, HP⟩
                  · replace hA := hA7
                    go_simp
                    have d2 := bal (Below.refl X1.heap.size X1) (.cells #[.int .i64 0, .int .i64 0, .slice none 0 0, .slice none 0 0, .slice none 0 0] 26)
                    have r3 := Blk.new X1 (.int .i64 0) (.int .i64 0) (.slice none 0 0) (.slice none 0 0) (.slice none 0 0)
                    generalize (World.alloc X1 (.cells #[.int .i64 0, .int .i64 0, .slice none 0 0, .slice none 0 0, .slice none 0 0] 26)) = X2 at *
                    have HX2 := stepB HX1 d2
                    refine hK _ _ (hlY _ HX2) ?_
                    clear hK KK
                    try simp only [Act.put, List.setIfInBounds_toArray, List.set_cons_zero, List.set_cons_succ]
                    have hA3 := hnext hA (rs := [3]) (i := 3) (by kernel_rfl) (by decide) (by decide)
                    refine wpHead_ready (rs := [3]) (by kernel_rfl) (by decide) (AllHead.cons (at_drop rfl) (by decide) (fun KK hK => ?_) AllHead.nil)
                    replace hA := hA3
                    have hc21 := H21.out X2 (hn5.below HX2) _ 510 (hE.below d2)
                    go_simp
                    refine hc21.mono ?_
                    clear hc21
                    rintro r X3 ⟨V1, S1, A1, B1, C1, p1, a1, q1, b1, k1, c1, rfl, d3⟩
                    have HX3 := stepB HX2 d3
                    refine hK _ _ (hlY _ HX3) ?_
                    clear hK KK
                    try simp only [Act.put, List.setIfInBounds_toArray, List.set_cons_zero, List.set_cons_succ]
                    refine wpHead_take (i := 4) (v := ?_) (by kernel_rfl) hA (at_drop rfl) (by decide) (by kernel_rfl) (by kernel_rfl) (by kernel_rfl) (fun _ _ _ h => h) (Or.inl ⟨by rfl, ?_⟩) (hlY _ HX3) (fun hA => ?_)
                    rotate_left
                    · (intro w hSw; obtain ⟨s0, s1, s2, s3, s4⟩ := hSw.cells; go_simp <;> with_reducible rfl)
                    simp only [Act.put, List.setIfInBounds_toArray, List.set_cons_zero, List.set_cons_succ]
                    refine wpHead_take (i := 5) (v := ?_) (by kernel_rfl) hA (at_drop rfl) (by decide) (by kernel_rfl) (by kernel_rfl) (by kernel_rfl) (fun _ _ _ h => h) (Or.inl ⟨by rfl, ?_⟩) (hlY _ HX3) (fun hA => ?_)
                    rotate_left
                    · (intro w hSw; obtain ⟨s0, s1, s2, s3, s4⟩ := hSw.cells; go_simp <;> with_reducible rfl)
                    simp only [Act.put, List.setIfInBounds_toArray, List.set_cons_zero, List.set_cons_succ]
                    refine wpHead_take (i := 6) (v := ?_) (by kernel_rfl) hA (at_drop rfl) (by decide) (by kernel_rfl) (by kernel_rfl) (by kernel_rfl) (fun _ _ _ h => h) (Or.inl ⟨by rfl, ?_⟩) (hlY _ HX3) (fun hA => ?_)
                    rotate_left
                    · (intro w hSw; obtain ⟨s0, s1, s2, s3, s4⟩ := hSw.cells; go_simp <;> with_reducible rfl)
                    simp only [Act.put, List.setIfInBounds_toArray, List.set_cons_zero, List.set_cons_succ]
                    have hA8 := hnext hA (rs := [8]) (i := 8) (by kernel_rfl) (by decide) (by decide)
                    refine wpHead_ready (rs := [8]) (by kernel_rfl) (by decide) (AllHead.cons (at_drop rfl) (by decide) (fun KK hK => ?_) AllHead.nil)
                    replace hA := hA8
                    obtain ⟨⟨q0, f0⟩, ⟨q1', f1⟩, ⟨q2, f2⟩, ⟨q3, f3⟩, ⟨q4, f4⟩, hR5, hB5, _⟩ := store5 (r3.below d3) (.int .i64 V1) (.int .i64 S1) (.slice A1 p1 a1) (.slice B1 q1 b1) (.slice C1 k1 c1)
                    have HXS := HX3.trans (hB5 w12.heap.size HX1.size)
                    have HP := Lib.hid HXS
                    unfold put5 at HXS HP
                    go_simp
                    refine hK _ _ (hlY _ HXS) ?_
                    clear hK KK HXS
                    try simp only [Act.put, List.setIfInBounds_toArray, List.set_cons_zero, List.set_cons_succ]
                    clear hR5 hB5 hS0 hlY hD HX1 HX2 HX3 hA d1 d2 d3 r3 hE H21 H22 HEq q0 f0 q1' f1 q2 f2 q3 f3 q4 f4
                    refine wpHead_end (by kernel_rfl) ?_
                    simp only [List.drop_succ_cons, List.drop_zero]
                    generalize X1.heap.size = b3 at *
                    go_wp2_with fail
                    go_meet
                    exact ⟨rfl, HP⟩
                · replace hA := hA7
                  go_simp
                  have d1 := bal (Below.refl X0.heap.size X0) (.cells #[.int .i64 0, .int .i64 0, .slice none 0 0, .slice none 0 0, .slice none 0 0] 26)
                  have r3 := Blk.new X0 (.int .i64 0) (.int .i64 0) (.slice none 0 0) (.slice none 0 0) (.slice none 0 0)
                  generalize (World.alloc X0 (.cells #[.int .i64 0, .int .i64 0, .slice none 0 0, .slice none 0 0, .slice none 0 0] 26)) = X1 at *
                  have HX1 := stepB hD d1
                  refine hK _ _ (hlY _ HX1) ?_
                  clear hK KK
                  try simp only [Act.put, List.setIfInBounds_toArray, List.set_cons_zero, List.set_cons_succ]
                  have hA0 := hnext hA (rs := [0]) (i := 0) (by kernel_rfl) (by decide) (by decide)
                  refine wpHead_ready (rs := [0]) (by kernel_rfl) (by decide) (AllHead.cons (at_drop rfl) (by decide) (fun KK hK => ?_) AllHead.nil)
                  replace hA := hA0
                  have hr1 := made510 X1
                  have hE := eds_made X1 510
                  have d2 := bal (Below.refl X1.heap.size X1) (.cells (madeCells zEdge (510 * 4)) 30)
                  refine op_make _ _ _ rfl _ _ hr1 ?_
                  clear hr1
                  generalize (World.alloc X1 (.cells (madeCells zEdge (510 * 4)) 30)) = X2 at *
                  have HX2 := stepB HX1 d2
                  refine hK _ _ (hlY _ HX2) ?_
                  clear hK KK
                  try simp only [Act.put, List.setIfInBounds_toArray, List.set_cons_zero, List.set_cons_succ]
                  refine wpHead_take (i := 1) (v := ?_) (by kernel_rfl) hA (at_drop rfl) (by decide) (by kernel_rfl) (by kernel_rfl) (by kernel_rfl) (fun _ _ _ h => h) (Or.inl ⟨by rfl, ?_⟩) (hlY _ HX2) (fun hA => ?_)
                  rotate_left
                  · (intro w hSw; obtain ⟨s0, s1, s2, s3, s4⟩ := hSw.cells; go_simp <;> with_reducible rfl)
                  simp only [Act.put, List.setIfInBounds_toArray, List.set_cons_zero, List.set_cons_succ]
                  have hA3 := hnext hA (rs := [3]) (i := 3) (by kernel_rfl) (by decide) (by decide)
                  refine wpHead_ready (rs := [3]) (by kernel_rfl) (by decide) (AllHead.cons (at_drop rfl) (by decide) (fun KK hK => ?_) AllHead.nil)
                  replace hA := hA3
                  have hc21 := H21.out X2 (hn5.below HX2) _ 510 hE
                  go_simp
                  refine hc21.mono ?_
                  clear hc21
                  rintro r X3 ⟨V1, S1, A1, B1, C1, p1, a1, q1, b1, k1, c1, rfl, d3⟩
                  have HX3 := stepB HX2 d3
                  refine hK _ _ (hlY _ HX3) ?_
                  clear hK KK
                  try simp only [Act.put, List.setIfInBounds_toArray, List.set_cons_zero, List.set_cons_succ]
                  refine wpHead_take (i := 4) (v := ?_) (by kernel_rfl) hA (at_drop rfl) (by decide) (by kernel_rfl) (by kernel_rfl) (by kernel_rfl) (fun _ _ _ h => h) (Or.inl ⟨by rfl, ?_⟩) (hlY _ HX3) (fun hA => ?_)
                  rotate_left
                  · (intro w hSw; obtain ⟨s0, s1, s2, s3, s4⟩ := hSw.cells; go_simp <;> with_reducible rfl)
                  simp only [Act.put, List.setIfInBounds_toArray, List.set_cons_zero, List.set_cons_succ]
                  refine wpHead_take (i := 5) (v := ?_) (by kernel_rfl) hA (at_drop rfl) (by decide) (by kernel_rfl) (by kernel_rfl) (by kernel_rfl) (fun _ _ _ h => h) (Or.inl ⟨by rfl, ?_⟩) (hlY _ HX3) (fun hA => ?_)
                  rotate_left
                  · (intro w hSw; obtain ⟨s0, s1, s2, s3, s4⟩ := hSw.cells; go_simp <;> with_reducible rfl)
                  simp only [Act.put, List.setIfInBounds_toArray, List.set_cons_zero, List.set_cons_succ]
                  refine wpHead_take (i := 6) (v := ?_) (by kernel_rfl) hA (at_drop rfl) (by decide) (by kernel_rfl) (by kernel_rfl) (by kernel_rfl) (fun _ _ _ h => h) (Or.inl ⟨by rfl, ?_⟩) (hlY _ HX3) (fun hA => ?_)
                  rotate_left
                  · (intro w hSw; obtain ⟨s0, s1, s2, s3, s4⟩ := hSw.cells; go_simp <;> with_reducible rfl)
                  simp only [Act.put, List.setIfInBounds_toArray, List.set_cons_zero, List.set_cons_succ]
                  have hA8 := hnext hA (rs := [8]) (i := 8) (by kernel_rfl) (by decide) (by decide)
                  refine wpHead_ready (rs := [8]) (by kernel_rfl) (by decide) (AllHead.cons (at_drop rfl) (by decide) (fun KK hK => ?_) AllHead.nil)
                  replace hA := hA8
                  obtain ⟨⟨q0, f0⟩, ⟨q1', f1⟩, ⟨q2, f2⟩, ⟨q3, f3⟩, ⟨q4, f4⟩, hR5, hB5, _⟩ := store5 ((r3.below d2).below d3) (.int .i64 V1) (.int .i64 S1) (.slice A1 p1 a1) (.slice B1 q1 b1) (.slice C1 k1 c1)
                  have HXS := HX3.trans (hB5 w12.heap.size hD.size)
                  have HP := Lib.hid HXS
                  unfold put5 at HXS HP
                  go_simp
                  refine hK _ _ (hlY _ HXS) ?_
                  clear hK KK HXS
                  try simp only [Act.put, List.setIfInBounds_toArray, List.set_cons_zero, List.set_cons_succ]
                  clear hR5 hB5 hS0 hlY hD HX1 HX2 HX3 hA d1 d2 d3 r3 hE H21 H22 HEq q0 f0 q1' f1 q2 f2 q3 f3 q4 f4
                  refine wpHead_end (by kernel_rfl) ?_
                  simp only [List.drop_succ_cons, List.drop_zero]
                  generalize X0.heap.size = b3 at *
                  go_wp2_with fail
                  go_meet
                  exact ⟨rfl, HP⟩
              case rest =>
                obtain ⟨rfl, K12⟩ := hcut
                replace K := stepB K K12.out
                replace hn5 := hn5.below K12.out
                replace hBn := hBn.below K12.out
                clear K12 H21
                obtain ⟨z0, z1, z2, z3, z4⟩ := hBn.cells
                go_wp2_with (first
                  | (go_at_call 12; ((with_reducible refine (H22.out _ hn5).mono ?_); rintro r x22 ⟨A22, c22, rfl, hw22, hb22⟩); clear z0 z1 z2 z3 z4; replace K := stepB K hb22; clear hb22)
                  | (go_at_call 13; ((with_reducible refine (HEq.out _ _ _ hw22).mono ?_); rintro r x23 ⟨rfl, hb23⟩)))
                go_ret
                exact ⟨rfl, stepB K hb23⟩
          · have hk15 : k < rowsX.length := by show k < 15; omega
            obtain ⟨⟨n, e⟩, hrow⟩ : ∃ x, rowsX[k]? = some x := ⟨_, List.getElem?_eq_getElem hk15⟩
            obtain ⟨A, B, C, a, b, c, hN, q0, q1, q2, q3, q4, q5⟩ := HP.out k n e hrow
            obtain ⟨hc, hu1, hu2, hl, hw0⟩ := rowsX_at hrow
            have hlb : (ad.add (k * 6)).block < W.heap.size := by rw [addr_block]; exact hlt
            have r0 := (Below.cell hbX (p := ad.add (k * 6)) hlb).trans q0
            have r1 := (Below.cell hbX (p := ⟨(ad.add (k * 6)).block, (ad.add (k * 6)).off + 1, none⟩) hlb).trans q1
            have r2 := (Below.cell hbX (p := ⟨(ad.add (k * 6)).block, (ad.add (k * 6)).off + 2, none⟩) hlb).trans q2
            have r3 := (Below.cell hbX (p := ⟨(ad.add (k * 6)).block, (ad.add (k * 6)).off + 3, none⟩) hlb).trans q3
            have r4 := (Below.cell hbX (p := ⟨(ad.add (k * 6)).block, (ad.add (k * 6)).off + 4, none⟩) hlb).trans q4
            have r5 := (Below.cell hbX (p := ⟨(ad.add (k * 6)).block, (ad.add (k * 6)).off + 5, none⟩) hlb).trans q5
            clear q0 q1 q2 q3 q4 q5 HP hrow
            have hk2 : k < 15 := by omega
            have hx := hN.below hbX
            have hTr : Tab wr := HT.out.below (stepB KTW hbX)
            have HZ : ∀ X : World, NaAt X ⟨0, 0, [], [], []⟩ none none none := fun X => ⟨by constructor <;> decide, by constructor <;> decide, fun j hj => absurd hj (Nat.not_lt_zero j), fun j hj => absurd hj (Nat.not_lt_zero j), fun j hj => absurd hj (Nat.not_lt_zero j)⟩
            have HA : Hid (∀ X, Below wr.heap.size wr X → Calls Tryd.prog 7 #[.agg #[.int .i64 n.V, .int .i64 n.S, .slice A n.st.length a, .slice B n.fi.length b, .slice C n.es.length c], .slice none 0 0] X fun r w' => ∃ g, r = .returned (.tuple #[.bool g, .int .i64 e]) ∧ Below X.heap.size X w') := fun X hX => by
              have := AcceptsT_any n A B C a b c X (hx.below hX) hl none [] 0 (fun j hj => absurd hj (Nat.not_lt_zero j)) (fun y hy => by cases hy) (by decide)
              rw [hw0] at this
              exact this.mono fun r w' h => ⟨_, h⟩
            have HTm : Hid (∀ X, Below wr.heap.size wr X → Calls Tryd.prog 8 #[.agg #[.int .i64 n.V, .int .i64 n.S, .slice A n.st.length a, .slice B n.fi.length b, .slice C n.es.length c]] X fun r w' => ∃ (V S : Int) (A' B' C' : Option Addr) (p a' q b' k c' : Nat), r = .returned (.tuple #[.agg #[.int .i64 V, .int .i64 S, .slice A' p a', .slice B' q b', .slice C' k c'], .int .i64 e]) ∧ Below X.heap.size X w') := fun X hX => by
              have := Trim_ex n A B C a b c X (hx.below hX) hl (hTr.below hX)
              rw [hc] at this
              exact this
            have HU1 := Lib.hid fun X (hX : Below wr.heap.size wr X) => Union_ex n ⟨0, 0, [], [], []⟩ A B C none none none a b c 0 0 0 X (hx.below hX) hl (HZ X) ⟨by decide, by decide, by decide⟩
            have HU2 := Lib.hid fun X (hX : Below wr.heap.size wr X) => Union_ex ⟨0, 0, [], [], []⟩ n none none none A B C 0 0 0 a b c X (HZ X) ⟨by decide, by decide, by decide⟩ (hx.below hX) hl
            have HC : Hid (∀ X, Below wr.heap.size wr X → Calls Tryd.prog 10 #[.agg #[.int .i64 n.V, .int .i64 n.S, .slice A n.st.length a, .slice B n.fi.length b, .slice C n.es.length c]] X fun r w' => r = .returned (.int .i64 e) ∧ Below X.heap.size X w') := fun X h => by
              have := Check6_any n A B C a b c X (hx.below h) hl
              rwa [hc] at this
            clear hN hx hc hl hw0 hTr HZ
            generalize uniE n ⟨0, 0, [], [], []⟩ = u1 at *
            generalize uniE ⟨0, 0, [], [], []⟩ n = u2 at *
            simp only [List.length_nil] at HU1 HU2
            go_upto_region 6 with fail
            have K9 : Hid (Below wr.heap.size wr (wr.alloc (.cells #[.int .i64 n.V, .int .i64 n.S, .slice A n.st.length a, .slice B n.fi.length b, .slice C n.es.length c, .int .i64 e] 28))) := bal (Below.refl _ _) _
            have c0 : (wr.alloc (.cells #[.int .i64 n.V, .int .i64 n.S, .slice A n.st.length a, .slice B n.fi.length b, .slice C n.es.length c, .int .i64 e] 28)).cell? ⟨wr.heap.size, 0, none⟩ = some (.int .i64 n.V) := by rw [World.cell?_alloc_at _ _ _ _ rfl]; rfl
            have c1 : (wr.alloc (.cells #[.int .i64 n.V, .int .i64 n.S, .slice A n.st.length a, .slice B n.fi.length b, .slice C n.es.length c, .int .i64 e] 28)).cell? ⟨wr.heap.size, 1, none⟩ = some (.int .i64 n.S) := by rw [World.cell?_alloc_at _ _ _ _ rfl]; rfl
            have c2 : (wr.alloc (.cells #[.int .i64 n.V, .int .i64 n.S, .slice A n.st.length a, .slice B n.fi.length b, .slice C n.es.length c, .int .i64 e] 28)).cell? ⟨wr.heap.size, 2, none⟩ = some (.slice A n.st.length a) := by rw [World.cell?_alloc_at _ _ _ _ rfl]; rfl
            have c3 : (wr.alloc (.cells #[.int .i64 n.V, .int .i64 n.S, .slice A n.st.length a, .slice B n.fi.length b, .slice C n.es.length c, .int .i64 e] 28)).cell? ⟨wr.heap.size, 3, none⟩ = some (.slice B n.fi.length b) := by rw [World.cell?_alloc_at _ _ _ _ rfl]; rfl
            have c4 : (wr.alloc (.cells #[.int .i64 n.V, .int .i64 n.S, .slice A n.st.length a, .slice B n.fi.length b, .slice C n.es.length c, .int .i64 e] 28)).cell? ⟨wr.heap.size, 4, none⟩ = some (.slice C n.es.length c) := by rw [World.cell?_alloc_at _ _ _ _ rfl]; rfl
            have c5 : (wr.alloc (.cells #[.int .i64 n.V, .int .i64 n.S, .slice A n.st.length a, .slice B n.fi.length b, .slice C n.es.length c, .int .i64 e] 28)).cell? ⟨wr.heap.size, 5, none⟩ = some (.int .i64 e) := by rw [World.cell?_alloc_at _ _ _ _ rfl]; rfl
            have hs9 : wr.heap.size < (wr.alloc (.cells #[.int .i64 n.V, .int .i64 n.S, .slice A n.st.length a, .slice B n.fi.length b, .slice C n.es.length c, .int .i64 e] 28)).heap.size := by rw [World.size_alloc]; omega
            clear r0 r1 r2 r3 r4 r5 hlb
            generalize wr.alloc (.cells #[.int .i64 n.V, .int .i64 n.S, .slice A n.st.length a, .slice B n.fi.length b, .slice C n.es.length c, .int .i64 e] 28) = w9 at *
            have HQ : Hid (∀ X, Below w9.heap.size w9 X → X.cell? ⟨wr.heap.size, 0, none⟩ = some (.int .i64 n.V) ∧ X.cell? ⟨wr.heap.size, 1, none⟩ = some (.int .i64 n.S) ∧ X.cell? ⟨wr.heap.size, 2, none⟩ = some (.slice A n.st.length a) ∧ X.cell? ⟨wr.heap.size, 3, none⟩ = some (.slice B n.fi.length b) ∧ X.cell? ⟨wr.heap.size, 4, none⟩ = some (.slice C n.es.length c) ∧ X.cell? ⟨wr.heap.size, 5, none⟩ = some (.int .i64 e)) := fun X h => ⟨(Below.cell h hs9).trans c0, (Below.cell h hs9).trans c1, (Below.cell h hs9).trans c2, (Below.cell h hs9).trans c3, (Below.cell h hs9).trans c4, (Below.cell h hs9).trans c5⟩
            clear hs9
            go_upto_region 10 with (first
              | (go_at_call 7; ((with_reducible refine (HA.out _ K9.out).mono ?_); rintro r wA ⟨g, rfl, hb5⟩); have K := hb5; clear c0 c1 c2 c3 c4 c5 hb5 HA; obtain ⟨c0, c1, c2, c3, c4, c5⟩ := HQ.out _ K)
              | (go_at_call 8; ((with_reducible refine (HTm.out _ (stepB K9.out K)).mono ?_); rintro r wB ⟨V6, S6, A6, B6, C6, p6, a6, q6, b6, k6, c6, rfl, hb6⟩); replace K := stepB (stepB K hb6) (bal (Below.refl wB.heap.size wB) (.cells #[.int .i64 V6, .int .i64 S6, .slice A6 p6 a6, .slice B6 q6 b6, .slice C6 k6 c6] 26)); clear c0 c1 c2 c3 c4 c5 hb6 HTm; obtain ⟨c0, c1, c2, c3, c4, c5⟩ := HQ.out _ K)
              | (go_at_call 9; ((with_reducible refine (HU1.out _ (stepB K9.out K)).mono ?_); rintro r wC ⟨V7, S7, A7, B7, C7, p7, a7, q7, b7, k7, c7, rfl, hb7⟩); replace K := stepB (stepB K hb7) (bal (Below.refl wC.heap.size wC) (.cells #[.int .i64 V7, .int .i64 S7, .slice A7 p7 a7, .slice B7 q7 b7, .slice C7 k7 c7] 26)); clear c0 c1 c2 c3 c4 c5 hb7 HU1; obtain ⟨c0, c1, c2, c3, c4, c5⟩ := HQ.out _ K)
              | (go_at_call 9; ((with_reducible refine (HU2.out _ (stepB K9.out K)).mono ?_); rintro r wD ⟨V8, S8, A8, B8, C8, p8, a8, q8, b8, k8, c8, rfl, hb8⟩); replace K := stepB (stepB K hb8) (bal (Below.refl wD.heap.size wD) (.cells #[.int .i64 V8, .int .i64 S8, .slice A8 p8 a8, .slice B8 q8 b8, .slice C8 k8 c8] 26)); clear c0 c1 c2 c3 c4 c5 hb8 HU2))
            have d0 : ∀ r : Cls (fun X => Below w9.heap.size w9 X), r.w.cell? ⟨wr.heap.size, 0, none⟩ = some (.int .i64 n.V) := fun r => (HQ.out _ r.h).1
            have d1 : ∀ r : Cls (fun X => Below w9.heap.size w9 X), r.w.cell? ⟨wr.heap.size, 1, none⟩ = some (.int .i64 n.S) := fun r => (HQ.out _ r.h).2.1
            have d2 : ∀ r : Cls (fun X => Below w9.heap.size w9 X), r.w.cell? ⟨wr.heap.size, 2, none⟩ = some (.slice A n.st.length a) := fun r => (HQ.out _ r.h).2.2.1
            have d3 : ∀ r : Cls (fun X => Below w9.heap.size w9 X), r.w.cell? ⟨wr.heap.size, 3, none⟩ = some (.slice B n.fi.length b) := fun r => (HQ.out _ r.h).2.2.2.1
            have d4 : ∀ r : Cls (fun X => Below w9.heap.size w9 X), r.w.cell? ⟨wr.heap.size, 4, none⟩ = some (.slice C n.es.length c) := fun r => (HQ.out _ r.h).2.2.2.2.1
            have d5 : ∀ r : Cls (fun X => Below w9.heap.size w9 X), r.w.cell? ⟨wr.heap.size, 5, none⟩ = some (.int .i64 e) := fun r => (HQ.out _ r.h).2.2.2.2.2
            have G1 := Lib.hid fun X (hX : Below w9.heap.size w9 X) => HC.out X (stepB K9.out hX)
            have q1 : (e != e) = false := by simp
            clear HC HQ HAw
            generalize hWW : wD.alloc (.cells #[.int .i64 V8, .int .i64 S8, .slice A8 p8 a8, .slice B8 q8 b8, .slice C8 k8 c8] 26) = WW at *
            clear hWW
            haveI : Nonempty (Cls (fun X => Below w9.heap.size w9 X)) := ⟨⟨w9, Below.refl _ _⟩⟩
            have hdr : Below w9.heap.size w9 WW.drew := stepB K (drew_below WW)
            have KF : Hid (∀ X, Below w9.heap.size w9 X → Below W.heap.size W X) := fun X hX => stepB (stepB hbX K9.out) hX
            by_cases he0 : e = 0
            · subst he0
              have q2 : ((0 : Int) != 0) = false := by rfl
              clear hu1 hu2
              refine wp_region_cls (fun X => Below w9.heap.size w9 X) (by kernel_rfl) (by kernel_rfl) hdr ?_
              repeat (go_big_quiet_step (first | (go_at_call 10; rename_i r; (with_reducible refine (G1.out r.w r.h).mono ?_); rintro e5 w5 ⟨rfl, hb9⟩; exact ⟨rfl, ⟨⟨w5, stepB r.h hb9⟩, rfl⟩⟩)))
              refine wpQuiet_nil ?_
              rintro _ ⟨⟨X, hX⟩, rfl⟩
              clear d0 d1 d2 d3 d4 d5
              go_wp2
              go_roundw
              case rel => exact ⟨k + 1, by omega, by go_num, KF.out _ hX⟩
              case measure => simp [intOf]; omega
            · have q2 : (e != 0) = true := by rw [bne_iff_ne]; exact he0
              obtain rfl : u1 = e := hu1.resolve_right he0
              obtain rfl : u2 = u1 := hu2.resolve_right he0
              clear hu1 hu2 he0
              refine wp_region_cls (fun X => Below w9.heap.size w9 X) (by kernel_rfl) (by kernel_rfl) hdr ?_
              repeat (go_big_quiet_step (first | (go_at_call 10; rename_i r; (with_reducible refine (G1.out r.w r.h).mono ?_); rintro e5 w5 ⟨rfl, hb9⟩; exact ⟨rfl, ⟨⟨w5, stepB r.h hb9⟩, rfl⟩⟩)))
              refine wpQuiet_nil ?_
              rintro _ ⟨⟨X, hX⟩, rfl⟩
              clear d0 d1 d2 d3 d4 d5
              go_wp2
              go_roundw
              case rel => exact ⟨k + 1, by omega, by go_num, KF.out _ hX⟩
              case measure => simp [intOf]; omega
end Go.Proofs.YteckkbjpeckjmaaDoor.Nx
