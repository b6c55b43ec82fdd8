/- Check (package nfa): the conditions, which are function fields, and the loops over them and over the edges. -/
import Derived.Test.YtdjhfndoheoljaaDoorFD
import Derived.Laws.EntriesVeiled
namespace Go.Proofs.YtdjhfndoheoljaaDoor.Nf
open Go Go.RowKit Go.Proofs.YtdjhfndoheoljaaDoor Go.Proofs.YtdjhfndoheoljaaDoor.Cb
set_option linter.unusedVariables false
set_option maxRecDepth 100000
section
variable (V S : Int) (A B C : Option Addr) (st fi : List Int) (es : List Ed) (a b c : Nat) (w : World)
theorem cond1_any (s2 s3 s4 : Value) : Calls Tryd.prog 124 #[.agg #[.int .i64 V, .int .i64 S, s2, s3, s4]] w fun r w' => r = .returned (.bool (decide (0 ≤ V ∧ V ≤ 6))) ∧ Below w.heap.size w w' := by
  by_cases h1 : 0 ≤ V
  · by_cases h2 : V ≤ 6
    · go_enter Tryd.func124, Tryd.ntmps124
      go_wp2
      go_ret
      exact ⟨ret_b (by simp [h1, h2]), bal (Below.refl _ _) _⟩
    · go_enter Tryd.func124, Tryd.ntmps124
      go_wp2
      go_ret
      exact ⟨ret_b (by simp [h2]), bal (Below.refl _ _) _⟩
  · go_enter Tryd.func124, Tryd.ntmps124
    go_wp2
    go_ret
    exact ⟨ret_b (by simp; omega), bal (Below.refl _ _) _⟩
theorem cond2_any (s2 s3 s4 : Value) : Calls Tryd.prog 125 #[.agg #[.int .i64 V, .int .i64 S, s2, s3, s4]] w fun r w' => r = .returned (.bool (decide (0 ≤ S))) ∧ Below w.heap.size w w' := by
  go_enter Tryd.func125, Tryd.ntmps125
  go_wp2
  go_ret
  exact ⟨rfl, bal (Below.refl _ _) _⟩
theorem cond3_any (s2 s3 : Value) (n : Nat) : Calls Tryd.prog 126 #[.agg #[.int .i64 V, .int .i64 S, s2, s3, .slice C n c]] w fun r w' => r = .returned (.bool (decide (S ≤ 64 ∧ (n : Int) ≤ 512))) ∧ Below w.heap.size w w' := by
  go_enter Tryd.func126, Tryd.ntmps126
  go_wp2_with (go_at_call 127; refine (isSmall_any S n _).mono ?_; rintro e w2 ⟨rfl, rfl⟩)
  go_ret
  exact ⟨ret_b (by simp), bal (Below.refl _ _) _⟩
theorem cond4_any (s3 s4 : Value) (hx : Ints w A st) (hl : st.length ≤ 1000000) : Calls Tryd.prog 128 #[.agg #[.int .i64 V, .int .i64 S, .slice A st.length a, s3, s4]] w fun r w' => r = .returned (.bool (asc S st)) ∧ Below w.heap.size w w' := by
  have h1 := Lib.hid (asc_any V S (.slice A st.length a) s3 s4 A st a _ (hx.below (bal (Below.refl _ _) (.cells #[.int .i64 V, .int .i64 S, .slice A st.length a, s3, s4] 47))) hl)
  go_enter Tryd.func128, Tryd.ntmps128
  go_wp2_with (go_at_call 129; (with_reducible refine h1.out.mono ?_); rintro e w2 ⟨rfl, hb⟩)
  go_ret
  exact ⟨rfl, stepB (bal (Below.refl _ _) _) hb⟩
theorem cond5_any (s2 s4 : Value) (hx : Ints w B fi) (hl : fi.length ≤ 1000000) : Calls Tryd.prog 130 #[.agg #[.int .i64 V, .int .i64 S, s2, .slice B fi.length b, s4]] w fun r w' => r = .returned (.bool (asc S fi)) ∧ Below w.heap.size w w' := by
  have h1 := Lib.hid (asc_any V S s2 (.slice B fi.length b) s4 B fi b _ (hx.below (bal (Below.refl _ _) (.cells #[.int .i64 V, .int .i64 S, s2, .slice B fi.length b, s4] 47))) hl)
  go_enter Tryd.func130, Tryd.ntmps130
  go_wp2_with (go_at_call 129; (with_reducible refine h1.out.mono ?_); rintro e w2 ⟨rfl, hb⟩)
  go_ret
  exact ⟨rfl, stepB (bal (Below.refl _ _) _) hb⟩
end
def fv (k : Nat) : Value := .func (.func k) #[] #[]
def condCells : Array Value := #[fv 124, .int .i64 7, fv 125, .int .i64 1, fv 126, .int .i64 4, fv 128, .int .i64 8, fv 130, .int .i64 8]
theorem conditions_any (w : World) : Calls Tryd.prog 90 #[] w fun r w' => r = .returned (.slice (some ⟨w.heap.size, 0, none⟩) 5 5) ∧ w' = w.alloc (.cells condCells 126) := by
  go_enter Tryd.func90, Tryd.ntmps90
  go_wp2
  go_ret
  exact ⟨rfl, rfl⟩
/-- Whether condition k holds, and the fault if it does not. -/
def holdN (n : Na) : Nat → Bool
  | 0 => decide (0 ≤ n.V ∧ n.V ≤ 6)
  | 1 => decide (0 ≤ n.S)
  | 2 => decide (n.S ≤ 64 ∧ (n.es.length : Int) ≤ 512)
  | 3 => asc n.S n.st
  | _ => asc n.S n.fi
def faultN : Nat → Int
  | 0 => 7
  | 1 => 1
  | 2 => 4
  | _ => 8
theorem chk_cond {n : Na} {k : Nat} (hk : k < 5) (h : ∀ j, j < k → holdN n j = true) (hf : holdN n k = false) : chkN n = faultN k := by
  have hk' : k = 0 ∨ k = 1 ∨ k = 2 ∨ k = 3 ∨ k = 4 := by omega
  unfold chkN
  rcases hk' with rfl | rfl | rfl | rfl | rfl
  · have h0 : ¬ (0 ≤ n.V ∧ n.V ≤ 6) := of_decide_eq_false hf
    rw [if_pos h0]; rfl
  · have h0 : 0 ≤ n.V ∧ n.V ≤ 6 := of_decide_eq_true (h 0 (by omega))
    have h1 : ¬ 0 ≤ n.S := of_decide_eq_false hf
    rw [if_neg (by simp [h0]), if_pos (by omega)]; rfl
  · have h0 : 0 ≤ n.V ∧ n.V ≤ 6 := of_decide_eq_true (h 0 (by omega))
    have h1 : 0 ≤ n.S := of_decide_eq_true (h 1 (by omega))
    have h2 : ¬ (n.S ≤ 64 ∧ (n.es.length : Int) ≤ 512) := of_decide_eq_false hf
    rw [if_neg (by simp [h0]), if_neg (by omega), if_pos (by omega)]; rfl
  · have h0 : 0 ≤ n.V ∧ n.V ≤ 6 := of_decide_eq_true (h 0 (by omega))
    have h1 : 0 ≤ n.S := of_decide_eq_true (h 1 (by omega))
    have h2 : n.S ≤ 64 ∧ (n.es.length : Int) ≤ 512 := of_decide_eq_true (h 2 (by omega))
    have h3 : asc n.S n.st = false := hf
    rw [if_neg (by simp [h0]), if_neg (by omega), if_neg (by omega), h3, if_pos rfl]; rfl
  · have h0 : 0 ≤ n.V ∧ n.V ≤ 6 := of_decide_eq_true (h 0 (by omega))
    have h1 : 0 ≤ n.S := of_decide_eq_true (h 1 (by omega))
    have h2 : n.S ≤ 64 ∧ (n.es.length : Int) ≤ 512 := of_decide_eq_true (h 2 (by omega))
    have h3 : asc n.S n.st = true := h 3 (by omega)
    have h4 : asc n.S n.fi = false := hf
    rw [if_neg (by simp [h0]), if_neg (by omega), if_neg (by omega), h3, h4, if_neg (by simp), if_pos rfl]; rfl
theorem chk_conds {n : Na} (h : ∀ j, j < 5 → holdN n j = true) : chkN n = edsE n.V n.S n.es n.es.length := by
  unfold chkN
  have h0 : 0 ≤ n.V ∧ n.V ≤ 6 := of_decide_eq_true (h 0 (by omega))
  have h1 : 0 ≤ n.S := of_decide_eq_true (h 1 (by omega))
  have h2 : n.S ≤ 64 ∧ (n.es.length : Int) ≤ 512 := of_decide_eq_true (h 2 (by omega))
  have h3 : asc n.S n.st = true := h 3 (by omega)
  have h4 : asc n.S n.fi = true := h 4 (by omega)
  rw [if_neg (by simp [h0]), if_neg (by omega), if_neg (by omega), h3, h4, if_neg (by simp), if_neg (by simp)]
/-- A block of two cells. -/
structure Boxed2 (w : World) (b : Nat) (s0 s1 : Value) : Prop where
  lt : b < w.heap.size
  c0 : w.cell? ⟨b, 0, none⟩ = some s0
  c1 : w.cell? ⟨b, 1, none⟩ = some s1
theorem Boxed2.new (w : World) (t : TypeId) (s0 s1 : Value) : Boxed2 (w.alloc (.cells #[s0, s1] t)) w.heap.size s0 s1 := by
  refine ⟨by simp, ?_, ?_⟩ <;> rw [World.cell?_alloc_at _ _ _ _ rfl] <;> rfl
theorem Boxed2.below {w w' : World} {b : Nat} {s0 s1 : Value} (h : Boxed2 w b s0 s1) (hb : Below w.heap.size w w') : Boxed2 w' b s0 s1 :=
  ⟨Nat.lt_of_lt_of_le h.lt hb.size, (hb.cell (p := ⟨b, 0, none⟩) h.lt).trans h.c0, (hb.cell (p := ⟨b, 1, none⟩) h.lt).trans h.c1⟩
theorem Boxed4.cells {w : World} {b : Nat} {s0 s1 s2 s3 : Value} (h : Boxed4 w b s0 s1 s2 s3) : w.cell? ⟨b, 0, none⟩ = some s0 ∧ w.cell? ⟨b, 1, none⟩ = some s1 ∧ w.cell? ⟨b, 2, none⟩ = some s2 ∧ w.cell? ⟨b, 3, none⟩ = some s3 := ⟨h.c0, h.c1, h.c2, h.c3⟩
/-- What lies in the blocks of Check. -/
def ChkS (w : World) (n : Na) (A B C : Option Addr) (a b c : Nat) (X : World) : Prop :=
  Boxed5 X w.heap.size (.int .i64 n.V) (.int .i64 n.S) (.slice A n.st.length a) (.slice B n.fi.length b) (.slice C n.es.length c) ∧ (w.heap.size + 1 < X.heap.size ∧ ∀ j v, condCells[j]? = some v → X.cell? ⟨w.heap.size + 1, j, none⟩ = some v) ∧ Below w.heap.size w X
theorem ChkS.step {w : World} {n : Na} {A B C : Option Addr} {a b c : Nat} {X Y : World} (h : ChkS w n A B C a b c X) (hb : Below X.heap.size X Y) : ChkS w n A B C a b c Y :=
  ⟨h.1.below hb, ⟨Nat.lt_of_lt_of_le h.2.1.1 hb.size, fun j v hv => (hb.cell (p := ⟨w.heap.size + 1, j, none⟩) h.2.1.1).trans (h.2.1.2 j v hv)⟩, stepB h.2.2 hb⟩
theorem ChkS.new (w : World) (n : Na) (A B C : Option Addr) (a b c : Nat) (t t' : TypeId) : ChkS w n A B C a b c ((w.alloc (.cells #[.int .i64 n.V, .int .i64 n.S, .slice A n.st.length a, .slice B n.fi.length b, .slice C n.es.length c] t)).alloc (.cells condCells t')) := by
  refine ⟨(Boxed5.new w t _ _ _ _ _).below (bal (Below.refl _ _) _), ⟨by simp, fun j v hv => ?_⟩, bal (bal (Below.refl _ _) _) _⟩
  rw [World.cell?_alloc_at _ _ _ _ (by simp)]
  simpa using hv
set_option maxHeartbeats 4000000 in
theorem Check6_any (n : Na) (A B C : Option Addr) (a b c : Nat) (w : World) (hx : NaAt w n A B C) (hl : NaLen n) :
    Calls Tryd.prog 43 #[.agg #[.int .i64 n.V, .int .i64 n.S, .slice A n.st.length a, .slice B n.fi.length b, .slice C n.es.length c]] w fun r w' => r = .returned (.int .i64 (chkN n)) ∧ Below w.heap.size w w' := by
  have hS0 := ChkS.new w n A B C a b c 47 126
  go_enter Tryd.func43, Tryd.ntmps43
  go_wp2_with (go_at_call 90; refine (conditions_any _).mono ?_; rintro e w2 ⟨rfl, rfl⟩)
  go_loopw [10] (fun i wr => ∃ k : Nat, k ≤ 5 ∧ i = .int .i64 k ∧ Hid (∀ j, j < k → holdN n j = true) ∧ ChkS w n A B C a b c wr) (fun i _ => 5 - (intOf i).toNat)
  case atStart => exact ⟨0, by omega, rfl, fun i hi => absurd hi (by omega), hS0⟩
  case round =>
    clear hS0
    obtain ⟨k, hk, rfl, H, hS⟩ := hrel
    obtain ⟨b0, b1, b2, b3, b4⟩ := hS.1.cells
    by_cases hlt : k < 5
    · have hk' : k = 0 ∨ k = 1 ∨ k = 2 ∨ k = 3 ∨ k = 4 := by omega
      rcases hk' with rfl | rfl | rfl | rfl | rfl
      · have q0 : wr.cell? ⟨w.heap.size + 1, 0, none⟩ = some (.func (.func 124) #[] #[]) := hS.2.1.2 0 _ rfl
        have q1 : wr.cell? ⟨w.heap.size + 1, 1, none⟩ = some (.int .i64 7) := hS.2.1.2 1 _ rfl
        cases hh : holdN n 0 with
        | true =>
          have H' : Hid (∀ j, j < 0 + 1 → holdN n j = true) := fun j hj => by
            rcases Nat.lt_or_eq_of_le (Nat.le_of_lt_succ hj) with h1 | rfl
            · exact H.out j h1
            · exact hh
          have HC : Hid (∀ X, ChkS w n A B C a b c X → Calls Tryd.prog 124 #[.agg #[.int .i64 n.V, .int .i64 n.S, .slice A n.st.length a, .slice B n.fi.length b, .slice C n.es.length c]] X fun r w' => r = .returned (.bool true) ∧ Below X.heap.size X w') := fun X hX => by
            have := cond1_any n.V n.S X (.slice A n.st.length a) (.slice B n.fi.length b) (.slice C n.es.length c)
            exact this.mono fun r w' h => ⟨h.1.trans (congrArg (fun t => Ending.returned (.bool t)) hh), h.2⟩
          have hS1 := hS.step (bal (Below.refl wr.heap.size wr) (.cells #[.func (.func 124) #[] #[], .int .i64 7] 126))
          obtain ⟨z0, z1, z2, z3, z4⟩ := hS1.1.cells
          clear H hh
          go_wp2_with (go_at_call 124; ((with_reducible refine (HC.out _ hS1).mono ?_); rintro e w2 ⟨rfl, hb2⟩))
          go_roundw
          case rel => exact ⟨0 + 1, by omega, by go_num, H', hS1.step hb2⟩
          case measure => simp [intOf]
        | false =>
          have HE : Hid (chkN n = 7) := chk_cond (k := 0) (by omega) H.out hh
          have HC : Hid (∀ X, ChkS w n A B C a b c X → Calls Tryd.prog 124 #[.agg #[.int .i64 n.V, .int .i64 n.S, .slice A n.st.length a, .slice B n.fi.length b, .slice C n.es.length c]] X fun r w' => r = .returned (.bool false) ∧ Below X.heap.size X w') := fun X hX => by
            have := cond1_any n.V n.S X (.slice A n.st.length a) (.slice B n.fi.length b) (.slice C n.es.length c)
            exact this.mono fun r w' h => ⟨h.1.trans (congrArg (fun t => Ending.returned (.bool t)) hh), h.2⟩
          have hS1 := hS.step (bal (Below.refl wr.heap.size wr) (.cells #[.func (.func 124) #[] #[], .int .i64 7] 126))
          obtain ⟨z0, z1, z2, z3, z4⟩ := hS1.1.cells
          have B2 := Boxed2.new wr 126 (.func (.func 124) #[] #[]) (.int .i64 7)
          clear H hh
          go_wp2_with (go_at_call 124; ((with_reducible refine (HC.out _ hS1).mono ?_); rintro e w2 ⟨rfl, hb2⟩); replace B2 := B2.below hb2; have g0 := B2.c0; have g1 := B2.c1)
          go_ret
          exact ⟨ret_int HE.out.symm, (hS1.step hb2).2.2⟩
      · have q0 : wr.cell? ⟨w.heap.size + 1, 2, none⟩ = some (.func (.func 125) #[] #[]) := hS.2.1.2 2 _ rfl
        have q1 : wr.cell? ⟨w.heap.size + 1, 3, none⟩ = some (.int .i64 1) := hS.2.1.2 3 _ rfl
        cases hh : holdN n 1 with
        | true =>
          have H' : Hid (∀ j, j < 1 + 1 → holdN n j = true) := fun j hj => by
            rcases Nat.lt_or_eq_of_le (Nat.le_of_lt_succ hj) with h1 | rfl
            · exact H.out j h1
            · exact hh
          have HC : Hid (∀ X, ChkS w n A B C a b c X → Calls Tryd.prog 125 #[.agg #[.int .i64 n.V, .int .i64 n.S, .slice A n.st.length a, .slice B n.fi.length b, .slice C n.es.length c]] X fun r w' => r = .returned (.bool true) ∧ Below X.heap.size X w') := fun X hX => by
            have := cond2_any n.V n.S X (.slice A n.st.length a) (.slice B n.fi.length b) (.slice C n.es.length c)
            exact this.mono fun r w' h => ⟨h.1.trans (congrArg (fun t => Ending.returned (.bool t)) hh), h.2⟩
          have hS1 := hS.step (bal (Below.refl wr.heap.size wr) (.cells #[.func (.func 125) #[] #[], .int .i64 1] 126))
          obtain ⟨z0, z1, z2, z3, z4⟩ := hS1.1.cells
          clear H hh
          go_wp2_with (go_at_call 125; ((with_reducible refine (HC.out _ hS1).mono ?_); rintro e w2 ⟨rfl, hb2⟩))
          go_roundw
          case rel => exact ⟨1 + 1, by omega, by go_num, H', hS1.step hb2⟩
          case measure => simp [intOf]
        | false =>
          have HE : Hid (chkN n = 1) := chk_cond (k := 1) (by omega) H.out hh
          have HC : Hid (∀ X, ChkS w n A B C a b c X → Calls Tryd.prog 125 #[.agg #[.int .i64 n.V, .int .i64 n.S, .slice A n.st.length a, .slice B n.fi.length b, .slice C n.es.length c]] X fun r w' => r = .returned (.bool false) ∧ Below X.heap.size X w') := fun X hX => by
            have := cond2_any n.V n.S X (.slice A n.st.length a) (.slice B n.fi.length b) (.slice C n.es.length c)
            exact this.mono fun r w' h => ⟨h.1.trans (congrArg (fun t => Ending.returned (.bool t)) hh), h.2⟩
          have hS1 := hS.step (bal (Below.refl wr.heap.size wr) (.cells #[.func (.func 125) #[] #[], .int .i64 1] 126))
          obtain ⟨z0, z1, z2, z3, z4⟩ := hS1.1.cells
          have B2 := Boxed2.new wr 126 (.func (.func 125) #[] #[]) (.int .i64 1)
          clear H hh
          go_wp2_with (go_at_call 125; ((with_reducible refine (HC.out _ hS1).mono ?_); rintro e w2 ⟨rfl, hb2⟩); replace B2 := B2.below hb2; have g0 := B2.c0; have g1 := B2.c1)
          go_ret
          exact ⟨ret_int HE.out.symm, (hS1.step hb2).2.2⟩
      · have q0 : wr.cell? ⟨w.heap.size + 1, 4, none⟩ = some (.func (.func 126) #[] #[]) := hS.2.1.2 4 _ rfl
        have q1 : wr.cell? ⟨w.heap.size + 1, 5, none⟩ = some (.int .i64 4) := hS.2.1.2 5 _ rfl
        cases hh : holdN n 2 with
        | true =>
          have H' : Hid (∀ j, j < 2 + 1 → holdN n j = true) := fun j hj => by
            rcases Nat.lt_or_eq_of_le (Nat.le_of_lt_succ hj) with h1 | rfl
            · exact H.out j h1
            · exact hh
          have HC : Hid (∀ X, ChkS w n A B C a b c X → Calls Tryd.prog 126 #[.agg #[.int .i64 n.V, .int .i64 n.S, .slice A n.st.length a, .slice B n.fi.length b, .slice C n.es.length c]] X fun r w' => r = .returned (.bool true) ∧ Below X.heap.size X w') := fun X hX => by
            have := cond3_any n.V n.S C c X (.slice A n.st.length a) (.slice B n.fi.length b) n.es.length
            exact this.mono fun r w' h => ⟨h.1.trans (congrArg (fun t => Ending.returned (.bool t)) hh), h.2⟩
          have hS1 := hS.step (bal (Below.refl wr.heap.size wr) (.cells #[.func (.func 126) #[] #[], .int .i64 4] 126))
          obtain ⟨z0, z1, z2, z3, z4⟩ := hS1.1.cells
          clear H hh
          go_wp2_with (go_at_call 126; ((with_reducible refine (HC.out _ hS1).mono ?_); rintro e w2 ⟨rfl, hb2⟩))
          go_roundw
          case rel => exact ⟨2 + 1, by omega, by go_num, H', hS1.step hb2⟩
          case measure => simp [intOf]
        | false =>
          have HE : Hid (chkN n = 4) := chk_cond (k := 2) (by omega) H.out hh
          have HC : Hid (∀ X, ChkS w n A B C a b c X → Calls Tryd.prog 126 #[.agg #[.int .i64 n.V, .int .i64 n.S, .slice A n.st.length a, .slice B n.fi.length b, .slice C n.es.length c]] X fun r w' => r = .returned (.bool false) ∧ Below X.heap.size X w') := fun X hX => by
            have := cond3_any n.V n.S C c X (.slice A n.st.length a) (.slice B n.fi.length b) n.es.length
            exact this.mono fun r w' h => ⟨h.1.trans (congrArg (fun t => Ending.returned (.bool t)) hh), h.2⟩
          have hS1 := hS.step (bal (Below.refl wr.heap.size wr) (.cells #[.func (.func 126) #[] #[], .int .i64 4] 126))
          obtain ⟨z0, z1, z2, z3, z4⟩ := hS1.1.cells
          have B2 := Boxed2.new wr 126 (.func (.func 126) #[] #[]) (.int .i64 4)
          clear H hh
          go_wp2_with (go_at_call 126; ((with_reducible refine (HC.out _ hS1).mono ?_); rintro e w2 ⟨rfl, hb2⟩); replace B2 := B2.below hb2; have g0 := B2.c0; have g1 := B2.c1)
          go_ret
          exact ⟨ret_int HE.out.symm, (hS1.step hb2).2.2⟩
      · have q0 : wr.cell? ⟨w.heap.size + 1, 6, none⟩ = some (.func (.func 128) #[] #[]) := hS.2.1.2 6 _ rfl
        have q1 : wr.cell? ⟨w.heap.size + 1, 7, none⟩ = some (.int .i64 8) := hS.2.1.2 7 _ rfl
        cases hh : holdN n 3 with
        | true =>
          have H' : Hid (∀ j, j < 3 + 1 → holdN n j = true) := fun j hj => by
            rcases Nat.lt_or_eq_of_le (Nat.le_of_lt_succ hj) with h1 | rfl
            · exact H.out j h1
            · exact hh
          have HC : Hid (∀ X, ChkS w n A B C a b c X → Calls Tryd.prog 128 #[.agg #[.int .i64 n.V, .int .i64 n.S, .slice A n.st.length a, .slice B n.fi.length b, .slice C n.es.length c]] X fun r w' => r = .returned (.bool true) ∧ Below X.heap.size X w') := fun X hX => by
            have := cond4_any n.V n.S A n.st a X (.slice B n.fi.length b) (.slice C n.es.length c) (hx.st.below hX.2.2) hl.st
            exact this.mono fun r w' h => ⟨h.1.trans (congrArg (fun t => Ending.returned (.bool t)) hh), h.2⟩
          have hS1 := hS.step (bal (Below.refl wr.heap.size wr) (.cells #[.func (.func 128) #[] #[], .int .i64 8] 126))
          obtain ⟨z0, z1, z2, z3, z4⟩ := hS1.1.cells
          clear H hh
          go_wp2_with (go_at_call 128; ((with_reducible refine (HC.out _ hS1).mono ?_); rintro e w2 ⟨rfl, hb2⟩))
          go_roundw
          case rel => exact ⟨3 + 1, by omega, by go_num, H', hS1.step hb2⟩
          case measure => simp [intOf]
        | false =>
          have HE : Hid (chkN n = 8) := chk_cond (k := 3) (by omega) H.out hh
          have HC : Hid (∀ X, ChkS w n A B C a b c X → Calls Tryd.prog 128 #[.agg #[.int .i64 n.V, .int .i64 n.S, .slice A n.st.length a, .slice B n.fi.length b, .slice C n.es.length c]] X fun r w' => r = .returned (.bool false) ∧ Below X.heap.size X w') := fun X hX => by
            have := cond4_any n.V n.S A n.st a X (.slice B n.fi.length b) (.slice C n.es.length c) (hx.st.below hX.2.2) hl.st
            exact this.mono fun r w' h => ⟨h.1.trans (congrArg (fun t => Ending.returned (.bool t)) hh), h.2⟩
          have hS1 := hS.step (bal (Below.refl wr.heap.size wr) (.cells #[.func (.func 128) #[] #[], .int .i64 8] 126))
          obtain ⟨z0, z1, z2, z3, z4⟩ := hS1.1.cells
          have B2 := Boxed2.new wr 126 (.func (.func 128) #[] #[]) (.int .i64 8)
          clear H hh
          go_wp2_with (go_at_call 128; ((with_reducible refine (HC.out _ hS1).mono ?_); rintro e w2 ⟨rfl, hb2⟩); replace B2 := B2.below hb2; have g0 := B2.c0; have g1 := B2.c1)
          go_ret
          exact ⟨ret_int HE.out.symm, (hS1.step hb2).2.2⟩
      · have q0 : wr.cell? ⟨w.heap.size + 1, 8, none⟩ = some (.func (.func 130) #[] #[]) := hS.2.1.2 8 _ rfl
        have q1 : wr.cell? ⟨w.heap.size + 1, 9, none⟩ = some (.int .i64 8) := hS.2.1.2 9 _ rfl
        cases hh : holdN n 4 with
        | true =>
          have H' : Hid (∀ j, j < 4 + 1 → holdN n j = true) := fun j hj => by
            rcases Nat.lt_or_eq_of_le (Nat.le_of_lt_succ hj) with h1 | rfl
            · exact H.out j h1
            · exact hh
          have HC : Hid (∀ X, ChkS w n A B C a b c X → Calls Tryd.prog 130 #[.agg #[.int .i64 n.V, .int .i64 n.S, .slice A n.st.length a, .slice B n.fi.length b, .slice C n.es.length c]] X fun r w' => r = .returned (.bool true) ∧ Below X.heap.size X w') := fun X hX => by
            have := cond5_any n.V n.S B n.fi b X (.slice A n.st.length a) (.slice C n.es.length c) (hx.fi.below hX.2.2) hl.fi
            exact this.mono fun r w' h => ⟨h.1.trans (congrArg (fun t => Ending.returned (.bool t)) hh), h.2⟩
          have hS1 := hS.step (bal (Below.refl wr.heap.size wr) (.cells #[.func (.func 130) #[] #[], .int .i64 8] 126))
          obtain ⟨z0, z1, z2, z3, z4⟩ := hS1.1.cells
          clear H hh
          go_wp2_with (go_at_call 130; ((with_reducible refine (HC.out _ hS1).mono ?_); rintro e w2 ⟨rfl, hb2⟩))
          go_roundw
          case rel => exact ⟨4 + 1, by omega, by go_num, H', hS1.step hb2⟩
          case measure => simp [intOf]
        | false =>
          have HE : Hid (chkN n = 8) := chk_cond (k := 4) (by omega) H.out hh
          have HC : Hid (∀ X, ChkS w n A B C a b c X → Calls Tryd.prog 130 #[.agg #[.int .i64 n.V, .int .i64 n.S, .slice A n.st.length a, .slice B n.fi.length b, .slice C n.es.length c]] X fun r w' => r = .returned (.bool false) ∧ Below X.heap.size X w') := fun X hX => by
            have := cond5_any n.V n.S B n.fi b X (.slice A n.st.length a) (.slice C n.es.length c) (hx.fi.below hX.2.2) hl.fi
            exact this.mono fun r w' h => ⟨h.1.trans (congrArg (fun t => Ending.returned (.bool t)) hh), h.2⟩
          have hS1 := hS.step (bal (Below.refl wr.heap.size wr) (.cells #[.func (.func 130) #[] #[], .int .i64 8] 126))
          obtain ⟨z0, z1, z2, z3, z4⟩ := hS1.1.cells
          have B2 := Boxed2.new wr 126 (.func (.func 130) #[] #[]) (.int .i64 8)
          clear H hh
          go_wp2_with (go_at_call 130; ((with_reducible refine (HC.out _ hS1).mono ?_); rintro e w2 ⟨rfl, hb2⟩); replace B2 := B2.below hb2; have g0 := B2.c0; have g1 := B2.c1)
          go_ret
          exact ⟨ret_int HE.out.symm, (hS1.step hb2).2.2⟩
    · have HE := Lib.hid (chk_conds (n := n) fun j hj => H.out j (by omega))
      have hd5 : decide ((k : Int) < 5) = false := by rw [decide_eq_false_iff_not]; omega
      clear H hk hlt b0 b1 b2 b3
      have hle := hl.es
      go_wp2
      have hS' := hS
      clear hS b4
      go_loopw [25] (fun i wr => ∃ m : Nat, m ≤ n.es.length ∧ i = .int .i64 m ∧ Hid (edsE n.V n.S n.es m = 0) ∧ ChkS w n A B C a b c wr) (fun i _ => n.es.length - (intOf i).toNat)
      case atStart => exact ⟨0, by omega, rfl, rfl, hS'⟩
      case round =>
        clear hS'
        obtain ⟨m, hk, rfl, H, hS⟩ := hrel
        by_cases hlt : m < n.es.length
        · obtain ⟨hok, ad, rfl, had, hc⟩ := (hx.es.below hS.2.2) m hlt
          obtain ⟨q0, q1, q2, q3⟩ := four_at hc
          have hS1 := hS.step (bal (Below.refl wr.heap.size wr) (.cells #[.int .i64 (ed n.es m).fr, .int .i64 (ed n.es m).to, .int .u8 (ed n.es m).p, .int .u8 (ed n.es m).q] 81))
          have B4 := Boxed4.new wr 81 (.int .i64 (ed n.es m).fr) (.int .i64 (ed n.es m).to) (.int .u8 (ed n.es m).p) (.int .u8 (ed n.es m).q)
          obtain ⟨g0, g1, g2, g3⟩ := B4.cells
          obtain ⟨z0, z1, z2, z3, z4⟩ := hS1.1.cells
          have HC := Lib.hid fun X => checkEdge_any n.V n.S (ed n.es m).fr (ed n.es m).to (.slice A n.st.length a) (.slice B n.fi.length b) (.slice (some ad) n.es.length c) (ed n.es m).p (ed n.es m).q X hok.p hok.q
          have HE2 : Hid (edsE n.V n.S n.es (m + 1) = edE n.V n.S (ed n.es m)) := by
            show _ = _
            show (if edsE n.V n.S n.es m = 0 then edE n.V n.S (ed n.es m) else edsE n.V n.S n.es m) = _
            rw [if_pos H.out]
          clear hc B4
          by_cases he : edE n.V n.S (ed n.es m) = 0
          · have H' : Hid (edsE n.V n.S n.es (m + 1) = 0) := HE2.out.trans he
            have HC : Hid (∀ X, Calls Tryd.prog 91 #[.agg #[.int .i64 n.V, .int .i64 n.S, .slice A n.st.length a, .slice B n.fi.length b, .slice (some ad) n.es.length c], .agg #[.int .i64 (ed n.es m).fr, .int .i64 (ed n.es m).to, .int .u8 (ed n.es m).p, .int .u8 (ed n.es m).q]] X fun r w' => r = .returned (.int .i64 0) ∧ Below X.heap.size X w') := fun X => by
              have := HC.out X
              rw [show edE n.V n.S ⟨(ed n.es m).fr, (ed n.es m).to, (ed n.es m).p, (ed n.es m).q⟩ = 0 from he] at this
              exact this
            clear he HE2 H HE
            generalize ed n.es m = x at *
            go_wp2_with (go_at_call 91; ((with_reducible refine (HC.out _).mono ?_); rintro e w2 ⟨rfl, hb2⟩))
            go_roundw
            case rel => exact ⟨m + 1, by omega, by go_num, H', hS1.step hb2⟩
            case measure => simp [intOf]; omega
          · have H' : Hid (chkN n = edE n.V n.S (ed n.es m)) := HE.out.trans (edsE_err H.out hlt he)
            have HC : Hid (∀ X, Calls Tryd.prog 91 #[.agg #[.int .i64 n.V, .int .i64 n.S, .slice A n.st.length a, .slice B n.fi.length b, .slice (some ad) n.es.length c], .agg #[.int .i64 (ed n.es m).fr, .int .i64 (ed n.es m).to, .int .u8 (ed n.es m).p, .int .u8 (ed n.es m).q]] X fun r w' => r = .returned (.int .i64 (edE n.V n.S (ed n.es m))) ∧ Below X.heap.size X w') := fun X => HC.out X
            have hne : (edE n.V n.S (ed n.es m) != 0) = true := by rw [bne_iff_ne]; exact he
            clear he HE2 H HE
            generalize edE n.V n.S (ed n.es m) = E at *
            generalize ed n.es m = x at *
            go_wp2_with (go_at_call 91; ((with_reducible refine (HC.out _).mono ?_); rintro e w2 ⟨rfl, hb2⟩))
            go_ret
            exact ⟨ret_int H'.out.symm, (hS1.step hb2).2.2⟩
        · obtain rfl : m = n.es.length := by omega
          have H' : Hid (chkN n = 0) := HE.out.trans H.out
          clear H HE
          go_wp2
          go_ret
          exact ⟨ret_int H'.out.symm, hS.2.2⟩
end Go.Proofs.YtdjhfndoheoljaaDoor.Nf
