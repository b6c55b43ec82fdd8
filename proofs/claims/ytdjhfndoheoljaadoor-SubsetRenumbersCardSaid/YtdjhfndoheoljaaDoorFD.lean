/- Small functions of package nfa; areAscendingStates, checkEdge, letters. -/
import Derived.Test.YtdjhfndoheoljaaDoorFC
import Derived.Test.YtdjhfndoheoljaaDoorQC
namespace Go.Proofs.YtdjhfndoheoljaaDoor.Nf
open Go Go.RowKit Go.Proofs.YtdjhfndoheoljaaDoor Go.Proofs.YtdjhfndoheoljaaDoor.Cb
set_option linter.unusedVariables false
set_option maxRecDepth 100000
/-- A block of five cells. -/
structure Boxed5 (w : World) (b : Nat) (u0 u1 s2 s3 s4 : Value) : Prop where
  lt : b < w.heap.size
  c0 : w.cell? ⟨b, 0, none⟩ = some u0
  c1 : w.cell? ⟨b, 1, none⟩ = some u1
  c2 : w.cell? ⟨b, 2, none⟩ = some s2
  c3 : w.cell? ⟨b, 3, none⟩ = some s3
  c4 : w.cell? ⟨b, 4, none⟩ = some s4
theorem Boxed5.new (w : World) (t : TypeId) (u0 u1 s2 s3 s4 : Value) : Boxed5 (w.alloc (.cells #[u0, u1, s2, s3, s4] t)) w.heap.size u0 u1 s2 s3 s4 := by
  refine ⟨by simp, ?_, ?_, ?_, ?_, ?_⟩ <;> rw [World.cell?_alloc_at _ _ _ _ rfl] <;> rfl
theorem Boxed5.cells {w : World} {b : Nat} {u0 u1 s2 s3 s4 : Value} (h : Boxed5 w b u0 u1 s2 s3 s4) : w.cell? ⟨b, 0, none⟩ = some u0 ∧ w.cell? ⟨b, 1, none⟩ = some u1 ∧ w.cell? ⟨b, 2, none⟩ = some s2 ∧ w.cell? ⟨b, 3, none⟩ = some s3 ∧ w.cell? ⟨b, 4, none⟩ = some s4 := ⟨h.c0, h.c1, h.c2, h.c3, h.c4⟩
theorem Boxed5.below {w w' : World} {b : Nat} {u0 u1 s2 s3 s4 : Value} (h : Boxed5 w b u0 u1 s2 s3 s4) (hb : Below w.heap.size w w') : Boxed5 w' b u0 u1 s2 s3 s4 :=
  ⟨Nat.lt_of_lt_of_le h.lt hb.size, (hb.cell (p := ⟨b, 0, none⟩) h.lt).trans h.c0, (hb.cell (p := ⟨b, 1, none⟩) h.lt).trans h.c1, (hb.cell (p := ⟨b, 2, none⟩) h.lt).trans h.c2, (hb.cell (p := ⟨b, 3, none⟩) h.lt).trans h.c3, (hb.cell (p := ⟨b, 4, none⟩) h.lt).trans h.c4⟩
/-- A block of four cells. -/
structure Boxed4 (w : World) (b : Nat) (s0 s1 s2 s3 : Value) : Prop where
  lt : b < w.heap.size
  c0 : w.cell? ⟨b, 0, none⟩ = some s0
  c1 : w.cell? ⟨b, 1, none⟩ = some s1
  c2 : w.cell? ⟨b, 2, none⟩ = some s2
  c3 : w.cell? ⟨b, 3, none⟩ = some s3
theorem Boxed4.new (w : World) (t : TypeId) (s0 s1 s2 s3 : Value) : Boxed4 (w.alloc (.cells #[s0, s1, s2, s3] t)) w.heap.size s0 s1 s2 s3 := by
  refine ⟨by simp, ?_, ?_, ?_, ?_⟩ <;> rw [World.cell?_alloc_at _ _ _ _ rfl] <;> rfl
theorem Boxed4.below {w w' : World} {b : Nat} {s0 s1 s2 s3 : Value} (h : Boxed4 w b s0 s1 s2 s3) (hb : Below w.heap.size w w') : Boxed4 w' b s0 s1 s2 s3 :=
  ⟨Nat.lt_of_lt_of_le h.lt hb.size, (hb.cell (p := ⟨b, 0, none⟩) h.lt).trans h.c0, (hb.cell (p := ⟨b, 1, none⟩) h.lt).trans h.c1, (hb.cell (p := ⟨b, 2, none⟩) h.lt).trans h.c2, (hb.cell (p := ⟨b, 3, none⟩) h.lt).trans h.c3⟩
/-- The blocks of checkEdge, in whatever world behind w. -/
def EdS (w : World) (b c : Nat) (V S : Int) (s2 s3 s4 : Value) (f t : Int) (p q : Nat) (X : World) : Prop :=
  Boxed5 X b (.int .i64 V) (.int .i64 S) s2 s3 s4 ∧ Boxed4 X c (.int .i64 f) (.int .i64 t) (.int .u8 p) (.int .u8 q) ∧ Below w.heap.size w X
theorem EdS.step {w : World} {b c : Nat} {V S : Int} {s2 s3 s4 : Value} {f t : Int} {p q : Nat} {X Y : World} (h : EdS w b c V S s2 s3 s4 f t p q X) (hb : Below X.heap.size X Y) : EdS w b c V S s2 s3 s4 f t p q Y := ⟨h.1.below hb, h.2.1.below hb, stepB h.2.2 hb⟩
theorem isLetter6_any (x v : Nat) (w : World) (hx : x < 256) (hv : v ≤ 6) :
    Calls Tryd.prog 108 #[.int .u8 x, .int .i64 v] w fun e w' => e = .returned (.bool (decide (x < 2 ^ v))) ∧ w = w' := by
  go_enter Tryd.func108, Tryd.ntmps108
  go_wp2
  go_ret
  refine ⟨ret_b ?_, rfl⟩
  rw [shl64 hv, Bool.eq_iff_iff, decide_eq_true_iff, decide_eq_true_iff]
  exact Int.ofNat_lt
theorem isSmall_any (s e : Int) (w : World) :
    Calls Tryd.prog 127 #[.int .i64 s, .int .i64 e] w fun r w' => r = .returned (.bool (decide (s ≤ 64 ∧ e ≤ 512))) ∧ w = w' := by
  by_cases h1 : s ≤ 64
  · by_cases h2 : e ≤ 512
    · go_enter Tryd.func127, Tryd.ntmps127
      go_wp2
      go_ret
      exact ⟨ret_b (by simp [h1, h2]), rfl⟩
    · go_enter Tryd.func127, Tryd.ntmps127
      go_wp2
      go_ret
      exact ⟨ret_b (by simp [h2]), rfl⟩
  · go_enter Tryd.func127, Tryd.ntmps127
    go_wp2
    go_ret
    exact ⟨ret_b (by simp; omega), rfl⟩
theorem isState_any (V S z : Int) (s2 s3 s4 : Value) (w : World) :
    Calls Tryd.prog 131 #[.agg #[.int .i64 V, .int .i64 S, s2, s3, s4], .int .i64 z] w fun r w' => r = .returned (.bool (inS S z)) ∧ Below w.heap.size w w' := by
  by_cases h1 : 0 ≤ z
  · by_cases h2 : z < S
    · go_enter Tryd.func131, Tryd.ntmps131
      go_wp2
      go_ret
      exact ⟨ret_b (by simp [inS, h1, h2]), bal (Below.refl _ _) _⟩
    · go_enter Tryd.func131, Tryd.ntmps131
      go_wp2
      go_ret
      exact ⟨ret_b (by simp [inS, h2]), bal (Below.refl _ _) _⟩
  · go_enter Tryd.func131, Tryd.ntmps131
    go_wp2
    go_ret
    exact ⟨ret_b (by simp [inS]; omega), bal (Below.refl _ _) _⟩
theorem isState_is {b : Bool} {V S z : Int} {s2 s3 s4 : Value} (h : inS S z = b) (w : World) :
    Calls Tryd.prog 131 #[.agg #[.int .i64 V, .int .i64 S, s2, s3, s4], .int .i64 z] w fun r w' => r = .returned (.bool b) ∧ Below w.heap.size w w' := by
  subst h; exact isState_any V S z s2 s3 s4 w
theorem letters_any (f t : Int) (p q : Nat) (w : World) :
    Calls Tryd.prog 133 #[.agg #[.int .i64 f, .int .i64 t, .int .u8 p, .int .u8 q]] w fun r w' => r = .returned (.agg #[.int .u8 p, .int .u8 q]) ∧ Below w.heap.size w w' := by
  go_enter Tryd.func133, Tryd.ntmps133
  go_wp2
  exact bodyPost_ret (v := .agg #[.int .u8 p, .int .u8 q]) (by simp [results, Tryd.results133, go_sem]) rfl ⟨rfl, bal (bal (Below.refl _ _) _) _⟩
set_option maxHeartbeats 2000000 in
theorem asc_any (V S : Int) (s2 s3 s4 : Value) (A : Option Addr) (l : List Int) (c : Nat) (w : World) (hx : Ints w A l) (hl : l.length ≤ 1000000) :
    Calls Tryd.prog 129 #[.agg #[.int .i64 V, .int .i64 S, s2, s3, s4], .slice A l.length c] w fun r w' => r = .returned (.bool (asc S l)) ∧ Below w.heap.size w w' := by
  go_enter Tryd.func129, Tryd.ntmps129
  go_wp2
  have hb0 := bal (Below.refl w.heap.size w) (.cells #[.int .i64 V, .int .i64 S, s2, s3, s4] 47)
  have hB0 := Boxed5.new w 47 (.int .i64 V) (.int .i64 S) s2 s3 s4
  go_loopw [9] (fun i wr => ∃ k : Nat, k ≤ l.length ∧ i = .int .i64 k ∧ Hid (∀ i, i < k → ascP S l i = true) ∧ Boxed5 wr w.heap.size (.int .i64 V) (.int .i64 S) s2 s3 s4 ∧ Below w.heap.size w wr) (fun i _ => l.length - (intOf i).toNat)
  case atStart => exact ⟨0, by omega, rfl, fun i hi => absurd hi (by omega), hB0, hb0⟩
  case round =>
    clear hB0 hb0
    obtain ⟨k, hk, rfl, H, hB, hb⟩ := hrel
    obtain ⟨b0, b1, b2, b3, b4⟩ := hB.cells
    by_cases hlt : k < l.length
    · obtain ⟨ad, rfl, hcell⟩ := (hx.below hb).at_ hlt
      have hstep : Hid (ascP S l k = true → ∀ i, i < k + 1 → ascP S l i = true) := fun hok i hi => by
        rcases Nat.lt_or_eq_of_le (Nat.le_of_lt_succ hi) with h1 | rfl
        · exact H.out i h1
        · exact hok
      have hfail : Hid (ascP S l k = false → asc S l = false) := fun hno => allB_false hlt hno
      cases hL : inS S (nd l k) with
      | true =>
        have L1 := Lib.hid fun w => isState_is (V := V) (s2 := s2) (s3 := s3) (s4 := s4) hL w
        by_cases h0 : k = 0
        · have hok : Hid (∀ i, i < k + 1 → ascP S l i = true) := hstep.out (by unfold ascP; rw [hL, decide_eq_true h0]; rfl)
          have hk0 : decide (0 < k) = false := by rw [decide_eq_false_iff_not]; omega
          have hk1 : decide ((0 : Int) < (k : Int)) = false := by rw [decide_eq_false_iff_not]; omega
          clear hL hstep hfail H h0
          generalize nd l k = x at *
          go_wp2_with (go_at_call 131; ((with_reducible refine (L1.out _).mono ?_); rintro e w2 ⟨rfl, hb2⟩))
          go_roundw
          case rel => exact ⟨k + 1, by omega, by go_num, hok, hB.below hb2, stepB hb hb2⟩
          case measure => simp [intOf]; omega
        · have hk0 : 0 < k := by omega
          obtain ⟨j, hj⟩ : ∃ j, k = j + 1 := ⟨k - 1, by omega⟩
          have hokd : ascP S l k = decide (nd l j < nd l k) := by
            unfold ascP
            rw [hL, decide_eq_false h0, show k - 1 = j by omega]; simp
          obtain ⟨ad', e', hbk, hc2⟩ := hx j (by omega)
          cases e'
          have HC2 : Hid (∀ X, Below w.heap.size w X → X.cell? (ad.add j) = some (.int .i64 (nd l j))) := fun X hX => (hX.cell (by rw [addr_block]; exact hbk)).trans hc2
          have hkj : (k : Int) - 1 = (j : Int) := by omega
          have hjl : j < l.length := by omega
          clear hc2
          by_cases hlt2 : nd l j < nd l k
          · have hok : Hid (∀ i, i < k + 1 → ascP S l i = true) := hstep.out (by rw [hokd, decide_eq_true hlt2])
            clear hL hstep hfail H h0 hokd hj
            generalize nd l k = x at *
            generalize nd l j = y at *
            have hd : decide ((x : Int) ≤ (y : Int)) = false := by rw [decide_eq_false_iff_not]; omega
            go_wp2_with (go_at_call 131; ((with_reducible refine (L1.out _).mono ?_); rintro e w2 ⟨rfl, hb2⟩); have b6 := HC2.out _ (stepB hb hb2))
            go_roundw
            case rel => exact ⟨k + 1, by omega, by go_num, hok, hB.below hb2, stepB hb hb2⟩
            case measure => simp [intOf]; omega
          · have hno : Hid (asc S l = false) := hfail.out (by rw [hokd, decide_eq_false hlt2])
            clear hL hstep hfail H h0 hokd hj
            generalize nd l k = x at *
            generalize nd l j = y at *
            have hd : decide ((x : Int) ≤ (y : Int)) = true := by rw [decide_eq_true_iff]; omega
            go_wp2_with (go_at_call 131; ((with_reducible refine (L1.out _).mono ?_); rintro e w2 ⟨rfl, hb2⟩); have b6 := HC2.out _ (stepB hb hb2))
            go_ret
            exact ⟨ret_b hno.out.symm, stepB hb hb2⟩
      | false =>
        have L1 := Lib.hid fun w => isState_is (V := V) (s2 := s2) (s3 := s3) (s4 := s4) hL w
        have hno : Hid (asc S l = false) := hfail.out (by unfold ascP; rw [hL]; rfl)
        clear hL hstep hfail H
        generalize nd l k = x at *
        go_wp2_with (go_at_call 131; ((with_reducible refine (L1.out _).mono ?_); rintro e w2 ⟨rfl, hb2⟩))
        go_ret
        exact ⟨ret_b hno.out.symm, stepB hb hb2⟩
    · have hyes : Hid (asc S l = true) := (allB_iff _ _).2 fun i hi => H.out i (by omega)
      clear H
      go_wp2
      go_ret
      exact ⟨ret_b hyes.out.symm, hb⟩
set_option maxHeartbeats 2000000 in
theorem checkEdge_any (V S f t : Int) (s2 s3 s4 : Value) (p q : Nat) (w : World) (hp : p < 256) (hq : q < 256) :
    Calls Tryd.prog 91 #[.agg #[.int .i64 V, .int .i64 S, s2, s3, s4], .agg #[.int .i64 f, .int .i64 t, .int .u8 p, .int .u8 q]] w fun r w' => r = .returned (.int .i64 (edE V S ⟨f, t, p, q⟩)) ∧ Below w.heap.size w w' := by
  cases h1 : inS S f with
  | false =>
    have HE : Hid (edE V S ⟨f, t, p, q⟩ = 8) := by show _ = _; unfold edE; simp only [h1]; rfl
    have L1 := Lib.hid fun w => isState_is (V := V) (s2 := s2) (s3 := s3) (s4 := s4) h1 w
    clear h1
    go_enter Tryd.func91, Tryd.ntmps91
    go_wp2_with (go_at_call 131; ((with_reducible refine (L1.out _).mono ?_); rintro e w2 ⟨rfl, hb2⟩))
    go_ret
    exact ⟨ret_int HE.out.symm, stepB (bal (bal (Below.refl _ _) _) _) hb2⟩
  | true =>
    have L1 := Lib.hid fun w => isState_is (V := V) (s2 := s2) (s3 := s3) (s4 := s4) h1 w
    cases h2 : inS S t with
    | false =>
      have HE : Hid (edE V S ⟨f, t, p, q⟩ = 8) := by show _ = _; unfold edE; simp only [h1, h2]; rfl
      have L2 := Lib.hid fun w => isState_is (V := V) (s2 := s2) (s3 := s3) (s4 := s4) h2 w
      have B5 := (Boxed5.new w 47 (.int .i64 V) (.int .i64 S) s2 s3 s4).below (bal (Below.refl _ _) (.cells #[.int .i64 f, .int .i64 t, .int .u8 p, .int .u8 q] 81))
      have B4 := Boxed4.new (w.alloc (.cells #[.int .i64 V, .int .i64 S, s2, s3, s4] 47)) 81 (.int .i64 f) (.int .i64 t) (.int .u8 p) (.int .u8 q)
      have K := bal (bal (Below.refl w.heap.size w) (.cells #[.int .i64 V, .int .i64 S, s2, s3, s4] 47)) (.cells #[.int .i64 f, .int .i64 t, .int .u8 p, .int .u8 q] 81)
      simp only [World.size_alloc] at B4
      clear h1 h2
      go_enter Tryd.func91, Tryd.ntmps91
      go_wp2_with (first
        | (go_at_call 131; ((with_reducible refine (L1.out _).mono ?_); rintro e w2 ⟨rfl, hb2⟩); replace B5 := B5.below hb2; replace B4 := B4.below hb2; replace K := stepB K hb2; have b0 := B5.c0; have b1 := B5.c1; have b2 := B5.c2; have b3 := B5.c3; have b4 := B5.c4; have d0 := B4.c0; have d1 := B4.c1; have d2 := B4.c2; have d3 := B4.c3; clear L1)
        | (go_at_call 131; ((with_reducible refine (L2.out _).mono ?_); rintro e w3 ⟨rfl, hb3⟩)))
      go_ret
      exact ⟨ret_int HE.out.symm, stepB K hb3⟩
    | true =>
      have HE : Hid (edE V S ⟨f, t, p, q⟩ = chk p q V) := by show _ = _; unfold edE; simp only [h1, h2]; rfl
      have L2 := Lib.hid fun w => isState_is (V := V) (s2 := s2) (s3 := s3) (s4 := s4) h2 w
      have B5 := (Boxed5.new w 47 (.int .i64 V) (.int .i64 S) s2 s3 s4).below (bal (Below.refl _ _) (.cells #[.int .i64 f, .int .i64 t, .int .u8 p, .int .u8 q] 81))
      have B4 := Boxed4.new (w.alloc (.cells #[.int .i64 V, .int .i64 S, s2, s3, s4] 47)) 81 (.int .i64 f) (.int .i64 t) (.int .u8 p) (.int .u8 q)
      have K := bal (bal (Below.refl w.heap.size w) (.cells #[.int .i64 V, .int .i64 S, s2, s3, s4] 47)) (.cells #[.int .i64 f, .int .i64 t, .int .u8 p, .int .u8 q] 81)
      simp only [World.size_alloc] at B4
      clear h1 h2
      go_enter Tryd.func91, Tryd.ntmps91
      go_wp2_with (first
        | (go_at_call 131; ((with_reducible refine (L1.out _).mono ?_); rintro e w2 ⟨rfl, hb2⟩); replace B5 := B5.below hb2; replace B4 := B4.below hb2; replace K := stepB K hb2; have b0 := B5.c0; have b1 := B5.c1; have b2 := B5.c2; have b3 := B5.c3; have b4 := B5.c4; have d0 := B4.c0; have d1 := B4.c1; have d2 := B4.c2; have d3 := B4.c3; clear L1)
        | (go_at_call 131; ((with_reducible refine (L2.out _).mono ?_); rintro e w3 ⟨rfl, hb3⟩); replace B5 := B5.below hb3; replace B4 := B4.below hb3; replace K := stepB K hb3; clear b0 b1 b2 b3 b4 d0 d1 d2 d3))
      have hS0 : EdS w w.heap.size (w.heap.size + 1) V S s2 s3 s4 f t p q w3 := ⟨B5, B4, K⟩
      have c0 : ∀ r : Cls (EdS w w.heap.size (w.heap.size + 1) V S s2 s3 s4 f t p q), r.w.cell? ⟨w.heap.size, 0, none⟩ = some (.int .i64 V) := fun r => r.h.1.c0
      have d0 : ∀ r : Cls (EdS w w.heap.size (w.heap.size + 1) V S s2 s3 s4 f t p q), r.w.cell? ⟨w.heap.size + 1, 0, none⟩ = some (.int .i64 f) := fun r => r.h.2.1.c0
      have d1 : ∀ r : Cls (EdS w w.heap.size (w.heap.size + 1) V S s2 s3 s4 f t p q), r.w.cell? ⟨w.heap.size + 1, 1, none⟩ = some (.int .i64 t) := fun r => r.h.2.1.c1
      have d2 : ∀ r : Cls (EdS w w.heap.size (w.heap.size + 1) V S s2 s3 s4 f t p q), r.w.cell? ⟨w.heap.size + 1, 2, none⟩ = some (.int .u8 p) := fun r => r.h.2.1.c2
      have d3 : ∀ r : Cls (EdS w w.heap.size (w.heap.size + 1) V S s2 s3 s4 f t p q), r.w.cell? ⟨w.heap.size + 1, 3, none⟩ = some (.int .u8 q) := fun r => r.h.2.1.c3
      haveI : Nonempty (Cls (EdS w w.heap.size (w.heap.size + 1) V S s2 s3 s4 f t p q)) := ⟨⟨w3, hS0⟩⟩
      refine wp_region_cls (EdS w w.heap.size (w.heap.size + 1) V S s2 s3 s4 f t p q) (by kernel_rfl) (by kernel_rfl) (hS0.step (Ap.drewN_below w3 1)) ?_
      repeat (go_big_quiet_step (first
        | (go_at_call 133; rename_i r; refine (letters_any f t p q r.w).mono ?_; rintro e w4 ⟨rfl, hb4⟩; exact ⟨rfl, ⟨⟨w4, r.h.step hb4⟩, rfl⟩⟩)
        | (go_at_call 132; rename_i r; refine (Check_any p q V r.w hp hq).mono ?_; rintro e w4 ⟨rfl, hb4⟩; exact ⟨rfl, ⟨⟨w4, r.h.step hb4⟩, rfl⟩⟩)))
      refine wpQuiet_nil ?_
      rintro _ ⟨⟨X, hX⟩, rfl⟩
      clear c0 d0 d1 d2 d3
      go_wp2
      go_ret
      exact ⟨ret_int HE.out.symm, hX.2.2⟩
end Go.Proofs.YtdjhfndoheoljaaDoor.Nf
