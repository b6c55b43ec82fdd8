/- The program's operators and pieces (package regex): the small functions. -/
import Derived.Test.YteckkbjpeckjmaaYG
import Derived.Test.YteckkbjpeckjmaaAP
import Derived.Test.YteckkbjpeckjmaaQC
import Derived.BigQuiet
import Derived.Deep.QuietTactic
import Derived.Outline
namespace Go.Proofs.Yteckkbjpeckjmaa.Rx
open Go Go.RowKit Go.Proofs.Yteckkbjpeckjmaa
set_option linter.unusedVariables false
set_option maxRecDepth 100000
/-- The sign of an operator, the number of its children, whether the sign comes first, whether there is one. -/
def sgn (op : Nat) : Nat := if op = 1 then 48 else if op = 2 then 49 else if op = 3 then 91 else if op = 4 then 46 else if op = 5 then 124 else if op = 6 then 38 else if op = 7 then 126 else if op = 8 then 42 else if op = 9 then 62 else if op = 10 then 60 else 0
def nk (op : Nat) : Nat := if 4 ≤ op ∧ op ≤ 6 then 2 else if 7 ≤ op ∧ op ≤ 10 then 1 else 0
def pfx (op : Nat) : Bool := op == 7 || op == 9 || op == 10
def knw (op : Nat) : Bool := decide (1 ≤ op ∧ op ≤ 10)
theorem nk_le (op : Nat) : nk op ≤ 2 := by
  unfold nk
  split
  · exact Nat.le_refl _
  · split <;> decide
theorem nk_kids {op : Nat} (h : 0 ≤ kids op) : (nk op : Int) = kids op := by
  unfold nk kids at *
  by_cases h1 : 1 ≤ op ∧ op ≤ 3
  · rw [if_pos h1, if_neg (by omega), if_neg (by omega)]; rfl
  · rw [if_neg h1] at *
    by_cases h2 : 4 ≤ op ∧ op ≤ 6
    · rw [if_pos h2, if_pos h2]; rfl
    · rw [if_neg h2] at *
      rw [if_neg h2]
      by_cases h3 : 7 ≤ op ∧ op ≤ 10
      · rw [if_pos h3, if_pos h3]; rfl
      · rw [if_neg h3] at h; omega
theorem knw_kids {op : Nat} : knw op = decide (0 ≤ kids op) := by
  unfold knw kids
  by_cases h1 : 1 ≤ op ∧ op ≤ 3
  · rw [if_pos h1, decide_eq_true (by omega), decide_eq_true (by decide)]
  · rw [if_neg h1]
    by_cases h2 : 4 ≤ op ∧ op ≤ 6
    · rw [if_pos h2, decide_eq_true (by omega), decide_eq_true (by decide)]
    · rw [if_neg h2]
      by_cases h3 : 7 ≤ op ∧ op ≤ 10
      · rw [if_pos h3, decide_eq_true (by omega), decide_eq_true (by decide)]
      · rw [if_neg h3, decide_eq_false (by omega), decide_eq_false (by decide)]
theorem bal {w w' : World} (h : Below w.heap.size w w') (o : Obj) : Below w.heap.size w (w'.alloc o) := h.alloc h.size o
def opv (op : Nat) : Value := .agg #[.int .u8 (sgn op), .int .i64 (nk op), .bool (pfx op)]
theorem ret_op {a b : Value} {p q : Bool} (h : a = b) (h' : p = q) : Ending.returned (.tuple #[a, .bool p]) = .returned (.tuple #[b, .bool q]) := by rw [h, h']
set_option maxHeartbeats 4000000 in
theorem operatorOf_any (op : Nat) (w : World) (ho : op < 256) : Calls Try.prog 55 #[.int .u8 op] w fun e w' => e = .returned (.tuple #[.agg #[.int .u8 (sgn op), .int .i64 (nk op), .bool (pfx op)], .bool (knw op)]) ∧ Below w.heap.size w w' := by
  by_cases h : 1 ≤ op ∧ op ≤ 10
  · have hc : op = 1 ∨ op = 2 ∨ op = 3 ∨ op = 4 ∨ op = 5 ∨ op = 6 ∨ op = 7 ∨ op = 8 ∨ op = 9 ∨ op = 10 := by omega
    clear h
    rcases hc with rfl | rfl | rfl | rfl | rfl | rfl | rfl | rfl | rfl | rfl
    all_goals
      go_enter Try.func55, Try.ntmps55
      go_wp2
      refine bodyPost_ret (v := .tuple #[opv _, .bool true]) (by simp [results, Try.results55, go_sem, opv, sgn, nk, pfx]) rfl ⟨rfl, ?_⟩
      exact bal (Below.refl _ _) _
  · have hk : Hid (sgn op = 0 ∧ nk op = 0 ∧ pfx op = false ∧ knw op = false) := by
      refine ⟨?_, ?_, ?_, ?_⟩
      · unfold sgn
        rw [if_neg (by omega), if_neg (by omega), if_neg (by omega), if_neg (by omega), if_neg (by omega), if_neg (by omega), if_neg (by omega), if_neg (by omega), if_neg (by omega), if_neg (by omega)]
      · unfold nk; rw [if_neg (by omega), if_neg (by omega)]
      · unfold pfx; simp; omega
      · unfold knw; exact decide_eq_false h
    have n1 : ((op : Int) == 1) = false := by rw [beq_eq_false_iff_ne]; omega
    have n2 : ((op : Int) == 2) = false := by rw [beq_eq_false_iff_ne]; omega
    have n3 : ((op : Int) == 3) = false := by rw [beq_eq_false_iff_ne]; omega
    have n4 : ((op : Int) == 4) = false := by rw [beq_eq_false_iff_ne]; omega
    have n5 : ((op : Int) == 5) = false := by rw [beq_eq_false_iff_ne]; omega
    have n6 : ((op : Int) == 6) = false := by rw [beq_eq_false_iff_ne]; omega
    have n7 : ((op : Int) == 7) = false := by rw [beq_eq_false_iff_ne]; omega
    have n8 : ((op : Int) == 8) = false := by rw [beq_eq_false_iff_ne]; omega
    have n9 : ((op : Int) == 9) = false := by rw [beq_eq_false_iff_ne]; omega
    have n10 : ((op : Int) == 10) = false := by rw [beq_eq_false_iff_ne]; omega
    clear h
    go_enter Try.func55, Try.ntmps55
    go_wp2
    obtain ⟨e1, e2, e3, e4⟩ := hk.out
    rw [e1, e2, e3, e4]
    exact bodyPost_ret (v := .tuple #[.agg #[.int .u8 0, .int .i64 0, .bool false], .bool false]) (by simp [results, Try.results55, go_sem]) rfl ⟨rfl, bal (Below.refl _ _) _⟩
theorem isNumberOfVars_any (k : Int) (w : World) :
    Calls Try.prog 30 #[.int .i64 k] w fun e w' => e = .returned (.bool (decide (0 ≤ k ∧ k ≤ 6))) ∧ w = w' := by
  by_cases h1 : 0 ≤ k
  · by_cases h2 : k ≤ 6
    · go_enter Try.func30, Try.ntmps30
      go_wp2
      go_ret
      refine ⟨?_, rfl⟩
      simp [h1, h2]
    · go_enter Try.func30, Try.ntmps30
      go_wp2
      go_ret
      refine ⟨?_, rfl⟩
      simp [h2]
  · go_enter Try.func30, Try.ntmps30
    go_wp2
    go_ret
    refine ⟨?_, rfl⟩
    simp; omega
theorem isNumberOfVars_yes (k : Int) (w : World) (hv : 0 ≤ k ∧ k ≤ 6) : Calls Try.prog 30 #[.int .i64 k] w fun e w' => e = .returned (.bool true) ∧ w = w' := by
  have := isNumberOfVars_any k w
  rwa [decide_eq_true hv] at this
theorem isNumberOfVars_no (k : Int) (w : World) (hv : ¬ (0 ≤ k ∧ k ≤ 6)) : Calls Try.prog 30 #[.int .i64 k] w fun e w' => e = .returned (.bool false) ∧ w = w' := by
  have := isNumberOfVars_any k w
  rwa [decide_eq_false hv] at this
theorem isLook_any (op : Nat) (w : World) (ho : op < 256) : Calls Try.prog 66 #[.int .u8 op] w fun e w' => e = .returned (.bool (op == 9 || op == 10)) ∧ w = w' := by
  by_cases h9 : op = 9
  · subst h9
    go_enter Try.func66, Try.ntmps66
    go_wp2
    go_ret
    exact ⟨rfl, rfl⟩
  · by_cases h10 : op = 10
    · subst h10
      go_enter Try.func66, Try.ntmps66
      go_wp2
      go_ret
      exact ⟨rfl, rfl⟩
    · have n9 : ((op : Int) == 9) = false := by rw [beq_eq_false_iff_ne]; omega
      have n10 : ((op : Int) == 10) = false := by rw [beq_eq_false_iff_ne]; omega
      have hk : Hid ((op == 9 || op == 10) = false) := by
        show _ = _
        simp [h9, h10]
      clear h9 h10
      go_enter Try.func66, Try.ntmps66
      go_wp2
      go_ret
      exact ⟨ret_b hk.out.symm, rfl⟩
theorem cubeOf_any (x : Pc) (w : World) : Calls Try.prog 63 #[.agg #[.int .u8 x.op, .int .u8 x.p, .int .u8 x.q, .int .i64 x.a, .int .i64 x.b]] w fun e w' => e = .returned (.agg #[.int .u8 x.p, .int .u8 x.q]) ∧ Below w.heap.size w w' := by
  obtain ⟨op, p, q, a, b⟩ := x
  go_enter Try.func63, Try.ntmps63
  go_wp2
  exact bodyPost_ret (v := .agg #[.int .u8 p, .int .u8 q]) (by simp [results, Try.results63, go_sem]) rfl ⟨rfl, bal (bal (Below.refl _ _) _) _⟩
end Go.Proofs.Yteckkbjpeckjmaa.Rx
/- The program's operators and pieces (package regex): children, fields, the first piece of a block. -/
namespace Go.Proofs.Yteckkbjpeckjmaa.Rx
open Go Go.RowKit Go.Proofs.Yteckkbjpeckjmaa
set_option linter.unusedVariables false
set_option maxRecDepth 100000
/-- What childrenOf leaves: a new slice of as many numbers as there are children. -/
def ChPost (op : Nat) (a b : Int) (w : World) (e : Ending) (w' : World) : Prop :=
  ∃ g, e = .returned (.slice (some ⟨g, 0, none⟩) (nk op) 2) ∧ w.heap.size ≤ g ∧ g < w'.heap.size ∧ w'.cell? ⟨g, 0, none⟩ = some (.int .i64 a) ∧ w'.cell? ⟨g, 1, none⟩ = some (.int .i64 b) ∧ Below w.heap.size w w'
theorem bcell {W w1 : World} (hb : Below W.heap.size W w1) : (∀ b o, b < W.heap.size → w1.cell? ⟨b, o, none⟩ = W.cell? ⟨b, o, none⟩) ∧ (∀ b o, b < W.heap.size → w1.frozen? ⟨b, o, none⟩ = W.frozen? ⟨b, o, none⟩) :=
  ⟨fun b o h => hb.cell (p := ⟨b, o, none⟩) h, fun b o h => hb.frozen (p := ⟨b, o, none⟩) h⟩
set_option maxHeartbeats 4000000 in
theorem childrenOf_any (x : Pc) (w : World) (ho : x.op < 256) :
    Calls Try.prog 60 #[.agg #[.int .u8 x.op, .int .u8 x.p, .int .u8 x.q, .int .i64 x.a, .int .i64 x.b]] w (ChPost x.op x.a x.b w) := by
  obtain ⟨op, p, q, a, b⟩ := x
  simp only at ho
  have HO := Lib.hid fun X => operatorOf_any op X ho
  have hn := nk_le op
  simp only
  obtain ⟨n, hnn⟩ : ∃ n, n = nk op := ⟨_, rfl⟩
  have HP : Hid (∀ w e w', (∃ g, e = .returned (.slice (some ⟨g, 0, none⟩) n 2) ∧ w.heap.size ≤ g ∧ g < w'.heap.size ∧ w'.cell? ⟨g, 0, none⟩ = some (.int .i64 a) ∧ w'.cell? ⟨g, 1, none⟩ = some (.int .i64 b) ∧ Below w.heap.size w w') → ChPost op a b w e w') := fun w e w' h => by
    rw [hnn] at h; exact h
  have HBl := Lib.hid (bal (Below.refl w.heap.size w) (.cells #[.int .u8 op, .int .u8 p, .int .u8 q, .int .i64 a, .int .i64 b] 32))
  have HFi := Lib.hid (five_new w ⟨op, p, q, a, b⟩ 32)
  rw [← hnn] at HO hn
  clear hnn
  have hc : n = 0 ∨ n = 1 ∨ n = 2 := by omega
  clear hn
  rcases hc with rfl | rfl | rfl
  all_goals
    go_enter Try.func60, Try.ntmps60
    obtain ⟨f0, f1, f2, f3, f4⟩ := HFi.out
    simp only [pv] at f0 f1 f2 f3 f4
    go_wp2_with (go_at_call 55; ((with_reducible refine (HO.out _).mono ?_); rintro e w1 ⟨rfl, hb1⟩); have g3 := (hb1.cell (p := ⟨w.heap.size, 3, none⟩) (by simp)).trans f3; have g4 := (hb1.cell (p := ⟨w.heap.size, 4, none⟩) (by simp)).trans f4; have hs1 : w.heap.size < w1.heap.size := (by have := hb1.size; simp at this; omega); clear f0 f1 f2 f3 f4)
    go_ret
    refine HP.out _ _ _ ⟨_, rfl, ?_, ?_, ?_, ?_, ?_⟩
    · omega
    · simp
    · rw [World.cell?_alloc_at _ _ _ _ (by simp)]; rfl
    · rw [World.cell?_alloc_at _ _ _ _ (by simp)]; rfl
    · exact bal (bal (stepB HBl.out hb1) _) _
def uof (x : Pc) (n : Nat) : Bool := (x.op == 3 || (x.p == 0 && x.q == 0)) && (decide (1 ≤ n) || x.a == 0) && (decide (2 ≤ n) || x.b == 0)
theorem nat_eq0 {n : Nat} {k : Int} (h : (n : Int) = k) : ((n : Int) == k) = true := by rw [beq_iff_eq]; exact h
theorem nat_ne0 {n : Nat} {k : Int} (h : ¬ (n : Int) = k) : ((n : Int) == k) = false := by rw [beq_eq_false_iff_ne]; exact h
theorem int_eq0 {n k : Int} (h : n = k) : (n == k) = true := by rw [beq_iff_eq]; exact h
theorem int_ne0 {n k : Int} (h : ¬ n = k) : (n == k) = false := by rw [beq_eq_false_iff_ne]; exact h
set_option maxHeartbeats 8000000 in
theorem usesOnly_any (x : Pc) (n : Nat) (w : World) (hn : n ≤ 2) :
    Calls Try.prog 61 #[.agg #[.int .u8 x.op, .int .u8 x.p, .int .u8 x.q, .int .i64 x.a, .int .i64 x.b], .int .i64 n] w fun e w' => e = .returned (.bool (uof x n)) ∧ Below w.heap.size w w' := by
  have HC := Lib.hid fun X => cubeOf_any x X
  obtain ⟨op, p, q, a, b⟩ := x
  simp only at HC
  simp only
  have HBl := Lib.hid (bal (Below.refl w.heap.size w) (.cells #[.int .u8 op, .int .u8 p, .int .u8 q, .int .i64 a, .int .i64 b] 32))
  have HFi := Lib.hid (five_new w ⟨op, p, q, a, b⟩ 32)
  have HU : Hid (uof ⟨op, p, q, a, b⟩ n = ((op == 3 || (p == 0 && q == 0)) && (decide (1 ≤ n) || a == 0) && (decide (2 ≤ n) || b == 0))) := rfl
  generalize uof ⟨op, p, q, a, b⟩ n = U at *
  have hc : n = 0 ∨ n = 1 ∨ n = 2 := by omega
  clear hn
  have h1 : (op = 3 ∧ ((op : Int) == 3) = true) ∨ (op ≠ 3 ∧ ((op : Int) == 3) = false) := by
    by_cases h : op = 3
    · exact .inl ⟨h, nat_eq0 (by omega)⟩
    · exact .inr ⟨h, nat_ne0 (by omega)⟩
  have h2 : ∀ p : Nat, (p = 0 ∧ ((p : Int) == 0) = true) ∨ ((p == 0) = false ∧ ((p : Int) == 0) = false) := fun p => by
    by_cases h : p = 0
    · exact .inl ⟨h, nat_eq0 (by omega)⟩
    · exact .inr ⟨by simpa using h, nat_ne0 (by omega)⟩
  have h3 : ∀ p : Int, (p == 0) = true ∨ (p == 0) = false := fun p => by cases h : p == 0 <;> simp
  have h4 : (Hid ((op == 3 || (p == 0 && q == 0)) = false) ∧ ((op : Int) == 3) = false ∧ (((p : Int) == 0) = false ∨ (((p : Int) == 0) = true ∧ ((q : Int) == 0) = false))) ∨
      (Hid ((op == 3 || (p == 0 && q == 0)) = true) ∧ (((op : Int) == 3) = true ∨ (((op : Int) == 3) = false ∧ ((p : Int) == 0) = true ∧ ((q : Int) == 0) = true))) := by
    rcases h1 with ⟨e1, e2⟩ | ⟨e1, e2⟩
    · exact .inr ⟨by show _ = _; rw [e1]; rfl, .inl e2⟩
    · have e1' : (op == 3) = false := by simpa using e1
      rcases h2 p with ⟨p1, p2⟩ | ⟨p1, p2⟩
      · rcases h2 q with ⟨q1, q2⟩ | ⟨q1, q2⟩
        · exact .inr ⟨by show _ = _; rw [p1, q1]; simp, .inr ⟨e2, p2, q2⟩⟩
        · exact .inl ⟨by show _ = _; rw [e1', q1]; simp, e2, .inr ⟨p2, q2⟩⟩
      · exact .inl ⟨by show _ = _; rw [e1', p1]; simp, e2, .inl p2⟩
  rcases h4 with ⟨HL, e3, ep⟩ | ⟨HL, ep⟩
  · have HU2 : Hid (U = false) := by show _ = _; rw [HU.out, HL.out]; simp
    clear h1 h2 h3 HU HL
    rcases hc with rfl | rfl | rfl
    all_goals
      rcases ep with ep | ⟨ep, eq⟩
      all_goals
        go_enter Try.func61, Try.ntmps61
        obtain ⟨f0, f1, f2, f3, f4⟩ := HFi.out
        simp only [pv] at f0 f1 f2 f3 f4
        go_wp2_with (go_at_call 63; ((with_reducible refine (HC.out _).mono ?_); rintro e w1 ⟨rfl, hb1⟩); clear f0 f1 f2 f3 f4)
        go_ret
        exact ⟨ret_b HU2.out.symm, stepB HBl.out hb1⟩
  · have HU2 : Hid (U = ((decide (1 ≤ n) || a == 0) && (decide (2 ≤ n) || b == 0))) := by show _ = _; rw [HU.out, HL.out]; simp
    have ha := h3 a
    have hb := h3 b
    clear h1 h2 h3 HU HL
    have hcs : (n = 0 ∧ (a == 0) = false ∧ Hid (U = false)) ∨ (n = 0 ∧ (a == 0) = true ∧ (b == 0) = false ∧ Hid (U = false)) ∨ (n = 0 ∧ (a == 0) = true ∧ (b == 0) = true ∧ Hid (U = true)) ∨ (n = 1 ∧ (b == 0) = false ∧ Hid (U = false)) ∨ (n = 1 ∧ (b == 0) = true ∧ Hid (U = true)) ∨ (n = 2 ∧ Hid (U = true)) := by
      have HU3 := HU2.out
      rcases hc with rfl | rfl | rfl
      · rcases ha with ha | ha
        · rcases hb with hb | hb
          · rw [ha, hb] at HU3; exact .inr (.inr (.inl ⟨rfl, ha, hb, HU3⟩))
          · rw [ha, hb] at HU3; exact .inr (.inl ⟨rfl, ha, hb, HU3⟩)
        · rw [ha] at HU3; exact .inl ⟨rfl, ha, HU3⟩
      · rcases hb with hb | hb
        · rw [hb] at HU3; exact .inr (.inr (.inr (.inr (.inl ⟨rfl, hb, HU3⟩))))
        · rw [hb] at HU3; exact .inr (.inr (.inr (.inl ⟨rfl, hb, HU3⟩)))
      · exact .inr (.inr (.inr (.inr (.inr ⟨rfl, HU3⟩))))
    clear ha hb HU2 hc
    rcases hcs with ⟨rfl, ea, HR⟩ | ⟨rfl, ea, eb, HR⟩ | ⟨rfl, ea, eb, HR⟩ | ⟨rfl, eb, HR⟩ | ⟨rfl, eb, HR⟩ | ⟨rfl, HR⟩
    all_goals
      rcases ep with ep | ⟨e3, ep, eq⟩
      · go_enter Try.func61, Try.ntmps61
        obtain ⟨f0, f1, f2, f3, f4⟩ := HFi.out
        simp only [pv] at f0 f1 f2 f3 f4
        go_wp2
        go_ret
        exact ⟨ret_b HR.out.symm, HBl.out⟩
      · go_enter Try.func61, Try.ntmps61
        obtain ⟨f0, f1, f2, f3, f4⟩ := HFi.out
        simp only [pv] at f0 f1 f2 f3 f4
        go_wp2_with (go_at_call 63; ((with_reducible refine (HC.out _).mono ?_); rintro e w1 ⟨rfl, hb1⟩); have g3 := (hb1.cell (p := ⟨w.heap.size, 3, none⟩) (by simp)).trans f3; have g4 := (hb1.cell (p := ⟨w.heap.size, 4, none⟩) (by simp)).trans f4; clear f0 f1 f2 f3 f4)
        go_ret
        exact ⟨ret_b HR.out.symm, stepB HBl.out hb1⟩
end Go.Proofs.Yteckkbjpeckjmaa.Rx
/- The first piece of a block, the order of children, a piece's error (package regex). -/
namespace Go.Proofs.Yteckkbjpeckjmaa.Rx
open Go Go.RowKit Go.Proofs.Yteckkbjpeckjmaa
set_option linter.unusedVariables false
set_option maxRecDepth 100000
theorem nk_leaf {op : Nat} (h : 1 ≤ op ∧ op ≤ 3) : nk op = 0 := by unfold nk; rw [if_neg (by omega), if_neg (by omega)]
theorem nk_two {op : Nat} (h : 4 ≤ op ∧ op ≤ 6) : nk op = 2 := by unfold nk; rw [if_pos h]
theorem nk_one {op : Nat} (h : 7 ≤ op ∧ op ≤ 10) : nk op = 1 := by unfold nk; rw [if_neg (by omega), if_pos h]
theorem childrenOf_n {op p q : Nat} {a b : Int} {n : Nat} (ho : op < 256) (hn : nk op = n) (w : World) :
    Calls Try.prog 60 #[.agg #[.int .u8 op, .int .u8 p, .int .u8 q, .int .i64 a, .int .i64 b]] w fun e w' => ∃ g, e = .returned (.slice (some ⟨g, 0, none⟩) n 2) ∧ w.heap.size ≤ g ∧ g < w'.heap.size ∧ w'.cell? ⟨g, 0, none⟩ = some (.int .i64 a) ∧ w'.cell? ⟨g, 1, none⟩ = some (.int .i64 b) ∧ Below w.heap.size w w' := by
  have := childrenOf_any ⟨op, p, q, a, b⟩ w ho
  refine this.mono ?_
  rintro e w' h
  rw [← hn]
  exact h
theorem childrenOf_z {op : Nat} {a b : Int} {n : Nat} (ho : op < 256) (hn : nk op = n) (w : World) :
    Calls Try.prog 60 #[.agg #[.int .u8 op, .int .u8 0, .int .u8 0, .int .i64 a, .int .i64 b]] w fun e w' => ∃ g, e = .returned (.slice (some ⟨g, 0, none⟩) n 2) ∧ w.heap.size ≤ g ∧ g < w'.heap.size ∧ w'.cell? ⟨g, 0, none⟩ = some (.int .i64 a) ∧ w'.cell? ⟨g, 1, none⟩ = some (.int .i64 b) ∧ Below w.heap.size w w' :=
  childrenOf_n (p := 0) (q := 0) ho hn w
/-- A piece of the list in a later world. -/
theorem pcs_five {w wr : World} {A : Option Addr} {e : List Pc} (hx : PcsAt w A e) (hb : Below w.heap.size w wr) {j : Nat} (hj : j < e.length) : ∃ ad, A = some ad ∧ ad.block < w.heap.size ∧ PcOk (pc e j) ∧ wr.cell? (ad.add (j * 5)) = some (.int .u8 (pc e j).op) ∧ wr.cell? ⟨(ad.add (j * 5)).block, (ad.add (j * 5)).off + 1, none⟩ = some (.int .u8 (pc e j).p) ∧ wr.cell? ⟨(ad.add (j * 5)).block, (ad.add (j * 5)).off + 2, none⟩ = some (.int .u8 (pc e j).q) ∧
    wr.cell? ⟨(ad.add (j * 5)).block, (ad.add (j * 5)).off + 3, none⟩ = some (.int .i64 (pc e j).a) ∧ wr.cell? ⟨(ad.add (j * 5)).block, (ad.add (j * 5)).off + 4, none⟩ = some (.int .i64 (pc e j).b) := by
  obtain ⟨hok, ad, rfl, had, hc⟩ := hx j hj
  exact ⟨ad, rfl, had, hok, five_at fun i v hv => (Below.cell hb (by rw [addr_block2]; exact had)).trans (hc i v hv)⟩
set_option maxHeartbeats 8000000 in
theorem first_any (A : Option Addr) (e : List Pc) (c : Nat) (hl : e.length ≤ 1000000) (t : Ex) (s j : Nat) (w : World) (hx : PcsAt w A e) (ho : t.Ok) (hb : Bl e s j t) :
    Calls Try.prog 36 #[.slice A e.length c, .int .i64 j] w fun r w' => r = .returned (.int .i64 s) ∧ Below w.heap.size w w' := by
  have HT : Hid (Bl e s j t ∧ t.Ok) := ⟨hb, ho⟩
  have HX := Lib.hid fun wr (h : Below w.heap.size w wr) j (hj : j < e.length) => pcs_five hx h hj
  have HL := Lib.hid fun s j t (h : Bl e s j t) => bl_lt h
  clear hb ho hx
  obtain ⟨n, hn⟩ : ∃ n, n = e.length := ⟨_, rfl⟩
  rw [← hn] at HX HL hl ⊢
  clear hn
  go_enter Try.func36, Try.ntmps36
  go_wp2
  go_loopw [1] (fun i wr => ∃ (j : Nat) (t : Ex), i = .int .i64 j ∧ Hid (Bl e s j t ∧ t.Ok) ∧ Below w.heap.size w wr) (fun i _ => (intOf i).toNat)
  case atStart => exact ⟨j, t, rfl, HT, Below.refl _ _⟩
  case round =>
    clear HT
    obtain ⟨j, t, rfl, HT, hb⟩ := hrel
    have hj := HL.out s j t HT.out.1
    obtain ⟨ad, rfl, had, hok, f0, f1, f2, f3, f4⟩ := HX.out _ hb j hj
    have hop : (pc e j).op < 256 := hok.op
    clear hok
    cases t with
    | leaf op p q =>
      have hpc := bl_leaf' HT.out.1
      rw [hpc] at f0 f1 f2 f3 f4 hop
      simp only at f0 f1 f2 f3 f4 hop
      have HC := Lib.hid fun X => childrenOf_n (op := op) (p := p) (q := q) (a := 0) (b := 0) hop (nk_leaf HT.out.2.1) X
      have hsj : s = j := by have h : s + 1 = j + 1 := HT.out.1.1; omega
      clear hpc hop HT HL
      have hj2 : (j : Int) < n := by omega
      go_wp2_with (go_at_call 60; ((with_reducible refine (HC.out _).mono ?_); rintro r w1 ⟨g, rfl, hg1, hg2, hc0, hc1, hb1⟩))
      go_ret
      exact ⟨ret_int (by omega), stepB hb hb1⟩
    | one op a =>
      obtain ⟨h0, hpc, hba⟩ := bl_one' HT.out.1
      rw [hpc] at f0 f1 f2 f3 f4 hop
      simp only at f0 f1 f2 f3 f4 hop
      have HC := Lib.hid fun X => childrenOf_z (op := op) (a := (j : Int) - 1) (b := 0) hop (nk_one HT.out.2.1) X
      have HT2 : Hid (Bl e s (j - 1) a ∧ a.Ok) := ⟨hba, HT.out.2.2⟩
      clear hpc hop HT HL hba
      have hj2 : (j : Int) < n := by omega
      have HF := Lib.hid f3
      go_wp2_with (go_at_call 60; ((with_reducible refine (HC.out _).mono ?_); rintro r w1 ⟨g, rfl, hg1, hg2, hc0, hc1, hb1⟩); have f3' := (hb1.cell (p := ⟨(ad.add (j * 5)).block, (ad.add (j * 5)).off + 3, none⟩) (by rw [addr_block]; exact Nat.lt_of_lt_of_le had hb.size)).trans HF.out; clear f0 f1 f2 f3 f4)
      go_roundw
      case rel => exact ⟨j - 1, a, by rw [show ((j - 1 : Nat) : Int) = (j : Int) - 1 by omega], HT2, stepB hb hb1⟩
      case measure => simp [intOf]; omega
    | two op a b =>
      obtain ⟨h0, hpc, hba, hbb⟩ := bl_two' HT.out.1
      rw [hpc] at f0 f1 f2 f3 f4 hop
      simp only at f0 f1 f2 f3 f4 hop
      have HC := Lib.hid fun X => childrenOf_z (op := op) (a := ((s + a.size : Nat) : Int) - 1) (b := (j : Int) - 1) hop (nk_two HT.out.2.1) X
      have HT2 : Hid (Bl e s (s + a.size - 1) a ∧ a.Ok) := ⟨hba, HT.out.2.2.1⟩
      have h1 : s + a.size - 1 < j := by have h : s + (a.size + b.size + 1) = j + 1 := HT.out.1.1; have := b.pos; have := a.pos; omega
      have hpa := a.pos
      clear hpc hop HT HL hba hbb
      obtain ⟨m, hm⟩ : ∃ m, m = s + a.size := ⟨_, rfl⟩
      rw [← hm] at HT2 f3 HC h1
      have hm1 : 1 ≤ m := by omega
      clear hm hpa
      have hj2 : (j : Int) < n := by omega
      have HF := Lib.hid f3
      go_wp2_with (go_at_call 60; ((with_reducible refine (HC.out _).mono ?_); rintro r w1 ⟨g, rfl, hg1, hg2, hc0, hc1, hb1⟩); have f3' := (hb1.cell (p := ⟨(ad.add (j * 5)).block, (ad.add (j * 5)).off + 3, none⟩) (by rw [addr_block]; exact Nat.lt_of_lt_of_le had hb.size)).trans HF.out; clear f0 f1 f2 f3 f4)
      go_roundw
      case rel => exact ⟨m - 1, a, by rw [show ((m - 1 : Nat) : Int) = (m : Int) - 1 by omega], HT2, stepB hb hb1⟩
      case measure => simp [intOf]; omega
theorem ret_bf {x : Bool} (h : x = false) : Ending.returned (.bool false) = .returned (.bool x) := by rw [h]
theorem ret_bt {x : Bool} (h : x = true) : Ending.returned (.bool true) = .returned (.bool x) := by rw [h]
theorem gt_dec {n : Nat} (h : 0 < n) : decide ((0 : Int) < (n : Int)) = true := decide_eq_true (by omega)
theorem beginE_leaf {fs : List Nat} {k : Nat} {x : Pc} (h : kids x.op = 0) : beginE fs k x = some k := by unfold beginE; rw [if_neg (by rw [h]; decide), if_neg (by rw [h]; decide)]
theorem beginE_one {fs : List Nat} {k : Nat} {x : Pc} (h : kids x.op = 1) : beginE fs k x = if x.a ≠ (k : Int) - 1 ∨ k = 0 then none else some (fs.getD (k - 1) 0) := by unfold beginE; rw [if_pos h]
theorem beginE_two {fs : List Nat} {k : Nat} {x : Pc} (h : kids x.op = 2) : beginE fs k x = if x.b ≠ (k : Int) - 1 ∨ k = 0 ∨ fs.getD (k - 1) 0 = 0 ∨ x.a ≠ (fs.getD (k - 1) 0 : Int) - 1 then none else some (fs.getD (fs.getD (k - 1) 0 - 1) 0) := by unfold beginE; rw [if_neg (by rw [h]; decide), if_pos h]
set_option maxHeartbeats 8000000 in
theorem inPost_any (A : Option Addr) (e : List Pc) (c : Nat) (hl : e.length ≤ 1000000) (k : Nat) (v : Int) (fs : List Nat) (w : World) (hx : PcsAt w A e) (hk : k < e.length) (hinv : ChkInv v e k fs) (n : Nat) (hn : (n : Int) = kids (pc e k).op) :
    Calls Try.prog 64 #[.slice A e.length c, .int .i64 k, .int .i64 n] w fun r w' => r = .returned (.bool (beginE fs k (pc e k)).isSome) ∧ Below w.heap.size w w' := by
  obtain ⟨ad, rfl, had, hok, f0, f1, f2, f3, f4⟩ := pcs_five hx (Below.refl _ _) hk
  have hA := Lib.hid fun t s j ho hb => first_any (some ad) e c hl t s j w hx ho hb
  have HX := Lib.hid fun wr (h : Below w.heap.size w wr) => pcs_five hx h hk
  clear f0 f1 f2 hok hx
  obtain ⟨x, hxx⟩ : ∃ x, x = pc e k := ⟨_, rfl⟩
  rw [← hxx] at f3 f4 hn HX ⊢
  obtain ⟨N, hN⟩ : ∃ N, N = e.length := ⟨_, rfl⟩
  rw [← hN] at hA hk hl ⊢
  clear hN
  have hk3 : kids x.op = 0 ∨ kids x.op = 1 ∨ kids x.op = 2 := by rcases kids_cases x.op with h | h | h | h <;> omega
  have hk2 : (k : Int) < N := by omega
  rcases hk3 with h0 | h0 | h0
  · have HR := Lib.hid (congrArg Option.isSome (beginE_leaf (fs := fs) (k := k) h0))
    obtain rfl : n = 0 := by omega
    generalize (beginE fs k x).isSome = R at *
    clear hinv hxx hn h0 hA HX f3 f4
    go_enter Try.func64, Try.ntmps64
    go_wp2
    go_ret
    exact ⟨ret_bt HR.out, Below.refl _ _⟩
  · obtain rfl : n = 1 := by omega
    have hB := beginE_one (fs := fs) (k := k) h0
    by_cases hz : k = 0
    · have HR := Lib.hid (congrArg Option.isSome (hB.trans (if_pos (.inr hz))))
      subst hz
      generalize (beginE fs 0 x).isSome = R at *
      clear hinv hxx hn h0 hA hB HX f3 f4
      go_enter Try.func64, Try.ntmps64
      go_wp2
      go_ret
      exact ⟨ret_bf HR.out, Below.refl _ _⟩
    · have hz1 : 1 ≤ (k : Int) := by omega
      by_cases ha : x.a = (k : Int) - 1
      · have HR := Lib.hid (congrArg Option.isSome (hB.trans (if_neg (by omega))))
        have ha2 := int_eq0 ha
        generalize (beginE fs k x).isSome = R at *
        clear hinv hxx hn h0 hA hB HX f4 ha
        go_enter Try.func64, Try.ntmps64
        go_wp2
        go_ret
        exact ⟨ret_bt HR.out, Below.refl _ _⟩
      · have HR := Lib.hid (congrArg Option.isSome (hB.trans (if_pos (.inl ha))))
        have ha2 := int_ne0 ha
        generalize (beginE fs k x).isSome = R at *
        clear hinv hxx hn h0 hA hB HX f4 ha
        go_enter Try.func64, Try.ntmps64
        go_wp2
        go_ret
        exact ⟨ret_bf HR.out, Below.refl _ _⟩
  · obtain rfl : n = 2 := by omega
    have hB := beginE_two (fs := fs) (k := k) h0
    by_cases hz : k = 0
    · have HR := Lib.hid (congrArg Option.isSome (hB.trans (if_pos (.inr (.inl hz)))))
      subst hz
      generalize (beginE fs 0 x).isSome = R at *
      clear hinv hxx hn h0 hA hB HX f3 f4
      go_enter Try.func64, Try.ntmps64
      go_wp2
      go_ret
      exact ⟨ret_bf HR.out, Below.refl _ _⟩
    · have hz1 : 1 ≤ (k : Int) := by omega
      obtain ⟨t, hto, htb⟩ := hinv.bl (k - 1) (by omega)
      have hF := hA.out t (fs.getD (k - 1) 0) (k - 1) hto htb
      rw [show ((k - 1 : Nat) : Int) = (k : Int) - 1 by omega] at hF
      have hsz : fs.getD (k - 1) 0 ≤ k := by have := htb.1; have := t.pos; omega
      clear htb hto hA
      obtain ⟨s, hs⟩ : ∃ s, s = fs.getD (k - 1) 0 := ⟨_, rfl⟩
      rw [← hs] at hF hB hsz
      have HF := Lib.hid hF
      clear hF
      have HX4 : Hid (∀ wr, Below w.heap.size w wr → wr.cell? ⟨(ad.add (k * 5)).block, (ad.add (k * 5)).off + 3, none⟩ = some (.int .i64 x.a) ∧ wr.cell? ⟨(ad.add (k * 5)).block, (ad.add (k * 5)).off + 4, none⟩ = some (.int .i64 x.b)) := fun wr h => by
        obtain ⟨ad', e1, _, _, _, _, _, g3, g4⟩ := HX.out wr h
        cases e1
        exact ⟨g3, g4⟩
      clear HX
      by_cases hb : x.b = (k : Int) - 1
      · have hb2 := int_eq0 hb
        by_cases hs0 : s = 0
        · have HR := Lib.hid (congrArg Option.isSome (hB.trans (if_pos (.inr (.inr (.inl hs0))))))
          have hs2 : decide ((0 : Int) < (s : Int)) = false := decide_eq_false (by omega)
          have hs3 : decide (0 < s) = false := decide_eq_false (by omega)
          generalize (beginE fs k x).isSome = R at *
          clear hinv hxx hn h0 hB hb hs hs0 f3 f4
          go_enter Try.func64, Try.ntmps64
          go_wp2_with (go_at_call 36; ((with_reducible refine HF.out.mono ?_); rintro r w1 ⟨rfl, hb1⟩); have g3 := (HX4.out _ hb1).1; have g4 := (HX4.out _ hb1).2)
          go_ret
          exact ⟨ret_bf HR.out, hb1⟩
        · have hs2 : decide ((0 : Int) < (s : Int)) = true := decide_eq_true (by omega)
          have hs3 : decide (0 < s) = true := decide_eq_true (by omega)
          by_cases ha : x.a = (s : Int) - 1
          · have HR := Lib.hid (congrArg Option.isSome (hB.trans (if_neg (by omega))))
            have ha2 := int_eq0 ha
            generalize (beginE fs k x).isSome = R at *
            clear hinv hxx hn h0 hB hb hs hs0 f3 f4 ha
            go_enter Try.func64, Try.ntmps64
            go_wp2_with (go_at_call 36; ((with_reducible refine HF.out.mono ?_); rintro r w1 ⟨rfl, hb1⟩); have g3 := (HX4.out _ hb1).1; have g4 := (HX4.out _ hb1).2)
            go_ret
            exact ⟨ret_bt HR.out, hb1⟩
          · have HR := Lib.hid (congrArg Option.isSome (hB.trans (if_pos (.inr (.inr (.inr ha))))))
            have ha2 := int_ne0 ha
            generalize (beginE fs k x).isSome = R at *
            clear hinv hxx hn h0 hB hb hs hs0 f3 f4 ha
            go_enter Try.func64, Try.ntmps64
            go_wp2_with (go_at_call 36; ((with_reducible refine HF.out.mono ?_); rintro r w1 ⟨rfl, hb1⟩); have g3 := (HX4.out _ hb1).1; have g4 := (HX4.out _ hb1).2)
            go_ret
            exact ⟨ret_bf HR.out, hb1⟩
      · have HR := Lib.hid (congrArg Option.isSome (hB.trans (if_pos (.inl hb))))
        have hb2 := int_ne0 hb
        generalize (beginE fs k x).isSome = R at *
        clear hinv hxx hn h0 hB hb hs f3 f4
        go_enter Try.func64, Try.ntmps64
        go_wp2_with (go_at_call 36; ((with_reducible refine HF.out.mono ?_); rintro r w1 ⟨rfl, hb1⟩); have g3 := (HX4.out _ hb1).1; have g4 := (HX4.out _ hb1).2)
        go_ret
        exact ⟨ret_bf HR.out, hb1⟩
end Go.Proofs.Yteckkbjpeckjmaa.Rx
/- A piece's error, and Check (package regex). -/
namespace Go.Proofs.Yteckkbjpeckjmaa.Rx
open Go Go.RowKit Go.Proofs.Yteckkbjpeckjmaa
set_option linter.unusedVariables false
set_option maxRecDepth 100000
/-- What is wrong with piece k, where nothing is wrong with those before it. -/
def stepE (v : Int) (fs : List Nat) (k : Nat) (x : Pc) : Int := if pieceE v x ≠ 0 then pieceE v x else if (beginE fs k x).isSome then 0 else 8
theorem pieceE_uof {v : Int} {x : Pc} (h : 0 ≤ kids x.op) : pieceE v x = if uof x (nk x.op) then (if x.op = 3 then chk x.p x.q v else 0) else 2 := by
  have hn := nk_kids h
  unfold pieceE uof
  rw [if_neg (by omega)]
  by_cases hc : (x.op ≠ 3 ∧ (x.p ≠ 0 ∨ x.q ≠ 0)) ∨ (kids x.op < 1 ∧ x.a ≠ 0) ∨ (kids x.op < 2 ∧ x.b ≠ 0)
  · rw [if_pos hc, if_neg]
    rw [Bool.not_eq_true]
    rcases hc with ⟨h1, h2⟩ | ⟨h1, h2⟩ | ⟨h1, h2⟩
    · have e1 : (x.op == 3) = false := by simpa using h1
      have e2 : (x.p == 0 && x.q == 0) = false := by
        rcases h2 with h2 | h2 <;> simp [h2]
      rw [e1, e2]; rfl
    · have e1 : decide (1 ≤ nk x.op) = false := decide_eq_false (by omega)
      have e2 : (x.a == 0) = false := by simpa using h2
      rw [e1, e2]; simp
    · have e1 : decide (2 ≤ nk x.op) = false := decide_eq_false (by omega)
      have e2 : (x.b == 0) = false := by simpa using h2
      rw [e1, e2]; simp
  · rw [if_neg hc]
    refine (if_pos ?_).symm
    rw [Bool.and_eq_true, Bool.and_eq_true]
    refine ⟨⟨?_, ?_⟩, ?_⟩
    · by_cases h3 : x.op = 3
      · simp [h3]
      · by_cases hp : x.p = 0
        · by_cases hq : x.q = 0
          · simp [hp, hq]
          · exact absurd (.inl ⟨h3, .inr hq⟩) hc
        · exact absurd (.inl ⟨h3, .inl hp⟩) hc
    · by_cases h1 : 1 ≤ nk x.op
      · simp [h1]
      · by_cases ha : x.a = 0
        · simp [ha]
        · exact absurd (.inr (.inl ⟨by omega, ha⟩)) hc
    · by_cases h1 : 2 ≤ nk x.op
      · simp [h1]
      · by_cases ha : x.b = 0
        · simp [ha]
        · exact absurd (.inr (.inr ⟨by omega, ha⟩)) hc
theorem op_cell (W : World) (sg n : Nat) (pf : Bool) : (W.alloc (.cells #[.int .u8 sg, .int .i64 n, .bool pf] 90)).cell? ⟨W.heap.size, 1, none⟩ = some (.int .i64 n) := by rw [World.cell?_alloc_at _ _ _ _ rfl]; rfl
set_option maxHeartbeats 8000000 in
theorem checkPiece_any (A : Option Addr) (e : List Pc) (c : Nat) (hl : e.length ≤ 1000000) (k : Nat) (v : Int) (fs : List Nat) (w : World) (hx : PcsAt w A e) (hk : k < e.length) (hinv : ChkInv v e k fs) :
    Calls Try.prog 35 #[.slice A e.length c, .int .i64 v, .int .i64 k] w fun r w' => r = .returned (.int .i64 (stepE v fs k (pc e k))) ∧ Below w.heap.size w w' := by
  obtain ⟨ad, rfl, had, hok, f0, f1, f2, f3, f4⟩ := pcs_five hx (Below.refl _ _) hk
  have HP := Lib.hid fun wr (h : Below w.heap.size w wr) n hn => inPost_any (some ad) e c hl k v fs wr (hx.below h) hk hinv n hn
  clear hx hinv
  obtain ⟨x, hxx⟩ : ∃ x, x = pc e k := ⟨_, rfl⟩
  rw [← hxx] at f0 f1 f2 f3 f4 HP hok ⊢
  clear hxx
  obtain ⟨N, hN⟩ : ∃ N, N = e.length := ⟨_, rfl⟩
  rw [← hN] at HP hk hl ⊢
  clear hN
  have hop := hok.op
  have hp := hok.p
  have hq := hok.q
  have HO := Lib.hid fun X => operatorOf_any x.op X hop
  have HU := Lib.hid fun X => usesOnly_any x (nk x.op) X (nk_le _)
  have HC := Lib.hid fun X => cubeOf_any x X
  have HK := Lib.hid fun X => Cb.Check_any x.p x.q v X hp hq
  have HFi := Lib.hid (five_new w x 32)
  have HS : Hid (stepE v fs k x = if pieceE v x ≠ 0 then pieceE v x else if (beginE fs k x).isSome then 0 else 8) := rfl
  generalize stepE v fs k x = S at *
  have HPE := Lib.hid (pieceE_uof (v := v) (x := x))
  have HKn := Lib.hid (knw_kids (op := x.op))
  have HNk := Lib.hid (nk_kids (op := x.op))
  have hB3 : Hid (x.op = 3 → (beginE fs k x).isSome = true) := fun h => by rw [beginE_leaf (by rw [h]; rfl)]; rfl
  generalize (beginE fs k x).isSome = R at *
  generalize knw x.op = kw at *
  generalize nk x.op = n at *
  generalize sgn x.op = sg at *
  generalize pfx x.op = pf at *
  have HBl := Lib.hid (bal (Below.refl w.heap.size w) (.cells #[.int .u8 x.op, .int .u8 x.p, .int .u8 x.q, .int .i64 x.a, .int .i64 x.b] 32))
  have hk2 : (k : Int) < N := by omega
  clear hok hp hq
  obtain ⟨op, p, q, a, b⟩ := x
  simp only at *
  by_cases hkn : 0 ≤ kids op
  · have ekw : kw = true := by rw [HKn.out]; exact decide_eq_true hkn
    subst ekw
    have hnk := Lib.hid (HNk.out hkn)
    have hPE := HPE.out hkn
    by_cases hu : uof ⟨op, p, q, a, b⟩ n = true
    · rw [if_pos hu] at hPE
      rw [hu] at HU
      by_cases h3 : op = 3
      · rw [if_pos h3] at hPE
        have HR : Hid (S = chk p q v) := by
          show _ = _
          rw [HS.out, hPE, hB3.out h3]
          by_cases h : chk p q v = 0
          · rw [h]; rfl
          · rw [if_pos h]
        have e3 := nat_eq0 (n := op) (k := 3) (by omega)
        generalize chk p q v = ck at *
        clear HS HPE HKn HNk hB3 hPE hu h3 hnk hkn HP
        go_enter Try.func35, Try.ntmps35
        go_wp2_with (first
          | (go_at_call 55; ((with_reducible refine (HO.out _).mono ?_); rintro r w1 ⟨rfl, hb1⟩); obtain ⟨u0, u1, u2, u3, u4⟩ := HFi.out; simp only [pv] at u0 u1 u2 u3 u4; have g0 := (hb1.cell (p := ⟨w.heap.size, 0, none⟩) (by simp)).trans u0; have g1 := (hb1.cell (p := ⟨w.heap.size, 1, none⟩) (by simp)).trans u1; have g2 := (hb1.cell (p := ⟨w.heap.size, 2, none⟩) (by simp)).trans u2; have g3 := (hb1.cell (p := ⟨w.heap.size, 3, none⟩) (by simp)).trans u3; have g4 := (hb1.cell (p := ⟨w.heap.size, 4, none⟩) (by simp)).trans u4; clear u0 u1 u2 u3 u4 f0 f1 f2 f3 f4; have hs1 : w.heap.size < w1.heap.size := (by have := hb1.size; simp at this; omega))
          | (go_at_call 61; ((with_reducible refine (HU.out _).mono ?_); rintro r w2 ⟨rfl, hb2⟩); have B2 := stepB (bal (Below.refl w1.heap.size w1) _) hb2; have k0 := (B2.cell (p := ⟨w.heap.size, 0, none⟩) hs1).trans g0; have k1 := (B2.cell (p := ⟨w.heap.size, 1, none⟩) hs1).trans g1; have k2 := (B2.cell (p := ⟨w.heap.size, 2, none⟩) hs1).trans g2; have k3 := (B2.cell (p := ⟨w.heap.size, 3, none⟩) hs1).trans g3; have k4 := (B2.cell (p := ⟨w.heap.size, 4, none⟩) hs1).trans g4; have o1 := (hb2.cell (p := ⟨w1.heap.size, 1, none⟩) (by simp)).trans (op_cell w1 sg n pf); clear g0 g1 g2 g3 g4)
          | (go_at_call 63; ((with_reducible refine (HC.out _).mono ?_); rintro r w3 ⟨rfl, hb3⟩))
          | (go_at_call 62; ((with_reducible refine (HK.out _).mono ?_); rintro r w4 ⟨rfl, hb4⟩)))
        go_ret
        exact ⟨ret_int HR.out.symm, stepB (stepB (stepB (stepB HBl.out hb1) B2) hb3) hb4⟩
      · rw [if_neg h3] at hPE
        have e3 := nat_ne0 (n := op) (k := 3) (by omega)
        have HR : Hid (S = if R then 0 else 8) := by
          show _ = _
          rw [HS.out, hPE]; rfl
        clear HS HPE HKn HNk hB3 hPE hu h3 hkn HK HC
        cases R
        all_goals
          go_enter Try.func35, Try.ntmps35
          go_wp2_with (first
            | (go_at_call 55; ((with_reducible refine (HO.out _).mono ?_); rintro r w1 ⟨rfl, hb1⟩); obtain ⟨u0, u1, u2, u3, u4⟩ := HFi.out; simp only [pv] at u0 u1 u2 u3 u4; have g0 := (hb1.cell (p := ⟨w.heap.size, 0, none⟩) (by simp)).trans u0; have g1 := (hb1.cell (p := ⟨w.heap.size, 1, none⟩) (by simp)).trans u1; have g2 := (hb1.cell (p := ⟨w.heap.size, 2, none⟩) (by simp)).trans u2; have g3 := (hb1.cell (p := ⟨w.heap.size, 3, none⟩) (by simp)).trans u3; have g4 := (hb1.cell (p := ⟨w.heap.size, 4, none⟩) (by simp)).trans u4; clear u0 u1 u2 u3 u4 f0 f1 f2 f3 f4; have hs1 : w.heap.size < w1.heap.size := (by have := hb1.size; simp at this; omega))
            | (go_at_call 61; ((with_reducible refine (HU.out _).mono ?_); rintro r w2 ⟨rfl, hb2⟩); have B2 := stepB (bal (Below.refl w1.heap.size w1) _) hb2; have k0 := (B2.cell (p := ⟨w.heap.size, 0, none⟩) hs1).trans g0; have k1 := (B2.cell (p := ⟨w.heap.size, 1, none⟩) hs1).trans g1; have k2 := (B2.cell (p := ⟨w.heap.size, 2, none⟩) hs1).trans g2; have k3 := (B2.cell (p := ⟨w.heap.size, 3, none⟩) hs1).trans g3; have k4 := (B2.cell (p := ⟨w.heap.size, 4, none⟩) hs1).trans g4; have o1 := (hb2.cell (p := ⟨w1.heap.size, 1, none⟩) (by simp)).trans (op_cell w1 sg n pf); clear g0 g1 g2 g3 g4)
            | (go_at_call 64; ((with_reducible refine (HP.out _ (stepB (stepB HBl.out hb1) B2) _ hnk.out).mono ?_); rintro r w4 ⟨rfl, hb4⟩)))
          go_ret
          exact ⟨ret_int HR.out.symm, stepB (stepB (stepB HBl.out hb1) B2) hb4⟩
    · rw [if_neg hu] at hPE
      have hu : uof ⟨op, p, q, a, b⟩ n = false := by simpa using hu
      rw [hu] at HU
      have HR : Hid (S = 2) := by
        show _ = _
        rw [HS.out, hPE]; rfl
      clear HS HPE HKn HNk hB3 hPE hu hkn HK HC HP hnk
      go_enter Try.func35, Try.ntmps35
      go_wp2_with (first
        | (go_at_call 55; ((with_reducible refine (HO.out _).mono ?_); rintro r w1 ⟨rfl, hb1⟩); obtain ⟨u0, u1, u2, u3, u4⟩ := HFi.out; simp only [pv] at u0 u1 u2 u3 u4; have g0 := (hb1.cell (p := ⟨w.heap.size, 0, none⟩) (by simp)).trans u0; have g1 := (hb1.cell (p := ⟨w.heap.size, 1, none⟩) (by simp)).trans u1; have g2 := (hb1.cell (p := ⟨w.heap.size, 2, none⟩) (by simp)).trans u2; have g3 := (hb1.cell (p := ⟨w.heap.size, 3, none⟩) (by simp)).trans u3; have g4 := (hb1.cell (p := ⟨w.heap.size, 4, none⟩) (by simp)).trans u4; clear u0 u1 u2 u3 u4 f0 f1 f2 f3 f4; have hs1 : w.heap.size < w1.heap.size := (by have := hb1.size; simp at this; omega))
        | (go_at_call 61; ((with_reducible refine (HU.out _).mono ?_); rintro r w2 ⟨rfl, hb2⟩); have B2 := stepB (bal (Below.refl w1.heap.size w1) _) hb2; have k0 := (B2.cell (p := ⟨w.heap.size, 0, none⟩) hs1).trans g0; have k1 := (B2.cell (p := ⟨w.heap.size, 1, none⟩) hs1).trans g1; have k2 := (B2.cell (p := ⟨w.heap.size, 2, none⟩) hs1).trans g2; have k3 := (B2.cell (p := ⟨w.heap.size, 3, none⟩) hs1).trans g3; have k4 := (B2.cell (p := ⟨w.heap.size, 4, none⟩) hs1).trans g4; have o1 := (hb2.cell (p := ⟨w1.heap.size, 1, none⟩) (by simp)).trans (op_cell w1 sg n pf); clear g0 g1 g2 g3 g4))
      go_ret
      exact ⟨ret_int HR.out.symm, stepB (stepB HBl.out hb1) B2⟩
  · have ekw : kw = false := by rw [HKn.out]; exact decide_eq_false hkn
    subst ekw
    have HR : Hid (S = 6) := by
      show _ = _
      rw [HS.out, pieceE_bad (by show kids op < 0; omega)]; rfl
    clear HS HPE HKn HNk hB3 hkn HK HC HP HU
    go_enter Try.func35, Try.ntmps35
    go_wp2_with (first
      | (go_at_call 55; ((with_reducible refine (HO.out _).mono ?_); rintro r w1 ⟨rfl, hb1⟩); obtain ⟨u0, u1, u2, u3, u4⟩ := HFi.out; simp only [pv] at u0 u1 u2 u3 u4; have g0 := (hb1.cell (p := ⟨w.heap.size, 0, none⟩) (by simp)).trans u0; have g1 := (hb1.cell (p := ⟨w.heap.size, 1, none⟩) (by simp)).trans u1; have g2 := (hb1.cell (p := ⟨w.heap.size, 2, none⟩) (by simp)).trans u2; have g3 := (hb1.cell (p := ⟨w.heap.size, 3, none⟩) (by simp)).trans u3; have g4 := (hb1.cell (p := ⟨w.heap.size, 4, none⟩) (by simp)).trans u4; clear u0 u1 u2 u3 u4 f0 f1 f2 f3 f4; have hs1 : w.heap.size < w1.heap.size := (by have := hb1.size; simp at this; omega)))
    go_ret
    exact ⟨ret_int HR.out.symm, bal (stepB HBl.out hb1) _⟩
end Go.Proofs.Yteckkbjpeckjmaa.Rx
