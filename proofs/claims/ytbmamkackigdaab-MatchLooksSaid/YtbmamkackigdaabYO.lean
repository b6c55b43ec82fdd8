/- The program's operators and pieces (package regex): children, fields, the first piece of a block. -/
import Derived.Test.YtbmamkackigdaabYN
namespace Go.Proofs.Ytbmamkackigdaab.Rx
open Go Go.RowKit Go.Proofs.Ytbmamkackigdaab
set_option linter.unusedVariables false
set_option maxRecDepth 100000
/-- What childrenOf leaves: a new slice of as many numbers as there are children. -/
def ChPost (op : Nat) (a b : Int) (w : World) (e : Ending) (w' : World) : Prop :=
  ∃ g, e = .returned (.slice (some ⟨g, 0, none⟩) (nk op) 2) ∧ w.heap.size ≤ g ∧ g < w'.heap.size ∧ w'.cell? ⟨g, 0, none⟩ = some (.int .i64 a) ∧ w'.cell? ⟨g, 1, none⟩ = some (.int .i64 b) ∧ Below w.heap.size w w'
theorem bcell {W w1 : World} (hb : Below W.heap.size W w1) : (∀ b o, b < W.heap.size → w1.cell? ⟨b, o, none⟩ = W.cell? ⟨b, o, none⟩) ∧ (∀ b o, b < W.heap.size → w1.frozen? ⟨b, o, none⟩ = W.frozen? ⟨b, o, none⟩) :=
  ⟨fun b o h => hb.cell (p := ⟨b, o, none⟩) h, fun b o h => hb.frozen (p := ⟨b, o, none⟩) h⟩
set_option maxHeartbeats 4000000 in
theorem childrenOf_any (x : Pc) (w : World) (ho : x.op < 256) :
    Calls Try.prog 78 #[.agg #[.int .u8 x.op, .int .u8 x.p, .int .u8 x.q, .int .i64 x.a, .int .i64 x.b]] w (ChPost x.op x.a x.b w) := by
  obtain ⟨op, p, q, a, b⟩ := x
  simp only at ho
  have HO := Lib.hid fun X => operatorOf_any op X ho
  have hn := nk_le op
  simp only
  obtain ⟨n, hnn⟩ : ∃ n, n = nk op := ⟨_, rfl⟩
  have HP : Hid (∀ w e w', (∃ g, e = .returned (.slice (some ⟨g, 0, none⟩) n 2) ∧ w.heap.size ≤ g ∧ g < w'.heap.size ∧ w'.cell? ⟨g, 0, none⟩ = some (.int .i64 a) ∧ w'.cell? ⟨g, 1, none⟩ = some (.int .i64 b) ∧ Below w.heap.size w w') → ChPost op a b w e w') := fun w e w' h => by
    rw [hnn] at h; exact h
  have HBl := Lib.hid (bal (Below.refl w.heap.size w) (.cells #[.int .u8 op, .int .u8 p, .int .u8 q, .int .i64 a, .int .i64 b] 43))
  have HFi := Lib.hid (five_new w ⟨op, p, q, a, b⟩ 43)
  rw [← hnn] at HO hn
  clear hnn
  have hc : n = 0 ∨ n = 1 ∨ n = 2 := by omega
  clear hn
  rcases hc with rfl | rfl | rfl
  all_goals
    go_enter Try.func78, Try.ntmps78
    obtain ⟨f0, f1, f2, f3, f4⟩ := HFi.out
    simp only [pv] at f0 f1 f2 f3 f4
    go_wp2_with (go_at_call 73; ((with_reducible refine (HO.out _).mono ?_); rintro e w1 ⟨rfl, hb1⟩); have g3 := (hb1.cell (p := ⟨w.heap.size, 3, none⟩) (by simp)).trans f3; have g4 := (hb1.cell (p := ⟨w.heap.size, 4, none⟩) (by simp)).trans f4; have hs1 : w.heap.size < w1.heap.size := (by have := hb1.size; simp at this; omega); clear f0 f1 f2 f3 f4)
    go_ret
    refine HP.out _ _ _ ⟨_, rfl, ?_, ?_, ?_, ?_, ?_⟩
    · omega
    · simp
    · rw [World.cell?_alloc_at _ _ _ _ (by simp)]; rfl
    · rw [World.cell?_alloc_at _ _ _ _ (by simp)]; rfl
    · exact bal (bal (stepB HBl.out hb1) _) _
def uof (x : Pc) (n : Nat) : Bool := (x.op == 3 || (x.p == 0 && x.q == 0)) && (decide (1 ≤ n) || x.a == 0) && (decide (2 ≤ n) || x.b == 0)
theorem nat_eq0 {n : Nat} {k : Int} (h : (n : Int) = k) : ((n : Int) == k) = true := by rw [beq_iff_eq]; exact h
theorem nat_ne0 {n : Nat} {k : Int} (h : ¬ (n : Int) = k) : ((n : Int) == k) = false := by rw [beq_eq_false_iff_ne]; exact h
theorem int_eq0 {n k : Int} (h : n = k) : (n == k) = true := by rw [beq_iff_eq]; exact h
theorem int_ne0 {n k : Int} (h : ¬ n = k) : (n == k) = false := by rw [beq_eq_false_iff_ne]; exact h
set_option maxHeartbeats 8000000 in
theorem usesOnly_any (x : Pc) (n : Nat) (w : World) (hn : n ≤ 2) :
    Calls Try.prog 79 #[.agg #[.int .u8 x.op, .int .u8 x.p, .int .u8 x.q, .int .i64 x.a, .int .i64 x.b], .int .i64 n] w fun e w' => e = .returned (.bool (uof x n)) ∧ Below w.heap.size w w' := by
  have HC := Lib.hid fun X => cubeOf_any x X
  obtain ⟨op, p, q, a, b⟩ := x
  simp only at HC
  simp only
  have HBl := Lib.hid (bal (Below.refl w.heap.size w) (.cells #[.int .u8 op, .int .u8 p, .int .u8 q, .int .i64 a, .int .i64 b] 43))
  have HFi := Lib.hid (five_new w ⟨op, p, q, a, b⟩ 43)
  have HU : Hid (uof ⟨op, p, q, a, b⟩ n = ((op == 3 || (p == 0 && q == 0)) && (decide (1 ≤ n) || a == 0) && (decide (2 ≤ n) || b == 0))) := rfl
  generalize uof ⟨op, p, q, a, b⟩ n = U at *
  have hc : n = 0 ∨ n = 1 ∨ n = 2 := by omega
  clear hn
  have h1 : (op = 3 ∧ ((op : Int) == 3) = true) ∨ (op ≠ 3 ∧ ((op : Int) == 3) = false) := by
    by_cases h : op = 3
    · exact .inl ⟨h, nat_eq0 (by omega)⟩
    · exact .inr ⟨h, nat_ne0 (by omega)⟩
  have h2 : ∀ p : Nat, (p = 0 ∧ ((p : Int) == 0) = true) ∨ ((p == 0) = false ∧ ((p : Int) == 0) = false) := fun p => by
    by_cases h : p = 0
    · exact .inl ⟨h, nat_eq0 (by omega)⟩
    · exact .inr ⟨by simpa using h, nat_ne0 (by omega)⟩
  have h3 : ∀ p : Int, (p == 0) = true ∨ (p == 0) = false := fun p => by cases h : p == 0 <;> simp
  have h4 : (Hid ((op == 3 || (p == 0 && q == 0)) = false) ∧ ((op : Int) == 3) = false ∧ (((p : Int) == 0) = false ∨ (((p : Int) == 0) = true ∧ ((q : Int) == 0) = false))) ∨
      (Hid ((op == 3 || (p == 0 && q == 0)) = true) ∧ (((op : Int) == 3) = true ∨ (((op : Int) == 3) = false ∧ ((p : Int) == 0) = true ∧ ((q : Int) == 0) = true))) := by
    rcases h1 with ⟨e1, e2⟩ | ⟨e1, e2⟩
    · exact .inr ⟨by show _ = _; rw [e1]; rfl, .inl e2⟩
    · have e1' : (op == 3) = false := by simpa using e1
      rcases h2 p with ⟨p1, p2⟩ | ⟨p1, p2⟩
      · rcases h2 q with ⟨q1, q2⟩ | ⟨q1, q2⟩
        · exact .inr ⟨by show _ = _; rw [p1, q1]; simp, .inr ⟨e2, p2, q2⟩⟩
        · exact .inl ⟨by show _ = _; rw [e1', q1]; simp, e2, .inr ⟨p2, q2⟩⟩
      · exact .inl ⟨by show _ = _; rw [e1', p1]; simp, e2, .inl p2⟩
  rcases h4 with ⟨HL, e3, ep⟩ | ⟨HL, ep⟩
  · have HU2 : Hid (U = false) := by show _ = _; rw [HU.out, HL.out]; simp
    clear h1 h2 h3 HU HL
    rcases hc with rfl | rfl | rfl
    all_goals
      rcases ep with ep | ⟨ep, eq⟩
      all_goals
        go_enter Try.func79, Try.ntmps79
        obtain ⟨f0, f1, f2, f3, f4⟩ := HFi.out
        simp only [pv] at f0 f1 f2 f3 f4
        go_wp2_with (go_at_call 81; ((with_reducible refine (HC.out _).mono ?_); rintro e w1 ⟨rfl, hb1⟩); clear f0 f1 f2 f3 f4)
        go_ret
        exact ⟨ret_b HU2.out.symm, stepB HBl.out hb1⟩
  · have HU2 : Hid (U = ((decide (1 ≤ n) || a == 0) && (decide (2 ≤ n) || b == 0))) := by show _ = _; rw [HU.out, HL.out]; simp
    have ha := h3 a
    have hb := h3 b
    clear h1 h2 h3 HU HL
    have hcs : (n = 0 ∧ (a == 0) = false ∧ Hid (U = false)) ∨ (n = 0 ∧ (a == 0) = true ∧ (b == 0) = false ∧ Hid (U = false)) ∨ (n = 0 ∧ (a == 0) = true ∧ (b == 0) = true ∧ Hid (U = true)) ∨ (n = 1 ∧ (b == 0) = false ∧ Hid (U = false)) ∨ (n = 1 ∧ (b == 0) = true ∧ Hid (U = true)) ∨ (n = 2 ∧ Hid (U = true)) := by
      have HU3 := HU2.out
      rcases hc with rfl | rfl | rfl
      · rcases ha with ha | ha
        · rcases hb with hb | hb
          · rw [ha, hb] at HU3; exact .inr (.inr (.inl ⟨rfl, ha, hb, HU3⟩))
          · rw [ha, hb] at HU3; exact .inr (.inl ⟨rfl, ha, hb, HU3⟩)
        · rw [ha] at HU3; exact .inl ⟨rfl, ha, HU3⟩
      · rcases hb with hb | hb
        · rw [hb] at HU3; exact .inr (.inr (.inr (.inr (.inl ⟨rfl, hb, HU3⟩))))
        · rw [hb] at HU3; exact .inr (.inr (.inr (.inl ⟨rfl, hb, HU3⟩)))
      · exact .inr (.inr (.inr (.inr (.inr ⟨rfl, HU3⟩))))
    clear ha hb HU2 hc
    rcases hcs with ⟨rfl, ea, HR⟩ | ⟨rfl, ea, eb, HR⟩ | ⟨rfl, ea, eb, HR⟩ | ⟨rfl, eb, HR⟩ | ⟨rfl, eb, HR⟩ | ⟨rfl, HR⟩
    all_goals
      rcases ep with ep | ⟨e3, ep, eq⟩
      · go_enter Try.func79, Try.ntmps79
        obtain ⟨f0, f1, f2, f3, f4⟩ := HFi.out
        simp only [pv] at f0 f1 f2 f3 f4
        go_wp2
        go_ret
        exact ⟨ret_b HR.out.symm, HBl.out⟩
      · go_enter Try.func79, Try.ntmps79
        obtain ⟨f0, f1, f2, f3, f4⟩ := HFi.out
        simp only [pv] at f0 f1 f2 f3 f4
        go_wp2_with (go_at_call 81; ((with_reducible refine (HC.out _).mono ?_); rintro e w1 ⟨rfl, hb1⟩); have g3 := (hb1.cell (p := ⟨w.heap.size, 3, none⟩) (by simp)).trans f3; have g4 := (hb1.cell (p := ⟨w.heap.size, 4, none⟩) (by simp)).trans f4; clear f0 f1 f2 f3 f4)
        go_ret
        exact ⟨ret_b HR.out.symm, stepB HBl.out hb1⟩
end Go.Proofs.Ytbmamkackigdaab.Rx
