/- Pieces in memory; the reference's small functions. -/
import Derived.Test.YteckkbjpeckjmaaYE
import Derived.Test.YteckkbjpeckjmaaYH
namespace Go.Proofs.Yteckkbjpeckjmaa.Rx
open Go Go.RowKit Go.Proofs.Yteckkbjpeckjmaa
set_option linter.unusedVariables false
set_option maxRecDepth 100000
def pv (x : Pc) : List Value := [.int .u8 x.op, .int .u8 x.p, .int .u8 x.q, .int .i64 x.a, .int .i64 x.b]
def InJ (n : Int) : Prop := -9223372036854775808 ≤ n ∧ n ≤ 9223372036854775807
structure PcOk (x : Pc) : Prop where
  op : x.op < 256
  p : x.p < 256
  q : x.q < 256
  a : InJ x.a
  b : InJ x.b
/-- The pieces l lie in a row that begins at A. -/
def PcsAt (w : World) (A : Option Addr) (l : List Pc) : Prop := ∀ j, j < l.length → PcOk (pc l j) ∧ ∃ ad, A = some ad ∧ ad.block < w.heap.size ∧ ∀ i v, (pv (pc l j))[i]? = some v → w.cell? ((ad.add (j * 5)).add i) = some v
theorem addr_block2 (a : Addr) (i j : Nat) : ((a.add i).add j).block = a.block := by rw [addr_block, addr_block]
theorem PcsAt.below {w w' : World} {A : Option Addr} {l : List Pc} (h : PcsAt w A l) (hb : Below w.heap.size w w') : PcsAt w' A l := fun j hj => by
  obtain ⟨h1, ad, e, h4, h5⟩ := h j hj
  exact ⟨h1, ad, e, Nat.lt_of_lt_of_le h4 hb.size, fun i v hv => (Below.cell hb (by rw [addr_block2]; exact h4)).trans (h5 i v hv)⟩
/-- The five cells of a piece. -/
theorem five_at {Y : World} {ad : Addr} {k : Nat} {x : Pc} (h : ∀ i v, (pv x)[i]? = some v → Y.cell? ((ad.add (k * 5)).add i) = some v) :
    Y.cell? (ad.add (k * 5)) = some (.int .u8 x.op) ∧ Y.cell? ⟨(ad.add (k * 5)).block, (ad.add (k * 5)).off + 1, none⟩ = some (.int .u8 x.p) ∧ Y.cell? ⟨(ad.add (k * 5)).block, (ad.add (k * 5)).off + 2, none⟩ = some (.int .u8 x.q) ∧
    Y.cell? ⟨(ad.add (k * 5)).block, (ad.add (k * 5)).off + 3, none⟩ = some (.int .i64 x.a) ∧ Y.cell? ⟨(ad.add (k * 5)).block, (ad.add (k * 5)).off + 4, none⟩ = some (.int .i64 x.b) :=
  ⟨h 0 _ rfl, h 1 _ rfl, h 2 _ rfl, h 3 _ rfl, h 4 _ rfl⟩
theorem ret_int {x y : Int} (h : x = y) : Ending.returned (.int .i64 x) = .returned (.int .i64 y) := by rw [h]
theorem ret_b {x y : Bool} (h : x = y) : Ending.returned (.bool x) = .returned (.bool y) := by rw [h]
set_option maxHeartbeats 4000000 in
theorem Children_any (op : Nat) (w : World) (ho : op < 256) : Calls Try.prog 93 #[.int .u8 op] w fun e w' => e = .returned (.int .i64 (kids op)) ∧ w = w' := by
  by_cases h : 1 ≤ op ∧ op ≤ 10
  · have hc : op = 1 ∨ op = 2 ∨ op = 3 ∨ op = 4 ∨ op = 5 ∨ op = 6 ∨ op = 7 ∨ op = 8 ∨ op = 9 ∨ op = 10 := by omega
    clear h
    rcases hc with rfl | rfl | rfl | rfl | rfl | rfl | rfl | rfl | rfl | rfl
    all_goals
      go_enter Try.func93, Try.ntmps93
      go_wp2
      go_ret
      exact ⟨ret_int (by decide), rfl⟩
  · have hk : Hid (kids op = -1) := by
      show _ = _
      unfold kids
      rw [if_neg (by omega), if_neg (by omega), if_neg (by omega)]
    have n1 : ((op : Int) == 1) = false := by rw [beq_eq_false_iff_ne]; omega
    have n2 : ((op : Int) == 2) = false := by rw [beq_eq_false_iff_ne]; omega
    have n3 : ((op : Int) == 3) = false := by rw [beq_eq_false_iff_ne]; omega
    have n4 : ((op : Int) == 4) = false := by rw [beq_eq_false_iff_ne]; omega
    have n5 : ((op : Int) == 5) = false := by rw [beq_eq_false_iff_ne]; omega
    have n6 : ((op : Int) == 6) = false := by rw [beq_eq_false_iff_ne]; omega
    have n7 : ((op : Int) == 7) = false := by rw [beq_eq_false_iff_ne]; omega
    have n8 : ((op : Int) == 8) = false := by rw [beq_eq_false_iff_ne]; omega
    have n9 : ((op : Int) == 9) = false := by rw [beq_eq_false_iff_ne]; omega
    have n10 : ((op : Int) == 10) = false := by rw [beq_eq_false_iff_ne]; omega
    clear h
    go_enter Try.func93, Try.ntmps93
    go_wp2
    go_ret
    exact ⟨ret_int hk.out.symm, rfl⟩
theorem look_any (op : Nat) (w : World) (ho : op < 256) : Calls Try.prog 72 #[.int .u8 op] w fun e w' => e = .returned (.bool (op == 9 || op == 10)) ∧ w = w' := by
  by_cases h9 : op = 9
  · subst h9
    go_enter Try.func72, Try.ntmps72
    go_wp2
    go_ret
    exact ⟨rfl, rfl⟩
  · by_cases h10 : op = 10
    · subst h10
      go_enter Try.func72, Try.ntmps72
      go_wp2
      go_ret
      exact ⟨rfl, rfl⟩
    · have n9 : ((op : Int) == 9) = false := by rw [beq_eq_false_iff_ne]; omega
      have n10 : ((op : Int) == 10) = false := by rw [beq_eq_false_iff_ne]; omega
      have hk : Hid ((op == 9 || op == 10) = false) := by
        show _ = _
        simp [h9, h10]
      clear h9 h10
      go_enter Try.func72, Try.ntmps72
      go_wp2
      go_ret
      exact ⟨ret_b hk.out.symm, rfl⟩
/-- What piece answers, told by cases. -/
theorem pieceE_bad {v : Int} {x : Pc} (hk : kids x.op < 0) : pieceE v x = 6 := by unfold pieceE; rw [if_pos hk]
theorem pieceE_form {v : Int} {x : Pc} (hk : ¬ kids x.op < 0) (h : (x.op ≠ 3 ∧ (x.p ≠ 0 ∨ x.q ≠ 0)) ∨ (kids x.op < 1 ∧ x.a ≠ 0) ∨ (kids x.op < 2 ∧ x.b ≠ 0)) : pieceE v x = 2 := by unfold pieceE; rw [if_neg hk, if_pos h]
theorem pieceE_ok {v : Int} {x : Pc} (hk : ¬ kids x.op < 0) (h : ¬ ((x.op ≠ 3 ∧ (x.p ≠ 0 ∨ x.q ≠ 0)) ∨ (kids x.op < 1 ∧ x.a ≠ 0) ∨ (kids x.op < 2 ∧ x.b ≠ 0))) : pieceE v x = if x.op = 3 then chk x.p x.q v else 0 := by unfold pieceE; rw [if_neg hk, if_neg h]
theorem five_new (W : World) (x : Pc) (t : TypeId) : (W.alloc (.cells (pv x).toArray t)).cell? ⟨W.heap.size, 0, none⟩ = some (.int .u8 x.op) ∧ (W.alloc (.cells (pv x).toArray t)).cell? ⟨W.heap.size, 1, none⟩ = some (.int .u8 x.p) ∧
    (W.alloc (.cells (pv x).toArray t)).cell? ⟨W.heap.size, 2, none⟩ = some (.int .u8 x.q) ∧ (W.alloc (.cells (pv x).toArray t)).cell? ⟨W.heap.size, 3, none⟩ = some (.int .i64 x.a) ∧ (W.alloc (.cells (pv x).toArray t)).cell? ⟨W.heap.size, 4, none⟩ = some (.int .i64 x.b) := by
  refine ⟨?_, ?_, ?_, ?_, ?_⟩ <;> (rw [World.cell?_alloc_at _ _ _ _ rfl]; rfl)
theorem int_ne {a b : Int} (h : a ≠ b) : (a != b) = true := by rw [bne_iff_ne]; exact h
theorem int_same {a b : Int} (h : a = b) : (a != b) = false := by rw [h]; simp
set_option maxHeartbeats 8000000 in
theorem piece_any (x : Pc) (v : Int) (w : World) (hx : PcOk x) :
    Calls Try.prog 92 #[.agg #[.int .u8 x.op, .int .u8 x.p, .int .u8 x.q, .int .i64 x.a, .int .i64 x.b], .int .i64 v] w fun e w' => e = .returned (.int .i64 (pieceE v x)) ∧ Below w.heap.size w w' := by
  obtain ⟨op, p, q, a, b⟩ := x
  obtain ⟨ho, hp, hq, ha, hb⟩ := hx
  simp only at ho hp hq ha hb
  have HCh := Lib.hid fun X => Children_any op X ho
  have HCk := Lib.hid fun X => Cb.refCheck_any p q v X hp hq
  have HFi := Lib.hid (five_new w ⟨op, p, q, a, b⟩ 32)
  obtain ⟨f0, f1, f2, f3, f4⟩ := HFi.out
  simp only [pv] at f0 f1 f2 f3 f4
  have HBl := Lib.hid (Cb.bal (Below.refl w.heap.size w) (.cells (pv ⟨op, p, q, a, b⟩).toArray 32))
  by_cases hk9 : kids op < 0
  · have HE := Lib.hid (pieceE_bad (v := v) (x := ⟨op, p, q, a, b⟩) hk9)
    have hd : decide (kids op < 0) = true := decide_eq_true hk9
    generalize pieceE v _ = E at *
    generalize kids op = K at *
    clear hk9
    go_enter Try.func92, Try.ntmps92
    go_wp2_with (go_at_call 93; ((with_reducible refine (HCh.out _).mono ?_); rintro e w1 ⟨rfl, rfl⟩))
    go_ret
    exact ⟨ret_int HE.out.symm, HBl.out⟩
  · have hk : kids op = 0 ∨ kids op = 1 ∨ kids op = 2 := by
      rcases kids_cases op with h | h | h | h <;> omega
    have hk3 : op = 3 → kids op = 0 := fun h => by subst h; rfl
    have hk0 : kids op = 0 → op ≤ 3 := fun h => by rcases kids_cases op with h' | h' | h' | h' <;> omega
    by_cases hA : op ≠ 3 ∧ p ≠ 0
    · have HE := Lib.hid (pieceE_form (v := v) (x := ⟨op, p, q, a, b⟩) hk9 (.inl ⟨hA.1, .inl hA.2⟩))
      have o3 := int_ne (a := (op : Int)) (b := 3) (by omega)
      have pp := int_ne (a := (p : Int)) (b := 0) (by omega)
      generalize pieceE v _ = E at *
      clear hA hk9 hk3 hk0
      rcases hk with hk | hk | hk
      all_goals
        rw [hk] at HCh
        clear hk
        go_enter Try.func92, Try.ntmps92
        go_wp2_with (first
          | (go_at_call 93; ((with_reducible refine (HCh.out _).mono ?_); rintro e w1 ⟨rfl, rfl⟩))
          | (go_at_call 113; ((with_reducible refine (HCk.out _).mono ?_); rintro e w2 ⟨rfl, b2⟩)))
        go_ret
        exact ⟨ret_int HE.out.symm, HBl.out⟩
    by_cases hB : op ≠ 3 ∧ q ≠ 0
    · have HE := Lib.hid (pieceE_form (v := v) (x := ⟨op, p, q, a, b⟩) hk9 (.inl ⟨hB.1, .inr hB.2⟩))
      have o3 := int_ne (a := (op : Int)) (b := 3) (by omega)
      have pp := int_same (a := (p : Int)) (b := 0) (by omega)
      have qq := int_ne (a := (q : Int)) (b := 0) (by omega)
      generalize pieceE v _ = E at *
      clear hA hB hk9 hk3 hk0
      rcases hk with hk | hk | hk
      all_goals
        rw [hk] at HCh
        clear hk
        go_enter Try.func92, Try.ntmps92
        go_wp2_with (first
          | (go_at_call 93; ((with_reducible refine (HCh.out _).mono ?_); rintro e w1 ⟨rfl, rfl⟩))
          | (go_at_call 113; ((with_reducible refine (HCk.out _).mono ?_); rintro e w2 ⟨rfl, b2⟩)))
        go_ret
        exact ⟨ret_int HE.out.symm, HBl.out⟩
    have h1 : (op = 3 ∧ (((op : Int) != 3) = false)) ∨ (op ≠ 3 ∧ (((op : Int) != 3) = true) ∧ (((p : Int) != 0) = false) ∧ (((q : Int) != 0) = false)) := by
      by_cases h3 : op = 3
      · exact .inl ⟨h3, int_same (by omega)⟩
      · exact .inr ⟨h3, int_ne (by omega), int_same (by omega), int_same (by omega)⟩
    by_cases hC : kids op < 1 ∧ a ≠ 0
    · have HE := Lib.hid (pieceE_form (v := v) (x := ⟨op, p, q, a, b⟩) hk9 (.inr (.inl hC)))
      have hK : kids op = 0 := by omega
      have aa := int_ne hC.2
      generalize pieceE v _ = E at *
      rw [hK] at HCh
      clear hA hB hC hk9 hk hk3 hk0 hK
      rcases h1 with ⟨h3, o3⟩ | ⟨h3, o3, pp, qq⟩
      all_goals
        clear h3
        go_enter Try.func92, Try.ntmps92
        go_wp2_with (first
          | (go_at_call 93; ((with_reducible refine (HCh.out _).mono ?_); rintro e w1 ⟨rfl, rfl⟩))
          | (go_at_call 113; ((with_reducible refine (HCk.out _).mono ?_); rintro e w2 ⟨rfl, b2⟩)))
        go_ret
        exact ⟨ret_int HE.out.symm, HBl.out⟩
    by_cases hD : kids op < 2 ∧ b ≠ 0
    · have HE := Lib.hid (pieceE_form (v := v) (x := ⟨op, p, q, a, b⟩) hk9 (.inr (.inr hD)))
      have bb := int_ne hD.2
      have aa : kids op < 1 → (a != 0) = false := fun h => int_same (Decidable.byContradiction fun h' => hC ⟨h, h'⟩)
      have hK : (kids op = 0 ∧ (a != 0) = false) ∨ kids op = 1 := by
        rcases hk with h | h | h
        · exact .inl ⟨h, aa (by omega)⟩
        · exact .inr h
        · omega
      generalize pieceE v _ = E at *
      clear hA hB hC hD hk9 hk hk3 hk0 aa
      rcases hK with ⟨hK, aa⟩ | hK
      all_goals
        rw [hK] at HCh
        clear hK
        rcases h1 with ⟨h3, o3⟩ | ⟨h3, o3, pp, qq⟩
        all_goals
          clear h3
          go_enter Try.func92, Try.ntmps92
          go_wp2_with (first
            | (go_at_call 93; ((with_reducible refine (HCh.out _).mono ?_); rintro e w1 ⟨rfl, rfl⟩))
            | (go_at_call 113; ((with_reducible refine (HCk.out _).mono ?_); rintro e w2 ⟨rfl, b2⟩)))
          go_ret
          exact ⟨ret_int HE.out.symm, HBl.out⟩
    have hN : ¬ ((op ≠ 3 ∧ (p ≠ 0 ∨ q ≠ 0)) ∨ (kids op < 1 ∧ a ≠ 0) ∨ (kids op < 2 ∧ b ≠ 0)) := by
      rintro (⟨h, h' | h'⟩ | h | h)
      · exact hA ⟨h, h'⟩
      · exact hB ⟨h, h'⟩
      · exact hC h
      · exact hD h
    have HE0 := pieceE_ok (v := v) (x := ⟨op, p, q, a, b⟩) hk9 hN
    have aa : kids op < 1 → (a != 0) = false := fun h => int_same (Decidable.byContradiction fun h' => hC ⟨h, h'⟩)
    have bb : kids op < 2 → (b != 0) = false := fun h => int_same (Decidable.byContradiction fun h' => hD ⟨h, h'⟩)
    have hK : (kids op = 0 ∧ (a != 0) = false ∧ (b != 0) = false) ∨ (kids op = 1 ∧ (b != 0) = false) ∨ kids op = 2 := by
      rcases hk with h | h | h
      · exact .inl ⟨h, aa (by omega), bb (by omega)⟩
      · exact .inr (.inl ⟨h, bb (by omega)⟩)
      · exact .inr (.inr h)
    rcases h1 with ⟨h3, o3⟩ | ⟨h3, o3, pp, qq⟩
    · have hK0 := hk3 h3
      have o4 : ((op : Int) == 3) = true := by rw [h3]; rfl
      rw [hK0] at HCh hK
      have e1 : (a != 0) = false ∧ (b != 0) = false := by
        rcases hK with ⟨_, h⟩ | ⟨h, _⟩ | h
        · exact h
        · cases h
        · cases h
      obtain ⟨aa', bb'⟩ := e1
      have HE := Lib.hid (HE0.trans (if_pos h3))
      clear HE0
      generalize pieceE v _ = E at *
      clear hA hB hC hD hk9 hk hk3 hk0 aa bb hN hK hK0 h3
      go_enter Try.func92, Try.ntmps92
      go_wp2_with (first
        | (go_at_call 93; ((with_reducible refine (HCh.out _).mono ?_); rintro e w1 ⟨rfl, rfl⟩))
        | (go_at_call 113; ((with_reducible refine (HCk.out _).mono ?_); rintro e w2 ⟨rfl, b2⟩)))
      go_ret
      exact ⟨ret_int HE.out.symm, stepB HBl.out b2⟩
    · have o4 : ((op : Int) == 3) = false := by rw [beq_eq_false_iff_ne]; omega
      have HE := Lib.hid (HE0.trans (if_neg h3))
      clear HE0
      generalize pieceE v _ = E at *
      clear hA hB hC hD hk9 hk hk3 hk0 aa bb hN
      rcases hK with ⟨hK, aa, bb⟩ | ⟨hK, bb⟩ | hK
      all_goals
        rw [hK] at HCh
        clear hK
        go_enter Try.func92, Try.ntmps92
        go_wp2_with (first
          | (go_at_call 93; ((with_reducible refine (HCh.out _).mono ?_); rintro e w1 ⟨rfl, rfl⟩))
          | (go_at_call 113; ((with_reducible refine (HCk.out _).mono ?_); rintro e w2 ⟨rfl, b2⟩)))
        go_ret
        exact ⟨ret_int HE.out.symm, HBl.out⟩
end Go.Proofs.Yteckkbjpeckjmaa.Rx
