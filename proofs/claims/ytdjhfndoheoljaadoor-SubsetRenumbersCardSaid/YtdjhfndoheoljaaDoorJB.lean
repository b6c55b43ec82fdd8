/- Deterministic automata in memory; the small functions of package subset; Check. -/
import Derived.Test.YtdjhfndoheoljaaDoorJA
import Derived.Test.YtdjhfndoheoljaaDoorFN
import Derived.Test.YtdjhfndoheoljaaDoorHD
namespace Go.Proofs.YtdjhfndoheoljaaDoor.Sb
open Go Go.RowKit Go.Proofs.YtdjhfndoheoljaaDoor Go.Proofs.YtdjhfndoheoljaaDoor.Cb
open Go.Proofs.YtdjhfndoheoljaaDoor.Nf (ret_int ret_b inS Boxed4 Boxed4.new Boxed4.below Boxed4.cells Boxed5 bys_new)
open Go.Proofs.YtdjhfndoheoljaaDoor.Dg (Tabs tb tb_mem mem_tb)
set_option linter.unusedVariables false
set_option linter.unusedSimpArgs false
set_option maxRecDepth 100000
structure Da where
  V : Int
  q0 : Int
  nx : List (List Int)
  fi : List Bool
def rowE (V S : Int) (row : List Int) : Int := if (row.length : Int) = ((2 ^ V.toNat : Nat) : Int) then (if allB (fun i => inS S (nd row i)) row.length then 0 else 8) else 2
def rowsE (V S : Int) (L : List (List Int)) : Nat → Int
  | 0 => 0
  | k + 1 => if rowsE V S L k ≠ 0 then rowsE V S L k else rowE V S (tb L k)
def shpE (V q0 : Int) (n m : Nat) : Int := if 0 ≤ V ∧ V ≤ 6 then (if n = 0 then 3 else if 4096 < n then 4 else if m ≠ n then 2 else if inS n q0 then 0 else 8) else 7
def chkD (d : Da) : Int := if shpE d.V d.q0 d.nx.length d.fi.length ≠ 0 then shpE d.V d.q0 d.nx.length d.fi.length else rowsE d.V d.nx.length d.nx d.nx.length
theorem rowsE_stop {V S : Int} {L : List (List Int)} {k : Nat} (h : rowsE V S L k ≠ 0) : ∀ d, rowsE V S L (k + d) = rowsE V S L k
  | 0 => rfl
  | d + 1 => by
    have := rowsE_stop h d
    show (if rowsE V S L (k + d) ≠ 0 then rowsE V S L (k + d) else _) = _
    rw [this, if_pos h]
theorem rowsE_err {V S : Int} {L : List (List Int)} {k : Nat} (h : rowsE V S L k = 0) (hk : k < L.length) (he : rowE V S (tb L k) ≠ 0) : rowsE V S L L.length = rowE V S (tb L k) := by
  have h1 : rowsE V S L (k + 1) = rowE V S (tb L k) := by
    show (if rowsE V S L k ≠ 0 then rowsE V S L k else _) = _
    rw [if_neg (by omega)]
  have := rowsE_stop (k := k + 1) (by rw [h1]; exact he) (L.length - (k + 1))
  rw [show k + 1 + (L.length - (k + 1)) = L.length by omega] at this
  rw [this, h1]
theorem rowsE_next {V S : Int} {L : List (List Int)} {k : Nat} (h : rowsE V S L k = 0) (he : rowE V S (tb L k) = 0) : rowsE V S L (k + 1) = 0 := by
  show (if rowsE V S L k ≠ 0 then rowsE V S L k else _) = _
  rw [if_neg (by omega), he]
theorem rowsE_all {V S : Int} {L : List (List Int)} : ∀ {k : Nat}, rowsE V S L k = 0 → ∀ j, j < k → rowE V S (tb L j) = 0
  | 0, _, j, hj => absurd hj (by omega)
  | k + 1, h, j, hj => by
    have h0 : rowsE V S L k = 0 := by
      apply Decidable.byContradiction
      intro hn
      have : (if rowsE V S L k ≠ 0 then rowsE V S L k else rowE V S (tb L k)) = 0 := h
      rw [if_pos hn] at this
      exact hn this
    rcases Nat.lt_or_eq_of_le (Nat.le_of_lt_succ hj) with h1 | rfl
    · exact rowsE_all h0 j h1
    · have : (if rowsE V S L j ≠ 0 then rowsE V S L j else rowE V S (tb L j)) = 0 := h
      rwa [if_neg (by omega)] at this
theorem rowsE_none {V S : Int} {L : List (List Int)} : ∀ {k : Nat}, (∀ j, j < k → rowE V S (tb L j) = 0) → rowsE V S L k = 0
  | 0, _ => rfl
  | k + 1, h => rowsE_next (rowsE_none fun j hj => h j (by omega)) (h k (by omega))
theorem rowE_ok {V S : Int} {row : List Int} (h : rowE V S row = 0) : row.length = 2 ^ V.toNat ∧ ∀ z ∈ row, 0 ≤ z ∧ z < S := by
  unfold rowE at h
  split at h
  · rename_i h1
    split at h
    · rename_i h2
      refine ⟨by omega, fun z hz => ?_⟩
      obtain ⟨j, hj, rfl⟩ := List.mem_iff_getElem.1 hz
      have := (allB_iff _ _).1 h2 j hj
      rw [Nf.inS_iff] at this
      unfold nd at this
      rwa [List.getD_eq_getElem?_getD, List.getElem?_eq_getElem hj] at this
    · cases h
  · cases h
theorem ok_rowE {V S : Int} {row : List Int} (h1 : row.length = 2 ^ V.toNat) (h2 : ∀ z ∈ row, 0 ≤ z ∧ z < S) : rowE V S row = 0 := by
  unfold rowE
  rw [if_pos (by omega), if_pos]
  refine (allB_iff _ _).2 fun j hj => ?_
  rw [Nf.inS_iff]
  unfold nd
  rw [List.getD_eq_getElem?_getD, List.getElem?_eq_getElem hj]
  exact h2 _ (List.getElem_mem hj)
/-- A valid automaton. -/
structure OkD (d : Da) : Prop where
  v0 : 0 ≤ d.V
  v6 : d.V ≤ 6
  n0 : 0 < d.nx.length
  n4 : d.nx.length ≤ 4096
  fi : d.fi.length = d.nx.length
  q0 : 0 ≤ d.q0 ∧ d.q0 < d.nx.length
  row : ∀ r ∈ d.nx, r.length = 2 ^ d.V.toNat ∧ ∀ z ∈ r, 0 ≤ z ∧ z < d.nx.length
theorem shp_ok {V q0 : Int} {n m : Nat} (h : shpE V q0 n m = 0) : 0 ≤ V ∧ V ≤ 6 ∧ 0 < n ∧ n ≤ 4096 ∧ m = n ∧ 0 ≤ q0 ∧ q0 < n := by
  unfold shpE at h
  split at h
  · split at h
    · cases h
    · split at h
      · cases h
      · split at h
        · cases h
        · split at h
          · rename_i h1 h2 h3 h4 h5
            rw [Nf.inS_iff] at h5
            omega
          · cases h
  · cases h
theorem ok_shp {V q0 : Int} {n m : Nat} (h : 0 ≤ V ∧ V ≤ 6 ∧ 0 < n ∧ n ≤ 4096 ∧ m = n ∧ 0 ≤ q0 ∧ q0 < n) : shpE V q0 n m = 0 := by
  unfold shpE
  rw [if_pos (by omega), if_neg (by omega), if_neg (by omega), if_neg (by omega), if_pos (by rw [Nf.inS_iff]; omega)]
theorem okD_of {d : Da} (h : chkD d = 0) : OkD d := by
  unfold chkD at h
  split at h
  · rename_i h1; exact absurd h h1
  · rename_i h1
    obtain ⟨a1, a2, a3, a4, a5, a6, a7⟩ := shp_ok (Decidable.not_not.1 h1)
    refine ⟨a1, a2, a3, a4, a5, ⟨a6, a7⟩, fun r hr => ?_⟩
    obtain ⟨j, hj, rfl⟩ := mem_tb hr
    exact rowE_ok (rowsE_all h j hj)
theorem okD_chk {d : Da} (h : OkD d) : chkD d = 0 := by
  unfold chkD
  rw [if_neg (fun hn => hn (ok_shp ⟨h.v0, h.v6, h.n0, h.n4, h.fi, h.q0.1, h.q0.2⟩))]
  exact rowsE_none fun j hj => ok_rowE (h.row _ (tb_mem hj)).1 (h.row _ (tb_mem hj)).2
/-- The slice at B holds the truth values l. -/
def Bools (w : World) (B : Option Addr) (l : List Bool) : Prop := Vals w B l.length fun j => .bool (l.getD j false)
theorem Bools.below {w w' : World} {B : Option Addr} {l : List Bool} (h : Bools w B l) (hb : Below w.heap.size w w') : Bools w' B l := Vals.below h hb
structure DaAt (w : World) (d : Da) (A B : Option Addr) : Prop where
  nx : Tabs w A d.nx
  fi : Bools w B d.fi
theorem DaAt.below {w w' : World} {d : Da} {A B : Option Addr} (h : DaAt w d A B) (hb : Below w.heap.size w w') : DaAt w' d A B := ⟨h.nx.below hb, h.fi.below hb⟩
structure DaLen (d : Da) : Prop where
  nx : d.nx.length ≤ 1000000
  fi : d.fi.length ≤ 1000000
  row : ∀ r ∈ d.nx, r.length ≤ 1000000
theorem OkD.len {d : Da} (h : OkD d) : DaLen d := ⟨by have := h.n4; omega, by have := h.n4; have := h.fi; omega, fun r hr => by
  have h1 := (h.row r hr).1
  have h2 : 2 ^ d.V.toNat ≤ 2 ^ 6 := Nat.pow_le_pow_right (by decide) (by have := h.v6; omega)
  omega⟩
theorem lettersOver_any (v : Nat) (w : World) (hv : v ≤ 6) :
    Calls Tryd.prog 72 #[.int .i64 v] w fun e w' => e = .returned (.int .i64 ((2 ^ v : Nat) : Int)) ∧ w = w' := by
  go_enter Tryd.func72, Tryd.ntmps72
  go_wp2
  go_ret
  exact ⟨ret_int (shl64 hv), rfl⟩
theorem isStateD_any (V q0 z : Int) (A : Option Addr) (n a : Nat) (s3 : Value) (w : World) :
    Calls Tryd.prog 112 #[.agg #[.int .i64 V, .int .i64 q0, .slice A n a, s3], .int .i64 z] w fun r w' => r = .returned (.bool (inS n z)) ∧ Below w.heap.size w w' := by
  by_cases h1 : 0 ≤ z
  · by_cases h2 : z < n
    · go_enter Tryd.func112, Tryd.ntmps112
      go_wp2
      go_ret
      exact ⟨ret_b (by simp [inS, h1, h2]), bal (Below.refl _ _) _⟩
    · go_enter Tryd.func112, Tryd.ntmps112
      go_wp2
      go_ret
      exact ⟨ret_b (by simp [inS, h2]), bal (Below.refl _ _) _⟩
  · go_enter Tryd.func112, Tryd.ntmps112
    go_wp2
    go_ret
    exact ⟨ret_b (by simp [inS]; omega), bal (Below.refl _ _) _⟩
theorem isStateD_is {b : Bool} {V q0 z : Int} {A : Option Addr} {n a : Nat} {s3 : Value} (h : inS n z = b) (w : World) :
    Calls Tryd.prog 112 #[.agg #[.int .i64 V, .int .i64 q0, .slice A n a, s3], .int .i64 z] w fun r w' => r = .returned (.bool b) ∧ Below w.heap.size w w' := by
  subst h; exact isStateD_any V q0 z A n a s3 w
set_option maxHeartbeats 2000000 in
theorem checkShape_any (V q0 : Int) (A B : Option Addr) (n m a b : Nat) (w : World) (hn : n ≤ maxLen) (hm : m ≤ maxLen) :
    Calls Tryd.prog 63 #[.agg #[.int .i64 V, .int .i64 q0, .slice A n a, .slice B m b]] w fun r w' => r = .returned (.int .i64 (shpE V q0 n m)) ∧ Below w.heap.size w w' := by
  unfold maxLen at hn hm
  have hb0 := bal (Below.refl w.heap.size w) (.cells #[.int .i64 V, .int .i64 q0, .slice A n a, .slice B m b] 25)
  by_cases h1 : V < 0
  · have HE : Hid (shpE V q0 n m = 7) := by show _ = _; unfold shpE; rw [if_neg (by omega)]
    go_enter Tryd.func63, Tryd.ntmps63
    go_wp2
    go_ret
    exact ⟨ret_int HE.out.symm, hb0⟩
  by_cases h2 : 6 < V
  · have HE : Hid (shpE V q0 n m = 7) := by show _ = _; unfold shpE; rw [if_neg (by omega)]
    have d1 : decide (V < 0) = false := decide_eq_false h1
    go_enter Tryd.func63, Tryd.ntmps63
    go_wp2
    go_ret
    exact ⟨ret_int HE.out.symm, hb0⟩
  have d1 : decide (V < 0) = false := decide_eq_false h1
  have d2 : decide (6 < V) = false := decide_eq_false h2
  have HE : Hid (shpE V q0 n m = if n = 0 then 3 else if 4096 < n then 4 else if m ≠ n then 2 else if inS n q0 then 0 else 8) := by show _ = _; unfold shpE; rw [if_pos (by omega)]
  clear h1 h2
  by_cases h3 : n = 0
  · replace HE : Hid (shpE V q0 n m = 3) := by show _ = _; rw [HE.out, if_pos h3]
    have d3 : ((n : Int) == 0) = true := by rw [beq_iff_eq]; omega
    clear h3
    go_enter Tryd.func63, Tryd.ntmps63
    go_wp2
    go_ret
    exact ⟨ret_int HE.out.symm, hb0⟩
  have d3 : ((n : Int) == 0) = false := by rw [beq_eq_false_iff_ne]; omega
  replace HE : Hid (shpE V q0 n m = if 4096 < n then 4 else if m ≠ n then 2 else if inS n q0 then 0 else 8) := by show _ = _; rw [HE.out, if_neg h3]
  clear h3
  by_cases h4 : 4096 < n
  · replace HE : Hid (shpE V q0 n m = 4) := by show _ = _; rw [HE.out, if_pos h4]
    have d4 : decide ((4096 : Int) < (n : Int)) = true := decide_eq_true (by omega)
    go_enter Tryd.func63, Tryd.ntmps63
    go_wp2
    go_ret
    exact ⟨ret_int HE.out.symm, hb0⟩
  have d4 : decide ((4096 : Int) < (n : Int)) = false := decide_eq_false (by omega)
  replace HE : Hid (shpE V q0 n m = if m ≠ n then 2 else if inS n q0 then 0 else 8) := by show _ = _; rw [HE.out, if_neg h4]
  clear h4
  by_cases h5 : m ≠ n
  · replace HE : Hid (shpE V q0 n m = 2) := by show _ = _; rw [HE.out, if_pos h5]
    have d5 : ((m : Int) != (n : Int)) = true := by rw [bne_iff_ne]; omega
    clear h5
    go_enter Tryd.func63, Tryd.ntmps63
    go_wp2
    go_ret
    exact ⟨ret_int HE.out.symm, hb0⟩
  have d5 : ((m : Int) != (n : Int)) = false := by rw [bne_eq_false_iff_eq]; omega
  replace HE : Hid (shpE V q0 n m = if inS n q0 then 0 else 8) := by show _ = _; rw [HE.out, if_neg h5]
  clear h5
  cases h6 : inS n q0 with
  | true =>
    replace HE : Hid (shpE V q0 n m = 0) := by show _ = _; rw [HE.out, if_pos h6]
    have L1 := Lib.hid fun X => isStateD_is (V := V) (q0 := q0) (A := A) (a := a) (s3 := .slice B m b) h6 X
    clear h6
    go_enter Tryd.func63, Tryd.ntmps63
    go_wp2_with (go_at_call 112; ((with_reducible refine (L1.out _).mono ?_); rintro e w2 ⟨rfl, hb2⟩))
    go_ret
    exact ⟨ret_int HE.out.symm, stepB hb0 hb2⟩
  | false =>
    replace HE : Hid (shpE V q0 n m = 8) := by show _ = _; rw [HE.out, if_neg (by rw [h6]; simp)]
    have L1 := Lib.hid fun X => isStateD_is (V := V) (q0 := q0) (A := A) (a := a) (s3 := .slice B m b) h6 X
    clear h6
    go_enter Tryd.func63, Tryd.ntmps63
    go_wp2_with (go_at_call 112; ((with_reducible refine (L1.out _).mono ?_); rintro e w2 ⟨rfl, hb2⟩))
    go_ret
    exact ⟨ret_int HE.out.symm, stepB hb0 hb2⟩
set_option maxHeartbeats 2000000 in
theorem checkRow_any (v : Nat) (hv : v ≤ 6) (q0 : Int) (A : Option Addr) (n a : Nat) (s3 : Value) (C : Option Addr) (row : List Int) (c : Nat) (w : World) (hx : Ints w C row) (hl : row.length ≤ 1000000) (hn : n ≤ 1000000) :
    Calls Tryd.prog 64 #[.agg #[.int .i64 v, .int .i64 q0, .slice A n a, s3], .slice C row.length c] w fun r w' => r = .returned (.int .i64 (rowE v n row)) ∧ Below w.heap.size w w' := by
  have hb0 := bal (Below.refl w.heap.size w) (.cells #[.int .i64 v, .int .i64 q0, .slice A n a, s3] 25)
  have hB0 := Boxed4.new w 25 (.int .i64 v) (.int .i64 q0) (.slice A n a) s3
  have HL := Lib.hid fun X => lettersOver_any v X hv
  by_cases h0 : row.length = 2 ^ v
  · have HE : Hid (rowE v n row = if allB (fun i => inS n (nd row i)) row.length then 0 else 8) := by
      show _ = _
      unfold rowE
      rw [Int.toNat_natCast, if_pos (by omega)]
    have d0 : ((row.length : Int) != ((2 ^ v : Nat) : Int)) = false := by rw [bne_eq_false_iff_eq]; omega
    clear h0
    generalize 2 ^ v = K at *
    obtain ⟨z0, z1, z2, z3⟩ := hB0.cells
    go_enter Tryd.func64, Tryd.ntmps64
    go_wp2_with (go_at_call 72; ((with_reducible refine (HL.out _).mono ?_); rintro e w2 ⟨rfl, rfl⟩))
    clear z0 z1 z2 z3
    go_loopw [15] (fun i wr => ∃ k : Nat, k ≤ row.length ∧ i = .int .i64 k ∧ Hid (∀ i, i < k → inS n (nd row i) = true) ∧ Boxed4 wr w.heap.size (.int .i64 v) (.int .i64 q0) (.slice A n a) s3 ∧ Below w.heap.size w wr) (fun i _ => row.length - (intOf i).toNat)
    case atStart => exact ⟨0, by omega, rfl, fun i hi => absurd hi (by omega), hB0, hb0⟩
    case round =>
      clear hB0 hb0
      obtain ⟨k, hk, rfl, H, hB, hb⟩ := hrel
      obtain ⟨b0, b1, b2, b3⟩ := hB.cells
      by_cases hlt : k < row.length
      · obtain ⟨ad, rfl, hcell⟩ := (hx.below hb).at_ hlt
        cases hS : inS n (nd row k) with
        | true =>
          have L1 := Lib.hid fun X => isStateD_is (V := v) (q0 := q0) (A := A) (a := a) (s3 := s3) hS X
          have H' : Hid (∀ i, i < k + 1 → inS n (nd row i) = true) := fun i hi => by
            rcases Nat.lt_or_eq_of_le (Nat.le_of_lt_succ hi) with h1 | rfl
            · exact H.out i h1
            · exact hS
          clear hS H
          generalize nd row k = x at *
          go_wp2_with (go_at_call 112; ((with_reducible refine (L1.out _).mono ?_); rintro e w2 ⟨rfl, hb2⟩))
          go_roundw
          case rel => exact ⟨k + 1, by omega, by go_num, H', hB.below hb2, stepB hb hb2⟩
          case measure => simp [intOf]; omega
        | false =>
          have L1 := Lib.hid fun X => isStateD_is (V := v) (q0 := q0) (A := A) (a := a) (s3 := s3) hS X
          replace HE : Hid (rowE v n row = 8) := by
            show _ = _
            rw [HE.out, allB_false hlt hS]
            rfl
          clear hS H
          generalize nd row k = x at *
          go_wp2_with (go_at_call 112; ((with_reducible refine (L1.out _).mono ?_); rintro e w2 ⟨rfl, hb2⟩))
          go_ret
          exact ⟨ret_int HE.out.symm, stepB hb hb2⟩
      · replace HE : Hid (rowE v n row = 0) := by
          show _ = _
          rw [HE.out, (allB_iff _ _).2 fun i hi => H.out i (by omega)]
          rfl
        clear H
        go_wp2
        go_ret
        exact ⟨ret_int HE.out.symm, hb⟩
  · have HE : Hid (rowE v n row = 2) := by
      show _ = _
      unfold rowE
      rw [Int.toNat_natCast, if_neg (by omega)]
    have d0 : ((row.length : Int) != ((2 ^ v : Nat) : Int)) = true := by rw [bne_iff_ne]; omega
    clear h0 hx
    generalize 2 ^ v = K at *
    obtain ⟨z0, z1, z2, z3⟩ := hB0.cells
    go_enter Tryd.func64, Tryd.ntmps64
    go_wp2_with (go_at_call 72; ((with_reducible refine (HL.out _).mono ?_); rintro e w2 ⟨rfl, rfl⟩))
    go_ret
    exact ⟨ret_int HE.out.symm, hb0⟩
set_option maxHeartbeats 2000000 in
theorem CheckD_any (d : Da) (A B : Option Addr) (a b : Nat) (w : World) (hx : DaAt w d A B) (hl : DaLen d) :
    Calls Tryd.prog 23 #[.agg #[.int .i64 d.V, .int .i64 d.q0, .slice A d.nx.length a, .slice B d.fi.length b]] w fun r w' => r = .returned (.int .i64 (chkD d)) ∧ Below w.heap.size w w' := by
  have hb0 := bal (Below.refl w.heap.size w) (.cells #[.int .i64 d.V, .int .i64 d.q0, .slice A d.nx.length a, .slice B d.fi.length b] 25)
  have hB0 := Boxed4.new w 25 (.int .i64 d.V) (.int .i64 d.q0) (.slice A d.nx.length a) (.slice B d.fi.length b)
  have HS := Lib.hid fun X => checkShape_any d.V d.q0 A B d.nx.length d.fi.length a b X (by have := hl.nx; unfold maxLen; omega) (by have := hl.fi; unfold maxLen; omega)
  by_cases h0 : shpE d.V d.q0 d.nx.length d.fi.length = 0
  · have v0 := (shp_ok h0).1
    have v6 := (shp_ok h0).2.1
    have HE : Hid (chkD d = rowsE d.V d.nx.length d.nx d.nx.length) := by
      show _ = _
      unfold chkD
      rw [if_neg (by rw [h0]; simp)]
    rw [h0] at HS
    have hnx := hx.nx
    have hle := hl.nx
    have hrl := Lib.hid fun j (hj : j < d.nx.length) => hl.row _ (tb_mem hj)
    clear hx hl h0
    obtain ⟨v, hv⟩ : ∃ v : Nat, d.V = v := ⟨d.V.toNat, by omega⟩
    rw [hv] at v6 HE HS hb0 hB0 ⊢
    have HR := Lib.hid fun (k : Nat) (hk : k < d.nx.length) X p c (h : Ints X p (tb d.nx k)) => checkRow_any v (by omega) d.q0 A d.nx.length a (.slice B d.fi.length b) p (tb d.nx k) c X h (hrl.out k hk) hle
    clear hv v0 v6
    generalize d.q0 = q0 at *
    generalize d.fi.length = m at *
    generalize chkD d = E0 at *
    generalize d.nx = L at *
    obtain ⟨z0, z1, z2, z3⟩ := hB0.cells
    go_enter Tryd.func23, Tryd.ntmps23
    go_wp2_with (go_at_call 63; ((with_reducible refine (HS.out _).mono ?_); rintro e w2 ⟨rfl, hb2⟩); clear z0 z1 z2 z3; replace hB0 := hB0.below hb2; replace hb0 := stepB hb0 hb2; obtain ⟨z0, z1, z2, z3⟩ := hB0.cells)
    clear z0 z1 z2 z3
    go_loopw [15] (fun i wr => ∃ k : Nat, k ≤ L.length ∧ i = .int .i64 k ∧ Hid (rowsE v L.length L k = 0) ∧ Boxed4 wr w.heap.size (.int .i64 v) (.int .i64 q0) (.slice A L.length a) (.slice B m b) ∧ Below w.heap.size w wr) (fun i _ => L.length - (intOf i).toNat)
    case atStart => exact ⟨0, by omega, rfl, rfl, hB0, hb0⟩
    case round =>
      clear hB0 hb0
      obtain ⟨k, hk, rfl, H, hB, hb⟩ := hrel
      obtain ⟨b0, b1, b2, b3⟩ := hB.cells
      by_cases hlt : k < L.length
      · obtain ⟨ad, p, c, rfl, hbk, hcell, hi⟩ := (hnx.below hb) k hlt
        have HRk := Lib.hid (HR.out k hlt wr p c hi)
        by_cases h : rowE v L.length (tb L k) = 0
        · have H' : Hid (rowsE v L.length L (k + 1) = 0) := rowsE_next H.out h
          rw [h] at HRk
          clear h H
          go_wp2_with (go_at_call 64; ((with_reducible refine HRk.out.mono ?_); rintro e w2 ⟨rfl, hb2⟩))
          go_roundw
          case rel => exact ⟨k + 1, by omega, by go_num, H', hB.below hb2, stepB hb hb2⟩
          case measure => simp [intOf]; omega
        · replace HE : Hid (E0 = rowE v L.length (tb L k)) := HE.out.trans (rowsE_err H.out hlt h)
          have hne : (rowE v L.length (tb L k) != 0) = true := by rw [bne_iff_ne]; exact h
          clear h H
          generalize rowE v L.length (tb L k) = e0 at *
          go_wp2_with (go_at_call 64; ((with_reducible refine HRk.out.mono ?_); rintro e w2 ⟨rfl, hb2⟩))
          go_ret
          exact ⟨ret_int HE.out.symm, stepB hb hb2⟩
      · obtain rfl : k = L.length := by omega
        replace HE : Hid (E0 = 0) := HE.out.trans H.out
        clear H
        go_wp2
        go_ret
        exact ⟨ret_int HE.out.symm, hb⟩
  · have HE : Hid (chkD d = shpE d.V d.q0 d.nx.length d.fi.length) := by
      show _ = _
      unfold chkD
      rw [if_pos h0]
    have hne : (shpE d.V d.q0 d.nx.length d.fi.length != 0) = true := by rw [bne_iff_ne]; exact h0
    clear h0 hx hl
    generalize shpE d.V d.q0 d.nx.length d.fi.length = e0 at *
    obtain ⟨z0, z1, z2, z3⟩ := hB0.cells
    go_enter Tryd.func23, Tryd.ntmps23
    go_wp2_with (go_at_call 63; ((with_reducible refine (HS.out _).mono ?_); rintro e w2 ⟨rfl, hb2⟩); clear z0 z1 z2 z3)
    go_ret
    exact ⟨ret_int HE.out.symm, stepB hb0 hb2⟩
end Go.Proofs.YtdjhfndoheoljaaDoor.Sb
