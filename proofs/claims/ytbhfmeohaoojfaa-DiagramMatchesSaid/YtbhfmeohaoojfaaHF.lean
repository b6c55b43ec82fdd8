/- The reference's Value, Apply, Count, Constant. -/
import Derived.Test.YtbhfmeohaoojfaaHE
namespace Go.Proofs.Ytbhfmeohaoojfaa.Dg
open Go Go.RowKit Go.Proofs.Ytbhfmeohaoojfaa.Ap
set_option maxRecDepth 100000
/-- An operation on two values. -/
def valI (op : Nat) (a b : Int) : Int := if op = 1 then max a b else if op = 2 then min a b else if op = 3 then bits .xor .i64 a b else if a = b then 1 else 0
theorem Value_any (op : Nat) (a b : Int) (w : World) (ho : op < 256) :
    Calls Try.prog 64 #[.int .u8 op, .int .i64 a, .int .i64 b] w fun e w' => e = .returned (.int .i64 (valI op a b)) ∧ w = w' := by
  by_cases h1 : op = 1
  · subst h1
    go_enter Try.func64, Try.ntmps64
    go_wp2
    all_goals
      go_ret
      exact ⟨ret_of (by unfold valI; rw [if_pos rfl]; omega), rfl⟩
  · by_cases h2 : op = 2
    · subst h2
      go_enter Try.func64, Try.ntmps64
      go_wp2
      all_goals
        go_ret
        exact ⟨ret_of (by unfold valI; rw [if_neg (by decide), if_pos rfl]; omega), rfl⟩
    · by_cases h3 : op = 3
      · subst h3
        go_enter Try.func64, Try.ntmps64
        go_wp2
        go_ret
        exact ⟨ret_of (by unfold valI; rw [if_neg (by decide), if_neg (by decide), if_pos rfl]), rfl⟩
      · have HV : Hid (valI op a b = if a = b then 1 else 0) := by show _ = _; unfold valI; rw [if_neg h1, if_neg h2, if_neg h3]
        have b1 : ((op : Int) == 1) = false := by rw [beq_eq_false_iff_ne]; omega
        have b2 : ((op : Int) == 2) = false := by rw [beq_eq_false_iff_ne]; omega
        have b3 : ((op : Int) == 3) = false := by rw [beq_eq_false_iff_ne]; omega
        clear h1 h2 h3
        by_cases hab : a = b
        · have hb1 : (a == b) = true := beq_iff_eq.2 hab
          have HE : Hid ((1 : Int) = valI op a b) := by show _ = _; rw [HV.out, if_pos hab]
          clear hab HV
          go_enter Try.func64, Try.ntmps64
          go_wp2
          go_ret
          exact ⟨ret_of HE.out, rfl⟩
        · have hb1 : (a == b) = false := beq_eq_false_iff_ne.2 hab
          have HE : Hid ((0 : Int) = valI op a b) := by show _ = _; rw [HV.out, if_neg hab]
          clear hab HV
          go_enter Try.func64, Try.ntmps64
          go_wp2
          go_ret
          exact ⟨ret_of HE.out, rfl⟩
/-- How often v stands in the list. -/
theorem Count_any (A : Option Addr) (t : List Int) (c : Nat) (v : Int) (w : World) (hx : Ints w A t) (hl : t.length ≤ 1000000) :
    Calls Try.prog 22 #[.slice A t.length c, .int .i64 v] w fun e w' => e = .returned (.int .i64 (t.count v : Nat)) ∧ Below w.heap.size w w' := by
  obtain ⟨n, hn⟩ : ∃ n, n = t.length := ⟨_, rfl⟩
  have hx2 : Vals w A n fun j => .int .i64 (nd t j) := by rw [hn]; exact hx
  have HN := Lib.hid hn
  rw [← hn] at hl ⊢
  clear hn hx
  have HS : Hid (∀ k, k < n → (t.take (k + 1)).count v = (t.take k).count v + if nd t k = v then 1 else 0) := fun k hk => by
    have hk' : k < t.length := by rw [← HN.out]; exact hk
    rw [List.take_succ_eq_append_getElem hk', List.count_append]
    have : nd t k = t[k] := by simp [nd, hk']
    rw [this, List.count_singleton]
    simp
  go_enter Try.func22, Try.ntmps22
  go_wp2
  go_loopw [5, 6] (fun m i wr => ∃ k q : Nat, k ≤ n ∧ q ≤ k ∧ i = .int .i64 k ∧ m = .int .i64 q ∧ Hid (q = (t.take k).count v) ∧ Below w.heap.size w wr) (fun _ i _ => n - (intOf i).toNat)
  case atStart => exact ⟨0, 0, by omega, by omega, rfl, rfl, by show _ = _; simp, Below.refl _ _⟩
  case round =>
    obtain ⟨k, q, hk, hq, rfl, rfl, HQ, hb⟩ := hrel
    by_cases hkn : k < n
    · obtain ⟨ad, rfl, hcell⟩ := (hx2.below hb).at_ hkn
      have HK := Lib.hid (HS.out k hkn)
      generalize nd t k = y at *
      by_cases hy : y = v
      · have hyb : (y == v) = true := beq_iff_eq.2 hy
        have HE : Hid (q + 1 = (t.take (k + 1)).count v) := by show _ = _; rw [HK.out, if_pos hy, ← HQ.out]
        clear hy HK HQ
        go_wp2
        go_roundw
        case rel => exact ⟨k + 1, q + 1, by omega, by omega, by go_num, by go_num, HE, hb⟩
        case measure => simp [intOf]; omega
      · have hyb : (y == v) = false := beq_eq_false_iff_ne.2 hy
        have HE : Hid (q = (t.take (k + 1)).count v) := by show _ = _; rw [HK.out, if_neg hy, ← HQ.out]; rfl
        clear hy HK HQ
        go_wp2
        go_roundw
        case rel => exact ⟨k + 1, q, by omega, by omega, by go_num, rfl, HE, hb⟩
        case measure => simp [intOf]; omega
    · obtain rfl : k = n := by omega
      have HE : Hid (((q : Nat) : Int) = ((t.count v : Nat) : Int)) := by
        show _ = _
        rw [HQ.out, List.take_of_length_le (by have := HN.out; omega)]
      go_wp2
      go_ret
      exact ⟨ret_of HE.out, hb⟩
/-- An operation, letter by letter. -/
def appL (op : Nat) (a b : List Int) (m : Nat) : List Int := (List.range m).map fun y => valI op (nd a y) (nd b y)
theorem appL_succ (op : Nat) (a b : List Int) (m : Nat) : appL op a b (m + 1) = appL op a b m ++ [valI op (nd a m) (nd b m)] := by
  unfold appL
  rw [List.range_succ, List.map_append]; rfl
theorem appL_len (op : Nat) (a b : List Int) (m : Nat) : (appL op a b m).length = m := by simp [appL]
end Go.Proofs.Ytbhfmeohaoojfaa.Dg
