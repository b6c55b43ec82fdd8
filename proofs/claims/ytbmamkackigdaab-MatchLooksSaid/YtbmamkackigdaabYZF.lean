/- A letter in a text (package regex): whether a cube's text begins so. -/
import Derived.Test.YtbmamkackigdaabYZD
import Derived.Test.YtbmamkackigdaabYZE
import Derived.Test.YtbmamkackigdaabYM
namespace Go.Proofs.Ytbmamkackigdaab.Rx
open Go Go.RowKit Go.Proofs.Ytbmamkackigdaab
set_option linter.unusedVariables false
set_option maxRecDepth 100000
theorem prs_six {u : List UInt8} (hu : u.length ≤ 4096) : prs u 6 = match readC u with | some pq => (pq, 0) | none => ((0, 0), 2) := by
  unfold prs
  rw [if_neg (by omega), if_neg (by omega)]
  cases h : readC u with
  | none => rfl
  | some c =>
    obtain ⟨h1, h2, h3, _⟩ := readC_sound (p := c.1) (q := c.2) h
    have hc : Cube c.1 c.2 6 := ⟨by decide, by omega, by omega, h3⟩
    have := hc.chk
    simp only
    rw [show ((6 : Int)) = ((6 : Nat) : Int) from rfl, if_pos this]
theorem parse_yes {s : ByteArray} {p q : Nat} (hs : s.size ≤ 4096) (h : readC s.data.toList = some (p, q)) (w : World) :
    Calls Try.prog 121 #[.string s, .int .i64 6] w fun e w' => e = .returned (.tuple #[.agg #[.int .u8 p, .int .u8 q], .int .i64 0]) ∧ Below w.heap.size w w' := by
  have := Parse_any s 6 w (by omega)
  rw [prs_six (by simpa using hs), h] at this
  exact this
theorem parse_no {s : ByteArray} (hs : s.size ≤ 4096) (h : readC s.data.toList = none) (w : World) :
    Calls Try.prog 121 #[.string s, .int .i64 6] w fun e w' => e = .returned (.tuple #[.agg #[.int .u8 0, .int .u8 0], .int .i64 2]) ∧ Below w.heap.size w w' := by
  have := Parse_any s 6 w (by omega)
  rw [prs_six (by simpa using hs), h] at this
  exact this
set_option maxHeartbeats 4000000 in
theorem isCube_any (s : ByteArray) (w : World) (hs : s.size ≤ 4096) :
    Calls Try.prog 142 #[.string s] w fun e w' => e = .returned (.bool (readC s.data.toList).isSome) ∧ Below w.heap.size w w' := by
  cases h : readC s.data.toList with
  | none =>
    have HP := Lib.hid fun X => parse_no hs h X
    clear h
    go_enter Try.func142, Try.ntmps142
    go_wp2_with (go_at_call 121; ((with_reducible refine (HP.out _).mono ?_); rintro r w1 ⟨rfl, hb1⟩))
    go_ret
    exact ⟨rfl, bal hb1 _⟩
  | some pq =>
    obtain ⟨p, q⟩ := pq
    have HP := Lib.hid fun X => parse_yes hs h X
    clear h
    go_enter Try.func142, Try.ntmps142
    go_wp2_with (go_at_call 121; ((with_reducible refine (HP.out _).mono ?_); rintro r w1 ⟨rfl, hb1⟩))
    go_ret
    exact ⟨rfl, bal hb1 _⟩
set_option maxHeartbeats 4000000 in
theorem beginsCube_any (s : ByteArray) (w : World) (hs : s.size ≤ 4095) :
    Calls Try.prog 120 #[.string s] w fun e w' => e = .returned (.bool (begB s.data.toList)) ∧ Below w.heap.size w w' := by
  have HI := Lib.hid fun X => isCube_any s X (by omega)
  have hf : (s ++ ⟨#[102]⟩).data.toList = s.data.toList ++ [102] := by simp
  have HJ := Lib.hid fun X => isCube_any (s ++ ⟨#[102]⟩) X (by rw [ByteArray.size_append]; show s.size + 1 ≤ 4096; omega)
  rw [hf] at HJ
  have HB : Hid (begB s.data.toList = ((readC s.data.toList).isSome || (readC (s.data.toList ++ [102])).isSome)) := rfl
  generalize begB s.data.toList = R at *
  generalize (readC s.data.toList).isSome = a at *
  generalize (readC (s.data.toList ++ [102])).isSome = b at *
  clear hf
  cases a
  · go_enter Try.func120, Try.ntmps120
    go_wp2_with (first
      | (go_at_call 142; ((with_reducible refine (HI.out _).mono ?_); rintro r w1 ⟨rfl, hb1⟩))
      | (go_at_call 142; ((with_reducible refine (HJ.out _).mono ?_); rintro r w2 ⟨rfl, hb2⟩)))
    go_ret
    exact ⟨ret_b HB.out.symm, stepB hb1 hb2⟩
  · go_enter Try.func120, Try.ntmps120
    go_wp2_with (go_at_call 142; ((with_reducible refine (HI.out _).mono ?_); rintro r w1 ⟨rfl, hb1⟩))
    go_ret
    exact ⟨ret_bt (HB.out.trans rfl), hb1⟩
end Go.Proofs.Ytbmamkackigdaab.Rx
