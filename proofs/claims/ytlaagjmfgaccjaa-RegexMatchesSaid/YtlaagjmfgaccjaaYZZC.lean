/- The reference's Block. -/
import Derived.Test.YtlaagjmfgaccjaaYZZB
namespace Go.Proofs.Ytlaagjmfgaccjaa.Rx
open Go Go.RowKit Go.Proofs.Ytlaagjmfgaccjaa
set_option linter.unusedVariables false
set_option maxRecDepth 100000
section
variable (A : Option Addr) (t : Ex) (k c : Nat) (v : Int) (w : World)
set_option maxHeartbeats 4000000 in
theorem refBlock_good (i : Nat) (hx : PcsAt w A (flat t 0)) (hV : t.Valid v) (hk : k = t.size) (hi : i < t.size) :
    Calls Try.prog 12 #[.slice A k c, .int .i64 v, .int .i64 i] w fun r w' => ∃ A' c', r = .returned (.tuple #[.slice A' (sub t i).size c', .int .i64 0]) ∧ w'.ownsRow w.heap.size 43 5 (.slice A' (sub t i).size c') (sub t i).size (pvs (flat (sub t i) 0)) ∧ Below w.heap.size w w' := by
  have hs := hV.size
  have hl : (flat t 0).length ≤ 1000000 := by rw [flat_len]; omega
  have hk' : k = (flat t 0).length := by rw [flat_len]; exact hk
  have HK := Lib.hid (refCheck_L A (flat t 0) c v w hx hl)
  rw [chkL_valid hV, ← hk'] at HK
  obtain ⟨so, sc, ss, _, _⟩ := sub_ok v t i hi hV.ok hV.cubes
  obtain ⟨s, s1, s2⟩ := sub_flat t i 0 hi
  rw [Nat.zero_add] at s2
  have HT : Hid (∀ X, Below w.heap.size w X → Calls Try.prog 41 #[.slice A k c, .int .i64 i] X fun r w' => ∃ A' c', r = .returned (.slice A' (sub t i).size c') ∧ w'.ownsRow X.heap.size 43 5 (.slice A' (sub t i).size c') (sub t i).size (pvs (flat (sub t i) 0)) ∧ Below X.heap.size X w') := fun X hX => by
    have := Cut_any A (flat t 0) c hl (sub t i) s i X (hx.below hX) so (p8_cubes _ so sc) ⟨s1, s2⟩ (by omega)
    rw [← hk'] at this
    exact this
  have hi1 : (i : Int) < k := by omega
  have hi2 : i < k := by omega
  have hk2 : k ≤ 64 := by omega
  have hd0 : decide ((i : Int) < 0) = false := decide_eq_false (by omega)
  have hd1 : decide ((k : Int) ≤ (i : Int)) = false := decide_eq_false (by omega)
  have hd2 : decide (k ≤ i) = false := decide_eq_false (by omega)
  clear hx hV hk hk' hl hs so sc ss s1 s2 hi
  generalize flat (sub t i) 0 = F at *
  generalize (sub t i).size = M at *
  go_enter Try.func12, Try.ntmps12
  go_wp2_with (first
    | (go_at_call 19; ((with_reducible refine HK.out.mono ?_); rintro r w2 ⟨rfl, hb2⟩))
    | (go_at_call 41; ((with_reducible refine (HT.out _ hb2).mono ?_); rintro r w3 ⟨A', c', rfl, ho3, hb3⟩)))
  go_ret2
  exact ⟨A', c', rfl, Ap.own_low ho3 hb2.size, stepB hb2 hb3⟩
set_option maxHeartbeats 4000000 in
theorem refBlock_out (i : Int) (hx : PcsAt w A (flat t 0)) (hV : t.Valid v) (hk : k = t.size) (hi : i < 0 ∨ (t.size : Int) ≤ i) :
    Calls Try.prog 12 #[.slice A k c, .int .i64 v, .int .i64 i] w fun r w' => r = .returned (.tuple #[.slice none 0 0, .int .i64 8]) ∧ Below w.heap.size w w' := by
  have hs := hV.size
  have hl : (flat t 0).length ≤ 1000000 := by rw [flat_len]; omega
  have hk' : k = (flat t 0).length := by rw [flat_len]; exact hk
  have HK := Lib.hid (refCheck_L A (flat t 0) c v w hx hl)
  rw [chkL_valid hV, ← hk'] at HK
  rw [← hk] at hi
  have hk2 : k ≤ 64 := by omega
  clear hx hV hk' hl hs hk
  have hd : (i < 0 ∧ decide (i < 0) = true) ∨ (0 ≤ i ∧ decide (i < 0) = false ∧ decide ((k : Int) ≤ i) = true) := by
    by_cases h : i < 0
    · exact .inl ⟨h, decide_eq_true h⟩
    · exact .inr ⟨by omega, decide_eq_false h, decide_eq_true (by omega)⟩
  clear hi
  rcases hd with ⟨h0, d1⟩ | ⟨h0, d1, d2⟩
  all_goals
    clear h0
    go_enter Try.func12, Try.ntmps12
    go_wp2_with (go_at_call 19; ((with_reducible refine HK.out.mono ?_); rintro r w2 ⟨rfl, hb2⟩))
    go_ret2
    exact ⟨rfl, hb2⟩
end
end Go.Proofs.Ytlaagjmfgaccjaa.Rx
