/- The walk of RegexReverses. -/
import Derived.Test.YtpjnbojplifegaaYZP
namespace Go.Proofs.Ytpjnbojplifegaa.Rx
open Go Go.RowKit Go.Shelf Go.Proofs.Ytpjnbojplifegaa
set_option linter.unusedVariables false
set_option maxRecDepth 100000
set_option maxHeartbeats 8000000 in
theorem regexReverses_walk (A : Option Addr) (l : List Pc) (c : Nat) (v : Int) (w : World) (hx : PcsAt w A l) (hl : l.length ≤ maxLen) (hv : -9223372036854775808 ≤ v ∧ v ≤ 9223372036854775807) :
    Calls Try.prog 7 #[.slice A l.length c, .int .i64 v] w fun e w' => e = .returned (.bool true) ∧ Below w.heap.size w w' := by
  have HAw := Lib.hid fun X => awake_any X
  by_cases h100 : 100 < l.length
  · have d1 : decide ((100 : Int) < (l.length : Int)) = true := decide_eq_true (by omega)
    have h101 : (100 : Int) < (l.length : Int) := by omega
    clear hx hv hl
    generalize l.length = n at *
    go_enter Try.func7, Try.ntmps7
    go_wp2_with (go_at_call 10; ((with_reducible refine (HAw.out _).mono ?_); rintro r w2 ⟨rfl, hb2⟩))
    go_ret
    exact ⟨rfl, hb2⟩
  have d1 : decide ((100 : Int) < (l.length : Int)) = false := decide_eq_false (by omega)
  have hl6 : l.length ≤ 1000000 := by omega
  by_cases hE : chkL v l = 0
  · obtain ⟨t, hV, rfl⟩ := chkL_ok hE
    have hV' := rev_valid hV
    have hlen : t.size = (flat t 0).length := (flat_len t 0).symm
    have HRA : Hid (∀ X, Below w.heap.size w X → Calls Try.prog 19 #[.slice A (flat t 0).length c, .int .i64 v] X fun r w' => ∃ A' c', r = .returned (.tuple #[.slice A' (flat t 0).length c', .int .i64 0]) ∧ PcsAt w' A' (flat (rev t) 0) ∧ Below X.heap.size X w') := fun X hX =>
      (Reverse_good A t _ c v X (hx.below hX) hV hlen.symm).mono fun r w' ⟨A', c', h1, h2, h3⟩ => ⟨A', c', h1, pcs_of_own (hlen ▸ h2) (valid_fine hV'), h3⟩
    have HRB : Hid (∀ X B d, PcsAt X B (flat (rev t) 0) → Calls Try.prog 19 #[.slice B (flat t 0).length d, .int .i64 v] X fun r w' => ∃ A' c', r = .returned (.tuple #[.slice A' (flat t 0).length c', .int .i64 0]) ∧ PcsAt w' A' (flat t 0) ∧ Below X.heap.size X w') := fun X B d hX => by
      have := Reverse_good B (rev t) (flat t 0).length d v X hX hV' (by rw [rev_size]; exact hlen.symm)
      rw [rev_rev] at this
      exact this.mono fun r w' ⟨A', c', h1, h2, h3⟩ => ⟨A', c', h1, pcs_of_own h2 (valid_fine hV), h3⟩
    have HPA : Hid (∀ X, Below w.heap.size w X → Calls Try.prog 17 #[.slice A (flat t 0).length c, .int .i64 v] X fun r w' => r = .returned (.tuple #[.bool (plainT t), .int .i64 0]) ∧ Below X.heap.size X w') := fun X hX =>
      Plain_good A t _ c v X (hx.below hX) hV hlen.symm
    have HPB : Hid (∀ X B d, PcsAt X B (flat (rev t) 0) → Calls Try.prog 17 #[.slice B (flat t 0).length d, .int .i64 v] X fun r w' => r = .returned (.tuple #[.bool (plainT t), .int .i64 0]) ∧ Below X.heap.size X w') := fun X B d hX => by
      have := Plain_good B (rev t) (flat t 0).length d v X hX hV' (by rw [rev_size]; exact hlen.symm)
      rwa [rev_plain] at this
    have HEq : Hid (∀ X B d, Below w.heap.size w X → PcsAt X B (flat t 0) → Calls Try.prog 22 #[.slice B (flat t 0).length d, .slice A (flat t 0).length c] X fun r w' => r = .returned (.bool true) ∧ Below X.heap.size X w') := fun X B d hX hB => by
      have := EqualRegex_any B A (flat t 0) (flat t 0) d c X hB (hx.below hX) hl6
      rw [decide_eq_true rfl] at this
      exact this.mono fun e w' ⟨h1, n, h2⟩ => ⟨h1, h2 ▸ Ap.drewN_below X n⟩
    clear hE hV hV' hlen hx hl6
    generalize (flat t 0).length = n at *
    generalize flat t 0 = F at *
    generalize flat (rev t) 0 = G at *
    generalize plainT t = R at *
    go_enter Try.func7, Try.ntmps7
    cases R
    all_goals
      go_wp2_with (first
        | (go_at_call 10; ((with_reducible refine (HAw.out _).mono ?_); rintro r w1 ⟨rfl, hb1⟩))
        | (go_at_call 19; ((with_reducible refine (HRA.out _ hb1).mono ?_); rintro r w2 ⟨B, d, rfl, P2, hb⟩); have K2 := stepB hb1 hb; clear hb)
        | (go_at_call 19; ((with_reducible refine (HRB.out _ _ _ P2).mono ?_); rintro r w3 ⟨C, f, rfl, P3, hb⟩); have K3 := stepB K2 hb; have P2 := P2.below hb; clear hb)
        | (go_at_call 17; ((with_reducible refine (HPA.out _ K3).mono ?_); rintro r w4 ⟨rfl, hb⟩); have K4 := stepB K3 hb; have P2 := P2.below hb; have P3 := P3.below hb; clear hb)
        | (go_at_call 17; ((with_reducible refine (HPB.out _ _ _ P2).mono ?_); rintro r w5 ⟨rfl, hb⟩); have K5 := stepB K4 hb; have P3 := P3.below hb; clear hb)
        | (go_at_call 22; ((with_reducible refine (HEq.out _ _ _ K5 P3).mono ?_); rintro r w6 ⟨rfl, hb6⟩)))
      go_ret
      exact ⟨rfl, stepB K5 hb6⟩
  · have HRv := Lib.hid fun X (hX : Below w.heap.size w X) => Reverse_bad A l c v X (hx.below hX) hl6 hE
    have HCk := Lib.hid fun X (hX : Below w.heap.size w X) => Check_any A l c v X (hx.below hX) hl6
    have h1 := int_ne hE
    clear hE hx hl6
    generalize chkL v l = E at *
    have h2 : (E == E) = true := beq_self_eq_true E
    generalize l.length = n at *
    go_enter Try.func7, Try.ntmps7
    go_wp2_with (first
      | (go_at_call 10; ((with_reducible refine (HAw.out _).mono ?_); rintro r w1 ⟨rfl, hb1⟩))
      | (go_at_call 19; ((with_reducible refine (HRv.out _ hb1).mono ?_); rintro r w2 ⟨rfl, hb⟩); have K2 := stepB hb1 hb; clear hb)
      | (go_at_call 20; ((with_reducible refine (HCk.out _ K2).mono ?_); rintro r w3 ⟨rfl, hb3⟩)))
    go_ret
    exact ⟨rfl, stepB K2 hb3⟩
end Go.Proofs.Ytpjnbojplifegaa.Rx
