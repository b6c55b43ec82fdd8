/- The walk of RegexRoundTrip. -/
import Derived.Test.YtpjnbojplifegaaYZS
namespace Go.Proofs.Ytpjnbojplifegaa.Rx
open Go Go.RowKit Go.Shelf Go.Proofs.Ytpjnbojplifegaa
set_option linter.unusedVariables false
set_option maxRecDepth 100000
theorem drewB (X : World) (n : Nat) : Below X.heap.size X (X.drewN n) := Ap.drewN_below X n
set_option maxHeartbeats 16000000 in
theorem regexRoundTrip_walk (A : Option Addr) (l : List Pc) (c : Nat) (s : ByteArray) (v : Int) (w : World) (hx : PcsAt w A l) (hl : l.length ≤ maxLen) (hs : s.size ≤ maxLen) (hv : -9223372036854775808 ≤ v ∧ v ≤ 9223372036854775807) :
    Calls Try.prog 6 #[.slice A l.length c, .string s, .int .i64 v] w fun e w' => e = .returned (.bool true) ∧ Below w.heap.size w w' := by
  have HAw := Lib.hid fun X => awake_any X
  by_cases h100 : 100 < l.length
  · have d1 : decide ((100 : Int) < (l.length : Int)) = true := decide_eq_true (by omega)
    have h101 : (100 : Int) < (l.length : Int) := by omega
    clear hx hv hl
    generalize l.length = n at *
    go_enter Try.func6, Try.ntmps6
    go_wp2_with (go_at_call 10; ((with_reducible refine (HAw.out _).mono ?_); rintro r w2 ⟨rfl, hb2⟩))
    go_ret
    exact ⟨rfl, hb2⟩
  have d1 : decide ((100 : Int) < (l.length : Int)) = false := decide_eq_false (by omega)
  by_cases h400 : 400 < s.size
  · have d2 : decide ((400 : Int) < (s.size : Int)) = true := decide_eq_true (by omega)
    have h401 : (400 : Int) < (s.size : Int) := by omega
    clear hx hv hl
    generalize l.length = n at *
    go_enter Try.func6, Try.ntmps6
    go_wp2_with (go_at_call 10; ((with_reducible refine (HAw.out _).mono ?_); rintro r w2 ⟨rfl, hb2⟩))
    go_ret
    exact ⟨rfl, hb2⟩
  have d2 : decide ((400 : Int) < (s.size : Int)) = false := decide_eq_false (by omega)
  have hl6 : l.length ≤ 1000000 := by omega
  have hPs : (∃ (n2 : Nat) (G : List Pc), (∀ X, Calls Try.prog 25 #[.string s, .int .i64 v] X fun r w' => ∃ B d, r = .returned (.tuple #[.slice B n2 d, .int .i64 0]) ∧ PcsAt w' B G ∧ Below X.heap.size X w') ∧
      (∀ X B d, PcsAt X B G → Calls Try.prog 16 #[.slice B n2 d, .int .i64 v] X fun r w' => r = .returned (.tuple #[.string s, .int .i64 0]) ∧ Below X.heap.size X w') ∧
      (∀ X B d, PcsAt X B G → Calls Try.prog 20 #[.slice B n2 d, .int .i64 v] X fun r w' => r = .returned (.int .i64 0) ∧ Below X.heap.size X w')) ∨
      ∃ k : Int, (k != 0) = true ∧ k ≠ 0 ∧ ∀ X, Calls Try.prog 25 #[.string s, .int .i64 v] X fun r w' => r = .returned (.tuple #[.slice none 0 0, .int .i64 k]) ∧ Below X.heap.size X w' := by
    cases hp : parE s.data.toList v with
    | error k =>
      have := parE_err hp
      exact .inr ⟨k, by simpa using this, this, fun X => Parse_bad s v k X (.inl (by omega)) (by omega) hp⟩
    | ok t =>
      obtain ⟨hV, ht⟩ := parE_ok hp
      have hz := hV.size
      refine .inl ⟨t.size, flat t 0, fun X => (Parse_good s v t X (by omega) hp).mono fun r w' ⟨B, d, h1, h2, h3⟩ => ⟨B, d, h1, pcs_of_own h2 (valid_fine hV), h3⟩, fun X B d hX => ?_, fun X B d hX => ?_⟩
      · have := Format_good B t _ d v X hX hV rfl
        rw [← ht] at this
        exact this
      · have := Check_any B (flat t 0) d v X hX (by rw [flat_len]; omega)
        rw [chkL_valid hV, flat_len] at this
        exact this
  by_cases hE : chkL v l = 0
  · obtain ⟨t, hV, rfl⟩ := chkL_ok hE
    have hlen : t.size = (flat t 0).length := (flat_len t 0).symm
    have hsm := txt_small hV
    obtain ⟨S, hS⟩ : ∃ S : ByteArray, S = ⟨(txt t).toArray⟩ := ⟨_, rfl⟩
    have HF : Hid (∀ X, Below w.heap.size w X → Calls Try.prog 16 #[.slice A (flat t 0).length c, .int .i64 v] X fun r w' => r = .returned (.tuple #[.string S, .int .i64 0]) ∧ Below X.heap.size X w') := fun X hX => hS ▸ Format_good A t _ c v X (hx.below hX) hV hlen.symm
    have HP : Hid (∀ X, Calls Try.prog 25 #[.string S, .int .i64 v] X fun r w' => ∃ B d, r = .returned (.tuple #[.slice B (flat t 0).length d, .int .i64 0]) ∧ PcsAt w' B (flat t 0) ∧ Below X.heap.size X w') := fun X => by
      have := Parse_good S v t X (by rw [hS]; show (txt t).toArray.size ≤ _; simp; omega) (by rw [hS]; show parE (txt t).toArray.toList v = _; rw [List.toList_toArray]; exact parE_text hV)
      rw [hlen] at this
      exact this.mono fun r w' ⟨B, d, h1, h2, h3⟩ => ⟨B, d, h1, pcs_of_own h2 (valid_fine hV), h3⟩
    have HEq : Hid (∀ X B d, Below w.heap.size w X → PcsAt X B (flat t 0) → Calls Try.prog 22 #[.slice B (flat t 0).length d, .slice A (flat t 0).length c] X fun r w' => r = .returned (.bool true) ∧ Below X.heap.size X w') := fun X B d hX hB => by
      have := EqualRegex_any B A (flat t 0) (flat t 0) d c X hB (hx.below hX) hl6
      rw [decide_eq_true rfl] at this
      exact this.mono fun e w' ⟨h1, n, h2⟩ => ⟨h1, h2 ▸ Ap.drewN_below X n⟩
    clear hE hV hlen hx hl6 hsm hS
    generalize (flat t 0).length = n at *
    generalize flat t 0 = F at *
    rcases hPs with ⟨n2, G, hp1, hp2, hp3⟩ | ⟨k, k0, k1, hp1⟩
    · have HP1 := Lib.hid hp1
      have HP2 := Lib.hid hp2
      have HP3 := Lib.hid hp3
      clear hp1 hp2 hp3
      go_enter Try.func6, Try.ntmps6
      go_wp2_with (first
        | (go_at_call 10; ((with_reducible refine (HAw.out _).mono ?_); rintro r w1 ⟨rfl, hb1⟩))
        | (go_at_call 16; ((with_reducible refine (HF.out _ hb1).mono ?_); rintro r w2 ⟨rfl, hb⟩); have K2 := stepB hb1 hb; clear hb)
        | (go_at_call 25; ((with_reducible refine (HP.out _).mono ?_); rintro r w3 ⟨B, d, rfl, P3, hb⟩); have K3 := stepB K2 hb; clear hb)
        | (go_at_call 22; ((with_reducible refine (HEq.out _ _ _ K3 P3).mono ?_); rintro r w4 ⟨rfl, hb⟩); have K4 := stepB K3 hb; clear hb P3)
        | (go_at_call 25; ((with_reducible refine (HP1.out _).mono ?_); rintro r w5 ⟨C, f, rfl, P5, hb⟩); have K5 := stepB K4 hb; clear hb)
        | (go_at_call 16; ((with_reducible refine (HP2.out _ _ _ P5).mono ?_); rintro r w6 ⟨rfl, hb⟩); have K6 := stepB K5 hb; have P6 := P5.below hb; clear hb)
        | (go_at_call 20; ((with_reducible refine (HP3.out _ _ _ P6).mono ?_); rintro r w7 ⟨rfl, hb7⟩)))
      go_ret
      exact ⟨rfl, stepB K6 hb7⟩
    · have HP1 := Lib.hid hp1
      clear hp1
      go_enter Try.func6, Try.ntmps6
      go_wp2_with (first
        | (go_at_call 10; ((with_reducible refine (HAw.out _).mono ?_); rintro r w1 ⟨rfl, hb1⟩))
        | (go_at_call 16; ((with_reducible refine (HF.out _ hb1).mono ?_); rintro r w2 ⟨rfl, hb⟩); have K2 := stepB hb1 hb; clear hb)
        | (go_at_call 25; ((with_reducible refine (HP.out _).mono ?_); rintro r w3 ⟨B, d, rfl, P3, hb⟩); have K3 := stepB K2 hb; clear hb)
        | (go_at_call 22; ((with_reducible refine (HEq.out _ _ _ K3 P3).mono ?_); rintro r w4 ⟨rfl, hb⟩); have K4 := stepB K3 hb; clear hb P3)
        | (go_at_call 25; ((with_reducible refine (HP1.out _).mono ?_); rintro r w5 ⟨rfl, hb5⟩)))
      go_ret
      exact ⟨rfl, stepB K4 hb5⟩
  · have HF := Lib.hid fun X (hX : Below w.heap.size w X) => Format_bad A l c v X (hx.below hX) hl6 hE
    have HCk := Lib.hid fun X (hX : Below w.heap.size w X) => Check_any A l c v X (hx.below hX) hl6
    have h1 := int_ne hE
    have h3 : (chkL v l == 0) = false := int_ne0 hE
    clear hx hl6
    generalize chkL v l = E at *
    have h2 : (E != E) = false := by simp
    generalize l.length = n at *
    rcases hPs with ⟨n2, G, hp1, hp2, hp3⟩ | ⟨k, k0, k1, hp1⟩
    · have HP1 := Lib.hid hp1
      have HP2 := Lib.hid hp2
      have HP3 := Lib.hid hp3
      clear hp1 hp2 hp3
      go_enter Try.func6, Try.ntmps6
      go_wp2_with (first
        | (go_at_call 10; ((with_reducible refine (HAw.out _).mono ?_); rintro r w1 ⟨rfl, hb1⟩))
        | (go_at_call 16; ((with_reducible refine (HF.out _ hb1).mono ?_); rintro r w2 ⟨rfl, hb⟩); have K2 := stepB hb1 hb; clear hb)
        | (go_at_call 20; ((with_reducible refine (HCk.out _ K2).mono ?_); rintro r w3 ⟨rfl, hb⟩); have K4 := stepB K2 hb; clear hb)
        | (go_at_call 25; ((with_reducible refine (HP1.out _).mono ?_); rintro r w5 ⟨C, f, rfl, P5, hb⟩); have K5 := stepB K4 hb; clear hb)
        | (go_at_call 16; ((with_reducible refine (HP2.out _ _ _ P5).mono ?_); rintro r w6 ⟨rfl, hb⟩); have K6 := stepB K5 hb; have P6 := P5.below hb; clear hb)
        | (go_at_call 20; ((with_reducible refine (HP3.out _ _ _ P6).mono ?_); rintro r w7 ⟨rfl, hb7⟩)))
      go_ret
      exact ⟨rfl, stepB K6 hb7⟩
    · have HP1 := Lib.hid hp1
      clear hp1
      go_enter Try.func6, Try.ntmps6
      go_wp2_with (first
        | (go_at_call 10; ((with_reducible refine (HAw.out _).mono ?_); rintro r w1 ⟨rfl, hb1⟩))
        | (go_at_call 16; ((with_reducible refine (HF.out _ hb1).mono ?_); rintro r w2 ⟨rfl, hb⟩); have K2 := stepB hb1 hb; clear hb)
        | (go_at_call 20; ((with_reducible refine (HCk.out _ K2).mono ?_); rintro r w3 ⟨rfl, hb⟩); have K4 := stepB K2 hb; clear hb)
        | (go_at_call 25; ((with_reducible refine (HP1.out _).mono ?_); rintro r w5 ⟨rfl, hb5⟩)))
      go_ret
      exact ⟨rfl, stepB K4 hb5⟩
end Go.Proofs.Ytpjnbojplifegaa.Rx
