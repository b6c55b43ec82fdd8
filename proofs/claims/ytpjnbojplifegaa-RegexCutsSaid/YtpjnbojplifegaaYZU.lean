/- The walk of RegexCuts. -/
import Derived.Test.YtpjnbojplifegaaYZS
namespace Go.Proofs.Ytpjnbojplifegaa.Rx
open Go Go.RowKit Go.Shelf Go.Proofs.Ytpjnbojplifegaa
set_option linter.unusedVariables false
set_option maxRecDepth 100000
theorem bytes_take (l : List UInt8) (m : Nat) : ((⟨l.toArray⟩ : ByteArray).extract 0 m).data.toList = l.take m := by
  simp [ByteArray.data_extract]
theorem bytes_app (l : List UInt8) (s : ByteArray) : ((⟨l.toArray⟩ : ByteArray) ++ s).data.toList = l ++ s.data.toList := by
  simp
theorem bytes_nil {s : ByteArray} (h : s.data.toList = []) : s = ⟨#[]⟩ := by
  apply ByteArray.ext
  apply Array.ext'
  exact h
set_option maxHeartbeats 16000000 in
theorem regexCuts_walk (A : Option Addr) (l : List Pc) (c : Nat) (v m : Int) (s : ByteArray) (w : World) (hx : PcsAt w A l) (hl : l.length ≤ maxLen) (hv : -9223372036854775808 ≤ v ∧ v ≤ 9223372036854775807) (hm : -9223372036854775808 ≤ m ∧ m ≤ 9223372036854775807) (hs : s.size ≤ maxLen) :
    Calls Try.prog 9 #[.slice A l.length c, .int .i64 v, .int .i64 m, .string s] w fun e w' => e = .returned (.bool true) ∧ Below w.heap.size w w' := by
  have HAw := Lib.hid fun X => awake_any X
  by_cases h100 : 100 < l.length
  · have d1 : decide ((100 : Int) < (l.length : Int)) = true := decide_eq_true (by omega)
    have h101 : (100 : Int) < (l.length : Int) := by omega
    clear hx hv hl
    generalize l.length = n at *
    go_enter Try.func9, Try.ntmps9
    go_wp2_with (go_at_call 10; ((with_reducible refine (HAw.out _).mono ?_); rintro r w2 ⟨rfl, hb2⟩))
    go_ret
    exact ⟨rfl, hb2⟩
  have d1 : decide ((100 : Int) < (l.length : Int)) = false := decide_eq_false (by omega)
  by_cases h20 : 20 < s.size
  · have d2 : decide ((20 : Int) < (s.size : Int)) = true := decide_eq_true (by omega)
    have h21 : (20 : Int) < (s.size : Int) := by omega
    clear hx hv hl
    generalize l.length = n at *
    go_enter Try.func9, Try.ntmps9
    go_wp2_with (go_at_call 10; ((with_reducible refine (HAw.out _).mono ?_); rintro r w2 ⟨rfl, hb2⟩))
    go_ret
    exact ⟨rfl, hb2⟩
  have d2 : decide ((20 : Int) < (s.size : Int)) = false := decide_eq_false (by omega)
  have hl6 : l.length ≤ 1000000 := by omega
  by_cases hE : chkL v l = 0
  · obtain ⟨t, hV, rfl⟩ := chkL_ok hE
    have hlen : t.size = (flat t 0).length := (flat_len t 0).symm
    have hsm := txt_small hV
    obtain ⟨S, hS⟩ : ∃ S : ByteArray, S = ⟨(txt t).toArray⟩ := ⟨_, rfl⟩
    have hz : S.size = (txt t).length := by rw [hS]; show (txt t).toArray.size = _; simp
    have HF : Hid (∀ X, Below w.heap.size w X → Calls Try.prog 16 #[.slice A (flat t 0).length c, .int .i64 v] X fun r w' => r = .returned (.tuple #[.string S, .int .i64 0]) ∧ Below X.heap.size X w') := fun X hX => hS ▸ Format_good A t _ c v X (hx.below hX) hV hlen.symm
    have hPn : ∀ k : Nat, k < S.size → ∀ X, Calls Try.prog 25 #[.string (S.extract 0 k), .int .i64 v] X fun r w' => r = .returned (.tuple #[.slice none 0 0, .int .i64 3]) ∧ Below X.heap.size X w' := fun k hk X => by
      have hsz : (S.extract 0 k).size ≤ 4095 := by rw [ByteArray.size_extract]; omega
      exact Parse_bad (S.extract 0 k) v 3 X (.inl hsz) (by omega) (by rw [hS, bytes_take]; exact parE_part hV (by omega))
    have hPm : (s = ⟨#[]⟩ ∧ ∃ n2 : Nat, ∀ X, Calls Try.prog 25 #[.string (S ++ s), .int .i64 v] X fun r w' => ∃ B d, r = .returned (.tuple #[.slice B n2 d, .int .i64 0]) ∧ Below X.heap.size X w') ∨
        (s ≠ ⟨#[]⟩ ∧ ∀ X, Calls Try.prog 25 #[.string (S ++ s), .int .i64 v] X fun r w' => r = .returned (.tuple #[.slice none 0 0, .int .i64 5]) ∧ Below X.heap.size X w') := by
      have hsz : (S ++ s).size ≤ 4095 := by rw [ByteArray.size_append]; omega
      have hb : (S ++ s).data.toList = txt t ++ s.data.toList := by rw [hS, bytes_app]
      have hls : s.data.toList.length = s.size := by simp
      cases hd : s.data.toList with
      | nil =>
        rw [hd, List.append_nil] at hb
        exact .inl ⟨bytes_nil hd, t.size, fun X => (Parse_good (S ++ s) v t X hsz (by rw [hb]; exact parE_text hV)).mono fun r w' ⟨B, d, h1, h2, h3⟩ => ⟨B, d, h1, h3⟩⟩
      | cons x r =>
        rw [hd] at hb hls
        exact .inr ⟨(fun h => by rw [h] at hd; cases hd), fun X => Parse_bad (S ++ s) v 5 X (.inl hsz) (by omega) (by rw [hb]; exact parE_more hV x r (by omega))⟩
    have hcs : (m < 0 ∧ decide ((0 : Int) ≤ m) = false) ∨ (0 ≤ m ∧ decide ((0 : Int) ≤ m) = true ∧ (S.size : Int) ≤ m ∧ decide (m < (S.size : Int)) = false) ∨ ∃ k : Nat, m = k ∧ k < S.size ∧ decide ((0 : Int) ≤ (k : Int)) = true ∧ decide ((k : Int) < (S.size : Int)) = true := by
      rcases Int.lt_or_le m 0 with h | h
      · exact .inl ⟨h, decide_eq_false (by omega)⟩
      · rcases Int.lt_or_le m S.size with h1 | h1
        · exact .inr (.inr ⟨m.toNat, by omega, by omega, decide_eq_true (by omega), decide_eq_true (by omega)⟩)
        · exact .inr (.inl ⟨h, decide_eq_true h, h1, decide_eq_false (by omega)⟩)
    have hz2 : S.size ≤ 1280 := by omega
    clear hE hV hlen hx hl6 hsm hS hz
    generalize (flat t 0).length = n at *
    rcases hPm with ⟨rfl, n2, hp⟩ | ⟨hne, hp⟩
    · have HP := Lib.hid hp
      clear hp
      rcases hcs with ⟨h0, e0⟩ | ⟨h0, e0, h1, e1⟩ | ⟨k, rfl, h1, e0, e1⟩
      · clear hPn
        go_enter Try.func9, Try.ntmps9
        go_wp2_with (first
          | (go_at_call 10; ((with_reducible refine (HAw.out _).mono ?_); rintro r w1 ⟨rfl, hb1⟩))
          | (go_at_call 16; ((with_reducible refine (HF.out _ hb1).mono ?_); rintro r w2 ⟨rfl, hb⟩); have K2 := stepB hb1 hb; clear hb)
          | (go_at_call 25; ((with_reducible refine (HP.out _).mono ?_); rintro r w5 ⟨B, d, rfl, hb5⟩)))
        go_ret
        exact ⟨rfl, stepB K2 hb5⟩
      · clear hPn
        go_enter Try.func9, Try.ntmps9
        go_wp2_with (first
          | (go_at_call 10; ((with_reducible refine (HAw.out _).mono ?_); rintro r w1 ⟨rfl, hb1⟩))
          | (go_at_call 16; ((with_reducible refine (HF.out _ hb1).mono ?_); rintro r w2 ⟨rfl, hb⟩); have K2 := stepB hb1 hb; clear hb)
          | (go_at_call 25; ((with_reducible refine (HP.out _).mono ?_); rintro r w5 ⟨B, d, rfl, hb5⟩)))
        go_ret
        exact ⟨rfl, stepB K2 hb5⟩
      · have HN := Lib.hid (hPn k h1)
        clear hPn
        go_enter Try.func9, Try.ntmps9
        go_wp2_with (first
          | (go_at_call 10; ((with_reducible refine (HAw.out _).mono ?_); rintro r w1 ⟨rfl, hb1⟩))
          | (go_at_call 16; ((with_reducible refine (HF.out _ hb1).mono ?_); rintro r w2 ⟨rfl, hb⟩); have K2 := stepB hb1 hb; clear hb)
          | (go_at_call 25; ((with_reducible refine (HN.out _).mono ?_); rintro r w3 ⟨rfl, hb⟩); have K3 := stepB K2 hb; clear hb)
          | (go_at_call 25; ((with_reducible refine (HP.out _).mono ?_); rintro r w5 ⟨B, d, rfl, hb5⟩)))
        go_ret
        exact ⟨rfl, stepB K3 hb5⟩
    · have HP := Lib.hid hp
      clear hp
      rcases hcs with ⟨h0, e0⟩ | ⟨h0, e0, h1, e1⟩ | ⟨k, rfl, h1, e0, e1⟩
      · clear hPn
        go_enter Try.func9, Try.ntmps9
        go_wp2_with (first
          | (go_at_call 10; ((with_reducible refine (HAw.out _).mono ?_); rintro r w1 ⟨rfl, hb1⟩))
          | (go_at_call 16; ((with_reducible refine (HF.out _ hb1).mono ?_); rintro r w2 ⟨rfl, hb⟩); have K2 := stepB hb1 hb; clear hb)
          | (go_at_call 25; ((with_reducible refine (HP.out _).mono ?_); rintro r w5 ⟨rfl, hb5⟩)))
        all_goals
          go_ret
          exact ⟨rfl, stepB K2 hb5⟩
      · clear hPn
        go_enter Try.func9, Try.ntmps9
        go_wp2_with (first
          | (go_at_call 10; ((with_reducible refine (HAw.out _).mono ?_); rintro r w1 ⟨rfl, hb1⟩))
          | (go_at_call 16; ((with_reducible refine (HF.out _ hb1).mono ?_); rintro r w2 ⟨rfl, hb⟩); have K2 := stepB hb1 hb; clear hb)
          | (go_at_call 25; ((with_reducible refine (HP.out _).mono ?_); rintro r w5 ⟨rfl, hb5⟩)))
        all_goals
          go_ret
          exact ⟨rfl, stepB K2 hb5⟩
      · have HN := Lib.hid (hPn k h1)
        clear hPn
        go_enter Try.func9, Try.ntmps9
        go_wp2_with (first
          | (go_at_call 10; ((with_reducible refine (HAw.out _).mono ?_); rintro r w1 ⟨rfl, hb1⟩))
          | (go_at_call 16; ((with_reducible refine (HF.out _ hb1).mono ?_); rintro r w2 ⟨rfl, hb⟩); have K2 := stepB hb1 hb; clear hb)
          | (go_at_call 25; ((with_reducible refine (HN.out _).mono ?_); rintro r w3 ⟨rfl, hb⟩); have K3 := stepB K2 hb; clear hb)
          | (go_at_call 25; ((with_reducible refine (HP.out _).mono ?_); rintro r w5 ⟨rfl, hb5⟩)))
        all_goals
          go_ret
          exact ⟨rfl, stepB K3 hb5⟩
  · have HF := Lib.hid fun X (hX : Below w.heap.size w X) => Format_bad A l c v X (hx.below hX) hl6 hE
    have h1 := int_ne hE
    clear hx hl6
    generalize chkL v l = E at *
    generalize l.length = n at *
    go_enter Try.func9, Try.ntmps9
    go_wp2_with (first
      | (go_at_call 10; ((with_reducible refine (HAw.out _).mono ?_); rintro r w1 ⟨rfl, hb1⟩))
      | (go_at_call 16; ((with_reducible refine (HF.out _ hb1).mono ?_); rintro r w2 ⟨rfl, hb⟩); have K2 := stepB hb1 hb; clear hb))
    go_ret
    exact ⟨rfl, K2⟩
end Go.Proofs.Ytpjnbojplifegaa.Rx
