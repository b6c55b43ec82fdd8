/- The walk of the law BitsetSingle. -/
import Derived.Test.YtaijjokcddcgiaaDoorY
namespace Go.Proofs.YtaijjokcddcgiaaDoor
open Go Go.RowKit
set_option maxRecDepth 100000
set_option maxHeartbeats 20000000 in
theorem bitsetSingle_walk (A : Option Addr) (xs : List Nat) (c : Nat) (k o : Int) (w : World) (hx : Words w A xs) (ux : U64 xs) (lx : xs.length ≤ c) (mx : c ≤ maxLen) (hk : -9223372036854775808 ≤ k ∧ k ≤ 9223372036854775807) (ho : -9223372036854775808 ≤ o ∧ o ≤ 9223372036854775807) (hT : Tab w) :
    Calls Tryd.prog 9 #[.slice A xs.length c, .int .i64 k, .int .i64 o] w fun e w' => e = .returned (.bool true) ∧ Below w.heap.size w w' := by
  have E00 : Env w w [] := ⟨Below.refl _ _, hT, (fun q hq => by cases hq)⟩
  have E0 : Env w w [(A, c, xs)] := E00.push hx ux lx
  clear E00
  have hm : ∀ q ∈ [(A, xs.length, c)], q.2.1 ≤ maxLen := by
    intro q hq
    simp only [List.mem_cons, List.not_mem_nil, or_false] at hq
    subst hq
    simp only
    omega
  by_cases hl : (!([(A, xs.length, c)] : List (Option Addr × Nat × Nat)).all fun q => decide (q.2.1 ≤ 80)) = true
  · have HL := Lib.hid (Long_env E0 [(A, xs.length, c)] 23 1 (by simp) hm hl)
    clear hl hm hx
    go_enter Tryd.func9, Tryd.ntmps9
    go_wp2_with (first
      | (go_at_call 11; refine HL.out.mono ?_; rintro e w1 ⟨rfl, E⟩)
      | (go_at_call 12; refine (awake_env E).mono ?_; rintro e w2 ⟨rfl, E2⟩))
    go_ret
    exact ⟨rfl, E2.1⟩
  · have hl' : (!([(A, xs.length, c)] : List (Option Addr × Nat × Nat)).all fun q => decide (q.2.1 ≤ 80)) = false := by simpa using hl
    have HL := Lib.hid (Long_env E0 [(A, xs.length, c)] 23 1 (by simp) hm hl')
    clear hl hl' hm hx
    have G2 := Lib.hid (single1 (k := k) ux)
    have G3 := Lib.hid (single2 (k := k) ux)
    by_cases hin : 0 ≤ k ∧ k ≤ 4095
    · have h1 : Hid (hasB (canon (zipW (· ||| ·) xs (ofL [k]))) k = true) := by
        show _ = _
        rw [has_with, decide_eq_true hin]; simp
      have h2 : Hid (hasB (canon (zipW andNot xs (ofL [k]))) k = false) := by
        show _ = _
        rw [has_without ux]; simp
      obtain ⟨k0, k1⟩ := hin
      by_cases heq : k = o
      · subst heq
        clear ho
        go_enter Tryd.func9, Tryd.ntmps9
        go_wp2_with (first
      | (go_at_call 11; refine HL.out.mono ?_; rintro e w1 ⟨rfl, E⟩)
      | (go_at_call 12; refine (awake_env E).mono ?_; rintro e w2 ⟨rfl, E⟩)
      | (go_at_call 17; refine (With_env E (by repeat (first | with_reducible exact List.mem_cons_self | apply List.mem_cons_of_mem)) _).mono ?_; rintro e w2 ⟨A', c', rfl, E⟩)
      | (go_at_call 18; refine (Without_env E (by repeat (first | with_reducible exact List.mem_cons_self | apply List.mem_cons_of_mem)) _).mono ?_; rintro e w2 ⟨A', c', rfl, E⟩)
      | (go_at_call 25; refine (Has_env E (by repeat (first | with_reducible exact List.mem_cons_self | apply List.mem_cons_of_mem)) _ (b := _) (by first | with_reducible exact h1.out | with_reducible exact h2.out)).mono ?_; rintro e w2 ⟨rfl, E⟩)
      | (go_at_call 35; refine (Equal_env E (by repeat (first | with_reducible exact List.mem_cons_self | apply List.mem_cons_of_mem)) (by repeat (first | with_reducible exact List.mem_cons_self | apply List.mem_cons_of_mem)) (b := true) (by first | with_reducible exact G2.out | with_reducible exact G3.out)).mono ?_; rintro e w2 ⟨rfl, rfl⟩))
        go_ret
        first | exact ⟨rfl, E.1⟩ | (refine ⟨ret_bool ?_, E.1⟩; simp)
      · have h3 : Hid (hasB (canon (zipW (· ||| ·) xs (ofL [k]))) o = hasB xs o) := by
          show _ = _
          rw [has_with, decide_eq_false (fun e => heq e.symm : ¬ o = k)]; simp
        have h4 : Hid (hasB (canon (zipW andNot xs (ofL [k]))) o = hasB xs o) := by
          show _ = _
          rw [has_without ux, decide_eq_false (fun e => heq e.symm : ¬ o = k)]; simp
        obtain ⟨hb, hhb⟩ : ∃ hb, hasB xs o = hb := ⟨_, rfl⟩
        rw [hhb] at h3 h4
        have h5 := Lib.hid hhb
        have hne : (k == o) = false := by simpa using heq
        clear heq hhb
        go_enter Tryd.func9, Tryd.ntmps9
        go_wp2_with (first
      | (go_at_call 11; refine HL.out.mono ?_; rintro e w1 ⟨rfl, E⟩)
      | (go_at_call 12; refine (awake_env E).mono ?_; rintro e w2 ⟨rfl, E⟩)
      | (go_at_call 17; refine (With_env E (by repeat (first | with_reducible exact List.mem_cons_self | apply List.mem_cons_of_mem)) _).mono ?_; rintro e w2 ⟨A', c', rfl, E⟩)
      | (go_at_call 18; refine (Without_env E (by repeat (first | with_reducible exact List.mem_cons_self | apply List.mem_cons_of_mem)) _).mono ?_; rintro e w2 ⟨A', c', rfl, E⟩)
      | (go_at_call 25; refine (Has_env E (by repeat (first | with_reducible exact List.mem_cons_self | apply List.mem_cons_of_mem)) _ (b := _) (by first | with_reducible exact h1.out | with_reducible exact h2.out | with_reducible exact h3.out | with_reducible exact h4.out | with_reducible exact h5.out)).mono ?_; rintro e w2 ⟨rfl, E⟩)
      | (go_at_call 35; refine (Equal_env E (by repeat (first | with_reducible exact List.mem_cons_self | apply List.mem_cons_of_mem)) (by repeat (first | with_reducible exact List.mem_cons_self | apply List.mem_cons_of_mem)) (b := true) (by first | with_reducible exact G2.out | with_reducible exact G3.out)).mono ?_; rintro e w2 ⟨rfl, rfl⟩))
        go_ret
        first | exact ⟨rfl, E.1⟩ | (refine ⟨ret_bool ?_, E.1⟩; simp)
    · have h1 : Hid (hasB (canon (zipW (· ||| ·) xs (ofL [k]))) k = false) := by
        show _ = _
        unfold hasB
        rw [decide_eq_false hin]; rfl
      have h2 : Hid (hasB (canon (zipW andNot xs (ofL [k]))) k = false) := by
        show _ = _
        rw [has_without ux]; simp
      have G4 := Lib.hid (single3 ux hin)
      by_cases heq : k = o
      · subst heq
        clear ho
        by_cases k0 : 0 ≤ k
        · have k1 : 4095 < k := by omega
          have k2 : decide (k ≤ 4095) = false := by rw [decide_eq_false_iff_not]; omega
          clear hin
          go_enter Tryd.func9, Tryd.ntmps9
          go_wp2_with (first
      | (go_at_call 11; refine HL.out.mono ?_; rintro e w1 ⟨rfl, E⟩)
      | (go_at_call 12; refine (awake_env E).mono ?_; rintro e w2 ⟨rfl, E⟩)
      | (go_at_call 17; refine (With_env E (by repeat (first | with_reducible exact List.mem_cons_self | apply List.mem_cons_of_mem)) _).mono ?_; rintro e w2 ⟨A', c', rfl, E⟩)
      | (go_at_call 18; refine (Without_env E (by repeat (first | with_reducible exact List.mem_cons_self | apply List.mem_cons_of_mem)) _).mono ?_; rintro e w2 ⟨A', c', rfl, E⟩)
      | (go_at_call 25; refine (Has_env E (by repeat (first | with_reducible exact List.mem_cons_self | apply List.mem_cons_of_mem)) _ (b := _) (by first | with_reducible exact h1.out | with_reducible exact h2.out)).mono ?_; rintro e w2 ⟨rfl, E⟩)
      | (go_at_call 35; refine (Equal_env E (by repeat (first | with_reducible exact List.mem_cons_self | apply List.mem_cons_of_mem)) (by repeat (first | with_reducible exact List.mem_cons_self | apply List.mem_cons_of_mem)) (b := true) (by first | with_reducible exact G2.out | with_reducible exact G3.out | with_reducible exact G4.out)).mono ?_; rintro e w2 ⟨rfl, rfl⟩))
          go_ret
          first | exact ⟨rfl, E.1⟩ | (refine ⟨ret_bool ?_, E.1⟩; simp)
        · have k1 : k < 0 := by omega
          have k2 : decide (0 ≤ k) = false := by rw [decide_eq_false_iff_not]; omega
          clear hin k0
          go_enter Tryd.func9, Tryd.ntmps9
          go_wp2_with (first
      | (go_at_call 11; refine HL.out.mono ?_; rintro e w1 ⟨rfl, E⟩)
      | (go_at_call 12; refine (awake_env E).mono ?_; rintro e w2 ⟨rfl, E⟩)
      | (go_at_call 17; refine (With_env E (by repeat (first | with_reducible exact List.mem_cons_self | apply List.mem_cons_of_mem)) _).mono ?_; rintro e w2 ⟨A', c', rfl, E⟩)
      | (go_at_call 18; refine (Without_env E (by repeat (first | with_reducible exact List.mem_cons_self | apply List.mem_cons_of_mem)) _).mono ?_; rintro e w2 ⟨A', c', rfl, E⟩)
      | (go_at_call 25; refine (Has_env E (by repeat (first | with_reducible exact List.mem_cons_self | apply List.mem_cons_of_mem)) _ (b := _) (by first | with_reducible exact h1.out | with_reducible exact h2.out)).mono ?_; rintro e w2 ⟨rfl, E⟩)
      | (go_at_call 35; refine (Equal_env E (by repeat (first | with_reducible exact List.mem_cons_self | apply List.mem_cons_of_mem)) (by repeat (first | with_reducible exact List.mem_cons_self | apply List.mem_cons_of_mem)) (b := true) (by first | with_reducible exact G2.out | with_reducible exact G3.out | with_reducible exact G4.out)).mono ?_; rintro e w2 ⟨rfl, rfl⟩))
          go_ret
          first | exact ⟨rfl, E.1⟩ | (refine ⟨ret_bool ?_, E.1⟩; simp)
      · have h3 : Hid (hasB (canon (zipW (· ||| ·) xs (ofL [k]))) o = hasB xs o) := by
          show _ = _
          rw [has_with, decide_eq_false (fun e => heq e.symm : ¬ o = k)]; simp
        have h4 : Hid (hasB (canon (zipW andNot xs (ofL [k]))) o = hasB xs o) := by
          show _ = _
          rw [has_without ux, decide_eq_false (fun e => heq e.symm : ¬ o = k)]; simp
        obtain ⟨hb, hhb⟩ : ∃ hb, hasB xs o = hb := ⟨_, rfl⟩
        rw [hhb] at h3 h4
        have h5 := Lib.hid hhb
        have hne : (k == o) = false := by simpa using heq
        clear heq hhb
        by_cases k0 : 0 ≤ k
        · have k1 : 4095 < k := by omega
          have k2 : decide (k ≤ 4095) = false := by rw [decide_eq_false_iff_not]; omega
          clear hin
          go_enter Tryd.func9, Tryd.ntmps9
          go_wp2_with (first
      | (go_at_call 11; refine HL.out.mono ?_; rintro e w1 ⟨rfl, E⟩)
      | (go_at_call 12; refine (awake_env E).mono ?_; rintro e w2 ⟨rfl, E⟩)
      | (go_at_call 17; refine (With_env E (by repeat (first | with_reducible exact List.mem_cons_self | apply List.mem_cons_of_mem)) _).mono ?_; rintro e w2 ⟨A', c', rfl, E⟩)
      | (go_at_call 18; refine (Without_env E (by repeat (first | with_reducible exact List.mem_cons_self | apply List.mem_cons_of_mem)) _).mono ?_; rintro e w2 ⟨A', c', rfl, E⟩)
      | (go_at_call 25; refine (Has_env E (by repeat (first | with_reducible exact List.mem_cons_self | apply List.mem_cons_of_mem)) _ (b := _) (by first | with_reducible exact h1.out | with_reducible exact h2.out | with_reducible exact h3.out | with_reducible exact h4.out | with_reducible exact h5.out)).mono ?_; rintro e w2 ⟨rfl, E⟩)
      | (go_at_call 35; refine (Equal_env E (by repeat (first | with_reducible exact List.mem_cons_self | apply List.mem_cons_of_mem)) (by repeat (first | with_reducible exact List.mem_cons_self | apply List.mem_cons_of_mem)) (b := true) (by first | with_reducible exact G2.out | with_reducible exact G3.out | with_reducible exact G4.out)).mono ?_; rintro e w2 ⟨rfl, rfl⟩))
          go_ret
          first | exact ⟨rfl, E.1⟩ | (refine ⟨ret_bool ?_, E.1⟩; simp)
        · have k1 : k < 0 := by omega
          have k2 : decide (0 ≤ k) = false := by rw [decide_eq_false_iff_not]; omega
          clear hin k0
          go_enter Tryd.func9, Tryd.ntmps9
          go_wp2_with (first
      | (go_at_call 11; refine HL.out.mono ?_; rintro e w1 ⟨rfl, E⟩)
      | (go_at_call 12; refine (awake_env E).mono ?_; rintro e w2 ⟨rfl, E⟩)
      | (go_at_call 17; refine (With_env E (by repeat (first | with_reducible exact List.mem_cons_self | apply List.mem_cons_of_mem)) _).mono ?_; rintro e w2 ⟨A', c', rfl, E⟩)
      | (go_at_call 18; refine (Without_env E (by repeat (first | with_reducible exact List.mem_cons_self | apply List.mem_cons_of_mem)) _).mono ?_; rintro e w2 ⟨A', c', rfl, E⟩)
      | (go_at_call 25; refine (Has_env E (by repeat (first | with_reducible exact List.mem_cons_self | apply List.mem_cons_of_mem)) _ (b := _) (by first | with_reducible exact h1.out | with_reducible exact h2.out | with_reducible exact h3.out | with_reducible exact h4.out | with_reducible exact h5.out)).mono ?_; rintro e w2 ⟨rfl, E⟩)
      | (go_at_call 35; refine (Equal_env E (by repeat (first | with_reducible exact List.mem_cons_self | apply List.mem_cons_of_mem)) (by repeat (first | with_reducible exact List.mem_cons_self | apply List.mem_cons_of_mem)) (b := true) (by first | with_reducible exact G2.out | with_reducible exact G3.out | with_reducible exact G4.out)).mono ?_; rintro e w2 ⟨rfl, rfl⟩))
          go_ret
          first | exact ⟨rfl, E.1⟩ | (refine ⟨ret_bool ?_, E.1⟩; simp)
end Go.Proofs.YtaijjokcddcgiaaDoor
