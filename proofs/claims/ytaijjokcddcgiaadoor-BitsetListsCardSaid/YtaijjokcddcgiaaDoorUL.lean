/- The walk of the law BitsetLists. -/
import Derived.Test.YtaijjokcddcgiaaDoorLM
namespace Go.Proofs.YtaijjokcddcgiaaDoor
open Go Go.RowKit
set_option maxRecDepth 100000
set_option linter.unusedVariables false
theorem Len_n {w0 w : World} {S : List (Option Addr × Nat × List Nat)} {A : Option Addr} {c : Nat} {xs : List Nat} (E : Env w0 w S) (ha : (A, c, xs) ∈ S) {n : Nat} (h : (els xs).length = n) :
    Calls Tryd.prog 20 #[.slice A xs.length c] w fun e w' => e = .returned (.int .i64 (n : Int)) ∧ w = w' := by
  subst h
  exact Len_env E ha
theorem quiet_plus {P : Program} {f : FuncId} {args : Array Value} {w : World} {a : Nat} {v : Value} {n : Nat}
    (h : ∀ n : Nat, Calls P f args ((w.drewN a).drewN n) fun e w' => e = .returned v ∧ ∃ m, w' = ((w.drewN a).drewN n).drewN m) :
    Calls P f args (w.drewN (a + n)) fun e w'' => e = .returned v ∧ ∃ m, w'' = w.drewN (a + m) := by
  have := h n
  rw [World.drewN_drewN] at this
  refine this.mono ?_
  rintro e w' ⟨he, m, hm⟩
  exact ⟨he, n + m, by rw [hm, World.drewN_drewN, Nat.add_assoc]⟩
set_option maxHeartbeats 20000000 in
theorem bitsetLists_walk (A : Option Addr) (xs : List Nat) (c : Nat) (k : Int) (w : World) (hx : Words w A xs) (ux : U64 xs) (lx : xs.length ≤ c) (mx : c ≤ maxLen) (hk : -9223372036854775808 ≤ k ∧ k ≤ 9223372036854775807) (hT : Tab w) :
    Calls Tryd.prog 8 #[.slice A xs.length c, .int .i64 k] w fun e w' => e = .returned (.bool true) ∧ Below w.heap.size w w' := by
  have E00 : Env w w [] := ⟨Below.refl _ _, hT, (fun q hq => by cases hq)⟩
  have E0 : Env w w [(A, c, xs)] := E00.push hx ux lx
  clear E00
  have hm : ∀ q ∈ [(A, xs.length, c)], q.2.1 ≤ maxLen := by
    intro q hq
    simp only [List.mem_cons, List.not_mem_nil, or_false] at hq
    subst hq
    simp only
    omega
  by_cases hl : (!([(A, xs.length, c)] : List (Option Addr × Nat × Nat)).all fun q => decide (q.2.1 ≤ 80)) = true
  · have HL := Lib.hid (Long_env E0 [(A, xs.length, c)] 23 1 (by simp) hm hl)
    clear hl hm hx
    go_enter Tryd.func8, Tryd.ntmps8
    go_wp2_with (first
      | (go_at_call 11; refine HL.out.mono ?_; rintro e w1 ⟨rfl, E⟩)
      | (go_at_call 12; refine (awake_env E).mono ?_; rintro e w2 ⟨rfl, E2⟩))
    go_ret
    exact ⟨rfl, E2.1⟩
  · have hl' : (!([(A, xs.length, c)] : List (Option Addr × Nat × Nat)).all fun q => decide (q.2.1 ≤ 80)) = false := by simpa using hl
    have HL := Lib.hid (Long_env E0 [(A, xs.length, c)] 23 1 (by simp) hm hl')
    clear hl hl' hm hx
    obtain ⟨i0, hi, hz0, hz1, hz2⟩ := info_parts info_int
    have q1 := els_le xs
    have hkf : hasB xs k = decide (k ∈ elsI xs) := by
      rw [Bool.eq_iff_iff, decide_eq_true_iff, elsI_mem]
    obtain ⟨N, hN⟩ : ∃ N, N = (els xs).length := ⟨_, rfl⟩
    have hlN : (elsI xs).length = N := by rw [elsI_len, hN]
    have G1 := Lib.hid (ofL_eq ux)
    have G2 := Lib.hid (ofL_els ux)
    have HKF := Lib.hid hkf
    rw [← hN] at q1
    have HN := Lib.hid hN
    have HLN := Lib.hid hlN
    clear hkf hN hlN
    go_enter Tryd.func8, Tryd.ntmps8
    go_wp2_with (first
      | (go_at_call 11; refine HL.out.mono ?_; rintro e w1 ⟨rfl, E⟩)
      | (go_at_call 12; refine (awake_env E).mono ?_; rintro e w2 ⟨rfl, E⟩)
      | (go_at_call 19; obtain ⟨a1, a2, a3⟩ := E.2.2 _ List.mem_cons_self; refine (List_any A xs c _ a1 a2 a3 E.2.1).mono ?_; clear a1 a2 a3; rintro e w3 ⟨vl, rfl, hol, hbl⟩; obtain ⟨Al, cl, rfl, hcl⟩ := own_form hol; replace E := E.step hbl; have hil : Ints w3 Al (elsI xs) := own_ints hol rfl; clear hol hbl; rw [← HN.out] at hcl; rw [← HN.out]))
    have E3 := E
    clear E
    go_loopw [6, 7] (fun fo i wr => ∃ j q : Nat, j ≤ N ∧ i = .int .i64 j ∧ Hid (fo = .bool (decide (k ∈ (elsI xs).take j))) ∧ wr = w3.drewN q) (fun _ i _ => N - (intOf i).toNat)
    case atStart => exact ⟨0, 0, by omega, rfl, rfl, rfl⟩
    case round =>
      obtain ⟨j, q, hj, rfl, HFO, rfl⟩ := hrel
      by_cases hlt : j < N
      · have hjl : j < (elsI xs).length := by rw [HLN.out]; exact hlt
        have hmem := elsI_mem.1 (nd_mem hjl)
        have htf := take_found (k := k) hjl
        obtain ⟨ad, rfl, hcell⟩ := hil.at_ hjl
        obtain ⟨a1, a2, a3⟩ := E3.2.2 _ List.mem_cons_self
        have hrange : 0 ≤ nd (elsI xs) j ∧ nd (elsI xs) j ≤ 4095 := by
          have := hmem
          unfold hasB at this
          rw [Bool.and_eq_true, decide_eq_true_iff] at this
          exact this.1
        have HQ : Hid (∀ n : Nat, Calls Tryd.prog 25 #[.slice A xs.length c, .int .i64 (nd (elsI xs) j)] ((w3.drewN q).drewN n) fun e w' => e = .returned (.bool true) ∧ ∃ m, w' = ((w3.drewN q).drewN n).drewN m) := fun n => by
          have := Has_any A xs c (nd (elsI xs) j) ((w3.drewN q).drewN n) (show Words ((w3.drewN q).drewN n) A xs from a1) a2
          rwa [hmem] at this
        have HTF := Lib.hid htf
        obtain ⟨r0, r1⟩ := hrange
        clear hmem htf a1 a2 a3 hjl
        by_cases h0 : j = 0
        · subst h0
          have hfo := HFO.out
          have htk : decide (k ∈ (elsI xs).take 0) = false := by simp
          rw [htk] at hfo
          have htf := HTF.out
          rw [htk, Bool.false_or] at htf
          subst hfo
          clear HFO HTF htk
          have HTF := Lib.hid htf
          clear htf
          generalize nd (elsI xs) 0 = li at *
          have hcell0 : w3.cell? ad = some (.int .i64 li) := hcell
          have hd1 : decide (li < 0) = false := by rw [decide_eq_false_iff_not]; omega
          have hd2 : decide (4095 < li) = false := by rw [decide_eq_false_iff_not]; omega
          have hjb : (0 : Int) < (N : Int) := by omega
          have e0 : ((0 : Nat) : Int) = 0 := rfl
          rw [e0]
          clear e0 hj
          by_cases hlk : li = k
          · have HV : Hid (decide (k ∈ (elsI xs).take 1) = true) := HTF.out.trans (decide_eq_true hlk)
            have hb : (li == k) = true := beq_iff_eq.2 hlk
            clear hlk HTF
            go_wp2
            go_quiet (first | (go_at_call 25; exact quiet_plus HQ.out))
            go_wp2
            go_roundw
            case rel => exact ⟨1, q + nq, by omega, by go_num, by show _ = _; rw [HV.out], by simp⟩
            case measure => simp [intOf]; omega
          · have HV : Hid (decide (k ∈ (elsI xs).take 1) = false) := HTF.out.trans (decide_eq_false hlk)
            have hb : (li == k) = false := beq_eq_false_iff_ne.2 hlk
            clear hlk HTF
            go_wp2
            go_quiet (first | (go_at_call 25; exact quiet_plus HQ.out))
            go_wp2
            go_roundw
            case rel => exact ⟨1, q + nq, by omega, by go_num, by show _ = _; rw [HV.out], by simp⟩
            case measure => simp [intOf]; omega
        · have hc2 := hil.at_ (j := j - 1) (by rw [HLN.out]; omega)
          have hasc := els_asc (xs := xs) (i := j - 1) (by rw [← HN.out]; omega)
          rw [show j - 1 + 1 = j by omega] at hasc
          obtain ⟨ad', e', hc2⟩ := hc2
          cases e'
          generalize nd (elsI xs) (j - 1) = prev at *
          obtain ⟨p, hp⟩ : ∃ p, p = j - 1 := ⟨_, rfl⟩
          rw [← hp] at hc2
          have hw : IntKind.i64.wrap ((j : Int) - 1) = (p : Int) := by
            rw [IntWalk.i64_in _ (by omega)]; omega
          have hjb : (j : Int) < (N : Int) := by omega
          have hpb : (p : Int) < (N : Int) := by omega
          have h0j : (0 : Int) < (j : Int) := by omega
          replace h0 : 0 < j := by omega
          clear hp
          generalize nd (elsI xs) j = li at *
          have HV0 := HTF
          clear HTF
          generalize decide (k ∈ (elsI xs).take j) = fb at *
          have hfo := HFO.out
          subst hfo
          clear HFO
          cases fb with
          | true =>
            have HV : Hid (decide (k ∈ (elsI xs).take (j + 1)) = true) := HV0.out.trans (by rw [Bool.true_or])
            clear HV0
            go_wp2
            go_quiet (first | (go_at_call 25; exact quiet_plus HQ.out))
            go_wp2
            go_roundw
            case rel => exact ⟨j + 1, q + nq, by omega, by go_num, by show _ = _; rw [HV.out], by simp⟩
            case measure => simp [intOf]; omega
          | false =>
            by_cases hlk : li = k
            · have HV : Hid (decide (k ∈ (elsI xs).take (j + 1)) = true) := HV0.out.trans (by rw [Bool.false_or, decide_eq_true hlk])
              have hb : (li == k) = true := beq_iff_eq.2 hlk
              clear hlk HV0
              go_wp2
              go_quiet (first | (go_at_call 25; exact quiet_plus HQ.out))
              go_wp2
              go_roundw
              case rel => exact ⟨j + 1, q + nq, by omega, by go_num, by show _ = _; rw [HV.out], by simp⟩
              case measure => simp [intOf]; omega
            · have HV : Hid (decide (k ∈ (elsI xs).take (j + 1)) = false) := HV0.out.trans (by rw [Bool.false_or, decide_eq_false hlk])
              have hb : (li == k) = false := beq_eq_false_iff_ne.2 hlk
              clear hlk HV0
              go_wp2
              go_quiet (first | (go_at_call 25; exact quiet_plus HQ.out))
              go_wp2
              go_roundw
              case rel => exact ⟨j + 1, q + nq, by omega, by go_num, by show _ = _; rw [HV.out], by simp⟩
              case measure => simp [intOf]; omega
      · obtain rfl : j = N := by omega
        have hfo := HFO.out
        rw [List.take_of_length_le (by rw [HLN.out]; exact Nat.le_refl _), ← HKF.out] at hfo
        subst hfo
        clear HFO
        have E := E3.step (drewN_below w3 q)
        have hil' : Vals (w3.drewN q) Al j (fun j => .int .i64 (nd (elsI xs) j)) := by
          rw [← HLN.out]
          exact hil
        have KL := Lib.hid HN.out.symm
        generalize w3.drewN q = w5 at *
        clear hil E3
        go_wp2_with (first
          | (at_builtin; refine wpList_copy rfl _ _ _ rfl 3 i0 (.int .i64 0) 8 Tryd.underlying24 hi hz0 hz1 hz2 rfl rfl Al _ cl _ rfl hil' (fun _ _ => rfl) (by unfold maxLen; omega) (by omega) ?_; intro A8 c8 w8 ho8 hc8 hb8; replace E := E.step hb8; have hi8 : Ints w8 A8 (elsI xs) := (by unfold Ints; rw [HLN.out]; exact Vals.of_own ho8 (fun j hj => by simp [hj])); have hof := Of_own A8 (elsI xs) c8 w8 hi8 (by rw [HLN.out]; unfold maxLen; omega); rw [HLN.out] at hof; have HOF := Lib.hid hof; clear hof ho8 hi8 hb8)
          | (go_at_call 15; refine HOF.out.mono ?_; rintro e w9 ⟨A9, c9, rfl, ho9, hb9⟩; replace E := (E.step hb9).push ho9.words ho9.2.1 ho9.2.2; clear ho9 hb9)
          | (go_at_call 25; refine (Has_env E (by repeat (first | with_reducible exact List.mem_cons_self | apply List.mem_cons_of_mem)) _ (b := hasB xs k) rfl).mono ?_; rintro e w2 ⟨rfl, E⟩)
          | (go_at_call 16; refine (Canonical_env E (by repeat (first | with_reducible exact List.mem_cons_self | apply List.mem_cons_of_mem))).mono ?_; rintro e w2 ⟨A', c', rfl, E⟩)
          | (go_at_call 35; refine (Equal_env E (by repeat (first | with_reducible exact List.mem_cons_self | apply List.mem_cons_of_mem)) (by repeat (first | with_reducible exact List.mem_cons_self | apply List.mem_cons_of_mem)) (b := true) (by with_reducible exact G1.out)).mono ?_; rintro e w2 ⟨rfl, rfl⟩)
          | (go_at_call 22; refine (Same_env E (by repeat (first | with_reducible exact List.mem_cons_self | apply List.mem_cons_of_mem)) (by repeat (first | with_reducible exact List.mem_cons_self | apply List.mem_cons_of_mem)) (by with_reducible exact G2.out) (by have := (ofTo_ok (elsI xs) (elsI xs).length).2; unfold maxLen; exact Nat.le_trans this (by decide))).mono ?_; rintro e w2 ⟨rfl, E⟩)
          | (go_at_call 20; refine (Len_n E (by repeat (first | with_reducible exact List.mem_cons_self | apply List.mem_cons_of_mem)) KL.out).mono ?_; rintro e w2 ⟨rfl, rfl⟩))
        go_ret
        first | exact ⟨rfl, E.1⟩ | (refine ⟨ret_bool ?_, E.1⟩; simp)
end Go.Proofs.YtaijjokcddcgiaaDoor
