/- slices.BinarySearch over an ascending list of ints; Trim's numbering. -/
import Derived.Test.YteckkbjpeckjmaaDoorTM
import Derived.Test.YteckkbjpeckjmaaDoorFP
namespace Go.Proofs.YteckkbjpeckjmaaDoor.Nf
open Go Go.RowKit Go.Proofs.YteckkbjpeckjmaaDoor Go.Proofs.YteckkbjpeckjmaaDoor.Cb
set_option linter.unusedVariables false
set_option linter.unusedSimpArgs false
set_option maxRecDepth 100000
theorem cIsNaN_any (x : Int) (w : World) : Calls Tryd.prog 109 #[.int .i64 x] w fun e w' => e = .returned (.bool false) ∧ w = w' := by
  have h : (x != x) = false := by simp
  go_enter Tryd.func109, Tryd.ntmps109
  go_wp2
  go_ret
  exact ⟨rfl, rfl⟩
theorem sIsNaN_any (x : Int) (w : World) : Calls Tryd.prog 79 #[.int .i64 x] w fun e w' => e = .returned (.bool false) ∧ w = w' := by
  have h : (x != x) = false := by simp
  go_enter Tryd.func79, Tryd.ntmps79
  go_wp2
  go_ret
  exact ⟨rfl, rfl⟩
theorem cLess_any (x z : Int) (w : World) : Calls Tryd.prog 78 #[.int .i64 x, .int .i64 z] w fun e w' => e = .returned (.bool (decide (x < z))) ∧ w = w' := by
  have HN := Lib.hid fun x X => cIsNaN_any x X
  go_enter Tryd.func78, Tryd.ntmps78
  go_wp2_with (go_at_call 109; ((with_reducible refine (HN.out _ _).mono ?_); rintro r w2 ⟨rfl, rfl⟩))
  go_ret
  exact ⟨rfl, rfl⟩
theorem ret_kb {k : Int} {a b : Bool} (h : a = b) : Ending.returned (.tuple #[.int .i64 k, .bool a]) = .returned (.tuple #[.int .i64 k, .bool b]) := by rw [h]
theorem mid_lt {i j : Nat} (h : i < j) : i ≤ (i + j) / 2 ∧ (i + j) / 2 < j := by omega
set_option maxHeartbeats 4000000 in
theorem BinarySearch_any (A : Option Addr) (us : List Int) (c : Nat) (z : Int) (w : World) (hx : Ints w A us) (hp : us.Pairwise (· < ·)) (hl : us.length ≤ 1000) :
    Calls Tryd.prog 40 #[.slice A us.length c, .int .i64 z] w fun e w' => ∃ k : Int, e = .returned (.tuple #[.int .i64 k, .bool (decide (z ∈ us))]) ∧ (z ∈ us → k = tp us z) ∧ w = w' := by
  have HL := Lib.hid fun x X => cLess_any x z X
  have HN := Lib.hid fun x X => sIsNaN_any x X
  have HEnd : Hid (∀ i, i ≤ us.length → (∀ k, k < i → nd us k < z) → (∀ k, i ≤ k → k < us.length → z ≤ nd us k) → (z ∈ us ↔ i < us.length ∧ nd us i = z) ∧ (z ∈ us → (i : Int) = tp us z)) := by
    intro i hi h1 h2
    have hm : z ∈ us → i < us.length ∧ nd us i = z ∧ (i : Int) = tp us z := by
      intro h
      obtain ⟨m, hm, hz⟩ := mem_nd h
      have hmi : i ≤ m := by
        apply Decidable.byContradiction
        intro hn
        have := h1 m (by omega)
        omega
      have hil : i < us.length := by omega
      have h3 := h2 i (Nat.le_refl _) hil
      rw [nd_get hil] at h3
      rw [nd_get hm] at hz
      have him : m = i := by
        apply Decidable.byContradiction
        intro hn
        have := List.pairwise_iff_getElem.1 hp i m hil hm (by omega)
        omega
      subst him
      refine ⟨hil, by rw [nd_get hil]; exact hz, ?_⟩
      have := (tp_of hp hil).2
      rw [hz] at this
      exact this.symm
    refine ⟨⟨fun h => ⟨(hm h).1, (hm h).2.1⟩, fun ⟨h3, h4⟩ => ?_⟩, fun h => (hm h).2.2⟩
    rw [← h4]
    rw [nd_get h3]
    exact List.getElem_mem h3
  have hmono : Hid (∀ a b, a ≤ b → b < us.length → nd us a ≤ nd us b) := by
    intro a b hab hb
    rcases Nat.lt_or_eq_of_le hab with h | rfl
    · have := List.pairwise_iff_getElem.1 hp a b (by omega) hb h
      rw [nd_get (show a < us.length by omega), nd_get hb]
      omega
    · exact Int.le_refl _
  clear hp
  generalize hn : us.length = n at *
  have hx2 : Ints w A us := hx
  have HX : Hid (∀ j, j < n → ∃ ad, A = some ad ∧ w.cell? (ad.add j) = some (.int .i64 (nd us j))) := fun j hj => by
    subst hn
    exact Vals.at_ hx2 hj
  clear hx hx2 hn
  go_enter Tryd.func40, Tryd.ntmps40
  go_wp2
  go_loopw [7, 8, 9] (fun a b _ wr => ∃ i j : Nat, i ≤ j ∧ j ≤ n ∧ a = .int .i64 i ∧ b = .int .i64 j ∧ Hid (∀ k, k < i → nd us k < z) ∧ Hid (∀ k, j ≤ k → k < n → z ≤ nd us k) ∧ wr = w) (fun a b _ _ => (intOf b).toNat - (intOf a).toNat)
  case atStart => exact ⟨0, n, by omega, by omega, rfl, rfl, fun k hk => absurd hk (by omega), fun k h1 h2 => absurd h1 (by omega), rfl⟩
  case round =>
    obtain ⟨i, j, hij, hj, rfl, rfl, H1, H2, rfl⟩ := hrel
    by_cases hlt : i < j
    · obtain ⟨m1, m2⟩ := mid_lt hlt
      obtain ⟨ad, rfl, hc⟩ := HX.out ((i + j) / 2) (by omega)
      have HA : Hid (nd us ((i + j) / 2) < z → ∀ k, k < (i + j) / 2 + 1 → nd us k < z) := fun h k hk => by
        have := hmono.out k ((i + j) / 2) (by omega) (by omega)
        omega
      have HB : Hid (¬ nd us ((i + j) / 2) < z → ∀ k, (i + j) / 2 ≤ k → k < n → z ≤ nd us k) := fun h k h1 h2 => by
        have := hmono.out ((i + j) / 2) k h1 h2
        omega
      have hlti : (i : Int) < (j : Int) := by omega
      generalize hmm : (i + j) / 2 = m at *
      have hz2 : ((i : Int) + (j : Int)) / 2 = (m : Int) := by omega
      have hmn : (m : Int) < (n : Int) := by omega
      by_cases hl2 : nd us m < z
      · have H1' := Lib.hid (HA.out hl2)
        have dl : decide (nd us m < z) = true := decide_eq_true hl2
        clear HA HB H1 hl2
        generalize nd us m = x at *
        go_wp2_with (go_at_call 78; ((with_reducible refine (HL.out _ _).mono ?_); rintro r w2 ⟨rfl, rfl⟩))
        go_roundw
        case rel => exact ⟨m + 1, j, by omega, hj, by go_num, rfl, H1', H2, trivial⟩
        case measure => simp [intOf]; omega
      · have H2' := Lib.hid (HB.out hl2)
        have dl : decide (nd us m < z) = false := decide_eq_false hl2
        clear HA HB H2 hl2
        generalize nd us m = x at *
        go_wp2_with (go_at_call 78; ((with_reducible refine (HL.out _ _).mono ?_); rintro r w2 ⟨rfl, rfl⟩))
        go_roundw
        case rel => exact ⟨i, m, m1, by omega, rfl, rfl, H1, H2', trivial⟩
        case measure => simp [intOf]; omega
    · obtain rfl : i = j := by omega
      obtain ⟨hq1, hq2⟩ := HEnd.out i hj H1.out H2.out
      have HQ1 := Lib.hid hq1
      have HQ2 := Lib.hid hq2
      clear hq1 hq2 H1 H2 HEnd hmono
      by_cases hin : i < n
      · obtain ⟨ad, rfl, hc⟩ := HX.out i hin
        have hii : (i : Int) < (n : Int) := by omega
        by_cases hq : nd us i = z
        · have HD : Hid (decide (z ∈ us) = true) := decide_eq_true (HQ1.out.2 ⟨hin, hq⟩)
          have HK : Hid ((i : Int) = tp us z) := HQ2.out (HQ1.out.2 ⟨hin, hq⟩)
          have e1 : (z == z) = true := by simp
          rw [hq] at hc
          clear HQ1 HQ2 hq HX
          go_wp2
          go_ret2
          exact ⟨(i : Int), ret_kb HD.out.symm, fun _ => HK.out, rfl⟩
        · have hno : ¬ z ∈ us := fun h => hq (HQ1.out.1 h).2
          have HD : Hid (decide (z ∈ us) = false) := decide_eq_false hno
          have HK : Hid (z ∈ us → (i : Int) = tp us z) := fun h => absurd h hno
          have e1 : (nd us i == z) = false := by rw [beq_eq_false_iff_ne]; exact hq
          clear HQ1 HQ2 hq HX hno
          generalize nd us i = x at *
          go_wp2_with (go_at_call 79; ((with_reducible refine (HN.out _ _).mono ?_); rintro r w2 ⟨rfl, rfl⟩))
          go_ret2
          exact ⟨(i : Int), ret_kb HD.out.symm, HK.out, rfl⟩
      · have hno : ¬ z ∈ us := fun h => hin (HQ1.out.1 h).1
        have HD : Hid (decide (z ∈ us) = false) := decide_eq_false hno
        have HK : Hid (z ∈ us → (i : Int) = tp us z) := fun h => absurd h hno
        clear HQ1 HQ2 HX hno
        go_wp2
        go_ret2
        exact ⟨(i : Int), ret_kb HD.out.symm, HK.out, rfl⟩
end Go.Proofs.YteckkbjpeckjmaaDoor.Nf
