/- Block, Reverse and Plain of package regex. -/
import Derived.Test.YteckkbjpeckjmaaYZB
namespace Go.Proofs.Yteckkbjpeckjmaa.Rx
open Go Go.RowKit Go.Proofs.Yteckkbjpeckjmaa
set_option linter.unusedVariables false
set_option maxRecDepth 100000
section
variable (A : Option Addr) (e : List Pc) (c : Nat) (v : Int) (w : World)
set_option maxHeartbeats 4000000 in
theorem Block_bad (i : Int) (hx : PcsAt w A e) (hl : e.length ≤ 1000000) (hne : chkL v e ≠ 0) :
    Calls Try.prog 11 #[.slice A e.length c, .int .i64 v, .int .i64 i] w fun r w' => r = .returned (.tuple #[.slice none 0 0, .int .i64 (chkL v e)]) ∧ Below w.heap.size w w' := by
  have HK := Lib.hid (Check_any A e c v w hx hl)
  generalize chkL v e = E at *
  have h1 := int_ne hne
  clear hne hx
  generalize e.length = n at *
  go_enter Try.func11, Try.ntmps11
  go_wp2_with (go_at_call 10; ((with_reducible refine HK.out.mono ?_); rintro r w2 ⟨rfl, hb2⟩))
  go_ret2
  exact ⟨rfl, hb2⟩
set_option maxHeartbeats 4000000 in
theorem Reverse_bad (hx : PcsAt w A e) (hl : e.length ≤ 1000000) (hne : chkL v e ≠ 0) :
    Calls Try.prog 9 #[.slice A e.length c, .int .i64 v] w fun r w' => r = .returned (.tuple #[.slice none 0 0, .int .i64 (chkL v e)]) ∧ Below w.heap.size w w' := by
  have HK := Lib.hid (Check_any A e c v w hx hl)
  generalize chkL v e = E at *
  have h1 := int_ne hne
  clear hne hx
  generalize e.length = n at *
  go_enter Try.func9, Try.ntmps9
  go_wp2_with (go_at_call 10; ((with_reducible refine HK.out.mono ?_); rintro r w2 ⟨rfl, hb2⟩))
  go_ret2
  exact ⟨rfl, hb2⟩
set_option maxHeartbeats 4000000 in
theorem Plain_bad (hx : PcsAt w A e) (hl : e.length ≤ 1000000) (hne : chkL v e ≠ 0) :
    Calls Try.prog 76 #[.slice A e.length c, .int .i64 v] w fun r w' => r = .returned (.tuple #[.bool false, .int .i64 (chkL v e)]) ∧ Below w.heap.size w w' := by
  have HK := Lib.hid (Check_any A e c v w hx hl)
  generalize chkL v e = E at *
  have h1 := int_ne hne
  clear hne hx
  generalize e.length = n at *
  go_enter Try.func76, Try.ntmps76
  go_wp2_with (go_at_call 10; ((with_reducible refine HK.out.mono ?_); rintro r w2 ⟨rfl, hb2⟩))
  go_ret2
  exact ⟨rfl, hb2⟩
end
section
variable (A : Option Addr) (t : Ex) (k c : Nat) (v : Int) (w : World)
set_option maxHeartbeats 4000000 in
theorem Reverse_good (hx : PcsAt w A (flat t 0)) (hV : t.Valid v) (hk : k = t.size) :
    Calls Try.prog 9 #[.slice A k c, .int .i64 v] w fun r w' => ∃ A' c', r = .returned (.tuple #[.slice A' k c', .int .i64 0]) ∧ w'.ownsRow w.heap.size 32 5 (.slice A' k c') k (pvs (flat (rev t) 0)) ∧ Below w.heap.size w w' := by
  have hs := hV.size
  have hl : (flat t 0).length ≤ 1000000 := by rw [flat_len]; omega
  have hk' : k = (flat t 0).length := by rw [flat_len]; exact hk
  have HK := Lib.hid (Check_any A (flat t 0) c v w hx hl)
  rw [chkL_valid hV, ← hk'] at HK
  have hp := t.pos
  have HT : Hid (∀ X, Below w.heap.size w X → Calls Try.prog 33 #[.slice A k c, .int .i64 ((k : Int) - 1), .func (.func 34) #[] #[]] X fun r w' => ∃ A' c', r = .returned (.slice A' k c') ∧ w'.ownsRow X.heap.size 32 5 (.slice A' k c') k (pvs (flat (rev t) 0)) ∧ Below X.heap.size X w') := fun X hX => by
    have := copied_any A (flat t 0) c hl true t 0 ((flat t 0).length - 1) X (hx.below hX) hV.ok bl_whole (by omega)
    rw [← hk', show ((k - 1 : Nat) : Int) = (k : Int) - 1 by omega, ← hk] at this
    exact this
  have hk1 : 1 ≤ (k : Int) := by omega
  have hk2 : k ≤ 64 := by omega
  clear hx hV hk hk' hl hs hp
  generalize flat (rev t) 0 = F at *
  go_enter Try.func9, Try.ntmps9
  go_wp2_with (first
    | (go_at_call 10; ((with_reducible refine HK.out.mono ?_); rintro r w2 ⟨rfl, hb2⟩))
    | (go_at_call 33; ((with_reducible refine (HT.out _ hb2).mono ?_); rintro r w3 ⟨A', c', rfl, ho3, hb3⟩)))
  go_ret2
  exact ⟨A', c', rfl, Ap.own_low ho3 hb2.size, stepB hb2 hb3⟩
set_option maxHeartbeats 4000000 in
theorem Block_good (i : Nat) (hx : PcsAt w A (flat t 0)) (hV : t.Valid v) (hk : k = t.size) (hi : i < t.size) :
    Calls Try.prog 11 #[.slice A k c, .int .i64 v, .int .i64 i] w fun r w' => ∃ A' c', r = .returned (.tuple #[.slice A' (sub t i).size c', .int .i64 0]) ∧ w'.ownsRow w.heap.size 32 5 (.slice A' (sub t i).size c') (sub t i).size (pvs (flat (sub t i) 0)) ∧ Below w.heap.size w w' := by
  have hs := hV.size
  have hl : (flat t 0).length ≤ 1000000 := by rw [flat_len]; omega
  have hk' : k = (flat t 0).length := by rw [flat_len]; exact hk
  have HK := Lib.hid (Check_any A (flat t 0) c v w hx hl)
  rw [chkL_valid hV, ← hk'] at HK
  obtain ⟨so, _, ss, _, _⟩ := sub_ok v t i hi hV.ok hV.cubes
  obtain ⟨s, s1, s2⟩ := sub_flat t i 0 hi
  rw [Nat.zero_add] at s2
  have HT : Hid (∀ X, Below w.heap.size w X → Calls Try.prog 33 #[.slice A k c, .int .i64 i, .func (.func 38) #[] #[]] X fun r w' => ∃ A' c', r = .returned (.slice A' (sub t i).size c') ∧ w'.ownsRow X.heap.size 32 5 (.slice A' (sub t i).size c') (sub t i).size (pvs (flat (sub t i) 0)) ∧ Below X.heap.size X w') := fun X hX => by
    have := copied_any A (flat t 0) c hl false (sub t i) s i X (hx.below hX) so ⟨s1, s2⟩ (by omega)
    rw [← hk'] at this
    exact this
  have hi1 : (i : Int) < k := by omega
  have hi2 : i < k := by omega
  have hk2 : k ≤ 64 := by omega
  have hd1 : decide ((k : Int) ≤ (i : Int)) = false := decide_eq_false (by omega)
  have hd2 : decide (k ≤ i) = false := decide_eq_false (by omega)
  clear hx hV hk hk' hl hs so ss s1 s2 hi
  generalize flat (sub t i) 0 = F at *
  generalize (sub t i).size = M at *
  go_enter Try.func11, Try.ntmps11
  go_wp2_with (first
    | (go_at_call 10; ((with_reducible refine HK.out.mono ?_); rintro r w2 ⟨rfl, hb2⟩))
    | (go_at_call 33; ((with_reducible refine (HT.out _ hb2).mono ?_); rintro r w3 ⟨A', c', rfl, ho3, hb3⟩)))
  go_ret2
  exact ⟨A', c', rfl, Ap.own_low ho3 hb2.size, stepB hb2 hb3⟩
set_option maxHeartbeats 4000000 in
theorem Block_out (i : Int) (hx : PcsAt w A (flat t 0)) (hV : t.Valid v) (hk : k = t.size) (hi : i < 0 ∨ (t.size : Int) ≤ i) :
    Calls Try.prog 11 #[.slice A k c, .int .i64 v, .int .i64 i] w fun r w' => r = .returned (.tuple #[.slice none 0 0, .int .i64 8]) ∧ Below w.heap.size w w' := by
  have hs := hV.size
  have hl : (flat t 0).length ≤ 1000000 := by rw [flat_len]; omega
  have hk' : k = (flat t 0).length := by rw [flat_len]; exact hk
  have HK := Lib.hid (Check_any A (flat t 0) c v w hx hl)
  rw [chkL_valid hV, ← hk'] at HK
  rw [← hk] at hi
  have hk2 : k ≤ 64 := by omega
  clear hx hV hk' hl hs hk
  have hd : (i < 0 ∧ decide (i < 0) = true) ∨ (0 ≤ i ∧ decide (i < 0) = false ∧ decide ((k : Int) ≤ i) = true) := by
    by_cases h : i < 0
    · exact .inl ⟨h, decide_eq_true h⟩
    · exact .inr ⟨by omega, decide_eq_false h, decide_eq_true (by omega)⟩
  clear hi
  rcases hd with ⟨h0, d1⟩ | ⟨h0, d1, d2⟩
  all_goals
    clear h0
    go_enter Try.func11, Try.ntmps11
    go_wp2_with (go_at_call 10; ((with_reducible refine HK.out.mono ?_); rintro r w2 ⟨rfl, hb2⟩))
    go_ret2
    exact ⟨rfl, hb2⟩
theorem plain_at {l : List Pc} {k : Nat} (h : ∀ i, i < k → ((pc l i).op == 9 || (pc l i).op == 10) = false) (hk : k = l.length) : plainL l = true := by
  unfold plainL
  rw [List.all_eq_true]
  intro x hx
  obtain ⟨i, hi, rfl⟩ := List.getElem_of_mem hx
  have := h i (by omega)
  unfold pc at this
  rw [List.getD_eq_getElem?_getD, List.getElem?_eq_getElem hi] at this
  have this : (l[i].op == 9 || l[i].op == 10) = false := this
  rw [this]; rfl
theorem plain_not {l : List Pc} {i : Nat} (hi : i < l.length) (h : ((pc l i).op == 9 || (pc l i).op == 10) = true) : plainL l = false := by
  cases hp : plainL l with
  | false => rfl
  | true =>
    unfold plainL at hp
    rw [List.all_eq_true] at hp
    have h1 := hp (pc l i) (by unfold pc; rw [List.getD_eq_getElem?_getD, List.getElem?_eq_getElem hi]; exact List.getElem_mem hi)
    rw [h] at h1
    cases h1
theorem ret_be {a b : Bool} {k : Int} (h : a = b) : Ending.returned (.tuple #[.bool a, .int .i64 k]) = .returned (.tuple #[.bool b, .int .i64 k]) := by rw [h]
set_option maxHeartbeats 4000000 in
theorem Plain_good (hx : PcsAt w A (flat t 0)) (hV : t.Valid v) (hk : k = t.size) :
    Calls Try.prog 76 #[.slice A k c, .int .i64 v] w fun r w' => r = .returned (.tuple #[.bool (plainT t), .int .i64 0]) ∧ Below w.heap.size w w' := by
  have hs := hV.size
  have hl : (flat t 0).length ≤ 1000000 := by rw [flat_len]; omega
  have hk' : k = (flat t 0).length := by rw [flat_len]; exact hk
  have HK := Lib.hid (Check_any A (flat t 0) c v w hx hl)
  rw [chkL_valid hV, ← hk'] at HK
  have HX := Lib.hid fun wr (h : Below w.heap.size w wr) j (hj : j < (flat t 0).length) => pcs_five hx h hj
  have HP := Lib.hid (plain_flat t 0 hV.ok)
  have hk2 : k ≤ 64 := by omega
  rw [← hk'] at HX
  have HK2 := Lib.hid hk'
  clear hx hV hk hk' hl hs
  generalize flat t 0 = F at *
  generalize plainT t = R at *
  go_enter Try.func76, Try.ntmps76
  go_wp2_with (go_at_call 10; ((with_reducible refine HK.out.mono ?_); rintro r w2 ⟨rfl, hb2⟩))
  go_loopw [17] (fun i wr => ∃ j : Nat, j ≤ k ∧ i = .int .i64 j ∧ Hid (∀ i, i < j → ((pc F i).op == 9 || (pc F i).op == 10) = false) ∧ Below w.heap.size w wr) (fun i _ => k - (intOf i).toNat)
  case atStart => exact ⟨0, by omega, rfl, fun i hi => absurd hi (by omega), hb2⟩
  case round =>
    obtain ⟨j, hj, rfl, HI, hb⟩ := hrel
    by_cases hlt : j < k
    · obtain ⟨ad, rfl, had, hok, f0, f1, f2, f3, f4⟩ := HX.out _ hb j hlt
      have hop := hok.op
      have HL := Lib.hid fun X => isLook_any (pc F j).op X hop
      have hj2 : (j : Int) < k := by omega
      have hN : ((pc F j).op == 9 || (pc F j).op == 10) = true → Hid (R = false) := fun h => by
        show _ = _
        rw [← HP.out]; exact plain_not (by rw [← HK2.out]; exact hlt) h
      have hY : ((pc F j).op == 9 || (pc F j).op == 10) = false → Hid (∀ i, i < j + 1 → ((pc F i).op == 9 || (pc F i).op == 10) = false) := fun h i hi => by
        rcases Nat.lt_or_eq_of_le (Nat.le_of_lt_succ hi) with h1 | rfl
        · exact HI.out i h1
        · exact h
      clear hok hop HX HI
      generalize ((pc F j).op == 9 || (pc F j).op == 10) = b at *
      generalize pc F j = x at *
      cases b
      · have HY := hY rfl
        clear hY hN
        go_wp2_with (go_at_call 66; ((with_reducible refine (HL.out _).mono ?_); rintro r w3 ⟨rfl, rfl⟩))
        go_roundw
        case rel => exact ⟨j + 1, by omega, by go_num, HY.out, hb.alloc (Nat.le_trans hb.size (by simp)) _⟩
        case measure => simp [intOf]; omega
      · have HN := hN rfl
        clear hY hN
        go_wp2_with (go_at_call 66; ((with_reducible refine (HL.out _).mono ?_); rintro r w3 ⟨rfl, rfl⟩))
        go_ret2
        exact ⟨ret_be HN.out.symm, bal hb _⟩
    · obtain rfl : j = k := by omega
      have hR := plain_at HI.out HK2.out
      rw [HP.out] at hR
      have HR := Lib.hid hR
      clear hR HI HX
      go_wp2
      go_ret2
      exact ⟨ret_be HR.out.symm, hb⟩
end
end Go.Proofs.Yteckkbjpeckjmaa.Rx
