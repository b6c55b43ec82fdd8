/- The reference's Plain and First, and the refusals of Format, Block and Reverse. -/
import Derived.Test.YteckkbjpeckjmaaRK
import Derived.Test.YteckkbjpeckjmaaYZC
namespace Go.Proofs.Yteckkbjpeckjmaa.Rx
open Go Go.RowKit Go.Proofs.Yteckkbjpeckjmaa
set_option linter.unusedVariables false
set_option maxRecDepth 100000
section
variable (A : Option Addr) (e : List Pc) (c : Nat) (v : Int) (w : World)
set_option maxHeartbeats 4000000 in
theorem refPlain_bad (hx : PcsAt w A e) (hl : e.length ≤ 1000000) (hne : chkL v e ≠ 0) :
    Calls Try.prog 46 #[.slice A e.length c, .int .i64 v] w fun r w' => r = .returned (.tuple #[.bool false, .int .i64 (chkL v e)]) ∧ Below w.heap.size w w' := by
  have HK := Lib.hid (refCheck_L A e c v w hx hl)
  generalize chkL v e = E at *
  have h1 := int_ne hne
  clear hne hx
  generalize e.length = n at *
  go_enter Try.func46, Try.ntmps46
  go_wp2_with (go_at_call 68; ((with_reducible refine HK.out.mono ?_); rintro r w2 ⟨rfl, hb2⟩))
  go_ret2
  exact ⟨rfl, hb2⟩
end
set_option maxHeartbeats 4000000 in
theorem refPlain_good (A : Option Addr) (t : Ex) (k c : Nat) (v : Int) (w : World) (hx : PcsAt w A (flat t 0)) (hV : t.Valid v) (hk : k = t.size) :
    Calls Try.prog 46 #[.slice A k c, .int .i64 v] w fun r w' => r = .returned (.tuple #[.bool (plainT t), .int .i64 0]) ∧ Below w.heap.size w w' := by
  have hs := hV.size
  have hl : (flat t 0).length ≤ 1000000 := by rw [flat_len]; omega
  have hk' : k = (flat t 0).length := by rw [flat_len]; exact hk
  have HK := Lib.hid (refCheck_L A (flat t 0) c v w hx hl)
  rw [chkL_valid hV, ← hk'] at HK
  have HX := Lib.hid fun wr (h : Below w.heap.size w wr) j (hj : j < (flat t 0).length) => pcs_five hx h hj
  have HP := Lib.hid (plain_flat t 0 hV.ok)
  have hk2 : k ≤ 64 := by omega
  rw [← hk'] at HX
  have HK2 := Lib.hid hk'
  clear hx hV hk hk' hl hs
  generalize flat t 0 = F at *
  generalize plainT t = R at *
  go_enter Try.func46, Try.ntmps46
  go_wp2_with (go_at_call 68; ((with_reducible refine HK.out.mono ?_); rintro r w2 ⟨rfl, hb2⟩))
  go_loopw [7] (fun i wr => ∃ j : Nat, j ≤ k ∧ i = .int .i64 j ∧ Hid (∀ i, i < j → ((pc F i).op == 9 || (pc F i).op == 10) = false) ∧ Below w.heap.size w wr) (fun i _ => k - (intOf i).toNat)
  case atStart => exact ⟨0, by omega, rfl, fun i hi => absurd hi (by omega), hb2⟩
  case round =>
    obtain ⟨j, hj, rfl, HI, hb⟩ := hrel
    by_cases hlt : j < k
    · obtain ⟨ad, rfl, had, hok, f0, f1, f2, f3, f4⟩ := HX.out _ hb j hlt
      have hop := hok.op
      have HL := Lib.hid fun X => look_any (pc F j).op X hop
      have hj2 : (j : Int) < k := by omega
      have hN : ((pc F j).op == 9 || (pc F j).op == 10) = true → Hid (R = false) := fun h => by
        show _ = _
        rw [← HP.out]; exact plain_not (by rw [← HK2.out]; exact hlt) h
      have hY : ((pc F j).op == 9 || (pc F j).op == 10) = false → Hid (∀ i, i < j + 1 → ((pc F i).op == 9 || (pc F i).op == 10) = false) := fun h i hi => by
        rcases Nat.lt_or_eq_of_le (Nat.le_of_lt_succ hi) with h1 | rfl
        · exact HI.out i h1
        · exact h
      clear hok hop HX HI
      generalize ((pc F j).op == 9 || (pc F j).op == 10) = b at *
      generalize pc F j = x at *
      cases b
      · have HY := hY rfl
        clear hY hN
        go_wp2_with (go_at_call 72; ((with_reducible refine (HL.out _).mono ?_); rintro r w3 ⟨rfl, rfl⟩))
        go_roundw
        case rel => exact ⟨j + 1, by omega, by go_num, HY.out, hb⟩
        case measure => simp [intOf]; omega
      · have HN := hN rfl
        clear hY hN
        go_wp2_with (go_at_call 72; ((with_reducible refine (HL.out _).mono ?_); rintro r w3 ⟨rfl, rfl⟩))
        go_ret2
        exact ⟨ret_be HN.out.symm, hb⟩
    · obtain rfl : j = k := by omega
      have hR := plain_at HI.out HK2.out
      rw [HP.out] at hR
      have HR := Lib.hid hR
      clear hR HI HX
      go_wp2
      go_ret2
      exact ⟨ret_be HR.out.symm, hb⟩
set_option maxHeartbeats 4000000 in
theorem First_any (A : Option Addr) (e : List Pc) (c : Nat) (hl : e.length ≤ 1000000) : ∀ (t : Ex) (s j : Nat) (w : World), PcsAt w A e → t.Ok → Bl e s j t →
    Calls Try.prog 98 #[.slice A e.length c, .int .i64 j] w fun r w' => r = .returned (.int .i64 s) ∧ Below w.heap.size w w'
  | .leaf op p q, s, j, w, hx, ho, hb => by
    have hj := bl_lt hb
    obtain ⟨hok, ad, rfl, _, hc⟩ := hx j hj
    obtain ⟨f0, _⟩ := five_at hc
    rw [bl_leaf' hb] at f0 hok
    have hop : op < 256 := hok.op
    have h1 := ho.1
    have HCh : Hid (∀ X, Calls Try.prog 93 #[.int .u8 op] X fun r w' => r = .returned (.int .i64 0) ∧ X = w') := fun X => by
      have := Children_any op X hop
      rwa [kids_leaf h1] at this
    have hj2 : (j : Int) < e.length := by omega
    have hsj : (s : Int) = j := by have := hb.1; simp [Ex.size] at this; omega
    have HS := Lib.hid hsj
    clear hc hok hb hx h1 hop ho hj hsj
    generalize e.length = n at *
    go_enter Try.func98, Try.ntmps98
    go_wp2_with (first
      | (go_at_call 93; ((with_reducible refine (HCh.out _).mono ?_); rintro r w2 ⟨rfl, rfl⟩)))
    go_ret
    exact ⟨ret_int HS.out.symm, Below.refl _ _⟩
  | .one op a, s, j, w, hx, ho, hb => by
    have hj := bl_lt hb
    obtain ⟨h0, hpc, hba⟩ := bl_one' hb
    have HIH : Hid (Calls Try.prog 98 #[.slice A e.length c, .int .i64 ((j : Int) - 1)] w fun r w' => r = .returned (.int .i64 s) ∧ Below w.heap.size w w') := by
      have := First_any A e c hl a s (j - 1) w hx ho.2 hba
      rwa [show ((j - 1 : Nat) : Int) = (j : Int) - 1 by omega] at this
    obtain ⟨hok, ad, rfl, _, hc⟩ := hx j hj
    obtain ⟨f0, _, _, f3, _⟩ := five_at hc
    rw [hpc] at f0 f3 hok
    have hop : op < 256 := hok.op
    have h1 := ho.1
    have HCh : Hid (∀ X, Calls Try.prog 93 #[.int .u8 op] X fun r w' => r = .returned (.int .i64 1) ∧ X = w') := fun X => by
      have := Children_any op X hop
      rwa [kids_one h1] at this
    have hj2 : (j : Int) < e.length := by omega
    clear hc hok hb hx h1 hop ho hj hba hpc h0
    generalize e.length = n at *
    go_enter Try.func98, Try.ntmps98
    go_wp2_with (first
      | (go_at_call 93; ((with_reducible refine (HCh.out _).mono ?_); rintro r w2 ⟨rfl, rfl⟩))
      | (go_at_call 98; ((with_reducible refine HIH.out.mono ?_); rintro r w3 ⟨rfl, b3⟩)))
    go_ret
    exact ⟨rfl, b3⟩
  | .two op a b, s, j, w, hx, ho, hb => by
    have hj := bl_lt hb
    obtain ⟨h0, hpc, hba, hbb⟩ := bl_two' hb
    have hpa := a.pos
    have HIH : Hid (Calls Try.prog 98 #[.slice A e.length c, .int .i64 (((s + a.size : Nat) : Int) - 1)] w fun r w' => r = .returned (.int .i64 s) ∧ Below w.heap.size w w') := by
      have := First_any A e c hl a s (s + a.size - 1) w hx ho.2.1 hba
      rwa [show ((s + a.size - 1 : Nat) : Int) = ((s + a.size : Nat) : Int) - 1 by omega] at this
    obtain ⟨hok, ad, rfl, _, hc⟩ := hx j hj
    obtain ⟨f0, _, _, f3, _⟩ := five_at hc
    rw [hpc] at f0 f3 hok
    have hop : op < 256 := hok.op
    have h1 := ho.1
    have HCh : Hid (∀ X, Calls Try.prog 93 #[.int .u8 op] X fun r w' => r = .returned (.int .i64 2) ∧ X = w') := fun X => by
      have := Children_any op X hop
      rwa [kids_two h1] at this
    have hj2 : (j : Int) < e.length := by omega
    clear hc hok hb hx h1 hop ho hj hba hbb hpc h0
    generalize ((s + a.size : Nat) : Int) - 1 = N at *
    generalize e.length = n at *
    go_enter Try.func98, Try.ntmps98
    go_wp2_with (first
      | (go_at_call 93; ((with_reducible refine (HCh.out _).mono ?_); rintro r w2 ⟨rfl, rfl⟩))
      | (go_at_call 98; ((with_reducible refine HIH.out.mono ?_); rintro r w3 ⟨rfl, b3⟩)))
    go_ret
    exact ⟨rfl, b3⟩
end Go.Proofs.Yteckkbjpeckjmaa.Rx
