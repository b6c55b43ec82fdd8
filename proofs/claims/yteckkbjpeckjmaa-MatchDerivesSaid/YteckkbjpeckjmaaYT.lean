/- Check of package regex. -/
import Derived.Test.YteckkbjpeckjmaaYR
import Derived.Laws.EntriesVeiled
namespace Go.Proofs.Yteckkbjpeckjmaa.Rx
open Go Go.RowKit Go.Proofs.Yteckkbjpeckjmaa
set_option linter.unusedVariables false
set_option maxRecDepth 100000
theorem two_new (W : World) (o o' : Obj) (u u' : Value) (t t' : TypeId) (ho : o = .cells #[u] t) (ho' : o' = .cells #[u'] t') : ((W.alloc o).alloc o').cell? ⟨W.heap.size, 0, none⟩ = some u ∧ ((W.alloc o).alloc o').cell? ⟨W.heap.size + 1, 0, none⟩ = some u' := by
  subst ho ho'
  constructor
  · rw [World.cell?_alloc_past _ _ _ (by simp), World.cell?_alloc_at _ _ _ _ rfl]; rfl
  · rw [World.cell?_alloc_at _ _ _ _ (by simp)]; rfl
set_option maxHeartbeats 4000000 in
theorem misplaced_any (A : Option Addr) (e : List Pc) (c : Nat) (hl : e.length ≤ 1000000) (t : Ex) (s : Nat) (w : World) (hx : PcsAt w A e) (ho : t.Ok) (hb : Bl e s (e.length - 1) t) :
    Calls Try.prog 37 #[.slice A e.length c] w fun r w' => r = .returned (.bool (badT t true)) ∧ Below w.heap.size w w' := by
  have hmf : ∀ (fn : Fn) (first cap : Array Value) (w : World), (Instr.makeFunc fn first cap).run Try.prog w = .ok (.func fn first cap) w := fun _ _ _ _ => rfl
  have hj := bl_lt hb
  have HW := Lib.hid (bal (bal (Below.refl w.heap.size w) (.cells #[.slice A e.length c] 27)) (.cells #[misF w.heap.size (w.heap.size + 1)] 106))
  have HM : Hid (MisC w.heap.size (w.heap.size + 1) ((e.length : Int) - 1) true (badT t true) ((w.alloc (.cells #[.slice A e.length c] 27)).alloc (.cells #[misF w.heap.size (w.heap.size + 1)] 106))) := by
    obtain ⟨c1, c2⟩ := two_new w _ _ (.slice A e.length c) (misF w.heap.size (w.heap.size + 1)) 27 106 rfl rfl
    have := mis_any A e c hl w.heap.size (w.heap.size + 1) t s (e.length - 1) true _ (hx.below HW.out) ⟨c1, c2, by simp; omega, by simp⟩ ho hb
    rwa [show ((e.length - 1 : Nat) : Int) = (e.length : Int) - 1 by omega] at this
  generalize badT t true = R at *
  unfold MisC misF at HM
  unfold misF at HW
  have hn : 1 ≤ (e.length : Int) := by omega
  clear hx hb ho
  generalize e.length = n at *
  go_enter Try.func37, Try.ntmps37
  go_wp2_with (go_at_call 65; ((with_reducible refine HM.out.mono ?_); rintro r w3 ⟨rfl, hb3⟩))
  go_ret
  exact ⟨rfl, stepB HW.out hb3⟩
theorem chk_err {v : Int} {e : List Pc} {f : Int} {k : Nat} (h : chkTo v e k = .error f) : ∀ d, chkTo v e (k + d) = .error f
  | 0 => h
  | d + 1 => by
    show chkTo v e (k + d + 1) = _
    unfold chkTo
    rw [chk_err h d]
theorem chk_err' {v : Int} {e : List Pc} {f : Int} {k n : Nat} (h : chkTo v e k = .error f) (hk : k ≤ n) : chkTo v e n = .error f := by
  have := chk_err h (n - k)
  rwa [show k + (n - k) = n by omega] at this
section
variable {v : Int} {e : List Pc}
theorem chkL_vars (h : ¬ (0 ≤ v ∧ v ≤ 6)) : chkL v e = 7 := by unfold chkL; rw [if_pos (by omega)]
theorem chkL_short (hv : 0 ≤ v ∧ v ≤ 6) (h : e.length = 0) : chkL v e = 3 := by unfold chkL; rw [if_neg (by omega), if_pos h]
theorem chkL_long (hv : 0 ≤ v ∧ v ≤ 6) (h : 64 < e.length) : chkL v e = 4 := by unfold chkL; rw [if_neg (by omega), if_neg (by omega), if_pos h]
theorem chkL_err {f : Int} (hv : 0 ≤ v ∧ v ≤ 6) (h0 : e.length ≠ 0) (h64 : ¬ 64 < e.length) (h : chkTo v e e.length = .error f) : chkL v e = f := by unfold chkL; rw [if_neg (by omega), if_neg h0, if_neg h64, h]
theorem chkL_end {first : List Nat} (hv : 0 ≤ v ∧ v ≤ 6) (h0 : e.length ≠ 0) (h64 : ¬ 64 < e.length) (h : chkTo v e e.length = .ok first) : chkL v e = if first.getD (e.length - 1) 0 ≠ 0 then 2 else if badT (treeOf e) true then 2 else 0 := by unfold chkL; rw [if_neg (by omega), if_neg h0, if_neg h64, h]
end
theorem step_bad {v : Int} {e : List Pc} {k : Nat} {fs : List Nat} (h : chkTo v e k = .ok fs) (hs : stepE v fs k (pc e k) ≠ 0) : chkTo v e (k + 1) = .error (stepE v fs k (pc e k)) := by
  unfold stepE at *
  unfold chkTo
  rw [h]
  simp only
  by_cases hp : pieceE v (pc e k) ≠ 0
  · rw [if_pos hp, if_pos hp]
  · rw [if_neg hp] at hs
    rw [if_neg hp, if_neg hp]
    cases hb : beginE fs k (pc e k) with
    | none => rfl
    | some b => rw [hb] at hs; exact absurd rfl hs
theorem step_ok {v : Int} {e : List Pc} {k : Nat} {fs : List Nat} (h : chkTo v e k = .ok fs) (hs : stepE v fs k (pc e k) = 0) : ∃ b, chkTo v e (k + 1) = .ok (fs ++ [b]) := by
  unfold stepE at hs
  unfold chkTo
  rw [h]
  simp only
  by_cases hp : pieceE v (pc e k) ≠ 0
  · rw [if_pos hp] at hs; exact absurd hs hp
  · rw [if_neg hp] at hs
    rw [if_neg hp]
    cases hb : beginE fs k (pc e k) with
    | none => rw [hb] at hs; cases hs
    | some b => exact ⟨b, rfl⟩
set_option maxHeartbeats 8000000 in
theorem Check_any (A : Option Addr) (e : List Pc) (c : Nat) (v : Int) (w : World) (hx : PcsAt w A e) (hl : e.length ≤ 1000000) :
    Calls Try.prog 10 #[.slice A e.length c, .int .i64 v] w fun r w' => r = .returned (.int .i64 (chkL v e)) ∧ Below w.heap.size w w' := by
  by_cases hv : 0 ≤ v ∧ v ≤ 6
  · have HV := Lib.hid fun X => isNumberOfVars_yes v X hv
    by_cases h0 : e.length = 0
    · have HE := Lib.hid (chkL_short hv h0)
      have hn : ((e.length : Int) == 0) = true := nat_eq0 (by omega)
      generalize chkL v e = E at *
      generalize e.length = n at *
      clear hv hx h0
      go_enter Try.func10, Try.ntmps10
      go_wp2_with (go_at_call 30; ((with_reducible refine (HV.out _).mono ?_); rintro r w2 ⟨rfl, rfl⟩))
      go_ret
      exact ⟨ret_int HE.out.symm, Below.refl _ _⟩
    have hn : ((e.length : Int) == 0) = false := nat_ne0 (by omega)
    by_cases h64 : 64 < e.length
    · have HE := Lib.hid (chkL_long hv h64)
      have hd : decide ((64 : Int) < e.length) = true := decide_eq_true (by omega)
      have hd2 : decide (64 < e.length) = true := decide_eq_true (by omega)
      generalize chkL v e = E at *
      generalize e.length = n at *
      clear hv hx h0 h64
      go_enter Try.func10, Try.ntmps10
      go_wp2_with (go_at_call 30; ((with_reducible refine (HV.out _).mono ?_); rintro r w2 ⟨rfl, rfl⟩))
      go_ret
      exact ⟨ret_int HE.out.symm, Below.refl _ _⟩
    have hd : decide ((64 : Int) < e.length) = false := decide_eq_false (by omega)
    have hd2 : decide (64 < e.length) = false := decide_eq_false (by omega)
    have HErr : Hid (∀ k f, k < e.length → chkTo v e (k + 1) = .error f → chkL v e = f) := fun k f hk h => chkL_err hv h0 h64 (chk_err' h (by omega))
    have HEnd := Lib.hid fun first => chkL_end (first := first) hv h0 h64
    have HPc := Lib.hid fun wr (h : Below w.heap.size w wr) k fs hk hinv => checkPiece_any A e c hl k v fs wr (hx.below h) hk hinv
    have HFi := Lib.hid fun wr (h : Below w.heap.size w wr) t s j ho hb => first_any A e c hl t s j wr (hx.below h) ho hb
    have HMi := Lib.hid fun wr (h : Below w.heap.size w wr) t s ho hb => misplaced_any A e c hl t s wr (hx.below h) ho hb
    have HInv : Hid (∀ k fs, k ≤ e.length → chkTo v e k = .ok fs → ChkInv v e k fs) := fun k fs hk h => chk_inv k fs hk h
    have HTr : Hid (∀ t, t.Ok → Bl e 0 (e.length - 1) t → treeOf e = t) := fun t ho hb => by
      have h1 := hb.1
      have h2 := hb.2
      have hs : t.size = e.length := by omega
      rw [List.drop_zero, hs, List.take_length] at h2
      rw [h2, treeOf_flat ho]
    obtain ⟨n, hnn⟩ : ∃ n, n = e.length := ⟨_, rfl⟩
    rw [← hnn] at hl h0 h64 hd hd2 hn HErr HEnd HPc HFi HMi HInv HTr ⊢
    obtain ⟨E, hE⟩ : ∃ E, E = chkL v e := ⟨_, rfl⟩
    rw [← hE] at HErr HEnd ⊢
    clear hE hnn hx hv h64
    go_enter Try.func10, Try.ntmps10
    go_wp2_with (go_at_call 30; ((with_reducible refine (HV.out _).mono ?_); rintro r w2 ⟨rfl, rfl⟩))
    go_loopw [21] (fun i wr => ∃ (k : Nat) (fs : List Nat), k ≤ n ∧ i = .int .i64 k ∧ Hid (chkTo v e k = .ok fs) ∧ Below w.heap.size w wr) (fun i _ => n - (intOf i).toNat)
    case atStart => exact ⟨0, [], by omega, rfl, rfl, Below.refl _ _⟩
    case round =>
      obtain ⟨k, fs, hk, rfl, HF, hb⟩ := hrel
      by_cases hlt : k < n
      · have HP := Lib.hid (HPc.out wr hb k fs hlt (HInv.out k fs hk HF.out))
        have HBad := Lib.hid (step_bad (e := e) HF.out)
        have HOk := Lib.hid (step_ok (e := e) HF.out)
        generalize stepE v fs k (pc e k) = S at *
        by_cases hS : S = 0
        · subst hS
          obtain ⟨b, HK⟩ := HOk.out rfl
          have HK := Lib.hid HK
          clear HF HBad HOk HEnd HErr HFi HMi HTr HPc
          go_wp2_with (go_at_call 35; ((with_reducible refine HP.out.mono ?_); rintro r w2 ⟨rfl, hb2⟩))
          go_roundw
          case rel => exact ⟨k + 1, _, by omega, by go_num, HK.out, stepB hb hb2⟩
          case measure => simp [intOf]; omega
        · have HE := Lib.hid (HErr.out k S hlt (HBad.out hS))
          have hne : (S != 0) = true := int_ne hS
          clear HF HBad HOk HEnd HErr HFi HMi HTr HPc hS
          go_wp2_with (go_at_call 35; ((with_reducible refine HP.out.mono ?_); rintro r w2 ⟨rfl, hb2⟩))
          go_ret
          exact ⟨ret_int HE.out.symm, stepB hb hb2⟩
      · obtain rfl : k = n := by omega
        have hI := HInv.out k fs (Nat.le_refl _) HF.out
        have hE := HEnd.out fs HF.out
        obtain ⟨t, ht, hbl⟩ := hI.bl (k - 1) (by omega)
        have HF1 := HFi.out wr hb t _ _ ht hbl
        have hk1 : 1 ≤ (k : Int) := by omega
        rw [show ((k - 1 : Nat) : Int) = (k : Int) - 1 by omega] at HF1
        have HF2 := Lib.hid HF1
        have HM2 := Lib.hid fun X hX => HMi.out X hX t _ ht hbl
        have HT2 := HTr.out t ht
        obtain ⟨s, hs⟩ : ∃ s, s = fs.getD (k - 1) 0 := ⟨_, rfl⟩
        rw [← hs] at HF2 hE hbl
        clear HF1 hs hI HF HInv HEnd HErr HPc HFi HMi HTr ht
        by_cases hs0 : s = 0
        · subst hs0
          rw [if_neg (by simp), HT2 hbl] at hE
          have HE := Lib.hid hE
          clear hE HT2 hbl
          generalize badT t true = R at *
          cases R
          all_goals
            go_wp2_with (first
              | (go_at_call 36; ((with_reducible refine HF2.out.mono ?_); rintro r w2 ⟨rfl, hb2⟩))
              | (go_at_call 37; ((with_reducible refine (HM2.out _ (stepB hb hb2)).mono ?_); rintro r w3 ⟨rfl, hb3⟩)))
            go_ret
            exact ⟨ret_int HE.out.symm, stepB (stepB hb hb2) hb3⟩
        · rw [if_pos hs0] at hE
          have HE := Lib.hid hE
          have hne : ((s : Int) != 0) = true := int_ne (by omega)
          clear hE HT2 hbl hs0
          go_wp2_with (first
              | (go_at_call 36; ((with_reducible refine HF2.out.mono ?_); rintro r w2 ⟨rfl, hb2⟩)))
          go_ret
          exact ⟨ret_int HE.out.symm, stepB hb hb2⟩
  · have HE := Lib.hid (chkL_vars (e := e) hv)
    have HV := Lib.hid fun X => isNumberOfVars_no v X hv
    generalize chkL v e = E at *
    clear hv hx
    go_enter Try.func10, Try.ntmps10
    go_wp2_with (go_at_call 30; ((with_reducible refine (HV.out _).mono ?_); rintro r w2 ⟨rfl, rfl⟩))
    go_ret
    exact ⟨ret_int HE.out.symm, Below.refl _ _⟩
end Go.Proofs.Yteckkbjpeckjmaa.Rx
