/- Parse of package regex. -/
import Derived.Test.YteckkbjpeckjmaaYZM
namespace Go.Proofs.Yteckkbjpeckjmaa.Rx
open Go Go.RowKit Go.Shelf Go.Proofs.Yteckkbjpeckjmaa
set_option linter.unusedVariables false
set_option maxRecDepth 100000
theorem eat_err {b : Nat} {l : List UInt8} {k : Int} (h : eat b l = .error k) : k ≠ 0 := by
  cases l with
  | nil => cases h; decide
  | cons c r =>
    rw [eat_cons] at h
    split at h
    · cases h
    · cases h; decide
theorem pcl_err : ∀ (l : List UInt8) (st : Rd) (k : Int), pcl st l = .error k → k ≠ 0
  | [], st, k, h => by cases h; decide
  | c :: r, st, k, h => by
    rw [pcl_cons] at h
    split at h
    · cases h
    · split at h
      · cases h; decide
      · split at h
        · cases h; decide
        · exact pcl_err r _ k h
theorem pcube_err {l : List UInt8} {k : Int} (h : pcube l = .error k) : k ≠ 0 := by
  cases l with
  | nil => cases h; decide
  | cons c r =>
    rw [pcube_cons] at h
    split at h
    · cases he : eat 93 r with
      | error e => rw [he] at h; cases h; exact eat_err he
      | ok r' => rw [he] at h; cases h
    · exact pcl_err _ _ k h
theorem pex_err : ∀ (f : Nat) (l : List UInt8) (k : Int), pex f l = .error k → k ≠ 0
  | 0, l, k, h => by cases h; decide
  | f + 1, [], k, h => by cases h; decide
  | f + 1, c :: l, k, h => by
    unfold pex at h
    split at h
    · cases h
    split at h
    · cases h
    split at h
    · cases hp : pcube l with
      | error e => rw [hp] at h; cases h; exact pcube_err hp
      | ok x => rw [hp] at h; cases h
    split at h
    · cases l with
      | nil => cases h; decide
      | cons d l1 =>
        simp only at h
        by_cases hd : preOp d.toNat ≠ 0
        · rw [if_pos hd] at h
          cases hp : pex f l1 with
          | error e => rw [hp] at h; cases h; exact pex_err f _ _ hp
          | ok x =>
            obtain ⟨a, r2⟩ := x
            rw [hp] at h
            simp only at h
            cases he : eat 41 r2 with
            | error e => rw [he] at h; cases h; exact eat_err he
            | ok r3 => rw [he] at h; cases h
        · rw [if_neg hd] at h
          cases hp : pex f (d :: l1) with
          | error e => rw [hp] at h; cases h; exact pex_err f _ _ hp
          | ok x =>
            obtain ⟨a, r2⟩ := x
            rw [hp] at h
            cases r2 with
            | nil => cases h; decide
            | cons d2 r3 =>
              simp only at h
              split at h
              · cases he : eat 41 r3 with
                | error e => rw [he] at h; cases h; exact eat_err he
                | ok r4 => rw [he] at h; cases h
              · split at h
                · cases hq : pex f r3 with
                  | error e => rw [hq] at h; cases h; exact pex_err f _ _ hq
                  | ok x =>
                    obtain ⟨b, r4⟩ := x
                    rw [hq] at h
                    simp only at h
                    cases he : eat 41 r4 with
                    | error e => rw [he] at h; cases h; exact eat_err he
                    | ok r5 => rw [he] at h; cases h
                · cases h; decide
    · cases h; decide
/-- What Check answers of an expression's pieces, reckoned. -/
def chkC (v : Int) (t : Ex) : Int := if v < 0 ∨ 6 < v then 7 else if 64 < t.size then 4 else
  match chkTo v (flat t 0) t.size with
  | .error f => f
  | .ok first => if first.getD (t.size - 1) 0 ≠ 0 then 2 else if badT t true then 2 else 0
theorem chkL_flat {v : Int} {t : Ex} (h : t.Ok) : chkL v (flat t 0) = chkC v t := by
  have hp := t.pos
  unfold chkL chkC
  rw [flat_len, treeOf_flat h]
  by_cases hv : v < 0 ∨ 6 < v
  · rw [if_pos hv, if_pos hv]
  · rw [if_neg hv, if_neg hv, if_neg (by omega)]
    rfl
/-- What Parse answers. -/
def parE (l : List UInt8) (v : Int) : Except Int Ex :=
  if v < 0 ∨ 6 < v then .error 7 else if 4096 < l.length then .error 4 else
  match pex l.length l with
  | .error k => .error k
  | .ok (t, []) => if chkC v t = 0 then .ok t else .error (chkC v t)
  | .ok (_, _ :: _) => .error 5
theorem chkC_valid {v : Int} {t : Ex} (h : t.Ok) (hc : chkC v t = 0) : t.Valid v := by
  rw [← chkL_flat h] at hc
  obtain ⟨u, hu, he⟩ := chkL_ok hc
  rw [flat_inj t u 0 h hu.ok he]
  exact hu
theorem parE_ok {l : List UInt8} {v : Int} {t : Ex} (h : parE l v = .ok t) : t.Valid v ∧ l = txt t := by
  unfold parE at h
  by_cases hv : v < 0 ∨ 6 < v
  · rw [if_pos hv] at h; cases h
  rw [if_neg hv] at h
  by_cases hl : 4096 < l.length
  · rw [if_pos hl] at h; cases h
  rw [if_neg hl] at h
  cases hx : pex l.length l with
  | error k => rw [hx] at h; cases h
  | ok x =>
    obtain ⟨u, r⟩ := x
    rw [hx] at h
    obtain ⟨h1, h2, h3⟩ := pex_ok _ _ _ _ hx
    cases r with
    | nil =>
      simp only at h
      by_cases hc : chkC v u = 0
      · rw [if_pos hc] at h
        cases h
        exact ⟨chkC_valid h1 hc, by simpa using h3⟩
      · rw [if_neg hc] at h; cases h
    | cons c r => cases h
set_option maxHeartbeats 8000000 in
theorem Parse_bad (s : ByteArray) (v k : Int) (w : World) (hs : s.size ≤ 4095 ∨ 4096 < s.size) (hs2 : s.size ≤ 1000000) (h : parE s.data.toList v = .error k) :
    Calls Try.prog 7 #[.string s, .int .i64 v] w fun r w' => r = .returned (.tuple #[.slice none 0 0, .int .i64 k]) ∧ Below w.heap.size w w' := by
  have hl : s.data.toList.length = s.size := by simp
  by_cases hv : 0 ≤ v ∧ v ≤ 6
  · have HV := Lib.hid fun X => isNumberOfVars_yes v X hv
    unfold parE at h
    rw [if_neg (by omega), hl] at h
    by_cases h4 : 4096 < s.size
    · rw [if_pos h4] at h
      cases h
      have hd : decide ((4096 : Int) < s.size) = true := decide_eq_true (by omega)
      have hd2 : decide (4096 < s.size) = true := decide_eq_true (by omega)
      clear hl hs hv
      go_enter Try.func7, Try.ntmps7
      go_wp2_with (go_at_call 30; ((with_reducible refine (HV.out _).mono ?_); rintro r w2 ⟨rfl, rfl⟩))
      go_ret2
      exact ⟨rfl, Below.refl _ _⟩
    · rw [if_neg h4] at h
      have hd : decide ((4096 : Int) < s.size) = false := decide_eq_false (by omega)
      have hd2 : decide (4096 < s.size) = false := decide_eq_false (by omega)
      have HR0 := read_any s w (by omega)
      unfold RdOutP at HR0
      rw [show Dl s 0 = s.data.toList from rfl] at HR0
      cases hx : pex s.size s.data.toList with
      | error k' =>
        rw [hx] at h HR0
        cases h
        have HR : Hid (Calls Try.prog 31 #[.string s] w fun r w' => r = .returned (.tuple #[.slice none 0 0, .int .i64 k]) ∧ Below w.heap.size w w') := HR0
        have hk : k ≠ 0 := pex_err _ _ _ hx
        have hk1 := int_ne hk
        clear hl hs hv hx HR0 hk h4
        go_enter Try.func7, Try.ntmps7
        go_wp2_with (first
          | (go_at_call 30; ((with_reducible refine (HV.out _).mono ?_); rintro r w2 ⟨rfl, rfl⟩))
          | (go_at_call 31; ((with_reducible refine HR.out.mono ?_); rintro r w2 ⟨rfl, hb2⟩)))
        go_ret2
        exact ⟨rfl, hb2⟩
      | ok x =>
        obtain ⟨t, r⟩ := x
        rw [hx] at h HR0
        cases r with
        | cons c r =>
          cases h
          have HR : Hid (Calls Try.prog 31 #[.string s] w fun r w' => r = .returned (.tuple #[.slice none 0 0, .int .i64 5]) ∧ Below w.heap.size w w') := HR0
          clear hl hs hv hx HR0 h4
          go_enter Try.func7, Try.ntmps7
          go_wp2_with (first
            | (go_at_call 30; ((with_reducible refine (HV.out _).mono ?_); rintro r w2 ⟨rfl, rfl⟩))
            | (go_at_call 31; ((with_reducible refine HR.out.mono ?_); rintro r w2 ⟨rfl, hb2⟩)))
          go_ret2
          exact ⟨rfl, hb2⟩
        | nil =>
          have HR : Hid (Calls Try.prog 31 #[.string s] w fun r w' => ∃ A' c', r = .returned (.tuple #[.slice A' t.size c', .int .i64 0]) ∧ w'.ownsRow w.heap.size 32 5 (.slice A' t.size c') t.size (pvs (flat t 0)) ∧ Below w.heap.size w w') := HR0
          simp only at h
          obtain ⟨h1, h2, h3⟩ := pex_ok _ _ _ _ hx
          by_cases hc : chkC v t = 0
          · rw [if_pos hc] at h; cases h
          · rw [if_neg hc] at h
            cases h
            have hne := int_ne hc
            have hsz : t.size ≤ 4096 := by
              have := txt_ge t h1
              have h4 := congrArg List.length h3
              rw [hl] at h4
              simp at h4
              omega
            have HK : Hid (∀ X A' c', X.ownsRow w.heap.size 32 5 (.slice A' t.size c') t.size (pvs (flat t 0)) → Calls Try.prog 10 #[.slice A' t.size c', .int .i64 v] X fun r w' => r = .returned (.int .i64 (chkC v t)) ∧ Below X.heap.size X w') := fun X A' c' hO => by
              have := Check_any A' (flat t 0) c' v X (pcs_of_own hO (flat_fine t 0 h1 (p8_six t h1 h2) (by omega))) (by rw [flat_len]; omega)
              rwa [flat_len, chkL_flat h1] at this
            generalize chkC v t = E at *
            clear hl hs hv hx HR0 h4 hc h1 h2 h3
            go_enter Try.func7, Try.ntmps7
            go_wp2_with (first
              | (go_at_call 30; ((with_reducible refine (HV.out _).mono ?_); rintro r w2 ⟨rfl, rfl⟩))
              | (go_at_call 31; ((with_reducible refine HR.out.mono ?_); rintro r w2 ⟨A', c', rfl, hO, hb2⟩); have HO := Lib.hid hO; clear hO)
              | (go_at_call 10; ((with_reducible refine (HK.out _ _ _ HO.out).mono ?_); rintro r w3 ⟨rfl, hb3⟩)))
            go_ret2
            exact ⟨rfl, stepB hb2 hb3⟩
  · have HV := Lib.hid fun X => isNumberOfVars_no v X hv
    unfold parE at h
    rw [if_pos (by omega)] at h
    cases h
    clear hl hs hv
    go_enter Try.func7, Try.ntmps7
    go_wp2_with (go_at_call 30; ((with_reducible refine (HV.out _).mono ?_); rintro r w2 ⟨rfl, rfl⟩))
    go_ret2
    exact ⟨rfl, Below.refl _ _⟩
set_option maxHeartbeats 8000000 in
theorem Parse_good (s : ByteArray) (v : Int) (t : Ex) (w : World) (hs : s.size ≤ 4095) (h : parE s.data.toList v = .ok t) :
    Calls Try.prog 7 #[.string s, .int .i64 v] w fun r w' => ∃ A' c', r = .returned (.tuple #[.slice A' t.size c', .int .i64 0]) ∧ w'.ownsRow w.heap.size 32 5 (.slice A' t.size c') t.size (pvs (flat t 0)) ∧ Below w.heap.size w w' := by
  have hl : s.data.toList.length = s.size := by simp
  obtain ⟨hV, hT⟩ := parE_ok h
  have hv : 0 ≤ v ∧ v ≤ 6 := ⟨hV.v0, hV.v6⟩
  have HV := Lib.hid fun X => isNumberOfVars_yes v X hv
  have hd : decide ((4096 : Int) < s.size) = false := decide_eq_false (by omega)
  have hd2 : decide (4096 < s.size) = false := decide_eq_false (by omega)
  unfold parE at h
  rw [if_neg (by omega), hl, if_neg (by omega)] at h
  have HR0 := read_any s w hs
  unfold RdOutP at HR0
  rw [show Dl s 0 = s.data.toList from rfl] at HR0
  cases hx : pex s.size s.data.toList with
  | error k' => rw [hx] at h; cases h
  | ok x =>
    obtain ⟨u, r⟩ := x
    rw [hx] at h HR0
    cases r with
    | cons c r => cases h
    | nil =>
      simp only at h
      by_cases hc : chkC v u = 0
      · rw [if_pos hc] at h
        cases h
        have HR : Hid (Calls Try.prog 31 #[.string s] w fun r w' => ∃ A' c', r = .returned (.tuple #[.slice A' t.size c', .int .i64 0]) ∧ w'.ownsRow w.heap.size 32 5 (.slice A' t.size c') t.size (pvs (flat t 0)) ∧ Below w.heap.size w w') := HR0
        obtain ⟨h1, h2, h3⟩ := pex_ok _ _ _ _ hx
        have hsz := hV.size
        have HK : Hid (∀ X A' c', X.ownsRow w.heap.size 32 5 (.slice A' t.size c') t.size (pvs (flat t 0)) → Calls Try.prog 10 #[.slice A' t.size c', .int .i64 v] X fun r w' => r = .returned (.int .i64 0) ∧ Below X.heap.size X w') := fun X A' c' hO => by
          have := Check_any A' (flat t 0) c' v X (pcs_of_own hO (flat_fine t 0 h1 (p8_six t h1 h2) (by omega))) (by rw [flat_len]; omega)
          rwa [flat_len, chkL_flat h1, hc] at this
        clear hl hs hv hx HR0 hc h1 h2 h3 hV hT
        go_enter Try.func7, Try.ntmps7
        go_wp2_with (first
          | (go_at_call 30; ((with_reducible refine (HV.out _).mono ?_); rintro r w2 ⟨rfl, rfl⟩))
          | (go_at_call 31; ((with_reducible refine HR.out.mono ?_); rintro r w2 ⟨A', c', rfl, hO, hb2⟩); have HO := Lib.hid hO; clear hO)
          | (go_at_call 10; ((with_reducible refine (HK.out _ _ _ HO.out).mono ?_); rintro r w3 ⟨rfl, hb3⟩)))
        go_ret2
        exact ⟨A', c', rfl, Ap.own_bel HO.out hb3, stepB hb2 hb3⟩
      · rw [if_neg hc] at h; cases h
end Go.Proofs.Yteckkbjpeckjmaa.Rx
