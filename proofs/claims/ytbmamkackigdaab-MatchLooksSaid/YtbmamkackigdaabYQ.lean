/- A piece's error, and Check (package regex). -/
import Derived.Test.YtbmamkackigdaabYP
namespace Go.Proofs.Ytbmamkackigdaab.Rx
open Go Go.RowKit Go.Proofs.Ytbmamkackigdaab
set_option linter.unusedVariables false
set_option maxRecDepth 100000
/-- What is wrong with piece k, where nothing is wrong with those before it. -/
def stepE (v : Int) (fs : List Nat) (k : Nat) (x : Pc) : Int := if pieceE v x ≠ 0 then pieceE v x else if (beginE fs k x).isSome then 0 else 8
theorem pieceE_uof {v : Int} {x : Pc} (h : 0 ≤ kids x.op) : pieceE v x = if uof x (nk x.op) then (if x.op = 3 then chk x.p x.q v else 0) else 2 := by
  have hn := nk_kids h
  unfold pieceE uof
  rw [if_neg (by omega)]
  by_cases hc : (x.op ≠ 3 ∧ (x.p ≠ 0 ∨ x.q ≠ 0)) ∨ (kids x.op < 1 ∧ x.a ≠ 0) ∨ (kids x.op < 2 ∧ x.b ≠ 0)
  · rw [if_pos hc, if_neg]
    rw [Bool.not_eq_true]
    rcases hc with ⟨h1, h2⟩ | ⟨h1, h2⟩ | ⟨h1, h2⟩
    · have e1 : (x.op == 3) = false := by simpa using h1
      have e2 : (x.p == 0 && x.q == 0) = false := by
        rcases h2 with h2 | h2 <;> simp [h2]
      rw [e1, e2]; rfl
    · have e1 : decide (1 ≤ nk x.op) = false := decide_eq_false (by omega)
      have e2 : (x.a == 0) = false := by simpa using h2
      rw [e1, e2]; simp
    · have e1 : decide (2 ≤ nk x.op) = false := decide_eq_false (by omega)
      have e2 : (x.b == 0) = false := by simpa using h2
      rw [e1, e2]; simp
  · rw [if_neg hc]
    refine (if_pos ?_).symm
    rw [Bool.and_eq_true, Bool.and_eq_true]
    refine ⟨⟨?_, ?_⟩, ?_⟩
    · by_cases h3 : x.op = 3
      · simp [h3]
      · by_cases hp : x.p = 0
        · by_cases hq : x.q = 0
          · simp [hp, hq]
          · exact absurd (.inl ⟨h3, .inr hq⟩) hc
        · exact absurd (.inl ⟨h3, .inl hp⟩) hc
    · by_cases h1 : 1 ≤ nk x.op
      · simp [h1]
      · by_cases ha : x.a = 0
        · simp [ha]
        · exact absurd (.inr (.inl ⟨by omega, ha⟩)) hc
    · by_cases h1 : 2 ≤ nk x.op
      · simp [h1]
      · by_cases ha : x.b = 0
        · simp [ha]
        · exact absurd (.inr (.inr ⟨by omega, ha⟩)) hc
theorem op_cell (W : World) (sg n : Nat) (pf : Bool) : (W.alloc (.cells #[.int .u8 sg, .int .i64 n, .bool pf] 99)).cell? ⟨W.heap.size, 1, none⟩ = some (.int .i64 n) := by rw [World.cell?_alloc_at _ _ _ _ rfl]; rfl
set_option maxHeartbeats 8000000 in
theorem checkPiece_any (A : Option Addr) (e : List Pc) (c : Nat) (hl : e.length ≤ 1000000) (k : Nat) (v : Int) (fs : List Nat) (w : World) (hx : PcsAt w A e) (hk : k < e.length) (hinv : ChkInv v e k fs) :
    Calls Try.prog 50 #[.slice A e.length c, .int .i64 v, .int .i64 k] w fun r w' => r = .returned (.int .i64 (stepE v fs k (pc e k))) ∧ Below w.heap.size w w' := by
  obtain ⟨ad, rfl, had, hok, f0, f1, f2, f3, f4⟩ := pcs_five hx (Below.refl _ _) hk
  have HP := Lib.hid fun wr (h : Below w.heap.size w wr) n hn => inPost_any (some ad) e c hl k v fs wr (hx.below h) hk hinv n hn
  clear hx hinv
  obtain ⟨x, hxx⟩ : ∃ x, x = pc e k := ⟨_, rfl⟩
  rw [← hxx] at f0 f1 f2 f3 f4 HP hok ⊢
  clear hxx
  obtain ⟨N, hN⟩ : ∃ N, N = e.length := ⟨_, rfl⟩
  rw [← hN] at HP hk hl ⊢
  clear hN
  have hop := hok.op
  have hp := hok.p
  have hq := hok.q
  have HO := Lib.hid fun X => operatorOf_any x.op X hop
  have HU := Lib.hid fun X => usesOnly_any x (nk x.op) X (nk_le _)
  have HC := Lib.hid fun X => cubeOf_any x X
  have HK := Lib.hid fun X => Cb.Check_any x.p x.q v X hp hq
  have HFi := Lib.hid (five_new w x 43)
  have HS : Hid (stepE v fs k x = if pieceE v x ≠ 0 then pieceE v x else if (beginE fs k x).isSome then 0 else 8) := rfl
  generalize stepE v fs k x = S at *
  have HPE := Lib.hid (pieceE_uof (v := v) (x := x))
  have HKn := Lib.hid (knw_kids (op := x.op))
  have HNk := Lib.hid (nk_kids (op := x.op))
  have hB3 : Hid (x.op = 3 → (beginE fs k x).isSome = true) := fun h => by rw [beginE_leaf (by rw [h]; rfl)]; rfl
  generalize (beginE fs k x).isSome = R at *
  generalize knw x.op = kw at *
  generalize nk x.op = n at *
  generalize sgn x.op = sg at *
  generalize pfx x.op = pf at *
  have HBl := Lib.hid (bal (Below.refl w.heap.size w) (.cells #[.int .u8 x.op, .int .u8 x.p, .int .u8 x.q, .int .i64 x.a, .int .i64 x.b] 43))
  have hk2 : (k : Int) < N := by omega
  clear hok hp hq
  obtain ⟨op, p, q, a, b⟩ := x
  simp only at *
  by_cases hkn : 0 ≤ kids op
  · have ekw : kw = true := by rw [HKn.out]; exact decide_eq_true hkn
    subst ekw
    have hnk := Lib.hid (HNk.out hkn)
    have hPE := HPE.out hkn
    by_cases hu : uof ⟨op, p, q, a, b⟩ n = true
    · rw [if_pos hu] at hPE
      rw [hu] at HU
      by_cases h3 : op = 3
      · rw [if_pos h3] at hPE
        have HR : Hid (S = chk p q v) := by
          show _ = _
          rw [HS.out, hPE, hB3.out h3]
          by_cases h : chk p q v = 0
          · rw [h]; rfl
          · rw [if_pos h]
        have e3 := nat_eq0 (n := op) (k := 3) (by omega)
        generalize chk p q v = ck at *
        clear HS HPE HKn HNk hB3 hPE hu h3 hnk hkn HP
        go_enter Try.func50, Try.ntmps50
        go_wp2_with (first
          | (go_at_call 73; ((with_reducible refine (HO.out _).mono ?_); rintro r w1 ⟨rfl, hb1⟩); obtain ⟨u0, u1, u2, u3, u4⟩ := HFi.out; simp only [pv] at u0 u1 u2 u3 u4; have g0 := (hb1.cell (p := ⟨w.heap.size, 0, none⟩) (by simp)).trans u0; have g1 := (hb1.cell (p := ⟨w.heap.size, 1, none⟩) (by simp)).trans u1; have g2 := (hb1.cell (p := ⟨w.heap.size, 2, none⟩) (by simp)).trans u2; have g3 := (hb1.cell (p := ⟨w.heap.size, 3, none⟩) (by simp)).trans u3; have g4 := (hb1.cell (p := ⟨w.heap.size, 4, none⟩) (by simp)).trans u4; clear u0 u1 u2 u3 u4 f0 f1 f2 f3 f4; have hs1 : w.heap.size < w1.heap.size := (by have := hb1.size; simp at this; omega))
          | (go_at_call 79; ((with_reducible refine (HU.out _).mono ?_); rintro r w2 ⟨rfl, hb2⟩); have B2 := stepB (bal (Below.refl w1.heap.size w1) _) hb2; have k0 := (B2.cell (p := ⟨w.heap.size, 0, none⟩) hs1).trans g0; have k1 := (B2.cell (p := ⟨w.heap.size, 1, none⟩) hs1).trans g1; have k2 := (B2.cell (p := ⟨w.heap.size, 2, none⟩) hs1).trans g2; have k3 := (B2.cell (p := ⟨w.heap.size, 3, none⟩) hs1).trans g3; have k4 := (B2.cell (p := ⟨w.heap.size, 4, none⟩) hs1).trans g4; have o1 := (hb2.cell (p := ⟨w1.heap.size, 1, none⟩) (by simp)).trans (op_cell w1 sg n pf); clear g0 g1 g2 g3 g4)
          | (go_at_call 81; ((with_reducible refine (HC.out _).mono ?_); rintro r w3 ⟨rfl, hb3⟩))
          | (go_at_call 80; ((with_reducible refine (HK.out _).mono ?_); rintro r w4 ⟨rfl, hb4⟩)))
        go_ret
        exact ⟨ret_int HR.out.symm, stepB (stepB (stepB (stepB HBl.out hb1) B2) hb3) hb4⟩
      · rw [if_neg h3] at hPE
        have e3 := nat_ne0 (n := op) (k := 3) (by omega)
        have HR : Hid (S = if R then 0 else 8) := by
          show _ = _
          rw [HS.out, hPE]; rfl
        clear HS HPE HKn HNk hB3 hPE hu h3 hkn HK HC
        cases R
        all_goals
          go_enter Try.func50, Try.ntmps50
          go_wp2_with (first
            | (go_at_call 73; ((with_reducible refine (HO.out _).mono ?_); rintro r w1 ⟨rfl, hb1⟩); obtain ⟨u0, u1, u2, u3, u4⟩ := HFi.out; simp only [pv] at u0 u1 u2 u3 u4; have g0 := (hb1.cell (p := ⟨w.heap.size, 0, none⟩) (by simp)).trans u0; have g1 := (hb1.cell (p := ⟨w.heap.size, 1, none⟩) (by simp)).trans u1; have g2 := (hb1.cell (p := ⟨w.heap.size, 2, none⟩) (by simp)).trans u2; have g3 := (hb1.cell (p := ⟨w.heap.size, 3, none⟩) (by simp)).trans u3; have g4 := (hb1.cell (p := ⟨w.heap.size, 4, none⟩) (by simp)).trans u4; clear u0 u1 u2 u3 u4 f0 f1 f2 f3 f4; have hs1 : w.heap.size < w1.heap.size := (by have := hb1.size; simp at this; omega))
            | (go_at_call 79; ((with_reducible refine (HU.out _).mono ?_); rintro r w2 ⟨rfl, hb2⟩); have B2 := stepB (bal (Below.refl w1.heap.size w1) _) hb2; have k0 := (B2.cell (p := ⟨w.heap.size, 0, none⟩) hs1).trans g0; have k1 := (B2.cell (p := ⟨w.heap.size, 1, none⟩) hs1).trans g1; have k2 := (B2.cell (p := ⟨w.heap.size, 2, none⟩) hs1).trans g2; have k3 := (B2.cell (p := ⟨w.heap.size, 3, none⟩) hs1).trans g3; have k4 := (B2.cell (p := ⟨w.heap.size, 4, none⟩) hs1).trans g4; have o1 := (hb2.cell (p := ⟨w1.heap.size, 1, none⟩) (by simp)).trans (op_cell w1 sg n pf); clear g0 g1 g2 g3 g4)
            | (go_at_call 82; ((with_reducible refine (HP.out _ (stepB (stepB HBl.out hb1) B2) _ hnk.out).mono ?_); rintro r w4 ⟨rfl, hb4⟩)))
          go_ret
          exact ⟨ret_int HR.out.symm, stepB (stepB (stepB HBl.out hb1) B2) hb4⟩
    · rw [if_neg hu] at hPE
      have hu : uof ⟨op, p, q, a, b⟩ n = false := by simpa using hu
      rw [hu] at HU
      have HR : Hid (S = 2) := by
        show _ = _
        rw [HS.out, hPE]; rfl
      clear HS HPE HKn HNk hB3 hPE hu hkn HK HC HP hnk
      go_enter Try.func50, Try.ntmps50
      go_wp2_with (first
        | (go_at_call 73; ((with_reducible refine (HO.out _).mono ?_); rintro r w1 ⟨rfl, hb1⟩); obtain ⟨u0, u1, u2, u3, u4⟩ := HFi.out; simp only [pv] at u0 u1 u2 u3 u4; have g0 := (hb1.cell (p := ⟨w.heap.size, 0, none⟩) (by simp)).trans u0; have g1 := (hb1.cell (p := ⟨w.heap.size, 1, none⟩) (by simp)).trans u1; have g2 := (hb1.cell (p := ⟨w.heap.size, 2, none⟩) (by simp)).trans u2; have g3 := (hb1.cell (p := ⟨w.heap.size, 3, none⟩) (by simp)).trans u3; have g4 := (hb1.cell (p := ⟨w.heap.size, 4, none⟩) (by simp)).trans u4; clear u0 u1 u2 u3 u4 f0 f1 f2 f3 f4; have hs1 : w.heap.size < w1.heap.size := (by have := hb1.size; simp at this; omega))
        | (go_at_call 79; ((with_reducible refine (HU.out _).mono ?_); rintro r w2 ⟨rfl, hb2⟩); have B2 := stepB (bal (Below.refl w1.heap.size w1) _) hb2; have k0 := (B2.cell (p := ⟨w.heap.size, 0, none⟩) hs1).trans g0; have k1 := (B2.cell (p := ⟨w.heap.size, 1, none⟩) hs1).trans g1; have k2 := (B2.cell (p := ⟨w.heap.size, 2, none⟩) hs1).trans g2; have k3 := (B2.cell (p := ⟨w.heap.size, 3, none⟩) hs1).trans g3; have k4 := (B2.cell (p := ⟨w.heap.size, 4, none⟩) hs1).trans g4; have o1 := (hb2.cell (p := ⟨w1.heap.size, 1, none⟩) (by simp)).trans (op_cell w1 sg n pf); clear g0 g1 g2 g3 g4))
      go_ret
      exact ⟨ret_int HR.out.symm, stepB (stepB HBl.out hb1) B2⟩
  · have ekw : kw = false := by rw [HKn.out]; exact decide_eq_false hkn
    subst ekw
    have HR : Hid (S = 6) := by
      show _ = _
      rw [HS.out, pieceE_bad (by show kids op < 0; omega)]; rfl
    clear HS HPE HKn HNk hB3 hkn HK HC HP HU
    go_enter Try.func50, Try.ntmps50
    go_wp2_with (first
      | (go_at_call 73; ((with_reducible refine (HO.out _).mono ?_); rintro r w1 ⟨rfl, hb1⟩); obtain ⟨u0, u1, u2, u3, u4⟩ := HFi.out; simp only [pv] at u0 u1 u2 u3 u4; have g0 := (hb1.cell (p := ⟨w.heap.size, 0, none⟩) (by simp)).trans u0; have g1 := (hb1.cell (p := ⟨w.heap.size, 1, none⟩) (by simp)).trans u1; have g2 := (hb1.cell (p := ⟨w.heap.size, 2, none⟩) (by simp)).trans u2; have g3 := (hb1.cell (p := ⟨w.heap.size, 3, none⟩) (by simp)).trans u3; have g4 := (hb1.cell (p := ⟨w.heap.size, 4, none⟩) (by simp)).trans u4; clear u0 u1 u2 u3 u4 f0 f1 f2 f3 f4; have hs1 : w.heap.size < w1.heap.size := (by have := hb1.size; simp at this; omega)))
    go_ret
    exact ⟨ret_int HR.out.symm, bal (stepB HBl.out hb1) _⟩
end Go.Proofs.Ytbmamkackigdaab.Rx
