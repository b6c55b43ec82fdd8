/- Look-arounds that stand where they must not (package regex): the closure that calls itself. -/
import Derived.Test.YteckkbjpeckjmaaYNQ
namespace Go.Proofs.Yteckkbjpeckjmaa.Rx
open Go Go.RowKit Go.Proofs.Yteckkbjpeckjmaa
set_option linter.unusedVariables false
set_option maxRecDepth 100000
def misF (be bm : Nat) : Value := .func (.func 65) #[] #[.pointer (some ⟨be, 0, none⟩), .pointer (some ⟨bm, 0, none⟩)]
/-- The variables that the closure has taken in. -/
structure MisAt (w : World) (be bm : Nat) (A : Option Addr) (n c : Nat) : Prop where
  ce : w.cell? ⟨be, 0, none⟩ = some (.slice A n c)
  cm : w.cell? ⟨bm, 0, none⟩ = some (misF be bm)
  le : be < w.heap.size
  lm : bm < w.heap.size
theorem MisAt.below {w w' : World} {be bm : Nat} {A : Option Addr} {n c : Nat} (h : MisAt w be bm A n c) (hb : Below w.heap.size w w') : MisAt w' be bm A n c :=
  ⟨(hb.cell (p := ⟨be, 0, none⟩) h.le).trans h.ce, (hb.cell (p := ⟨bm, 0, none⟩) h.lm).trans h.cm, Nat.lt_of_lt_of_le h.le hb.size, Nat.lt_of_lt_of_le h.lm hb.size⟩
def MisC (be bm : Nat) (j : Int) (free : Bool) (R : Bool) (w : World) : Prop :=
  Calls Try.prog 65 #[.int .i64 j, .bool free, .pointer (some ⟨be, 0, none⟩), .pointer (some ⟨bm, 0, none⟩)] w fun r w' => r = .returned (.bool R) ∧ Below w.heap.size w w'
theorem op_tests (op : Nat) : ∃ b4 b5 : Bool, ((op : Int) == 4) = b4 ∧ ((op : Int) == 5) = b5 ∧ (op == 4) = b4 ∧ (op == 5) = b5 := by
  refine ⟨op == 4, op == 5, ?_, ?_, rfl, rfl⟩
  · by_cases h : op = 4
    · subst h; rfl
    · rw [show (op == 4) = false by simpa using h, beq_eq_false_iff_ne]; omega
  · by_cases h : op = 5
    · subst h; rfl
    · rw [show (op == 5) = false by simpa using h, beq_eq_false_iff_ne]; omega
set_option maxHeartbeats 8000000 in
theorem mis_any (A : Option Addr) (e : List Pc) (c : Nat) (hl : e.length ≤ 1000000) (be bm : Nat) : ∀ (t : Ex) (s j : Nat) (free : Bool) (w : World), PcsAt w A e → MisAt w be bm A e.length c → t.Ok → Bl e s j t → MisC be bm j free (badT t free) w
  | .leaf op p q, s, j, free, w, hx, hm, ho, hb => by
    have hj := bl_lt hb
    obtain ⟨ad, rfl, had, hok, f0, f1, f2, f3, f4⟩ := pcs_five hx (Below.refl _ _) hj
    have hpc := bl_leaf' hb
    rw [hpc] at f0 f1 f2 f3 f4 hok
    have hop : op < 256 := hok.op
    have h1 := ho.1
    have HLk : Hid (∀ X, Calls Try.prog 66 #[.int .u8 op] X fun r w' => r = .returned (.bool false) ∧ X = w') := fun X => by
      have := isLook_any op X hop
      rwa [show (op == 9 || op == 10) = false by simp; omega] at this
    have HC := Lib.hid fun X => childrenOf_n (op := op) (p := p) (q := q) (a := 0) (b := 0) hop (nk_leaf h1) X
    have n4 : ((op : Int) == 4) = false := nat_ne0 (by omega)
    have n5 : ((op : Int) == 5) = false := nat_ne0 (by omega)
    have hj2 : (j : Int) < e.length := by omega
    obtain ⟨ce, cm, le, lm⟩ := hm
    clear hok hb hx h1 hop ho hj hpc
    unfold misF at cm
    generalize e.length = n at *
    show Calls _ _ _ _ _
    cases free
    all_goals
      go_enter Try.func65, Try.ntmps65
      go_wp2_with (first
        | (go_at_call 66; ((with_reducible refine (HLk.out _).mono ?_); rintro r w1 ⟨rfl, rfl⟩))
        | (go_at_call 60; ((with_reducible refine (HC.out _).mono ?_); rintro r w1 ⟨g, rfl, hg1, hg2, hc0, hc1, hb1⟩)))
      go_loopw [36] (fun i wr => i = .int .i64 0 ∧ Below w.heap.size w wr) (fun _ _ => 0)
      case atStart => exact ⟨rfl, hb1⟩
      case round =>
        obtain ⟨rfl, hb⟩ := hrel
        go_wp2
        go_ret
        exact ⟨rfl, hb⟩
  | .one op a, s, j, free, w, hx, hm, ho, hb => by
    have hj := bl_lt hb
    obtain ⟨h0, hpc, hba⟩ := bl_one' hb
    have HIa : Hid (∀ X, Below w.heap.size w X → MisC be bm ((j : Int) - 1) false (badT a false) X) := fun X hX => by
      have := mis_any A e c hl be bm a s (j - 1) false X (hx.below hX) (hm.below hX) ho.2 hba
      rwa [show ((j - 1 : Nat) : Int) = (j : Int) - 1 by omega] at this
    obtain ⟨ad, rfl, had, hok, f0, f1, f2, f3, f4⟩ := pcs_five hx (Below.refl _ _) hj
    rw [hpc] at f0 f1 f2 f3 f4 hok
    have hop : op < 256 := hok.op
    have h1 := ho.1
    obtain ⟨lk, hlk⟩ : ∃ lk, lk = (op == 9 || op == 10) := ⟨_, rfl⟩
    have HLk : Hid (∀ X, Calls Try.prog 66 #[.int .u8 op] X fun r w' => r = .returned (.bool lk) ∧ X = w') := fun X => by
      rw [hlk]; exact isLook_any op X hop
    have HC := Lib.hid fun X => childrenOf_z (op := op) (a := (j : Int) - 1) (b := 0) hop (nk_one h1) X
    have HB : Hid (badT (.one op a) free = ((lk && !free) || badT a false)) := by rw [hlk]; rfl
    have n4 : ((op : Int) == 4) = false := nat_ne0 (by omega)
    have n5 : ((op : Int) == 5) = false := nat_ne0 (by omega)
    have hj2 : (j : Int) < e.length := by omega
    have HM := Lib.hid fun X hX => hm.below (w' := X) hX
    obtain ⟨ce, cm, le, lm⟩ := hm
    clear hok hb hx h1 hop ho hj hpc hba h0 hlk
    unfold misF at cm
    generalize badT (.one op a) free = R at *
    obtain ⟨Ra, hRa⟩ : ∃ Ra, Ra = badT a false := ⟨_, rfl⟩
    rw [← hRa] at HIa HB
    generalize e.length = n at *
    show Calls _ _ _ _ _
    cases lk <;> cases free
    case true.false =>
      go_enter Try.func65, Try.ntmps65
      go_wp2_with (go_at_call 66; ((with_reducible refine (HLk.out _).mono ?_); rintro r w1 ⟨rfl, rfl⟩))
      go_ret
      exact ⟨ret_b (HB.out.trans rfl).symm, Below.refl _ _⟩
    all_goals
      have HB2 : Hid (R = Ra) := by show _ = _; rw [HB.out]; simp
      clear HB
      go_enter Try.func65, Try.ntmps65
      go_wp2_with (first
        | (go_at_call 66; ((with_reducible refine (HLk.out _).mono ?_); rintro r w1 ⟨rfl, rfl⟩))
        | (go_at_call 60; ((with_reducible refine (HC.out _).mono ?_); rintro r w1 ⟨g, rfl, hg1, hg2, hc0, hc1, hb1⟩)))
      have HG : Hid (∀ X, Below w1.heap.size w1 X → X.cell? ⟨g, 0, none⟩ = some (.int .i64 ((j : Int) - 1))) := fun X hX => (hX.cell (p := ⟨g, 0, none⟩) hg2).trans hc0
      clear hc0 hc1 f0 f1 f2 f3 f4 hRa
      go_loopw [36] (fun i wr => ∃ k : Nat, k ≤ 1 ∧ i = .int .i64 k ∧ Hid (1 ≤ k → Ra = false) ∧ Below w1.heap.size w1 wr) (fun i _ => 1 - (intOf i).toNat)
      case atStart => exact ⟨0, by omega, rfl, fun h => absurd h (by decide), Below.refl _ _⟩
      case round =>
        obtain ⟨k, hk, rfl, HR, hb⟩ := hrel
        by_cases hk0 : k = 0
        · subst hk0
          have g0 := HG.out _ hb
          have M := HM.out _ (stepB hb1 hb)
          obtain ⟨ce', cm', _, _⟩ := M
          unfold misF at cm'
          have HA := Lib.hid (HIa.out _ (stepB hb1 hb))
          unfold MisC at HA
          clear ce cm HR
          cases Ra
          · go_wp2_with (go_at_call 65; ((with_reducible refine HA.out.mono ?_); rintro r w3 ⟨rfl, hb3⟩))
            go_roundw
            case rel => exact ⟨1, by omega, rfl, (fun _ => by first | trivial | rfl), stepB hb hb3⟩
            case measure => simp [intOf]
          · go_wp2_with (go_at_call 65; ((with_reducible refine HA.out.mono ?_); rintro r w3 ⟨rfl, hb3⟩))
            go_ret
            exact ⟨ret_bt HB2.out, stepB (stepB hb1 hb) hb3⟩
        · obtain rfl : k = 1 := by omega
          have hR : R = false := HB2.out.trans (HR.out (Nat.le_refl _))
          have HR2 := Lib.hid hR
          clear hR HR
          go_wp2
          go_ret
          exact ⟨ret_bf HR2.out, stepB hb1 hb⟩
  | .two op a b, s, j, free, w, hx, hm, ho, hb => by
    have hj := bl_lt hb
    obtain ⟨h0, hpc, hba, hbb⟩ := bl_two' hb
    have hpa := a.pos
    have HIa : Hid (∀ fr X, Below w.heap.size w X → MisC be bm (((s + a.size : Nat) : Int) - 1) fr (badT a fr) X) := fun fr X hX => by
      have := mis_any A e c hl be bm a s (s + a.size - 1) fr X (hx.below hX) (hm.below hX) ho.2.1 hba
      rwa [show ((s + a.size - 1 : Nat) : Int) = ((s + a.size : Nat) : Int) - 1 by omega] at this
    have HIb : Hid (∀ fr X, Below w.heap.size w X → MisC be bm ((j : Int) - 1) fr (badT b fr) X) := fun fr X hX => by
      have := mis_any A e c hl be bm b (s + a.size) (j - 1) fr X (hx.below hX) (hm.below hX) ho.2.2 hbb
      rwa [show ((j - 1 : Nat) : Int) = (j : Int) - 1 by omega] at this
    obtain ⟨ad, rfl, had, hok, f0, f1, f2, f3, f4⟩ := pcs_five hx (Below.refl _ _) hj
    rw [hpc] at f0 f1 f2 f3 f4 hok
    have hop : op < 256 := hok.op
    have h1 := ho.1
    have HLk : Hid (∀ X, Calls Try.prog 66 #[.int .u8 op] X fun r w' => r = .returned (.bool false) ∧ X = w') := fun X => by
      have := isLook_any op X hop
      rwa [show (op == 9 || op == 10) = false by simp; omega] at this
    simp only at f3
    generalize ((s + a.size : Nat) : Int) - 1 = N at *
    have HC := Lib.hid fun X => childrenOf_z (op := op) (a := N) (b := (j : Int) - 1) hop (nk_two h1) X
    obtain ⟨b4, b5, n4, n5, m4, m5⟩ := op_tests op
    have HB : Hid (badT (.two op a b) free = (badT a (free && (b4 || b5)) || badT b (free && (b4 || b5)))) := by rw [← m4, ← m5]; rfl
    have hj2 : (j : Int) < e.length := by omega
    have HM := Lib.hid fun X hX => hm.below (w' := X) hX
    obtain ⟨ce, cm, le, lm⟩ := hm
    clear hok hb hx h1 hop ho hj hpc hba hbb h0 m4 m5 hpa
    unfold misF at cm
    generalize badT (.two op a b) free = R at *
    obtain ⟨fa, hfa⟩ : ∃ fa : Bool → Bool, ∀ fr, badT a fr = fa fr := ⟨_, fun _ => rfl⟩
    obtain ⟨fb, hfb⟩ : ∃ fb : Bool → Bool, ∀ fr, badT b fr = fb fr := ⟨_, fun _ => rfl⟩
    simp only [hfa, hfb] at HIa HIb HB
    clear hfa hfb
    generalize e.length = n at *
    show Calls _ _ _ _ _
    obtain ⟨fr, hfr⟩ : ∃ fr, fr = (free && (b4 || b5)) := ⟨_, rfl⟩
    rw [← hfr] at HB
    have HIa := Lib.hid (HIa.out fr)
    have HIb := Lib.hid (HIb.out fr)
    generalize fa fr = Ra at *
    generalize fb fr = Rb at *
    have hcs : (free = false ∧ fr = false) ∨ (free = true ∧ b4 = true ∧ fr = true) ∨ (free = true ∧ b4 = false ∧ b5 = true ∧ fr = true) ∨ (free = true ∧ b4 = false ∧ b5 = false ∧ fr = false) := by
      rw [hfr]
      cases free <;> cases b4 <;> cases b5 <;> simp
    clear hfr
    rcases hcs with ⟨rfl, rfl⟩ | ⟨rfl, rfl, rfl⟩ | ⟨rfl, rfl, rfl, rfl⟩ | ⟨rfl, rfl, rfl, rfl⟩
    all_goals
      go_enter Try.func65, Try.ntmps65
      go_wp2_with (first
        | (go_at_call 66; ((with_reducible refine (HLk.out _).mono ?_); rintro r w1 ⟨rfl, rfl⟩))
        | (go_at_call 60; ((with_reducible refine (HC.out _).mono ?_); rintro r w1 ⟨g, rfl, hg1, hg2, hc0, hc1, hb1⟩)))
      have HG : Hid (∀ X, Below w1.heap.size w1 X → X.cell? ⟨g, 0, none⟩ = some (.int .i64 N) ∧ X.cell? ⟨g, 1, none⟩ = some (.int .i64 ((j : Int) - 1))) := fun X hX => ⟨(hX.cell (p := ⟨g, 0, none⟩) hg2).trans hc0, (hX.cell (p := ⟨g, 1, none⟩) hg2).trans hc1⟩
      clear hc0 hc1 f0 f1 f2 f3 f4
      go_loopw [36] (fun i wr => ∃ k : Nat, k ≤ 2 ∧ i = .int .i64 k ∧ Hid ((1 ≤ k → Ra = false) ∧ (2 ≤ k → Rb = false)) ∧ Below w1.heap.size w1 wr) (fun i _ => 2 - (intOf i).toNat)
      case atStart => exact ⟨0, by omega, rfl, ⟨fun h => absurd h (by decide), fun h => absurd h (by decide)⟩, Below.refl _ _⟩
      case round =>
        obtain ⟨k, hk, rfl, HR, hb⟩ := hrel
        have g0 := (HG.out _ hb).1
        have g1 := (HG.out _ hb).2
        have M := HM.out _ (stepB hb1 hb)
        obtain ⟨ce', cm', _, _⟩ := M
        unfold misF at cm'
        have HA := Lib.hid (HIa.out _ (stepB hb1 hb))
        have HB' := Lib.hid (HIb.out _ (stepB hb1 hb))
        unfold MisC at HA HB'
        have hk3 : k = 0 ∨ k = 1 ∨ k = 2 := by omega
        clear ce cm
        rcases hk3 with rfl | rfl | rfl
        · clear HR
          cases Ra
          · go_wp2_with (go_at_call 65; ((with_reducible refine HA.out.mono ?_); rintro r w3 ⟨rfl, hb3⟩))
            go_roundw
            case rel => exact ⟨1, by omega, rfl, ⟨fun _ => by first | trivial | rfl, fun h => absurd h (by decide)⟩, stepB hb hb3⟩
            case measure => simp [intOf]
          · go_wp2_with (go_at_call 65; ((with_reducible refine HA.out.mono ?_); rintro r w3 ⟨rfl, hb3⟩))
            go_ret
            exact ⟨ret_bt (HB.out.trans (by simp)), stepB (stepB hb1 hb) hb3⟩
        · have hRa : Hid (Ra = false) := HR.out.1 (Nat.le_refl _)
          clear HR
          cases Rb
          · go_wp2_with (go_at_call 65; ((with_reducible refine HB'.out.mono ?_); rintro r w3 ⟨rfl, hb3⟩))
            go_roundw
            case rel => exact ⟨2, by omega, rfl, ⟨fun _ => hRa.out, fun _ => by first | trivial | rfl⟩, stepB hb hb3⟩
            case measure => simp [intOf]
          · go_wp2_with (go_at_call 65; ((with_reducible refine HB'.out.mono ?_); rintro r w3 ⟨rfl, hb3⟩))
            go_ret
            exact ⟨ret_bt (HB.out.trans (by simp)), stepB (stepB hb1 hb) hb3⟩
        · have hR : Hid (R = false) := by show _ = _; rw [HB.out, HR.out.1 (by decide), HR.out.2 (by decide)]; rfl
          clear HR
          go_wp2
          go_ret
          exact ⟨ret_bf hR.out, stepB hb1 hb⟩
end Go.Proofs.Yteckkbjpeckjmaa.Rx
