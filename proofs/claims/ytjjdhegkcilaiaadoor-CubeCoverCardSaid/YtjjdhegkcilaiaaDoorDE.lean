/- The reference's Cover. -/
import Derived.Test.YtjjdhegkcilaiaaDoorDD
namespace Go.Proofs.YtjjdhegkcilaiaaDoor
open Go Go.RowKit
set_option maxRecDepth 100000
theorem and64s : ((List.range 64).all fun p => (List.range 64).all fun q => bits .and .i64 (p : Int) (q : Int) == ((p &&& q : Nat) : Int)) = true := by decide +kernel
theorem and64 {p q : Nat} (hp : p < 64) (hq : q < 64) : bits .and .i64 (p : Int) (q : Int) = ((p &&& q : Nat) : Int) := by
  have := List.all_eq_true.1 (List.all_eq_true.1 and64s p (List.mem_range.2 hp)) q (List.mem_range.2 hq)
  exact beq_iff_eq.1 this
theorem refCover_vars (A : Option Addr) (m c : Nat) (v : Int) (w : World) (hv : ¬ (0 ≤ v ∧ v ≤ 6)) :
    Calls Tryd.prog 46 #[.slice A m c, .int .i64 v] w fun e w' => e = .returned (.tuple #[.slice none 0 0, .int .i64 7]) ∧ Below w.heap.size w w' := by
  have HW := Lib.hid fun w => wrong_vars A m c v w hv
  go_enter Tryd.func46, Tryd.ntmps46
  go_wp2_with (go_at_call 69; ((with_reducible refine (HW.out _).mono ?_); rintro e w2 ⟨rfl, hb⟩))
  go_ret2
  exact ⟨rfl, hb⟩
theorem refCover_arg (A : Option Addr) (l : List Nat) (c n : Nat) (w : World) (hn : n ≤ 6) (hx : Bys w A l) (h8 : B8 l) (hl : l.length ≤ 1000000) (ha : ascL l n = false) :
    Calls Tryd.prog 46 #[.slice A l.length c, .int .i64 n] w fun e w' => e = .returned (.tuple #[.slice none 0 0, .int .i64 1]) ∧ Below w.heap.size w w' := by
  have HW : Hid (Calls Tryd.prog 69 #[.slice A l.length c, .int .i64 n] w fun e w' => e = .returned (.int .i64 1) ∧ Below w.heap.size w w') := by
    refine (wrong_any A l c n w hn hx h8 hl).mono ?_
    rintro e w' ⟨e0, rfl, h, hb⟩
    rcases h with ⟨_, h⟩ | ⟨rfl, _⟩
    · rw [ha] at h; cases h
    · exact ⟨rfl, hb⟩
  go_enter Tryd.func46, Tryd.ntmps46
  go_wp2_with (go_at_call 69; ((with_reducible refine HW.out.mono ?_); rintro e w2 ⟨rfl, hb⟩))
  go_ret2
  exact ⟨rfl, hb⟩
/-- What the second pass keeps. -/
def OutS (w3 : World) (b3 : Nat) (A : Option Addr) (L : List (Nat × Nat)) (u : Value) (m : Nat) (xs : List Value) (X : World) : Prop := Cubs X A L ∧ X.ownsRow b3 42 2 u m xs ∧ Below b3 w3 X ∧ b3 ≤ X.heap.size
theorem OutS.step {w3 : World} {b3 : Nat} {A : Option Addr} {L : List (Nat × Nat)} {u : Value} {m : Nat} {xs : List Value} {X Y : World} (h : OutS w3 b3 A L u m xs X) (hb : Below X.heap.size X Y) : OutS w3 b3 A L u m xs Y :=
  ⟨h.1.below hb, h.2.1.below hb, h.2.2.1.trans (hb.mono h.2.2.2), Nat.le_trans h.2.2.2 hb.size⟩
set_option maxHeartbeats 4000000 in
theorem refCover_ok (A : Option Addr) (l : List Nat) (c n : Nat) (w : World) (hn : n ≤ 6) (hx : Bys w A l) (h8 : B8 l) (hl : l.length ≤ 1000000) (ha : ascL l n = true) :
    Calls Tryd.prog 46 #[.slice A l.length c, .int .i64 n] w fun e w' =>
      ∃ u, e = .returned (.tuple #[u, .int .i64 0]) ∧ w'.ownsRow w.heap.size 42 2 u (coverL l n).length (cvs (coverL l n)) ∧ Below w.heap.size w w' := by
  obtain ⟨i0, hi, hz0, hz1, hz2⟩ := info_parts info_cube
  have HW : Hid (Calls Tryd.prog 69 #[.slice A l.length c, .int .i64 n] w fun e w' => e = .returned (.int .i64 0) ∧ Below w.heap.size w w') := by
    refine (wrong_any A l c n w hn hx h8 hl).mono ?_
    rintro e w' ⟨e0, rfl, h, hb⟩
    rcases h with ⟨rfl, _⟩ | ⟨_, h⟩
    · exact ⟨rfl, hb⟩
    · rw [ha] at h; cases h
  have HI := Lib.hid fun p q w hC hx => refInside_any p q A l c n w hC hx h8 hl ha
  have HL := Lib.hid fun w => kitLetters_any n w hn
  have h64 := pow6 hn
  have HC : Hid (coverL l n = (insTo (fun x => decide (x ∈ l)) n (2 ^ n)).filter (primeR (insTo (fun x => decide (x ∈ l)) n (2 ^ n)))) := (primes_ref _ hn).symm
  have HA := Lib.hid (insTo_asc (fun x => decide (x ∈ l)) n (2 ^ n))
  have HCu := Lib.hid fun c (h : c ∈ insTo (fun x => decide (x ∈ l)) n (2 ^ n)) => insTo_cube hn h
  have HR0 := Lib.hid fun p => insTo_succ (fun x => decide (x ∈ l)) n p
  have HR1 := Lib.hid fun p k => rowTo_succ (fun x => decide (x ∈ l)) n p k
  have HR2 := Lib.hid fun p => insTo_len (fun x => decide (x ∈ l)) n p
  have HR3 := Lib.hid fun p k => rowTo_len (fun x => decide (x ∈ l)) n p k
  generalize (fun x => decide (x ∈ l)) = g at *
  have HQ : Hid (∀ p q, p < 2 ^ n → q < 2 ^ n → p &&& q = 0 → Cube p q n) := fun p q h1 h2 h3 => ⟨hn, h1, h2, h3⟩
  have HZ0 : Hid (insTo g n 0 = []) := by show _ = _; simp [insTo, cubesTo]
  have HZ1 : Hid (∀ p, rowTo g n p 0 = []) := fun p => by simp [rowTo]
  obtain ⟨N, hN⟩ : ∃ N, N = 2 ^ n := ⟨_, rfl⟩
  have HQN : Hid (2 ^ n = N) := hN.symm
  rw [← hN] at HL h64 HC HA HCu HR2 HQ
  clear ha hN h8
  go_enter Tryd.func46, Tryd.ntmps46
  go_wp2_with (first
    | (go_at_call 69; ((with_reducible refine HW.out.mono ?_); rintro e w2 ⟨rfl, hb0⟩))
    | (go_at_call 51; ((with_reducible refine (HL.out _).mono ?_); rintro e w3 ⟨rfl, rfl⟩)))
  go_loopw [7, 10] (fun u i wr => ∃ p m : Nat, p ≤ N ∧ i = .int .i64 p ∧ Hid (m = (insTo g n p).length) ∧ wr.ownsRow w.heap.size 42 2 u m (cvs (insTo g n p)) ∧ Below w.heap.size w wr) (fun _ i _ => N - (intOf i).toNat)
  case atStart => exact ⟨0, 0, by omega, rfl, by show _ = _; rw [HZ0.out]; rfl, by rw [HZ0.out]; exact ⟨rfl, .inl ⟨rfl, rfl⟩⟩, hb0⟩
  case round =>
    clear hb0
    obtain ⟨p, m, hp, rfl, HM, ho, hb⟩ := hrel
    by_cases hpN : p < N
    · go_wp2
      obtain ⟨wq, rfl⟩ : ∃ wq : World, wq = wr := ⟨_, rfl⟩
      go_loopw [7, 11] (fun u i wr => ∃ q m : Nat, q ≤ N ∧ i = .int .i64 q ∧ Hid (m = (insTo g n p ++ rowTo g n p q).length) ∧ wr.ownsRow w.heap.size 42 2 u m (cvs (insTo g n p ++ rowTo g n p q)) ∧ Below w.heap.size w wr) (fun _ i _ => N - (intOf i).toNat)
      case atStart => exact ⟨0, m, by omega, rfl, by show _ = _; rw [HZ1.out, List.append_nil]; exact HM.out, by rw [HZ1.out, List.append_nil]; exact ho, hb⟩
      case round =>
        clear ho hb HM
        obtain ⟨q, m, hq, rfl, HM, ho, hb⟩ := hrel
        obtain ⟨vA, vc, rfl, hvc⟩ := own_form ho
        by_cases hqN : q < N
        · have hm : m ≤ 5000 := by
            have h1 := HM.out
            rw [List.length_append] at h1
            have h2 := HR2.out p
            have h3 := HR3.out p q
            have h4 : p * N ≤ 64 * 64 := Nat.mul_le_mul (by omega) h64
            omega
          have hand := and64 (p := p) (q := q) (by omega) (by omega)
          have HS := Lib.hid (HR1.out p q)
          have K : Kit1 wr wr.heap.size p q (wr.alloc (.cells #[.int .u8 (p : Nat), .int .u8 (q : Nat)] 42)) := ⟨Box2.new wr _ _ _, bal (Below.refl _ _) _⟩
          have hsz : w.heap.size ≤ wr.heap.size := hb.size
          have ho2 := ho.below K.k
          have hb2 := stepB hb K.k
          have a0 := K.c.c0
          have a1 := K.c.c1
          by_cases h0 : p &&& q = 0
          · have hC := HQ.out p q hpN hqN h0
            have hI := fun X h => HI.out p q X hC h
            have h0b : (((p &&& q : Nat) : Int) == 0) = true := by rw [h0]; rfl
            rw [h0] at HS
            cases hin : insB g n p q with
            | true =>
              rw [hin] at HS hI
              have HE : Hid (insTo g n p ++ rowTo g n p (q + 1) = insTo g n p ++ rowTo g n p q ++ [(p, q)]) := by
                show _ = _
                rw [HS.out, List.append_assoc]; rfl
              have HII := Lib.hid hI
              clear hin hC HS h0 hI
              go_wp2_with (first
                | (go_at_call 70; ((with_reducible refine (HII.out _ (hx.below hb2)).mono ?_); rintro e w4 ⟨rfl, hb4⟩); have ho4 := ho2.below hb4; have hb5 := stepB hb2 hb4; have bC := K.c.below hb4; clear a0 a1 hb4; have a0 := bC.c0; have a1 := bC.c1)
                | (at_builtin; refine wpList_append_own _ rfl _ _ 59 rfl w.heap.size 42 i0 (.agg #[.int .u8 0, .int .u8 0]) 2 2 Tryd.underlying59 hi hz0 hz1 hz2 rfl (by decide) _ _ _ rfl (ho4.alloc _) ⟨w4.heap.size, 0, none⟩ 1 1 [.int .u8 (p : Nat), .int .u8 (q : Nat)] rfl rfl (cell_two_new _ _ _ _) (by simp [Value.oneCell']) (by unfold maxLen; omega) (by omega) (by have := hb5.size; simp; omega) ?_; intro v' w5 hown' hgrow _))
              have hs4 : w.heap.size ≤ w4.heap.size := hb5.size
              have hb6 : Below w.heap.size w w5 := (hb5.alloc hs4 _).grown hgrow (by simp; omega) (fun q hq => (ho4.lt q hq).1)
              have HM2 : Hid (m + 1 = (insTo g n p ++ rowTo g n p (q + 1)).length) := by
                show _ = _
                rw [HE.out, List.length_append, ← HM.out]; rfl
              go_roundw
              case rel => exact ⟨q + 1, m + 1, by omega, by go_num, HM2, by rw [HE.out, cvs_snoc]; exact hown', hb6⟩
              case measure => simp [intOf]; omega
            | false =>
              rw [hin] at HS hI
              have HE : Hid (insTo g n p ++ rowTo g n p (q + 1) = insTo g n p ++ rowTo g n p q) := by
                show _ = _
                rw [HS.out]; rfl
              have HII := Lib.hid hI
              clear hin hC HS h0 hI
              go_wp2_with (go_at_call 70; ((with_reducible refine (HII.out _ (hx.below hb2)).mono ?_); rintro e w4 ⟨rfl, hb4⟩); have ho4 := ho2.below hb4; have hb5 := stepB hb2 hb4; clear a0 a1 hb4)
              go_roundw
              case rel => exact ⟨q + 1, m, by omega, by go_num, by show _ = _; rw [HE.out]; exact HM.out, by rw [HE.out]; exact ho4, hb5⟩
              case measure => simp [intOf]; omega
          · have h0b : (((p &&& q : Nat) : Int) == 0) = false := by rw [beq_eq_false_iff_ne]; omega
            have HE : Hid (insTo g n p ++ rowTo g n p (q + 1) = insTo g n p ++ rowTo g n p q) := by
              show _ = _
              rw [HS.out, beq_eq_false_iff_ne.2 h0]; rfl
            clear h0 HS
            go_wp2
            go_roundw
            case rel => exact ⟨q + 1, m, by omega, by go_num, by show _ = _; rw [HE.out]; exact HM.out, by rw [HE.out]; exact ho2, hb2⟩
            case measure => simp [intOf]; omega
        · obtain rfl : q = N := by omega
          have HE := Lib.hid (HR0.out p)
          have HE2 : Hid (insTo g n (p + 1) = insTo g n p ++ rowTo g n p q) := by
            show _ = _
            rw [HE.out, HQN.out]
          go_wp2
          go_roundw
          case rel => exact ⟨p + 1, m, by omega, by go_num, by show _ = _; rw [HE2.out]; exact HM.out, by rw [HE2.out]; exact ho, hb⟩
          case measure => simp [intOf]; omega
    · obtain rfl : p = N := by omega
      obtain ⟨vA, vc, rfl, hvc⟩ := own_form ho
      have hcu := own_cubs ho HM.out
      have hml : m ≤ 4096 := by
        have h1 := HM.out
        have h2 := HR2.out p
        have h4 : p * p ≤ 64 * 64 := Nat.mul_le_mul h64 h64
        omega
      generalize insTo g n p = L at *
      have hs0 : w.heap.size ≤ wr.heap.size := hb.size
      have S0 : OutS wr wr.heap.size vA L (.slice none 0 0) 0 [] wr := ⟨hcu, ⟨rfl, .inl ⟨rfl, rfl⟩⟩, Below.refl _ _, Nat.le_refl _⟩
      clear ho hcu HR0 HR1 HR2 HR3 HI HL HQ HZ0 HZ1
      go_wp2
      obtain ⟨W3, rfl⟩ : ∃ W : World, W = wr := ⟨_, rfl⟩
      have HCW := Lib.hid S0.1
      have HK := Lib.hid hb
      clear hb
      go_loopw [8, 13] (fun u i wr => ∃ i' m2 : Nat, i' ≤ m ∧ i = .int .i64 i' ∧ Hid (m2 = ((L.take i').filter (primeR L)).length) ∧ OutS W3 W3.heap.size vA L u m2 (cvs ((L.take i').filter (primeR L))) wr) (fun _ i _ => m - (intOf i).toNat)
      case atStart => exact ⟨0, 0, by omega, rfl, rfl, S0⟩
      case round =>
        clear S0
        obtain ⟨i, m2, him, rfl, HM2, hS0⟩ := hrel
        obtain ⟨vB, vd, rfl, hvd⟩ := own_form hS0.2.1
        by_cases hi1 : i < m
        · have hiL : i < L.length := by rw [← HM.out]; exact hi1
          have hci := (HCu.out _ (cd_mem hiL)).lt
          have HPR := Lib.hid (prime_any HA.out hiL)
          rw [← HM.out] at HPR
          obtain ⟨g5, rfl, _⟩ := hS0.1 i hiL
          have hFT : (L.take (i + 1)).filter (primeR L) = if primeR L (cd L i) then (L.take i).filter (primeR L) ++ [cd L i] else (L.take i).filter (primeR L) := by
            rw [List.take_succ_eq_append_getElem hiL, List.filter_append]
            have : cd L i = L[i] := by unfold cd; rw [List.getD_eq_getElem?_getD, List.getElem?_eq_getElem hiL]; rfl
            rw [this]
            cases hpr : primeR L L[i] <;> simp [hpr]
          have HFT := Lib.hid hFT
          have hm2 : m2 ≤ 4096 := by
            have := HM2.out
            have h1 := List.length_filter_le (primeR L) (L.take i)
            have h2 := List.length_take_le i L
            omega
          have HE0 : Hid (∀ r : Cls (OutS W3 W3.heap.size (some ⟨g5, 0, none⟩) L (.slice vB m2 vd) m2 (cvs ((L.take i).filter (primeR L)))), r.w.cell? ⟨g5, i * 2, none⟩ = some (.int .u8 (cd L i).1) ∧ r.w.cell? ⟨g5, i * 2 + 1, none⟩ = some (.int .u8 (cd L i).2)) := fun r => by
            obtain ⟨g, e, _, h, h'⟩ := r.h.1 i hiL
            cases e; exact ⟨h, h'⟩
          clear hFT
          go_wp2
          go_loopw [14, 15] (fun pf j wr => ∃ k : Nat, k ≤ m ∧ j = .int .i64 k ∧ pf = .bool (!anyB (fun k => decide (k ≠ i) && covB (cd L k) (cd L i)) k) ∧ OutS W3 W3.heap.size (some ⟨g5, 0, none⟩) L (.slice vB m2 vd) m2 (cvs ((L.take i).filter (primeR L))) wr) (fun _ j _ => m - (intOf j).toNat)
          case atStart => exact ⟨0, by omega, rfl, rfl, hS0⟩
          case round =>
            clear hS0
            obtain ⟨k, hkm, rfl, rfl, hS0⟩ := hrel
            by_cases hk : k < m
            · have hkL : k < L.length := by rw [← HM.out]; exact hk
              have HB : Hid (anyB (fun k => decide (k ≠ i) && covB (cd L k) (cd L i)) (k + 1) = (anyB (fun k => decide (k ≠ i) && covB (cd L k) (cd L i)) k || (decide (k ≠ i) && covB (cd L k) (cd L i)))) := rfl
              have hck := (HCu.out _ (cd_mem hkL)).lt
              generalize hov : anyB (fun k => decide (k ≠ i) && covB (cd L k) (cd L i)) k = ov at *
              clear hov
              by_cases hki : k = i
              · have HB2 : Hid ((!anyB (fun k => decide (k ≠ i) && covB (cd L k) (cd L i)) (k + 1)) = !ov) := by show _ = _; rw [HB.out, decide_eq_false (by simpa using hki)]; simp
                have hke : (((k : Nat) : Int) != (i : Int)) = false := by rw [hki]; simp
                clear hki HB
                go_wp2
                haveI : Nonempty (Cls (OutS W3 W3.heap.size (some ⟨g5, 0, none⟩) L (.slice vB m2 vd) m2 (cvs ((L.take i).filter (primeR L))))) := ⟨⟨_, hS0⟩⟩
                refine wp_region_cls (OutS W3 W3.heap.size (some ⟨g5, 0, none⟩) L (.slice vB m2 vd) m2 (cvs ((L.take i).filter (primeR L)))) (by kernel_rfl) (by kernel_rfl) (hS0.step ((Below.refl _ _).drew)) ?_
                repeat (go_big_quiet_step ((go_at_call 44; rename_i r; refine (HV.out r.w).mono ?_; rintro e w4 ⟨rfl, hb4⟩; exact ⟨rfl, ⟨⟨w4, r.h.step hb4⟩, rfl⟩⟩)))
                refine wpQuiet_nil ?_
                rintro _ ⟨r, rfl⟩
                have hX := r.h
                clear hke
                generalize r.w = X at hX ⊢
                clear r hS0
                go_wp2
                go_roundw
                case rel => exact ⟨k + 1, by omega, by go_num, by rw [HB2.out], hX⟩
                case measure => simp [intOf]; omega
              · have HB1 : Hid ((!anyB (fun k => decide (k ≠ i) && covB (cd L k) (cd L i)) (k + 1)) = !(ov || covB (cd L k) (cd L i))) := by show _ = _; rw [HB.out, decide_eq_true hki, Bool.true_and]
                have hke : (((k : Nat) : Int) != (i : Int)) = true := by rw [bne_iff_ne]; omega
                have HV := Lib.hid fun w => refCovers_any (cd L k).1 (cd L k).2 (cd L i).1 (cd L i).2 w (by omega) (by omega) (by omega) (by omega)
                have f0 : ∀ r : Cls (OutS W3 W3.heap.size (some ⟨g5, 0, none⟩) L (.slice vB m2 vd) m2 (cvs ((L.take i).filter (primeR L)))), r.w.cell? ⟨g5, i * 2, none⟩ = some (.int .u8 (cd L i).1) := fun r => (HE0.out r).1
                have f1 : ∀ r : Cls (OutS W3 W3.heap.size (some ⟨g5, 0, none⟩) L (.slice vB m2 vd) m2 (cvs ((L.take i).filter (primeR L)))), r.w.cell? ⟨g5, i * 2 + 1, none⟩ = some (.int .u8 (cd L i).2) := fun r => (HE0.out r).2
                have f2 : ∀ r : Cls (OutS W3 W3.heap.size (some ⟨g5, 0, none⟩) L (.slice vB m2 vd) m2 (cvs ((L.take i).filter (primeR L)))), r.w.cell? ⟨g5, k * 2, none⟩ = some (.int .u8 (cd L k).1) := fun r => by
                  obtain ⟨g, e, _, h, _⟩ := r.h.1 k hkL
                  cases e; exact h
                have f3 : ∀ r : Cls (OutS W3 W3.heap.size (some ⟨g5, 0, none⟩) L (.slice vB m2 vd) m2 (cvs ((L.take i).filter (primeR L)))), r.w.cell? ⟨g5, k * 2 + 1, none⟩ = some (.int .u8 (cd L k).2) := fun r => by
                  obtain ⟨g, e, _, _, h⟩ := r.h.1 k hkL
                  cases e; exact h
                have hkb : (k : Int) < (m : Int) := by omega
                have hib : (i : Int) < (m : Int) := by omega
                clear hki HB
                cases hcv : covB (cd L k) (cd L i) with
                | true =>
                  have HB2 : Hid ((!anyB (fun k => decide (k ≠ i) && covB (cd L k) (cd L i)) (k + 1)) = false) := by show _ = _; rw [HB1.out, hcv, Bool.or_true]; rfl
                  rw [hcv] at HV
                  clear HB1 hcv
                  go_wp2
                  haveI : Nonempty (Cls (OutS W3 W3.heap.size (some ⟨g5, 0, none⟩) L (.slice vB m2 vd) m2 (cvs ((L.take i).filter (primeR L))))) := ⟨⟨_, hS0⟩⟩
                  refine wp_region_cls (OutS W3 W3.heap.size (some ⟨g5, 0, none⟩) L (.slice vB m2 vd) m2 (cvs ((L.take i).filter (primeR L)))) (by kernel_rfl) (by kernel_rfl) (hS0.step ((Below.refl _ _).drew)) ?_
                  repeat (go_big_quiet_step ((go_at_call 44; rename_i r; refine (HV.out r.w).mono ?_; rintro e w4 ⟨rfl, hb4⟩; exact ⟨rfl, ⟨⟨w4, r.h.step hb4⟩, rfl⟩⟩)))
                  refine wpQuiet_nil ?_
                  rintro _ ⟨r, rfl⟩
                  have hX := r.h
                  clear f0 f1 f2 f3
                  generalize r.w = X at hX ⊢
                  clear r hS0
                  go_wp2
                  go_roundw
                  case rel => exact ⟨k + 1, by omega, by go_num, by rw [HB2.out], hX⟩
                  case measure => simp [intOf]; omega
                | false =>
                  have HB2 : Hid ((!anyB (fun k => decide (k ≠ i) && covB (cd L k) (cd L i)) (k + 1)) = !ov) := by show _ = _; rw [HB1.out, hcv, Bool.or_false]
                  rw [hcv] at HV
                  clear HB1 hcv
                  go_wp2
                  haveI : Nonempty (Cls (OutS W3 W3.heap.size (some ⟨g5, 0, none⟩) L (.slice vB m2 vd) m2 (cvs ((L.take i).filter (primeR L))))) := ⟨⟨_, hS0⟩⟩
                  refine wp_region_cls (OutS W3 W3.heap.size (some ⟨g5, 0, none⟩) L (.slice vB m2 vd) m2 (cvs ((L.take i).filter (primeR L)))) (by kernel_rfl) (by kernel_rfl) (hS0.step ((Below.refl _ _).drew)) ?_
                  repeat (go_big_quiet_step ((go_at_call 44; rename_i r; refine (HV.out r.w).mono ?_; rintro e w4 ⟨rfl, hb4⟩; exact ⟨rfl, ⟨⟨w4, r.h.step hb4⟩, rfl⟩⟩)))
                  refine wpQuiet_nil ?_
                  rintro _ ⟨r, rfl⟩
                  have hX := r.h
                  clear f0 f1 f2 f3
                  generalize r.w = X at hX ⊢
                  clear r hS0
                  go_wp2
                  go_roundw
                  case rel => exact ⟨k + 1, by omega, by go_num, by rw [HB2.out], hX⟩
                  case measure => simp [intOf]; omega
            · obtain rfl : k = m := by omega
              rw [HPR.out]
              have hcell := HE0.out ⟨_, hS0⟩
              simp only at hcell
              obtain ⟨e0, e1⟩ := hcell
              obtain ⟨hcu, ho, hbw, hsw⟩ := hS0
              clear HPR HE0
              generalize cd L i = ci at *
              obtain ⟨p1, q1⟩ := ci
              simp only at e0 e1
              have hib : (i : Int) < (k : Int) := by omega
              cases hpr : primeR L (p1, q1) with
              | true =>
                rw [hpr] at HFT
                have HF2 : Hid ((L.take (i + 1)).filter (primeR L) = (L.take i).filter (primeR L) ++ [(p1, q1)]) := by show _ = _; rw [HFT.out]; rfl
                clear hpr HFT
                go_wp2_with (at_builtin; refine wpList_append_own _ rfl _ _ 59 rfl W3.heap.size 42 i0 (.agg #[.int .u8 0, .int .u8 0]) 2 2 Tryd.underlying59 hi hz0 hz1 hz2 rfl (by decide) _ _ _ rfl (ho.alloc _) ⟨wr.heap.size, 0, none⟩ 1 1 [.int .u8 (p1 : Nat), .int .u8 (q1 : Nat)] rfl rfl (cell_two_new _ _ _ _) (by simp [Value.oneCell']) (by unfold maxLen; omega) (by omega) (by simp; omega) ?_; intro v' w5 hown' hgrow _)
                have hb6 : Below W3.heap.size wr w5 := ((Below.refl _ _).alloc hsw _).grown hgrow (by simp; omega) (fun q hq => (ho.lt q hq).1)
                have hcu2 : Cubs w5 (some ⟨g5, 0, none⟩) L := HCW.out.below (hbw.trans hb6)
                go_roundw
                case rel => exact ⟨i + 1, m2 + 1, by omega, by go_num, by show _ = _; rw [HF2.out, List.length_append, ← HM2.out]; rfl, hcu2, by rw [HF2.out, cvs_snoc]; exact hown', hbw.trans hb6, by have := hb6.size; omega⟩
                case measure => simp [intOf]; omega
              | false =>
                rw [hpr] at HFT
                have HF2 : Hid ((L.take (i + 1)).filter (primeR L) = (L.take i).filter (primeR L)) := by show _ = _; rw [HFT.out]; rfl
                clear hpr HFT
                go_wp2
                go_roundw
                case rel => exact ⟨i + 1, m2, by omega, by go_num, by show _ = _; rw [HF2.out]; exact HM2.out, hcu, by rw [HF2.out]; exact ho, hbw, hsw⟩
                case measure => simp [intOf]; omega
        · obtain rfl : i = m := by omega
          have ho := hS0.2.1
          have hT : L.take i = L := List.take_of_length_le (by have := HM.out; omega)
          rw [hT] at ho
          have hm3 : m2 = (coverL l n).length := by rw [HC.out, HM2.out, hT]
          go_wp2
          go_ret2
          exact ⟨_, rfl, by rw [HC.out] at hm3 ⊢; rw [← hm3]; exact ownsRow_mono ho hs0, HK.out.trans (hS0.2.2.1.mono hs0)⟩
end Go.Proofs.YtjjdhegkcilaiaaDoor
