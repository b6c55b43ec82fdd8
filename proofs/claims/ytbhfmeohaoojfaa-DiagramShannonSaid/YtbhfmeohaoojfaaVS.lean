/- DiagramShannon. -/
import Derived.Test.YtbhfmeohaoojfaaVQ
import Derived.Outline
namespace Go.Proofs.Ytbhfmeohaoojfaa.Dn
open Go Go.RowKit Go.Proofs.Ytbhfmeohaoojfaa.Ap
open Go.Proofs.Ytbhfmeohaoojfaa.Dg
set_option linter.unusedVariables false
set_option maxRecDepth 100000
section
variable {w0 X : World} {qb sb cb rb tb v m : Nat} {cs : Value × Value × Value}
theorem sha_eqs {a b lo hi other both x y some_ top k op : Nat} {fa fb : Nat → Int}
    (h : Hold w0 X qb sb cb rb tb v m cs [(top, fun z => valI 1 (fa (stV z k false)) (fa (stV z k true))), (some_, fun z => max (fa (stV z k false)) (fa (stV z k true))), (y, fun z => valI op (fa (stV z k true)) (fb (stV z k true))), (x, fun z => valI op (fa (stV z k true)) (fb (stV z k true))), (both, fun z => valI op (fa z) (fb z)), (other, fun z => fb (stV z k true)), (hi, fun z => fa (stV z k true)), (lo, fun z => fa (stV z k false)), (a, fa), (b, fb)]) :
    x = y ∧ some_ = top :=
  ⟨hold_eq h mem3 mem2 fun z _ => rfl, hold_eq h mem1 mem0 fun z _ => (valI1 _ _).symm⟩
end
theorem bit_0 {x k : Nat} (h : x.testBit k = false) : ∃ d : Nat, (x : Int) / 2 ^ k = (d : Int) ∧ (d : Int).tmod 2 = 0 ∧ (d : Int) % 2 = 0 := by
  have h1 : x / 2 ^ k % 2 = 0 := by
    rw [Nat.testBit_eq_decide_div_mod_eq] at h
    simp at h
    omega
  exact ⟨x / 2 ^ k, by simp, by rw [Int.tmod_eq_emod_of_nonneg (Int.natCast_nonneg _)]; omega, by omega⟩
theorem bit_1 {x k : Nat} (h : x.testBit k = true) : ∃ d : Nat, (x : Int) / 2 ^ k = (d : Int) ∧ (d : Int).tmod 2 = 1 ∧ (d : Int) % 2 = 1 := by
  have h1 : x / 2 ^ k % 2 = 1 := by
    rw [Nat.testBit_eq_decide_div_mod_eq] at h
    simpa using h
  exact ⟨x / 2 ^ k, by simp, by rw [Int.tmod_eq_emod_of_nonneg (Int.natCast_nonneg _)]; omega, by omega⟩
theorem stV_false {x k : Nat} (h : x.testBit k = false) : stV x k false = x := by unfold stV; simp [h]
theorem stV_true {x k : Nat} (h : x.testBit k = true) : stV x k true = x := by
  unfold stV
  simp only [if_true]
  apply Nat.eq_of_testBit_eq
  intro j
  rw [Nat.testBit_or, Nat.testBit_two_pow]
  by_cases e : k = j
  · subst e; simp [h]
  · simp [e]
set_option maxHeartbeats 16000000 in
theorem diagramShannon_walk (v : Int) (A : Option Addr) (l : List SD) (c : Nat) (k1 k2 z : Int) (op : Nat) (w : World) (hv0 : IntOk v) (hs : StepsAt w A l) (hl : l.length ≤ maxLen) (hk1 : IntOk k1) (hk2 : IntOk k2) (hz0 : IntOk z) (ho : op < 256) :
    Calls Try.prog 7 #[.int .i64 v, .slice A l.length c, .int .i64 k1, .int .i64 k2, .int .i64 z, .int .u8 op] w fun e w' => e = .returned (.bool true) ∧ Below w.heap.size w w' := by
  have HAw := Lib.hid fun X => awake_any X
  have HLo := Lib.hid (Long_b v A l c w hs hl)
  by_cases hB : longB v l = true
  · rw [hB] at HLo
    clear hB
    go_enter Try.func7, Try.ntmps7
    go_wp2_with (first
      | (go_at_call 9; ((with_reducible refine HLo.out.mono ?_); rintro e w1 ⟨rfl, hb1⟩))
      | (go_at_call 10; ((with_reducible refine (HAw.out _).mono ?_); rintro e w2 ⟨rfl, hb2⟩)))
    go_ret
    exact ⟨rfl, stepB hb1 hb2⟩
  have hB := eq_false_of_ne_true hB
  rw [hB] at HLo
  by_cases hE : newE v 4096 = 0
  · obtain ⟨v, cap, rfl, hcap, h6, _, _⟩ := newE_yes hE
    obtain ⟨hv4, hlen, hu⟩ := longB_no hB
    have HBe : Hid (∀ X, Calls Try.prog 11 #[.int .i64 v, .int .i64 4096] X fun e w' => ∃ qb sb cb rb tb mb, e = .returned (.tuple #[.pointer (some ⟨qb, 0, none⟩), .bool true, .bool true]) ∧ RunE X w' qb sb cb rb tb mb v 4096 0) := fun X => begin_e v 4096 X h6 (by decide) (by decide)
    have hP : 2 ^ (v + 1) ≤ 32 := by
      have : v ≤ 4 := by omega
      have := Nat.pow_le_pow_right (n := 2) (by decide) (show v + 1 ≤ 5 by omega)
      omega
    clear hB hE hcap
    by_cases hzv : 0 ≤ z ∧ z < v
    · obtain ⟨k, rfl⟩ : ∃ k : Nat, z = k := ⟨z.toNat, by omega⟩
      have hkv : k < v := by omega
      have d1 : decide ((k : Int) < 0) = false := decide_eq_false (by omega)
      have d2 : decide ((v : Int) ≤ (k : Int)) = false := decide_eq_false (by omega)
      have d3 : decide (v ≤ k) = false := decide_eq_false (by omega)
      clear hzv
      go_enter Try.func7, Try.ntmps7
      go_wp2_with (first
        | (go_at_call 9; ((with_reducible refine HLo.out.mono ?_); rintro e w1 ⟨rfl, hb1⟩))
        | (go_at_call 10; ((with_reducible refine (HAw.out _).mono ?_); rintro e w1' ⟨rfl, hb1'⟩))
        | (go_at_call 11; ((with_reducible refine (HBe.out _).mono ?_); rintro e w2 ⟨qb, sb, cb, rb, tb, mb, rfl, hR0⟩)))
      have hb11 := stepB hb1 hb1'
      have hs1 := hs.below hb11
      have HB1 := Lib.hid hb11
      clear hs hb1 hb1' hb11
      go_loopw [16] (fun i wr => ∃ m : Nat, m ≤ l.length ∧ i = .int .i64 m ∧ RunE w1' wr qb sb cb rb tb mb v 4096 m) (fun i _ => l.length - (intOf i).toNat)
      case atStart => exact ⟨0, by omega, rfl, hR0⟩
      case round =>
        clear hR0
        obtain ⟨m, hm, rfl, hR⟩ := hrel
        by_cases hlt : m < l.length
        · obtain ⟨hok, hi, ad, rfl, _, hc⟩ := hs1.nine hlt
          have h70 := hu m hlt
          obtain ⟨c0, c1, c2, c3, c4, c5, c6, c7, c8⟩ := nine_at fun i v hv => hc i v hv wr hR.bel
          have HSt := Lib.hid (step_at hR (by omega) (sd l m) hok hi h70)
          clear hs1 hu hok hi hc h70 hR
          generalize sd l m = s at *
          go_wp2_with (go_at_call 12; ((with_reducible refine HSt.out.mono ?_); rintro e w5 ⟨rfl, hR5⟩))
          go_roundw
          case rel => exact ⟨m + 1, by omega, by go_num, hR5⟩
          case measure => simp [intOf]; omega
        · obtain rfl : m = l.length := by omega
          obtain ⟨nv, N, R, A2, c2, Q, rv, rs, tv, T, hRun, hT⟩ := hR
          have hrl : rs.length ≤ 1000 := by rw [hRun.len]; omega
          have HB2 : Hid (Below w.heap.size w wr) := stepB HB1.out hRun.own.bel
          by_cases hr0 : rs.length = 0
          · have HPk : Hid (∀ Y, Below wr.heap.size wr Y → ∀ k, Calls Try.prog 28 #[.pointer (some ⟨qb, 0, none⟩), .int .i64 k] Y fun e w' => e = .returned (.tuple #[.int .i64 0, .slice none 0 0, .bool false]) ∧ Below Y.heap.size Y w') := fun Y hY k => (pick_none k (hRun.below hY).law hr0).mono fun e w' ⟨he, hw⟩ => ⟨he, hw ▸ Below.refl _ _⟩
            clear hs1 hu hRun hT hr0 hrl
            go_wp2_with (first
              | (go_at_call 28; ((with_reducible refine (HPk.out wr (Below.refl _ _) _).mono ?_); rintro e w3 ⟨rfl, b3⟩))
              | (go_at_call 28; ((with_reducible refine (HPk.out w3 b3 _).mono ?_); rintro e w4 ⟨rfl, b⟩); have b4 := stepB b3 b; clear b))
            go_ret
            exact ⟨rfl, stepB HB2.out b4⟩
          · have HPk := Lib.hid fun Y (hY : Below wr.heap.size wr Y) k (hk : IntOk k) => (hRun.below hY).pickr k hk (by omega) hrl
            have HH := Lib.hid fun Y (hY : Below wr.heap.size wr Y) => (hRun.hold (by omega)).below hY
            have HBl : Hid (Below w.heap.size w w1') := HB1.out
            generalize (Value.pointer (some ⟨mb, 0, none⟩), rv, tv) = cs at HH
            clear hs1 hu hRun hT hr0 hrl
            go_upto_region 14 with (first
              | (go_at_call 28; ((with_reducible refine (HPk.out wr (Below.refl _ _) k1 hk1).mono ?_); rintro e w3 ⟨a, B1, n1, e1, rfl, ha, b3⟩))
              | (go_at_call 28; ((with_reducible refine (HPk.out w3 b3 k2 hk2).mono ?_); rintro e w4 ⟨b, B2, n2, e2, rfl, hb, bx⟩); have b4 := stepB b3 bx; clear bx))
            have HR : Hid (Room w1' w4 qb sb cb rb tb v 34 cs [(a, den v N a), (b, den v N b)]) := ⟨_, by omega, nv, N, R, ((HH.out w4 b4).know hb).know ha⟩
            obtain ⟨fa, hfa⟩ : ∃ fa, fa = den v N a := ⟨_, rfl⟩
            obtain ⟨fb, hfb⟩ : ∃ fb, fb = den v N b := ⟨_, rfl⟩
            rw [← hfa, ← hfb] at HR
            obtain ⟨r, hr, hr4⟩ : ∃ r : Nat, r = op % 4 ∧ r < 4 := ⟨_, rfl, Nat.mod_lt _ (by decide)⟩
            have q1 : (op : Int).tmod 4 = (r : Int) := by rw [Int.tmod_eq_emod_of_nonneg (by omega)]; omega
            have HA1 : Hid (∀ (Y : World) (n : Nat) (F : List (Nat × (Nat → Int))) (a b : Nat) (f g : Nat → Int), Room w1' Y qb sb cb rb tb v (n + 1) cs F → (a, f) ∈ F → (b, g) ∈ F → Calls Try.prog 25 #[.pointer (some ⟨sb, 0, none⟩), .int .u8 1, .int .i64 a, .int .i64 b] Y fun e w' => ∃ r, e = .returned (.tuple #[.int .i64 (r : Nat), .int .i64 0]) ∧ Room w1' w' qb sb cb rb tb v n cs ((r, fun z => valI 1 (f z) (g z)) :: F)) := fun Y n F a b f g h hf hg => room_apply 1 h hf hg (by decide) (by decide)
            have HAo : Hid (∀ (Y : World) (n : Nat) (F : List (Nat × (Nat → Int))) (a b : Nat) (f g : Nat → Int), Room w1' Y qb sb cb rb tb v (n + 1) cs F → (a, f) ∈ F → (b, g) ∈ F → Calls Try.prog 25 #[.pointer (some ⟨sb, 0, none⟩), .int .u8 (1 + (r : Int)), .int .i64 a, .int .i64 b] Y fun e w' => ∃ r', e = .returned (.tuple #[.int .i64 (r' : Nat), .int .i64 0]) ∧ Room w1' w' qb sb cb rb tb v n cs ((r', fun z => valI (1 + r) (f z) (g z)) :: F)) := fun Y n F a b f g h hf hg => by
              have h1 := room_apply (1 + r) h hf hg (by omega) (by omega)
              rw [show ((1 + r : Nat) : Int) = 1 + (r : Int) by omega] at h1
              exact h1
            have HRe := Lib.hid fun (Y : World) (n : Nat) (F : List (Nat × (Nat → Int))) (bo : Bool) (a : Nat) (f : Nat → Int) (h : Room w1' Y qb sb cb rb tb v (n + 1) cs F) (hf : (a, f) ∈ F) => room_restrict k bo h hf hkv
            have HEx := Lib.hid fun (Y : World) (n : Nat) (F : List (Nat × (Nat → Int))) (a : Nat) (f : Nat → Int) (h : Room w1' Y qb sb cb rb tb v (n + 1) cs F) (hf : (a, f) ∈ F) => room_exists k h hf hkv
            have HTa := Lib.hid fun (Y : World) (n : Nat) (F : List (Nat × (Nat → Int))) (a : Nat) (f : Nat → Int) (h : Room w1' Y qb sb cb rb tb v n cs F) (hf : (a, f) ∈ F) => room_table h hf
            have x0 := HR.out.cell
            clear HH HPk b3 b4 ha hb hfa hfb hP HB2 hr
            go_wp2_with (first
              | (go_at_call 26; ((with_reducible refine (HRe.out _ 33 _ false a fa HR.out mem0).mono ?_); rintro e u1 ⟨lo, rfl, R1⟩); have x1 := R1.cell)
              | (go_at_call 26; ((with_reducible refine (HRe.out _ 32 _ true a fa R1 mem1).mono ?_); rintro e u2 ⟨hi, rfl, R2⟩); have x2 := R2.cell)
              | (go_at_call 26; ((with_reducible refine (HRe.out _ 31 _ true b fb R2 mem3).mono ?_); rintro e u3 ⟨ot, rfl, R3⟩); have x3 := R3.cell)
              | (go_at_call 25; ((with_reducible refine (HAo.out _ 30 _ a b fa fb R3 mem3 mem4).mono ?_); rintro e u4 ⟨both, rfl, R4⟩); have x4 := R4.cell)
              | (go_at_call 26; ((with_reducible refine (HRe.out _ 29 _ true both _ R4 mem0).mono ?_); rintro e u5 ⟨x, rfl, R5⟩); have x5 := R5.cell)
              | (go_at_call 25; ((with_reducible refine (HAo.out _ 28 _ hi ot _ _ R5 mem3 mem2).mono ?_); rintro e u6 ⟨y, rfl, R6⟩); have x6 := R6.cell)
              | (go_at_call 27; ((with_reducible refine (HEx.out _ 27 _ a fa R6 mem6).mono ?_); rintro e u7 ⟨some_, rfl, R7⟩); have x7 := R7.cell)
              | (go_at_call 25; ((with_reducible refine (HA1.out _ 26 _ lo hi _ _ R7 mem6 mem5).mono ?_); rintro e u8 ⟨top, rfl, R8⟩); have x8 := R8.cell; obtain ⟨m8, h8⟩ := R8.hold; obtain ⟨e1, e2⟩ := sha_eqs h8; have HR8 := Lib.hid R8; clear R1 R2 R3 R4 R5 R6 R7 R8 h8; subst e1 e2)
              | (go_at_call 16; ((with_reducible refine (HTa.out _ 26 _ a fa HR8.out mem8).mono ?_); rintro e u9 ⟨g1, c1, rfl, T1, b1⟩); have HR9 := Lib.hid (HR8.out.below b1); have x9 := HR9.out.cell; clear b1)
              | (go_at_call 16; ((with_reducible refine (HTa.out _ 26 _ lo _ HR9.out mem7).mono ?_); rintro e u10 ⟨g2, c2, rfl, T2, b2⟩); have T1' := Ints.below T1 b2; have HR10 := Lib.hid (HR9.out.below b2); have x10 := HR10.out.cell; clear b2)
              | (go_at_call 16; ((with_reducible refine (HTa.out _ 26 _ hi _ HR10.out mem6).mono ?_); rintro e u11 ⟨g3, c3, rfl, T3, b3⟩); have T1'' := Ints.below T1' b3; have T2' := Ints.below T2 b3; have HB11 := Lib.hid (stepB HBl.out (HR10.out.below b3).bel); clear b3))
            have hK := pow7 (show v ≤ 6 by omega)
            have HCe : Hid (∀ x, x < 2 ^ v → u11.cell? ⟨g1, x, none⟩ = some (.int .i64 (fa x)) ∧ u11.cell? ⟨g2, x, none⟩ = some (.int .i64 (fa (stV x k false))) ∧ u11.cell? ⟨g3, x, none⟩ = some (.int .i64 (fa (stV x k true)))) := fun x hx => by
              have hx1 : x < (tabV v fa).length := by rw [tabV_len]; exact hx
              have hx2 : x < (tabV v fun z => fa (stV z k false)).length := by rw [tabV_len]; exact hx
              have hx3 : x < (tabV v fun z => fa (stV z k true)).length := by rw [tabV_len]; exact hx
              obtain ⟨_, e1, i1⟩ := Vals.at_ T1'' hx1
              obtain ⟨_, e2, i2⟩ := Vals.at_ T2' hx2
              obtain ⟨_, e3, i3⟩ := Vals.at_ T3 hx3
              cases e1; cases e2; cases e3
              rw [addr_add] at i1 i2 i3
              rw [tabV_nd hx] at i1 i2 i3
              exact ⟨i1, i2, i3⟩
            clear T1 T1' T1'' T2 T2' T3 HR HR8 HR9 HR10 HAo HA1 HRe HEx HTa x0 x1 x2 x3 x4 x5 x6 x7 x8 x9 x10
            obtain ⟨K, hKK⟩ : ∃ K, K = 2 ^ v := ⟨_, rfl⟩
            rw [← hKK] at hK HCe ⊢
            clear hKK
            have hk64 : (k : Int) ≤ 64 := by omega
            go_loopw [45] (fun i wr => ∃ (x q : Nat), x ≤ K ∧ i = .int .i64 x ∧ wr = u11.drewN q) (fun i _ => K - (intOf i).toNat)
            case atStart => exact ⟨0, 0, by omega, rfl, rfl⟩
            case round =>
              obtain ⟨x, q, hx, rfl, rfl⟩ := hrel
              by_cases hxK : x < K
              · obtain ⟨i1, i2, i3⟩ := HCe.out x hxK
                cases hbit : x.testBit k with
                | false =>
                  have e1 := stV_false hbit
                  rw [e1] at i2
                  obtain ⟨d, f1, f2, f3⟩ : ∃ d : Nat, (x : Int) / 2 ^ k = (d : Int) ∧ (d : Int).tmod 2 = 0 ∧ (d : Int) % 2 = 0 := bit_0 hbit
                  clear e1 i3 hbit
                  go_wp2
                  go_big_quiet (fail)
                  go_wp2
                  go_roundw
                  case rel => exact ⟨x + 1, _, by omega, by go_num, rfl⟩
                  case measure => simp [intOf]; omega
                | true =>
                  have e1 := stV_true hbit
                  rw [e1] at i3
                  obtain ⟨d, f1, f2, f3⟩ : ∃ d : Nat, (x : Int) / 2 ^ k = (d : Int) ∧ (d : Int).tmod 2 = 1 ∧ (d : Int) % 2 = 1 := bit_1 hbit
                  clear e1 i2 hbit
                  go_wp2
                  go_big_quiet (fail)
                  go_wp2
                  go_roundw
                  case rel => exact ⟨x + 1, _, by omega, by go_num, rfl⟩
                  case measure => simp [intOf]; omega
              · obtain rfl : x = K := by omega
                go_wp2
                go_ret
                exact ⟨rfl, bdN HB11.out _⟩
    · have hz : decide (z < 0) = true ∨ (decide (z < 0) = false ∧ decide ((v : Int) ≤ z) = true) := by
        by_cases h1 : z < 0
        · exact .inl (decide_eq_true h1)
        · exact .inr ⟨decide_eq_false h1, decide_eq_true (by omega)⟩
      clear hzv hu
      rcases hz with d1 | ⟨d1, d2⟩
      all_goals
        go_enter Try.func7, Try.ntmps7
        go_wp2_with (first
          | (go_at_call 9; ((with_reducible refine HLo.out.mono ?_); rintro e w1 ⟨rfl, hb1⟩))
          | (go_at_call 10; ((with_reducible refine (HAw.out _).mono ?_); rintro e w1' ⟨rfl, hb1'⟩))
          | (go_at_call 11; ((with_reducible refine (HBe.out _).mono ?_); rintro e w2 ⟨qb, sb, cb, rb, tb, mb, rfl, hR0⟩)))
        go_ret
        exact ⟨rfl, stepB (stepB hb1 hb1') hR0.bel⟩
  · have HBe := Lib.hid fun X => begin_no v 4096 X hE
    clear hE hB
    go_enter Try.func7, Try.ntmps7
    go_wp2_with (first
      | (go_at_call 9; ((with_reducible refine HLo.out.mono ?_); rintro e w1 ⟨rfl, hb1⟩))
      | (go_at_call 10; ((with_reducible refine (HAw.out _).mono ?_); rintro e w3 ⟨rfl, hb3⟩))
      | (go_at_call 11; ((with_reducible refine (HBe.out _).mono ?_); rintro e w2 ⟨b, rfl, hb2⟩)))
    go_ret
    exact ⟨rfl, stepB (stepB hb1 hb3) hb2⟩
end Go.Proofs.Ytbhfmeohaoojfaa.Dn
