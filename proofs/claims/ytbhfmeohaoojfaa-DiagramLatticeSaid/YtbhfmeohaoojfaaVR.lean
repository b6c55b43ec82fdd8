/- DiagramLattice. -/
import Derived.Test.YtbhfmeohaoojfaaVQ
import Derived.Outline
namespace Go.Proofs.Ytbhfmeohaoojfaa.Dn
open Go Go.RowKit Go.Proofs.Ytbhfmeohaoojfaa.Ap
open Go.Proofs.Ytbhfmeohaoojfaa.Dg
set_option linter.unusedVariables false
set_option maxRecDepth 100000
/-- Maximum and minimum. -/
structure LatV (V V' : Int → Int → Int) : Prop where
  comm : ∀ a b, V a b = V b a
  assoc : ∀ a b c, V (V a b) c = V a (V b c)
  idem : ∀ a, V a a = a
  absorb : ∀ a b, V' a (V a b) = a
theorem lat1 : LatV (valI 1) (valI 2) := ⟨fun a b => by rw [valI1, valI1]; omega, fun a b c => by simp only [valI1]; omega, fun a => by rw [valI1]; omega, fun a b => by rw [valI1, valI2]; omega⟩
theorem lat2 : LatV (valI 2) (valI 1) := ⟨fun a b => by rw [valI2, valI2]; omega, fun a b c => by simp only [valI2]; omega, fun a => by rw [valI2]; omega, fun a b => by rw [valI1, valI2]; omega⟩
section
variable {w0 X : World} {qb sb cb rb tb v m : Nat} {cs : Value × Value × Value}
theorem lat_eqs {V V' : Int → Int → Int} (hV : LatV V V') {a b c ab ba bc left right own back : Nat} {fa fb fc : Nat → Int}
    (h : Hold w0 X qb sb cb rb tb v m cs [(back, fun z => V' (fa z) (V (fa z) (fb z))), (own, fun z => V (fa z) (fa z)), (right, fun z => V (fa z) (V (fb z) (fc z))), (left, fun z => V (V (fa z) (fb z)) (fc z)), (bc, fun z => V (fb z) (fc z)), (ba, fun z => V (fb z) (fa z)), (ab, fun z => V (fa z) (fb z)), (a, fa), (b, fb), (c, fc)]) :
    ab = ba ∧ left = right ∧ own = a ∧ back = a :=
  ⟨hold_eq h mem6 mem5 fun z _ => hV.comm _ _, hold_eq h mem3 mem2 fun z _ => hV.assoc _ _ _, hold_eq h mem1 mem7 fun z _ => hV.idem _, hold_eq h mem0 mem7 fun z _ => hV.absorb _ _⟩
theorem lat_end {a b c x y q one : Nat} {fa fb fc : Nat → Int} (hI : ∀ z, z < 2 ^ v → InI (fa z))
    (h : Hold w0 X qb sb cb rb tb v m cs [(one, fun _ => 1), (q, fun z => valI 4 (fa z) (fb z)), (y, fun z => valI 3 (valI 3 (fa z) (fb z)) (fb z)), (x, fun z => valI 3 (fa z) (fb z)), (a, fa), (b, fb), (c, fc)]) :
    y = a ∧ ∃ bb : Bool, (((q : Nat) : Int) == ((one : Nat) : Int)) = bb ∧ (((a : Nat) : Int) == ((b : Nat) : Int)) = bb := by
  refine ⟨hold_eq h mem2 mem4 fun z hz => xor_back (hI z hz), (((a : Nat) : Int) == ((b : Nat) : Int)), ?_, rfl⟩
  by_cases e : a = b
  · have h1 := hold_fn h mem4 mem5 e
    have h2 : q = one := hold_eq h mem1 mem0 fun z hz => by show valI 4 _ _ = 1; rw [valI4, if_pos (h1 z hz)]
    rw [e, h2]; simp
  · have h2 : q ≠ one := fun e2 => e (hold_eq h mem4 mem5 fun z hz => by
      have h3 := hold_fn h mem1 mem0 e2 z hz
      have h3' : valI 4 (fa z) (fb z) = 1 := h3
      rw [valI4] at h3'
      by_cases h4 : fa z = fb z
      · exact h4
      · rw [if_neg h4] at h3'; cases h3')
    have e1 : (((a : Nat) : Int) == ((b : Nat) : Int)) = false := by rw [beq_eq_false_iff_ne]; omega
    rw [e1, beq_eq_false_iff_ne]
    omega
end
set_option maxHeartbeats 16000000 in
theorem diagramLattice_walk (v : Int) (A : Option Addr) (l : List SD) (c : Nat) (k1 k2 k3 : Int) (w : World) (hv0 : IntOk v) (hs : StepsAt w A l) (hl : l.length ≤ maxLen) (hk1 : IntOk k1) (hk2 : IntOk k2) (hk3 : IntOk k3) :
    Calls Try.prog 8 #[.int .i64 v, .slice A l.length c, .int .i64 k1, .int .i64 k2, .int .i64 k3] w fun e w' => e = .returned (.bool true) ∧ Below w.heap.size w w' := by
  have HAw := Lib.hid fun X => awake_any X
  have HLo := Lib.hid (Long_b v A l c w hs hl)
  by_cases hB : longB v l = true
  · rw [hB] at HLo
    clear hB
    go_enter Try.func8, Try.ntmps8
    go_wp2_with (first
      | (go_at_call 9; ((with_reducible refine HLo.out.mono ?_); rintro e w1 ⟨rfl, hb1⟩))
      | (go_at_call 10; ((with_reducible refine (HAw.out _).mono ?_); rintro e w2 ⟨rfl, hb2⟩)))
    go_ret
    exact ⟨rfl, stepB hb1 hb2⟩
  have hB := eq_false_of_ne_true hB
  rw [hB] at HLo
  by_cases hE : newE v 4096 = 0
  · obtain ⟨v, cap, rfl, hcap, h6, _, _⟩ := newE_yes hE
    obtain ⟨hv4, hlen, hu⟩ := longB_no hB
    have HBe : Hid (∀ X, Calls Try.prog 11 #[.int .i64 v, .int .i64 4096] X fun e w' => ∃ qb sb cb rb tb mb, e = .returned (.tuple #[.pointer (some ⟨qb, 0, none⟩), .bool true, .bool true]) ∧ RunE X w' qb sb cb rb tb mb v 4096 0) := fun X => begin_e v 4096 X h6 (by decide) (by decide)
    have hP : 2 ^ (v + 1) ≤ 32 := by
      have : v ≤ 4 := by omega
      have := Nat.pow_le_pow_right (n := 2) (by decide) (show v + 1 ≤ 5 by omega)
      omega
    clear hB hE hcap
    go_enter Try.func8, Try.ntmps8
    go_wp2_with (first
      | (go_at_call 9; ((with_reducible refine HLo.out.mono ?_); rintro e w1 ⟨rfl, hb1⟩))
      | (go_at_call 10; ((with_reducible refine (HAw.out _).mono ?_); rintro e w1' ⟨rfl, hb1'⟩))
      | (go_at_call 11; ((with_reducible refine (HBe.out _).mono ?_); rintro e w2 ⟨qb, sb, cb, rb, tb, mb, rfl, hR0⟩)))
    have hb11 := stepB hb1 hb1'
    have hs1 := hs.below hb11
    have HB1 := Lib.hid hb11
    clear hs hb1 hb1' hb11
    go_loopw [14] (fun i wr => ∃ m : Nat, m ≤ l.length ∧ i = .int .i64 m ∧ RunE w1' wr qb sb cb rb tb mb v 4096 m) (fun i _ => l.length - (intOf i).toNat)
    case atStart => exact ⟨0, by omega, rfl, hR0⟩
    case round =>
      clear hR0
      obtain ⟨m, hm, rfl, hR⟩ := hrel
      by_cases hlt : m < l.length
      · obtain ⟨hok, hi, ad, rfl, _, hc⟩ := hs1.nine hlt
        have h70 := hu m hlt
        obtain ⟨c0, c1, c2, c3, c4, c5, c6, c7, c8⟩ := nine_at fun i v hv => hc i v hv wr hR.bel
        have HSt := Lib.hid (step_at hR (by omega) (sd l m) hok hi h70)
        clear hs1 hu hok hi hc h70 hR
        generalize sd l m = s at *
        go_wp2_with (go_at_call 12; ((with_reducible refine HSt.out.mono ?_); rintro e w5 ⟨rfl, hR5⟩))
        go_roundw
        case rel => exact ⟨m + 1, by omega, by go_num, hR5⟩
        case measure => simp [intOf]; omega
      · obtain rfl : m = l.length := by omega
        obtain ⟨nv, N, R, A2, c2, Q, rv, rs, tv, T, hRun, hT⟩ := hR
        have hrl : rs.length ≤ 1000 := by rw [hRun.len]; omega
        have HB2 : Hid (Below w.heap.size w wr) := stepB HB1.out hRun.own.bel
        by_cases hr0 : rs.length = 0
        · have HPk : Hid (∀ Y, Below wr.heap.size wr Y → ∀ k, Calls Try.prog 28 #[.pointer (some ⟨qb, 0, none⟩), .int .i64 k] Y fun e w' => e = .returned (.tuple #[.int .i64 0, .slice none 0 0, .bool false]) ∧ Below Y.heap.size Y w') := fun Y hY k => (pick_none k (hRun.below hY).law hr0).mono fun e w' ⟨he, hw⟩ => ⟨he, hw ▸ Below.refl _ _⟩
          clear hs1 hu hRun hT hr0 hrl
          go_wp2_with (first
            | (go_at_call 28; ((with_reducible refine (HPk.out wr (Below.refl _ _) _).mono ?_); rintro e w3 ⟨rfl, b3⟩))
            | (go_at_call 28; ((with_reducible refine (HPk.out w3 b3 _).mono ?_); rintro e w4 ⟨rfl, b⟩); have b4 := stepB b3 b; clear b)
            | (go_at_call 28; ((with_reducible refine (HPk.out w4 b4 _).mono ?_); rintro e w5 ⟨rfl, b⟩); have b5 := stepB b4 b; clear b))
          go_ret
          exact ⟨rfl, stepB HB2.out b5⟩
        · have HPk := Lib.hid fun Y (hY : Below wr.heap.size wr Y) k (hk : IntOk k) => (hRun.below hY).pickr k hk (by omega) hrl
          have HH := Lib.hid fun Y (hY : Below wr.heap.size wr Y) => (hRun.hold (by omega)).below hY
          have HIn : Hid (∀ r ∈ R, ∀ z, InI (den v N r z)) := fun r hr z => den_in hRun.own.inv.wf hRun.own.inv.fitv (hRun.own.inv.ref r hr) z
          have HBl : Hid (Below w.heap.size w w1') := HB1.out
          generalize (Value.pointer (some ⟨mb, 0, none⟩), rv, tv) = cs at HH
          clear hs1 hu hRun hT hr0 hrl
          go_upto_region 15 with (first
            | (go_at_call 28; ((with_reducible refine (HPk.out wr (Below.refl _ _) k1 hk1).mono ?_); rintro e w3 ⟨a, B1, n1, d1, rfl, ha, b3⟩))
            | (go_at_call 28; ((with_reducible refine (HPk.out w3 b3 k2 hk2).mono ?_); rintro e w4 ⟨b, B2, n2, d2, rfl, hb, bx⟩); have b4 := stepB b3 bx; clear bx)
            | (go_at_call 28; ((with_reducible refine (HPk.out w4 b4 k3 hk3).mono ?_); rintro e w5 ⟨d, B3, n3, d3, rfl, hd, bx⟩); have b5 := stepB b4 bx; clear bx))
          have HR : Hid (Room w1' w5 qb sb cb rb tb v 34 cs [(a, den v N a), (b, den v N b), (d, den v N d)]) := ⟨_, by omega, nv, N, R, (((HH.out w5 b5).know hd).know hb).know ha⟩
          have HIa := Lib.hid (HIn.out a ha)
          obtain ⟨fa, hfa⟩ : ∃ fa, fa = den v N a := ⟨_, rfl⟩
          obtain ⟨fb, hfb⟩ : ∃ fb, fb = den v N b := ⟨_, rfl⟩
          obtain ⟨fd, hfd⟩ : ∃ fd, fd = den v N d := ⟨_, rfl⟩
          rw [← hfa, ← hfb, ← hfd] at HR
          rw [← hfa] at HIa
          have HA1 : Hid (∀ (Y : World) (n : Nat) (F : List (Nat × (Nat → Int))) (a b : Nat) (f g : Nat → Int), Room w1' Y qb sb cb rb tb v (n + 1) cs F → (a, f) ∈ F → (b, g) ∈ F → Calls Try.prog 25 #[.pointer (some ⟨sb, 0, none⟩), .int .u8 1, .int .i64 a, .int .i64 b] Y fun e w' => ∃ r, e = .returned (.tuple #[.int .i64 (r : Nat), .int .i64 0]) ∧ Room w1' w' qb sb cb rb tb v n cs ((r, fun z => valI 1 (f z) (g z)) :: F)) := fun Y n F a b f g h hf hg => room_apply 1 h hf hg (by decide) (by decide)
          have HA2 : Hid (∀ (Y : World) (n : Nat) (F : List (Nat × (Nat → Int))) (a b : Nat) (f g : Nat → Int), Room w1' Y qb sb cb rb tb v (n + 1) cs F → (a, f) ∈ F → (b, g) ∈ F → Calls Try.prog 25 #[.pointer (some ⟨sb, 0, none⟩), .int .u8 2, .int .i64 a, .int .i64 b] Y fun e w' => ∃ r, e = .returned (.tuple #[.int .i64 (r : Nat), .int .i64 0]) ∧ Room w1' w' qb sb cb rb tb v n cs ((r, fun z => valI 2 (f z) (g z)) :: F)) := fun Y n F a b f g h hf hg => room_apply 2 h hf hg (by decide) (by decide)
          have HA3 : Hid (∀ (Y : World) (n : Nat) (F : List (Nat × (Nat → Int))) (a b : Nat) (f g : Nat → Int), Room w1' Y qb sb cb rb tb v (n + 1) cs F → (a, f) ∈ F → (b, g) ∈ F → Calls Try.prog 25 #[.pointer (some ⟨sb, 0, none⟩), .int .u8 3, .int .i64 a, .int .i64 b] Y fun e w' => ∃ r, e = .returned (.tuple #[.int .i64 (r : Nat), .int .i64 0]) ∧ Room w1' w' qb sb cb rb tb v n cs ((r, fun z => valI 3 (f z) (g z)) :: F)) := fun Y n F a b f g h hf hg => room_apply 3 h hf hg (by decide) (by decide)
          have HA4 : Hid (∀ (Y : World) (n : Nat) (F : List (Nat × (Nat → Int))) (a b : Nat) (f g : Nat → Int), Room w1' Y qb sb cb rb tb v (n + 1) cs F → (a, f) ∈ F → (b, g) ∈ F → Calls Try.prog 25 #[.pointer (some ⟨sb, 0, none⟩), .int .u8 4, .int .i64 a, .int .i64 b] Y fun e w' => ∃ r, e = .returned (.tuple #[.int .i64 (r : Nat), .int .i64 0]) ∧ Room w1' w' qb sb cb rb tb v n cs ((r, fun z => valI 4 (f z) (g z)) :: F)) := fun Y n F a b f g h hf hg => room_apply 4 h hf hg (by decide) (by decide)
          have HCn : Hid (∀ (Y : World) (n : Nat) (F : List (Nat × (Nat → Int))), Room w1' Y qb sb cb rb tb v (n + 1) cs F → Calls Try.prog 33 #[.pointer (some ⟨sb, 0, none⟩), .int .i64 1] Y fun e w' => ∃ r, e = .returned (.tuple #[.int .i64 (r : Nat), .int .i64 0]) ∧ Room w1' w' qb sb cb rb tb v n cs ((r, fun _ => 1) :: F)) := fun Y n F h => room_const 1 (by unfold InI; omega) h
          clear HH HIn HPk b3 b4 b5 ha hb hd hfa hfb hfd hP HB2
          go_wp2
          go_loopw [24] (fun o wr => ∃ k : Nat, k ≤ 2 ∧ o = .int .u8 (k + 1 : Nat) ∧ Hid ((k = 0 ∧ Room w1' wr qb sb cb rb tb v 34 cs [(a, fa), (b, fb), (d, fd)]) ∨ (k = 1 ∧ Room w1' wr qb sb cb rb tb v 27 cs [(a, fa), (b, fb), (d, fd)]) ∨ (k = 2 ∧ Room w1' wr qb sb cb rb tb v 20 cs [(a, fa), (b, fb), (d, fd)]))) (fun o _ => 3 - (intOf o).toNat)
          case atStart => exact ⟨0, by omega, rfl, .inl ⟨rfl, HR.out⟩⟩
          case round =>
            clear HR
            obtain ⟨k, hk, rfl, HK⟩ := hrel
            rcases HK.out with ⟨rfl, HR⟩ | ⟨rfl, HR⟩ | ⟨rfl, HR⟩
            · have HR := Lib.hid HR
              have x0 := HR.out.cell
              clear HK hk
              go_wp2_with (first
                | (go_at_call 25; ((with_reducible refine (HA1.out _ 33 _ a b fa fb HR.out mem0 mem1).mono ?_); rintro e u1 ⟨ab, rfl, R1⟩); have x1 := R1.cell)
                | (go_at_call 25; ((with_reducible refine (HA1.out _ 32 _ b a fb fa R1 mem2 mem1).mono ?_); rintro e u2 ⟨ba, rfl, R2⟩); have x2 := R2.cell)
                | (go_at_call 25; ((with_reducible refine (HA1.out _ 31 _ b d fb fd R2 mem3 mem4).mono ?_); rintro e u3 ⟨bc, rfl, R3⟩); have x3 := R3.cell)
                | (go_at_call 25; ((with_reducible refine (HA1.out _ 30 _ ab d _ fd R3 mem2 mem5).mono ?_); rintro e u4 ⟨left, rfl, R4⟩); have x4 := R4.cell)
                | (go_at_call 25; ((with_reducible refine (HA1.out _ 29 _ a bc fa _ R4 mem4 mem1).mono ?_); rintro e u5 ⟨right, rfl, R5⟩); have x5 := R5.cell)
                | (go_at_call 25; ((with_reducible refine (HA1.out _ 28 _ a a fa fa R5 mem5 mem5).mono ?_); rintro e u6 ⟨own, rfl, R6⟩); have x6 := R6.cell)
                | (go_at_call 25; ((with_reducible refine (HA2.out _ 27 _ a ab fa _ R6 mem6 mem5).mono ?_); rintro e u7 ⟨back, rfl, R7⟩); have x7 := R7.cell; have HF7 : Hid (Room w1' u7 qb sb cb rb tb v 27 cs [(a, fa), (b, fb), (d, fd)]) := R7.sub (fun p hp => by simp at hp ⊢; rcases hp with rfl | rfl | rfl <;> simp); obtain ⟨m7, h7⟩ := R7.hold; obtain ⟨e1, e2, e3, e4⟩ := lat_eqs lat1 h7; clear R1 R2 R3 R4 R5 R6 R7 h7; subst e1 e2 e3 e4))
              go_roundw
              case rel => exact ⟨1, by omega, by go_num, .inr (.inl ⟨rfl, HF7.out⟩)⟩
              case measure => simp [intOf]
            · have HR := Lib.hid HR
              have x0 := HR.out.cell
              clear HK hk
              go_wp2_with (first
                | (go_at_call 25; ((with_reducible refine (HA2.out _ 26 _ a b fa fb HR.out mem0 mem1).mono ?_); rintro e u1 ⟨ab, rfl, R1⟩); have x1 := R1.cell)
                | (go_at_call 25; ((with_reducible refine (HA2.out _ 25 _ b a fb fa R1 mem2 mem1).mono ?_); rintro e u2 ⟨ba, rfl, R2⟩); have x2 := R2.cell)
                | (go_at_call 25; ((with_reducible refine (HA2.out _ 24 _ b d fb fd R2 mem3 mem4).mono ?_); rintro e u3 ⟨bc, rfl, R3⟩); have x3 := R3.cell)
                | (go_at_call 25; ((with_reducible refine (HA2.out _ 23 _ ab d _ fd R3 mem2 mem5).mono ?_); rintro e u4 ⟨left, rfl, R4⟩); have x4 := R4.cell)
                | (go_at_call 25; ((with_reducible refine (HA2.out _ 22 _ a bc fa _ R4 mem4 mem1).mono ?_); rintro e u5 ⟨right, rfl, R5⟩); have x5 := R5.cell)
                | (go_at_call 25; ((with_reducible refine (HA2.out _ 21 _ a a fa fa R5 mem5 mem5).mono ?_); rintro e u6 ⟨own, rfl, R6⟩); have x6 := R6.cell)
                | (go_at_call 25; ((with_reducible refine (HA1.out _ 20 _ a ab fa _ R6 mem6 mem5).mono ?_); rintro e u7 ⟨back, rfl, R7⟩); have x7 := R7.cell; have HF7 : Hid (Room w1' u7 qb sb cb rb tb v 20 cs [(a, fa), (b, fb), (d, fd)]) := R7.sub (fun p hp => by simp at hp ⊢; rcases hp with rfl | rfl | rfl <;> simp); obtain ⟨m7, h7⟩ := R7.hold; obtain ⟨e1, e2, e3, e4⟩ := lat_eqs lat2 h7; clear R1 R2 R3 R4 R5 R6 R7 h7; subst e1 e2 e3 e4))
              go_roundw
              case rel => exact ⟨2, by omega, by go_num, .inr (.inr ⟨rfl, HF7.out⟩)⟩
              case measure => simp [intOf]
            · have HR := Lib.hid HR
              have x0 := HR.out.cell
              clear HK hk
              go_wp2_with (first
                | (go_at_call 25; ((with_reducible refine (HA3.out _ 19 _ a b fa fb HR.out mem0 mem1).mono ?_); rintro e u1 ⟨x, rfl, R1⟩); have x1 := R1.cell)
                | (go_at_call 25; ((with_reducible refine (HA3.out _ 18 _ x b _ fb R1 mem0 mem2).mono ?_); rintro e u2 ⟨y, rfl, R2⟩); have x2 := R2.cell)
                | (go_at_call 25; ((with_reducible refine (HA4.out _ 17 _ a b fa fb R2 mem2 mem3).mono ?_); rintro e u3 ⟨q, rfl, R3⟩); have x3 := R3.cell)
                | (go_at_call 33; ((with_reducible refine (HCn.out _ 16 _ R3).mono ?_); rintro e u4 ⟨one, rfl, R4⟩); obtain ⟨m4, h4⟩ := R4.hold; obtain ⟨e1, bb, e2, e3⟩ := lat_end (fun z _ => HIa.out z) h4; have HB4 := Lib.hid (stepB HBl.out R4.bel); clear R1 R2 R3 R4 h4; subst e1))
              go_ret
              exact ⟨rfl, HB4.out⟩
  · have HBe := Lib.hid fun X => begin_no v 4096 X hE
    clear hE hB
    go_enter Try.func8, Try.ntmps8
    go_wp2_with (first
      | (go_at_call 9; ((with_reducible refine HLo.out.mono ?_); rintro e w1 ⟨rfl, hb1⟩))
      | (go_at_call 10; ((with_reducible refine (HAw.out _).mono ?_); rintro e w3 ⟨rfl, hb3⟩))
      | (go_at_call 11; ((with_reducible refine (HBe.out _).mono ?_); rintro e w2 ⟨b, rfl, hb2⟩)))
    go_ret
    exact ⟨rfl, stepB (stepB hb1 hb3) hb2⟩
end Go.Proofs.Ytbhfmeohaoojfaa.Dn
