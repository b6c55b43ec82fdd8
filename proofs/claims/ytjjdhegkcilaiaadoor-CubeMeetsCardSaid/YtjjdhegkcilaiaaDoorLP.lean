/- The walks of the laws CubePairs and CubeMeets. -/
import Derived.Test.YtjjdhegkcilaiaaDoorCK
namespace Go.Proofs.YtjjdhegkcilaiaaDoor
open Go Go.RowKit
set_option maxRecDepth 100000
theorem meet_lt {p q p' q' : Nat} (hp : p < 256) (hq : q < 256) (hp' : p' < 256) (hq' : q' < 256) : (meet p q p' q').1.1 < 256 ∧ (meet p q p' q').1.2 < 256 := by
  unfold meet
  split
  · exact ⟨or_lt8 hp hp', or_lt8 hq hq'⟩
  · exact ⟨by decide, by decide⟩
theorem cell_on {X Y : World} {a : Addr} {u : Value} (h : X.cell? a = some u) (hb : Below X.heap.size X Y) : Y.cell? a = some u := (hb.cell (World.block_lt_of_cell? X a h)).trans h
theorem held4_step {wz X Y : World} {a1 a2 a3 a4 a5 a6 a7 a8 : Addr} {u1 u2 u3 u4 u5 u6 u7 u8 : Value}
    (h : X.cell? a1 = some u1 ∧ X.cell? a2 = some u2 ∧ X.cell? a3 = some u3 ∧ X.cell? a4 = some u4 ∧ X.cell? a5 = some u5 ∧ X.cell? a6 = some u6 ∧ X.cell? a7 = some u7 ∧ X.cell? a8 = some u8 ∧ Below wz.heap.size wz X) (hb : Below X.heap.size X Y) :
    Y.cell? a1 = some u1 ∧ Y.cell? a2 = some u2 ∧ Y.cell? a3 = some u3 ∧ Y.cell? a4 = some u4 ∧ Y.cell? a5 = some u5 ∧ Y.cell? a6 = some u6 ∧ Y.cell? a7 = some u7 ∧ Y.cell? a8 = some u8 ∧ Below wz.heap.size wz Y := by
  obtain ⟨h1, h2, h3, h4, h5, h6, h7, h8, h9⟩ := h
  exact ⟨cell_on h1 hb, cell_on h2 hb, cell_on h3 hb, cell_on h4 hb, cell_on h5 hb, cell_on h6 hb, cell_on h7 hb, cell_on h8 hb, stepB h9 hb⟩
theorem held4_bel {wz X : World} {a1 a2 a3 a4 a5 a6 a7 a8 : Addr} {u1 u2 u3 u4 u5 u6 u7 u8 : Value}
    (h : X.cell? a1 = some u1 ∧ X.cell? a2 = some u2 ∧ X.cell? a3 = some u3 ∧ X.cell? a4 = some u4 ∧ X.cell? a5 = some u5 ∧ X.cell? a6 = some u6 ∧ X.cell? a7 = some u7 ∧ X.cell? a8 = some u8 ∧ Below wz.heap.size wz X) : Below wz.heap.size wz X := h.2.2.2.2.2.2.2.2
set_option maxHeartbeats 2000000 in
theorem cubePairs_walk (p q p' q' : Nat) (w : World) (hp : p < 256) (hq : q < 256) (hp' : p' < 256) (hq' : q' < 256) (hT : HavT w) :
    Calls Tryd.prog 5 #[.agg #[.int .u8 p, .int .u8 q], .agg #[.int .u8 p', .int .u8 q']] w fun e w' => e = .returned (.bool true) ∧ Below w.heap.size w w' := by
  have H1 := Lib.hid fun w => Intersect_any p q p' q' w hp hq hp' hq'
  have H2 := Lib.hid fun w => refIntersect_any p q p' q' w hp hq hp' hq'
  have H3 := Lib.hid fun w => Covers_any p q p' q' w hp hq hp' hq'
  have H4 := Lib.hid fun w => refCovers_any p q p' q' w hp hq hp' hq'
  generalize meet p q p' q' = m at *
  obtain ⟨⟨m1, m2⟩, mb⟩ := m
  generalize covB (p, q) (p', q') = t at *
  simp only at H1 H2
  clear hp hq hp' hq'
  go_enter Tryd.func5, Tryd.ntmps5
  have bA := (Box2.new w 42 (.int .u8 (p : Nat)) (.int .u8 (q : Nat))).alloc (.cells #[.int .u8 (p' : Nat), .int .u8 (q' : Nat)] 42)
  have bB := Box2.new (w.alloc (.cells #[.int .u8 (p : Nat), .int .u8 (q : Nat)] 42)) 42 (.int .u8 (p' : Nat)) (.int .u8 (q' : Nat))
  rw [World.size_alloc] at bB
  have k0 := bal (bal (Below.refl _ w) (.cells #[.int .u8 (p : Nat), .int .u8 (q : Nat)] 42)) (.cells #[.int .u8 (p' : Nat), .int .u8 (q' : Nat)] 42)
  go_wp2_with fail
  refine (H1.out _).mono ?_
  rintro e w1 ⟨rfl, hb1⟩
  have bA1 := (bA.below hb1).alloc (.cells #[.int .u8 (m1 : Nat), .int .u8 (m2 : Nat)] 42)
  have bB1 := (bB.below hb1).alloc (.cells #[.int .u8 (m1 : Nat), .int .u8 (m2 : Nat)] 42)
  have bC1 := Box2.new w1 42 (.int .u8 (m1 : Nat)) (.int .u8 (m2 : Nat))
  have k1 := bal (stepB k0 hb1) (.cells #[.int .u8 (m1 : Nat), .int .u8 (m2 : Nat)] 42)
  generalize hb3 : w1.heap.size = b3 at bC1
  have a0 := bA1.c0
  have a1 := bA1.c1
  have a2 := bB1.c0
  have a3 := bB1.c1
  clear bA bB k0 hb1
  go_wp2_with fail
  clear hb3 a0 a1 a2 a3
  refine (H2.out _).mono ?_
  rintro e w2 ⟨rfl, hb2⟩
  have bA2 := (bA1.below hb2).alloc (.cells #[.int .u8 (m1 : Nat), .int .u8 (m2 : Nat)] 42)
  have bB2 := (bB1.below hb2).alloc (.cells #[.int .u8 (m1 : Nat), .int .u8 (m2 : Nat)] 42)
  have bC2 := (bC1.below hb2).alloc (.cells #[.int .u8 (m1 : Nat), .int .u8 (m2 : Nat)] 42)
  have bD2 := Box2.new w2 42 (.int .u8 (m1 : Nat)) (.int .u8 (m2 : Nat))
  have k2 := bal (stepB k1 hb2) (.cells #[.int .u8 (m1 : Nat), .int .u8 (m2 : Nat)] 42)
  clear bA1 bB1 bC1 k1 hb2 H1 H2
  go_wp2_with fail
  obtain ⟨wz, hwz⟩ : ∃ wz, w2.alloc (.cells #[.int .u8 (m1 : Nat), .int .u8 (m2 : Nat)] 42) = wz := ⟨_, rfl⟩
  rw [hwz] at bA2 bB2 bC2 bD2 k2 ⊢
  obtain ⟨b4, hb4⟩ : ∃ b4, b4 = w2.heap.size := ⟨_, rfl⟩
  rw [← hb4] at bD2 ⊢
  obtain ⟨b, hb⟩ : ∃ b, b = w.heap.size := ⟨_, rfl⟩
  rw [← hb] at bA2 bB2 ⊢
  have HB := Lib.hid hb
  clear hwz hb4 hb
  have hTz : HavT wz := hT.below k2
  have hS0 : wz.drew.cell? ⟨b, 0, none⟩ = some (.int .u8 p) ∧ wz.drew.cell? ⟨b, 1, none⟩ = some (.int .u8 q) ∧ wz.drew.cell? ⟨b + 1, 0, none⟩ = some (.int .u8 p') ∧ wz.drew.cell? ⟨b + 1, 1, none⟩ = some (.int .u8 q') ∧ wz.drew.cell? ⟨b3, 0, none⟩ = some (.int .u8 m1) ∧ wz.drew.cell? ⟨b3, 1, none⟩ = some (.int .u8 m2) ∧ wz.drew.cell? ⟨b4, 0, none⟩ = some (.int .u8 m1) ∧ wz.drew.cell? ⟨b4, 1, none⟩ = some (.int .u8 m2) ∧ Below wz.heap.size wz wz.drew := ⟨bA2.c0, bA2.c1, bB2.c0, bB2.c1, bC2.c0, bC2.c1, bD2.c0, bD2.c1, (Below.refl _ _).drew⟩
  clear bA2 bB2 bC2 bD2
  go_region_held3 (fun w' => w'.cell? ⟨b, 0, none⟩ = some (.int .u8 p) ∧ w'.cell? ⟨b, 1, none⟩ = some (.int .u8 q) ∧ w'.cell? ⟨b + 1, 0, none⟩ = some (.int .u8 p') ∧ w'.cell? ⟨b + 1, 1, none⟩ = some (.int .u8 q') ∧ w'.cell? ⟨b3, 0, none⟩ = some (.int .u8 m1) ∧ w'.cell? ⟨b3, 1, none⟩ = some (.int .u8 m2) ∧ w'.cell? ⟨b4, 0, none⟩ = some (.int .u8 m1) ∧ w'.cell? ⟨b4, 1, none⟩ = some (.int .u8 m2) ∧ Below wz.heap.size wz w')
    (first | exact hS0 | assumption)
    (first
      | (go_at_call 43; refine (H3.out _).mono ?_; rintro e w5 ⟨rfl, hb5⟩; have hS5 : w5.cell? ⟨b, 0, none⟩ = some (.int .u8 p) ∧ w5.cell? ⟨b, 1, none⟩ = some (.int .u8 q) ∧ w5.cell? ⟨b + 1, 0, none⟩ = some (.int .u8 p') ∧ w5.cell? ⟨b + 1, 1, none⟩ = some (.int .u8 q') ∧ w5.cell? ⟨b3, 0, none⟩ = some (.int .u8 m1) ∧ w5.cell? ⟨b3, 1, none⟩ = some (.int .u8 m2) ∧ w5.cell? ⟨b4, 0, none⟩ = some (.int .u8 m1) ∧ w5.cell? ⟨b4, 1, none⟩ = some (.int .u8 m2) ∧ Below wz.heap.size wz w5 := held4_step (by first | assumption | exact hS0) hb5)
      | (go_at_call 44; refine (H4.out _).mono ?_; rintro e w6 ⟨rfl, hb6⟩; have hS6 : w6.cell? ⟨b, 0, none⟩ = some (.int .u8 p) ∧ w6.cell? ⟨b, 1, none⟩ = some (.int .u8 q) ∧ w6.cell? ⟨b + 1, 0, none⟩ = some (.int .u8 p') ∧ w6.cell? ⟨b + 1, 1, none⟩ = some (.int .u8 q') ∧ w6.cell? ⟨b3, 0, none⟩ = some (.int .u8 m1) ∧ w6.cell? ⟨b3, 1, none⟩ = some (.int .u8 m2) ∧ w6.cell? ⟨b4, 0, none⟩ = some (.int .u8 m1) ∧ w6.cell? ⟨b4, 1, none⟩ = some (.int .u8 m2) ∧ Below wz.heap.size wz w6 := held4_step (by first | assumption | exact hS0) hb6)
      | (go_at_call 40; refine (awake_any _ (hTz.below (held4_bel (by first | assumption | exact hS0)))).mono ?_; rintro e w7 ⟨rfl, hb7⟩; have hS7 : w7.cell? ⟨b, 0, none⟩ = some (.int .u8 p) ∧ w7.cell? ⟨b, 1, none⟩ = some (.int .u8 q) ∧ w7.cell? ⟨b + 1, 0, none⟩ = some (.int .u8 p') ∧ w7.cell? ⟨b + 1, 1, none⟩ = some (.int .u8 q') ∧ w7.cell? ⟨b3, 0, none⟩ = some (.int .u8 m1) ∧ w7.cell? ⟨b3, 1, none⟩ = some (.int .u8 m2) ∧ w7.cell? ⟨b4, 0, none⟩ = some (.int .u8 m1) ∧ w7.cell? ⟨b4, 1, none⟩ = some (.int .u8 m2) ∧ Below wz.heap.size wz w7 := held4_step (by first | assumption | exact hS0) hb7))
  all_goals
    have k7 := stepB k2 (held4_bel hS7)
    clear hS0 hS7 k2
    go_wp2
    go_ret
    exact ⟨rfl, k7⟩
theorem meet_no {p q p' q' : Nat} (h : (meet p q p' q').2 = false) (x : Nat) : (cHas p q x && cHas p' q' x) = false ∧ meet p q p' q' = ((0, 0), false) := by
  unfold meet at h ⊢
  split at h
  · cases h
  · rename_i hne
    rw [if_neg hne]
    refine ⟨?_, rfl⟩
    cases h1 : cHas p q x with
    | false => rfl
    | true =>
      cases h2 : cHas p' q' x with
      | false => rfl
      | true =>
        refine absurd ?_ hne
        rw [cHas_iff] at h1 h2
        rw [and_zero_iff]
        intro b hb
        rw [Nat.testBit_or, Bool.or_eq_true] at hb
        rw [Nat.testBit_or, Bool.or_eq_false_iff]
        have hx : x.testBit b = false := by
          rcases hb with hb | hb
          · exact h1.2 b hb
          · exact h2.2 b hb
        constructor
        · cases hp : p.testBit b with
          | false => rfl
          | true => rw [h1.1 b hp] at hx; cases hx
        · cases hp : p'.testBit b with
          | false => rfl
          | true => rw [h2.1 b hp] at hx; cases hx
theorem meet_yes {p q p' q' : Nat} (h : (meet p q p' q').2 = true) (x : Nat) : cHas (meet p q p' q').1.1 (meet p q p' q').1.2 x = (cHas p q x && cHas p' q' x) ∧ covB (p, q) (meet p q p' q').1 = true ∧ covB (p', q') (meet p q p' q').1 = true := by
  unfold meet at h ⊢
  split at h
  · rename_i he
    rw [if_pos he]
    refine ⟨?_, ?_, ?_⟩
    · rw [Bool.eq_iff_iff, Bool.and_eq_true, cHas_iff, cHas_iff, cHas_iff]
      simp only [Nat.testBit_or, Bool.or_eq_true]
      constructor
      · rintro ⟨h1, h2⟩
        exact ⟨⟨fun b hb => h1 b (.inl hb), fun b hb => h2 b (.inl hb)⟩, fun b hb => h1 b (.inr hb), fun b hb => h2 b (.inr hb)⟩
      · rintro ⟨⟨h1, h2⟩, h3, h4⟩
        exact ⟨fun b hb => hb.elim (h1 b) (h3 b), fun b hb => hb.elim (h2 b) (h4 b)⟩
    · rw [covB_iff]
      simp only [Nat.testBit_or, Bool.or_eq_true]
      exact ⟨fun b hb => .inl hb, fun b hb => .inl hb⟩
    · rw [covB_iff]
      simp only [Nat.testBit_or, Bool.or_eq_true]
      exact ⟨fun b hb => .inr hb, fun b hb => .inr hb⟩
  · cases h
/-- Three cubes in blocks of their own; what lay in w lies as it lay. -/
structure Kit3 (w : World) (ba bb bc : Nat) (p q p' q' m1 m2 : Nat) (X : World) : Prop where
  a : Box2 X ba 42 (.int .u8 (p : Nat)) (.int .u8 (q : Nat))
  b : Box2 X bb 42 (.int .u8 (p' : Nat)) (.int .u8 (q' : Nat))
  c : Box2 X bc 42 (.int .u8 (m1 : Nat)) (.int .u8 (m2 : Nat))
  k : Below w.heap.size w X
theorem Kit3.step {w : World} {ba bb bc p q p' q' m1 m2 : Nat} {X Y : World} (h : Kit3 w ba bb bc p q p' q' m1 m2 X) (hb : Below X.heap.size X Y) : Kit3 w ba bb bc p q p' q' m1 m2 Y :=
  ⟨h.a.below hb, h.b.below hb, h.c.below hb, stepB h.k hb⟩
set_option maxHeartbeats 2000000 in
theorem cubeMeets_walk (p q p' q' x : Nat) (w : World) (hp : p < 256) (hq : q < 256) (hp' : p' < 256) (hq' : q' < 256) (hx : x < 256) (hT : HavT w) :
    Calls Tryd.prog 9 #[.agg #[.int .u8 p, .int .u8 q], .agg #[.int .u8 p', .int .u8 q'], .int .u8 x] w fun e w' => e = .returned (.bool true) ∧ Below w.heap.size w w' := by
  have H1 := Lib.hid fun w => Intersect_any p q p' q' w hp hq hp' hq'
  have H2 := Lib.hid fun w => Has_any p q x w hp hq hx
  have H3 := Lib.hid fun w => Has_any p' q' x w hp' hq' hx
  have HW := Lib.hid fun w' (k : Below w.heap.size w w') => awake_any w' (hT.below k)
  have hm := meet_lt hp hq hp' hq'
  have hno := fun h => meet_no (p := p) (q := q) (p' := p') (q' := q') h x
  have hyes := fun h => meet_yes (p := p) (q := q) (p' := p') (q' := q') h x
  have bA := (Box2.new w 42 (.int .u8 (p : Nat)) (.int .u8 (q : Nat))).alloc (.cells #[.int .u8 (p' : Nat), .int .u8 (q' : Nat)] 42)
  have bB := Box2.new (w.alloc (.cells #[.int .u8 (p : Nat), .int .u8 (q : Nat)] 42)) 42 (.int .u8 (p' : Nat)) (.int .u8 (q' : Nat))
  rw [World.size_alloc] at bB
  have k0 := bal (bal (Below.refl _ w) (.cells #[.int .u8 (p : Nat), .int .u8 (q : Nat)] 42)) (.cells #[.int .u8 (p' : Nat), .int .u8 (q' : Nat)] 42)
  generalize meet p q p' q' = m at *
  obtain ⟨⟨m1, m2⟩, mb⟩ := m
  simp only at H1 hm hno hyes
  generalize hh1 : cHas p q x = h1 at *
  generalize hh2 : cHas p' q' x = h2 at *
  clear hh1 hh2
  have H4 := Lib.hid fun w => Has_any m1 m2 x w hm.1 hm.2 hx
  have H5 := Lib.hid fun w => Covers_any p q m1 m2 w hp hq hm.1 hm.2
  have H6 := Lib.hid fun w => Covers_any p' q' m1 m2 w hp' hq' hm.1 hm.2
  clear hp hq hp' hq' hx hT hm
  cases mb with
  | false =>
    obtain ⟨hb, he⟩ := hno rfl
    simp only [Prod.mk.injEq, and_true] at he
    have z1 : (((m1 : Nat) : Int) == 0) = true := by rw [he.1]; rfl
    have z2 : (((m2 : Nat) : Int) == 0) = true := by rw [he.2]; rfl
    clear hno hyes he
    cases h1 with
    | false =>
      clear hb
      go_enter Tryd.func9, Tryd.ntmps9
      go_wp2_with (first
        | (go_at_call 41; refine (H1.out _).mono ?_; rintro e w1 ⟨rfl, hb⟩; have K : Kit3 w w.heap.size (w.heap.size + 1) w1.heap.size p q p' q' m1 m2 (w1.alloc (.cells #[.int .u8 (m1 : Nat), .int .u8 (m2 : Nat)] 42)) := ⟨(bA.below hb).alloc _, (bB.below hb).alloc _, Box2.new w1 _ _ _, bal (stepB k0 hb) _⟩; clear bA bB k0 hb; have a0 := K.a.c0; have a1 := K.a.c1; have a2 := K.b.c0; have a3 := K.b.c1; have a4 := K.c.c0; have a5 := K.c.c1)
        | (go_at_call 36; ((with_reducible refine (H2.out _).mono ?_); rintro e w2 ⟨rfl, hb⟩); replace K := K.step hb; clear a0 a1 a2 a3 a4 a5 hb; have a0 := K.a.c0; have a1 := K.a.c1; have a2 := K.b.c0; have a3 := K.b.c1; have a4 := K.c.c0; have a5 := K.c.c1)
        | (go_at_call 36; ((with_reducible refine (H3.out _).mono ?_); rintro e w2 ⟨rfl, hb⟩); replace K := K.step hb; clear a0 a1 a2 a3 a4 a5 hb; have a0 := K.a.c0; have a1 := K.a.c1; have a2 := K.b.c0; have a3 := K.b.c1; have a4 := K.c.c0; have a5 := K.c.c1)
        | (go_at_call 36; ((with_reducible refine (H4.out _).mono ?_); rintro e w2 ⟨rfl, hb⟩); replace K := K.step hb; clear a0 a1 a2 a3 a4 a5 hb; have a0 := K.a.c0; have a1 := K.a.c1; have a2 := K.b.c0; have a3 := K.b.c1; have a4 := K.c.c0; have a5 := K.c.c1)
        | (go_at_call 43; ((with_reducible refine (H5.out _).mono ?_); rintro e w2 ⟨rfl, hb⟩); replace K := K.step hb; clear a0 a1 a2 a3 a4 a5 hb; have a0 := K.a.c0; have a1 := K.a.c1; have a2 := K.b.c0; have a3 := K.b.c1; have a4 := K.c.c0; have a5 := K.c.c1)
        | (go_at_call 43; ((with_reducible refine (H6.out _).mono ?_); rintro e w2 ⟨rfl, hb⟩); replace K := K.step hb; clear a0 a1 a2 a3 a4 a5 hb; have a0 := K.a.c0; have a1 := K.a.c1; have a2 := K.b.c0; have a3 := K.b.c1; have a4 := K.c.c0; have a5 := K.c.c1)
        | (go_at_call 40; refine (HW.out _ K.k).mono ?_; rintro e w2 ⟨rfl, hb⟩; have k9 := stepB K.k hb; clear a0 a1 a2 a3 a4 a5 hb K))
      go_ret
      exact ⟨rfl, k9⟩
    | true =>
      cases h2 with
      | true => cases hb
      | false =>
        clear hb
        go_enter Tryd.func9, Tryd.ntmps9
        go_wp2_with (first
          | (go_at_call 41; refine (H1.out _).mono ?_; rintro e w1 ⟨rfl, hb⟩; have K : Kit3 w w.heap.size (w.heap.size + 1) w1.heap.size p q p' q' m1 m2 (w1.alloc (.cells #[.int .u8 (m1 : Nat), .int .u8 (m2 : Nat)] 42)) := ⟨(bA.below hb).alloc _, (bB.below hb).alloc _, Box2.new w1 _ _ _, bal (stepB k0 hb) _⟩; clear bA bB k0 hb; have a0 := K.a.c0; have a1 := K.a.c1; have a2 := K.b.c0; have a3 := K.b.c1; have a4 := K.c.c0; have a5 := K.c.c1)
          | (go_at_call 36; ((with_reducible refine (H2.out _).mono ?_); rintro e w2 ⟨rfl, hb⟩); replace K := K.step hb; clear a0 a1 a2 a3 a4 a5 hb; have a0 := K.a.c0; have a1 := K.a.c1; have a2 := K.b.c0; have a3 := K.b.c1; have a4 := K.c.c0; have a5 := K.c.c1)
          | (go_at_call 36; ((with_reducible refine (H3.out _).mono ?_); rintro e w2 ⟨rfl, hb⟩); replace K := K.step hb; clear a0 a1 a2 a3 a4 a5 hb; have a0 := K.a.c0; have a1 := K.a.c1; have a2 := K.b.c0; have a3 := K.b.c1; have a4 := K.c.c0; have a5 := K.c.c1)
          | (go_at_call 36; ((with_reducible refine (H4.out _).mono ?_); rintro e w2 ⟨rfl, hb⟩); replace K := K.step hb; clear a0 a1 a2 a3 a4 a5 hb; have a0 := K.a.c0; have a1 := K.a.c1; have a2 := K.b.c0; have a3 := K.b.c1; have a4 := K.c.c0; have a5 := K.c.c1)
          | (go_at_call 43; ((with_reducible refine (H5.out _).mono ?_); rintro e w2 ⟨rfl, hb⟩); replace K := K.step hb; clear a0 a1 a2 a3 a4 a5 hb; have a0 := K.a.c0; have a1 := K.a.c1; have a2 := K.b.c0; have a3 := K.b.c1; have a4 := K.c.c0; have a5 := K.c.c1)
          | (go_at_call 43; ((with_reducible refine (H6.out _).mono ?_); rintro e w2 ⟨rfl, hb⟩); replace K := K.step hb; clear a0 a1 a2 a3 a4 a5 hb; have a0 := K.a.c0; have a1 := K.a.c1; have a2 := K.b.c0; have a3 := K.b.c1; have a4 := K.c.c0; have a5 := K.c.c1)
          | (go_at_call 40; refine (HW.out _ K.k).mono ?_; rintro e w2 ⟨rfl, hb⟩; have k9 := stepB K.k hb; clear a0 a1 a2 a3 a4 a5 hb K))
        go_ret
        exact ⟨rfl, k9⟩
  | true =>
    obtain ⟨e1, e2, e3⟩ := hyes rfl
    rw [e1] at H4
    rw [e2] at H5
    rw [e3] at H6
    clear hno hyes e1 e2 e3
    cases h1 with
    | false =>
      rw [Bool.false_and] at H4
      go_enter Tryd.func9, Tryd.ntmps9
      go_wp2_with (first
        | (go_at_call 41; refine (H1.out _).mono ?_; rintro e w1 ⟨rfl, hb⟩; have K : Kit3 w w.heap.size (w.heap.size + 1) w1.heap.size p q p' q' m1 m2 (w1.alloc (.cells #[.int .u8 (m1 : Nat), .int .u8 (m2 : Nat)] 42)) := ⟨(bA.below hb).alloc _, (bB.below hb).alloc _, Box2.new w1 _ _ _, bal (stepB k0 hb) _⟩; clear bA bB k0 hb; have a0 := K.a.c0; have a1 := K.a.c1; have a2 := K.b.c0; have a3 := K.b.c1; have a4 := K.c.c0; have a5 := K.c.c1)
        | (go_at_call 36; ((with_reducible refine (H2.out _).mono ?_); rintro e w2 ⟨rfl, hb⟩); replace K := K.step hb; clear a0 a1 a2 a3 a4 a5 hb; have a0 := K.a.c0; have a1 := K.a.c1; have a2 := K.b.c0; have a3 := K.b.c1; have a4 := K.c.c0; have a5 := K.c.c1)
        | (go_at_call 36; ((with_reducible refine (H3.out _).mono ?_); rintro e w2 ⟨rfl, hb⟩); replace K := K.step hb; clear a0 a1 a2 a3 a4 a5 hb; have a0 := K.a.c0; have a1 := K.a.c1; have a2 := K.b.c0; have a3 := K.b.c1; have a4 := K.c.c0; have a5 := K.c.c1)
        | (go_at_call 36; ((with_reducible refine (H4.out _).mono ?_); rintro e w2 ⟨rfl, hb⟩); replace K := K.step hb; clear a0 a1 a2 a3 a4 a5 hb; have a0 := K.a.c0; have a1 := K.a.c1; have a2 := K.b.c0; have a3 := K.b.c1; have a4 := K.c.c0; have a5 := K.c.c1)
        | (go_at_call 43; ((with_reducible refine (H5.out _).mono ?_); rintro e w2 ⟨rfl, hb⟩); replace K := K.step hb; clear a0 a1 a2 a3 a4 a5 hb; have a0 := K.a.c0; have a1 := K.a.c1; have a2 := K.b.c0; have a3 := K.b.c1; have a4 := K.c.c0; have a5 := K.c.c1)
        | (go_at_call 43; ((with_reducible refine (H6.out _).mono ?_); rintro e w2 ⟨rfl, hb⟩); replace K := K.step hb; clear a0 a1 a2 a3 a4 a5 hb; have a0 := K.a.c0; have a1 := K.a.c1; have a2 := K.b.c0; have a3 := K.b.c1; have a4 := K.c.c0; have a5 := K.c.c1)
        | (go_at_call 40; refine (HW.out _ K.k).mono ?_; rintro e w2 ⟨rfl, hb⟩; have k9 := stepB K.k hb; clear a0 a1 a2 a3 a4 a5 hb K))
      go_ret
      exact ⟨rfl, k9⟩
    | true =>
      rw [Bool.true_and] at H4
      cases h2 with
      | false =>
        go_enter Tryd.func9, Tryd.ntmps9
        go_wp2_with (first
          | (go_at_call 41; refine (H1.out _).mono ?_; rintro e w1 ⟨rfl, hb⟩; have K : Kit3 w w.heap.size (w.heap.size + 1) w1.heap.size p q p' q' m1 m2 (w1.alloc (.cells #[.int .u8 (m1 : Nat), .int .u8 (m2 : Nat)] 42)) := ⟨(bA.below hb).alloc _, (bB.below hb).alloc _, Box2.new w1 _ _ _, bal (stepB k0 hb) _⟩; clear bA bB k0 hb; have a0 := K.a.c0; have a1 := K.a.c1; have a2 := K.b.c0; have a3 := K.b.c1; have a4 := K.c.c0; have a5 := K.c.c1)
          | (go_at_call 36; ((with_reducible refine (H2.out _).mono ?_); rintro e w2 ⟨rfl, hb⟩); replace K := K.step hb; clear a0 a1 a2 a3 a4 a5 hb; have a0 := K.a.c0; have a1 := K.a.c1; have a2 := K.b.c0; have a3 := K.b.c1; have a4 := K.c.c0; have a5 := K.c.c1)
          | (go_at_call 36; ((with_reducible refine (H3.out _).mono ?_); rintro e w2 ⟨rfl, hb⟩); replace K := K.step hb; clear a0 a1 a2 a3 a4 a5 hb; have a0 := K.a.c0; have a1 := K.a.c1; have a2 := K.b.c0; have a3 := K.b.c1; have a4 := K.c.c0; have a5 := K.c.c1)
          | (go_at_call 36; ((with_reducible refine (H4.out _).mono ?_); rintro e w2 ⟨rfl, hb⟩); replace K := K.step hb; clear a0 a1 a2 a3 a4 a5 hb; have a0 := K.a.c0; have a1 := K.a.c1; have a2 := K.b.c0; have a3 := K.b.c1; have a4 := K.c.c0; have a5 := K.c.c1)
          | (go_at_call 43; ((with_reducible refine (H5.out _).mono ?_); rintro e w2 ⟨rfl, hb⟩); replace K := K.step hb; clear a0 a1 a2 a3 a4 a5 hb; have a0 := K.a.c0; have a1 := K.a.c1; have a2 := K.b.c0; have a3 := K.b.c1; have a4 := K.c.c0; have a5 := K.c.c1)
          | (go_at_call 43; ((with_reducible refine (H6.out _).mono ?_); rintro e w2 ⟨rfl, hb⟩); replace K := K.step hb; clear a0 a1 a2 a3 a4 a5 hb; have a0 := K.a.c0; have a1 := K.a.c1; have a2 := K.b.c0; have a3 := K.b.c1; have a4 := K.c.c0; have a5 := K.c.c1)
          | (go_at_call 40; refine (HW.out _ K.k).mono ?_; rintro e w2 ⟨rfl, hb⟩; have k9 := stepB K.k hb; clear a0 a1 a2 a3 a4 a5 hb K))
        go_ret
        exact ⟨rfl, k9⟩
      | true =>
        go_enter Tryd.func9, Tryd.ntmps9
        go_wp2_with (first
          | (go_at_call 41; refine (H1.out _).mono ?_; rintro e w1 ⟨rfl, hb⟩; have K : Kit3 w w.heap.size (w.heap.size + 1) w1.heap.size p q p' q' m1 m2 (w1.alloc (.cells #[.int .u8 (m1 : Nat), .int .u8 (m2 : Nat)] 42)) := ⟨(bA.below hb).alloc _, (bB.below hb).alloc _, Box2.new w1 _ _ _, bal (stepB k0 hb) _⟩; clear bA bB k0 hb; have a0 := K.a.c0; have a1 := K.a.c1; have a2 := K.b.c0; have a3 := K.b.c1; have a4 := K.c.c0; have a5 := K.c.c1)
          | (go_at_call 36; ((with_reducible refine (H2.out _).mono ?_); rintro e w2 ⟨rfl, hb⟩); replace K := K.step hb; clear a0 a1 a2 a3 a4 a5 hb; have a0 := K.a.c0; have a1 := K.a.c1; have a2 := K.b.c0; have a3 := K.b.c1; have a4 := K.c.c0; have a5 := K.c.c1)
          | (go_at_call 36; ((with_reducible refine (H3.out _).mono ?_); rintro e w2 ⟨rfl, hb⟩); replace K := K.step hb; clear a0 a1 a2 a3 a4 a5 hb; have a0 := K.a.c0; have a1 := K.a.c1; have a2 := K.b.c0; have a3 := K.b.c1; have a4 := K.c.c0; have a5 := K.c.c1)
          | (go_at_call 36; ((with_reducible refine (H4.out _).mono ?_); rintro e w2 ⟨rfl, hb⟩); replace K := K.step hb; clear a0 a1 a2 a3 a4 a5 hb; have a0 := K.a.c0; have a1 := K.a.c1; have a2 := K.b.c0; have a3 := K.b.c1; have a4 := K.c.c0; have a5 := K.c.c1)
          | (go_at_call 43; ((with_reducible refine (H5.out _).mono ?_); rintro e w2 ⟨rfl, hb⟩); replace K := K.step hb; clear a0 a1 a2 a3 a4 a5 hb; have a0 := K.a.c0; have a1 := K.a.c1; have a2 := K.b.c0; have a3 := K.b.c1; have a4 := K.c.c0; have a5 := K.c.c1)
          | (go_at_call 43; ((with_reducible refine (H6.out _).mono ?_); rintro e w2 ⟨rfl, hb⟩); replace K := K.step hb; clear a0 a1 a2 a3 a4 a5 hb; have a0 := K.a.c0; have a1 := K.a.c1; have a2 := K.b.c0; have a3 := K.b.c1; have a4 := K.c.c0; have a5 := K.c.c1)
          | (go_at_call 40; refine (HW.out _ K.k).mono ?_; rintro e w2 ⟨rfl, hb⟩; have k9 := stepB K.k hb; clear a0 a1 a2 a3 a4 a5 hb K))
        go_ret
        exact ⟨rfl, k9⟩
end Go.Proofs.YtjjdhegkcilaiaaDoor
