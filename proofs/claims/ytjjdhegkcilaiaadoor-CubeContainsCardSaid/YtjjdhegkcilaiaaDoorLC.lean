/- The walk of the law CubeContains. -/
import Derived.Test.YtjjdhegkcilaiaaDoorLR
import Derived.Test.YtjjdhegkcilaiaaDoorDA
import Derived.Test.YtjjdhegkcilaiaaDoorQC
namespace Go.Proofs.YtjjdhegkcilaiaaDoor
open Go Go.RowKit
set_option maxRecDepth 100000
/-- Two cubes in blocks of their own; what lay in w lies as it lay. -/
structure Kit2 (w : World) (ba bb : Nat) (p q p' q' : Nat) (X : World) : Prop where
  a : Box2 X ba 42 (.int .u8 (p : Nat)) (.int .u8 (q : Nat))
  b : Box2 X bb 42 (.int .u8 (p' : Nat)) (.int .u8 (q' : Nat))
  k : Below w.heap.size w X
theorem Kit2.step {w : World} {ba bb p q p' q' : Nat} {X Y : World} (h : Kit2 w ba bb p q p' q' X) (hb : Below X.heap.size X Y) : Kit2 w ba bb p q p' q' Y :=
  ⟨h.a.below hb, h.b.below hb, stepB h.k hb⟩
/-- What the loop over the letters keeps. -/
def ConS (w : World) (ba bb : Nat) (p q p' q' : Nat) (m : List Nat) (A : Option Addr) (X : World) : Prop := Bys X A m ∧ Kit2 w ba bb p q p' q' X
theorem ConS.step {w : World} {ba bb p q p' q' : Nat} {m : List Nat} {A : Option Addr} {X Y : World} (h : ConS w ba bb p q p' q' m A X) (hb : Below X.heap.size X Y) : ConS w ba bb p q p' q' m A Y := ⟨h.1.below hb, h.2.step hb⟩
theorem ConS.cell {w : World} {ba bb p q p' q' : Nat} {m : List Nat} {ad : Addr} {X : World} (h : ConS w ba bb p q p' q' m (some ad) X) {k : Nat} (hk : k < m.length) : X.cell? (ad.add k) = some (.int .u8 (wd m k : Nat)) := by
  obtain ⟨ad', e, _, hc⟩ := h.1 k hk
  cases e
  exact hc
theorem bit_mod (x t : Nat) : ((((x : Int) / 2 ^ t).tmod 2)) = ((x / 2 ^ t % 2 : Nat) : Int) := by
  have e : ((x : Int) / 2 ^ t) = ((x / 2 ^ t : Nat) : Int) := by
    rw [Int.natCast_ediv]
    congr 1
  rw [e]; rfl


set_option maxHeartbeats 4000000 in
theorem cubeContains_walk (p q p' q' : Nat) (v : Int) (w : World) (hp : p < 256) (hq : q < 256) (hp' : p' < 256) (hq' : q' < 256) (hvb : -9223372036854775808 ≤ v ∧ v ≤ 9223372036854775807) (hT : HavT w) :
    Calls Tryd.prog 10 #[.agg #[.int .u8 p, .int .u8 q], .agg #[.int .u8 p', .int .u8 q'], .int .i64 v] w fun e w' => e = .returned (.bool true) ∧ Below w.heap.size w w' := by
  obtain ⟨v0, v1⟩ := hvb
  have HW := Lib.hid fun w' (k : Below w.heap.size w w') => awake_any w' (hT.below k)
  clear hT
  have H1 := Lib.hid fun w => Check_any p q v w hp hq
  have H2 := Lib.hid fun w => Check_any p' q' v w hp' hq'
  have K : Kit2 w w.heap.size (w.heap.size + 1) p q p' q' ((w.alloc (.cells #[.int .u8 (p : Nat), .int .u8 (q : Nat)] 42)).alloc (.cells #[.int .u8 (p' : Nat), .int .u8 (q' : Nat)] 42)) := by
    refine ⟨(Box2.new w _ _ _).alloc _, ?_, bal (bal (Below.refl _ _) _) _⟩
    have bB := Box2.new (w.alloc (.cells #[.int .u8 (p : Nat), .int .u8 (q : Nat)] 42)) 42 (.int .u8 (p' : Nat)) (.int .u8 (q' : Nat))
    rwa [World.size_alloc] at bB
  have a0 := K.a.c0
  have a1 := K.a.c1
  have a2 := K.b.c0
  have a3 := K.b.c1
  by_cases hc : chk p q v = 0
  · rw [hc] at H1
    by_cases hc2 : chk p' q' v = 0
    · rw [hc2] at H2
      obtain ⟨n, rfl, hC⟩ := chk_ok hc
      have hC2 : Cube p' q' n := cube_of hc2
      have hlt := hC.lt
      have hn := hC.1
      have h64 := pow6 hn
      have L1 := Lib.hid fun w => Letters_ok p q n w hC
      have L2 := Lib.hid fun w => Letters_ok p' q' n w hC2
      have HC := Lib.hid fun w => Covers_any p q p' q' w hp hq hp' hq'
      have HL := Lib.hid fun w => kitLetters_any n w hn
      have HN := Lib.hid (count_letters hC)
      have HA := Lib.hid (contains_all hC hC2)
      have HS : Hid (∀ i, i ≠ 0 → i < (letTo p' q' (2 ^ n)).length → wd (letTo p' q' (2 ^ n)) (i - 1) < wd (letTo p' q' (2 ^ n)) i) := fun i h0 h => letTo_asc (by omega) h
      have hl1 : (letTo p q (2 ^ n)).length ≤ 64 := Nat.le_trans (letTo_len ..) h64
      have hl2 : (letTo p' q' (2 ^ n)).length ≤ 64 := Nat.le_trans (letTo_len ..) h64
      have H8 : Hid (∀ i, wd (letTo p' q' (2 ^ n)) i < 256) := fun i => by
        unfold wd
        rw [List.getD_eq_getElem?_getD]
        cases hg : (letTo p' q' (2 ^ n))[i]? with
        | none => simp
        | some x => have := letTo_lt (List.mem_of_getElem? hg); simp; omega
      generalize letTo p q (2 ^ n) = l1 at *
      generalize letTo p' q' (2 ^ n) = m at *
      clear hc hc2 hC hC2
      go_enter Tryd.func10, Tryd.ntmps10
      go_wp2_with (first
        | (go_at_call 35; ((with_reducible refine (H1.out _).mono ?_); rintro e w2 ⟨rfl, hb⟩); replace K := K.step hb; clear a0 a1 a2 a3 hb H1; have a0 := K.a.c0; have a1 := K.a.c1; have a2 := K.b.c0; have a3 := K.b.c1)
        | (go_at_call 35; ((with_reducible refine (H2.out _).mono ?_); rintro e w2 ⟨rfl, hb⟩); replace K := K.step hb; clear a0 a1 a2 a3 hb H2; have a0 := K.a.c0; have a1 := K.a.c1; have a2 := K.b.c0; have a3 := K.b.c1)
        | (go_at_call 33; ((with_reducible refine (L1.out _).mono ?_); rintro e w2 ⟨u1, rfl, ho1, hb⟩); obtain ⟨A1, c1, rfl, hc1⟩ := own_form ho1; replace K := K.step hb; clear a0 a1 a2 a3 hb L1 ho1; have a0 := K.a.c0; have a1 := K.a.c1; have a2 := K.b.c0; have a3 := K.b.c1)
        | (go_at_call 33; ((with_reducible refine (L2.out _).mono ?_); rintro e w2 ⟨u2, rfl, ho2, hb⟩); obtain ⟨A2, c2, rfl, hc2⟩ := own_form ho2; have hm := own_bys ho2 rfl; replace K := K.step hb; clear a0 a1 a2 a3 hb L2 ho2; have a0 := K.a.c0; have a1 := K.a.c1; have a2 := K.b.c0; have a3 := K.b.c1))
      generalize w.heap.size + 1 = b2 at *
      go_loopw [11, 13] (fun al i wr => ∃ k : Nat, k ≤ m.length ∧ i = .int .i64 k ∧ al = .bool (allB (conAt p q m) k) ∧ Bys wr A2 m ∧ Kit2 w w.heap.size b2 p q p' q' wr) (fun _ i _ => m.length - (intOf i).toNat)
      case atStart => exact ⟨0, by omega, rfl, rfl, hm, K⟩
      case round =>
        clear hm K a0 a1 a2 a3
        obtain ⟨k, hk, rfl, rfl, hm, K⟩ := hrel
        by_cases hkm : k < m.length
        · have HB : Hid (allB (conAt p q m) (k + 1) = (allB (conAt p q m) k && conAt p q m k)) := rfl
          cases hall : allB (conAt p q m) k with
          | false =>
            have HB' : Hid (allB (conAt p q m) (k + 1) = false) := by show _ = _; rw [HB.out, hall]; rfl
            clear HB hall
            have a0 := K.a.c0
            have a1 := K.a.c1
            go_wp2
            go_region
            go_wp2
            go_roundw
            case rel => exact ⟨k + 1, by omega, by go_num, by rw [HB'.out], hm.below ((Below.refl _ _).drew), K.step ((Below.refl _ _).drew)⟩
            case measure => simp [intOf]; omega
          | true =>
            have HB' : Hid (allB (conAt p q m) (k + 1) = conAt p q m k) := by show _ = _; rw [HB.out, hall]; rfl
            have hmk := H8.out k
            have HH := Lib.hid fun w => Has_any p q (wd m k) w hp hq hmk
            obtain ⟨ad, rfl, _, _⟩ := hm k hkm
            have hS0 : ConS w w.heap.size b2 p q p' q' m (some ad) wr := ⟨hm, K⟩
            have f0 : ∀ r : Cls (ConS w w.heap.size b2 p q p' q' m (some ad)), r.w.cell? ⟨w.heap.size, 0, none⟩ = some (.int .u8 p) := fun r => r.h.2.a.c0
            have f1 : ∀ r : Cls (ConS w w.heap.size b2 p q p' q' m (some ad)), r.w.cell? ⟨w.heap.size, 1, none⟩ = some (.int .u8 q) := fun r => r.h.2.a.c1
            have f2 : ∀ r : Cls (ConS w w.heap.size b2 p q p' q' m (some ad)), r.w.cell? (ad.add k) = some (.int .u8 (wd m k : Nat)) := fun r => r.h.cell hkm
            clear hm K
            have hki : (k : Int) < (m.length : Int) := by omega
            haveI : Nonempty (Cls (ConS w w.heap.size b2 p q p' q' m (some ad))) := ⟨⟨wr, hS0⟩⟩
            cases hhas : cHas p q (wd m k) with
            | false =>
              rw [hhas] at HH
              have HB2 : Hid (allB (conAt p q m) (k + 1) = false) := by show _ = _; rw [HB'.out]; unfold conAt; rw [hhas]; rfl
              have f3 := trivial
              clear HB HB' hall hhas
              generalize wd m k = x at *
              go_wp2
              refine wp_region_cls (ConS w w.heap.size b2 p q p' q' m (some ad)) (by kernel_rfl) (by kernel_rfl) (hS0.step ((Below.refl _ _).drew)) ?_
              repeat (go_big_quiet_step ((go_at_call 36; rename_i r; refine (HH.out r.w).mono ?_; rintro e w3 ⟨rfl, hb3⟩; exact ⟨rfl, ⟨⟨w3, r.h.step hb3⟩, rfl⟩⟩)))
              refine wpQuiet_nil ?_
              rintro _ ⟨⟨X, hX⟩, rfl⟩
              clear f0 f1 f2 f3
              go_wp2
              go_roundw
              case rel => exact ⟨k + 1, by omega, by go_num, by rw [HB2.out], hX.1, hX.2⟩
              case measure => simp [intOf]; omega
            | true =>
              rw [hhas] at HH
              by_cases hk0 : k = 0
              · have HB2 : Hid (allB (conAt p q m) (k + 1) = true) := by show _ = _; rw [HB'.out]; unfold conAt; rw [hhas, decide_eq_true hk0]; rfl
                have hkb : ((k : Int) == 0) = true := by rw [beq_iff_eq]; omega
                have f3 := trivial
                clear HB HB' hall hhas hk0
                generalize wd m k = x at *
                go_wp2
                refine wp_region_cls (ConS w w.heap.size b2 p q p' q' m (some ad)) (by kernel_rfl) (by kernel_rfl) (hS0.step ((Below.refl _ _).drew)) ?_
                repeat (go_big_quiet_step ((go_at_call 36; rename_i r; refine (HH.out r.w).mono ?_; rintro e w3 ⟨rfl, hb3⟩; exact ⟨rfl, ⟨⟨w3, r.h.step hb3⟩, rfl⟩⟩)))
                refine wpQuiet_nil ?_
                rintro _ ⟨⟨X, hX⟩, rfl⟩
                clear f0 f1 f2 f3
                go_wp2
                go_roundw
                case rel => exact ⟨k + 1, by omega, by go_num, by rw [HB2.out], hX.1, hX.2⟩
                case measure => simp [intOf]; omega
              · have hs := HS.out k hk0 hkm
                have HB2 : Hid (allB (conAt p q m) (k + 1) = true) := by show _ = _; rw [HB'.out]; unfold conAt; rw [hhas, decide_eq_true hs]; simp
                obtain ⟨j, hj⟩ : ∃ j, j = k - 1 := ⟨_, rfl⟩
                rw [← hj] at hs
                have f3 : ∀ r : Cls (ConS w w.heap.size b2 p q p' q' m (some ad)), r.w.cell? (ad.add j) = some (.int .u8 (wd m j : Nat)) := fun r => r.h.cell (by omega)
                have hw : IntKind.i64.wrap ((k : Int) - 1) = (j : Int) := by
                  rw [IntWalk.i64_in _ (by omega)]; omega
                have hji : (j : Int) < (m.length : Int) := by omega
                have h0k : (0 : Int) < (k : Int) := by omega
                have hkb : ((k : Int) == 0) = false := by rw [beq_eq_false_iff_ne]; omega
                clear HB HB' hall hhas hj hk0
                generalize wd m k = x at *
                generalize wd m j = y at *
                go_wp2
                refine wp_region_cls (ConS w w.heap.size b2 p q p' q' m (some ad)) (by kernel_rfl) (by kernel_rfl) (hS0.step ((Below.refl _ _).drew)) ?_
                repeat (go_big_quiet_step ((go_at_call 36; rename_i r; refine (HH.out r.w).mono ?_; rintro e w3 ⟨rfl, hb3⟩; exact ⟨rfl, ⟨⟨w3, r.h.step hb3⟩, rfl⟩⟩)))
                refine wpQuiet_nil ?_
                rintro _ ⟨⟨X, hX⟩, rfl⟩
                clear f0 f1 f2 f3
                go_wp2
                go_roundw
                case rel => exact ⟨k + 1, by omega, by go_num, by rw [HB2.out], hX.1, hX.2⟩
                case measure => simp [intOf]; omega
        · obtain rfl : k = m.length := by omega
          rw [HA.out]
          have a0 := K.a.c0
          have a1 := K.a.c1
          have a2 := K.b.c0
          have a3 := K.b.c1
          have t1 : bits .or .u8 (p : Int) (q : Int) = ((p ||| q : Nat) : Int) := u8_or_nat _ _ hp hq
          go_wp2
          go_loop [12, 14] (fun n i => ∃ j : Nat, j ≤ 8 ∧ i = .int .i64 j ∧ n = .int .i64 (litN (p ||| q) j : Nat)) (fun _ i => 8 - (intOf i).toNat)
          case atStart => exact ⟨0, by omega, rfl, rfl⟩
          case round =>
            obtain ⟨j, hj, rfl, rfl⟩ := hrel
            by_cases hj8 : j < 8
            · have t2 := bit_mod (p ||| q) j
              have hle := litN_le (p ||| q) j
              have HT : Hid (litN (p ||| q) (j + 1) = litN (p ||| q) j + (p ||| q) / 2 ^ j % 2) := rfl
              have hb2 : (p ||| q) / 2 ^ j % 2 < 2 := Nat.mod_lt _ (by decide)
              go_wp2
              go_round
              case rel => exact ⟨j + 1, by omega, by go_num, by rw [HT.out, Int.natCast_add]; rfl⟩
              case measure => simp [intOf]; omega
            · obtain rfl : j = 8 := by omega
              have hle := litN_le (p ||| q) 8
              have hw : wrap64 ((l1.length : Int) * 2 ^ litN (p ||| q) 8) = 2 ^ n := by
                have h1 := HN.out
                have h2 : ((l1.length : Int) * 2 ^ litN (p ||| q) 8) = (2 : Int) ^ n := by exact_mod_cast h1
                rw [h2, shl64 hn]
                exact_mod_cast rfl
              go_wp2_with (first
                | (go_at_call 43; ((with_reducible refine (HC.out _).mono ?_); rintro e w2 ⟨rfl, hb⟩); replace K := K.step hb; clear a0 a1 a2 a3 hb)
                | (go_at_call 51; ((with_reducible refine (HL.out _).mono ?_); rintro e w2 ⟨rfl, rfl⟩))
                | (go_at_call 40; refine (HW.out _ K.k).mono ?_; rintro e w2 ⟨rfl, hb⟩; have k9 := stepB K.k hb; clear hb K))
              exact bodyPost_ret (v := .bool true) (by simp [results, Tryd.f10, go_sem]) rfl ⟨rfl, k9⟩
    · have hne : (chk p' q' v != 0) = true := by rw [bne_iff_ne]; exact hc2
      generalize chk p' q' v = c2 at *
      clear hc hc2
      go_enter Tryd.func10, Tryd.ntmps10
      go_wp2_with (first
        | (go_at_call 35; ((with_reducible refine (H1.out _).mono ?_); rintro e w2 ⟨rfl, hb⟩); replace K := K.step hb; clear a0 a1 a2 a3 hb H1; have a0 := K.a.c0; have a1 := K.a.c1; have a2 := K.b.c0; have a3 := K.b.c1)
        | (go_at_call 35; ((with_reducible refine (H2.out _).mono ?_); rintro e w2 ⟨rfl, hb⟩); replace K := K.step hb; clear a0 a1 a2 a3 hb H2; have a0 := K.a.c0; have a1 := K.a.c1; have a2 := K.b.c0; have a3 := K.b.c1)
        | (go_at_call 40; refine (HW.out _ K.k).mono ?_; rintro e w2 ⟨rfl, hb⟩; have k9 := stepB K.k hb; clear a0 a1 a2 a3 hb K))
      go_ret
      exact ⟨rfl, k9⟩
  · have hne : (chk p q v != 0) = true := by rw [bne_iff_ne]; exact hc
    generalize chk p q v = c1 at *
    clear hc
    go_enter Tryd.func10, Tryd.ntmps10
    go_wp2_with (first
      | (go_at_call 35; ((with_reducible refine (H1.out _).mono ?_); rintro e w2 ⟨rfl, hb⟩); replace K := K.step hb; clear a0 a1 a2 a3 hb H1; have a0 := K.a.c0; have a1 := K.a.c1; have a2 := K.b.c0; have a3 := K.b.c1)
      | (go_at_call 40; refine (HW.out _ K.k).mono ?_; rintro e w2 ⟨rfl, hb⟩; have k9 := stepB K.k hb; clear a0 a1 a2 a3 hb K))
    go_ret
    exact ⟨rfl, k9⟩
end Go.Proofs.YtjjdhegkcilaiaaDoor
