/- The walk of the law CubeCover. -/
import Derived.Test.YtjjdhegkcilaiaaDoorDE
import Derived.Test.YtjjdhegkcilaiaaDoorCO
import Derived.Test.YtjjdhegkcilaiaaDoorLR
namespace Go.Proofs.YtjjdhegkcilaiaaDoor
open Go Go.RowKit
set_option maxRecDepth 100000
/-- What the rounds keep: the copy, the wanted cubes. -/
def CovS (w : World) (A5 Aw : Option Addr) (l : List Nat) (L : List (Nat × Nat)) (X : World) : Prop := Bys X A5 l ∧ Cubs X Aw L ∧ Below w.heap.size w X
theorem CovS.step {w : World} {A5 Aw : Option Addr} {l : List Nat} {L : List (Nat × Nat)} {X Y : World} (h : CovS w A5 Aw l L X) (hb : Below X.heap.size X Y) : CovS w A5 Aw l L Y := ⟨h.1.below hb, h.2.1.below hb, stepB h.2.2 hb⟩
/-- Each of the n cubes at A may be overwritten; they lie in no block below B. -/
def CanC (B : Nat) (X : World) (A : Option Addr) (n : Nat) : Prop :=
  ∀ j, j < n → ∃ g, A = some ⟨g, 0, none⟩ ∧ B ≤ g ∧ X.frozen? ⟨g, j * 2, none⟩ = false ∧ X.frozen? ⟨g, j * 2 + 1, none⟩ = false ∧ (∃ u, X.cell? ⟨g, j * 2, none⟩ = some u) ∧ ∃ u, X.cell? ⟨g, j * 2 + 1, none⟩ = some u
theorem cell_set {X : World} {a p : Addr} {v : Value} (h : ∃ u, X.cell? a = some u) : ∃ u, (X.setCell p v).cell? a = some u := by
  obtain ⟨u, h⟩ := h
  by_cases e : p = a
  · subst e; exact ⟨v, World.cell?_setCell_same _ _ _ h⟩
  · exact ⟨u, by rw [World.cell?_setCell_other _ _ _ _ e]; exact h⟩
theorem CanC.set {B : Nat} {X : World} {A : Option Addr} {n : Nat} (h : CanC B X A n) (p : Addr) (v : Value) : CanC B (X.setCell p v) A n := by
  intro j hj
  obtain ⟨g, e, h1, h2, h3, h4, h5⟩ := h j hj
  exact ⟨g, e, h1, by rw [World.frozen?_setCell]; exact h2, by rw [World.frozen?_setCell]; exact h3, cell_set h4, cell_set h5⟩
theorem CanC.own {B : Nat} {X : World} {e n c : Nat} {A : Option Addr} {xs : List Value} (h : X.ownsRow B e 2 (.slice A n c) n xs) : CanC B X A n := by
  intro j hj
  obtain ⟨g, c', hv, hg⟩ := own_some' h (by omega)
  injection hv with hA _ hc
  subst hA hc
  have hx : xs.length = n * 2 := h.1
  refine ⟨g, rfl, hg, h.frozenAt _, h.frozenAt _, ⟨xs[j * 2], ?_⟩, ⟨xs[j * 2 + 1], ?_⟩⟩
  · rw [h.cellAt _ (by omega), List.getElem?_eq_getElem (by omega)]
  · rw [h.cellAt _ (by omega), List.getElem?_eq_getElem (by omega)]
set_option maxHeartbeats 4000000 in
theorem cubeCover_gen (A : Option Addr) (l : List Nat) (c : Nat) (v : Int) (w : World) (L : List (Nat × Nat)) (N : Nat) (code : Int) (hx : Bys w A l) (h100 : l.length ≤ 100) (hN : N = L.length) (hNl : N ≤ 4096) (hT : HavT w) (hg : v ≤ 3 ∨ 6 < v)
    (HCov : ∀ A c X, Bys X A l → HavT X → Calls Tryd.prog 47 #[.slice A l.length c, .int .i64 v] X fun e X' => ∃ A' c', e = .returned (.tuple #[.slice A' N c', .int .i64 code]) ∧ X'.ownsRow X.heap.size 42 2 (.slice A' N c') N (cvs L) ∧ Below X.heap.size X X')
    (HRef : ∀ X, Bys X A l → Calls Tryd.prog 46 #[.slice A l.length c, .int .i64 v] X fun e X' => ∃ A' c', e = .returned (.tuple #[.slice A' N c', .int .i64 code]) ∧ Cubs X' A' L ∧ Below X.heap.size X X') :
    Calls Tryd.prog 6 #[.slice A l.length c, .int .i64 v] w fun e w' => e = .returned (.bool true) ∧ Below w.heap.size w w' := by
  have HW := Lib.hid fun w' (k : Below w.heap.size w w') => awake_any w' (hT.below k)
  replace HCov := Lib.hid HCov
  replace HRef := Lib.hid HRef
  have HCp := Lib.hid (CopyBytes_any A l c w hx (by omega))
  have HEq : Hid (∀ A B c d w, Bys w A l → Bys w B l → Calls Tryd.prog 38 #[.slice A l.length c, .slice B l.length d] w fun e w' => e = .returned (.bool true) ∧ Below w.heap.size w w') := fun A B c d w ha hb => by
    refine (EqualBytes_any A B _ _ c d w ha hb (by unfold maxLen; omega)).mono ?_
    rintro e w' ⟨rfl, m, rfl⟩
    exact ⟨by rw [decide_eq_true rfl], drewN_below _ _⟩
  have HSm : Hid (∀ A B c d w, Cubs w A L → Cubs w B L → Calls Tryd.prog 48 #[.slice A N c, .slice B N d] w fun e w' => e = .returned (.bool true) ∧ Below w.heap.size w w') := fun A B c d w ha hb => by
    have := refSame_any A B L L c d w ha hb (by omega)
    rw [← hN] at this
    refine this.mono ?_
    rintro e w' ⟨rfl, m, rfl⟩
    exact ⟨by rw [decide_eq_true rfl], drewN_below _ _⟩
  have HN := Lib.hid hN
  clear hN
  rcases hg with hg | hg
  · have hg2 : decide (3 < v) = false := decide_eq_false (by omega)
    clear hg
    go_enter Tryd.func6, Tryd.ntmps6
    go_wp2_with (first
      | (go_at_call 45; ((with_reducible refine HCp.out.mono ?_); rintro e w1 ⟨A5, c5, rfl, ho1, _, hb1⟩); have hin1 := own_bys ho1 rfl; clear ho1)
      | (go_at_call 46; ((with_reducible refine (HRef.out _ (hx.below hb1)).mono ?_); rintro e w2 ⟨Aw, cw, rfl, hcw, hb2⟩); have S0 : CovS w A5 Aw l L w2 := ⟨hin1.below hb2, hcw, stepB hb1 hb2⟩; clear hin1 hb1 hb2 hcw))
    go_loopw [8] (fun i wr => ∃ k : Nat, k ≤ 2 ∧ i = .int .i64 k ∧ CovS w A5 Aw l L wr) (fun i _ => 2 - (intOf i).toNat)
    case atStart => exact ⟨0, by omega, rfl, S0⟩
    case round =>
      clear S0
      obtain ⟨k, hk, rfl, S0⟩ := hrel
      by_cases hk2 : k < 2
      · obtain ⟨r0, hr0⟩ : ∃ r0, r0 = wr.heap.size := ⟨_, rfl⟩
        have HR0 := Lib.hid hr0
        have HS := Lib.hid S0
        have hA1 : Bys wr A5 l := S0.1
        have hA2 : Cubs wr Aw L := S0.2.1
        have hA3 : Below w.heap.size w wr := S0.2.2
        have hA4 : HavT wr := hT.below hA3
        clear hr0
        go_wp2_with (first
          | (go_at_call 47; ((with_reducible refine (HCov.out _ _ _ hA1 hA4).mono ?_); rintro e w4 ⟨A9, c9, rfl, ho, hb4⟩); have hcu := own_cubs ho HN.out; have hb5 := hb4)
          | (go_at_call 48; ((with_reducible refine (HSm.out _ _ _ _ _ hcu (hA2.below hb5)).mono ?_); rintro e w5 ⟨rfl, hbx⟩); have ho5 := ho.below hbx; have hb6 := stepB hb5 hbx)
          | (go_at_call 38; ((with_reducible refine (HEq.out _ _ _ _ _ (hA1.below hb6) (hx.below (stepB hA3 hb6))).mono ?_); rintro e w6 ⟨rfl, hby⟩); have ho6 := ho5.below hby; have hb7 := stepB hb6 hby))
        rw [← HR0.out] at ho6 hb7
        have hcan : CanC r0 w6 A9 N := CanC.own ho6
        clear ho ho5 ho6 hcu hb4 hb5 hb6 hbx hby S0 hA1 hA2 hA3 hA4
        go_loopw [11] (fun i wx => ∃ j : Nat, j ≤ N ∧ i = .int .i64 j ∧ CanC r0 wx A9 N ∧ Below r0 wr wx) (fun i _ => N - (intOf i).toNat)
        case atStart => exact ⟨0, by omega, rfl, hcan, hb7⟩
        case round =>
          clear hcan hb7
          obtain ⟨j, hj, rfl, hcan, hb7⟩ := hrel
          by_cases hjN : j < N
          · obtain ⟨g, rfl, hg, z0, z1, ⟨u0, x0⟩, ⟨u1, x1⟩⟩ := hcan j hjN
            have hcan2 := (hcan.set ⟨g, j * 2, none⟩ (.int .u8 255)).set ⟨g, j * 2 + 1, none⟩ (.int .u8 0)
            have hb8 := (Below.setCell hb7 (p := ⟨g, j * 2, none⟩) hg (.int .u8 255)).setCell (p := ⟨g, j * 2 + 1, none⟩) hg (.int .u8 0)
            clear hcan hb7
            go_wp2
            go_roundw
            case rel => exact ⟨j + 1, by omega, by go_num, hcan2, hb8⟩
            case measure => simp [intOf]; omega
          · obtain rfl : j = N := by omega
            rw [HR0.out] at hb7
            go_wp2
            go_roundw
            case rel => exact ⟨k + 1, by omega, by go_num, HS.out.step hb7⟩
            case measure => simp [intOf]; omega
      · obtain rfl : k = 2 := by omega
        go_wp2_with (go_at_call 40; refine (HW.out _ S0.2.2).mono ?_; rintro e w2 ⟨rfl, hb⟩; have k9 := stepB S0.2.2 hb)
        exact bodyPost_ret (v := .bool true) (by simp [results, Tryd.f6, go_sem]) rfl ⟨rfl, k9⟩
  · have hg2 : decide (3 < v) = true := decide_eq_true (by omega)
    have hg3 : decide (v ≤ 6) = false := decide_eq_false (by omega)
    clear hg
    go_enter Tryd.func6, Tryd.ntmps6
    go_wp2_with (first
      | (go_at_call 45; ((with_reducible refine HCp.out.mono ?_); rintro e w1 ⟨A5, c5, rfl, ho1, _, hb1⟩); have hin1 := own_bys ho1 rfl; clear ho1)
      | (go_at_call 46; ((with_reducible refine (HRef.out _ (hx.below hb1)).mono ?_); rintro e w2 ⟨Aw, cw, rfl, hcw, hb2⟩); have S0 : CovS w A5 Aw l L w2 := ⟨hin1.below hb2, hcw, stepB hb1 hb2⟩; clear hin1 hb1 hb2 hcw))
    go_loopw [8] (fun i wr => ∃ k : Nat, k ≤ 2 ∧ i = .int .i64 k ∧ CovS w A5 Aw l L wr) (fun i _ => 2 - (intOf i).toNat)
    case atStart => exact ⟨0, by omega, rfl, S0⟩
    case round =>
      clear S0
      obtain ⟨k, hk, rfl, S0⟩ := hrel
      by_cases hk2 : k < 2
      · obtain ⟨r0, hr0⟩ : ∃ r0, r0 = wr.heap.size := ⟨_, rfl⟩
        have HR0 := Lib.hid hr0
        have HS := Lib.hid S0
        have hA1 : Bys wr A5 l := S0.1
        have hA2 : Cubs wr Aw L := S0.2.1
        have hA3 : Below w.heap.size w wr := S0.2.2
        have hA4 : HavT wr := hT.below hA3
        clear hr0
        go_wp2_with (first
          | (go_at_call 47; ((with_reducible refine (HCov.out _ _ _ hA1 hA4).mono ?_); rintro e w4 ⟨A9, c9, rfl, ho, hb4⟩); have hcu := own_cubs ho HN.out; have hb5 := hb4)
          | (go_at_call 48; ((with_reducible refine (HSm.out _ _ _ _ _ hcu (hA2.below hb5)).mono ?_); rintro e w5 ⟨rfl, hbx⟩); have ho5 := ho.below hbx; have hb6 := stepB hb5 hbx)
          | (go_at_call 38; ((with_reducible refine (HEq.out _ _ _ _ _ (hA1.below hb6) (hx.below (stepB hA3 hb6))).mono ?_); rintro e w6 ⟨rfl, hby⟩); have ho6 := ho5.below hby; have hb7 := stepB hb6 hby))
        rw [← HR0.out] at ho6 hb7
        have hcan : CanC r0 w6 A9 N := CanC.own ho6
        clear ho ho5 ho6 hcu hb4 hb5 hb6 hbx hby S0 hA1 hA2 hA3 hA4
        go_loopw [11] (fun i wx => ∃ j : Nat, j ≤ N ∧ i = .int .i64 j ∧ CanC r0 wx A9 N ∧ Below r0 wr wx) (fun i _ => N - (intOf i).toNat)
        case atStart => exact ⟨0, by omega, rfl, hcan, hb7⟩
        case round =>
          clear hcan hb7
          obtain ⟨j, hj, rfl, hcan, hb7⟩ := hrel
          by_cases hjN : j < N
          · obtain ⟨g, rfl, hg, z0, z1, ⟨u0, x0⟩, ⟨u1, x1⟩⟩ := hcan j hjN
            have hcan2 := (hcan.set ⟨g, j * 2, none⟩ (.int .u8 255)).set ⟨g, j * 2 + 1, none⟩ (.int .u8 0)
            have hb8 := (Below.setCell hb7 (p := ⟨g, j * 2, none⟩) hg (.int .u8 255)).setCell (p := ⟨g, j * 2 + 1, none⟩) hg (.int .u8 0)
            clear hcan hb7
            go_wp2
            go_roundw
            case rel => exact ⟨j + 1, by omega, by go_num, hcan2, hb8⟩
            case measure => simp [intOf]; omega
          · obtain rfl : j = N := by omega
            rw [HR0.out] at hb7
            go_wp2
            go_roundw
            case rel => exact ⟨k + 1, by omega, by go_num, HS.out.step hb7⟩
            case measure => simp [intOf]; omega
      · obtain rfl : k = 2 := by omega
        go_wp2_with (go_at_call 40; refine (HW.out _ S0.2.2).mono ?_; rintro e w2 ⟨rfl, hb⟩; have k9 := stepB S0.2.2 hb)
        exact bodyPost_ret (v := .bool true) (by simp [results, Tryd.f6, go_sem]) rfl ⟨rfl, k9⟩
theorem cover_len2 {l : List Nat} {v : Nat} (hv : v ≤ 6) : (coverL l v).length ≤ 4096 :=
  Nat.le_trans (List.length_filter_le _ _) (Nat.le_trans (cubesTo_len v _) (Nat.le_trans (Nat.mul_le_mul (pow6 hv) (pow6 hv)) (by decide)))
set_option maxHeartbeats 1000000 in
theorem cubeCover_walk (A : Option Addr) (l : List Nat) (c : Nat) (v : Int) (w : World) (hx : Bys w A l) (h8 : B8 l) (hl : l.length ≤ maxLen) (hvb : -9223372036854775808 ≤ v ∧ v ≤ 9223372036854775807) (hT : HavT w) :
    Calls Tryd.prog 6 #[.slice A l.length c, .int .i64 v] w fun e w' => e = .returned (.bool true) ∧ Below w.heap.size w w' := by
  unfold maxLen at hl
  obtain ⟨v0, v1⟩ := hvb
  have HW := Lib.hid fun w' (k : Below w.heap.size w w') => awake_any w' (hT.below k)
  by_cases h100 : 100 < l.length
  · go_enter Tryd.func6, Tryd.ntmps6
    go_wp2_with (go_at_call 40; refine (HW.out _ (Below.refl _ _)).mono ?_; rintro e w2 ⟨rfl, hb⟩)
    exact bodyPost_ret (v := .bool true) (by simp [results, Tryd.f6, go_sem]) rfl ⟨rfl, hb⟩
  · by_cases hm : 3 < v ∧ v ≤ 6
    · obtain ⟨m1, m2⟩ := hm
      go_enter Tryd.func6, Tryd.ntmps6
      go_wp2_with (go_at_call 40; refine (HW.out _ (Below.refl _ _)).mono ?_; rintro e w2 ⟨rfl, hb⟩)
      exact bodyPost_ret (v := .bool true) (by simp [results, Tryd.f6, go_sem]) rfl ⟨rfl, hb⟩
    · have hg : v ≤ 3 ∨ 6 < v := by omega
      have hl6 : l.length ≤ 1000000 := by omega
      by_cases hv : 0 ≤ v ∧ v ≤ 6
      · obtain ⟨n, rfl⟩ : ∃ n : Nat, v = n := ⟨v.toNat, by omega⟩
        have hn : n ≤ 6 := by omega
        cases ha : ascL l n with
        | true =>
          refine cubeCover_gen A l c n w (coverL l n) (coverL l n).length 0 hx (by omega) rfl (cover_len2 hn) hT hg (fun A c X hx hT => ?_) (fun X hx => ?_)
          · refine (Cover_ok A l c n X hn hx h8 hl6 hT ha).mono ?_
            rintro e w' ⟨u, rfl, ho, hb⟩
            obtain ⟨A', c', rfl, _⟩ := own_form ho
            exact ⟨A', c', rfl, ho, hb⟩
          · refine (refCover_ok A l c n X hn hx h8 hl6 ha).mono ?_
            rintro e w' ⟨u, rfl, ho, hb⟩
            obtain ⟨A', c', rfl, _⟩ := own_form ho
            exact ⟨A', c', rfl, own_cubs ho rfl, hb⟩
        | false =>
          refine cubeCover_gen A l c n w [] 0 1 hx (by omega) rfl (by omega) hT hg (fun A c X hx hT => ?_) (fun X hx => ?_)
          · refine (Cover_arg A l c n X hn hx h8 hl6 ha).mono ?_
            rintro e w' ⟨rfl, hb⟩
            exact ⟨none, 0, rfl, ⟨rfl, .inl ⟨rfl, rfl⟩⟩, hb⟩
          · refine (refCover_arg A l c n X hn hx h8 hl6 ha).mono ?_
            rintro e w' ⟨rfl, hb⟩
            exact ⟨none, 0, rfl, fun j h => absurd h (by simp), hb⟩
      · refine cubeCover_gen A l c v w [] 0 7 hx (by omega) rfl (by omega) hT hg (fun A c X hx hT => ?_) (fun X hx => ?_)
        · refine (Cover_vars A l.length c v X hv).mono ?_
          rintro e w' ⟨rfl, hb⟩
          exact ⟨none, 0, rfl, ⟨rfl, .inl ⟨rfl, rfl⟩⟩, hb⟩
        · refine (refCover_vars A l.length c v X hv).mono ?_
          rintro e w' ⟨rfl, hb⟩
          exact ⟨none, 0, rfl, fun j h => absurd h (by simp), hb⟩
end Go.Proofs.YtjjdhegkcilaiaaDoor
