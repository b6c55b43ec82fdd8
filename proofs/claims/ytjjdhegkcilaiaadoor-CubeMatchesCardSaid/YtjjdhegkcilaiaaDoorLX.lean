/- The walk of the law CubeMatches. -/
import Derived.Test.YtjjdhegkcilaiaaDoorDL
import Derived.Test.YtjjdhegkcilaiaaDoorLR
import Derived.Test.YtjjdhegkcilaiaaDoorQC
namespace Go.Proofs.YtjjdhegkcilaiaaDoor
open Go Go.RowKit
set_option maxRecDepth 100000
/-- What a round keeps, up to the comparison. -/
def MatS (wr : World) (r0 : Nat) (A : Option Addr) (N c : Nat) (l : List Nat) (X : World) : Prop := Below r0 wr X ∧ X.ownsRow r0 5 1 (.slice A N c) N (bvs l) ∧ r0 = wr.heap.size
theorem MatS.step {wr : World} {r0 : Nat} {A : Option Addr} {N c : Nat} {l : List Nat} {X Y : World} (h : MatS wr r0 A N c l X) (hb : Below X.heap.size X Y) : MatS wr r0 A N c l Y :=
  ⟨h.1.trans (hb.mono (by have := h.1.size; have := h.2.2; omega)), h.2.1.below hb, h.2.2⟩
set_option maxHeartbeats 4000000 in
theorem cubeMatches_walk (p q x : Nat) (v : Int) (w : World) (hp : p < 256) (hq : q < 256) (hx : x < 256) (hvb : -9223372036854775808 ≤ v ∧ v ≤ 9223372036854775807) (hT : HavT w) :
    Calls Tryd.prog 4 #[.agg #[.int .u8 p, .int .u8 q], .int .u8 x, .int .i64 v] w fun e w' => e = .returned (.bool true) ∧ Below w.heap.size w w' := by
  obtain ⟨v0, v1⟩ := hvb
  have HW := Lib.hid fun w' (k : Below w.heap.size w w') => awake_any w' (hT.below k)
  clear hT
  have HC := Lib.hid fun w => Check_any p q v w hp hq
  have HC2 := Lib.hid fun w => refCheck_any p q v w hp hq
  have HH := Lib.hid fun w => Has_any p q x w hp hq hx
  have HR := Lib.hid fun w => refHas_any p q x w hp hq hx
  generalize cHas p q x = hh at *
  have K : Kit1 w w.heap.size p q (w.alloc (.cells #[.int .u8 (p : Nat), .int .u8 (q : Nat)] 42)) := ⟨Box2.new w _ _ _, bal (Below.refl _ _) _⟩
  have a0 := K.c.c0
  have a1 := K.c.c1
  by_cases hc : chk p q v = 0
  · obtain ⟨n, rfl, hC⟩ := chk_ok hc
    rw [hc] at HC HC2
    have hl64 : (letTo p q (2 ^ n)).length ≤ 64 := Nat.le_trans (letTo_len ..) (pow6 hC.1)
    have L2 := Lib.hid fun w => refLetters_ok p q n w hC
    have HF := Lib.hid fun w => Format_ok p q n w hC
    have HF2 := Lib.hid fun w => refFormat_ok p q n w hC
    have HE : Hid (∀ A B c d w, Bys w A (letTo p q (2 ^ n)) → Bys w B (letTo p q (2 ^ n)) → Calls Tryd.prog 38 #[.slice A (letTo p q (2 ^ n)).length c, .slice B (letTo p q (2 ^ n)).length d] w fun e w' => e = .returned (.bool true) ∧ Below w.heap.size w w') := fun A B c d w ha hb => by
      refine (EqualBytes_any A B _ _ c d w ha hb (by unfold maxLen; omega)).mono ?_
      rintro e w' ⟨rfl, m, rfl⟩
      exact ⟨by rw [decide_eq_true rfl], drewN_below _ _⟩
    have L : Hid (∀ w, Calls Tryd.prog 33 #[.agg #[.int .u8 p, .int .u8 q], .int .i64 n] w fun e w' =>
        ∃ A c, e = .returned (.tuple #[.slice A (letTo p q (2 ^ n)).length c, .int .i64 0]) ∧ w'.ownsRow w.heap.size 5 1 (.slice A (letTo p q (2 ^ n)).length c) (letTo p q (2 ^ n)).length (bvs (letTo p q (2 ^ n))) ∧ Below w.heap.size w w') := fun w => by
      refine (Letters_ok p q n w hC).mono ?_
      rintro e w' ⟨u, rfl, ho, hb⟩
      obtain ⟨A, c, rfl, _⟩ := own_form ho
      exact ⟨A, c, rfl, ho, hb⟩
    generalize hl : letTo p q (2 ^ n) = l at *
    obtain ⟨NN, hNN⟩ : ∃ NN, NN = l.length := ⟨_, rfl⟩
    rw [← hNN] at hl64 L L2 HE
    have HNN := Lib.hid hNN
    generalize (⟨(fmtT p q).toArray⟩ : ByteArray) = t at *
    clear hl hc hC hNN
    go_enter Tryd.func4, Tryd.ntmps4
    go_wp2_with (first
      | (go_at_call 30; ((with_reducible refine (HC2.out _).mono ?_); rintro e w2 ⟨rfl, hb⟩); replace K := K.step hb; clear a0 a1 hb; have a0 := K.c.c0; have a1 := K.c.c1)
      | (go_at_call 31; ((with_reducible refine (L2.out _).mono ?_); rintro e w2 ⟨u, rfl, ho, hb⟩); obtain ⟨Aw, cw, rfl, _⟩ := own_form ho; have hW := own_bys ho HNN.out; replace K := K.step hb; clear a0 a1 hb ho; have a0 := K.c.c0; have a1 := K.c.c1)
      | (go_at_call 32; ((with_reducible refine (HF2.out _).mono ?_); rintro e w2 ⟨rfl, hb⟩); replace hW := hW.below hb; replace K := K.step hb; clear a0 a1 hb; have a0 := K.c.c0; have a1 := K.c.c1))
    go_loopw [11] (fun i wr => ∃ k : Nat, k ≤ 2 ∧ i = .int .i64 k ∧ Kit1 w w.heap.size p q wr ∧ Bys wr Aw l) (fun i _ => 2 - (intOf i).toNat)
    case atStart => exact ⟨0, by omega, rfl, K, hW⟩
    case round =>
      clear K hW a0 a1
      obtain ⟨k, hk, rfl, K, hW⟩ := hrel
      have a0 := K.c.c0
      have a1 := K.c.c1
      by_cases hk2 : k < 2
      · have K0 := Lib.hid K
        have hW0 := Lib.hid hW
        clear hW
        obtain ⟨r0, hr0⟩ : ∃ r0, r0 = wr.heap.size := ⟨_, rfl⟩
        go_wp2_with (first
          | (go_at_call 33; ((with_reducible refine (L.out _).mono ?_); rintro e w2 ⟨A1, c1, rfl, ho, hb⟩); replace K := K.step hb; have hx2 := hb; clear a0 a1 hb; have a0 := K.c.c0; have a1 := K.c.c1)
          | (go_at_call 34; ((with_reducible refine (HF.out _).mono ?_); rintro e w3 ⟨rfl, hb⟩); replace ho := ho.below hb; have hx3 := stepB hx2 hb; clear a0 a1 hb hx2))
        rw [← hr0] at ho hx3
        have hS0 : MatS wr r0 A1 NN c1 l w3 := ⟨hx3, ho, hr0⟩
        have HR0 := Lib.hid hr0
        clear hr0
        clear ho hx3 K
        have f0 : ∀ r : Cls (MatS wr r0 A1 NN c1 l), r.w.cell? ⟨w.heap.size, 0, none⟩ = some (.int .u8 p) := fun r => (K0.out.c.below (by rw [← HR0.out]; exact r.h.1)).c0
        have f1 : ∀ r : Cls (MatS wr r0 A1 NN c1 l), r.w.cell? ⟨w.heap.size, 1, none⟩ = some (.int .u8 q) := fun r => (K0.out.c.below (by rw [← HR0.out]; exact r.h.1)).c1
        haveI : Nonempty (Cls (MatS wr r0 A1 NN c1 l)) := ⟨⟨w3, hS0⟩⟩
        refine wp_region_cls (MatS wr r0 A1 NN c1 l) (by kernel_rfl) (by kernel_rfl) (hS0.step ((Below.refl _ _).drew)) ?_
        repeat (go_big_quiet_step (first
          | (go_at_call 35; rename_i r; refine (HC.out r.w).mono ?_; rintro e w4 ⟨rfl, hb4⟩; exact ⟨rfl, ⟨⟨w4, r.h.step hb4⟩, rfl⟩⟩)
          | (go_at_call 36; rename_i r; refine (HH.out r.w).mono ?_; rintro e w4 ⟨rfl, hb4⟩; exact ⟨rfl, ⟨⟨w4, r.h.step hb4⟩, rfl⟩⟩)
          | (go_at_call 37; rename_i r; refine (HR.out r.w).mono ?_; rintro e w4 ⟨rfl, hb4⟩; exact ⟨rfl, ⟨⟨w4, r.h.step hb4⟩, rfl⟩⟩)
          | (go_at_call 38; rename_i r; refine (HE.out _ _ _ _ r.w (own_bys r.h.2.1 HNN.out) (hW0.out.below (by rw [← HR0.out]; exact r.h.1))).mono ?_; rintro e w4 ⟨rfl, hb4⟩; exact ⟨rfl, ⟨⟨w4, r.h.step hb4⟩, rfl⟩⟩)))
        refine wpQuiet_nil ?_
        rintro _ ⟨r, rfl⟩; have hX := r.h; clear f0 f1; generalize r.w = X at hX ⊢; clear r
        clear hS0
        go_wp2_with (go_at_call 39; refine (OverBytes_any r0 A1 NN c1 X (by omega) (CanB.own hX.2.1)).mono ?_; rintro e w5 ⟨rfl, hb5⟩)
        go_roundw
        case rel =>
          have hb6 : Below wr.heap.size wr w5 := by rw [← HR0.out]; exact hX.1.trans hb5
          exact ⟨k + 1, by omega, by go_num, K0.out.step hb6, hW0.out.below hb6⟩
        case measure => simp [intOf]; omega
      · obtain rfl : k = 2 := by omega
        go_wp2_with (go_at_call 40; refine (HW.out _ K.k).mono ?_; rintro e w2 ⟨rfl, hb⟩; have k9 := stepB K.k hb; clear a0 a1 hb)
        exact bodyPost_ret (v := .bool true) (by simp [results, Tryd.f4, go_sem]) rfl ⟨rfl, k9⟩
  · have hne : (chk p q v == 0) = false := beq_eq_false_iff_ne.2 hc
    have HF := Lib.hid fun w => Format_no p q v w hp hq hc
    have HF2 := Lib.hid fun w => refFormat_no p q v w hp hq hc
    have HE : Hid (∀ A B c d w, Bys w A [] → Bys w B [] → Calls Tryd.prog 38 #[.slice A 0 c, .slice B 0 d] w fun e w' => e = .returned (.bool true) ∧ Below w.heap.size w w') := fun A B c d w ha hb => by
      refine (EqualBytes_any A B [] [] c d w ha hb (by simp)).mono ?_
      rintro e w' ⟨rfl, m, rfl⟩
      exact ⟨by simp, drewN_below _ _⟩
    have L : Hid (∀ w, Calls Tryd.prog 33 #[.agg #[.int .u8 p, .int .u8 q], .int .i64 v] w fun e w' =>
        ∃ A c, e = .returned (.tuple #[.slice A 0 c, .int .i64 (chk p q v)]) ∧ w'.ownsRow w.heap.size 5 1 (.slice A 0 c) 0 (bvs []) ∧ Below w.heap.size w w') := fun w => by
      refine (Letters_no p q v w hp hq hc).mono ?_
      rintro e w' ⟨rfl, hb⟩
      exact ⟨none, 0, rfl, ⟨rfl, .inl ⟨rfl, rfl⟩⟩, hb⟩
    generalize chk p q v = cc at *
    clear hc
    go_enter Tryd.func4, Tryd.ntmps4
    go_wp2_with (first
      | (go_at_call 30; ((with_reducible refine (HC2.out _).mono ?_); rintro e w2 ⟨rfl, hb⟩); replace K := K.step hb; clear a0 a1 hb; have a0 := K.c.c0; have a1 := K.c.c1)
      | (go_at_call 32; ((with_reducible refine (HF2.out _).mono ?_); rintro e w2 ⟨rfl, hb⟩); replace K := K.step hb; have hW : Bys w2 none [] := (fun j h => absurd h (by simp)); clear a0 a1 hb; have a0 := K.c.c0; have a1 := K.c.c1))
    go_loopw [11] (fun i wr => ∃ k : Nat, k ≤ 2 ∧ i = .int .i64 k ∧ Kit1 w w.heap.size p q wr ∧ Bys wr none []) (fun i _ => 2 - (intOf i).toNat)
    case atStart => exact ⟨0, by omega, rfl, K, hW⟩
    case round =>
      clear K hW a0 a1
      obtain ⟨k, hk, rfl, K, hW⟩ := hrel
      have a0 := K.c.c0
      have a1 := K.c.c1
      by_cases hk2 : k < 2
      · have K0 := Lib.hid K
        have hW0 := Lib.hid hW
        clear hW
        obtain ⟨r0, hr0⟩ : ∃ r0, r0 = wr.heap.size := ⟨_, rfl⟩
        go_wp2_with (first
          | (go_at_call 33; ((with_reducible refine (L.out _).mono ?_); rintro e w2 ⟨A1, c1, rfl, ho, hb⟩); replace K := K.step hb; have hx2 := hb; clear a0 a1 hb; have a0 := K.c.c0; have a1 := K.c.c1)
          | (go_at_call 34; ((with_reducible refine (HF.out _).mono ?_); rintro e w3 ⟨rfl, hb⟩); replace ho := ho.below hb; have hx3 := stepB hx2 hb; clear a0 a1 hb hx2))
        rw [← hr0] at ho hx3
        have hS0 : MatS wr r0 A1 0 c1 [] w3 := ⟨hx3, ho, hr0⟩
        have HR0 := Lib.hid hr0
        clear hr0
        clear ho hx3 K
        have f0 : ∀ r : Cls (MatS wr r0 A1 0 c1 []), r.w.cell? ⟨w.heap.size, 0, none⟩ = some (.int .u8 p) := fun r => (K0.out.c.below (by rw [← HR0.out]; exact r.h.1)).c0
        have f1 : ∀ r : Cls (MatS wr r0 A1 0 c1 []), r.w.cell? ⟨w.heap.size, 1, none⟩ = some (.int .u8 q) := fun r => (K0.out.c.below (by rw [← HR0.out]; exact r.h.1)).c1
        haveI : Nonempty (Cls (MatS wr r0 A1 0 c1 [])) := ⟨⟨w3, hS0⟩⟩
        refine wp_region_cls (MatS wr r0 A1 0 c1 []) (by kernel_rfl) (by kernel_rfl) (hS0.step ((Below.refl _ _).drew)) ?_
        repeat (go_big_quiet_step (first
          | (go_at_call 35; rename_i r; refine (HC.out r.w).mono ?_; rintro e w4 ⟨rfl, hb4⟩; exact ⟨rfl, ⟨⟨w4, r.h.step hb4⟩, rfl⟩⟩)
          | (go_at_call 36; rename_i r; refine (HH.out r.w).mono ?_; rintro e w4 ⟨rfl, hb4⟩; exact ⟨rfl, ⟨⟨w4, r.h.step hb4⟩, rfl⟩⟩)
          | (go_at_call 37; rename_i r; refine (HR.out r.w).mono ?_; rintro e w4 ⟨rfl, hb4⟩; exact ⟨rfl, ⟨⟨w4, r.h.step hb4⟩, rfl⟩⟩)
          | (go_at_call 38; rename_i r; refine (HE.out _ _ _ _ r.w (own_bys r.h.2.1 rfl) (hW0.out.below (by rw [← HR0.out]; exact r.h.1))).mono ?_; rintro e w4 ⟨rfl, hb4⟩; exact ⟨rfl, ⟨⟨w4, r.h.step hb4⟩, rfl⟩⟩)))
        refine wpQuiet_nil ?_
        rintro _ ⟨r, rfl⟩; have hX := r.h; clear f0 f1; generalize r.w = X at hX ⊢; clear r
        clear hS0
        go_wp2_with (go_at_call 39; refine (OverBytes_any r0 A1 0 c1 X (by omega) (CanB.own hX.2.1)).mono ?_; rintro e w5 ⟨rfl, hb5⟩)
        go_roundw
        case rel =>
          have hb6 : Below wr.heap.size wr w5 := by rw [← HR0.out]; exact hX.1.trans hb5
          exact ⟨k + 1, by omega, by go_num, K0.out.step hb6, hW0.out.below hb6⟩
        case measure => simp [intOf]; omega
      · obtain rfl : k = 2 := by omega
        go_wp2_with (go_at_call 40; refine (HW.out _ K.k).mono ?_; rintro e w2 ⟨rfl, hb⟩; have k9 := stepB K.k hb; clear a0 a1 hb)
        exact bodyPost_ret (v := .bool true) (by simp [results, Tryd.f4, go_sem]) rfl ⟨rfl, k9⟩
end Go.Proofs.YtjjdhegkcilaiaaDoor
