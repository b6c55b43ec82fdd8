/- The reference's wrong and inside. -/
import Derived.Test.YtjjdhegkcilaiaaDoorDC
import Derived.Test.YtjjdhegkcilaiaaDoorDL
import Derived.Test.YtjjdhegkcilaiaaDoorQC
import Derived.Test.YtjjdhegkcilaiaaDoorLR
import Derived.Deep.QuietTactic
import Derived.BigQuiet
namespace Go.Proofs.YtjjdhegkcilaiaaDoor
open Go Go.RowKit
set_option maxRecDepth 100000
theorem wrong_vars (A : Option Addr) (m c : Nat) (v : Int) (w : World) (hv : ¬ (0 ≤ v ∧ v ≤ 6)) :
    Calls Tryd.prog 69 #[.slice A m c, .int .i64 v] w fun e w' => e = .returned (.int .i64 7) ∧ Below w.heap.size w w' := by
  by_cases h : v < 0
  · go_enter Tryd.func69, Tryd.ntmps69
    go_wp2
    go_ret
    exact ⟨rfl, Below.refl _ _⟩
  · have h6 : 6 < v := by omega
    go_enter Tryd.func69, Tryd.ntmps69
    go_wp2
    go_ret
    exact ⟨rfl, Below.refl _ _⟩
set_option maxHeartbeats 1000000 in
theorem wrong_any (A : Option Addr) (l : List Nat) (c n : Nat) (w : World) (hn : n ≤ 6) (hx : Bys w A l) (h8 : B8 l) (hl : l.length ≤ 1000000) :
    Calls Tryd.prog 69 #[.slice A l.length c, .int .i64 n] w fun e w' => ∃ e0 : Int, e = .returned (.int .i64 e0) ∧ (e0 = 0 ∧ ascL l n = true ∨ e0 = 1 ∧ ascL l n = false) ∧ Below w.heap.size w w' := by
  have HL := Lib.hid fun w => kitLetters_any n w hn
  have h64 := pow6 hn
  have HO : Hid (∀ k, okAt l n k = (decide (wd l k < 2 ^ n) && (decide (k = 0) || decide (wd l (k - 1) < wd l k)))) := fun k => rfl
  obtain ⟨N, hN⟩ : ∃ N, N = 2 ^ n := ⟨_, rfl⟩
  rw [← hN] at HL h64 HO
  have hnv : ¬ ((n : Int) < 0) := by omega
  have hnv6 : (n : Int) ≤ 6 := by omega
  clear hN
  go_enter Tryd.func69, Tryd.ntmps69
  go_wp2
  go_loopw [5] (fun i wr => ∃ k q : Nat, k ≤ l.length ∧ i = .int .i64 k ∧ Hid (allB (okAt l n) k = true) ∧ wr = w.drewN q) (fun i _ => l.length - (intOf i).toNat)
  case atStart => exact ⟨0, 0, by omega, rfl, rfl, rfl⟩
  case round =>
    obtain ⟨k, q, hk, rfl, H, rfl⟩ := hrel
    by_cases hlt : k < l.length
    · obtain ⟨ad, rfl, hcell⟩ := hx.at_ hlt
      have hx8 := h8.at_ k
      have HK := Lib.hid (HO.out k)
      have HF : okAt l n k = false → Hid (ascL l n = false) := fun h => allB_false hlt h
      have HT : okAt l n k = true → Hid (allB (okAt l n) (k + 1) = true) := fun h => by show _ = _; show (allB (okAt l n) k && okAt l n k) = true; rw [H.out, h]; rfl
      have hcell0 : k ≠ 0 → w.cell? (ad.add (k - 1)) = some (.int .u8 (wd l (k - 1) : Nat)) := fun h => by
        obtain ⟨ad', e, hc⟩ := hx.at_ (j := k - 1) (by omega)
        cases e; exact hc
      have hkl : (k : Int) < (l.length : Int) := by omega
      obtain ⟨j, hj⟩ : ∃ j, j = k - 1 := ⟨_, rfl⟩
      rw [← hj] at HK hcell0
      have hy8 := h8.at_ j
      generalize okAt l n k = o at *
      generalize wd l k = x at *
      generalize wd l j = y at *
      by_cases hxN : x < N
      · have hd2 : decide (N ≤ x) = false := decide_eq_false (by omega)
        have hd3 : decide ((N : Int) ≤ (x : Int)) = false := decide_eq_false (by omega)
        by_cases hk0 : k = 0
        · have HT2 := HT (by rw [HK.out, decide_eq_true hxN, decide_eq_true hk0]; rfl)
          have hd0 : decide (0 < k) = false := decide_eq_false (by omega)
          clear HT HF HK H hcell0 hk0
          go_wp2
          go_quiet (first | (go_at_call 51; exact ((HL.out _).mono (by rintro e w' ⟨rfl, rfl⟩; exact ⟨rfl, _, rfl⟩))))
          go_wp2
          go_roundw
          case rel => exact ⟨k + 1, q + nq, by omega, by go_num, HT2, by simp⟩
          case measure => simp [intOf]; omega
        · have hc2 := hcell0 hk0
          have hw : IntKind.i64.wrap ((k : Int) - 1) = (j : Int) := by
            rw [IntWalk.i64_in _ (by omega)]; omega
          have hjl : (j : Int) < (l.length : Int) := by omega
          have hk1 : 0 < k := by omega
          by_cases hyx : y < x
          · have HT2 := HT (by rw [HK.out, decide_eq_true hxN, decide_eq_true hyx]; simp)
            have hd0 : decide ((x : Int) ≤ (y : Int)) = false := decide_eq_false (by omega)
            have hd1 : decide (x ≤ y) = false := decide_eq_false (by omega)
            clear HT HF HK H hcell0 hk0 hj
            go_wp2
            go_quiet (first | (go_at_call 51; exact ((HL.out _).mono (by rintro e w' ⟨rfl, rfl⟩; exact ⟨rfl, _, rfl⟩))))
            go_wp2
            go_roundw
            case rel => exact ⟨k + 1, q + nq, by omega, by go_num, HT2, by simp⟩
            case measure => simp [intOf]; omega
          · have HF2 := HF (by rw [HK.out, decide_eq_false hyx, decide_eq_false hk0]; simp)
            have hd0 : decide ((x : Int) ≤ (y : Int)) = true := decide_eq_true (by omega)
            have hd1 : decide (x ≤ y) = true := decide_eq_true (by omega)
            clear HT HF HK H hcell0 hk0 hj hyx
            go_wp2
            go_quiet (first | (go_at_call 51; exact ((HL.out _).mono (by rintro e w' ⟨rfl, rfl⟩; exact ⟨rfl, _, rfl⟩))))
            go_wp2
            go_ret
            exact ⟨_, rfl, .inr ⟨rfl, HF2.out⟩, by rw [World.drewN_drewN]; exact drewN_below _ _⟩
      · have HF2 := HF (by rw [HK.out, decide_eq_false hxN]; rfl)
        have hd0 : decide ((N : Int) ≤ (x : Int)) = true := decide_eq_true (by omega)
        have hd2 : decide (N ≤ x) = true := decide_eq_true (by omega)
        clear HT HF HK H hcell0 hxN
        go_wp2
        go_quiet (first | (go_at_call 51; exact ((HL.out _).mono (by rintro e w' ⟨rfl, rfl⟩; exact ⟨rfl, _, rfl⟩))))
        go_wp2
        go_ret
        exact ⟨_, rfl, .inr ⟨rfl, HF2.out⟩, by rw [World.drewN_drewN]; exact drewN_below _ _⟩
    · obtain rfl : k = l.length := by omega
      go_wp2
      go_ret
      have := H.out
      exact ⟨_, rfl, .inl ⟨rfl, this⟩, drewN_below _ _⟩
/-- What the count of inside keeps. -/
def InsS (w : World) (A : Option Addr) (l : List Nat) (b p q : Nat) (X : World) : Prop := Bys X A l ∧ Kit1 w b p q X
theorem InsS.step {w : World} {A : Option Addr} {l : List Nat} {b p q : Nat} {X Y : World} (h : InsS w A l b p q X) (hb : Below X.heap.size X Y) : InsS w A l b p q Y := ⟨h.1.below hb, h.2.step hb⟩
theorem filter_take (f : Nat → Bool) (l : List Nat) {k : Nat} (h : k < l.length) : ((l.take (k + 1)).filter f).length = ((l.take k).filter f).length + if f (wd l k) then 1 else 0 := by
  rw [List.take_succ_eq_append_getElem h, List.filter_append, List.length_append]
  have : wd l k = l[k] := by simp [wd, h]
  rw [this]
  cases hf : f l[k] <;> simp [hf]
set_option maxHeartbeats 1000000 in
theorem refInside_any (p q : Nat) (A : Option Addr) (l : List Nat) (c n : Nat) (w : World) (hC : Cube p q n) (hx : Bys w A l) (h8 : B8 l) (hl : l.length ≤ 1000000) (ha : ascL l n = true) :
    Calls Tryd.prog 70 #[.agg #[.int .u8 p, .int .u8 q], .slice A l.length c, .int .i64 n] w fun e w' => e = .returned (.bool (insB (fun x => decide (x ∈ l)) n p q)) ∧ Below w.heap.size w w' := by
  have hlt := hC.lt
  have h64 := pow6 hC.1
  have hp : p < 256 := by omega
  have hq : q < 256 := by omega
  have HR := Lib.hid fun w => refLetters_ok p q n w hC
  have HI := Lib.hid (inside_len ha p q)
  have hll := letTo_len p q (2 ^ n)
  generalize letTo p q (2 ^ n) = lt at *
  clear ha hC hlt
  go_enter Tryd.func70, Tryd.ntmps70
  have K : InsS w A l w.heap.size p q (w.alloc (.cells #[.int .u8 (p : Nat), .int .u8 (q : Nat)] 42)) := ⟨hx.below (bal (Below.refl _ _) _), Box2.new w _ _ _, bal (Below.refl _ _) _⟩
  go_wp2
  go_loopw [7, 8] (fun m i wr => ∃ k t : Nat, k ≤ l.length ∧ t ≤ k ∧ i = .int .i64 k ∧ m = .int .i64 t ∧ Hid (t = ((l.take k).filter (cHas p q)).length) ∧ InsS w A l w.heap.size p q wr) (fun _ i _ => l.length - (intOf i).toNat)
  case atStart => exact ⟨0, 0, by omega, by omega, rfl, rfl, rfl, K⟩
  case round =>
    clear K hx
    obtain ⟨k, t, hk, htk, rfl, rfl, HT, hS0⟩ := hrel
    by_cases hlt : k < l.length
    · obtain ⟨ad, rfl, _⟩ := hS0.1.at_ hlt
      have hx8 := h8.at_ k
      have HF := Lib.hid (filter_take (cHas p q) l hlt)
      have HH := Lib.hid fun w => refHas_any p q (wd l k) w hp hq hx8
      have f0 : ∀ r : Cls (InsS w (some ad) l w.heap.size p q), r.w.cell? ⟨w.heap.size, 0, none⟩ = some (.int .u8 p) := fun r => r.h.2.c.c0
      have f1 : ∀ r : Cls (InsS w (some ad) l w.heap.size p q), r.w.cell? ⟨w.heap.size, 1, none⟩ = some (.int .u8 q) := fun r => r.h.2.c.c1
      have f2 : ∀ r : Cls (InsS w (some ad) l w.heap.size p q), r.w.cell? (ad.add k) = some (.int .u8 (wd l k : Nat)) := fun r => by
        obtain ⟨ad', e, hc⟩ := r.h.1.at_ hlt
        cases e; exact hc
      have hkl : (k : Int) < (l.length : Int) := by omega
      haveI : Nonempty (Cls (InsS w (some ad) l w.heap.size p q)) := ⟨⟨_, hS0⟩⟩
      generalize wd l k = x at *
      cases hh : cHas p q x with
      | true =>
        rw [hh] at HH HF
        clear hh
        go_wp2
        refine wp_region_cls (InsS w (some ad) l w.heap.size p q) (by kernel_rfl) (by kernel_rfl) (hS0.step ((Below.refl _ _).drew)) ?_
        repeat (go_big_quiet_step ((go_at_call 37; rename_i r; refine (HH.out r.w).mono ?_; rintro e w4 ⟨rfl, hb4⟩; exact ⟨rfl, ⟨⟨w4, r.h.step hb4⟩, rfl⟩⟩)))
        refine wpQuiet_nil ?_
        rintro _ ⟨r, rfl⟩
        have hX := r.h
        clear f0 f1 f2
        generalize r.w = X at hX ⊢
        clear r hS0
        go_wp2
        go_roundw
        case rel => exact ⟨k + 1, t + 1, by omega, by omega, by go_num, by go_num, by show _ = _; rw [HF.out, ← HT.out]; rfl, hX⟩
        case measure => simp [intOf]; omega
      | false =>
        rw [hh] at HH HF
        clear hh
        go_wp2
        refine wp_region_cls (InsS w (some ad) l w.heap.size p q) (by kernel_rfl) (by kernel_rfl) (hS0.step ((Below.refl _ _).drew)) ?_
        repeat (go_big_quiet_step ((go_at_call 37; rename_i r; refine (HH.out r.w).mono ?_; rintro e w4 ⟨rfl, hb4⟩; exact ⟨rfl, ⟨⟨w4, r.h.step hb4⟩, rfl⟩⟩)))
        refine wpQuiet_nil ?_
        rintro _ ⟨r, rfl⟩
        have hX := r.h
        clear f0 f1 f2
        generalize r.w = X at hX ⊢
        clear r hS0
        go_wp2
        go_roundw
        case rel => exact ⟨k + 1, t, by omega, by omega, by go_num, rfl, by show _ = _; rw [HF.out, ← HT.out]; rfl, hX⟩
        case measure => simp [intOf]; omega
    · obtain rfl : k = l.length := by omega
      have hfin : (((t : Nat) : Int) == ((lt.length : Nat) : Int)) = insB (fun x => decide (x ∈ l)) n p q := by
        have h1 := HT.out
        rw [List.take_length] at h1
        rw [← HI.out, ← h1, Bool.eq_iff_iff, beq_iff_eq, decide_eq_true_iff]
        omega
      have HFI := Lib.hid hfin
      have a0 := hS0.2.c.c0
      have a1 := hS0.2.c.c1
      clear hfin
      go_wp2_with (go_at_call 31; ((with_reducible refine (HR.out _).mono ?_); rintro e w2 ⟨u, rfl, ho, hb⟩); obtain ⟨A1, c1, rfl, _⟩ := own_form ho; have k9 := stepB hS0.2.k hb)
      go_ret
      exact ⟨ret_bool HFI.out, k9⟩
end Go.Proofs.YtjjdhegkcilaiaaDoor
