/- Letters of a slice: areAscendingLetters, regionOf. -/
import Derived.Test.YtjjdhegkcilaiaaDoorCX
namespace Go.Proofs.YtjjdhegkcilaiaaDoor
open Go Go.RowKit
set_option maxRecDepth 100000
/-- The numbers are bytes. -/
def B8 (l : List Nat) : Prop := ∀ x ∈ l, x < 256
theorem B8.at_ {l : List Nat} (h : B8 l) (j : Nat) : wd l j < 256 := by
  unfold wd
  rw [List.getD_eq_getElem?_getD]
  rcases Nat.lt_or_ge j l.length with hj | hj
  · rw [List.getElem?_eq_getElem hj]; exact h _ (List.getElem_mem hj)
  · rw [List.getElem?_eq_none hj]; decide
/-- Place i of a strictly ascending slice of letters is in order. -/
def okAt (l : List Nat) (v i : Nat) : Bool := decide (wd l i < 2 ^ v) && (decide (i = 0) || decide (wd l (i - 1) < wd l i))
def ascL (l : List Nat) (v : Nat) : Bool := allB (okAt l v) l.length
set_option maxHeartbeats 2000000 in
theorem areAscending_any (A : Option Addr) (l : List Nat) (c v : Nat) (w : World) (hx : Bys w A l) (h8 : B8 l) (hv : v ≤ 6) (hl : l.length ≤ 1000000) :
    Calls Tryd.prog 71 #[.slice A l.length c, .int .i64 v] w fun e w' => e = .returned (.bool (ascL l v)) ∧ w = w' := by
  go_enter Tryd.func71, Tryd.ntmps71
  go_wp2
  go_loop [9] (fun i => ∃ k : Nat, k ≤ l.length ∧ i = .int .i64 k ∧ Hid (∀ i, i < k → okAt l v i = true)) (fun i => l.length - (intOf i).toNat)
  case atStart => exact ⟨0, by omega, rfl, fun i hi => absurd hi (by omega)⟩
  case round =>
    obtain ⟨k, hk, rfl, H⟩ := hrel
    by_cases hlt : k < l.length
    · obtain ⟨ad, rfl, hcell⟩ := hx.at_ hlt
      have hx8 := h8.at_ k
      have hstep : Hid (okAt l v k = true → ∀ i, i < k + 1 → okAt l v i = true) := fun hok i hi => by
        rcases Nat.lt_or_eq_of_le (Nat.le_of_lt_succ hi) with h1 | rfl
        · exact H.out i h1
        · exact hok
      have hfail : Hid (okAt l v k = false → ascL l v = false) := fun hno => allB_false hlt hno
      by_cases hL : wd l k < 2 ^ v
      · have L1 := Lib.hid fun w => isLetter_yes (wd l k) v w hx8 hv hL
        by_cases h0 : k = 0
        · have hok : Hid (∀ i, i < k + 1 → okAt l v i = true) := hstep.out (by unfold okAt; rw [decide_eq_true hL, decide_eq_true h0]; rfl)
          have hk0 : decide (0 < k) = false := by rw [decide_eq_false_iff_not]; omega
          clear hL hstep hfail H h0
          generalize wd l k = x at *
          go_wp2_with (go_at_call 67; refine (L1.out _).mono ?_; rintro e w' ⟨rfl, rfl⟩)
          go_round
          case rel => exact ⟨k + 1, by omega, by go_num, hok⟩
          case measure => simp [intOf]; omega
        · have hk0 : 0 < k := by omega
          obtain ⟨j, hj⟩ : ∃ j, k = j + 1 := ⟨k - 1, by omega⟩
          have hokd : okAt l v k = decide (wd l j < wd l k) := by
            unfold okAt
            rw [decide_eq_true hL, decide_eq_false h0, show k - 1 = j by omega]; simp
          obtain ⟨ad', e', hc2⟩ := hx.at_ (j := j) (by omega)
          cases e'
          have hkj : (k : Int) - 1 = (j : Int) := by omega
          have hjl : j < l.length := by omega
          have hp8 := h8.at_ j
          by_cases hlt2 : wd l j < wd l k
          · have hok : Hid (∀ i, i < k + 1 → okAt l v i = true) := hstep.out (by rw [hokd, decide_eq_true hlt2])
            clear hL hstep hfail H h0 hokd hj
            generalize wd l k = x at *
            generalize wd l j = y at *
            have hd : decide ((x : Int) ≤ (y : Int)) = false := by rw [decide_eq_false_iff_not]; omega
            go_wp2_with (go_at_call 67; refine (L1.out _).mono ?_; rintro e w' ⟨rfl, rfl⟩)
            go_round
            case rel => exact ⟨k + 1, by omega, by go_num, hok⟩
            case measure => simp [intOf]; omega
          · have hno : Hid (ascL l v = false) := hfail.out (by rw [hokd, decide_eq_false hlt2])
            clear hL hstep hfail H h0 hokd hj
            generalize wd l k = x at *
            generalize wd l j = y at *
            have hd : decide ((x : Int) ≤ (y : Int)) = true := by rw [decide_eq_true_iff]; omega
            go_wp2_with (go_at_call 67; refine (L1.out _).mono ?_; rintro e w' ⟨rfl, rfl⟩)
            go_ret
            exact ⟨ret_bool hno.out.symm, rfl⟩
      · have L1 := Lib.hid fun w => isLetter_no (wd l k) v w hx8 hv hL
        have hno : Hid (ascL l v = false) := hfail.out (by unfold okAt; rw [decide_eq_false hL]; rfl)
        clear hL hstep hfail H
        generalize wd l k = x at *
        go_wp2_with (go_at_call 67; refine (L1.out _).mono ?_; rintro e w' ⟨rfl, rfl⟩)
        go_ret
        exact ⟨ret_bool hno.out.symm, rfl⟩
    · have hyes : Hid (ascL l v = true) := (allB_iff _ _).2 fun i hi => H.out i (by omega)
      clear H
      go_wp2
      go_ret
      exact ⟨ret_bool hyes.out.symm, rfl⟩
theorem shl_u64 {x : Nat} (h : x < 64) : IntKind.u64.wrap ((2 : Int) ^ x) = ((2 ^ x : Nat) : Int) := by
  have h1 : 2 ^ x < 2 ^ 64 := Nat.pow_lt_pow_right (by decide) h
  have h2 : ((2 ^ x : Nat) : Int) = (2 : Int) ^ x := by exact_mod_cast rfl
  rw [← h2, IntKind.wrap_u64]
  generalize 2 ^ x = m at h1
  omega
theorem bitsOf_take_lt {l : List Nat} (h : ∀ x ∈ l, x < 64) (k : Nat) : bitsOf (l.take k) < 18446744073709551616 := bitsOf_lt fun x hx => h x (List.mem_of_mem_take hx)
set_option maxHeartbeats 1000000 in
theorem regionOf_any (A : Option Addr) (l : List Nat) (c : Nat) (w : World) (hx : Bys w A l) (h64 : ∀ x ∈ l, x < 64) (hl : l.length ≤ 1000000) :
    Calls Tryd.prog 72 #[.slice A l.length c] w fun e w' => e = .returned (.int .u64 (bitsOf l : Nat)) ∧ w = w' := by
  have HB := Lib.hid fun k => bitsOf_take_lt h64 k
  have HS := Lib.hid h64
  clear h64
  go_enter Tryd.func72, Tryd.ntmps72
  go_wp2
  go_loop [3, 8] (fun r i => ∃ k : Nat, k ≤ l.length ∧ i = .int .i64 k ∧ r = .int .u64 (bitsOf (l.take k) : Nat)) (fun _ i => l.length - (intOf i).toNat)
  case atStart => exact ⟨0, by omega, rfl, rfl⟩
  case round =>
    obtain ⟨k, hk, rfl, rfl⟩ := hrel
    by_cases hlt : k < l.length
    · obtain ⟨ad, rfl, hcell⟩ := hx.at_ hlt
      have hxk : wd l k < 64 := by
        unfold wd; rw [List.getD_eq_getElem?_getD, List.getElem?_eq_getElem hlt]; exact HS.out _ (List.getElem_mem hlt)
      have hts : Hid (bitsOf (l.take (k + 1)) = bitsOf (l.take k) ||| 2 ^ wd l k) := by
        show _ = _
        rw [List.take_succ_eq_append_getElem hlt, bitsOf_snoc]
        simp [wd, hlt]
      generalize wd l k = x at *
      have HE : Hid (bits .or .u64 ((bitsOf (l.take k) : Nat) : Int) (IntKind.u64.wrap ((2 : Int) ^ x)) = ((bitsOf (l.take (k + 1)) : Nat) : Int)) := by
        show _ = _
        rw [hts.out, shl_u64 hxk]
        exact u64_or_nat _ _ (HB.out k) (show 2 ^ x < 2 ^ 64 from Nat.pow_lt_pow_right (by decide) hxk)
      clear hts
      go_wp2
      go_round
      case rel => exact ⟨k + 1, by omega, by go_num, by rw [HE.out]⟩
      case measure => simp [intOf]; omega
    · obtain rfl : k = l.length := by omega
      go_wp2
      go_ret
      exact ⟨ret_of rfl, rfl⟩
end Go.Proofs.YtjjdhegkcilaiaaDoor
