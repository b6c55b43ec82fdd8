/- The reference's Format of a cube, for the texts of expressions. -/
import Derived.Test.YtlaagjmfgaccjaaYZZC
import Derived.Laws.IdiomStrings
namespace Go.Proofs.Ytlaagjmfgaccjaa.Rx
open Go Go.RowKit Go.Proofs.Ytlaagjmfgaccjaa
set_option linter.unusedVariables false
set_option maxRecDepth 100000
theorem arr_app (a b : List UInt8) : (⟨a.toArray⟩ : ByteArray) ++ ⟨b.toArray⟩ = ⟨(a ++ b).toArray⟩ := by
  apply ByteArray.ext
  simp
theorem bit_test2 (x t : Nat) : ((((x : Int) / 2 ^ t).tmod 2) == 1) = x.testBit t := by
  have e : ((x : Int) / 2 ^ t) = ((x / 2 ^ t : Nat) : Int) := by
    rw [Int.natCast_ediv]
    congr 1
  have e2 : (((x / 2 ^ t : Nat) : Int).tmod 2) = ((x / 2 ^ t % 2 : Nat) : Int) := rfl
  rw [e, e2, Nat.testBit_eq_decide_div_mod_eq, Bool.eq_iff_iff, beq_iff_eq, decide_eq_true_iff]
  omega
theorem round_text (p q k : Nat) : fmtL (litTo p q (k + 1)) = if p.testBit k then fmtL (litTo p q k) ++ [UInt8.ofNat (97 + k)] else if q.testBit k then fmtL (litTo p q k) ++ ([33] ++ [UInt8.ofNat (97 + k)]) else fmtL (litTo p q k) := by
  cases hp : p.testBit k with
  | true =>
    rw [litTo_succ (by rw [litB_or, hp]; rfl), fmtL_snoc, hp]; rfl
  | false =>
    cases hq : q.testBit k with
    | true => rw [litTo_succ (by rw [litB_or, hp, hq]; rfl), fmtL_snoc, hp]; rfl
    | false => rw [litTo_same (by rw [litB_or, hp, hq]; rfl)]; rfl
theorem litTo_v {p q v : Nat} (h : Cube p q v) : litTo p q v = lits p q := by
  unfold lits
  have h6 := h.1
  have : ∀ k, v ≤ k → k ≤ 6 → litTo p q k = litTo p q v := by
    intro k hv hk
    induction k with
    | zero => obtain rfl : v = 0 := by omega
              rfl
    | succ k ih =>
      by_cases he : v = k + 1
      · rw [he]
      · rw [← ih (by omega) (by omega)]
        refine litTo_same ?_
        rw [litB_or]
        rw [Nat.testBit_lt_two_pow (Nat.lt_of_lt_of_le h.2.1 (Nat.pow_le_pow_right (by decide) (by omega))), Nat.testBit_lt_two_pow (Nat.lt_of_lt_of_le h.2.2.1 (Nat.pow_le_pow_right (by decide) (by omega)))]
        rfl
  exact (this 6 h6 (by omega)).symm
set_option maxHeartbeats 2000000 in
theorem refFormat_ok (p q v : Nat) (w : World) (hC : Cube p q v) :
    Calls Try.prog 68 #[.agg #[.int .u8 p, .int .u8 q], .int .i64 v] w fun e w' =>
      e = .returned (.tuple #[.string ⟨(fmtT p q).toArray⟩, .int .i64 0]) ∧ Below w.heap.size w w' := by
  have hlt := hC.lt
  have hp : p < 256 := by omega
  have hq : q < 256 := by omega
  have hv := hC.1
  have HK : Hid (∀ w, Calls Try.prog 83 #[.agg #[.int .u8 p, .int .u8 q], .int .i64 v] w fun e w' => e = .returned (.int .i64 0) ∧ Below w.heap.size w w') := fun w => by
    have := Cb.refCheck_any p q v w hp hq
    rw [hC.chk] at this
    exact this
  have HE : Hid (fmtT p q = if fmtL (litTo p q v) = [] then [42] else fmtL (litTo p q v)) := by
    show _ = _
    rw [litTo_v hC]; rfl
  go_enter Try.func68, Try.ntmps68
  have bC := Box2.new w 92 (.int .u8 (p : Nat)) (.int .u8 (q : Nat))
  have k0 := bal (Below.refl _ w) (.cells #[.int .u8 (p : Nat), .int .u8 (q : Nat)] 92)
  go_wp2_with (go_at_call 83; refine (HK.out _).mono ?_; rintro e w1 ⟨rfl, hb1⟩; have bC1 := bC.below hb1; have k1 := stepB k0 hb1; clear bC k0 hb1)
  go_loopw [7, 8] (fun s i wr => ∃ k : Nat, k ≤ v ∧ i = .int .i64 k ∧ s = .string ⟨(fmtL (litTo p q k)).toArray⟩ ∧ Box2 wr w.heap.size 92 (.int .u8 p) (.int .u8 q) ∧ Below w.heap.size w wr) (fun _ i _ => v - (intOf i).toNat)
  case atStart => exact ⟨0, by omega, rfl, rfl, bC1, k1⟩
  case round =>
    clear bC1 k1
    obtain ⟨k, hk, rfl, rfl, bC, kb⟩ := hrel
    by_cases hkv : k < v
    · have hcv := run_convert_bytes_back (P := Try.prog) (wr.alloc (.cells #[.int .u8 (97 + k : Int)] 5)) 45 9 5 ⟨wr.heap.size, 0, none⟩ 1 [UInt8.ofNat (97 + k)] Try.underlying45 Try.underlying5 Try.underlying9 (fun j hj => by
        obtain rfl : j = 0 := by simpa using hj
        rw [addr_add, World.cell?_alloc_at _ _ _ _ rfl]
        simp
        omega)
      simp only [List.length_cons, List.length_nil] at hcv
      have bC2 := bC.alloc (.cells #[.int .u8 (97 + k : Int)] 5)
      have c0 := bC2.c0
      have c1 := bC2.c1
      have k2 := bal kb (.cells #[.int .u8 (97 + k : Int)] 5)
      generalize hcc : UInt8.ofNat (97 + k) = cc at hcv
      generalize hw2 : wr.alloc (.cells #[.int .u8 (97 + k : Int)] 5) = w2 at *
      have hL : (fmtL (litTo p q k)).length ≤ 2 * v := by
        have := fmtL_len (litTo p q k)
        have := litTo_len p q k
        omega
      have hR := round_text p q k
      rw [hcc] at hR
      clear hcc
      have t1 := bit_test2 p k
      have t2 := bit_test2 q k
      generalize hls : litTo p q (k + 1) = ls1 at *
      have HLS := Lib.hid hls
      clear hls
      generalize hS : fmtL (litTo p q k) = S at *
      have l1 : ¬ 9223372036854775807 < S.length + 1 := by omega
      have l2 : ¬ 9223372036854775807 < S.length + 1 + 1 := by omega
      have hno : p.testBit k = true → q.testBit k = false := fun h => and0_bit hC.2.2.2 h
      cases hpb : p.testBit k with
      | true =>
        have hqb := hno hpb
        rw [hpb] at t1 hR
        rw [hqb] at t2
        rw [if_pos rfl] at hR
        have HR := Lib.hid hR
        clear hR hno hpb hqb
        go_wp2
        go_roundw
        case rel => exact ⟨k + 1, by omega, by go_num, by rw [HLS.out, HR.out]; exact congrArg Value.string (arr_app _ [cc]), bC2, k2⟩
        case measure => simp [intOf]; omega
      | false =>
        rw [hpb] at t1 hR
        rw [if_neg (by decide)] at hR
        clear hno hpb
        cases hqb : q.testBit k with
        | true =>
          rw [hqb] at t2 hR
          rw [if_pos rfl] at hR
          have HR := Lib.hid hR
          clear hR hqb
          go_wp2
          go_roundw
          case rel => exact ⟨k + 1, by omega, by go_num, by rw [HLS.out, HR.out]; exact congrArg Value.string ((congrArg (· ++ (⟨[cc].toArray⟩ : ByteArray)) (arr_app _ [33])).trans ((arr_app _ [cc]).trans (by rw [List.append_assoc]))), bC2, k2⟩
          case measure => simp [intOf]; omega
        | false =>
          rw [hqb] at t2 hR
          rw [if_neg (by decide)] at hR
          have HR := Lib.hid hR
          clear hR hqb
          go_wp2
          go_roundw
          case rel => exact ⟨k + 1, by omega, by go_num, by rw [HLS.out, HR.out], bC2, k2⟩
          case measure => simp [intOf]; omega
    · obtain rfl : k = v := by omega
      generalize fmtL (litTo p q k) = S at *
      cases S with
      | nil =>
        have HF : Hid (fmtT p q = [42]) := by show _ = _; rw [HE.out, if_pos rfl]
        go_wp2
        rw [HF.out]
        go_ret2
        exact ⟨rfl, kb⟩
      | cons a S =>
        have HF : Hid (fmtT p q = a :: S) := by show _ = _; rw [HE.out, if_neg (by simp)]
        go_wp2
        rw [HF.out]
        go_ret2
        exact ⟨rfl, kb⟩
end Go.Proofs.Ytlaagjmfgaccjaa.Rx
