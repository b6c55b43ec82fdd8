/- RegexExamples: the second table. -/
import Derived.Test.YteckkbjpeckjmaaWM
import Derived.Test.YteckkbjpeckjmaaQC
import Derived.Laws.IdiomStrings
namespace Go.Proofs.Yteckkbjpeckjmaa.Rx
open Go Go.RowKit Go.Proofs.Yteckkbjpeckjmaa Go.Proofs.Yteckkbjpeckjmaa.Wi
set_option linter.unusedVariables false
set_option maxRecDepth 100000
def recs10 : List Rec := [.row [] (-1) (7), .row [] (0) (3), .slc (List.replicate 65 ⟨0, 0, 0, 0, 0⟩), .row (List.replicate 65 ⟨0, 0, 0, 0, 0⟩) (0) (4), .slc (List.replicate 64 ⟨0, 0, 0, 0, 0⟩), .row (List.replicate 64 ⟨0, 0, 0, 0, 0⟩) (0) (6), .lit (.agg #[.int .u8 11, .int .u8 0, .int .u8 0, .int .i64 (0), .int .i64 (0)]), .slc [⟨11, 0, 0, 0, 0⟩], .row ([⟨11, 0, 0, 0, 0⟩]) (0) (6), .lit (.agg #[.int .u8 1, .int .u8 0, .int .u8 0, .int .i64 (1), .int .i64 (0)]), .slc [⟨1, 0, 0, 1, 0⟩], .row ([⟨1, 0, 0, 1, 0⟩]) (0) (2), .lit (.agg #[.int .u8 2, .int .u8 1, .int .u8 0, .int .i64 (0), .int .i64 (0)]), .slc [⟨2, 1, 0, 0, 0⟩], .row ([⟨2, 1, 0, 0, 0⟩]) (1) (2), .lit (.agg #[.int .u8 3, .int .u8 1, .int .u8 0, .int .i64 (0), .int .i64 (0)]), .slc [⟨3, 1, 0, 0, 0⟩], .row ([⟨3, 1, 0, 0, 0⟩]) (0) (7), .lit (.agg #[.int .u8 3, .int .u8 1, .int .u8 1, .int .i64 (0), .int .i64 (0)]), .slc [⟨3, 1, 1, 0, 0⟩], .row ([⟨3, 1, 1, 0, 0⟩]) (1) (2), .lit (.agg #[.int .u8 1, .int .u8 0, .int .u8 0, .int .i64 (0), .int .i64 (0)]), .lit (.agg #[.int .u8 1, .int .u8 0, .int .u8 0, .int .i64 (0), .int .i64 (0)]), .slc [⟨1, 0, 0, 0, 0⟩, ⟨1, 0, 0, 0, 0⟩], .row ([⟨1, 0, 0, 0, 0⟩, ⟨1, 0, 0, 0, 0⟩]) (0) (2), .lit (.agg #[.int .u8 7, .int .u8 0, .int .u8 0, .int .i64 (-1), .int .i64 (0)]), .slc [⟨7, 0, 0, -1, 0⟩], .row ([⟨7, 0, 0, -1, 0⟩]) (0) (8), .lit (.agg #[.int .u8 1, .int .u8 0, .int .u8 0, .int .i64 (0), .int .i64 (0)]), .lit (.agg #[.int .u8 4, .int .u8 0, .int .u8 0, .int .i64 (0), .int .i64 (0)]), .slc [⟨1, 0, 0, 0, 0⟩, ⟨4, 0, 0, 0, 0⟩], .row ([⟨1, 0, 0, 0, 0⟩, ⟨4, 0, 0, 0, 0⟩]) (0) (8), .lit (.agg #[.int .u8 1, .int .u8 0, .int .u8 0, .int .i64 (0), .int .i64 (0)]), .lit (.agg #[.int .u8 1, .int .u8 0, .int .u8 0, .int .i64 (0), .int .i64 (0)]), .lit (.agg #[.int .u8 4, .int .u8 0, .int .u8 0, .int .i64 (1), .int .i64 (0)]), .slc [⟨1, 0, 0, 0, 0⟩, ⟨1, 0, 0, 0, 0⟩, ⟨4, 0, 0, 1, 0⟩], .row ([⟨1, 0, 0, 0, 0⟩, ⟨1, 0, 0, 0, 0⟩, ⟨4, 0, 0, 1, 0⟩]) (0) (8), .lit (.agg #[.int .u8 1, .int .u8 0, .int .u8 0, .int .i64 (0), .int .i64 (0)]), .lit (.agg #[.int .u8 1, .int .u8 0, .int .u8 0, .int .i64 (0), .int .i64 (0)]), .lit (.agg #[.int .u8 4, .int .u8 0, .int .u8 0, .int .i64 (0), .int .i64 (1)]), .slc [⟨1, 0, 0, 0, 0⟩, ⟨1, 0, 0, 0, 0⟩, ⟨4, 0, 0, 0, 1⟩], .row ([⟨1, 0, 0, 0, 0⟩, ⟨1, 0, 0, 0, 0⟩, ⟨4, 0, 0, 0, 1⟩]) (0) (0), .lit (.agg #[.int .u8 1, .int .u8 0, .int .u8 0, .int .i64 (0), .int .i64 (0)]), .lit (.agg #[.int .u8 7, .int .u8 0, .int .u8 0, .int .i64 (0), .int .i64 (1)]), .slc [⟨1, 0, 0, 0, 0⟩, ⟨7, 0, 0, 0, 1⟩], .row ([⟨1, 0, 0, 0, 0⟩, ⟨7, 0, 0, 0, 1⟩]) (0) (2), .lit (.agg #[.int .u8 1, .int .u8 0, .int .u8 0, .int .i64 (0), .int .i64 (0)]), .lit (.agg #[.int .u8 9, .int .u8 0, .int .u8 0, .int .i64 (0), .int .i64 (0)]), .lit (.agg #[.int .u8 8, .int .u8 0, .int .u8 0, .int .i64 (1), .int .i64 (0)]), .slc [⟨1, 0, 0, 0, 0⟩, ⟨9, 0, 0, 0, 0⟩, ⟨8, 0, 0, 1, 0⟩], .row ([⟨1, 0, 0, 0, 0⟩, ⟨9, 0, 0, 0, 0⟩, ⟨8, 0, 0, 1, 0⟩]) (0) (2), .tab rows2, .lit (.int .i64 16), .lit (.int .i64 0)]
/-- The first table lies in block b. -/
def TblA (W : World) (b : Nat) : Prop := b < W.heap.size ∧ ∀ r s v a, rowsA[r]? = some (s, v, a) → W.cell? ⟨b, r * 3, none⟩ = some (.string ⟨s.toArray⟩) ∧ W.cell? ⟨b, r * 3 + 1, none⟩ = some (.int .i64 v) ∧ W.cell? ⟨b, r * 3 + 2, none⟩ = some (.int .i64 a)
theorem TblA.below {W W' : World} {b : Nat} (h : TblA W b) (hb : Below W.heap.size W W') : TblA W' b :=
  ⟨Nat.lt_of_lt_of_le h.1 hb.size, fun r s v a hr => ⟨(hb.cell h.1).trans (h.2 r s v a hr).1, (hb.cell h.1).trans (h.2 r s v a hr).2.1, (hb.cell h.1).trans (h.2 r s v a hr).2.2⟩⟩
theorem tblA_new (W : World) (t : TypeId) : TblA (W.alloc (.cells #[.string ⟨#[]⟩, .int .i64 0, .int .i64 3, .string ⟨#[48]⟩, .int .i64 7, .int .i64 7, .string ⟨#[120]⟩, .int .i64 (-1), .int .i64 7, .string ⟨#[40, 48, 46, 49]⟩, .int .i64 0, .int .i64 3, .string ⟨#[40, 48, 43, 49, 41]⟩, .int .i64 0, .int .i64 2, .string ⟨#[48, 49]⟩, .int .i64 0, .int .i64 5, .string ⟨#[48, 32]⟩, .int .i64 0, .int .i64 5, .string ⟨#[32, 48]⟩, .int .i64 0, .int .i64 2, .string ⟨#[40, 40, 62, 48, 41, 42, 41]⟩, .int .i64 0, .int .i64 2, .string ⟨#[40, 126, 40, 60, 48, 41, 41]⟩, .int .i64 0, .int .i64 2, .string ⟨#[40, 40, 62, 40, 60, 48, 41, 41, 38, 49, 41]⟩, .int .i64 0, .int .i64 2, .string ⟨#[40, 62, 40, 60, 48, 41, 41]⟩, .int .i64 0, .int .i64 2, .string ⟨#[40, 40, 62, 48, 41, 124, 40, 60, 49, 41, 41]⟩, .int .i64 0, .int .i64 0, .string ⟨#[91, 98, 93]⟩, .int .i64 1, .int .i64 7, .string ⟨#[91, 98, 93]⟩, .int .i64 2, .int .i64 0, .string ⟨#[91, 93]⟩, .int .i64 1, .int .i64 2, .string ⟨#[91, 33, 93]⟩, .int .i64 1, .int .i64 2, .string ⟨#[91, 98, 97, 93]⟩, .int .i64 2, .int .i64 2, .string ⟨#[91, 97, 97, 93]⟩, .int .i64 2, .int .i64 2, .string ⟨#[91, 102, 33]⟩, .int .i64 6, .int .i64 2, .string ⟨#[91, 102]⟩, .int .i64 6, .int .i64 3, .string ⟨#[91, 42, 97, 93]⟩, .int .i64 6, .int .i64 2, .string ⟨#[91, 97, 33, 98]⟩, .int .i64 6, .int .i64 3, .string ⟨#[40, 41]⟩, .int .i64 0, .int .i64 2, .string ⟨#[40, 48, 41]⟩, .int .i64 0, .int .i64 2, .string ⟨#[40, 48, 42]⟩, .int .i64 0, .int .i64 3, .string ⟨#[40, 48, 42, 42, 41]⟩, .int .i64 0, .int .i64 2, .string ⟨#[40, 126, 48, 42, 41]⟩, .int .i64 0, .int .i64 2, .string ⟨#[40]⟩, .int .i64 0, .int .i64 3, .string ⟨#[41]⟩, .int .i64 0, .int .i64 2, .string ⟨#[50]⟩, .int .i64 0, .int .i64 2] t)) W.heap.size := by
  refine ⟨by simp, fun r s v a h => ?_⟩
  have hr : r < 31 := (List.getElem?_eq_some_iff.1 h).1
  rw [World.cell?_alloc_at _ _ _ _ rfl, World.cell?_alloc_at _ _ _ _ rfl, World.cell?_alloc_at _ _ _ _ rfl]
  rcases (by omega : r = 0 ∨ r = 1 ∨ r = 2 ∨ r = 3 ∨ r = 4 ∨ r = 5 ∨ r = 6 ∨ r = 7 ∨ r = 8 ∨ r = 9 ∨ r = 10 ∨ r = 11 ∨ r = 12 ∨ r = 13 ∨ r = 14 ∨ r = 15 ∨ r = 16 ∨ r = 17 ∨ r = 18 ∨ r = 19 ∨ r = 20 ∨ r = 21 ∨ r = 22 ∨ r = 23 ∨ r = 24 ∨ r = 25 ∨ r = 26 ∨ r = 27 ∨ r = 28 ∨ r = 29 ∨ r = 30) with rfl | rfl | rfl | rfl | rfl | rfl | rfl | rfl | rfl | rfl | rfl | rfl | rfl | rfl | rfl | rfl | rfl | rfl | rfl | rfl | rfl | rfl | rfl | rfl | rfl | rfl | rfl | rfl | rfl | rfl | rfl
  all_goals
    cases h
    exact ⟨rfl, rfl, rfl⟩
/-- (~(~..0..)), k deep. -/
def nots : Nat → List UInt8
  | 0 => [48]
  | k + 1 => [40, 126] ++ nots k ++ [41]
def notT : Nat → Ex
  | 0 => .leaf 1 0 0
  | k + 1 => .one 7 (notT k)
theorem nots_par : parE (nots 63) 0 = .ok (notT 63) := by kernel_rfl
theorem nots_more : parE (nots 64) 0 = .error 4 := by kernel_rfl
theorem notT_size : (notT 63).size = 64 := by kernel_rfl
theorem nots_len : ∀ k, (nots k).length = 1 + 3 * k
  | 0 => rfl
  | k + 1 => by
    show ([40, 126] ++ nots k ++ [41] : List UInt8).length = _
    rw [List.length_append, List.length_append, nots_len k]
    simp
    omega
theorem nots_step (k : Nat) : (⟨#[40, 126]⟩ ++ ⟨(nots k).toArray⟩ ++ ⟨#[41]⟩ : ByteArray) = ⟨(nots (k + 1)).toArray⟩ := by
  apply ByteArray.ext
  rw [ByteArray.data_append, ByteArray.data_append]
  apply Array.ext'
  simp [nots]
theorem info_u8W : (Try.prog.info? 5).map (fun i => (i.zero, i.size, i.bytes)) = some (some (.int .u8 0), 1, 1) := by kernel_rfl
theorem made4097 : ∃ ZC : Array Value, (∀ W : World, (Instr.makeSlice 39 (.int .i64 4097) (.int .i64 4097)).run Try.prog W = .ok (.slice (some ⟨W.heap.size, 0, none⟩) 4097 4097) (W.alloc (.cells ZC 5))) ∧
    ∀ W : World, (convert 39 9 (.slice (some ⟨W.heap.size, 0, none⟩) 4097 4097)).run Try.prog (W.alloc (.cells ZC 5)) = .ok (.string ⟨(List.replicate 4097 0).toArray⟩) (W.alloc (.cells ZC 5)) := by
  obtain ⟨i0, hi, hz0, hz1, hz2⟩ := info_parts info_u8W
  refine ⟨madeCells (Value.int .u8 0).cells (4097 * 1), fun W => ?_, fun W => ?_⟩
  · have := run_makeSlice (P := Try.prog) W 39 5 i0 _ Try.underlying39 hi hz0 .i64 .i64 4097 4097 (by omega) (Int.le_refl _) (by rw [hz1]; omega) (by rw [hz2]; omega) (by omega)
    rw [this, hz1]
    rfl
  · have := run_convert_bytes_back (P := Try.prog) (W.alloc (.cells (madeCells (Value.int .u8 0).cells (4097 * 1)) 5)) 39 9 5 ⟨W.heap.size, 0, none⟩ 4097 (List.replicate 4097 0) Try.underlying39 Try.underlying5 Try.underlying9 (fun j hj => by
      have hj' : j < 4097 := by rw [List.length_replicate] at hj; exact hj
      rw [addr_add, World.cell?_alloc_at _ _ _ _ rfl, ← Array.getElem?_toList]
      show (madeCells #[Value.int .u8 0] (4097 * 1)).toList[j]? = _
      rw [Nat.mul_one, toList_madeCells_one, List.getElem?_replicate, if_pos hj', List.getElem_replicate]
      rfl)
    rw [List.length_replicate] at this
    exact this
theorem zeros_par : parE (List.replicate 4097 0) 0 = .error 4 := by
  unfold parE
  rw [if_neg (by decide), if_pos (by rw [List.length_replicate]; decide)]
theorem none_valid : (Ex.leaf 1 0 0).Valid 0 := ⟨by decide, by decide, ⟨by decide, fun _ => ⟨rfl, rfl⟩⟩, by decide, (fun h => by cases h), rfl⟩
set_option maxHeartbeats 8000000 in
theorem regexExamples_walk (w : World) : Calls Try.prog 3 #[] w fun e w' => e = .returned (.bool true) ∧ Below w.heap.size w w' := by
  have HAw := Lib.hid fun X => awake_any X
  go_enter Try.func3, Try.ntmps3
  go_wp2_with (go_at_call 6; ((with_reducible refine (HAw.out _).mono ?_); rintro r w2 ⟨rfl, hb2⟩))
  have hT1 := tblA_new w2 24
  have k1 := bal hb2 (.cells #[.string ⟨#[]⟩, .int .i64 0, .int .i64 3, .string ⟨#[48]⟩, .int .i64 7, .int .i64 7, .string ⟨#[120]⟩, .int .i64 (-1), .int .i64 7, .string ⟨#[40, 48, 46, 49]⟩, .int .i64 0, .int .i64 3, .string ⟨#[40, 48, 43, 49, 41]⟩, .int .i64 0, .int .i64 2, .string ⟨#[48, 49]⟩, .int .i64 0, .int .i64 5, .string ⟨#[48, 32]⟩, .int .i64 0, .int .i64 5, .string ⟨#[32, 48]⟩, .int .i64 0, .int .i64 2, .string ⟨#[40, 40, 62, 48, 41, 42, 41]⟩, .int .i64 0, .int .i64 2, .string ⟨#[40, 126, 40, 60, 48, 41, 41]⟩, .int .i64 0, .int .i64 2, .string ⟨#[40, 40, 62, 40, 60, 48, 41, 41, 38, 49, 41]⟩, .int .i64 0, .int .i64 2, .string ⟨#[40, 62, 40, 60, 48, 41, 41]⟩, .int .i64 0, .int .i64 2, .string ⟨#[40, 40, 62, 48, 41, 124, 40, 60, 49, 41, 41]⟩, .int .i64 0, .int .i64 0, .string ⟨#[91, 98, 93]⟩, .int .i64 1, .int .i64 7, .string ⟨#[91, 98, 93]⟩, .int .i64 2, .int .i64 0, .string ⟨#[91, 93]⟩, .int .i64 1, .int .i64 2, .string ⟨#[91, 33, 93]⟩, .int .i64 1, .int .i64 2, .string ⟨#[91, 98, 97, 93]⟩, .int .i64 2, .int .i64 2, .string ⟨#[91, 97, 97, 93]⟩, .int .i64 2, .int .i64 2, .string ⟨#[91, 102, 33]⟩, .int .i64 6, .int .i64 2, .string ⟨#[91, 102]⟩, .int .i64 6, .int .i64 3, .string ⟨#[91, 42, 97, 93]⟩, .int .i64 6, .int .i64 2, .string ⟨#[91, 97, 33, 98]⟩, .int .i64 6, .int .i64 3, .string ⟨#[40, 41]⟩, .int .i64 0, .int .i64 2, .string ⟨#[40, 48, 41]⟩, .int .i64 0, .int .i64 2, .string ⟨#[40, 48, 42]⟩, .int .i64 0, .int .i64 3, .string ⟨#[40, 48, 42, 42, 41]⟩, .int .i64 0, .int .i64 2, .string ⟨#[40, 126, 48, 42, 41]⟩, .int .i64 0, .int .i64 2, .string ⟨#[40]⟩, .int .i64 0, .int .i64 3, .string ⟨#[41]⟩, .int .i64 0, .int .i64 2, .string ⟨#[50]⟩, .int .i64 0, .int .i64 2] 24)
  obtain ⟨b, hbb⟩ : ∃ b, b = w2.heap.size := ⟨_, rfl⟩
  rw [← hbb] at hT1 ⊢
  clear hbb hb2
  generalize w2.alloc (.cells #[.string ⟨#[]⟩, .int .i64 0, .int .i64 3, .string ⟨#[48]⟩, .int .i64 7, .int .i64 7, .string ⟨#[120]⟩, .int .i64 (-1), .int .i64 7, .string ⟨#[40, 48, 46, 49]⟩, .int .i64 0, .int .i64 3, .string ⟨#[40, 48, 43, 49, 41]⟩, .int .i64 0, .int .i64 2, .string ⟨#[48, 49]⟩, .int .i64 0, .int .i64 5, .string ⟨#[48, 32]⟩, .int .i64 0, .int .i64 5, .string ⟨#[32, 48]⟩, .int .i64 0, .int .i64 2, .string ⟨#[40, 40, 62, 48, 41, 42, 41]⟩, .int .i64 0, .int .i64 2, .string ⟨#[40, 126, 40, 60, 48, 41, 41]⟩, .int .i64 0, .int .i64 2, .string ⟨#[40, 40, 62, 40, 60, 48, 41, 41, 38, 49, 41]⟩, .int .i64 0, .int .i64 2, .string ⟨#[40, 62, 40, 60, 48, 41, 41]⟩, .int .i64 0, .int .i64 2, .string ⟨#[40, 40, 62, 48, 41, 124, 40, 60, 49, 41, 41]⟩, .int .i64 0, .int .i64 0, .string ⟨#[91, 98, 93]⟩, .int .i64 1, .int .i64 7, .string ⟨#[91, 98, 93]⟩, .int .i64 2, .int .i64 0, .string ⟨#[91, 93]⟩, .int .i64 1, .int .i64 2, .string ⟨#[91, 33, 93]⟩, .int .i64 1, .int .i64 2, .string ⟨#[91, 98, 97, 93]⟩, .int .i64 2, .int .i64 2, .string ⟨#[91, 97, 97, 93]⟩, .int .i64 2, .int .i64 2, .string ⟨#[91, 102, 33]⟩, .int .i64 6, .int .i64 2, .string ⟨#[91, 102]⟩, .int .i64 6, .int .i64 3, .string ⟨#[91, 42, 97, 93]⟩, .int .i64 6, .int .i64 2, .string ⟨#[91, 97, 33, 98]⟩, .int .i64 6, .int .i64 3, .string ⟨#[40, 41]⟩, .int .i64 0, .int .i64 2, .string ⟨#[40, 48, 41]⟩, .int .i64 0, .int .i64 2, .string ⟨#[40, 48, 42]⟩, .int .i64 0, .int .i64 3, .string ⟨#[40, 48, 42, 42, 41]⟩, .int .i64 0, .int .i64 2, .string ⟨#[40, 126, 48, 42, 41]⟩, .int .i64 0, .int .i64 2, .string ⟨#[40]⟩, .int .i64 0, .int .i64 3, .string ⟨#[41]⟩, .int .i64 0, .int .i64 2, .string ⟨#[50]⟩, .int .i64 0, .int .i64 2] 24) = w3 at *
  go_loopw [2, 3, 4, 65] (fun _ _ _ i wr => ∃ k : Nat, k ≤ 31 ∧ i = .int .i64 k ∧ Hid (TblA wr b) ∧ Below w.heap.size w wr) (fun _ _ _ i _ => 31 - (intOf i).toNat)
  case atStart => exact ⟨0, by omega, rfl, hT1, k1⟩
  case round =>
    clear hT1 k1
    obtain ⟨k, hk, rfl, hT, hb⟩ := hrel
    by_cases h31 : k = 31
    · subst h31
      go_upto_region 10 with fail
      obtain ⟨i0, hi, hz0, hz1, hz2⟩ := info_parts info_piece
      obtain ⟨i1, hj, hy0, hy1, hy2⟩ := info_parts info_row
      refine wp_region_rec (fun i => (recs10.getD i .any).holds) (by kernel_rfl) (by kernel_rfl) (fun i v W W' h hb => Rec.below _ h hb) ?_ ?_
      · intro i oi A W ho hbW hpre
        clear HAw
        rw [List.getElem?_toArray] at ho
        rcases i with _ | i
        · rw [List.getElem?_cons_zero] at ho
          obtain rfl := Option.some.inj ho
          exact op_build _ _ rfl #[.slice none 0 0, .int .i64 (-1), .int .i64 (7)] (by kernel_rfl) ⟨_, rfl, Below.refl _ _, ⟨none, 0, rfl, fun j hj => absurd hj (Nat.not_lt_zero j)⟩⟩
        rw [List.getElem?_cons_succ] at ho
        rcases i with _ | i
        · rw [List.getElem?_cons_zero] at ho
          obtain rfl := Option.some.inj ho
          exact op_build _ _ rfl #[.slice none 0 0, .int .i64 (0), .int .i64 (3)] (by kernel_rfl) ⟨_, rfl, Below.refl _ _, ⟨none, 0, rfl, fun j hj => absurd hj (Nat.not_lt_zero j)⟩⟩
        rw [List.getElem?_cons_succ] at ho
        rcases i with _ | i
        · rw [List.getElem?_cons_zero] at ho
          obtain rfl := Option.some.inj ho
          exact op_make _ _ _ rfl _ _ (made65 W) ⟨_, rfl, bal (Below.refl _ _) _, ⟨_, 65, rfl, pcs_new _ _ (by decide) (fine_of (by decide))⟩⟩
        rw [List.getElem?_cons_succ] at ho
        rcases i with _ | i
        · rw [List.getElem?_cons_zero] at ho
          obtain rfl := Option.some.inj ho
          obtain ⟨B, c, e0, hB⟩ : SlcP (List.replicate 65 ⟨0, 0, 0, 0, 0⟩) (A.tmps.getD 94 undef) W := hpre ⟨2, .data⟩ (by simp) rfl 94 rfl
          exact op_build _ _ rfl #[.slice B (List.replicate 65 ⟨0, 0, 0, 0, 0⟩ : List Pc).length c, .int .i64 (0), .int .i64 (4)] (by show Program.built _ _ [(0, A.tmps.getD 94 undef), (1, _), (2, _)] = _; rw [e0]; kernel_rfl) ⟨_, rfl, Below.refl _ _, ⟨B, c, rfl, hB⟩⟩
        rw [List.getElem?_cons_succ] at ho
        rcases i with _ | i
        · rw [List.getElem?_cons_zero] at ho
          obtain rfl := Option.some.inj ho
          exact op_make _ _ _ rfl _ _ (made64 W) ⟨_, rfl, bal (Below.refl _ _) _, ⟨_, 64, rfl, pcs_new _ _ (by decide) (fine_of (by decide))⟩⟩
        rw [List.getElem?_cons_succ] at ho
        rcases i with _ | i
        · rw [List.getElem?_cons_zero] at ho
          obtain rfl := Option.some.inj ho
          obtain ⟨B, c, e0, hB⟩ : SlcP (List.replicate 64 ⟨0, 0, 0, 0, 0⟩) (A.tmps.getD 96 undef) W := hpre ⟨4, .data⟩ (by simp) rfl 96 rfl
          exact op_build _ _ rfl #[.slice B (List.replicate 64 ⟨0, 0, 0, 0, 0⟩ : List Pc).length c, .int .i64 (0), .int .i64 (6)] (by show Program.built _ _ [(0, A.tmps.getD 96 undef), (1, _), (2, _)] = _; rw [e0]; kernel_rfl) ⟨_, rfl, Below.refl _ _, ⟨B, c, rfl, hB⟩⟩
        rw [List.getElem?_cons_succ] at ho
        rcases i with _ | i
        · rw [List.getElem?_cons_zero] at ho
          obtain rfl := Option.some.inj ho
          exact op_build _ _ rfl (#[.int .u8 11, .int .u8 0, .int .u8 0, .int .i64 (0), .int .i64 (0)]) (by kernel_rfl) ⟨_, rfl, Below.refl _ _, rfl⟩
        rw [List.getElem?_cons_succ] at ho
        rcases i with _ | i
        · rw [List.getElem?_cons_zero] at ho
          obtain rfl := Option.some.inj ho
          have e0 : A.tmps.getD 98 undef = .agg #[.int .u8 11, .int .u8 0, .int .u8 0, .int .i64 (0), .int .i64 (0)] := hpre ⟨6, .data⟩ (by simp) rfl 98 rfl
          exact op_slice _ _ 1 _ rfl (pvs ([⟨11, 0, 0, 0, 0⟩] : List Pc)).toArray i0 _ Try.underlying27 hi hz0 (by rw [hz1]; decide) (by rw [hz1]; decide) (by rw [hz1]; show Instr.fill _ _ [(0, A.tmps.getD 98 undef)] = _; rw [e0]; kernel_rfl) ⟨_, rfl, bal (Below.refl _ _) _, ⟨_, 1, rfl, pcs_new _ _ (by decide) (fine_of (by decide))⟩⟩
        rw [List.getElem?_cons_succ] at ho
        rcases i with _ | i
        · rw [List.getElem?_cons_zero] at ho
          obtain rfl := Option.some.inj ho
          obtain ⟨B, c, e0, hB⟩ : SlcP ([⟨11, 0, 0, 0, 0⟩]) (A.tmps.getD 99 undef) W := hpre ⟨7, .data⟩ (by simp) rfl 99 rfl
          exact op_build _ _ rfl #[.slice B ([⟨11, 0, 0, 0, 0⟩] : List Pc).length c, .int .i64 (0), .int .i64 (6)] (by show Program.built _ _ [(0, A.tmps.getD 99 undef), (1, _), (2, _)] = _; rw [e0]; kernel_rfl) ⟨_, rfl, Below.refl _ _, ⟨B, c, rfl, hB⟩⟩
        rw [List.getElem?_cons_succ] at ho
        rcases i with _ | i
        · rw [List.getElem?_cons_zero] at ho
          obtain rfl := Option.some.inj ho
          exact op_build _ _ rfl (#[.int .u8 1, .int .u8 0, .int .u8 0, .int .i64 (1), .int .i64 (0)]) (by kernel_rfl) ⟨_, rfl, Below.refl _ _, rfl⟩
        rw [List.getElem?_cons_succ] at ho
        rcases i with _ | i
        · rw [List.getElem?_cons_zero] at ho
          obtain rfl := Option.some.inj ho
          have e0 : A.tmps.getD 101 undef = .agg #[.int .u8 1, .int .u8 0, .int .u8 0, .int .i64 (1), .int .i64 (0)] := hpre ⟨9, .data⟩ (by simp) rfl 101 rfl
          exact op_slice _ _ 1 _ rfl (pvs ([⟨1, 0, 0, 1, 0⟩] : List Pc)).toArray i0 _ Try.underlying27 hi hz0 (by rw [hz1]; decide) (by rw [hz1]; decide) (by rw [hz1]; show Instr.fill _ _ [(0, A.tmps.getD 101 undef)] = _; rw [e0]; kernel_rfl) ⟨_, rfl, bal (Below.refl _ _) _, ⟨_, 1, rfl, pcs_new _ _ (by decide) (fine_of (by decide))⟩⟩
        rw [List.getElem?_cons_succ] at ho
        rcases i with _ | i
        · rw [List.getElem?_cons_zero] at ho
          obtain rfl := Option.some.inj ho
          obtain ⟨B, c, e0, hB⟩ : SlcP ([⟨1, 0, 0, 1, 0⟩]) (A.tmps.getD 102 undef) W := hpre ⟨10, .data⟩ (by simp) rfl 102 rfl
          exact op_build _ _ rfl #[.slice B ([⟨1, 0, 0, 1, 0⟩] : List Pc).length c, .int .i64 (0), .int .i64 (2)] (by show Program.built _ _ [(0, A.tmps.getD 102 undef), (1, _), (2, _)] = _; rw [e0]; kernel_rfl) ⟨_, rfl, Below.refl _ _, ⟨B, c, rfl, hB⟩⟩
        rw [List.getElem?_cons_succ] at ho
        rcases i with _ | i
        · rw [List.getElem?_cons_zero] at ho
          obtain rfl := Option.some.inj ho
          exact op_build _ _ rfl (#[.int .u8 2, .int .u8 1, .int .u8 0, .int .i64 (0), .int .i64 (0)]) (by kernel_rfl) ⟨_, rfl, Below.refl _ _, rfl⟩
        rw [List.getElem?_cons_succ] at ho
        rcases i with _ | i
        · rw [List.getElem?_cons_zero] at ho
          obtain rfl := Option.some.inj ho
          have e0 : A.tmps.getD 104 undef = .agg #[.int .u8 2, .int .u8 1, .int .u8 0, .int .i64 (0), .int .i64 (0)] := hpre ⟨12, .data⟩ (by simp) rfl 104 rfl
          exact op_slice _ _ 1 _ rfl (pvs ([⟨2, 1, 0, 0, 0⟩] : List Pc)).toArray i0 _ Try.underlying27 hi hz0 (by rw [hz1]; decide) (by rw [hz1]; decide) (by rw [hz1]; show Instr.fill _ _ [(0, A.tmps.getD 104 undef)] = _; rw [e0]; kernel_rfl) ⟨_, rfl, bal (Below.refl _ _) _, ⟨_, 1, rfl, pcs_new _ _ (by decide) (fine_of (by decide))⟩⟩
        rw [List.getElem?_cons_succ] at ho
        rcases i with _ | i
        · rw [List.getElem?_cons_zero] at ho
          obtain rfl := Option.some.inj ho
          obtain ⟨B, c, e0, hB⟩ : SlcP ([⟨2, 1, 0, 0, 0⟩]) (A.tmps.getD 105 undef) W := hpre ⟨13, .data⟩ (by simp) rfl 105 rfl
          exact op_build _ _ rfl #[.slice B ([⟨2, 1, 0, 0, 0⟩] : List Pc).length c, .int .i64 (1), .int .i64 (2)] (by show Program.built _ _ [(0, A.tmps.getD 105 undef), (1, _), (2, _)] = _; rw [e0]; kernel_rfl) ⟨_, rfl, Below.refl _ _, ⟨B, c, rfl, hB⟩⟩
        rw [List.getElem?_cons_succ] at ho
        rcases i with _ | i
        · rw [List.getElem?_cons_zero] at ho
          obtain rfl := Option.some.inj ho
          exact op_build _ _ rfl (#[.int .u8 3, .int .u8 1, .int .u8 0, .int .i64 (0), .int .i64 (0)]) (by kernel_rfl) ⟨_, rfl, Below.refl _ _, rfl⟩
        rw [List.getElem?_cons_succ] at ho
        rcases i with _ | i
        · rw [List.getElem?_cons_zero] at ho
          obtain rfl := Option.some.inj ho
          have e0 : A.tmps.getD 107 undef = .agg #[.int .u8 3, .int .u8 1, .int .u8 0, .int .i64 (0), .int .i64 (0)] := hpre ⟨15, .data⟩ (by simp) rfl 107 rfl
          exact op_slice _ _ 1 _ rfl (pvs ([⟨3, 1, 0, 0, 0⟩] : List Pc)).toArray i0 _ Try.underlying27 hi hz0 (by rw [hz1]; decide) (by rw [hz1]; decide) (by rw [hz1]; show Instr.fill _ _ [(0, A.tmps.getD 107 undef)] = _; rw [e0]; kernel_rfl) ⟨_, rfl, bal (Below.refl _ _) _, ⟨_, 1, rfl, pcs_new _ _ (by decide) (fine_of (by decide))⟩⟩
        rw [List.getElem?_cons_succ] at ho
        rcases i with _ | i
        · rw [List.getElem?_cons_zero] at ho
          obtain rfl := Option.some.inj ho
          obtain ⟨B, c, e0, hB⟩ : SlcP ([⟨3, 1, 0, 0, 0⟩]) (A.tmps.getD 108 undef) W := hpre ⟨16, .data⟩ (by simp) rfl 108 rfl
          exact op_build _ _ rfl #[.slice B ([⟨3, 1, 0, 0, 0⟩] : List Pc).length c, .int .i64 (0), .int .i64 (7)] (by show Program.built _ _ [(0, A.tmps.getD 108 undef), (1, _), (2, _)] = _; rw [e0]; kernel_rfl) ⟨_, rfl, Below.refl _ _, ⟨B, c, rfl, hB⟩⟩
        rw [List.getElem?_cons_succ] at ho
        rcases i with _ | i
        · rw [List.getElem?_cons_zero] at ho
          obtain rfl := Option.some.inj ho
          exact op_build _ _ rfl (#[.int .u8 3, .int .u8 1, .int .u8 1, .int .i64 (0), .int .i64 (0)]) (by kernel_rfl) ⟨_, rfl, Below.refl _ _, rfl⟩
        rw [List.getElem?_cons_succ] at ho
        rcases i with _ | i
        · rw [List.getElem?_cons_zero] at ho
          obtain rfl := Option.some.inj ho
          have e0 : A.tmps.getD 110 undef = .agg #[.int .u8 3, .int .u8 1, .int .u8 1, .int .i64 (0), .int .i64 (0)] := hpre ⟨18, .data⟩ (by simp) rfl 110 rfl
          exact op_slice _ _ 1 _ rfl (pvs ([⟨3, 1, 1, 0, 0⟩] : List Pc)).toArray i0 _ Try.underlying27 hi hz0 (by rw [hz1]; decide) (by rw [hz1]; decide) (by rw [hz1]; show Instr.fill _ _ [(0, A.tmps.getD 110 undef)] = _; rw [e0]; kernel_rfl) ⟨_, rfl, bal (Below.refl _ _) _, ⟨_, 1, rfl, pcs_new _ _ (by decide) (fine_of (by decide))⟩⟩
        rw [List.getElem?_cons_succ] at ho
        rcases i with _ | i
        · rw [List.getElem?_cons_zero] at ho
          obtain rfl := Option.some.inj ho
          obtain ⟨B, c, e0, hB⟩ : SlcP ([⟨3, 1, 1, 0, 0⟩]) (A.tmps.getD 111 undef) W := hpre ⟨19, .data⟩ (by simp) rfl 111 rfl
          exact op_build _ _ rfl #[.slice B ([⟨3, 1, 1, 0, 0⟩] : List Pc).length c, .int .i64 (1), .int .i64 (2)] (by show Program.built _ _ [(0, A.tmps.getD 111 undef), (1, _), (2, _)] = _; rw [e0]; kernel_rfl) ⟨_, rfl, Below.refl _ _, ⟨B, c, rfl, hB⟩⟩
        rw [List.getElem?_cons_succ] at ho
        rcases i with _ | i
        · rw [List.getElem?_cons_zero] at ho
          obtain rfl := Option.some.inj ho
          exact op_build _ _ rfl (#[.int .u8 1, .int .u8 0, .int .u8 0, .int .i64 (0), .int .i64 (0)]) (by kernel_rfl) ⟨_, rfl, Below.refl _ _, rfl⟩
        rw [List.getElem?_cons_succ] at ho
        rcases i with _ | i
        · rw [List.getElem?_cons_zero] at ho
          obtain rfl := Option.some.inj ho
          exact op_build _ _ rfl (#[.int .u8 1, .int .u8 0, .int .u8 0, .int .i64 (0), .int .i64 (0)]) (by kernel_rfl) ⟨_, rfl, Below.refl _ _, rfl⟩
        rw [List.getElem?_cons_succ] at ho
        rcases i with _ | i
        · rw [List.getElem?_cons_zero] at ho
          obtain rfl := Option.some.inj ho
          have e0 : A.tmps.getD 113 undef = .agg #[.int .u8 1, .int .u8 0, .int .u8 0, .int .i64 (0), .int .i64 (0)] := hpre ⟨21, .data⟩ (by simp) rfl 113 rfl
          have e1 : A.tmps.getD 114 undef = .agg #[.int .u8 1, .int .u8 0, .int .u8 0, .int .i64 (0), .int .i64 (0)] := hpre ⟨22, .data⟩ (by simp) rfl 114 rfl
          exact op_slice _ _ 2 _ rfl (pvs ([⟨1, 0, 0, 0, 0⟩, ⟨1, 0, 0, 0, 0⟩] : List Pc)).toArray i0 _ Try.underlying27 hi hz0 (by rw [hz1]; decide) (by rw [hz1]; decide) (by rw [hz1]; show Instr.fill _ _ [(0, A.tmps.getD 113 undef), (1, A.tmps.getD 114 undef)] = _; rw [e0, e1]; kernel_rfl) ⟨_, rfl, bal (Below.refl _ _) _, ⟨_, 2, rfl, pcs_new _ _ (by decide) (fine_of (by decide))⟩⟩
        rw [List.getElem?_cons_succ] at ho
        rcases i with _ | i
        · rw [List.getElem?_cons_zero] at ho
          obtain rfl := Option.some.inj ho
          obtain ⟨B, c, e0, hB⟩ : SlcP ([⟨1, 0, 0, 0, 0⟩, ⟨1, 0, 0, 0, 0⟩]) (A.tmps.getD 115 undef) W := hpre ⟨23, .data⟩ (by simp) rfl 115 rfl
          exact op_build _ _ rfl #[.slice B ([⟨1, 0, 0, 0, 0⟩, ⟨1, 0, 0, 0, 0⟩] : List Pc).length c, .int .i64 (0), .int .i64 (2)] (by show Program.built _ _ [(0, A.tmps.getD 115 undef), (1, _), (2, _)] = _; rw [e0]; kernel_rfl) ⟨_, rfl, Below.refl _ _, ⟨B, c, rfl, hB⟩⟩
        rw [List.getElem?_cons_succ] at ho
        rcases i with _ | i
        · rw [List.getElem?_cons_zero] at ho
          obtain rfl := Option.some.inj ho
          exact op_build _ _ rfl (#[.int .u8 7, .int .u8 0, .int .u8 0, .int .i64 (-1), .int .i64 (0)]) (by kernel_rfl) ⟨_, rfl, Below.refl _ _, rfl⟩
        rw [List.getElem?_cons_succ] at ho
        rcases i with _ | i
        · rw [List.getElem?_cons_zero] at ho
          obtain rfl := Option.some.inj ho
          have e0 : A.tmps.getD 117 undef = .agg #[.int .u8 7, .int .u8 0, .int .u8 0, .int .i64 (-1), .int .i64 (0)] := hpre ⟨25, .data⟩ (by simp) rfl 117 rfl
          exact op_slice _ _ 1 _ rfl (pvs ([⟨7, 0, 0, -1, 0⟩] : List Pc)).toArray i0 _ Try.underlying27 hi hz0 (by rw [hz1]; decide) (by rw [hz1]; decide) (by rw [hz1]; show Instr.fill _ _ [(0, A.tmps.getD 117 undef)] = _; rw [e0]; kernel_rfl) ⟨_, rfl, bal (Below.refl _ _) _, ⟨_, 1, rfl, pcs_new _ _ (by decide) (fine_of (by decide))⟩⟩
        rw [List.getElem?_cons_succ] at ho
        rcases i with _ | i
        · rw [List.getElem?_cons_zero] at ho
          obtain rfl := Option.some.inj ho
          obtain ⟨B, c, e0, hB⟩ : SlcP ([⟨7, 0, 0, -1, 0⟩]) (A.tmps.getD 118 undef) W := hpre ⟨26, .data⟩ (by simp) rfl 118 rfl
          exact op_build _ _ rfl #[.slice B ([⟨7, 0, 0, -1, 0⟩] : List Pc).length c, .int .i64 (0), .int .i64 (8)] (by show Program.built _ _ [(0, A.tmps.getD 118 undef), (1, _), (2, _)] = _; rw [e0]; kernel_rfl) ⟨_, rfl, Below.refl _ _, ⟨B, c, rfl, hB⟩⟩
        rw [List.getElem?_cons_succ] at ho
        rcases i with _ | i
        · rw [List.getElem?_cons_zero] at ho
          obtain rfl := Option.some.inj ho
          exact op_build _ _ rfl (#[.int .u8 1, .int .u8 0, .int .u8 0, .int .i64 (0), .int .i64 (0)]) (by kernel_rfl) ⟨_, rfl, Below.refl _ _, rfl⟩
        rw [List.getElem?_cons_succ] at ho
        rcases i with _ | i
        · rw [List.getElem?_cons_zero] at ho
          obtain rfl := Option.some.inj ho
          exact op_build _ _ rfl (#[.int .u8 4, .int .u8 0, .int .u8 0, .int .i64 (0), .int .i64 (0)]) (by kernel_rfl) ⟨_, rfl, Below.refl _ _, rfl⟩
        rw [List.getElem?_cons_succ] at ho
        rcases i with _ | i
        · rw [List.getElem?_cons_zero] at ho
          obtain rfl := Option.some.inj ho
          have e0 : A.tmps.getD 120 undef = .agg #[.int .u8 1, .int .u8 0, .int .u8 0, .int .i64 (0), .int .i64 (0)] := hpre ⟨28, .data⟩ (by simp) rfl 120 rfl
          have e1 : A.tmps.getD 121 undef = .agg #[.int .u8 4, .int .u8 0, .int .u8 0, .int .i64 (0), .int .i64 (0)] := hpre ⟨29, .data⟩ (by simp) rfl 121 rfl
          exact op_slice _ _ 2 _ rfl (pvs ([⟨1, 0, 0, 0, 0⟩, ⟨4, 0, 0, 0, 0⟩] : List Pc)).toArray i0 _ Try.underlying27 hi hz0 (by rw [hz1]; decide) (by rw [hz1]; decide) (by rw [hz1]; show Instr.fill _ _ [(0, A.tmps.getD 120 undef), (1, A.tmps.getD 121 undef)] = _; rw [e0, e1]; kernel_rfl) ⟨_, rfl, bal (Below.refl _ _) _, ⟨_, 2, rfl, pcs_new _ _ (by decide) (fine_of (by decide))⟩⟩
        rw [List.getElem?_cons_succ] at ho
        rcases i with _ | i
        · rw [List.getElem?_cons_zero] at ho
          obtain rfl := Option.some.inj ho
          obtain ⟨B, c, e0, hB⟩ : SlcP ([⟨1, 0, 0, 0, 0⟩, ⟨4, 0, 0, 0, 0⟩]) (A.tmps.getD 122 undef) W := hpre ⟨30, .data⟩ (by simp) rfl 122 rfl
          exact op_build _ _ rfl #[.slice B ([⟨1, 0, 0, 0, 0⟩, ⟨4, 0, 0, 0, 0⟩] : List Pc).length c, .int .i64 (0), .int .i64 (8)] (by show Program.built _ _ [(0, A.tmps.getD 122 undef), (1, _), (2, _)] = _; rw [e0]; kernel_rfl) ⟨_, rfl, Below.refl _ _, ⟨B, c, rfl, hB⟩⟩
        rw [List.getElem?_cons_succ] at ho
        rcases i with _ | i
        · rw [List.getElem?_cons_zero] at ho
          obtain rfl := Option.some.inj ho
          exact op_build _ _ rfl (#[.int .u8 1, .int .u8 0, .int .u8 0, .int .i64 (0), .int .i64 (0)]) (by kernel_rfl) ⟨_, rfl, Below.refl _ _, rfl⟩
        rw [List.getElem?_cons_succ] at ho
        rcases i with _ | i
        · rw [List.getElem?_cons_zero] at ho
          obtain rfl := Option.some.inj ho
          exact op_build _ _ rfl (#[.int .u8 1, .int .u8 0, .int .u8 0, .int .i64 (0), .int .i64 (0)]) (by kernel_rfl) ⟨_, rfl, Below.refl _ _, rfl⟩
        rw [List.getElem?_cons_succ] at ho
        rcases i with _ | i
        · rw [List.getElem?_cons_zero] at ho
          obtain rfl := Option.some.inj ho
          exact op_build _ _ rfl (#[.int .u8 4, .int .u8 0, .int .u8 0, .int .i64 (1), .int .i64 (0)]) (by kernel_rfl) ⟨_, rfl, Below.refl _ _, rfl⟩
        rw [List.getElem?_cons_succ] at ho
        rcases i with _ | i
        · rw [List.getElem?_cons_zero] at ho
          obtain rfl := Option.some.inj ho
          have e0 : A.tmps.getD 124 undef = .agg #[.int .u8 1, .int .u8 0, .int .u8 0, .int .i64 (0), .int .i64 (0)] := hpre ⟨32, .data⟩ (by simp) rfl 124 rfl
          have e1 : A.tmps.getD 125 undef = .agg #[.int .u8 1, .int .u8 0, .int .u8 0, .int .i64 (0), .int .i64 (0)] := hpre ⟨33, .data⟩ (by simp) rfl 125 rfl
          have e2 : A.tmps.getD 126 undef = .agg #[.int .u8 4, .int .u8 0, .int .u8 0, .int .i64 (1), .int .i64 (0)] := hpre ⟨34, .data⟩ (by simp) rfl 126 rfl
          exact op_slice _ _ 3 _ rfl (pvs ([⟨1, 0, 0, 0, 0⟩, ⟨1, 0, 0, 0, 0⟩, ⟨4, 0, 0, 1, 0⟩] : List Pc)).toArray i0 _ Try.underlying27 hi hz0 (by rw [hz1]; decide) (by rw [hz1]; decide) (by rw [hz1]; show Instr.fill _ _ [(0, A.tmps.getD 124 undef), (1, A.tmps.getD 125 undef), (2, A.tmps.getD 126 undef)] = _; rw [e0, e1, e2]; kernel_rfl) ⟨_, rfl, bal (Below.refl _ _) _, ⟨_, 3, rfl, pcs_new _ _ (by decide) (fine_of (by decide))⟩⟩
        rw [List.getElem?_cons_succ] at ho
        rcases i with _ | i
        · rw [List.getElem?_cons_zero] at ho
          obtain rfl := Option.some.inj ho
          obtain ⟨B, c, e0, hB⟩ : SlcP ([⟨1, 0, 0, 0, 0⟩, ⟨1, 0, 0, 0, 0⟩, ⟨4, 0, 0, 1, 0⟩]) (A.tmps.getD 127 undef) W := hpre ⟨35, .data⟩ (by simp) rfl 127 rfl
          exact op_build _ _ rfl #[.slice B ([⟨1, 0, 0, 0, 0⟩, ⟨1, 0, 0, 0, 0⟩, ⟨4, 0, 0, 1, 0⟩] : List Pc).length c, .int .i64 (0), .int .i64 (8)] (by show Program.built _ _ [(0, A.tmps.getD 127 undef), (1, _), (2, _)] = _; rw [e0]; kernel_rfl) ⟨_, rfl, Below.refl _ _, ⟨B, c, rfl, hB⟩⟩
        rw [List.getElem?_cons_succ] at ho
        rcases i with _ | i
        · rw [List.getElem?_cons_zero] at ho
          obtain rfl := Option.some.inj ho
          exact op_build _ _ rfl (#[.int .u8 1, .int .u8 0, .int .u8 0, .int .i64 (0), .int .i64 (0)]) (by kernel_rfl) ⟨_, rfl, Below.refl _ _, rfl⟩
        rw [List.getElem?_cons_succ] at ho
        rcases i with _ | i
        · rw [List.getElem?_cons_zero] at ho
          obtain rfl := Option.some.inj ho
          exact op_build _ _ rfl (#[.int .u8 1, .int .u8 0, .int .u8 0, .int .i64 (0), .int .i64 (0)]) (by kernel_rfl) ⟨_, rfl, Below.refl _ _, rfl⟩
        rw [List.getElem?_cons_succ] at ho
        rcases i with _ | i
        · rw [List.getElem?_cons_zero] at ho
          obtain rfl := Option.some.inj ho
          exact op_build _ _ rfl (#[.int .u8 4, .int .u8 0, .int .u8 0, .int .i64 (0), .int .i64 (1)]) (by kernel_rfl) ⟨_, rfl, Below.refl _ _, rfl⟩
        rw [List.getElem?_cons_succ] at ho
        rcases i with _ | i
        · rw [List.getElem?_cons_zero] at ho
          obtain rfl := Option.some.inj ho
          have e0 : A.tmps.getD 129 undef = .agg #[.int .u8 1, .int .u8 0, .int .u8 0, .int .i64 (0), .int .i64 (0)] := hpre ⟨37, .data⟩ (by simp) rfl 129 rfl
          have e1 : A.tmps.getD 130 undef = .agg #[.int .u8 1, .int .u8 0, .int .u8 0, .int .i64 (0), .int .i64 (0)] := hpre ⟨38, .data⟩ (by simp) rfl 130 rfl
          have e2 : A.tmps.getD 131 undef = .agg #[.int .u8 4, .int .u8 0, .int .u8 0, .int .i64 (0), .int .i64 (1)] := hpre ⟨39, .data⟩ (by simp) rfl 131 rfl
          exact op_slice _ _ 3 _ rfl (pvs ([⟨1, 0, 0, 0, 0⟩, ⟨1, 0, 0, 0, 0⟩, ⟨4, 0, 0, 0, 1⟩] : List Pc)).toArray i0 _ Try.underlying27 hi hz0 (by rw [hz1]; decide) (by rw [hz1]; decide) (by rw [hz1]; show Instr.fill _ _ [(0, A.tmps.getD 129 undef), (1, A.tmps.getD 130 undef), (2, A.tmps.getD 131 undef)] = _; rw [e0, e1, e2]; kernel_rfl) ⟨_, rfl, bal (Below.refl _ _) _, ⟨_, 3, rfl, pcs_new _ _ (by decide) (fine_of (by decide))⟩⟩
        rw [List.getElem?_cons_succ] at ho
        rcases i with _ | i
        · rw [List.getElem?_cons_zero] at ho
          obtain rfl := Option.some.inj ho
          obtain ⟨B, c, e0, hB⟩ : SlcP ([⟨1, 0, 0, 0, 0⟩, ⟨1, 0, 0, 0, 0⟩, ⟨4, 0, 0, 0, 1⟩]) (A.tmps.getD 132 undef) W := hpre ⟨40, .data⟩ (by simp) rfl 132 rfl
          exact op_build _ _ rfl #[.slice B ([⟨1, 0, 0, 0, 0⟩, ⟨1, 0, 0, 0, 0⟩, ⟨4, 0, 0, 0, 1⟩] : List Pc).length c, .int .i64 (0), .int .i64 (0)] (by show Program.built _ _ [(0, A.tmps.getD 132 undef), (1, _), (2, _)] = _; rw [e0]; kernel_rfl) ⟨_, rfl, Below.refl _ _, ⟨B, c, rfl, hB⟩⟩
        rw [List.getElem?_cons_succ] at ho
        rcases i with _ | i
        · rw [List.getElem?_cons_zero] at ho
          obtain rfl := Option.some.inj ho
          exact op_build _ _ rfl (#[.int .u8 1, .int .u8 0, .int .u8 0, .int .i64 (0), .int .i64 (0)]) (by kernel_rfl) ⟨_, rfl, Below.refl _ _, rfl⟩
        rw [List.getElem?_cons_succ] at ho
        rcases i with _ | i
        · rw [List.getElem?_cons_zero] at ho
          obtain rfl := Option.some.inj ho
          exact op_build _ _ rfl (#[.int .u8 7, .int .u8 0, .int .u8 0, .int .i64 (0), .int .i64 (1)]) (by kernel_rfl) ⟨_, rfl, Below.refl _ _, rfl⟩
        rw [List.getElem?_cons_succ] at ho
        rcases i with _ | i
        · rw [List.getElem?_cons_zero] at ho
          obtain rfl := Option.some.inj ho
          have e0 : A.tmps.getD 134 undef = .agg #[.int .u8 1, .int .u8 0, .int .u8 0, .int .i64 (0), .int .i64 (0)] := hpre ⟨42, .data⟩ (by simp) rfl 134 rfl
          have e1 : A.tmps.getD 135 undef = .agg #[.int .u8 7, .int .u8 0, .int .u8 0, .int .i64 (0), .int .i64 (1)] := hpre ⟨43, .data⟩ (by simp) rfl 135 rfl
          exact op_slice _ _ 2 _ rfl (pvs ([⟨1, 0, 0, 0, 0⟩, ⟨7, 0, 0, 0, 1⟩] : List Pc)).toArray i0 _ Try.underlying27 hi hz0 (by rw [hz1]; decide) (by rw [hz1]; decide) (by rw [hz1]; show Instr.fill _ _ [(0, A.tmps.getD 134 undef), (1, A.tmps.getD 135 undef)] = _; rw [e0, e1]; kernel_rfl) ⟨_, rfl, bal (Below.refl _ _) _, ⟨_, 2, rfl, pcs_new _ _ (by decide) (fine_of (by decide))⟩⟩
        rw [List.getElem?_cons_succ] at ho
        rcases i with _ | i
        · rw [List.getElem?_cons_zero] at ho
          obtain rfl := Option.some.inj ho
          obtain ⟨B, c, e0, hB⟩ : SlcP ([⟨1, 0, 0, 0, 0⟩, ⟨7, 0, 0, 0, 1⟩]) (A.tmps.getD 136 undef) W := hpre ⟨44, .data⟩ (by simp) rfl 136 rfl
          exact op_build _ _ rfl #[.slice B ([⟨1, 0, 0, 0, 0⟩, ⟨7, 0, 0, 0, 1⟩] : List Pc).length c, .int .i64 (0), .int .i64 (2)] (by show Program.built _ _ [(0, A.tmps.getD 136 undef), (1, _), (2, _)] = _; rw [e0]; kernel_rfl) ⟨_, rfl, Below.refl _ _, ⟨B, c, rfl, hB⟩⟩
        rw [List.getElem?_cons_succ] at ho
        rcases i with _ | i
        · rw [List.getElem?_cons_zero] at ho
          obtain rfl := Option.some.inj ho
          exact op_build _ _ rfl (#[.int .u8 1, .int .u8 0, .int .u8 0, .int .i64 (0), .int .i64 (0)]) (by kernel_rfl) ⟨_, rfl, Below.refl _ _, rfl⟩
        rw [List.getElem?_cons_succ] at ho
        rcases i with _ | i
        · rw [List.getElem?_cons_zero] at ho
          obtain rfl := Option.some.inj ho
          exact op_build _ _ rfl (#[.int .u8 9, .int .u8 0, .int .u8 0, .int .i64 (0), .int .i64 (0)]) (by kernel_rfl) ⟨_, rfl, Below.refl _ _, rfl⟩
        rw [List.getElem?_cons_succ] at ho
        rcases i with _ | i
        · rw [List.getElem?_cons_zero] at ho
          obtain rfl := Option.some.inj ho
          exact op_build _ _ rfl (#[.int .u8 8, .int .u8 0, .int .u8 0, .int .i64 (1), .int .i64 (0)]) (by kernel_rfl) ⟨_, rfl, Below.refl _ _, rfl⟩
        rw [List.getElem?_cons_succ] at ho
        rcases i with _ | i
        · rw [List.getElem?_cons_zero] at ho
          obtain rfl := Option.some.inj ho
          have e0 : A.tmps.getD 138 undef = .agg #[.int .u8 1, .int .u8 0, .int .u8 0, .int .i64 (0), .int .i64 (0)] := hpre ⟨46, .data⟩ (by simp) rfl 138 rfl
          have e1 : A.tmps.getD 139 undef = .agg #[.int .u8 9, .int .u8 0, .int .u8 0, .int .i64 (0), .int .i64 (0)] := hpre ⟨47, .data⟩ (by simp) rfl 139 rfl
          have e2 : A.tmps.getD 140 undef = .agg #[.int .u8 8, .int .u8 0, .int .u8 0, .int .i64 (1), .int .i64 (0)] := hpre ⟨48, .data⟩ (by simp) rfl 140 rfl
          exact op_slice _ _ 3 _ rfl (pvs ([⟨1, 0, 0, 0, 0⟩, ⟨9, 0, 0, 0, 0⟩, ⟨8, 0, 0, 1, 0⟩] : List Pc)).toArray i0 _ Try.underlying27 hi hz0 (by rw [hz1]; decide) (by rw [hz1]; decide) (by rw [hz1]; show Instr.fill _ _ [(0, A.tmps.getD 138 undef), (1, A.tmps.getD 139 undef), (2, A.tmps.getD 140 undef)] = _; rw [e0, e1, e2]; kernel_rfl) ⟨_, rfl, bal (Below.refl _ _) _, ⟨_, 3, rfl, pcs_new _ _ (by decide) (fine_of (by decide))⟩⟩
        rw [List.getElem?_cons_succ] at ho
        rcases i with _ | i
        · rw [List.getElem?_cons_zero] at ho
          obtain rfl := Option.some.inj ho
          obtain ⟨B, c, e0, hB⟩ : SlcP ([⟨1, 0, 0, 0, 0⟩, ⟨9, 0, 0, 0, 0⟩, ⟨8, 0, 0, 1, 0⟩]) (A.tmps.getD 141 undef) W := hpre ⟨49, .data⟩ (by simp) rfl 141 rfl
          exact op_build _ _ rfl #[.slice B ([⟨1, 0, 0, 0, 0⟩, ⟨9, 0, 0, 0, 0⟩, ⟨8, 0, 0, 1, 0⟩] : List Pc).length c, .int .i64 (0), .int .i64 (2)] (by show Program.built _ _ [(0, A.tmps.getD 141 undef), (1, _), (2, _)] = _; rw [e0]; kernel_rfl) ⟨_, rfl, Below.refl _ _, ⟨B, c, rfl, hB⟩⟩
        rw [List.getElem?_cons_succ] at ho
        rcases i with _ | i
        · rw [List.getElem?_cons_zero] at ho
          obtain rfl := Option.some.inj ho
          obtain ⟨B0, c0, e0, h0⟩ : RowP ([]) (-1) (7) (A.tmps.getD 92 undef) W := hpre ⟨0, .data⟩ (by simp) rfl 92 rfl
          obtain ⟨B1, c1, e1, h1⟩ : RowP ([]) (0) (3) (A.tmps.getD 93 undef) W := hpre ⟨1, .data⟩ (by simp) rfl 93 rfl
          obtain ⟨B2, c2, e2, h2⟩ : RowP (List.replicate 65 ⟨0, 0, 0, 0, 0⟩) (0) (4) (A.tmps.getD 95 undef) W := hpre ⟨3, .data⟩ (by simp) rfl 95 rfl
          obtain ⟨B3, c3, e3, h3⟩ : RowP (List.replicate 64 ⟨0, 0, 0, 0, 0⟩) (0) (6) (A.tmps.getD 97 undef) W := hpre ⟨5, .data⟩ (by simp) rfl 97 rfl
          obtain ⟨B4, c4, e4, h4⟩ : RowP ([⟨11, 0, 0, 0, 0⟩]) (0) (6) (A.tmps.getD 100 undef) W := hpre ⟨8, .data⟩ (by simp) rfl 100 rfl
          obtain ⟨B5, c5, e5, h5⟩ : RowP ([⟨1, 0, 0, 1, 0⟩]) (0) (2) (A.tmps.getD 103 undef) W := hpre ⟨11, .data⟩ (by simp) rfl 103 rfl
          obtain ⟨B6, c6, e6, h6⟩ : RowP ([⟨2, 1, 0, 0, 0⟩]) (1) (2) (A.tmps.getD 106 undef) W := hpre ⟨14, .data⟩ (by simp) rfl 106 rfl
          obtain ⟨B7, c7, e7, h7⟩ : RowP ([⟨3, 1, 0, 0, 0⟩]) (0) (7) (A.tmps.getD 109 undef) W := hpre ⟨17, .data⟩ (by simp) rfl 109 rfl
          obtain ⟨B8, c8, e8, h8⟩ : RowP ([⟨3, 1, 1, 0, 0⟩]) (1) (2) (A.tmps.getD 112 undef) W := hpre ⟨20, .data⟩ (by simp) rfl 112 rfl
          obtain ⟨B9, c9, e9, h9⟩ : RowP ([⟨1, 0, 0, 0, 0⟩, ⟨1, 0, 0, 0, 0⟩]) (0) (2) (A.tmps.getD 116 undef) W := hpre ⟨24, .data⟩ (by simp) rfl 116 rfl
          obtain ⟨B10, c10, e10, h10⟩ : RowP ([⟨7, 0, 0, -1, 0⟩]) (0) (8) (A.tmps.getD 119 undef) W := hpre ⟨27, .data⟩ (by simp) rfl 119 rfl
          obtain ⟨B11, c11, e11, h11⟩ : RowP ([⟨1, 0, 0, 0, 0⟩, ⟨4, 0, 0, 0, 0⟩]) (0) (8) (A.tmps.getD 123 undef) W := hpre ⟨31, .data⟩ (by simp) rfl 123 rfl
          obtain ⟨B12, c12, e12, h12⟩ : RowP ([⟨1, 0, 0, 0, 0⟩, ⟨1, 0, 0, 0, 0⟩, ⟨4, 0, 0, 1, 0⟩]) (0) (8) (A.tmps.getD 128 undef) W := hpre ⟨36, .data⟩ (by simp) rfl 128 rfl
          obtain ⟨B13, c13, e13, h13⟩ : RowP ([⟨1, 0, 0, 0, 0⟩, ⟨1, 0, 0, 0, 0⟩, ⟨4, 0, 0, 0, 1⟩]) (0) (0) (A.tmps.getD 133 undef) W := hpre ⟨41, .data⟩ (by simp) rfl 133 rfl
          obtain ⟨B14, c14, e14, h14⟩ : RowP ([⟨1, 0, 0, 0, 0⟩, ⟨7, 0, 0, 0, 1⟩]) (0) (2) (A.tmps.getD 137 undef) W := hpre ⟨45, .data⟩ (by simp) rfl 137 rfl
          obtain ⟨B15, c15, e15, h15⟩ : RowP ([⟨1, 0, 0, 0, 0⟩, ⟨9, 0, 0, 0, 0⟩, ⟨8, 0, 0, 1, 0⟩]) (0) (2) (A.tmps.getD 142 undef) W := hpre ⟨50, .data⟩ (by simp) rfl 142 rfl
          have b1 := bal (Below.refl W.heap.size W) (.cells ([.slice B0 ([] : List Pc).length c0, .int .i64 (-1), .int .i64 (7), .slice B1 ([] : List Pc).length c1, .int .i64 (0), .int .i64 (3), .slice B2 (List.replicate 65 ⟨0, 0, 0, 0, 0⟩ : List Pc).length c2, .int .i64 (0), .int .i64 (4), .slice B3 (List.replicate 64 ⟨0, 0, 0, 0, 0⟩ : List Pc).length c3, .int .i64 (0), .int .i64 (6), .slice B4 ([⟨11, 0, 0, 0, 0⟩] : List Pc).length c4, .int .i64 (0), .int .i64 (6), .slice B5 ([⟨1, 0, 0, 1, 0⟩] : List Pc).length c5, .int .i64 (0), .int .i64 (2), .slice B6 ([⟨2, 1, 0, 0, 0⟩] : List Pc).length c6, .int .i64 (1), .int .i64 (2), .slice B7 ([⟨3, 1, 0, 0, 0⟩] : List Pc).length c7, .int .i64 (0), .int .i64 (7), .slice B8 ([⟨3, 1, 1, 0, 0⟩] : List Pc).length c8, .int .i64 (1), .int .i64 (2), .slice B9 ([⟨1, 0, 0, 0, 0⟩, ⟨1, 0, 0, 0, 0⟩] : List Pc).length c9, .int .i64 (0), .int .i64 (2), .slice B10 ([⟨7, 0, 0, -1, 0⟩] : List Pc).length c10, .int .i64 (0), .int .i64 (8), .slice B11 ([⟨1, 0, 0, 0, 0⟩, ⟨4, 0, 0, 0, 0⟩] : List Pc).length c11, .int .i64 (0), .int .i64 (8), .slice B12 ([⟨1, 0, 0, 0, 0⟩, ⟨1, 0, 0, 0, 0⟩, ⟨4, 0, 0, 1, 0⟩] : List Pc).length c12, .int .i64 (0), .int .i64 (8), .slice B13 ([⟨1, 0, 0, 0, 0⟩, ⟨1, 0, 0, 0, 0⟩, ⟨4, 0, 0, 0, 1⟩] : List Pc).length c13, .int .i64 (0), .int .i64 (0), .slice B14 ([⟨1, 0, 0, 0, 0⟩, ⟨7, 0, 0, 0, 1⟩] : List Pc).length c14, .int .i64 (0), .int .i64 (2), .slice B15 ([⟨1, 0, 0, 0, 0⟩, ⟨9, 0, 0, 0, 0⟩, ⟨8, 0, 0, 1, 0⟩] : List Pc).length c15, .int .i64 (0), .int .i64 (2)] : List Value).toArray 30)
          refine op_slice _ _ 16 _ rfl ([.slice B0 ([] : List Pc).length c0, .int .i64 (-1), .int .i64 (7), .slice B1 ([] : List Pc).length c1, .int .i64 (0), .int .i64 (3), .slice B2 (List.replicate 65 ⟨0, 0, 0, 0, 0⟩ : List Pc).length c2, .int .i64 (0), .int .i64 (4), .slice B3 (List.replicate 64 ⟨0, 0, 0, 0, 0⟩ : List Pc).length c3, .int .i64 (0), .int .i64 (6), .slice B4 ([⟨11, 0, 0, 0, 0⟩] : List Pc).length c4, .int .i64 (0), .int .i64 (6), .slice B5 ([⟨1, 0, 0, 1, 0⟩] : List Pc).length c5, .int .i64 (0), .int .i64 (2), .slice B6 ([⟨2, 1, 0, 0, 0⟩] : List Pc).length c6, .int .i64 (1), .int .i64 (2), .slice B7 ([⟨3, 1, 0, 0, 0⟩] : List Pc).length c7, .int .i64 (0), .int .i64 (7), .slice B8 ([⟨3, 1, 1, 0, 0⟩] : List Pc).length c8, .int .i64 (1), .int .i64 (2), .slice B9 ([⟨1, 0, 0, 0, 0⟩, ⟨1, 0, 0, 0, 0⟩] : List Pc).length c9, .int .i64 (0), .int .i64 (2), .slice B10 ([⟨7, 0, 0, -1, 0⟩] : List Pc).length c10, .int .i64 (0), .int .i64 (8), .slice B11 ([⟨1, 0, 0, 0, 0⟩, ⟨4, 0, 0, 0, 0⟩] : List Pc).length c11, .int .i64 (0), .int .i64 (8), .slice B12 ([⟨1, 0, 0, 0, 0⟩, ⟨1, 0, 0, 0, 0⟩, ⟨4, 0, 0, 1, 0⟩] : List Pc).length c12, .int .i64 (0), .int .i64 (8), .slice B13 ([⟨1, 0, 0, 0, 0⟩, ⟨1, 0, 0, 0, 0⟩, ⟨4, 0, 0, 0, 1⟩] : List Pc).length c13, .int .i64 (0), .int .i64 (0), .slice B14 ([⟨1, 0, 0, 0, 0⟩, ⟨7, 0, 0, 0, 1⟩] : List Pc).length c14, .int .i64 (0), .int .i64 (2), .slice B15 ([⟨1, 0, 0, 0, 0⟩, ⟨9, 0, 0, 0, 0⟩, ⟨8, 0, 0, 1, 0⟩] : List Pc).length c15, .int .i64 (0), .int .i64 (2)] : List Value).toArray i1 _ Try.underlying33 hj hy0 (by rw [hy1]; decide) (by rw [hy1]; decide) (by rw [hy1]; show Instr.fill _ _ [(0, A.tmps.getD 92 undef), (1, A.tmps.getD 93 undef), (2, A.tmps.getD 95 undef), (3, A.tmps.getD 97 undef), (4, A.tmps.getD 100 undef), (5, A.tmps.getD 103 undef), (6, A.tmps.getD 106 undef), (7, A.tmps.getD 109 undef), (8, A.tmps.getD 112 undef), (9, A.tmps.getD 116 undef), (10, A.tmps.getD 119 undef), (11, A.tmps.getD 123 undef), (12, A.tmps.getD 128 undef), (13, A.tmps.getD 133 undef), (14, A.tmps.getD 137 undef), (15, A.tmps.getD 142 undef)] = _; rw [e0, e1, e2, e3, e4, e5, e6, e7, e8, e9, e10, e11, e12, e13, e14, e15]; kernel_rfl) ⟨_, rfl, b1, ⟨_, rfl, by simp, fun r l v a hr => ?_⟩⟩
          have hr16 : r < 16 := (List.getElem?_eq_some_iff.1 hr).1
          rcases (by omega : r = 0 ∨ r = 1 ∨ r = 2 ∨ r = 3 ∨ r = 4 ∨ r = 5 ∨ r = 6 ∨ r = 7 ∨ r = 8 ∨ r = 9 ∨ r = 10 ∨ r = 11 ∨ r = 12 ∨ r = 13 ∨ r = 14 ∨ r = 15) with rfl | rfl | rfl | rfl | rfl | rfl | rfl | rfl | rfl | rfl | rfl | rfl | rfl | rfl | rfl | rfl
          · cases hr
            exact ⟨B0, c0, h0.below b1, cell_new _ _ _ _ _ rfl, cell_newf _ _ _ _ 1 _ rfl, cell_newf _ _ _ _ 2 _ rfl⟩
          · cases hr
            exact ⟨B1, c1, h1.below b1, cell_new _ _ _ _ _ rfl, cell_newf _ _ _ _ 1 _ rfl, cell_newf _ _ _ _ 2 _ rfl⟩
          · cases hr
            exact ⟨B2, c2, h2.below b1, cell_new _ _ _ _ _ rfl, cell_newf _ _ _ _ 1 _ rfl, cell_newf _ _ _ _ 2 _ rfl⟩
          · cases hr
            exact ⟨B3, c3, h3.below b1, cell_new _ _ _ _ _ rfl, cell_newf _ _ _ _ 1 _ rfl, cell_newf _ _ _ _ 2 _ rfl⟩
          · cases hr
            exact ⟨B4, c4, h4.below b1, cell_new _ _ _ _ _ rfl, cell_newf _ _ _ _ 1 _ rfl, cell_newf _ _ _ _ 2 _ rfl⟩
          · cases hr
            exact ⟨B5, c5, h5.below b1, cell_new _ _ _ _ _ rfl, cell_newf _ _ _ _ 1 _ rfl, cell_newf _ _ _ _ 2 _ rfl⟩
          · cases hr
            exact ⟨B6, c6, h6.below b1, cell_new _ _ _ _ _ rfl, cell_newf _ _ _ _ 1 _ rfl, cell_newf _ _ _ _ 2 _ rfl⟩
          · cases hr
            exact ⟨B7, c7, h7.below b1, cell_new _ _ _ _ _ rfl, cell_newf _ _ _ _ 1 _ rfl, cell_newf _ _ _ _ 2 _ rfl⟩
          · cases hr
            exact ⟨B8, c8, h8.below b1, cell_new _ _ _ _ _ rfl, cell_newf _ _ _ _ 1 _ rfl, cell_newf _ _ _ _ 2 _ rfl⟩
          · cases hr
            exact ⟨B9, c9, h9.below b1, cell_new _ _ _ _ _ rfl, cell_newf _ _ _ _ 1 _ rfl, cell_newf _ _ _ _ 2 _ rfl⟩
          · cases hr
            exact ⟨B10, c10, h10.below b1, cell_new _ _ _ _ _ rfl, cell_newf _ _ _ _ 1 _ rfl, cell_newf _ _ _ _ 2 _ rfl⟩
          · cases hr
            exact ⟨B11, c11, h11.below b1, cell_new _ _ _ _ _ rfl, cell_newf _ _ _ _ 1 _ rfl, cell_newf _ _ _ _ 2 _ rfl⟩
          · cases hr
            exact ⟨B12, c12, h12.below b1, cell_new _ _ _ _ _ rfl, cell_newf _ _ _ _ 1 _ rfl, cell_newf _ _ _ _ 2 _ rfl⟩
          · cases hr
            exact ⟨B13, c13, h13.below b1, cell_new _ _ _ _ _ rfl, cell_newf _ _ _ _ 1 _ rfl, cell_newf _ _ _ _ 2 _ rfl⟩
          · cases hr
            exact ⟨B14, c14, h14.below b1, cell_new _ _ _ _ _ rfl, cell_newf _ _ _ _ 1 _ rfl, cell_newf _ _ _ _ 2 _ rfl⟩
          · cases hr
            exact ⟨B15, c15, h15.below b1, cell_new _ _ _ _ _ rfl, cell_newf _ _ _ _ 1 _ rfl, cell_newf _ _ _ _ 2 _ rfl⟩
        rw [List.getElem?_cons_succ] at ho
        rcases i with _ | i
        · rw [List.getElem?_cons_zero] at ho
          obtain rfl := Option.some.inj ho
          obtain ⟨ad, e0, _⟩ : TabP rows2 (A.tmps.getD 143 undef) W := hpre ⟨51, .data⟩ (by simp) rfl 143 rfl
          unfold Oper.wp execOp
          simp only [resolve, invoke, builtin, Sem.run_bind, Sem.run_pure, Result.andThen_ok, List.map_toArray, List.map_cons, List.map_nil, Act.eval, e0]
          exact ⟨_, rfl, Below.refl _ _, rfl⟩
        rw [List.getElem?_cons_succ] at ho
        rcases i with _ | i
        · rw [List.getElem?_cons_zero] at ho
          obtain rfl := Option.some.inj ho
          unfold Oper.wp execOp
          exact ⟨_, rfl, Below.refl _ _, rfl⟩
        rw [List.getElem?_cons_succ] at ho
        cases ho
      · intro vs W hbW hG
        obtain ⟨ad, e51, hlt, hrows⟩ : TabP rows2 (vs 51) W := hG 51 (by decide)
        have e52 : vs 52 = .int .i64 16 := hG 52 (by decide)
        have e53 : vs 53 = .int .i64 0 := hG 53 (by decide)
        clear hG
        simp only [putL, dstOf, List.size_toArray, List.length_cons, List.length_nil, Nat.reduceAdd, Array.getD_eq_getD_getElem?, Array.getElem?_replicate, Nat.reduceLT, if_true, Option.getD_some, List.getElem?_toArray, List.getElem?_cons_succ, List.getElem?_cons_zero, Option.bind_some, e51, e52, e53]
        go_simp
        go_wp2
        have HP := Lib.hid fun r l v a h => hrows r l v a h
        clear hrows e51 e52 e53
        have KPRE : Hid (∀ {X : World}, Below W.heap.size W X → Below w.heap.size w X) := fun {X} hX => stepB (stepB (stepB hb (Ap.drewN_below _ 1)) hbW) hX
        go_loopw [6, 7, 8, 9, 10, 145] (fun _ _ _ _ _ i X => ∃ k : Nat, k ≤ 16 ∧ i = .int .i64 k ∧ Below W.heap.size W X) (fun _ _ _ _ _ i _ => 16 - (intOf i).toNat)
        case atStart => exact ⟨0, by decide, rfl, Below.refl _ _⟩
        case round =>
          obtain ⟨k, hk, rfl, hbX⟩ := hrel
          by_cases h16 : k = 16
          · subst h16
            clear HP
            have hK : Hid (Below w.heap.size w wr) := by exact KPRE.out hbX
            obtain ⟨ZC, hm1, hm2⟩ := made4097
            have HB1 := Lib.hid fun X A c (hX : PcsAt X A (flat (.leaf 1 0 0) 0)) => Block_out (A := A) (c := c) (v := 0) (w := X) (t := .leaf 1 0 0) (k := 1) 1 hX none_valid rfl (.inr (by decide))
            have HB2 := Lib.hid fun X A c (hX : PcsAt X A (flat (.leaf 1 0 0) 0)) => Block_out (A := A) (c := c) (v := 0) (w := X) (t := .leaf 1 0 0) (k := 1) (-1) hX none_valid rfl (.inl (by decide))
            have HB3 : Hid (∀ X, Calls Try.prog 11 #[.slice none 0 0, .int .i64 0, .int .i64 (-1)] X fun r w' => r = .returned (.tuple #[.slice none 0 0, .int .i64 3]) ∧ Below X.heap.size X w') := fun X => by
              have h3 : chkL 0 [] = 3 := by unfold chkL; rw [if_neg (by decide), if_pos (by rfl)]
              have := Block_bad (A := none) (e := []) (c := 0) (v := 0) (w := X) (-1) (fun j hj => absurd hj (Nat.not_lt_zero j)) (by decide) (by rw [h3]; decide)
              rwa [h3] at this
            have HP1 : Hid (∀ X, Calls Try.prog 7 #[.string ⟨(List.replicate 4097 0).toArray⟩, .int .i64 0] X fun r w' => r = .returned (.tuple #[.slice none 0 0, .int .i64 4]) ∧ Below X.heap.size X w') := fun X =>
              Parse_bad ⟨(List.replicate 4097 0).toArray⟩ 0 4 X (.inr (by show 4096 < (List.replicate 4097 (0 : UInt8)).toArray.size; rw [List.size_toArray, List.length_replicate]; decide)) (by show (List.replicate 4097 (0 : UInt8)).toArray.size ≤ _; rw [List.size_toArray, List.length_replicate]; decide) zeros_par
            have HP2 : Hid (∀ X, Calls Try.prog 7 #[.string ⟨(nots 63).toArray⟩, .int .i64 0] X fun r w' => ∃ A' c', r = .returned (.tuple #[.slice A' 64 c', .int .i64 0]) ∧ Below X.heap.size X w') := fun X => by
              have := Parse_good ⟨(nots 63).toArray⟩ 0 (notT 63) X (by show (nots 63).toArray.size ≤ _; rw [List.size_toArray, nots_len]; decide) nots_par
              rw [notT_size] at this
              exact this.mono fun e w' ⟨A', c', h1, _, h2⟩ => ⟨A', c', h1, h2⟩
            have HP3 : Hid (∀ X, Calls Try.prog 7 #[.string ⟨(nots 64).toArray⟩, .int .i64 0] X fun r w' => r = .returned (.tuple #[.slice none 0 0, .int .i64 4]) ∧ Below X.heap.size X w') := fun X =>
              Parse_bad ⟨(nots 64).toArray⟩ 0 4 X (.inl (by show (nots 64).toArray.size ≤ _; rw [List.size_toArray, nots_len]; decide)) (by show (nots 64).toArray.size ≤ _; rw [List.size_toArray, nots_len]; decide) nots_more
            have HZ1 : Hid ((⟨(nots 0).toArray⟩ : ByteArray) = ⟨#[48]⟩) := rfl
            have HZ : Hid (∀ X : World, X.heap.size < X.heap.size + 1) := fun X => by omega
            clear HAw KPRE hbX hbW
            generalize hzz : (⟨(List.replicate 4097 0).toArray⟩ : ByteArray) = Z1 at *
            clear hzz
            go_upto_region 19 with fail
            have HO : Hid (PcsAt (wr.alloc (.cells #[.int .u8 1, .int .u8 0, .int .u8 0, .int .i64 0, .int .i64 0] 32)) (some ⟨wr.heap.size, 0, none⟩) (flat (.leaf 1 0 0) 0)) := pcs_new wr (flat (.leaf 1 0 0) 0) (by decide) (fine_of (by decide))
            have K0 : Hid (Below w.heap.size w (wr.alloc (.cells #[.int .u8 1, .int .u8 0, .int .u8 0, .int .i64 0, .int .i64 0] 32))) := bal hK.out _
            generalize wr.alloc (.cells #[.int .u8 1, .int .u8 0, .int .u8 0, .int .i64 0, .int .i64 0] 32) = wa at *
            generalize (some ⟨wr.heap.size, 0, none⟩ : Option Addr) = PA at *
            clear hK
            go_upto_region 20 with (go_at_call 11; ((with_reducible refine (HB1.out _ _ _ HO.out).mono ?_); rintro r wb ⟨rfl, hb⟩); have HO2 := Lib.hid (HO.out.below hb); have K1 := Lib.hid (stepB K0.out hb); clear hb)
            clear HB1 HO K0
            go_upto_region 21 with (go_at_call 11; ((with_reducible refine (HB2.out _ _ _ HO2.out).mono ?_); rintro r wc ⟨rfl, hb⟩); have K2 := Lib.hid (stepB K1.out hb); clear hb)
            clear HB2 HO2 K1
            go_upto_region 22 with (go_at_call 11; ((with_reducible refine (HB3.out _).mono ?_); rintro r wd' ⟨rfl, hb⟩); have K3 := Lib.hid (stepB K2.out hb); clear hb)
            clear HB3 K2
            have ha1 := Lib.hid (bal K3.out (.cells ZC 5))
            go_upto_region 23 with (go_at_call 7; ((with_reducible refine (HP1.out _).mono ?_); rintro r we ⟨rfl, hb⟩); have K4 := Lib.hid (stepB ha1.out hb); clear hb)
            clear HP1 K3 ha1 hm1 hm2
            go_wp2
            obtain ⟨wq, hwq⟩ : ∃ wq, wq = we := ⟨_, rfl⟩
            go_loopw [20, 21] (fun sv iv wr => ∃ k : Nat, k ≤ 63 ∧ sv = .string ⟨(nots k).toArray⟩ ∧ iv = .int .i64 k ∧ Hid (Below w.heap.size w wr)) (fun _ iv _ => 63 - (intOf iv).toNat)
            case atStart => exact ⟨0, by omega, rfl, rfl, K4⟩
            case round =>
              clear K4
              obtain ⟨k, hk, rfl, rfl, K5⟩ := hrel
              have hlk := nots_len k
              have hs1 : ¬ 9223372036854775807 < 2 + (nots k).length := by omega
              have hs2 : ¬ 9223372036854775807 < 2 + (nots k).length + 1 := by omega
              have HSt := Lib.hid (nots_step k)
              clear hlk
              by_cases hlt : k < 63
              · clear HP2 HP3
                generalize hls : nots k = sk at *
                clear hls
                go_wp2
                go_roundw
                case rel => exact ⟨k + 1, by omega, by rw [HSt.out], by go_num, K5.out⟩
                case measure => simp [intOf]; omega
              · obtain rfl : k = 63 := by omega
                have HSt' : (⟨#[40, 126]⟩ ++ ⟨(nots 63).toArray⟩ ++ ⟨#[41]⟩ : ByteArray) = ⟨(nots 64).toArray⟩ := HSt.out
                generalize hls : nots 63 = sk at *
                clear hls
                go_upto_region 29 with (go_at_call 7; ((with_reducible refine (HP2.out _).mono ?_); rintro r wf ⟨A6, c6, rfl, hb⟩); have K6 := Lib.hid (stepB K5.out hb); clear hb)
                clear HP2 K5
                go_wp2_with (go_at_call 7; ((first | (with_reducible refine (HP3.out _).mono ?_) | (rw [HSt']; (with_reducible refine (HP3.out _).mono ?_))); rintro r wg ⟨rfl, hb⟩); have K7 := Lib.hid (stepB K6.out hb); clear hb)
                go_ret
                exact ⟨rfl, K7.out⟩
          · have hk16 : k < rows2.length := by show k < 16; omega
            obtain ⟨⟨l, v, a⟩, hrow⟩ : ∃ x, rows2[k]? = some x := ⟨_, List.getElem?_eq_getElem hk16⟩
            obtain ⟨B, c, hB, q0, q1, q2⟩ := HP.out k l v a hrow
            obtain ⟨hl1, hca⟩ := rows2_at hrow
            have hlb : (ad.add (k * 3)).block < W.heap.size := by rw [addr_block]; exact hlt
            have r0 := (Below.cell hbX (p := ad.add (k * 3)) hlb).trans q0
            have r1 := (Below.cell hbX (p := ⟨(ad.add (k * 3)).block, (ad.add (k * 3)).off + 1, none⟩) hlb).trans q1
            have r2 := (Below.cell hbX (p := ⟨(ad.add (k * 3)).block, (ad.add (k * 3)).off + 2, none⟩) hlb).trans q2
            clear q0 q1 q2 HP hrow
            have hk2 : k < 16 := by omega
            have hpx := hB.below hbX
            have HF : Hid (∀ X, Below wr.heap.size wr X → Calls Try.prog 8 #[.slice B l.length c, .int .i64 v] X fun e w' => ∃ s, e = .returned (.tuple #[.string s, .int .i64 a]) ∧ Below X.heap.size X w') := fun X h => by
              have := format_code B l c v X (hpx.below h) hl1
              rwa [hca] at this
            have HR : Hid (∀ X, Below wr.heap.size wr X → Calls Try.prog 9 #[.slice B l.length c, .int .i64 v] X fun e w' => ∃ B n d, e = .returned (.tuple #[.slice B n d, .int .i64 a]) ∧ Below X.heap.size X w') := fun X h => by
              have := reverse_code B l c v X (hpx.below h) hl1
              rwa [hca] at this
            have HC : Hid (∀ X, Below wr.heap.size wr X → Calls Try.prog 10 #[.slice B l.length c, .int .i64 v] X fun e w' => e = .returned (.int .i64 a) ∧ Below X.heap.size X w') := fun X h => by
              have := Check_any B l c v X (hpx.below h) (by omega)
              rwa [hca] at this
            clear hB hpx hca
            generalize l.length = n at *
            go_upto_region 13 with fail
            have K9 : Hid (Below wr.heap.size wr (wr.alloc (.cells #[.slice B n c, .int .i64 v, .int .i64 a] 30))) := bal (Below.refl _ _) _
            have c0 : (wr.alloc (.cells #[.slice B n c, .int .i64 v, .int .i64 a] 30)).cell? ⟨wr.heap.size, 0, none⟩ = some (.slice B n c) := by rw [World.cell?_alloc_at _ _ _ _ rfl]; rfl
            have c1 : (wr.alloc (.cells #[.slice B n c, .int .i64 v, .int .i64 a] 30)).cell? ⟨wr.heap.size, 1, none⟩ = some (.int .i64 v) := by rw [World.cell?_alloc_at _ _ _ _ rfl]; rfl
            have c2 : (wr.alloc (.cells #[.slice B n c, .int .i64 v, .int .i64 a] 30)).cell? ⟨wr.heap.size, 2, none⟩ = some (.int .i64 a) := by rw [World.cell?_alloc_at _ _ _ _ rfl]; rfl
            have hs9 : wr.heap.size < (wr.alloc (.cells #[.slice B n c, .int .i64 v, .int .i64 a] 30)).heap.size := by rw [World.size_alloc]; omega
            clear r0 r1 r2 hlb
            generalize wr.alloc (.cells #[.slice B n c, .int .i64 v, .int .i64 a] 30) = w9 at *
            have HQ : Hid (∀ X, Below w9.heap.size w9 X → X.cell? ⟨wr.heap.size, 0, none⟩ = some (.slice B n c) ∧ X.cell? ⟨wr.heap.size, 1, none⟩ = some (.int .i64 v) ∧ X.cell? ⟨wr.heap.size, 2, none⟩ = some (.int .i64 a)) := fun X h => ⟨(Below.cell h hs9).trans c0, (Below.cell h hs9).trans c1, (Below.cell h hs9).trans c2⟩
            clear hs9 c2
            go_upto_region 15 with (first
              | (go_at_call 8; ((with_reducible refine (HF.out _ K9.out).mono ?_); rintro e wA ⟨s, rfl, hbA⟩); clear c0 c1; obtain ⟨c0, c1, _⟩ := HQ.out _ hbA; have KA := Lib.hid hbA)
              | (go_at_call 9; ((with_reducible refine (HR.out _ (stepB K9.out KA.out)).mono ?_); rintro e wB ⟨B5, n5, d5, rfl, hbB⟩); clear c0 c1; have KB := Lib.hid (stepB KA.out hbB)))
            have d0 : ∀ r : Cls (fun X => Below w9.heap.size w9 X), r.w.cell? ⟨wr.heap.size, 0, none⟩ = some (.slice B n c) := fun r => (HQ.out _ r.h).1
            have d1 : ∀ r : Cls (fun X => Below w9.heap.size w9 X), r.w.cell? ⟨wr.heap.size, 1, none⟩ = some (.int .i64 v) := fun r => (HQ.out _ r.h).2.1
            have d2 : ∀ r : Cls (fun X => Below w9.heap.size w9 X), r.w.cell? ⟨wr.heap.size, 2, none⟩ = some (.int .i64 a) := fun r => (HQ.out _ r.h).2.2
            have G1 := Lib.hid fun X (hX : Below w9.heap.size w9 X) => HC.out X (stepB K9.out hX)
            have q1 : (a != a) = false := by simp
            clear HF HR HC HQ
            haveI : Nonempty (Cls (fun X => Below w9.heap.size w9 X)) := ⟨⟨w9, Below.refl _ _⟩⟩
            refine wp_region_cls (fun X => Below w9.heap.size w9 X) (by kernel_rfl) (by kernel_rfl) (stepB KB.out (Ap.drewN_below _ 1)) ?_
            repeat (go_big_quiet_step (first | (go_at_call 10; rename_i r; (with_reducible refine (G1.out r.w r.h).mono ?_); rintro e w4 ⟨rfl, hb4⟩; exact ⟨rfl, ⟨⟨w4, stepB r.h hb4⟩, rfl⟩⟩)))
            refine wpQuiet_nil ?_
            rintro _ ⟨⟨X, hX⟩, rfl⟩
            clear d0 d1 d2
            go_wp2
            go_roundw
            case rel => exact ⟨k + 1, by omega, by go_num, stepB hbX (stepB K9.out hX)⟩
            case measure => simp [intOf]; omega
    · have hk31 : k < rowsA.length := by show k < 31; omega
      obtain ⟨⟨s, v, a⟩, hrow⟩ : ∃ x, rowsA[k]? = some x := ⟨_, List.getElem?_eq_getElem hk31⟩
      obtain ⟨c0, c1, c2⟩ := hT.out.2 k s v a hrow
      have HP := Lib.hid fun X => parse_row hrow X
      have hkl : (k : Int) < 31 := by have : k < 31 := hk31; omega
      clear hrow hk31 HAw
      generalize (⟨s.toArray⟩ : ByteArray) = bs at *
      go_upto_region 6 with fail
      have K9 : Hid (Below wr.heap.size wr (wr.alloc (.cells #[.string bs, .int .i64 v, .int .i64 a] 24))) := bal (Below.refl _ _) _
      have e0 : (wr.alloc (.cells #[.string bs, .int .i64 v, .int .i64 a] 24)).cell? ⟨wr.heap.size, 0, none⟩ = some (.string bs) := by rw [World.cell?_alloc_at _ _ _ _ rfl]; rfl
      have e1 : (wr.alloc (.cells #[.string bs, .int .i64 v, .int .i64 a] 24)).cell? ⟨wr.heap.size, 1, none⟩ = some (.int .i64 v) := by rw [World.cell?_alloc_at _ _ _ _ rfl]; rfl
      have e2 : (wr.alloc (.cells #[.string bs, .int .i64 v, .int .i64 a] 24)).cell? ⟨wr.heap.size, 2, none⟩ = some (.int .i64 a) := by rw [World.cell?_alloc_at _ _ _ _ rfl]; rfl
      have hs9 : wr.heap.size < (wr.alloc (.cells #[.string bs, .int .i64 v, .int .i64 a] 24)).heap.size := by rw [World.size_alloc]; omega
      clear c0 c1 c2
      generalize wr.alloc (.cells #[.string bs, .int .i64 v, .int .i64 a] 24) = w9 at *
      go_upto_region 7 with (go_at_call 7; ((with_reducible refine (HP.out _).mono ?_); rintro e w4 ⟨A4, n4, c4, rfl, hz, hn, hb4⟩); have e3 := (Below.cell hb4 hs9).trans e2; have K4 := Lib.hid (stepB K9.out hb4); clear hb4)
      have q1 : (a != a) = false := by simp
      clear e0 e1 e2 hs9 HP K9
      by_cases ha : a = 0
      · have q2 : (a != 0) = false := by rw [ha]; rfl
        clear ha hz
        go_wp2
        go_roundw
        case rel => exact ⟨k + 1, by omega, by go_num, hT.out.below K4.out, stepB hb K4.out⟩
        case measure => simp [intOf]; omega
      · have q2 : (a != 0) = true := by rw [bne_iff_ne]; exact ha
        have hz0 := hz ha
        subst hz0
        clear ha hz
        go_wp2
        go_roundw
        case rel => exact ⟨k + 1, by omega, by go_num, hT.out.below K4.out, stepB hb K4.out⟩
        case measure => simp [intOf]; omega
end Go.Proofs.Yteckkbjpeckjmaa.Rx
