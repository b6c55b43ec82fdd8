/- The walk of MatchExamples. -/
import Derived.Test.YtlaagjmfgaccjaaRM
namespace Go.Proofs.Ytlaagjmfgaccjaa.Rx
open Go Go.RowKit Go.Shelf Go.Proofs.Ytlaagjmfgaccjaa
set_option linter.unusedVariables false
set_option linter.unusedSimpArgs false
set_option maxRecDepth 100000
def XT0 : Ex := .one 8 (.one 8 (.leaf 2 0 0))
def XT1 : Ex := .one 8 (.one 8 (.leaf 2 0 0))
def XT2 : Ex := .two 4 (.one 8 (.two 5 (.leaf 2 0 0) (.leaf 3 1 0))) (.leaf 3 2 0)
def XT3 : Ex := .one 7 (.leaf 1 0 0)
def XT4 : Ex := .two 4 (.one 9 (.two 4 (.leaf 3 0 0) (.leaf 3 2 0))) (.two 4 (.leaf 3 1 0) (.leaf 3 2 0))
def XT5 : Ex := .two 4 (.one 9 (.two 4 (.leaf 3 0 0) (.leaf 3 1 0))) (.two 4 (.leaf 3 1 0) (.leaf 3 2 0))
def XT6 : Ex := .two 4 (.leaf 3 1 0) (.two 4 (.one 10 (.one 8 (.leaf 3 0 0))) (.leaf 3 2 0))
def XT7 : Ex := .two 4 (.leaf 3 1 0) (.two 4 (.one 10 (.leaf 3 2 0)) (.leaf 3 2 0))
def XT8 : Ex := .one 9 (.leaf 1 0 0)
def XT9 : Ex := .one 9 (.leaf 2 0 0)
def XT10 : Ex := .one 10 (.leaf 2 0 0)
def tT : Nat → Ex
  | 0 => XT0
  | 1 => XT1
  | 2 => XT2
  | 3 => XT3
  | 4 => XT4
  | 5 => XT5
  | 6 => XT6
  | 7 => XT7
  | 8 => XT8
  | 9 => XT9
  | _ => XT10
def tS : Nat → ByteArray
  | 0 => ⟨#[40, 40, 49, 42, 41, 42, 41]⟩
  | 1 => ⟨#[40, 40, 49, 42, 41, 42, 41]⟩
  | 2 => ⟨#[40, 40, 40, 49, 124, 91, 97, 93, 41, 42, 41, 46, 91, 98, 93, 41]⟩
  | 3 => ⟨#[40, 126, 48, 41]⟩
  | 4 => ⟨#[40, 40, 62, 40, 91, 42, 93, 46, 91, 98, 93, 41, 41, 46, 40, 91, 97, 93, 46, 91, 98, 93, 41, 41]⟩
  | 5 => ⟨#[40, 40, 62, 40, 91, 42, 93, 46, 91, 97, 93, 41, 41, 46, 40, 91, 97, 93, 46, 91, 98, 93, 41, 41]⟩
  | 6 => ⟨#[40, 91, 97, 93, 46, 40, 40, 60, 40, 91, 42, 93, 42, 41, 41, 46, 91, 98, 93, 41, 41]⟩
  | 7 => ⟨#[40, 91, 97, 93, 46, 40, 40, 60, 91, 98, 93, 41, 46, 91, 98, 93, 41, 41]⟩
  | 8 => ⟨#[40, 62, 48, 41]⟩
  | 9 => ⟨#[40, 62, 49, 41]⟩
  | _ => ⟨#[40, 60, 49, 41]⟩
def tW : Nat → List Nat
  | 0 => []
  | 1 => [0]
  | 2 => [1, 3, 2]
  | 3 => [3]
  | 4 => [1, 2]
  | 5 => [1, 2]
  | 6 => [1, 2]
  | 7 => [1, 2]
  | 8 => []
  | 9 => []
  | _ => [0]
def tB : Nat → Bool
  | 0 => true
  | 1 => false
  | 2 => true
  | 3 => true
  | 4 => true
  | 5 => false
  | 6 => true
  | 7 => false
  | 8 => false
  | 9 => true
  | _ => false
theorem t_cases {p : Nat → Prop} (h0 : p 0) (h1 : p 1) (h2 : p 2) (h3 : p 3) (h4 : p 4) (h5 : p 5) (h6 : p 6) (h7 : p 7) (h8 : p 8) (h9 : p 9) (h10 : p 10) : ∀ k, k < 11 → p k
  | 0, _ => h0
  | 1, _ => h1
  | 2, _ => h2
  | 3, _ => h3
  | 4, _ => h4
  | 5, _ => h5
  | 6, _ => h6
  | 7, _ => h7
  | 8, _ => h8
  | 9, _ => h9
  | 10, _ => h10
  | k + 11, h => absurd h (by omega)
theorem t_par : ∀ k, k < 11 → parE (tS k).data.toList 2 = .ok (tT k) := t_cases (by kernel_rfl) (by kernel_rfl) (by kernel_rfl) (by kernel_rfl) (by kernel_rfl) (by kernel_rfl) (by kernel_rfl) (by kernel_rfl) (by kernel_rfl) (by kernel_rfl) (by kernel_rfl)
theorem t_wd : ∀ k, k < 11 → wordE 2 (tW k) = 0 := t_cases (by kernel_rfl) (by kernel_rfl) (by kernel_rfl) (by kernel_rfl) (by kernel_rfl) (by kernel_rfl) (by kernel_rfl) (by kernel_rfl) (by kernel_rfl) (by kernel_rfl) (by kernel_rfl)
theorem t_mt : ∀ k, k < 11 → mt (tW k) (tT k) 0 (tW k).length = tB k := t_cases (by kernel_rfl) (by kernel_rfl) (by kernel_rfl) (by kernel_rfl) (by kernel_rfl) (by kernel_rfl) (by kernel_rfl) (by kernel_rfl) (by kernel_rfl) (by kernel_rfl) (by kernel_rfl)
theorem t_lt : ∀ k, k < 11 → (tW k).length ≤ 3 ∧ ∀ x ∈ tW k, x < 256 := t_cases (by decide) (by decide) (by decide) (by decide) (by decide) (by decide) (by decide) (by decide) (by decide) (by decide) (by decide)
/-- The text that is too long to derive. -/
def lgS : Nat → List UInt8
  | 0 => [91, 97, 93]
  | k + 1 => [40, 40, 91, 97, 93, 42, 41, 46] ++ lgS k ++ [41]
def lgT : Nat → Ex
  | 0 => M3
  | k + 1 => .two 4 M2 (lgT k)
theorem lg_par : parE (lgS 20) 2 = .ok (lgT 20) := by kernel_rfl
theorem lg_size : (lgT 20).size = 61 := by kernel_rfl
theorem lg_der : derE 2 (lgT 20) 1 = 4 := by kernel_rfl
theorem lg_len : ∀ k, (lgS k).length = 3 + 9 * k
  | 0 => rfl
  | k + 1 => by
    show ([40, 40, 91, 97, 93, 42, 41, 46] ++ lgS k ++ [41] : List UInt8).length = _
    rw [List.length_append, List.length_append, lg_len k]
    simp
    omega
theorem lg_step (k : Nat) : (⟨#[40, 40, 91, 97, 93, 42, 41, 46]⟩ ++ ⟨(lgS k).toArray⟩ ++ ⟨#[41]⟩ : ByteArray) = ⟨(lgS (k + 1)).toArray⟩ := by
  apply ByteArray.ext
  rw [ByteArray.data_append, ByteArray.data_append]
  apply Array.ext'
  simp [lgS]
/-- ([a].(>0)) and (>0). -/
def N1 : Ex := .two 4 (.leaf 3 1 0) (.one 9 (.leaf 1 0 0))
def N2 : Ex := .one 9 (.leaf 1 0 0)
theorem np1 : parE (⟨#[40, 91, 97, 93, 46, 40, 62, 48, 41, 41]⟩ : ByteArray).data.toList 2 = .ok N1 := by kernel_rfl
theorem np2 : parE (⟨#[40, 62, 48, 41]⟩ : ByteArray).data.toList 2 = .ok N2 := by kernel_rfl
theorem nq1 : plainT N1 = false := by kernel_rfl
theorem nq2 : derE 2 N2 9 = 6 := by kernel_rfl
theorem nq3 : derE 2 M2 4 = 1 := by kernel_rfl
theorem nq4 : chkL 7 (flat M2 0) = 7 := by unfold chkL; rw [if_pos (by decide)]
theorem nq5 : wrongL 0 [] (List.replicate 65 0) = 3 := by
  have h : chkL 0 [] = 3 := by unfold chkL; rw [if_neg (by decide), if_pos (by rfl)]
  rw [wrong_bad (by rw [h]; decide), h]
theorem nq6 : wrongL 2 (flat M2 0) (List.replicate 64 0 ++ [9]) = 4 := by rw [wrong_valid mv2]; kernel_rfl
theorem nq7 : wrongL 2 (flat M2 0) [1, 4] = 1 := by rw [wrong_valid mv2]; kernel_rfl
theorem info_u8T : (Try.prog.info? 5).map (fun i => (i.zero, i.size, i.bytes)) = some (some (.int .u8 0), 1, 1) := by kernel_rfl
def zr (n : Nat) : Array Value := (bvs (List.replicate n 0)).toArray
theorem zr_made (n : Nat) : madeCells (Value.int .u8 0).cells n = zr n := by
  apply Array.ext'
  show (madeCells #[.int .u8 0] n).toList = _
  rw [toList_madeCells_one]
  simp [bvs, zr]
theorem bys_zeros (X : World) (n : Nat) : Bys (X.alloc (.cells (zr n) 5)) (some ⟨X.heap.size, 0, none⟩) (List.replicate n 0) := bys_new X _ _
theorem made (n : Nat) (hn : n ≤ 1000) (W : World) : (Instr.makeSlice 45 (.int .i64 (n : Int)) (.int .i64 (n : Int))).run Try.prog W = .ok (.slice (some ⟨W.heap.size, 0, none⟩) n n) (W.alloc (.cells (zr n) 5)) := by
  obtain ⟨i0, hi, hz0, hz1, hz2⟩ := info_parts info_u8T
  have := run_makeSlice (P := Try.prog) W 45 5 i0 _ Try.underlying45 hi hz0 .i64 .i64 (n : Int) (n : Int) (by omega) (Int.le_refl _) (by rw [hz1]; omega) (by rw [hz2]; omega) (by omega)
  rw [this, hz1, Nat.mul_one, Int.toNat_natCast, zr_made]
theorem made65 (W : World) : (Instr.makeSlice 45 (.int .i64 65) (.int .i64 65)).run Try.prog W = .ok (.slice (some ⟨W.heap.size, 0, none⟩) 65 65) (W.alloc (.cells (zr 65) 5)) := made 65 (by decide) W
theorem made64 (W : World) : (Instr.makeSlice 45 (.int .i64 64) (.int .i64 64)).run Try.prog W = .ok (.slice (some ⟨W.heap.size, 0, none⟩) 64 64) (W.alloc (.cells (zr 64) 5)) := made 64 (by decide) W
theorem own64 (W : World) : (W.alloc (.cells (zr 64) 5)).ownsRow W.heap.size 5 1 (.slice (some ⟨W.heap.size, 0, none⟩) 64 64) 64 (bvs (List.replicate 64 0)) :=
  ⟨by simp [bvs], .inr ⟨W.heap.size, 64, _, rfl, Nat.le_refl _, World.alloc_heap_new W _, Nat.le_refl _, by unfold maxLen; omega, by simp [zr, bvs], by
    show (zr 64).toList.take 64 = _
    unfold zr
    rw [List.take_of_length_le (by simp [bvs])]⟩⟩
def tP (g : Nat) : Nat → Option Addr
  | 0 => none
  | 1 => some ⟨g, 0, none⟩
  | 2 => some ⟨g + 1, 0, none⟩
  | 3 => some ⟨g + 1 + 1, 0, none⟩
  | 4 => some ⟨g + 1 + 1 + 1, 0, none⟩
  | 5 => some ⟨g + 1 + 1 + 1 + 1, 0, none⟩
  | 6 => some ⟨g + 1 + 1 + 1 + 1 + 1, 0, none⟩
  | 7 => some ⟨g + 1 + 1 + 1 + 1 + 1 + 1, 0, none⟩
  | 8 => none
  | 9 => none
  | _ => some ⟨g + 1 + 1 + 1 + 1 + 1 + 1 + 1, 0, none⟩
def tabA (w : World) : World := ((((((((w.alloc (.cells #[.int .u8 0] 5)).alloc (.cells #[.int .u8 1, .int .u8 3, .int .u8 2] 5)).alloc (.cells #[.int .u8 3] 5)).alloc (.cells #[.int .u8 1, .int .u8 2] 5)).alloc (.cells #[.int .u8 1, .int .u8 2] 5)).alloc (.cells #[.int .u8 1, .int .u8 2] 5)).alloc (.cells #[.int .u8 1, .int .u8 2] 5)).alloc (.cells #[.int .u8 0] 5))
def tabC (w : World) : Array Value := #[.string ⟨#[40, 40, 49, 42, 41, 42, 41]⟩, .slice none 0 0, .bool true, .string ⟨#[40, 40, 49, 42, 41, 42, 41]⟩, .slice (some ⟨w.heap.size, 0, none⟩) 1 1, .bool false, .string ⟨#[40, 40, 40, 49, 124, 91, 97, 93, 41, 42, 41, 46, 91, 98, 93, 41]⟩, .slice (some ⟨w.heap.size + 1, 0, none⟩) 3 3, .bool true, .string ⟨#[40, 126, 48, 41]⟩, .slice (some ⟨w.heap.size + 1 + 1, 0, none⟩) 1 1, .bool true, .string ⟨#[40, 40, 62, 40, 91, 42, 93, 46, 91, 98, 93, 41, 41, 46, 40, 91, 97, 93, 46, 91, 98, 93, 41, 41]⟩, .slice (some ⟨w.heap.size + 1 + 1 + 1, 0, none⟩) 2 2, .bool true, .string ⟨#[40, 40, 62, 40, 91, 42, 93, 46, 91, 97, 93, 41, 41, 46, 40, 91, 97, 93, 46, 91, 98, 93, 41, 41]⟩, .slice (some ⟨w.heap.size + 1 + 1 + 1 + 1, 0, none⟩) 2 2, .bool false, .string ⟨#[40, 91, 97, 93, 46, 40, 40, 60, 40, 91, 42, 93, 42, 41, 41, 46, 91, 98, 93, 41, 41]⟩, .slice (some ⟨w.heap.size + 1 + 1 + 1 + 1 + 1, 0, none⟩) 2 2, .bool true, .string ⟨#[40, 91, 97, 93, 46, 40, 40, 60, 91, 98, 93, 41, 46, 91, 98, 93, 41, 41]⟩, .slice (some ⟨w.heap.size + 1 + 1 + 1 + 1 + 1 + 1, 0, none⟩) 2 2, .bool false, .string ⟨#[40, 62, 48, 41]⟩, .slice none 0 0, .bool false, .string ⟨#[40, 62, 49, 41]⟩, .slice none 0 0, .bool true, .string ⟨#[40, 60, 49, 41]⟩, .slice (some ⟨w.heap.size + 1 + 1 + 1 + 1 + 1 + 1 + 1, 0, none⟩) 1 1, .bool false]
def tabW (w : World) : World := (tabA w).alloc (.cells (tabC w) 64)
theorem tab_size (w : World) : (tabA w).heap.size = w.heap.size + 8 := by simp [tabA]
theorem tab_below (w : World) : Below w.heap.size w (tabW w) := by
  unfold tabW tabA
  exact bal (bal (bal (bal (bal (bal (bal (bal (bal (Below.refl _ _) _) _) _) _) _) _) _) _) _
theorem tab_cells (w : World) : ∀ k, k < 11 → (tabC w)[k * 3]? = some (.string (tS k)) ∧ (tabC w)[k * 3 + 1]? = some (.slice (tP w.heap.size k) (tW k).length (tW k).length) ∧ (tabC w)[k * 3 + 2]? = some (.bool (tB k)) := t_cases ⟨rfl, rfl, rfl⟩ ⟨rfl, rfl, rfl⟩ ⟨rfl, rfl, rfl⟩ ⟨rfl, rfl, rfl⟩ ⟨rfl, rfl, rfl⟩ ⟨rfl, rfl, rfl⟩ ⟨rfl, rfl, rfl⟩ ⟨rfl, rfl, rfl⟩ ⟨rfl, rfl, rfl⟩ ⟨rfl, rfl, rfl⟩ ⟨rfl, rfl, rfl⟩
theorem tab_at (w : World) (j : Nat) (u : Value) (h : (tabC w)[j]? = some u) : (tabW w).cell? ⟨w.heap.size + 8, j, none⟩ = some u := by
  unfold tabW
  rw [← tab_size w, World.cell?_alloc_at _ _ _ _ rfl]
  exact h
theorem bys_step {X : World} {A : Option Addr} {l : List Nat} (h : Bys X A l) (o : Obj) : Bys (X.alloc o) A l := h.below (bal (Below.refl _ _) o)
theorem tab_bys (w : World) : ∀ k, k < 11 → Bys (tabW w) (tP w.heap.size k) (tW k) := by
  unfold tabW tabA
  refine t_cases ?_ ?_ ?_ ?_ ?_ ?_ ?_ ?_ ?_ ?_ ?_
  · exact fun j hj => absurd hj (by simp [tW])
  · have h := bys_new w 5 [0]
    exact bys_step (bys_step (bys_step (bys_step (bys_step (bys_step (bys_step (bys_step (h) _) _) _) _) _) _) _) _
  · have h := bys_new (w.alloc (.cells #[.int .u8 0] 5)) 5 [1, 3, 2]
    simp only [World.size_alloc] at h
    exact bys_step (bys_step (bys_step (bys_step (bys_step (bys_step (bys_step (h) _) _) _) _) _) _) _
  · have h := bys_new ((w.alloc (.cells #[.int .u8 0] 5)).alloc (.cells #[.int .u8 1, .int .u8 3, .int .u8 2] 5)) 5 [3]
    simp only [World.size_alloc] at h
    exact bys_step (bys_step (bys_step (bys_step (bys_step (bys_step (h) _) _) _) _) _) _
  · have h := bys_new (((w.alloc (.cells #[.int .u8 0] 5)).alloc (.cells #[.int .u8 1, .int .u8 3, .int .u8 2] 5)).alloc (.cells #[.int .u8 3] 5)) 5 [1, 2]
    simp only [World.size_alloc] at h
    exact bys_step (bys_step (bys_step (bys_step (bys_step (h) _) _) _) _) _
  · have h := bys_new ((((w.alloc (.cells #[.int .u8 0] 5)).alloc (.cells #[.int .u8 1, .int .u8 3, .int .u8 2] 5)).alloc (.cells #[.int .u8 3] 5)).alloc (.cells #[.int .u8 1, .int .u8 2] 5)) 5 [1, 2]
    simp only [World.size_alloc] at h
    exact bys_step (bys_step (bys_step (bys_step (h) _) _) _) _
  · have h := bys_new (((((w.alloc (.cells #[.int .u8 0] 5)).alloc (.cells #[.int .u8 1, .int .u8 3, .int .u8 2] 5)).alloc (.cells #[.int .u8 3] 5)).alloc (.cells #[.int .u8 1, .int .u8 2] 5)).alloc (.cells #[.int .u8 1, .int .u8 2] 5)) 5 [1, 2]
    simp only [World.size_alloc] at h
    exact bys_step (bys_step (bys_step (h) _) _) _
  · have h := bys_new ((((((w.alloc (.cells #[.int .u8 0] 5)).alloc (.cells #[.int .u8 1, .int .u8 3, .int .u8 2] 5)).alloc (.cells #[.int .u8 3] 5)).alloc (.cells #[.int .u8 1, .int .u8 2] 5)).alloc (.cells #[.int .u8 1, .int .u8 2] 5)).alloc (.cells #[.int .u8 1, .int .u8 2] 5)) 5 [1, 2]
    simp only [World.size_alloc] at h
    exact bys_step (bys_step (h) _) _
  · exact fun j hj => absurd hj (by simp [tW])
  · exact fun j hj => absurd hj (by simp [tW])
  · have h := bys_new (((((((w.alloc (.cells #[.int .u8 0] 5)).alloc (.cells #[.int .u8 1, .int .u8 3, .int .u8 2] 5)).alloc (.cells #[.int .u8 3] 5)).alloc (.cells #[.int .u8 1, .int .u8 2] 5)).alloc (.cells #[.int .u8 1, .int .u8 2] 5)).alloc (.cells #[.int .u8 1, .int .u8 2] 5)).alloc (.cells #[.int .u8 1, .int .u8 2] 5)) 5 [0]
    simp only [World.size_alloc] at h
    exact bys_step (h) _
set_option maxHeartbeats 16000000 in
theorem matchExamples_walk (w : World) : Calls Try.prog 7 #[] w fun r w' => r = .returned (.bool true) ∧ Below w.heap.size w w' := by
  have HAw := Lib.hid (awake5_any w)
  have HR1 : Hid (∀ X, Calls Try.prog 38 #[.string ⟨#[40, 91, 97, 93, 42, 41]⟩] X fun r w' => ∃ A' c', r = .returned (.slice A' 2 c') ∧ PcsAt w' A' (flat M2 0) ∧ Below X.heap.size X w') := fun X => read5_any _ _ _ X mp2 rfl
  have HR2 : Hid (∀ X, Calls Try.prog 38 #[.string ⟨#[40, 91, 97, 93, 46, 40, 62, 48, 41, 41]⟩] X fun r w' => ∃ A' c', r = .returned (.slice A' 4 c') ∧ PcsAt w' A' (flat N1 0) ∧ Below X.heap.size X w') := fun X => read5_any _ _ _ X np1 rfl
  have HR3 : Hid (∀ X, Calls Try.prog 38 #[.string ⟨#[40, 62, 48, 41]⟩] X fun r w' => ∃ A' c', r = .returned (.slice A' 2 c') ∧ PcsAt w' A' (flat N2 0) ∧ Below X.heap.size X w') := fun X => read5_any _ _ _ X np2 rfl
  have HR4 : Hid (∀ X, Calls Try.prog 38 #[.string ⟨(lgS 20).toArray⟩] X fun r w' => ∃ A' c', r = .returned (.slice A' 61 c') ∧ PcsAt w' A' (flat (lgT 20) 0) ∧ Below X.heap.size X w') := fun X => read5_any _ _ _ X (by rw [show (⟨(lgS 20).toArray⟩ : ByteArray).data.toList = lgS 20 from rfl]; exact lg_par) lg_size
  have HA1 : Hid (∀ X B, Bys X B (List.replicate 65 0) → Calls Try.prog 29 #[.slice none 0 0, .int .i64 0, .slice B 65 65] X fun r w' => r = .returned (.tuple #[.bool false, .int .i64 3]) ∧ Below X.heap.size X w') := fun X B hB => by
    have := Accepts_bad none B 0 65 0 (List.replicate 65 0) X [] (fun j hj => absurd hj (by simp)) (by decide) hB (by simp) (by simp) (by rw [nq5]; decide)
    rw [nq5] at this
    exact this
  have HA2 : Hid (∀ X A c B d, PcsAt X A (flat M2 0) → Bys X B (List.replicate 64 0 ++ [9]) → Calls Try.prog 29 #[.slice A 2 c, .int .i64 2, .slice B 65 d] X fun r w' => r = .returned (.tuple #[.bool false, .int .i64 4]) ∧ Below X.heap.size X w') := fun X A c B d hA hB => by
    have := Accepts_bad A B c d 2 (List.replicate 64 0 ++ [9]) X (flat M2 0) hA (by rw [flat_len]; decide) hB (by simp) (by simp) (by rw [nq6]; decide)
    rw [nq6] at this
    exact this
  have HA3 : Hid (∀ X A c B d, PcsAt X A (flat M2 0) → Bys X B [1, 4] → Calls Try.prog 29 #[.slice A 2 c, .int .i64 2, .slice B 2 d] X fun r w' => r = .returned (.tuple #[.bool false, .int .i64 1]) ∧ Below X.heap.size X w') := fun X A c B d hA hB => by
    have := Accepts_bad A B c d 2 [1, 4] X (flat M2 0) hA (by rw [flat_len]; decide) hB (by simp) (by simp) (by rw [nq7]; decide)
    rw [nq7] at this
    exact this
  have HN1 : Hid (∀ X A c, PcsAt X A (flat N1 0) → Calls Try.prog 36 #[.slice A 4 c, .int .i64 2] X fun r w' => r = .returned (.tuple #[.bool false, .int .i64 6]) ∧ Below X.heap.size X w') := fun X A c hA => by
    have := Nullable_good A c 2 X N1 4 hA (parE_ok np1).1 rfl
    rw [nq1] at this
    exact this
  have HD1 : Hid (∀ X A c, PcsAt X A (flat N2 0) → Calls Try.prog 37 #[.slice A 2 c, .int .i64 2, .int .u8 9] X fun r w' => r = .returned (.tuple #[.slice none 0 0, .int .i64 6]) ∧ Below X.heap.size X w') := fun X A c hA => by
    have := Derive_no (A := A) (c := c) (v := 2) (y := 9) (w := X) (t := N2) hA (parE_ok np2).1 (by decide) (by rw [nq2]; decide)
    rw [nq2] at this
    exact this
  have HD2 : Hid (∀ X A c, PcsAt X A (flat M2 0) → Calls Try.prog 37 #[.slice A 2 c, .int .i64 2, .int .u8 4] X fun r w' => r = .returned (.tuple #[.slice none 0 0, .int .i64 1]) ∧ Below X.heap.size X w') := fun X A c hA => by
    have := Derive_no (A := A) (c := c) (v := 2) (y := 4) (w := X) (t := M2) hA mv2 (by decide) (by rw [nq3]; decide)
    rw [nq3] at this
    exact this
  have HD3 : Hid (∀ X A c, PcsAt X A (flat M2 0) → Calls Try.prog 37 #[.slice A 2 c, .int .i64 7, .int .u8 4] X fun r w' => r = .returned (.tuple #[.slice none 0 0, .int .i64 7]) ∧ Below X.heap.size X w') := fun X A c hA => by
    have := Derive_bad (A := A) (c := c) (v := 7) (y := 4) (w := X) (e := flat M2 0) hA (by rw [flat_len]; decide) (by rw [nq4]; decide)
    rw [nq4] at this
    exact this
  have HD4 : Hid (∀ X A c, PcsAt X A (flat (lgT 20) 0) → Calls Try.prog 37 #[.slice A 61 c, .int .i64 2, .int .u8 1] X fun r w' => r = .returned (.tuple #[.slice none 0 0, .int .i64 4]) ∧ Below X.heap.size X w') := fun X A c hA => by
    have := Derive_no (A := A) (c := c) (v := 2) (y := 1) (w := X) (t := lgT 20) hA (parE_ok lg_par).1 (by decide) (by rw [lg_der]; decide)
    rw [lg_der, lg_size] at this
    exact this
  have HZ := Lib.hid bys_zeros
  have HN2 : Hid (∀ X : World, Bys (X.alloc (.cells #[.int .u8 1, .int .u8 4] 5)) (some ⟨X.heap.size, 0, none⟩) [1, 4]) := fun X => bys_new X 5 [1, 4]
  generalize flat M2 0 = F2 at *
  generalize flat N1 0 = G1 at *
  generalize flat N2 0 = G2 at *
  generalize flat (lgT 20) 0 = G3 at *
  go_enter Try.func7, Try.ntmps7
  go_upto_region 4 with (first
    | (go_at_call 24; ((with_reducible refine HAw.out.mono ?_); rintro r w1 ⟨rfl, hb1⟩); have K1 := Lib.hid hb1; clear hb1)
    | (go_at_call 38; ((with_reducible refine (HR1.out _).mono ?_); rintro r w2 ⟨A2, c2, rfl, hP, hb⟩); have P2 := Lib.hid hP; clear hP; have K2 := Lib.hid (stepB K1.out hb); clear hb))
  have hm65 := made65
  have hm64 := made64
  obtain ⟨i0, hi0, hz0, hz1, hz2⟩ := info_parts info_u8T
  have HOw := Lib.hid own64
  have HCo : Hid (∀ X : World, ∀ j u, [Value.int .u8 9][j]? = some u → ((X.alloc (.cells (zr 64) 5)).alloc (.cells #[.int .u8 9] 5)).cell? ((⟨X.heap.size + 1, 0, none⟩ : Addr).add j) = some u) := fun X => by
    have h := cell_one_new (X.alloc (.cells (zr 64) 5)) (.int .u8 9) 5
    rw [World.size_alloc] at h
    exact h
  have HBy : Hid (∀ X B c, X.ownsRow B 5 1 c 65 (bvs (List.replicate 64 0) ++ [.int .u8 9]) → ∃ A' c', c = .slice A' 65 c' ∧ Bys X A' (List.replicate 64 0 ++ [9])) := fun X B c h => by
    obtain ⟨A', c', rfl, _⟩ := Ap.own_form h
    exact ⟨A', c', rfl, own_bys (l := List.replicate 64 0 ++ [9]) (by simpa [bvs] using h) (by simp)⟩
  go_upto_region 5 with (go_at_call 29; ((with_reducible refine (HA1.out (w2.alloc (.cells (zr 65) 5)) _ (HZ.out w2 65)).mono ?_); rintro r w3 ⟨rfl, hb⟩); have P3 := Lib.hid ((P2.out.below (bal (Below.refl _ _) (.cells (zr 65) 5))).below hb); have K3 := Lib.hid (stepB (bal K2.out (.cells (zr 65) 5)) hb); clear hb)
  clear hm65 HA1 P2 K2
  go_upto_region 6 with (first
    | (at_builtin; refine wpList_append_own_at _ rfl _ _ 45 rfl w3.heap.size 5 i0 (.int .u8 0) 1 1 Try.underlying45 hi0 hz0 hz1 hz2 rfl (by decide) _ 64 _ rfl ((HOw.out w3).alloc _) ⟨w3.heap.size + 1, 0, none⟩ 1 1 [.int .u8 9] rfl rfl (HCo.out w3) (by simp [Value.oneCell']) (by unfold maxLen; omega) (by omega) (by simp; omega) ?_; intro v' w4 hown' hgrow _ _; obtain ⟨A4, c4, rfl, hB4⟩ := HBy.out _ _ _ hown'; have B4 := Lib.hid hB4; have D4 := Lib.hid ((bal (bal (Below.refl w3.heap.size w3) (.cells (zr 64) 5)) (.cells #[.int .u8 9] 5)).grown hgrow (by simp; omega) (fun q hq => ((HOw.out w3).lt q hq).1)); clear hown' hgrow hB4)
    | (go_at_call 29; ((with_reducible refine (HA2.out w4 _ _ _ _ (P3.out.below D4.out) B4.out).mono ?_); rintro r w5 ⟨rfl, hb⟩); have P5 := Lib.hid ((P3.out.below D4.out).below hb); have K5 := Lib.hid (stepB (stepB K3.out D4.out) hb); clear hb))
  clear hm64 HA2 P3 K3 HOw HBy HCo B4 D4
  go_upto_region 7 with (go_at_call 29; ((with_reducible refine (HA3.out (w5.alloc (.cells #[.int .u8 1, .int .u8 4] 5)) _ _ _ _ (P5.out.below (bal (Below.refl _ _) (.cells #[.int .u8 1, .int .u8 4] 5))) (HN2.out w5)).mono ?_); rintro r w6 ⟨rfl, hb⟩); have P6 := Lib.hid ((P5.out.below (bal (Below.refl _ _) (.cells #[.int .u8 1, .int .u8 4] 5))).below hb); have K6 := Lib.hid (stepB (bal K5.out (.cells #[.int .u8 1, .int .u8 4] 5)) hb); clear hb)
  clear HA3 HN2 P5 K5
  go_upto_region 8 with (first
    | (go_at_call 38; ((with_reducible refine (HR2.out _).mono ?_); rintro r w7 ⟨A7, c7, rfl, hP, hb⟩); have Q7 := Lib.hid hP; clear hP; have P7 := Lib.hid (P6.out.below hb); have K7 := Lib.hid (stepB K6.out hb); clear hb)
    | (go_at_call 36; ((with_reducible refine (HN1.out w7 _ _ Q7.out).mono ?_); rintro r w8 ⟨rfl, hb⟩); have P8 := Lib.hid (P7.out.below hb); have K8 := Lib.hid (stepB K7.out hb); clear hb))
  clear HR2 HN1 Q7 P7 K7 P6 K6
  go_upto_region 9 with (first
    | (go_at_call 38; ((with_reducible refine (HR3.out _).mono ?_); rintro r w9 ⟨A9, c9, rfl, hP, hb⟩); have Q9 := Lib.hid hP; clear hP; have P9 := Lib.hid (P8.out.below hb); have K9 := Lib.hid (stepB K8.out hb); clear hb)
    | (go_at_call 37; ((with_reducible refine (HD1.out w9 _ _ Q9.out).mono ?_); rintro r w10 ⟨rfl, hb⟩); have P10 := Lib.hid (P9.out.below hb); have K10 := Lib.hid (stepB K9.out hb); clear hb))
  clear HR3 HD1 Q9 P9 K9 P8 K8
  go_upto_region 10 with (go_at_call 37; ((with_reducible refine (HD2.out _ _ _ P10.out).mono ?_); rintro r w11 ⟨rfl, hb⟩); have P11 := Lib.hid (P10.out.below hb); have K11 := Lib.hid (stepB K10.out hb); clear hb)
  clear HD2 P10 K10
  go_upto_region 12 with (go_at_call 37; ((with_reducible refine (HD3.out _ _ _ P11.out).mono ?_); rintro r w12 ⟨rfl, hb⟩); have K12 := Lib.hid (stepB K11.out hb); clear hb)
  clear HD3 P11 K11
  go_wp2
  go_loopw [16, 17] (fun sv iv wr => ∃ k : Nat, k ≤ 20 ∧ sv = .string ⟨(lgS k).toArray⟩ ∧ iv = .int .i64 k ∧ wr = w12) (fun _ iv _ => 20 - (intOf iv).toNat)
  case atStart => exact ⟨0, by omega, rfl, rfl, rfl⟩
  case round =>
    obtain ⟨k, hk, rfl, rfl, rfl⟩ := hrel
    by_cases hlt : k < 20
    · have hlk := lg_len k
      have hs1 : ¬ 9223372036854775807 < 8 + (lgS k).length := by omega
      have hs2 : ¬ 9223372036854775807 < 8 + (lgS k).length + 1 := by omega
      have HSt := Lib.hid (lg_step k)
      clear hlk HR4
      generalize hls : lgS k = sk at *
      clear hls
      go_wp2
      go_roundw
      case rel => exact ⟨k + 1, by omega, by rw [HSt.out], by go_num, trivial⟩
      case measure => simp [intOf]; omega
    · obtain rfl : k = 20 := by omega
      go_upto_region 17 with (first
        | (go_at_call 38; ((with_reducible refine (HR4.out _).mono ?_); rintro r w13 ⟨A13, c13, rfl, hP, hb⟩); have Q13 := Lib.hid hP; clear hP; have K13 := Lib.hid (stepB K12.out hb); clear hb)
        | (go_at_call 37; ((with_reducible refine (HD4.out w13 _ _ Q13.out).mono ?_); rintro r w14 ⟨rfl, hb⟩); have K14 := Lib.hid (stepB K13.out hb); clear hb))
      clear HR4 HD4 Q13 K13 K12
      go_upto_region 18 with fail
      change Code.wp _ _ _ _ (tabW w14)
      have hTb := tab_below w14
      have HTb := Lib.hid (stepB K14.out hTb)
      have HCe := Lib.hid fun k (hk : k < 11) => show (tabW w14).cell? ⟨w14.heap.size + 8, k * 3, none⟩ = some (.string (tS k)) ∧ (tabW w14).cell? ⟨w14.heap.size + 8, k * 3 + 1, none⟩ = some (.slice (tP w14.heap.size k) (tW k).length (tW k).length) ∧ (tabW w14).cell? ⟨w14.heap.size + 8, k * 3 + 2, none⟩ = some (.bool (tB k)) from ⟨tab_at _ _ _ (tab_cells w14 k hk).1, tab_at _ _ _ (tab_cells w14 k hk).2.1, tab_at _ _ _ (tab_cells w14 k hk).2.2⟩
      have HBy := Lib.hid (tab_bys w14)
      have hg8 : w14.heap.size + 8 < (tabW w14).heap.size := by show _ < ((tabA w14).alloc _).heap.size; rw [World.size_alloc, tab_size]; omega
      have HRd : Hid (∀ k, k < 11 → ∀ X, Calls Try.prog 38 #[.string (tS k)] X fun r w' => ∃ A' c', r = .returned (.slice A' (tT k).size c') ∧ PcsAt w' A' (flat (tT k) 0) ∧ Below X.heap.size X w') := fun k hk X => read5_any _ _ _ X (t_par k hk) rfl
      have HAc : Hid (∀ k, k < 11 → ∀ X A c B d, PcsAt X A (flat (tT k) 0) → Bys X B (tW k) → Calls Try.prog 29 #[.slice A (tT k).size c, .int .i64 2, .slice B (tW k).length d] X fun r w' => r = .returned (.tuple #[.bool (tB k), .int .i64 0]) ∧ Below X.heap.size X w') := fun k hk X A c B d hA hB => by
        have := Accepts_good (A := A) (B := B) (c := c) (d := d) (v := 2) (word := tW k) (w := X) (t := tT k) (L := (tT k).size) (n := (tW k).length) hA (parE_ok (t_par k hk)).1 rfl hB rfl (t_lt k hk).2 (t_wd k hk) (by have := (t_lt k hk).1; omega)
        rwa [t_mt k hk] at this
      clear hTb K14
      generalize tabW w14 = wT at *
      generalize w14.heap.size = gT at *
      go_loopw [102] (fun iv wr => ∃ k : Nat, k ≤ 11 ∧ iv = .int .i64 k ∧ Hid (Below wT.heap.size wT wr)) (fun iv _ => 11 - (intOf iv).toNat)
      case atStart => exact ⟨0, by omega, rfl, Below.refl _ _⟩
      case round =>
        obtain ⟨k, hk, rfl, HbX⟩ := hrel
        by_cases hlt : k < 11
        · obtain ⟨c0, c1, c2⟩ := HCe.out k hlt
          replace c0 := (HbX.out.cell hg8).trans c0
          replace c1 := (HbX.out.cell hg8).trans c1
          replace c2 := (HbX.out.cell hg8).trans c2
          have hBw := Lib.hid ((HBy.out k hlt).below HbX.out)
          have HR := Lib.hid (HRd.out k hlt)
          have HA := Lib.hid (HAc.out k hlt)
          clear HCe HBy HRd HAc
          generalize tS k = ss at *
          generalize tP gT k = pp at *
          generalize tT k = tt at *
          generalize tB k = tb' at *
          have hk11 : (k : Int) < 11 := by omega
          generalize hnw : (tW k).length = nw at *
          generalize hns : tt.size = ns at *
          clear hnw hns
          go_upto_region 20 with fail
          have hB2 := bal (Below.refl wr.heap.size wr) (.cells #[.string ss, .slice pp nw nw, .bool tb'] 64)
          have x0 : (wr.alloc (.cells #[.string ss, .slice pp nw nw, .bool tb'] 64)).cell? ⟨wr.heap.size, 0, none⟩ = some (.string ss) := by rw [World.cell?_alloc_at _ _ _ _ rfl]; rfl
          have x1 : (wr.alloc (.cells #[.string ss, .slice pp nw nw, .bool tb'] 64)).cell? ⟨wr.heap.size, 1, none⟩ = some (.slice pp nw nw) := by rw [World.cell?_alloc_at _ _ _ _ rfl]; rfl
          have x2 : (wr.alloc (.cells #[.string ss, .slice pp nw nw, .bool tb'] 64)).cell? ⟨wr.heap.size, 2, none⟩ = some (.bool tb') := by rw [World.cell?_alloc_at _ _ _ _ rfl]; rfl
          have hgs : wr.heap.size < (wr.alloc (.cells #[.string ss, .slice pp nw nw, .bool tb'] 64)).heap.size := by simp
          have hBw2 := Lib.hid (hBw.out.below hB2)
          have HbY := Lib.hid (stepB HbX.out hB2)
          clear hB2 c0 c1 c2 hBw HbX
          generalize (wr.alloc (.cells #[.string ss, .slice pp nw nw, .bool tb'] 64)) = wy at *
          generalize wr.heap.size = gy at *
          have KE : Below wy.heap.size wy wy.drew := ⟨rfl, rfl, rfl, Nat.le_refl _, fun _ _ => rfl⟩
          have hS : wy.drew.cell? ⟨gy, 0, none⟩ = some (.string ss) ∧ wy.drew.cell? ⟨gy, 1, none⟩ = some (.slice pp nw nw) ∧ Below wy.heap.size wy wy.drew := ⟨(KE.cell hgs).trans x0, (KE.cell hgs).trans x1, KE⟩
          go_region_held3 (fun w' => w'.cell? ⟨gy, 0, none⟩ = some (.string ss) ∧ w'.cell? ⟨gy, 1, none⟩ = some (.slice pp nw nw) ∧ Below wy.heap.size wy w')
            (first | assumption)
            (first
              | (go_at_call 38; ((with_reducible refine (HR.out wy.drew).mono ?_); rintro r w15 ⟨A15, c15, rfl, hP, hb15⟩); have K15 := stepB KE hb15; have hS15 : w15.cell? ⟨gy, 0, none⟩ = some (.string ss) ∧ w15.cell? ⟨gy, 1, none⟩ = some (.slice pp nw nw) ∧ Below wy.heap.size wy w15 := ⟨(K15.cell hgs).trans x0, (K15.cell hgs).trans x1, K15⟩; have P15 := Lib.hid hP; clear hP)
              | (go_at_call 29; ((with_reducible refine (HA.out w15 _ _ _ _ P15.out (hBw2.out.below K15)).mono ?_); rintro r w16 ⟨rfl, hb16⟩); have K16 := stepB K15 hb16; have hS16 : w16.cell? ⟨gy, 0, none⟩ = some (.string ss) ∧ w16.cell? ⟨gy, 1, none⟩ = some (.slice pp nw nw) ∧ Below wy.heap.size wy w16 := ⟨(K16.cell hgs).trans x0, (K16.cell hgs).trans x1, K16⟩))
          have K := hS16.2.2
          have y2 := (K.cell hgs).trans x2
          clear hS hS15 hS16 KE K15 K16 hb15 hb16 P15 x0 x1 x2 HR HA hBw2
          go_wp2
          go_roundw
          case rel => exact ⟨k + 1, by omega, by go_num, stepB HbY.out K⟩
          case measure => simp [intOf]; omega
        · obtain rfl : k = 11 := by omega
          clear HCe HBy HRd HAc
          go_wp2
          go_ret
          exact ⟨rfl, stepB HTb.out HbX.out⟩
end Go.Proofs.Ytlaagjmfgaccjaa.Rx
