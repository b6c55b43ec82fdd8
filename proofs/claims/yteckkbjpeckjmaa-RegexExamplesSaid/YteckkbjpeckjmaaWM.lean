/- RegexExamples: the rows of its two tables, and what the program answers at each. -/
import Derived.Test.YteckkbjpeckjmaaWJ
namespace Go.Proofs.Yteckkbjpeckjmaa.Rx
open Go Go.RowKit Go.Shelf Go.Proofs.Yteckkbjpeckjmaa
set_option linter.unusedVariables false
set_option maxRecDepth 100000
def rowsA : List (List UInt8 × Int × Int) := [([], 0, 3), ([48], 7, 7), ([120], -1, 7), ([40, 48, 46, 49], 0, 3), ([40, 48, 43, 49, 41], 0, 2), ([48, 49], 0, 5), ([48, 32], 0, 5), ([32, 48], 0, 2), ([40, 40, 62, 48, 41, 42, 41], 0, 2), ([40, 126, 40, 60, 48, 41, 41], 0, 2), ([40, 40, 62, 40, 60, 48, 41, 41, 38, 49, 41], 0, 2), ([40, 62, 40, 60, 48, 41, 41], 0, 2), ([40, 40, 62, 48, 41, 124, 40, 60, 49, 41, 41], 0, 0), ([91, 98, 93], 1, 7), ([91, 98, 93], 2, 0), ([91, 93], 1, 2), ([91, 33, 93], 1, 2), ([91, 98, 97, 93], 2, 2), ([91, 97, 97, 93], 2, 2), ([91, 102, 33], 6, 2), ([91, 102], 6, 3), ([91, 42, 97, 93], 6, 2), ([91, 97, 33, 98], 6, 3), ([40, 41], 0, 2), ([40, 48, 41], 0, 2), ([40, 48, 42], 0, 3), ([40, 48, 42, 42, 41], 0, 2), ([40, 126, 48, 42, 41], 0, 2), ([40], 0, 3), ([41], 0, 2), ([50], 0, 2)]
def rows2 : List (List Pc × Int × Int) := [([], -1, 7), ([], 0, 3), (List.replicate 65 ⟨0, 0, 0, 0, 0⟩, 0, 4), (List.replicate 64 ⟨0, 0, 0, 0, 0⟩, 0, 6), ([⟨11, 0, 0, 0, 0⟩], 0, 6), ([⟨1, 0, 0, 1, 0⟩], 0, 2), ([⟨2, 1, 0, 0, 0⟩], 1, 2), ([⟨3, 1, 0, 0, 0⟩], 0, 7), ([⟨3, 1, 1, 0, 0⟩], 1, 2), ([⟨1, 0, 0, 0, 0⟩, ⟨1, 0, 0, 0, 0⟩], 0, 2), ([⟨7, 0, 0, -1, 0⟩], 0, 8), ([⟨1, 0, 0, 0, 0⟩, ⟨4, 0, 0, 0, 0⟩], 0, 8), ([⟨1, 0, 0, 0, 0⟩, ⟨1, 0, 0, 0, 0⟩, ⟨4, 0, 0, 1, 0⟩], 0, 8), ([⟨1, 0, 0, 0, 0⟩, ⟨1, 0, 0, 0, 0⟩, ⟨4, 0, 0, 0, 1⟩], 0, 0), ([⟨1, 0, 0, 0, 0⟩, ⟨7, 0, 0, 0, 1⟩], 0, 2), ([⟨1, 0, 0, 0, 0⟩, ⟨9, 0, 0, 0, 0⟩, ⟨8, 0, 0, 1, 0⟩], 0, 2)]
def okA (x : List UInt8 × Int × Int) : Bool := decide (x.1.length ≤ 100) && (match parE x.1 x.2.1 with | .error e => decide (e = x.2.2) && decide (e ≠ 0) | .ok _ => decide (x.2.2 = 0))
theorem rowsA_all : rowsA.all okA = true := by kernel_rfl
theorem row13 : chkL 0 [⟨1, 0, 0, 0, 0⟩, ⟨1, 0, 0, 0, 0⟩, ⟨4, 0, 0, 0, 1⟩] = 0 :=
  chkL_valid (t := .two 4 (.leaf 1 0 0) (.leaf 1 0 0)) ⟨by decide, by decide, by simp [Ex.Ok], by decide, by simp [Ex.Cubes], rfl⟩
theorem row15 : chkL 0 [⟨1, 0, 0, 0, 0⟩, ⟨9, 0, 0, 0, 0⟩, ⟨8, 0, 0, 1, 0⟩] = 2 := by
  have ho : (Ex.one 8 (.one 9 (.leaf 1 0 0))).Ok := by simp [Ex.Ok]
  have hv : (Ex.one 8 (.one 9 (.leaf 1 0 0))).Cubes 0 := by simp [Ex.Cubes]
  have hc := chk_block (e := flat (.one 8 (.one 9 (.leaf 1 0 0))) 0) (.one 8 (.one 9 (.leaf 1 0 0))) 0 [] ho hv rfl rfl (by rw [List.drop_zero, ← flat_len _ 0, List.take_length])
  rw [Nat.zero_add, List.nil_append] at hc
  show chkL 0 (flat (.one 8 (.one 9 (.leaf 1 0 0))) 0) = 2
  unfold chkL
  rw [flat_len, if_neg (by omega), if_neg (by decide), if_neg (by decide), hc]
  simp only
  rw [firsts_last, if_neg (by simp), treeOf_flat ho]
  rfl
theorem rows2_at {r : Nat} {l : List Pc} {v a : Int} (h : rows2[r]? = some (l, v, a)) : l.length ≤ 1000 ∧ chkL v l = a := by
  have hr16 : r < 16 := (List.getElem?_eq_some_iff.1 h).1
  rcases (by omega : r = 0 ∨ r = 1 ∨ r = 2 ∨ r = 3 ∨ r = 4 ∨ r = 5 ∨ r = 6 ∨ r = 7 ∨ r = 8 ∨ r = 9 ∨ r = 10 ∨ r = 11 ∨ r = 12 ∨ r = 13 ∨ r = 14 ∨ r = 15) with rfl | rfl | rfl | rfl | rfl | rfl | rfl | rfl | rfl | rfl | rfl | rfl | rfl | rfl | rfl | rfl
  all_goals
    cases h
    refine ⟨by decide, ?_⟩
    first
      | exact row13
      | exact row15
      | kernel_rfl
/-- Parse at a row of the first table. -/
theorem parse_row {r : Nat} {s : List UInt8} {v a : Int} (h : rowsA[r]? = some (s, v, a)) (w : World) :
    Calls Try.prog 7 #[.string ⟨s.toArray⟩, .int .i64 v] w fun e w' => ∃ A n c, e = .returned (.tuple #[.slice A n c, .int .i64 a]) ∧ (a ≠ 0 → n = 0) ∧ n ≤ 1000 ∧ Below w.heap.size w w' := by
  have h1 := List.all_eq_true.1 rowsA_all _ (List.mem_of_getElem? h)
  simp only [okA, Bool.and_eq_true, decide_eq_true_iff] at h1
  obtain ⟨h2, h3⟩ := h1
  cases hp : parE s v with
  | error k =>
    rw [hp] at h3
    simp only [Bool.and_eq_true, decide_eq_true_iff] at h3
    obtain ⟨rfl, h0⟩ := h3
    have hs : (⟨s.toArray⟩ : ByteArray).size = s.length := rfl
    exact (Parse_bad ⟨s.toArray⟩ v k w (.inl (by rw [hs]; omega)) (by rw [hs]; omega) hp).mono fun e w' ⟨h4, h5⟩ => ⟨none, 0, 0, h4, fun _ => rfl, by omega, h5⟩
  | ok t =>
    rw [hp] at h3
    simp only [decide_eq_true_iff] at h3
    subst h3
    have hV := (parE_ok hp).1
    have hs := hV.size
    exact (Parse_good ⟨s.toArray⟩ v t w (by show s.length ≤ _; omega) hp).mono fun e w' ⟨A', c', h4, h5, h6⟩ => ⟨A', t.size, c', h4, fun h => absurd rfl h, by omega, h6⟩
section
variable (A : Option Addr) (l : List Pc) (c : Nat) (v : Int) (w : World) (hx : PcsAt w A l) (hl : l.length ≤ 1000)
include hx hl
theorem format_code : Calls Try.prog 8 #[.slice A l.length c, .int .i64 v] w fun e w' => ∃ s, e = .returned (.tuple #[.string s, .int .i64 (chkL v l)]) ∧ Below w.heap.size w w' := by
  by_cases hE : chkL v l = 0
  · obtain ⟨t, hV, rfl⟩ := chkL_ok hE
    rw [hE]
    exact (Format_good A t _ c v w hx hV (flat_len t 0)).mono fun e w' ⟨h1, h2⟩ => ⟨_, h1, h2⟩
  · exact (Format_bad A l c v w hx (by omega) hE).mono fun e w' ⟨h1, h2⟩ => ⟨_, h1, h2⟩
theorem reverse_code : Calls Try.prog 9 #[.slice A l.length c, .int .i64 v] w fun e w' => ∃ B n d, e = .returned (.tuple #[.slice B n d, .int .i64 (chkL v l)]) ∧ Below w.heap.size w w' := by
  by_cases hE : chkL v l = 0
  · obtain ⟨t, hV, rfl⟩ := chkL_ok hE
    rw [hE]
    exact (Reverse_good A t _ c v w hx hV (flat_len t 0)).mono fun e w' ⟨B, d, h1, _, h2⟩ => ⟨B, _, d, h1, h2⟩
  · exact (Reverse_bad A l c v w hx (by omega) hE).mono fun e w' ⟨h1, h2⟩ => ⟨none, 0, 0, h1, h2⟩
end
end Go.Proofs.Yteckkbjpeckjmaa.Rx
