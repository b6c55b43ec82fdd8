/- Contracts of combine, Union, Intersect, Minus, Canonical. -/
import Derived.Test.YtdjhfndoheoljaaB
namespace Go.Proofs.Ytdjhfndoheoljaa
open Go Go.RowKit
set_option maxRecDepth 100000
theorem info_u64 : (Try.prog.info? 44).map (fun i => (i.zero, i.size, i.bytes)) = some (some (.int .u64 0), 1, 8) := by kernel_rfl
/-- n cells: below k what p gives, then 0. -/
def cmb (p : Nat → Nat → Nat) (xs ys : List Nat) (n k : Nat) : List Value := (List.range n).map fun i => .int .u64 ((if i < k then p (wd xs i) (wd ys i) else 0 : Nat) : Int)
theorem cmb_len (p : Nat → Nat → Nat) (xs ys : List Nat) (n k : Nat) : (cmb p xs ys n k).length = n := by simp [cmb]
theorem cmb_zero (p : Nat → Nat → Nat) (xs ys : List Nat) (n : Nat) : cmb p xs ys n 0 = List.replicate n (.int .u64 0) := by
  apply List.ext_getElem
  · simp [cmb_len]
  · intro j _ _
    simp [cmb]
theorem cmb_set (p : Nat → Nat → Nat) (xs ys : List Nat) (n k : Nat) : (cmb p xs ys n k).set k (.int .u64 (p (wd xs k) (wd ys k) : Nat)) = cmb p xs ys n (k + 1) := by
  apply List.ext_getElem
  · simp [cmb_len]
  · intro j _ _
    simp only [cmb, List.getElem_set, List.getElem_map, List.getElem_range]
    by_cases hk : k = j
    · subst hk; simp
    · have : (j < k + 1) ↔ j < k := by omega
      simp only [hk, if_false, this]
theorem cmb_full (p : Nat → Nat → Nat) (xs ys : List Nat) (n : Nat) : cmb p xs ys n n = (List.range n).map fun i => .int .u64 (p (wd xs i) (wd ys i) : Nat) := by
  apply List.ext_getElem
  · simp [cmb_len]
  · intro j h _
    rw [cmb_len] at h
    simp [cmb, h]
/-- The words of a combination. -/
def zipW (p : Nat → Nat → Nat) (xs ys : List Nat) : List Nat := (List.range (max (ulen xs) (ulen ys))).map fun i => p (wd xs i) (wd ys i)
/-- The canonical form of words. -/
def canon (xs : List Nat) : List Nat := xs.take (ulen xs)
def uvs (xs : List Nat) : List Value := xs.map fun x : Nat => .int .u64 (x : Int)
theorem uvs_take (xs : List Nat) (n : Nat) : (uvs xs).take n = uvs (xs.take n) := by simp [uvs, List.map_take]
theorem uvs_len (xs : List Nat) : (uvs xs).length = xs.length := by simp [uvs]
theorem uvs_get (xs : List Nat) (j : Nat) (h : j < xs.length) : (uvs xs)[j]? = some (.int .u64 (wd xs j : Nat)) := by
  simp [uvs, wd, h]
/-- A slice of words that the call made itself. -/
def OwnW (B : Nat) (w : World) (A : Option Addr) (c : Nat) (xs : List Nat) : Prop :=
  w.ownsRow B 44 1 (.slice A xs.length c) xs.length (uvs xs) ∧ U64 xs ∧ xs.length ≤ c
theorem OwnW.words {B : Nat} {w : World} {A : Option Addr} {c : Nat} {xs : List Nat} (h : OwnW B w A c xs) : Words w A xs := Vals.of_own h.1 fun j hj => uvs_get xs j hj
theorem OwnW.canon {B : Nat} {w : World} {A : Option Addr} {c : Nat} {xs : List Nat} (h : OwnW B w A c xs) : OwnW B w A c (canon xs) ∧ (canon xs).length = ulen xs := by
  have hl : (Go.Proofs.Ytdjhfndoheoljaa.canon xs).length = ulen xs := by
    unfold Go.Proofs.Ytdjhfndoheoljaa.canon
    rw [List.length_take]
    exact Nat.min_eq_left (ulen_le xs)
  refine ⟨⟨?_, fun x hx => h.2.1 x (List.mem_of_mem_take hx), ?_⟩, hl⟩
  · have := own_take h.1 (ulen_le xs)
    rw [uvs_take] at this
    rw [hl]
    exact this
  · rw [hl]; exact Nat.le_trans (ulen_le xs) h.2.2
section
variable (A B : Option Addr) (xs ys : List Nat) (c d : Nat) (w : World) (hx : Words w A xs) (ux : U64 xs) (hc : xs.length ≤ c) (hy : Words w B ys) (uy : U64 ys) (hd : ys.length ≤ d)
include hx ux hc hy uy hd
end
end Go.Proofs.Ytdjhfndoheoljaa
