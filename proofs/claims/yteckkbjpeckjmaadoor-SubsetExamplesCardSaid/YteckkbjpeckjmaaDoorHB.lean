/- Slices of tables; the reference's find and fixed. -/
import Derived.Test.YteckkbjpeckjmaaDoorHA
import Derived.Laws.BitsAllLaws
namespace Go.Proofs.YteckkbjpeckjmaaDoor.Dg
open Go Go.RowKit Go.Proofs.YteckkbjpeckjmaaDoor.Ap
set_option maxRecDepth 100000
/-- The j-th table. -/
def tb (L : List (List Int)) (j : Nat) : List Int := L.getD j []
/-- The slice that begins at A holds the tables L. -/
def Tabs (X : World) (A : Option Addr) (L : List (List Int)) : Prop :=
  ∀ j, j < L.length → ∃ ad p c, A = some ad ∧ ad.block < X.heap.size ∧ X.cell? (ad.add j) = some (.slice p (tb L j).length c) ∧ Ints X p (tb L j)
theorem Tabs.below {X Y : World} {A : Option Addr} {L : List (List Int)} (h : Tabs X A L) (hb : Below X.heap.size X Y) : Tabs Y A L := fun j hj => by
  obtain ⟨ad, p, c, e, h1, h2, h3⟩ := h j hj
  exact ⟨ad, p, c, e, Nat.lt_of_lt_of_le h1 hb.size, (hb.cell (by rw [addr_block]; exact h1)).trans h2, Vals.below h3 hb⟩
theorem tb_mem {L : List (List Int)} {j : Nat} (h : j < L.length) : tb L j ∈ L := by
  unfold tb
  rw [List.getD_eq_getElem?_getD, List.getElem?_eq_getElem h]
  exact List.getElem_mem h
theorem mem_tb {L : List (List Int)} {t : List Int} (h : t ∈ L) : ∃ j, j < L.length ∧ tb L j = t := by
  obtain ⟨j, hj, rfl⟩ := List.mem_iff_getElem.1 h
  exact ⟨j, hj, by unfold tb; rw [List.getD_eq_getElem?_getD, List.getElem?_eq_getElem hj]; rfl⟩
/-- The table with the variables below k fixed as in x. -/
def fixL (t : List Int) (k x m : Nat) : List Int := (List.range m).map fun y => nd t (y / 2 ^ k * 2 ^ k + x % 2 ^ k)
theorem fixL_succ (t : List Int) (k x m : Nat) : fixL t k x (m + 1) = fixL t k x m ++ [nd t (m / 2 ^ k * 2 ^ k + x % 2 ^ k)] := by
  unfold fixL
  rw [List.range_succ, List.map_append]; rfl
theorem fixL_len (t : List Int) (k x m : Nat) : (fixL t k x m).length = m := by simp [fixL]
theorem fix_bits : ((List.range 7).all fun k => (List.range 64).all fun y => (List.range 64).all fun x => bits .or .i64 (bits .andNot .i64 (y : Int) ((2 ^ k : Nat) - 1 : Int)) (bits .and .i64 (x : Int) ((2 ^ k : Nat) - 1 : Int)) == ((y / 2 ^ k * 2 ^ k + x % 2 ^ k : Nat) : Int)) = true := by decide +kernel
theorem fix_bit {k y x : Nat} (hk : k ≤ 6) (hy : y < 64) (hx : x < 64) : bits .or .i64 (bits .andNot .i64 (y : Int) ((2 ^ k : Nat) - 1 : Int)) (bits .and .i64 (x : Int) ((2 ^ k : Nat) - 1 : Int)) = ((y / 2 ^ k * 2 ^ k + x % 2 ^ k : Nat) : Int) := by
  have h1 := List.all_eq_true.1 fix_bits k (List.mem_range.2 (by omega))
  have h2 := List.all_eq_true.1 h1 y (List.mem_range.2 hy)
  have h3 := List.all_eq_true.1 h2 x (List.mem_range.2 hx)
  exact beq_iff_eq.1 h3
theorem fix_lt {v k y x : Nat} (hk : k ≤ v) (hy : y < 2 ^ v) : y / 2 ^ k * 2 ^ k + x % 2 ^ k < 2 ^ v := by
  have hp : 0 < 2 ^ k := Nat.pow_pos (by decide)
  have h1 := Nat.mod_lt x hp
  obtain ⟨d, rfl⟩ : ∃ d, v = k + d := ⟨v - k, by omega⟩
  rw [Nat.pow_add] at hy ⊢
  have h2 : y / 2 ^ k < 2 ^ d := Nat.div_lt_of_lt_mul hy
  have h3 : (y / 2 ^ k + 1) * 2 ^ k ≤ 2 ^ d * 2 ^ k := Nat.mul_le_mul_right _ h2
  rw [Nat.add_mul, Nat.one_mul, Nat.mul_comm (2 ^ d)] at h3
  omega
end Go.Proofs.YteckkbjpeckjmaaDoor.Dg
