/- math/bits.OnesCount64, Len. -/
import Derived.Test.YtdjhfndoheoljaaF
import Derived.Test.YtdjhfndoheoljaaG
namespace Go.Proofs.Ytdjhfndoheoljaa
open Go Go.RowKit
set_option maxRecDepth 100000
theorem wrap_nat (a b : Nat) (h : a + b < 18446744073709551616) : IntKind.u64.wrap ((a : Int) + (b : Int)) = ((a + b : Nat) : Int) := by
  rw [IntKind.wrap_u64]; omega
theorem and_u64 (a b : Nat) (ha : a < 18446744073709551616) (hb : b < 18446744073709551616) : bits .and .u64 (a : Int) (b : Int) = ((a &&& b : Nat) : Int) := u64_and_nat a b ha hb
theorem ones_val (x : Nat) (hx : x < 18446744073709551616) (a b c y1 y2 : Int)
    (ea : a = IntKind.u64.wrap (bits .and .u64 ((x : Int) / 2) 6148914691236517205 + bits .and .u64 (x : Int) 6148914691236517205))
    (eb : b = IntKind.u64.wrap (bits .and .u64 (a / 4) 3689348814741910323 + bits .and .u64 a 3689348814741910323))
    (ec : c = bits .and .u64 (IntKind.u64.wrap (b / 16 + b)) 1085102592571150095)
    (e1 : y1 = IntKind.u64.wrap (c + c / 256)) (e2 : y2 = IntKind.u64.wrap (y1 + y1 / 65536)) :
    bits .and .i64 (wrap64 (IntKind.u64.wrap (y2 + y2 / 4294967296))) 127 = (pop x : Nat) := by
  have m0 : M0 < 18446744073709551616 := by decide
  have m1 : M1 < 18446744073709551616 := by decide
  have m2 : M2 < 18446744073709551616 := by decide
  obtain ⟨na, hna⟩ : ∃ na, na = (x / 2 &&& M0) + (x &&& M0) := ⟨_, rfl⟩
  have l0 : x / 2 &&& M0 ≤ 6148914691236517205 := Nat.and_le_right
  have l1 : x &&& M0 ≤ 6148914691236517205 := Nat.and_le_right
  have fa : a = (na : Int) := by
    rw [ea, hna, ← wrap_nat _ _ (by omega), ← and_u64 _ _ (by omega) m0, ← and_u64 _ _ hx m0]
    rfl
  obtain ⟨nb, hnb⟩ : ∃ nb, nb = (na / 4 &&& M1) + (na &&& M1) := ⟨_, rfl⟩
  have l2 : na / 4 &&& M1 ≤ 3689348814741910323 := Nat.and_le_right
  have l3 : na &&& M1 ≤ 3689348814741910323 := Nat.and_le_right
  have fb : b = (nb : Int) := by
    rw [eb, hnb, ← wrap_nat _ _ (by omega), ← and_u64 _ _ (by omega) m1, ← and_u64 _ _ (by omega) m1, fa]
    rfl
  obtain ⟨nc, hnc⟩ : ∃ nc, nc = (nb / 16 + nb) &&& M2 := ⟨_, rfl⟩
  have l4 : nc ≤ 1085102592571150095 := by rw [hnc]; exact Nat.and_le_right
  have fc : c = (nc : Int) := by
    rw [ec, hnc, ← and_u64 _ _ (by omega) m2, ← wrap_nat _ _ (by omega), fb]
    rfl
  have f1 : y1 = ((nc + nc / 256 : Nat) : Int) := by
    rw [e1, ← wrap_nat _ _ (by omega), fc]
    rfl
  obtain ⟨n1, hn1⟩ : ∃ n1, n1 = nc + nc / 256 := ⟨_, rfl⟩
  rw [← hn1] at f1
  have f2 : y2 = ((n1 + n1 / 65536 : Nat) : Int) := by
    rw [e2, ← wrap_nat _ _ (by omega), f1]
    rfl
  obtain ⟨n2, hn2⟩ : ∃ n2, n2 = n1 + n1 / 65536 := ⟨_, rfl⟩
  rw [← hn2] at f2
  have f3 : IntKind.u64.wrap (y2 + y2 / 4294967296) = ((n2 + n2 / 4294967296 : Nat) : Int) := by
    rw [← wrap_nat _ _ (by omega), f2]
    rfl
  have hw : wrap64 ((n2 + n2 / 4294967296 : Nat) : Int) = ((n2 + n2 / 4294967296 : Nat) : Int) := by unfold wrap64; omega
  rw [f3, hw, i64_and127]
  have hp : pop x = (n2 + n2 / 4294967296) % 128 := by
    rw [← swar_pop, hn2, hn1, hnc, hnb, hna]
    rfl
  rw [hp]
  omega
/-- The number of elements. -/
def lenTo (xs : List Nat) : Nat → Nat
  | 0 => 0
  | n + 1 => lenTo xs n + pop (wd xs n)
theorem lenTo_le (xs : List Nat) : ∀ n, lenTo xs n ≤ 64 * n
  | 0 => Nat.le_refl _
  | n + 1 => by
    have := lenTo_le xs n
    have := pop_le (wd xs n)
    show lenTo xs n + pop (wd xs n) ≤ _
    omega
theorem elsTo_add (xs : List Nat) (i : Nat) : ∀ n, n ≤ 64 → (elsTo xs (64 * i + n)).length = (elsTo xs (64 * i)).length + popTo (wd xs i) n
  | 0, _ => by simp [popTo]
  | n + 1, h => by
    rw [popTo_succ, ← Nat.add_assoc]
    have hm := mem_at xs i n (by omega)
    cases hb : (wd xs i).testBit n with
    | true =>
      rw [hb] at hm
      rw [elsTo_succ hm, List.length_append, elsTo_add xs i n (by omega)]
      simp; omega
    | false =>
      rw [hb] at hm
      rw [elsTo_same hm, elsTo_add xs i n (by omega)]
      simp
theorem lenTo_els (xs : List Nat) : ∀ n, lenTo xs n = (elsTo xs (64 * n)).length
  | 0 => rfl
  | n + 1 => by
    have := elsTo_add xs n 64 (Nat.le_refl _)
    show lenTo xs n + pop (wd xs n) = _
    rw [lenTo_els xs n, Nat.mul_add, Nat.mul_one, this]
    rfl
end Go.Proofs.Ytdjhfndoheoljaa
