/- The reference's Ints, Same and Has; Compare and Has of bitset. -/
import Derived.Test.YtdjhfndoheoljaaJ
namespace Go.Proofs.Ytdjhfndoheoljaa
open Go Go.RowKit
set_option maxRecDepth 100000
theorem below_drewN_k {B : Nat} {a w : World} (h : Below B a w) (n : Nat) : Below B a (w.drewN n) := ⟨h.os, h.tape, h.output, h.size, h.block⟩
theorem wd_ext {xs ys : List Nat} (h : xs.length = ys.length) (hk : ∀ i, i < xs.length → wd xs i = wd ys i) : xs = ys := by
  apply List.ext_getElem h
  intro i h1 h2
  have := hk i h1
  simpa [wd, h1, h2] using this
/-- The elements as ints. -/
def elsI (xs : List Nat) : List Int := (els xs).map fun x : Nat => (x : Int)
theorem own_ints {w : World} {base : Nat} {A : Option Addr} {c n : Nat} {l : List Nat} (h : w.ownsRow base 3 1 (.slice A n c) n (ivs l)) (hn : n = l.length) : Ints w A (l.map fun x : Nat => (x : Int)) := by
  subst hn
  unfold Ints
  rw [List.length_map]
  exact Vals.of_own h fun j hj => by simp [ivs, nd, hj]
/-- A slice that the call made owns numbers: written out. -/
theorem own_form {w : World} {base e n : Nat} {v : Value} {xs : List Value} (h : w.ownsRow base e 1 v n xs) : ∃ A c, v = .slice A n c ∧ n ≤ c := by
  rcases h.2 with ⟨rfl, rfl⟩ | ⟨g, cap, cur, rfl, _, _, h1, _⟩
  · exact ⟨none, 0, rfl, Nat.le_refl _⟩
  · exact ⟨_, _, rfl, h1⟩
/-- The order of two sets. -/
def cmpS (xs ys : List Nat) : Int := cmpL (elsI xs) (elsI ys)
theorem elsI_len (xs : List Nat) : (elsI xs).length = (els xs).length := by simp [elsI]
theorem els_le (xs : List Nat) : (els xs).length ≤ 4096 := elsTo_len xs 4096
end Go.Proofs.Ytdjhfndoheoljaa
