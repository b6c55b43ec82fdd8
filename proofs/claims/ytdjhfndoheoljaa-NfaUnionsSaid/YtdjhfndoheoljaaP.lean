/- The chapter's examples hold: awake. -/
import Derived.Test.YtdjhfndoheoljaaM
namespace Go.Proofs.Ytdjhfndoheoljaa
open Go Go.RowKit
set_option maxRecDepth 100000
theorem ex1 : ofL [70, 3, 3, -1] = [8, 64] := by decide +kernel
theorem ex2 : els [8, 64] = [3, 70] := by decide +kernel
theorem ex3 : ofL [70] = [0, 64] := by decide +kernel
theorem ex4 : canon (zipW andNot [8, 64] [0, 64]) = [8] := by decide +kernel
theorem ex5 : cmpS (ofL [1, 5]) (ofL [1]) = 1 := by decide +kernel
theorem ex6 : cmpS (ofL [0, 9]) (ofL [1]) = -1 := by decide +kernel
theorem of_lit (l : List Int) (rs : List Nat) (h : ofL l = rs) (hl : l.length ≤ 100) (W : World) :
    Calls Try.prog 24 #[.slice (some ⟨W.heap.size, 0, none⟩) l.length l.length] (W.alloc (.cells (l.map (Value.int .i64)).toArray 3)) fun e w' =>
      ∃ A' c', e = .returned (.slice A' rs.length c') ∧ Words w' A' rs ∧ U64 rs ∧ rs.length ≤ c' ∧ Below W.heap.size W w' := by
  subst h
  refine (Of_own _ l _ _ (ints_new W _ l) (by unfold maxLen; omega)).mono ?_
  rintro e w' ⟨A', c', he, ho, hb⟩
  exact ⟨A', c', he, ho.words, ho.2.1, ho.2.2, ((Below.refl _ W).alloc (Nat.le_refl _) _).trans (hb.mono (by simp))⟩
theorem drewN_below (w : World) (n : Nat) : Below w.heap.size w (w.drewN n) := below_drewN_k (Below.refl _ _) n
theorem alloc_below (w : World) (o : Obj) : Below w.heap.size w (w.alloc o) := (Below.refl _ w).alloc (Nat.le_refl _) _
end Go.Proofs.Ytdjhfndoheoljaa
