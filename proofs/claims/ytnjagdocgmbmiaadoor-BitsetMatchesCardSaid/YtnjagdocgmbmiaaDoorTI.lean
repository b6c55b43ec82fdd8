/- From a walk to the statement: a list of ints among the arguments. -/
import Derived.Test.YtnjagdocgmbmiaaDoorT
namespace Go.Proofs.YtnjagdocgmbmiaaDoor
open Go Go.RowKit Go.ChangeShapes Go.WideShapes Go.ChangeAt
set_option maxRecDepth 100000
theorem ints_of_trod {H : Type} {enc : TypeId × Value → H} {W : World} {fuel : Nat} {a : Option Addr} {len cap : Nat} {x : DataW H × List MemPlace} {b : Nat} {held : Bool}
    (hf : DataW.trod enc Tryd.prog W b (fun _ => true) held fuel 24 [.slice a len cap] = some x) :
    ∃ l : List Int, len = l.length ∧ Ints W a l ∧ True ∧ l.length ≤ cap ∧ cap ≤ maxLen := by
  rcases open_ints Tryd.underlying24 Tryd.underlying3 (by kernel_rfl) hf with ⟨hcs, _⟩ | ⟨ad, l, c, zs, hcs, _, hl, hm, hz, _, hcell, hwz⟩
  · simp at hcs
    obtain ⟨rfl, rfl, rfl⟩ := hcs
    exact ⟨[], rfl, Vals.nil_, trivial, Nat.le_refl _, by unfold maxLen; omega⟩
  · simp at hcs
    obtain ⟨rfl, rfl, rfl⟩ := hcs
    simp only [if_true] at hz
    refine ⟨zs.take len, by simp; omega, ?_, trivial, by simp; omega, hm⟩
    intro j hj
    simp only [List.length_take] at hj
    have hc := hcell j (by omega)
    have hb := block_of_cell hc
    rw [addr_block] at hb
    refine ⟨ad, rfl, hb, hc.trans ?_⟩
    have e : nd (zs.take len) j = zs.getD j 0 := by
      unfold nd
      rw [List.getD_eq_getElem?_getD, List.getElem?_take, if_pos (by omega), List.getD_eq_getElem?_getD]
    exact congrArg (fun t => some (Value.int .i64 t)) e.symm
end Go.Proofs.YtnjagdocgmbmiaaDoor
