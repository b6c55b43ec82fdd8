/- The form's own reach at a slice of bytes. -/
import Derived.Test.YtlaagjmfgaccjaaDoorFZ
import Derived.SizedLaws
namespace Go.Proofs.YtlaagjmfgaccjaaDoor.Nf
open Go Go.ChangeShapes Go.WideShapes Go.ChangeAt Go.RowKit Go.Proofs.YtlaagjmfgaccjaaDoor
set_option linter.unusedVariables false
set_option maxRecDepth 100000
theorem bytesU8 : Tryd.prog.bytesOf 5 = 1 := by kernel_rfl
section
variable {H : Type} {enc : TypeId × Value → H} {W : World} {b : Nat} {held : Bool} {fuel : Nat} {x : DataW H × List MemPlace}
theorem word_sized {a : Option Addr} {len cap : Nat} (hf : DataW.trod enc Tryd.prog W b (fun _ => true) held fuel 39 [.slice a len cap] = some x) {ts : List TypeId} {ds : List (DataW H)}
    (h : (DataW.weightsEach Tryd.prog ts ds).all (· ≤ reachBytes) = true) {j : Nat} (ht : ts[j]? = some 39) (hd : ds[j]? = some x.1) : len ≤ 140737488351232 := by
  rcases open_ints Tryd.underlying39 Tryd.underlying5 (by kernel_rfl) hf with ⟨hcs, _⟩ | ⟨ad, l, c, zs, hcs, _, hl, hm, hz, hx, hcell, hwz⟩
  · simp at hcs
    omega
  · simp at hcs
    obtain ⟨rfl, rfl, rfl⟩ := hcs
    simp only [if_true] at hz
    subst hx
    have := sized_slice h ht hd Tryd.underlying39
    rw [bytesU8] at this
    simp only [ChangeShapes.lits, List.length_map, List.length_take, List.length_drop, reachBytes] at this
    omega
end
end Go.Proofs.YtlaagjmfgaccjaaDoor.Nf
