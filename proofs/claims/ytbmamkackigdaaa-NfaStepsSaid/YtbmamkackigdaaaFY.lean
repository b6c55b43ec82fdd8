/- The form's own reach at a slice of bytes. -/
import Derived.Test.YtbmamkackigdaaaFZ
import Derived.SizedLaws
namespace Go.Proofs.Ytbmamkackigdaaa.Nf
open Go Go.ChangeShapes Go.WideShapes Go.ChangeAt Go.RowKit Go.Proofs.Ytbmamkackigdaaa
set_option linter.unusedVariables false
set_option maxRecDepth 100000
theorem bytesU8 : Try.prog.bytesOf 5 = 1 := by kernel_rfl
section
variable {H : Type} {enc : TypeId × Value → H} {W : World} {b : Nat} {held : Bool} {fuel : Nat} {x : DataW H × List MemPlace}
theorem word_sized {a : Option Addr} {len cap : Nat} (hf : DataW.trod enc Try.prog W b (fun _ => true) held fuel 28 [.slice a len cap] = some x) {ts : List TypeId} {ds : List (DataW H)}
    (h : (DataW.weightsEach Try.prog ts ds).all (· ≤ reachBytes) = true) {j : Nat} (ht : ts[j]? = some 28) (hd : ds[j]? = some x.1) : len ≤ 140737488351232 := by
  rcases open_ints Try.underlying28 Try.underlying5 (by kernel_rfl) hf with ⟨hcs, _⟩ | ⟨ad, l, c, zs, hcs, _, hl, hm, hz, hx, hcell, hwz⟩
  · simp at hcs
    omega
  · simp at hcs
    obtain ⟨rfl, rfl, rfl⟩ := hcs
    simp only [if_true] at hz
    subst hx
    have := sized_slice h ht hd Try.underlying28
    rw [bytesU8] at this
    simp only [ChangeShapes.lits, List.length_map, List.length_take, List.length_drop, reachBytes] at this
    omega
end
end Go.Proofs.Ytbmamkackigdaaa.Nf
