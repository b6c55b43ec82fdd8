/- From a walk to the statement: what the rows of this seat share. -/
import Derived.Test.YtnjagdocgmbmiaaDoorP
import Derived.Test.YtnjagdocgmbmiaaDoorRows
import Derived.Test.YtnjagdocgmbmiaaDoorTie
import Derived.Test.YtnjagdocgmbmiaaDoorCards
import Derived.ProofKit
import Derived.LaidMore
import Derived.OpenShut
import Derived.ShutString
import Derived.ChangeOld
import Derived.Lib.LaidTab
import Derived.Stop.Joined
import Derived.SevenTiedAt
namespace Go.Proofs.YtnjagdocgmbmiaaDoor
open Go Go.ChangeShapes Go.WideShapes Go.ChangeAt Go.RowKit
set_option maxRecDepth 100000
theorem own : ownKnob Tryd.prog.godebug = none := by kernel_rfl
theorem laidOut : laidOutB Tryd.prog = true := by kernel_rfl
theorem gTab : Tryd.prog.globalNamed "math/bits.deBruijn64tab" = some 0 := by kernel_rfl
theorem gTabType : (Tryd.prog.globals[0]?).map (·.type) = some 61 := by kernel_rfl
theorem cellsTab : Tryd.prog.cellsOf 61 = 64 := by kernel_rfl
theorem cellsU8 : Tryd.prog.cellsOf 5 = 1 := by kernel_rfl
/-- The sum of the harness, as the cards bear it. -/
def harnessSum : String := Rows.bitsetAlgebraCard.stood.harness.2
theorem int_bounds {n : Int} (h : (Lit.int .i64 n).wf = true) : -9223372036854775808 ≤ n ∧ n ≤ 9223372036854775807 := by
  simp [Lit.wf, IntKind.min, IntKind.max, IntKind.signed, IntKind.bits] at h
  omega
/-- What the rows list. -/
def laidTab : List (String × DataW Unit) := [("math/bits.deBruijn64tab", Rows.laid_math_bits_deBruijn64tab)]
theorem laid_eq : (Rows.laid_math_bits_deBruijn64tab : DataW Unit) = Lib.tabData .u8 (Lib.deBruijn64tab.map fun x : Nat => (x : Int)) := by rfl
theorem tab_of_laid {W : World} (h : laidMet Tryd.prog laidTab W) : Tab W := by
  unfold laidTab at h
  rw [laid_eq] at h
  have hT := Lib.tabIs_of_head gTab gTabType Tryd.underlying61 Tryd.underlying5 cellsU8 cellsTab h
  have hc : ∀ j, j < 64 → W.cell? ⟨0, j, none⟩ = some (.int .u8 ((Lib.deBruijn64tab.getD j 0 : Nat) : Int)) := by
    intro j hj
    rw [hT.cell gTab j (by rw [List.length_map]; exact hj)]
    have : j < Lib.deBruijn64tab.length := hj
    simp [this]
  refine ⟨?_, hc⟩
  have h0 := hc 0 (by decide)
  rcases Nat.lt_or_ge 0 W.heap.size with h1 | h1
  · exact h1
  · simp [World.cell?, Array.getElem?_eq_none h1] at h0
theorem door_met (os : Os) (args : Array Value) : laidMetH Tryd.prog laidTab ((World.doorLaid Tryd.prog 400 os).forCall (fun _ _ => 0) ⟨#[], args, []⟩).memory :=
  laidMetH_of_parts3 (fuel := 8) (laidMet_of_run' 8 (by kernel_rfl) (by kernel_rfl)) (by kernel_rfl) (by kernel_rfl)
theorem block_of_cell {W : World} {a : Addr} {v : Value} (h : W.cell? a = some v) : a.block < W.heap.size := by
  rcases Nat.lt_or_ge a.block W.heap.size with h1 | h1
  · exact h1
  · simp [World.cell?, Array.getElem?_eq_none h1] at h
theorem u64_wf {n : Int} (h : (Lit.int .u64 n).wf = true) : 0 ≤ n ∧ n < 18446744073709551616 := by
  simp [Lit.wf, IntKind.min, IntKind.max, IntKind.signed, IntKind.bits] at h
  omega
/-- A set that came in reads as words. -/
theorem words_of_trod {H : Type} {enc : TypeId × Value → H} {W : World} {fuel : Nat} {a : Option Addr} {len cap : Nat} {x : DataW H × List MemPlace} {b : Nat} {held : Bool}
    (hf : DataW.trod enc Tryd.prog W b (fun _ => true) held fuel 23 [.slice a len cap] = some x) :
    ∃ xs : List Nat, len = xs.length ∧ Words W a xs ∧ U64 xs ∧ xs.length ≤ cap ∧ cap ≤ maxLen := by
  rcases open_ints Tryd.underlying23 Tryd.underlying43 (by kernel_rfl) hf with ⟨hcs, _⟩ | ⟨ad, l, c, zs, hcs, _, hl, hm, hz, _, hcell, hwz⟩
  · simp at hcs
    obtain ⟨rfl, rfl, rfl⟩ := hcs
    exact ⟨[], rfl, Vals.nil_, (fun x hx => by cases hx), Nat.le_refl _, by unfold maxLen; omega⟩
  · simp at hcs
    obtain ⟨rfl, rfl, rfl⟩ := hcs
    simp only [if_true] at hz
    refine ⟨(zs.take len).map Int.toNat, by simp; omega, ?_, ?_, by simp; omega, hm⟩
    · intro j hj
      simp only [List.length_map, List.length_take] at hj
      have hc := hcell j (by omega)
      have hb := block_of_cell hc
      rw [addr_block] at hb
      have hw := u64_wf (hwz (zs.getD j 0) (by
        rw [List.getD_eq_getElem?_getD, List.getElem?_eq_getElem (by omega : j < zs.length)]
        exact List.getElem_mem _))
      refine ⟨ad, rfl, hb, hc.trans ?_⟩
      have e : ((wd ((zs.take len).map Int.toNat) j : Nat) : Int) = zs.getD j 0 := by
        unfold wd
        rw [List.getD_eq_getElem?_getD, List.getElem?_map, List.getElem?_take, if_pos (by omega), List.getD_eq_getElem?_getD] at *
        rw [List.getElem?_eq_getElem (by omega : j < zs.length)] at *
        simp at hw ⊢
        omega
      exact congrArg (fun t => some (Value.int .u64 t)) e.symm
    · intro n hn
      obtain ⟨z, hz1, rfl⟩ := List.mem_map.1 hn
      have := u64_wf (hwz z (List.mem_of_mem_take hz1))
      omega
end Go.Proofs.YtnjagdocgmbmiaaDoor
