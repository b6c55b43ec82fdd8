/- From the rows' data to automata, sets and words: what the frames of stage 6's laws share. -/
import Derived.Test.YtkgeihambgbjdaaDoorPD
import Derived.Test.YtkgeihambgbjdaaDoorRows
import Derived.WalkKit
import Derived.ProofKit
import Derived.OpenShut
import Derived.Deep.Slices
import Derived.ShutString
namespace Go.Proofs.YtkgeihambgbjdaaDoor.Nf
open Go Go.ChangeShapes Go.WideShapes Go.ChangeAt Go.RowKit Go.Proofs.YtkgeihambgbjdaaDoor
open Go.Deep (open_slice)
set_option linter.unusedVariables false
set_option maxRecDepth 100000
theorem ownKn : ownKnob Tryd.prog.godebug = none := by kernel_rfl
theorem laidOut6 : laidOutB Tryd.prog = true := by kernel_rfl
theorem cellsU8' : Tryd.prog.cellsOf 5 = 1 := by kernel_rfl
theorem cellsInt : Tryd.prog.cellsOf 3 = 1 := by kernel_rfl
theorem cellsInts : Tryd.prog.cellsOf 33 = 1 := by kernel_rfl
theorem int_bounds {n : Int} (h : (Lit.int .i64 n).wf = true) : -9223372036854775808 ≤ n ∧ n ≤ 9223372036854775807 := by
  simp [Lit.wf, IntKind.min, IntKind.max, IntKind.signed, IntKind.bits] at h
  omega
theorem u8_nat {n : Int} (h : (Lit.int .u8 n).wf = true) : ∃ k : Nat, n = k ∧ k < 256 := by
  simp [Lit.wf, IntKind.min, IntKind.max, IntKind.signed, IntKind.bits] at h
  exact ⟨n.toNat, by omega, by omega⟩
theorem u8_wfB {n : Int} (h : (Lit.int .u8 n).wf = true) : 0 ≤ n ∧ n < 256 := by
  obtain ⟨k, rfl, hk⟩ := u8_nat h
  omega
theorem u64_wf {n : Int} (h : (Lit.int .u64 n).wf = true) : 0 ≤ n ∧ n < 18446744073709551616 := by
  simp [Lit.wf, IntKind.min, IntKind.max, IntKind.signed, IntKind.bits] at h
  omega
section
variable {H : Type} {enc : TypeId × Value → H} {W : World} {b : Nat} {held : Bool} {fuel : Nat} {x : DataW H × List MemPlace}
theorem u8_of_trod {cs : List Value} (hf : DataW.trod enc Tryd.prog W b (fun _ => true) held fuel 5 cs = some x) : ∃ k : Nat, cs = [.int .u8 k] ∧ k < 256 := by
  obtain ⟨n, e, _, hw⟩ := DataW.trod_int Tryd.underlying5 hf
  obtain ⟨k, rfl, hk⟩ := u8_nat hw
  exact ⟨k, e, hk⟩
theorem int_of_trod {cs : List Value} (hf : DataW.trod enc Tryd.prog W b (fun _ => true) held fuel 3 cs = some x) : ∃ n : Int, cs = [.int .i64 n] ∧ InJ n := by
  obtain ⟨n, e, _, hw⟩ := DataW.trod_int Tryd.underlying3 hf
  exact ⟨n, e, int_bounds hw⟩
theorem ints_of_trod {cs : List Value} (hf : DataW.trod enc Tryd.prog W b (fun _ => true) held fuel 33 cs = some x) :
    ∃ (a : Option Addr) (l : List Int) (cap : Nat), cs = [.slice a l.length cap] ∧ Ints W a l ∧ l.length ≤ cap ∧ cap ≤ maxLen := by
  rcases open_ints Tryd.underlying33 Tryd.underlying3 (by kernel_rfl) hf with ⟨hcs, _⟩ | ⟨ad, l, c, zs, hcs, _, hl, hm, hz, _, hcell, hwz⟩
  · exact ⟨none, [], 0, hcs, Vals.nil_, Nat.le_refl _, by unfold maxLen; omega⟩
  · simp only [if_true] at hz
    have hlz : (zs.take l).length = l := by simp; omega
    refine ⟨some ad, zs.take l, c, by rw [hlz]; exact hcs, ?_, by omega, hm⟩
    intro j hj
    rw [hlz] at hj
    have hc := hcell j (by omega)
    have hb := World.block_lt_of_cell? W _ hc
    rw [addr_block] at hb
    refine ⟨ad, rfl, hb, hc.trans ?_⟩
    congr 2
    unfold nd
    simp only [List.getD_eq_getElem?_getD, List.getElem?_take, if_pos hj]
/-- A slice of bytes that came in reads as numbers. -/
theorem word_of_trod {a : Option Addr} {len cap : Nat} (hf : DataW.trod enc Tryd.prog W b (fun _ => true) held fuel 42 [.slice a len cap] = some x) :
    ∃ xs : List Nat, len = xs.length ∧ Bys W a xs ∧ (∀ y ∈ xs, y < 256) ∧ xs.length ≤ cap ∧ cap ≤ maxLen := by
  rcases open_ints Tryd.underlying42 Tryd.underlying5 (by kernel_rfl) hf with ⟨hcs, _⟩ | ⟨ad, l, c, zs, hcs, _, hl, hm, hz, _, hcell, hwz⟩
  · simp at hcs
    obtain ⟨rfl, rfl, rfl⟩ := hcs
    exact ⟨[], rfl, fun j hj => absurd hj (by simp), (fun x hx => by cases hx), Nat.le_refl _, by unfold maxLen; omega⟩
  · simp at hcs
    obtain ⟨rfl, rfl, rfl⟩ := hcs
    simp only [if_true] at hz
    refine ⟨(zs.take len).map Int.toNat, by simp; omega, ?_, ?_, by simp; omega, hm⟩
    · intro j hj
      simp only [List.length_map, List.length_take] at hj
      have hc := hcell j (by omega)
      have hb := World.block_lt_of_cell? W _ hc
      rw [addr_block] at hb
      have hw := u8_wfB (hwz (zs.getD j 0) (by
        rw [List.getD_eq_getElem?_getD, List.getElem?_eq_getElem (by omega : j < zs.length)]
        exact List.getElem_mem _))
      refine ⟨ad, rfl, hb, hc.trans ?_⟩
      have e : ((wd ((zs.take len).map Int.toNat) j : Nat) : Int) = zs.getD j 0 := by
        unfold wd
        rw [List.getD_eq_getElem?_getD, List.getElem?_map, List.getElem?_take, if_pos (by omega), List.getD_eq_getElem?_getD] at *
        rw [List.getElem?_eq_getElem (by omega : j < zs.length)] at *
        simp at hw ⊢
        omega
      exact congrArg (fun t => some (Value.int .u8 t)) e.symm
    · intro n hn
      obtain ⟨z, hz1, rfl⟩ := List.mem_map.1 hn
      have := u8_wfB (hwz z (List.mem_of_mem_take hz1))
      omega
/-- A set that came in reads as words. -/
theorem words_of_trod {a : Option Addr} {len cap : Nat} (hf : DataW.trod enc Tryd.prog W b (fun _ => true) held fuel 106 [.slice a len cap] = some x) :
    ∃ xs : List Nat, len = xs.length ∧ Words W a xs ∧ U64 xs ∧ xs.length ≤ cap ∧ cap ≤ maxLen := by
  rcases open_ints Tryd.underlying106 Tryd.underlying116 (by kernel_rfl) hf with ⟨hcs, _⟩ | ⟨ad, l, c, zs, hcs, _, hl, hm, hz, _, hcell, hwz⟩
  · simp at hcs
    obtain ⟨rfl, rfl, rfl⟩ := hcs
    exact ⟨[], rfl, Vals.nil_, (fun x hx => by cases hx), Nat.le_refl _, by unfold maxLen; omega⟩
  · simp at hcs
    obtain ⟨rfl, rfl, rfl⟩ := hcs
    simp only [if_true] at hz
    refine ⟨(zs.take len).map Int.toNat, by simp; omega, ?_, ?_, by simp; omega, hm⟩
    · intro j hj
      simp only [List.length_map, List.length_take] at hj
      have hc := hcell j (by omega)
      have hb := World.block_lt_of_cell? W _ hc
      rw [addr_block] at hb
      have hw := u64_wf (hwz (zs.getD j 0) (by
        rw [List.getD_eq_getElem?_getD, List.getElem?_eq_getElem (by omega : j < zs.length)]
        exact List.getElem_mem _))
      refine ⟨ad, rfl, hb, hc.trans ?_⟩
      have e : ((wd ((zs.take len).map Int.toNat) j : Nat) : Int) = zs.getD j 0 := by
        unfold wd
        rw [List.getD_eq_getElem?_getD, List.getElem?_map, List.getElem?_take, if_pos (by omega), List.getD_eq_getElem?_getD] at *
        rw [List.getElem?_eq_getElem (by omega : j < zs.length)] at *
        simp at hw ⊢
        omega
      exact congrArg (fun t => some (Value.int .u64 t)) e.symm
    · intro n hn
      obtain ⟨z, hz1, rfl⟩ := List.mem_map.1 hn
      have := u64_wf (hwz z (List.mem_of_mem_take hz1))
      omega
end
end Go.Proofs.YtkgeihambgbjdaaDoor.Nf
