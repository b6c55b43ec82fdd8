/- From the rows' data to the pieces: what the frames of stage 4's laws share. -/
import Derived.Test.YteckkbjpeckjmaaYZP
import Derived.Test.YteckkbjpeckjmaaRows
import Derived.WalkKit
import Derived.ProofKit
import Derived.OpenShut
import Derived.Deep.Slices
import Derived.ShutString
namespace Go.Proofs.Yteckkbjpeckjmaa.Rx
open Go Go.ChangeShapes Go.WideShapes Go.ChangeAt Go.RowKit Go.Proofs.Yteckkbjpeckjmaa
open Go.Deep (open_slice)
set_option linter.unusedVariables false
set_option maxRecDepth 100000
theorem ownKn : ownKnob Try.prog.godebug = none := by kernel_rfl
theorem laidOut4 : laidOutB Try.prog = true := by kernel_rfl
theorem cellsPiece : Try.prog.cellsOf 32 = 5 := by kernel_rfl
theorem cellsU8 : Try.prog.cellsOf 5 = 1 := by kernel_rfl
theorem cellsInt : Try.prog.cellsOf 3 = 1 := by kernel_rfl
theorem int_bounds {n : Int} (h : (Lit.int .i64 n).wf = true) : -9223372036854775808 ≤ n ∧ n ≤ 9223372036854775807 := by
  simp [Lit.wf, IntKind.min, IntKind.max, IntKind.signed, IntKind.bits] at h
  omega
theorem u8_nat {n : Int} (h : (Lit.int .u8 n).wf = true) : ∃ k : Nat, n = k ∧ k < 256 := by
  simp [Lit.wf, IntKind.min, IntKind.max, IntKind.signed, IntKind.bits] at h
  exact ⟨n.toNat, by omega, by omega⟩
section
variable {H : Type} {enc : TypeId × Value → H} {W : World} {b : Nat} {held : Bool}
theorem u8_of_trod {fuel : Nat} {cs : List Value} {x : DataW H × List MemPlace} (hf : DataW.trod enc Try.prog W b (fun _ => true) held fuel 5 cs = some x) : ∃ k : Nat, cs = [.int .u8 k] ∧ k < 256 := by
  obtain ⟨n, e, _, hw⟩ := DataW.trod_int Try.underlying5 hf
  obtain ⟨k, rfl, hk⟩ := u8_nat hw
  exact ⟨k, e, hk⟩
theorem int_of_trod {fuel : Nat} {cs : List Value} {x : DataW H × List MemPlace} (hf : DataW.trod enc Try.prog W b (fun _ => true) held fuel 3 cs = some x) : ∃ n : Int, cs = [.int .i64 n] ∧ InJ n := by
  obtain ⟨n, e, _, hw⟩ := DataW.trod_int Try.underlying3 hf
  exact ⟨n, e, int_bounds hw⟩
theorem piece_of_trod {fuel : Nat} {cs : List Value} {x : DataW H × List MemPlace} (hf : DataW.trod enc Try.prog W b (fun _ => true) held fuel 32 cs = some x) :
    ∃ s : Pc, cs = pv s ∧ PcOk s := by
  obtain ⟨xs, n, _, _, hl, hlen, hall⟩ := DataW.trod_struct Try.underlying32 hf
  rw [cellsPiece] at hl
  match cs, hl, xs, hlen with
  | [v0, v1, v2, v3, v4], _, [y0, y1, y2, y3, y4], _ =>
    obtain ⟨o, e0, h0⟩ := u8_of_trod (hall 0 _ rfl)
    obtain ⟨p, e1, h1⟩ := u8_of_trod (hall 1 _ rfl)
    obtain ⟨q, e2, h2⟩ := u8_of_trod (hall 2 _ rfl)
    obtain ⟨a, e3, h3⟩ := int_of_trod (hall 3 _ rfl)
    obtain ⟨b, e4, h4⟩ := int_of_trod (hall 4 _ rfl)
    simp only [List.getElem_toArray, List.getElem_cons_zero, List.getElem_cons_succ, cellsU8] at e0 e1 e2
    simp only [List.getElem_toArray, List.getElem_cons_zero, List.getElem_cons_succ, cellsInt] at e3 e4
    simp at e0 e1 e2 e3 e4
    refine ⟨⟨o, p, q, a, b⟩, ?_, ⟨h0, h1, h2, h3, h4⟩⟩
    rw [e0, e1, e2, e3, e4]
    rfl
theorem pieces_of_trod {fuel : Nat} {a : Option Addr} {len cap : Nat} {x : DataW H × List MemPlace} (hf : DataW.trod enc Try.prog W b (fun _ => true) held fuel 27 [.slice a len cap] = some x) :
    ∃ l : List Pc, len = l.length ∧ PcsAt W a l ∧ l.length ≤ cap ∧ cap ≤ maxLen := by
  rcases open_slice Try.underlying27 hf with ⟨hcs, _⟩ | ⟨ad, l, c, m, n, D, Pl, hcs, _, hl, hm, hmm, _, hall⟩
  · simp at hcs
    obtain ⟨rfl, rfl, rfl⟩ := hcs
    exact ⟨[], rfl, fun j hj => absurd hj (by simp), Nat.le_refl _, by unfold maxLen; omega⟩
  · simp at hcs
    obtain ⟨rfl, rfl, rfl⟩ := hcs
    simp only [if_true] at hmm
    have hall' : ∀ i, i < len → ∃ s : Pc, PcOk s ∧ ∀ j v, (pv s)[j]? = some v → W.cell? ((ad.add (i * 5)).add j) = some v := fun i hi => by
      obtain ⟨cs', h1, h2⟩ := hall i (by omega)
      obtain ⟨s, rfl, h3⟩ := piece_of_trod h2
      rw [cellsPiece] at h1
      obtain ⟨_, hlen, hc⟩ := World.cells?_some h1
      refine ⟨s, h3, fun j v hv => ?_⟩
      rw [hc j (by have := (List.getElem?_eq_some_iff.1 hv).1; omega)]
      exact hv
    obtain ⟨f, hf⟩ := Go.Deep.choose_lt hall'
    refine ⟨(List.range len).map f, by simp, fun j hj => ?_, by simp; exact hl, hm⟩
    simp only [List.length_map, List.length_range] at hj
    have e : pc ((List.range len).map f) j = f j := by
      unfold pc
      rw [List.getD_eq_getElem?_getD, List.getElem?_map, List.getElem?_range hj]; rfl
    rw [e]
    obtain ⟨h3, h6⟩ := hf j hj
    refine ⟨h3, ad, rfl, ?_, h6⟩
    have := World.block_lt_of_cell? W _ (h6 0 _ rfl)
    rwa [addr_block, addr_block] at this
end
end Go.Proofs.Yteckkbjpeckjmaa.Rx
/- From the rows' data to words: what the frames of stage 5's laws share. -/
namespace Go.Proofs.Yteckkbjpeckjmaa.Rx
open Go Go.ChangeShapes Go.WideShapes Go.ChangeAt Go.RowKit Go.Proofs.Yteckkbjpeckjmaa
set_option linter.unusedVariables false
set_option maxRecDepth 100000
theorem u8_wfB {n : Int} (h : (Lit.int .u8 n).wf = true) : 0 ≤ n ∧ n < 256 := by
  obtain ⟨k, rfl, hk⟩ := u8_nat h
  omega
/-- A slice of bytes that came in reads as numbers. -/
theorem word_of_trod {H : Type} {enc : TypeId × Value → H} {W : World} {fuel : Nat} {a : Option Addr} {len cap : Nat} {x : DataW H × List MemPlace} {b : Nat} {held : Bool}
    (hf : DataW.trod enc Try.prog W b (fun _ => true) held fuel 39 [.slice a len cap] = some x) :
    ∃ xs : List Nat, len = xs.length ∧ Bys W a xs ∧ (∀ y ∈ xs, y < 256) ∧ xs.length ≤ cap ∧ cap ≤ maxLen := by
  rcases open_ints Try.underlying39 Try.underlying5 (by kernel_rfl) hf with ⟨hcs, _⟩ | ⟨ad, l, c, zs, hcs, _, hl, hm, hz, _, hcell, hwz⟩
  · simp at hcs
    obtain ⟨rfl, rfl, rfl⟩ := hcs
    exact ⟨[], rfl, fun j hj => absurd hj (by simp), (fun x hx => by cases hx), Nat.le_refl _, by unfold maxLen; omega⟩
  · simp at hcs
    obtain ⟨rfl, rfl, rfl⟩ := hcs
    simp only [if_true] at hz
    refine ⟨(zs.take len).map Int.toNat, by simp; omega, ?_, ?_, by simp; omega, hm⟩
    · intro j hj
      simp only [List.length_map, List.length_take] at hj
      have hc := hcell j (by omega)
      have hb := World.block_lt_of_cell? W _ hc
      rw [addr_block] at hb
      have hw := u8_wfB (hwz (zs.getD j 0) (by
        rw [List.getD_eq_getElem?_getD, List.getElem?_eq_getElem (by omega : j < zs.length)]
        exact List.getElem_mem _))
      refine ⟨ad, rfl, hb, hc.trans ?_⟩
      have e : ((wd ((zs.take len).map Int.toNat) j : Nat) : Int) = zs.getD j 0 := by
        unfold wd
        rw [List.getD_eq_getElem?_getD, List.getElem?_map, List.getElem?_take, if_pos (by omega), List.getD_eq_getElem?_getD] at *
        rw [List.getElem?_eq_getElem (by omega : j < zs.length)] at *
        simp at hw ⊢
        omega
      exact congrArg (fun t => some (Value.int .u8 t)) e.symm
    · intro n hn
      obtain ⟨z, hz1, rfl⟩ := List.mem_map.1 hn
      have := u8_wfB (hwz z (List.mem_of_mem_take hz1))
      omega
end Go.Proofs.Yteckkbjpeckjmaa.Rx
