/- From the rows' data to the steps: what the frames of stage 3's laws share. -/
import Derived.Test.YtbhfmeohaoojfaaVK
import Derived.Test.YtbhfmeohaoojfaaRows
import Derived.WalkKit
import Derived.ProofKit
import Derived.OpenShut
namespace Go.Proofs.Ytbhfmeohaoojfaa.Dn
open Go Go.ChangeShapes Go.WideShapes Go.ChangeAt Go.RowKit Go.Proofs.Ytbhfmeohaoojfaa.Ap
open Go.Proofs.Ytbhfmeohaoojfaa.Dg
open Go.Deep (open_slice)
set_option linter.unusedVariables false
set_option maxRecDepth 100000
theorem ownKn : ownKnob Try.prog.godebug = none := by kernel_rfl
theorem laidOut3 : laidOutB Try.prog = true := by kernel_rfl
theorem cellsStep : Try.prog.cellsOf 33 = 9 := by kernel_rfl
theorem cellsCube3 : Try.prog.cellsOf 31 = 2 := by kernel_rfl
theorem cellsU8 : Try.prog.cellsOf 5 = 1 := by kernel_rfl
theorem cellsInt : Try.prog.cellsOf 3 = 1 := by kernel_rfl
theorem cellsInts : Try.prog.cellsOf 29 = 1 := by kernel_rfl
theorem int_bounds {n : Int} (h : (Lit.int .i64 n).wf = true) : -9223372036854775808 ≤ n ∧ n ≤ 9223372036854775807 := by
  simp [Lit.wf, IntKind.min, IntKind.max, IntKind.signed, IntKind.bits] at h
  omega
theorem u8_nat {n : Int} (h : (Lit.int .u8 n).wf = true) : ∃ k : Nat, n = k ∧ k < 256 := by
  simp [Lit.wf, IntKind.min, IntKind.max, IntKind.signed, IntKind.bits] at h
  exact ⟨n.toNat, by omega, by omega⟩
section
variable {H : Type} {enc : TypeId × Value → H} {W : World} {b : Nat} {held : Bool}
theorem ints_of_trod {fuel : Nat} {cs : List Value} {x : DataW H × List MemPlace} (hf : DataW.trod enc Try.prog W b (fun _ => true) held fuel 29 cs = some x) :
    ∃ (a : Option Addr) (cap : Nat) (l : List Int), cs = [.slice a l.length cap] ∧ Ints W a l ∧ (∀ y ∈ l, InI y) ∧ l.length ≤ cap ∧ cap ≤ maxLen := by
  rcases open_ints Try.underlying29 Try.underlying3 cellsInt hf with ⟨rfl, _⟩ | ⟨ad, len, c, zs, rfl, _, hl, hm, hz, _, hcell, hwz⟩
  · exact ⟨none, 0, [], rfl, Vals.nil_, by simp, Nat.le_refl _, by unfold maxLen; omega⟩
  · simp only [if_true] at hz
    refine ⟨some ad, c, zs.take len, by simp; omega, ?_, fun y hy => ?_, by simp; omega, hm⟩
    · intro j hj
      simp only [List.length_take] at hj
      have hc := hcell j (by omega)
      have hb := World.block_lt_of_cell? W _ hc
      rw [addr_block] at hb
      refine ⟨ad, rfl, hb, hc.trans ?_⟩
      have e : nd (zs.take len) j = zs.getD j 0 := by
        unfold nd
        rw [List.getD_eq_getElem?_getD, List.getElem?_take, if_pos (by omega), List.getD_eq_getElem?_getD]
      exact congrArg (fun t => some (Value.int .i64 t)) e.symm
    · exact int_bounds (hwz y (List.mem_of_mem_take hy))
theorem u8_of_trod {fuel : Nat} {cs : List Value} {x : DataW H × List MemPlace} (hf : DataW.trod enc Try.prog W b (fun _ => true) held fuel 5 cs = some x) : ∃ k : Nat, cs = [.int .u8 k] ∧ k < 256 := by
  obtain ⟨n, e, _, hw⟩ := DataW.trod_int Try.underlying5 hf
  obtain ⟨k, rfl, hk⟩ := u8_nat hw
  exact ⟨k, e, hk⟩
theorem int_of_trod {fuel : Nat} {cs : List Value} {x : DataW H × List MemPlace} (hf : DataW.trod enc Try.prog W b (fun _ => true) held fuel 3 cs = some x) : ∃ n : Int, cs = [.int .i64 n] ∧ InI n := by
  obtain ⟨n, e, _, hw⟩ := DataW.trod_int Try.underlying3 hf
  exact ⟨n, e, int_bounds hw⟩
theorem cube_of_trod {fuel : Nat} {cs : List Value} {x : DataW H × List MemPlace} (hf : DataW.trod enc Try.prog W b (fun _ => true) held fuel 31 cs = some x) : ∃ p q : Nat, cs = [.int .u8 p, .int .u8 q] ∧ p < 256 ∧ q < 256 := by
  obtain ⟨xs, n, _, _, hl, hlen, hall⟩ := DataW.trod_struct Try.underlying31 hf
  rw [cellsCube3] at hl
  match cs, hl, xs, hlen with
  | [v0, v1], _, [y0, y1], _ =>
    obtain ⟨p, e0, hp⟩ := u8_of_trod (hall 0 _ rfl)
    obtain ⟨q, e1, hq⟩ := u8_of_trod (hall 1 _ rfl)
    simp only [List.getElem_toArray, List.getElem_cons_zero, List.getElem_cons_succ, cellsU8] at e0 e1
    simp at e0 e1
    exact ⟨p, q, by rw [e0, e1], hp, hq⟩
theorem step_of_trod {fuel : Nat} {cs : List Value} {x : DataW H × List MemPlace} (hf : DataW.trod enc Try.prog W b (fun _ => true) held fuel 33 cs = some x) :
    ∃ s : SD, cs = s.val ∧ s.Ok ∧ Ints W s.D s.u ∧ s.u.length ≤ maxLen := by
  obtain ⟨xs, n, _, _, hl, hlen, hall⟩ := DataW.trod_struct Try.underlying33 hf
  rw [cellsStep] at hl
  match cs, hl, xs, hlen with
  | [v0, v1, v2, v3, v4, v5, v6, v7, v8], _, [y0, y1, y2, y3, y4, y5, y6, y7], _ =>
    obtain ⟨o, e0, h0⟩ := u8_of_trod (hall 0 _ rfl)
    obtain ⟨op, e1, h1⟩ := u8_of_trod (hall 1 _ rfl)
    obtain ⟨x, e2, h2⟩ := u8_of_trod (hall 2 _ rfl)
    obtain ⟨a, e3, h3⟩ := int_of_trod (hall 3 _ rfl)
    obtain ⟨b, e4, h4⟩ := int_of_trod (hall 4 _ rfl)
    obtain ⟨z, e5, h5⟩ := int_of_trod (hall 5 _ rfl)
    obtain ⟨D, k, u, e6, h6, h7, h8, h9⟩ := ints_of_trod (hall 6 _ rfl)
    obtain ⟨p, q, e7, h10, h11⟩ := cube_of_trod (hall 7 _ rfl)
    simp only [List.getElem_toArray, List.getElem_cons_zero, List.getElem_cons_succ, cellsU8] at e0 e1 e2
    simp only [List.getElem_toArray, List.getElem_cons_zero, List.getElem_cons_succ, cellsInt] at e3 e4 e5
    simp only [List.getElem_toArray, List.getElem_cons_zero, List.getElem_cons_succ, cellsInts] at e6
    simp only [List.getElem_toArray, List.getElem_cons_zero, List.getElem_cons_succ, cellsCube3] at e7
    simp at e0 e1 e2 e3 e4 e5 e6 e7
    refine ⟨⟨o, op, x, a, b, z, D, k, u, p, q⟩, ?_, ⟨h0, h1, h2, h3, h4, h5, h10, h11, h7⟩, h6, Nat.le_trans h8 h9⟩
    rw [e0, e1, e2, e3, e4, e5, e6, e7.1, e7.2]
    rfl
theorem steps_of_trod {fuel : Nat} {a : Option Addr} {len cap : Nat} {x : DataW H × List MemPlace} (hf : DataW.trod enc Try.prog W b (fun _ => true) held fuel 22 [.slice a len cap] = some x) :
    ∃ l : List SD, len = l.length ∧ StepsAt W a l ∧ l.length ≤ cap ∧ cap ≤ maxLen := by
  rcases open_slice Try.underlying22 hf with ⟨hcs, _⟩ | ⟨ad, l, c, m, n, D, Pl, hcs, _, hl, hm, hmm, _, hall⟩
  · simp at hcs
    obtain ⟨rfl, rfl, rfl⟩ := hcs
    exact ⟨[], rfl, fun j hj => absurd hj (by simp), Nat.le_refl _, by unfold maxLen; omega⟩
  · simp at hcs
    obtain ⟨rfl, rfl, rfl⟩ := hcs
    simp only [if_true] at hmm
    have hall' : ∀ i, i < len → ∃ s : SD, s.Ok ∧ Ints W s.D s.u ∧ s.u.length ≤ maxLen ∧ ∀ j v, s.val[j]? = some v → W.cell? ((ad.add (i * 9)).add j) = some v := fun i hi => by
      obtain ⟨cs', h1, h2⟩ := hall i (by omega)
      obtain ⟨s, rfl, h3, h4, h5⟩ := step_of_trod h2
      rw [cellsStep] at h1
      obtain ⟨_, hlen, hc⟩ := World.cells?_some h1
      refine ⟨s, h3, h4, h5, fun j v hv => ?_⟩
      rw [hc j (by have := (List.getElem?_eq_some_iff.1 hv).1; omega)]
      exact hv
    obtain ⟨f, hf⟩ := Go.Deep.choose_lt hall'
    refine ⟨(List.range len).map f, by simp, fun j hj => ?_, by simp; exact hl, hm⟩
    simp only [List.length_map, List.length_range] at hj
    have e : sd ((List.range len).map f) j = f j := by
      unfold sd
      rw [List.getD_eq_getElem?_getD, List.getElem?_map, List.getElem?_range hj]; rfl
    rw [e]
    obtain ⟨h3, h4, h5, h6⟩ := hf j hj
    refine ⟨h3, h4, h5, ad, rfl, ?_, h6⟩
    have := World.block_lt_of_cell? W _ (h6 0 _ rfl)
    rwa [addr_block, addr_block] at this
end
end Go.Proofs.Ytbhfmeohaoojfaa.Dn
