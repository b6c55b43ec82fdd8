/- From a walk to the statement: what the rows of stage 2 share. -/
import Derived.Test.YtjjdhegkcilaiaaDoorCR
import Derived.Test.YtjjdhegkcilaiaaDoorRows
import Derived.Test.YtjjdhegkcilaiaaDoorTie
import Derived.Test.YtjjdhegkcilaiaaDoorCards
import Derived.ProofKit
import Derived.LaidMore
import Derived.OpenShut
import Derived.ShutString
import Derived.ChangeOld
import Derived.Lib.LaidTab
import Derived.Lib.SmallJoins
import Derived.Stop.Joined
import Derived.SevenTiedAt
namespace Go.Proofs.YtjjdhegkcilaiaaDoor
open Go Go.ChangeShapes Go.WideShapes Go.ChangeAt Go.RowKit Go.Joins
set_option maxRecDepth 100000
theorem own : ownKnob Tryd.prog.godebug = none := by kernel_rfl
theorem laidOut : laidOutB Tryd.prog = true := by kernel_rfl
theorem gHav : Tryd.prog.globalNamed "sentinel/cube.having" = some 0 := by kernel_rfl
theorem gHavType : (Tryd.prog.globals[0]?).map (·.type) = some 121 := by kernel_rfl
theorem cellsHav : Tryd.prog.cellsOf 121 = 6 := by kernel_rfl
theorem cellsU64 : Tryd.prog.cellsOf 78 = 1 := by kernel_rfl
theorem cellsCube : Tryd.prog.cellsOf 42 = 2 := by kernel_rfl
/-- The sum of the harness, as the cards bear it. -/
def harnessSum : String := Rows.cubePairsCard.stood.harness.2
theorem int_bounds {n : Int} (h : (Lit.int .i64 n).wf = true) : -9223372036854775808 ≤ n ∧ n ≤ 9223372036854775807 := by
  simp [Lit.wf, IntKind.min, IntKind.max, IntKind.signed, IntKind.bits] at h
  omega
theorem u8_wf {n : Int} (h : (Lit.int .u8 n).wf = true) : 0 ≤ n ∧ n < 256 := by
  simp [Lit.wf, IntKind.min, IntKind.max, IntKind.signed, IntKind.bits] at h
  omega
theorem u8_nat {n : Int} (h : (Lit.int .u8 n).wf = true) : ∃ k : Nat, n = k ∧ k < 256 := by
  have := u8_wf h
  exact ⟨n.toNat, by omega, by omega⟩
/-- What the rows list. -/
def laidTab : List (String × DataW Unit) := [("sentinel/cube.having", Rows.laid_sentinel_cube_having)]
theorem laid_eq : (Rows.laid_sentinel_cube_having : DataW Unit) = Lib.tabData .u64 (((List.range 6).map hav).map fun x : Nat => (x : Int)) := by rfl
theorem hav_of_laid {W : World} (h : laidMet Tryd.prog laidTab W) : HavT W := by
  unfold laidTab at h
  rw [laid_eq] at h
  have hT := Lib.tabIs_of_head gHav gHavType Tryd.underlying121 Tryd.underlying78 cellsU64 cellsHav h
  have hc : ∀ j, j < 6 → W.cell? ⟨0, j, none⟩ = some (.int .u64 (hav j : Nat)) := by
    intro j hj
    rw [hT.cell gHav j (by simpa using hj)]
    simp [hj]
  refine ⟨?_, hc⟩
  exact World.block_lt_of_cell? W ⟨0, 0, none⟩ (hc 0 (by decide))
theorem door_met (os : Os) (args : Array Value) : laidMetH Tryd.prog laidTab ((World.doorLaid Tryd.prog 400 os).forCall (fun _ _ => 0) ⟨#[], args, []⟩).memory :=
  laidMetH_of_parts3 (fuel := 8) (laidMet_of_run' 8 (by kernel_rfl) (by kernel_rfl)) (by kernel_rfl) (by kernel_rfl)
theorem block_of_cell {W : World} {a : Addr} {v : Value} (h : W.cell? a = some v) : a.block < W.heap.size := World.block_lt_of_cell? W a h
/-- A slice of bytes that came in reads as numbers. -/
theorem bytes_of_trod {H : Type} {enc : TypeId × Value → H} {W : World} {fuel : Nat} {a : Option Addr} {len cap : Nat} {x : DataW H × List MemPlace} {b : Nat} {held : Bool}
    (hf : DataW.trod enc Tryd.prog W b (fun _ => true) held fuel 45 [.slice a len cap] = some x) :
    ∃ xs : List Nat, len = xs.length ∧ Bys W a xs ∧ B8 xs ∧ xs.length ≤ cap ∧ cap ≤ maxLen := by
  rcases open_ints Tryd.underlying45 Tryd.underlying5 (by kernel_rfl) hf with ⟨hcs, _⟩ | ⟨ad, l, c, zs, hcs, _, hl, hm, hz, _, hcell, hwz⟩
  · simp at hcs
    obtain ⟨rfl, rfl, rfl⟩ := hcs
    exact ⟨[], rfl, Vals.nil_, (fun x hx => by cases hx), Nat.le_refl _, by unfold maxLen; omega⟩
  · simp at hcs
    obtain ⟨rfl, rfl, rfl⟩ := hcs
    simp only [if_true] at hz
    refine ⟨(zs.take len).map Int.toNat, by simp; omega, ?_, ?_, by simp; omega, hm⟩
    · intro j hj
      simp only [List.length_map, List.length_take] at hj
      have hc := hcell j (by omega)
      have hb := block_of_cell hc
      rw [addr_block] at hb
      have hw := u8_wf (hwz (zs.getD j 0) (by
        rw [List.getD_eq_getElem?_getD, List.getElem?_eq_getElem (by omega : j < zs.length)]
        exact List.getElem_mem _))
      refine ⟨ad, rfl, hb, hc.trans ?_⟩
      have e : ((wd ((zs.take len).map Int.toNat) j : Nat) : Int) = zs.getD j 0 := by
        unfold wd
        rw [List.getD_eq_getElem?_getD, List.getElem?_map, List.getElem?_take, if_pos (by omega), List.getD_eq_getElem?_getD] at *
        rw [List.getElem?_eq_getElem (by omega : j < zs.length)] at *
        simp at hw ⊢
        omega
      exact congrArg (fun t => some (Value.int .u8 t)) e.symm
    · intro n hn
      obtain ⟨z, hz1, rfl⟩ := List.mem_map.1 hn
      have := u8_wf (hwz z (List.mem_of_mem_take hz1))
      omega
/-- A cube that came in. -/
theorem open_cube {H : Type} {enc : TypeId × Value → H} {W : World} {r : Reach} {b0 b : Nat} {sp : Nat → Bool} {held : Bool} {v : Value} {d : DataW H} {ps : List MemPlace}
    (hv : Value.okWide Tryd.prog W r b0 42 v) (h : DataW.Trod enc Tryd.prog W b sp held 42 v d ps) :
    ∃ p q : Nat, v = .agg #[.int .u8 p, .int .u8 q] ∧ d = .agg [.lit (.int .u8 p), .lit (.int .u8 q)] ∧ ps = [] ∧ p < 256 ∧ q < 256 := by
  obtain ⟨c0, c1, y0, y1, m, rfl, rfl, rfl, hy0, hy1⟩ := open_agg2 Tryd.underlying42 (by kernel_rfl) cellsCube hv h
  obtain ⟨a0, e0, rfl, wa0⟩ := DataW.trod_int Tryd.underlying5 hy0
  obtain ⟨a1, e1, rfl, wa1⟩ := DataW.trod_int Tryd.underlying5 hy1
  simp only [List.cons.injEq, and_true] at e0 e1
  subst e0 e1
  obtain ⟨p, rfl, hp⟩ := u8_nat wa0
  obtain ⟨q, rfl, hq⟩ := u8_nat wa1
  exact ⟨p, q, rfl, rfl, rfl, hp, hq⟩
theorem u8_back {k : Nat} (h : k < 256) : (Lit.int .u8 (k : Int)).wf = true := by
  simp [Lit.wf, IntKind.min, IntKind.max, IntKind.signed, IntKind.bits]
  omega
theorem shut_cube {H : Type} {enc : TypeId × Value → H} {W : World} {b : Nat} {sp : Nat → Bool} {held : Bool} {p q : Nat} (hp : p < 256) (hq : q < 256) :
    DataW.Trod enc Tryd.prog W b sp held 42 (.agg #[.int .u8 p, .int .u8 q]) (.agg [.lit (.int .u8 p), .lit (.int .u8 q)]) [] :=
  shut_agg2 (y0 := (.lit (.int .u8 p), [])) (y1 := (.lit (.int .u8 q), [])) Tryd.underlying42 (by kernel_rfl) cellsCube
    ⟨1, by simp [DataW.trod, Tryd.underlying5, u8_back hp]⟩ ⟨1, by simp [DataW.trod, Tryd.underlying5, u8_back hq]⟩
end Go.Proofs.YtjjdhegkcilaiaaDoor
