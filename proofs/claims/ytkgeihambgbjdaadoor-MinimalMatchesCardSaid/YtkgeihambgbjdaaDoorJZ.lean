/- From the rows' data to deterministic automata: what the frames of stage 7's laws share. -/
import Derived.Test.YtkgeihambgbjdaaDoorFZ
import Derived.Test.YtkgeihambgbjdaaDoorPF
import Derived.Test.YtkgeihambgbjdaaDoorPE
import Derived.Test.YtkgeihambgbjdaaDoorTie
import Derived.Test.YtkgeihambgbjdaaDoorCards
import Derived.LaidMore
import Derived.ChangeOld
import Derived.Lib.LaidTab
import Derived.Stop.Joined
import Derived.Stop.LaidErr
import Derived.SevenTiedAt
namespace Go.Proofs.YtkgeihambgbjdaaDoor.Sb
open Go Go.ChangeShapes Go.WideShapes Go.ChangeAt Go.RowKit Go.Proofs.YtkgeihambgbjdaaDoor
open Go.Proofs.YtkgeihambgbjdaaDoor.Nf (u8_of_trod int_of_trod ints_of_trod cellsInt cellsInts)
open Go.Deep (open_slice open_slice1)
set_option linter.unusedVariables false
set_option maxRecDepth 100000
theorem gTab7 : Tryd.prog.globalNamed "math/bits.deBruijn64tab" = some 1 := by kernel_rfl
theorem gTabType7 : (Tryd.prog.globals[1]?).map (·.type) = some 144 := by kernel_rfl
theorem cellsTab7 : Tryd.prog.cellsOf 144 = 64 := by kernel_rfl
theorem cellsU87 : Tryd.prog.cellsOf 5 = 1 := by kernel_rfl
theorem gPow7 : Tryd.prog.globalNamed "internal/strconv.uint64pow10" = some 0 := by kernel_rfl
theorem gPowType7 : (Tryd.prog.globals[0]?).map (·.type) = some 138 := by kernel_rfl
theorem cellsPow7 : Tryd.prog.cellsOf 138 = 20 := by kernel_rfl
theorem cellsU647 : Tryd.prog.cellsOf 116 = 1 := by kernel_rfl
/-- The sum of the harness, as the cards bear it. -/
def harnessSum : String := Rows.minimalRoundsCard.stood.harness.2
/-- What the rows list. -/
def laidTab : List (String × DataW Unit) := [("math/bits.deBruijn32tab", Rows.laid_math_bits_deBruijn32tab), ("math/bits.deBruijn64tab", Rows.laid_math_bits_deBruijn64tab), ("internal/strconv.uint64pow10", Rows.laid_internal_strconv_uint64pow10)]
theorem laid_eq : (Rows.laid_math_bits_deBruijn64tab : DataW Unit) = Lib.tabData .u8 (Lib.deBruijn64tab.map fun x : Nat => (x : Int)) := by rfl
theorem laid_pow_eq : (Rows.laid_internal_strconv_uint64pow10 : DataW Unit) = Lib.tabData .u64 Lib.pow10Tab := by rfl
theorem tabs_of_laid {W : World} (h : laidMet Tryd.prog laidTab W) : Tabs2 W := by
  unfold laidTab at h
  have h2 := laidMet.tail h
  have h3 := laidMet.tail h2
  rw [laid_eq] at h2
  rw [laid_pow_eq] at h3
  have hT := Lib.tabIs_of_head gTab7 gTabType7 Tryd.underlying144 Tryd.underlying5 cellsU87 cellsTab7 h2
  have hc : ∀ j, j < 64 → W.cell? ⟨1, j, none⟩ = some (.int .u8 ((Lib.deBruijn64tab.getD j 0 : Nat) : Int)) := by
    intro j hj
    rw [hT.cell gTab7 j (by rw [List.length_map]; exact hj)]
    have : j < Lib.deBruijn64tab.length := hj
    simp [this]
  refine ⟨⟨?_, hc⟩, Lib.tabIs_of_head gPow7 gPowType7 Tryd.underlying138 Tryd.underlying116 cellsU647 cellsPow7 h3⟩
  exact World.block_lt_of_cell? W _ (hc 0 (by decide))
theorem door_met (os : Os) (args : Array Value) : laidMetH Tryd.prog laidTab ((World.doorLaid Tryd.prog 400 os).forCall (fun _ _ => 0) ⟨#[], args, []⟩).memory :=
  laidMetH_of_parts3 (fuel := 8) (laidMet_of_run' 8 (by kernel_rfl) (by kernel_rfl)) (by kernel_rfl) (by kernel_rfl)
theorem cellsDFA : Tryd.prog.cellsOf 25 = 4 := by kernel_rfl
theorem cellsRows : Tryd.prog.cellsOf 22 = 1 := by kernel_rfl
theorem cellsBools : Tryd.prog.cellsOf 23 = 1 := by kernel_rfl
theorem cellsBool : Tryd.prog.cellsOf 4 = 1 := by kernel_rfl
section
variable {H : Type} {enc : TypeId × Value → H} {W : World} {b : Nat} {held : Bool} {fuel : Nat} {x : DataW H × List MemPlace}
theorem bools_of_trod {cs : List Value} (hf : DataW.trod enc Tryd.prog W b (fun _ => true) held fuel 23 cs = some x) :
    ∃ (a : Option Addr) (l : List Bool) (cap : Nat), cs = [.slice a l.length cap] ∧ Bools W a l ∧ l.length ≤ cap ∧ cap ≤ maxLen := by
  rcases open_slice1 Tryd.underlying23 cellsBool hf with ⟨hcs, _⟩ | ⟨ad, len, c, m, n, V, D, Pl, hcs, _, hl, hm, hmm, _, hall⟩
  · exact ⟨none, [], 0, hcs, fun j hj => absurd hj (by simp), Nat.le_refl _, by unfold maxLen; omega⟩
  · simp only [if_true] at hmm
    have hall' : ∀ i, i < len → ∃ s : Bool, W.cell? (ad.add i) = some (.bool s) := fun i hi => by
      obtain ⟨h1, h2⟩ := hall i (by omega)
      obtain ⟨s, hs, _⟩ := DataW.trod_bool Tryd.underlying4 h2
      injection hs with h3
      exact ⟨s, by rw [h1, h3]⟩
    obtain ⟨f, hf⟩ := Go.Deep.choose_lt hall'
    refine ⟨some ad, (List.range len).map f, c, by simpa using hcs, fun j hj => ?_, by simp; exact hl, hm⟩
    simp only [List.length_map, List.length_range] at hj
    have h6 := hf j hj
    have := World.block_lt_of_cell? W _ h6
    rw [addr_block] at this
    refine ⟨ad, rfl, this, h6.trans ?_⟩
    simp [hj]
theorem rows_of_trod {cs : List Value} (hf : DataW.trod enc Tryd.prog W b (fun _ => true) held fuel 22 cs = some x) :
    ∃ (a : Option Addr) (L : List (List Int)) (cap : Nat), cs = [.slice a L.length cap] ∧ Dg.Tabs W a L ∧ (∀ r ∈ L, r.length ≤ maxLen) ∧ L.length ≤ cap ∧ cap ≤ maxLen := by
  rcases open_slice1 Tryd.underlying22 cellsInts hf with ⟨hcs, _⟩ | ⟨ad, len, c, m, n, V, D, Pl, hcs, _, hl, hm, hmm, _, hall⟩
  · exact ⟨none, [], 0, hcs, fun j hj => absurd hj (by simp), fun r hr => (by cases hr), Nat.le_refl _, by unfold maxLen; omega⟩
  · simp only [if_true] at hmm
    have hall' : ∀ i, i < len → ∃ s : List Int, s.length ≤ maxLen ∧ ∃ p c', W.cell? (ad.add i) = some (.slice p s.length c') ∧ Ints W p s := fun i hi => by
      obtain ⟨h1, h2⟩ := hall i (by omega)
      obtain ⟨p, s, c', hs, hi', hl1, hl2⟩ := ints_of_trod h2
      injection hs with h3
      exact ⟨s, Nat.le_trans hl1 hl2, p, c', by rw [h1, h3], hi'⟩
    obtain ⟨f, hf⟩ := Go.Deep.choose_lt hall'
    refine ⟨some ad, (List.range len).map f, c, by simpa using hcs, fun j hj => ?_, fun r hr => ?_, by simp; exact hl, hm⟩
    · simp only [List.length_map, List.length_range] at hj
      obtain ⟨_, p, c', h6, h7⟩ := hf j hj
      have := World.block_lt_of_cell? W _ h6
      rw [addr_block] at this
      have e : Dg.tb ((List.range len).map f) j = f j := by
        unfold Dg.tb
        rw [List.getD_eq_getElem?_getD, List.getElem?_map, List.getElem?_range hj]; rfl
      rw [e]
      exact ⟨ad, p, c', rfl, this, h6, h7⟩
    · obtain ⟨j, hj, rfl⟩ := List.mem_map.1 hr
      exact (hf j (List.mem_range.1 hj)).1
theorem da_of_trod {cs : Array Value} (hf : DataW.trod enc Tryd.prog W b (fun _ => true) held fuel 25 cs.toList = some x) :
    ∃ (d : Da) (A B : Option Addr) (a c : Nat), cs = #[.int .i64 d.V, .int .i64 d.q0, .slice A d.nx.length a, .slice B d.fi.length c] ∧ DaAt W d A B ∧ (Nf.InJ d.V ∧ Nf.InJ d.q0) ∧ d.nx.length ≤ maxLen ∧ d.fi.length ≤ maxLen ∧ (∀ r ∈ d.nx, r.length ≤ maxLen) := by
  obtain ⟨xs, m, _, _, hl, hlen, hall⟩ := DataW.trod_struct Tryd.underlying25 hf
  rw [cellsDFA] at hl
  obtain ⟨cl⟩ := cs
  simp only at hl hall ⊢
  match cl, hl, xs, hlen with
  | [v0, v1, v2, v3], _, [y0, y1, y2, y3], _ =>
    obtain ⟨V, e0, h0⟩ := int_of_trod (hall 0 _ rfl)
    obtain ⟨q0, e1, h1⟩ := int_of_trod (hall 1 _ rfl)
    obtain ⟨A, nx, a, e2, h2, r2, l2, m2⟩ := rows_of_trod (hall 2 _ rfl)
    obtain ⟨B, fi, c, e3, h3, l3, m3⟩ := bools_of_trod (hall 3 _ rfl)
    simp only [List.getElem_toArray, List.getElem_cons_zero, List.getElem_cons_succ, cellsInt] at e0 e1
    simp only [List.getElem_toArray, List.getElem_cons_zero, List.getElem_cons_succ, cellsRows] at e2
    simp only [List.getElem_toArray, List.getElem_cons_zero, List.getElem_cons_succ, cellsBools] at e3
    simp at e0 e1 e2 e3
    refine ⟨⟨V, q0, nx, fi⟩, A, B, a, c, ?_, ⟨h2, h3⟩, ⟨h0, h1⟩, Nat.le_trans l2 m2, Nat.le_trans l3 m3, r2⟩
    rw [e0, e1, e2, e3]
end
theorem bytesU87 : Tryd.prog.bytesOf 5 = 1 := by kernel_rfl
end Go.Proofs.YtkgeihambgbjdaaDoor.Sb
