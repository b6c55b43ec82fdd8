/- From the rows' data to automata, sets and words: what the frames of stage 6's laws share. -/
import Derived.Test.YteckkbjpeckjmaaDoorFS
import Derived.Test.YteckkbjpeckjmaaDoorRows
import Derived.WalkKit
import Derived.ProofKit
import Derived.OpenShut
import Derived.Deep.Slices
import Derived.ShutString
namespace Go.Proofs.YteckkbjpeckjmaaDoor.Nf
open Go Go.ChangeShapes Go.WideShapes Go.ChangeAt Go.RowKit Go.Proofs.YteckkbjpeckjmaaDoor
open Go.Deep (open_slice)
set_option linter.unusedVariables false
set_option maxRecDepth 100000
theorem ownKn : ownKnob Tryd.prog.godebug = none := by kernel_rfl
theorem laidOut6 : laidOutB Tryd.prog = true := by kernel_rfl
theorem cellsEdge : Tryd.prog.cellsOf 30 = 4 := by kernel_rfl
theorem cellsNFA : Tryd.prog.cellsOf 26 = 5 := by kernel_rfl
theorem cellsU8' : Tryd.prog.cellsOf 5 = 1 := by kernel_rfl
theorem cellsInt : Tryd.prog.cellsOf 3 = 1 := by kernel_rfl
theorem cellsInts : Tryd.prog.cellsOf 23 = 1 := by kernel_rfl
theorem cellsEdges : Tryd.prog.cellsOf 24 = 1 := by kernel_rfl
theorem int_bounds {n : Int} (h : (Lit.int .i64 n).wf = true) : -9223372036854775808 ≤ n ∧ n ≤ 9223372036854775807 := by
  simp [Lit.wf, IntKind.min, IntKind.max, IntKind.signed, IntKind.bits] at h
  omega
theorem u8_nat {n : Int} (h : (Lit.int .u8 n).wf = true) : ∃ k : Nat, n = k ∧ k < 256 := by
  simp [Lit.wf, IntKind.min, IntKind.max, IntKind.signed, IntKind.bits] at h
  exact ⟨n.toNat, by omega, by omega⟩
theorem u8_wfB {n : Int} (h : (Lit.int .u8 n).wf = true) : 0 ≤ n ∧ n < 256 := by
  obtain ⟨k, rfl, hk⟩ := u8_nat h
  omega
theorem u64_wf {n : Int} (h : (Lit.int .u64 n).wf = true) : 0 ≤ n ∧ n < 18446744073709551616 := by
  simp [Lit.wf, IntKind.min, IntKind.max, IntKind.signed, IntKind.bits] at h
  omega
section
variable {H : Type} {enc : TypeId × Value → H} {W : World} {b : Nat} {held : Bool} {fuel : Nat} {x : DataW H × List MemPlace}
theorem u8_of_trod {cs : List Value} (hf : DataW.trod enc Tryd.prog W b (fun _ => true) held fuel 5 cs = some x) : ∃ k : Nat, cs = [.int .u8 k] ∧ k < 256 := by
  obtain ⟨n, e, _, hw⟩ := DataW.trod_int Tryd.underlying5 hf
  obtain ⟨k, rfl, hk⟩ := u8_nat hw
  exact ⟨k, e, hk⟩
theorem int_of_trod {cs : List Value} (hf : DataW.trod enc Tryd.prog W b (fun _ => true) held fuel 3 cs = some x) : ∃ n : Int, cs = [.int .i64 n] ∧ InJ n := by
  obtain ⟨n, e, _, hw⟩ := DataW.trod_int Tryd.underlying3 hf
  exact ⟨n, e, int_bounds hw⟩
theorem edge_of_trod {cs : List Value} (hf : DataW.trod enc Tryd.prog W b (fun _ => true) held fuel 30 cs = some x) : ∃ s : Ed, cs = ev s ∧ EdOk s := by
  obtain ⟨xs, n, _, _, hl, hlen, hall⟩ := DataW.trod_struct Tryd.underlying30 hf
  rw [cellsEdge] at hl
  match cs, hl, xs, hlen with
  | [v0, v1, v2, v3], _, [y0, y1, y2, y3], _ =>
    obtain ⟨o, e0, h0⟩ := int_of_trod (hall 0 _ rfl)
    obtain ⟨p, e1, h1⟩ := int_of_trod (hall 1 _ rfl)
    obtain ⟨q, e2, h2⟩ := u8_of_trod (hall 2 _ rfl)
    obtain ⟨a, e3, h3⟩ := u8_of_trod (hall 3 _ rfl)
    simp only [List.getElem_toArray, List.getElem_cons_zero, List.getElem_cons_succ, cellsU8'] at e2 e3
    simp only [List.getElem_toArray, List.getElem_cons_zero, List.getElem_cons_succ, cellsInt] at e0 e1
    simp at e0 e1 e2 e3
    refine ⟨⟨o, p, q, a⟩, ?_, ⟨h0, h1, h2, h3⟩⟩
    rw [e0, e1, e2, e3]
    rfl
theorem edges_of_trod {cs : List Value} (hf : DataW.trod enc Tryd.prog W b (fun _ => true) held fuel 24 cs = some x) :
    ∃ (a : Option Addr) (l : List Ed) (cap : Nat), cs = [.slice a l.length cap] ∧ EdsAt W a l ∧ l.length ≤ cap ∧ cap ≤ maxLen := by
  rcases open_slice Tryd.underlying24 hf with ⟨hcs, _⟩ | ⟨ad, len, c, m, n, D, Pl, hcs, _, hl, hm, hmm, _, hall⟩
  · exact ⟨none, [], 0, hcs, fun j hj => absurd hj (by simp), Nat.le_refl _, by unfold maxLen; omega⟩
  · simp only [if_true] at hmm
    have hall' : ∀ i, i < len → ∃ s : Ed, EdOk s ∧ ∀ j v, (ev s)[j]? = some v → W.cell? ((ad.add (i * 4)).add j) = some v := fun i hi => by
      obtain ⟨cs', h1, h2⟩ := hall i (by omega)
      obtain ⟨s, rfl, h3⟩ := edge_of_trod h2
      rw [cellsEdge] at h1
      obtain ⟨_, hlen, hc⟩ := World.cells?_some h1
      refine ⟨s, h3, fun j v hv => ?_⟩
      rw [hc j (by have := (List.getElem?_eq_some_iff.1 hv).1; omega)]
      exact hv
    obtain ⟨f, hf⟩ := Go.Deep.choose_lt hall'
    refine ⟨some ad, (List.range len).map f, c, by simpa using hcs, fun j hj => ?_, by simp; exact hl, hm⟩
    simp only [List.length_map, List.length_range] at hj
    have e : ed ((List.range len).map f) j = f j := by
      unfold ed
      rw [List.getD_eq_getElem?_getD, List.getElem?_map, List.getElem?_range hj]; rfl
    rw [e]
    obtain ⟨h3, h6⟩ := hf j hj
    refine ⟨h3, ad, rfl, ?_, h6⟩
    have := World.block_lt_of_cell? W _ (h6 0 _ rfl)
    rwa [addr_block, addr_block] at this
theorem ints_of_trod {cs : List Value} (hf : DataW.trod enc Tryd.prog W b (fun _ => true) held fuel 23 cs = some x) :
    ∃ (a : Option Addr) (l : List Int) (cap : Nat), cs = [.slice a l.length cap] ∧ Ints W a l ∧ l.length ≤ cap ∧ cap ≤ maxLen := by
  rcases open_ints Tryd.underlying23 Tryd.underlying3 (by kernel_rfl) hf with ⟨hcs, _⟩ | ⟨ad, l, c, zs, hcs, _, hl, hm, hz, _, hcell, hwz⟩
  · exact ⟨none, [], 0, hcs, Vals.nil_, Nat.le_refl _, by unfold maxLen; omega⟩
  · simp only [if_true] at hz
    have hlz : (zs.take l).length = l := by simp; omega
    refine ⟨some ad, zs.take l, c, by rw [hlz]; exact hcs, ?_, by omega, hm⟩
    intro j hj
    rw [hlz] at hj
    have hc := hcell j (by omega)
    have hb := World.block_lt_of_cell? W _ hc
    rw [addr_block] at hb
    refine ⟨ad, rfl, hb, hc.trans ?_⟩
    congr 2
    unfold nd
    simp only [List.getD_eq_getElem?_getD, List.getElem?_take, if_pos hj]
theorem na_of_trod {cs : Array Value} (hf : DataW.trod enc Tryd.prog W b (fun _ => true) held fuel 26 cs.toList = some x) :
    ∃ (n : Na) (A B C : Option Addr) (a c d : Nat), cs = #[.int .i64 n.V, .int .i64 n.S, .slice A n.st.length a, .slice B n.fi.length c, .slice C n.es.length d] ∧ NaAt W n A B C ∧
      (n.st.length ≤ a ∧ a ≤ maxLen) ∧ (n.fi.length ≤ c ∧ c ≤ maxLen) ∧ (n.es.length ≤ d ∧ d ≤ maxLen) := by
  obtain ⟨xs, m, _, _, hl, hlen, hall⟩ := DataW.trod_struct Tryd.underlying26 hf
  rw [cellsNFA] at hl
  obtain ⟨cl⟩ := cs
  simp only at hl hall ⊢
  match cl, hl, xs, hlen with
  | [v0, v1, v2, v3, v4], _, [y0, y1, y2, y3, y4], _ =>
    obtain ⟨V, e0, h0⟩ := int_of_trod (hall 0 _ rfl)
    obtain ⟨S, e1, h1⟩ := int_of_trod (hall 1 _ rfl)
    obtain ⟨A, st, a, e2, h2, l2, m2⟩ := ints_of_trod (hall 2 _ rfl)
    obtain ⟨B, fi, c, e3, h3, l3, m3⟩ := ints_of_trod (hall 3 _ rfl)
    obtain ⟨C, es, d, e4, h4, l4, m4⟩ := edges_of_trod (hall 4 _ rfl)
    simp only [List.getElem_toArray, List.getElem_cons_zero, List.getElem_cons_succ, cellsInt] at e0 e1
    simp only [List.getElem_toArray, List.getElem_cons_zero, List.getElem_cons_succ, cellsInts] at e2 e3
    simp only [List.getElem_toArray, List.getElem_cons_zero, List.getElem_cons_succ, cellsEdges] at e4
    simp at e0 e1 e2 e3 e4
    refine ⟨⟨V, S, st, fi, es⟩, A, B, C, a, c, d, ?_, ⟨h0, h1, h2, h3, h4⟩, ⟨l2, m2⟩, ⟨l3, m3⟩, ⟨l4, m4⟩⟩
    rw [e0, e1, e2, e3, e4]
/-- A slice of bytes that came in reads as numbers. -/
theorem word_of_trod {a : Option Addr} {len cap : Nat} (hf : DataW.trod enc Tryd.prog W b (fun _ => true) held fuel 39 [.slice a len cap] = some x) :
    ∃ xs : List Nat, len = xs.length ∧ Bys W a xs ∧ (∀ y ∈ xs, y < 256) ∧ xs.length ≤ cap ∧ cap ≤ maxLen := by
  rcases open_ints Tryd.underlying39 Tryd.underlying5 (by kernel_rfl) hf with ⟨hcs, _⟩ | ⟨ad, l, c, zs, hcs, _, hl, hm, hz, _, hcell, hwz⟩
  · simp at hcs
    obtain ⟨rfl, rfl, rfl⟩ := hcs
    exact ⟨[], rfl, fun j hj => absurd hj (by simp), (fun x hx => by cases hx), Nat.le_refl _, by unfold maxLen; omega⟩
  · simp at hcs
    obtain ⟨rfl, rfl, rfl⟩ := hcs
    simp only [if_true] at hz
    refine ⟨(zs.take len).map Int.toNat, by simp; omega, ?_, ?_, by simp; omega, hm⟩
    · intro j hj
      simp only [List.length_map, List.length_take] at hj
      have hc := hcell j (by omega)
      have hb := World.block_lt_of_cell? W _ hc
      rw [addr_block] at hb
      have hw := u8_wfB (hwz (zs.getD j 0) (by
        rw [List.getD_eq_getElem?_getD, List.getElem?_eq_getElem (by omega : j < zs.length)]
        exact List.getElem_mem _))
      refine ⟨ad, rfl, hb, hc.trans ?_⟩
      have e : ((wd ((zs.take len).map Int.toNat) j : Nat) : Int) = zs.getD j 0 := by
        unfold wd
        rw [List.getD_eq_getElem?_getD, List.getElem?_map, List.getElem?_take, if_pos (by omega), List.getD_eq_getElem?_getD] at *
        rw [List.getElem?_eq_getElem (by omega : j < zs.length)] at *
        simp at hw ⊢
        omega
      exact congrArg (fun t => some (Value.int .u8 t)) e.symm
    · intro n hn
      obtain ⟨z, hz1, rfl⟩ := List.mem_map.1 hn
      have := u8_wfB (hwz z (List.mem_of_mem_take hz1))
      omega
/-- A set that came in reads as words. -/
theorem words_of_trod {a : Option Addr} {len cap : Nat} (hf : DataW.trod enc Tryd.prog W b (fun _ => true) held fuel 41 [.slice a len cap] = some x) :
    ∃ xs : List Nat, len = xs.length ∧ Words W a xs ∧ U64 xs ∧ xs.length ≤ cap ∧ cap ≤ maxLen := by
  rcases open_ints Tryd.underlying41 Tryd.underlying44 (by kernel_rfl) hf with ⟨hcs, _⟩ | ⟨ad, l, c, zs, hcs, _, hl, hm, hz, _, hcell, hwz⟩
  · simp at hcs
    obtain ⟨rfl, rfl, rfl⟩ := hcs
    exact ⟨[], rfl, Vals.nil_, (fun x hx => by cases hx), Nat.le_refl _, by unfold maxLen; omega⟩
  · simp at hcs
    obtain ⟨rfl, rfl, rfl⟩ := hcs
    simp only [if_true] at hz
    refine ⟨(zs.take len).map Int.toNat, by simp; omega, ?_, ?_, by simp; omega, hm⟩
    · intro j hj
      simp only [List.length_map, List.length_take] at hj
      have hc := hcell j (by omega)
      have hb := World.block_lt_of_cell? W _ hc
      rw [addr_block] at hb
      have hw := u64_wf (hwz (zs.getD j 0) (by
        rw [List.getD_eq_getElem?_getD, List.getElem?_eq_getElem (by omega : j < zs.length)]
        exact List.getElem_mem _))
      refine ⟨ad, rfl, hb, hc.trans ?_⟩
      have e : ((wd ((zs.take len).map Int.toNat) j : Nat) : Int) = zs.getD j 0 := by
        unfold wd
        rw [List.getD_eq_getElem?_getD, List.getElem?_map, List.getElem?_take, if_pos (by omega), List.getD_eq_getElem?_getD] at *
        rw [List.getElem?_eq_getElem (by omega : j < zs.length)] at *
        simp at hw ⊢
        omega
      exact congrArg (fun t => some (Value.int .u64 t)) e.symm
    · intro n hn
      obtain ⟨z, hz1, rfl⟩ := List.mem_map.1 hn
      have := u64_wf (hwz z (List.mem_of_mem_take hz1))
      omega
end
end Go.Proofs.YteckkbjpeckjmaaDoor.Nf
