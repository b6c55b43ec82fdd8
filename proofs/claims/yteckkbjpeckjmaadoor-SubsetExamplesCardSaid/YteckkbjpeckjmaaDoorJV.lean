/- The law's Long and awake. -/
import Derived.Test.YteckkbjpeckjmaaDoorJU
namespace Go.Proofs.YteckkbjpeckjmaaDoor.Sb
open Go Go.RowKit Go.Proofs.YteckkbjpeckjmaaDoor Go.Proofs.YteckkbjpeckjmaaDoor.Cb
open Go.Proofs.YteckkbjpeckjmaaDoor.Nf (Na NaAt NaLen zvs ret_int ret_b hnext drew_below exN ex_ok ex_len chkN bys_new)
open Go.Proofs.YteckkbjpeckjmaaDoor.Dg (Tabs tb tb_mem)
set_option linter.unusedVariables false
set_option linter.unusedSimpArgs false
set_option maxRecDepth 100000
/-- Whether an automaton has more states than the statements examine. -/
def longT (L : List (List Int)) : Bool := L.any fun r => decide (100 < r.length)
def longD (d : Da) : Bool := decide (40 < d.nx.length) || decide (40 < d.fi.length) || longT d.nx
theorem longD_no {d : Da} (h : longD d = false) : d.nx.length ≤ 40 ∧ d.fi.length ≤ 40 ∧ ∀ r ∈ d.nx, r.length ≤ 100 := by
  unfold longD longT at h
  simp only [Bool.or_eq_false_iff, decide_eq_false_iff_not, List.any_eq_false, decide_eq_true_eq] at h
  exact ⟨by omega, by omega, fun r hr => by have := h.2 r hr; omega⟩
theorem longD_len {d : Da} (h : longD d = false) : DaLen d := by
  have := longD_no h
  exact ⟨by omega, by omega, fun r hr => by have := this.2.2 r hr; omega⟩
theorem DetO.at_ {B : Nat} {w : World} {n : Na} {F : List (List Nat)} {rv fv sv : Value} (h : DetO B w n F rv fv sv) : ∃ A a B' b C c, rv = .slice A F.length a ∧ fv = .slice B' F.length b ∧ sv = .slice C F.length c ∧ DaAt w (detD n F) A B' ∧ Tabs w C (F.map elsI) := by
  have hnl : (nums (succN n) F F.length).length = F.length := nums_len _ _ _ (Nat.le_refl _)
  obtain ⟨A, a, rfl, _⟩ := h.nx.form
  obtain ⟨B', b, rfl, _⟩ := Ap.own_form h.fi
  obtain ⟨C, c, rfl, _⟩ := h.se.form
  refine ⟨A, a, B', b, C, c, by rw [hnl], rfl, by rw [List.length_map], ⟨h.nx.tabs rfl, ?_⟩, h.se.tabs rfl⟩
  have hfi := h.fi
  rw [show (F.map fun s => Value.bool (meetB s (ofL n.fi))) = (F.map fun s => meetB s (ofL n.fi)).map Value.bool by rw [List.map_map]; rfl] at hfi
  exact bools_own hfi (show F.length = (F.map _).length by rw [List.length_map])
/-- The chapter's example. -/
def exF : List (List Nat) := [[1], [3], [5], [7]]
def exD : Da := ⟨1, 0, [[0, 1], [2, 3], [0, 1], [2, 3]], [false, false, true, true]⟩
theorem ex_det4 : detN exN 4 = some exF := by kernel_rfl
theorem ex_det3 : detN exN 3 = none := by kernel_rfl
theorem ex_D : detD exN exF = exD := by kernel_rfl
theorem ex_els : exF.map elsI = [[0], [0, 1], [0, 2], [0, 1, 2]] := by kernel_rfl
def exL : List (List Int) := [[0], [0, 1], [0, 2], [0, 1, 2]]
theorem tabs_ex (X : World) : Tabs (((((X.alloc (.cells #[.int .i64 0] 3)).alloc (.cells #[.int .i64 0, .int .i64 1] 3)).alloc (.cells #[.int .i64 0, .int .i64 2] 3)).alloc (.cells #[.int .i64 0, .int .i64 1, .int .i64 2] 3)).alloc (.cells #[.slice (some ⟨X.heap.size, 0, none⟩) 1 1, .slice (some ⟨X.heap.size + 1, 0, none⟩) 2 2, .slice (some ⟨X.heap.size + 1 + 1, 0, none⟩) 2 2, .slice (some ⟨X.heap.size + 1 + 1 + 1, 0, none⟩) 3 3] 23)) (some ⟨X.heap.size + 1 + 1 + 1 + 1, 0, none⟩) exL := by
  have i0 := Dg.ints_new X 3 [0]
  have i1 := Dg.ints_new (X.alloc (.cells #[.int .i64 0] 3)) 3 [0, 1]
  have i2 := Dg.ints_new ((X.alloc (.cells #[.int .i64 0] 3)).alloc (.cells #[.int .i64 0, .int .i64 1] 3)) 3 [0, 2]
  have i3 := Dg.ints_new (((X.alloc (.cells #[.int .i64 0] 3)).alloc (.cells #[.int .i64 0, .int .i64 1] 3)).alloc (.cells #[.int .i64 0, .int .i64 2] 3)) 3 [0, 1, 2]
  simp only [World.size_alloc] at i1 i2 i3
  have K := fun (Y : World) (o : Obj) => bal (Below.refl Y.heap.size Y) o
  replace i0 := (((i0.below (K _ (.cells #[.int .i64 0, .int .i64 1] 3))).below (K _ (.cells #[.int .i64 0, .int .i64 2] 3))).below (K _ (.cells #[.int .i64 0, .int .i64 1, .int .i64 2] 3)))
  replace i1 := ((i1.below (K _ (.cells #[.int .i64 0, .int .i64 2] 3))).below (K _ (.cells #[.int .i64 0, .int .i64 1, .int .i64 2] 3)))
  replace i2 := (i2.below (K _ (.cells #[.int .i64 0, .int .i64 1, .int .i64 2] 3)))
  change Ints ((((X.alloc (.cells #[.int .i64 0] 3)).alloc (.cells #[.int .i64 0, .int .i64 1] 3)).alloc (.cells #[.int .i64 0, .int .i64 2] 3)).alloc (.cells #[.int .i64 0, .int .i64 1, .int .i64 2] 3)) _ _ at i0 i1 i2 i3
  have hZ : ((((X.alloc (.cells #[.int .i64 0] 3)).alloc (.cells #[.int .i64 0, .int .i64 1] 3)).alloc (.cells #[.int .i64 0, .int .i64 2] 3)).alloc (.cells #[.int .i64 0, .int .i64 1, .int .i64 2] 3)).heap.size = X.heap.size + 1 + 1 + 1 + 1 := by simp only [World.size_alloc]
  generalize ((((X.alloc (.cells #[.int .i64 0] 3)).alloc (.cells #[.int .i64 0, .int .i64 1] 3)).alloc (.cells #[.int .i64 0, .int .i64 2] 3)).alloc (.cells #[.int .i64 0, .int .i64 1, .int .i64 2] 3)) = Z at *
  rw [← hZ]
  have hn := World.alloc_heap_new Z (.cells #[.slice (some ⟨X.heap.size, 0, none⟩) 1 1, .slice (some ⟨X.heap.size + 1, 0, none⟩) 2 2, .slice (some ⟨X.heap.size + 1 + 1, 0, none⟩) 2 2, .slice (some ⟨X.heap.size + 1 + 1 + 1, 0, none⟩) 3 3] 23)
  have hc : ∀ j u, (#[Value.slice (some ⟨X.heap.size, 0, none⟩) 1 1, .slice (some ⟨X.heap.size + 1, 0, none⟩) 2 2, .slice (some ⟨X.heap.size + 1 + 1, 0, none⟩) 2 2, .slice (some ⟨X.heap.size + 1 + 1 + 1, 0, none⟩) 3 3])[j]? = some u → (Z.alloc (.cells #[.slice (some ⟨X.heap.size, 0, none⟩) 1 1, .slice (some ⟨X.heap.size + 1, 0, none⟩) 2 2, .slice (some ⟨X.heap.size + 1 + 1, 0, none⟩) 2 2, .slice (some ⟨X.heap.size + 1 + 1 + 1, 0, none⟩) 3 3] 23)).cell? ((⟨Z.heap.size, 0, none⟩ : Addr).add j) = some u := fun j u hu => by
    rw [addr_add]
    simp only [World.cell?, hn]
    simpa using hu
  have hlt : Z.heap.size < (Z.alloc (.cells #[.slice (some ⟨X.heap.size, 0, none⟩) 1 1, .slice (some ⟨X.heap.size + 1, 0, none⟩) 2 2, .slice (some ⟨X.heap.size + 1 + 1, 0, none⟩) 2 2, .slice (some ⟨X.heap.size + 1 + 1 + 1, 0, none⟩) 3 3] 23)).heap.size := by rw [World.size_alloc]; omega
  have KZ := K Z (.cells #[.slice (some ⟨X.heap.size, 0, none⟩) 1 1, .slice (some ⟨X.heap.size + 1, 0, none⟩) 2 2, .slice (some ⟨X.heap.size + 1 + 1, 0, none⟩) 2 2, .slice (some ⟨X.heap.size + 1 + 1 + 1, 0, none⟩) 3 3] 23)
  intro j hj
  match j, hj with
  | 0, _ => exact ⟨_, _, _, rfl, hlt, hc 0 _ rfl, i0.below KZ⟩
  | 1, _ => exact ⟨_, _, _, rfl, hlt, hc 1 _ rfl, i1.below KZ⟩
  | 2, _ => exact ⟨_, _, _, rfl, hlt, hc 2 _ rfl, i2.below KZ⟩
  | 3, _ => exact ⟨_, _, _, rfl, hlt, hc 3 _ rfl, i3.below KZ⟩
theorem bools_new (W : World) (l : List Bool) : Bools (W.alloc (.cells (l.map Value.bool).toArray 4)) (some ⟨W.heap.size, 0, none⟩) l :=
  Ap.vals_new_ W _ _ _ _ fun j hj => by simp [hj]
theorem exD_len : DaLen exD := ⟨by decide, by decide, by decide⟩
theorem ex_acc1 : accD exD [1, 0] = true ∧ wrongD exD [1, 0] = 0 := ⟨by kernel_rfl, by kernel_rfl⟩
theorem ex_acc2 : accD exD [0, 1] = false ∧ wrongD exD [0, 1] = 0 := ⟨by kernel_rfl, by kernel_rfl⟩
end Go.Proofs.YteckkbjpeckjmaaDoor.Sb
