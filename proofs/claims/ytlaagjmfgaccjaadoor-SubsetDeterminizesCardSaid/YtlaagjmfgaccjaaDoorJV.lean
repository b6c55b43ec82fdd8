/- The law's Long and awake. -/
import Derived.Test.YtlaagjmfgaccjaaDoorJU
namespace Go.Proofs.YtlaagjmfgaccjaaDoor.Sb
open Go Go.RowKit Go.Proofs.YtlaagjmfgaccjaaDoor Go.Proofs.YtlaagjmfgaccjaaDoor.Cb
open Go.Proofs.YtlaagjmfgaccjaaDoor.Nf (Na NaAt NaLen zvs ret_int ret_b hnext drew_below exN ex_ok ex_len chkN bys_new)
open Go.Proofs.YtlaagjmfgaccjaaDoor.Dg (Tabs tb tb_mem)
set_option linter.unusedVariables false
set_option linter.unusedSimpArgs false
set_option maxRecDepth 100000
/-- Whether an automaton has more states than the statements examine. -/
def longT (L : List (List Int)) : Bool := L.any fun r => decide (100 < r.length)
def longD (d : Da) : Bool := decide (40 < d.nx.length) || decide (40 < d.fi.length) || longT d.nx
theorem longD_no {d : Da} (h : longD d = false) : d.nx.length ≤ 40 ∧ d.fi.length ≤ 40 ∧ ∀ r ∈ d.nx, r.length ≤ 100 := by
  unfold longD longT at h
  simp only [Bool.or_eq_false_iff, decide_eq_false_iff_not, List.any_eq_false, decide_eq_true_eq] at h
  exact ⟨by omega, by omega, fun r hr => by have := h.2 r hr; omega⟩
theorem longD_len {d : Da} (h : longD d = false) : DaLen d := by
  have := longD_no h
  exact ⟨by omega, by omega, fun r hr => by have := this.2.2 r hr; omega⟩
set_option maxHeartbeats 4000000 in
theorem Long7_any (d : Da) (A B : Option Addr) (a b : Nat) (w : World) (hx : DaAt w d A B) (h1 : d.nx.length ≤ maxLen) (h2 : d.fi.length ≤ maxLen) (h3 : ∀ r ∈ d.nx, r.length ≤ maxLen) :
    Calls Tryd.prog 22 #[.slice (some ⟨w.heap.size, 0, none⟩) 1 1] (w.alloc (.cells #[.int .i64 d.V, .int .i64 d.q0, .slice A d.nx.length a, .slice B d.fi.length b] 54)) fun e w' => e = .returned (.bool (longD d)) ∧ Below w.heap.size w w' := by
  have hb0 := bal (Below.refl w.heap.size w) (.cells #[.int .i64 d.V, .int .i64 d.q0, .slice A d.nx.length a, .slice B d.fi.length b] 54)
  obtain ⟨z0, z1, z2, z3⟩ := (Blk4.new w (.int .i64 d.V) (.int .i64 d.q0) (.slice A d.nx.length a) (.slice B d.fi.length b)).cells
  have HX := Lib.hid fun k (hk : k < d.nx.length) => (hx.nx.below hb0) k hk
  have HL : Hid (longD d = (decide (40 < d.nx.length) || decide (40 < d.fi.length) || longT d.nx)) := rfl
  have HT : Hid (∀ k, k < d.nx.length → 100 < (tb d.nx k).length → longT d.nx = true) := fun k hk h => by
    unfold longT
    rw [List.any_eq_true]
    exact ⟨_, tb_mem hk, decide_eq_true h⟩
  have HF : Hid ((∀ k, k < d.nx.length → ¬ 100 < (tb d.nx k).length) → longT d.nx = false) := fun h => by
    unfold longT
    rw [List.any_eq_false]
    intro r hr
    obtain ⟨j, hj, rfl⟩ := Dg.mem_tb hr
    have := h j hj
    simpa using this
  have HM : Hid (∀ k, k < d.nx.length → (tb d.nx k).length ≤ maxLen) := fun k hk => h3 _ (tb_mem hk)
  clear hx h3
  unfold maxLen at h1 h2
  generalize longD d = L at *
  generalize longT d.nx = T at *
  obtain ⟨V, q0, nx, fi⟩ := d
  dsimp only at *
  generalize nx.length = nn at *
  generalize fi.length = nf at *
  generalize World.alloc w (.cells #[.int .i64 V, .int .i64 q0, .slice A nn a, .slice B nf b] 54) = W at *
  generalize w.heap.size = g at *
  go_enter Tryd.func22, Tryd.ntmps22
  go_wp2
  go_loopw [3] (fun i wr => (i = .int .i64 0 ∨ (i = .int .i64 1 ∧ Hid (L = false))) ∧ wr = W) (fun i _ => 1 - (intOf i).toNat)
  case atStart => exact ⟨.inl rfl, rfl⟩
  case round =>
    obtain ⟨rfl | ⟨rfl, hF⟩, rfl⟩ := hrel
    · by_cases g1 : 40 < nn
      · have hT : Hid (L = true) := by show _ = _; rw [HL.out, decide_eq_true g1]; rfl
        have d1 : decide ((40 : Int) < (nn : Int)) = true := decide_eq_true (by omega)
        clear HL HX HT HF HM
        go_wp2
        go_ret
        exact ⟨ret_b hT.out.symm, hb0⟩
      · have d1 : decide ((40 : Int) < (nn : Int)) = false := decide_eq_false (by omega)
        by_cases g2 : 40 < nf
        · have hT : Hid (L = true) := by show _ = _; rw [HL.out, decide_eq_true g2]; simp
          have d2 : decide ((40 : Int) < (nf : Int)) = true := decide_eq_true (by omega)
          clear HL HX HT HF HM
          go_wp2
          go_ret
          exact ⟨ret_b hT.out.symm, hb0⟩
        · have d2 : decide ((40 : Int) < (nf : Int)) = false := decide_eq_false (by omega)
          have HL2 : Hid (L = T) := by show _ = _; rw [HL.out, decide_eq_false g1, decide_eq_false g2]; rfl
          clear HL
          go_wp2
          go_loopw [4] (fun s wx => ∃ k : Nat, k ≤ nn ∧ s = .int .i64 k ∧ Hid (∀ j, j < k → ¬ 100 < (tb nx j).length) ∧ wx = wr) (fun s _ => nn - (intOf s).toNat)
          case atStart => exact ⟨0, by omega, rfl, fun j hj => absurd hj (by omega), rfl⟩
          case round =>
            obtain ⟨k, hk, rfl, H, rfl⟩ := hrel
            by_cases hlt : k < nn
            · obtain ⟨ad, p, c', rfl, hbk, hcell, hi⟩ := HX.out k hlt
              have hm := HM.out k hlt
              unfold maxLen at hm
              have hlt2 : (k : Int) < (nn : Int) := by omega
              by_cases hb1 : 100 < (tb nx k).length
              · have hT : Hid (L = true) := by show _ = _; rw [HL2.out, HT.out k hlt hb1]
                have d3 : decide ((100 : Int) < ((tb nx k).length : Int)) = true := decide_eq_true (by omega)
                clear HL2 HX HT HF HM H hi
                generalize (tb nx k).length = nk at *
                go_wp2
                go_ret
                exact ⟨ret_b hT.out.symm, hb0⟩
              · have d3 : decide ((100 : Int) < ((tb nx k).length : Int)) = false := decide_eq_false (by omega)
                have H' : Hid (∀ j, j < k + 1 → ¬ 100 < (tb nx j).length) := fun j hj => by
                  rcases Nat.lt_or_eq_of_le (Nat.le_of_lt_succ hj) with h1 | rfl
                  · exact H.out j h1
                  · exact hb1
                clear HL2 HX HT HF HM H hi hb1
                generalize (tb nx k).length = nk at *
                go_wp2
                go_roundw
                case rel => exact ⟨k + 1, by omega, by go_num, H', trivial⟩
                case measure => simp [intOf]; omega
            · obtain rfl : k = nn := by omega
              have hF : Hid (L = false) := by show _ = _; rw [HL2.out]; exact HF.out H.out
              clear HL2 HX HT HF HM H
              go_wp2
              go_roundw
              case rel => exact ⟨.inr ⟨rfl, hF⟩, trivial⟩
              case measure => simp [intOf]
    · clear HL HX HT HF HM
      go_wp2
      go_ret
      exact ⟨ret_b hF.out.symm, hb0⟩
theorem DetO.at_ {B : Nat} {w : World} {n : Na} {F : List (List Nat)} {rv fv sv : Value} (h : DetO B w n F rv fv sv) : ∃ A a B' b C c, rv = .slice A F.length a ∧ fv = .slice B' F.length b ∧ sv = .slice C F.length c ∧ DaAt w (detD n F) A B' ∧ Tabs w C (F.map elsI) := by
  have hnl : (nums (succN n) F F.length).length = F.length := nums_len _ _ _ (Nat.le_refl _)
  obtain ⟨A, a, rfl, _⟩ := h.nx.form
  obtain ⟨B', b, rfl, _⟩ := Ap.own_form h.fi
  obtain ⟨C, c, rfl, _⟩ := h.se.form
  refine ⟨A, a, B', b, C, c, by rw [hnl], rfl, by rw [List.length_map], ⟨h.nx.tabs rfl, ?_⟩, h.se.tabs rfl⟩
  have hfi := h.fi
  rw [show (F.map fun s => Value.bool (meetB s (ofL n.fi))) = (F.map fun s => meetB s (ofL n.fi)).map Value.bool by rw [List.map_map]; rfl] at hfi
  exact bools_own hfi (show F.length = (F.map _).length by rw [List.length_map])
/-- The chapter's example. -/
def exF : List (List Nat) := [[1], [3], [5], [7]]
def exD : Da := ⟨1, 0, [[0, 1], [2, 3], [0, 1], [2, 3]], [false, false, true, true]⟩
theorem ex_det4 : detN exN 4 = some exF := by kernel_rfl
theorem ex_det3 : detN exN 3 = none := by kernel_rfl
theorem ex_D : detD exN exF = exD := by kernel_rfl
theorem ex_els : exF.map elsI = [[0], [0, 1], [0, 2], [0, 1, 2]] := by kernel_rfl
def exL : List (List Int) := [[0], [0, 1], [0, 2], [0, 1, 2]]
theorem tabs_ex (X : World) : Tabs (((((X.alloc (.cells #[.int .i64 0] 3)).alloc (.cells #[.int .i64 0, .int .i64 1] 3)).alloc (.cells #[.int .i64 0, .int .i64 2] 3)).alloc (.cells #[.int .i64 0, .int .i64 1, .int .i64 2] 3)).alloc (.cells #[.slice (some ⟨X.heap.size, 0, none⟩) 1 1, .slice (some ⟨X.heap.size + 1, 0, none⟩) 2 2, .slice (some ⟨X.heap.size + 1 + 1, 0, none⟩) 2 2, .slice (some ⟨X.heap.size + 1 + 1 + 1, 0, none⟩) 3 3] 23)) (some ⟨X.heap.size + 1 + 1 + 1 + 1, 0, none⟩) exL := by
  have i0 := Dg.ints_new X 3 [0]
  have i1 := Dg.ints_new (X.alloc (.cells #[.int .i64 0] 3)) 3 [0, 1]
  have i2 := Dg.ints_new ((X.alloc (.cells #[.int .i64 0] 3)).alloc (.cells #[.int .i64 0, .int .i64 1] 3)) 3 [0, 2]
  have i3 := Dg.ints_new (((X.alloc (.cells #[.int .i64 0] 3)).alloc (.cells #[.int .i64 0, .int .i64 1] 3)).alloc (.cells #[.int .i64 0, .int .i64 2] 3)) 3 [0, 1, 2]
  simp only [World.size_alloc] at i1 i2 i3
  have K := fun (Y : World) (o : Obj) => bal (Below.refl Y.heap.size Y) o
  replace i0 := (((i0.below (K _ (.cells #[.int .i64 0, .int .i64 1] 3))).below (K _ (.cells #[.int .i64 0, .int .i64 2] 3))).below (K _ (.cells #[.int .i64 0, .int .i64 1, .int .i64 2] 3)))
  replace i1 := ((i1.below (K _ (.cells #[.int .i64 0, .int .i64 2] 3))).below (K _ (.cells #[.int .i64 0, .int .i64 1, .int .i64 2] 3)))
  replace i2 := (i2.below (K _ (.cells #[.int .i64 0, .int .i64 1, .int .i64 2] 3)))
  change Ints ((((X.alloc (.cells #[.int .i64 0] 3)).alloc (.cells #[.int .i64 0, .int .i64 1] 3)).alloc (.cells #[.int .i64 0, .int .i64 2] 3)).alloc (.cells #[.int .i64 0, .int .i64 1, .int .i64 2] 3)) _ _ at i0 i1 i2 i3
  have hZ : ((((X.alloc (.cells #[.int .i64 0] 3)).alloc (.cells #[.int .i64 0, .int .i64 1] 3)).alloc (.cells #[.int .i64 0, .int .i64 2] 3)).alloc (.cells #[.int .i64 0, .int .i64 1, .int .i64 2] 3)).heap.size = X.heap.size + 1 + 1 + 1 + 1 := by simp only [World.size_alloc]
  generalize ((((X.alloc (.cells #[.int .i64 0] 3)).alloc (.cells #[.int .i64 0, .int .i64 1] 3)).alloc (.cells #[.int .i64 0, .int .i64 2] 3)).alloc (.cells #[.int .i64 0, .int .i64 1, .int .i64 2] 3)) = Z at *
  rw [← hZ]
  have hn := World.alloc_heap_new Z (.cells #[.slice (some ⟨X.heap.size, 0, none⟩) 1 1, .slice (some ⟨X.heap.size + 1, 0, none⟩) 2 2, .slice (some ⟨X.heap.size + 1 + 1, 0, none⟩) 2 2, .slice (some ⟨X.heap.size + 1 + 1 + 1, 0, none⟩) 3 3] 23)
  have hc : ∀ j u, (#[Value.slice (some ⟨X.heap.size, 0, none⟩) 1 1, .slice (some ⟨X.heap.size + 1, 0, none⟩) 2 2, .slice (some ⟨X.heap.size + 1 + 1, 0, none⟩) 2 2, .slice (some ⟨X.heap.size + 1 + 1 + 1, 0, none⟩) 3 3])[j]? = some u → (Z.alloc (.cells #[.slice (some ⟨X.heap.size, 0, none⟩) 1 1, .slice (some ⟨X.heap.size + 1, 0, none⟩) 2 2, .slice (some ⟨X.heap.size + 1 + 1, 0, none⟩) 2 2, .slice (some ⟨X.heap.size + 1 + 1 + 1, 0, none⟩) 3 3] 23)).cell? ((⟨Z.heap.size, 0, none⟩ : Addr).add j) = some u := fun j u hu => by
    rw [addr_add]
    simp only [World.cell?, hn]
    simpa using hu
  have hlt : Z.heap.size < (Z.alloc (.cells #[.slice (some ⟨X.heap.size, 0, none⟩) 1 1, .slice (some ⟨X.heap.size + 1, 0, none⟩) 2 2, .slice (some ⟨X.heap.size + 1 + 1, 0, none⟩) 2 2, .slice (some ⟨X.heap.size + 1 + 1 + 1, 0, none⟩) 3 3] 23)).heap.size := by rw [World.size_alloc]; omega
  have KZ := K Z (.cells #[.slice (some ⟨X.heap.size, 0, none⟩) 1 1, .slice (some ⟨X.heap.size + 1, 0, none⟩) 2 2, .slice (some ⟨X.heap.size + 1 + 1, 0, none⟩) 2 2, .slice (some ⟨X.heap.size + 1 + 1 + 1, 0, none⟩) 3 3] 23)
  intro j hj
  match j, hj with
  | 0, _ => exact ⟨_, _, _, rfl, hlt, hc 0 _ rfl, i0.below KZ⟩
  | 1, _ => exact ⟨_, _, _, rfl, hlt, hc 1 _ rfl, i1.below KZ⟩
  | 2, _ => exact ⟨_, _, _, rfl, hlt, hc 2 _ rfl, i2.below KZ⟩
  | 3, _ => exact ⟨_, _, _, rfl, hlt, hc 3 _ rfl, i3.below KZ⟩
theorem bools_new (W : World) (l : List Bool) : Bools (W.alloc (.cells (l.map Value.bool).toArray 4)) (some ⟨W.heap.size, 0, none⟩) l :=
  Ap.vals_new_ W _ _ _ _ fun j hj => by simp [hj]
theorem exD_len : DaLen exD := ⟨by decide, by decide, by decide⟩
theorem ex_acc1 : accD exD [1, 0] = true ∧ wrongD exD [1, 0] = 0 := ⟨by kernel_rfl, by kernel_rfl⟩
theorem ex_acc2 : accD exD [0, 1] = false ∧ wrongD exD [0, 1] = 0 := ⟨by kernel_rfl, by kernel_rfl⟩
end Go.Proofs.YtlaagjmfgaccjaaDoor.Sb
