/- Two automata side by side: what it is; an automaton of one's own to which rows and truth values are appended. -/
import Derived.Test.YtkgeihambgbjdaaDoorSK
namespace Go.Proofs.YtkgeihambgbjdaaDoor.Mi
open Go Go.RowKit Go.Proofs.YtkgeihambgbjdaaDoor Go.Proofs.YtkgeihambgbjdaaDoor.Cb Go.Proofs.YtkgeihambgbjdaaDoor.Sb
open Go.Proofs.YtkgeihambgbjdaaDoor.Nf (Bys zvs bvs ret_int ret_b drew_below wordE)
open Go.Proofs.YtkgeihambgbjdaaDoor.Dg (Tabs tb tb_mem)
set_option linter.unusedVariables false
set_option linter.unusedSimpArgs false
set_option linter.unusedSectionVars false
set_option maxRecDepth 100000
/-- The states of b behind those of a. -/
def shR (k : Nat) (r : List Int) : List Int := r.map fun z => (k : Int) + z
def catD (a b : Da) : Da := ⟨a.V, a.q0, a.nx ++ b.nx.map (shR a.nx.length), a.fi ++ b.fi⟩
section
variable {a b : Da} (hA : OkD a) (hB : OkD b) (hV : a.V = b.V)
include hA hB hV
theorem cat_len : (catD a b).nx.length = a.nx.length + b.nx.length := by show (a.nx ++ b.nx.map (shR a.nx.length)).length = _; rw [List.length_append, List.length_map]
theorem cat_row1 {s : Nat} (hs : s < a.nx.length) : tb (catD a b).nx s = tb a.nx s := by
  show tb (a.nx ++ b.nx.map (shR a.nx.length)) s = _
  rw [tb_app, if_pos hs]
theorem cat_row2 {s : Nat} (hs : s < b.nx.length) : tb (catD a b).nx (a.nx.length + s) = shR a.nx.length (tb b.nx s) := by
  show tb (a.nx ++ b.nx.map (shR a.nx.length)) _ = _
  rw [tb_app, if_neg (by omega), Nat.add_sub_cancel_left]
  unfold tb
  rw [List.getD_eq_getElem?_getD, List.getD_eq_getElem?_getD, List.getElem?_map, List.getElem?_eq_getElem hs]
  rfl
theorem cat_dl1 {s x : Nat} (hs : s < a.nx.length) : dlt (catD a b).nx s x = dlt a.nx s x := by
  unfold dlt
  rw [cat_row1 hA hB hV hs]
theorem cat_dl2 {s x : Nat} (hs : s < b.nx.length) (hx : x < 2 ^ b.V.toNat) : dlt (catD a b).nx (a.nx.length + s) x = a.nx.length + dlt b.nx s x := by
  have h1 := (okD_dl hB hs hx).1
  have h2 := (hB.row _ (tb_mem hs)).1
  unfold dlt at h1 ⊢
  rw [cat_row2 hA hB hV hs]
  have e : nd (shR a.nx.length (tb b.nx s)) x = (a.nx.length : Int) + nd (tb b.nx s) x := by
    rw [nd_eq (by unfold shR; rw [List.length_map]; omega), nd_eq (by omega)]
    unfold shR
    rw [List.getElem_map]
  rw [e]
  omega
theorem cat_fi1 {s : Nat} (hs : s < a.nx.length) : fiB (catD a b) s = fiB a s := by
  show (a.fi ++ b.fi).getD s false = a.fi.getD s false
  rw [List.getD_eq_getElem?_getD, List.getD_eq_getElem?_getD, List.getElem?_append_left (by rw [hA.fi]; exact hs)]
theorem cat_fi2 (s : Nat) : fiB (catD a b) (a.nx.length + s) = fiB b s := by
  show (a.fi ++ b.fi).getD _ false = b.fi.getD s false
  rw [List.getD_eq_getElem?_getD, List.getD_eq_getElem?_getD, List.getElem?_append_right (by rw [hA.fi]; omega), hA.fi, Nat.add_sub_cancel_left]
theorem cat_run1 : ∀ (u : List Nat) (s : Nat), s < a.nx.length → (∀ y ∈ u, y < 2 ^ a.V.toNat) → runW (dlt (catD a b).nx) s u = runW (dlt a.nx) s u
  | [], _, _, _ => rfl
  | x :: u, s, hs, hu => by
    show runW _ (dlt (catD a b).nx s x) u = runW _ (dlt a.nx s x) u
    rw [cat_dl1 hA hB hV hs]
    exact cat_run1 u _ (okD_dl hA hs (hu x List.mem_cons_self)).2 fun y hy => hu y (List.mem_cons_of_mem _ hy)
theorem cat_run2 : ∀ (u : List Nat) (s : Nat), s < b.nx.length → (∀ y ∈ u, y < 2 ^ b.V.toNat) → runW (dlt (catD a b).nx) (a.nx.length + s) u = a.nx.length + runW (dlt b.nx) s u
  | [], _, _, _ => rfl
  | x :: u, s, hs, hu => by
    show runW _ (dlt (catD a b).nx (a.nx.length + s) x) u = _ + runW _ (dlt b.nx s x) u
    rw [cat_dl2 hA hB hV hs (hu x List.mem_cons_self)]
    exact cat_run2 u _ (okD_dl hB hs (hu x List.mem_cons_self)).2 fun y hy => hu y (List.mem_cons_of_mem _ hy)
theorem cat_lg1 {s : Nat} (hs : s < a.nx.length) : lg (catD a b) s = lg a s := by
  refine (lg_eq (a := catD a b) (b := a) rfl).2 fun u hu => ?_
  change ∀ y ∈ u, y < 2 ^ a.V.toNat at hu
  rw [cat_run1 hA hB hV u s hs hu, cat_fi1 hA hB hV (run_nat hA u s hs hu).2]
theorem cat_lg2 {s : Nat} (hs : s < b.nx.length) : lg (catD a b) (a.nx.length + s) = lg b s := by
  refine (lg_eq (a := catD a b) (b := b) hV).2 fun u hu => ?_
  change ∀ y ∈ u, y < 2 ^ a.V.toNat at hu
  rw [hV] at hu
  rw [cat_run2 hA hB hV u s hs hu, cat_fi2 hA hB hV]
theorem cat_ok (hn : a.nx.length + b.nx.length ≤ 4096) : OkD (catD a b) := by
  have hl := cat_len hA hB hV
  refine ⟨hA.v0, hA.v6, by rw [hl]; have := hA.n0; omega, by rw [hl]; exact hn, ?_, ?_, fun r hr => ?_⟩
  · rw [hl]
    show (a.fi ++ b.fi).length = _
    rw [List.length_append, hA.fi, hB.fi]
  · rw [hl]
    have := hA.q0
    show 0 ≤ a.q0 ∧ a.q0 < _
    omega
  · rw [hl]
    rcases List.mem_append.1 hr with h | h
    · obtain ⟨h1, h2⟩ := hA.row r h
      exact ⟨h1, fun z hz => by have := h2 z hz; omega⟩
    · obtain ⟨r', hr', rfl⟩ := List.mem_map.1 h
      obtain ⟨h1, h2⟩ := hB.row r' hr'
      refine ⟨?_, fun z hz => ?_⟩
      · unfold shR
        rw [List.length_map, h1, ← hV]
        rfl
      · obtain ⟨z', hz', rfl⟩ := List.mem_map.1 hz
        have := h2 z' hz'
        show 0 ≤ (a.nx.length : Int) + z' ∧ (a.nx.length : Int) + z' < _
        omega
end
/-- An automaton of one's own that grows. -/
structure BoL (wc : World) (g : Nat) (V q : Int) (L : List (List Int)) (fs : List Bool) (nv fv : Value) (X : World) : Prop where
  n : Blk4 X g (.int .i64 V) (.int .i64 q) nv fv
  r : SetsO wc.heap.size X nv L
  f : X.ownsRow wc.heap.size 4 1 fv fs.length (fs.map Value.bool)
  b : Below wc.heap.size wc X
  lo : wc.heap.size ≤ g
theorem BoL.below {wc : World} {g : Nat} {V q : Int} {L : List (List Int)} {fs : List Bool} {nv fv : Value} {X Y : World} (h : BoL wc g V q L fs nv fv X) (hb : Below X.heap.size X Y) : BoL wc g V q L fs nv fv Y :=
  ⟨h.n.below hb, h.r.below hb, h.f.below hb, stepB h.b hb, h.lo⟩
/-- A row more that is not stored yet. -/
structure BoM (wc : World) (g : Nat) (V q : Int) (L : List (List Int)) (fs : List Bool) (nv nv' fv : Value) (X : World) : Prop where
  n : Blk4 X g (.int .i64 V) (.int .i64 q) nv fv
  r : SetsO wc.heap.size X nv' L
  f : X.ownsRow wc.heap.size 4 1 fv fs.length (fs.map Value.bool)
  b : Below wc.heap.size wc X
  lo : wc.heap.size ≤ g
theorem BoM.below {wc : World} {g : Nat} {V q : Int} {L : List (List Int)} {fs : List Bool} {nv nv' fv : Value} {X Y : World} (h : BoM wc g V q L fs nv nv' fv X) (hb : Below X.heap.size X Y) : BoM wc g V q L fs nv nv' fv Y :=
  ⟨h.n.below hb, h.r.below hb, h.f.below hb, stepB h.b hb, h.lo⟩
theorem push2 {B : Nat} {w Z : World} {sv sv' v : Value} {L : List (List Int)} {l : List Int} {Q : List (Value × List Int)} (e : Q.map (fun q => q.2) = L) (ho : w.ownsRow B 33 1 sv L.length (Q.map fun q => q.1)) (hq : ∀ q ∈ Q, w.ownsRow B 3 1 q.1 q.2.length (zvs q.2)) (hl : w.ownsRow B 3 1 v l.length (zvs l))
    (hown : Z.ownsRow B 33 1 sv' (L.length + 1) ((Q.map fun q => q.1) ++ [v])) (hg : w.grownBy Z sv.ownBlock) : SetsO B Z sv' (L ++ [l]) := by
  have keep : ∀ {v : Value} {l : List Int}, w.ownsRow B 3 1 v l.length (zvs l) → Z.ownsRow B 3 1 v l.length (zvs l) := fun {v l} h => h.kept hg (row_ne h ho (by decide))
  refine ⟨Q ++ [(v, l)], by rw [List.map_append, e]; rfl, ?_, fun q h1 => ?_⟩
  · rw [List.length_append, List.map_append]
    exact hown
  · rcases List.mem_append.1 h1 with h2 | h2
    · exact keep (hq q h2)
    · rw [List.mem_singleton] at h2
      subst h2
      exact keep hl
theorem BoL.row {wc : World} {g : Nat} {V q : Int} {L : List (List Int)} {fs : List Bool} {nv nv' fv v : Value} {W Z : World} {l : List Int} {Q : List (Value × List Int)} (h : BoL wc g V q L fs nv fv W)
    (e : Q.map (fun q => q.2) = L) (ho : W.ownsRow wc.heap.size 33 1 nv L.length (Q.map fun q => q.1)) (hq : ∀ q ∈ Q, W.ownsRow wc.heap.size 3 1 q.1 q.2.length (zvs q.2)) (hl : W.ownsRow wc.heap.size 3 1 v l.length (zvs l))
    (hown : Z.ownsRow wc.heap.size 33 1 nv' (L.length + 1) ((Q.map fun q => q.1) ++ [v])) (hg : W.grownBy Z nv.ownBlock) : BoM wc g V q (L ++ [l]) fs nv nv' fv Z := by
  have hlt := blk_lt h.n
  refine ⟨(hg.block g hlt (fun e => own_ne h.n ho (by decide) e.symm)).trans h.n, push2 e ho hq hl hown hg, h.f.kept hg (row_ne h.f ho (by decide)), h.b.grown hg h.b.size (fun q hq => (own_lt ho hq).1), h.lo⟩
theorem BoM.fin {wc : World} {g : Nat} {V q : Int} {L : List (List Int)} {fs : List Bool} {nv nv' fv fv' : Value} {W Z : World} {u : Bool} (h : BoM wc g V q L fs nv nv' fv W)
    (hown : Z.ownsRow wc.heap.size 4 1 fv' (fs.length + 1) (fs.map Value.bool ++ [.bool u])) (hg : W.grownBy Z fv.ownBlock) : Blk4 Z g (.int .i64 V) (.int .i64 q) nv fv ∧ BoL wc g V q L (fs ++ [u]) nv' fv' ((Z.setCell ⟨g, 2, none⟩ nv').setCell ⟨g, 3, none⟩ fv') := by
  have hlt := blk_lt h.n
  have hZ : Blk4 Z g (.int .i64 V) (.int .i64 q) nv fv := (hg.block g hlt (fun e => own_ne h.n h.f (by decide) e.symm)).trans h.n
  have hr : SetsO wc.heap.size Z nv' L := h.r.other h.f (by decide) (by decide) hg
  have hZ2 : Blk4 (Z.setCell ⟨g, 2, none⟩ nv') g (.int .i64 V) (.int .i64 q) nv' fv := heap_put hZ 2 nv'
  have hl1 : (fs ++ [u]).length = fs.length + 1 := by simp
  refine ⟨hZ, hZ2.set3 _, (hr.put hZ (by decide) (by decide) _ _).put hZ2 (by decide) (by decide) _ _, ?_, ?_, h.lo⟩
  · rw [hl1, List.map_append]
    exact row_put (row_put hown (own_ne hZ hown (by decide)) _ _) (own_ne hZ2 (row_put hown (own_ne hZ hown (by decide)) _ _) (by decide)) _ _
  · exact ((h.b.grown hg h.b.size (fun q hq => (own_lt h.f hq).1)).setCell (p := ⟨g, 2, none⟩) h.lo _).setCell (p := ⟨g, 3, none⟩) h.lo _
theorem BoL.at_ {wc : World} {g : Nat} {V q : Int} {L : List (List Int)} {fs : List Bool} {nv fv : Value} {X : World} (h : BoL wc g V q L fs nv fv X) : ∃ A' a' B' b', nv = .slice A' L.length a' ∧ fv = .slice B' fs.length b' ∧ DaAt X ⟨V, q, L, fs⟩ A' B' := by
  obtain ⟨A', a', rfl, _⟩ := h.r.form
  obtain ⟨B', b', rfl, _⟩ := Ap.own_form h.f
  exact ⟨A', a', B', b', rfl, rfl, h.r.tabs rfl, bools_own h.f rfl⟩
end Go.Proofs.YtkgeihambgbjdaaDoor.Mi
