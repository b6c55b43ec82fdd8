/- movesOf (package subset): for each letter and state the states to which edges lead. -/
import Derived.Test.YteckkbjpeckjmaaDoorJAM
import Derived.Test.YteckkbjpeckjmaaDoorFS
import Derived.Test.YteckkbjpeckjmaaDoorCUL
import Derived.Test.YteckkbjpeckjmaaDoorQH
import Derived.Test.YteckkbjpeckjmaaDoorFL
namespace Go.Proofs.YteckkbjpeckjmaaDoor.Sb
open Go Go.RowKit Go.Proofs.YteckkbjpeckjmaaDoor Go.Proofs.YteckkbjpeckjmaaDoor.Cb
open Go.Proofs.YteckkbjpeckjmaaDoor.Nf (Ed ed ed_mem Na NaAt NaLen Ok EdsAt Blk zvs zvs_snoc four_at info_int6 ret_int ret_b inS Boxed4 Boxed4.new Boxed4.below Boxed4.cells Boxed5 Boxed5.new hnext drew_below Bys Bys.below)
open Go.Proofs.YteckkbjpeckjmaaDoor.Dg (Tabs tb tb_mem mem_tb info_tab)
set_option linter.unusedVariables false
set_option linter.unusedSimpArgs false
set_option maxRecDepth 100000
/-- Where the edges lead from k by x. -/
def mvF (es : List Ed) (x : Nat) (k : Nat) : List Int := (es.filter fun e => cHas e.p e.q x && decide (e.fr = (k : Int))).map Ed.to
/-- The first i edges, and the first j letters of edge i. -/
def mvP (es : List Ed) (i : Nat) (L : List Nat) (j x k : Nat) : List Int := mvF (es.take i) x k ++ if x ∈ L.take j ∧ (ed es i).fr = k then [(ed es i).to] else []
theorem mvP_zero (es : List Ed) (i : Nat) (L : List Nat) (x k : Nat) : mvP es i L 0 x k = mvF (es.take i) x k := by
  unfold mvP
  rw [if_neg (by simp)]
  simp
theorem mvP_end {es : List Ed} {i K : Nat} (hi : i < es.length) {x : Nat} (hx : x < K) (k : Nat) : mvP es i (letTo (ed es i).p (ed es i).q K) (letTo (ed es i).p (ed es i).q K).length x k = mvF (es.take (i + 1)) x k := by
  unfold mvP mvF
  have he : es[i]? = some (ed es i) := by unfold ed; rw [List.getD_eq_getElem?_getD, List.getElem?_eq_getElem hi]; rfl
  rw [List.take_length, List.take_add_one, he, List.filter_append, List.map_append]
  congr 1
  have hm : x ∈ letTo (ed es i).p (ed es i).q K ↔ cHas (ed es i).p (ed es i).q x = true := by
    unfold letTo
    rw [List.mem_filter, List.mem_range]
    exact ⟨fun h => h.2, fun h => ⟨hx, h⟩⟩
  show _ = ([ed es i].filter _).map Ed.to
  by_cases h : x ∈ letTo (ed es i).p (ed es i).q K ∧ (ed es i).fr = k
  · rw [if_pos h, List.filter_cons, if_pos (by rw [hm.1 h.1, decide_eq_true h.2]; rfl)]
    rfl
  · rw [if_neg h, List.filter_cons, if_neg]
    · rfl
    · intro h2
      rw [Bool.and_eq_true, decide_eq_true_iff] at h2
      exact h ⟨hm.2 h2.1, h2.2⟩
theorem mvP_step {es : List Ed} {i K j : Nat} {L : List Nat} (hL : L = letTo (ed es i).p (ed es i).q K) (hj : j < L.length) (x k : Nat) :
    mvP es i L (j + 1) x k = if x = wd L j ∧ (k : Int) = (ed es i).fr then mvP es i L j x k ++ [(ed es i).to] else mvP es i L j x k := by
  have hnd : L.Nodup := by rw [hL]; exact List.Pairwise.filter _ List.nodup_range
  have hwd : wd L j = L[j] := by unfold wd; rw [List.getD_eq_getElem?_getD, List.getElem?_eq_getElem hj]; rfl
  have hmem : x ∈ L.take (j + 1) ↔ x ∈ L.take j ∨ x = L[j] := by
    rw [List.take_add_one, List.getElem?_eq_getElem hj, List.mem_append]
    simp
  have hno : L[j] ∉ L.take j := fun h => by
    obtain ⟨i', hi', he⟩ := List.mem_iff_getElem.1 h
    rw [List.getElem_take] at he
    have hl : i' < j := by rw [List.length_take] at hi'; omega
    exact absurd ((List.getElem_inj hnd).1 he) (by omega)
  unfold mvP
  by_cases h1 : x = L[j]
  · subst h1
    by_cases h2 : (ed es i).fr = k
    · rw [if_pos ⟨hmem.2 (.inr rfl), h2⟩, if_pos ⟨hwd.symm, h2.symm⟩, if_neg (fun h => hno h.1), List.append_nil]
    · rw [if_neg (fun h => h2 h.2), if_neg (fun h => h2 h.2.symm), if_neg (fun h => h2 h.2)]
  · rw [if_neg (c := x = wd L j ∧ _) (fun h => h1 (h.1.trans hwd))]
    by_cases h2 : x ∈ L.take j ∧ (ed es i).fr = k
    · rw [if_pos ⟨hmem.2 (.inl h2.1), h2.2⟩, if_pos h2]
    · rw [if_neg (fun h => h2 ⟨(hmem.1 h.1).resolve_right h1, h.2⟩), if_neg h2]
theorem info_rows : (Tryd.prog.info? 51).map (fun i => (i.zero, i.size, i.bytes)) = some (some (.slice none 0 0), 1, 24) := by kernel_rfl
def rowM (mb S x : Nat) : Value := .slice (some ⟨mb + 1 + x, 0, none⟩) S S
theorem made_moves (K : Nat) (hK : K ≤ 1000) (W : World) : (Instr.makeSlice 109 (.int .i64 (K : Int)) (.int .i64 (K : Int))).run Tryd.prog W = .ok (.slice (some ⟨W.heap.size, 0, none⟩) K K) (W.alloc (.cells (cells K fun _ => .slice none 0 0) 51)) := by
  obtain ⟨i0, hi, hz0, hz1, hz2⟩ := info_parts info_rows
  have := run_makeSlice (P := Tryd.prog) W 109 51 i0 _ Tryd.underlying109 hi hz0 .i64 .i64 (K : Int) (K : Int) (by omega) (Int.le_refl _) (by rw [hz1]; omega) (by rw [hz2]; omega) (by omega)
  rw [this, hz1, Int.toNat_natCast, Nat.mul_one, ← made_cells]
  rfl
theorem made_rows (S : Nat) (hS : S ≤ 1000) (W : World) : (Instr.makeSlice 51 (.int .i64 (S : Int)) (.int .i64 (S : Int))).run Tryd.prog W = .ok (.slice (some ⟨W.heap.size, 0, none⟩) S S) (W.alloc (.cells (cells S fun _ => .slice none 0 0) 23)) := by
  obtain ⟨i0, hi, hz0, hz1, hz2⟩ := info_parts info_tab
  have := run_makeSlice (P := Tryd.prog) W 51 23 i0 _ Tryd.underlying51 hi hz0 .i64 .i64 (S : Int) (S : Int) (by omega) (Int.le_refl _) (by rw [hz1]; omega) (by rw [hz2]; omega) (by omega)
  rw [this, hz1, Int.toNat_natCast, Nat.mul_one, ← made_cells]
  rfl
/-- The first k rows have been made. -/
structure MovT (w0 w : World) (mb K S k : Nat) : Prop where
  o : w.heap[mb]? = some (.cells (cells K fun i => if i < k then rowM mb S i else .slice none 0 0) 51 (0, 0))
  r : ∀ i, i < k → w.heap[mb + 1 + i]? = some (.cells (cells S fun _ => .slice none 0 0) 23 (0, 0))
  s : w.heap.size = mb + 1 + k
  b : Below mb w0 w
theorem MovT.start (w : World) (K S : Nat) : MovT w (w.alloc (.cells (cells K fun _ => .slice none 0 0) 51)) w.heap.size K S 0 :=
  ⟨by rw [cells_congr (g := fun _ => .slice none 0 0) fun i hi => if_neg (by omega)]; exact World.alloc_heap_new w _, fun i hi => absurd hi (by omega), by simp, Cb.bal (Below.refl _ _) _⟩
theorem MovT.next {w0 w : World} {mb K S k : Nat} (h : MovT w0 w mb K S k) (hk : k < K) :
    MovT w0 ((w.alloc (.cells (cells S fun _ => .slice none 0 0) 23)).setCell ⟨mb, k, none⟩ (.slice (some ⟨w.heap.size, 0, none⟩) S S)) mb K S (k + 1) := by
  have hs := h.s
  have hne : ∀ i, (mb + 1 + i) ≠ mb := fun i => by omega
  have h1 := box_old (o' := .cells (cells S fun _ => .slice none 0 0) 23) h.o
  refine ⟨?_, fun i hi => ?_, ?_, ?_⟩
  · rw [heap_put h1, cells_set _ (by omega)]
    rw [show (cells K fun j => if j = k then Value.slice (some ⟨w.heap.size, 0, none⟩) S S else if j < k then rowM mb S j else .slice none 0 0) = cells K fun i => if i < k + 1 then rowM mb S i else .slice none 0 0 from cells_congr fun i hi => by
      by_cases e : i = k
      · subst e; rw [if_pos rfl, if_pos (by omega), hs]; rfl
      · rw [if_neg e]
        by_cases e2 : i < k
        · rw [if_pos e2, if_pos (by omega)]
        · rw [if_neg e2, if_neg (by omega)]]
  · rw [Below.heap_setCell _ _ _ _ (hne i)]
    by_cases e : i = k
    · subst e
      have := World.alloc_heap_new w (.cells (cells S fun _ => .slice none 0 0) 23)
      rwa [hs] at this
    · exact box_old (h.r i (by omega))
  · show (Array.modify _ _ _).size = _
    rw [Array.size_modify]
    simp [hs]; omega
  · exact (h.b.alloc (by omega) _).setCell (Nat.le_refl _) _
/-- The moves, in blocks of one's own. -/
structure MovO (w0 w : World) (mb K S : Nat) (v : Nat → Nat → Value) (f : Nat → Nat → List Int) : Prop where
  o : w.heap[mb]? = some (.cells (cells K (rowM mb S)) 51 (0, 0))
  r : ∀ x, x < K → w.heap[mb + 1 + x]? = some (.cells (cells S (v x)) 23 (0, 0))
  own : ∀ x, x < K → ∀ k, k < S → w.ownsRow (mb + 1 + K) 3 1 (v x k) (f x k).length (zvs (f x k))
  dis : ∀ x, x < K → ∀ k, k < S → ∀ x', x' < K → ∀ k', k' < S → ¬ (x = x' ∧ k = k') → (v x k).ownBlock = none ∨ (v x k).ownBlock ≠ (v x' k').ownBlock
  s : mb + 1 + K ≤ w.heap.size
  b : Below mb w0 w
theorem MovT.done {w0 w : World} {mb K S : Nat} (h : MovT w0 w mb K S K) : MovO w0 w mb K S (fun _ _ => .slice none 0 0) (fun _ _ => []) :=
  ⟨by rw [h.o, cells_congr fun i hi => if_pos hi], h.r, fun x _ k _ => ⟨rfl, .inl ⟨rfl, rfl⟩⟩, fun x _ k _ x' _ k' _ _ => .inl rfl, by rw [h.s]; omega, h.b⟩
theorem MovO.below {w0 w w' : World} {mb K S : Nat} {v : Nat → Nat → Value} {f : Nat → Nat → List Int} (h : MovO w0 w mb K S v f) (hb : Below w.heap.size w w') : MovO w0 w' mb K S v f :=
  ⟨(hb.block _ (blk_lt h.o)).trans h.o, fun x hx => (hb.block _ (blk_lt (h.r x hx))).trans (h.r x hx), fun x hx k hk => (h.own x hx k hk).below hb, h.dis, Nat.le_trans h.s hb.size, h.b.trans (hb.mono (by have := h.s; omega))⟩
theorem MovO.congr {w0 w : World} {mb K S : Nat} {v : Nat → Nat → Value} {f g : Nat → Nat → List Int} (h : MovO w0 w mb K S v f) (e : ∀ x, x < K → ∀ k, k < S → f x k = g x k) : MovO w0 w mb K S v g :=
  ⟨h.o, h.r, fun x hx k hk => by rw [← e x hx k hk]; exact h.own x hx k hk, h.dis, h.s, h.b⟩
theorem MovO.put {w0 Y Z : World} {mb K S : Nat} {v : Nat → Nat → Value} {f : Nat → Nat → List Int} (h : MovO w0 Y mb K S v f) {x0 k0 : Nat} (hx0 : x0 < K) (hk0 : k0 < S) {u : Value} {z : Int} (hg : Y.grownBy Z (v x0 k0).ownBlock)
    (ho : Z.ownsRow (mb + 1 + K) 3 1 u ((f x0 k0).length + 1) (zvs (f x0 k0) ++ [.int .i64 z])) (hob : u.ownBlock = (v x0 k0).ownBlock ∨ u.ownBlock = some Y.heap.size) :
    (∀ (b : Nat) (cs : Array Value) (t : TypeId) (fz : Nat × Nat), Y.heap[b]? = some (Obj.cells cs t fz) → 3 ≠ t → Z.heap[b]? = some (Obj.cells cs t fz)) ∧
    (∀ (b : Nat) (cs : Array Value) (t : TypeId) (fz : Nat × Nat), Y.heap[b]? = some (Obj.cells cs t fz) → 3 ≠ t → b ≠ mb + 1 + x0 → (Z.setCell ⟨mb + 1 + x0, k0, none⟩ u).heap[b]? = some (Obj.cells cs t fz)) ∧
    Z.heap[mb + 1 + x0]? = some (.cells (cells S (v x0)) 23 (0, 0)) ∧
    MovO w0 (Z.setCell ⟨mb + 1 + x0, k0, none⟩ u) mb K S (fun x k => if x = x0 ∧ k = k0 then u else v x k) (fun x k => if x = x0 ∧ (k : Int) = (k0 : Int) then f x k ++ [z] else f x k) := by
  have hv0 := h.own x0 hx0 k0 hk0
  have hkeep : ∀ (b : Nat) (cs : Array Value) (t : TypeId) (fz : Nat × Nat), Y.heap[b]? = some (Obj.cells cs t fz) → 3 ≠ t → Z.heap[b]? = some (Obj.cells cs t fz) := fun b cs t fz hb ht =>
    (hg.block b (blk_lt hb) (fun e => own_ne hb hv0 ht e.symm)).trans hb
  have hr0 := hkeep _ _ _ _ (h.r x0 hx0) (by decide)
  have hne : ∀ b, b ≠ mb + 1 + x0 → (Z.setCell ⟨mb + 1 + x0, k0, none⟩ u).heap[b]? = Z.heap[b]? := fun b hb => Below.heap_setCell _ _ _ b hb
  refine ⟨hkeep, fun b cs t fz hb ht hn => (hne b hn).trans (hkeep b cs t fz hb ht), hr0, ?_, ?_, ?_, ?_, ?_, ?_⟩
  · exact (hne _ (by omega)).trans (hkeep _ _ _ _ h.o (by decide))
  · intro x hx
    by_cases e : x = x0
    · subst e
      rw [heap_put hr0, cells_set _ hk0]
      congr 2
      exact cells_congr fun k hk => by
        by_cases e : k = k0
        · rw [if_pos e, if_pos ⟨rfl, e⟩]
        · rw [if_neg e, if_neg (fun h => e h.2)]
    · rw [hne _ (by omega), hkeep _ _ _ _ (h.r x hx) (by decide)]
      congr 2
      exact cells_congr fun k hk => by rw [if_neg (fun h => e h.1)]
  · intro x hx k hk
    by_cases e : x = x0 ∧ k = k0
    · obtain ⟨rfl, rfl⟩ := e
      rw [if_pos ⟨rfl, rfl⟩, if_pos ⟨rfl, rfl⟩, zvs_snoc, List.length_append]
      exact row_put ho (own_ne hr0 ho (by decide)) _ _
    · rw [if_neg e, if_neg (fun h => e ⟨h.1, by omega⟩)]
      have hk1 := (h.own x hx k hk).kept hg (h.dis x hx k hk x0 hx0 k0 hk0 e)
      exact row_put hk1 (own_ne hr0 hk1 (by decide)) _ _
  · intro x hx k hk x' hx' k' hk' hn
    have hfresh : ∀ x, x < K → ∀ k, k < S → (v x k).ownBlock ≠ some Y.heap.size := fun x hx k hk he => by
      have := own_lt (h.own x hx k hk) he
      omega
    show (if x = x0 ∧ k = k0 then u else v x k).ownBlock = none ∨ (if x = x0 ∧ k = k0 then u else v x k).ownBlock ≠ (if x' = x0 ∧ k' = k0 then u else v x' k').ownBlock
    by_cases e : x = x0 ∧ k = k0
    · have e' : ¬ (x' = x0 ∧ k' = k0) := fun h' => hn ⟨by omega, by omega⟩
      rw [if_pos e, if_neg e']
      obtain ⟨rfl, rfl⟩ := e
      rcases hob with ho1 | ho1
      · rw [ho1]; exact h.dis x hx k hk x' hx' k' hk' hn
      · rw [ho1]; exact .inr fun he => hfresh x' hx' k' hk' he.symm
    · rw [if_neg e]
      by_cases e' : x' = x0 ∧ k' = k0
      · rw [if_pos e']
        obtain ⟨rfl, rfl⟩ := e'
        rcases hob with ho1 | ho1
        · rw [ho1]; exact h.dis x hx k hk x' hx' k' hk' hn
        · rw [ho1]; exact .inr fun he => hfresh x hx k hk he
      · rw [if_neg e']; exact h.dis x hx k hk x' hx' k' hk' hn
  · show _ ≤ (Array.modify _ _ _).size
    rw [Array.size_modify]
    have := hg.size
    have := h.s
    omega
  · refine (h.b.grown hg (by have := h.s; omega) (fun q hq => ?_)).setCell (by show mb ≤ mb + 1 + x0; omega) _
    have := own_lt hv0 hq
    omega
end Go.Proofs.YteckkbjpeckjmaaDoor.Sb
