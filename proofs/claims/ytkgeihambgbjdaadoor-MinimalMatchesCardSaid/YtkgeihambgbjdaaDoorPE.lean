/- Blocks of cells that a call makes, and rows of one's own beside them. Plain lemmas over worlds and programs. -/
import Derived.Test.YtkgeihambgbjdaaDoorPB
import Derived.Laws.MakeOwn
import Derived.Maps.AppendAt
import Derived.Laws.OwnMore
import Derived.Test.YtkgeihambgbjdaaDoorPC
import Derived.Test.YtkgeihambgbjdaaDoorPD
import Derived.Deep.RegionHeld3
import Derived.Test.YtkgeihambgbjdaaDoorPA
import Derived.Deep.DeepCutAuto
import Derived.Test.YtkgeihambgbjdaaDoorBS
namespace Go.Proofs.YtkgeihambgbjdaaDoor.Sb
open Go Go.RowKit Go.Proofs.YtkgeihambgbjdaaDoor
set_option linter.unusedVariables false
set_option linter.unusedSimpArgs false
set_option maxRecDepth 100000
/-- n cells, number i being f i. -/
def cells (n : Nat) (f : Nat → Value) : Array Value := ((List.range n).map f).toArray
theorem cells_at {n : Nat} {f : Nat → Value} {i : Nat} (h : i < n) : (cells n f)[i]? = some (f i) := by simp [cells, h]
theorem cells_size (n : Nat) (f : Nat → Value) : (cells n f).size = n := by simp [cells]
theorem cells_congr {n : Nat} {f g : Nat → Value} (h : ∀ i, i < n → f i = g i) : cells n f = cells n g := by
  unfold cells
  congr 1
  exact List.map_congr_left fun i hi => h i (List.mem_range.1 hi)
theorem cells_set {n : Nat} {f : Nat → Value} {i : Nat} (v : Value) (h : i < n) : (cells n f).setIfInBounds i v = cells n fun j => if j = i then v else f j := by
  apply Array.ext
  · simp [cells]
  · intro j h1 h2
    have hj : j < n := by simpa [cells] using h2
    rw [Array.getElem_setIfInBounds]
    · by_cases e : i = j
      · subst e; simp [cells]
      · have e' : ¬ j = i := fun h => e h.symm
        simp [cells, e, e']
    · simpa [cells] using hj
theorem made_cells (z : Value) (n : Nat) : madeCells #[z] n = cells n fun _ => z := by
  apply Array.ext
  · simp [cells, madeCells]
  · intro j h1 h2
    simp [cells, madeCells, Nat.mod_one]
theorem heap_put {w : World} {b : Nat} {cs : Array Value} {t : TypeId} {f : Nat × Nat} (h : w.heap[b]? = some (.cells cs t f)) (o : Nat) (u : Value) : (w.setCell ⟨b, o, none⟩ u).heap[b]? = some (.cells (cs.setIfInBounds o u) t f) := by
  have hlt := lt_of_block h
  have h' : w.heap[b] = .cells cs t f := by simpa [Array.getElem?_eq_getElem hlt] using h
  show (w.heap.modify b _)[b]? = _
  rw [Array.getElem?_eq_getElem (by simpa using hlt), Array.getElem_modify_self, h']
  rfl
theorem cell_of {w : World} {b n : Nat} {f : Nat → Value} {t : TypeId} {fz : Nat × Nat} (h : w.heap[b]? = some (.cells (cells n f) t fz)) {i : Nat} (hi : i < n) : w.cell? ⟨b, i, none⟩ = some (f i) := by
  simp [World.cell?, h, cells_at hi]
theorem free_of {w : World} {b : Nat} {cs : Array Value} {t : TypeId} (h : w.heap[b]? = some (.cells cs t (0, 0))) (i : Nat) : w.frozen? ⟨b, i, none⟩ = false := by simp [World.frozen?, h]
theorem box_old {w : World} {b : Nat} {o o' : Obj} (h : w.heap[b]? = some o) : (w.alloc o').heap[b]? = some o := (Below.heap_alloc w o' b (Array.getElem?_eq_some_iff.1 h).1).trans h
theorem blk_lt {w : World} {b : Nat} {o : Obj} (h : w.heap[b]? = some o) : b < w.heap.size := (Array.getElem?_eq_some_iff.1 h).1
/-- A block of cells of another type is no row of one's own. -/
theorem own_ne {w : World} {b : Nat} {cs : Array Value} {t : TypeId} {fz : Nat × Nat} (h : w.heap[b]? = some (.cells cs t fz)) {B e size n : Nat} {v : Value} {xs : List Value} (ho : w.ownsRow B e size v n xs) (he : e ≠ t) : v.ownBlock ≠ some b := fun hv => by
  rcases ho.2 with ⟨rfl, _⟩ | ⟨g, cap, cur, rfl, _, hg, _⟩
  · simp [Value.ownBlock] at hv
  · obtain rfl : g = b := by simpa [Value.ownBlock] using hv
    rw [hg] at h
    cases h
    exact he rfl
theorem row_ne {w : World} {B B' e e' size size' n n' : Nat} {v v' : Value} {xs xs' : List Value} (h : w.ownsRow B e size v n xs) (h' : w.ownsRow B' e' size' v' n' xs') (he : e ≠ e') : v.ownBlock = none ∨ v.ownBlock ≠ v'.ownBlock := by
  rcases h.2 with ⟨rfl, _⟩ | ⟨g, cap, cur, rfl, _, hg, _⟩
  · exact .inl rfl
  · right
    intro hv
    rcases h'.2 with ⟨rfl, _⟩ | ⟨g', cap', cur', rfl, _, hg', _⟩
    · simp [Value.ownBlock] at hv
    · obtain rfl : g = g' := by simpa [Value.ownBlock] using hv
      rw [hg] at hg'
      cases hg'
      exact he rfl
theorem own_lt {w : World} {B e size n : Nat} {v : Value} {xs : List Value} (h : w.ownsRow B e size v n xs) {g : Nat} (hg : v.ownBlock = some g) : B ≤ g ∧ g < w.heap.size := by
  rcases h.2 with ⟨rfl, _⟩ | ⟨g', cap, cur, rfl, hb, hh, _⟩
  · simp [Value.ownBlock] at hg
  · obtain rfl : g' = g := by simpa [Value.ownBlock] using hg
    exact ⟨hb, lt_of_block hh⟩
theorem row_put {w : World} {B e size n : Nat} {v : Value} {xs : List Value} (ho : w.ownsRow B e size v n xs) {b : Nat} (h : v.ownBlock ≠ some b) (j : Nat) (u : Value) : (w.setCell ⟨b, j, none⟩ u).ownsRow B e size v n xs :=
  ho.kept (⟨rfl, rfl, rfl, by show _ ≤ (w.heap.modify _ _).size; rw [Array.size_modify]; exact Nat.le_refl _, fun k _ hk => Below.heap_setCell _ _ _ k (fun e => hk (by rw [e]))⟩) (.inr h)
/-- append to a row of one's own, as one step of a region that draws its order. -/
theorem step_append {P : Program} {ops : Array Oper} {o : Oper} {a : Act} {w : World} {K : Act → World → Prop} {Q : Exit → Act → World → Prop} {E : Prop}
    (hg : o.guard = none) (s x : Operand) (t : TypeId) (hop : o.op = Op.call { callee := Callee.builtin Builtin.append, args := #[s, x], argTypes := #[t, t] })
    (base : Nat) (e : TypeId) (i : TypeInfo) (z : Value) (size bytes : Nat) (ht : P.underlying t = some (.slice e)) (hi : P.info? e = some i) (hz : i.zero = some z)
    (hsize : i.size = size) (hby : i.bytes = bytes) (hzs : z.cells.size = size) (hsz : 0 < size)
    (v : Value) (n : Nat) (xs : List Value) (hs : a.eval s = v) (hown : w.ownsRow base e size v n xs)
    (ad : Addr) (m c : Nat) (news : List Value) (hx : a.eval x = .slice (some ad) m c) (hl : news.length = m * size) (hnews : ∀ j u, news[j]? = some u → w.cell? (ad.add j) = some u) (h1 : ∀ u ∈ news, u.oneCell' = true)
    (h63 : n + m ≤ maxLen) (hbytes : (n + m) * bytes ≤ 140737488355328) (hbase : base ≤ w.heap.size)
    (hK : ∀ A' c' w', w'.ownsRow base e size (.slice A' (n + m) c') (n + m) (xs ++ news) → w.grownBy w' v.ownBlock → ((Value.slice A' (n + m) c').ownBlock = v.ownBlock ∨ (Value.slice A' (n + m) c').ownBlock = some w.heap.size) → K (a.put o.dst (.slice A' (n + m) c')) w') :
    if Region.wanted o (yielded ops a.tmps) = true then Oper.wp P o a w K Q else E := by
  have hw : Region.wanted o (yielded ops a.tmps) = true := by simp [Region.wanted, hg]
  rw [if_pos hw]
  obtain ⟨v', w', hr, h2, h3, _, h4⟩ := run_append_own_at (P := P) w base t o.type e i z size bytes ht hi hz hsize hby hzs hsz v n xs hown ad m c news hl hnews h1 h63 hbytes hbase
  obtain ⟨A', c', rfl, hc⟩ := Ap.own_form h2
  unfold Oper.wp execOp
  simp only [hop, resolve, invoke, builtin, Sem.run_bind, Sem.run_pure, Result.andThen_ok, List.map_toArray, List.map_cons, List.map_nil, hs, hx, hr]
  exact hK A' c' w' h2 h3 h4
section
variable {P : Program}
theorem run_append_any (w : World) (base : Nat) (t ty e : TypeId) (i : TypeInfo) (z : Value) (size bytes : Nat) (ht : P.underlying t = some (.slice e)) (hi : P.info? e = some i) (hz : i.zero = some z)
    (hsize : i.size = size) (hby : i.bytes = bytes) (hzs : z.cells.size = size) (hsz : 0 < size) (v : Value) (n : Nat) (xs : List Value) (hown : w.ownsRow base e size v n xs)
    (A : Option Addr) (m c : Nat) (news : List Value) (hl : news.length = m * size) (hn : A = none → m = 0) (hnews : ∀ ad, A = some ad → ∀ j u, news[j]? = some u → w.cell? (ad.add j) = some u) (h1 : ∀ u ∈ news, u.oneCell' = true)
    (h63 : n + m ≤ maxLen) (hbytes : (n + m) * bytes ≤ 140737488355328) (hbase : base ≤ w.heap.size) :
    ∃ v' w', (Builtin.append_ #[t, t] ty #[v, .slice A m c]).run P w = .ok v' w' ∧ w'.ownsRow base e size v' (n + m) (xs ++ news) ∧ w.grownBy w' v.ownBlock := by
  rcases A with _ | ad
  · have hm := hn rfl
    subst hm
    have h0 : news = [] := List.eq_nil_of_length_eq_zero (by rw [hl]; omega)
    subst h0
    refine ⟨v, w, ?_, by simpa using hown, World.grownBy.refl w _⟩
    rcases hown.2 with ⟨rfl, rfl⟩ | ⟨g, cap, cur, rfl, _, _, hc, _⟩
    · simp [Builtin.append_, run_underlying ht, sizeOf, typeInfo, hi, Builtin.lenOf, Builtin.firstCells]
    · simp [Builtin.append_, run_underlying ht, sizeOf, typeInfo, hi, Builtin.lenOf, Builtin.firstCells, hc, storeCells]
  · obtain ⟨v', w', hr, h2, h3, _⟩ := run_append_own (P := P) w base t ty e i z size bytes ht hi hz hsize hby hzs hsz v n xs hown ad m c news hl (hnews ad rfl) h1 h63 hbytes hbase
    exact ⟨v', w', hr, h2, h3⟩
theorem wpList_append_any {w : World} {ops : Array Oper} {rest : List Oper} {o : Oper} {a : Act} {Q : Exit → Act → World → Prop} (hgd : o.guard = none) (s x : Operand) (t : TypeId)
    (ho : o.op = .call { callee := .builtin .append, args := #[s, x], argTypes := #[t, t] }) (base : Nat)
    (e : TypeId) (i : TypeInfo) (z : Value) (size bytes : Nat) (ht : P.underlying t = some (.slice e)) (hi : P.info? e = some i) (hz : i.zero = some z)
    (hsize : i.size = size) (hby : i.bytes = bytes) (hzs : z.cells.size = size) (hsz : 0 < size) (v : Value) (n : Nat) (xs : List Value) (hs : a.eval s = v) (hown : w.ownsRow base e size v n xs)
    (A : Option Addr) (m c : Nat) (news : List Value) (hx : a.eval x = .slice A m c) (hl : news.length = m * size) (hn : A = none → m = 0) (hnews : ∀ ad, A = some ad → ∀ j u, news[j]? = some u → w.cell? (ad.add j) = some u) (h1 : ∀ u ∈ news, u.oneCell' = true)
    (h63 : n + m ≤ maxLen) (hbytes : (n + m) * bytes ≤ 140737488355328) (hbase : base ≤ w.heap.size)
    (h : ∀ v' w', w'.ownsRow base e size v' (n + m) (xs ++ news) → Below base w w' → wpList P ops Q rest (a.put o.dst v') w') : wpList P ops Q (o :: rest) a w := by
  refine wpList_plain hgd fun K hK => ?_
  obtain ⟨v', w', hr, h2, h3⟩ := run_append_any (P := P) w base t o.type e i z size bytes ht hi hz hsize hby hzs hsz v n xs hown A m c news hl hn hnews h1 h63 hbytes hbase
  unfold Oper.wp execOp
  simp only [ho, resolve, invoke, builtin, Sem.run_bind, Sem.run_pure, Result.andThen_ok, List.map_toArray, List.map_cons, List.map_nil, hs, hx, hr]
  exact hK _ _ (h v' w' h2 ((Below.refl _ _).grown h3 hbase (fun q hq => (hown.lt q hq).1)))
end
end Go.Proofs.YtkgeihambgbjdaaDoor.Sb
/- Deterministic automata in memory; the small functions of package subset; Check. -/
namespace Go.Proofs.YtkgeihambgbjdaaDoor.Sb
open Go Go.RowKit Go.Proofs.YtkgeihambgbjdaaDoor Go.Proofs.YtkgeihambgbjdaaDoor.Cb
open Go.Proofs.YtkgeihambgbjdaaDoor.Nf (ret_int ret_b inS Boxed4 Boxed4.new Boxed4.below Boxed4.cells Boxed5 bys_new)
open Go.Proofs.YtkgeihambgbjdaaDoor.Dg (Tabs tb tb_mem mem_tb)
set_option linter.unusedVariables false
set_option linter.unusedSimpArgs false
set_option maxRecDepth 100000
structure Da where
  V : Int
  q0 : Int
  nx : List (List Int)
  fi : List Bool
def rowE (V S : Int) (row : List Int) : Int := if (row.length : Int) = ((2 ^ V.toNat : Nat) : Int) then (if allB (fun i => inS S (nd row i)) row.length then 0 else 8) else 2
def rowsE (V S : Int) (L : List (List Int)) : Nat → Int
  | 0 => 0
  | k + 1 => if rowsE V S L k ≠ 0 then rowsE V S L k else rowE V S (tb L k)
def shpE (V q0 : Int) (n m : Nat) : Int := if 0 ≤ V ∧ V ≤ 6 then (if n = 0 then 3 else if 4096 < n then 4 else if m ≠ n then 2 else if inS n q0 then 0 else 8) else 7
def chkD (d : Da) : Int := if shpE d.V d.q0 d.nx.length d.fi.length ≠ 0 then shpE d.V d.q0 d.nx.length d.fi.length else rowsE d.V d.nx.length d.nx d.nx.length
theorem rowsE_stop {V S : Int} {L : List (List Int)} {k : Nat} (h : rowsE V S L k ≠ 0) : ∀ d, rowsE V S L (k + d) = rowsE V S L k
  | 0 => rfl
  | d + 1 => by
    have := rowsE_stop h d
    show (if rowsE V S L (k + d) ≠ 0 then rowsE V S L (k + d) else _) = _
    rw [this, if_pos h]
theorem rowsE_err {V S : Int} {L : List (List Int)} {k : Nat} (h : rowsE V S L k = 0) (hk : k < L.length) (he : rowE V S (tb L k) ≠ 0) : rowsE V S L L.length = rowE V S (tb L k) := by
  have h1 : rowsE V S L (k + 1) = rowE V S (tb L k) := by
    show (if rowsE V S L k ≠ 0 then rowsE V S L k else _) = _
    rw [if_neg (by omega)]
  have := rowsE_stop (k := k + 1) (by rw [h1]; exact he) (L.length - (k + 1))
  rw [show k + 1 + (L.length - (k + 1)) = L.length by omega] at this
  rw [this, h1]
theorem rowsE_next {V S : Int} {L : List (List Int)} {k : Nat} (h : rowsE V S L k = 0) (he : rowE V S (tb L k) = 0) : rowsE V S L (k + 1) = 0 := by
  show (if rowsE V S L k ≠ 0 then rowsE V S L k else _) = _
  rw [if_neg (by omega), he]
theorem rowsE_all {V S : Int} {L : List (List Int)} : ∀ {k : Nat}, rowsE V S L k = 0 → ∀ j, j < k → rowE V S (tb L j) = 0
  | 0, _, j, hj => absurd hj (by omega)
  | k + 1, h, j, hj => by
    have h0 : rowsE V S L k = 0 := by
      apply Decidable.byContradiction
      intro hn
      have : (if rowsE V S L k ≠ 0 then rowsE V S L k else rowE V S (tb L k)) = 0 := h
      rw [if_pos hn] at this
      exact hn this
    rcases Nat.lt_or_eq_of_le (Nat.le_of_lt_succ hj) with h1 | rfl
    · exact rowsE_all h0 j h1
    · have : (if rowsE V S L j ≠ 0 then rowsE V S L j else rowE V S (tb L j)) = 0 := h
      rwa [if_neg (by omega)] at this
theorem rowsE_none {V S : Int} {L : List (List Int)} : ∀ {k : Nat}, (∀ j, j < k → rowE V S (tb L j) = 0) → rowsE V S L k = 0
  | 0, _ => rfl
  | k + 1, h => rowsE_next (rowsE_none fun j hj => h j (by omega)) (h k (by omega))
theorem rowE_ok {V S : Int} {row : List Int} (h : rowE V S row = 0) : row.length = 2 ^ V.toNat ∧ ∀ z ∈ row, 0 ≤ z ∧ z < S := by
  unfold rowE at h
  split at h
  · rename_i h1
    split at h
    · rename_i h2
      refine ⟨by omega, fun z hz => ?_⟩
      obtain ⟨j, hj, rfl⟩ := List.mem_iff_getElem.1 hz
      have := (allB_iff _ _).1 h2 j hj
      rw [Nf.inS_iff] at this
      unfold nd at this
      rwa [List.getD_eq_getElem?_getD, List.getElem?_eq_getElem hj] at this
    · cases h
  · cases h
theorem ok_rowE {V S : Int} {row : List Int} (h1 : row.length = 2 ^ V.toNat) (h2 : ∀ z ∈ row, 0 ≤ z ∧ z < S) : rowE V S row = 0 := by
  unfold rowE
  rw [if_pos (by omega), if_pos]
  refine (allB_iff _ _).2 fun j hj => ?_
  rw [Nf.inS_iff]
  unfold nd
  rw [List.getD_eq_getElem?_getD, List.getElem?_eq_getElem hj]
  exact h2 _ (List.getElem_mem hj)
/-- A valid automaton. -/
structure OkD (d : Da) : Prop where
  v0 : 0 ≤ d.V
  v6 : d.V ≤ 6
  n0 : 0 < d.nx.length
  n4 : d.nx.length ≤ 4096
  fi : d.fi.length = d.nx.length
  q0 : 0 ≤ d.q0 ∧ d.q0 < d.nx.length
  row : ∀ r ∈ d.nx, r.length = 2 ^ d.V.toNat ∧ ∀ z ∈ r, 0 ≤ z ∧ z < d.nx.length
theorem shp_ok {V q0 : Int} {n m : Nat} (h : shpE V q0 n m = 0) : 0 ≤ V ∧ V ≤ 6 ∧ 0 < n ∧ n ≤ 4096 ∧ m = n ∧ 0 ≤ q0 ∧ q0 < n := by
  unfold shpE at h
  split at h
  · split at h
    · cases h
    · split at h
      · cases h
      · split at h
        · cases h
        · split at h
          · rename_i h1 h2 h3 h4 h5
            rw [Nf.inS_iff] at h5
            omega
          · cases h
  · cases h
theorem ok_shp {V q0 : Int} {n m : Nat} (h : 0 ≤ V ∧ V ≤ 6 ∧ 0 < n ∧ n ≤ 4096 ∧ m = n ∧ 0 ≤ q0 ∧ q0 < n) : shpE V q0 n m = 0 := by
  unfold shpE
  rw [if_pos (by omega), if_neg (by omega), if_neg (by omega), if_neg (by omega), if_pos (by rw [Nf.inS_iff]; omega)]
theorem okD_of {d : Da} (h : chkD d = 0) : OkD d := by
  unfold chkD at h
  split at h
  · rename_i h1; exact absurd h h1
  · rename_i h1
    obtain ⟨a1, a2, a3, a4, a5, a6, a7⟩ := shp_ok (Decidable.not_not.1 h1)
    refine ⟨a1, a2, a3, a4, a5, ⟨a6, a7⟩, fun r hr => ?_⟩
    obtain ⟨j, hj, rfl⟩ := mem_tb hr
    exact rowE_ok (rowsE_all h j hj)
theorem okD_chk {d : Da} (h : OkD d) : chkD d = 0 := by
  unfold chkD
  rw [if_neg (fun hn => hn (ok_shp ⟨h.v0, h.v6, h.n0, h.n4, h.fi, h.q0.1, h.q0.2⟩))]
  exact rowsE_none fun j hj => ok_rowE (h.row _ (tb_mem hj)).1 (h.row _ (tb_mem hj)).2
/-- The slice at B holds the truth values l. -/
def Bools (w : World) (B : Option Addr) (l : List Bool) : Prop := Vals w B l.length fun j => .bool (l.getD j false)
theorem Bools.below {w w' : World} {B : Option Addr} {l : List Bool} (h : Bools w B l) (hb : Below w.heap.size w w') : Bools w' B l := Vals.below h hb
structure DaAt (w : World) (d : Da) (A B : Option Addr) : Prop where
  nx : Tabs w A d.nx
  fi : Bools w B d.fi
theorem DaAt.below {w w' : World} {d : Da} {A B : Option Addr} (h : DaAt w d A B) (hb : Below w.heap.size w w') : DaAt w' d A B := ⟨h.nx.below hb, h.fi.below hb⟩
structure DaLen (d : Da) : Prop where
  nx : d.nx.length ≤ 1000000
  fi : d.fi.length ≤ 1000000
  row : ∀ r ∈ d.nx, r.length ≤ 1000000
theorem OkD.len {d : Da} (h : OkD d) : DaLen d := ⟨by have := h.n4; omega, by have := h.n4; have := h.fi; omega, fun r hr => by
  have h1 := (h.row r hr).1
  have h2 : 2 ^ d.V.toNat ≤ 2 ^ 6 := Nat.pow_le_pow_right (by decide) (by have := h.v6; omega)
  omega⟩
theorem lettersOver_any (v : Nat) (w : World) (hv : v ≤ 6) :
    Calls Tryd.prog 69 #[.int .i64 v] w fun e w' => e = .returned (.int .i64 ((2 ^ v : Nat) : Int)) ∧ w = w' := by
  go_enter Tryd.func69, Tryd.ntmps69
  go_wp2
  go_ret
  exact ⟨ret_int (shl64 hv), rfl⟩
theorem isStateD_any (V q0 z : Int) (A : Option Addr) (n a : Nat) (s3 : Value) (w : World) :
    Calls Tryd.prog 68 #[.agg #[.int .i64 V, .int .i64 q0, .slice A n a, s3], .int .i64 z] w fun r w' => r = .returned (.bool (inS n z)) ∧ Below w.heap.size w w' := by
  by_cases h1 : 0 ≤ z
  · by_cases h2 : z < n
    · go_enter Tryd.func68, Tryd.ntmps68
      go_wp2
      go_ret
      exact ⟨ret_b (by simp [inS, h1, h2]), bal (Below.refl _ _) _⟩
    · go_enter Tryd.func68, Tryd.ntmps68
      go_wp2
      go_ret
      exact ⟨ret_b (by simp [inS, h2]), bal (Below.refl _ _) _⟩
  · go_enter Tryd.func68, Tryd.ntmps68
    go_wp2
    go_ret
    exact ⟨ret_b (by simp [inS]; omega), bal (Below.refl _ _) _⟩
theorem isStateD_is {b : Bool} {V q0 z : Int} {A : Option Addr} {n a : Nat} {s3 : Value} (h : inS n z = b) (w : World) :
    Calls Tryd.prog 68 #[.agg #[.int .i64 V, .int .i64 q0, .slice A n a, s3], .int .i64 z] w fun r w' => r = .returned (.bool b) ∧ Below w.heap.size w w' := by
  subst h; exact isStateD_any V q0 z A n a s3 w
set_option maxHeartbeats 2000000 in
theorem checkShape_any (V q0 : Int) (A B : Option Addr) (n m a b : Nat) (w : World) (hn : n ≤ maxLen) (hm : m ≤ maxLen) :
    Calls Tryd.prog 51 #[.agg #[.int .i64 V, .int .i64 q0, .slice A n a, .slice B m b]] w fun r w' => r = .returned (.int .i64 (shpE V q0 n m)) ∧ Below w.heap.size w w' := by
  unfold maxLen at hn hm
  have hb0 := bal (Below.refl w.heap.size w) (.cells #[.int .i64 V, .int .i64 q0, .slice A n a, .slice B m b] 25)
  by_cases h1 : V < 0
  · have HE : Hid (shpE V q0 n m = 7) := by show _ = _; unfold shpE; rw [if_neg (by omega)]
    go_enter Tryd.func51, Tryd.ntmps51
    go_wp2
    go_ret
    exact ⟨ret_int HE.out.symm, hb0⟩
  by_cases h2 : 6 < V
  · have HE : Hid (shpE V q0 n m = 7) := by show _ = _; unfold shpE; rw [if_neg (by omega)]
    have d1 : decide (V < 0) = false := decide_eq_false h1
    go_enter Tryd.func51, Tryd.ntmps51
    go_wp2
    go_ret
    exact ⟨ret_int HE.out.symm, hb0⟩
  have d1 : decide (V < 0) = false := decide_eq_false h1
  have d2 : decide (6 < V) = false := decide_eq_false h2
  have HE : Hid (shpE V q0 n m = if n = 0 then 3 else if 4096 < n then 4 else if m ≠ n then 2 else if inS n q0 then 0 else 8) := by show _ = _; unfold shpE; rw [if_pos (by omega)]
  clear h1 h2
  by_cases h3 : n = 0
  · replace HE : Hid (shpE V q0 n m = 3) := by show _ = _; rw [HE.out, if_pos h3]
    have d3 : ((n : Int) == 0) = true := by rw [beq_iff_eq]; omega
    clear h3
    go_enter Tryd.func51, Tryd.ntmps51
    go_wp2
    go_ret
    exact ⟨ret_int HE.out.symm, hb0⟩
  have d3 : ((n : Int) == 0) = false := by rw [beq_eq_false_iff_ne]; omega
  replace HE : Hid (shpE V q0 n m = if 4096 < n then 4 else if m ≠ n then 2 else if inS n q0 then 0 else 8) := by show _ = _; rw [HE.out, if_neg h3]
  clear h3
  by_cases h4 : 4096 < n
  · replace HE : Hid (shpE V q0 n m = 4) := by show _ = _; rw [HE.out, if_pos h4]
    have d4 : decide ((4096 : Int) < (n : Int)) = true := decide_eq_true (by omega)
    go_enter Tryd.func51, Tryd.ntmps51
    go_wp2
    go_ret
    exact ⟨ret_int HE.out.symm, hb0⟩
  have d4 : decide ((4096 : Int) < (n : Int)) = false := decide_eq_false (by omega)
  replace HE : Hid (shpE V q0 n m = if m ≠ n then 2 else if inS n q0 then 0 else 8) := by show _ = _; rw [HE.out, if_neg h4]
  clear h4
  by_cases h5 : m ≠ n
  · replace HE : Hid (shpE V q0 n m = 2) := by show _ = _; rw [HE.out, if_pos h5]
    have d5 : ((m : Int) != (n : Int)) = true := by rw [bne_iff_ne]; omega
    clear h5
    go_enter Tryd.func51, Tryd.ntmps51
    go_wp2
    go_ret
    exact ⟨ret_int HE.out.symm, hb0⟩
  have d5 : ((m : Int) != (n : Int)) = false := by rw [bne_eq_false_iff_eq]; omega
  replace HE : Hid (shpE V q0 n m = if inS n q0 then 0 else 8) := by show _ = _; rw [HE.out, if_neg h5]
  clear h5
  cases h6 : inS n q0 with
  | true =>
    replace HE : Hid (shpE V q0 n m = 0) := by show _ = _; rw [HE.out, if_pos h6]
    have L1 := Lib.hid fun X => isStateD_is (V := V) (q0 := q0) (A := A) (a := a) (s3 := .slice B m b) h6 X
    clear h6
    go_enter Tryd.func51, Tryd.ntmps51
    go_wp2_with (go_at_call 68; ((with_reducible refine (L1.out _).mono ?_); rintro e w2 ⟨rfl, hb2⟩))
    go_ret
    exact ⟨ret_int HE.out.symm, stepB hb0 hb2⟩
  | false =>
    replace HE : Hid (shpE V q0 n m = 8) := by show _ = _; rw [HE.out, if_neg (by rw [h6]; simp)]
    have L1 := Lib.hid fun X => isStateD_is (V := V) (q0 := q0) (A := A) (a := a) (s3 := .slice B m b) h6 X
    clear h6
    go_enter Tryd.func51, Tryd.ntmps51
    go_wp2_with (go_at_call 68; ((with_reducible refine (L1.out _).mono ?_); rintro e w2 ⟨rfl, hb2⟩))
    go_ret
    exact ⟨ret_int HE.out.symm, stepB hb0 hb2⟩
set_option maxHeartbeats 2000000 in
theorem checkRow_any (v : Nat) (hv : v ≤ 6) (q0 : Int) (A : Option Addr) (n a : Nat) (s3 : Value) (C : Option Addr) (row : List Int) (c : Nat) (w : World) (hx : Ints w C row) (hl : row.length ≤ 1000000) (hn : n ≤ 1000000) :
    Calls Tryd.prog 52 #[.agg #[.int .i64 v, .int .i64 q0, .slice A n a, s3], .slice C row.length c] w fun r w' => r = .returned (.int .i64 (rowE v n row)) ∧ Below w.heap.size w w' := by
  have hb0 := bal (Below.refl w.heap.size w) (.cells #[.int .i64 v, .int .i64 q0, .slice A n a, s3] 25)
  have hB0 := Boxed4.new w 25 (.int .i64 v) (.int .i64 q0) (.slice A n a) s3
  have HL := Lib.hid fun X => lettersOver_any v X hv
  by_cases h0 : row.length = 2 ^ v
  · have HE : Hid (rowE v n row = if allB (fun i => inS n (nd row i)) row.length then 0 else 8) := by
      show _ = _
      unfold rowE
      rw [Int.toNat_natCast, if_pos (by omega)]
    have d0 : ((row.length : Int) != ((2 ^ v : Nat) : Int)) = false := by rw [bne_eq_false_iff_eq]; omega
    clear h0
    generalize 2 ^ v = K at *
    obtain ⟨z0, z1, z2, z3⟩ := hB0.cells
    go_enter Tryd.func52, Tryd.ntmps52
    go_wp2_with (go_at_call 69; ((with_reducible refine (HL.out _).mono ?_); rintro e w2 ⟨rfl, rfl⟩))
    clear z0 z1 z2 z3
    go_loopw [15] (fun i wr => ∃ k : Nat, k ≤ row.length ∧ i = .int .i64 k ∧ Hid (∀ i, i < k → inS n (nd row i) = true) ∧ Boxed4 wr w.heap.size (.int .i64 v) (.int .i64 q0) (.slice A n a) s3 ∧ Below w.heap.size w wr) (fun i _ => row.length - (intOf i).toNat)
    case atStart => exact ⟨0, by omega, rfl, fun i hi => absurd hi (by omega), hB0, hb0⟩
    case round =>
      clear hB0 hb0
      obtain ⟨k, hk, rfl, H, hB, hb⟩ := hrel
      obtain ⟨b0, b1, b2, b3⟩ := hB.cells
      by_cases hlt : k < row.length
      · obtain ⟨ad, rfl, hcell⟩ := (hx.below hb).at_ hlt
        cases hS : inS n (nd row k) with
        | true =>
          have L1 := Lib.hid fun X => isStateD_is (V := v) (q0 := q0) (A := A) (a := a) (s3 := s3) hS X
          have H' : Hid (∀ i, i < k + 1 → inS n (nd row i) = true) := fun i hi => by
            rcases Nat.lt_or_eq_of_le (Nat.le_of_lt_succ hi) with h1 | rfl
            · exact H.out i h1
            · exact hS
          clear hS H
          generalize nd row k = x at *
          go_wp2_with (go_at_call 68; ((with_reducible refine (L1.out _).mono ?_); rintro e w2 ⟨rfl, hb2⟩))
          go_roundw
          case rel => exact ⟨k + 1, by omega, by go_num, H', hB.below hb2, stepB hb hb2⟩
          case measure => simp [intOf]; omega
        | false =>
          have L1 := Lib.hid fun X => isStateD_is (V := v) (q0 := q0) (A := A) (a := a) (s3 := s3) hS X
          replace HE : Hid (rowE v n row = 8) := by
            show _ = _
            rw [HE.out, allB_false hlt hS]
            rfl
          clear hS H
          generalize nd row k = x at *
          go_wp2_with (go_at_call 68; ((with_reducible refine (L1.out _).mono ?_); rintro e w2 ⟨rfl, hb2⟩))
          go_ret
          exact ⟨ret_int HE.out.symm, stepB hb hb2⟩
      · replace HE : Hid (rowE v n row = 0) := by
          show _ = _
          rw [HE.out, (allB_iff _ _).2 fun i hi => H.out i (by omega)]
          rfl
        clear H
        go_wp2
        go_ret
        exact ⟨ret_int HE.out.symm, hb⟩
  · have HE : Hid (rowE v n row = 2) := by
      show _ = _
      unfold rowE
      rw [Int.toNat_natCast, if_neg (by omega)]
    have d0 : ((row.length : Int) != ((2 ^ v : Nat) : Int)) = true := by rw [bne_iff_ne]; omega
    clear h0 hx
    generalize 2 ^ v = K at *
    obtain ⟨z0, z1, z2, z3⟩ := hB0.cells
    go_enter Tryd.func52, Tryd.ntmps52
    go_wp2_with (go_at_call 69; ((with_reducible refine (HL.out _).mono ?_); rintro e w2 ⟨rfl, rfl⟩))
    go_ret
    exact ⟨ret_int HE.out.symm, hb0⟩
set_option maxHeartbeats 2000000 in
theorem CheckD_any (d : Da) (A B : Option Addr) (a b : Nat) (w : World) (hx : DaAt w d A B) (hl : DaLen d) :
    Calls Tryd.prog 31 #[.agg #[.int .i64 d.V, .int .i64 d.q0, .slice A d.nx.length a, .slice B d.fi.length b]] w fun r w' => r = .returned (.int .i64 (chkD d)) ∧ Below w.heap.size w w' := by
  have hb0 := bal (Below.refl w.heap.size w) (.cells #[.int .i64 d.V, .int .i64 d.q0, .slice A d.nx.length a, .slice B d.fi.length b] 25)
  have hB0 := Boxed4.new w 25 (.int .i64 d.V) (.int .i64 d.q0) (.slice A d.nx.length a) (.slice B d.fi.length b)
  have HS := Lib.hid fun X => checkShape_any d.V d.q0 A B d.nx.length d.fi.length a b X (by have := hl.nx; unfold maxLen; omega) (by have := hl.fi; unfold maxLen; omega)
  by_cases h0 : shpE d.V d.q0 d.nx.length d.fi.length = 0
  · have v0 := (shp_ok h0).1
    have v6 := (shp_ok h0).2.1
    have HE : Hid (chkD d = rowsE d.V d.nx.length d.nx d.nx.length) := by
      show _ = _
      unfold chkD
      rw [if_neg (by rw [h0]; simp)]
    rw [h0] at HS
    have hnx := hx.nx
    have hle := hl.nx
    have hrl := Lib.hid fun j (hj : j < d.nx.length) => hl.row _ (tb_mem hj)
    clear hx hl h0
    obtain ⟨v, hv⟩ : ∃ v : Nat, d.V = v := ⟨d.V.toNat, by omega⟩
    rw [hv] at v6 HE HS hb0 hB0 ⊢
    have HR := Lib.hid fun (k : Nat) (hk : k < d.nx.length) X p c (h : Ints X p (tb d.nx k)) => checkRow_any v (by omega) d.q0 A d.nx.length a (.slice B d.fi.length b) p (tb d.nx k) c X h (hrl.out k hk) hle
    clear hv v0 v6
    generalize d.q0 = q0 at *
    generalize d.fi.length = m at *
    generalize chkD d = E0 at *
    generalize d.nx = L at *
    obtain ⟨z0, z1, z2, z3⟩ := hB0.cells
    go_enter Tryd.func31, Tryd.ntmps31
    go_wp2_with (go_at_call 51; ((with_reducible refine (HS.out _).mono ?_); rintro e w2 ⟨rfl, hb2⟩); clear z0 z1 z2 z3; replace hB0 := hB0.below hb2; replace hb0 := stepB hb0 hb2; obtain ⟨z0, z1, z2, z3⟩ := hB0.cells)
    clear z0 z1 z2 z3
    go_loopw [15] (fun i wr => ∃ k : Nat, k ≤ L.length ∧ i = .int .i64 k ∧ Hid (rowsE v L.length L k = 0) ∧ Boxed4 wr w.heap.size (.int .i64 v) (.int .i64 q0) (.slice A L.length a) (.slice B m b) ∧ Below w.heap.size w wr) (fun i _ => L.length - (intOf i).toNat)
    case atStart => exact ⟨0, by omega, rfl, rfl, hB0, hb0⟩
    case round =>
      clear hB0 hb0
      obtain ⟨k, hk, rfl, H, hB, hb⟩ := hrel
      obtain ⟨b0, b1, b2, b3⟩ := hB.cells
      by_cases hlt : k < L.length
      · obtain ⟨ad, p, c, rfl, hbk, hcell, hi⟩ := (hnx.below hb) k hlt
        have HRk := Lib.hid (HR.out k hlt wr p c hi)
        by_cases h : rowE v L.length (tb L k) = 0
        · have H' : Hid (rowsE v L.length L (k + 1) = 0) := rowsE_next H.out h
          rw [h] at HRk
          clear h H
          go_wp2_with (go_at_call 52; ((with_reducible refine HRk.out.mono ?_); rintro e w2 ⟨rfl, hb2⟩))
          go_roundw
          case rel => exact ⟨k + 1, by omega, by go_num, H', hB.below hb2, stepB hb hb2⟩
          case measure => simp [intOf]; omega
        · replace HE : Hid (E0 = rowE v L.length (tb L k)) := HE.out.trans (rowsE_err H.out hlt h)
          have hne : (rowE v L.length (tb L k) != 0) = true := by rw [bne_iff_ne]; exact h
          clear h H
          generalize rowE v L.length (tb L k) = e0 at *
          go_wp2_with (go_at_call 52; ((with_reducible refine HRk.out.mono ?_); rintro e w2 ⟨rfl, hb2⟩))
          go_ret
          exact ⟨ret_int HE.out.symm, stepB hb hb2⟩
      · obtain rfl : k = L.length := by omega
        replace HE : Hid (E0 = 0) := HE.out.trans H.out
        clear H
        go_wp2
        go_ret
        exact ⟨ret_int HE.out.symm, hb⟩
  · have HE : Hid (chkD d = shpE d.V d.q0 d.nx.length d.fi.length) := by
      show _ = _
      unfold chkD
      rw [if_pos h0]
    have hne : (shpE d.V d.q0 d.nx.length d.fi.length != 0) = true := by rw [bne_iff_ne]; exact h0
    clear h0 hx hl
    generalize shpE d.V d.q0 d.nx.length d.fi.length = e0 at *
    obtain ⟨z0, z1, z2, z3⟩ := hB0.cells
    go_enter Tryd.func31, Tryd.ntmps31
    go_wp2_with (go_at_call 51; ((with_reducible refine (HS.out _).mono ?_); rintro e w2 ⟨rfl, hb2⟩); clear z0 z1 z2 z3)
    go_ret
    exact ⟨ret_int HE.out.symm, stepB hb0 hb2⟩
end Go.Proofs.YtkgeihambgbjdaaDoor.Sb
/- Words through a deterministic automaton: step, follow, end, checkWord, Run, Accepts (package subset). -/
namespace Go.Proofs.YtkgeihambgbjdaaDoor.Sb
open Go Go.RowKit Go.Proofs.YtkgeihambgbjdaaDoor Go.Proofs.YtkgeihambgbjdaaDoor.Cb
open Go.Proofs.YtkgeihambgbjdaaDoor.Nf (ret_int ret_b inS Boxed4 Boxed4.new Boxed4.below Boxed4.cells Boxed5 bys_new Bys Bys.below wordE)
open Go.Proofs.YtkgeihambgbjdaaDoor.Dg (Tabs tb tb_mem mem_tb)
set_option linter.unusedVariables false
set_option linter.unusedSimpArgs false
set_option maxRecDepth 100000
/-- Every entry is a row number, every row has L entries. -/
structure Sq (T : List (List Int)) (L : Nat) : Prop where
  row : ∀ r ∈ T, r.length = L ∧ ∀ z ∈ r, 0 ≤ z ∧ z < (T.length : Int)
theorem OkD.sq {d : Da} (h : OkD d) : Sq d.nx (2 ^ d.V.toNat) := ⟨fun r hr => h.row r hr⟩
theorem Sq.at_ {T : List (List Int)} {L : Nat} (h : Sq T L) {q x : Nat} (hq : q < T.length) (hx : x < L) : 0 ≤ nd (tb T q) x ∧ nd (tb T q) x < (T.length : Int) := by
  obtain ⟨h1, h2⟩ := h.row _ (tb_mem hq)
  refine h2 _ ?_
  unfold nd
  rw [List.getD_eq_getElem?_getD, List.getElem?_eq_getElem (by omega)]
  exact List.getElem_mem _
theorem stepT_nat (T : List (List Int)) (q x : Nat) : stepT T (q : Int) x = nd (tb T q) x := by
  unfold stepT
  rw [Int.toNat_natCast]
  rfl
theorem Sq.step {T : List (List Int)} {L : Nat} (h : Sq T L) {q : Int} {x : Nat} (hq : 0 ≤ q ∧ q < (T.length : Int)) (hx : x < L) : 0 ≤ stepT T q x ∧ stepT T q x < (T.length : Int) := by
  obtain ⟨k, rfl⟩ : ∃ k : Nat, q = k := ⟨q.toNat, by omega⟩
  rw [stepT_nat]
  exact h.at_ (by omega) hx
theorem Sq.run {T : List (List Int)} {L : Nat} (h : Sq T L) : ∀ {w : List Nat} {q : Int}, (0 ≤ q ∧ q < (T.length : Int)) → (∀ x ∈ w, x < L) → 0 ≤ runT T q w ∧ runT T q w < (T.length : Int)
  | [], _, hq, _ => hq
  | x :: w, q, hq, hx => h.run (w := w) (h.step hq (hx x (by simp))) fun y hy => hx y (by simp [hy])
theorem runT_snoc (T : List (List Int)) (q : Int) {l : List Nat} {k : Nat} (h : k < l.length) : runT T q (l.take (k + 1)) = stepT T (runT T q (l.take k)) (wd l k) := by
  unfold runT
  rw [List.take_add_one, List.getElem?_eq_getElem h, List.foldl_append]
  unfold wd
  rw [List.getD_eq_getElem?_getD, List.getElem?_eq_getElem h]
  rfl
theorem stepD_any (A : Option Addr) (T : List (List Int)) (a q x : Nat) (w : World) (hx : Tabs w A T) (hq : q < T.length) (hxl : x < (tb T q).length) :
    Calls Tryd.prog 71 #[.slice A T.length a, .int .i64 q, .int .u8 x] w fun e w' => e = .returned (.int .i64 (stepT T q x)) ∧ w = w' := by
  rw [stepT_nat]
  obtain ⟨ad, p, c, rfl, hbk, hcell, hi⟩ := hx q hq
  obtain ⟨ad2, rfl, hc2⟩ := hi.at_ hxl
  have h1 : (q : Int) < (T.length : Int) := by omega
  have h2 : (x : Int) < ((tb T q).length : Int) := by omega
  clear hi hx
  generalize nd (tb T q) x = z at *
  generalize (tb T q).length = m at *
  generalize T.length = n at *
  go_enter Tryd.func71, Tryd.ntmps71
  go_wp2
  go_ret
  exact ⟨rfl, rfl⟩
theorem enters_step : ∀ args w, (callFunc 71 args).run Tryd.prog w = .ok (.enter 71 args) w := enters_of Tryd.func71 (by kernel_rfl) rfl
set_option maxHeartbeats 1000000 in
theorem follow_any (A : Option Addr) (T : List (List Int)) (a : Nat) (q : Nat) (D : Option Addr) (l : List Nat) (c : Nat) (L : Nat) (w : World) (hx : Tabs w A T) (hS : Sq T L) (hq : q < T.length) (hw : Bys w D l) (hlt : ∀ x ∈ l, x < L) (hll : l.length ≤ 1000000) :
    Calls Tryd.prog 70 #[.func (.func 71) #[.slice A T.length a] #[], .int .i64 q, .slice D l.length c] w fun e w' => e = .returned (.int .i64 (runT T q l)) ∧ Below w.heap.size w w' := by
  have HS := Lib.hid fun X (hX : Below w.heap.size w X) (j x : Nat) (hj : j < T.length) (hxL : x < L) => stepD_any A T a j x X (hx.below hX) hj (by rw [(hS.row _ (tb_mem hj)).1]; exact hxL)
  have HB := Lib.hid fun (j x : Nat) (hj : j < T.length) (hxL : x < L) => hS.step (q := (j : Int)) (by omega) hxL
  have HT := Lib.hid fun k (hk : k < l.length) => runT_snoc T q hk
  have HL := Lib.hid fun k (hk : k < l.length) => (hlt (wd l k) (by unfold wd; rw [List.getD_eq_getElem?_getD, List.getElem?_eq_getElem hk]; exact List.getElem_mem hk))
  have HZ : Hid (runT T q (l.take 0) = (q : Int)) := rfl
  have HE : Hid (runT T q (l.take l.length) = runT T q l) := by show _ = _; rw [List.take_length]
  generalize hR : (fun k => runT T (q : Int) (l.take k)) = R at *
  have HT' : Hid (∀ k, k < l.length → R (k + 1) = stepT T (R k) (wd l k)) := fun k hk => by rw [← hR]; exact HT.out k hk
  have HZ' : Hid (R 0 = (q : Int)) := by rw [← hR]; exact HZ.out
  have HE' : Hid (R l.length = runT T q l) := by rw [← hR]; exact HE.out
  clear HT HZ HE hR hlt hS
  generalize runT T q l = res at *
  go_enter Tryd.func70, Tryd.ntmps70
  go_wp2
  go_loopw [1, 11] (fun s i wr => ∃ (k j : Nat), k ≤ l.length ∧ i = .int .i64 k ∧ j < T.length ∧ s = .int .i64 j ∧ Hid (R k = (j : Int)) ∧ Below w.heap.size w wr) (fun _ i _ => l.length - (intOf i).toNat)
  case atStart => exact ⟨0, q, by omega, rfl, hq, rfl, HZ', Below.refl _ _⟩
  case round =>
    obtain ⟨k, j, hk, rfl, hj, rfl, HR, hb⟩ := hrel
    by_cases hlt : k < l.length
    · obtain ⟨ad, rfl, hcell⟩ := (hw.below hb).at_ hlt
      have hxL := HL.out k hlt
      have hbd := HB.out j (wd l k) hj hxL
      have HK := HT'.out k hlt
      rw [HR.out] at HK
      have HC := Lib.hid (HS.out wr hb j (wd l k) hj hxL)
      obtain ⟨j', hj'⟩ : ∃ j' : Nat, stepT T j (wd l k) = j' := ⟨(stepT T j (wd l k)).toNat, by omega⟩
      rw [hj'] at HC HK
      have HK := Lib.hid HK
      have hjl : j' < T.length := by omega
      clear hj' hbd hxL
      generalize wd l k = x at *
      go_wp2_with (go_at_call 71; ((with_reducible refine HC.out.mono ?_); rintro e w2 ⟨rfl, rfl⟩))
      go_roundw
      case rel => exact ⟨k + 1, j', by omega, by go_num, hjl, rfl, HK, hb⟩
      case measure => simp [intOf]; omega
    · obtain rfl : k = l.length := by omega
      have HF : Hid (res = (j : Int)) := HE'.out.symm.trans HR.out
      clear HR HE' HZ' HT'
      go_wp2
      go_ret
      exact ⟨ret_int HF.out.symm, hb⟩
/-- What is wrong with a word for an automaton. -/
def wrongD (d : Da) (l : List Nat) : Int := if chkD d ≠ 0 then chkD d else wordE d.V l
section
variable (d : Da) (A B : Option Addr) (a b : Nat) (w : World) (hx : DaAt w d A B)
include hx
theorem end_any (hO : OkD d) (D : Option Addr) (l : List Nat) (c : Nat) (hw : Bys w D l) (hlt : ∀ x ∈ l, x < 2 ^ d.V.toNat) (hll : l.length ≤ 1000000) :
    Calls Tryd.prog 54 #[.agg #[.int .i64 d.V, .int .i64 d.q0, .slice A d.nx.length a, .slice B d.fi.length b], .slice D l.length c] w fun e w' => e = .returned (.int .i64 (runT d.nx d.q0 l)) ∧ Below w.heap.size w w' := by
  have hb0 := bal (Below.refl w.heap.size w) (.cells #[.int .i64 d.V, .int .i64 d.q0, .slice A d.nx.length a, .slice B d.fi.length b] 25)
  have hB0 := Boxed4.new w 25 (.int .i64 d.V) (.int .i64 d.q0) (.slice A d.nx.length a) (.slice B d.fi.length b)
  obtain ⟨q, hq⟩ : ∃ q : Nat, d.q0 = q := ⟨d.q0.toNat, by have := hO.q0; omega⟩
  have hql : q < d.nx.length := by have := hO.q0; omega
  have HF := Lib.hid fun X (hX : Below w.heap.size w X) => follow_any A d.nx a q D l c (2 ^ d.V.toNat) X (hx.nx.below hX) hO.sq hql (hw.below hX) hlt hll
  rw [hq] at hb0 hB0 ⊢
  obtain ⟨z0, z1, z2, z3⟩ := hB0.cells
  clear hx hO hw hlt hq
  generalize runT d.nx (q : Int) l = R at *
  generalize d.nx.length = n at *
  generalize d.fi.length = m at *
  generalize d.V = V at *
  go_enter Tryd.func54, Tryd.ntmps54
  go_wp2_with (go_at_call 70; ((with_reducible refine (HF.out _ hb0).mono ?_); rintro e w2 ⟨rfl, hb2⟩))
  go_ret
  exact ⟨rfl, stepB hb0 hb2⟩
variable (hl : DaLen d) (D : Option Addr) (l : List Nat) (c : Nat) (hw : Bys w D l) (h8 : ∀ y ∈ l, y < 256) (hll : l.length ≤ 1000000)
include hl hw h8 hll
set_option maxHeartbeats 2000000 in
theorem checkWordD_any :
    Calls Tryd.prog 53 #[.agg #[.int .i64 d.V, .int .i64 d.q0, .slice A d.nx.length a, .slice B d.fi.length b], .slice D l.length c] w fun e w' => e = .returned (.int .i64 (wrongD d l)) ∧ Below w.heap.size w w' := by
  have hB0 := Boxed4.new w 25 (.int .i64 d.V) (.int .i64 d.q0) (.slice A d.nx.length a) (.slice B d.fi.length b)
  have hb0 := bal (Below.refl w.heap.size w) (.cells #[.int .i64 d.V, .int .i64 d.q0, .slice A d.nx.length a, .slice B d.fi.length b] 25)
  have HC := CheckD_any d A B a b _ (hx.below hb0) hl
  by_cases h0 : chkD d = 0
  · have hO := okD_of h0
    have HW : Hid (wrongD d l = wordE d.V l) := by show _ = _; unfold wrongD; rw [h0]; rfl
    obtain ⟨v, hv⟩ : ∃ v : Nat, d.V = v := ⟨d.V.toNat, by have := hO.v0; omega⟩
    have hv6 : v ≤ 6 := by have := hO.v6; omega
    rw [h0] at HC
    rw [hv] at HC hB0 hb0 HW ⊢
    have HC := Lib.hid HC
    have HL := Lib.hid fun X => lettersOver_any v X hv6
    clear hO h0 hv hx hl
    generalize d.q0 = q0 at *
    generalize d.nx.length = n at *
    generalize d.fi.length = m at *
    generalize wrongD d l = E at *
    obtain ⟨z0, z1, z2, z3⟩ := hB0.cells
    by_cases h64 : 64 < l.length
    · have HE : Hid (E = 4) := by show _ = _; rw [HW.out]; unfold wordE; rw [if_pos h64]
      have hd : decide ((64 : Int) < (l.length : Int)) = true := decide_eq_true (by omega)
      clear HW hw h8
      generalize l.length = k at *
      go_enter Tryd.func53, Tryd.ntmps53
      go_wp2_with (go_at_call 31; ((with_reducible refine HC.out.mono ?_); rintro e w2 ⟨rfl, hb2⟩))
      go_ret
      exact ⟨ret_int HE.out.symm, stepB hb0 hb2⟩
    · have hd : decide ((64 : Int) < (l.length : Int)) = false := decide_eq_false (by omega)
      have HW2 : Hid (E = if l.all (fun x => decide (x < 2 ^ v)) then 0 else 1) := by
        show _ = _
        rw [HW.out]
        unfold wordE
        rw [if_neg h64, Int.toNat_natCast]
      clear HW
      have hKp : Hid (2 ^ v ≤ 64) := Dg.pow7 hv6
      generalize 2 ^ v = K at *
      have hK := hKp.out
      go_enter Tryd.func53, Tryd.ntmps53
      go_wp2_with (go_at_call 31; ((with_reducible refine HC.out.mono ?_); rintro e w2 ⟨rfl, hb2⟩))
      have hB2 := hB0.below hb2
      have hb3 := stepB hb0 hb2
      clear HC hB0 hb0 hb2 z0 z1 z2 z3
      go_loopw [18] (fun i wr => ∃ (k : Nat), k ≤ l.length ∧ i = .int .i64 k ∧ Hid (∀ j, j < k → wd l j < K) ∧ Boxed4 wr w.heap.size (.int .i64 v) (.int .i64 q0) (.slice A n a) (.slice B m b) ∧ Below w.heap.size w wr) (fun i _ => l.length - (intOf i).toNat)
      case atStart => exact ⟨0, by omega, rfl, fun j hj => absurd hj (by omega), hB2, hb3⟩
      case round =>
        clear hB2 hb3
        obtain ⟨k, hk, rfl, H, hB, hb⟩ := hrel
        obtain ⟨z0, z1, z2, z3⟩ := hB.cells
        by_cases hlt : k < l.length
        · obtain ⟨ad, rfl, hcell⟩ := (hw.below hb).at_ hlt
          have hm : wd l k ∈ l := by unfold wd; rw [List.getD_eq_getElem?_getD, List.getElem?_eq_getElem hlt]; exact List.getElem_mem hlt
          have hx8 := h8 _ hm
          by_cases hy : wd l k < K
          · have H' : Hid (∀ j, j < k + 1 → wd l j < K) := fun j hj => by
              rcases Nat.lt_or_eq_of_le (Nat.le_of_lt_succ hj) with h1 | rfl
              · exact H.out j h1
              · exact hy
            have hd1 : decide (K ≤ wd l k) = false := decide_eq_false (by omega)
            have hd2 : decide ((K : Int) ≤ (wd l k : Int)) = false := decide_eq_false (by omega)
            clear H hy hm HW2
            generalize wd l k = x at *
            go_wp2_with (go_at_call 69; ((with_reducible refine (HL.out _).mono ?_); rintro e w3 ⟨rfl, rfl⟩))
            go_roundw
            case rel => exact ⟨k + 1, by omega, by go_num, H', hB, hb⟩
            case measure => simp [intOf]; omega
          · have HE : Hid (E = 1) := by
              show _ = _
              rw [HW2.out, if_neg]
              rw [List.all_eq_true]
              intro h
              exact hy (of_decide_eq_true (h _ hm))
            have hd1 : decide (K ≤ wd l k) = true := decide_eq_true (by omega)
            have hd2 : decide ((K : Int) ≤ (wd l k : Int)) = true := decide_eq_true (by omega)
            clear H hy hm HW2
            generalize wd l k = x at *
            go_wp2_with (go_at_call 69; ((with_reducible refine (HL.out _).mono ?_); rintro e w3 ⟨rfl, rfl⟩))
            go_ret
            exact ⟨ret_int HE.out.symm, hb⟩
        · obtain rfl : k = l.length := by omega
          have HE : Hid (E = 0) := by
            show _ = _
            rw [HW2.out, if_pos]
            rw [List.all_eq_true]
            intro y hy
            obtain ⟨j, hj, rfl⟩ := List.mem_iff_getElem.1 hy
            have := H.out j hj
            unfold wd at this
            rw [List.getD_eq_getElem?_getD, List.getElem?_eq_getElem hj] at this
            exact decide_eq_true this
          clear H HW2
          go_wp2
          go_ret
          exact ⟨ret_int HE.out.symm, hb⟩
  · have HE : Hid (wrongD d l = chkD d) := by show _ = _; unfold wrongD; rw [if_pos h0]
    have hne : (chkD d != 0) = true := by rw [bne_iff_ne]; exact h0
    have HC := Lib.hid HC
    obtain ⟨z0, z1, z2, z3⟩ := hB0.cells
    clear h0 hx hl hw h8
    generalize chkD d = E at *
    generalize l.length = k at *
    go_enter Tryd.func53, Tryd.ntmps53
    go_wp2_with (go_at_call 31; ((with_reducible refine HC.out.mono ?_); rintro e w2 ⟨rfl, hb2⟩))
    go_ret
    exact ⟨ret_int HE.out.symm, stepB hb0 hb2⟩
omit hl hw h8 hll in
omit hx in
theorem wrongD_zero {d : Da} {l : List Nat} (h : wrongD d l = 0) : OkD d ∧ l.length ≤ 64 ∧ ∀ y ∈ l, y < 2 ^ d.V.toNat := by
  unfold wrongD at h
  by_cases h0 : chkD d = 0
  · rw [if_neg (by omega)] at h
    unfold wordE at h
    split at h
    · cases h
    · split at h
      · rename_i h1 h2
        exact ⟨okD_of h0, by omega, fun y hy => of_decide_eq_true (List.all_eq_true.1 h2 y hy)⟩
      · cases h
  · rw [if_pos h0] at h
    exact absurd h h0
/-- What Run answers. -/
def runD (d : Da) (l : List Nat) : Int := if wrongD d l = 0 then runT d.nx d.q0 l else 0
def accD (d : Da) (l : List Nat) : Bool := if wrongD d l = 0 then d.fi.getD (runT d.nx d.q0 l).toNat false else false
set_option maxHeartbeats 4000000 in
theorem AcceptsD_any :
    Calls Tryd.prog 32 #[.agg #[.int .i64 d.V, .int .i64 d.q0, .slice A d.nx.length a, .slice B d.fi.length b], .slice D l.length c] w fun e w' => e = .returned (.tuple #[.bool (accD d l), .int .i64 (wrongD d l)]) ∧ Below w.heap.size w w' := by
  have hB0 := Boxed4.new w 25 (.int .i64 d.V) (.int .i64 d.q0) (.slice A d.nx.length a) (.slice B d.fi.length b)
  have hb0 := bal (Below.refl w.heap.size w) (.cells #[.int .i64 d.V, .int .i64 d.q0, .slice A d.nx.length a, .slice B d.fi.length b] 25)
  have HC := checkWordD_any d A B a b _ (hx.below hb0) hl D l c (hw.below hb0) h8 hll
  obtain ⟨z0, z1, z2, z3⟩ := hB0.cells
  by_cases h0 : wrongD d l = 0
  · obtain ⟨hO, _, hlt⟩ := wrongD_zero h0
    have hrb := hO.sq.run (w := l) hO.q0 hlt
    have HE := fun X (hX : Below w.heap.size w X) => end_any d A B a b X (hx.below hX) hO D l c (hw.below hX) hlt hll
    have HR : Hid (accD d l = d.fi.getD (runT d.nx d.q0 l).toNat false) := by show _ = _; unfold accD; rw [if_pos h0]
    rw [h0] at HC ⊢
    have HC := Lib.hid HC
    obtain ⟨r, hr⟩ : ∃ r : Nat, runT d.nx d.q0 l = r := ⟨(runT d.nx d.q0 l).toNat, by omega⟩
    rw [hr, Int.toNat_natCast] at HR
    have hrl : r < d.fi.length := by have := hO.fi; omega
    simp only [hr] at HE
    have HE := Lib.hid HE
    obtain ⟨ad, rfl, hbk, hcl⟩ := hx.fi r hrl
    have HCell : Hid (∀ X, Below w.heap.size w X → X.cell? (ad.add r) = some (.bool (d.fi.getD r false))) := fun X hX => (hX.cell (by rw [addr_block]; exact hbk)).trans hcl
    rw [HR.out]
    clear HR hcl hx hl hw h8 h0 hO hlt hrb hr
    generalize d.fi.getD r false = R at *
    generalize l.length = k at *
    generalize d.fi.length = m at *
    generalize d.nx.length = n at *
    generalize d.V = V at *
    generalize d.q0 = q0 at *
    have hri : (r : Int) < (m : Int) := by omega
    go_enter Tryd.func32, Tryd.ntmps32
    go_wp2_with (go_at_call 53; ((with_reducible refine HC.out.mono ?_); rintro e w2 ⟨rfl, hb2⟩))
    have hB2 := hB0.below hb2
    have K2 := stepB hb0 hb2
    clear z0 z1 z2 z3 hB0 hb0 hb2 HC
    have hS2 : (fun X : World => Boxed4 X w.heap.size (.int .i64 V) (.int .i64 q0) (.slice A n a) (.slice (some ad) m b) ∧ Below w.heap.size w X) w2.drew := ⟨hB2.below (Ap.drewN_below w2 1), stepB K2 (Ap.drewN_below w2 1)⟩
    have c0 : ∀ r : Cls (fun X : World => Boxed4 X w.heap.size (.int .i64 V) (.int .i64 q0) (.slice A n a) (.slice (some ad) m b) ∧ Below w.heap.size w X), r.w.cell? ⟨w.heap.size, 0, none⟩ = some (.int .i64 V) := fun r => r.h.1.c0
    have c1 : ∀ r : Cls (fun X : World => Boxed4 X w.heap.size (.int .i64 V) (.int .i64 q0) (.slice A n a) (.slice (some ad) m b) ∧ Below w.heap.size w X), r.w.cell? ⟨w.heap.size, 1, none⟩ = some (.int .i64 q0) := fun r => r.h.1.c1
    have c2 : ∀ r : Cls (fun X : World => Boxed4 X w.heap.size (.int .i64 V) (.int .i64 q0) (.slice A n a) (.slice (some ad) m b) ∧ Below w.heap.size w X), r.w.cell? ⟨w.heap.size, 2, none⟩ = some (.slice A n a) := fun r => r.h.1.c2
    have c3 : ∀ r : Cls (fun X : World => Boxed4 X w.heap.size (.int .i64 V) (.int .i64 q0) (.slice A n a) (.slice (some ad) m b) ∧ Below w.heap.size w X), r.w.cell? ⟨w.heap.size, 3, none⟩ = some (.slice (some ad) m b) := fun r => r.h.1.c3
    have c4 : ∀ r' : Cls (fun X : World => Boxed4 X w.heap.size (.int .i64 V) (.int .i64 q0) (.slice A n a) (.slice (some ad) m b) ∧ Below w.heap.size w X), r'.w.cell? (ad.add r) = some (.bool R) := fun r' => HCell.out _ r'.h.2
    haveI : Nonempty (Cls (fun X : World => Boxed4 X w.heap.size (.int .i64 V) (.int .i64 q0) (.slice A n a) (.slice (some ad) m b) ∧ Below w.heap.size w X)) := ⟨⟨w2.drew, hS2⟩⟩
    refine wp_region_cls (fun X : World => Boxed4 X w.heap.size (.int .i64 V) (.int .i64 q0) (.slice A n a) (.slice (some ad) m b) ∧ Below w.heap.size w X) (by kernel_rfl) (by kernel_rfl) hS2 ?_
    repeat (go_big_quiet_step (first
      | (go_at_call 54; rename_i r'; refine (HE.out r'.w r'.h.2).mono ?_; rintro e w4 ⟨rfl, hb4⟩; exact ⟨rfl, ⟨⟨w4, r'.h.1.below hb4, stepB r'.h.2 hb4⟩, rfl⟩⟩)))
    refine wpQuiet_nil ?_
    rintro _ ⟨⟨X, hX⟩, rfl⟩
    clear c0 c1 c2 c3 c4
    go_wp2
    go_ret2
    exact ⟨rfl, hX.2⟩
  · have HR : Hid (accD d l = false) := by show _ = _; unfold accD; rw [if_neg h0]
    have hne : (wrongD d l != 0) = true := by rw [bne_iff_ne]; exact h0
    have HC := Lib.hid HC
    clear hx hl hw h8 h0
    rw [HR.out]
    clear HR
    generalize wrongD d l = E at *
    generalize l.length = k at *
    go_enter Tryd.func32, Tryd.ntmps32
    go_wp2_with (go_at_call 53; ((with_reducible refine HC.out.mono ?_); rintro e w2 ⟨rfl, hb2⟩))
    go_ret2
    exact ⟨rfl, stepB hb0 hb2⟩
end
end Go.Proofs.YtkgeihambgbjdaaDoor.Sb
/- movesOf (package subset): for each letter and state the states to which edges lead. -/
namespace Go.Proofs.YtkgeihambgbjdaaDoor.Sb
open Go Go.RowKit Go.Proofs.YtkgeihambgbjdaaDoor Go.Proofs.YtkgeihambgbjdaaDoor.Cb
open Go.Proofs.YtkgeihambgbjdaaDoor.Nf (Ed ed ed_mem Na NaAt NaLen Ok EdsAt zvs zvs_snoc four_at info_int6 ret_int ret_b inS Boxed4 Boxed4.new Boxed4.below Boxed4.cells Boxed5 Boxed5.new hnext drew_below Bys Bys.below)
open Go.Proofs.YtkgeihambgbjdaaDoor.Dg (Tabs tb tb_mem mem_tb info_tab)
set_option linter.unusedVariables false
set_option linter.unusedSimpArgs false
set_option maxRecDepth 100000
/-- Where the edges lead from k by x. -/
def mvF (es : List Ed) (x : Nat) (k : Nat) : List Int := (es.filter fun e => cHas e.p e.q x && decide (e.fr = (k : Int))).map Ed.to
/-- The first i edges, and the first j letters of edge i. -/
def mvP (es : List Ed) (i : Nat) (L : List Nat) (j x k : Nat) : List Int := mvF (es.take i) x k ++ if x ∈ L.take j ∧ (ed es i).fr = k then [(ed es i).to] else []
theorem mvP_zero (es : List Ed) (i : Nat) (L : List Nat) (x k : Nat) : mvP es i L 0 x k = mvF (es.take i) x k := by
  unfold mvP
  rw [if_neg (by simp)]
  simp
theorem mvP_end {es : List Ed} {i K : Nat} (hi : i < es.length) {x : Nat} (hx : x < K) (k : Nat) : mvP es i (letTo (ed es i).p (ed es i).q K) (letTo (ed es i).p (ed es i).q K).length x k = mvF (es.take (i + 1)) x k := by
  unfold mvP mvF
  have he : es[i]? = some (ed es i) := by unfold ed; rw [List.getD_eq_getElem?_getD, List.getElem?_eq_getElem hi]; rfl
  rw [List.take_length, List.take_add_one, he, List.filter_append, List.map_append]
  congr 1
  have hm : x ∈ letTo (ed es i).p (ed es i).q K ↔ cHas (ed es i).p (ed es i).q x = true := by
    unfold letTo
    rw [List.mem_filter, List.mem_range]
    exact ⟨fun h => h.2, fun h => ⟨hx, h⟩⟩
  show _ = ([ed es i].filter _).map Ed.to
  by_cases h : x ∈ letTo (ed es i).p (ed es i).q K ∧ (ed es i).fr = k
  · rw [if_pos h, List.filter_cons, if_pos (by rw [hm.1 h.1, decide_eq_true h.2]; rfl)]
    rfl
  · rw [if_neg h, List.filter_cons, if_neg]
    · rfl
    · intro h2
      rw [Bool.and_eq_true, decide_eq_true_iff] at h2
      exact h ⟨hm.2 h2.1, h2.2⟩
theorem mvP_step {es : List Ed} {i K j : Nat} {L : List Nat} (hL : L = letTo (ed es i).p (ed es i).q K) (hj : j < L.length) (x k : Nat) :
    mvP es i L (j + 1) x k = if x = wd L j ∧ (k : Int) = (ed es i).fr then mvP es i L j x k ++ [(ed es i).to] else mvP es i L j x k := by
  have hnd : L.Nodup := by rw [hL]; exact List.Pairwise.filter _ List.nodup_range
  have hwd : wd L j = L[j] := by unfold wd; rw [List.getD_eq_getElem?_getD, List.getElem?_eq_getElem hj]; rfl
  have hmem : x ∈ L.take (j + 1) ↔ x ∈ L.take j ∨ x = L[j] := by
    rw [List.take_add_one, List.getElem?_eq_getElem hj, List.mem_append]
    simp
  have hno : L[j] ∉ L.take j := fun h => by
    obtain ⟨i', hi', he⟩ := List.mem_iff_getElem.1 h
    rw [List.getElem_take] at he
    have hl : i' < j := by rw [List.length_take] at hi'; omega
    exact absurd ((List.getElem_inj hnd).1 he) (by omega)
  unfold mvP
  by_cases h1 : x = L[j]
  · subst h1
    by_cases h2 : (ed es i).fr = k
    · rw [if_pos ⟨hmem.2 (.inr rfl), h2⟩, if_pos ⟨hwd.symm, h2.symm⟩, if_neg (fun h => hno h.1), List.append_nil]
    · rw [if_neg (fun h => h2 h.2), if_neg (fun h => h2 h.2.symm), if_neg (fun h => h2 h.2)]
  · rw [if_neg (c := x = wd L j ∧ _) (fun h => h1 (h.1.trans hwd))]
    by_cases h2 : x ∈ L.take j ∧ (ed es i).fr = k
    · rw [if_pos ⟨hmem.2 (.inl h2.1), h2.2⟩, if_pos h2]
    · rw [if_neg (fun h => h2 ⟨(hmem.1 h.1).resolve_right h1, h.2⟩), if_neg h2]
theorem info_rows : (Tryd.prog.info? 22).map (fun i => (i.zero, i.size, i.bytes)) = some (some (.slice none 0 0), 1, 24) := by kernel_rfl
def rowM (mb S x : Nat) : Value := .slice (some ⟨mb + 1 + x, 0, none⟩) S S
theorem made_rows (S : Nat) (hS : S ≤ 1000) (W : World) : (Instr.makeSlice 22 (.int .i64 (S : Int)) (.int .i64 (S : Int))).run Tryd.prog W = .ok (.slice (some ⟨W.heap.size, 0, none⟩) S S) (W.alloc (.cells (cells S fun _ => .slice none 0 0) 33)) := by
  obtain ⟨i0, hi, hz0, hz1, hz2⟩ := info_parts info_tab
  have := run_makeSlice (P := Tryd.prog) W 22 33 i0 _ Tryd.underlying22 hi hz0 .i64 .i64 (S : Int) (S : Int) (by omega) (Int.le_refl _) (by rw [hz1]; omega) (by rw [hz2]; omega) (by omega)
  rw [this, hz1, Int.toNat_natCast, Nat.mul_one, ← made_cells]
  rfl
/-- The first k rows have been made. -/
structure MovT (w0 w : World) (mb K S k : Nat) : Prop where
  o : w.heap[mb]? = some (.cells (cells K fun i => if i < k then rowM mb S i else .slice none 0 0) 22 (0, 0))
  r : ∀ i, i < k → w.heap[mb + 1 + i]? = some (.cells (cells S fun _ => .slice none 0 0) 33 (0, 0))
  s : w.heap.size = mb + 1 + k
  b : Below mb w0 w
theorem MovT.start (w : World) (K S : Nat) : MovT w (w.alloc (.cells (cells K fun _ => .slice none 0 0) 22)) w.heap.size K S 0 :=
  ⟨by rw [cells_congr (g := fun _ => .slice none 0 0) fun i hi => if_neg (by omega)]; exact World.alloc_heap_new w _, fun i hi => absurd hi (by omega), by simp, Cb.bal (Below.refl _ _) _⟩
theorem MovT.next {w0 w : World} {mb K S k : Nat} (h : MovT w0 w mb K S k) (hk : k < K) :
    MovT w0 ((w.alloc (.cells (cells S fun _ => .slice none 0 0) 33)).setCell ⟨mb, k, none⟩ (.slice (some ⟨w.heap.size, 0, none⟩) S S)) mb K S (k + 1) := by
  have hs := h.s
  have hne : ∀ i, (mb + 1 + i) ≠ mb := fun i => by omega
  have h1 := box_old (o' := .cells (cells S fun _ => .slice none 0 0) 33) h.o
  refine ⟨?_, fun i hi => ?_, ?_, ?_⟩
  · rw [heap_put h1, cells_set _ (by omega)]
    rw [show (cells K fun j => if j = k then Value.slice (some ⟨w.heap.size, 0, none⟩) S S else if j < k then rowM mb S j else .slice none 0 0) = cells K fun i => if i < k + 1 then rowM mb S i else .slice none 0 0 from cells_congr fun i hi => by
      by_cases e : i = k
      · subst e; rw [if_pos rfl, if_pos (by omega), hs]; rfl
      · rw [if_neg e]
        by_cases e2 : i < k
        · rw [if_pos e2, if_pos (by omega)]
        · rw [if_neg e2, if_neg (by omega)]]
  · rw [Below.heap_setCell _ _ _ _ (hne i)]
    by_cases e : i = k
    · subst e
      have := World.alloc_heap_new w (.cells (cells S fun _ => .slice none 0 0) 33)
      rwa [hs] at this
    · exact box_old (h.r i (by omega))
  · show (Array.modify _ _ _).size = _
    rw [Array.size_modify]
    simp [hs]; omega
  · exact (h.b.alloc (by omega) _).setCell (Nat.le_refl _) _
/-- The moves, in blocks of one's own. -/
structure MovO (w0 w : World) (mb K S : Nat) (v : Nat → Nat → Value) (f : Nat → Nat → List Int) : Prop where
  o : w.heap[mb]? = some (.cells (cells K (rowM mb S)) 22 (0, 0))
  r : ∀ x, x < K → w.heap[mb + 1 + x]? = some (.cells (cells S (v x)) 33 (0, 0))
  own : ∀ x, x < K → ∀ k, k < S → w.ownsRow (mb + 1 + K) 3 1 (v x k) (f x k).length (zvs (f x k))
  dis : ∀ x, x < K → ∀ k, k < S → ∀ x', x' < K → ∀ k', k' < S → ¬ (x = x' ∧ k = k') → (v x k).ownBlock = none ∨ (v x k).ownBlock ≠ (v x' k').ownBlock
  s : mb + 1 + K ≤ w.heap.size
  b : Below mb w0 w
theorem MovT.done {w0 w : World} {mb K S : Nat} (h : MovT w0 w mb K S K) : MovO w0 w mb K S (fun _ _ => .slice none 0 0) (fun _ _ => []) :=
  ⟨by rw [h.o, cells_congr fun i hi => if_pos hi], h.r, fun x _ k _ => ⟨rfl, .inl ⟨rfl, rfl⟩⟩, fun x _ k _ x' _ k' _ _ => .inl rfl, by rw [h.s]; omega, h.b⟩
theorem MovO.below {w0 w w' : World} {mb K S : Nat} {v : Nat → Nat → Value} {f : Nat → Nat → List Int} (h : MovO w0 w mb K S v f) (hb : Below w.heap.size w w') : MovO w0 w' mb K S v f :=
  ⟨(hb.block _ (blk_lt h.o)).trans h.o, fun x hx => (hb.block _ (blk_lt (h.r x hx))).trans (h.r x hx), fun x hx k hk => (h.own x hx k hk).below hb, h.dis, Nat.le_trans h.s hb.size, h.b.trans (hb.mono (by have := h.s; omega))⟩
theorem MovO.congr {w0 w : World} {mb K S : Nat} {v : Nat → Nat → Value} {f g : Nat → Nat → List Int} (h : MovO w0 w mb K S v f) (e : ∀ x, x < K → ∀ k, k < S → f x k = g x k) : MovO w0 w mb K S v g :=
  ⟨h.o, h.r, fun x hx k hk => by rw [← e x hx k hk]; exact h.own x hx k hk, h.dis, h.s, h.b⟩
theorem MovO.put {w0 Y Z : World} {mb K S : Nat} {v : Nat → Nat → Value} {f : Nat → Nat → List Int} (h : MovO w0 Y mb K S v f) {x0 k0 : Nat} (hx0 : x0 < K) (hk0 : k0 < S) {u : Value} {z : Int} (hg : Y.grownBy Z (v x0 k0).ownBlock)
    (ho : Z.ownsRow (mb + 1 + K) 3 1 u ((f x0 k0).length + 1) (zvs (f x0 k0) ++ [.int .i64 z])) (hob : u.ownBlock = (v x0 k0).ownBlock ∨ u.ownBlock = some Y.heap.size) :
    (∀ (b : Nat) (cs : Array Value) (t : TypeId) (fz : Nat × Nat), Y.heap[b]? = some (Obj.cells cs t fz) → 3 ≠ t → Z.heap[b]? = some (Obj.cells cs t fz)) ∧
    (∀ (b : Nat) (cs : Array Value) (t : TypeId) (fz : Nat × Nat), Y.heap[b]? = some (Obj.cells cs t fz) → 3 ≠ t → b ≠ mb + 1 + x0 → (Z.setCell ⟨mb + 1 + x0, k0, none⟩ u).heap[b]? = some (Obj.cells cs t fz)) ∧
    Z.heap[mb + 1 + x0]? = some (.cells (cells S (v x0)) 33 (0, 0)) ∧
    MovO w0 (Z.setCell ⟨mb + 1 + x0, k0, none⟩ u) mb K S (fun x k => if x = x0 ∧ k = k0 then u else v x k) (fun x k => if x = x0 ∧ (k : Int) = (k0 : Int) then f x k ++ [z] else f x k) := by
  have hv0 := h.own x0 hx0 k0 hk0
  have hkeep : ∀ (b : Nat) (cs : Array Value) (t : TypeId) (fz : Nat × Nat), Y.heap[b]? = some (Obj.cells cs t fz) → 3 ≠ t → Z.heap[b]? = some (Obj.cells cs t fz) := fun b cs t fz hb ht =>
    (hg.block b (blk_lt hb) (fun e => own_ne hb hv0 ht e.symm)).trans hb
  have hr0 := hkeep _ _ _ _ (h.r x0 hx0) (by decide)
  have hne : ∀ b, b ≠ mb + 1 + x0 → (Z.setCell ⟨mb + 1 + x0, k0, none⟩ u).heap[b]? = Z.heap[b]? := fun b hb => Below.heap_setCell _ _ _ b hb
  refine ⟨hkeep, fun b cs t fz hb ht hn => (hne b hn).trans (hkeep b cs t fz hb ht), hr0, ?_, ?_, ?_, ?_, ?_, ?_⟩
  · exact (hne _ (by omega)).trans (hkeep _ _ _ _ h.o (by decide))
  · intro x hx
    by_cases e : x = x0
    · subst e
      rw [heap_put hr0, cells_set _ hk0]
      congr 2
      exact cells_congr fun k hk => by
        by_cases e : k = k0
        · rw [if_pos e, if_pos ⟨rfl, e⟩]
        · rw [if_neg e, if_neg (fun h => e h.2)]
    · rw [hne _ (by omega), hkeep _ _ _ _ (h.r x hx) (by decide)]
      congr 2
      exact cells_congr fun k hk => by rw [if_neg (fun h => e h.1)]
  · intro x hx k hk
    by_cases e : x = x0 ∧ k = k0
    · obtain ⟨rfl, rfl⟩ := e
      rw [if_pos ⟨rfl, rfl⟩, if_pos ⟨rfl, rfl⟩, zvs_snoc, List.length_append]
      exact row_put ho (own_ne hr0 ho (by decide)) _ _
    · rw [if_neg e, if_neg (fun h => e ⟨h.1, by omega⟩)]
      have hk1 := (h.own x hx k hk).kept hg (h.dis x hx k hk x0 hx0 k0 hk0 e)
      exact row_put hk1 (own_ne hr0 hk1 (by decide)) _ _
  · intro x hx k hk x' hx' k' hk' hn
    have hfresh : ∀ x, x < K → ∀ k, k < S → (v x k).ownBlock ≠ some Y.heap.size := fun x hx k hk he => by
      have := own_lt (h.own x hx k hk) he
      omega
    show (if x = x0 ∧ k = k0 then u else v x k).ownBlock = none ∨ (if x = x0 ∧ k = k0 then u else v x k).ownBlock ≠ (if x' = x0 ∧ k' = k0 then u else v x' k').ownBlock
    by_cases e : x = x0 ∧ k = k0
    · have e' : ¬ (x' = x0 ∧ k' = k0) := fun h' => hn ⟨by omega, by omega⟩
      rw [if_pos e, if_neg e']
      obtain ⟨rfl, rfl⟩ := e
      rcases hob with ho1 | ho1
      · rw [ho1]; exact h.dis x hx k hk x' hx' k' hk' hn
      · rw [ho1]; exact .inr fun he => hfresh x' hx' k' hk' he.symm
    · rw [if_neg e]
      by_cases e' : x' = x0 ∧ k' = k0
      · rw [if_pos e']
        obtain ⟨rfl, rfl⟩ := e'
        rcases hob with ho1 | ho1
        · rw [ho1]; exact h.dis x hx k hk x' hx' k' hk' hn
        · rw [ho1]; exact .inr fun he => hfresh x hx k hk he
      · rw [if_neg e']; exact h.dis x hx k hk x' hx' k' hk' hn
  · show _ ≤ (Array.modify _ _ _).size
    rw [Array.size_modify]
    have := hg.size
    have := h.s
    omega
  · refine (h.b.grown hg (by have := h.s; omega) (fun q hq => ?_)).setCell (by show mb ≤ mb + 1 + x0; omega) _
    have := own_lt hv0 hq
    omega
end Go.Proofs.YtkgeihambgbjdaaDoor.Sb
/- movesOf (package subset): its walk. -/
namespace Go.Proofs.YtkgeihambgbjdaaDoor.Sb
open Go Go.RowKit Go.Proofs.YtkgeihambgbjdaaDoor Go.Proofs.YtkgeihambgbjdaaDoor.Cb
open Go.Proofs.YtkgeihambgbjdaaDoor.Nf (Ed ed ed_mem Na NaAt NaLen Ok EdsAt zvs zvs_snoc four_at info_int6 ret_int ret_b inS Boxed4 Boxed4.new Boxed4.below Boxed4.cells Boxed5 Boxed5.new hnext drew_below Bys Bys.below bvs own_bys edE_in)
open Go.Proofs.YtkgeihambgbjdaaDoor.Dg (Tabs tb tb_mem mem_tb info_tab cell_one)
set_option linter.unusedVariables false
set_option linter.unusedSimpArgs false
set_option maxRecDepth 100000
/-- The moves as they are read. -/
structure MovAt (w : World) (mb K S : Nat) (f : Nat → Nat → List Int) : Prop where
  o : w.heap[mb]? = some (.cells (cells K (rowM mb S)) 22 (0, 0))
  r : ∀ x, x < K → ∃ v : Nat → Value, w.heap[mb + 1 + x]? = some (.cells (cells S v) 33 (0, 0)) ∧ ∀ k, k < S → ∃ p c, v k = .slice p (f x k).length c ∧ Ints w p (f x k)
theorem MovO.at_ {w0 w : World} {mb K S : Nat} {v : Nat → Nat → Value} {f : Nat → Nat → List Int} (h : MovO w0 w mb K S v f) : MovAt w mb K S f :=
  ⟨h.o, fun x hx => ⟨v x, h.r x hx, fun k hk => by
    have ho := h.own x hx k hk
    obtain ⟨A, c, e, _⟩ := Ap.own_form ho
    rw [e] at ho
    exact ⟨A, c, e, Dg.ints_row ho rfl⟩⟩⟩
theorem MovAt.below {w w' : World} {mb K S : Nat} {f : Nat → Nat → List Int} (h : MovAt w mb K S f) (hb : Below w.heap.size w w') : MovAt w' mb K S f :=
  ⟨(hb.block _ (blk_lt h.o)).trans h.o, fun x hx => by
    obtain ⟨v, h1, h2⟩ := h.r x hx
    exact ⟨v, (hb.block _ (blk_lt h1)).trans h1, fun k hk => by
      obtain ⟨p, c, e, hi⟩ := h2 k hk
      exact ⟨p, c, e, hi.below hb⟩⟩⟩
theorem cell_lt {w : World} {b o : Nat} {v : Value} (h : w.cell? ⟨b, o, none⟩ = some v) : b < w.heap.size := World.block_lt_of_cell? w _ h
/-- What movesOf leaves. -/
def MovPost (w : World) (es : List Ed) (K S : Nat) (e : Ending) (w' : World) : Prop := ∃ mb, e = .returned (.slice (some ⟨mb, 0, none⟩) K K) ∧ MovAt w' mb K S (mvF es) ∧ Below w.heap.size w w'
end Go.Proofs.YtkgeihambgbjdaaDoor.Sb
/- successors (package subset): for each letter the set to which it leads. -/
namespace Go.Proofs.YtkgeihambgbjdaaDoor.Sb
open Go Go.RowKit Go.Proofs.YtkgeihambgbjdaaDoor Go.Proofs.YtkgeihambgbjdaaDoor.Cb
open Go.Proofs.YtkgeihambgbjdaaDoor.Nf (Ed ed ed_mem Na NaAt NaLen Ok EdsAt zvs zvs_snoc four_at info_int6 ret_int ret_b inS Boxed4 Boxed4.new Boxed4.below Boxed4.cells Boxed5 Boxed5.new hnext drew_below Bys Bys.below stepW tg mem_tg has_ofL IsSet IsSet.unique zvs_one ints_cells OwnW.low)
open Go.Proofs.YtkgeihambgbjdaaDoor.Dg (Tabs tb tb_mem mem_tb info_tab)
set_option linter.unusedVariables false
set_option linter.unusedSimpArgs false
set_option maxRecDepth 100000
/-- A set, as a value. -/
def SetR (w : World) (v : Value) (xs : List Nat) : Prop := ∃ p c, v = .slice p xs.length c ∧ Words w p xs ∧ U64 xs ∧ xs.length ≤ c ∧ ∀ ad, p = some ad → ∃ cs fz, w.heap[ad.block]? = some (Obj.cells cs 116 fz)
theorem SetR.keep {w w' : World} {v : Value} {xs : List Nat} (h : SetR w v xs) (hs : w.heap.size ≤ w'.heap.size) (hk : ∀ (b : Nat) (cs : Array Value) (fz : Nat × Nat), w.heap[b]? = some (Obj.cells cs 116 fz) → w'.heap[b]? = some (Obj.cells cs 116 fz)) : SetR w' v xs := by
  obtain ⟨p, c, e, h1, h2, h3, h4⟩ := h
  refine ⟨p, c, e, fun j hj => ?_, h2, h3, fun ad hp => ?_⟩
  · obtain ⟨ad, ep, hlt, hc⟩ := h1 j hj
    obtain ⟨cs, fz, hb⟩ := h4 ad ep
    refine ⟨ad, ep, by omega, ?_⟩
    rw [← hc]
    exact World.cell?_of_block (by rw [addr_block, hb]; exact hk _ _ _ hb)
  · obtain ⟨cs, fz, hb⟩ := h4 ad hp
    exact ⟨cs, fz, hk _ _ _ hb⟩
theorem SetR.own {B : Nat} {w : World} {p : Option Addr} {c : Nat} {xs : List Nat} (h : OwnW B w p c xs) : SetR w (.slice p xs.length c) xs := by
  refine ⟨p, c, rfl, h.words, h.2.1, h.2.2, fun ad hp => ?_⟩
  subst hp
  rcases h.1.2 with ⟨h1, _⟩ | ⟨g, cap, cur, h1, _, hg, _⟩
  · cases h1
  · cases h1
    exact ⟨_, _, hg⟩
theorem SetR.below {w w' : World} {v : Value} {xs : List Nat} (h : SetR w v xs) (hb : Below w.heap.size w w') : SetR w' v xs := by
  refine h.keep hb.size fun b cs fz hc => (hb.block b (blk_lt hc)).trans hc
/-- The slice at A holds what reads as L. -/
def RowsR {S : Type} (R : World → Value → S → Prop) (w : World) (A : Option Addr) (L : List S) : Prop := ∀ j s, L[j]? = some s → ∃ ad u, A = some ad ∧ ad.block < w.heap.size ∧ w.cell? (ad.add j) = some u ∧ R w u s
theorem RowsR.below {S : Type} {R : World → Value → S → Prop} (hR : ∀ w w' v s, R w v s → Below w.heap.size w w' → R w' v s) {w w' : World} {A : Option Addr} {L : List S} (h : RowsR R w A L) (hb : Below w.heap.size w w') : RowsR R w' A L := fun j s hj => by
  obtain ⟨ad, u, e, h1, h2, h3⟩ := h j s hj
  exact ⟨ad, u, e, Nat.lt_of_lt_of_le h1 hb.size, (hb.cell (by rw [addr_block]; exact h1)).trans h2, hR _ _ _ _ h3 hb⟩
/-- What the edges give for the elements of a set. -/
def flatM (es : List Ed) (x : Nat) (l : List Nat) : List Int := l.flatMap fun k => mvF es x k
theorem flat_step {n : Na} (hO : Ok n) {xs : List Nat} (ux : U64 xs) (x : Nat) : ofL (flatM n.es x (els xs)) = stepW n.es xs x := by
  unfold stepW
  refine IsSet.unique (P := fun z => (0 ≤ z ∧ z ≤ 4095) ∧ z ∈ flatM n.es x (els xs)) ⟨ofL_canon _, u64_of _, fun z => has_ofL⟩ (IsSet.congr ⟨ofL_canon _, u64_of _, fun z => has_ofL⟩ fun z => ?_)
  refine and_congr_right fun hz => ?_
  rw [mem_tg]
  unfold flatM
  rw [List.mem_flatMap]
  constructor
  · rintro ⟨e, he, h1, h2, rfl⟩
    have hfr := (Nf.edE_in (hO.ed e he)).1
    have hS := hO.s64
    refine ⟨e.fr.toNat, els_mem.2 ⟨by omega, ?_⟩, ?_⟩
    · unfold hasB at h2
      rw [Bool.and_eq_true] at h2
      exact h2.2
    · unfold mvF
      refine List.mem_map.2 ⟨e, List.mem_filter.2 ⟨he, ?_⟩, rfl⟩
      rw [h1, decide_eq_true (by omega)]
      rfl
  · rintro ⟨k, hk, hz2⟩
    unfold mvF at hz2
    obtain ⟨e, he, rfl⟩ := List.mem_map.1 hz2
    obtain ⟨he1, he2⟩ := List.mem_filter.1 he
    rw [Bool.and_eq_true, decide_eq_true_iff] at he2
    obtain ⟨h1, h2⟩ := els_mem.1 hk
    refine ⟨e, he1, he2.1, ?_, rfl⟩
    show hasB xs e.fr = true
    rw [he2.2]
    unfold hasB
    rw [decide_eq_true (by omega), Int.toNat_natCast, h2]
    rfl
theorem info_setR : (Tryd.prog.info? 106).map (fun i => (i.zero, i.size, i.bytes)) = some (some (.slice none 0 0), 1, 24) := by kernel_rfl
/-- The first k sets have been made. -/
structure SucO (w wr : World) (gl K k : Nat) (v : Nat → Value) (F : Nat → List Nat) (PA : Option Addr) (cA : Nat) (l : List Nat) : Prop where
  o : wr.heap[gl]? = some (.cells (cells K fun i => if i < k then v i else .slice none 0 0) 106 (0, 0))
  own : ∀ i, i < k → ∃ p c, v i = .slice p (F i).length c ∧ OwnW w.heap.size wr p c (F i)
  fr : wr.ownsRow w.heap.size 3 1 (.slice PA l.length cA) l.length (ivs l)
  b : Below w.heap.size w wr
  g : w.heap.size ≤ gl
theorem SucO.below {w wr wz : World} {gl K k : Nat} {v : Nat → Value} {F : Nat → List Nat} {PA : Option Addr} {cA : Nat} {l : List Nat} (h : SucO w wr gl K k v F PA cA l) (hb : Below wr.heap.size wr wz) : SucO w wz gl K k v F PA cA l :=
  ⟨(hb.block _ (blk_lt h.o)).trans h.o, fun i hi => by
    obtain ⟨p, c, e, ho, hu, hc⟩ := h.own i hi
    exact ⟨p, c, e, ho.below hb, hu, hc⟩, h.fr.below hb, stepB h.b hb, h.g⟩
theorem SucO.next {w wz : World} {gl K k : Nat} {v : Nat → Value} {F : Nat → List Nat} {PA : Option Addr} {cA : Nat} {l : List Nat} (h : SucO w wz gl K k v F PA cA l) (hk : k < K) {p : Option Addr} {c : Nat} (ho : OwnW w.heap.size wz p c (F k)) :
    SucO w (wz.setCell ⟨gl, k, none⟩ (.slice p (F k).length c)) gl K (k + 1) (fun i => if i = k then .slice p (F k).length c else v i) F PA cA l := by
  have hne : 116 ≠ 106 := by decide
  refine ⟨?_, fun i hi => ?_, row_put h.fr (own_ne h.o h.fr (by decide)) _ _, h.b.setCell (p := ⟨gl, k, none⟩) h.g _, h.g⟩
  · rw [heap_put h.o, cells_set _ hk]
    congr 2
    exact cells_congr fun i hi => by
      by_cases e : i = k
      · rw [if_pos e, if_pos (by omega), if_pos e]
      · rw [if_neg e]
        by_cases e2 : i < k
        · rw [if_pos e2, if_pos (by omega), if_neg e]
        · rw [if_neg e2, if_neg (by omega)]
  · by_cases e : i = k
    · subst e
      exact ⟨p, c, if_pos rfl, row_put ho.1 (own_ne h.o ho.1 hne) _ _, ho.2⟩
    · obtain ⟨p', c', e', ho', h2⟩ := h.own i (by omega)
      exact ⟨p', c', (if_neg e).trans e', row_put ho' (own_ne h.o ho' hne) _ _, h2⟩
theorem SucO.rows {w wr : World} {gl K : Nat} {v : Nat → Value} {F : Nat → List Nat} {PA : Option Addr} {cA : Nat} {l : List Nat} (h : SucO w wr gl K K v F PA cA l) : RowsR SetR wr (some ⟨gl, 0, none⟩) ((List.range K).map F) := fun j s hj => by
  have hjK : j < K := by
    have := (List.getElem?_eq_some_iff.1 hj).1
    simpa using this
  obtain ⟨p, c, e, ho⟩ := h.own j hjK
  have hs : F j = s := by
    rw [List.getElem?_map, List.getElem?_range hjK] at hj
    exact Option.some.inj hj
  subst hs
  refine ⟨⟨gl, 0, none⟩, v j, rfl, blk_lt h.o, ?_, by rw [e]; exact SetR.own ho⟩
  rw [Ap.addr_add, cell_of h.o hjK, if_pos hjK]
theorem ints_from {w : World} {A : Option Addr} {l : List Int} (hx : Ints w A l) : (A = none → l.length = 0) ∧ (∀ ad, A = some ad → ∀ j u, (zvs l)[j]? = some u → w.cell? (ad.add j) = some u) := by
  refine ⟨fun h => ?_, fun ad h => ?_⟩
  · subst h
    cases l with
    | nil => rfl
    | cons x r => obtain ⟨ad, e, _⟩ := hx 0 (by simp); cases e
  · subst h
    exact ints_cells hx
/-- What successors leaves. -/
def SucPost (w : World) (K : Nat) (L : List (List Nat)) (e : Ending) (w' : World) : Prop := ∃ gl c, e = .returned (.slice (some ⟨gl, 0, none⟩) K c) ∧ w.heap.size ≤ gl ∧ RowsR SetR w' (some ⟨gl, 0, none⟩) L ∧ Below w.heap.size w w'
theorem flat_snoc (es : List Ed) (x : Nat) {l : List Nat} {j : Nat} (h : j < l.length) : flatM es x (l.take (j + 1)) = flatM es x (l.take j) ++ mvF es x (wd l j) := by
  unfold flatM
  rw [List.take_add_one, List.getElem?_eq_getElem h, List.flatMap_append]
  unfold wd
  rw [List.getD_eq_getElem?_getD, List.getElem?_eq_getElem h]
  simp
theorem flat_len (es : List Ed) (x : Nat) (l : List Nat) : (flatM es x l).length ≤ l.length * es.length := by
  unfold flatM
  induction l with
  | nil => simp
  | cons a l ih =>
    rw [List.flatMap_cons, List.length_append, List.length_cons, Nat.succ_mul]
    have : (mvF es x a).length ≤ es.length := by unfold mvF; rw [List.length_map]; exact List.length_filter_le _ _
    omega
theorem u64_own {B : Nat} {w : World} {A : Option Addr} {c : Nat} {xs : List Nat} (h : OwnW B w A c xs) : U64 xs := h.2.1
end Go.Proofs.YtkgeihambgbjdaaDoor.Sb
