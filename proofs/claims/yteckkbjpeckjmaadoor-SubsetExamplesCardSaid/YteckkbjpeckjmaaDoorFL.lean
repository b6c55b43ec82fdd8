/- reversed (package nfa). -/
import Derived.Test.YteckkbjpeckjmaaDoorFS
import Derived.Test.YteckkbjpeckjmaaDoorQH
namespace Go.Proofs.YteckkbjpeckjmaaDoor.Nf
open Go Go.RowKit Go.Proofs.YteckkbjpeckjmaaDoor Go.Proofs.YteckkbjpeckjmaaDoor.Cb
set_option linter.unusedVariables false
set_option linter.unusedSimpArgs false
set_option maxRecDepth 100000
theorem drew_below (w : World) : Below w.heap.size w w.drew := ⟨rfl, rfl, rfl, Nat.le_refl _, fun _ _ => rfl⟩
theorem Boxed4.other {w : World} {b : Nat} {s0 s1 s2 s3 : Value} (h : Boxed4 w b s0 s1 s2 s3) {p : Addr} (hp : p.block ≠ b) (u : Value) : Boxed4 (w.setCell p u) b s0 s1 s2 s3 := by
  have hk := Below.heap_setCell w p u b (fun e => hp e.symm)
  refine ⟨block_lt hk h.lt, (World.cell?_of_block (a := ⟨b, 0, none⟩) hk).trans h.c0, (World.cell?_of_block (a := ⟨b, 1, none⟩) hk).trans h.c1, (World.cell?_of_block (a := ⟨b, 2, none⟩) hk).trans h.c2, (World.cell?_of_block (a := ⟨b, 3, none⟩) hk).trans h.c3⟩
/-- A block of an automaton's variable. -/
def Blk (w : World) (b : Nat) (u0 u1 u2 u3 u4 : Value) : Prop := w.heap[b]? = some (.cells #[u0, u1, u2, u3, u4] 26 (0, 0))
namespace Blk
variable {w w' : World} {b : Nat} {u0 u1 u2 u3 u4 : Value}
theorem new (w : World) (u0 u1 u2 u3 u4 : Value) : Blk (w.alloc (.cells #[u0, u1, u2, u3, u4] 26)) w.heap.size u0 u1 u2 u3 u4 := World.alloc_heap_new w _
theorem lt (h : Blk w b u0 u1 u2 u3 u4) : b < w.heap.size := (Array.getElem?_eq_some_iff.1 h).1
theorem below (h : Blk w b u0 u1 u2 u3 u4) (hb : Below w.heap.size w w') : Blk w' b u0 u1 u2 u3 u4 := (hb.block b h.lt).trans h
theorem cells (h : Blk w b u0 u1 u2 u3 u4) : w.cell? ⟨b, 0, none⟩ = some u0 ∧ w.cell? ⟨b, 1, none⟩ = some u1 ∧ w.cell? ⟨b, 2, none⟩ = some u2 ∧ w.cell? ⟨b, 3, none⟩ = some u3 ∧ w.cell? ⟨b, 4, none⟩ = some u4 := by
  unfold Blk at h
  refine ⟨?_, ?_, ?_, ?_, ?_⟩ <;> simp [World.cell?, h]
theorem frozen (h : Blk w b u0 u1 u2 u3 u4) (j : Nat) : w.frozen? ⟨b, j, none⟩ = false := by
  unfold Blk at h
  simp [World.frozen?, h]
theorem other (h : Blk w b u0 u1 u2 u3 u4) {p : Addr} (hp : p.block ≠ b) (u : Value) : Blk (w.setCell p u) b u0 u1 u2 u3 u4 := (Below.heap_setCell w p u b (fun e => hp e.symm)).trans h
theorem set0 (h : Blk w b u0 u1 u2 u3 u4) (u : Value) : Blk (w.setCell ⟨b, 0, none⟩ u) b u u1 u2 u3 u4 := heap_setCell_same w b 0 _ _ u h
theorem set1 (h : Blk w b u0 u1 u2 u3 u4) (u : Value) : Blk (w.setCell ⟨b, 1, none⟩ u) b u0 u u2 u3 u4 := heap_setCell_same w b 1 _ _ u h
theorem set2 (h : Blk w b u0 u1 u2 u3 u4) (u : Value) : Blk (w.setCell ⟨b, 2, none⟩ u) b u0 u1 u u3 u4 := heap_setCell_same w b 2 _ _ u h
theorem set3 (h : Blk w b u0 u1 u2 u3 u4) (u : Value) : Blk (w.setCell ⟨b, 3, none⟩ u) b u0 u1 u2 u u4 := heap_setCell_same w b 3 _ _ u h
theorem set4 (h : Blk w b u0 u1 u2 u3 u4) (u : Value) : Blk (w.setCell ⟨b, 4, none⟩ u) b u0 u1 u2 u3 u := heap_setCell_same w b 4 _ _ u h
theorem ne_row (h : Blk w b u0 u1 u2 u3 u4) {B e size n : Nat} {v : Value} {xs : List Value} (ho : w.ownsRow B e size v n xs) (he : e ≠ 26) : v.ownBlock ≠ some b := fun hv => by
  rcases ho.2 with ⟨rfl, _⟩ | ⟨g, cap, cur, rfl, _, hg, _⟩
  · simp [Value.ownBlock] at hv
  · obtain rfl : g = b := by simpa [Value.ownBlock] using hv
    unfold Blk at h
    rw [hg] at h
    cases h
    exact he rfl
end Blk
theorem row_set {w : World} {B e size n : Nat} {v : Value} {xs : List Value} (ho : w.ownsRow B e size v n xs) {b : Nat} (h : v.ownBlock ≠ some b) (j : Nat) (u : Value) : (w.setCell ⟨b, j, none⟩ u).ownsRow B e size v n xs :=
  ho.kept (⟨rfl, rfl, rfl, by show _ ≤ (w.heap.modify _ _).size; rw [Array.size_modify]; exact Nat.le_refl _, fun k _ hk => Below.heap_setCell _ _ _ k (fun e => hk (by rw [e]))⟩) (.inr h)
/-- The edges, the first k of them flipped. -/
def mixE (l : List Ed) (k : Nat) : List Ed := (l.take k).map flipE ++ l.drop k
theorem mix_zero (l : List Ed) : mixE l 0 = l := by simp [mixE]
theorem mix_all (l : List Ed) : mixE l l.length = l.map flipE := by simp [mixE]
theorem evs_app (l m : List Ed) : evs (l ++ m) = evs l ++ evs m := by simp [evs]
theorem mix_set {l : List Ed} {k : Nat} (hk : k < l.length) : ((evs (mixE l k)).set (k * 4) (.int .i64 (ed l k).to)).set (k * 4 + 1) (.int .i64 (ed l k).fr) = evs (mixE l (k + 1)) := by
  have hx : ed l k = l[k] := by unfold ed; rw [List.getD_eq_getElem?_getD, List.getElem?_eq_getElem hk]; rfl
  have hd : l.drop k = ed l k :: l.drop (k + 1) := by rw [hx]; exact List.drop_eq_getElem_cons hk
  have ht : l.take (k + 1) = l.take k ++ [ed l k] := by rw [hx]; exact List.take_succ_eq_append_getElem hk
  unfold mixE
  rw [ht, List.map_append, hd, evs_app, evs_app, evs_app]
  have hl : (evs ((l.take k).map flipE)).length = k * 4 := by rw [evs_len, List.length_map, List.length_take, Nat.min_eq_left (by omega)]
  generalize evs ((l.take k).map flipE) = F at hl ⊢
  rw [List.set_append_right _ _ (by omega), List.set_append_right _ _ (by omega), List.append_assoc, hl]
  congr 1
  rw [Nat.sub_self, show k * 4 + 1 - k * 4 = 1 by omega]
  rfl
/-- Behind the first statement of reversed. -/
structure RevP (w : World) (n : Na) (A B C : Option Addr) (a b c b3 : Nat) (A1 B1 C1 : Option Addr) (a1 b1 c1 : Nat) (Y : World) : Prop where
  bel : Below w.heap.size w Y
  nb : Blk Y w.heap.size (.int .i64 n.V) (.int .i64 n.S) (.slice A n.st.length a) (.slice B n.fi.length b) (.slice C n.es.length c)
  rb : Blk Y (w.heap.size + 1) (.int .i64 0) (.int .i64 0) (.slice none 0 0) (.slice none 0 0) (.slice none 0 0)
  r3 : Blk Y b3 (.int .i64 0) (.int .i64 0) (.slice none 0 0) (.slice none 0 0) (.slice none 0 0)
  lt3 : w.heap.size + 1 < b3
  o1 : Y.ownsRow w.heap.size 3 1 (.slice A1 n.fi.length a1) n.fi.length (zvs n.fi)
  o2 : Y.ownsRow w.heap.size 3 1 (.slice B1 n.st.length b1) n.st.length (zvs n.st)
  o3 : Y.ownsRow w.heap.size 30 4 (.slice C1 n.es.length c1) n.es.length (evs n.es)

theorem hnext {md : Region.Mode} {ops : Array Oper} {n i : Nat} {L0 listed : Array Bool} {rs : List Nat} (hA : HeadAt md ops n L0 listed) (hr : Region.ready md ops listed = rs) (hi : i ∈ rs) (hin : i < n) : HeadAt md ops n L0 (listed.setIfInBounds i true) := hA.set (hr ▸ hi) hin
set_option maxHeartbeats 1000000 in
theorem rev_stores {w : World} {n : Na} {A B C : Option Addr} {a b c b3 : Nat} {A1 B1 C1 : Option Addr} {a1 b1 c1 : Nat} {Y : World} (h : RevP w n A B C a b c b3 A1 B1 C1 a1 b1 c1 Y) :
    (Y.cell? ⟨b3, 0, none⟩ = some (.int .i64 0) ∧ Y.frozen? ⟨b3, 0, none⟩ = false) ∧
    ((Y.setCell ⟨b3, 0, none⟩ (.int .i64 n.V)).cell? ⟨b3, 1, none⟩ = some (.int .i64 0) ∧ (Y.setCell ⟨b3, 0, none⟩ (.int .i64 n.V)).frozen? ⟨b3, 1, none⟩ = false) ∧
    (((Y.setCell ⟨b3, 0, none⟩ (.int .i64 n.V)).setCell ⟨b3, 1, none⟩ (.int .i64 n.S)).cell? ⟨b3, 2, none⟩ = some (.slice none 0 0) ∧ ((Y.setCell ⟨b3, 0, none⟩ (.int .i64 n.V)).setCell ⟨b3, 1, none⟩ (.int .i64 n.S)).frozen? ⟨b3, 2, none⟩ = false) ∧
    ((((Y.setCell ⟨b3, 0, none⟩ (.int .i64 n.V)).setCell ⟨b3, 1, none⟩ (.int .i64 n.S)).setCell ⟨b3, 2, none⟩ (.slice A1 n.fi.length a1)).cell? ⟨b3, 3, none⟩ = some (.slice none 0 0) ∧ (((Y.setCell ⟨b3, 0, none⟩ (.int .i64 n.V)).setCell ⟨b3, 1, none⟩ (.int .i64 n.S)).setCell ⟨b3, 2, none⟩ (.slice A1 n.fi.length a1)).frozen? ⟨b3, 3, none⟩ = false) ∧
    (((((Y.setCell ⟨b3, 0, none⟩ (.int .i64 n.V)).setCell ⟨b3, 1, none⟩ (.int .i64 n.S)).setCell ⟨b3, 2, none⟩ (.slice A1 n.fi.length a1)).setCell ⟨b3, 3, none⟩ (.slice B1 n.st.length b1)).cell? ⟨b3, 4, none⟩ = some (.slice none 0 0) ∧ ((((Y.setCell ⟨b3, 0, none⟩ (.int .i64 n.V)).setCell ⟨b3, 1, none⟩ (.int .i64 n.S)).setCell ⟨b3, 2, none⟩ (.slice A1 n.fi.length a1)).setCell ⟨b3, 3, none⟩ (.slice B1 n.st.length b1)).frozen? ⟨b3, 4, none⟩ = false) := by
  have q0 := h.r3
  have q1 := q0.set0 (.int .i64 n.V)
  have q2 := q1.set1 (.int .i64 n.S)
  have q3 := q2.set2 (.slice A1 n.fi.length a1)
  have q4 := q3.set3 (.slice B1 n.st.length b1)
  exact ⟨⟨q0.cells.1, q0.frozen 0⟩, ⟨q1.cells.2.1, q1.frozen 1⟩, ⟨q2.cells.2.2.1, q2.frozen 2⟩, ⟨q3.cells.2.2.2.1, q3.frozen 3⟩, ⟨q4.cells.2.2.2.2, q4.frozen 4⟩⟩
/-- Behind the store into the result: the edges of the result are L. -/
structure RevQ (w : World) (n : Na) (A B C : Option Addr) (a b c b3 : Nat) (A1 B1 C1 : Option Addr) (a1 b1 c1 : Nat) (L : List Ed) (Y : World) : Prop where
  bel : Below w.heap.size w Y
  nb : Blk Y w.heap.size (.int .i64 n.V) (.int .i64 n.S) (.slice A n.st.length a) (.slice B n.fi.length b) (.slice C n.es.length c)
  rb : Blk Y (w.heap.size + 1) (.int .i64 0) (.int .i64 0) (.slice none 0 0) (.slice none 0 0) (.slice none 0 0)
  r3 : Blk Y b3 (.int .i64 n.V) (.int .i64 n.S) (.slice A1 n.fi.length a1) (.slice B1 n.st.length b1) (.slice C1 n.es.length c1)
  lt3 : w.heap.size + 1 < b3
  o1 : Y.ownsRow w.heap.size 3 1 (.slice A1 n.fi.length a1) n.fi.length (zvs n.fi)
  o2 : Y.ownsRow w.heap.size 3 1 (.slice B1 n.st.length b1) n.st.length (zvs n.st)
  o3 : Y.ownsRow w.heap.size 30 4 (.slice C1 n.es.length c1) n.es.length (evs L)
theorem rev_after {w : World} {n : Na} {A B C : Option Addr} {a b c b3 : Nat} {A1 B1 C1 : Option Addr} {a1 b1 c1 : Nat} {Y : World} (h : RevP w n A B C a b c b3 A1 B1 C1 a1 b1 c1 Y) : RevQ w n A B C a b c b3 A1 B1 C1 a1 b1 c1 n.es (((((Y.setCell ⟨b3, 0, none⟩ (.int .i64 n.V)).setCell ⟨b3, 1, none⟩ (.int .i64 n.S)).setCell ⟨b3, 2, none⟩ (.slice A1 n.fi.length a1)).setCell ⟨b3, 3, none⟩ (.slice B1 n.st.length b1)).setCell ⟨b3, 4, none⟩ (.slice C1 n.es.length c1)) := by
  have q0 := h.r3
  have q1 := q0.set0 (.int .i64 n.V)
  have q2 := q1.set1 (.int .i64 n.S)
  have q3 := q2.set2 (.slice A1 n.fi.length a1)
  have q4 := q3.set3 (.slice B1 n.st.length b1)
  have q5 := q4.set4 (.slice C1 n.es.length c1)
  have hlt := h.lt3
  have n1 : ∀ j, (⟨b3, j, none⟩ : Addr).block ≠ w.heap.size := fun j => by show b3 ≠ _; omega
  have n2 : ∀ j, (⟨b3, j, none⟩ : Addr).block ≠ w.heap.size + 1 := fun j => by show b3 ≠ _; omega
  have hge : w.heap.size ≤ b3 := by omega
  have m1 := fun {X : World} {u0 u1 u2 u3 u4 : Value} (q : Blk X b3 u0 u1 u2 u3 u4) {e size m : Nat} {v : Value} {xs : List Value} (ho : X.ownsRow w.heap.size e size v m xs) (he : e ≠ 26) (j : Nat) (u : Value) => row_set ho (q.ne_row ho he) j u
  refine ⟨((((h.bel.setCell (p := ⟨b3, 0, none⟩) hge _).setCell (p := ⟨b3, 1, none⟩) hge _).setCell (p := ⟨b3, 2, none⟩) hge _).setCell (p := ⟨b3, 3, none⟩) hge _).setCell (p := ⟨b3, 4, none⟩) hge _,
    ((((h.nb.other (n1 0) _).other (n1 1) _).other (n1 2) _).other (n1 3) _).other (n1 4) _, ((((h.rb.other (n2 0) _).other (n2 1) _).other (n2 2) _).other (n2 3) _).other (n2 4) _, q5, hlt, ?_, ?_, ?_⟩
  · exact m1 q4 (m1 q3 (m1 q2 (m1 q1 (m1 q0 h.o1 (by decide) _ _) (by decide) _ _) (by decide) _ _) (by decide) _ _) (by decide) _ _
  · exact m1 q4 (m1 q3 (m1 q2 (m1 q1 (m1 q0 h.o2 (by decide) _ _) (by decide) _ _) (by decide) _ _) (by decide) _ _) (by decide) _ _
  · exact m1 q4 (m1 q3 (m1 q2 (m1 q1 (m1 q0 h.o3 (by decide) _ _) (by decide) _ _) (by decide) _ _) (by decide) _ _) (by decide) _ _
theorem RevQ.below {w : World} {n : Na} {A B C : Option Addr} {a b c b3 : Nat} {A1 B1 C1 : Option Addr} {a1 b1 c1 : Nat} {L : List Ed} {Y Z : World} (h : RevQ w n A B C a b c b3 A1 B1 C1 a1 b1 c1 L Y) (hb : Below Y.heap.size Y Z) : RevQ w n A B C a b c b3 A1 B1 C1 a1 b1 c1 L Z :=
  ⟨stepB h.bel hb, h.nb.below hb, h.rb.below hb, h.r3.below hb, h.lt3, h.o1.below hb, h.o2.below hb, h.o3.below hb⟩
theorem row_ne_row {w : World} {B B' e e' sz sz' n n' g c : Nat} {v : Value} {xs ys : List Value} (h : w.ownsRow B e sz (.slice (some ⟨g, 0, none⟩) n c) n xs) (h' : w.ownsRow B' e' sz' v n' ys) (he : e ≠ e') : v.ownBlock ≠ some g := fun hv => by
  rcases h.2 with ⟨h1, _⟩ | ⟨g1, cap, cur, h1, _, hg, _⟩
  · cases h1
  · cases h1
    rcases h'.2 with ⟨rfl, _⟩ | ⟨g2, cap2, cur2, rfl, _, hg2, _⟩
    · simp [Value.ownBlock] at hv
    · obtain rfl : g2 = _ := by simpa [Value.ownBlock] using hv
      rw [hg] at hg2
      cases hg2
      exact he rfl
/-- One edge of the result, flipped by two stores. -/
theorem RevQ.flip {w : World} {n : Na} {A B C : Option Addr} {a b c b3 : Nat} {A1 B1 : Option Addr} {a1 b1 c1 : Nat} {g k : Nat} {Y : World} (h : RevQ w n A B C a b c b3 A1 B1 (some ⟨g, 0, none⟩) a1 b1 c1 (mixE n.es k) Y) (hk : k < n.es.length) :
    RevQ w n A B C a b c b3 A1 B1 (some ⟨g, 0, none⟩) a1 b1 c1 (mixE n.es (k + 1)) ((Y.setCell ⟨g, k * 4, none⟩ (.int .i64 (ed n.es k).to)).setCell ⟨g, k * 4 + 1, none⟩ (.int .i64 (ed n.es k).fr)) := by
  have hg := (h.o3.lt g rfl)
  have s1 := (h.o3.stored (k * 4) (.int .i64 (ed n.es k).to)).1
  have s2 := (s1.stored (k * 4 + 1) (.int .i64 (ed n.es k).fr)).1
  rw [mix_set hk] at s2
  have e1 : g ≠ w.heap.size := fun e => h.nb.ne_row h.o3 (by decide) (by rw [← e]; rfl)
  have e2 : g ≠ w.heap.size + 1 := fun e => h.rb.ne_row h.o3 (by decide) (by rw [← e]; rfl)
  have e3 : g ≠ b3 := fun e => h.r3.ne_row h.o3 (by decide) (by rw [← e]; rfl)
  refine ⟨(h.bel.setCell (p := ⟨g, k * 4, none⟩) hg.1 _).setCell (p := ⟨g, k * 4 + 1, none⟩) hg.1 _, (h.nb.other e1 _).other e1 _, (h.rb.other e2 _).other e2 _, (h.r3.other e3 _).other e3 _, h.lt3, ?_, ?_, s2⟩
  · exact row_set (row_set h.o1 (row_ne_row h.o3 h.o1 (by decide)) _ _) (row_ne_row h.o3 h.o1 (by decide)) _ _
  · exact row_set (row_set h.o2 (row_ne_row h.o3 h.o2 (by decide)) _ _) (row_ne_row h.o3 h.o2 (by decide)) _ _
set_option maxHeartbeats 1000000 in
theorem rev_last {w : World} {n : Na} {A B C : Option Addr} {a b c b3 : Nat} {A1 B1 C1 : Option Addr} {a1 b1 c1 : Nat} {L : List Ed} {Y : World} (h : RevQ w n A B C a b c b3 A1 B1 C1 a1 b1 c1 L Y) :
    (Y.cell? ⟨w.heap.size + 1, 0, none⟩ = some (.int .i64 0) ∧ Y.frozen? ⟨w.heap.size + 1, 0, none⟩ = false) ∧
    ((Y.setCell ⟨w.heap.size + 1, 0, none⟩ (.int .i64 n.V)).cell? ⟨w.heap.size + 1, 1, none⟩ = some (.int .i64 0) ∧ (Y.setCell ⟨w.heap.size + 1, 0, none⟩ (.int .i64 n.V)).frozen? ⟨w.heap.size + 1, 1, none⟩ = false) ∧
    (((Y.setCell ⟨w.heap.size + 1, 0, none⟩ (.int .i64 n.V)).setCell ⟨w.heap.size + 1, 1, none⟩ (.int .i64 n.S)).cell? ⟨w.heap.size + 1, 2, none⟩ = some (.slice none 0 0) ∧ ((Y.setCell ⟨w.heap.size + 1, 0, none⟩ (.int .i64 n.V)).setCell ⟨w.heap.size + 1, 1, none⟩ (.int .i64 n.S)).frozen? ⟨w.heap.size + 1, 2, none⟩ = false) ∧
    ((((Y.setCell ⟨w.heap.size + 1, 0, none⟩ (.int .i64 n.V)).setCell ⟨w.heap.size + 1, 1, none⟩ (.int .i64 n.S)).setCell ⟨w.heap.size + 1, 2, none⟩ (.slice A1 n.fi.length a1)).cell? ⟨w.heap.size + 1, 3, none⟩ = some (.slice none 0 0) ∧ (((Y.setCell ⟨w.heap.size + 1, 0, none⟩ (.int .i64 n.V)).setCell ⟨w.heap.size + 1, 1, none⟩ (.int .i64 n.S)).setCell ⟨w.heap.size + 1, 2, none⟩ (.slice A1 n.fi.length a1)).frozen? ⟨w.heap.size + 1, 3, none⟩ = false) ∧
    (((((Y.setCell ⟨w.heap.size + 1, 0, none⟩ (.int .i64 n.V)).setCell ⟨w.heap.size + 1, 1, none⟩ (.int .i64 n.S)).setCell ⟨w.heap.size + 1, 2, none⟩ (.slice A1 n.fi.length a1)).setCell ⟨w.heap.size + 1, 3, none⟩ (.slice B1 n.st.length b1)).cell? ⟨w.heap.size + 1, 4, none⟩ = some (.slice none 0 0) ∧ ((((Y.setCell ⟨w.heap.size + 1, 0, none⟩ (.int .i64 n.V)).setCell ⟨w.heap.size + 1, 1, none⟩ (.int .i64 n.S)).setCell ⟨w.heap.size + 1, 2, none⟩ (.slice A1 n.fi.length a1)).setCell ⟨w.heap.size + 1, 3, none⟩ (.slice B1 n.st.length b1)).frozen? ⟨w.heap.size + 1, 4, none⟩ = false) ∧
    (Blk (((((Y.setCell ⟨w.heap.size + 1, 0, none⟩ (.int .i64 n.V)).setCell ⟨w.heap.size + 1, 1, none⟩ (.int .i64 n.S)).setCell ⟨w.heap.size + 1, 2, none⟩ (.slice A1 n.fi.length a1)).setCell ⟨w.heap.size + 1, 3, none⟩ (.slice B1 n.st.length b1)).setCell ⟨w.heap.size + 1, 4, none⟩ (.slice C1 n.es.length c1)) (w.heap.size + 1) (.int .i64 n.V) (.int .i64 n.S) (.slice A1 n.fi.length a1) (.slice B1 n.st.length b1) (.slice C1 n.es.length c1) ∧ Below w.heap.size w (((((Y.setCell ⟨w.heap.size + 1, 0, none⟩ (.int .i64 n.V)).setCell ⟨w.heap.size + 1, 1, none⟩ (.int .i64 n.S)).setCell ⟨w.heap.size + 1, 2, none⟩ (.slice A1 n.fi.length a1)).setCell ⟨w.heap.size + 1, 3, none⟩ (.slice B1 n.st.length b1)).setCell ⟨w.heap.size + 1, 4, none⟩ (.slice C1 n.es.length c1)) ∧ (((((Y.setCell ⟨w.heap.size + 1, 0, none⟩ (.int .i64 n.V)).setCell ⟨w.heap.size + 1, 1, none⟩ (.int .i64 n.S)).setCell ⟨w.heap.size + 1, 2, none⟩ (.slice A1 n.fi.length a1)).setCell ⟨w.heap.size + 1, 3, none⟩ (.slice B1 n.st.length b1)).setCell ⟨w.heap.size + 1, 4, none⟩ (.slice C1 n.es.length c1)).ownsRow w.heap.size 3 1 (.slice A1 n.fi.length a1) n.fi.length (zvs n.fi) ∧ (((((Y.setCell ⟨w.heap.size + 1, 0, none⟩ (.int .i64 n.V)).setCell ⟨w.heap.size + 1, 1, none⟩ (.int .i64 n.S)).setCell ⟨w.heap.size + 1, 2, none⟩ (.slice A1 n.fi.length a1)).setCell ⟨w.heap.size + 1, 3, none⟩ (.slice B1 n.st.length b1)).setCell ⟨w.heap.size + 1, 4, none⟩ (.slice C1 n.es.length c1)).ownsRow w.heap.size 3 1 (.slice B1 n.st.length b1) n.st.length (zvs n.st) ∧ (((((Y.setCell ⟨w.heap.size + 1, 0, none⟩ (.int .i64 n.V)).setCell ⟨w.heap.size + 1, 1, none⟩ (.int .i64 n.S)).setCell ⟨w.heap.size + 1, 2, none⟩ (.slice A1 n.fi.length a1)).setCell ⟨w.heap.size + 1, 3, none⟩ (.slice B1 n.st.length b1)).setCell ⟨w.heap.size + 1, 4, none⟩ (.slice C1 n.es.length c1)).ownsRow w.heap.size 30 4 (.slice C1 n.es.length c1) n.es.length (evs L)) := by
  have q0 := h.rb
  have q1 := q0.set0 (.int .i64 n.V)
  have q2 := q1.set1 (.int .i64 n.S)
  have q3 := q2.set2 (.slice A1 n.fi.length a1)
  have q4 := q3.set3 (.slice B1 n.st.length b1)
  have q5 := q4.set4 (.slice C1 n.es.length c1)
  have hge : w.heap.size ≤ w.heap.size + 1 := by omega
  have m1 := fun {X : World} {u0 u1 u2 u3 u4 : Value} (q : Blk X (w.heap.size + 1) u0 u1 u2 u3 u4) {e size m : Nat} {v : Value} {xs : List Value} (ho : X.ownsRow w.heap.size e size v m xs) (he : e ≠ 26) (j : Nat) (u : Value) => row_set ho (q.ne_row ho he) j u
  refine ⟨⟨q0.cells.1, q0.frozen 0⟩, ⟨q1.cells.2.1, q1.frozen 1⟩, ⟨q2.cells.2.2.1, q2.frozen 2⟩, ⟨q3.cells.2.2.2.1, q3.frozen 3⟩, ⟨q4.cells.2.2.2.2, q4.frozen 4⟩, q5,
    ((((h.bel.setCell (p := ⟨w.heap.size + 1, 0, none⟩) hge _).setCell (p := ⟨w.heap.size + 1, 1, none⟩) hge _).setCell (p := ⟨w.heap.size + 1, 2, none⟩) hge _).setCell (p := ⟨w.heap.size + 1, 3, none⟩) hge _).setCell (p := ⟨w.heap.size + 1, 4, none⟩) hge _, ?_, ?_, ?_⟩
  · exact m1 q4 (m1 q3 (m1 q2 (m1 q1 (m1 q0 h.o1 (by decide) _ _) (by decide) _ _) (by decide) _ _) (by decide) _ _) (by decide) _ _
  · exact m1 q4 (m1 q3 (m1 q2 (m1 q1 (m1 q0 h.o2 (by decide) _ _) (by decide) _ _) (by decide) _ _) (by decide) _ _) (by decide) _ _
  · exact m1 q4 (m1 q3 (m1 q2 (m1 q1 (m1 q0 h.o3 (by decide) _ _) (by decide) _ _) (by decide) _ _) (by decide) _ _) (by decide) _ _
set_option maxHeartbeats 8000000 in
theorem reversed6_any (n : Na) (A B C : Option Addr) (a b c : Nat) (w : World) (hx : NaAt w n A B C) (hl : NaLen n) :
    Calls Tryd.prog 67 #[.agg #[.int .i64 n.V, .int .i64 n.S, .slice A n.st.length a, .slice B n.fi.length b, .slice C n.es.length c]] w fun e w' =>
      ∃ A' B' C' a' b' c', e = .returned (.agg #[.int .i64 n.V, .int .i64 n.S, .slice A' n.fi.length a', .slice B' n.st.length b', .slice C' n.es.length c']) ∧ Below w.heap.size w w' ∧
        w'.ownsRow w.heap.size 3 1 (.slice A' n.fi.length a') n.fi.length (zvs n.fi) ∧ w'.ownsRow w.heap.size 3 1 (.slice B' n.st.length b') n.st.length (zvs n.st) ∧ w'.ownsRow w.heap.size 30 4 (.slice C' n.es.length c') n.es.length (evs (n.es.map flipE)) := by
  have hB0 := bal (bal (Below.refl w.heap.size w) (.cells #[.int .i64 n.V, .int .i64 n.S, .slice A n.st.length a, .slice B n.fi.length b, .slice C n.es.length c] 26)) (.cells #[.int .i64 0, .int .i64 0, .slice none 0 0, .slice none 0 0, .slice none 0 0] 26)
  have hN0 := (Blk.new w (.int .i64 n.V) (.int .i64 n.S) (.slice A n.st.length a) (.slice B n.fi.length b) (.slice C n.es.length c)).below (bal (Below.refl _ _) (.cells #[.int .i64 0, .int .i64 0, .slice none 0 0, .slice none 0 0, .slice none 0 0] 26))
  have hR0 := Blk.new (w.alloc (.cells #[.int .i64 n.V, .int .i64 n.S, .slice A n.st.length a, .slice B n.fi.length b, .slice C n.es.length c] 26)) (.int .i64 0) (.int .i64 0) (.slice none 0 0) (.slice none 0 0) (.slice none 0 0)
  rw [World.size_alloc] at hR0
  have H1 := Lib.hid fun X (hX : Below w.heap.size w X) => CloneInts_any B n.fi b X (hx.fi.below hX) hl.fi
  have H2 := Lib.hid fun X (hX : Below w.heap.size w X) => CloneInts_any A n.st a X (hx.st.below hX) hl.st
  have H3 := Lib.hid fun X (hX : Below w.heap.size w X) => CloneEdges_any C n.es c X (hx.es.below hX) hl.es
  have hle := hl.es
  have hsz : ((w.alloc (.cells #[.int .i64 n.V, .int .i64 n.S, .slice A n.st.length a, .slice B n.fi.length b, .slice C n.es.length c] 26)).alloc (.cells #[.int .i64 0, .int .i64 0, .slice none 0 0, .slice none 0 0, .slice none 0 0] 26)).heap.size = w.heap.size + 1 + 1 := by simp
  go_enter Tryd.func67, Tryd.ntmps67
  go_wp2
  generalize ((w.alloc (.cells #[.int .i64 n.V, .int .i64 n.S, .slice A n.st.length a, .slice B n.fi.length b, .slice C n.es.length c] 26)).alloc (.cells #[.int .i64 0, .int .i64 0, .slice none 0 0, .slice none 0 0, .slice none 0 0] 26)) = w1 at *
  rename_i KK0 HK0
  have hrest : ∀ (b3 : Nat) (A1 B1 C1 : Option Addr) (a1 b1 c1 : Nat) (Y : World), RevP w n A B C a b c b3 A1 B1 C1 a1 b1 c1 Y →
      KK0 { tmps := #[.agg #[.int .i64 n.V, .int .i64 n.S, .slice A n.st.length a, .slice B n.fi.length b, .slice C n.es.length c], .pointer (some ⟨w.heap.size, 0, none⟩), .pointer (some ⟨w.heap.size + 1, 0, none⟩), .pointer (some ⟨b3, 0, none⟩), undef, undef, .pointer (some ⟨w.heap.size, 0, none⟩), .int .i64 n.V, .pointer (some ⟨w.heap.size, 1, none⟩), .int .i64 n.S, .pointer (some ⟨w.heap.size, 3, none⟩), .slice B n.fi.length b, .slice A1 n.fi.length a1, .pointer (some ⟨w.heap.size, 2, none⟩), .slice A n.st.length a, .slice B1 n.st.length b1, .pointer (some ⟨w.heap.size, 4, none⟩), .slice C n.es.length c, .slice C1 n.es.length c1, .agg #[.int .i64 n.V, .int .i64 n.S, .slice A1 n.fi.length a1, .slice B1 n.st.length b1, .slice C1 n.es.length c1], undef, undef, undef, undef, undef, undef, undef, undef, undef, undef, undef, undef, undef, undef, undef, undef, undef, undef, undef, undef, undef, undef, undef, undef], defers := [] } (((((Y.setCell ⟨b3, 0, none⟩ (.int .i64 n.V)).setCell ⟨b3, 1, none⟩ (.int .i64 n.S)).setCell ⟨b3, 2, none⟩ (.slice A1 n.fi.length a1)).setCell ⟨b3, 3, none⟩ (.slice B1 n.st.length b1)).setCell ⟨b3, 4, none⟩ (.slice C1 n.es.length c1)) := by
    intro b3 A1 B1 C1 a1 b1 c1 Y hP
    refine HK0 _ _ ?_
    have hQ := rev_after hP
    clear hP HK0 H1 H2 H3 hN0 hR0 hB0 hsz
    generalize (((((Y.setCell ⟨b3, 0, none⟩ (.int .i64 n.V)).setCell ⟨b3, 1, none⟩ (.int .i64 n.S)).setCell ⟨b3, 2, none⟩ (.slice A1 n.fi.length a1)).setCell ⟨b3, 3, none⟩ (.slice B1 n.st.length b1)).setCell ⟨b3, 4, none⟩ (.slice C1 n.es.length c1)) = Z at *
    obtain ⟨z0, z1, z2, z3, z4⟩ := hQ.nb.cells
    go_wp2
    clear z0 z1 z2 z3 z4
    have hQ0 : RevQ w n A B C a b c b3 A1 B1 C1 a1 b1 c1 (mixE n.es 0) Z := by rw [mix_zero]; exact hQ
    clear hQ
    go_loopw [23] (fun i wr => ∃ k : Nat, k ≤ n.es.length ∧ i = .int .i64 k ∧ RevQ w n A B C a b c b3 A1 B1 C1 a1 b1 c1 (mixE n.es k) wr) (fun i _ => n.es.length - (intOf i).toNat)
    case atStart => exact ⟨0, by omega, rfl, hQ0⟩
    case round =>
      clear hQ0
      obtain ⟨k, hk, rfl, hQ⟩ := hrel
      by_cases hlt : k < n.es.length
      · obtain ⟨hok, ad, rfl, had, hc⟩ := (hx.es.below hQ.bel) k hlt
        obtain ⟨q0, q1, q2, q3⟩ := four_at hc
        clear hc
        obtain ⟨g, c9, hv, _⟩ := Dg.own_somev hQ.o3 (Nat.lt_of_le_of_lt (Nat.zero_le k) hlt)
        injection hv with hv1 hv2 hv3
        subst hv1
        subst hv3
        have hF : ∀ X, Below wr.heap.size wr X → RevQ w n A B (some ad) a b c b3 A1 B1 (some ⟨g, 0, none⟩) a1 b1 c1 (mixE n.es (k + 1)) ((X.setCell ⟨g, k * 4, none⟩ (.int .i64 (ed n.es k).to)).setCell ⟨g, k * 4 + 1, none⟩ (.int .i64 (ed n.es k).fr)) := fun X hX => (hQ.below hX).flip hlt
        have HF := Lib.hid hF
        have hB4 := Boxed4.new wr 30 (.int .i64 (ed n.es k).fr) (.int .i64 (ed n.es k).to) (.int .u8 (ed n.es k).p) (.int .u8 (ed n.es k).q)
        have hrowlen : ∃ y0 y1, wr.cell? ⟨g, k * 4, none⟩ = some y0 ∧ wr.cell? ⟨g, k * 4 + 1, none⟩ = some y1 := by
          have h1 := hQ.o3.cellAt (k * 4) (by omega)
          have h2 := hQ.o3.cellAt (k * 4 + 1) (by omega)
          have hl := hQ.o3.1
          rw [List.getElem?_eq_getElem (by omega)] at h1 h2
          exact ⟨_, _, h1, h2⟩
        obtain ⟨y0, y1, hy0, hy1⟩ := hrowlen
        have hfz0 := hQ.o3.frozenAt (k * 4)
        have hfz1 := hQ.o3.frozenAt (k * 4 + 1)
        have hglt := (hQ.o3.lt g rfl).2
        have e3 : g ≠ b3 := fun e => hQ.r3.ne_row hQ.o3 (by decide) (by rw [← e]; rfl)
        have h3 := hQ.r3.below (bal (Below.refl wr.heap.size wr) (.cells #[.int .i64 (ed n.es k).fr, .int .i64 (ed n.es k).to, .int .u8 (ed n.es k).p, .int .u8 (ed n.es k).q] 30))
        clear hF hQ had
        generalize ed n.es k = x at *
        go_wp2
        have hbw := bal (Below.refl wr.heap.size wr) (.cells #[.int .i64 x.fr, .int .i64 x.to, .int .u8 x.p, .int .u8 x.q] 30)
        generalize World.alloc wr (.cells #[.int .i64 x.fr, .int .i64 x.to, .int .u8 x.p, .int .u8 x.q] 30) = X0 at *
        have hbd := stepB hbw (drew_below X0)
        have hS0 : (fun X : World => Blk X b3 (.int .i64 n.V) (.int .i64 n.S) (.slice A1 n.fi.length a1) (.slice B1 n.st.length b1) (.slice (some ⟨g, 0, none⟩) n.es.length c1) ∧ Boxed4 X wr.heap.size (.int .i64 x.fr) (.int .i64 x.to) (.int .u8 x.p) (.int .u8 x.q)) X0.drew := ⟨h3, hB4.below (drew_below X0)⟩
        have hi1 : (0 : Int) ≤ (k : Int) := by omega
        have hi2 : (k : Int) < (n.es.length : Int) := by omega
        clear h3 hB4 q0 q1 q2 q3 hok hbw
        refine wp_region_any (by kernel_rfl) ?_
        change wpAny _ _ _ _ _ _ _ (World.drew _)
        generalize X0.drew = X1 at *
        refine wpAny_head 13 13 (fun X : World => Blk X b3 (.int .i64 n.V) (.int .i64 n.S) (.slice A1 n.fi.length a1) (.slice B1 n.st.length b1) (.slice (some ⟨g, 0, none⟩) n.es.length c1) ∧ Boxed4 X wr.heap.size (.int .i64 x.fr) (.int .i64 x.to) (.int .u8 x.p) (.int .u8 x.q)) rfl rfl (by kernel_rfl) (by kernel_rfl) (by kernel_rfl) (fun hA => ?_)
        refine wpHead_take (i := 0) (v := ?_) (by kernel_rfl) hA (at_drop rfl) (by decide) (by kernel_rfl) (by kernel_rfl) (by kernel_rfl) (fun _ _ _ h => h) (Or.inl ⟨by rfl, ?_⟩) hS0 (fun hA => ?_)
        rotate_left
        · (intro w hSw; obtain ⟨s0, s1, s2, s3, s4⟩ := hSw.1.cells; obtain ⟨t0, t1, t2, t3⟩ := hSw.2.cells; go_simp <;> with_reducible rfl)
        simp only [Act.put, List.setIfInBounds_toArray, List.set_cons_zero, List.set_cons_succ]
        refine wpHead_take (i := 1) (v := ?_) (by kernel_rfl) hA (at_drop rfl) (by decide) (by kernel_rfl) (by kernel_rfl) (by kernel_rfl) (fun _ _ _ h => h) (Or.inl ⟨by rfl, ?_⟩) hS0 (fun hA => ?_)
        rotate_left
        · (intro w hSw; obtain ⟨s0, s1, s2, s3, s4⟩ := hSw.1.cells; obtain ⟨t0, t1, t2, t3⟩ := hSw.2.cells; go_simp <;> with_reducible rfl)
        simp only [Act.put, List.setIfInBounds_toArray, List.set_cons_zero, List.set_cons_succ]
        refine wpHead_take (i := 2) (v := ?_) (by kernel_rfl) hA (at_drop rfl) (by decide) (by kernel_rfl) (by kernel_rfl) (by kernel_rfl) (fun _ _ _ h => h) (Or.inl ⟨by rfl, ?_⟩) hS0 (fun hA => ?_)
        rotate_left
        · (intro w hSw; obtain ⟨s0, s1, s2, s3, s4⟩ := hSw.1.cells; obtain ⟨t0, t1, t2, t3⟩ := hSw.2.cells; go_simp <;> with_reducible rfl)
        simp only [Act.put, List.setIfInBounds_toArray, List.set_cons_zero, List.set_cons_succ]
        refine wpHead_take (i := 3) (v := ?_) (by kernel_rfl) hA (at_drop rfl) (by decide) (by kernel_rfl) (by kernel_rfl) (by kernel_rfl) (fun _ _ _ h => h) (Or.inl ⟨by rfl, ?_⟩) hS0 (fun hA => ?_)
        rotate_left
        · (intro w hSw; obtain ⟨s0, s1, s2, s3, s4⟩ := hSw.1.cells; obtain ⟨t0, t1, t2, t3⟩ := hSw.2.cells; go_simp <;> with_reducible rfl)
        simp only [Act.put, List.setIfInBounds_toArray, List.set_cons_zero, List.set_cons_succ]
        refine wpHead_take (i := 4) (v := ?_) (by kernel_rfl) hA (at_drop rfl) (by decide) (by kernel_rfl) (by kernel_rfl) (by kernel_rfl) (fun _ _ _ h => h) (Or.inl ⟨by rfl, ?_⟩) hS0 (fun hA => ?_)
        rotate_left
        · (intro w hSw; obtain ⟨s0, s1, s2, s3, s4⟩ := hSw.1.cells; obtain ⟨t0, t1, t2, t3⟩ := hSw.2.cells; go_simp <;> with_reducible rfl)
        simp only [Act.put, List.setIfInBounds_toArray, List.set_cons_zero, List.set_cons_succ]
        refine wpHead_take (i := 5) (v := ?_) (by kernel_rfl) hA (at_drop rfl) (by decide) (by kernel_rfl) (by kernel_rfl) (by kernel_rfl) (fun _ _ _ h => h) (Or.inl ⟨by rfl, ?_⟩) hS0 (fun hA => ?_)
        rotate_left
        · (intro w hSw; obtain ⟨s0, s1, s2, s3, s4⟩ := hSw.1.cells; obtain ⟨t0, t1, t2, t3⟩ := hSw.2.cells; go_simp <;> with_reducible rfl)
        simp only [Act.put, List.setIfInBounds_toArray, List.set_cons_zero, List.set_cons_succ]
        refine wpHead_take (i := 6) (v := ?_) (by kernel_rfl) hA (at_drop rfl) (by decide) (by kernel_rfl) (by kernel_rfl) (by kernel_rfl) (fun _ _ _ h => h) (Or.inl ⟨by rfl, ?_⟩) hS0 (fun hA => ?_)
        rotate_left
        · (intro w hSw; obtain ⟨s0, s1, s2, s3, s4⟩ := hSw.1.cells; obtain ⟨t0, t1, t2, t3⟩ := hSw.2.cells; go_simp <;> with_reducible rfl)
        simp only [Act.put, List.setIfInBounds_toArray, List.set_cons_zero, List.set_cons_succ]
        refine wpHead_take (i := 7) (v := ?_) (by kernel_rfl) hA (at_drop rfl) (by decide) (by kernel_rfl) (by kernel_rfl) (by kernel_rfl) (fun _ _ _ h => h) (Or.inl ⟨by rfl, ?_⟩) hS0 (fun hA => ?_)
        rotate_left
        · (intro w hSw; obtain ⟨s0, s1, s2, s3, s4⟩ := hSw.1.cells; obtain ⟨t0, t1, t2, t3⟩ := hSw.2.cells; go_simp <;> with_reducible rfl)
        simp only [Act.put, List.setIfInBounds_toArray, List.set_cons_zero, List.set_cons_succ]
        refine wpHead_take (i := 8) (v := ?_) (by kernel_rfl) hA (at_drop rfl) (by decide) (by kernel_rfl) (by kernel_rfl) (by kernel_rfl) (fun _ _ _ h => h) (Or.inl ⟨by rfl, ?_⟩) hS0 (fun hA => ?_)
        rotate_left
        · (intro w hSw; obtain ⟨s0, s1, s2, s3, s4⟩ := hSw.1.cells; obtain ⟨t0, t1, t2, t3⟩ := hSw.2.cells; go_simp <;> with_reducible rfl)
        simp only [Act.put, List.setIfInBounds_toArray, List.set_cons_zero, List.set_cons_succ]
        refine wpHead_take (i := 9) (v := ?_) (by kernel_rfl) hA (at_drop rfl) (by decide) (by kernel_rfl) (by kernel_rfl) (by kernel_rfl) (fun _ _ _ h => h) (Or.inl ⟨by rfl, ?_⟩) hS0 (fun hA => ?_)
        rotate_left
        · (intro w hSw; obtain ⟨s0, s1, s2, s3, s4⟩ := hSw.1.cells; obtain ⟨t0, t1, t2, t3⟩ := hSw.2.cells; go_simp <;> with_reducible rfl)
        simp only [Act.put, List.setIfInBounds_toArray, List.set_cons_zero, List.set_cons_succ]
        refine wpHead_take (i := 10) (v := ?_) (by kernel_rfl) hA (at_drop rfl) (by decide) (by kernel_rfl) (by kernel_rfl) (by kernel_rfl) (fun _ _ _ h => h) (Or.inl ⟨by rfl, ?_⟩) hS0 (fun hA => ?_)
        rotate_left
        · (intro w hSw; obtain ⟨s0, s1, s2, s3, s4⟩ := hSw.1.cells; obtain ⟨t0, t1, t2, t3⟩ := hSw.2.cells; go_simp <;> with_reducible rfl)
        simp only [Act.put, List.setIfInBounds_toArray, List.set_cons_zero, List.set_cons_succ]
        refine wpHead_take (i := 11) (v := ?_) (by kernel_rfl) hA (at_drop rfl) (by decide) (by kernel_rfl) (by kernel_rfl) (by kernel_rfl) (fun _ _ _ h => h) (Or.inl ⟨by rfl, ?_⟩) hS0 (fun hA => ?_)
        rotate_left
        · (intro w hSw; obtain ⟨s0, s1, s2, s3, s4⟩ := hSw.1.cells; obtain ⟨t0, t1, t2, t3⟩ := hSw.2.cells; go_simp <;> with_reducible rfl)
        simp only [Act.put, List.setIfInBounds_toArray, List.set_cons_zero, List.set_cons_succ]
        refine wpHead_ready (rs := [12]) (by kernel_rfl) (by decide) (AllHead.cons (at_drop rfl) (by decide) (fun KK hK => ?_) AllHead.nil)
        have hbk : X1.heap[g]? = wr.heap[g]? := hbd.block g hglt
        have v0 := (World.cell?_of_block (a := ⟨g, k * 4, none⟩) hbk).trans hy0
        have v1 : (X1.setCell ⟨g, k * 4, none⟩ (.int .i64 x.to)).cell? ⟨g, k * 4 + 1, none⟩ = some y1 := by
          rw [World.cell?_setCell_other _ _ _ _ (by intro e; injection e with _ e2 _; omega)]
          exact (World.cell?_of_block (a := ⟨g, k * 4 + 1, none⟩) hbk).trans hy1
        have f0 := (World.frozen?_of_block (a := ⟨g, k * 4, none⟩) hbk).trans hfz0
        have f1 : (X1.setCell ⟨g, k * 4, none⟩ (.int .i64 x.to)).frozen? ⟨g, k * 4 + 1, none⟩ = false := by
          rw [World.frozen?_setCell]
          exact (World.frozen?_of_block (a := ⟨g, k * 4 + 1, none⟩) hbk).trans hfz1
        have hS1 : (fun X : World => Blk X b3 (.int .i64 n.V) (.int .i64 n.S) (.slice A1 n.fi.length a1) (.slice B1 n.st.length b1) (.slice (some ⟨g, 0, none⟩) n.es.length c1) ∧ Boxed4 X wr.heap.size (.int .i64 x.fr) (.int .i64 x.to) (.int .u8 x.p) (.int .u8 x.q)) (X1.setCell ⟨g, k * 4, none⟩ (.int .i64 x.to)) := ⟨hS0.1.other e3 _, hS0.2.other (show g ≠ wr.heap.size by omega) _⟩
        go_simp
        refine hK _ _ hS1 ?_
        clear hK KK
        refine wpHead_end (by kernel_rfl) ?_
        simp only [List.drop_succ_cons, List.drop_zero]
        have hL := HF.out _ hbd
        clear hS0 hS1 hA hbk hfz0 hfz1 hy0 hy1 v0 f0
        go_wp2
        go_roundw
        case rel => exact ⟨k + 1, by omega, by go_num, hL⟩
        case measure => simp [intOf]; omega
      · have HM : Hid (mixE n.es k = n.es.map flipE) := by
          show _ = _
          rw [show k = n.es.length by omega, mix_all]
        have hd5 : decide ((k : Int) < (n.es.length : Int)) = false := by rw [decide_eq_false_iff_not]; omega
        obtain ⟨z0, z1, z2, z3, z4⟩ := hQ.r3.cells
        obtain ⟨⟨v0, f0⟩, ⟨v1, f1⟩, ⟨v2, f2⟩, ⟨v3, f3⟩, ⟨v4, f4⟩, hR5, hb5, o1, o2, o3⟩ := rev_last hQ
        rw [HM.out] at o3
        have HY := Lib.hid hR5.cells
        have HZ := Lib.hid (And.intro hb5 (And.intro o1 (And.intro o2 o3)))
        clear hQ HM hR5 hb5 o1 o2 o3
        generalize hbr : w.heap.size + 1 = br at *
        clear hbr
        have hlt2 : n.es.length ≤ k := by omega
        have hd6 : decide (k < n.es.length) = false := by rw [decide_eq_false_iff_not]; omega
        go_wp2
        obtain ⟨y0, y1, y2, y3, y4⟩ := HY.out
        obtain ⟨hb5, o1, o2, o3⟩ := HZ.out
        refine bodyPost_ret (v := .agg #[.int .i64 n.V, .int .i64 n.S, .slice A1 n.fi.length a1, .slice B1 n.st.length b1, .slice C1 n.es.length c1]) (by simp [results, Tryd.results67, go_sem, y0, y1, y2, y3, y4]) rfl ?_
        exact ⟨_, _, _, _, _, _, rfl, hb5, o1, o2, o3⟩
  have HRest := Lib.hid hrest
  clear hrest HK0
  have hlt0 := hN0.lt
  refine wp_region_any (by kernel_rfl) ?_
  change wpAny _ _ _ _ _ _ _ (World.drew _)
  have hS0 : (fun X : World => Blk X w.heap.size (.int .i64 n.V) (.int .i64 n.S) (.slice A n.st.length a) (.slice B n.fi.length b) (.slice C n.es.length c)) w1.drew := hN0
  have hlY : ∀ Y : World, Below w1.heap.size w1 Y → (fun X : World => Blk X w.heap.size (.int .i64 n.V) (.int .i64 n.S) (.slice A n.st.length a) (.slice B n.fi.length b) (.slice C n.es.length c)) Y := fun Y hY => hN0.below hY
  have hD : Below w1.heap.size w1 w1.drew := drew_below w1
  generalize w1.drew = X0 at *
  refine wpAny_head 15 15 (fun X : World => Blk X w.heap.size (.int .i64 n.V) (.int .i64 n.S) (.slice A n.st.length a) (.slice B n.fi.length b) (.slice C n.es.length c)) rfl rfl (by kernel_rfl) (by kernel_rfl) (by kernel_rfl) (fun hA => ?_)
  refine wpHead_take (i := 0) (v := ?_) (by kernel_rfl) hA (at_drop rfl) (by decide) (by kernel_rfl) (by kernel_rfl) (by kernel_rfl) (fun _ _ _ h => h) (Or.inl ⟨by rfl, ?_⟩) hS0 (fun hA => ?_)
  rotate_left
  · (intro w hSw; obtain ⟨s0, s1, s2, s3, s4⟩ := hSw.cells; go_simp <;> with_reducible rfl)
  simp only [Act.put, List.setIfInBounds_toArray, List.set_cons_zero, List.set_cons_succ]
  refine wpHead_take (i := 1) (v := ?_) (by kernel_rfl) hA (at_drop rfl) (by decide) (by kernel_rfl) (by kernel_rfl) (by kernel_rfl) (fun _ _ _ h => h) (Or.inl ⟨by rfl, ?_⟩) hS0 (fun hA => ?_)
  rotate_left
  · (intro w hSw; obtain ⟨s0, s1, s2, s3, s4⟩ := hSw.cells; go_simp <;> with_reducible rfl)
  simp only [Act.put, List.setIfInBounds_toArray, List.set_cons_zero, List.set_cons_succ]
  refine wpHead_take (i := 2) (v := ?_) (by kernel_rfl) hA (at_drop rfl) (by decide) (by kernel_rfl) (by kernel_rfl) (by kernel_rfl) (fun _ _ _ h => h) (Or.inl ⟨by rfl, ?_⟩) hS0 (fun hA => ?_)
  rotate_left
  · (intro w hSw; obtain ⟨s0, s1, s2, s3, s4⟩ := hSw.cells; go_simp <;> with_reducible rfl)
  simp only [Act.put, List.setIfInBounds_toArray, List.set_cons_zero, List.set_cons_succ]
  refine wpHead_take (i := 3) (v := ?_) (by kernel_rfl) hA (at_drop rfl) (by decide) (by kernel_rfl) (by kernel_rfl) (by kernel_rfl) (fun _ _ _ h => h) (Or.inl ⟨by rfl, ?_⟩) hS0 (fun hA => ?_)
  rotate_left
  · (intro w hSw; obtain ⟨s0, s1, s2, s3, s4⟩ := hSw.cells; go_simp <;> with_reducible rfl)
  simp only [Act.put, List.setIfInBounds_toArray, List.set_cons_zero, List.set_cons_succ]
  refine wpHead_take (i := 4) (v := ?_) (by kernel_rfl) hA (at_drop rfl) (by decide) (by kernel_rfl) (by kernel_rfl) (by kernel_rfl) (fun _ _ _ h => h) (Or.inl ⟨by rfl, ?_⟩) hS0 (fun hA => ?_)
  rotate_left
  · (intro w hSw; obtain ⟨s0, s1, s2, s3, s4⟩ := hSw.cells; go_simp <;> with_reducible rfl)
  simp only [Act.put, List.setIfInBounds_toArray, List.set_cons_zero, List.set_cons_succ]
  refine wpHead_take (i := 5) (v := ?_) (by kernel_rfl) hA (at_drop rfl) (by decide) (by kernel_rfl) (by kernel_rfl) (by kernel_rfl) (fun _ _ _ h => h) (Or.inl ⟨by rfl, ?_⟩) hS0 (fun hA => ?_)
  rotate_left
  · (intro w hSw; obtain ⟨s0, s1, s2, s3, s4⟩ := hSw.cells; go_simp <;> with_reducible rfl)
  simp only [Act.put, List.setIfInBounds_toArray, List.set_cons_zero, List.set_cons_succ]
  refine wpHead_take (i := 7) (v := ?_) (by kernel_rfl) hA (at_drop rfl) (by decide) (by kernel_rfl) (by kernel_rfl) (by kernel_rfl) (fun _ _ _ h => h) (Or.inl ⟨by rfl, ?_⟩) hS0 (fun hA => ?_)
  rotate_left
  · (intro w hSw; obtain ⟨s0, s1, s2, s3, s4⟩ := hSw.cells; go_simp <;> with_reducible rfl)
  simp only [Act.put, List.setIfInBounds_toArray, List.set_cons_zero, List.set_cons_succ]
  refine wpHead_take (i := 8) (v := ?_) (by kernel_rfl) hA (at_drop rfl) (by decide) (by kernel_rfl) (by kernel_rfl) (by kernel_rfl) (fun _ _ _ h => h) (Or.inl ⟨by rfl, ?_⟩) hS0 (fun hA => ?_)
  rotate_left
  · (intro w hSw; obtain ⟨s0, s1, s2, s3, s4⟩ := hSw.cells; go_simp <;> with_reducible rfl)
  simp only [Act.put, List.setIfInBounds_toArray, List.set_cons_zero, List.set_cons_succ]
  refine wpHead_take (i := 10) (v := ?_) (by kernel_rfl) hA (at_drop rfl) (by decide) (by kernel_rfl) (by kernel_rfl) (by kernel_rfl) (fun _ _ _ h => h) (Or.inl ⟨by rfl, ?_⟩) hS0 (fun hA => ?_)
  rotate_left
  · (intro w hSw; obtain ⟨s0, s1, s2, s3, s4⟩ := hSw.cells; go_simp <;> with_reducible rfl)
  simp only [Act.put, List.setIfInBounds_toArray, List.set_cons_zero, List.set_cons_succ]
  refine wpHead_take (i := 11) (v := ?_) (by kernel_rfl) hA (at_drop rfl) (by decide) (by kernel_rfl) (by kernel_rfl) (by kernel_rfl) (fun _ _ _ h => h) (Or.inl ⟨by rfl, ?_⟩) hS0 (fun hA => ?_)
  rotate_left
  · (intro w hSw; obtain ⟨s0, s1, s2, s3, s4⟩ := hSw.cells; go_simp <;> with_reducible rfl)
  simp only [Act.put, List.setIfInBounds_toArray, List.set_cons_zero, List.set_cons_succ]
  have hA6 := hnext hA (rs := [6, 14]) (i := 6) (by kernel_rfl) (by decide) (by decide)
  have hA14 := hnext hA (rs := [6, 14]) (i := 14) (by kernel_rfl) (by decide) (by decide)
  refine wpHead_ready (rs := [6, 14]) (by kernel_rfl) (by decide) (AllHead.cons (at_drop rfl) (by decide) (fun KK hK => ?_) (AllHead.cons (at_drop rfl) (by decide) (fun KK hK => ?_) AllHead.nil))
  · replace hA := hA6
    go_simp
    refine (H1.out X0 (stepB hB0 hD)).mono ?_
    rintro e X1 ⟨A1, a1, rfl, o1, d1⟩
    have HX1 := stepB hD d1
    refine hK _ _ (hlY _ HX1) ?_
    clear hK KK
    try simp only [Act.put, List.setIfInBounds_toArray, List.set_cons_zero, List.set_cons_succ]
    have hA9 := hnext hA (rs := [9, 14]) (i := 9) (by kernel_rfl) (by decide) (by decide)
    have hA14 := hnext hA (rs := [9, 14]) (i := 14) (by kernel_rfl) (by decide) (by decide)
    refine wpHead_ready (rs := [9, 14]) (by kernel_rfl) (by decide) (AllHead.cons (at_drop rfl) (by decide) (fun KK hK => ?_) (AllHead.cons (at_drop rfl) (by decide) (fun KK hK => ?_) AllHead.nil))
    · replace hA := hA9
      go_simp
      refine (H2.out X1 (stepB hB0 HX1)).mono ?_
      rintro e X2 ⟨B1, b1, rfl, o2, d2⟩
      have HX2 := stepB HX1 d2
      refine hK _ _ (hlY _ HX2) ?_
      clear hK KK
      try simp only [Act.put, List.setIfInBounds_toArray, List.set_cons_zero, List.set_cons_succ]
      have hA12 := hnext hA (rs := [12, 14]) (i := 12) (by kernel_rfl) (by decide) (by decide)
      have hA14 := hnext hA (rs := [12, 14]) (i := 14) (by kernel_rfl) (by decide) (by decide)
      refine wpHead_ready (rs := [12, 14]) (by kernel_rfl) (by decide) (AllHead.cons (at_drop rfl) (by decide) (fun KK hK => ?_) (AllHead.cons (at_drop rfl) (by decide) (fun KK hK => ?_) AllHead.nil))
      · replace hA := hA12
        go_simp
        refine (H3.out X2 (stepB hB0 HX2)).mono ?_
        rintro e X3 ⟨C1, c1, rfl, o3, d3⟩
        have HX3 := stepB HX2 d3
        refine hK _ _ (hlY _ HX3) ?_
        clear hK KK
        try simp only [Act.put, List.setIfInBounds_toArray, List.set_cons_zero, List.set_cons_succ]
        refine wpHead_take (i := 13) (v := ?_) (by kernel_rfl) hA (at_drop rfl) (by decide) (by kernel_rfl) (by kernel_rfl) (by kernel_rfl) (fun _ _ _ h => h) (Or.inl ⟨by rfl, ?_⟩) (hlY _ HX3) (fun hA => ?_)
        rotate_left
        · (intro w hSw; obtain ⟨s0, s1, s2, s3, s4⟩ := hSw.cells; go_simp <;> with_reducible rfl)
        simp only [Act.put, List.setIfInBounds_toArray, List.set_cons_zero, List.set_cons_succ]
        have hA14 := hnext hA (rs := [14]) (i := 14) (by kernel_rfl) (by decide) (by decide)
        refine wpHead_ready (rs := [14]) (by kernel_rfl) (by decide) (AllHead.cons (at_drop rfl) (by decide) (fun KK hK => ?_) AllHead.nil)
        replace hA := hA14
        go_simp
        have d4 := bal (Below.refl X3.heap.size X3) (.cells #[.int .i64 0, .int .i64 0, .slice none 0 0, .slice none 0 0, .slice none 0 0] 26)
        have r3 := Blk.new X3 (.int .i64 0) (.int .i64 0) (.slice none 0 0) (.slice none 0 0) (.slice none 0 0)
        generalize (World.alloc X3 (.cells #[.int .i64 0, .int .i64 0, .slice none 0 0, .slice none 0 0, .slice none 0 0] 26)) = X4 at *
        have HX4 := stepB HX3 d4
        refine hK _ _ (hlY _ HX4) ?_
        clear hK KK
        have hP : RevP w n A B C a b c X3.heap.size A1 B1 C1 a1 b1 c1 X4 := ⟨stepB hB0 HX4, hlY _ HX4, hR0.below HX4, r3, by have := HX3.size; omega, (ownsRow_mono (((o1.below d2).below d3).below d4) (stepB hB0 hD).size), (ownsRow_mono ((o2.below d3).below d4) (stepB hB0 HX1).size), (ownsRow_mono (o3.below d4) (stepB hB0 HX2).size)⟩
        have hR := HRest.out _ _ _ _ _ _ _ _ hP
        obtain ⟨z0, z1, z2, z3, z4⟩ := rev_stores hP
        clear hP hlY hN0 hR0 H1 H2 H3 HRest
        refine wpHead_end (by kernel_rfl) ?_
        simp only [List.drop_succ_cons, List.drop_zero]
        generalize X3.heap.size = b3 at *
        obtain ⟨y0, f0⟩ := z0
        obtain ⟨y1, f1⟩ := z1
        obtain ⟨y2, f2⟩ := z2
        obtain ⟨y3, f3⟩ := z3
        obtain ⟨y4, f4⟩ := z4
        go_wp2
        exact hR
      · replace hA := hA14
        go_simp
        have d3 := bal (Below.refl X2.heap.size X2) (.cells #[.int .i64 0, .int .i64 0, .slice none 0 0, .slice none 0 0, .slice none 0 0] 26)
        have r3 := Blk.new X2 (.int .i64 0) (.int .i64 0) (.slice none 0 0) (.slice none 0 0) (.slice none 0 0)
        generalize (World.alloc X2 (.cells #[.int .i64 0, .int .i64 0, .slice none 0 0, .slice none 0 0, .slice none 0 0] 26)) = X3 at *
        have HX3 := stepB HX2 d3
        refine hK _ _ (hlY _ HX3) ?_
        clear hK KK
        have hA12 := hnext hA (rs := [12]) (i := 12) (by kernel_rfl) (by decide) (by decide)
        refine wpHead_ready (rs := [12]) (by kernel_rfl) (by decide) (AllHead.cons (at_drop rfl) (by decide) (fun KK hK => ?_) AllHead.nil)
        replace hA := hA12
        go_simp
        refine (H3.out X3 (stepB hB0 HX3)).mono ?_
        rintro e X4 ⟨C1, c1, rfl, o3, d4⟩
        have HX4 := stepB HX3 d4
        refine hK _ _ (hlY _ HX4) ?_
        clear hK KK
        try simp only [Act.put, List.setIfInBounds_toArray, List.set_cons_zero, List.set_cons_succ]
        refine wpHead_take (i := 13) (v := ?_) (by kernel_rfl) hA (at_drop rfl) (by decide) (by kernel_rfl) (by kernel_rfl) (by kernel_rfl) (fun _ _ _ h => h) (Or.inl ⟨by rfl, ?_⟩) (hlY _ HX4) (fun hA => ?_)
        rotate_left
        · (intro w hSw; obtain ⟨s0, s1, s2, s3, s4⟩ := hSw.cells; go_simp <;> with_reducible rfl)
        simp only [Act.put, List.setIfInBounds_toArray, List.set_cons_zero, List.set_cons_succ]
        have hP : RevP w n A B C a b c X2.heap.size A1 B1 C1 a1 b1 c1 X4 := ⟨stepB hB0 HX4, hlY _ HX4, hR0.below HX4, (r3.below d4), by have := HX2.size; omega, (ownsRow_mono (((o1.below d2).below d3).below d4) (stepB hB0 hD).size), (ownsRow_mono ((o2.below d3).below d4) (stepB hB0 HX1).size), (ownsRow_mono o3 (stepB hB0 HX3).size)⟩
        have hR := HRest.out _ _ _ _ _ _ _ _ hP
        obtain ⟨z0, z1, z2, z3, z4⟩ := rev_stores hP
        clear hP hlY hN0 hR0 H1 H2 H3 HRest
        refine wpHead_end (by kernel_rfl) ?_
        simp only [List.drop_succ_cons, List.drop_zero]
        generalize X2.heap.size = b3 at *
        obtain ⟨y0, f0⟩ := z0
        obtain ⟨y1, f1⟩ := z1
        obtain ⟨y2, f2⟩ := z2
        obtain ⟨y3, f3⟩ := z3
        obtain ⟨y4, f4⟩ := z4
        go_wp2
        exact hR
    · replace hA := hA14
      go_simp
      have d2 := bal (Below.refl X1.heap.size X1) (.cells #[.int .i64 0, .int .i64 0, .slice none 0 0, .slice none 0 0, .slice none 0 0] 26)
      have r3 := Blk.new X1 (.int .i64 0) (.int .i64 0) (.slice none 0 0) (.slice none 0 0) (.slice none 0 0)
      generalize (World.alloc X1 (.cells #[.int .i64 0, .int .i64 0, .slice none 0 0, .slice none 0 0, .slice none 0 0] 26)) = X2 at *
      have HX2 := stepB HX1 d2
      refine hK _ _ (hlY _ HX2) ?_
      clear hK KK
      have hA9 := hnext hA (rs := [9]) (i := 9) (by kernel_rfl) (by decide) (by decide)
      refine wpHead_ready (rs := [9]) (by kernel_rfl) (by decide) (AllHead.cons (at_drop rfl) (by decide) (fun KK hK => ?_) AllHead.nil)
      replace hA := hA9
      go_simp
      refine (H2.out X2 (stepB hB0 HX2)).mono ?_
      rintro e X3 ⟨B1, b1, rfl, o2, d3⟩
      have HX3 := stepB HX2 d3
      refine hK _ _ (hlY _ HX3) ?_
      clear hK KK
      try simp only [Act.put, List.setIfInBounds_toArray, List.set_cons_zero, List.set_cons_succ]
      have hA12 := hnext hA (rs := [12]) (i := 12) (by kernel_rfl) (by decide) (by decide)
      refine wpHead_ready (rs := [12]) (by kernel_rfl) (by decide) (AllHead.cons (at_drop rfl) (by decide) (fun KK hK => ?_) AllHead.nil)
      replace hA := hA12
      go_simp
      refine (H3.out X3 (stepB hB0 HX3)).mono ?_
      rintro e X4 ⟨C1, c1, rfl, o3, d4⟩
      have HX4 := stepB HX3 d4
      refine hK _ _ (hlY _ HX4) ?_
      clear hK KK
      try simp only [Act.put, List.setIfInBounds_toArray, List.set_cons_zero, List.set_cons_succ]
      refine wpHead_take (i := 13) (v := ?_) (by kernel_rfl) hA (at_drop rfl) (by decide) (by kernel_rfl) (by kernel_rfl) (by kernel_rfl) (fun _ _ _ h => h) (Or.inl ⟨by rfl, ?_⟩) (hlY _ HX4) (fun hA => ?_)
      rotate_left
      · (intro w hSw; obtain ⟨s0, s1, s2, s3, s4⟩ := hSw.cells; go_simp <;> with_reducible rfl)
      simp only [Act.put, List.setIfInBounds_toArray, List.set_cons_zero, List.set_cons_succ]
      have hP : RevP w n A B C a b c X1.heap.size A1 B1 C1 a1 b1 c1 X4 := ⟨stepB hB0 HX4, hlY _ HX4, hR0.below HX4, ((r3.below d3).below d4), by have := HX1.size; omega, (ownsRow_mono (((o1.below d2).below d3).below d4) (stepB hB0 hD).size), (ownsRow_mono (o2.below d4) (stepB hB0 HX2).size), (ownsRow_mono o3 (stepB hB0 HX3).size)⟩
      have hR := HRest.out _ _ _ _ _ _ _ _ hP
      obtain ⟨z0, z1, z2, z3, z4⟩ := rev_stores hP
      clear hP hlY hN0 hR0 H1 H2 H3 HRest
      refine wpHead_end (by kernel_rfl) ?_
      simp only [List.drop_succ_cons, List.drop_zero]
      generalize X1.heap.size = b3 at *
      obtain ⟨y0, f0⟩ := z0
      obtain ⟨y1, f1⟩ := z1
      obtain ⟨y2, f2⟩ := z2
      obtain ⟨y3, f3⟩ := z3
      obtain ⟨y4, f4⟩ := z4
      go_wp2
      exact hR
  · replace hA := hA14
    go_simp
    have d1 := bal (Below.refl X0.heap.size X0) (.cells #[.int .i64 0, .int .i64 0, .slice none 0 0, .slice none 0 0, .slice none 0 0] 26)
    have r3 := Blk.new X0 (.int .i64 0) (.int .i64 0) (.slice none 0 0) (.slice none 0 0) (.slice none 0 0)
    generalize (World.alloc X0 (.cells #[.int .i64 0, .int .i64 0, .slice none 0 0, .slice none 0 0, .slice none 0 0] 26)) = X1 at *
    have HX1 := stepB hD d1
    refine hK _ _ (hlY _ HX1) ?_
    clear hK KK
    have hA6 := hnext hA (rs := [6]) (i := 6) (by kernel_rfl) (by decide) (by decide)
    refine wpHead_ready (rs := [6]) (by kernel_rfl) (by decide) (AllHead.cons (at_drop rfl) (by decide) (fun KK hK => ?_) AllHead.nil)
    replace hA := hA6
    go_simp
    refine (H1.out X1 (stepB hB0 HX1)).mono ?_
    rintro e X2 ⟨A1, a1, rfl, o1, d2⟩
    have HX2 := stepB HX1 d2
    refine hK _ _ (hlY _ HX2) ?_
    clear hK KK
    try simp only [Act.put, List.setIfInBounds_toArray, List.set_cons_zero, List.set_cons_succ]
    have hA9 := hnext hA (rs := [9]) (i := 9) (by kernel_rfl) (by decide) (by decide)
    refine wpHead_ready (rs := [9]) (by kernel_rfl) (by decide) (AllHead.cons (at_drop rfl) (by decide) (fun KK hK => ?_) AllHead.nil)
    replace hA := hA9
    go_simp
    refine (H2.out X2 (stepB hB0 HX2)).mono ?_
    rintro e X3 ⟨B1, b1, rfl, o2, d3⟩
    have HX3 := stepB HX2 d3
    refine hK _ _ (hlY _ HX3) ?_
    clear hK KK
    try simp only [Act.put, List.setIfInBounds_toArray, List.set_cons_zero, List.set_cons_succ]
    have hA12 := hnext hA (rs := [12]) (i := 12) (by kernel_rfl) (by decide) (by decide)
    refine wpHead_ready (rs := [12]) (by kernel_rfl) (by decide) (AllHead.cons (at_drop rfl) (by decide) (fun KK hK => ?_) AllHead.nil)
    replace hA := hA12
    go_simp
    refine (H3.out X3 (stepB hB0 HX3)).mono ?_
    rintro e X4 ⟨C1, c1, rfl, o3, d4⟩
    have HX4 := stepB HX3 d4
    refine hK _ _ (hlY _ HX4) ?_
    clear hK KK
    try simp only [Act.put, List.setIfInBounds_toArray, List.set_cons_zero, List.set_cons_succ]
    refine wpHead_take (i := 13) (v := ?_) (by kernel_rfl) hA (at_drop rfl) (by decide) (by kernel_rfl) (by kernel_rfl) (by kernel_rfl) (fun _ _ _ h => h) (Or.inl ⟨by rfl, ?_⟩) (hlY _ HX4) (fun hA => ?_)
    rotate_left
    · (intro w hSw; obtain ⟨s0, s1, s2, s3, s4⟩ := hSw.cells; go_simp <;> with_reducible rfl)
    simp only [Act.put, List.setIfInBounds_toArray, List.set_cons_zero, List.set_cons_succ]
    have hP : RevP w n A B C a b c X0.heap.size A1 B1 C1 a1 b1 c1 X4 := ⟨stepB hB0 HX4, hlY _ HX4, hR0.below HX4, (((r3.below d2).below d3).below d4), by have := hD.size; omega, (ownsRow_mono ((o1.below d3).below d4) (stepB hB0 HX1).size), (ownsRow_mono (o2.below d4) (stepB hB0 HX2).size), (ownsRow_mono o3 (stepB hB0 HX3).size)⟩
    have hR := HRest.out _ _ _ _ _ _ _ _ hP
    obtain ⟨z0, z1, z2, z3, z4⟩ := rev_stores hP
    clear hP hlY hN0 hR0 H1 H2 H3 HRest
    refine wpHead_end (by kernel_rfl) ?_
    simp only [List.drop_succ_cons, List.drop_zero]
    generalize X0.heap.size = b3 at *
    obtain ⟨y0, f0⟩ := z0
    obtain ⟨y1, f1⟩ := z1
    obtain ⟨y2, f2⟩ := z2
    obtain ⟨y3, f3⟩ := z3
    obtain ⟨y4, f4⟩ := z4
    go_wp2
    exact hR
end Go.Proofs.YteckkbjpeckjmaaDoor.Nf
