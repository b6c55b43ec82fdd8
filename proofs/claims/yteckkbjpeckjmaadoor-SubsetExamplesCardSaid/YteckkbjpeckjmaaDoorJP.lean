/- explore (package subset) over sets. -/
import Derived.Test.YteckkbjpeckjmaaDoorJX
import Derived.Deep.DeepCutAuto
import Derived.Deep.LoopGhost
import Derived.WalkMore
namespace Go.Proofs.YteckkbjpeckjmaaDoor.Sb.Xs
open Go Go.RowKit Go.Maps Go.Proofs.YteckkbjpeckjmaaDoor Go.Proofs.YteckkbjpeckjmaaDoor.Cb Go.Proofs.YteckkbjpeckjmaaDoor.Sb
open Go.Proofs.YteckkbjpeckjmaaDoor.Nf (zvs zvs_snoc info_int6 ret_int ret_b drew_below)
set_option linter.unusedVariables false
set_option linter.unusedSimpArgs false
set_option maxRecDepth 100000
/-- A change that leaves exploring's own blocks and all words. -/
theorem ExpS.frame {B : Nat} {w w' : World} {bt bn bf rb : Nat} {fv : Value} {F : List (List Nat)} (h : ExpS B w bt bn bf rb fv F) (hs : w.heap.size ≤ w'.heap.size) (gr : Nat) (hk : ∀ b, b < w.heap.size → b ≠ gr → w'.heap[b]? = w.heap[b]?)
    (h1 : bt ≠ gr ∧ bn ≠ gr ∧ bf ≠ gr ∧ rb ≠ gr) (h2 : fv.ownBlock ≠ some gr) {cs : Array Value} {fz : Nat × Nat} (h3 : w.heap[gr]? = some (Obj.cells cs 3 fz)) : ExpS B w' bt bn bf rb fv F := by
  obtain ⟨es, clock, hrb⟩ := h.m.obj
  obtain ⟨vs, ho, hv⟩ := h.o
  refine ⟨(hk _ (blk_lt h.t) h1.1).trans h.t, (hk _ (blk_lt h.n) h1.2.1).trans h.n, (hk _ (blk_lt h.f) h1.2.2.1).trans h.f, h.m.block (hk _ (blk_lt hrb) h1.2.2.2), ⟨vs, own_eq ho fun g hg => hk g (own_lt ho hg).2 (fun e => h2 (e ▸ hg)), fun i s hs' => ?_⟩, h.lo, h.ne⟩
  obtain ⟨u, h4, h5⟩ := hv i s hs'
  exact ⟨u, h4, R_keep h5 hs fun b cs' fz' hb => (hk b (blk_lt hb) (fun e => by rw [e, h3] at hb; exact absurd hb (by simp))).trans hb⟩
/-- One row so far: the numbers of the first j successors. -/
def rowC (F : List (List Nat)) (l : List (List Nat)) (j i : Nat) : Value := if i < j then (match l[i]? with | some s => .int .i64 (pos F s : Nat) | none => .int .i64 0) else .int .i64 0
/-- Inside a row. -/
structure InS (w0 : World) (B : Nat) (w : World) (fv rv : Value) (F l : List (List Nat)) (RL : List (List Int)) (A1 : Option Addr) (gr j : Nat) : Prop where
  e : ExpS B w B (B + 1 + 1 + 1) (B + 1) (B + 1 + 1) fv F
  r : RowsO (B + 4) w rv RL fun g => fv.ownBlock ≠ some g ∧ g ≠ gr
  q : w.heap[gr]? = some (.cells (cells l.length (rowC F l j)) 3 (0, 0))
  g : B + 4 ≤ gr ∧ fv.ownBlock ≠ some gr ∧ rv.ownBlock ≠ some gr
  x : RowsR R w A1 l ∧ ∀ ad, A1 = some ad → l ≠ [] → ad.block ≠ B + 1 ∧ ad.block ≠ B + 1 + 1 ∧ fv.ownBlock ≠ some ad.block ∧ ad.block ≠ gr
  i : ∀ i s, i < j → l[i]? = some s → s ∈ F
  b : Below B w0 w
theorem InS.step {w0 : World} {B : Nat} {w w2 : World} {fv rv : Value} {F l : List (List Nat)} {RL : List (List Int)} {A1 : Option Addr} {gr j : Nat} {s : (List Nat)} {e : Ending} (h : InS w0 B w fv rv F l RL A1 gr j) (hj : j < l.length) (hs : l[j] = s) (hn : NumPost B w B (B + 1 + 1 + 1) (B + 1) (B + 1 + 1) fv F s e w2) :
    e = .returned (.int .i64 (pos (add F s) s : Nat)) ∧ w2.heap[gr]? = some (.cells (cells l.length (rowC F l j)) 3 (0, 0)) ∧ ∃ fv', InS w0 B (w2.setCell ⟨gr, j, none⟩ (.int .i64 (pos (add F s) s : Nat))) fv' rv (add F s) l RL A1 gr (j + 1) := by
  obtain ⟨fv', he, hE, hb, hk, hob⟩ := hn
  have hsz := hb.size
  have hg := h.g
  have hgl := blk_lt h.q
  have hq2 : w2.heap[gr]? = some (.cells (cells l.length (rowC F l j)) 3 (0, 0)) := (hk gr hgl (by omega) (by omega) hg.2.1).trans h.q
  have hput : ∀ b, b ≠ gr → (w2.setCell ⟨gr, j, none⟩ (.int .i64 (pos (add F s) s : Nat))).heap[b]? = w2.heap[b]? := fun b hb => Below.heap_setCell _ _ _ b hb
  have hsize : (w2.setCell ⟨gr, j, none⟩ (.int .i64 (pos (add F s) s : Nat))).heap.size = w2.heap.size := by show (Array.modify _ _ _).size = _; rw [Array.size_modify]
  have hfg : ∀ b, b < w.heap.size → fv.ownBlock ≠ some b → fv'.ownBlock ≠ some b := fun b hb hne => by
    rcases hob with h1 | ⟨g, h1, h2⟩
    · rw [h1]; exact hne
    · rw [h1]; intro h3; injection h3 with h3; omega
  have hfr := hfg gr hgl hg.2.1
  have hpre := add_pre F s
  have hsm : s ∈ add F s := mem_add.2 (.inr rfl)
  refine ⟨he, hq2, fv', hE.frame (by omega) gr (fun b _ hb => hput b hb) ⟨by omega, by omega, by omega, by omega⟩ hfr hq2, ?_, ?_, ⟨hg.1, hfr, hg.2.2⟩, ⟨?_, fun ad ha hl0 => ?_⟩, fun i t hi ht => ?_, ?_⟩
  · refine h.r.frame (fun b hbl hB hcb => ?_) (fun b hbl _ hc => ⟨hfg b hbl hc.1, hc.2⟩)
    rcases hcb with hc | hr
    · exact (hput b hc.2).trans (hk b hbl (by omega) (by omega) hc.1)
    · have hbg : b ≠ gr := fun e => hg.2.2 (e ▸ hr)
      have hfb : fv.ownBlock ≠ some b := fun hf => by
        obtain ⟨_, _, cs, fz, hcs⟩ := h.r.own_ge hr
        obtain ⟨vs, ho, _⟩ := h.e.o
        exact own_ne hcs ho (by decide) hf
      exact (hput b hbg).trans (hk b hbl (by omega) (by omega) hfb)
  · rw [heap_put hq2, cells_set _ hj]
    congr 2
    exact cells_congr fun i hi => by
      unfold rowC
      by_cases e1 : i = j
      · subst e1
        rw [if_pos rfl, if_pos (by omega), List.getElem?_eq_getElem hj, hs]
      · rw [if_neg e1]
        by_cases e2 : i < j
        · rw [if_pos e2, if_pos (by omega), List.getElem?_eq_getElem hi]
          show Value.int .i64 _ = Value.int .i64 _
          rw [idx_pre hpre (h.i i _ e2 (List.getElem?_eq_getElem hi))]
        · rw [if_neg e2, if_neg (by omega)]
  · intro i t ht
    obtain ⟨ad, u, ha, hlt, hc, hr⟩ := h.x.1 i t ht
    have hl0 : l ≠ [] := fun e => by rw [e] at hj; exact absurd hj (by simp)
    obtain ⟨n1, n2, n3, n4⟩ := h.x.2 ad ha hl0
    refine ⟨ad, u, ha, by omega, ?_, R_keep hr (by omega) fun b cs fz hbb => ?_⟩
    · rw [← hc]
      exact World.cell?_of_block (by rw [addr_block]; exact (hput _ n4).trans (hk _ hlt n1 n2 n3))
    · have h1 : b ≠ B + 1 := fun e => by have := h.e.f; rw [← e, hbb] at this; exact absurd this (by simp)
      have h2 : b ≠ B + 1 + 1 := fun e => by obtain ⟨es, clk, hrb⟩ := h.e.m.obj; rw [← e, hbb] at hrb; cases hrb
      have h3 : fv.ownBlock ≠ some b := by obtain ⟨vs, ho, _⟩ := h.e.o; exact own_ne hbb ho (by decide)
      have h4 : b ≠ gr := fun e => by rw [e, h.q] at hbb; exact absurd hbb (by simp)
      exact (hput b h4).trans ((hk b (blk_lt hbb) h1 h2 h3).trans hbb)
  · obtain ⟨n1, n2, n3, n4⟩ := h.x.2 ad ha hl0
    have hlt : ad.block < w.heap.size := by
      cases l with
      | nil => exact absurd rfl hl0
      | cons t l =>
        obtain ⟨ad', u, ha', hlt, _⟩ := h.x.1 0 t rfl
        rw [ha] at ha'
        cases ha'
        exact hlt
    exact ⟨n1, n2, hfg _ hlt n3, n4⟩
  · by_cases e1 : i = j
    · subst e1
      rw [List.getElem?_eq_getElem hj, hs] at ht
      cases ht
      exact hsm
    · exact hpre.subset (h.i i t (by omega) ht)
  · exact ((h.b.trans hb)).setCell (p := ⟨gr, j, none⟩) (by show B ≤ gr; omega) _
/-- What a state's successors are, as a slice. -/
def SucR (B : Nat) (X : World) (L : List (List Nat)) (e : Ending) (w' : World) : Prop :=
  ∃ A c, e = .returned (.slice A L.length c) ∧ RowsR R w' A L ∧ Below X.heap.size X w' ∧ ∀ ad, A = some ad → L ≠ [] → ad.block < B ∨ X.heap.size ≤ ad.block
/-- At the head of the queue. -/
structure HdS (w0 : World) (B : Nat) (succ : (List Nat) → List (List Nat)) (bud : Nat) (RES : Option (List (List Nat))) (Pv : (List Nat) → Prop) (w : World) (rv fv : Value) (F : List (List Nat)) (r : Nat) : Prop where
  e : ExpS B w B (B + 1 + 1 + 1) (B + 1) (B + 1 + 1) fv F
  ro : RowsO (B + 4) w rv (nums succ F r) fun g => fv.ownBlock ≠ some g
  h : r ≤ F.length ∧ F.length ≤ bud
  s : Shut succ F r
  x : expl succ bud (bud + 1 - r) r F = RES
  p : ∀ s ∈ F, Pv s
  b : Below B w0 w
/-- What exploring leaves. -/
def ExplPost (w0 : World) (succ : (List Nat) → List (List Nat)) (bud : Nat) (RES : Option (List (List Nat))) (e : Ending) (w' : World) : Prop :=
  (RES = none ∧ e = .returned (.tuple #[.slice none 0 0, .slice none 0 0, .bool false]) ∧ Below w0.heap.size w0 w') ∨
  ∃ F fv rv, RES = some F ∧ e = .returned (.tuple #[fv, rv, .bool true]) ∧ (∃ vs : List Value, w'.ownsRow w0.heap.size 41 1 fv F.length vs ∧ ∀ (i : Nat) (s : (List Nat)), F[i]? = some s → ∃ u : Value, vs[i]? = some u ∧ R w' u s) ∧ RowsO (w0.heap.size + 4) w' rv (nums succ F F.length) (fun g => fv.ownBlock ≠ some g) ∧ Below w0.heap.size w0 w'
theorem HdS.inner {w0 : World} {B : Nat} {succ : (List Nat) → List (List Nat)} {bud : Nat} {RES : Option (List (List Nat))} {Pv : (List Nat) → Prop} {w w1 : World} {rv fv : Value} {F : List (List Nat)} {r : Nat} (h : HdS w0 B succ bud RES Pv w rv fv F r) {A1 : Option Addr} {l : List (List Nat)} (hx : RowsR R w1 A1 l) (hb : Below w.heap.size w w1) (ha : ∀ ad, A1 = some ad → l ≠ [] → ad.block < B ∨ w.heap.size ≤ ad.block) :
    InS w0 B (w1.alloc (.cells (cells l.length fun _ => .int .i64 0) 3)) fv rv F l (nums succ F r) A1 w1.heap.size 0 := by
  have hE := h.e.below hb
  have hE2 := hE.below (bal (Below.refl _ _) (.cells (cells l.length fun _ => .int .i64 0) 3))
  have hsz := hb.size
  have hlo := h.e.lo
  obtain ⟨es, clk, hrb⟩ := h.e.m.obj
  have hl2 := blk_lt hrb
  have hln := blk_lt h.e.n
  obtain ⟨vs, ho, _⟩ := h.e.o
  refine ⟨hE2, ?_, ?_, ⟨by omega, fun e => ?_, fun e => ?_⟩, ⟨RowsR.below (R := R) (fun w w' v s h1 h2 => R_below h1 h2) hx (bal (Below.refl _ _) _), fun ad h1 h2 => ?_⟩, fun i s hi => absurd hi (by omega), ?_⟩
  · refine (h.ro.frame (w' := w1) (C' := fun g => fv.ownBlock ≠ some g ∧ g ≠ w1.heap.size) (fun b hbl _ _ => hb.block b hbl) (fun b hbl _ hc => ⟨hc, by omega⟩)).frame (fun b hbl _ _ => Below.heap_alloc w1 _ b hbl) (fun b _ _ hc => hc)
  · rw [World.alloc_heap_new]
    congr 2
  · have := (own_lt ho e).2; omega
  · have := (h.ro.own_ge e).2.1; omega
  · have hlt : ad.block < w1.heap.size := by
      cases l with
      | nil => exact absurd rfl h2
      | cons t l =>
        obtain ⟨ad', u, ha', hlt, _⟩ := hx 0 t rfl
        rw [h1] at ha'
        cases ha'
        exact hlt
    have hne : fv.ownBlock ≠ some ad.block := fun e => by
      have h3 := own_lt ho e
      rcases ha ad h1 h2 with h4 | h4 <;> omega
    rcases ha ad h1 h2 with h4 | h4
    · exact ⟨by omega, by omega, hne, by omega⟩
    · exact ⟨by omega, by omega, hne, by omega⟩
  · exact (h.b.trans (hb.mono (by omega))).alloc (by omega) _
theorem ExpS.at_ {B : Nat} {w : World} {bt bn bf rb : Nat} {fv : Value} {F : List (List Nat)} (h : ExpS B w bt bn bf rb fv F) {r : Nat} (hr : r < F.length) : ∃ ad c u, fv = .slice (some ad) F.length c ∧ w.cell? (ad.add r) = some u ∧ R w u F[r] := by
  obtain ⟨vs, ho, hv⟩ := h.o
  obtain ⟨u, hu, hR⟩ := hv r _ (List.getElem?_eq_getElem hr)
  obtain ⟨A, c, e, _⟩ := Ap.own_form ho
  subst e
  have hvals := Vals.of_own (f := fun j => (vs.getD j (.int .i64 0))) ho fun j hj => by
    have : j < vs.length := by have := ho.1; simp at this; omega
    rw [List.getD_eq_getElem?_getD, List.getElem?_eq_getElem this]; rfl
  obtain ⟨ad, e, hc⟩ := hvals.at_ hr
  subst e
  refine ⟨ad, c, u, rfl, ?_, hR⟩
  rw [hc, List.getD_eq_getElem?_getD, hu]
  rfl
theorem ExpS.grown {B : Nat} {w Z : World} {fv rv : Value} {F : List (List Nat)} {L : List (List Int)} {C : Nat → Prop} (h : ExpS B w B (B + 1 + 1 + 1) (B + 1) (B + 1 + 1) fv F) (hr : RowsO (B + 4) w rv L C) {tmp : Obj} (hg : (w.alloc tmp).grownBy Z rv.ownBlock) : ExpS B Z B (B + 1 + 1 + 1) (B + 1) (B + 1 + 1) fv F := by
  obtain ⟨es, clock, hrb⟩ := h.m.obj
  obtain ⟨vs, ho, hv⟩ := h.o
  have hk : ∀ b, b < w.heap.size → rv.ownBlock ≠ some b → Z.heap[b]? = w.heap[b]? := fun b hb hn => (hg.block b (by simp; omega) (fun e => hn e.symm)).trans (Below.heap_alloc w tmp b hb)
  have hlow : ∀ b, b < B + 4 → rv.ownBlock ≠ some b := fun b hb e => by have := (hr.own_ge e).1; omega
  have hsz : w.heap.size ≤ Z.heap.size := by have := hg.size; simp at this; omega
  refine ⟨(hk _ (blk_lt h.t) (hlow _ (by omega))).trans h.t, (hk _ (blk_lt h.n) (hlow _ (by omega))).trans h.n, (hk _ (blk_lt h.f) (hlow _ (by omega))).trans h.f, h.m.block (hk _ (blk_lt hrb) (hlow _ (by omega))), ⟨vs, own_eq ho fun g hg' => hk g (own_lt ho hg').2 (fun e => ?_), fun i s hs' => ?_⟩, h.lo, h.ne⟩
  · obtain ⟨_, _, cs, fz, hcs⟩ := hr.own_ge e
    exact own_ne hcs ho (by decide) hg'
  · obtain ⟨u, h4, h5⟩ := hv i s hs'
    exact ⟨u, h4, R_keep h5 hsz fun b cs' fz' hb => (hk b (blk_lt hb) (fun e => by obtain ⟨_, _, cs, fz, hcs⟩ := hr.own_ge e; rw [hcs] at hb; exact absurd hb (by simp))).trans hb⟩
theorem rowC_all (F l : List (List Nat)) : cells l.length (rowC F l l.length) = (zvs (l.map fun s => (pos F s : Int))).toArray := by
  unfold cells zvs
  congr 1
  refine List.ext_getElem (by simp) fun i h1 h2 => ?_
  simp at h1 h2 ⊢
  unfold rowC
  rw [if_pos h1, List.getElem?_eq_getElem h1]
theorem InS.next {w0 : World} {B : Nat} {w Z : World} {fv rv rv' : Value} {F l : List (List Nat)} {RL : List (List Int)} {A1 : Option Addr} {gr : Nat} (h : InS w0 B w fv rv F l RL A1 gr l.length) {Q : List (Nat × List Int)} {tmp : Obj} (e : Q.map (fun q => q.2) = RL) (hq : ∀ q ∈ Q, B + 4 ≤ q.1 ∧ (fv.ownBlock ≠ some q.1 ∧ q.1 ≠ gr) ∧ w.heap[q.1]? = some (Obj.cells (zvs q.2).toArray 3 (0, 0))) (hr : w.ownsRow (B + 4) 23 1 rv RL.length (rov Q))
    (hown : Z.ownsRow (B + 4) 23 1 rv' (RL.length + 1) (rov Q ++ [.slice (some ⟨gr, 0, none⟩) l.length l.length])) (hg : (w.alloc tmp).grownBy Z rv.ownBlock) :
    ExpS B Z B (B + 1 + 1 + 1) (B + 1) (B + 1 + 1) fv F ∧ RowsO (B + 4) Z rv' (RL ++ [l.map fun s => (pos F s : Int)]) (fun g => fv.ownBlock ≠ some g) ∧ Below B w0 Z := by
  have hlen : (l.map fun s => (pos F s : Int)).length = l.length := List.length_map _
  refine ⟨h.e.grown h.r hg, RowsO.push (C := fun g => fv.ownBlock ≠ some g ∧ g ≠ gr) (gr := gr) e hq hr h.g.1 (by rw [h.q, rowC_all]) (by rw [hlen]; exact hown) hg (fun b _ hc => hc.1) h.g.2.1, ?_⟩
  have hlo := h.e.lo
  have hs := blk_lt h.e.f
  refine (h.b.alloc (by omega) tmp).grown hg (by simp; omega) (fun q hq' => ?_)
  have := (own_lt hr hq').1
  omega
def lenV : Value → Nat
  | .slice _ n _ => n
  | _ => 0
theorem HdS.fin {w0 : World} {succ : (List Nat) → List (List Nat)} {bud : Nat} {RES : Option (List (List Nat))} {Pv : (List Nat) → Prop} {w : World} {rv fv : Value} {F : List (List Nat)} {r : Nat} (h : HdS w0 w0.heap.size succ bud RES Pv w rv fv F r) (hr : ¬ r < F.length) : ExplPost w0 succ bud RES (.returned (.tuple #[fv, rv, .bool true])) (w.setCell ⟨w0.heap.size + 1, 0, none⟩ fv) := by
  have hrF : r = F.length := by have := h.h; omega
  subst hrF
  have hres : RES = some F := by
    rw [← h.x, show bud + 1 - F.length = (bud - F.length) + 1 by have := h.h; omega]
    exact expl_end succ bud (Nat.le_refl _)
  obtain ⟨vs, ho, hv⟩ := h.e.o
  have hput : ∀ b, b ≠ w0.heap.size + 1 → (w.setCell ⟨w0.heap.size + 1, 0, none⟩ fv).heap[b]? = w.heap[b]? := fun b hb => Below.heap_setCell _ _ _ b hb
  have hsize : (w.setCell ⟨w0.heap.size + 1, 0, none⟩ fv).heap.size = w.heap.size := by show (Array.modify _ _ _).size = _; rw [Array.size_modify]
  refine .inr ⟨F, fv, rv, hres, rfl, ⟨vs, row_put ho (own_ne h.e.f ho (by decide)) _ _, fun i s hs => ?_⟩, h.ro.frame (fun b _ hB _ => hput b (by omega)) (fun b _ _ hc => hc), h.b.setCell (p := ⟨w0.heap.size + 1, 0, none⟩) (by show w0.heap.size ≤ w0.heap.size + 1; omega) _⟩
  obtain ⟨u, h4, h5⟩ := hv i s hs
  exact ⟨u, h4, R_keep h5 (by omega) fun b cs fz hb => (hput b (fun e => by rw [e, h.e.f] at hb; exact absurd hb (by simp))).trans hb⟩
theorem HdS.over {w0 : World} {B : Nat} {succ : (List Nat) → List (List Nat)} {bud : Nat} {RES : Option (List (List Nat))} {Pv : (List Nat) → Prop} {w : World} {rv fv : Value} {F : List (List Nat)} {r : Nat} (h : HdS w0 B succ bud RES Pv w rv fv F r) (hr : r < F.length) {j : Nat} (ho : bud < (rowF F ((succ F[r]).take j)).length) : RES = none := by
  rw [← h.x, show bud + 1 - r = (bud - r) + 1 by have := h.h; omega]
  refine expl_over succ bud hr (Nat.lt_of_lt_of_le ho ?_)
  have := rowF_len_mono (l := succ F[r]) (F := F) (Nat.min_le_right j (succ F[r]).length)
  rw [List.take_length] at this
  rcases Nat.le_total j (succ F[r]).length with h1 | h1
  · rwa [Nat.min_eq_left h1] at this
  · rw [List.take_of_length_le h1]; exact Nat.le_refl _
theorem HdS.next {w0 : World} {B : Nat} {succ : (List Nat) → List (List Nat)} {bud : Nat} {RES : Option (List (List Nat))} {Pv : (List Nat) → Prop} {w Z : World} {rv rv' fv fv' : Value} {F : List (List Nat)} {r : Nat} (h : HdS w0 B succ bud RES Pv w rv fv F r) (hr : r < F.length) (hP : ∀ s, Pv s → ∀ t ∈ succ s, Pv t) (ho : (rowF F (succ F[r])).length ≤ bud)
    (hE : ExpS B Z B (B + 1 + 1 + 1) (B + 1) (B + 1 + 1) fv' (rowF F (succ F[r]))) (hR : RowsO (B + 4) Z rv' (nums succ F r ++ [(succ F[r]).map fun s => (pos (rowF F (succ F[r])) s : Int)]) (fun g => fv'.ownBlock ≠ some g)) (hb : Below B w0 Z) : HdS w0 B succ bud RES Pv Z rv' fv' (rowF F (succ F[r])) (r + 1) := by
  have hle := (rowF_pre (succ F[r]) F).length_le
  refine ⟨hE, ?_, ⟨by omega, ho⟩, h.s.step succ hr, ?_, fun s hs => ?_, hb⟩
  · rw [nums_step succ h.s hr]
    exact hR
  · rw [← h.x, show bud + 1 - r = (bud + 1 - (r + 1)) + 1 by have := h.h; omega]
    exact (expl_step succ bud hr ho).symm
  · rcases mem_rowF.1 hs with h1 | h1
    · exact h.p s h1
    · exact hP _ (h.p _ (List.getElem_mem hr)) s h1
set_option maxHeartbeats 16000000 in
theorem explore_any (w : World) (u0 : Value) (s0 : (List Nat)) (succ : (List Nat) → List (List Nat)) (bv : Value) (bud : Nat) (Pv : (List Nat) → Prop) (hv : ∀ s, Pv s → P s) (hR : R w u0 s0) (h0 : Pv s0) (hP : ∀ s, Pv s → ∀ t ∈ succ s, Pv t) (hL : ∀ s, Pv s → (succ s).length ≤ 1000) (hb1 : 1 ≤ bud) (hb2 : bud ≤ 10000) (hT : Tabs2 w)
    (HSu : ∀ X, Below w.heap.size w X → ∀ u s, R X u s → Pv s → Calls Tryd.prog 65 #[bv, u] X (SucR w.heap.size X (succ s))) :
    Calls Tryd.prog 63 #[u0, .func (.func 65) #[bv] #[], .func (.func 66) #[] #[], .int .i64 bud] w (ExplPost w succ bud (found succ bud s0)) := by
  obtain ⟨RES, hRES⟩ : ∃ RES, RES = found succ bud s0 := ⟨_, rfl⟩
  have HRES := Lib.hid hRES
  rw [← hRES]
  clear hRES
  have HNm := Lib.hid fun X (hX : Below w.heap.size w X) fv F u s (h : ExpS w.heap.size X w.heap.size (w.heap.size + 1 + 1 + 1) (w.heap.size + 1) (w.heap.size + 1 + 1) fv F) (hr : R X u s) (hs : P s) (hF : ∀ t ∈ F, P t) (hl : F.length ≤ 100000) => number_any w.heap.size X w.heap.size (w.heap.size + 1 + 1 + 1) (w.heap.size + 1) (w.heap.size + 1 + 1) fv F u s h hX.size hr hs hF hl (hT.below hX)
  have HSu' := Lib.hid HSu
  clear HSu hT
  have hmm := @run_makeMap Tryd.prog
  go_enter Tryd.func63, Tryd.ntmps63
  go_wp2
  go_step3
  go_upto_region 3 with fail
  have hE0 : ExpS w.heap.size ((((w.alloc (.cells #[.func (.func 66) #[] #[]] 111)).alloc (.cells #[.slice none 0 0] 104)).alloc (.map #[] 0)).alloc (.cells #[.map (some (w.heap.size + 1 + 1))] 142)) w.heap.size (w.heap.size + 1 + 1 + 1) (w.heap.size + 1) (w.heap.size + 1 + 1) (.slice none 0 0) [] := by
    refine ⟨?_, ?_, ?_, ?_, ⟨[], ⟨rfl, .inl ⟨rfl, rfl⟩⟩, fun i s h => by simp at h⟩, ⟨by omega, by omega, by omega, by omega⟩, ⟨by omega, by omega⟩⟩
    · exact box_old (box_old (box_old (World.alloc_heap_new w _)))
    · have := World.alloc_heap_new (((w.alloc (.cells #[.func (.func 66) #[] #[]] 111)).alloc (.cells #[.slice none 0 0] 104)).alloc (.map #[] 0)) (.cells #[.map (some (w.heap.size + 1 + 1))] 142)
      simpa using this
    · have := World.alloc_heap_new (w.alloc (.cells #[.func (.func 66) #[] #[]] 111)) (.cells #[.slice none 0 0] 104)
      rw [World.size_alloc] at this
      exact box_old (box_old this)
    · have := NumM.made ((w.alloc (.cells #[.func (.func 66) #[] #[]] 111)).alloc (.cells #[.slice none 0 0] 104))
      simp only [World.size_alloc] at this
      exact this.block (Below.heap_alloc _ _ _ (by simp))
  have hb0 : Below w.heap.size w ((((w.alloc (.cells #[.func (.func 66) #[] #[]] 111)).alloc (.cells #[.slice none 0 0] 104)).alloc (.map #[] 0)).alloc (.cells #[.map (some (w.heap.size + 1 + 1))] 142)) := bal (bal (bal (bal (Below.refl _ _) _) _) _) _
  have hR0 := R_below hR hb0
  generalize ((((w.alloc (.cells #[.func (.func 66) #[] #[]] 111)).alloc (.cells #[.slice none 0 0] 104)).alloc (.map #[] 0)).alloc (.cells #[.map (some (w.heap.size + 1 + 1))] 142)) = W0 at *
  have HN0 := Lib.hid (HNm.out W0 hb0 _ _ _ _ hE0 hR0 (hv _ h0) (fun t ht => by cases ht) (by simp))
  clear hE0 hR hR0
  have HB0 := Lib.hid hb0
  clear hb0
  go_wp2_with (go_at_call 99; ((with_reducible refine HN0.out.mono ?_); rintro e w2 ⟨fv, rfl, hE1, hb1', _, _⟩); have HE1 := Lib.hid hE1; have HB1 := Lib.hid hb1'; clear hE1 hb1')
  go_step3
  have hH0 : HdS w w.heap.size succ bud RES Pv w2 (.slice none 0 0) fv (add [] s0) 0 := by
    have hadd : add [] s0 = [s0] := if_neg (by simp)
    refine ⟨HE1.out, RowsO.nil _ _ _, ⟨Nat.zero_le _, by rw [hadd]; exact hb1⟩, fun s hs => absurd hs (by simp), ?_, fun s hs => ?_, HB0.out.trans HB1.out⟩
    · rw [HRES.out, hadd]; rfl
    · rw [hadd, List.mem_singleton] at hs
      rw [hs]; exact h0
  clear HE1 HB1 HB0 HN0
  go_wp2
  go_loopw [9] (fun rs wr => ∃ (F : List (List Nat)) (fv rv : Value) (r : Nat), rv = rs ∧ HdS w w.heap.size succ bud RES Pv wr rv fv F r) (fun rs _ => bud + 1 - lenV rs)
  case atStart => exact ⟨_, fv, _, 0, rfl, hH0⟩
  case round =>
    clear hH0
    obtain ⟨F, fv, rv, r, rfl, hH⟩ := hrel
    have hrn := nums_len succ F r hH.h.1
    obtain ⟨Ar, cr, hrv, _⟩ := hH.ro.form
    rw [hrn] at hrv
    subst hrv
    obtain ⟨vs0, hvo, _⟩ := hH.e.o
    obtain ⟨Af, cf, hfv, _⟩ := Ap.own_form hvo
    subst hfv
    have cF : wr.cell? ⟨w.heap.size + 1, 0, none⟩ = some (.slice Af F.length cf) := by simp [World.cell?, hH.e.f]
    have hFb := hH.h.2
    clear hvo
    by_cases hlt : r < F.length
    · obtain ⟨ad, cA, u, hA, hcu, hRu⟩ := hH.e.at_ hlt
      injection hA with hA1 hA2 hA3
      subst hA1 hA3
      have hPs := hH.p _ (List.getElem_mem hlt)
      have HCall := Lib.hid (HSu'.out wr hH.b _ _ hRu hPs)
      have hlt2 : (r : Int) < (F.length : Int) := by omega
      have hlk := hL _ hPs
      have hmi := made_ints (succ F[r]).length (by omega)
      have HH := Lib.hid hH
      have hOver := Lib.hid fun j (ho : bud < (rowF F ((succ F[r]).take j)).length) => hH.over hlt ho
      have hFP := Lib.hid fun j t (ht : t ∈ rowF F ((succ F[r]).take j)) => show Pv t by
        rcases mem_rowF.1 ht with h1 | h1
        · exact hH.p t h1
        · exact hP _ hPs t (List.mem_of_mem_take h1)
      have hLP := Lib.hid fun t (ht : t ∈ succ F[r]) => hP _ hPs t ht
      clear hRu hH hrn
      obtain ⟨l, hl⟩ : ∃ l, l = succ F[r] := ⟨_, rfl⟩
      have HL := Lib.hid hl
      rw [← hl] at HCall hlk hmi hOver hFP hLP
      clear hl hPs
      go_wp2_with (first
        | (go_at_call 65; ((with_reducible refine HCall.out.mono ?_); rintro e w1 ⟨A1, c1, rfl, hx1, hbx1, hax1⟩); have HIn := Lib.hid (HH.out.inner hx1 hbx1 hax1); clear hx1 hbx1 hax1))
      have hIn := HIn.out
      clear HIn hmi cF hcu HCall
      generalize w1.alloc (.cells (cells l.length fun _ => .int .i64 0) 3) = W2 at *
      generalize w1.heap.size = gr at *
      obtain ⟨rv, hrv⟩ : ∃ rv, rv = Value.slice Ar r cr := ⟨_, rfl⟩
      rw [← hrv] at hIn
      have hHH := HH.out
      rw [← hrv] at hHH
      have HH2 := Lib.hid hHH
      have HRV := Lib.hid hrv
      clear HH hHH hrv
      obtain ⟨fv1, hfv1⟩ : ∃ fv1, fv1 = Value.slice (some ad) F.length cf := ⟨_, rfl⟩
      rw [← hfv1] at hIn HH2
      clear hfv1
      have hPl := HL.out
      go_loopw [39] (fun iv wj => ∃ (j : Nat) (fj : Value), j ≤ l.length ∧ iv = .int .i64 j ∧ (rowF F (l.take j)).length ≤ bud ∧ InS w w.heap.size wj fj rv (rowF F (l.take j)) l (nums succ F r) A1 gr j) (fun iv _ => l.length - (intOf iv).toNat)
      case atStart => exact ⟨0, fv1, Nat.zero_le _, rfl, by simpa [rowF] using hFb, by simpa [rowF] using hIn⟩
      case round =>
        clear hIn hPl
        obtain ⟨j, fj, hj, rfl, hjb, hI⟩ := hrel
        by_cases hjl : j < l.length
        · obtain ⟨ad1, uj, hA1, hadl, hcj, hRj⟩ := hI.x.1 j l[j] (List.getElem?_eq_getElem hjl)
          subst hA1
          have hPj := hLP.out _ (List.getElem_mem hjl)
          have HN := Lib.hid (HNm.out wr hI.b fj _ uj l[j] hI.e hRj (hv _ hPj) (fun t ht => hv _ (hFP.out j t ht)) (by omega))
          have hIe := Lib.hid fun e w2 (hn : NumPost w.heap.size wr w.heap.size (w.heap.size + 1 + 1 + 1) (w.heap.size + 1) (w.heap.size + 1 + 1) fj (rowF F (l.take j)) l[j] e w2) => hI.step hjl rfl hn
          rw [← rowF_take hjl] at hIe
          have hjl2 : (j : Int) < (l.length : Int) := by omega
          have hcell := hcj
          obtain ⟨puj, cuj, huj, _⟩ := id hRj
          subst huj
          clear hI hRj hPj
          by_cases hov : bud < (rowF F (l.take (j + 1))).length
          · have hnone := hOver.out (j + 1) hov
            have hdb : decide ((bud : Int) < ((rowF F (l.take (j + 1))).length : Int)) = true := decide_eq_true (by omega)
            have hnb : 0 < bud := by omega
            go_wp2_with (go_at_call 99; ((with_reducible refine HN.out.mono ?_); rintro e w3 hn3); obtain ⟨rfl, hq3, fv3, hI3⟩ := hIe.out _ _ hn3; clear hn3; obtain ⟨vs3, hvo3, _⟩ := hI3.e.o; obtain ⟨A3, c3', hfv3, _⟩ := Ap.own_form hvo3; subst hfv3; clear hvo3; have f3 := free_of hq3 j; have c3 := cell_of hq3 (i := j) hjl; have hl3 := blk_lt hq3; have HI3 := Lib.hid hI3; have cf3 : (w3.setCell ⟨gr, j, none⟩ (.int .i64 (pos (rowF F (l.take (j + 1))) l[j] : Nat))).cell? ⟨w.heap.size + 1, 0, none⟩ = some (.slice A3 (rowF F (l.take (j + 1))).length c3') := (by simp [World.cell?, hI3.e.f]); have ff3 := free_of hI3.e.f 0; have lf3 := blk_lt hI3.e.f; clear hI3 hq3)
            rw [Exit.noGoto_ret]
            have y0 := Lib.hid (show ((w3.setCell ⟨gr, j, none⟩ (.int .i64 (pos (rowF F (l.take (j + 1))) l[j] : Nat))).setCell ⟨w.heap.size + 1, 0, none⟩ (.slice none 0 0)).cell? ⟨w.heap.size + 1, 0, none⟩ = some (.slice none 0 0) by simp [World.cell?, heap_put HI3.out.e.f 0 _])
            have y1 := y0.out
            refine bodyPost_ret (v := .tuple #[.slice none 0 0, .slice none 0 0, .bool false]) (by simp [results, Tryd.results63, go_sem, y1]) rfl (.inl ⟨hnone, rfl, ?_⟩)
            exact HI3.out.b.setCell (p := ⟨w.heap.size + 1, 0, none⟩) (by show w.heap.size ≤ w.heap.size + 1; omega) _
          · have hdb : decide ((bud : Int) < ((rowF F (l.take (j + 1))).length : Int)) = false := decide_eq_false (by omega)
            go_wp2_with (go_at_call 99; ((with_reducible refine HN.out.mono ?_); rintro e w3 hn3); obtain ⟨rfl, hq3, fv3, hI3⟩ := hIe.out _ _ hn3; clear hn3; obtain ⟨vs3, hvo3, _⟩ := hI3.e.o; obtain ⟨A3, c3', hfv3, _⟩ := Ap.own_form hvo3; subst hfv3; clear hvo3; have f3 := free_of hq3 j; have c3 := cell_of hq3 (i := j) hjl; have hl3 := blk_lt hq3; have HI3 := Lib.hid hI3; have cf3 : (w3.setCell ⟨gr, j, none⟩ (.int .i64 (pos (rowF F (l.take (j + 1))) l[j] : Nat))).cell? ⟨w.heap.size + 1, 0, none⟩ = some (.slice A3 (rowF F (l.take (j + 1))).length c3') := (by simp [World.cell?, hI3.e.f]); have ff3 := free_of hI3.e.f 0; have lf3 := blk_lt hI3.e.f; clear hI3 hq3)
            go_roundw
            case rel => exact ⟨j + 1, _, by omega, by go_num, by omega, HI3.out⟩
            case measure => simp [intOf]; omega
        · obtain rfl : j = l.length := by omega
          rw [List.take_length] at hI hjb
          have hrv := HRV.out
          subst hrv
          have hrn := nums_len succ F r HH2.out.h.1
          obtain ⟨Q, eQ, hoQ, hqQ⟩ := hI.r
          have hNx := Lib.hid fun v' w6 hown' tmp hgrow => hI.next (rv' := v') (Z := w6) (tmp := tmp) eQ hqQ hoQ hown' hgrow
          rw [hrn] at hNx hoQ
          have hNH := Lib.hid fun Z rv' (hb : (rowF F (succ F[r])).length ≤ bud) => HH2.out.next (Z := Z) (rv' := rv') (fv' := fj) hlt hP hb
          rw [← HL.out] at hNH
          have hsz4 : w.heap.size + 4 ≤ wr.heap.size := by have := blk_lt hI.q; have := hI.g.1; omega
          have HOQ := Lib.hid hoQ
          have hr1 : r ≤ 10000 := by have := HH2.out.h; omega
          obtain ⟨i1, hi1, hy0, hy1, hy2⟩ := info_parts Dg.info_tab
          clear hI eQ hqQ hoQ hrn
          go_wp2_with (at_builtin; refine wpList_append_own_at _ rfl _ _ 51 rfl (w.heap.size + 4) 23 i1 (.slice none 0 0) 1 24 Tryd.underlying51 hi1 hy0 hy1 hy2 rfl (by decide) _ r (rov Q) rfl (HOQ.out.alloc _) ⟨wr.heap.size, 0, none⟩ 1 1 [.slice (some ⟨gr, 0, none⟩) l.length l.length] rfl rfl (cell_one_new _ _ _) (by simp [Value.oneCell']) (by unfold maxLen; omega) (by omega) (by simp; omega) ?_; intro v' w6 hown' hgrow _ _; obtain ⟨A2, c2, rfl, _⟩ := Ap.own_form hown'; have hn6 := hNx.out _ _ hown' _ hgrow; have HN6 := Lib.hid hn6; clear hn6 hown' hgrow)
          go_roundw
          case rel =>
            obtain ⟨h1, h2, h3⟩ := HN6.out
            exact ⟨_, fj, _, r + 1, rfl, hNH.out _ _ hjb h1 h2 h3⟩
          case measure => simp [lenV]; omega
    · have hfin := hH.fin hlt
      have hdf : decide ((r : Int) < (F.length : Int)) = false := decide_eq_false (by omega)
      have hdb : decide ((bud : Int) < (F.length : Int)) = false := decide_eq_false (by omega)
      have f0 := free_of hH.e.f 0
      have hl0 := blk_lt hH.e.f
      have HF := Lib.hid hfin
      have HY := Lib.hid (show (wr.setCell ⟨w.heap.size + 1, 0, none⟩ (.slice Af F.length cf)).cell? ⟨w.heap.size + 1, 0, none⟩ = some (.slice Af F.length cf) by simp [World.cell?, heap_put hH.e.f 0 _])
      clear hfin hH hrn
      go_wp2
      rw [Exit.noGoto_ret]
      have y0 := HY.out
      exact bodyPost_ret (v := .tuple #[.slice Af F.length cf, .slice Ar r cr, .bool true]) (by simp [results, Tryd.results63, go_sem, y0]) rfl HF.out
end Go.Proofs.YteckkbjpeckjmaaDoor.Sb.Xs
