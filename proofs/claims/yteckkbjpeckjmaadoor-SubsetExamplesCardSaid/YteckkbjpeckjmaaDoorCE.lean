/- What a loop over an iterator keeps: every block that lay when it began, but those of its own variables. Plain lemmas over worlds. -/
import Derived.Test.YteckkbjpeckjmaaDoorBS
import Derived.RangeFuncNested
import Derived.RangeFuncLeaves
import Derived.RangeFuncCalls
import Derived.RangeFuncWrites
import Derived.RangeFuncBox
import Derived.Maps.AppendAt
namespace Go.Proofs.YteckkbjpeckjmaaDoor
open Go Go.RowKit
/-- Below B every block but those of S lies as it lay. -/
structure Exc (S : List Nat) (B : Nat) (w w' : World) : Prop where
  os : w'.os = w.os
  tape : w'.tape = w.tape
  output : w'.output = w.output
  size : w.heap.size ≤ w'.heap.size
  block : ∀ k, k < B → k ∉ S → w'.heap[k]? = w.heap[k]?
namespace Exc
variable {S : List Nat} {B : Nat} {a b w w' : World}
theorem refl (S : List Nat) (B : Nat) (w : World) : Exc S B w w := ⟨rfl, rfl, rfl, Nat.le_refl _, fun _ _ _ => rfl⟩
theorem trans {c : World} (h : Exc S B a b) (k : Exc S B b c) : Exc S B a c :=
  ⟨k.os.trans h.os, k.tape.trans h.tape, k.output.trans h.output, Nat.le_trans h.size k.size, fun i hi hn => (k.block i hi hn).trans (h.block i hi hn)⟩
theorem of_below (h : Below B w w') : Exc S B w w' := ⟨h.os, h.tape, h.output, h.size, fun k hk _ => h.block k hk⟩
theorem below {n : Nat} (h : Exc S B w w') (hn : n ≤ B) (hS : ∀ k ∈ S, n ≤ k) : Below n w w' :=
  ⟨h.os, h.tape, h.output, h.size, fun k hk => h.block k (by omega) fun hm => by have := hS k hm; omega⟩
theorem alloc (h : Exc S B a w) (hB : B ≤ w.heap.size) (o : Obj) : Exc S B a (w.alloc o) := h.trans (of_below ((Below.refl _ _).alloc hB o))
theorem drew (h : Exc S B a w) : Exc S B a w.drew := ⟨h.os, h.tape, h.output, h.size, h.block⟩
theorem setCell (h : Exc S B a w) {p : Addr} (hp : p.block ∈ S ∨ B ≤ p.block) (u : Value) : Exc S B a (w.setCell p u) := by
  refine h.trans ⟨rfl, rfl, rfl, by show _ ≤ (w.heap.modify _ _).size; rw [Array.size_modify]; exact Nat.le_refl _, fun k hk hn => Below.heap_setCell w p u k ?_⟩
  rintro rfl
  rcases hp with hp | hp
  · exact hn hp
  · omega
theorem grown {row : Option Nat} (h : Exc S B a w) (hg : w.grownBy w' row) (hB : B ≤ w.heap.size) (hr : ∀ k, row = some k → k ∈ S ∨ B ≤ k) : Exc S B a w' := by
  refine h.trans ⟨hg.os, hg.tape, hg.output, hg.size, fun k hk hn => hg.block k (by omega) fun e => ?_⟩
  rcases hr k e.symm with hp | hp
  · exact hn hp
  · omega
theorem cell (h : Exc S B w w') {p : Addr} (hp : p.block < B) (hS : p.block ∉ S) : w'.cell? p = w.cell? p := World.cell?_of_block (w := w) (h.block p.block hp hS)
theorem holds (h : Exc S B w w') {k : Nat} {o : Obj} (hk : k < B) (hS : k ∉ S) (ho : w.heap[k]? = some o) : w'.heap[k]? = some o := (h.block k hk hS).trans ho
end Exc
theorem excK_t {S : List Nat} {n : Nat} {A B C : World} (h : Exc S n A B) (k : Exc S n B C) : Exc S n A C := h.trans k
theorem excK_b {S : List Nat} {n : Nat} {w : World} (hn : n ≤ w.heap.size) (W : World) (l : Nat) (o o' : Obj) (hl : w.heap.size ≤ l) (h : W.heap[l]? = some o) (_ : o.isCells = false) (_ : o.isWalk = false) : Exc S n W (W.putObj l o') :=
  (Exc.refl S n W).grown (grownBy_putObj' W l o') (by have := (Array.getElem?_eq_some_iff.1 h).1; omega) (fun k e => by cases e; exact .inr (by omega))
theorem ownFrom_exc {β : Type} {S : List Nat} {n B : Nat} {w₀ : World} (hn : n ≤ w₀.heap.size) (hB : n ≤ B) : OwnFrom B (fun (_ : β) W => Exc S n w₀ W) :=
  fun _ _ _ _ hs hg hr => hs.grown hg (Nat.le_trans hn hs.size) (fun k e => .inr (Nat.le_trans hB (hr k e).1))
/-- A call that keeps all that lay keeps what is no cells. -/
theorem others_of_below {W W' : World} (h : Below W.heap.size W W') : KeepsOthers W W' :=
  ⟨h.size, fun k _ hk _ => (h.block k (Array.getElem?_eq_some_iff.1 hk).1).trans hk⟩
theorem exc_of_call {S : List Nat} {B : Nat} {W W' : World} (h : Below W.heap.size W W') (hB : B ≤ W.heap.size) : Exc S B W W' := .of_below (h.mono hB)
theorem _root_.Go.Boxed.below {W W' : World} {B : Nat} {t : TypeId} {v : Value} (h : Boxed W B t v) (hb : Below W.heap.size W W') : Boxed W' B t v := (hb.block B h.lt).trans h
theorem _root_.Go.World.ownsRow.below {W W' : World} {base : Nat} {e : TypeId} {size : Nat} {v : Value} {k : Nat} {xs : List Value} (h : W.ownsRow base e size v k xs) (hb : Below W.heap.size W W') : W'.ownsRow base e size v k xs :=
  h.kept (row := none) ⟨hb.os, hb.tape, hb.output, hb.size, fun k hk _ => hb.block k hk⟩ (by
    rcases h.2 with ⟨rfl, _⟩ | ⟨g, cap, cur, rfl, _⟩
    · exact .inl rfl
    · exact .inr (by simp [Value.ownBlock]))
theorem ownsRow_mono {W : World} {base base' : Nat} {e : TypeId} {size : Nat} {v : Value} {k : Nat} {xs : List Value} (h : W.ownsRow base e size v k xs) (hb : base' ≤ base) : W.ownsRow base' e size v k xs := by
  obtain ⟨h0, h1⟩ := h
  refine ⟨h0, ?_⟩
  rcases h1 with h1 | ⟨g, cap, cur, h2, h3, h4⟩
  · exact .inl h1
  · exact .inr ⟨g, cap, cur, h2, by omega, h4⟩
/-- Behind the append law's two words, all that the walk owes. -/
theorem appendedE {W w1 : World} {N Bx : Nat} {t e : TypeId} {size : Nat} {v v' : Value} {k m : Nat} {xs ys : List Value} {tmp : Obj} {S : List Nat}
    (hv : Boxed W Bx t v) (hte : t ≠ e) (hrow : W.ownsRow N e size v k xs) (hN : N ≤ W.heap.size) (hS : Bx ∈ S)
    (hown' : w1.ownsRow N e size v' m ys) (hgrow : (W.alloc tmp).grownBy w1 v.ownBlock) :
    Boxed w1 Bx t v ∧ Boxed (w1.setCell ⟨Bx, 0, none⟩ v') Bx t v' ∧ (w1.setCell ⟨Bx, 0, none⟩ v').ownsRow N e size v' m ys ∧ KeepsOthers W (w1.setCell ⟨Bx, 0, none⟩ v') ∧ Exc S N W (w1.setCell ⟨Bx, 0, none⟩ v') := by
  have hv1 : Boxed w1 Bx t v := (hv.alloc tmp).kept hgrow (hv.not_row hte hrow)
  have hob : ∀ g, v.ownBlock = some g → N ≤ g ∧ ∃ cur, W.heap[g]? = some (.cells cur e (0, 0)) := by
    intro g hg
    rcases hrow.2 with ⟨rfl, _⟩ | ⟨g', cap, cur, rfl, h1, hgb, _⟩
    · simp [Value.ownBlock] at hg
    · obtain rfl : g' = g := by simpa [Value.ownBlock] using hg
      exact ⟨h1, cur, hgb⟩
  refine ⟨hv1, hv1.set v', hown'.kept (grownBy_setCell' w1 Bx v') (.inr (hv1.not_row hte hown').symm), ?_, ?_⟩
  · refine ((KeepsOthers.alloc W tmp).trans (KeepsOthers.of_grownBy hgrow fun j o ej hj => ?_)).trans (KeepsOthers.setCell _ _ _)
    obtain ⟨_, cur, hc⟩ := hob j ej
    rw [(Below.heap_alloc W tmp j (Array.getElem?_eq_some_iff.1 hc).1).trans hc] at hj
    cases hj; rfl
  · exact (((Exc.refl S N W).alloc hN tmp).grown hgrow (by simp; omega) (fun g hg => .inr (hob g hg).1)).setCell (.inl hS) _
end Go.Proofs.YteckkbjpeckjmaaDoor
