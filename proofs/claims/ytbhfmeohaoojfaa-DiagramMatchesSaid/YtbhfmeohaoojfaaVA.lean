/- Stores of the call's own; awake. -/
import Derived.Test.YtbhfmeohaoojfaaNU
import Derived.Outline
namespace Go.Proofs.Ytbhfmeohaoojfaa.Dn
open Go Go.RowKit Go.Proofs.Ytbhfmeohaoojfaa.Ap
open Go.Proofs.Ytbhfmeohaoojfaa.Dg (shl_i64 pow7 cell_one info_int ints_row nd_ext valI EqualInts_any ints_new)
set_option linter.unusedVariables false
set_option maxRecDepth 100000
/-- A store all of whose blocks are younger than w0, beyond which nothing has turned. -/
structure Own (w0 X : World) (sb cb rb tb v cap : Nat) (nv : Value) (N : List Nd) (R : List Nat) : Prop where
  inv : Inv X sb cb rb tb v cap nv N R
  s : w0.heap.size ≤ sb
  c : w0.heap.size ≤ cb
  r : w0.heap.size ≤ rb
  t : w0.heap.size ≤ tb
  n : ∀ k, nv.ownBlock = some k → w0.heap.size ≤ k
  bel : Below w0.heap.size w0 X
section
variable {w0 X X' : World} {sb cb rb tb v cap : Nat} {nv nv' : Value} {N N' : List Nd} {R R' : List Nat}
theorem Own.below (h : Own w0 X sb cb rb tb v cap nv N R) (hb : Below X.heap.size X X') : Own w0 X' sb cb rb tb v cap nv N R := ⟨h.inv.below hb, h.s, h.c, h.r, h.t, h.n, stepB h.bel hb⟩
theorem Own.step (h : Own w0 X sb cb rb tb v cap nv N R) (hi : Inv X' sb cb rb tb v cap nv' N' R') (hs : Step cb rb tb nv nv' X X') : Own w0 X' sb cb rb tb v cap nv' N' R' := by
  have hsz := h.bel.size
  refine ⟨hi, h.s, h.c, h.r, h.t, fun k hk => ?_, h.bel.trans ⟨hs.fr.os, hs.fr.tape, hs.fr.output, hs.fr.size, fun k hk => hs.fr.block k (by omega) ?_⟩⟩
  · rcases hs.own k hk with h1 | h1
    · exact h.n k h1
    · omega
  · rintro (e | e | e | e)
    · have := h.c; omega
    · have := h.r; omega
    · have := h.t; omega
    · have := h.n k e; omega
theorem Own.add (h : Own w0 X sb cb rb tb v cap nv N R) {val : Nat → Int} {e : Ending} (hp : AddPost sb cb rb tb v cap nv N R val X e X') :
    e = .returned (.tuple #[.int .i64 ((addM v cap val N R).ref : Nat), .int .i64 ((addM v cap val N R).err : Nat)]) ∧ ∃ nv', Own w0 X' sb cb rb tb v cap nv' (addM v cap val N R).N (addM v cap val N R).R ∧ Step cb rb tb nv nv' X X' := by
  obtain ⟨he, nv', hi, hs⟩ := hp
  exact ⟨he, nv', h.step hi hs, hs⟩
/-- Blocks that a store does not write. -/
def Apart (cb rb tb : Nat) (nv : Value) (X : World) (k : Nat) : Prop := k < X.heap.size ∧ ¬ Mine cb rb tb nv k
theorem Apart.step {k : Nat} (h : Apart cb rb tb nv X k) (hs : Step cb rb tb nv nv' X X') : Apart cb rb tb nv' X' k := by
  refine ⟨Nat.lt_of_lt_of_le h.1 hs.fr.size, ?_⟩
  rintro (e | e | e | e)
  · exact h.2 (.inl e)
  · exact h.2 (.inr (.inl e))
  · exact h.2 (.inr (.inr (.inl e)))
  · rcases hs.own k e with h1 | h1
    · exact h.2 (.inr (.inr (.inr h1)))
    · have := h.1; omega
theorem Apart.below {k : Nat} (h : Apart cb rb tb nv X k) (hb : Below X.heap.size X X') : Apart cb rb tb nv X' k := ⟨Nat.lt_of_lt_of_le h.1 hb.size, h.2⟩
/-- A second store, still empty. -/
structure Beside (cb rb tb : Nat) (nv : Value) (X : World) (s2 c2 r2 t2 v2 cap2 : Nat) : Prop where
  inv : Inv X s2 c2 r2 t2 v2 cap2 (.slice none 0 0) [] []
  s : Apart cb rb tb nv X s2
  c : Apart cb rb tb nv X c2
  r : Apart cb rb tb nv X r2
  t : Apart cb rb tb nv X t2
theorem Beside.step {s2 c2 r2 t2 v2 cap2 : Nat} (h : Beside cb rb tb nv X s2 c2 r2 t2 v2 cap2) (hs : Step cb rb tb nv nv' X X') : Beside cb rb tb nv' X' s2 c2 r2 t2 v2 cap2 := by
  have hm := h.inv.mem
  have k1 : ∀ {k : Nat} {o : Obj}, X.heap[k]? = some o → Apart cb rb tb nv X k → X'.heap[k]? = some o := fun {k o} hk ha => (hs.fr.block k ha.1 ha.2).trans hk
  obtain ⟨_, _, hr⟩ := hm.r.obj
  obtain ⟨_, _, ht⟩ := hm.t.obj
  exact ⟨⟨⟨k1 hm.s h.s, k1 hm.c h.c, ⟨rfl, .inl ⟨rfl, rfl⟩⟩, hm.r.block ((k1 hr h.r).trans hr.symm), hm.t.block ((k1 ht h.t).trans ht.symm), hm.rt⟩, h.inv.wf, h.inv.fitv, h.inv.len, h.inv.cap4, h.inv.v6, h.inv.ref, h.inv.nodup⟩, h.s.step hs, h.c.step hs, h.r.step hs, h.t.step hs⟩
theorem Beside.below {s2 c2 r2 t2 v2 cap2 : Nat} (h : Beside cb rb tb nv X s2 c2 r2 t2 v2 cap2) (hb : Below X.heap.size X X') : Beside cb rb tb nv X' s2 c2 r2 t2 v2 cap2 :=
  ⟨h.inv.below hb, h.s.below hb, h.c.below hb, h.r.below hb, h.t.below hb⟩
theorem tabK_lit (X : World) (l : List Int) : TabK (X.alloc (.cells (l.map (Value.int .i64)).toArray 3)) (some ⟨X.heap.size, 0, none⟩) l := by
  refine ⟨ints_new X _ l, fun ad e => ?_⟩
  cases e
  exact ⟨_, _, _, (MapKept.heap_alloc X _).1, by decide, by decide⟩
end
end Go.Proofs.Ytbhfmeohaoojfaa.Dn
