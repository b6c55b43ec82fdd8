/- The law's own run: a store, the reference's store, the references that came back and their tables. -/
import Derived.Test.YtbhfmeohaoojfaaVA
import Derived.Test.YtbhfmeohaoojfaaNX
import Derived.Test.YtbhfmeohaoojfaaNP
namespace Go.Proofs.Ytbhfmeohaoojfaa.Dn
open Go Go.RowKit Go.Proofs.Ytbhfmeohaoojfaa.Ap
open Go.Proofs.Ytbhfmeohaoojfaa.Dg
set_option linter.unusedVariables false
set_option maxRecDepth 100000
theorem own_keep {w w' : World} {B e size n : Nat} {v : Value} {xs : List Value} (h : w.ownsRow B e size v n xs) (hk : ∀ g, v.ownBlock = some g → w'.heap[g]? = w.heap[g]?) : w'.ownsRow B e size v n xs := by
  refine ⟨h.1, ?_⟩
  rcases h.2 with h0 | ⟨g, cap, cur, hv, hg, hc, rest⟩
  · exact .inl h0
  · exact .inr ⟨g, cap, cur, hv, hg, (hk g (by rw [hv]; rfl)).trans hc, rest⟩
theorem own_typ {w : World} {B n size : Nat} {e : TypeId} {v : Value} {xs : List Value} (h : w.ownsRow B e size v n xs) {k : Nat} (hk : v.ownBlock = some k) : ∃ cur, w.heap[k]? = some (.cells cur e (0, 0)) := by
  rcases h.2 with ⟨rfl, _⟩ | ⟨g, cap, cur, rfl, _, hc, _⟩
  · cases hk
  · injection hk with hk
    exact ⟨cur, by rw [← hk]; exact hc⟩
theorem vals_keep {X Y : World} {A : Option Addr} {n : Nat} {f : Nat → Value} (h : Vals X A n f) (hs : X.heap.size ≤ Y.heap.size) (hk : ∀ ad, A = some ad → Y.heap[ad.block]? = X.heap[ad.block]?) : Vals Y A n f := fun j hj => by
  obtain ⟨ad, e, h1, h2⟩ := h j hj
  exact ⟨ad, e, Nat.lt_of_lt_of_le h1 hs, (World.cell?_of_block (by rw [addr_block]; exact hk ad e)).trans h2⟩
/-- The block at A is of type t. -/
def LayT (X : World) (A : Option Addr) (t : TypeId) : Prop := ∀ ad, A = some ad → ∃ c f, X.heap[ad.block]? = some (.cells c t f)
/-- A table of numbers. -/
def TabI (X : World) (A : Option Addr) (l : List Int) : Prop := Ints X A l ∧ LayT X A 3
theorem TabI.k {X : World} {A : Option Addr} {l : List Int} (h : TabI X A l) : TabK X A l := ⟨h.1, fun ad e => by
  obtain ⟨c, f, hc⟩ := h.2 ad e
  exact ⟨c, _, f, hc, by decide, by decide⟩⟩
/-- Every block of the types of P lies as it lay. -/
structure KeepT (P : TypeId → Prop) (a b : World) : Prop where
  size : a.heap.size ≤ b.heap.size
  cells : ∀ (k : Nat) (c : Array Value) (t : TypeId) (f : Nat × Nat), a.heap[k]? = some (Obj.cells c t f) → P t → b.heap[k]? = some (Obj.cells c t f)
theorem KeepT.of_below {P : TypeId → Prop} {a b : World} (h : Below a.heap.size a b) : KeepT P a b := ⟨h.size, fun k c t f hk _ => (h.block k (lt_of_block hk)).trans hk⟩
theorem KeepT.of_keeps {P : TypeId → Prop} {a b : World} (h : Keeps a b) (hp : ∀ t, P t → t ≠ 91 ∧ t ≠ 113) : KeepT P a b := ⟨h.size, fun k c t f hk ht => h.cells k c t f hk (hp t ht).1 (hp t ht).2⟩
theorem LayT.keep {P : TypeId → Prop} {X Y : World} {A : Option Addr} {t : TypeId} (h : LayT X A t) (hk : KeepT P X Y) (ht : P t) : LayT Y A t := fun ad e => by
  obtain ⟨c, f, hc⟩ := h ad e
  exact ⟨c, f, hk.cells _ _ _ _ hc ht⟩
theorem LayT.vals {P : TypeId → Prop} {X Y : World} {A : Option Addr} {t : TypeId} {n : Nat} {f : Nat → Value} (h : LayT X A t) (hk : KeepT P X Y) (ht : P t) (hv : Vals X A n f) : Vals Y A n f := vals_keep hv hk.size fun ad e => by
  obtain ⟨c, f, hc⟩ := h ad e
  exact (hk.cells _ _ _ _ hc ht).trans hc.symm
theorem TabI.keep {P : TypeId → Prop} {X Y : World} {A : Option Addr} {l : List Int} (h : TabI X A l) (hk : KeepT P X Y) (ht : P 3) : TabI Y A l := ⟨h.2.vals hk ht h.1, h.2.keep hk ht⟩
/-- The types that only the law writes. -/
def LawT (t : TypeId) : Prop := t = 41 ∨ t = 46 ∨ t = 29 ∨ t = 77
/-- The store does not feel what the law writes. -/
theorem Inv.law {X Y : World} {own : Nat → Prop} {sb cb rb tb v cap : Nat} {nv : Value} {N : List Nd} {R : List Nat} (h : Inv X sb cb rb tb v cap nv N R) (hf : Fr own X Y) (ho : ∀ k, k < X.heap.size → own k → ∃ c t f, X.heap[k]? = some (.cells c t f) ∧ LawT t) : Inv Y sb cb rb tb v cap nv N R := by
  have hm := h.mem
  have keep : ∀ (k : Nat) (o : Obj), X.heap[k]? = some o → (∀ c t f, o = .cells c t f → ¬ LawT t) → Y.heap[k]? = X.heap[k]? := fun k o hk hn => by
    refine hf.block k (lt_of_block hk) fun hown => ?_
    obtain ⟨c, t, f, hc, ht⟩ := ho k (lt_of_block hk) hown
    rw [hk] at hc
    injection hc with hc
    exact hn c t f hc ht
  obtain ⟨_, _, hr⟩ := hm.r.obj
  obtain ⟨_, _, ht⟩ := hm.t.obj
  refine ⟨⟨?_, ?_, own_keep hm.n fun g hg => ?_, hm.r.block (keep _ _ hr fun c t f e => by cases e), hm.t.block (keep _ _ ht fun c t f e => by cases e), hm.rt⟩, h.wf, h.fitv, h.len, h.cap4, h.v6, h.ref, h.nodup⟩
  · exact (keep _ _ hm.s fun c t f e => by injection e with _ e _; subst e; unfold LawT; decide).trans hm.s
  · exact (keep _ _ hm.c fun c t f e => by injection e with _ e _; subst e; unfold LawT; decide).trans hm.c
  · obtain ⟨cur, hc⟩ := own_node hm.n hg
    exact keep _ _ hc fun c t f e => by injection e with _ e _; subst e; unfold LawT; decide
/-- What the law keeps: its run in block qb, the reference's store in block mb. -/
structure LawM (X : World) (lo qb sb mb v cap : Nat) (A : Option Addr) (c : Nat) (Q : List (Option Addr × Nat × List Int)) (rv : Value) (rs : List Nat) (tv : Value) (T : List (Option Addr × Nat × List Int)) : Prop where
  q : X.heap[qb]? = some (.cells #[.pointer (some ⟨sb, 0, none⟩), .pointer (some ⟨mb, 0, none⟩), rv, tv] 41 (0, 0))
  m : RefSt X mb v cap A Q.length c
  mrow : Vals X A Q.length (slf Q)
  mty : LayT X A 29
  mtab : ∀ q ∈ Q, TabI X q.1 q.2.2
  rr : X.ownsRow lo 46 1 rv rs.length (rs.map fun (r : Nat) => .int .i64 r)
  tr : X.ownsRow lo 29 1 tv T.length (slv T)
  ttab : ∀ q ∈ T, TabI X q.1 q.2.2
  apart : ∀ ad, A = some ad → tv.ownBlock ≠ some ad.block
  ql : lo ≤ qb
  ml : lo ≤ mb
section
variable {X Y w0 : World} {lo qb sb cb rb tb mb v cap c : Nat} {nv : Value} {N : List Nd} {R : List Nat} {A : Option Addr} {Q : List (Option Addr × Nat × List Int)} {rv : Value} {rs : List Nat} {tv : Value} {T : List (Option Addr × Nat × List Int)}
def LawP (t : TypeId) : Prop := LawT t ∨ t = 3
theorem LawP.p (t : TypeId) (h : LawP t) : t ≠ 91 ∧ t ≠ 113 := by
  unfold LawP LawT at h
  rcases h with (rfl | rfl | rfl | rfl) | rfl <;> decide
theorem LawM.keep (h : LawM X lo qb sb mb v cap A c Q rv rs tv T) (hk : KeepT LawP X Y) : LawM Y lo qb sb mb v cap A c Q rv rs tv T := by
  have pi : LawP 3 := .inr rfl
  have pt : LawP 29 := .inl (.inr (.inr (.inl rfl)))
  have pr : LawP 46 := .inl (.inr (.inl rfl))
  refine ⟨hk.cells _ _ _ _ h.q (.inl (.inl rfl)), hk.cells _ _ _ _ h.m (.inl (.inr (.inr (.inr rfl)))), h.mty.vals hk pt h.mrow, h.mty.keep hk pt, fun q hq => (h.mtab q hq).keep hk pi, own_keep h.rr fun g hg => ?_, own_keep h.tr fun g hg => ?_, fun q hq => (h.ttab q hq).keep hk pi, h.apart, h.ql, h.ml⟩
  · obtain ⟨cur, hc⟩ := own_typ h.rr hg
    exact (hk.cells _ _ _ _ hc pr).trans hc.symm
  · obtain ⟨cur, hc⟩ := own_typ h.tr hg
    exact (hk.cells _ _ _ _ hc pt).trans hc.symm
theorem LawM.below (h : LawM X lo qb sb mb v cap A c Q rv rs tv T) (hb : Below X.heap.size X Y) : LawM Y lo qb sb mb v cap A c Q rv rs tv T := h.keep (.of_below hb)
theorem LawM.step (h : LawM X lo qb sb mb v cap A c Q rv rs tv T) (hm : Mem X sb cb rb tb v cap nv N R) {nv' : Value} (hs : Step cb rb tb nv nv' X Y) : LawM Y lo qb sb mb v cap A c Q rv rs tv T := h.keep (.of_keeps (hm.keeps hs) LawP.p)
theorem LawM.rowQ (h : LawM X lo qb sb mb v cap A c Q rv rs tv T) : RowQ X A Q := ⟨h.mrow, fun q hq => (h.mtab q hq).1⟩
theorem LawM.cells (h : LawM X lo qb sb mb v cap A c Q rv rs tv T) : X.cell? ⟨qb, 0, none⟩ = some (.pointer (some ⟨sb, 0, none⟩)) ∧ X.cell? ⟨qb, 1, none⟩ = some (.pointer (some ⟨mb, 0, none⟩)) ∧ X.cell? ⟨qb, 2, none⟩ = some rv ∧ X.cell? ⟨qb, 3, none⟩ = some tv := by
  have hq := h.q
  refine ⟨?_, ?_, ?_, ?_⟩ <;> simp [World.cell?, hq]
theorem LawM.lt (h : LawM X lo qb sb mb v cap A c Q rv rs tv T) : qb < X.heap.size ∧ mb < X.heap.size := ⟨lt_of_block h.q, h.m.lt⟩
/-- A run of steps, all that it holds. -/
structure Run (w0 X : World) (qb sb cb rb tb mb v cap : Nat) (nv : Value) (N : List Nd) (R : List Nat) (A : Option Addr) (c : Nat) (Q : List (Option Addr × Nat × List Int)) (rv : Value) (rs : List Nat) (tv : Value) (T : List (Option Addr × Nat × List Int)) : Prop where
  own : Own w0 X sb cb rb tb v cap nv N R
  law : LawM X w0.heap.size qb sb mb v cap A c Q rv rs tv T
  tie : Tie v N R (tq Q)
  len : rs.length = T.length
  each : ∀ i, i < rs.length → rs.getD i 0 ∈ R ∧ tabD v N (rs.getD i 0) = Dg.tb (tq T) i
  all : ∀ r ∈ R, r ∈ rs
  qt : Q.length ≤ T.length
theorem Run.below (h : Run w0 X qb sb cb rb tb mb v cap nv N R A c Q rv rs tv T) (hb : Below X.heap.size X Y) : Run w0 Y qb sb cb rb tb mb v cap nv N R A c Q rv rs tv T :=
  ⟨h.own.below hb, h.law.below hb, h.tie, h.len, h.each, h.all, h.qt⟩
end
end Go.Proofs.Ytbhfmeohaoojfaa.Dn
