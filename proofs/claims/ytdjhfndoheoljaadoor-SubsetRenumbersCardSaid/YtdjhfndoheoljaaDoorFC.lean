/- Automata in memory: slices of ints, of bytes and of edges. -/
import Derived.Test.YtdjhfndoheoljaaDoorFB
import Derived.Test.YtdjhfndoheoljaaDoorNH
import Derived.Test.YtdjhfndoheoljaaDoorHA
import Derived.Test.YtdjhfndoheoljaaDoorBS
namespace Go.Proofs.YtdjhfndoheoljaaDoor.Nf
open Go Go.RowKit Go.Proofs.YtdjhfndoheoljaaDoor Go.Proofs.YtdjhfndoheoljaaDoor.Dg
set_option linter.unusedVariables false
set_option maxRecDepth 100000
def ev (e : Ed) : List Value := [.int .i64 e.fr, .int .i64 e.to, .int .u8 e.p, .int .u8 e.q]
def evs (l : List Ed) : List Value := l.flatMap ev
def InJ (n : Int) : Prop := -9223372036854775808 ≤ n ∧ n ≤ 9223372036854775807
structure EdOk (e : Ed) : Prop where
  fr : InJ e.fr
  to : InJ e.to
  p : e.p < 256
  q : e.q < 256
/-- The edges l lie in a row that begins at A. -/
def EdsAt (w : World) (A : Option Addr) (l : List Ed) : Prop := ∀ j, j < l.length → EdOk (ed l j) ∧ ∃ ad, A = some ad ∧ ad.block < w.heap.size ∧ ∀ i v, (ev (ed l j))[i]? = some v → w.cell? ((ad.add (j * 4)).add i) = some v
theorem addr_block2 (a : Addr) (i j : Nat) : ((a.add i).add j).block = a.block := by rw [addr_block, addr_block]
theorem EdsAt.below {w w' : World} {A : Option Addr} {l : List Ed} (h : EdsAt w A l) (hb : Below w.heap.size w w') : EdsAt w' A l := fun j hj => by
  obtain ⟨h1, ad, e, h4, h5⟩ := h j hj
  exact ⟨h1, ad, e, Nat.lt_of_lt_of_le h4 hb.size, fun i v hv => (Below.cell hb (by rw [addr_block2]; exact h4)).trans (h5 i v hv)⟩
/-- The four cells of an edge. -/
theorem four_at {Y : World} {ad : Addr} {k : Nat} {x : Ed} (h : ∀ i v, (ev x)[i]? = some v → Y.cell? ((ad.add (k * 4)).add i) = some v) :
    Y.cell? (ad.add (k * 4)) = some (.int .i64 x.fr) ∧ Y.cell? ⟨(ad.add (k * 4)).block, (ad.add (k * 4)).off + 1, none⟩ = some (.int .i64 x.to) ∧ Y.cell? ⟨(ad.add (k * 4)).block, (ad.add (k * 4)).off + 2, none⟩ = some (.int .u8 x.p) ∧
    Y.cell? ⟨(ad.add (k * 4)).block, (ad.add (k * 4)).off + 3, none⟩ = some (.int .u8 x.q) :=
  ⟨h 0 _ rfl, h 1 _ rfl, h 2 _ rfl, h 3 _ rfl⟩
theorem ret_int {x y : Int} (h : x = y) : Ending.returned (.int .i64 x) = .returned (.int .i64 y) := by rw [h]
theorem ret_b {x y : Bool} (h : x = y) : Ending.returned (.bool x) = .returned (.bool y) := by rw [h]
theorem evs_snoc (l : List Ed) (x : Ed) : evs (l ++ [x]) = evs l ++ ev x := by simp [evs]
theorem evs_len (l : List Ed) : (evs l).length = l.length * 4 := by
  induction l with
  | nil => rfl
  | cons x l ih =>
    show (ev x ++ evs l).length = _
    rw [List.length_append, ih, List.length_cons]
    show 4 + _ = _
    omega
theorem evs_at : ∀ (l : List Ed) (j i : Nat) (v : Value), j < l.length → (ev (ed l j))[i]? = some v → (evs l)[j * 4 + i]? = some v
  | [], j, i, v, hj, h => absurd hj (by simp)
  | x :: l, j, i, v, hj, h => by
    have hi : i < 4 := (List.getElem?_eq_some_iff.1 h).1
    show (ev x ++ evs l)[j * 4 + i]? = _
    cases j with
    | zero =>
      rw [List.getElem?_append_left (by show _ < 4; omega), Nat.zero_mul, Nat.zero_add]
      exact h
    | succ j =>
      rw [List.getElem?_append_right (by show 4 ≤ _; omega)]
      have := evs_at l j i v (by simpa using hj) h
      rw [← this]
      congr 1
      show (j + 1) * 4 + i - 4 = _
      omega
/-- A row of one's own that holds the edges l reads so. -/
theorem eds_of_own {w : World} {B : Nat} {A : Option Addr} {n c : Nat} {l : List Ed} (h : w.ownsRow B 81 4 (.slice A n c) n (evs l)) (hl : ∀ x ∈ l, EdOk x) : EdsAt w A l := by
  intro j hj
  have hm : ed l j ∈ l := ed_mem hj
  have hn := h.1
  rw [evs_len] at hn
  refine ⟨hl _ hm, ?_⟩
  rcases h.2 with ⟨_, h0⟩ | ⟨g, cap, cur, hv, _, hb, _, _, _, ht⟩
  · omega
  · cases hv
    refine ⟨⟨g, 0, none⟩, rfl, (Array.getElem?_eq_some_iff.1 hb).1, fun i v hi => ?_⟩
    have hv := evs_at l j i v hj hi
    rw [Ap.addr_add, show ((⟨g, j * 4, none⟩ : Addr).add i) = ⟨g, j * 4 + i, none⟩ by unfold Addr.add; split; simp; rfl]
    rw [← ht, List.getElem?_take] at hv
    split at hv
    · simp only [World.cell?, hb]
      simpa using hv
    · cases hv
theorem add_add (ad : Addr) (i j : Nat) : (ad.add i).add j = ad.add (i + j) := by
  unfold Addr.add
  by_cases hi : i = 0
  · subst hi; simp
  · by_cases hj : j = 0
    · subst hj; simp [hi]
    · simp [hi, hj, Nat.add_assoc]
theorem eds_cells {w : World} {ad : Addr} {l : List Ed} (hx : EdsAt w (some ad) l) : ∀ j u, (evs l)[j]? = some u → w.cell? (ad.add j) = some u := fun j u hu => by
  have hj := (List.getElem?_eq_some_iff.1 hu).1
  rw [evs_len] at hj
  obtain ⟨_, ad', e, _, hc⟩ := hx (j / 4) (by omega)
  cases e
  have hr : j % 4 < (ev (ed l (j / 4))).length := Nat.mod_lt _ (by decide)
  have h1 : (ev (ed l (j / 4)))[j % 4]? = some (ev (ed l (j / 4)))[j % 4] := List.getElem?_eq_getElem hr
  have h2 := evs_at l (j / 4) (j % 4) _ (by omega) h1
  have h3 := hc _ _ h1
  rw [add_add] at h3
  rw [show j / 4 * 4 + j % 4 = j by omega] at h2 h3
  rw [h2] at hu
  cases hu
  exact h3
theorem evs_one {l : List Ed} : ∀ x ∈ evs l, x.oneCell' = true := by
  intro x hx
  simp only [evs, List.mem_flatMap, ev] at hx
  obtain ⟨y, _, hy⟩ := hx
  simp at hy
  rcases hy with rfl | rfl | rfl | rfl <;> rfl
theorem eds_mem {w : World} {A : Option Addr} {l : List Ed} (h : EdsAt w A l) : ∀ x ∈ l, EdOk x := fun x hx => by
  obtain ⟨j, hj, rfl⟩ := mem_ed hx
  exact (h j hj).1
theorem info_edge : (Tryd.prog.info? 81).map (fun i => (i.zero, i.size, i.bytes)) = some (some (.agg #[.int .i64 0, .int .i64 0, .int .u8 0, .int .u8 0]), 4, 24) := by kernel_rfl
/-- The slice that begins at A holds the bytes l. -/
def Bys (w : World) (A : Option Addr) (l : List Nat) : Prop := Vals w A l.length fun j => .int .u8 (wd l j : Nat)
theorem Bys.below {w w' : World} {A : Option Addr} {l : List Nat} (h : Bys w A l) (hb : Below w.heap.size w w') : Bys w' A l := Vals.below h hb
def bvs (l : List Nat) : List Value := l.map fun x : Nat => .int .u8 (x : Int)
theorem bvs_snoc (l : List Nat) (x : Nat) : bvs (l ++ [x]) = bvs l ++ [.int .u8 (x : Int)] := by simp [bvs]
theorem own_bys {w : World} {base : Nat} {A : Option Addr} {c n : Nat} {l : List Nat} (h : w.ownsRow base 5 1 (.slice A n c) n (bvs l)) (hn : n = l.length) : Bys w A l := by
  subst hn
  exact Vals.of_own h fun j hj => by simp [bvs, wd, hj]
/-- An automaton in memory: the value of the struct, and what its slices hold. -/
structure NaAt (w : World) (n : Na) (A B C : Option Addr) : Prop where
  v : InJ n.V
  s : InJ n.S
  st : Ints w A n.st
  fi : Ints w B n.fi
  es : EdsAt w C n.es
theorem NaAt.below {w w' : World} {n : Na} {A B C : Option Addr} (h : NaAt w n A B C) (hb : Below w.heap.size w w') : NaAt w' n A B C := ⟨h.v, h.s, h.st.below hb, h.fi.below hb, h.es.below hb⟩
/-- No slice is longer than the machine allows. -/
structure NaLen (n : Na) : Prop where
  st : n.st.length ≤ 1000000
  fi : n.fi.length ≤ 1000000
  es : n.es.length ≤ 1000000
end Go.Proofs.YtdjhfndoheoljaaDoor.Nf
