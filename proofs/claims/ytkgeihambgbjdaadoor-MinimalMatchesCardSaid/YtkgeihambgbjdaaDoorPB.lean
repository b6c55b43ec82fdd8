/- Check, Has and their references (package cube), for the stages behind it. -/
import Derived.Test.YtkgeihambgbjdaaDoorBS
import Derived.Test.YtkgeihambgbjdaaDoorPK
import Derived.Test.YtkgeihambgbjdaaDoorProg
import Derived.Laws.BitsAllLaws
import Derived.WalkLawsBesides
import Derived.RangeFuncNested
import Derived.RangeFuncLeaves
import Derived.RangeFuncCalls
import Derived.RangeFuncWrites
import Derived.RangeFuncBox
import Derived.Maps.AppendAt
import Derived.Shelf.Abstract
import Derived.OwnWalkIn
import Derived.TacticsInMore
import Derived.LoopNIn
import Derived.LoopIn
import Derived.Below
import Derived.OwnWalk
import Derived.RegionTactic
import Derived.Deep.QuietTactic
import Derived.BigQuiet
namespace Go.Proofs.YtkgeihambgbjdaaDoor.Cb
open Go Go.RowKit Go.Proofs.YtkgeihambgbjdaaDoor
set_option maxRecDepth 100000
theorem bal {w w' : World} (h : Below w.heap.size w w') (o : Obj) : Below w.heap.size w (w'.alloc o) := h.alloc h.size o
theorem shl64 {v : Nat} (h : v ≤ 6) : wrap64 ((2 : Int) ^ v) = ((2 ^ v : Nat) : Int) := by
  have h1 := pow6 h
  have h2 : ((2 ^ v : Nat) : Int) = (2 : Int) ^ v := by exact_mod_cast rfl
  rw [← h2]
  generalize 2 ^ v = n at h1
  exact IntWalk.wrap64_in _ ⟨by omega, by omega⟩
theorem kitLetters_any (v : Nat) (w : World) (hv : v ≤ 6) :
    Calls Tryd.prog 37 #[.int .i64 v] w fun e w' => e = .returned (.int .i64 (2 ^ v : Nat)) ∧ w = w' := by
  go_enter Tryd.func37, Tryd.ntmps37
  go_wp2
  go_ret
  exact ⟨ret_of (shl64 hv), rfl⟩
end Go.Proofs.YtkgeihambgbjdaaDoor.Cb
/- What a loop over an iterator keeps: every block that lay when it began, but those of its own variables. Plain lemmas over worlds. -/
namespace Go.Proofs.YtkgeihambgbjdaaDoor
open Go Go.RowKit
/-- Below B every block but those of S lies as it lay. -/
structure Exc (S : List Nat) (B : Nat) (w w' : World) : Prop where
  os : w'.os = w.os
  tape : w'.tape = w.tape
  output : w'.output = w.output
  size : w.heap.size ≤ w'.heap.size
  block : ∀ k, k < B → k ∉ S → w'.heap[k]? = w.heap[k]?
namespace Exc
variable {S : List Nat} {B : Nat} {a b w w' : World}
theorem refl (S : List Nat) (B : Nat) (w : World) : Exc S B w w := ⟨rfl, rfl, rfl, Nat.le_refl _, fun _ _ _ => rfl⟩
theorem trans {c : World} (h : Exc S B a b) (k : Exc S B b c) : Exc S B a c :=
  ⟨k.os.trans h.os, k.tape.trans h.tape, k.output.trans h.output, Nat.le_trans h.size k.size, fun i hi hn => (k.block i hi hn).trans (h.block i hi hn)⟩
theorem of_below (h : Below B w w') : Exc S B w w' := ⟨h.os, h.tape, h.output, h.size, fun k hk _ => h.block k hk⟩
theorem below {n : Nat} (h : Exc S B w w') (hn : n ≤ B) (hS : ∀ k ∈ S, n ≤ k) : Below n w w' :=
  ⟨h.os, h.tape, h.output, h.size, fun k hk => h.block k (by omega) fun hm => by have := hS k hm; omega⟩
theorem alloc (h : Exc S B a w) (hB : B ≤ w.heap.size) (o : Obj) : Exc S B a (w.alloc o) := h.trans (of_below ((Below.refl _ _).alloc hB o))
theorem drew (h : Exc S B a w) : Exc S B a w.drew := ⟨h.os, h.tape, h.output, h.size, h.block⟩
theorem setCell (h : Exc S B a w) {p : Addr} (hp : p.block ∈ S ∨ B ≤ p.block) (u : Value) : Exc S B a (w.setCell p u) := by
  refine h.trans ⟨rfl, rfl, rfl, by show _ ≤ (w.heap.modify _ _).size; rw [Array.size_modify]; exact Nat.le_refl _, fun k hk hn => Below.heap_setCell w p u k ?_⟩
  rintro rfl
  rcases hp with hp | hp
  · exact hn hp
  · omega
theorem grown {row : Option Nat} (h : Exc S B a w) (hg : w.grownBy w' row) (hB : B ≤ w.heap.size) (hr : ∀ k, row = some k → k ∈ S ∨ B ≤ k) : Exc S B a w' := by
  refine h.trans ⟨hg.os, hg.tape, hg.output, hg.size, fun k hk hn => hg.block k (by omega) fun e => ?_⟩
  rcases hr k e.symm with hp | hp
  · exact hn hp
  · omega
theorem cell (h : Exc S B w w') {p : Addr} (hp : p.block < B) (hS : p.block ∉ S) : w'.cell? p = w.cell? p := World.cell?_of_block (w := w) (h.block p.block hp hS)
theorem holds (h : Exc S B w w') {k : Nat} {o : Obj} (hk : k < B) (hS : k ∉ S) (ho : w.heap[k]? = some o) : w'.heap[k]? = some o := (h.block k hk hS).trans ho
end Exc
theorem excK_t {S : List Nat} {n : Nat} {A B C : World} (h : Exc S n A B) (k : Exc S n B C) : Exc S n A C := h.trans k
theorem excK_b {S : List Nat} {n : Nat} {w : World} (hn : n ≤ w.heap.size) (W : World) (l : Nat) (o o' : Obj) (hl : w.heap.size ≤ l) (h : W.heap[l]? = some o) (_ : o.isCells = false) (_ : o.isWalk = false) : Exc S n W (W.putObj l o') :=
  (Exc.refl S n W).grown (grownBy_putObj' W l o') (by have := (Array.getElem?_eq_some_iff.1 h).1; omega) (fun k e => by cases e; exact .inr (by omega))
theorem ownFrom_exc {β : Type} {S : List Nat} {n B : Nat} {w₀ : World} (hn : n ≤ w₀.heap.size) (hB : n ≤ B) : OwnFrom B (fun (_ : β) W => Exc S n w₀ W) :=
  fun _ _ _ _ hs hg hr => hs.grown hg (Nat.le_trans hn hs.size) (fun k e => .inr (Nat.le_trans hB (hr k e).1))
/-- A call that keeps all that lay keeps what is no cells. -/
theorem others_of_below {W W' : World} (h : Below W.heap.size W W') : KeepsOthers W W' :=
  ⟨h.size, fun k _ hk _ => (h.block k (Array.getElem?_eq_some_iff.1 hk).1).trans hk⟩
theorem exc_of_call {S : List Nat} {B : Nat} {W W' : World} (h : Below W.heap.size W W') (hB : B ≤ W.heap.size) : Exc S B W W' := .of_below (h.mono hB)
theorem _root_.Go.Boxed.below {W W' : World} {B : Nat} {t : TypeId} {v : Value} (h : Boxed W B t v) (hb : Below W.heap.size W W') : Boxed W' B t v := (hb.block B h.lt).trans h
theorem _root_.Go.World.ownsRow.below {W W' : World} {base : Nat} {e : TypeId} {size : Nat} {v : Value} {k : Nat} {xs : List Value} (h : W.ownsRow base e size v k xs) (hb : Below W.heap.size W W') : W'.ownsRow base e size v k xs :=
  h.kept (row := none) ⟨hb.os, hb.tape, hb.output, hb.size, fun k hk _ => hb.block k hk⟩ (by
    rcases h.2 with ⟨rfl, _⟩ | ⟨g, cap, cur, rfl, _⟩
    · exact .inl rfl
    · exact .inr (by simp [Value.ownBlock]))
theorem ownsRow_mono {W : World} {base base' : Nat} {e : TypeId} {size : Nat} {v : Value} {k : Nat} {xs : List Value} (h : W.ownsRow base e size v k xs) (hb : base' ≤ base) : W.ownsRow base' e size v k xs := by
  obtain ⟨h0, h1⟩ := h
  refine ⟨h0, ?_⟩
  rcases h1 with h1 | ⟨g, cap, cur, h2, h3, h4⟩
  · exact .inl h1
  · exact .inr ⟨g, cap, cur, h2, by omega, h4⟩
/-- Behind the append law's two words, all that the walk owes. -/
theorem appendedE {W w1 : World} {N Bx : Nat} {t e : TypeId} {size : Nat} {v v' : Value} {k m : Nat} {xs ys : List Value} {tmp : Obj} {S : List Nat}
    (hv : Boxed W Bx t v) (hte : t ≠ e) (hrow : W.ownsRow N e size v k xs) (hN : N ≤ W.heap.size) (hS : Bx ∈ S)
    (hown' : w1.ownsRow N e size v' m ys) (hgrow : (W.alloc tmp).grownBy w1 v.ownBlock) :
    Boxed w1 Bx t v ∧ Boxed (w1.setCell ⟨Bx, 0, none⟩ v') Bx t v' ∧ (w1.setCell ⟨Bx, 0, none⟩ v').ownsRow N e size v' m ys ∧ KeepsOthers W (w1.setCell ⟨Bx, 0, none⟩ v') ∧ Exc S N W (w1.setCell ⟨Bx, 0, none⟩ v') := by
  have hv1 : Boxed w1 Bx t v := (hv.alloc tmp).kept hgrow (hv.not_row hte hrow)
  have hob : ∀ g, v.ownBlock = some g → N ≤ g ∧ ∃ cur, W.heap[g]? = some (.cells cur e (0, 0)) := by
    intro g hg
    rcases hrow.2 with ⟨rfl, _⟩ | ⟨g', cap, cur, rfl, h1, hgb, _⟩
    · simp [Value.ownBlock] at hg
    · obtain rfl : g' = g := by simpa [Value.ownBlock] using hg
      exact ⟨h1, cur, hgb⟩
  refine ⟨hv1, hv1.set v', hown'.kept (grownBy_setCell' w1 Bx v') (.inr (hv1.not_row hte hown').symm), ?_, ?_⟩
  · refine ((KeepsOthers.alloc W tmp).trans (KeepsOthers.of_grownBy hgrow fun j o ej hj => ?_)).trans (KeepsOthers.setCell _ _ _)
    obtain ⟨_, cur, hc⟩ := hob j ej
    rw [(Below.heap_alloc W tmp j (Array.getElem?_eq_some_iff.1 hc).1).trans hc] at hj
    cases hj; rfl
  · exact (((Exc.refl S N W).alloc hN tmp).grown hgrow (by simp; omega) (fun g hg => .inr (hob g hg).1)).setCell (.inl hS) _
end Go.Proofs.YtkgeihambgbjdaaDoor
/- Contracts of the small functions of package cube and of their references. -/
namespace Go.Proofs.YtkgeihambgbjdaaDoor.Cu
open Go Go.RowKit
set_option maxRecDepth 100000
theorem bal {w w' : World} (h : Below w.heap.size w w') (o : Obj) : Below w.heap.size w (w'.alloc o) := h.alloc h.size o
theorem shl64 {v : Nat} (h : v ≤ 6) : wrap64 ((2 : Int) ^ v) = ((2 ^ v : Nat) : Int) := by
  have h1 := pow6 h
  have h2 : ((2 ^ v : Nat) : Int) = (2 : Int) ^ v := by exact_mod_cast rfl
  rw [← h2]
  generalize 2 ^ v = n at h1
  exact IntWalk.wrap64_in _ ⟨by omega, by omega⟩
theorem kitLetters_any (v : Nat) (w : World) (hv : v ≤ 6) :
    Calls Tryd.prog 37 #[.int .i64 v] w fun e w' => e = .returned (.int .i64 (2 ^ v : Nat)) ∧ w = w' := by
  go_enter Tryd.func37, Tryd.ntmps37
  go_wp2
  go_ret
  exact ⟨ret_of (shl64 hv), rfl⟩
end Go.Proofs.YtkgeihambgbjdaaDoor.Cu
/- The iterators over letters and over literals. -/
namespace Go.Proofs.YtkgeihambgbjdaaDoor.Cu
open Go Go.RowKit Go.Shelf
set_option maxRecDepth 100000
attribute [local go_sem] Oper.semAt_some
/-- The members of a list. -/
abbrev In {β : Type} (L : List β) := { x : β // x ∈ L }
def vals {β : Type} {L : List β} (ys : List (In L)) : List β := ys.map (·.1)
theorem vals_snoc {β : Type} {L : List β} (ys : List (In L)) (x : In L) : vals (ys ++ [x]) = vals ys ++ [x.1] := by simp [vals]
theorem vals_len {β : Type} {L : List β} (ys : List (In L)) : (vals ys).length = ys.length := by simp [vals]
theorem vals_nil {β : Type} {L : List β} : vals ([] : List (In L)) = [] := rfl
theorem range_pre {a b : Nat} (h : a ≤ b) : List.range a <+: List.range b := by
  obtain ⟨c, rfl⟩ : ∃ c, b = a + c := ⟨b - a, by omega⟩
  rw [List.range_add]
  exact List.prefix_append _ _
theorem bit8 {p k : Nat} (hp : p < 256) (hk : k < 8) : (bits .and .u8 (p : Int) ((2 : Int) ^ k % 256) != 0) = p.testBit k := by
  have h1 : 2 ^ k < 2 ^ 8 := Nat.pow_lt_pow_right (by decide) hk
  have h2 : (2 : Int) ^ k % 256 = ((2 ^ k : Nat) : Int) := by
    have : ((2 ^ k : Nat) : Int) = (2 : Int) ^ k := by exact_mod_cast rfl
    rw [← this]
    generalize 2 ^ k = m at h1
    omega
  rw [h2, u8_and_nat _ _ hp (by omega)]
  have h3 := shift_and p k
  cases hb : p.testBit k with
  | true =>
    rw [hb] at h3
    rw [bne_iff_ne]
    have : p &&& 2 ^ k ≠ 0 := by simpa using h3
    exact_mod_cast this
  | false =>
    rw [hb] at h3
    have : p &&& 2 ^ k = 0 := by simpa using h3
    rw [this]; rfl
end Go.Proofs.YtkgeihambgbjdaaDoor.Cu
/- Letters of package cube. -/
namespace Go.Proofs.YtkgeihambgbjdaaDoor.Cu
open Go Go.RowKit Go.Shelf
set_option maxRecDepth 100000
attribute [local go_sem] Oper.semAt_some
theorem info_u8 : (Tryd.prog.info? 5).map (fun i => (i.zero, i.size, i.bytes)) = some (some (.int .u8 0), 1, 1) := by kernel_rfl
/-- Numbers as cells of bytes. -/
def bvs (l : List Nat) : List Value := l.map fun x : Nat => .int .u8 (x : Int)
theorem bvs_snoc (l : List Nat) (x : Nat) : bvs (l ++ [x]) = bvs l ++ [.int .u8 (x : Int)] := by simp [bvs]
end Go.Proofs.YtkgeihambgbjdaaDoor.Cu
/- Append and rows of one's own: plain laws over any program, shared by the stages from the third on. -/
namespace Go.Proofs.YtkgeihambgbjdaaDoor.Ap
open Go Go.RowKit
set_option maxRecDepth 100000
set_option linter.unusedVariables false
theorem own_form {w : World} {base e size n : Nat} {v : Value} {xs : List Value} (h : w.ownsRow base e size v n xs) : ∃ A c, v = .slice A n c ∧ n ≤ c := by
  rcases h.2 with ⟨rfl, rfl⟩ | ⟨g, cap, cur, rfl, _, _, h1, _⟩
  · exact ⟨none, 0, rfl, Nat.le_refl _⟩
  · exact ⟨_, _, rfl, h1⟩
theorem addr_add (b j : Nat) : (⟨b, 0, none⟩ : Addr).add j = ⟨b, j, none⟩ := by
  unfold Addr.add
  split
  · rename_i h; rw [h]
  · simp
theorem vals_new_ (W : World) (t : TypeId) (n : Nat) (f : Nat → Value) (xs : List Value) (hf : ∀ j, j < n → xs[j]? = some (f j)) : Vals (W.alloc (.cells xs.toArray t)) (some ⟨W.heap.size, 0, none⟩) n f := by
  intro j hj
  refine ⟨_, rfl, by simp, ?_⟩
  rw [addr_add, World.cell?_alloc_at _ _ _ _ rfl]
  simp [hf j hj]
theorem drewN_below (w : World) (n : Nat) : Below w.heap.size w (w.drewN n) := ⟨rfl, rfl, rfl, Nat.le_refl _, fun _ _ => rfl⟩
section
variable {P : Program}
theorem run_copy (w : World) (t ty e : TypeId) (i : TypeInfo) (z : Value) (bytes : Nat) (ht : P.underlying t = some (.slice e)) (hi : P.info? e = some i) (hz : i.zero = some z)
    (hsize : i.size = 1) (hby : i.bytes = bytes) (hzs : z.cells.size = 1) (A : Option Addr) (m c : Nat) (f : Nat → Value) (h : Vals w A m f) (h1 : ∀ j, j < m → (f j).oneCell' = true)
    (h63 : m ≤ maxLen) (hbytes : m * bytes ≤ 140737488355328) :
    ∃ v' w', (Builtin.append_ #[t, t] ty #[.slice none 0 0, .slice A m c]).run P w = .ok v' w' ∧ w'.ownsRow w.heap.size e 1 v' m ((List.range m).map f) ∧ w.grownBy w' none := by
  have hnil : w.ownsRow w.heap.size e 1 (.slice none 0 0) 0 [] := ⟨rfl, .inl ⟨rfl, rfl⟩⟩
  rcases A with _ | ad
  · have hm : m = 0 := by
      rcases Nat.eq_zero_or_pos m with h0 | h0
      · exact h0
      · obtain ⟨_, e, _⟩ := h 0 h0; cases e
    subst hm
    refine ⟨.slice none 0 0, w, ?_, hnil, World.grownBy.refl w none⟩
    simp [Builtin.append_, run_underlying ht, sizeOf, typeInfo, hi, Builtin.lenOf, Builtin.firstCells]
  · have hnews : ∀ j u, ((List.range m).map f)[j]? = some u → w.cell? (ad.add j) = some u := by
      intro j u hu
      by_cases hj : j < m
      · obtain ⟨ad', e, _, hc⟩ := h j hj
        cases e
        rw [hc, ← hu]
        simp [hj]
      · rw [List.getElem?_eq_none (by simp; omega)] at hu
        cases hu
    obtain ⟨v', w', hr, h2, h3, _, _⟩ := run_append_own_at (P := P) w w.heap.size t ty e i z 1 bytes ht hi hz hsize hby hzs (by decide) (.slice none 0 0) 0 [] hnil ad m c ((List.range m).map f) (by simp) hnews
      (by intro u hu; obtain ⟨j, hj, rfl⟩ := List.mem_map.1 hu; exact h1 j (List.mem_range.1 hj)) (by omega) (by rw [Nat.zero_add]; exact hbytes) (Nat.le_refl _)
    refine ⟨v', w', hr, ?_, h3⟩
    simpa using h2
theorem wpList_copy {w : World} {ops : Array Oper} {rest : List Oper} {o : Oper} {a : Act} {Q : Exit → Act → World → Prop} (hgd : o.guard = none) (s x : Operand) (t : TypeId)
    (ho : o.op = .call { callee := .builtin .append, args := #[s, x], argTypes := #[t, t] })
    (e : TypeId) (i : TypeInfo) (z : Value) (bytes : Nat) (ht : P.underlying t = some (.slice e)) (hi : P.info? e = some i) (hz : i.zero = some z)
    (hsize : i.size = 1) (hby : i.bytes = bytes) (hzs : z.cells.size = 1) (hs : a.eval s = .slice none 0 0) (A : Option Addr) (m c : Nat) (f : Nat → Value) (hx : a.eval x = .slice A m c) (hv : Vals w A m f)
    (h1 : ∀ j, j < m → (f j).oneCell' = true) (h63 : m ≤ maxLen) (hbytes : m * bytes ≤ 140737488355328)
    (h : ∀ A' c' w', w'.ownsRow w.heap.size e 1 (.slice A' m c') m ((List.range m).map f) → m ≤ c' → Below w.heap.size w w' → wpList P ops Q rest (a.put o.dst (.slice A' m c')) w') : wpList P ops Q (o :: rest) a w := by
  refine wpList_plain hgd fun K hK => ?_
  obtain ⟨v', w', hr, h2, h3⟩ := run_copy (P := P) w t o.type e i z bytes ht hi hz hsize hby hzs A m c f hv h1 h63 hbytes
  obtain ⟨A', c', rfl, hc⟩ := own_form h2
  unfold Oper.wp execOp
  simp only [ho, resolve, invoke, builtin, Sem.run_bind, Sem.run_pure, Result.andThen_ok, List.map_toArray, List.map_cons, List.map_nil, hs, hx, hr]
  exact hK _ _ (h A' c' w' h2 hc ((Below.refl _ _).grown h3 (Nat.le_refl _) (by simp)))
end
section
variable {P : Program}
theorem run_append_all (w : World) (base : Nat) (t ty e : TypeId) (i : TypeInfo) (z : Value) (bytes : Nat) (ht : P.underlying t = some (.slice e)) (hi : P.info? e = some i) (hz : i.zero = some z)
    (hsize : i.size = 1) (hby : i.bytes = bytes) (hzs : z.cells.size = 1) (v : Value) (n : Nat) (xs : List Value) (hown : w.ownsRow base e 1 v n xs)
    (A : Option Addr) (m c : Nat) (f : Nat → Value) (h : Vals w A m f) (h1 : ∀ j, j < m → (f j).oneCell' = true)
    (h63 : n + m ≤ maxLen) (hbytes : (n + m) * bytes ≤ 140737488355328) (hbase : base ≤ w.heap.size) :
    ∃ v' w', (Builtin.append_ #[t, t] ty #[v, .slice A m c]).run P w = .ok v' w' ∧ w'.ownsRow base e 1 v' (n + m) (xs ++ (List.range m).map f) ∧ w.grownBy w' v.ownBlock := by
  rcases A with _ | ad
  · have hm : m = 0 := by
      rcases Nat.eq_zero_or_pos m with h0 | h0
      · exact h0
      · obtain ⟨_, e, _⟩ := h 0 h0; cases e
    subst hm
    refine ⟨v, w, ?_, by simpa using hown, World.grownBy.refl w _⟩
    rcases hown.2 with ⟨rfl, rfl⟩ | ⟨g, cap, cur, rfl, _, _, hc, _⟩
    · simp [Builtin.append_, run_underlying ht, sizeOf, typeInfo, hi, Builtin.lenOf, Builtin.firstCells]
    · simp [Builtin.append_, run_underlying ht, sizeOf, typeInfo, hi, Builtin.lenOf, Builtin.firstCells, hc, storeCells]
  · have hnews : ∀ j u, ((List.range m).map f)[j]? = some u → w.cell? (ad.add j) = some u := by
      intro j u hu
      by_cases hj : j < m
      · obtain ⟨ad', e, _, hc⟩ := h j hj
        cases e
        rw [hc, ← hu]
        simp [hj]
      · rw [List.getElem?_eq_none (by simp; omega)] at hu
        cases hu
    obtain ⟨v', w', hr, h2, h3, _, _⟩ := run_append_own_at (P := P) (w := w) base t ty e i z 1 bytes ht hi hz hsize hby hzs (by decide) v n xs hown ad m c ((List.range m).map f) (by simp) hnews
      (by intro u hu; obtain ⟨j, hj, rfl⟩ := List.mem_map.1 hu; exact h1 j (List.mem_range.1 hj)) h63 hbytes hbase
    exact ⟨v', w', hr, h2, h3⟩
theorem wpList_append_all {w : World} {ops : Array Oper} {rest : List Oper} {o : Oper} {a : Act} {Q : Exit → Act → World → Prop} (hgd : o.guard = none) (s x : Operand) (t : TypeId)
    (ho : o.op = .call { callee := .builtin .append, args := #[s, x], argTypes := #[t, t] }) (base : Nat)
    (e : TypeId) (i : TypeInfo) (z : Value) (bytes : Nat) (ht : P.underlying t = some (.slice e)) (hi : P.info? e = some i) (hz : i.zero = some z)
    (hsize : i.size = 1) (hby : i.bytes = bytes) (hzs : z.cells.size = 1) (v : Value) (n : Nat) (xs : List Value) (hs : a.eval s = v) (hown : w.ownsRow base e 1 v n xs)
    (A : Option Addr) (m c : Nat) (f : Nat → Value) (hx : a.eval x = .slice A m c) (hv : Vals w A m f)
    (h1 : ∀ j, j < m → (f j).oneCell' = true) (h63 : n + m ≤ maxLen) (hbytes : (n + m) * bytes ≤ 140737488355328) (hbase : base ≤ w.heap.size)
    (h : ∀ A' c' w', w'.ownsRow base e 1 (.slice A' (n + m) c') (n + m) (xs ++ (List.range m).map f) → n + m ≤ c' → Below base w w' → wpList P ops Q rest (a.put o.dst (.slice A' (n + m) c')) w') : wpList P ops Q (o :: rest) a w := by
  refine wpList_plain hgd fun K hK => ?_
  obtain ⟨v', w', hr, h2, h3⟩ := run_append_all (P := P) w base t o.type e i z bytes ht hi hz hsize hby hzs v n xs hown A m c f hv h1 h63 hbytes hbase
  obtain ⟨A', c', rfl, hc⟩ := own_form h2
  unfold Oper.wp execOp
  simp only [ho, resolve, invoke, builtin, Sem.run_bind, Sem.run_pure, Result.andThen_ok, List.map_toArray, List.map_cons, List.map_nil, hs, hx, hr]
  exact hK _ _ (h A' c' w' h2 hc ((Below.refl _ _).grown h3 hbase (fun q hq => (hown.lt q hq).1)))
end
theorem own_bel {w w' : World} {B e size n : Nat} {v : Value} {xs : List Value} (h : w.ownsRow B e size v n xs) (hb : Below w.heap.size w w') : w'.ownsRow B e size v n xs := by
  refine ⟨h.1, ?_⟩
  rcases h.2 with h0 | ⟨g, cap, cur, hv, hg, hc, rest⟩
  · exact .inl h0
  · refine .inr ⟨g, cap, cur, hv, hg, ?_, rest⟩
    rw [hb.block g (Array.getElem?_eq_some_iff.1 hc).1]
    exact hc
theorem own_low {w : World} {B B' e size n : Nat} {v : Value} {xs : List Value} (h : w.ownsRow B e size v n xs) (hb : B' ≤ B) : w.ownsRow B' e size v n xs := by
  refine ⟨h.1, ?_⟩
  rcases h.2 with h0 | ⟨g, cap, cur, hv, hg, rest⟩
  · exact .inl h0
  · exact .inr ⟨g, cap, cur, hv, Nat.le_trans hb hg, rest⟩
theorem wpList_unguard {P : Program} {ops : Array Oper} {Q : Exit → Act → World → Prop} {a : Act} {w : World} {rest : List Oper} {o : Oper} (hw : Region.wanted o (yielded ops a.tmps) = true) (h : wpList P ops Q ({ o with guard := none } :: rest) a w) : wpList P ops Q (o :: rest) a w := by
  unfold wpList at h ⊢
  rw [if_pos hw]
  rw [if_pos (show Region.wanted { o with guard := none } (yielded ops a.tmps) = true from rfl)] at h
  exact h
end Go.Proofs.YtkgeihambgbjdaaDoor.Ap
/- Lists of ints: comparison, copies, overwriting. -/
namespace Go.Proofs.YtkgeihambgbjdaaDoor.Dg
open Go Go.RowKit Go.Proofs.YtkgeihambgbjdaaDoor.Ap
set_option maxRecDepth 100000
theorem info_int : (Tryd.prog.info? 3).map (fun i => (i.zero, i.size, i.bytes)) = some (some (.int .i64 0), 1, 8) := by kernel_rfl
theorem nd_ext {xs ys : List Int} (h : xs.length = ys.length) (hk : ∀ i, i < xs.length → nd xs i = nd ys i) : xs = ys := by
  apply List.ext_getElem h
  intro i h1 h2
  have := hk i h1
  simpa [nd, h1, h2] using this
theorem ivs_nd (l : List Int) : (List.range l.length).map (fun j => Value.int .i64 (nd l j)) = l.map (Value.int .i64) := by
  apply List.ext_getElem
  · simp
  · intro j h1 h2
    have : j < l.length := by simpa using h1
    simp [nd, this]
theorem ints_row {w : World} {base : Nat} {A : Option Addr} {n c : Nat} {l : List Int} (h : w.ownsRow base 3 1 (.slice A n c) n (l.map (Value.int .i64))) (hn : n = l.length) : Ints w A l := by
  subst hn
  exact Vals.of_own h fun j hj => by simp [nd, hj]
theorem ints_new (W : World) (t : TypeId) (l : List Int) : Ints (W.alloc (.cells (l.map (Value.int .i64)).toArray t)) (some ⟨W.heap.size, 0, none⟩) l :=
  vals_new_ W t _ _ _ fun j hj => by simp [nd, hj]
set_option maxHeartbeats 1000000 in
theorem EqualInts_any (A B : Option Addr) (xs ys : List Int) (c d : Nat) (w : World) (hx : Ints w A xs) (hy : Ints w B ys) (hl : xs.length ≤ maxLen) :
    Calls Tryd.prog 21 #[.slice A xs.length c, .slice B ys.length d] w fun e w' => e = .returned (.bool (decide (xs = ys))) ∧ Below w.heap.size w w' := by
  unfold maxLen at hl
  by_cases hlen : xs.length = ys.length
  · have HE := Lib.hid hlen
    have hle : xs.length ≤ ys.length := by omega
    have hge : ys.length ≤ xs.length := by omega
    clear hlen
    go_enter Tryd.func21, Tryd.ntmps21
    go_wp2
    go_loopw [5] (fun i wr => ∃ k q : Nat, k ≤ xs.length ∧ i = .int .i64 k ∧ Hid (∀ i, i < k → nd xs i = nd ys i) ∧ wr = w.drewN q) (fun i _ => xs.length - (intOf i).toNat)
    case atStart => exact ⟨0, 0, by omega, rfl, fun i hi => absurd hi (by omega), rfl⟩
    case round =>
      obtain ⟨k, q, hk, rfl, H, rfl⟩ := hrel
      by_cases hlt : k < xs.length
      · obtain ⟨ad, rfl, hcell⟩ := hx.at_ hlt
        obtain ⟨bd, rfl, hcell'⟩ := hy.at_ (j := k) (by omega)
        by_cases h : nd xs k = nd ys k
        · have H' : Hid (∀ i, i < k + 1 → nd xs i = nd ys i) := fun i hi => by
            rcases Nat.lt_or_eq_of_le (Nat.le_of_lt_succ hi) with h1 | rfl
            · exact H.out i h1
            · exact h
          rw [← h] at hcell'
          clear h H
          go_wp2
          go_quiet (fail)
          go_wp2
          go_roundw
          case rel => exact ⟨k + 1, q + nq, by omega, by go_num, H', by simp⟩
          case measure => simp [intOf]; omega
        · have HF : Hid (decide (xs = ys) = false) := by
            show _ = _
            rw [decide_eq_false_iff_not]
            rintro rfl
            exact h rfl
          have hne : (nd xs k != nd ys k) = true := by rw [bne_iff_ne]; exact h
          clear h H HE
          generalize nd ys k = y at *
          go_wp2
          go_quiet (fail)
          go_wp2
          go_ret
          exact ⟨ret_bool HF.out.symm, by rw [World.drewN_drewN]; exact drewN_below _ _⟩
      · obtain rfl : k = xs.length := by omega
        have HT : Hid (decide (xs = ys) = true) := by
          show _ = _
          rw [decide_eq_true_iff]
          exact nd_ext HE.out H.out
        go_wp2
        go_ret
        exact ⟨ret_bool HT.out.symm, drewN_below _ _⟩
  · have H' : Hid (decide (xs = ys) = false) := by
      show _ = _
      rw [decide_eq_false_iff_not]
      rintro rfl
      exact hlen rfl
    have hne : (((xs.length : Nat) : Int) != ((ys.length : Nat) : Int)) = true := by rw [bne_iff_ne]; exact_mod_cast hlen
    clear hlen
    go_enter Tryd.func21, Tryd.ntmps21
    go_wp2
    go_ret
    exact ⟨ret_bool H'.out.symm, Below.refl _ _⟩
theorem CopyInts_any (A : Option Addr) (l : List Int) (c : Nat) (w : World) (hx : Ints w A l) (hl : l.length ≤ 1000000) :
    Calls Tryd.prog 58 #[.slice A l.length c] w fun e w' => ∃ A' c', e = .returned (.slice A' l.length c') ∧ w'.ownsRow w.heap.size 3 1 (.slice A' l.length c') l.length (l.map (Value.int .i64)) ∧ l.length ≤ c' ∧ Below w.heap.size w w' := by
  obtain ⟨i0, hi, hz0, hz1, hz2⟩ := info_parts info_int
  have HM := Lib.hid (ivs_nd l)
  obtain ⟨n, hn⟩ : ∃ n, n = l.length := ⟨_, rfl⟩
  have hx2 : Vals w A n fun j => .int .i64 (nd l j) := by rw [hn]; exact hx
  rw [← hn] at HM hl ⊢
  clear hn hx
  go_enter Tryd.func58, Tryd.ntmps58
  go_wp2_with (at_builtin; refine wpList_copy rfl _ _ 33 rfl 3 i0 (.int .i64 0) 8 Tryd.underlying33 hi hz0 hz1 hz2 rfl rfl A n c _ rfl hx2 (fun j _ => rfl) (by unfold maxLen; omega) (by omega) ?_; intro A' c' w' ho hc hb)
  go_ret
  rw [HM.out] at ho
  exact ⟨A', c', rfl, ho, hc, hb⟩
/-- Each of the n ints at A may be overwritten; they lie in no block below B. -/
def CanI (B : Nat) (w : World) (A : Option Addr) (n : Nat) : Prop :=
  ∀ j, j < n → ∃ ad, A = some ad ∧ B ≤ ad.block ∧ w.frozen? (ad.add j) = false ∧ ∃ u, w.cell? (ad.add j) = some u
theorem CanI.set {B : Nat} {w : World} {A : Option Addr} {n : Nat} (h : CanI B w A n) (p : Addr) (v : Value) : CanI B (w.setCell p v) A n := by
  intro j hj
  obtain ⟨ad, e, h1, h2, u, h4⟩ := h j hj
  refine ⟨ad, e, h1, by rw [World.frozen?_setCell]; exact h2, ?_⟩
  by_cases hp : p = ad.add j
  · subst hp
    exact ⟨v, World.cell?_setCell_same _ _ _ h4⟩
  · exact ⟨u, by rw [World.cell?_setCell_other _ _ _ _ hp]; exact h4⟩
theorem own_somev {w : World} {base e size n : Nat} {v : Value} {xs : List Value} (h : w.ownsRow base e size v n xs) (hn : 0 < n) : ∃ g c, v = .slice (some ⟨g, 0, none⟩) n c ∧ base ≤ g := by
  rcases h.2 with ⟨h1, _⟩ | ⟨g, cap, cur, rfl, h2, _⟩
  · omega
  · exact ⟨_, _, rfl, h2⟩
theorem CanI.own {B : Nat} {w : World} {e n c : Nat} {A : Option Addr} {xs : List Value} (h : w.ownsRow B e 1 (.slice A n c) n xs) : CanI B w A n := by
  intro j hj
  obtain ⟨g, c', hv, hg⟩ := own_somev h (by omega)
  injection hv with hA _ hc
  subst hA hc
  have hx : j < xs.length := by have := h.1; omega
  refine ⟨_, rfl, hg, ?_, xs[j], ?_⟩
  · rw [addr_add]; exact h.frozenAt j
  · rw [addr_add, h.cellAt j (by omega), List.getElem?_eq_getElem hx]
theorem OverInts_any (B : Nat) (A : Option Addr) (n c : Nat) (w : World) (hn : n ≤ 1000000) (hw : CanI B w A n) :
    Calls Tryd.prog 23 #[.slice A n c] w fun e w' => e = .returned (.tuple #[]) ∧ Below B w w' := by
  go_enter Tryd.func23, Tryd.ntmps23
  go_wp2
  go_loopw [2] (fun i wr => ∃ k : Nat, k ≤ n ∧ i = .int .i64 k ∧ CanI B wr A n ∧ Below B w wr) (fun i _ => n - (intOf i).toNat)
  case atStart => exact ⟨0, by omega, rfl, hw, Below.refl _ _⟩
  case round =>
    clear hw
    obtain ⟨k, hk, rfl, hw, hb⟩ := hrel
    by_cases hlt : k < n
    · obtain ⟨ad, rfl, g1, g2, u, g3⟩ := hw k hlt
      have hb2 := hb.setCell (p := ad.add k) (by rw [addr_block]; exact g1) (.int .i64 (-77))
      have hw2 := hw.set (ad.add k) (.int .i64 (-77))
      clear hb hw g1
      go_wp2
      go_roundw
      case rel => exact ⟨k + 1, by omega, by go_num, hw2, hb2⟩
      case measure => simp [intOf]; omega
    · obtain rfl : k = n := by omega
      go_wp2
      go_end0
      exact ⟨rfl, hb⟩
end Go.Proofs.YtkgeihambgbjdaaDoor.Dg
/- Slices of tables; the reference's find and fixed. -/
namespace Go.Proofs.YtkgeihambgbjdaaDoor.Dg
open Go Go.RowKit Go.Proofs.YtkgeihambgbjdaaDoor.Ap
set_option maxRecDepth 100000
/-- The j-th table. -/
def tb (L : List (List Int)) (j : Nat) : List Int := L.getD j []
/-- The slice that begins at A holds the tables L. -/
def Tabs (X : World) (A : Option Addr) (L : List (List Int)) : Prop :=
  ∀ j, j < L.length → ∃ ad p c, A = some ad ∧ ad.block < X.heap.size ∧ X.cell? (ad.add j) = some (.slice p (tb L j).length c) ∧ Ints X p (tb L j)
theorem Tabs.below {X Y : World} {A : Option Addr} {L : List (List Int)} (h : Tabs X A L) (hb : Below X.heap.size X Y) : Tabs Y A L := fun j hj => by
  obtain ⟨ad, p, c, e, h1, h2, h3⟩ := h j hj
  exact ⟨ad, p, c, e, Nat.lt_of_lt_of_le h1 hb.size, (hb.cell (by rw [addr_block]; exact h1)).trans h2, Vals.below h3 hb⟩
theorem tb_mem {L : List (List Int)} {j : Nat} (h : j < L.length) : tb L j ∈ L := by
  unfold tb
  rw [List.getD_eq_getElem?_getD, List.getElem?_eq_getElem h]
  exact List.getElem_mem h
theorem mem_tb {L : List (List Int)} {t : List Int} (h : t ∈ L) : ∃ j, j < L.length ∧ tb L j = t := by
  obtain ⟨j, hj, rfl⟩ := List.mem_iff_getElem.1 h
  exact ⟨j, hj, by unfold tb; rw [List.getD_eq_getElem?_getD, List.getElem?_eq_getElem hj]; rfl⟩
/-- The table with the variables below k fixed as in x. -/
def fixL (t : List Int) (k x m : Nat) : List Int := (List.range m).map fun y => nd t (y / 2 ^ k * 2 ^ k + x % 2 ^ k)
theorem fixL_succ (t : List Int) (k x m : Nat) : fixL t k x (m + 1) = fixL t k x m ++ [nd t (m / 2 ^ k * 2 ^ k + x % 2 ^ k)] := by
  unfold fixL
  rw [List.range_succ, List.map_append]; rfl
theorem fixL_len (t : List Int) (k x m : Nat) : (fixL t k x m).length = m := by simp [fixL]
theorem fix_bits : ((List.range 7).all fun k => (List.range 64).all fun y => (List.range 64).all fun x => bits .or .i64 (bits .andNot .i64 (y : Int) ((2 ^ k : Nat) - 1 : Int)) (bits .and .i64 (x : Int) ((2 ^ k : Nat) - 1 : Int)) == ((y / 2 ^ k * 2 ^ k + x % 2 ^ k : Nat) : Int)) = true := by decide +kernel
theorem fix_bit {k y x : Nat} (hk : k ≤ 6) (hy : y < 64) (hx : x < 64) : bits .or .i64 (bits .andNot .i64 (y : Int) ((2 ^ k : Nat) - 1 : Int)) (bits .and .i64 (x : Int) ((2 ^ k : Nat) - 1 : Int)) = ((y / 2 ^ k * 2 ^ k + x % 2 ^ k : Nat) : Int) := by
  have h1 := List.all_eq_true.1 fix_bits k (List.mem_range.2 (by omega))
  have h2 := List.all_eq_true.1 h1 y (List.mem_range.2 hy)
  have h3 := List.all_eq_true.1 h2 x (List.mem_range.2 hx)
  exact beq_iff_eq.1 h3
theorem fix_lt {v k y x : Nat} (hk : k ≤ v) (hy : y < 2 ^ v) : y / 2 ^ k * 2 ^ k + x % 2 ^ k < 2 ^ v := by
  have hp : 0 < 2 ^ k := Nat.pow_pos (by decide)
  have h1 := Nat.mod_lt x hp
  obtain ⟨d, rfl⟩ : ∃ d, v = k + d := ⟨v - k, by omega⟩
  rw [Nat.pow_add] at hy ⊢
  have h2 : y / 2 ^ k < 2 ^ d := Nat.div_lt_of_lt_mul hy
  have h3 : (y / 2 ^ k + 1) * 2 ^ k ≤ 2 ^ d * 2 ^ k := Nat.mul_le_mul_right _ h2
  rw [Nat.add_mul, Nat.one_mul, Nat.mul_comm (2 ^ d)] at h3
  omega
end Go.Proofs.YtkgeihambgbjdaaDoor.Dg
/- The reference's fixed and nodes. -/
namespace Go.Proofs.YtkgeihambgbjdaaDoor.Dg
open Go Go.RowKit Go.Proofs.YtkgeihambgbjdaaDoor.Ap
set_option maxRecDepth 100000
theorem pow7 {v : Nat} (h : v ≤ 6) : 2 ^ v ≤ 64 := Nat.pow_le_pow_right (n := 2) (by decide) h
theorem shl_i64 {v : Nat} (h : v ≤ 6) : wrap64 ((2 : Int) ^ v) = ((2 ^ v : Nat) : Int) := by
  have h1 := pow7 h
  have h2 : ((2 ^ v : Nat) : Int) = (2 : Int) ^ v := by exact_mod_cast rfl
  rw [← h2]
  generalize 2 ^ v = m at h1
  unfold wrap64
  omega
theorem cell_one (W : World) (t : TypeId) (v : Value) : ∀ j u, [v][j]? = some u → (W.alloc (.cells #[v] t)).cell? ((⟨W.heap.size, 0, none⟩ : Addr).add j) = some u := by
  intro j u hu
  rw [addr_add, World.cell?_alloc_at _ _ _ _ rfl]
  simpa using hu
theorem ownsRow_form {w : World} {base : Nat} {e : TypeId} {size : Nat} {v : Value} {n : Nat} {xs : List Value} (h : w.ownsRow base e size v n xs) (hn : 0 < n) : ∃ g c, v = .slice (some ⟨g, 0, none⟩) n c := by
  obtain ⟨g, c, e, _⟩ := own_somev h hn
  exact ⟨g, c, e⟩
end Go.Proofs.YtkgeihambgbjdaaDoor.Dg
/- A row of tables of one's own; the reference's nodes. -/
namespace Go.Proofs.YtkgeihambgbjdaaDoor.Dg
open Go Go.RowKit Go.Proofs.YtkgeihambgbjdaaDoor.Ap
set_option maxRecDepth 100000
theorem info_tab : (Tryd.prog.info? 33).map (fun i => (i.zero, i.size, i.bytes)) = some (some (.slice none 0 0), 1, 24) := by kernel_rfl
def slv (Q : List (Option Addr × Nat × List Int)) : List Value := Q.map fun q => .slice q.1 q.2.2.length q.2.1
/-- The tables O in a row of one's own, at or above B; each table lies in a block that is not the row's. -/
def OwnT (B : Nat) (X : World) (u : Value) (O : List (List Int)) : Prop :=
  ∃ Q : List (Option Addr × Nat × List Int), Q.map (fun q => q.2.2) = O ∧ X.ownsRow B 33 1 u O.length (slv Q) ∧
    ∀ q ∈ Q, Ints X q.1 q.2.2 ∧ ∀ ad, q.1 = some ad → ad.block < X.heap.size ∧ u.ownBlock ≠ some ad.block
theorem OwnT.nil (B : Nat) (X : World) : OwnT B X (.slice none 0 0) [] := ⟨[], rfl, ⟨rfl, .inl ⟨rfl, rfl⟩⟩, fun q hq => by cases hq⟩
theorem OwnT.below {B : Nat} {X Y : World} {u : Value} {O : List (List Int)} (h : OwnT B X u O) (hb : Below X.heap.size X Y) : OwnT B Y u O := by
  obtain ⟨Q, e, ho, hq⟩ := h
  exact ⟨Q, e, own_bel ho hb, fun q h1 => ⟨Vals.below (hq q h1).1 hb, fun ad h2 => ⟨Nat.lt_of_lt_of_le ((hq q h1).2 ad h2).1 hb.size, ((hq q h1).2 ad h2).2⟩⟩⟩
theorem OwnT.row {B : Nat} {X : World} {u : Value} {O : List (List Int)} (h : OwnT B X u O) : ∃ A c, u = .slice A O.length c ∧ O.length ≤ c := by
  obtain ⟨Q, e, ho, hq⟩ := h
  exact own_form ho
theorem OwnT.tabs {B : Nat} {X : World} {A : Option Addr} {n c : Nat} {O : List (List Int)} (h : OwnT B X (.slice A n c) O) (hn : n = O.length) : Tabs X A O := by
  obtain ⟨Q, e, ho, hq⟩ := h
  subst hn
  have hl : Q.length = O.length := by rw [← e, List.length_map]
  have hv := Vals.of_own (f := fun j => (slv Q).getD j (.slice none 0 0)) ho fun j hj => by
    have : j < (slv Q).length := by unfold slv; rw [List.length_map]; omega
    rw [List.getD_eq_getElem?_getD, List.getElem?_eq_getElem this]; rfl
  intro j hj
  obtain ⟨ad, e1, h1, h2⟩ := hv j hj
  have hjQ : j < Q.length := by omega
  have h3 := hq Q[j] (List.getElem_mem hjQ)
  have e2 : tb O j = Q[j].2.2 := by
    unfold tb
    rw [← e, List.getD_eq_getElem?_getD, List.getElem?_map, List.getElem?_eq_getElem hjQ]; rfl
  refine ⟨ad, Q[j].1, Q[j].2.1, e1, h1, ?_, by rw [e2]; exact h3.1⟩
  rw [h2, e2]
  unfold slv
  simp only [List.getD_eq_getElem?_getD, List.getElem?_map, List.getElem?_eq_getElem hjQ]
  rfl
theorem own_push {B : Nat} {X Y : World} {u v' : Value} {O : List (List Int)} {p : Option Addr} {c : Nat} {t : List Int} {tmp : Obj} {Q : List (Option Addr × Nat × List Int)} (e : Q.map (fun q => q.2.2) = O) (hq : ∀ q ∈ Q, Ints X q.1 q.2.2 ∧ ∀ ad, q.1 = some ad → ad.block < X.heap.size ∧ u.ownBlock ≠ some ad.block) (ht : Ints X p t) (hp : ∀ ad, p = some ad → ad.block < X.heap.size ∧ u.ownBlock ≠ some ad.block)
    (hown : Y.ownsRow B 33 1 v' (O.length + 1) (slv Q ++ [.slice p t.length c])) (hgrow : (X.alloc tmp).grownBy Y u.ownBlock) (hob : v'.ownBlock = u.ownBlock ∨ v'.ownBlock = some (X.alloc tmp).heap.size) : OwnT B Y v' (O ++ [t]) := by
  obtain ⟨_, _, _, gs, gb⟩ := hgrow
  have hsz : X.heap.size + 1 ≤ Y.heap.size := by simpa using gs
  have keep : ∀ (q : Option Addr) (l : List Int), Ints X q l → (∀ ad, q = some ad → ad.block < X.heap.size ∧ u.ownBlock ≠ some ad.block) → Ints Y q l ∧ ∀ ad, q = some ad → ad.block < Y.heap.size ∧ v'.ownBlock ≠ some ad.block := by
    intro q l hi hd
    refine ⟨fun j hj => ?_, fun ad h1 => ⟨by have := (hd ad h1).1; omega, ?_⟩⟩
    · obtain ⟨ad, e1, h1, h2⟩ := hi j hj
      have hne := (hd ad e1).2
      refine ⟨ad, e1, by omega, ?_⟩
      have hbk : Y.heap[ad.block]? = X.heap[ad.block]? := (gb ad.block (by simp; omega) (fun h => hne h.symm)).trans (Below.heap_alloc X tmp _ h1)
      rw [← h2]
      exact World.cell?_of_block (by rw [addr_block]; exact hbk)
    · rcases hob with h | h
      · rw [h]; exact (hd ad h1).2
      · rw [h]
        intro h2
        have := (hd ad h1).1
        simp at h2
        omega
  refine ⟨Q ++ [(p, c, t)], by rw [List.map_append, e]; rfl, ?_, ?_⟩
  · have := hown
    rw [List.length_append]
    have e2 : slv (Q ++ [(p, c, t)]) = slv Q ++ [.slice p t.length c] := by unfold slv; rw [List.map_append]; rfl
    rw [e2]
    exact this
  · intro q h1
    rcases List.mem_append.1 h1 with h2 | h2
    · exact keep _ _ (hq q h2).1 (hq q h2).2
    · rw [List.mem_singleton] at h2
      subst h2
      exact keep p t ht hp
/-- A table joins the list, if it is not there. -/
def addN (O : List (List Int)) (t : List Int) : List (List Int) := if t ∈ O then O else O ++ [t]
def rowX (O : List (List Int)) (t : List Int) (k m : Nat) : List (List Int) := (List.range m).foldl (fun o x => addN o (fixL t k x t.length)) O
def colK (O : List (List Int)) (t : List Int) (m : Nat) : List (List Int) := (List.range m).foldl (fun o k => rowX o t k (2 ^ k)) O
def allN (L : List (List Int)) (v m : Nat) : List (List Int) := (L.take m).foldl (fun o t => colK o t (v + 1)) []
/-- The nodes of the diagrams of the tables L. -/
def nodesL (L : List (List Int)) (v : Nat) : List (List Int) := allN L v L.length
theorem rowX_zero (O : List (List Int)) (t : List Int) (k : Nat) : rowX O t k 0 = O := by unfold rowX; rw [List.range_zero]; rfl
theorem colK_zero (O : List (List Int)) (t : List Int) : colK O t 0 = O := by unfold colK; rw [List.range_zero]; rfl
theorem allN_zero (L : List (List Int)) (v : Nat) : allN L v 0 = [] := by unfold allN; rw [List.take_zero]; rfl
theorem rowX_succ (O : List (List Int)) (t : List Int) (k m : Nat) : rowX O t k (m + 1) = addN (rowX O t k m) (fixL t k m t.length) := by
  unfold rowX; rw [List.range_succ, List.foldl_append]; rfl
theorem colK_succ (O : List (List Int)) (t : List Int) (m : Nat) : colK O t (m + 1) = rowX (colK O t m) t m (2 ^ m) := by
  unfold colK; rw [List.range_succ, List.foldl_append]; rfl
theorem allN_succ (L : List (List Int)) (v m : Nat) (h : m < L.length) : allN L v (m + 1) = colK (allN L v m) (tb L m) (v + 1) := by
  unfold allN
  rw [List.take_succ_eq_append_getElem h, List.foldl_append]
  have : tb L m = L[m] := by unfold tb; rw [List.getD_eq_getElem?_getD, List.getElem?_eq_getElem h]; rfl
  rw [this]; rfl
theorem addN_cases (O : List (List Int)) (t : List Int) : (t ∈ O → addN O t = O) ∧ (t ∉ O → addN O t = O ++ [t]) := ⟨fun h => if_pos h, fun h => if_neg h⟩
theorem addN_len (O : List (List Int)) (t : List Int) : (addN O t).length ≤ O.length + 1 := by unfold addN; split <;> simp
theorem rowX_len (O : List (List Int)) (t : List Int) (k : Nat) : ∀ m, (rowX O t k m).length ≤ O.length + m
  | 0 => Nat.le_refl _
  | m + 1 => by
    rw [rowX_succ]
    have := addN_len (rowX O t k m) (fixL t k m t.length)
    have := rowX_len O t k m
    omega
theorem colK_len (O : List (List Int)) (t : List Int) : ∀ m, (colK O t m).length + 1 ≤ O.length + 2 ^ m
  | 0 => Nat.le_refl _
  | m + 1 => by
    rw [colK_succ, Nat.pow_succ]
    have := rowX_len (colK O t m) t m (2 ^ m)
    have := colK_len O t m
    omega
theorem allN_len (L : List (List Int)) (v : Nat) : ∀ m, m ≤ L.length → (allN L v m).length ≤ m * 2 ^ (v + 1)
  | 0, _ => by simp [allN]
  | m + 1, h => by
    rw [allN_succ L v m h, Nat.succ_mul]
    have := colK_len (allN L v m) (tb L m) (v + 1)
    have := allN_len L v m (by omega)
    omega
/-- Every table of the list has n values. -/
def AllLen (n : Nat) (O : List (List Int)) : Prop := ∀ t ∈ O, t.length = n
theorem addN_all {n : Nat} {O : List (List Int)} {t : List Int} (h : AllLen n O) (ht : t.length = n) : AllLen n (addN O t) := by
  unfold addN
  split
  · exact h
  · intro u hu
    rcases List.mem_append.1 hu with h1 | h1
    · exact h u h1
    · rw [List.mem_singleton] at h1; rw [h1]; exact ht
theorem rowX_all {n : Nat} {O : List (List Int)} {t : List Int} (h : AllLen n O) (ht : t.length = n) (k : Nat) : ∀ m, AllLen n (rowX O t k m)
  | 0 => h
  | m + 1 => by rw [rowX_succ]; exact addN_all (rowX_all h ht k m) (by rw [fixL_len]; exact ht)
theorem colK_all {n : Nat} {O : List (List Int)} {t : List Int} (h : AllLen n O) (ht : t.length = n) : ∀ m, AllLen n (colK O t m)
  | 0 => h
  | m + 1 => by rw [colK_succ]; exact rowX_all (colK_all h ht m) ht m _
theorem allN_all {n v : Nat} {L : List (List Int)} (h : AllLen n L) : ∀ m, m ≤ L.length → AllLen n (allN L v m)
  | 0, _ => fun t ht => by simp [allN] at ht
  | m + 1, hm => by rw [allN_succ L v m hm]; exact colK_all (allN_all h m (by omega)) (h _ (tb_mem hm)) _
end Go.Proofs.YtkgeihambgbjdaaDoor.Dg
