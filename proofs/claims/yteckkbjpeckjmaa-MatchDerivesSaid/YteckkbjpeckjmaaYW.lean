/- Texts of expressions (package regex): the builder's frame, and leaves. -/
import Derived.Test.YteckkbjpeckjmaaYT
import Derived.Test.YteckkbjpeckjmaaYL
import Derived.RangeFuncBox
import Derived.Deep.DeepCutAuto
namespace Go.Proofs.Yteckkbjpeckjmaa.Rx
open Go Go.RowKit Go.Proofs.Yteckkbjpeckjmaa
set_option linter.unusedVariables false
set_option maxRecDepth 100000
/-- What a call that writes into the builder in block b keeps. -/
structure BK (b : Nat) (w w' : World) : Prop where
  bel : Below b w w'
  oth : Lib.OthersKept 5 (some b) w w'
namespace BK
variable {b : Nat} {w w1 w2 : World}
theorem trans (h : BK b w w1) (k : BK b w1 w2) : BK b w w2 := ⟨h.bel.trans k.bel, h.oth.trans k.oth⟩
theorem of_below (h : Below w.heap.size w w1) (hb : b ≤ w.heap.size) : BK b w w1 := ⟨h.mono hb, fun k o hk _ _ => (h.block k (Array.getElem?_eq_some_iff.1 hk).1).trans hk⟩
theorem boxed (h : BK b w w1) {k : Nat} {t : TypeId} {u : Value} (hk : Boxed w k t u) (hne : k ≠ b) (ht : t ≠ 5) : Boxed w1 k t u :=
  h.oth k _ hk (fun e => hne (by cases e; rfl)) (by rintro c fz e; cases e; exact ht rfl)
theorem block (h : BK b w w1) {k : Nat} {cs : Array Value} {t : TypeId} (hk : w.heap[k]? = some (.cells cs t (0, 0))) (hne : k ≠ b) (ht : t ≠ 5) : w1.heap[k]? = some (.cells cs t (0, 0)) :=
  h.oth k _ hk (fun e => hne (by cases e; rfl)) (by rintro c fz e; cases e; exact ht rfl)
end BK
/-- The builder in block b holds the bytes l. -/
def Bld (w : World) (b : Nat) (l : List UInt8) : Prop := Lib.IsBuilderF 87 5 b b (Lib.byteCells l) w
theorem Bld.below {w w1 : World} {b : Nat} {l : List UInt8} (h : Bld w b l) (hb : Below w.heap.size w w1) : Bld w1 b l :=
  Lib.IsBuilderF.kept (row := none) h ⟨hb.os, hb.tape, hb.output, hb.size, fun k hk _ => hb.block k hk⟩ (fun r e => by cases e)
theorem byteCells_add (l m : List UInt8) : Lib.byteCells (l ++ m) = Lib.byteCells l ++ Lib.byteCells m := by simp [Lib.byteCells]
theorem byte_cell (c : Nat) (h : c < 256) : Lib.byteCells [UInt8.ofNat c] = [.int .u8 c] := by
  simp [Lib.byteCells]
  omega
theorem strCells_of (l : List UInt8) : Lib.strCells ⟨l.toArray⟩ = Lib.byteCells l := by simp [Lib.strCells, Lib.byteCells]
/-- WriteByte, at a builder that holds l. -/
theorem write_byte (b c : Nat) (l : List UInt8) (w : World) (h : Bld w b l) (hc : c < 256) (hl : l.length ≤ 1000000) (hb : b ≤ w.heap.size) :
    Calls Try.prog 57 #[.pointer (some ⟨b, 0, none⟩), .int .u8 c] w fun e w' => e = .returned .nilIface ∧ Bld w' b (l ++ [UInt8.ofNat c]) ∧ BK b w w' := by
  refine (WriteByte_any b b (Lib.byteCells l) c w h (by rw [Lib.byteCells_length]; omega) hb).mono ?_
  rintro e w' ⟨rfl, h1, h2, h3⟩
  refine ⟨rfl, ?_, h2, h3⟩
  unfold Bld
  rw [byteCells_add, byte_cell c hc]
  exact .inr h1
theorem write_lit (b c : Nat) (k : Int) (hk : (c : Int) = k) (l : List UInt8) (w : World) (h : Bld w b l) (hc : c < 256) (hl : l.length ≤ 1000000) (hb : b ≤ w.heap.size) :
    Calls Try.prog 57 #[.pointer (some ⟨b, 0, none⟩), .int .u8 k] w fun e w' => e = .returned .nilIface ∧ Bld w' b (l ++ [UInt8.ofNat c]) ∧ BK b w w' := by
  subst hk; exact write_byte b c l w h hc hl hb
theorem write_string (b : Nat) (s : List UInt8) (l : List UInt8) (w : World) (h : Bld w b l) (hl : l.length ≤ 1000000) (hs : s.length ≤ 1000000) (hb : b ≤ w.heap.size) :
    Calls Try.prog 87 #[.pointer (some ⟨b, 0, none⟩), .string ⟨s.toArray⟩] w fun e w' => e = .returned (.tuple #[.int .i64 s.length, .nilIface]) ∧ Bld w' b (l ++ s) ∧ BK b w w' := by
  refine (WriteString_any b b (Lib.byteCells l) ⟨s.toArray⟩ w h (by rw [Lib.byteCells_length]; show l.length + s.toArray.size ≤ _; rw [List.size_toArray]; omega) hb).mono ?_
  rintro e w' ⟨rfl, h1, h2, h3⟩
  refine ⟨by show _ = _; simp [ByteArray.size], ?_, h2, h3⟩
  unfold Bld
  rw [byteCells_add, ← strCells_of s]
  exact .inr h1
theorem sgn_lt (op : Nat) : sgn op < 256 := by
  unfold sgn
  repeat' split
  all_goals decide
end Go.Proofs.Yteckkbjpeckjmaa.Rx
