/- The methods that add a function: Constant, FromTable, FromCube, Restrict, Exists. -/
import Derived.Test.YtbhfmeohaoojfaaNR
import Derived.Outline
import Derived.Shelf.Abstract
namespace Go.Proofs.Ytbhfmeohaoojfaa.Dn
open Go Go.RowKit Go.Proofs.Ytbhfmeohaoojfaa.Ap
open Go.Proofs.Ytbhfmeohaoojfaa.Dg (shl_i64 pow7 cell_one info_int ints_row nd_ext)
set_option linter.unusedVariables false
set_option maxRecDepth 100000
def InI (z : Int) : Prop := -9223372036854775808 ≤ z ∧ z ≤ 9223372036854775807
theorem addR_mem {R : List Nat} {q r : Nat} : r ∈ addR R q ↔ r ∈ R ∨ r = q := by
  unfold addR
  split
  · rename_i h
    exact ⟨.inl, fun h' => h'.elim id fun e => e ▸ h⟩
  · rw [List.mem_append, List.mem_singleton]
theorem addR_nodup {R : List Nat} {q : Nat} (h : R.Nodup) : (addR R q).Nodup := by
  unfold addR
  split
  · exact h
  · rename_i hn
    rw [List.nodup_append]
    exact ⟨h, by simp, fun a ha b hb e => hn (by rw [List.mem_singleton] at hb; rw [← hb, ← e]; exact ha)⟩
section
variable {w w' : World} {sb cb rb tb v cap : Nat} {nv nv' : Value} {N : List Nd} {R : List Nat}
theorem Inv.added (h : Inv w sb cb rb tb v cap nv N R) {val : Nat → Int} (hval : ∀ x, x < 2 ^ v → InI (val x)) (hm : Mem w' sb cb rb tb v cap nv' (addM v cap val N R).N (addM v cap val N R).R) : Inv w' sb cb rb tb v cap nv' (addM v cap val N R).N (addM v cap val N R).R := by
  have B := sub_built val h.v6 v (Nat.le_refl _) N 0 h.wf (Nat.two_pow_pos v)
  have F := sub_fitV h.v6 hval v (Nat.le_refl _) N 0 (Nat.two_pow_pos v) h.fitv
  obtain ⟨M, hM⟩ := B.ext
  by_cases hc : cap < (sub v val v N 0).1.length
  · have e : addM v cap val N R = ⟨N, R, 0, 10⟩ := if_pos hc
    rw [e] at hm ⊢
    exact ⟨hm, h.wf, h.fitv, h.len, h.cap4, h.v6, h.ref, h.nodup⟩
  · have e : addM v cap val N R = ⟨(sub v val v N 0).1, addR R (sub v val v N 0).2, (sub v val v N 0).2, 0⟩ := if_neg hc
    rw [e] at hm ⊢
    refine ⟨hm, B.wf, F, by show (sub v val v N 0).1.length ≤ cap; omega, h.cap4, h.v6, fun r hr => ?_, addR_nodup h.nodup⟩
    rcases addR_mem.1 hr with h1 | h1
    · show inN (sub v val v N 0).1 r
      rw [hM]
      exact inN_ext (h.ref r h1)
    · rw [h1]; exact B.ref
/-- What add leaves, told from the world at the method's start. -/
def AddPost (sb cb rb tb v cap : Nat) (nv : Value) (N : List Nd) (R : List Nat) (val : Nat → Int) (w0 : World) (e : Ending) (w' : World) : Prop :=
  e = .returned (.tuple #[.int .i64 ((addM v cap val N R).ref : Nat), .int .i64 ((addM v cap val N R).err : Nat)]) ∧ ∃ nv', Inv w' sb cb rb tb v cap nv' (addM v cap val N R).N (addM v cap val N R).R ∧ Step cb rb tb nv nv' w0 w'
theorem adds {w0 : World} (h : Inv w0 sb cb rb tb v cap nv N R) (f : FuncId) (caps : Array Value) (val : Nat → Int) (eg : ∀ args w, (callFunc f args).run Try.prog w = .ok (.enter f args) w) (hval : ∀ x, x < 2 ^ v → InI (val x)) (X : World) (hX : Below w0.heap.size w0 X) (HV : ValOk X f caps val sb cb rb tb v cap N R) :
    Calls Try.prog 51 #[.pointer (some ⟨cb, 0, none⟩), .func (.func f) #[] caps] X (AddPost sb cb rb tb v cap nv N R val w0) :=
  (add_any f caps val X eg hval HV h.v6 (h.mem.below hX) h.wf h.fitv h.len h.cap4 (by have := h.rl; omega)).mono fun e w' ⟨he, nv', hm, hs⟩ => ⟨he, nv', h.added hval hm, (Step.of_below hX).trans hs⟩
end
section
variable {sb cb rb tb v cap : Nat} {nv : Value} {N : List Nd} {R : List Nat}
set_option maxHeartbeats 2000000 in
theorem Constant_yes (w : World) (h : Inv w sb cb rb tb v cap nv N R) (z : Int) (hz : InI z) :
    Calls Try.prog 33 #[.pointer (some ⟨sb, 0, none⟩), .int .i64 z] w (AddPost sb cb rb tb v cap nv N R (fun _ => z) w) := by
  have HO := Lib.hid fun X (hX : Below w.heap.size w X) => open0 (h.below hX)
  have eg : ∀ args w, (callFunc 61 args).run Try.prog w = .ok (.enter 61 args) w := enters_of Try.func61 (by kernel_rfl) rfl
  have HA := Lib.hid fun X hX b hb => adds h 61 #[.pointer (some ⟨b, 0, none⟩)] (fun _ => z) eg (fun _ _ => hz) X hX (const_ok X b z hb)
  clear h eg
  go_enter Try.func33, Try.ntmps33
  go_wp2_with (first
    | (go_at_call 44; ((with_reducible refine (HO.out _ (bal (Below.refl _ _) _)).mono ?_); rintro e w1 ⟨rfl, hb⟩); have hb1 := stepB (bal (Below.refl _ _) _) hb; have hbk := (hb.block w.heap.size (by simp)).trans (MapKept.heap_alloc w _).1; clear hb)
    | (go_at_call 51; ((with_reducible refine (HA.out w1 hb1 w.heap.size hbk).mono ?_); rintro e w2 ⟨rfl, hpost⟩)))
  go_ret2
  exact ⟨rfl, hpost⟩
set_option maxHeartbeats 2000000 in
theorem FromTable_yes (w : World) (h : Inv w sb cb rb tb v cap nv N R) (A : Option Addr) (t : List Int) (c : Nat) (ht : TabK w A t) (hl : t.length = 2 ^ v) (hz : ∀ x, x < 2 ^ v → InI (nd t x)) :
    Calls Try.prog 31 #[.pointer (some ⟨sb, 0, none⟩), .slice A t.length c] w (AddPost sb cb rb tb v cap nv N R (fun x => nd t x) w) := by
  have HO := Lib.hid fun X (hX : Below w.heap.size w X) => open0 (h.below hX)
  have HL := Lib.hid fun X hX => letters_any X (h.below hX).mem h.v6
  have eg : ∀ args w, (callFunc 57 args).run Try.prog w = .ok (.enter 57 args) w := enters_of Try.func57 (by kernel_rfl) rfl
  have HA := Lib.hid fun X hX b c hb => adds h 57 #[.pointer (some ⟨b, 0, none⟩)] (fun x => nd t x) eg hz X hX (table_ok X b c A t hb (ht.keeps (Keeps.of_below hX)) hl h.v6)
  have HLn := Lib.hid hl
  rw [hl] at HA
  rw [hl]
  clear h eg hz ht hl
  generalize 2 ^ v = K at *
  have hKK : (((K : Nat) : Int) != ((K : Nat) : Int)) = false := by simp
  go_enter Try.func31, Try.ntmps31
  go_wp2_with (first
    | (go_at_call 44; ((with_reducible refine (HO.out _ (bal (Below.refl _ _) _)).mono ?_); rintro e w1 ⟨rfl, hb⟩); have hb1 := stepB (bal (Below.refl _ _) _) hb; have hbk := (hb.block w.heap.size (by simp)).trans (MapKept.heap_alloc w _).1; clear hb))
  haveI : Nonempty (Cls fun X => Below w1.heap.size w1 X) := ⟨⟨_, Below.refl _ _⟩⟩
  have l1 : ∀ r : Cls (fun X => Below w1.heap.size w1 X), r.w.cell? ⟨w.heap.size, 0, none⟩ = some (.slice A K c) := fun r => (r.h.cell (lt_of_block hbk)).trans (cell_of_one hbk)
  refine wp_region_cls (fun X => Below w1.heap.size w1 X) (by kernel_rfl) (by kernel_rfl) (drew_below w1) ?_
  repeat (go_big_quiet_step (first | (go_at_call 46; rename_i q; refine (HL.out q.w (stepB hb1 q.h)).mono ?_; rintro e w4 ⟨rfl, rfl⟩; exact ⟨rfl, ⟨q, rfl⟩⟩)))
  refine wpQuiet_nil ?_
  rintro _ ⟨q, rfl⟩
  have hX := q.h
  generalize q.w = X at hX ⊢
  have hbX := stepB hb1 hX
  have hbk2 := (hX.block _ (lt_of_block hbk)).trans hbk
  clear l1
  go_wp2_with (go_at_call 51; ((with_reducible refine (HA.out X hbX w.heap.size c hbk2).mono ?_); rintro e w2 ⟨rfl, hpost⟩))
  go_ret2
  exact ⟨rfl, hpost⟩
theorem FromTable_no (w : World) (h : Inv w sb cb rb tb v cap nv N R) (A : Option Addr) (n c : Nat) (hl : n ≠ 2 ^ v) (hn : n ≤ 1000000) :
    Calls Try.prog 31 #[.pointer (some ⟨sb, 0, none⟩), .slice A n c] w fun e w' => e = .returned (.tuple #[.int .i64 0, .int .i64 1]) ∧ Below w.heap.size w w' := by
  have HO := Lib.hid fun X (hX : Below w.heap.size w X) => open0 (h.below hX)
  have HL := Lib.hid fun X hX => letters_any X (h.below hX).mem h.v6
  have hKK : (((n : Nat) : Int) != ((2 ^ v : Nat) : Int)) = true := by rw [bne_iff_ne]; omega
  clear h hl
  generalize 2 ^ v = K at *
  go_enter Try.func31, Try.ntmps31
  go_wp2_with (first
    | (go_at_call 44; ((with_reducible refine (HO.out _ (bal (Below.refl _ _) _)).mono ?_); rintro e w1 ⟨rfl, hb⟩); have hb1 := stepB (bal (Below.refl _ _) _) hb; have hbk := (hb.block w.heap.size (by simp)).trans (MapKept.heap_alloc w _).1; clear hb))
  haveI : Nonempty (Cls fun X => Below w1.heap.size w1 X) := ⟨⟨_, Below.refl _ _⟩⟩
  have l1 : ∀ r : Cls (fun X => Below w1.heap.size w1 X), r.w.cell? ⟨w.heap.size, 0, none⟩ = some (.slice A n c) := fun r => (r.h.cell (lt_of_block hbk)).trans (cell_of_one hbk)
  refine wp_region_cls (fun X => Below w1.heap.size w1 X) (by kernel_rfl) (by kernel_rfl) (drew_below w1) ?_
  repeat (go_big_quiet_step (first | (go_at_call 46; rename_i q; refine (HL.out q.w (stepB hb1 q.h)).mono ?_; rintro e w4 ⟨rfl, rfl⟩; exact ⟨rfl, ⟨q, rfl⟩⟩)))
  refine wpQuiet_nil ?_
  rintro _ ⟨q, rfl⟩
  have hX := q.h
  generalize q.w = X at hX ⊢
  clear l1
  go_wp2
  go_ret2
  exact ⟨rfl, stepB hb1 hX⟩
end
end Go.Proofs.Ytbhfmeohaoojfaa.Dn
