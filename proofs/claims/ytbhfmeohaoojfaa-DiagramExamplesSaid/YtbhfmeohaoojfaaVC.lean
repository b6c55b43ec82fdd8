/- Methods of a nil store and of one that New did not return. -/
import Derived.Test.YtbhfmeohaoojfaaVB
import Derived.Outline
namespace Go.Proofs.Ytbhfmeohaoojfaa.Dn
open Go Go.RowKit Go.Proofs.Ytbhfmeohaoojfaa.Ap
open Go.Proofs.Ytbhfmeohaoojfaa.Dg (shl_i64 pow7 cell_one info_int ints_row nd_ext)
set_option linter.unusedVariables false
set_option maxRecDepth 100000
/-- No store that New returned. -/
def Bad (sp : Option Addr) (X : World) : Prop := sp = none ∨ ∃ b, sp = some ⟨b, 0, none⟩ ∧ X.cell? ⟨b, 0, none⟩ = some (.pointer none)
theorem Bad.below {sp : Option Addr} {X Y : World} (h : Bad sp X) (hb : Below X.heap.size X Y) : Bad sp Y := by
  rcases h with h | ⟨b, h1, h2⟩
  · exact .inl h
  · exact .inr ⟨b, h1, (hb.cell (p := ⟨b, 0, none⟩) (World.block_lt_of_cell? X _ h2)).trans h2⟩
theorem open_bad (sp : Option Addr) (A : Option Addr) (n c : Nat) (X : World) (h : Bad sp X) :
    Calls Try.prog 44 #[.pointer sp, .slice A n c] X fun e w' => e = .returned (.tuple #[.pointer none, .int .i64 12]) ∧ X = w' := by
  rcases h with rfl | ⟨b, rfl, hc⟩
  · exact open_nil A n c X
  · exact open_zero A n c b X hc
set_option maxHeartbeats 1000000 in
theorem Vars_bad (sp : Option Addr) (w : World) (h : Bad sp w) :
    Calls Try.prog 15 #[.pointer sp] w fun e w' => e = .returned (.int .i64 0) ∧ Below w.heap.size w w' := by
  have HO := Lib.hid fun A n c (X : World) (hX : Below w.heap.size w X) => open_bad sp A n c X (h.below hX)
  clear h
  go_enter Try.func15, Try.ntmps15
  go_wp2_with (go_at_call 44; ((with_reducible refine (HO.out _ _ _ _ (Below.refl _ _)).mono ?_); rintro e w1 ⟨rfl, rfl⟩))
  go_ret
  exact ⟨rfl, by repeat (first | exact Below.refl _ _ | refine bal ?_ _)⟩
set_option maxHeartbeats 1000000 in
theorem Nodes_bad (sp : Option Addr) (w : World) (h : Bad sp w) :
    Calls Try.prog 13 #[.pointer sp] w fun e w' => e = .returned (.tuple #[.int .i64 0, .int .i64 12]) ∧ Below w.heap.size w w' := by
  have HO := Lib.hid fun A n c (X : World) (hX : Below w.heap.size w X) => open_bad sp A n c X (h.below hX)
  clear h
  go_enter Try.func13, Try.ntmps13
  go_wp2_with (go_at_call 44; ((with_reducible refine (HO.out _ _ _ _ (Below.refl _ _)).mono ?_); rintro e w1 ⟨rfl, rfl⟩))
  go_ret2
  exact ⟨rfl, by repeat (first | exact Below.refl _ _ | refine bal ?_ _)⟩
set_option maxHeartbeats 1000000 in
theorem Constant_bad (sp : Option Addr) (z : Int) (w : World) (h : Bad sp w) :
    Calls Try.prog 33 #[.pointer sp, .int .i64 z] w fun e w' => e = .returned (.tuple #[.int .i64 0, .int .i64 12]) ∧ Below w.heap.size w w' := by
  have HO := Lib.hid fun A n c (X : World) (hX : Below w.heap.size w X) => open_bad sp A n c X (h.below hX)
  clear h
  go_enter Try.func33, Try.ntmps33
  go_wp2_with (go_at_call 44; ((with_reducible refine (HO.out _ _ _ _ (bal (Below.refl _ _) _)).mono ?_); rintro e w1 ⟨rfl, rfl⟩))
  go_ret2
  exact ⟨rfl, by repeat (first | exact Below.refl _ _ | refine bal ?_ _)⟩
set_option maxHeartbeats 1000000 in
theorem FromTable_bad (sp : Option Addr) (A : Option Addr) (n c : Nat) (w : World) (h : Bad sp w) :
    Calls Try.prog 31 #[.pointer sp, .slice A n c] w fun e w' => e = .returned (.tuple #[.int .i64 0, .int .i64 12]) ∧ Below w.heap.size w w' := by
  have HO := Lib.hid fun A n c (X : World) (hX : Below w.heap.size w X) => open_bad sp A n c X (h.below hX)
  clear h
  go_enter Try.func31, Try.ntmps31
  go_wp2_with (go_at_call 44; ((with_reducible refine (HO.out _ _ _ _ (bal (Below.refl _ _) _)).mono ?_); rintro e w1 ⟨rfl, rfl⟩))
  go_ret2
  exact ⟨rfl, by repeat (first | exact Below.refl _ _ | refine bal ?_ _)⟩
set_option maxHeartbeats 1000000 in
theorem FromCube_bad (sp : Option Addr) (p q i o : Int) (w : World) (h : Bad sp w) :
    Calls Try.prog 32 #[.pointer sp, .agg #[.int .u8 p, .int .u8 q], .int .i64 i, .int .i64 o] w fun e w' => e = .returned (.tuple #[.int .i64 0, .int .i64 12]) ∧ Below w.heap.size w w' := by
  have HO := Lib.hid fun A n c (X : World) (hX : Below w.heap.size w X) => open_bad sp A n c X (h.below hX)
  clear h
  go_enter Try.func32, Try.ntmps32
  go_wp2_with (go_at_call 44; ((with_reducible refine (HO.out _ _ _ _ (bal (bal (bal (Below.refl _ _) _) _) _)).mono ?_); rintro e w1 ⟨rfl, rfl⟩))
  go_ret2
  exact ⟨rfl, by repeat (first | exact Below.refl _ _ | refine bal ?_ _)⟩
set_option maxHeartbeats 1000000 in
theorem Table_bad (sp : Option Addr) (r : Int) (w : World) (h : Bad sp w) :
    Calls Try.prog 16 #[.pointer sp, .int .i64 r] w fun e w' => e = .returned (.tuple #[.slice none 0 0, .int .i64 12]) ∧ Below w.heap.size w w' := by
  have HO := Lib.hid fun A n c (X : World) (hX : Below w.heap.size w X) => open_bad sp A n c X (h.below hX)
  clear h
  go_enter Try.func16, Try.ntmps16
  go_wp2_with (go_at_call 44; ((with_reducible refine (HO.out _ _ _ _ (bal (Below.refl _ _) _)).mono ?_); rintro e w1 ⟨rfl, rfl⟩))
  go_ret2
  exact ⟨rfl, by repeat (first | exact Below.refl _ _ | refine bal ?_ _)⟩
set_option maxHeartbeats 1000000 in
theorem Eval_bad (sp : Option Addr) (r x : Int) (w : World) (h : Bad sp w) :
    Calls Try.prog 23 #[.pointer sp, .int .i64 r, .int .u8 x] w fun e w' => e = .returned (.tuple #[.int .i64 0, .int .i64 12]) ∧ Below w.heap.size w w' := by
  have HO := Lib.hid fun A n c (X : World) (hX : Below w.heap.size w X) => open_bad sp A n c X (h.below hX)
  clear h
  go_enter Try.func23, Try.ntmps23
  go_wp2_with (go_at_call 44; ((with_reducible refine (HO.out _ _ _ _ (bal (Below.refl _ _) _)).mono ?_); rintro e w1 ⟨rfl, rfl⟩))
  go_ret2
  exact ⟨rfl, by repeat (first | exact Below.refl _ _ | refine bal ?_ _)⟩
set_option maxHeartbeats 1000000 in
theorem Apply_bad (sp : Option Addr) (op r s : Int) (w : World) (h : Bad sp w) :
    Calls Try.prog 25 #[.pointer sp, .int .u8 op, .int .i64 r, .int .i64 s] w fun e w' => e = .returned (.tuple #[.int .i64 0, .int .i64 12]) ∧ Below w.heap.size w w' := by
  have HO := Lib.hid fun A n c (X : World) (hX : Below w.heap.size w X) => open_bad sp A n c X (h.below hX)
  clear h
  go_enter Try.func25, Try.ntmps25
  go_wp2_with (go_at_call 44; ((with_reducible refine (HO.out _ _ _ _ (bal (bal (Below.refl _ _) _) _)).mono ?_); rintro e w1 ⟨rfl, rfl⟩))
  go_ret2
  exact ⟨rfl, by repeat (first | exact Below.refl _ _ | refine bal ?_ _)⟩
set_option maxHeartbeats 1000000 in
theorem Restrict_bad (sp : Option Addr) (r k : Int) (b : Bool) (w : World) (h : Bad sp w) :
    Calls Try.prog 26 #[.pointer sp, .int .i64 r, .int .i64 k, .bool b] w fun e w' => e = .returned (.tuple #[.int .i64 0, .int .i64 12]) ∧ Below w.heap.size w w' := by
  have HO := Lib.hid fun A n c (X : World) (hX : Below w.heap.size w X) => open_bad sp A n c X (h.below hX)
  clear h
  go_enter Try.func26, Try.ntmps26
  go_wp2_with (go_at_call 44; ((with_reducible refine (HO.out _ _ _ _ (bal (bal (bal (bal (Below.refl _ _) _) _) _) _)).mono ?_); rintro e w1 ⟨rfl, rfl⟩))
  go_ret2
  exact ⟨rfl, by repeat (first | exact Below.refl _ _ | refine bal ?_ _)⟩
set_option maxHeartbeats 1000000 in
theorem Exists_bad (sp : Option Addr) (r k : Int) (w : World) (h : Bad sp w) :
    Calls Try.prog 27 #[.pointer sp, .int .i64 r, .int .i64 k] w fun e w' => e = .returned (.tuple #[.int .i64 0, .int .i64 12]) ∧ Below w.heap.size w w' := by
  have HO := Lib.hid fun A n c (X : World) (hX : Below w.heap.size w X) => open_bad sp A n c X (h.below hX)
  clear h
  go_enter Try.func27, Try.ntmps27
  go_wp2_with (go_at_call 44; ((with_reducible refine (HO.out _ _ _ _ (bal (bal (bal (Below.refl _ _) _) _) _)).mono ?_); rintro e w1 ⟨rfl, rfl⟩))
  go_ret2
  exact ⟨rfl, by repeat (first | exact Below.refl _ _ | refine bal ?_ _)⟩
set_option maxHeartbeats 1000000 in
theorem Size_bad (sp : Option Addr) (r : Int) (w : World) (h : Bad sp w) :
    Calls Try.prog 19 #[.pointer sp, .int .i64 r] w fun e w' => e = .returned (.tuple #[.int .i64 0, .int .i64 12]) ∧ Below w.heap.size w w' := by
  have HO := Lib.hid fun A n c (X : World) (hX : Below w.heap.size w X) => open_bad sp A n c X (h.below hX)
  clear h
  go_enter Try.func19, Try.ntmps19
  go_wp2_with (go_at_call 44; ((with_reducible refine (HO.out _ _ _ _ (bal (Below.refl _ _) _)).mono ?_); rintro e w1 ⟨rfl, rfl⟩))
  go_ret2
  exact ⟨rfl, by repeat (first | exact Below.refl _ _ | refine bal ?_ _)⟩
set_option maxHeartbeats 1000000 in
theorem Count_bad (sp : Option Addr) (r z : Int) (w : World) (h : Bad sp w) :
    Calls Try.prog 20 #[.pointer sp, .int .i64 r, .int .i64 z] w fun e w' => e = .returned (.tuple #[.int .i64 0, .int .i64 12]) ∧ Below w.heap.size w w' := by
  have HO := Lib.hid fun A n c (X : World) (hX : Below w.heap.size w X) => open_bad sp A n c X (h.below hX)
  clear h
  go_enter Try.func20, Try.ntmps20
  go_wp2_with (go_at_call 44; ((with_reducible refine (HO.out _ _ _ _ (bal (Below.refl _ _) _)).mono ?_); rintro e w1 ⟨rfl, rfl⟩))
  go_ret2
  exact ⟨rfl, by repeat (first | exact Below.refl _ _ | refine bal ?_ _)⟩
end Go.Proofs.Ytbhfmeohaoojfaa.Dn
