/- The condition of Cover: a cube lies inside the given letters. -/
import Derived.Test.YtjjdhegkcilaiaaDoorCR
import Derived.Deep.RegionHeld3
namespace Go.Proofs.YtjjdhegkcilaiaaDoor
open Go Go.RowKit
set_option maxRecDepth 100000
set_option maxHeartbeats 1000000 in
theorem inside_any (p q v G B1 B2 : Nat) (w : World) (hC : Cube p q v) (hT : HavT w) (hG : G < 18446744073709551616) (b1 : Boxed w B1 3 (.int .i64 v)) (b2 : Boxed w B2 78 (.int .u64 G)) :
    Calls Tryd.prog 74 #[.agg #[.int .u8 p, .int .u8 q], .pointer (some ⟨B1, 0, none⟩), .pointer (some ⟨B2, 0, none⟩)] w fun e w' =>
      e = .returned (.bool (insB (fun x => G.testBit x) v p q)) ∧ Below w.heap.size w w' := by
  have HI : Hid ((bits .andNot .u64 ((regN v p q : Nat) : Int) (G : Int) == 0) = insB (fun x => G.testBit x) v p q) := by
    show _ = _
    rw [u64_andNot_nat _ _ (regN_lt hC.1) hG, ← reg_ins hC hG]
    exact cast_beq _ 0
  have HR := Lib.hid fun w => region_any p q v w hC
  generalize regN v p q = R at *
  go_enter Tryd.func74, Tryd.ntmps74
  go_wp2
  have hb0 : Below w.heap.size w (w.alloc (.cells #[.int .u8 (p : Nat), .int .u8 (q : Nat)] 42)) := bal (Below.refl _ _) _
  have c0 : (w.alloc (.cells #[.int .u8 (p : Nat), .int .u8 (q : Nat)] 42)).cell? ⟨w.heap.size, 0, none⟩ = some (.int .u8 p) := by rw [World.cell?_alloc_at _ _ _ _ rfl]; rfl
  have c1 : (w.alloc (.cells #[.int .u8 (p : Nat), .int .u8 (q : Nat)] 42)).cell? ⟨w.heap.size, 1, none⟩ = some (.int .u8 q) := by rw [World.cell?_alloc_at _ _ _ _ rfl]; rfl
  have d1 := (b1.alloc (.cells #[.int .u8 (p : Nat), .int .u8 (q : Nat)] 42)).cell
  have d2 := (b2.alloc (.cells #[.int .u8 (p : Nat), .int .u8 (q : Nat)] 42)).cell
  have l0 : w.heap.size < (w.alloc (.cells #[.int .u8 (p : Nat), .int .u8 (q : Nat)] 42)).heap.size := by simp
  have l1 := (b1.alloc (.cells #[.int .u8 (p : Nat), .int .u8 (q : Nat)] 42)).lt
  have l2 := (b2.alloc (.cells #[.int .u8 (p : Nat), .int .u8 (q : Nat)] 42)).lt
  have hT1 := hT.below hb0
  generalize hbl : w.heap.size = b at *
  have HB := Lib.hid hbl
  generalize w.alloc (.cells #[.int .u8 (p : Nat), .int .u8 (q : Nat)] 42) = wa at *
  clear b1 b2 hT hbl
  go_region_held3 (fun w' => w'.cell? ⟨b, 0, none⟩ = some (.int .u8 p) ∧ w'.cell? ⟨b, 1, none⟩ = some (.int .u8 q) ∧ w'.cell? ⟨B1, 0, none⟩ = some (.int .i64 v) ∧ w'.cell? ⟨B2, 0, none⟩ = some (.int .u64 G) ∧ Below wa.heap.size wa w')
    (first | exact ⟨c0, c1, d1, d2, (Below.refl _ _).drew⟩ | exact ⟨c0, c1, d1, d2, Below.refl _ _⟩ | assumption)
    ((go_at_call 75; refine (HR.out wa.drew hT1).mono ?_; rintro e w3 ⟨rfl, hb3⟩; have hS3 : w3.cell? ⟨b, 0, none⟩ = some (.int .u8 p) ∧ w3.cell? ⟨b, 1, none⟩ = some (.int .u8 q) ∧ w3.cell? ⟨B1, 0, none⟩ = some (.int .i64 v) ∧ w3.cell? ⟨B2, 0, none⟩ = some (.int .u64 G) ∧ Below wa.heap.size wa w3 := ⟨(Below.cell hb3 l0).trans c0, (Below.cell hb3 l0).trans c1, (Below.cell hb3 l1).trans d1, (Below.cell hb3 l2).trans d2, Below.trans ((Below.refl _ _).drew) hb3⟩))
  have hbb := hb0.trans (hS3.2.2.2.2.mono (show b ≤ wa.heap.size by omega))
  rw [← HB.out] at hbb
  clear hS3
  go_wp2
  go_ret
  exact ⟨ret_bool HI.out, hbb⟩
end Go.Proofs.YtjjdhegkcilaiaaDoor
