/- Cover of package cube. -/
import Derived.Test.YtjjdhegkcilaiaaDoorCM
namespace Go.Proofs.YtjjdhegkcilaiaaDoor
open Go Go.RowKit
set_option maxRecDepth 100000
/-- The prime cubes of the letters of a list. -/
def coverL (l : List Nat) (v : Nat) : List (Nat × Nat) := primesOf (fun x => decide (x ∈ l)) v
theorem ascL_lt {l : List Nat} {v : Nat} (h : ascL l v = true) : ∀ x ∈ l, x < 2 ^ v := by
  intro x hx
  obtain ⟨i, hi, rfl⟩ := List.mem_iff_getElem.1 hx
  have := (allB_iff _ _).1 h i hi
  unfold okAt at this
  rw [Bool.and_eq_true, decide_eq_true_iff] at this
  have h1 := this.1
  unfold wd at h1
  rwa [List.getD_eq_getElem?_getD, List.getElem?_eq_getElem hi] at h1
theorem primes_any (v G B1 B2 : Nat) (w : World) (hv : v ≤ 6) (hT : HavT w) (hG : G < 18446744073709551616) (b1 : Boxed w B1 3 (.int .i64 v)) (b2 : Boxed w B2 78 (.int .u64 G)) :
    Calls Tryd.prog 73 #[.int .i64 v, .func (.func 74) #[] #[.pointer (some ⟨B1, 0, none⟩), .pointer (some ⟨B2, 0, none⟩)]] w fun e w' =>
      ∃ u, e = .returned u ∧ w'.ownsRow w.heap.size 42 2 u (primesOf (fun x => G.testBit x) v).length (cvs (primesOf (fun x => G.testBit x) v)) ∧ Below w.heap.size w w' :=
  callsIn_wide.1 (primes_in 10 (by omega) v G B1 B2 w hv hT hG b1 b2)
theorem Cover_vars (A : Option Addr) (m c : Nat) (v : Int) (w : World) (hv : ¬ (0 ≤ v ∧ v ≤ 6)) :
    Calls Tryd.prog 47 #[.slice A m c, .int .i64 v] w fun e w' => e = .returned (.tuple #[.slice none 0 0, .int .i64 7]) ∧ Below w.heap.size w w' := by
  go_enter Tryd.func47, Tryd.ntmps47
  go_wp2_with (go_at_call 66; refine (isNumberOfVars_no v _ hv).mono ?_; rintro e w' ⟨rfl, rfl⟩)
  go_ret2
  exact ⟨rfl, bal (Below.refl _ _) _⟩
theorem Cover_arg (A : Option Addr) (l : List Nat) (c v : Nat) (w : World) (hv : v ≤ 6) (hx : Bys w A l) (h8 : B8 l) (hl : l.length ≤ 1000000) (ha : ascL l v = false) :
    Calls Tryd.prog 47 #[.slice A l.length c, .int .i64 v] w fun e w' => e = .returned (.tuple #[.slice none 0 0, .int .i64 1]) ∧ Below w.heap.size w w' := by
  have HA := Lib.hid fun w (hx : Bys w A l) => areAscending_any A l c v w hx h8 hv hl
  rw [ha] at HA
  clear ha
  have hx1 := hx.below (bal (Below.refl _ w) (.cells #[.int .i64 v] 3))
  go_enter Tryd.func47, Tryd.ntmps47
  go_wp2_with (first
    | (go_at_call 66; refine (isNumberOfVars_yes v _ hv).mono ?_; rintro e w' ⟨rfl, rfl⟩)
    | (go_at_call 71; refine (HA.out _ hx1).mono ?_; rintro e w' ⟨rfl, rfl⟩))
  go_ret2
  exact ⟨rfl, bal (Below.refl _ _) _⟩
set_option maxHeartbeats 1000000 in
theorem Cover_ok (A : Option Addr) (l : List Nat) (c v : Nat) (w : World) (hv : v ≤ 6) (hx : Bys w A l) (h8 : B8 l) (hl : l.length ≤ 1000000) (hT : HavT w) (ha : ascL l v = true) :
    Calls Tryd.prog 47 #[.slice A l.length c, .int .i64 v] w fun e w' =>
      ∃ u, e = .returned (.tuple #[u, .int .i64 0]) ∧ w'.ownsRow w.heap.size 42 2 u (coverL l v).length (cvs (coverL l v)) ∧ Below w.heap.size w w' := by
  have HA := Lib.hid fun w (hx : Bys w A l) => areAscending_any A l c v w hx h8 hv hl
  rw [ha] at HA
  have h64 : ∀ x ∈ l, x < 64 := fun x hx => by have := ascL_lt ha x hx; have := pow6 hv; omega
  have HR := Lib.hid fun w (hx : Bys w A l) => regionOf_any A l c w hx h64 hl
  have hG := bitsOf_lt h64
  have hpo : primesOf (fun x => (bitsOf l).testBit x) v = coverL l v := by
    unfold coverL
    congr 1
    funext x
    exact bitsOf_bit l x
  have HP := Lib.hid fun B1 B2 w hT b1 b2 => primes_any v (bitsOf l) B1 B2 w hv hT hG b1 b2
  rw [hpo] at HP
  generalize hGb : bitsOf l = G at *
  clear hGb ha h64 hpo
  have hx1 := hx.below (bal (Below.refl _ w) (.cells #[.int .i64 v] 3))
  have b1 := (Boxed.new w 3 (.int .i64 v)).alloc (.cells #[.int .u64 G] 78)
  have b2 := Boxed.new (w.alloc (.cells #[.int .i64 v] 3)) 78 (.int .u64 G)
  rw [World.size_alloc] at b2
  have hb2 := bal (bal (Below.refl _ w) (.cells #[.int .i64 v] 3)) (.cells #[.int .u64 G] 78)
  have HP2 := Lib.hid (HP.out w.heap.size (w.heap.size + 1) _ (hT.below hb2) b1 b2)
  clear b1 b2 HP
  go_enter Tryd.func47, Tryd.ntmps47
  go_wp2_with (first
    | (go_at_call 66; refine (isNumberOfVars_yes v _ hv).mono ?_; rintro e w' ⟨rfl, rfl⟩)
    | (go_at_call 71; refine (HA.out _ hx1).mono ?_; rintro e w' ⟨rfl, rfl⟩)
    | (go_at_call 72; refine (HR.out _ hx1).mono ?_; rintro e w' ⟨rfl, rfl⟩)
    | (go_at_call 73; refine HP2.out.mono ?_; rintro e w3 ⟨u, rfl, ho, hb3⟩))
  go_ret2
  exact ⟨u, rfl, ownsRow_mono ho (by simp; omega), stepB hb2 hb3⟩
end Go.Proofs.YtjjdhegkcilaiaaDoor
