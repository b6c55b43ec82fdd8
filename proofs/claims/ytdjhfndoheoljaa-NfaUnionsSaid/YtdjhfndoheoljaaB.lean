/- Contracts of combine, everywhere, and of the set operations that are made of them. -/
import Derived.Test.YtdjhfndoheoljaaA
namespace Go.Proofs.Ytdjhfndoheoljaa
open Go Go.RowKit
set_option maxRecDepth 100000
/-- x without the bits of y. -/
def andNot (x y : Nat) : Nat := x &&& (18446744073709551615 - y)
theorem meetF_any (x y : Nat) (w : World) (hx : x < 2 ^ 64) (hy : y < 2 ^ 64) :
    Calls Try.prog 41 #[.int .u64 x, .int .u64 y] w fun e w' => e = .returned (.bool (x &&& y == 0)) ∧ w = w' := by
  go_enter Try.func41, Try.ntmps41
  go_wp2
  go_ret
  refine ⟨ret_bool ?_, rfl⟩
  rw [show bits .and .u64 (x : Int) (y : Int) = _ from u64_and_nat x y hx hy]
  exact cast_beq _ 0
/-- F is a function with a body. -/
def Enters (F : Nat) : Prop := ∀ (args : Array Value) (w : World), (callFunc F args).run Try.prog w = .ok (.enter F args) w
/-- What a function value answers on two words. -/
def Tests (F : Nat) (p : Nat → Nat → Bool) : Prop :=
  ∀ (x y : Nat) (w : World), x < 2 ^ 64 → y < 2 ^ 64 → Calls Try.prog F #[.int .u64 x, .int .u64 y] w fun e w' => e = .returned (.bool (p x y)) ∧ w = w'
def Gives (F : Nat) (p : Nat → Nat → Nat) : Prop :=
  ∀ (x y : Nat) (w : World), x < 2 ^ 64 → y < 2 ^ 64 → Calls Try.prog F #[.int .u64 x, .int .u64 y] w fun e w' => e = .returned (.int .u64 (p x y : Nat)) ∧ w = w'
/-- The answer of everywhere. -/
def every (p : Nat → Nat → Bool) (xs ys : List Nat) : Bool := allB (fun i => p (wd xs i) (wd ys i)) (max (ulen xs) (ulen ys))
set_option maxHeartbeats 400000 in
theorem everywhere_any (F : Nat) (p : Nat → Nat → Bool) (hE : Enters F) (hF : Tests F p) (A B : Option Addr) (xs ys : List Nat) (c d : Nat) (w : World)
    (hx : Words w A xs) (ux : U64 xs) (hc : xs.length ≤ c) (hy : Words w B ys) (uy : U64 ys) (hd : ys.length ≤ d) :
    Calls Try.prog 40 #[.slice A xs.length c, .slice B ys.length d, .func (.func F) #[] #[]] w fun e w' => e = .returned (.bool (every p xs ys)) ∧ w = w' := by
  unfold Enters at hE
  have lx := ulen_le64 xs
  have ly := ulen_le64 ys
  obtain ⟨n, hn⟩ : ∃ n, n = max (ulen xs) (ulen ys) := ⟨_, rfl⟩
  have hn64 : n ≤ 64 := by omega
  have Hn := Lib.hid hn
  have HE : Hid (every p xs ys = allB (fun i => p (wd xs i) (wd ys i)) n) := by rw [hn]; rfl
  go_enter Try.func40, Try.ntmps40
  go_wp2_with (go_at_call 49; refine (span_any _ _ _ _ _ _ _ (by assumption) (by assumption) (by assumption) (by assumption)).mono ?_; rintro e w' ⟨rfl, rfl⟩; rw [← hn]; clear hn)
  go_loop [11] (fun i => ∃ k : Nat, k ≤ n ∧ i = .int .i64 k ∧ Hid (∀ i, i < k → p (wd xs i) (wd ys i) = true)) (fun i => n - (intOf i).toNat)
  case atStart => exact ⟨0, by omega, rfl, fun i hi => absurd hi (by omega)⟩
  case round =>
    obtain ⟨k, hk, rfl, H⟩ := hrel
    by_cases hlt : k < n
    · have hv := hF (wd xs k) (wd ys k)
      have b1 := ux.at_ k
      have b2 := uy.at_ k
      cases hp : p (wd xs k) (wd ys k) with
      | true =>
        have H' : Hid (∀ i, i < k + 1 → p (wd xs i) (wd ys i) = true) := fun i hi => by
          rcases Nat.lt_or_eq_of_le (Nat.le_of_lt_succ hi) with h1 | rfl
          · exact H.out i h1
          · exact hp
        rw [hp] at hv
        have Hv := Lib.hid hv
        clear hv hp H
        go_wp2_with (first
          | (go_at_call 50; refine (word_any _ _ _ _ _ (by assumption)).mono ?_; rintro e w' ⟨rfl, rfl⟩)
          | ((with_reducible refine (Hv.out _ b1 b2).mono ?_); rintro e w' ⟨rfl, rfl⟩))
        go_round
        case rel => exact ⟨k + 1, by omega, by go_num, H'⟩
        case measure => simp [intOf]; omega
      | false =>
        have H' : Hid (every p xs ys = false) := by
          show _ = _
          rw [HE.out]
          exact allB_false hlt hp
        rw [hp] at hv
        have Hv := Lib.hid hv
        clear hv hp H
        go_wp2_with (first
          | (go_at_call 50; refine (word_any _ _ _ _ _ (by assumption)).mono ?_; rintro e w' ⟨rfl, rfl⟩)
          | ((with_reducible refine (Hv.out _ b1 b2).mono ?_); rintro e w' ⟨rfl, rfl⟩))
        go_ret
        exact ⟨ret_bool H'.out.symm, rfl⟩
    · obtain rfl : k = n := by omega
      have H' : Hid (every p xs ys = true) := by
        show _ = _
        rw [HE.out]
        exact (allB_iff _ _).2 H.out
      clear H
      go_wp2
      go_ret
      exact ⟨ret_bool H'.out.symm, rfl⟩
theorem Enters.meet : Enters 41 := fun _ _ => by kernel_rfl
def subB (xs ys : List Nat) : Bool := every (fun x y => andNot x y == 0) xs ys
def eqB (xs ys : List Nat) : Bool := every (fun x y => x == y) xs ys
def meetB (xs ys : List Nat) : Bool := !every (fun x y => x &&& y == 0) xs ys
section
variable (A B : Option Addr) (xs ys : List Nat) (c d : Nat) (w : World) (hx : Words w A xs) (ux : U64 xs) (hc : xs.length ≤ c) (hy : Words w B ys) (uy : U64 ys) (hd : ys.length ≤ d)
include hx ux hc hy uy hd
theorem Intersects_any : Calls Try.prog 22 #[.slice A xs.length c, .slice B ys.length d] w fun e w' => e = .returned (.bool (meetB xs ys)) ∧ w = w' := by
  go_enter Try.func22, Try.ntmps22
  go_wp2_with (go_at_call 40; refine (everywhere_any _ _ Enters.meet (fun _ _ _ h h' => meetF_any _ _ _ h h') _ _ _ _ _ _ _ hx ux hc hy uy hd).mono ?_; rintro e w' ⟨rfl, rfl⟩)
  go_ret
  exact ⟨rfl, rfl⟩
end
end Go.Proofs.Ytdjhfndoheoljaa
