/- Words in memory: a slice value that reads as a list of 64-bit words or of ints. Plain lemmas over the model's worlds; nothing of the program. -/
import Derived.WalkKit
import Derived.WalkSpells
import Derived.Lib.Hide
import Derived.Deep.QuietTactic
import Derived.BigQuiet
import Derived.Deep.DeepFit
import Derived.Deep.DeepMust
import Derived.Laws.OwnMore
import Derived.Test.YtkgeihambgbjdaaDoorProg
import Derived.Lib.TrailingZeros
import Derived.Shelf.Spec.TrailingZeros
import Derived.RangeFuncKeeps
import Derived.RangeFuncLeaves
import Derived.Shelf.Abstract
import Derived.OwnWalkIn
import Derived.TacticsInMore
import Derived.LoopNIn
import Derived.LoopIn
import Derived.RangeFuncBox
import Derived.RangeFuncWrites
import Derived.Maps.AppendAt
namespace Go.Proofs.YtkgeihambgbjdaaDoor
open Go Go.RowKit

theorem addr_block (a : Addr) (n : Nat) : (a.add n).block = a.block := by unfold Addr.add; split <;> rfl

/-- The slice that begins at A holds n values, number j being f j. -/
def Vals (w : World) (A : Option Addr) (n : Nat) (f : Nat → Value) : Prop :=
  ∀ j, j < n → ∃ ad, A = some ad ∧ ad.block < w.heap.size ∧ w.cell? (ad.add j) = some (f j)
namespace Vals
variable {w w' : World} {A : Option Addr} {n : Nat} {f : Nat → Value}
theorem nil_ : Vals w A 0 f := fun j h => absurd h (by omega)
theorem keep (h : Vals w A n f) (hs : w.heap.size ≤ w'.heap.size) (hk : ∀ p : Addr, p.block < w.heap.size → w'.cell? p = w.cell? p) : Vals w' A n f := by
  intro j hj
  obtain ⟨ad, e, hb, hc⟩ := h j hj
  exact ⟨ad, e, by omega, (hk _ (by rw [addr_block]; exact hb)).trans hc⟩
theorem below (h : Vals w A n f) (hb : Below w.heap.size w w') : Vals w' A n f := h.keep hb.size fun _ hp => hb.cell hp
theorem drewN (h : Vals w A n f) (k : Nat) : Vals (w.drewN k) A n f := h
theorem drew (h : Vals w A n f) : Vals w.drew A n f := h
theorem take (h : Vals w A n f) {m : Nat} (hm : m ≤ n) : Vals w A m f := fun j hj => h j (by omega)
theorem at_ (h : Vals w A n f) {j : Nat} (hj : j < n) : ∃ ad, A = some ad ∧ w.cell? (ad.add j) = some (f j) :=
  let ⟨ad, e, _, hc⟩ := h j hj
  ⟨ad, e, hc⟩
theorem of_own {base : Nat} {e : TypeId} {c : Nat} {xs : List Value} (h : w.ownsRow base e 1 (.slice A n c) n xs) (hf : ∀ j, j < n → xs[j]? = some (f j)) : Vals w A n f := by
  intro j hj
  rcases h.2 with ⟨_, hn⟩ | ⟨g, cap, cur, hv, _, hh, _⟩
  · omega
  · injection hv with hA
    subst hA
    refine ⟨_, rfl, ?_, h.cells (g := g) rfl j _ (hf j hj)⟩
    exact lt_of_block hh
end Vals

theorem ret_of {k : IntKind} {a b : Int} (h : a = b) : Ending.returned (.int k a) = .returned (.int k b) := by rw [h]
theorem ret2_of {k l : IntKind} {a b c d : Int} (h : a = b) (h' : c = d) : Ending.returned (.tuple #[.int k a, .int l c]) = .returned (.tuple #[.int k b, .int l d]) := by rw [h, h']
theorem ret_bool {a b : Bool} (h : a = b) : Ending.returned (.bool a) = .returned (.bool b) := by rw [h]
theorem ret_slice {A : Option Addr} {a b c : Nat} (h : a = b) : Ending.returned (.slice A a c) = .returned (.slice A b c) := by rw [h]

theorem cast_beq (x y : Nat) : ((x : Int) == (y : Int)) = (x == y) := by
  rw [Bool.eq_iff_iff, beq_iff_eq, beq_iff_eq]; exact Int.ofNat_inj
/-- Word number j; 0 where there is none. -/
def wd (xs : List Nat) (j : Nat) : Nat := xs.getD j 0
/-- Number j of a list of ints; 0 where there is none. -/
def nd (l : List Int) (j : Nat) : Int := l.getD j 0
/-- Each number is a word of 64 bits. -/
def U64 (xs : List Nat) : Prop := ∀ x ∈ xs, x < 2 ^ 64
theorem U64.at_ {xs : List Nat} (h : U64 xs) (j : Nat) : wd xs j < 2 ^ 64 := by
  unfold wd
  rw [List.getD_eq_getElem?_getD]
  rcases Nat.lt_or_ge j xs.length with hj | hj
  · rw [List.getElem?_eq_getElem hj]; exact h _ (List.getElem_mem hj)
  · rw [List.getElem?_eq_none hj]; decide
def Words (w : World) (A : Option Addr) (xs : List Nat) : Prop := Vals w A xs.length fun j => .int .u64 (wd xs j : Nat)
def Ints (w : World) (A : Option Addr) (l : List Int) : Prop := Vals w A l.length fun j => .int .i64 (nd l j)
theorem Words.below {w w' : World} {A : Option Addr} {xs : List Nat} (h : Words w A xs) (hb : Below w.heap.size w w') : Words w' A xs := Vals.below h hb
theorem Ints.below {w w' : World} {A : Option Addr} {l : List Int} (h : Ints w A l) (hb : Below w.heap.size w w') : Ints w' A l := Vals.below h hb
theorem stepB {w a b : World} (h : Below w.heap.size w a) (k : Below a.heap.size a b) : Below w.heap.size w b := h.trans (k.mono h.size)
theorem wd_out {xs : List Nat} {j : Nat} (h : xs.length ≤ j) : wd xs j = 0 := by
  unfold wd; rw [List.getD_eq_getElem?_getD, List.getElem?_eq_none h]; rfl

/-- The length of the first n words without the zero words at the end. -/
def trimLen (xs : List Nat) : Nat → Nat
  | 0 => 0
  | n + 1 => if wd xs n = 0 then trimLen xs n else n + 1
/-- The number of words of the canonical form. -/
def ulen (xs : List Nat) : Nat := trimLen xs (min xs.length 64)
theorem trimLen_le (xs : List Nat) : ∀ n, trimLen xs n ≤ n
  | 0 => Nat.le_refl _
  | n + 1 => by
    unfold trimLen
    split
    · exact Nat.le_succ_of_le (trimLen_le xs n)
    · exact Nat.le_refl _
theorem ulen_le (xs : List Nat) : ulen xs ≤ xs.length := Nat.le_trans (trimLen_le _ _) (Nat.min_le_left _ _)
theorem ulen_le64 (xs : List Nat) : ulen xs ≤ 64 := Nat.le_trans (trimLen_le _ _) (Nat.min_le_right _ _)

/-- Whether p holds at every number below n. -/
def allB (p : Nat → Bool) : Nat → Bool
  | 0 => true
  | n + 1 => allB p n && p n
theorem allB_iff (p : Nat → Bool) : ∀ n, allB p n = true ↔ ∀ i, i < n → p i = true
  | 0 => by simp [allB]
  | n + 1 => by
    simp only [allB, Bool.and_eq_true, allB_iff p n]
    constructor
    · rintro ⟨h, h'⟩ i hi
      rcases Nat.lt_or_eq_of_le (Nat.le_of_lt_succ hi) with h1 | rfl
      · exact h i h1
      · exact h'
    · exact fun h => ⟨fun i hi => h i (by omega), h n (by omega)⟩
theorem allB_false {p : Nat → Bool} {n i : Nat} (hi : i < n) (h : p i = false) : allB p n = false := by
  cases h' : allB p n with
  | false => rfl
  | true => rw [(allB_iff p n).1 h' i hi] at h; cases h

theorem own_take {w : World} {base : Nat} {e : TypeId} {A : Option Addr} {n m c : Nat} {xs : List Value} (h : w.ownsRow base e 1 (.slice A n c) n xs) (hm : m ≤ n) :
    w.ownsRow base e 1 (.slice A m c) m (xs.take m) := by
  refine ⟨by rw [List.length_take, h.1]; omega, ?_⟩
  rcases h.2 with ⟨hv, hn⟩ | ⟨g, cap, cur, hv, h1, h2, h3, h4, h5, h6⟩
  · injection hv with a b d
    subst a d
    exact .inl ⟨by rw [show m = 0 by omega], by omega⟩
  · injection hv with a b d
    subst a d
    refine .inr ⟨g, _, cur, rfl, h1, h2, by omega, h4, h5, ?_⟩
    rw [← h6, List.take_take]
    congr 1
    omega
end Go.Proofs.YtkgeihambgbjdaaDoor
/- Contracts of the small functions of package bitset: inRange, place, used, word, span. -/
namespace Go.Proofs.YtkgeihambgbjdaaDoor
open Go Go.RowKit
set_option maxRecDepth 100000
theorem inRange_any (k : Int) (w : World) :
    Calls Tryd.prog 86 #[.int .i64 k] w fun e w' => e = .returned (.bool (decide (0 ≤ k ∧ k ≤ 4095))) ∧ w = w' := by
  by_cases h1 : 0 ≤ k
  · by_cases h2 : k ≤ 4095
    · go_enter Tryd.func86, Tryd.ntmps86
      go_wp2
      go_ret
      refine ⟨?_, rfl⟩
      simp [h1, h2]
    · go_enter Tryd.func86, Tryd.ntmps86
      go_wp2
      go_ret
      refine ⟨?_, rfl⟩
      simp [h2]
  · go_enter Tryd.func86, Tryd.ntmps86
    go_wp2
    go_ret
    refine ⟨?_, rfl⟩
    simp; omega
theorem place_any (k : Nat) (w : World) (h1 : k ≤ 4095) :
    Calls Tryd.prog 87 #[.int .i64 k] w fun e w' => e = .returned (.tuple #[.int .i64 (k / 64 : Nat), .int .u64 (2 ^ (k % 64) : Nat)]) ∧ ∃ n, w' = w.drewN n := by
  go_enter Tryd.func87, Tryd.ntmps87
  go_wp2
  go_quiet (fail)
  go_wp2
  go_ret2
  refine ⟨ret2_of (by simp) ?_, nq, rfl⟩
  have h : (2 : Int) ^ (k % 64) < 2 ^ 64 := by
    have : (2 : Nat) ^ (k % 64) < 2 ^ 64 := Nat.pow_lt_pow_right (by omega) (by omega)
    exact_mod_cast this
  have h0 : (0 : Int) ≤ 2 ^ (k % 64) := by
    have : (0 : Nat) ≤ 2 ^ (k % 64) := Nat.zero_le _
    exact_mod_cast this
  show IntKind.u64.wrap _ = _
  rw [IntKind.wrap_u64, Int.emod_eq_of_lt h0 (by omega)]
  exact_mod_cast rfl
theorem word_any (A : Option Addr) (xs : List Nat) (c i : Nat) (w : World) (hx : Words w A xs) :
    Calls Tryd.prog 112 #[.slice A xs.length c, .int .i64 i] w fun e w' => e = .returned (.int .u64 (wd xs i : Nat)) ∧ w = w' := by
  by_cases hlt : i < xs.length
  · obtain ⟨ad, rfl, hcell⟩ := hx.at_ hlt
    go_enter Tryd.func112, Tryd.ntmps112
    go_wp2
    go_ret
    exact ⟨ret_of (by simp), rfl⟩
  · go_enter Tryd.func112, Tryd.ntmps112
    go_wp2
    go_ret
    exact ⟨ret_of (by rw [wd_out (by omega)]; rfl), rfl⟩
set_option maxHeartbeats 400000 in
theorem used_any (A : Option Addr) (xs : List Nat) (c : Nat) (w : World) (hx : Words w A xs) (hc : xs.length ≤ c) :
    Calls Tryd.prog 99 #[.slice A xs.length c] w fun e w' => e = .returned (.slice A (ulen xs) c) ∧ w = w' := by
  go_enter Tryd.func99, Tryd.ntmps99
  go_wp2
  all_goals
    go_loop [3] (fun n => ∃ k : Nat, k ≤ xs.length ∧ k ≤ 64 ∧ n = .int .i64 k ∧ Hid (trimLen xs k = ulen xs)) (fun n => (intOf n).toNat)
    case atStart => first | exact ⟨xs.length, by omega, by omega, rfl, by show _ = trimLen _ _; rw [Nat.min_eq_left (by omega)]⟩ | exact ⟨64, by omega, by omega, rfl, by show _ = trimLen _ _; rw [Nat.min_eq_right (by omega)]⟩
    case round =>
      obtain ⟨k, hk, hk', rfl, H⟩ := hrel
      by_cases h0 : 0 < k
      · obtain ⟨j, rfl⟩ : ∃ j, k = j + 1 := ⟨k - 1, by omega⟩
        obtain ⟨ad, rfl, hcell⟩ := hx.at_ (j := j) (by omega)
        by_cases hz : wd xs j = 0
        · have H' : Hid (trimLen xs j = ulen xs) := by
            have := H.out
            unfold trimLen at this
            rwa [if_pos hz] at this
          rw [hz] at hcell
          clear hz H
          go_wp2
          go_round
          case rel => exact ⟨j, by omega, by omega, by go_num, H'⟩
          case measure => simp [intOf]
        · have H' : Hid (j + 1 = ulen xs) := by
            have := H.out
            unfold trimLen at this
            rwa [if_neg hz] at this
          clear H
          have hb : (((wd xs j : Nat) : Int) == 0) = false := by
            rw [beq_eq_false_iff_ne]
            exact_mod_cast hz
          clear hz
          go_wp2
          go_ret
          exact ⟨ret_slice H'.out, rfl⟩
      · obtain rfl : k = 0 := by omega
        have H' : Hid (0 = ulen xs) := H.out
        clear H
        go_wp2
        go_ret
        exact ⟨ret_slice H'.out, rfl⟩
end Go.Proofs.YtkgeihambgbjdaaDoor
/- Contracts of combine, everywhere, and of the set operations that are made of them. -/
namespace Go.Proofs.YtkgeihambgbjdaaDoor
open Go Go.RowKit
set_option maxRecDepth 100000
/-- x without the bits of y. -/
def andNot (x y : Nat) : Nat := x &&& (18446744073709551615 - y)
/-- F is a function with a body. -/
def Enters (F : Nat) : Prop := ∀ (args : Array Value) (w : World), (callFunc F args).run Tryd.prog w = .ok (.enter F args) w
/-- What a function value answers on two words. -/
def Tests (F : Nat) (p : Nat → Nat → Bool) : Prop :=
  ∀ (x y : Nat) (w : World), x < 2 ^ 64 → y < 2 ^ 64 → Calls Tryd.prog F #[.int .u64 x, .int .u64 y] w fun e w' => e = .returned (.bool (p x y)) ∧ w = w'
def Gives (F : Nat) (p : Nat → Nat → Nat) : Prop :=
  ∀ (x y : Nat) (w : World), x < 2 ^ 64 → y < 2 ^ 64 → Calls Tryd.prog F #[.int .u64 x, .int .u64 y] w fun e w' => e = .returned (.int .u64 (p x y : Nat)) ∧ w = w'
/-- The answer of everywhere. -/
def every (p : Nat → Nat → Bool) (xs ys : List Nat) : Bool := allB (fun i => p (wd xs i) (wd ys i)) (max (ulen xs) (ulen ys))
def subB (xs ys : List Nat) : Bool := every (fun x y => andNot x y == 0) xs ys
def eqB (xs ys : List Nat) : Bool := every (fun x y => x == y) xs ys
def meetB (xs ys : List Nat) : Bool := !every (fun x y => x &&& y == 0) xs ys
section
variable (A B : Option Addr) (xs ys : List Nat) (c d : Nat) (w : World) (hx : Words w A xs) (ux : U64 xs) (hc : xs.length ≤ c) (hy : Words w B ys) (uy : U64 ys) (hd : ys.length ≤ d)
include hx ux hc hy uy hd
end
end Go.Proofs.YtkgeihambgbjdaaDoor
/- Contracts of combine, Union, Intersect, Minus, Canonical. -/
namespace Go.Proofs.YtkgeihambgbjdaaDoor
open Go Go.RowKit
set_option maxRecDepth 100000
theorem info_u64 : (Tryd.prog.info? 116).map (fun i => (i.zero, i.size, i.bytes)) = some (some (.int .u64 0), 1, 8) := by kernel_rfl
/-- n cells: below k what p gives, then 0. -/
def cmb (p : Nat → Nat → Nat) (xs ys : List Nat) (n k : Nat) : List Value := (List.range n).map fun i => .int .u64 ((if i < k then p (wd xs i) (wd ys i) else 0 : Nat) : Int)
theorem cmb_len (p : Nat → Nat → Nat) (xs ys : List Nat) (n k : Nat) : (cmb p xs ys n k).length = n := by simp [cmb]
theorem cmb_zero (p : Nat → Nat → Nat) (xs ys : List Nat) (n : Nat) : cmb p xs ys n 0 = List.replicate n (.int .u64 0) := by
  apply List.ext_getElem
  · simp [cmb_len]
  · intro j _ _
    simp [cmb]
theorem cmb_set (p : Nat → Nat → Nat) (xs ys : List Nat) (n k : Nat) : (cmb p xs ys n k).set k (.int .u64 (p (wd xs k) (wd ys k) : Nat)) = cmb p xs ys n (k + 1) := by
  apply List.ext_getElem
  · simp [cmb_len]
  · intro j _ _
    simp only [cmb, List.getElem_set, List.getElem_map, List.getElem_range]
    by_cases hk : k = j
    · subst hk; simp
    · have : (j < k + 1) ↔ j < k := by omega
      simp only [hk, if_false, this]
theorem cmb_full (p : Nat → Nat → Nat) (xs ys : List Nat) (n : Nat) : cmb p xs ys n n = (List.range n).map fun i => .int .u64 (p (wd xs i) (wd ys i) : Nat) := by
  apply List.ext_getElem
  · simp [cmb_len]
  · intro j h _
    rw [cmb_len] at h
    simp [cmb, h]
/-- The words of a combination. -/
def zipW (p : Nat → Nat → Nat) (xs ys : List Nat) : List Nat := (List.range (max (ulen xs) (ulen ys))).map fun i => p (wd xs i) (wd ys i)
/-- The canonical form of words. -/
def canon (xs : List Nat) : List Nat := xs.take (ulen xs)
def uvs (xs : List Nat) : List Value := xs.map fun x : Nat => .int .u64 (x : Int)
theorem uvs_take (xs : List Nat) (n : Nat) : (uvs xs).take n = uvs (xs.take n) := by simp [uvs, List.map_take]
theorem uvs_len (xs : List Nat) : (uvs xs).length = xs.length := by simp [uvs]
theorem uvs_get (xs : List Nat) (j : Nat) (h : j < xs.length) : (uvs xs)[j]? = some (.int .u64 (wd xs j : Nat)) := by
  simp [uvs, wd, h]
/-- A slice of words that the call made itself. -/
def OwnW (B : Nat) (w : World) (A : Option Addr) (c : Nat) (xs : List Nat) : Prop :=
  w.ownsRow B 116 1 (.slice A xs.length c) xs.length (uvs xs) ∧ U64 xs ∧ xs.length ≤ c
theorem OwnW.words {B : Nat} {w : World} {A : Option Addr} {c : Nat} {xs : List Nat} (h : OwnW B w A c xs) : Words w A xs := Vals.of_own h.1 fun j hj => uvs_get xs j hj
theorem OwnW.canon {B : Nat} {w : World} {A : Option Addr} {c : Nat} {xs : List Nat} (h : OwnW B w A c xs) : OwnW B w A c (canon xs) ∧ (canon xs).length = ulen xs := by
  have hl : (Go.Proofs.YtkgeihambgbjdaaDoor.canon xs).length = ulen xs := by
    unfold Go.Proofs.YtkgeihambgbjdaaDoor.canon
    rw [List.length_take]
    exact Nat.min_eq_left (ulen_le xs)
  refine ⟨⟨?_, fun x hx => h.2.1 x (List.mem_of_mem_take hx), ?_⟩, hl⟩
  · have := own_take h.1 (ulen_le xs)
    rw [uvs_take] at this
    rw [hl]
    exact this
  · rw [hl]; exact Nat.le_trans (ulen_le xs) h.2.2
section
variable (A B : Option Addr) (xs ys : List Nat) (c d : Nat) (w : World) (hx : Words w A xs) (ux : U64 xs) (hc : xs.length ≤ c) (hy : Words w B ys) (uy : U64 ys) (hd : ys.length ≤ d)
include hx ux hc hy uy hd
end
end Go.Proofs.YtkgeihambgbjdaaDoor
/- The elements of a set as a list of numbers: plain arithmetic, nothing of the program. -/
namespace Go.Proofs.YtkgeihambgbjdaaDoor
open Go Go.RowKit

/-- Whether k is an element. -/
def mem (xs : List Nat) (k : Nat) : Bool := (wd xs (k / 64)).testBit (k % 64)
/-- The elements below m, ascending. -/
def elsTo (xs : List Nat) (m : Nat) : List Nat := (List.range m).filter (mem xs)
/-- The elements, ascending. -/
def els (xs : List Nat) : List Nat := elsTo xs 4096

theorem elsTo_succ {xs : List Nat} {k : Nat} (h : mem xs k = true) : elsTo xs (k + 1) = elsTo xs k ++ [k] := by
  unfold elsTo
  rw [List.range_succ, List.filter_append]
  simp [h]
theorem elsTo_same {xs : List Nat} {k : Nat} (h : mem xs k = false) : elsTo xs (k + 1) = elsTo xs k := by
  unfold elsTo
  rw [List.range_succ, List.filter_append]
  simp [h]
theorem elsTo_skip {xs : List Nat} {a : Nat} : ∀ {b : Nat}, a ≤ b → (∀ k, a ≤ k → k < b → mem xs k = false) → elsTo xs b = elsTo xs a
  | 0, h, _ => by rw [show a = 0 by omega]
  | b + 1, h, hk => by
    rcases Nat.lt_or_eq_of_le h with h1 | rfl
    · rw [elsTo_same (hk b (by omega) (by omega))]
      exact elsTo_skip (by omega) fun k h2 h3 => hk k h2 (by omega)
    · rfl
theorem elsTo_len (xs : List Nat) (m : Nat) : (elsTo xs m).length ≤ m := by
  have := List.length_filter_le (mem xs) (List.range m)
  rwa [List.length_range] at this
theorem trimLen_zero (xs : List Nat) : ∀ n j, trimLen xs n ≤ j → j < n → wd xs j = 0
  | 0, _, _, h => by omega
  | n + 1, j, h, hj => by
    unfold trimLen at h
    split at h
    · rename_i h0
      rcases Nat.lt_or_eq_of_le (Nat.le_of_lt_succ hj) with h1 | rfl
      · exact trimLen_zero xs n j h h1
      · exact h0
    · omega
theorem ulen_zero (xs : List Nat) (j : Nat) (h : ulen xs ≤ j) (hj : j < 64) : wd xs j = 0 := by
  rcases Nat.lt_or_ge j xs.length with h1 | h1
  · exact trimLen_zero xs _ j h (by omega)
  · exact wd_out h1
theorem els_ulen (xs : List Nat) : els xs = elsTo xs (64 * ulen xs) := by
  have := ulen_le64 xs
  refine elsTo_skip (by omega) fun k h1 h2 => ?_
  unfold mem
  rw [ulen_zero xs (k / 64) (by omega) (by omega)]
  simp

/-- The bits of x from t on. -/
def RestAt (x t r : Nat) : Prop := ∀ b, r.testBit b = (decide (t ≤ b) && x.testBit b)
theorem RestAt.start (x : Nat) : RestAt x 0 x := fun b => by simp
theorem RestAt.lt {x t r : Nat} (h : RestAt x t r) (hx : x < 2 ^ 64) : r < 2 ^ 64 := by
  apply Nat.lt_pow_two_of_testBit
  intro i hi
  rw [h i, Nat.testBit_lt_two_pow (Nat.lt_of_lt_of_le hx (Nat.pow_le_pow_right (by decide) hi))]
  simp
theorem lowest {r : Nat} (h0 : r ≠ 0) (h : r < 2 ^ 64) : r.testBit (Lib.ctz 64 r) = true ∧ (∀ b, b < Lib.ctz 64 r → r.testBit b = false) ∧ Lib.ctz 64 r < 64 ∧
    ∀ b, (r &&& (r - 1)).testBit b = (decide (Lib.ctz 64 r < b) && r.testBit b) := by
  obtain ⟨m, hm, hk⟩ := Lib.ctzFrom_spec 64 r (by omega) h
  have e : Lib.ctz 64 r = Lib.ctzFrom 64 r := by simp [Lib.ctz, h0]
  rw [e]
  generalize Lib.ctzFrom 64 r = z at *
  have hlow : ∀ b, b < z → r.testBit b = false := by
    intro b hb
    rw [hm, Nat.mul_comm, Nat.testBit_mul_two_pow]
    simp; omega
  have hz : r.testBit z = true := by
    rw [hm, Nat.mul_comm, Nat.testBit_mul_two_pow]
    simp [Nat.testBit_zero]
  have hpos : 0 < 2 ^ z := Nat.two_pow_pos z
  have e1 : r - 1 = 2 ^ z * (2 * m) + (2 ^ z - 1) := by
    rw [hm, Nat.mul_add, Nat.mul_one]; omega
  refine ⟨hz, hlow, hk, fun b => ?_⟩
  rw [Nat.testBit_and]
  rcases Nat.lt_trichotomy b z with hb | rfl | hb
  · rw [hlow b hb]; simp
  · rw [e1, Nat.testBit_two_pow_mul_add _ (by omega)]
    simp
  · rw [e1, Nat.testBit_two_pow_mul_add _ (by omega), hm, Nat.testBit_two_pow_mul]
    obtain ⟨d, rfl⟩ : ∃ d, b = z + (d + 1) := ⟨b - z - 1, by omega⟩
    have e3 : z + (d + 1) - z = d + 1 := by omega
    have d1 : (2 * m + 1) / 2 = m := by omega
    have d2 : (2 * m) / 2 = m := by omega
    simp only [e3, Nat.testBit_succ, d1, d2]
    have : ¬ z + (d + 1) < z := by omega
    have h4 : z < z + (d + 1) := by omega
    have h5 : z ≤ z + (d + 1) := by omega
    simp [this, h4, h5]
theorem RestAt.step {x t r : Nat} (h : RestAt x t r) (h0 : r ≠ 0) (hx : x < 2 ^ 64) :
    t ≤ Lib.ctz 64 r ∧ Lib.ctz 64 r < 64 ∧ x.testBit (Lib.ctz 64 r) = true ∧ (∀ b, t ≤ b → b < Lib.ctz 64 r → x.testBit b = false) ∧ RestAt x (Lib.ctz 64 r + 1) (r &&& (r - 1)) := by
  obtain ⟨h1, h2, h3, h4⟩ := lowest h0 (h.lt hx)
  have h5 := h (Lib.ctz 64 r)
  rw [h1] at h5
  have h6 : t ≤ Lib.ctz 64 r ∧ x.testBit (Lib.ctz 64 r) = true := by simpa using h5.symm
  refine ⟨h6.1, h3, h6.2, fun b hb hb' => ?_, fun b => ?_⟩
  · have := h b
    rw [h2 b hb'] at this
    simpa [hb] using this.symm
  · rw [h4 b, h b]
    by_cases hb : Lib.ctz 64 r < b
    · have : t ≤ b := by omega
      have h7 : Lib.ctz 64 r + 1 ≤ b := by omega
      simp [hb, this, h7]
    · have h7 : ¬ Lib.ctz 64 r + 1 ≤ b := by omega
      simp [hb, h7]
theorem RestAt.done {x t : Nat} (h : RestAt x t 0) (b : Nat) (hb : t ≤ b) : x.testBit b = false := by
  have := h b
  simpa [hb] using this.symm
theorem mem_at (xs : List Nat) (i b : Nat) (hb : b < 64) : mem xs (64 * i + b) = (wd xs i).testBit b := by
  unfold mem
  rw [show (64 * i + b) / 64 = i by omega, show (64 * i + b) % 64 = b by omega]
/-- One element more. -/
theorem els_step {xs : List Nat} {i t r : Nat} (h : RestAt (wd xs i) t r) (h0 : r ≠ 0) (hx : wd xs i < 2 ^ 64) :
    elsTo xs (64 * i + (Lib.ctz 64 r + 1)) = elsTo xs (64 * i + t) ++ [64 * i + Lib.ctz 64 r] := by
  obtain ⟨h1, h2, h3, h4, _⟩ := h.step h0 hx
  have e1 : mem xs (64 * i + Lib.ctz 64 r) = true := by rw [mem_at _ _ _ h2]; exact h3
  rw [← Nat.add_assoc, elsTo_succ e1]
  congr 1
  refine elsTo_skip (by omega) fun k hk hk' => ?_
  obtain ⟨b, rfl⟩ : ∃ b, k = 64 * i + b := ⟨k - 64 * i, by omega⟩
  rw [mem_at _ _ _ (by omega)]
  exact h4 b (by omega) (by omega)
theorem els_next {xs : List Nat} {i t : Nat} (h : RestAt (wd xs i) t 0) (ht : t ≤ 64) : elsTo xs (64 * (i + 1)) = elsTo xs (64 * i + t) := by
  refine elsTo_skip (by omega) fun k hk hk' => ?_
  obtain ⟨b, rfl⟩ : ∃ b, k = 64 * i + b := ⟨k - 64 * i, by omega⟩
  rw [mem_at _ _ _ (by omega)]
  exact h.done b (by omega)
theorem elsTo_mono {xs : List Nat} {a : Nat} : ∀ {b : Nat}, a ≤ b → elsTo xs a <+: elsTo xs b
  | 0, h => by rw [show a = 0 by omega]; exact List.prefix_refl _
  | b + 1, h => by
    rcases Nat.lt_or_eq_of_le h with h1 | rfl
    · refine List.IsPrefix.trans (elsTo_mono (b := b) (by omega)) ?_
      cases hm : mem xs b with
      | true => rw [elsTo_succ hm]; exact List.prefix_append _ _
      | false => rw [elsTo_same hm]; exact List.prefix_refl _
    · exact List.prefix_refl _
theorem and_pred_lt {r : Nat} (h : r ≠ 0) : r &&& (r - 1) < r := Nat.lt_of_le_of_lt Nat.and_le_right (by omega)
end Go.Proofs.YtkgeihambgbjdaaDoor
/- math/bits.TrailingZeros64. -/
namespace Go.Proofs.YtkgeihambgbjdaaDoor
open Go Go.RowKit
set_option maxRecDepth 100000
/-- The table of math/bits in its variable. -/
def Tab (w : World) : Prop := 1 < w.heap.size ∧ ∀ j, j < 64 → w.cell? ⟨1, j, none⟩ = some (.int .u8 ((Lib.deBruijn64tab.getD j 0 : Nat) : Int))
theorem Tab.below {w w' : World} (h : Tab w) (hb : Below w.heap.size w w') : Tab w' :=
  ⟨Nat.lt_of_lt_of_le h.1 hb.size, fun j hj => (hb.cell (p := ⟨1, j, none⟩) h.1).trans (h.2 j hj)⟩
set_option maxHeartbeats 1000000 in
theorem tz_core (x k idx : Nat) (w : World) (hx0 : ((x : Int) == 0) = false)
    (key : IntKind.u64.wrap (bits BinOp.and IntKind.u64 (x : Int) (IntKind.u64.wrap (-(x : Int))) * 285870213051353865) / 288230376151711744 = (idx : Int))
    (hi : idx < 64) (hk : k < 64) (hcell : w.cell? ⟨1, idx, none⟩ = some (.int .u8 k)) :
    Calls Tryd.prog 102 #[.int .u64 x] w fun e w' => e = .returned (.int .i64 k) ∧ w = w' := by
  go_enter Tryd.func102, Tryd.ntmps102
  go_wp2_with (simp only [key])
  go_ret
  exact ⟨rfl, rfl⟩
theorem tz_any (x : Nat) (w : World) (hx0 : x ≠ 0) (hx : x < 2 ^ 64) (hT : Tab w) :
    Calls Tryd.prog 102 #[.int .u64 x] w fun e w' => e = .returned (.int .i64 (Lib.ctz 64 x : Nat)) ∧ w = w' := by
  obtain ⟨hlow, hk⟩ := Lib.lowest_bit 64 x hx0 hx
  obtain ⟨hi, htab⟩ := Lib.deBruijn64_at _ hk
  have hcell := hT.2 _ hi
  rw [htab] at hcell
  exact tz_core x _ _ w (by simp; omega) (tz64_key x _ hx hx0 hlow) hi hk hcell
end Go.Proofs.YtkgeihambgbjdaaDoor
/- The iterator over the elements of a set. -/
namespace Go.Proofs.YtkgeihambgbjdaaDoor
open Go Go.RowKit Go.Shelf
set_option maxRecDepth 100000
attribute [local go_sem] Oper.semAt_some
set_option maxHeartbeats 1000000 in
theorem iter_in (n : Nat) (hn : 1 ≤ n) (l Bn : Nat) (w0 : World) (A : Option Addr) (xs : List Nat) (c : Nat) (J Jx : List Nat → World → Prop)
    (hx : Words w0 A xs) (ux : U64 xs) (hc : xs.length ≤ c) (hT : Tab w0)
    (hY : ∀ pre x W, J pre W → pre.length < (els xs).length → YieldAt Fence.wide (n - 1) Tryd.prog l #[.int .i64 ((x : Nat) : Int)] W fun e W' =>
      (e = .returned (.bool true) ∧ J (pre ++ [x]) W' ∧ Below w0.heap.size W W') ∨ (e = .returned (.bool false) ∧ Jx (pre ++ [x]) W'))
    (W : World) (hBn : W.cell? ⟨Bn, 0, none⟩ = some (.slice A xs.length c)) (hb : Below w0.heap.size w0 W) (h0 : J [] W) :
    CallsIn Fence.wide n Tryd.prog 101 #[.func (.yield l) #[] #[], .pointer (some ⟨Bn, 0, none⟩)] W fun e W' => (∃ v, e = .returned v) ∧
      ((∃ ys, ys = els xs ∧ J ys W') ∨ (∃ pre, pre <+: els xs ∧ Jx pre W')) := by
  have lx := ulen_le64 xs
  obtain ⟨u, hu⟩ : ∃ u, u = ulen xs := ⟨_, rfl⟩
  have hu64 : u ≤ 64 := by omega
  have hul : u ≤ xs.length := by have := ulen_le xs; omega
  have HD : Hid (elsTo xs (64 * u) = els xs) := by rw [hu]; exact (els_ulen xs).symm
  have husd := used_any A xs c W (hx.below hb) hc
  rw [← hu] at husd
  have HU := Lib.hid (callsIn_wide (n := n - 1).2 husd)
  clear husd hu lx
  have HY := Lib.hid hY
  clear hY
  have hfn : ∀ f, Fence.wide.fn f := fun _ => trivial
  refine callsIn_of_wp Tryd.func101 rfl trivial ?_ rfl
  simp only [Tryd.ntmps101, List.size_toArray, List.length_cons, List.length_nil, Nat.reduceAdd, Nat.reduceSub, Array.replicate_succ, Array.replicate_zero, List.push_toArray, List.append_toArray, List.nil_append, List.cons_append]
  gi_wp2_with (gi_at_call 99; refine HU.out.mono ?_; rintro e w' ⟨rfl, rfl⟩)
  clear hBn HU
  gi_loopw [8] (fun v wr => ∃ i : Nat, i ≤ u ∧ v = .int .i64 i ∧ J (elsTo xs (64 * i)) wr ∧ Below w0.heap.size w0 wr) (fun v _ => u - (intOf v).toNat)
  case atStart => exact ⟨0, by omega, rfl, h0, hb⟩
  case round =>
    obtain ⟨i, hi, rfl, hJ, hbi⟩ := hrel
    by_cases hlt : i < u
    · obtain ⟨ad, rfl, hcell⟩ := (hx.below hbi).at_ (j := i) (by omega)
      have hw64 := ux.at_ i
      gi_wp2
      clear hcell
      obtain ⟨wo, rfl⟩ : ∃ wo : World, wo = wr := ⟨_, rfl⟩
      gi_loopw [4] (fun v wr => ∃ t r : Nat, t ≤ 64 ∧ v = .int .u64 r ∧ Hid (RestAt (wd xs i) t r) ∧ J (elsTo xs (64 * i + t)) wr ∧ Below w0.heap.size w0 wr) (fun v _ => (intOf v).toNat)
      case atStart => exact ⟨0, wd xs i, by omega, rfl, RestAt.start _, hJ, hbi⟩
      case round =>
        obtain ⟨t, r, ht, rfl, HR, hJr, hbr⟩ := hrel
        by_cases h0r : r = 0
        · subst h0r
          have HN := Lib.hid (els_next HR.out ht)
          gi_wp2
          go_roundw
          case rel => exact ⟨i + 1, by omega, by go_num, by rw [HN.out]; exact hJr, hbr⟩
          case measure => simp [intOf]; omega
        · have hs := HR.out.step h0r hw64
          have he := els_step HR.out h0r hw64
          have hr64 := HR.out.lt hw64
          have htz := callsIn_wide (n := n - 1).2 (tz_any r wr h0r hr64 (hT.below hbr))
          obtain ⟨z, hz⟩ : ∃ z, z = Lib.ctz 64 r := ⟨_, rfl⟩
          rw [← hz] at hs he htz
          clear hz
          obtain ⟨_, hz64, _, _, hR'⟩ := hs
          have hlen : (elsTo xs (64 * i + t)).length < (els xs).length := by
            have h1 := (elsTo_mono (xs := xs) (a := 64 * i + (z + 1)) (b := 4096) (by omega)).length_le
            rw [he] at h1
            simp only [List.length_append, List.length_cons, List.length_nil] at h1
            show _ < (elsTo xs 4096).length
            omega
          have hpre : elsTo xs (64 * i + (z + 1)) <+: els xs := elsTo_mono (by omega)
          obtain ⟨fn, tmps, assign, body, hy, hR⟩ := HY.out (elsTo xs (64 * i + t)) (64 * i + z) wr hJr hlen
          rw [← he] at hR
          have e1 : ((64 * i + z : Nat) : Int) = (i : Int) * 64 + z := by omega
          rw [e1] at hy
          have HT := Lib.hid htz
          have HR' := Lib.hid hR'
          have HP := Lib.hid hpre
          have hne : (((r : Int)) != 0) = true := by rw [bne_iff_ne]; omega
          have h1r : 1 ≤ r := by omega
          clear htz hR' hpre he e1 hlen h0r HR
          gi_wp2_with (gi_at_call 102; refine HT.out.mono ?_; rintro e w' ⟨rfl, rfl⟩)
          refine hR.mono ?_
          rintro e W3 (⟨rfl, hJ3, hk3⟩ | ⟨rfl, hJx3⟩)
          · have hb3 := hbr.trans hk3
            have hand : Hid (bits BinOp.and IntKind.u64 (r : Int) ((r : Int) - 1) = ((r &&& (r - 1) : Nat) : Int)) := by
              have := u64_and_nat r (r - 1) hr64 (by omega)
              rw [show ((r - 1 : Nat) : Int) = (r : Int) - 1 by omega] at this
              exact this
            gi_wp2
            rw [hand.out]
            go_roundw
            case rel => exact ⟨z + 1, r &&& (r - 1), by omega, rfl, HR'.out, hJ3, hb3⟩
            case measure =>
              have := and_pred_lt (r := r) (by omega)
              simp only [intOf, Int.toNat_natCast]
              exact this
          · gi_wp2
            refine bodyPost_ret (results_none rfl _ _ _) rfl ?_
            exact ⟨⟨_, rfl⟩, .inr ⟨_, HP.out, hJx3⟩⟩
    · obtain rfl : i = u := by omega
      gi_wp2
      go_end0
      exact ⟨⟨_, rfl⟩, .inl ⟨_, rfl, by rw [← HD.out]; exact hJ⟩⟩
theorem elements_any (A : Option Addr) (m c : Nat) (w : World) :
    Calls Tryd.prog 89 #[.slice A m c] w fun e w' => e = .returned (.func (.func 101) #[] #[.pointer (some ⟨w.heap.size, 0, none⟩)]) ∧ w' = w.alloc (.cells #[.slice A m c] 106) := by
  go_enter Tryd.func89, Tryd.ntmps89
  go_wp2
  go_ret
  exact ⟨rfl, rfl⟩
theorem iter_stops (n : Nat) (hn : 1 ≤ n) (Bn : Nat) (w0 w : World) (A : Option Addr) (xs : List Nat) (c : Nat)
    (hx : Words w0 A xs) (ux : U64 xs) (hc : xs.length ≤ c) (hT : Tab w0) (hb : Below w0.heap.size w0 w) (hB : Bn < w.heap.size) (hBn : w.cell? ⟨Bn, 0, none⟩ = some (.slice A xs.length c)) :
    SeqStopsK Fence.wide n Tryd.prog 101 #[.pointer (some ⟨Bn, 0, none⟩)] (fun x : Nat => #[Value.int .i64 (x : Int)]) (Below w0.heap.size) (fun ys => ys = els xs) (fun pre => pre <+: els xs) (els xs).length w :=
  fun l J Jx W hW _ _ hY h0 => iter_in n hn l Bn w0 A xs c J Jx hx ux hc hT hY W ((hW.cell (p := ⟨Bn, 0, none⟩) hB).trans hBn) (hb.trans (hW.mono hb.size)) h0
end Go.Proofs.YtkgeihambgbjdaaDoor
/- The number of bits of a word of 64 bits, as math/bits.OnesCount64 computes it: plain arithmetic, nothing of the program. -/
namespace Go.Proofs.YtkgeihambgbjdaaDoor
/-- How many of the first n bits of x are set. -/
def popTo (x n : Nat) : Nat := ((List.range n).filter fun b => x.testBit b).length
def pop (x : Nat) : Nat := popTo x 64
theorem popTo_succ (x n : Nat) : popTo x (n + 1) = popTo x n + (if x.testBit n then 1 else 0) := by
  unfold popTo
  rw [List.range_succ, List.filter_append, List.length_append]
  cases h : x.testBit n <;> simp [h]
theorem popTo_low (x m : Nat) : ∀ n, n ≤ m → popTo (x % 2 ^ m) n = popTo x n
  | 0, _ => rfl
  | n + 1, h => by
    rw [popTo_succ, popTo_succ, popTo_low x m n (by omega), Nat.testBit_mod_two_pow]
    simp [show n < m by omega]
theorem popTo_add (x m : Nat) : ∀ n, popTo x (m + n) = popTo x m + popTo (x / 2 ^ m) n
  | 0 => by simp [popTo]
  | n + 1 => by
    rw [← Nat.add_assoc, popTo_succ, popTo_add x m n, popTo_succ, Nat.testBit_div_two_pow, Nat.add_comm m n, Nat.add_assoc]
/-- One byte more. -/
theorem popTo_byte (x n : Nat) : popTo x (8 + n) = popTo (x % 256) 8 + popTo (x / 256) n := by
  rw [popTo_add x 8 n, ← popTo_low x 8 8 (Nat.le_refl _)]
/-- The first three steps. -/
def swar (m0 m1 m2 x : Nat) : Nat :=
  let a := (x / 2 &&& m0) + (x &&& m0)
  let b := (a / 4 &&& m1) + (a &&& m1)
  (b / 16 + b) &&& m2
theorem and_256 (a b : Nat) : (a &&& b) / 256 = a / 256 &&& b / 256 ∧ (a &&& b) % 256 = a % 256 &&& b % 256 :=
  ⟨Nat.and_div_two_pow (n := 8), Nat.and_mod_two_pow (n := 8)⟩
theorem tab1 : ∀ x, x < 512 → (x / 2 % 256 &&& 85) = (x % 256 / 2 &&& 85) := by decide +kernel
theorem tab2 : ∀ x, x < 1024 → (x / 4 % 256 &&& 51) = (x % 256 / 4 &&& 51) := by decide +kernel
theorem tab3 : ∀ x, x < 256 → swar 85 51 15 x = popTo x 8 := by decide +kernel
theorem le85 (x : Nat) : x &&& 85 ≤ 85 := Nat.and_le_right
theorem le51 (x : Nat) : x &&& 51 ≤ 51 := Nat.and_le_right
theorem low1 (x : Nat) : (x / 2 % 256 &&& 85) = (x % 256 / 2 &&& 85) := by
  have := tab1 (x % 512) (by omega)
  rwa [show x % 512 / 2 % 256 = x / 2 % 256 by omega, show x % 512 % 256 = x % 256 by omega] at this
theorem low2 (x : Nat) : (x / 4 % 256 &&& 51) = (x % 256 / 4 &&& 51) := by
  have := tab2 (x % 1024) (by omega)
  rwa [show x % 1024 / 4 % 256 = x / 4 % 256 by omega, show x % 1024 % 256 = x % 256 by omega] at this
theorem nib (x : Nat) : (x &&& 51) % 16 ≤ 3 := by
  have : (x &&& 51) % 2 ^ 4 = x % 2 ^ 4 &&& 51 % 2 ^ 4 := Nat.and_mod_two_pow
  have h : x % 2 ^ 4 &&& 51 % 2 ^ 4 ≤ 51 % 2 ^ 4 := Nat.and_le_right
  omega
/-- The three steps go byte by byte. -/
theorem swar_byte {m0 m1 m2 : Nat} (h0 : m0 % 256 = 85) (h1 : m1 % 256 = 51) (h2 : m2 % 256 = 15) (h1' : m1 / 256 % 16 = 3 ∨ m1 / 256 = 0) (x : Nat) :
    swar m0 m1 m2 x % 256 = swar 85 51 15 (x % 256) ∧ swar m0 m1 m2 x / 256 = swar (m0 / 256) (m1 / 256) (m2 / 256) (x / 256) := by
  obtain ⟨a, ha⟩ : ∃ a, a = (x / 2 &&& m0) + (x &&& m0) := ⟨_, rfl⟩
  obtain ⟨b, hb⟩ : ∃ b, b = (a / 4 &&& m1) + (a &&& m1) := ⟨_, rfl⟩
  have hs : swar m0 m1 m2 x = (b / 16 + b) &&& m2 := by rw [hb, ha]; rfl
  have u1 := and_256 (x / 2) m0
  have u2 := and_256 x m0
  rw [h0] at u1 u2
  rw [low1] at u1
  have l1 := le85 (x % 256 / 2)
  have l2 := le85 (x % 256)
  have a1 : a % 256 = (x % 256 / 2 &&& 85) + (x % 256 &&& 85) := by omega
  have a2 : a / 256 = (x / 256 / 2 &&& m0 / 256) + (x / 256 &&& m0 / 256) := by
    have : x / 2 / 256 = x / 256 / 2 := by omega
    rw [this] at u1
    omega
  have v1 := and_256 (a / 4) m1
  have v2 := and_256 a m1
  rw [h1] at v1 v2
  rw [low2] at v1
  have l3 := le51 (a % 256 / 4)
  have l4 := le51 (a % 256)
  have b1 : b % 256 = (a % 256 / 4 &&& 51) + (a % 256 &&& 51) := by omega
  have b2 : b / 256 = (a / 256 / 4 &&& m1 / 256) + (a / 256 &&& m1 / 256) := by
    have : a / 4 / 256 = a / 256 / 4 := by omega
    rw [this] at v1
    omega
  have n1 : b / 256 % 16 ≤ 6 := by
    have e1 : (a / 256 / 4 &&& m1 / 256) % 2 ^ 4 = a / 256 / 4 % 2 ^ 4 &&& m1 / 256 % 2 ^ 4 := Nat.and_mod_two_pow
    have e2 : (a / 256 &&& m1 / 256) % 2 ^ 4 = a / 256 % 2 ^ 4 &&& m1 / 256 % 2 ^ 4 := Nat.and_mod_two_pow
    have g1 : a / 256 / 4 % 2 ^ 4 &&& m1 / 256 % 2 ^ 4 ≤ m1 / 256 % 2 ^ 4 := Nat.and_le_right
    have g2 : a / 256 % 2 ^ 4 &&& m1 / 256 % 2 ^ 4 ≤ m1 / 256 % 2 ^ 4 := Nat.and_le_right
    omega
  have w1 := and_256 (b / 16 + b) m2
  rw [h2] at w1
  have s1 : (b / 16 + b) / 256 = b / 256 / 16 + b / 256 := by omega
  have s2 : (b / 16 + b) % 256 &&& 15 = (b % 256 / 16 + b % 256) &&& 15 := by
    have e1 : ∀ y : Nat, y &&& 15 = y % 16 := fun y => Nat.and_two_pow_sub_one_eq_mod y 4
    rw [e1, e1]
    omega
  rw [hs]
  refine ⟨?_, ?_⟩
  · rw [w1.2, s2, b1, a1]; rfl
  · rw [w1.1, s1, b2, a2]; rfl
theorem pop_le8 (x : Nat) : popTo x 8 ≤ 8 := by
  unfold popTo
  have := List.length_filter_le (fun b => x.testBit b) (List.range 8)
  rwa [List.length_range] at this
/-- The last three steps. -/
def fold8 (y : Nat) : Nat :=
  let y1 := y + y / 256
  let y2 := y1 + y1 / 65536
  (y2 + y2 / 4294967296) % 128
theorem split_div {a q : Nat} (h : a < 256) : (a + 256 * q) / 256 = q := by omega
theorem split_div2 {a b q : Nat} (h : a < 256) (h' : b < 256) : (a + 256 * (b + 256 * q)) / 65536 = q := by omega
theorem split_div4 {a b c d q : Nat} (h : a < 256) (h' : b < 256) (h2 : c < 256) (h3 : d < 256) : (a + 256 * (b + 256 * (c + 256 * (d + 256 * q)))) / 4294967296 = q := by omega
theorem fold8_sum (y p0 p1 p2 p3 p4 p5 p6 p7 : Nat) (h0 : p0 ≤ 8) (h1 : p1 ≤ 8) (h2 : p2 ≤ 8) (h3 : p3 ≤ 8) (h4 : p4 ≤ 8) (h5 : p5 ≤ 8) (h6 : p6 ≤ 8) (h7 : p7 ≤ 8)
    (hy : y = p0 + 256 * (p1 + 256 * (p2 + 256 * (p3 + 256 * (p4 + 256 * (p5 + 256 * (p6 + 256 * p7))))))) :
    fold8 y = p0 + p1 + p2 + p3 + p4 + p5 + p6 + p7 := by
  have k0 : p0 < 256 := by omega
  have e1 : y + y / 256 = (p0 + p1) + 256 * ((p1 + p2) + 256 * ((p2 + p3) + 256 * ((p3 + p4) + 256 * ((p4 + p5) + 256 * ((p5 + p6) + 256 * ((p6 + p7) + 256 * p7)))))) := by
    rw [hy, split_div k0]
    simp only [Nat.mul_add]
    ac_rfl
  have e2 : (y + y / 256) + (y + y / 256) / 65536 = (p0 + p1 + (p2 + p3)) + 256 * ((p1 + p2 + (p3 + p4)) + 256 * ((p2 + p3 + (p4 + p5)) + 256 * ((p3 + p4 + (p5 + p6)) + 256 * ((p4 + p5 + (p6 + p7)) + 256 * ((p5 + p6 + p7) + 256 * ((p6 + p7) + 256 * p7)))))) := by
    rw [e1, split_div2 (by omega) (by omega)]
    simp only [Nat.mul_add]
    ac_rfl
  have hf : fold8 y = (((y + y / 256) + (y + y / 256) / 65536) + ((y + y / 256) + (y + y / 256) / 65536) / 4294967296) % 128 := rfl
  rw [hf, e2, split_div4 (by omega) (by omega) (by omega) (by omega)]
  clear hf e2 e1 hy
  generalize p1 + p2 + (p3 + p4) + 256 * (p2 + p3 + (p4 + p5) + 256 * (p3 + p4 + (p5 + p6) + 256 * (p4 + p5 + (p6 + p7) + 256 * (p5 + p6 + p7 + 256 * (p6 + p7 + 256 * p7))))) = u
  generalize p5 + p6 + p7 + 256 * (p6 + p7 + 256 * p7) = v
  omega
theorem swar_zero (x : Nat) : swar 0 0 0 x = 0 := by simp [swar]
def M0 : Nat := 6148914691236517205
def M1 : Nat := 3689348814741910323
def M2 : Nat := 1085102592571150095
theorem swar_cons {m0 m1 m2 n0 n1 n2 : Nat} (h0 : m0 = 85 + 256 * n0) (h1 : m1 = 51 + 256 * n1) (h2 : m2 = 15 + 256 * n2) (h1' : n1 % 16 = 3 ∨ n1 = 0) (x : Nat) :
    swar m0 m1 m2 x = popTo (x % 256) 8 + 256 * swar n0 n1 n2 (x / 256) := by
  obtain ⟨e1, e2⟩ := swar_byte (m0 := m0) (m1 := m1) (m2 := m2) (by omega) (by omega) (by omega) (by omega) x
  rw [show m0 / 256 = n0 by omega, show m1 / 256 = n1 by omega, show m2 / 256 = n2 by omega] at e2
  rw [tab3 _ (by omega)] at e1
  omega
theorem swar_pop (x : Nat) : fold8 (swar M0 M1 M2 x) = pop x := by
  have e : swar M0 M1 M2 x = popTo (x % 256) 8 + 256 * (popTo (x / 256 % 256) 8 + 256 * (popTo (x / 256 / 256 % 256) 8 + 256 * (popTo (x / 256 / 256 / 256 % 256) 8 +
      256 * (popTo (x / 256 / 256 / 256 / 256 % 256) 8 + 256 * (popTo (x / 256 / 256 / 256 / 256 / 256 % 256) 8 + 256 * (popTo (x / 256 / 256 / 256 / 256 / 256 / 256 % 256) 8 +
      256 * popTo (x / 256 / 256 / 256 / 256 / 256 / 256 / 256 % 256) 8)))))) := by
    rw [swar_cons (n0 := 24019198012642645) (n1 := 14411518807585587) (n2 := 4238682002231055) (by decide) (by decide) (by decide) (by decide)]
    rw [swar_cons (n0 := 93824992236885) (n1 := 56294995342131) (n2 := 16557351571215) (by decide) (by decide) (by decide) (by decide)]
    rw [swar_cons (n0 := 366503875925) (n1 := 219902325555) (n2 := 64677154575) (by decide) (by decide) (by decide) (by decide)]
    rw [swar_cons (n0 := 1431655765) (n1 := 858993459) (n2 := 252645135) (by decide) (by decide) (by decide) (by decide)]
    rw [swar_cons (n0 := 5592405) (n1 := 3355443) (n2 := 986895) (by decide) (by decide) (by decide) (by decide)]
    rw [swar_cons (n0 := 21845) (n1 := 13107) (n2 := 3855) (by decide) (by decide) (by decide) (by decide)]
    rw [swar_cons (n0 := 85) (n1 := 51) (n2 := 15) (by decide) (by decide) (by decide) (by decide)]
    rw [swar_cons (n0 := 0) (n1 := 0) (n2 := 0) (by decide) (by decide) (by decide) (by decide)]
    rw [swar_zero]
    rfl
  rw [fold8_sum _ _ _ _ _ _ _ _ _ (pop_le8 _) (pop_le8 _) (pop_le8 _) (pop_le8 _) (pop_le8 _) (pop_le8 _) (pop_le8 _) (pop_le8 _) e]
  unfold pop
  have hl := popTo_low (x / 256 / 256 / 256 / 256 / 256 / 256 / 256) 8 8 (Nat.le_refl _)
  rw [popTo_byte x 56, popTo_byte _ 48, popTo_byte _ 40, popTo_byte _ 32, popTo_byte _ 24, popTo_byte _ 16, popTo_byte _ 8, ← hl]
  simp only [Nat.add_assoc]
theorem pop_le (x : Nat) : pop x ≤ 64 := by
  unfold pop popTo
  have := List.length_filter_le (fun b => x.testBit b) (List.range 64)
  rwa [List.length_range] at this
end Go.Proofs.YtkgeihambgbjdaaDoor
/- math/bits.OnesCount64, Len. -/
namespace Go.Proofs.YtkgeihambgbjdaaDoor
open Go Go.RowKit
set_option maxRecDepth 100000
theorem wrap_nat (a b : Nat) (h : a + b < 18446744073709551616) : IntKind.u64.wrap ((a : Int) + (b : Int)) = ((a + b : Nat) : Int) := by
  rw [IntKind.wrap_u64]; omega
theorem and_u64 (a b : Nat) (ha : a < 18446744073709551616) (hb : b < 18446744073709551616) : bits .and .u64 (a : Int) (b : Int) = ((a &&& b : Nat) : Int) := u64_and_nat a b ha hb
theorem ones_val (x : Nat) (hx : x < 18446744073709551616) (a b c y1 y2 : Int)
    (ea : a = IntKind.u64.wrap (bits .and .u64 ((x : Int) / 2) 6148914691236517205 + bits .and .u64 (x : Int) 6148914691236517205))
    (eb : b = IntKind.u64.wrap (bits .and .u64 (a / 4) 3689348814741910323 + bits .and .u64 a 3689348814741910323))
    (ec : c = bits .and .u64 (IntKind.u64.wrap (b / 16 + b)) 1085102592571150095)
    (e1 : y1 = IntKind.u64.wrap (c + c / 256)) (e2 : y2 = IntKind.u64.wrap (y1 + y1 / 65536)) :
    bits .and .i64 (wrap64 (IntKind.u64.wrap (y2 + y2 / 4294967296))) 127 = (pop x : Nat) := by
  have m0 : M0 < 18446744073709551616 := by decide
  have m1 : M1 < 18446744073709551616 := by decide
  have m2 : M2 < 18446744073709551616 := by decide
  obtain ⟨na, hna⟩ : ∃ na, na = (x / 2 &&& M0) + (x &&& M0) := ⟨_, rfl⟩
  have l0 : x / 2 &&& M0 ≤ 6148914691236517205 := Nat.and_le_right
  have l1 : x &&& M0 ≤ 6148914691236517205 := Nat.and_le_right
  have fa : a = (na : Int) := by
    rw [ea, hna, ← wrap_nat _ _ (by omega), ← and_u64 _ _ (by omega) m0, ← and_u64 _ _ hx m0]
    rfl
  obtain ⟨nb, hnb⟩ : ∃ nb, nb = (na / 4 &&& M1) + (na &&& M1) := ⟨_, rfl⟩
  have l2 : na / 4 &&& M1 ≤ 3689348814741910323 := Nat.and_le_right
  have l3 : na &&& M1 ≤ 3689348814741910323 := Nat.and_le_right
  have fb : b = (nb : Int) := by
    rw [eb, hnb, ← wrap_nat _ _ (by omega), ← and_u64 _ _ (by omega) m1, ← and_u64 _ _ (by omega) m1, fa]
    rfl
  obtain ⟨nc, hnc⟩ : ∃ nc, nc = (nb / 16 + nb) &&& M2 := ⟨_, rfl⟩
  have l4 : nc ≤ 1085102592571150095 := by rw [hnc]; exact Nat.and_le_right
  have fc : c = (nc : Int) := by
    rw [ec, hnc, ← and_u64 _ _ (by omega) m2, ← wrap_nat _ _ (by omega), fb]
    rfl
  have f1 : y1 = ((nc + nc / 256 : Nat) : Int) := by
    rw [e1, ← wrap_nat _ _ (by omega), fc]
    rfl
  obtain ⟨n1, hn1⟩ : ∃ n1, n1 = nc + nc / 256 := ⟨_, rfl⟩
  rw [← hn1] at f1
  have f2 : y2 = ((n1 + n1 / 65536 : Nat) : Int) := by
    rw [e2, ← wrap_nat _ _ (by omega), f1]
    rfl
  obtain ⟨n2, hn2⟩ : ∃ n2, n2 = n1 + n1 / 65536 := ⟨_, rfl⟩
  rw [← hn2] at f2
  have f3 : IntKind.u64.wrap (y2 + y2 / 4294967296) = ((n2 + n2 / 4294967296 : Nat) : Int) := by
    rw [← wrap_nat _ _ (by omega), f2]
    rfl
  have hw : wrap64 ((n2 + n2 / 4294967296 : Nat) : Int) = ((n2 + n2 / 4294967296 : Nat) : Int) := by unfold wrap64; omega
  rw [f3, hw, i64_and127]
  have hp : pop x = (n2 + n2 / 4294967296) % 128 := by
    rw [← swar_pop, hn2, hn1, hnc, hnb, hna]
    rfl
  rw [hp]
  omega
set_option maxHeartbeats 1000000 in
theorem ones_any (x : Nat) (w : World) (hx : x < 2 ^ 64) :
    Calls Tryd.prog 100 #[.int .u64 x] w fun e w' => e = .returned (.int .i64 (pop x : Nat)) ∧ w = w' := by
  go_enter Tryd.func100, Tryd.ntmps100
  go_wp2
  go_ret
  refine ⟨ret_of ?_, rfl⟩
  exact ones_val x (by omega) _ _ _ _ _ rfl rfl rfl rfl rfl
/-- The number of elements. -/
def lenTo (xs : List Nat) : Nat → Nat
  | 0 => 0
  | n + 1 => lenTo xs n + pop (wd xs n)
theorem lenTo_le (xs : List Nat) : ∀ n, lenTo xs n ≤ 64 * n
  | 0 => Nat.le_refl _
  | n + 1 => by
    have := lenTo_le xs n
    have := pop_le (wd xs n)
    show lenTo xs n + pop (wd xs n) ≤ _
    omega
theorem elsTo_add (xs : List Nat) (i : Nat) : ∀ n, n ≤ 64 → (elsTo xs (64 * i + n)).length = (elsTo xs (64 * i)).length + popTo (wd xs i) n
  | 0, _ => by simp [popTo]
  | n + 1, h => by
    rw [popTo_succ, ← Nat.add_assoc]
    have hm := mem_at xs i n (by omega)
    cases hb : (wd xs i).testBit n with
    | true =>
      rw [hb] at hm
      rw [elsTo_succ hm, List.length_append, elsTo_add xs i n (by omega)]
      simp; omega
    | false =>
      rw [hb] at hm
      rw [elsTo_same hm, elsTo_add xs i n (by omega)]
      simp
theorem lenTo_els (xs : List Nat) : ∀ n, lenTo xs n = (elsTo xs (64 * n)).length
  | 0 => rfl
  | n + 1 => by
    have := elsTo_add xs n 64 (Nat.le_refl _)
    show lenTo xs n + pop (wd xs n) = _
    rw [lenTo_els xs n, Nat.mul_add, Nat.mul_one, this]
    rfl
set_option maxHeartbeats 400000 in
theorem Len_any (A : Option Addr) (xs : List Nat) (c : Nat) (w : World) (hx : Words w A xs) (ux : U64 xs) (hc : xs.length ≤ c) :
    Calls Tryd.prog 88 #[.slice A xs.length c] w fun e w' => e = .returned (.int .i64 ((els xs).length : Nat)) ∧ w = w' := by
  have lx := ulen_le64 xs
  obtain ⟨u, hu⟩ : ∃ u, u = ulen xs := ⟨_, rfl⟩
  have hul : u ≤ xs.length := by have := ulen_le xs; omega
  have HL : Hid (lenTo xs u = (els xs).length) := by
    show _ = _
    rw [els_ulen, ← hu, lenTo_els]
  have husd := used_any A xs c w hx hc
  rw [← hu] at husd lx
  have HU := Lib.hid husd
  clear husd hu
  go_enter Tryd.func88, Tryd.ntmps88
  go_wp2_with (go_at_call 99; refine HU.out.mono ?_; rintro e w' ⟨rfl, rfl⟩)
  go_loop [3, 9] (fun n i => ∃ k : Nat, k ≤ u ∧ i = .int .i64 k ∧ n = .int .i64 (lenTo xs k : Nat)) (fun _ i => u - (intOf i).toNat)
  case atStart => exact ⟨0, by omega, rfl, rfl⟩
  case round =>
    obtain ⟨k, hk, rfl, rfl⟩ := hrel
    by_cases hlt : k < u
    · obtain ⟨ad, rfl, hcell⟩ := hx.at_ (j := k) (by omega)
      have h64 := ux.at_ k
      have b1 := lenTo_le xs k
      have b2 := pop_le (wd xs k)
      have HS : Hid (lenTo xs (k + 1) = lenTo xs k + pop (wd xs k)) := rfl
      generalize wd xs k = x at *
      generalize lenTo xs k = m at *
      go_wp2_with (go_at_call 100; refine (ones_any _ _ (by assumption)).mono ?_; rintro e w' ⟨rfl, rfl⟩)
      go_round
      case rel => exact ⟨k + 1, by omega, by go_num, by rw [HS.out]; go_num⟩
      case measure => simp [intOf]; omega
    · obtain rfl : k = u := by omega
      go_wp2
      go_ret
      exact ⟨ret_of (by rw [HL.out]), rfl⟩
end Go.Proofs.YtkgeihambgbjdaaDoor
/- List, Min. -/
namespace Go.Proofs.YtkgeihambgbjdaaDoor
open Go Go.RowKit Go.Shelf
set_option maxRecDepth 100000
attribute [local go_sem] Oper.semAt_some
theorem info_int : (Tryd.prog.info? 3).map (fun i => (i.zero, i.size, i.bytes)) = some (some (.int .i64 0), 1, 8) := by kernel_rfl
/-- Numbers as cells. -/
def ivs (l : List Nat) : List Value := l.map fun x : Nat => .int .i64 (x : Int)
set_option maxHeartbeats 2000000 in
theorem List_in (n : Nat) (hn : 3 ≤ n) (A : Option Addr) (xs : List Nat) (c : Nat) (w : World) (hx : Words w A xs) (ux : U64 xs) (hc : xs.length ≤ c) (hT : Tab w) :
    CallsIn Fence.wide n Tryd.prog 78 #[.slice A xs.length c] w fun e w' =>
      ∃ v, e = .returned v ∧ w'.ownsRow w.heap.size 3 1 v (els xs).length (ivs (els xs)) ∧ Below w.heap.size w w' := by
  obtain ⟨i0, hi, hz0, hz1, hz2⟩ := info_parts info_int
  have hfn : ∀ f, Fence.wide.fn f := fun _ => trivial
  have h1 : 1 ≤ n := by omega
  have hle : (els xs).length ≤ 4096 := elsTo_len xs 4096
  have HL := Lib.hid (callsIn_wide (n := n - 1).2 (Len_any A xs c w hx ux hc))
  obtain ⟨N, hN⟩ : ∃ N, N = (els xs).length := ⟨_, rfl⟩
  rw [← hN] at HL hle
  refine callsIn_of_wp_marks Tryd.func78 rfl trivial ?_ rfl
  simp only [Tryd.ntmps78, List.size_toArray, List.length_cons, List.length_nil, Nat.reduceAdd, Nat.reduceSub, Array.replicate_succ, Array.replicate_zero, List.push_toArray, List.append_toArray, List.nil_append, List.cons_append]
  have HNh := Lib.hid hN
  clear hN
  gi_wp2_with (first
    | (gi_at_call 88; refine HL.out.mono ?_; rintro e w' ⟨rfl, rfl⟩)
    | (gi_at_make; go_must (refine wpListIn_make_own _ rfl _ _ _ rfl w.heap.size 3 i0 _ 1 Tryd.underlying33 hi hz0 hz1 _ _ _ N rfl rfl rfl (by rw [hz2]; omega) (by unfold maxLen; omega) (Nat.le_refl _) ?_); intro w1 hown hg)
    | (gi_at_call 89; refine (callsIn_wide.2 (elements_any _ _ _ _)).mono ?_; rintro e w' ⟨rfl, rfl⟩))
  have hb1 : Below w.heap.size w w1 := (Below.refl _ _).grown hg (Nat.le_refl _) (by simp)
  have hs1 := hb1.size
  obtain ⟨v7, hv7⟩ : ∃ v7 : Value, v7 = .slice (some ⟨w.heap.size, 0, none⟩) 0 N := ⟨_, rfl⟩
  rw [← hv7] at hown
  have bO := Boxed.new w1 33 v7
  have bN := Boxed.new (w1.alloc (.cells #[v7] 33)) 106 (.slice A xs.length c)
  rw [World.size_alloc] at bN
  have hB0 : Below w.heap.size w ((w1.alloc (.cells #[v7] 33)).alloc (.cells #[.slice A xs.length c] 106)) := (hb1.alloc hs1 _).alloc (by simp; omega) _
  rw [← hv7]
  clear hv7
  refine wpIn_rangeFunc_ownG rfl h1 (gf := 101) (lb := #[.pointer (some ⟨w1.heap.size + 1, 0, none⟩)]) rfl trivial (enters_of Tryd.func101 (by kernel_rfl) rfl)
    (iter_stops (n - 1) (by omega) (w1.heap.size + 1) w _ A xs c hx ux hc hT hB0 (by simp) bN.cell) belowK_t (belowK_b (by simp; omega)) (Below.refl _ _) (fun _ => rfl)
    (fun pre W => (∃ v, Boxed W w1.heap.size 33 v ∧ W.ownsRow w.heap.size 3 1 v pre.length (ivs pre) ∧ True) ∧ Below w.heap.size w W)
    (fun _ _ _ => False)
    (OwnFrom.and (Own.from (holdsRow_own w.heap.size w1.heap.size 33 3 1 (fun pre : List Nat => pre.length) (fun pre : List Nat => ivs pre) (fun _ _ => True)) _) (ownFrom_below (Nat.le_refl _) (by simp; omega)))
    (fun _ _ _ _ _ hs _ _ => hs)
    ⟨⟨_, bO.alloc _, (hown.alloc _).alloc _, trivial⟩, hB0⟩
    (fun x => { tmps := #[.slice A xs.length c, undef, .slice none 0 0, .pointer (some ⟨w1.heap.size, 0, none⟩), .int .i64 (x : Nat), .slice A xs.length c, .int .i64 N, v7, .slice A xs.length c, .func (.func 101) #[] #[.pointer (some ⟨w1.heap.size + 1, 0, none⟩)], .int .i64 (x : Nat), undef, undef, undef, undef, undef], defers := [] }) ?assign ?body ?done ?stop
  case assign =>
    intro l x W K hK
    gi_wp2
    exact hK
  case body =>
    rintro l pre x W ⟨⟨v, hv, hrow, _⟩, hB⟩ hlt
    have hpl : pre.length < 4096 := by rw [← HNh.out] at hlt; omega
    have hc := hv.cell
    clear hlt
    gi_wp2_with (gi_at_builtin; refine wpListIn_append_own _ rfl _ _ 33 rfl w.heap.size 3 i0 (.int .i64 0) 1 8 Tryd.underlying33 hi hz0 hz1 hz2 rfl (by decide) _ _ _ rfl (hrow.alloc _) ⟨W.heap.size, 0, none⟩ 1 1 [.int .i64 (x : Nat)] rfl rfl (cell_one_new _ _ _) (by simp [Value.oneCell']) (by unfold maxLen; omega) (by omega) (by have := hB.size; simp; omega) ?_; intro v' w2 hown' hgrow _; obtain ⟨g', cap', rfl⟩ := ownsRow_succ hown'; obtain ⟨hv1, hv2, hr2, hk2, hb2⟩ := hv.appended (by decide) hrow hB.size hs1 hown' hgrow; have hc1 := hv1.cell; have hf1 := hv1.frozen)
    exact ⟨hk2.from _, hb2, ⟨_, hv2, by simpa [ivs] using hr2, trivial⟩, hB.trans hb2⟩
  case done =>
    rintro D ys W hD rfl ⟨⟨v, hv, hrow, _⟩, hB⟩ hK
    have hc := hv.cell
    gi_wp2
    refine ⟨by simp, .inl ⟨_, _, rfl, run_takeDeferred hK, ?_⟩⟩
    exact ⟨_, results_tmp rfl _ _ _, v, rfl, ownsRow_putObj hrow _ hK rfl, hB.trans (belowK_b (w := w) (Nat.le_refl _) W D _ _ (by simp at hD; omega) hK rfl rfl)⟩
  case stop =>
    rintro D c pre W _ _ h _
    exact h.elim
theorem List_any (A : Option Addr) (xs : List Nat) (c : Nat) (w : World) (hx : Words w A xs) (ux : U64 xs) (hc : xs.length ≤ c) (hT : Tab w) :
    Calls Tryd.prog 78 #[.slice A xs.length c] w fun e w' =>
      ∃ v, e = .returned v ∧ w'.ownsRow w.heap.size 3 1 v (els xs).length (ivs (els xs)) ∧ Below w.heap.size w w' :=
  callsIn_wide.1 (List_in 3 (by omega) A xs c w hx ux hc hT)
/-- The smallest element and true, or 0 and false. -/
def minOf : List Nat → Nat × Bool
  | [] => (0, false)
  | x :: _ => (x, true)
theorem minOf_pre {l : List Nat} {x : Nat} (h : [x] <+: l) : minOf l = (x, true) := by
  obtain ⟨t, rfl⟩ := h
  rfl
theorem boxed_row {W : World} {B : Nat} {t : TypeId} {v : Value} {row : Option Nat} (h : Boxed W B t v) (hr : ∀ r, row = some r → ∃ o : Obj, W.heap[r]? = some o ∧ o.isCells = false) : some B ≠ row := by
  intro e
  obtain ⟨o, ho, hc⟩ := hr B e.symm
  rw [show W.heap[B]? = _ from h] at ho
  cases ho
  cases hc
theorem cell_alloc_m {W : World} {a : Addr} {v : Value} (o : Obj) (h : W.cell? a = some v) : (W.alloc o).cell? a = some v := cell_kept h (World.grownBy_alloc W o none) (fun r e => by cases e)
end Go.Proofs.YtkgeihambgbjdaaDoor
/- Comparisons: cmp.Compare, slices.Compare, the reference's Ints and Same; Has. -/
namespace Go.Proofs.YtkgeihambgbjdaaDoor
open Go Go.RowKit
set_option maxRecDepth 100000
/-- The order of two lists of numbers: -1, 0 or 1. -/
def cmpL : List Int → List Int → Int
  | [], [] => 0
  | [], _ :: _ => -1
  | _ :: _, [] => 1
  | a :: s, b :: t => if a < b then -1 else if b < a then 1 else cmpL s t
theorem nd_get (l : List Int) (k : Nat) (h : k < l.length) : l.drop k = nd l k :: l.drop (k + 1) := by
  rw [List.drop_eq_getElem_cons h]
  simp [nd, h]
theorem cmpL_step {l m : List Int} {k : Nat} (h : k < l.length) (h' : k < m.length) :
    cmpL (l.drop k) (m.drop k) = if nd l k < nd m k then -1 else if nd m k < nd l k then 1 else cmpL (l.drop (k + 1)) (m.drop (k + 1)) := by
  rw [nd_get l k h, nd_get m k h', cmpL]
theorem cmpL_end {l m : List Int} {k : Nat} (hk : k ≤ l.length) (hk' : k ≤ m.length) (h : k = l.length ∨ k = m.length) :
    cmpL (l.drop k) (m.drop k) = if l.length < m.length then -1 else if m.length < l.length then 1 else 0 := by
  rcases h with rfl | rfl
  · rcases Nat.lt_or_eq_of_le hk' with h1 | h1
    · rw [nd_get m _ h1, List.drop_length, if_pos h1]
      rfl
    · rw [List.drop_length, h1, List.drop_length]
      simp [cmpL]
  · rcases Nat.lt_or_eq_of_le hk with h1 | h1
    · rw [nd_get l _ h1, List.drop_length, if_neg (by omega), if_pos h1]
      rfl
    · rw [List.drop_length, h1, List.drop_length]
      simp [cmpL]
theorem isNaN_any (a : Int) (w : World) : Calls Tryd.prog 98 #[.int .i64 a] w fun e w' => e = .returned (.bool false) ∧ w = w' := by
  go_enter Tryd.func98, Tryd.ntmps98
  go_wp2
  go_ret
  exact ⟨ret_bool (by simp), rfl⟩
theorem cmp_any (a b : Int) (w : World) : Calls Tryd.prog 85 #[.int .i64 a, .int .i64 b] w fun e w' => e = .returned (.int .i64 (if a < b then -1 else if b < a then 1 else 0)) ∧ w = w' := by
  rcases Int.lt_trichotomy a b with h | h | h
  · rw [if_pos h]
    go_enter Tryd.func85, Tryd.ntmps85
    go_wp2_with (go_at_call 98; refine (isNaN_any _ _).mono ?_; rintro e w' ⟨rfl, rfl⟩)
    go_ret
    exact ⟨rfl, rfl⟩
  · subst h
    rw [if_neg (by omega), if_neg (by omega)]
    go_enter Tryd.func85, Tryd.ntmps85
    go_wp2_with (go_at_call 98; refine (isNaN_any _ _).mono ?_; rintro e w' ⟨rfl, rfl⟩)
    go_ret
    exact ⟨rfl, rfl⟩
  · rw [if_neg (by omega), if_pos h]
    have h' : ¬ a < b := by omega
    go_enter Tryd.func85, Tryd.ntmps85
    go_wp2_with (go_at_call 98; refine (isNaN_any _ _).mono ?_; rintro e w' ⟨rfl, rfl⟩)
    go_ret
    exact ⟨rfl, rfl⟩
end Go.Proofs.YtkgeihambgbjdaaDoor
/- The reference's Ints, Same and Has; Compare and Has of bitset. -/
namespace Go.Proofs.YtkgeihambgbjdaaDoor
open Go Go.RowKit
set_option maxRecDepth 100000
theorem below_drewN_k {B : Nat} {a w : World} (h : Below B a w) (n : Nat) : Below B a (w.drewN n) := ⟨h.os, h.tape, h.output, h.size, h.block⟩
theorem wd_ext {xs ys : List Nat} (h : xs.length = ys.length) (hk : ∀ i, i < xs.length → wd xs i = wd ys i) : xs = ys := by
  apply List.ext_getElem h
  intro i h1 h2
  have := hk i h1
  simpa [wd, h1, h2] using this
/-- The elements as ints. -/
def elsI (xs : List Nat) : List Int := (els xs).map fun x : Nat => (x : Int)
theorem own_ints {w : World} {base : Nat} {A : Option Addr} {c n : Nat} {l : List Nat} (h : w.ownsRow base 3 1 (.slice A n c) n (ivs l)) (hn : n = l.length) : Ints w A (l.map fun x : Nat => (x : Int)) := by
  subst hn
  unfold Ints
  rw [List.length_map]
  exact Vals.of_own h fun j hj => by simp [ivs, nd, hj]
/-- A slice that the call made owns numbers: written out. -/
theorem own_form {w : World} {base e n : Nat} {v : Value} {xs : List Value} (h : w.ownsRow base e 1 v n xs) : ∃ A c, v = .slice A n c ∧ n ≤ c := by
  rcases h.2 with ⟨rfl, rfl⟩ | ⟨g, cap, cur, rfl, _, _, h1, _⟩
  · exact ⟨none, 0, rfl, Nat.le_refl _⟩
  · exact ⟨_, _, rfl, h1⟩
/-- The order of two sets. -/
def cmpS (xs ys : List Nat) : Int := cmpL (elsI xs) (elsI ys)
theorem elsI_len (xs : List Nat) : (elsI xs).length = (els xs).length := by simp [elsI]
theorem els_le (xs : List Nat) : (els xs).length ≤ 4096 := elsTo_len xs 4096
end Go.Proofs.YtkgeihambgbjdaaDoor
/- Of, and what is made with it: With, Without; Has. -/
namespace Go.Proofs.YtkgeihambgbjdaaDoor
open Go Go.RowKit
set_option maxRecDepth 100000
/-- xs, lengthened by zero words to n words. -/
def grow (xs : List Nat) (n : Nat) : List Nat := xs ++ List.replicate (n - xs.length) 0
def setBit (xs : List Nat) (k : Nat) : List Nat := (grow xs (k / 64 + 1)).set (k / 64) (wd xs (k / 64) ||| 2 ^ (k % 64))
def addI (xs : List Nat) (k : Int) : List Nat := if 0 ≤ k ∧ k ≤ 4095 then setBit xs k.toNat else xs
def ofTo (l : List Int) : Nat → List Nat
  | 0 => []
  | n + 1 => addI (ofTo l n) (nd l n)
def ofL (l : List Int) : List Nat := ofTo l l.length
theorem grow_len (xs : List Nat) (n : Nat) : (grow xs n).length = max xs.length n := by
  simp [grow]; omega
theorem wd_grow (xs : List Nat) (n j : Nat) : wd (grow xs n) j = wd xs j := by
  unfold wd grow
  simp only [List.getD_eq_getElem?_getD, List.getElem?_append]
  by_cases h : j < xs.length
  · simp [h]
  · simp only [h, if_false]
    rw [List.getElem?_eq_none (by omega : xs.length ≤ j), List.getElem?_replicate]
    split <;> rfl
theorem setBit_len (xs : List Nat) (k : Nat) : (setBit xs k).length = max xs.length (k / 64 + 1) := by
  unfold setBit
  rw [List.length_set, grow_len]
theorem setBit_u64 {xs : List Nat} (h : U64 xs) (k : Nat) : U64 (setBit xs k) := by
  intro x hx
  unfold setBit at hx
  have hb : (2 : Nat) ^ (k % 64) < 2 ^ 64 := Nat.pow_lt_pow_right (by omega) (by omega)
  rcases List.mem_or_eq_of_mem_set hx with h1 | h1
  · unfold grow at h1
    rcases List.mem_append.1 h1 with h2 | h2
    · exact h x h2
    · rw [(List.mem_replicate.1 h2).2]; decide
  · rw [h1]; exact Nat.or_lt_two_pow (h.at_ _) hb
theorem addI_ok {xs : List Nat} (h : U64 xs) (hl : xs.length ≤ 64) (k : Int) : U64 (addI xs k) ∧ (addI xs k).length ≤ 64 := by
  unfold addI
  split
  · refine ⟨setBit_u64 h _, ?_⟩
    rw [setBit_len]; omega
  · exact ⟨h, hl⟩
theorem ofTo_ok (l : List Int) : ∀ n, U64 (ofTo l n) ∧ (ofTo l n).length ≤ 64
  | 0 => ⟨(fun x hx => by cases hx), Nat.zero_le _⟩
  | n + 1 => addI_ok (ofTo_ok l n).1 (ofTo_ok l n).2 _
theorem uvs_app (xs ys : List Nat) : uvs (xs ++ ys) = uvs xs ++ uvs ys := by simp [uvs]
theorem uvs_grow (ys : List Nat) (t : Nat) : uvs (ys ++ List.replicate t 0) ++ [.int .u64 0] = uvs (ys ++ List.replicate (t + 1) 0) := by
  rw [List.replicate_succ', ← List.append_assoc, uvs_app _ [0]]
  rfl
theorem uvs_set (xs : List Nat) (i x : Nat) : (uvs xs).set i (.int .u64 (x : Int)) = uvs (xs.set i x) := by
  simp [uvs, List.map_set]
theorem own_some {w : World} {base e n : Nat} {v : Value} {xs : List Value} (h : w.ownsRow base e 1 v n xs) (hn : 0 < n) : ∃ g c, v = .slice (some ⟨g, 0, none⟩) n c ∧ base ≤ g := by
  rcases h.2 with ⟨_, h0⟩ | ⟨g, cap, cur, rfl, h1, _⟩
  · omega
  · exact ⟨_, _, rfl, h1⟩
/-- The length that a slice value bears. -/
def sliceLen : Value → Nat
  | .slice _ n _ => n
  | _ => 0
set_option maxHeartbeats 1000000 in
theorem Of_any (A : Option Addr) (l : List Int) (c : Nat) (w : World) (hx : Ints w A l) (hl : l.length ≤ maxLen) :
    Calls Tryd.prog 77 #[.slice A l.length c] w fun e w' =>
      ∃ v, e = .returned v ∧ w'.ownsRow w.heap.size 116 1 v (ofL l).length (uvs (ofL l)) ∧ Below w.heap.size w w' := by
  unfold maxLen at hl
  obtain ⟨i0, hi, hz0, hz1, hz2⟩ := info_parts info_u64
  go_enter Tryd.func77, Tryd.ntmps77
  go_wp2
  go_loopw [3, 10] (fun s i wr => ∃ (k : Nat) (ys : List Nat), k ≤ l.length ∧ i = .int .i64 k ∧ Hid (ys = ofTo l k) ∧ wr.ownsRow w.heap.size 116 1 s ys.length (uvs ys) ∧ Below w.heap.size w wr) (fun _ i _ => l.length - (intOf i).toNat)
  case atStart => exact ⟨0, [], by omega, rfl, rfl, ⟨rfl, .inl ⟨rfl, rfl⟩⟩, Below.refl _ _⟩
  case round =>
    obtain ⟨k, ys, hk, rfl, HY, ho, hb⟩ := hrel
    have hys : U64 ys ∧ ys.length ≤ 64 := by rw [HY.out]; exact ofTo_ok l k
    obtain ⟨uy, ly⟩ := hys
    obtain ⟨sA, sc, rfl, hsc⟩ := own_form ho
    by_cases hlt : k < l.length
    · obtain ⟨ad, rfl, hcell⟩ := (hx.below hb).at_ hlt
      have HS : Hid (ofTo l (k + 1) = addI ys (nd l k)) := by
        show addI (ofTo l k) (nd l k) = _
        rw [HY.out]
      generalize nd l k = z at *
      clear HY
      by_cases hz : 0 ≤ z ∧ z ≤ 4095
      · have HS' : Hid (ofTo l (k + 1) = setBit ys z.toNat) := by
          show _ = _
          rw [HS.out, addI, if_pos hz]
        have hrng := inRange_any z wr
        rw [decide_eq_true hz] at hrng
        have HR := Lib.hid hrng
        obtain ⟨z0, z1⟩ := hz
        obtain ⟨m, rfl⟩ := Int.eq_ofNat_of_zero_le z0
        rw [Int.toNat_natCast] at HS'
        have hm : m ≤ 4095 := by omega
        have HP := Lib.hid (place_any m wr hm)
        clear hrng HS z0 z1
        have hbit : 2 ^ (m % 64) < 2 ^ 64 := Nat.pow_lt_pow_right (by omega) (by omega)
        have HSB : Hid (setBit ys m = (grow ys (m / 64 + 1)).set (m / 64) (wd ys (m / 64) ||| 2 ^ (m % 64))) := rfl
        obtain ⟨p, hp⟩ : ∃ p : Nat, p = 2 ^ (m % 64) := ⟨_, rfl⟩
        obtain ⟨i, hi'⟩ : ∃ i : Nat, i = m / 64 := ⟨_, rfl⟩
        have hi64 : i < 64 := by omega
        rw [← hp] at HP HSB hbit
        rw [← hi'] at HP HSB
        clear hp hi'
        go_wp2_with (first
          | (go_at_call 86; refine HR.out.mono ?_; rintro e w' ⟨rfl, rfl⟩)
          | (go_at_call 87; refine HP.out.mono ?_; rintro e w' ⟨rfl, nq, rfl⟩))
        have ho1 : (wr.drewN nq).ownsRow w.heap.size 116 1 (.slice sA ys.length sc) ys.length (uvs ys) := ho
        have hb1 := below_drewN_k hb nq
        have lz : ys.length ≤ 64 := ly
        clear ho hb hcell HR HP
        generalize wr.drewN nq = wo at *
        go_loopw [3] (fun s wr2 => ∃ n t : Nat, Hid (n = ys.length + t) ∧ t ≤ i + 1 - ys.length ∧ n ≤ 64 ∧ wr2.ownsRow w.heap.size 116 1 s n (uvs (ys ++ List.replicate t 0)) ∧ Below w.heap.size w wr2) (fun s _ => 65 - sliceLen s)
        case atStart => exact ⟨ys.length, 0, rfl, by omega, by omega, by simpa using ho1, hb1⟩
        case round =>
          clear ho1 hb1
          obtain ⟨n, t, HN, ht, hn, ho2, hb2⟩ := hrel
          obtain ⟨sA2, sc2, rfl, hsc2⟩ := own_form ho2
          by_cases hle : n ≤ i
          · have ht2 : t + 1 ≤ i + 1 - ys.length := by have := HN.out; omega
            have HN2 : Hid (n + 1 = ys.length + (t + 1)) := by have := HN.out; show _ = _; omega
            go_wp2_with (at_builtin; refine wpList_append_own _ rfl _ _ 106 rfl w.heap.size 116 i0 (.int .u64 0) 1 8 Tryd.underlying106 hi hz0 hz1 hz2 rfl (by decide) _ _ _ rfl (ho2.alloc _) ⟨wr.heap.size, 0, none⟩ 1 1 [.int .u64 0] rfl rfl (cell_one_new _ _ _) (by simp [Value.oneCell']) (by unfold maxLen; omega) (by omega) (by have := hb2.size; simp; omega) ?_; intro v' w2 hown' hgrow _)
            rw [uvs_grow] at hown'
            have hb3 : Below w.heap.size w w2 := (hb2.alloc hb2.size _).grown hgrow (by have := hb2.size; simp; omega) (fun j hj => (ho2.lt j hj).1)
            obtain ⟨g', cap', rfl⟩ := ownsRow_succ hown'
            go_roundw
            case rel => exact ⟨n + 1, t + 1, HN2, ht2, by omega, hown', hb3⟩
            case measure => simp [sliceLen]; omega
          · have HN2 := HN.out
            have ht2 : t = i + 1 - ys.length := by omega
            have hgr : ys ++ List.replicate t 0 = grow ys (i + 1) := by rw [ht2]; rfl
            have hgl : (grow ys (i + 1)).length = n := by rw [grow_len]; omega
            rw [hgr] at ho2
            obtain ⟨g, c', hv, hg⟩ := own_some ho2 (by omega)
            injection hv with hv _ _
            subst hv
            have hcell := ho2.cellAt i (by omega)
            rw [uvs_get _ _ (by omega), wd_grow] at hcell
            have hfr := ho2.frozenAt i
            have hst := (ho2.stored i (.int .u64 ((wd ys i ||| p : Nat) : Int))).1
            rw [uvs_set, ← HSB.out] at hst
            have hsl : (setBit ys m).length = n := by rw [HSB.out, List.length_set, hgl]
            have hb3 := hb2.setCell (p := ⟨g, i, none⟩) hg (.int .u64 ((wd ys i ||| p : Nat) : Int))
            have hor : Hid (bits BinOp.or IntKind.u64 ((wd ys i : Nat) : Int) (p : Int) = ((wd ys i ||| p : Nat) : Int)) := u64_or_nat _ _ (uy.at_ i) hbit
            have HSL := Lib.hid hsl
            have HST := Lib.hid hst
            clear hst hsl hgr hgl ht2 HN2 ho2
            have hin : i < n := by omega
            go_wp2
            rw [hor.out]
            go_roundw
            case rel => exact ⟨k + 1, setBit ys m, by omega, by go_num, HS'.out.symm, by rw [HSL.out]; exact HST.out, hb3⟩
            case measure => simp [intOf]; omega
      · have HS' : Hid (ofTo l (k + 1) = ys) := by
          show _ = _
          rw [HS.out, addI, if_neg hz]
        have hrng := inRange_any z wr
        rw [decide_eq_false hz] at hrng
        have HR := Lib.hid hrng
        clear hrng HS hz
        go_wp2_with (go_at_call 86; refine HR.out.mono ?_; rintro e w' ⟨rfl, rfl⟩)
        go_roundw
        case rel => exact ⟨k + 1, ys, by omega, by go_num, HS'.out.symm, ho, hb⟩
        case measure => simp [intOf]; omega
    · obtain rfl : k = l.length := by omega
      have hf : ys = ofL l := HY.out
      have HF := Lib.hid hf
      clear hf HY
      go_wp2
      go_ret
      refine ⟨_, rfl, ?_, hb⟩
      rw [← HF.out]
      exact ho
theorem Of_own (A : Option Addr) (l : List Int) (c : Nat) (w : World) (hx : Ints w A l) (hl : l.length ≤ maxLen) :
    Calls Tryd.prog 77 #[.slice A l.length c] w fun e w' =>
      ∃ A' c', e = .returned (.slice A' (ofL l).length c') ∧ OwnW w.heap.size w' A' c' (ofL l) ∧ Below w.heap.size w w' :=
  (Of_any A l c w hx hl).mono fun e w' ⟨v, he, ho, hb⟩ => by
    obtain ⟨A', c', rfl, hc⟩ := own_form ho
    exact ⟨A', c', he, ⟨ho, (ofTo_ok l _).1, hc⟩, hb⟩
theorem addr_add (b j : Nat) : (⟨b, 0, none⟩ : Addr).add j = ⟨b, j, none⟩ := by
  unfold Addr.add
  split
  · rename_i h; rw [h]
  · simp
theorem ints_new (W : World) (t : TypeId) (l : List Int) : Ints (W.alloc (.cells (l.map (Value.int .i64)).toArray t)) (some ⟨W.heap.size, 0, none⟩) l := by
  intro j hj
  refine ⟨_, rfl, by simp, ?_⟩
  rw [addr_add, World.cell?_alloc_at _ _ _ _ rfl]
  simp [nd, hj]
theorem words_new (W : World) (t : TypeId) (l : List Nat) : Words (W.alloc (.cells (uvs l).toArray t)) (some ⟨W.heap.size, 0, none⟩) l := by
  intro j hj
  refine ⟨_, rfl, by simp, ?_⟩
  rw [addr_add, World.cell?_alloc_at _ _ _ _ rfl]
  simp [uvs, wd, hj]
end Go.Proofs.YtkgeihambgbjdaaDoor
/- The chapter's examples hold: awake. -/
namespace Go.Proofs.YtkgeihambgbjdaaDoor
open Go Go.RowKit
set_option maxRecDepth 100000
theorem ex1 : ofL [70, 3, 3, -1] = [8, 64] := by decide +kernel
theorem ex2 : els [8, 64] = [3, 70] := by decide +kernel
theorem ex3 : ofL [70] = [0, 64] := by decide +kernel
theorem ex4 : canon (zipW andNot [8, 64] [0, 64]) = [8] := by decide +kernel
theorem ex5 : cmpS (ofL [1, 5]) (ofL [1]) = 1 := by decide +kernel
theorem ex6 : cmpS (ofL [0, 9]) (ofL [1]) = -1 := by decide +kernel
theorem of_lit (l : List Int) (rs : List Nat) (h : ofL l = rs) (hl : l.length ≤ 100) (W : World) :
    Calls Tryd.prog 77 #[.slice (some ⟨W.heap.size, 0, none⟩) l.length l.length] (W.alloc (.cells (l.map (Value.int .i64)).toArray 3)) fun e w' =>
      ∃ A' c', e = .returned (.slice A' rs.length c') ∧ Words w' A' rs ∧ U64 rs ∧ rs.length ≤ c' ∧ Below W.heap.size W w' := by
  subst h
  refine (Of_own _ l _ _ (ints_new W _ l) (by unfold maxLen; omega)).mono ?_
  rintro e w' ⟨A', c', he, ho, hb⟩
  exact ⟨A', c', he, ho.words, ho.2.1, ho.2.2, ((Below.refl _ W).alloc (Nat.le_refl _) _).trans (hb.mono (by simp))⟩
theorem drewN_below (w : World) (n : Nat) : Below w.heap.size w (w.drewN n) := below_drewN_k (Below.refl _ _) n
theorem alloc_below (w : World) (o : Obj) : Below w.heap.size w (w.alloc o) := (Below.refl _ w).alloc (Nat.le_refl _) _
end Go.Proofs.YtkgeihambgbjdaaDoor
/- Long: whether a set has more words than the statements examine. -/
namespace Go.Proofs.YtkgeihambgbjdaaDoor
open Go Go.RowKit
set_option maxRecDepth 100000
/-- Slices of sets as they are handed to a variadic function. -/
def Sets (w : World) (A : Option Addr) (n : Nat) (a : Nat → Option Addr) (l c : Nat → Nat) : Prop := Vals w A n fun j => .slice (a j) (l j) (c j)
end Go.Proofs.YtkgeihambgbjdaaDoor
/- The algebra of words: what combinations hold word by word; canonical forms. Plain arithmetic. -/
namespace Go.Proofs.YtkgeihambgbjdaaDoor
open Go Go.RowKit
theorem trimLen_congr {xs ys : List Nat} : ∀ n, (∀ i, i < n → wd xs i = wd ys i) → trimLen xs n = trimLen ys n
  | 0, _ => rfl
  | n + 1, h => by
    unfold trimLen
    rw [h n (by omega), trimLen_congr n fun i hi => h i (by omega)]
theorem trimLen_out (xs : List Nat) : ∀ n, xs.length ≤ n → trimLen xs n = trimLen xs xs.length
  | 0, h => by rw [show xs.length = 0 by omega]
  | n + 1, h => by
    rcases Nat.lt_or_eq_of_le h with h1 | h1
    · have h2 := trimLen_out xs n (by omega)
      unfold trimLen
      rw [if_pos (wd_out (by omega)), h2]
      cases hx : xs.length <;> rfl
    · rw [h1]
theorem ulen_64 (xs : List Nat) : ulen xs = trimLen xs 64 := by
  unfold ulen
  rcases Nat.le_total xs.length 64 with h | h
  · rw [Nat.min_eq_left h, trimLen_out xs 64 h]
  · rw [Nat.min_eq_right h]
theorem ulen_congr {xs ys : List Nat} (h : ∀ i, i < 64 → wd xs i = wd ys i) : ulen xs = ulen ys := by
  rw [ulen_64, ulen_64, trimLen_congr 64 h]
theorem canon_len (xs : List Nat) : (canon xs).length = ulen xs := by
  unfold canon
  rw [List.length_take]
  exact Nat.min_eq_left (ulen_le xs)
theorem wd_take (xs : List Nat) (n i : Nat) : wd (xs.take n) i = if i < n then wd xs i else 0 := by
  unfold wd
  rw [List.getD_eq_getElem?_getD, List.getElem?_take]
  split
  · rw [List.getD_eq_getElem?_getD]
  · rfl
theorem wd_canon (xs : List Nat) (i : Nat) (h : i < 64) : wd (canon xs) i = wd xs i := by
  unfold canon
  rw [wd_take]
  split
  · rfl
  · exact (ulen_zero xs i (by omega) h).symm
theorem canon_ext {xs ys : List Nat} (h : ∀ i, i < 64 → wd xs i = wd ys i) : canon xs = canon ys := by
  have hl := ulen_congr h
  apply wd_ext
  · rw [canon_len, canon_len, hl]
  · intro i hi
    rw [canon_len] at hi
    have h64 := ulen_le64 xs
    rw [wd_canon _ _ (by omega), wd_canon _ _ (by omega), h i (by omega)]
theorem wd_zipW (p : Nat → Nat → Nat) (hp : p 0 0 = 0) (xs ys : List Nat) (i : Nat) (h : i < 64) : wd (zipW p xs ys) i = p (wd xs i) (wd ys i) := by
  by_cases hi : i < max (ulen xs) (ulen ys)
  · unfold zipW
    rw [wd, List.getD_eq_getElem?_getD, List.getElem?_map, List.getElem?_range hi]
    rfl
  · rw [wd_out (by simp [zipW]; omega), ulen_zero xs i (by omega) h, ulen_zero ys i (by omega) h, hp]
theorem wd_or (xs ys : List Nat) (i : Nat) (h : i < 64) : wd (canon (zipW (· ||| ·) xs ys)) i = wd xs i ||| wd ys i := by rw [wd_canon _ _ h, wd_zipW _ rfl _ _ _ h]
theorem wd_and (xs ys : List Nat) (i : Nat) (h : i < 64) : wd (canon (zipW (· &&& ·) xs ys)) i = wd xs i &&& wd ys i := by rw [wd_canon _ _ h, wd_zipW _ rfl _ _ _ h]
theorem wd_minus (xs ys : List Nat) (i : Nat) (h : i < 64) : wd (canon (zipW andNot xs ys)) i = andNot (wd xs i) (wd ys i) := by rw [wd_canon _ _ h, wd_zipW _ (by decide) _ _ _ h]
theorem bit_andNot (x y b : Nat) (hx : x < 2 ^ 64) (hy : y < 2 ^ 64) : (andNot x y).testBit b = (x.testBit b && !y.testBit b) := by
  unfold andNot
  rw [Nat.testBit_and, show 18446744073709551615 - y = 2 ^ 64 - (y + 1) by omega, Nat.testBit_two_pow_sub_succ hy]
  by_cases hb : b < 64
  · simp [hb]
  · rw [Nat.testBit_lt_two_pow (Nat.lt_of_lt_of_le hx (Nat.pow_le_pow_right (by decide) (by omega)))]
    simp
theorem every_iff (p : Nat → Nat → Bool) (hp : p 0 0 = true) (xs ys : List Nat) : every p xs ys = true ↔ ∀ i, i < 64 → p (wd xs i) (wd ys i) = true := by
  have h1 := ulen_le64 xs
  have h2 := ulen_le64 ys
  unfold every
  rw [allB_iff]
  constructor
  · intro h i hi
    by_cases hm : i < max (ulen xs) (ulen ys)
    · exact h i hm
    · rw [ulen_zero xs i (by omega) hi, ulen_zero ys i (by omega) hi, hp]
  · exact fun h i hi => h i (by omega)
theorem eqB_iff (xs ys : List Nat) : eqB xs ys = true ↔ ∀ i, i < 64 → wd xs i = wd ys i := by
  unfold eqB
  rw [every_iff _ (by decide)]
  constructor <;> intro h i hi <;> simpa using h i hi
theorem subB_iff (xs ys : List Nat) : subB xs ys = true ↔ ∀ i, i < 64 → andNot (wd xs i) (wd ys i) = 0 := by
  unfold subB
  rw [every_iff _ (by decide)]
  constructor <;> intro h i hi <;> simpa using h i hi
theorem meetB_iff (xs ys : List Nat) : meetB xs ys = false ↔ ∀ i, i < 64 → wd xs i &&& wd ys i = 0 := by
  unfold meetB
  rw [Bool.not_eq_false', every_iff _ (by decide)]
  constructor <;> intro h i hi <;> simpa using h i hi
theorem bits_ext {x y : Nat} (h : ∀ b, x.testBit b = y.testBit b) : x = y := Nat.eq_of_testBit_eq h
theorem canon_or_nil (xs : List Nat) : canon (zipW (· ||| ·) xs []) = canon xs :=
  canon_ext fun i hi => by rw [wd_zipW _ rfl _ _ _ hi]; simp [wd]
theorem canon_canon (xs : List Nat) : canon (canon xs) = canon xs := canon_ext fun i hi => wd_canon xs i hi
end Go.Proofs.YtkgeihambgbjdaaDoor
/- Contracts over a stock of sets that are readable in the world at hand. -/
namespace Go.Proofs.YtkgeihambgbjdaaDoor
open Go Go.RowKit
set_option maxRecDepth 100000
/-- The sets of S are readable in w, and nothing that lay in w0 has turned. -/
def Env (w0 w : World) (S : List (Option Addr × Nat × List Nat)) : Prop :=
  Below w0.heap.size w0 w ∧ Tab w ∧ ∀ q ∈ S, Words w q.1 q.2.2 ∧ U64 q.2.2 ∧ q.2.2.length ≤ q.2.1
namespace Env
variable {w0 w w' : World} {S : List (Option Addr × Nat × List Nat)}
theorem step (E : Env w0 w S) (h : Below w.heap.size w w') : Env w0 w' S :=
  ⟨stepB E.1 h, E.2.1.below h, fun q hq => ⟨(E.2.2 q hq).1.below h, (E.2.2 q hq).2⟩⟩
theorem push (E : Env w0 w S) {A : Option Addr} {c : Nat} {xs : List Nat} (h1 : Words w A xs) (h2 : U64 xs) (h3 : xs.length ≤ c) : Env w0 w ((A, c, xs) :: S) :=
  ⟨E.1, E.2.1, fun q hq => by
    rcases List.mem_cons.1 hq with rfl | h
    · exact ⟨h1, h2, h3⟩
    · exact E.2.2 q h⟩
theorem alloc (E : Env w0 w S) (o : Obj) : Env w0 (w.alloc o) S := E.step (alloc_below w o)
end Env
section
variable {w0 w : World} {S : List (Option Addr × Nat × List Nat)} {A B : Option Addr} {c d : Nat} {xs ys : List Nat}
theorem Len_env (E : Env w0 w S) (ha : (A, c, xs) ∈ S) :
    Calls Tryd.prog 88 #[.slice A xs.length c] w fun e w' => e = .returned (.int .i64 ((els xs).length : Nat)) ∧ w = w' := by
  obtain ⟨a1, a2, a3⟩ := E.2.2 _ ha
  exact Len_any A xs c w a1 a2 a3
/-- The slices that are handed to Long. -/
def slices (L : List (Option Addr × Nat × Nat)) : Array Value := (L.map fun q => Value.slice q.1 q.2.1 q.2.2).toArray
end
end Go.Proofs.YtkgeihambgbjdaaDoor
/- Membership in combined sets. Plain arithmetic. -/
namespace Go.Proofs.YtkgeihambgbjdaaDoor
open Go Go.RowKit
theorem u64_canon {xs : List Nat} (h : U64 xs) : U64 (canon xs) := fun x hx => h x (List.mem_of_mem_take hx)
theorem u64_zip {xs ys : List Nat} (ux : U64 xs) (uy : U64 ys) (p : Nat → Nat → Nat) (hp : ∀ x y, x < 2 ^ 64 → y < 2 ^ 64 → p x y < 2 ^ 64) : U64 (zipW p xs ys) := by
  intro x hx
  unfold zipW at hx
  obtain ⟨i, _, rfl⟩ := List.mem_map.1 hx
  exact hp _ _ (ux.at_ i) (uy.at_ i)
section
variable {xs ys : List Nat} {k : Nat}
theorem mem_or (hk : k < 4096) : mem (canon (zipW (· ||| ·) xs ys)) k = (mem xs k || mem ys k) := by
  unfold mem
  rw [wd_or _ _ _ (by omega), Nat.testBit_or]
theorem mem_and (hk : k < 4096) : mem (canon (zipW (· &&& ·) xs ys)) k = (mem xs k && mem ys k) := by
  unfold mem
  rw [wd_and _ _ _ (by omega), Nat.testBit_and]
theorem mem_minus (ux : U64 xs) (uy : U64 ys) (hk : k < 4096) : mem (canon (zipW andNot xs ys)) k = (mem xs k && !mem ys k) := by
  unfold mem
  rw [wd_minus _ _ _ (by omega), bit_andNot _ _ _ (ux.at_ _) (uy.at_ _)]
theorem eqB_mem (ux : U64 xs) (uy : U64 ys) : eqB xs ys = true ↔ ∀ k, k < 4096 → mem xs k = mem ys k := by
  rw [eqB_iff]
  constructor
  · intro h k hk
    unfold mem
    rw [h _ (by omega)]
  · intro h i hi
    apply bits_ext
    intro b
    by_cases hb : b < 64
    · have := h (64 * i + b) (by omega)
      rwa [mem_at _ _ _ hb, mem_at _ _ _ hb] at this
    · have hp : (2 : Nat) ^ 64 ≤ 2 ^ b := Nat.pow_le_pow_right (by decide) (by omega)
      rw [Nat.testBit_lt_two_pow (Nat.lt_of_lt_of_le (ux.at_ i) hp), Nat.testBit_lt_two_pow (Nat.lt_of_lt_of_le (uy.at_ i) hp)]
theorem eqB_of {b : Bool} (ux : U64 xs) (uy : U64 ys) (h : (∀ k, k < 4096 → mem xs k = mem ys k) ↔ b = true) : eqB xs ys = b := by
  rw [Bool.eq_iff_iff, eqB_mem ux uy, h]
theorem els_congr (h : ∀ k, k < 4096 → mem xs k = mem ys k) : els xs = els ys := by
  unfold els elsTo
  apply List.filter_congr
  intro k hk
  exact h k (List.mem_range.1 hk)
theorem els_mem : k ∈ els xs ↔ k < 4096 ∧ mem xs k = true := by
  unfold els elsTo
  rw [List.mem_filter, List.mem_range]
theorem subB_mem (ux : U64 xs) (uy : U64 ys) : subB xs ys = true ↔ ∀ k, k < 4096 → mem xs k = true → mem ys k = true := by
  rw [subB_iff]
  constructor
  · intro h k hk hm
    have := h (k / 64) (by omega)
    have hb := bit_andNot (wd xs (k / 64)) (wd ys (k / 64)) (k % 64) (ux.at_ _) (uy.at_ _)
    rw [this, Nat.zero_testBit] at hb
    unfold mem at hm ⊢
    rw [hm] at hb
    simpa using hb.symm
  · intro h i hi
    apply bits_ext
    intro b
    rw [bit_andNot _ _ _ (ux.at_ _) (uy.at_ _), Nat.zero_testBit]
    by_cases hb : b < 64
    · have := h (64 * i + b) (by omega)
      rw [mem_at _ _ _ hb, mem_at _ _ _ hb] at this
      cases hx : (wd xs i).testBit b
      · rfl
      · rw [this hx]; rfl
    · have hp : (2 : Nat) ^ 64 ≤ 2 ^ b := Nat.pow_le_pow_right (by decide) (by omega)
      rw [Nat.testBit_lt_two_pow (Nat.lt_of_lt_of_le (ux.at_ i) hp)]
      rfl
theorem meetB_mem (ux : U64 xs) : meetB xs ys = false ↔ ∀ k, k < 4096 → (mem xs k && mem ys k) = false := by
  rw [meetB_iff]
  constructor
  · intro h k hk
    unfold mem
    rw [← Nat.testBit_and, h _ (by omega), Nat.zero_testBit]
  · intro h i hi
    apply bits_ext
    intro b
    rw [Nat.zero_testBit, Nat.testBit_and]
    by_cases hb : b < 64
    · have := h (64 * i + b) (by omega)
      rwa [mem_at _ _ _ hb, mem_at _ _ _ hb] at this
    · have hp : (2 : Nat) ^ 64 ≤ 2 ^ b := Nat.pow_le_pow_right (by decide) (by omega)
      rw [Nat.testBit_lt_two_pow (Nat.lt_of_lt_of_le (ux.at_ i) hp)]
      rfl
theorem mem_setBit (j : Nat) : mem (setBit xs j) k = (mem xs k || decide (k = j)) := by
  have hw : wd (setBit xs j) (k / 64) = if k / 64 = j / 64 then wd xs (j / 64) ||| 2 ^ (j % 64) else wd xs (k / 64) := by
    unfold setBit
    have hg := grow_len xs (j / 64 + 1)
    have h1 : wd ((grow xs (j / 64 + 1)).set (j / 64) (wd xs (j / 64) ||| 2 ^ (j % 64))) (k / 64) = if k / 64 = j / 64 then wd xs (j / 64) ||| 2 ^ (j % 64) else wd (grow xs (j / 64 + 1)) (k / 64) := by
      unfold wd
      simp only [List.getD_eq_getElem?_getD, List.getElem?_set]
      by_cases h : j / 64 = k / 64
      · have : k / 64 < (grow xs (k / 64 + 1)).length := by rw [grow_len]; omega
        simp [h, this]
      · have h' : ¬ k / 64 = j / 64 := fun e => h e.symm
        simp [h, h']
    rw [h1, wd_grow]
  unfold mem
  rw [hw]
  by_cases h : k / 64 = j / 64
  · rw [if_pos h, Nat.testBit_or, Nat.testBit_two_pow, h]
    congr 1
    rw [Bool.eq_iff_iff]
    simp
    omega
  · rw [if_neg h]
    have : ¬ k = j := fun e => h (by rw [e])
    simp [this]
theorem mem_addI (z : Int) (hk : k < 4096) : mem (addI xs z) k = (mem xs k || decide ((k : Int) = z)) := by
  unfold addI
  split
  · rename_i h
    rw [mem_setBit]
    congr 1
    rw [Bool.eq_iff_iff]
    simp
    omega
  · rename_i h
    have : ¬ (k : Int) = z := by omega
    simp [this]
theorem mem_ofTo (l : List Int) (hk : k < 4096) : ∀ n, n ≤ l.length → mem (ofTo l n) k = decide ((k : Int) ∈ l.take n)
  | 0, _ => by simp [ofTo, mem, wd]
  | n + 1, h => by
    show mem (addI (ofTo l n) (nd l n)) k = _
    rw [mem_addI _ hk, mem_ofTo l hk n (by omega)]
    have e : l.take (n + 1) = l.take n ++ [nd l n] := by
      rw [List.take_succ_eq_append_getElem (by omega)]
      simp [nd, show n < l.length by omega]
    rw [e]
    rw [Bool.eq_iff_iff]
    simp
theorem mem_ofL (l : List Int) (hk : k < 4096) : mem (ofL l) k = decide ((k : Int) ∈ l) := by
  unfold ofL
  rw [mem_ofTo l hk _ (Nat.le_refl _), List.take_length]
theorem filter_counts (p q : Nat → Bool) : ∀ l : List Nat, (l.filter fun k => p k || q k).length + (l.filter fun k => p k && q k).length = (l.filter p).length + (l.filter q).length
  | [] => rfl
  | a :: l => by
    have ih := filter_counts p q l
    simp only [List.filter_cons]
    cases p a <;> cases q a <;> simp <;> omega
theorem els_filter (zs : List Nat) (p : Nat → Bool) (h : ∀ k, k < 4096 → mem zs k = p k) : els zs = (List.range 4096).filter p := by
  unfold els elsTo
  exact List.filter_congr fun k hk => h k (List.mem_range.1 hk)
theorem els_counts : (els (canon (zipW (· ||| ·) xs ys))).length + (els (canon (zipW (· &&& ·) xs ys))).length = (els xs).length + (els ys).length := by
  rw [els_filter _ _ fun k hk => mem_or hk, els_filter _ _ fun k hk => mem_and hk]
  exact filter_counts _ _ _
theorem els_pos : 0 < (els xs).length ↔ ∃ k, k < 4096 ∧ mem xs k = true := by
  rw [List.length_pos_iff_exists_mem]
  simp only [els_mem]
theorem meetB_pos (ux : U64 xs) : meetB xs ys = decide (0 < (els (canon (zipW (· &&& ·) xs ys))).length) := by
  cases h : meetB xs ys with
  | false =>
    symm
    rw [decide_eq_false_iff_not, els_pos]
    rintro ⟨k, hk, hm⟩
    rw [mem_and hk, (meetB_mem ux).1 h k hk] at hm
    cases hm
  | true =>
    symm
    rw [decide_eq_true_iff, els_pos]
    apply Classical.byContradiction
    intro hn
    have : meetB xs ys = false := (meetB_mem ux).2 fun k hk => by
      rw [← mem_and hk]
      cases hm : mem (canon (zipW (· &&& ·) xs ys)) k
      · rfl
      · exact absurd ⟨k, hk, hm⟩ hn
    rw [this] at h
    cases h
theorem sub_or (ux : U64 xs) (uy : U64 ys) : eqB (canon (zipW (· ||| ·) xs ys)) ys = subB xs ys := by
  apply eqB_of (u64_canon (u64_zip ux uy _ fun _ _ h h' => Nat.or_lt_two_pow h h')) uy
  rw [subB_mem ux uy]
  constructor
  · intro h k hk hm
    have := h k hk
    rw [mem_or hk, hm] at this
    exact this.symm
  · intro h k hk
    rw [mem_or hk]
    cases hm : mem xs k
    · rfl
    · rw [h k hk hm]; rfl
theorem sub_and (ux : U64 xs) (uy : U64 ys) : eqB (canon (zipW (· &&& ·) xs ys)) xs = subB xs ys := by
  apply eqB_of (u64_canon (u64_zip ux uy _ fun _ _ h _ => Nat.lt_of_le_of_lt Nat.and_le_left h)) ux
  rw [subB_mem ux uy]
  constructor
  · intro h k hk hm
    have := h k hk
    rw [mem_and hk, hm] at this
    simpa using this
  · intro h k hk
    rw [mem_and hk]
    cases hm : mem xs k
    · rfl
    · rw [h k hk hm]; rfl
theorem sub_of_and (ux : U64 xs) (uy : U64 ys) : subB (canon (zipW (· &&& ·) xs ys)) xs = true := by
  rw [subB_mem (u64_canon (u64_zip ux uy _ fun _ _ h _ => Nat.lt_of_le_of_lt Nat.and_le_left h)) ux]
  intro k hk hm
  rw [mem_and hk] at hm
  simp at hm
  exact hm.1
theorem sub_to_or (ux : U64 xs) (uy : U64 ys) : subB xs (canon (zipW (· ||| ·) xs ys)) = true := by
  rw [subB_mem ux (u64_canon (u64_zip ux uy _ fun _ _ h h' => Nat.or_lt_two_pow h h'))]
  intro k hk hm
  rw [mem_or hk, hm]
  rfl
end
end Go.Proofs.YtkgeihambgbjdaaDoor
/- Has, With, Without: contracts, and what they do to membership. -/
namespace Go.Proofs.YtkgeihambgbjdaaDoor
open Go Go.RowKit
set_option maxRecDepth 100000
/-- Whether k is an element, whatever k. -/
def hasB (xs : List Nat) (k : Int) : Bool := decide (0 ≤ k ∧ k ≤ 4095) && mem xs k.toNat
theorem and_bit (x j : Nat) : (((x &&& 2 ^ j : Nat) : Int) != 0) = x.testBit j := by
  have h : (x &&& 2 ^ j) = 2 ^ j * (x.testBit j).toNat := by
    apply Nat.eq_of_testBit_eq
    intro b
    rw [Nat.testBit_and, Nat.testBit_two_pow]
    by_cases hb : j = b
    · subst hb
      cases h : x.testBit j <;> simp
    · have hb' : ¬ b = j := fun e => hb e.symm
      cases h : x.testBit j <;> simp [hb]
  rw [h]
  have hp : (2 : Nat) ^ j ≠ 0 := Nat.ne_of_gt (Nat.two_pow_pos j)
  cases hx : x.testBit j
  · simp
  · simp only [Bool.toNat_true, Nat.mul_one]
    rw [bne_iff_ne]
    exact_mod_cast hp
set_option maxHeartbeats 400000 in
theorem Has_any (A : Option Addr) (xs : List Nat) (c : Nat) (k : Int) (w : World) (hx : Words w A xs) (ux : U64 xs) :
    Calls Tryd.prog 104 #[.slice A xs.length c, .int .i64 k] w fun e w' => e = .returned (.bool (hasB xs k)) ∧ ∃ n, w' = w.drewN n := by
  by_cases hk : 0 ≤ k ∧ k ≤ 4095
  · have hrng := inRange_any k w
    rw [decide_eq_true hk] at hrng
    have HR := Lib.hid hrng
    obtain ⟨z0, z1⟩ := hk
    obtain ⟨m, rfl⟩ := Int.eq_ofNat_of_zero_le z0
    have hm : m ≤ 4095 := by omega
    have HF : Hid (hasB xs (m : Int) = (wd xs (m / 64)).testBit (m % 64)) := by
      show _ = _
      unfold hasB mem
      rw [decide_eq_true ⟨z0, z1⟩, Int.toNat_natCast, Bool.true_and]
    have HP := Lib.hid (place_any m w hm)
    have hbit : 2 ^ (m % 64) < 2 ^ 64 := Nat.pow_lt_pow_right (by omega) (by omega)
    have hwd := ux.at_ (m / 64)
    have HA : Hid (bits BinOp.and IntKind.u64 ((wd xs (m / 64) : Nat) : Int) ((2 ^ (m % 64) : Nat) : Int) = ((wd xs (m / 64) &&& 2 ^ (m % 64) : Nat) : Int)) := u64_and_nat _ _ hwd hbit
    clear hrng z0 z1
    obtain ⟨j, hj⟩ : ∃ j, j = m % 64 := ⟨_, rfl⟩
    obtain ⟨p, hp⟩ : ∃ p : Nat, p = 2 ^ (m % 64) := ⟨_, rfl⟩
    obtain ⟨i, hi'⟩ : ∃ i : Nat, i = m / 64 := ⟨_, rfl⟩
    rw [← hp] at HP HA hbit
    rw [← hi'] at HP HA HF hwd
    have HPP := Lib.hid hp
    clear hp hi' hj hwd
    go_enter Tryd.func104, Tryd.ntmps104
    go_wp2_with (first
      | (go_at_call 86; refine HR.out.mono ?_; rintro e w' ⟨rfl, rfl⟩)
      | (go_at_call 87; refine HP.out.mono ?_; rintro e w' ⟨rfl, nq, rfl⟩)
      | (go_at_call 112; refine (word_any _ _ _ _ _ (hx.drewN nq)).mono ?_; rintro e w' ⟨rfl, rfl⟩))
    go_ret
    refine ⟨ret_bool ?_, nq, rfl⟩
    show (bits BinOp.and IntKind.u64 ((wd xs i : Nat) : Int) (p : Int) != 0) = _
    rw [HA.out, HF.out, HPP.out, and_bit]
  · have hrng := inRange_any k w
    rw [decide_eq_false hk] at hrng
    have HR := Lib.hid hrng
    have HF : Hid (hasB xs k = false) := by
      show _ = _
      unfold hasB
      rw [decide_eq_false hk, Bool.false_and]
    clear hrng hk
    go_enter Tryd.func104, Tryd.ntmps104
    go_wp2_with (go_at_call 86; refine HR.out.mono ?_; rintro e w' ⟨rfl, rfl⟩)
    go_ret
    exact ⟨ret_bool HF.out.symm, 0, rfl⟩
theorem of_one (k : Int) (W : World) :
    Calls Tryd.prog 77 #[.slice (some ⟨W.heap.size, 0, none⟩) 1 1] (W.alloc (.cells #[.int .i64 k] 3)) fun e w' =>
      ∃ A' c', e = .returned (.slice A' (ofL [k]).length c') ∧ Words w' A' (ofL [k]) ∧ U64 (ofL [k]) ∧ (ofL [k]).length ≤ c' ∧ Below W.heap.size W w' := of_lit [k] _ rfl (by simp) W
section
variable {w0 w : World} {S : List (Option Addr × Nat × List Nat)} {A : Option Addr} {c : Nat} {xs : List Nat}
theorem Has_env (E : Env w0 w S) (ha : (A, c, xs) ∈ S) (k : Int) {b : Bool} (h : hasB xs k = b) :
    Calls Tryd.prog 104 #[.slice A xs.length c, .int .i64 k] w fun e w' => e = .returned (.bool b) ∧ Env w0 w' S := by
  obtain ⟨a1, a2, a3⟩ := E.2.2 _ ha
  subst h
  refine (Has_any A xs c k w a1 a2).mono ?_
  rintro e w' ⟨he, n, rfl⟩
  exact ⟨he, E.step (drewN_below w n)⟩
end
section
variable {xs : List Nat} {k : Int} {m : Nat}
theorem u64_of (l : List Int) : U64 (ofL l) := (ofTo_ok l _).1
theorem mem_with (hm : m < 4096) : mem (canon (zipW (· ||| ·) xs (ofL [k]))) m = (mem xs m || decide ((m : Int) = k)) := by
  rw [mem_or hm, mem_ofL _ hm]; simp
theorem mem_without (ux : U64 xs) (hm : m < 4096) : mem (canon (zipW andNot xs (ofL [k]))) m = (mem xs m && !decide ((m : Int) = k)) := by
  rw [mem_minus ux (u64_of _) hm, mem_ofL _ hm]; simp
theorem u64_with (ux : U64 xs) : U64 (canon (zipW (· ||| ·) xs (ofL [k]))) := u64_canon (u64_zip ux (u64_of _) _ fun _ _ h h' => Nat.or_lt_two_pow h h')
theorem u64_without (ux : U64 xs) : U64 (canon (zipW andNot xs (ofL [k]))) := u64_canon (u64_zip ux (u64_of _) _ fun _ _ h _ => Nat.lt_of_le_of_lt Nat.and_le_left h)
theorem has_with (o : Int) : hasB (canon (zipW (· ||| ·) xs (ofL [k]))) o = (hasB xs o || (decide (0 ≤ o ∧ o ≤ 4095) && decide (o = k))) := by
  unfold hasB
  by_cases h : 0 ≤ o ∧ o ≤ 4095
  · rw [mem_with (by omega), decide_eq_true h, Int.toNat_of_nonneg h.1]; simp
  · rw [decide_eq_false h]; rfl
theorem has_without (ux : U64 xs) (o : Int) : hasB (canon (zipW andNot xs (ofL [k]))) o = (hasB xs o && !decide (o = k)) := by
  unfold hasB
  by_cases h : 0 ≤ o ∧ o ≤ 4095
  · rw [mem_without ux (by omega), decide_eq_true h, Int.toNat_of_nonneg h.1]; simp
  · rw [decide_eq_false h]; rfl
theorem single1 (ux : U64 xs) : eqB (canon (zipW andNot (canon (zipW (· ||| ·) xs (ofL [k]))) (ofL [k]))) (canon (zipW andNot xs (ofL [k]))) = true := by
  rw [eqB_mem (u64_without (u64_with ux)) (u64_without ux)]
  intro m hm
  rw [mem_without (u64_with ux) hm, mem_with hm, mem_without ux hm]
  cases mem xs m <;> cases decide ((m : Int) = k) <;> rfl
theorem single2 (ux : U64 xs) : eqB (canon (zipW (· ||| ·) (canon (zipW andNot xs (ofL [k]))) (ofL [k]))) (canon (zipW (· ||| ·) xs (ofL [k]))) = true := by
  rw [eqB_mem (u64_with (u64_without ux)) (u64_with ux)]
  intro m hm
  rw [mem_with hm, mem_without ux hm, mem_with hm]
  cases mem xs m <;> cases decide ((m : Int) = k) <;> rfl
theorem single3 (ux : U64 xs) (hk : ¬ (0 ≤ k ∧ k ≤ 4095)) : eqB (canon (zipW (· ||| ·) xs (ofL [k]))) xs = true := by
  rw [eqB_mem (u64_with ux) ux]
  intro m hm
  rw [mem_with hm, decide_eq_false (by omega), Bool.or_false]
end
end Go.Proofs.YtkgeihambgbjdaaDoor
/- The order of sets: plain arithmetic. -/
namespace Go.Proofs.YtkgeihambgbjdaaDoor
open Go Go.RowKit
theorem cmpL_self : ∀ l : List Int, cmpL l l = 0
  | [] => rfl
  | a :: l => by rw [cmpL, if_neg (by omega), if_neg (by omega)]; exact cmpL_self l
theorem cmpL_neg : ∀ l m : List Int, cmpL m l = -cmpL l m
  | [], [] => rfl
  | [], _ :: _ => rfl
  | _ :: _, [] => rfl
  | a :: l, b :: m => by
    rw [cmpL, cmpL]
    rcases Int.lt_trichotomy a b with h | h | h
    · rw [if_neg (by omega), if_pos h, if_pos h]; rfl
    · rw [if_neg (by omega), if_neg (by omega), if_neg (by omega), if_neg (by omega)]; exact cmpL_neg l m
    · rw [if_pos h, if_neg (by omega), if_pos h]
theorem cmpL_range : ∀ l m : List Int, cmpL l m = -1 ∨ cmpL l m = 0 ∨ cmpL l m = 1
  | [], [] => .inr (.inl rfl)
  | [], _ :: _ => .inl rfl
  | _ :: _, [] => .inr (.inr rfl)
  | a :: l, b :: m => by
    rw [cmpL]
    split
    · exact .inl rfl
    · split
      · exact .inr (.inr rfl)
      · exact cmpL_range l m
theorem cmpL_zero : ∀ l m : List Int, cmpL l m = 0 → l = m
  | [], [], _ => rfl
  | [], _ :: _, h => by simp [cmpL] at h
  | _ :: _, [], h => by simp [cmpL] at h
  | a :: l, b :: m, h => by
    rw [cmpL] at h
    split at h
    · simp at h
    · split at h
      · simp at h
      · rw [cmpL_zero l m h, show a = b by omega]
theorem cmpL_trans : ∀ l m r : List Int, cmpL l m ≤ 0 → cmpL m r ≤ 0 → cmpL l r = min (cmpL l m) (cmpL m r)
  | [], [], r, _, h => by
    have := cmpL_range [] r
    have h0 : cmpL [] [] = 0 := rfl
    rw [h0]
    omega
  | [], _ :: _, [], _, h => by simp [cmpL] at h
  | [], b :: m, c :: r, _, h => by
    have := cmpL_range (b :: m) (c :: r)
    have h0 : cmpL [] (b :: m) = -1 := rfl
    have h1 : cmpL [] (c :: r) = -1 := rfl
    rw [h0, h1]
    omega
  | _ :: _, [], _, h, _ => by simp [cmpL] at h
  | _ :: _, _ :: _, [], _, h => by simp [cmpL] at h
  | a :: l, b :: m, c :: r, h, h' => by
    have ih := cmpL_trans l m r
    have r1 := cmpL_range l m
    have r2 := cmpL_range m r
    simp only [cmpL] at h h' ⊢
    by_cases h1 : a < b
    · rw [if_pos h1] at h ⊢
      by_cases h2 : b < c
      · rw [if_pos h2, if_pos (by omega)]; rfl
      · rw [if_neg h2] at h' ⊢
        by_cases h3 : c < b
        · rw [if_pos h3] at h'; omega
        · rw [if_neg h3, if_pos (by omega)]; omega
    · rw [if_neg h1] at h ⊢
      by_cases h2 : b < a
      · rw [if_pos h2] at h; omega
      · rw [if_neg h2] at h ⊢
        obtain rfl : a = b := by omega
        by_cases h3 : a < c
        · rw [if_pos h3, if_pos h3]; omega
        · rw [if_neg h3] at h' ⊢
          by_cases h4 : c < a
          · rw [if_pos h4] at h'; omega
          · rw [if_neg h4] at h' ⊢
            rw [if_neg h3, if_neg h4]
            exact ih h h'
theorem cast_inj : ∀ l m : List Nat, (l.map fun x : Nat => (x : Int)) = (m.map fun x : Nat => (x : Int)) → l = m
  | [], [], _ => rfl
  | [], _ :: _, h => by simp at h
  | _ :: _, [], h => by simp at h
  | a :: l, b :: m, h => by
    rw [List.map_cons, List.map_cons] at h
    injection h with h1 h2
    rw [cast_inj l m h2, Int.ofNat_inj.1 h1]
section
variable {xs ys zs : List Nat}
theorem cmpS_neg : cmpS ys xs = -cmpS xs ys := cmpL_neg _ _
theorem cmpS_range : cmpS xs ys = -1 ∨ cmpS xs ys = 0 ∨ cmpS xs ys = 1 := cmpL_range _ _
theorem elsI_inj (h : elsI xs = elsI ys) : els xs = els ys := cast_inj _ _ h
theorem cmpS_eq (ux : U64 xs) (uy : U64 ys) : eqB xs ys = decide (cmpS xs ys = 0) := by
  apply eqB_of ux uy
  rw [decide_eq_true_iff]
  constructor
  · intro h
    have e : elsI xs = elsI ys := by
      unfold elsI
      rw [els_congr h]
    unfold cmpS
    rw [e]
    exact cmpL_self _
  · intro h k hk
    have he := elsI_inj (cmpL_zero (elsI xs) (elsI ys) h)
    rw [Bool.eq_iff_iff]
    have h1 : k ∈ els xs ↔ k < 4096 ∧ mem xs k = true := els_mem
    have h2 : k ∈ els ys ↔ k < 4096 ∧ mem ys k = true := els_mem
    rw [he] at h1
    exact ⟨fun hx => (h2.1 (h1.2 ⟨hk, hx⟩)).2, fun hy => (h1.1 (h2.2 ⟨hk, hy⟩)).2⟩
theorem cmpS_trans (h : cmpS xs ys ≤ 0) (h' : cmpS ys zs ≤ 0) : cmpS xs zs = min (cmpS xs ys) (cmpS ys zs) := cmpL_trans _ _ _ h h'
/-- How the order goes by the smallest elements. -/
theorem cmpS_heads :
    (els xs = [] ∧ els ys = [] ∧ cmpS xs ys = 0) ∨ (els xs = [] ∧ (∃ b t, els ys = b :: t) ∧ cmpS xs ys = -1) ∨ ((∃ a s, els xs = a :: s) ∧ els ys = [] ∧ cmpS xs ys = 1) ∨
    (∃ a s b t, els xs = a :: s ∧ els ys = b :: t ∧ ((a < b ∧ cmpS xs ys = -1) ∨ (b < a ∧ cmpS xs ys = 1) ∨ a = b)) := by
  have hd : cmpS xs ys = cmpL (elsI xs) (elsI ys) := rfl
  unfold elsI at hd
  cases h1 : els xs with
  | nil =>
    rw [h1] at hd
    cases h2 : els ys with
    | nil => rw [h2] at hd; exact .inl ⟨rfl, rfl, hd⟩
    | cons b t => rw [h2] at hd; exact .inr (.inl ⟨rfl, ⟨b, t, rfl⟩, hd⟩)
  | cons a s =>
    rw [h1] at hd
    cases h2 : els ys with
    | nil => rw [h2] at hd; exact .inr (.inr (.inl ⟨⟨a, s, rfl⟩, rfl, hd⟩))
    | cons b t =>
      rw [h2] at hd
      refine .inr (.inr (.inr ⟨a, s, b, t, rfl, rfl, ?_⟩))
      rcases Nat.lt_trichotomy a b with h | h | h
      · left
        refine ⟨h, ?_⟩
        rw [hd, List.map_cons, List.map_cons, cmpL, if_pos (by omega)]
      · exact .inr (.inr h)
      · right; left
        refine ⟨h, ?_⟩
        rw [hd, List.map_cons, List.map_cons, cmpL, if_neg (by omega), if_pos (by omega)]
end
end Go.Proofs.YtkgeihambgbjdaaDoor
/- append(nil, s...): a copy of a slice of numbers, whatever slice. -/
namespace Go.Proofs.YtkgeihambgbjdaaDoor
open Go Go.RowKit
section
variable {P : Program}
theorem run_copy (w : World) (t ty e : TypeId) (i : TypeInfo) (z : Value) (bytes : Nat) (ht : P.underlying t = some (.slice e)) (hi : P.info? e = some i) (hz : i.zero = some z)
    (hsize : i.size = 1) (hby : i.bytes = bytes) (hzs : z.cells.size = 1) (A : Option Addr) (m c : Nat) (f : Nat → Value) (h : Vals w A m f) (h1 : ∀ j, j < m → (f j).oneCell' = true)
    (h63 : m ≤ maxLen) (hbytes : m * bytes ≤ 140737488355328) :
    ∃ v' w', (Builtin.append_ #[t, t] ty #[.slice none 0 0, .slice A m c]).run P w = .ok v' w' ∧ w'.ownsRow w.heap.size e 1 v' m ((List.range m).map f) ∧ w.grownBy w' none := by
  have hnil : w.ownsRow w.heap.size e 1 (.slice none 0 0) 0 [] := ⟨rfl, .inl ⟨rfl, rfl⟩⟩
  rcases A with _ | ad
  · have hm : m = 0 := by
      rcases Nat.eq_zero_or_pos m with h0 | h0
      · exact h0
      · obtain ⟨_, e, _⟩ := h 0 h0; cases e
    subst hm
    refine ⟨.slice none 0 0, w, ?_, hnil, World.grownBy.refl w none⟩
    simp [Builtin.append_, run_underlying ht, sizeOf, typeInfo, hi, Builtin.lenOf, Builtin.firstCells]
  · have hnews : ∀ j u, ((List.range m).map f)[j]? = some u → w.cell? (ad.add j) = some u := by
      intro j u hu
      by_cases hj : j < m
      · obtain ⟨ad', e, _, hc⟩ := h j hj
        cases e
        rw [hc, ← hu]
        simp [hj]
      · rw [List.getElem?_eq_none (by simp; omega)] at hu
        cases hu
    obtain ⟨v', w', hr, h2, h3, _, _⟩ := run_append_own_at (P := P) w w.heap.size t ty e i z 1 bytes ht hi hz hsize hby hzs (by decide) (.slice none 0 0) 0 [] hnil ad m c ((List.range m).map f) (by simp) hnews
      (by intro u hu; obtain ⟨j, hj, rfl⟩ := List.mem_map.1 hu; exact h1 j (List.mem_range.1 hj)) (by omega) (by rw [Nat.zero_add]; exact hbytes) (Nat.le_refl _)
    refine ⟨v', w', hr, ?_, h3⟩
    simpa using h2
theorem wpList_copy {w : World} {ops : Array Oper} {rest : List Oper} {o : Oper} {a : Act} {Q : Exit → Act → World → Prop} (hgd : o.guard = none) (s x : Operand) (t : TypeId)
    (ho : o.op = .call { callee := .builtin .append, args := #[s, x], argTypes := #[t, t] })
    (e : TypeId) (i : TypeInfo) (z : Value) (bytes : Nat) (ht : P.underlying t = some (.slice e)) (hi : P.info? e = some i) (hz : i.zero = some z)
    (hsize : i.size = 1) (hby : i.bytes = bytes) (hzs : z.cells.size = 1) (hs : a.eval s = .slice none 0 0) (A : Option Addr) (m c : Nat) (f : Nat → Value) (hx : a.eval x = .slice A m c) (hv : Vals w A m f)
    (h1 : ∀ j, j < m → (f j).oneCell' = true) (h63 : m ≤ maxLen) (hbytes : m * bytes ≤ 140737488355328)
    (h : ∀ A' c' w', w'.ownsRow w.heap.size e 1 (.slice A' m c') m ((List.range m).map f) → m ≤ c' → Below w.heap.size w w' → wpList P ops Q rest (a.put o.dst (.slice A' m c')) w') : wpList P ops Q (o :: rest) a w := by
  refine wpList_plain hgd fun K hK => ?_
  obtain ⟨v', w', hr, h2, h3⟩ := run_copy (P := P) w t o.type e i z bytes ht hi hz hsize hby hzs A m c f hv h1 h63 hbytes
  obtain ⟨A', c', rfl, hc⟩ := own_form h2
  unfold Oper.wp execOp
  simp only [ho, resolve, invoke, builtin, Sem.run_bind, Sem.run_pure, Result.andThen_ok, List.map_toArray, List.map_cons, List.map_nil, hs, hx, hr]
  exact hK _ _ (h A' c' w' h2 hc ((Below.refl _ _).grown h3 (Nat.le_refl _) (by simp)))
end
end Go.Proofs.YtkgeihambgbjdaaDoor
/- Lists of elements: what the law BitsetLists needs. Plain arithmetic. -/
namespace Go.Proofs.YtkgeihambgbjdaaDoor
open Go Go.RowKit
/-- A list of words without a zero word at its end. -/
def Tight (ys : List Nat) : Prop := ys.length ≤ 64 ∧ (0 < ys.length → wd ys (ys.length - 1) ≠ 0)
theorem Tight.ulen {ys : List Nat} (h : Tight ys) : Go.Proofs.YtkgeihambgbjdaaDoor.ulen ys = ys.length := by
  unfold Go.Proofs.YtkgeihambgbjdaaDoor.ulen
  rw [Nat.min_eq_left h.1]
  cases hn : ys.length with
  | zero => rfl
  | succ n =>
    have := h.2 (by omega)
    rw [hn, Nat.add_sub_cancel] at this
    unfold trimLen
    rw [if_neg this]
theorem Tight.canon {ys : List Nat} (h : Tight ys) : Go.Proofs.YtkgeihambgbjdaaDoor.canon ys = ys := by
  unfold Go.Proofs.YtkgeihambgbjdaaDoor.canon
  rw [h.ulen, List.take_length]
theorem or_ne {a b : Nat} (h : a ≠ 0 ∨ b ≠ 0) : a ||| b ≠ 0 := by
  intro e
  rw [Nat.or_eq_zero_iff] at e
  omega
theorem wd_setBit (xs : List Nat) (k i : Nat) : wd (setBit xs k) i = if i = k / 64 then wd xs i ||| 2 ^ (k % 64) else wd xs i := by
  unfold setBit
  have hl := grow_len xs (k / 64 + 1)
  have h1 : wd ((grow xs (k / 64 + 1)).set (k / 64) (wd xs (k / 64) ||| 2 ^ (k % 64))) i = if i = k / 64 then wd xs (k / 64) ||| 2 ^ (k % 64) else wd (grow xs (k / 64 + 1)) i := by
    unfold wd
    simp only [List.getD_eq_getElem?_getD, List.getElem?_set]
    by_cases h : k / 64 = i
    · have : i < (grow xs (i + 1)).length := by rw [grow_len]; omega
      simp [h, this]
    · have h' : ¬ i = k / 64 := fun e => h e.symm
      simp [h, h']
  rw [h1, wd_grow]
  split
  · rename_i h; rw [h]
  · rfl
theorem Tight.setBit {ys : List Nat} (h : Tight ys) {k : Nat} (hk : k < 4096) : Tight (Go.Proofs.YtkgeihambgbjdaaDoor.setBit ys k) := by
  have hl := setBit_len ys k
  refine ⟨by rw [hl]; have := h.1; omega, fun _ => ?_⟩
  rw [hl, wd_setBit]
  have hp : (2 : Nat) ^ (k % 64) ≠ 0 := Nat.ne_of_gt (Nat.two_pow_pos _)
  split
  · exact or_ne (.inr hp)
  · rename_i hne
    have hgt : k / 64 + 1 < ys.length := by omega
    rw [show max ys.length (k / 64 + 1) = ys.length by omega]
    exact h.2 (by omega)
theorem ofTo_tight (l : List Int) : ∀ n, Tight (ofTo l n)
  | 0 => ⟨by simp [ofTo], fun h => by simp [ofTo] at h⟩
  | n + 1 => by
    show Tight (addI (ofTo l n) (nd l n))
    unfold addI
    split
    · exact (ofTo_tight l n).setBit (by omega)
    · exact ofTo_tight l n
theorem ofL_canon (l : List Int) : canon (ofL l) = ofL l := (ofTo_tight l _).canon
theorem cast_asc (L : List Nat) (hp : L.Pairwise (· < ·)) (i : Nat) (h : i + 1 < L.length) : nd (L.map fun x : Nat => (x : Int)) i < nd (L.map fun x : Nat => (x : Int)) (i + 1) := by
  have := List.pairwise_iff_getElem.1 hp i (i + 1) (by omega) h (by omega)
  have hi : i < L.length := by omega
  simp [nd, h, hi]
  omega
theorem els_sorted {xs : List Nat} : (els xs).Pairwise (· < ·) := by
  unfold els elsTo
  exact List.Pairwise.filter _ List.pairwise_lt_range
section
variable {xs : List Nat}
theorem elsI_mem {k : Int} : k ∈ elsI xs ↔ hasB xs k = true := by
  unfold elsI hasB
  rw [List.mem_map]
  constructor
  · rintro ⟨m, hm, rfl⟩
    obtain ⟨h1, h2⟩ := els_mem.1 hm
    rw [Int.toNat_natCast, h2, decide_eq_true (by omega)]; rfl
  · intro h
    rw [Bool.and_eq_true, decide_eq_true_iff] at h
    exact ⟨k.toNat, els_mem.2 ⟨by omega, h.2⟩, by omega⟩
theorem ofL_eq (ux : U64 xs) : eqB (ofL (elsI xs)) xs = true := by
  rw [eqB_mem (u64_of _) ux]
  intro k hk
  rw [mem_ofL _ hk, Bool.eq_iff_iff, decide_eq_true_iff, elsI_mem]
  unfold hasB
  rw [decide_eq_true (by omega), Bool.true_and, Int.toNat_natCast]
theorem ofL_els (ux : U64 xs) : ofL (elsI xs) = canon xs := by
  rw [← ofL_canon]
  exact canon_ext ((eqB_iff _ _).1 (ofL_eq ux))
theorem nd_mem {l : List Int} {i : Nat} (h : i < l.length) : nd l i ∈ l := by
  unfold nd
  rw [List.getD_eq_getElem?_getD, List.getElem?_eq_getElem h]
  exact List.getElem_mem h
theorem els_asc {i : Nat} (h : i + 1 < (els xs).length) : nd (elsI xs) i < nd (elsI xs) (i + 1) := cast_asc (els xs) els_sorted i h
theorem take_found {l : List Int} {k : Int} {i : Nat} (h : i < l.length) : decide (k ∈ l.take (i + 1)) = (decide (k ∈ l.take i) || decide (nd l i = k)) := by
  have e : l.take (i + 1) = l.take i ++ [nd l i] := by
    rw [List.take_succ_eq_append_getElem h]
    simp [nd, h]
  rw [e, Bool.eq_iff_iff]
  simp only [Bool.or_eq_true, decide_eq_true_iff, List.mem_append, List.mem_singleton]
  constructor
  · rintro (h | h)
    · exact .inl h
    · exact .inr h.symm
  · rintro (h | h)
    · exact .inl h
    · exact .inr h.symm
end
end Go.Proofs.YtkgeihambgbjdaaDoor
