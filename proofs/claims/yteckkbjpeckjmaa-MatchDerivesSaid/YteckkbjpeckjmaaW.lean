/- Words in memory: a slice value that reads as a list of 64-bit words or of ints. Plain lemmas over the model's worlds; nothing of the program. -/
import Derived.WalkKit
import Derived.WalkSpells
import Derived.Lib.Hide
import Derived.Deep.QuietTactic
import Derived.BigQuiet
import Derived.Deep.DeepFit
import Derived.Deep.DeepMust
import Derived.Laws.OwnMore
namespace Go.Proofs.Yteckkbjpeckjmaa
open Go Go.RowKit

theorem addr_block (a : Addr) (n : Nat) : (a.add n).block = a.block := by unfold Addr.add; split <;> rfl

/-- The slice that begins at A holds n values, number j being f j. -/
def Vals (w : World) (A : Option Addr) (n : Nat) (f : Nat → Value) : Prop :=
  ∀ j, j < n → ∃ ad, A = some ad ∧ ad.block < w.heap.size ∧ w.cell? (ad.add j) = some (f j)
namespace Vals
variable {w w' : World} {A : Option Addr} {n : Nat} {f : Nat → Value}
theorem nil_ : Vals w A 0 f := fun j h => absurd h (by omega)
theorem keep (h : Vals w A n f) (hs : w.heap.size ≤ w'.heap.size) (hk : ∀ p : Addr, p.block < w.heap.size → w'.cell? p = w.cell? p) : Vals w' A n f := by
  intro j hj
  obtain ⟨ad, e, hb, hc⟩ := h j hj
  exact ⟨ad, e, by omega, (hk _ (by rw [addr_block]; exact hb)).trans hc⟩
theorem below (h : Vals w A n f) (hb : Below w.heap.size w w') : Vals w' A n f := h.keep hb.size fun _ hp => hb.cell hp
theorem drewN (h : Vals w A n f) (k : Nat) : Vals (w.drewN k) A n f := h
theorem drew (h : Vals w A n f) : Vals w.drew A n f := h
theorem take (h : Vals w A n f) {m : Nat} (hm : m ≤ n) : Vals w A m f := fun j hj => h j (by omega)
theorem at_ (h : Vals w A n f) {j : Nat} (hj : j < n) : ∃ ad, A = some ad ∧ w.cell? (ad.add j) = some (f j) :=
  let ⟨ad, e, _, hc⟩ := h j hj
  ⟨ad, e, hc⟩
theorem of_own {base : Nat} {e : TypeId} {c : Nat} {xs : List Value} (h : w.ownsRow base e 1 (.slice A n c) n xs) (hf : ∀ j, j < n → xs[j]? = some (f j)) : Vals w A n f := by
  intro j hj
  rcases h.2 with ⟨_, hn⟩ | ⟨g, cap, cur, hv, _, hh, _⟩
  · omega
  · injection hv with hA
    subst hA
    refine ⟨_, rfl, ?_, h.cells (g := g) rfl j _ (hf j hj)⟩
    exact lt_of_block hh
end Vals

theorem ret_of {k : IntKind} {a b : Int} (h : a = b) : Ending.returned (.int k a) = .returned (.int k b) := by rw [h]
theorem ret2_of {k l : IntKind} {a b c d : Int} (h : a = b) (h' : c = d) : Ending.returned (.tuple #[.int k a, .int l c]) = .returned (.tuple #[.int k b, .int l d]) := by rw [h, h']
theorem ret_bool {a b : Bool} (h : a = b) : Ending.returned (.bool a) = .returned (.bool b) := by rw [h]
theorem ret_slice {A : Option Addr} {a b c : Nat} (h : a = b) : Ending.returned (.slice A a c) = .returned (.slice A b c) := by rw [h]

theorem cast_beq (x y : Nat) : ((x : Int) == (y : Int)) = (x == y) := by
  rw [Bool.eq_iff_iff, beq_iff_eq, beq_iff_eq]; exact Int.ofNat_inj
/-- Word number j; 0 where there is none. -/
def wd (xs : List Nat) (j : Nat) : Nat := xs.getD j 0
/-- Number j of a list of ints; 0 where there is none. -/
def nd (l : List Int) (j : Nat) : Int := l.getD j 0
/-- Each number is a word of 64 bits. -/
def U64 (xs : List Nat) : Prop := ∀ x ∈ xs, x < 2 ^ 64
theorem U64.at_ {xs : List Nat} (h : U64 xs) (j : Nat) : wd xs j < 2 ^ 64 := by
  unfold wd
  rw [List.getD_eq_getElem?_getD]
  rcases Nat.lt_or_ge j xs.length with hj | hj
  · rw [List.getElem?_eq_getElem hj]; exact h _ (List.getElem_mem hj)
  · rw [List.getElem?_eq_none hj]; decide
def Words (w : World) (A : Option Addr) (xs : List Nat) : Prop := Vals w A xs.length fun j => .int .u64 (wd xs j : Nat)
def Ints (w : World) (A : Option Addr) (l : List Int) : Prop := Vals w A l.length fun j => .int .i64 (nd l j)
theorem Words.below {w w' : World} {A : Option Addr} {xs : List Nat} (h : Words w A xs) (hb : Below w.heap.size w w') : Words w' A xs := Vals.below h hb
theorem Ints.below {w w' : World} {A : Option Addr} {l : List Int} (h : Ints w A l) (hb : Below w.heap.size w w') : Ints w' A l := Vals.below h hb
theorem stepB {w a b : World} (h : Below w.heap.size w a) (k : Below a.heap.size a b) : Below w.heap.size w b := h.trans (k.mono h.size)
theorem wd_out {xs : List Nat} {j : Nat} (h : xs.length ≤ j) : wd xs j = 0 := by
  unfold wd; rw [List.getD_eq_getElem?_getD, List.getElem?_eq_none h]; rfl

/-- The length of the first n words without the zero words at the end. -/
def trimLen (xs : List Nat) : Nat → Nat
  | 0 => 0
  | n + 1 => if wd xs n = 0 then trimLen xs n else n + 1
/-- The number of words of the canonical form. -/
def ulen (xs : List Nat) : Nat := trimLen xs (min xs.length 64)
theorem trimLen_le (xs : List Nat) : ∀ n, trimLen xs n ≤ n
  | 0 => Nat.le_refl _
  | n + 1 => by
    unfold trimLen
    split
    · exact Nat.le_succ_of_le (trimLen_le xs n)
    · exact Nat.le_refl _
theorem ulen_le (xs : List Nat) : ulen xs ≤ xs.length := Nat.le_trans (trimLen_le _ _) (Nat.min_le_left _ _)
theorem ulen_le64 (xs : List Nat) : ulen xs ≤ 64 := Nat.le_trans (trimLen_le _ _) (Nat.min_le_right _ _)

/-- Whether p holds at every number below n. -/
def allB (p : Nat → Bool) : Nat → Bool
  | 0 => true
  | n + 1 => allB p n && p n
theorem allB_iff (p : Nat → Bool) : ∀ n, allB p n = true ↔ ∀ i, i < n → p i = true
  | 0 => by simp [allB]
  | n + 1 => by
    simp only [allB, Bool.and_eq_true, allB_iff p n]
    constructor
    · rintro ⟨h, h'⟩ i hi
      rcases Nat.lt_or_eq_of_le (Nat.le_of_lt_succ hi) with h1 | rfl
      · exact h i h1
      · exact h'
    · exact fun h => ⟨fun i hi => h i (by omega), h n (by omega)⟩
theorem allB_false {p : Nat → Bool} {n i : Nat} (hi : i < n) (h : p i = false) : allB p n = false := by
  cases h' : allB p n with
  | false => rfl
  | true => rw [(allB_iff p n).1 h' i hi] at h; cases h

theorem own_take {w : World} {base : Nat} {e : TypeId} {A : Option Addr} {n m c : Nat} {xs : List Value} (h : w.ownsRow base e 1 (.slice A n c) n xs) (hm : m ≤ n) :
    w.ownsRow base e 1 (.slice A m c) m (xs.take m) := by
  refine ⟨by rw [List.length_take, h.1]; omega, ?_⟩
  rcases h.2 with ⟨hv, hn⟩ | ⟨g, cap, cur, hv, h1, h2, h3, h4, h5, h6⟩
  · injection hv with a b d
    subst a d
    exact .inl ⟨by rw [show m = 0 by omega], by omega⟩
  · injection hv with a b d
    subst a d
    refine .inr ⟨g, _, cur, rfl, h1, h2, by omega, h4, h5, ?_⟩
    rw [← h6, List.take_take]
    congr 1
    omega
end Go.Proofs.Yteckkbjpeckjmaa
