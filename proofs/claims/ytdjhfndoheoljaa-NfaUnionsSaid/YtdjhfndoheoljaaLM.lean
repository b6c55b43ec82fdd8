/- Lists of elements: what the law BitsetLists needs. Plain arithmetic. -/
import Derived.Test.YtdjhfndoheoljaaN
import Derived.Test.YtdjhfndoheoljaaO
namespace Go.Proofs.Ytdjhfndoheoljaa
open Go Go.RowKit
/-- A list of words without a zero word at its end. -/
def Tight (ys : List Nat) : Prop := ys.length ≤ 64 ∧ (0 < ys.length → wd ys (ys.length - 1) ≠ 0)
theorem Tight.ulen {ys : List Nat} (h : Tight ys) : Go.Proofs.Ytdjhfndoheoljaa.ulen ys = ys.length := by
  unfold Go.Proofs.Ytdjhfndoheoljaa.ulen
  rw [Nat.min_eq_left h.1]
  cases hn : ys.length with
  | zero => rfl
  | succ n =>
    have := h.2 (by omega)
    rw [hn, Nat.add_sub_cancel] at this
    unfold trimLen
    rw [if_neg this]
theorem Tight.canon {ys : List Nat} (h : Tight ys) : Go.Proofs.Ytdjhfndoheoljaa.canon ys = ys := by
  unfold Go.Proofs.Ytdjhfndoheoljaa.canon
  rw [h.ulen, List.take_length]
theorem or_ne {a b : Nat} (h : a ≠ 0 ∨ b ≠ 0) : a ||| b ≠ 0 := by
  intro e
  rw [Nat.or_eq_zero_iff] at e
  omega
theorem wd_setBit (xs : List Nat) (k i : Nat) : wd (setBit xs k) i = if i = k / 64 then wd xs i ||| 2 ^ (k % 64) else wd xs i := by
  unfold setBit
  have hl := grow_len xs (k / 64 + 1)
  have h1 : wd ((grow xs (k / 64 + 1)).set (k / 64) (wd xs (k / 64) ||| 2 ^ (k % 64))) i = if i = k / 64 then wd xs (k / 64) ||| 2 ^ (k % 64) else wd (grow xs (k / 64 + 1)) i := by
    unfold wd
    simp only [List.getD_eq_getElem?_getD, List.getElem?_set]
    by_cases h : k / 64 = i
    · have : i < (grow xs (i + 1)).length := by rw [grow_len]; omega
      simp [h, this]
    · have h' : ¬ i = k / 64 := fun e => h e.symm
      simp [h, h']
  rw [h1, wd_grow]
  split
  · rename_i h; rw [h]
  · rfl
theorem Tight.setBit {ys : List Nat} (h : Tight ys) {k : Nat} (hk : k < 4096) : Tight (Go.Proofs.Ytdjhfndoheoljaa.setBit ys k) := by
  have hl := setBit_len ys k
  refine ⟨by rw [hl]; have := h.1; omega, fun _ => ?_⟩
  rw [hl, wd_setBit]
  have hp : (2 : Nat) ^ (k % 64) ≠ 0 := Nat.ne_of_gt (Nat.two_pow_pos _)
  split
  · exact or_ne (.inr hp)
  · rename_i hne
    have hgt : k / 64 + 1 < ys.length := by omega
    rw [show max ys.length (k / 64 + 1) = ys.length by omega]
    exact h.2 (by omega)
theorem ofTo_tight (l : List Int) : ∀ n, Tight (ofTo l n)
  | 0 => ⟨by simp [ofTo], fun h => by simp [ofTo] at h⟩
  | n + 1 => by
    show Tight (addI (ofTo l n) (nd l n))
    unfold addI
    split
    · exact (ofTo_tight l n).setBit (by omega)
    · exact ofTo_tight l n
theorem ofL_canon (l : List Int) : canon (ofL l) = ofL l := (ofTo_tight l _).canon
theorem cast_asc (L : List Nat) (hp : L.Pairwise (· < ·)) (i : Nat) (h : i + 1 < L.length) : nd (L.map fun x : Nat => (x : Int)) i < nd (L.map fun x : Nat => (x : Int)) (i + 1) := by
  have := List.pairwise_iff_getElem.1 hp i (i + 1) (by omega) h (by omega)
  have hi : i < L.length := by omega
  simp [nd, h, hi]
  omega
theorem els_sorted {xs : List Nat} : (els xs).Pairwise (· < ·) := by
  unfold els elsTo
  exact List.Pairwise.filter _ List.pairwise_lt_range
section
variable {xs : List Nat}
theorem elsI_mem {k : Int} : k ∈ elsI xs ↔ hasB xs k = true := by
  unfold elsI hasB
  rw [List.mem_map]
  constructor
  · rintro ⟨m, hm, rfl⟩
    obtain ⟨h1, h2⟩ := els_mem.1 hm
    rw [Int.toNat_natCast, h2, decide_eq_true (by omega)]; rfl
  · intro h
    rw [Bool.and_eq_true, decide_eq_true_iff] at h
    exact ⟨k.toNat, els_mem.2 ⟨by omega, h.2⟩, by omega⟩
theorem ofL_eq (ux : U64 xs) : eqB (ofL (elsI xs)) xs = true := by
  rw [eqB_mem (u64_of _) ux]
  intro k hk
  rw [mem_ofL _ hk, Bool.eq_iff_iff, decide_eq_true_iff, elsI_mem]
  unfold hasB
  rw [decide_eq_true (by omega), Bool.true_and, Int.toNat_natCast]
theorem ofL_els (ux : U64 xs) : ofL (elsI xs) = canon xs := by
  rw [← ofL_canon]
  exact canon_ext ((eqB_iff _ _).1 (ofL_eq ux))
theorem nd_mem {l : List Int} {i : Nat} (h : i < l.length) : nd l i ∈ l := by
  unfold nd
  rw [List.getD_eq_getElem?_getD, List.getElem?_eq_getElem h]
  exact List.getElem_mem h
theorem els_asc {i : Nat} (h : i + 1 < (els xs).length) : nd (elsI xs) i < nd (elsI xs) (i + 1) := cast_asc (els xs) els_sorted i h
theorem take_found {l : List Int} {k : Int} {i : Nat} (h : i < l.length) : decide (k ∈ l.take (i + 1)) = (decide (k ∈ l.take i) || decide (nd l i = k)) := by
  have e : l.take (i + 1) = l.take i ++ [nd l i] := by
    rw [List.take_succ_eq_append_getElem h]
    simp [nd, h]
  rw [e, Bool.eq_iff_iff]
  simp only [Bool.or_eq_true, decide_eq_true_iff, List.mem_append, List.mem_singleton]
  constructor
  · rintro (h | h)
    · exact .inl h
    · exact .inr h.symm
  · rintro (h | h)
    · exact .inl h
    · exact .inr h.symm
end
end Go.Proofs.Ytdjhfndoheoljaa
