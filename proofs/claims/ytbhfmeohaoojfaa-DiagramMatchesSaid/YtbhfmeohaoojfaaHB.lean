/- Slices of tables; the reference's find and fixed. -/
import Derived.Test.YtbhfmeohaoojfaaHA
import Derived.Laws.BitsAllLaws
namespace Go.Proofs.Ytbhfmeohaoojfaa.Dg
open Go Go.RowKit Go.Proofs.Ytbhfmeohaoojfaa.Ap
set_option maxRecDepth 100000
/-- The j-th table. -/
def tb (L : List (List Int)) (j : Nat) : List Int := L.getD j []
/-- The slice that begins at A holds the tables L. -/
def Tabs (X : World) (A : Option Addr) (L : List (List Int)) : Prop :=
  ∀ j, j < L.length → ∃ ad p c, A = some ad ∧ ad.block < X.heap.size ∧ X.cell? (ad.add j) = some (.slice p (tb L j).length c) ∧ Ints X p (tb L j)
theorem Tabs.below {X Y : World} {A : Option Addr} {L : List (List Int)} (h : Tabs X A L) (hb : Below X.heap.size X Y) : Tabs Y A L := fun j hj => by
  obtain ⟨ad, p, c, e, h1, h2, h3⟩ := h j hj
  exact ⟨ad, p, c, e, Nat.lt_of_lt_of_le h1 hb.size, (hb.cell (by rw [addr_block]; exact h1)).trans h2, Vals.below h3 hb⟩
theorem tb_mem {L : List (List Int)} {j : Nat} (h : j < L.length) : tb L j ∈ L := by
  unfold tb
  rw [List.getD_eq_getElem?_getD, List.getElem?_eq_getElem h]
  exact List.getElem_mem h
theorem mem_tb {L : List (List Int)} {t : List Int} (h : t ∈ L) : ∃ j, j < L.length ∧ tb L j = t := by
  obtain ⟨j, hj, rfl⟩ := List.mem_iff_getElem.1 h
  exact ⟨j, hj, by unfold tb; rw [List.getD_eq_getElem?_getD, List.getElem?_eq_getElem hj]; rfl⟩
set_option maxHeartbeats 1000000 in
theorem find_any (A B : Option Addr) (L : List (List Int)) (t : List Int) (c d : Nat) (w : World) (hx : Tabs w A L) (hy : Ints w B t) (hl : L.length ≤ 1000000) (hs : ∀ u ∈ L, u.length ≤ 1000000) :
    Calls Try.prog 65 #[.slice A L.length c, .slice B t.length d] w fun e w' =>
      ∃ r : Int, e = .returned (.int .i64 r) ∧ ((0 ≤ r ∧ r < L.length ∧ tb L r.toNat = t) ∨ (r = -1 ∧ t ∉ L)) ∧ Below w.heap.size w w' := by
  have HE : Hid (∀ j, j < L.length → ∀ X p c', Ints X p (tb L j) → Ints X B t → Calls Try.prog 17 #[.slice p (tb L j).length c', .slice B t.length d] X fun e w' => e = .returned (.bool (decide (tb L j = t))) ∧ Below X.heap.size X w') := fun j hj X p c' h1 h2 =>
    EqualInts_any p B (tb L j) t c' d X h1 h2 (by have := hs _ (tb_mem hj); unfold maxLen; omega)
  clear hs
  go_enter Try.func65, Try.ntmps65
  go_wp2
  go_loopw [5] (fun i wr => ∃ k : Nat, k ≤ L.length ∧ i = .int .i64 k ∧ Hid (∀ i, i < k → tb L i ≠ t) ∧ Below w.heap.size w wr) (fun i _ => L.length - (intOf i).toNat)
  case atStart => exact ⟨0, by omega, rfl, fun i hi => absurd hi (by omega), Below.refl _ _⟩
  case round =>
    obtain ⟨k, hk, rfl, H, hb⟩ := hrel
    by_cases hlt : k < L.length
    · obtain ⟨ad, p, c', rfl, hbk, hcell, hi⟩ := (hx.below hb) k hlt
      have hyr := Vals.below hy hb
      have HEk := Lib.hid (HE.out k hlt wr p c' hi hyr)
      by_cases h : tb L k = t
      · have HO : Hid (0 ≤ (k : Int) ∧ (k : Int) < L.length ∧ tb L (k : Int).toNat = t) := ⟨by omega, by omega, by simpa using h⟩
        rw [decide_eq_true h] at HEk
        clear h H
        go_wp2_with (go_at_call 17; ((with_reducible refine HEk.out.mono ?_); rintro e w2 ⟨rfl, hb2⟩))
        go_ret
        exact ⟨_, rfl, .inl HO.out, stepB hb hb2⟩
      · have H' : Hid (∀ i, i < k + 1 → tb L i ≠ t) := fun i hi => by
          rcases Nat.lt_or_eq_of_le (Nat.le_of_lt_succ hi) with h1 | rfl
          · exact H.out i h1
          · exact h
        rw [decide_eq_false h] at HEk
        clear h H
        go_wp2_with (go_at_call 17; ((with_reducible refine HEk.out.mono ?_); rintro e w2 ⟨rfl, hb2⟩))
        go_roundw
        case rel => exact ⟨k + 1, by omega, by go_num, H', stepB hb hb2⟩
        case measure => simp [intOf]; omega
    · obtain rfl : k = L.length := by omega
      have HN : Hid (t ∉ L) := fun hm => by
        obtain ⟨j, hj, e⟩ := mem_tb hm
        exact H.out j hj e
      clear H
      go_wp2
      go_ret
      exact ⟨_, rfl, .inr ⟨rfl, HN.out⟩, hb⟩
/-- The table with the variables below k fixed as in x. -/
def fixL (t : List Int) (k x m : Nat) : List Int := (List.range m).map fun y => nd t (y / 2 ^ k * 2 ^ k + x % 2 ^ k)
theorem fixL_succ (t : List Int) (k x m : Nat) : fixL t k x (m + 1) = fixL t k x m ++ [nd t (m / 2 ^ k * 2 ^ k + x % 2 ^ k)] := by
  unfold fixL
  rw [List.range_succ, List.map_append]; rfl
theorem fixL_len (t : List Int) (k x m : Nat) : (fixL t k x m).length = m := by simp [fixL]
theorem fix_bits : ((List.range 7).all fun k => (List.range 64).all fun y => (List.range 64).all fun x => bits .or .i64 (bits .andNot .i64 (y : Int) ((2 ^ k : Nat) - 1 : Int)) (bits .and .i64 (x : Int) ((2 ^ k : Nat) - 1 : Int)) == ((y / 2 ^ k * 2 ^ k + x % 2 ^ k : Nat) : Int)) = true := by decide +kernel
theorem fix_bit {k y x : Nat} (hk : k ≤ 6) (hy : y < 64) (hx : x < 64) : bits .or .i64 (bits .andNot .i64 (y : Int) ((2 ^ k : Nat) - 1 : Int)) (bits .and .i64 (x : Int) ((2 ^ k : Nat) - 1 : Int)) = ((y / 2 ^ k * 2 ^ k + x % 2 ^ k : Nat) : Int) := by
  have h1 := List.all_eq_true.1 fix_bits k (List.mem_range.2 (by omega))
  have h2 := List.all_eq_true.1 h1 y (List.mem_range.2 hy)
  have h3 := List.all_eq_true.1 h2 x (List.mem_range.2 hx)
  exact beq_iff_eq.1 h3
theorem fix_lt {v k y x : Nat} (hk : k ≤ v) (hy : y < 2 ^ v) : y / 2 ^ k * 2 ^ k + x % 2 ^ k < 2 ^ v := by
  have hp : 0 < 2 ^ k := Nat.pow_pos (by decide)
  have h1 := Nat.mod_lt x hp
  obtain ⟨d, rfl⟩ : ∃ d, v = k + d := ⟨v - k, by omega⟩
  rw [Nat.pow_add] at hy ⊢
  have h2 : y / 2 ^ k < 2 ^ d := Nat.div_lt_of_lt_mul hy
  have h3 : (y / 2 ^ k + 1) * 2 ^ k ≤ 2 ^ d * 2 ^ k := Nat.mul_le_mul_right _ h2
  rw [Nat.add_mul, Nat.one_mul, Nat.mul_comm (2 ^ d)] at h3
  omega
end Go.Proofs.Ytbhfmeohaoojfaa.Dg
