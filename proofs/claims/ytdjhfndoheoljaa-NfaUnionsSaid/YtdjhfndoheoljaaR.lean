/- Membership in combined sets. Plain arithmetic. -/
import Derived.Test.YtdjhfndoheoljaaQ
namespace Go.Proofs.Ytdjhfndoheoljaa
open Go Go.RowKit
theorem u64_canon {xs : List Nat} (h : U64 xs) : U64 (canon xs) := fun x hx => h x (List.mem_of_mem_take hx)
theorem u64_zip {xs ys : List Nat} (ux : U64 xs) (uy : U64 ys) (p : Nat → Nat → Nat) (hp : ∀ x y, x < 2 ^ 64 → y < 2 ^ 64 → p x y < 2 ^ 64) : U64 (zipW p xs ys) := by
  intro x hx
  unfold zipW at hx
  obtain ⟨i, _, rfl⟩ := List.mem_map.1 hx
  exact hp _ _ (ux.at_ i) (uy.at_ i)
section
variable {xs ys : List Nat} {k : Nat}
theorem mem_or (hk : k < 4096) : mem (canon (zipW (· ||| ·) xs ys)) k = (mem xs k || mem ys k) := by
  unfold mem
  rw [wd_or _ _ _ (by omega), Nat.testBit_or]
theorem mem_and (hk : k < 4096) : mem (canon (zipW (· &&& ·) xs ys)) k = (mem xs k && mem ys k) := by
  unfold mem
  rw [wd_and _ _ _ (by omega), Nat.testBit_and]
theorem mem_minus (ux : U64 xs) (uy : U64 ys) (hk : k < 4096) : mem (canon (zipW andNot xs ys)) k = (mem xs k && !mem ys k) := by
  unfold mem
  rw [wd_minus _ _ _ (by omega), bit_andNot _ _ _ (ux.at_ _) (uy.at_ _)]
theorem eqB_mem (ux : U64 xs) (uy : U64 ys) : eqB xs ys = true ↔ ∀ k, k < 4096 → mem xs k = mem ys k := by
  rw [eqB_iff]
  constructor
  · intro h k hk
    unfold mem
    rw [h _ (by omega)]
  · intro h i hi
    apply bits_ext
    intro b
    by_cases hb : b < 64
    · have := h (64 * i + b) (by omega)
      rwa [mem_at _ _ _ hb, mem_at _ _ _ hb] at this
    · have hp : (2 : Nat) ^ 64 ≤ 2 ^ b := Nat.pow_le_pow_right (by decide) (by omega)
      rw [Nat.testBit_lt_two_pow (Nat.lt_of_lt_of_le (ux.at_ i) hp), Nat.testBit_lt_two_pow (Nat.lt_of_lt_of_le (uy.at_ i) hp)]
theorem eqB_of {b : Bool} (ux : U64 xs) (uy : U64 ys) (h : (∀ k, k < 4096 → mem xs k = mem ys k) ↔ b = true) : eqB xs ys = b := by
  rw [Bool.eq_iff_iff, eqB_mem ux uy, h]
theorem els_congr (h : ∀ k, k < 4096 → mem xs k = mem ys k) : els xs = els ys := by
  unfold els elsTo
  apply List.filter_congr
  intro k hk
  exact h k (List.mem_range.1 hk)
theorem els_mem : k ∈ els xs ↔ k < 4096 ∧ mem xs k = true := by
  unfold els elsTo
  rw [List.mem_filter, List.mem_range]
theorem subB_mem (ux : U64 xs) (uy : U64 ys) : subB xs ys = true ↔ ∀ k, k < 4096 → mem xs k = true → mem ys k = true := by
  rw [subB_iff]
  constructor
  · intro h k hk hm
    have := h (k / 64) (by omega)
    have hb := bit_andNot (wd xs (k / 64)) (wd ys (k / 64)) (k % 64) (ux.at_ _) (uy.at_ _)
    rw [this, Nat.zero_testBit] at hb
    unfold mem at hm ⊢
    rw [hm] at hb
    simpa using hb.symm
  · intro h i hi
    apply bits_ext
    intro b
    rw [bit_andNot _ _ _ (ux.at_ _) (uy.at_ _), Nat.zero_testBit]
    by_cases hb : b < 64
    · have := h (64 * i + b) (by omega)
      rw [mem_at _ _ _ hb, mem_at _ _ _ hb] at this
      cases hx : (wd xs i).testBit b
      · rfl
      · rw [this hx]; rfl
    · have hp : (2 : Nat) ^ 64 ≤ 2 ^ b := Nat.pow_le_pow_right (by decide) (by omega)
      rw [Nat.testBit_lt_two_pow (Nat.lt_of_lt_of_le (ux.at_ i) hp)]
      rfl
theorem meetB_mem (ux : U64 xs) : meetB xs ys = false ↔ ∀ k, k < 4096 → (mem xs k && mem ys k) = false := by
  rw [meetB_iff]
  constructor
  · intro h k hk
    unfold mem
    rw [← Nat.testBit_and, h _ (by omega), Nat.zero_testBit]
  · intro h i hi
    apply bits_ext
    intro b
    rw [Nat.zero_testBit, Nat.testBit_and]
    by_cases hb : b < 64
    · have := h (64 * i + b) (by omega)
      rwa [mem_at _ _ _ hb, mem_at _ _ _ hb] at this
    · have hp : (2 : Nat) ^ 64 ≤ 2 ^ b := Nat.pow_le_pow_right (by decide) (by omega)
      rw [Nat.testBit_lt_two_pow (Nat.lt_of_lt_of_le (ux.at_ i) hp)]
      rfl
theorem mem_setBit (j : Nat) : mem (setBit xs j) k = (mem xs k || decide (k = j)) := by
  have hw : wd (setBit xs j) (k / 64) = if k / 64 = j / 64 then wd xs (j / 64) ||| 2 ^ (j % 64) else wd xs (k / 64) := by
    unfold setBit
    have hg := grow_len xs (j / 64 + 1)
    have h1 : wd ((grow xs (j / 64 + 1)).set (j / 64) (wd xs (j / 64) ||| 2 ^ (j % 64))) (k / 64) = if k / 64 = j / 64 then wd xs (j / 64) ||| 2 ^ (j % 64) else wd (grow xs (j / 64 + 1)) (k / 64) := by
      unfold wd
      simp only [List.getD_eq_getElem?_getD, List.getElem?_set]
      by_cases h : j / 64 = k / 64
      · have : k / 64 < (grow xs (k / 64 + 1)).length := by rw [grow_len]; omega
        simp [h, this]
      · have h' : ¬ k / 64 = j / 64 := fun e => h e.symm
        simp [h, h']
    rw [h1, wd_grow]
  unfold mem
  rw [hw]
  by_cases h : k / 64 = j / 64
  · rw [if_pos h, Nat.testBit_or, Nat.testBit_two_pow, h]
    congr 1
    rw [Bool.eq_iff_iff]
    simp
    omega
  · rw [if_neg h]
    have : ¬ k = j := fun e => h (by rw [e])
    simp [this]
theorem mem_addI (z : Int) (hk : k < 4096) : mem (addI xs z) k = (mem xs k || decide ((k : Int) = z)) := by
  unfold addI
  split
  · rename_i h
    rw [mem_setBit]
    congr 1
    rw [Bool.eq_iff_iff]
    simp
    omega
  · rename_i h
    have : ¬ (k : Int) = z := by omega
    simp [this]
theorem mem_ofTo (l : List Int) (hk : k < 4096) : ∀ n, n ≤ l.length → mem (ofTo l n) k = decide ((k : Int) ∈ l.take n)
  | 0, _ => by simp [ofTo, mem, wd]
  | n + 1, h => by
    show mem (addI (ofTo l n) (nd l n)) k = _
    rw [mem_addI _ hk, mem_ofTo l hk n (by omega)]
    have e : l.take (n + 1) = l.take n ++ [nd l n] := by
      rw [List.take_succ_eq_append_getElem (by omega)]
      simp [nd, show n < l.length by omega]
    rw [e]
    rw [Bool.eq_iff_iff]
    simp
theorem mem_ofL (l : List Int) (hk : k < 4096) : mem (ofL l) k = decide ((k : Int) ∈ l) := by
  unfold ofL
  rw [mem_ofTo l hk _ (Nat.le_refl _), List.take_length]
theorem filter_counts (p q : Nat → Bool) : ∀ l : List Nat, (l.filter fun k => p k || q k).length + (l.filter fun k => p k && q k).length = (l.filter p).length + (l.filter q).length
  | [] => rfl
  | a :: l => by
    have ih := filter_counts p q l
    simp only [List.filter_cons]
    cases p a <;> cases q a <;> simp <;> omega
theorem els_filter (zs : List Nat) (p : Nat → Bool) (h : ∀ k, k < 4096 → mem zs k = p k) : els zs = (List.range 4096).filter p := by
  unfold els elsTo
  exact List.filter_congr fun k hk => h k (List.mem_range.1 hk)
theorem els_counts : (els (canon (zipW (· ||| ·) xs ys))).length + (els (canon (zipW (· &&& ·) xs ys))).length = (els xs).length + (els ys).length := by
  rw [els_filter _ _ fun k hk => mem_or hk, els_filter _ _ fun k hk => mem_and hk]
  exact filter_counts _ _ _
theorem els_pos : 0 < (els xs).length ↔ ∃ k, k < 4096 ∧ mem xs k = true := by
  rw [List.length_pos_iff_exists_mem]
  simp only [els_mem]
theorem meetB_pos (ux : U64 xs) : meetB xs ys = decide (0 < (els (canon (zipW (· &&& ·) xs ys))).length) := by
  cases h : meetB xs ys with
  | false =>
    symm
    rw [decide_eq_false_iff_not, els_pos]
    rintro ⟨k, hk, hm⟩
    rw [mem_and hk, (meetB_mem ux).1 h k hk] at hm
    cases hm
  | true =>
    symm
    rw [decide_eq_true_iff, els_pos]
    apply Classical.byContradiction
    intro hn
    have : meetB xs ys = false := (meetB_mem ux).2 fun k hk => by
      rw [← mem_and hk]
      cases hm : mem (canon (zipW (· &&& ·) xs ys)) k
      · rfl
      · exact absurd ⟨k, hk, hm⟩ hn
    rw [this] at h
    cases h
theorem sub_or (ux : U64 xs) (uy : U64 ys) : eqB (canon (zipW (· ||| ·) xs ys)) ys = subB xs ys := by
  apply eqB_of (u64_canon (u64_zip ux uy _ fun _ _ h h' => Nat.or_lt_two_pow h h')) uy
  rw [subB_mem ux uy]
  constructor
  · intro h k hk hm
    have := h k hk
    rw [mem_or hk, hm] at this
    exact this.symm
  · intro h k hk
    rw [mem_or hk]
    cases hm : mem xs k
    · rfl
    · rw [h k hk hm]; rfl
theorem sub_and (ux : U64 xs) (uy : U64 ys) : eqB (canon (zipW (· &&& ·) xs ys)) xs = subB xs ys := by
  apply eqB_of (u64_canon (u64_zip ux uy _ fun _ _ h _ => Nat.lt_of_le_of_lt Nat.and_le_left h)) ux
  rw [subB_mem ux uy]
  constructor
  · intro h k hk hm
    have := h k hk
    rw [mem_and hk, hm] at this
    simpa using this
  · intro h k hk
    rw [mem_and hk]
    cases hm : mem xs k
    · rfl
    · rw [h k hk hm]; rfl
theorem sub_of_and (ux : U64 xs) (uy : U64 ys) : subB (canon (zipW (· &&& ·) xs ys)) xs = true := by
  rw [subB_mem (u64_canon (u64_zip ux uy _ fun _ _ h _ => Nat.lt_of_le_of_lt Nat.and_le_left h)) ux]
  intro k hk hm
  rw [mem_and hk] at hm
  simp at hm
  exact hm.1
theorem sub_to_or (ux : U64 xs) (uy : U64 ys) : subB xs (canon (zipW (· ||| ·) xs ys)) = true := by
  rw [subB_mem ux (u64_canon (u64_zip ux uy _ fun _ _ h h' => Nat.or_lt_two_pow h h'))]
  intro k hk hm
  rw [mem_or hk, hm]
  rfl
end
end Go.Proofs.Ytdjhfndoheoljaa
