/- Contracts of combine, Union, Intersect, Minus, Canonical. -/
import Derived.Test.YtbmamkackigdaaaB
namespace Go.Proofs.Ytbmamkackigdaaa
open Go Go.RowKit
set_option maxRecDepth 100000
theorem info_u64 : (Try.prog.info? 66).map (fun i => (i.zero, i.size, i.bytes)) = some (some (.int .u64 0), 1, 8) := by kernel_rfl
/-- n cells: below k what p gives, then 0. -/
def cmb (p : Nat → Nat → Nat) (xs ys : List Nat) (n k : Nat) : List Value := (List.range n).map fun i => .int .u64 ((if i < k then p (wd xs i) (wd ys i) else 0 : Nat) : Int)
theorem cmb_len (p : Nat → Nat → Nat) (xs ys : List Nat) (n k : Nat) : (cmb p xs ys n k).length = n := by simp [cmb]
theorem cmb_zero (p : Nat → Nat → Nat) (xs ys : List Nat) (n : Nat) : cmb p xs ys n 0 = List.replicate n (.int .u64 0) := by
  apply List.ext_getElem
  · simp [cmb_len]
  · intro j _ _
    simp [cmb]
theorem cmb_set (p : Nat → Nat → Nat) (xs ys : List Nat) (n k : Nat) : (cmb p xs ys n k).set k (.int .u64 (p (wd xs k) (wd ys k) : Nat)) = cmb p xs ys n (k + 1) := by
  apply List.ext_getElem
  · simp [cmb_len]
  · intro j _ _
    simp only [cmb, List.getElem_set, List.getElem_map, List.getElem_range]
    by_cases hk : k = j
    · subst hk; simp
    · have : (j < k + 1) ↔ j < k := by omega
      simp only [hk, if_false, this]
theorem cmb_full (p : Nat → Nat → Nat) (xs ys : List Nat) (n : Nat) : cmb p xs ys n n = (List.range n).map fun i => .int .u64 (p (wd xs i) (wd ys i) : Nat) := by
  apply List.ext_getElem
  · simp [cmb_len]
  · intro j h _
    rw [cmb_len] at h
    simp [cmb, h]
/-- The words of a combination. -/
def zipW (p : Nat → Nat → Nat) (xs ys : List Nat) : List Nat := (List.range (max (ulen xs) (ulen ys))).map fun i => p (wd xs i) (wd ys i)
/-- The canonical form of words. -/
def canon (xs : List Nat) : List Nat := xs.take (ulen xs)
def uvs (xs : List Nat) : List Value := xs.map fun x : Nat => .int .u64 (x : Int)
theorem uvs_take (xs : List Nat) (n : Nat) : (uvs xs).take n = uvs (xs.take n) := by simp [uvs, List.map_take]
theorem uvs_len (xs : List Nat) : (uvs xs).length = xs.length := by simp [uvs]
theorem uvs_get (xs : List Nat) (j : Nat) (h : j < xs.length) : (uvs xs)[j]? = some (.int .u64 (wd xs j : Nat)) := by
  simp [uvs, wd, h]
/-- A slice of words that the call made itself. -/
def OwnW (B : Nat) (w : World) (A : Option Addr) (c : Nat) (xs : List Nat) : Prop :=
  w.ownsRow B 66 1 (.slice A xs.length c) xs.length (uvs xs) ∧ U64 xs ∧ xs.length ≤ c
theorem OwnW.words {B : Nat} {w : World} {A : Option Addr} {c : Nat} {xs : List Nat} (h : OwnW B w A c xs) : Words w A xs := Vals.of_own h.1 fun j hj => uvs_get xs j hj
theorem OwnW.canon {B : Nat} {w : World} {A : Option Addr} {c : Nat} {xs : List Nat} (h : OwnW B w A c xs) : OwnW B w A c (canon xs) ∧ (canon xs).length = ulen xs := by
  have hl : (Go.Proofs.Ytbmamkackigdaaa.canon xs).length = ulen xs := by
    unfold Go.Proofs.Ytbmamkackigdaaa.canon
    rw [List.length_take]
    exact Nat.min_eq_left (ulen_le xs)
  refine ⟨⟨?_, fun x hx => h.2.1 x (List.mem_of_mem_take hx), ?_⟩, hl⟩
  · have := own_take h.1 (ulen_le xs)
    rw [uvs_take] at this
    rw [hl]
    exact this
  · rw [hl]; exact Nat.le_trans (ulen_le xs) h.2.2
set_option maxHeartbeats 400000 in
theorem combine_any (F : Nat) (p : Nat → Nat → Nat) (hE : Enters F) (hF : Gives F p) (hp : ∀ x y, x < 2 ^ 64 → y < 2 ^ 64 → p x y < 2 ^ 64) (A B : Option Addr) (xs ys : List Nat) (c d : Nat) (w : World)
    (hx : Words w A xs) (ux : U64 xs) (hc : xs.length ≤ c) (hy : Words w B ys) (uy : U64 ys) (hd : ys.length ≤ d) :
    Calls Try.prog 61 #[.slice A xs.length c, .slice B ys.length d, .func (.func F) #[] #[]] w fun e w' =>
      ∃ A' c', e = .returned (.slice A' (canon (zipW p xs ys)).length c') ∧ OwnW w.heap.size w' A' c' (canon (zipW p xs ys)) ∧ Below w.heap.size w w' := by
  unfold Enters at hE
  have lx := ulen_le64 xs
  have ly := ulen_le64 ys
  obtain ⟨i0, hi, hz0, hz1, hz2⟩ := info_parts info_u64
  obtain ⟨n, hn⟩ : ∃ n, n = max (ulen xs) (ulen ys) := ⟨_, rfl⟩
  have hn64 : n ≤ 64 := by omega
  go_enter Try.func61, Try.ntmps61
  go_wp2_with (first
    | (go_at_call 88; refine (span_any _ _ _ _ _ _ _ (by assumption) (by assumption) (by assumption) (by assumption)).mono ?_; rintro e w' ⟨rfl, rfl⟩; rw [← hn]; have HN := Lib.hid hn; clear hn)
    | (at_make; go_must (refine wpList_make_full _ rfl _ _ _ rfl w.heap.size 66 i0 _ 1 Try.underlying27 hi hz0 hz1 _ _ _ _ n rfl rfl rfl rfl (by rw [hz2]; omega) (by unfold maxLen; omega) (Nat.le_refl _) ?_); intro w1 hown hg))
  have hb1 : Below w.heap.size w w1 := (Below.refl _ _).grown hg (Nat.le_refl _) (by simp)
  have hown0 : w1.ownsRow w.heap.size 66 1 (.slice (some ⟨w.heap.size, 0, none⟩) n n) n (cmb p xs ys n 0) := by
    rw [cmb_zero]
    rw [Nat.mul_one] at hown
    rw [← toList_madeCells_one]
    exact hown
  clear hown hg
  have hx0 := hx
  have hy0 := hy
  clear hx hy
  go_loopw [15] (fun i wr => ∃ k : Nat, k ≤ n ∧ i = .int .i64 k ∧ wr.ownsRow w.heap.size 66 1 (.slice (some ⟨w.heap.size, 0, none⟩) n n) n (cmb p xs ys n k) ∧ Below w.heap.size w wr) (fun i _ => n - (intOf i).toNat)
  case atStart => exact ⟨0, by omega, rfl, hown0, hb1⟩
  case round =>
    obtain ⟨k, hk, rfl, ho, hb⟩ := hrel
    have hx := hx0.below hb
    have hy := hy0.below hb
    by_cases hlt : k < n
    · have hv := hF (wd xs k) (wd ys k)
      have b1 := ux.at_ k
      have b2 := uy.at_ k
      have Hv := Lib.hid hv
      clear hv
      have hcell := ho.cellAt k (by omega)
      have hfr := ho.frozenAt k
      have hst := ho.stored k (.int .u64 (p (wd xs k) (wd ys k) : Nat))
      rw [cmb_set] at hst
      have HST := Lib.hid hst
      clear hst
      obtain ⟨v0, hv0⟩ : ∃ v0, (cmb p xs ys n k)[k]? = some v0 := ⟨_, List.getElem?_eq_getElem (by rw [cmb_len]; exact hlt)⟩
      rw [hv0] at hcell
      clear hv0
      go_wp2_with (first
          | (go_at_call 89; refine (word_any _ _ _ _ _ (by assumption)).mono ?_; rintro e w' ⟨rfl, rfl⟩)
          | ((with_reducible refine (Hv.out _ b1 b2).mono ?_); rintro e w' ⟨rfl, rfl⟩))
      go_roundw
      case rel => exact ⟨k + 1, by omega, by go_num, HST.out.1, hb.setCell (Nat.le_refl _) _⟩
      case measure => simp [intOf]; omega
    · obtain rfl : k = n := by omega
      have hz : OwnW w.heap.size wr (some ⟨w.heap.size, 0, none⟩) k (zipW p xs ys) := by
        have hl : (zipW p xs ys).length = k := by rw [zipW, List.length_map, List.length_range, ← HN.out]
        refine ⟨?_, ?_, by omega⟩
        · rw [hl]
          rw [cmb_full] at ho
          unfold uvs zipW
          rw [← HN.out, List.map_map]
          exact ho
        · intro x hx
          unfold zipW at hx
          obtain ⟨i, _, rfl⟩ := List.mem_map.1 hx
          exact hp _ _ (ux.at_ i) (uy.at_ i)
      have hl : (zipW p xs ys).length = k := by rw [zipW, List.length_map, List.length_range, ← HN.out]
      have hu := used_any _ _ k wr hz.words (by omega)
      rw [hl] at hu
      have HU := Lib.hid hu
      have HC := Lib.hid hz.canon
      clear hu hl hz ho hx hy
      go_wp2_with (go_at_call 90; refine HU.out.mono ?_; rintro e w' ⟨rfl, rfl⟩)
      go_ret
      refine ⟨_, k, ?_, HC.out.1, hb⟩
      rw [HC.out.2]
      rfl
section
variable (A B : Option Addr) (xs ys : List Nat) (c d : Nat) (w : World) (hx : Words w A xs) (ux : U64 xs) (hc : xs.length ≤ c) (hy : Words w B ys) (uy : U64 ys) (hd : ys.length ≤ d)
include hx ux hc hy uy hd
theorem Union_any : Calls Try.prog 31 #[.slice A xs.length c, .slice B ys.length d] w fun e w' =>
    ∃ A' c', e = .returned (.slice A' (canon (zipW (· ||| ·) xs ys)).length c') ∧ OwnW w.heap.size w' A' c' (canon (zipW (· ||| ·) xs ys)) ∧ Below w.heap.size w w' := by
  go_enter Try.func31, Try.ntmps31
  go_wp2_with (go_at_call 61; refine (combine_any _ _ Enters.or (fun _ _ _ h h' => or_any _ _ _ h h') (fun _ _ h h' => Nat.or_lt_two_pow h h') _ _ _ _ _ _ _ hx ux hc hy uy hd).mono ?_; rintro e w' ⟨A', c', rfl, ho, hb⟩)
  go_ret
  exact ⟨A', c', rfl, ho, hb⟩
end
end Go.Proofs.Ytbmamkackigdaaa
