/- What the law BitsetMatches calls: With, Without, Canonical as sets of one's own; spoil beside another row; the reference's lists in words. -/
import Derived.Test.YtnjagdocgmbmiaaDoorUP
namespace Go.Proofs.YtnjagdocgmbmiaaDoor
open Go Go.RowKit
set_option maxRecDepth 100000
set_option linter.unusedVariables false
theorem With_own (A : Option Addr) (xs : List Nat) (c : Nat) (k : Int) (w : World) (hx : Words w A xs) (ux : U64 xs) (hc : xs.length ≤ c) :
    Calls Tryd.prog 17 #[.slice A xs.length c, .int .i64 k] w fun e w' =>
      ∃ A' c', e = .returned (.slice A' (canon (zipW (· ||| ·) xs (ofL [k]))).length c') ∧ OwnW w.heap.size w' A' c' (canon (zipW (· ||| ·) xs (ofL [k]))) ∧ Below w.heap.size w w' := by
  have HO := Lib.hid (of_one k w)
  go_enter Tryd.func17, Tryd.ntmps17
  go_wp2_with (first
    | (go_at_call 15; refine HO.out.mono ?_; rintro e w1 ⟨A1, c1, rfl, hw1, u1, l1, hb1⟩)
    | (go_at_call 30; refine (Union_any A A1 xs (ofL [k]) c c1 w1 (hx.below hb1) ux hc hw1 u1 l1).mono ?_; rintro e w2 ⟨A2, c2, rfl, ho2, hb2⟩))
  go_ret
  exact ⟨A2, c2, rfl, ⟨own_low ho2.1 hb1.size, ho2.2⟩, stepB hb1 hb2⟩
theorem Without_own (A : Option Addr) (xs : List Nat) (c : Nat) (k : Int) (w : World) (hx : Words w A xs) (ux : U64 xs) (hc : xs.length ≤ c) :
    Calls Tryd.prog 18 #[.slice A xs.length c, .int .i64 k] w fun e w' =>
      ∃ A' c', e = .returned (.slice A' (canon (zipW andNot xs (ofL [k]))).length c') ∧ OwnW w.heap.size w' A' c' (canon (zipW andNot xs (ofL [k]))) ∧ Below w.heap.size w w' := by
  have HO := Lib.hid (of_one k w)
  go_enter Tryd.func18, Tryd.ntmps18
  go_wp2_with (first
    | (go_at_call 15; refine HO.out.mono ?_; rintro e w1 ⟨A1, c1, rfl, hw1, u1, l1, hb1⟩)
    | (go_at_call 32; refine (Minus_any A A1 xs (ofL [k]) c c1 w1 (hx.below hb1) ux hc hw1 u1 l1).mono ?_; rintro e w2 ⟨A2, c2, rfl, ho2, hb2⟩))
  go_ret
  exact ⟨A2, c2, rfl, ⟨own_low ho2.1 hb1.size, ho2.2⟩, stepB hb1 hb2⟩
theorem Canonical_own (A : Option Addr) (xs : List Nat) (c : Nat) (w : World) (hx : Words w A xs) (ux : U64 xs) (hc : xs.length ≤ c) :
    Calls Tryd.prog 16 #[.slice A xs.length c] w fun e w' =>
      ∃ A' c', e = .returned (.slice A' (canon xs).length c') ∧ OwnW w.heap.size w' A' c' (canon xs) ∧ Below w.heap.size w w' := by
  have := Canonical_any A xs c w hx ux hc
  rwa [canon_or_nil] at this
section
variable {xs : List Nat} {k : Int}
theorem with_is (ux : U64 xs) : ofL (elsI xs ++ [k]) = canon (zipW (· ||| ·) xs (ofL [k])) := by
  refine ofL_is (u64_with ux) (canon_canon _) _ fun m hm => ?_
  rw [mem_with hm, ← elsI_at (xs := xs) hm]
  simp [List.mem_append]
theorem without_is (ux : U64 xs) : ofL ((elsI xs).filter fun x => x != k) = canon (zipW andNot xs (ofL [k])) := by
  refine ofL_is (u64_without ux) (canon_canon _) _ fun m hm => ?_
  rw [mem_without ux hm, ← elsI_at (xs := xs) hm, Bool.eq_iff_iff]
  simp [List.mem_filter]
theorem cmp_self (l : List Int) : cmpL l l = 0 := by
  induction l with
  | nil => rfl
  | cons a l ih => simp [cmpL, ih]
theorem has_in : decide (k ∈ elsI xs) = hasB xs k := by
  rw [Bool.eq_iff_iff, decide_eq_true_iff]; exact elsI_mem
theorem filter_take_i (f : Int → Bool) (l : List Int) {j : Nat} (h : j < l.length) : (l.take (j + 1)).filter f = (l.take j).filter f ++ if f (nd l j) then [nd l j] else [] := by
  rw [List.take_succ_eq_append_getElem h, List.filter_append]
  have : nd l j = l[j] := by simp [nd, h]
  rw [this]
  cases hf : f l[j] <;> simp [hf]
theorem minOf_nil (h : (els xs).length = 0) : minOf (els xs) = (0, false) := by rw [List.length_eq_zero_iff.1 h]; rfl
theorem minOf_pos (h : 0 < (els xs).length) : ((minOf (els xs)).1 : Int) = nd (elsI xs) 0 ∧ (minOf (els xs)).2 = true := by
  unfold elsI
  cases he : els xs with
  | nil => rw [he] at h; simp at h
  | cons a t => simp [minOf, nd]
end
/-- What spoil has left, so far; a further row beside it. -/
def SpoiltE (B : Nat) (w wr : World) (ad : Addr) (n : Nat) (a : Nat → Option Addr) (l : Nat → Nat) (E : Option Addr) (m : Nat) : Prop :=
  Spoilt B w wr ad n a l ∧ CanW B ad.block wr E m
theorem SpoiltE.set {B : Nat} {w wr : World} {ad : Addr} {n : Nat} {a : Nat → Option Addr} {l : Nat → Nat} {E : Option Addr} {m : Nat} (h : SpoiltE B w wr ad n a l E m) {p : Addr} (h1 : B ≤ p.block) (h2 : p.block ≠ ad.block) (v : Value) : SpoiltE B w (wr.setCell p v) ad n a l E m :=
  ⟨h.1.set h1 h2 v, h.2.set p v⟩
set_option maxHeartbeats 400000 in
theorem spoil_any2 (B : Nat) (ad : Addr) (n m : Nat) (a : Nat → Option Addr) (l c : Nat → Nat) (w : World) (E : Option Addr) (em : Nat) (hx : Sets w (some ad) n a l c) (hn : n ≤ 1000) (hl : ∀ j, j < n → l j ≤ maxLen)
    (hw : ∀ i, i < n → CanW B ad.block w (a i) (l i)) (he : CanW B ad.block w E em) :
    Calls Tryd.prog 27 #[.slice (some ad) n m] w fun e w' => e = .returned (.tuple #[]) ∧ Below B w w' ∧ CanW B ad.block w' E em := by
  have S0 : SpoiltE B w w ad n a l E em := ⟨⟨Below.refl _ _, fun _ => rfl, hw⟩, he⟩
  clear hw he
  have HL := Lib.hid hl
  clear hl
  have HX := Lib.hid hx
  clear hx
  go_enter Tryd.func27, Tryd.ntmps27
  go_wp2
  go_loopw [2] (fun i wr => ∃ k : Nat, k ≤ n ∧ i = .int .i64 k ∧ Hid (SpoiltE B w wr ad n a l E em)) (fun i _ => n - (intOf i).toNat)
  case atStart => exact ⟨0, by omega, rfl, S0⟩
  case round =>
    clear S0
    obtain ⟨k, hk, rfl, HS⟩ := hrel
    by_cases hlt : k < n
    · go_wp2
      obtain ⟨wq, rfl⟩ : ∃ wq : World, wq = wr := ⟨_, rfl⟩
      go_loopw [3] (fun i wr => ∃ j : Nat, j ≤ l k ∧ i = .int .i64 j ∧ Hid (SpoiltE B w wr ad n a l E em)) (fun i _ => l k - (intOf i).toNat)
      case atStart => exact ⟨0, by omega, rfl, HS⟩
      case round =>
        clear HS
        obtain ⟨j, hj, rfl, HS⟩ := hrel
        have hlk := HL.out k hlt
        unfold maxLen at hlk
        have hcell : wr.cell? (ad.add k) = some (.slice (a k) (l k) (c k)) := by
          obtain ⟨ad', e, hc⟩ := Vals.at_ HX.out hlt
          cases e
          rw [HS.out.1.2.1]; exact hc
        by_cases hjl : j < l k
        · obtain ⟨ad2, e2, g1, g2, g3, u, g4⟩ := HS.out.1.2.2 k hlt j hjl
          rw [e2] at hcell
          clear e2
          have HS2 : Hid (SpoiltE B w (wr.setCell (ad2.add j) (.int .u64 77)) ad n a l E em) := HS.out.set (by rw [addr_block]; exact g1) (by rw [addr_block]; exact g2) _
          clear HS g1 g2
          generalize l k = q at *
          generalize c k = ck at *
          go_wp2
          go_roundw
          case rel => exact ⟨j + 1, by omega, by go_num, HS2⟩
          case measure => simp [intOf]; omega
        · obtain rfl : j = l k := by omega
          generalize l k = q at *
          generalize c k = ck at *
          generalize a k = ak at *
          go_wp2
          go_roundw
          case rel => exact ⟨k + 1, by omega, by go_num, HS⟩
          case measure => simp [intOf]; omega
    · obtain rfl : k = n := by omega
      go_wp2
      go_end0
      exact ⟨rfl, HS.out.1.1, HS.out.2⟩
end Go.Proofs.YtnjagdocgmbmiaaDoor
