/- spoil: what it may turn. -/
import Derived.Test.YtnjagdocgmbmiaaDoorRU
namespace Go.Proofs.YtnjagdocgmbmiaaDoor
open Go Go.RowKit
set_option maxRecDepth 100000
set_option linter.unusedVariables false
/-- Each of the n values at A may be overwritten; they lie in no block below B, and not in block b. -/
def CanW (B b : Nat) (w : World) (A : Option Addr) (n : Nat) : Prop :=
  ∀ j, j < n → ∃ ad, A = some ad ∧ B ≤ ad.block ∧ ad.block ≠ b ∧ w.frozen? (ad.add j) = false ∧ ∃ u, w.cell? (ad.add j) = some u
theorem CanW.set {B b : Nat} {w : World} {A : Option Addr} {n : Nat} (h : CanW B b w A n) (p : Addr) (v : Value) : CanW B b (w.setCell p v) A n := by
  intro j hj
  obtain ⟨ad, e, h1, h2, h3, u, h4⟩ := h j hj
  refine ⟨ad, e, h1, h2, by rw [World.frozen?_setCell]; exact h3, ?_⟩
  by_cases hp : p = ad.add j
  · subst hp
    exact ⟨v, World.cell?_setCell_same _ _ _ h4⟩
  · exact ⟨u, by rw [World.cell?_setCell_other _ _ _ _ hp]; exact h4⟩
theorem CanW.own {B b : Nat} {w : World} {e n c : Nat} {A : Option Addr} {xs : List Value} (h : w.ownsRow B e 1 (.slice A n c) n xs) (hb : ∀ ad, A = some ad → ad.block ≠ b) : CanW B b w A n := by
  intro j hj
  obtain ⟨g, c', hv, hg⟩ := own_some h (by omega)
  injection hv with hA _ hc
  subst hA hc
  have hx : j < xs.length := by have := h.1; omega
  refine ⟨_, rfl, hg, hb _ rfl, ?_, xs[j], ?_⟩
  · rw [addr_add]; exact h.frozenAt j
  · rw [addr_add, h.cellAt j (by omega), List.getElem?_eq_getElem hx]
/-- What spoil has left, so far. -/
def Spoilt (B : Nat) (w wr : World) (ad : Addr) (n : Nat) (a : Nat → Option Addr) (l : Nat → Nat) : Prop :=
  Below B w wr ∧ (∀ j, wr.cell? (ad.add j) = w.cell? (ad.add j)) ∧ ∀ i, i < n → CanW B ad.block wr (a i) (l i)
theorem Spoilt.set {B : Nat} {w wr : World} {ad : Addr} {n : Nat} {a : Nat → Option Addr} {l : Nat → Nat} (h : Spoilt B w wr ad n a l) {p : Addr} (h1 : B ≤ p.block) (h2 : p.block ≠ ad.block) (v : Value) : Spoilt B w (wr.setCell p v) ad n a l := by
  refine ⟨h.1.setCell h1 v, fun j => ?_, fun i hi => (h.2.2 i hi).set p v⟩
  rw [World.cell?_setCell_other _ _ _ _ (fun e => h2 (by rw [e, addr_block]))]
  exact h.2.1 j
set_option maxHeartbeats 400000 in
theorem spoil_any (B : Nat) (ad : Addr) (n m : Nat) (a : Nat → Option Addr) (l c : Nat → Nat) (w : World) (hx : Sets w (some ad) n a l c) (hn : n ≤ 1000) (hl : ∀ j, j < n → l j ≤ maxLen)
    (hw : ∀ i, i < n → CanW B ad.block w (a i) (l i)) :
    Calls Tryd.prog 27 #[.slice (some ad) n m] w fun e w' => e = .returned (.tuple #[]) ∧ Below B w w' := by
  have S0 : Spoilt B w w ad n a l := ⟨Below.refl _ _, fun _ => rfl, hw⟩
  clear hw
  have HL := Lib.hid hl
  clear hl
  have HX := Lib.hid hx
  clear hx
  go_enter Tryd.func27, Tryd.ntmps27
  go_wp2
  go_loopw [2] (fun i wr => ∃ k : Nat, k ≤ n ∧ i = .int .i64 k ∧ Hid (Spoilt B w wr ad n a l)) (fun i _ => n - (intOf i).toNat)
  case atStart => exact ⟨0, by omega, rfl, S0⟩
  case round =>
    clear S0
    obtain ⟨k, hk, rfl, HS⟩ := hrel
    by_cases hlt : k < n
    · go_wp2
      obtain ⟨wo, rfl⟩ : ∃ wo : World, wo = wr := ⟨_, rfl⟩
      go_loopw [3] (fun i wr => ∃ j : Nat, j ≤ l k ∧ i = .int .i64 j ∧ Hid (Spoilt B w wr ad n a l)) (fun i _ => l k - (intOf i).toNat)
      case atStart => exact ⟨0, by omega, rfl, HS⟩
      case round =>
        clear HS
        obtain ⟨j, hj, rfl, HS⟩ := hrel
        have hlk := HL.out k hlt
        unfold maxLen at hlk
        have hcell : wr.cell? (ad.add k) = some (.slice (a k) (l k) (c k)) := by
          obtain ⟨ad', e, hc⟩ := Vals.at_ HX.out hlt
          cases e
          rw [HS.out.2.1]; exact hc
        by_cases hjl : j < l k
        · obtain ⟨ad2, e2, g1, g2, g3, u, g4⟩ := HS.out.2.2 k hlt j hjl
          rw [e2] at hcell
          clear e2
          have HS2 : Hid (Spoilt B w (wr.setCell (ad2.add j) (.int .u64 77)) ad n a l) := HS.out.set (by rw [addr_block]; exact g1) (by rw [addr_block]; exact g2) _
          clear HS g1 g2
          generalize l k = q at *
          generalize c k = ck at *
          go_wp2
          go_roundw
          case rel => exact ⟨j + 1, by omega, by go_num, HS2⟩
          case measure => simp [intOf]; omega
        · obtain rfl : j = l k := by omega
          generalize l k = q at *
          generalize c k = ck at *
          generalize a k = ak at *
          go_wp2
          go_roundw
          case rel => exact ⟨k + 1, by omega, by go_num, HS⟩
          case measure => simp [intOf]; omega
    · obtain rfl : k = n := by omega
      go_wp2
      go_end0
      exact ⟨rfl, HS.out.1⟩
end Go.Proofs.YtnjagdocgmbmiaaDoor
