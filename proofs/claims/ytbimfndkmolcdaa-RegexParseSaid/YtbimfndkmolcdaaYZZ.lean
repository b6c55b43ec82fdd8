/- The kit's OverRegex. -/
import Derived.Test.YtbimfndkmolcdaaYZX
namespace Go.Proofs.Ytbimfndkmolcdaa.Rx
open Go Go.RowKit Go.Proofs.Ytbimfndkmolcdaa
set_option linter.unusedVariables false
set_option maxRecDepth 100000
/-- Each of the n pieces at A may be overwritten; they lie in no block below B. -/
def CanP (B : Nat) (w : World) (A : Option Addr) (n : Nat) : Prop :=
  ∀ j, j < n → ∃ ad, A = some ad ∧ B ≤ ad.block ∧ ∀ i, i < 5 → w.frozen? ((ad.add (j * 5)).add i) = false ∧ ∃ u, w.cell? ((ad.add (j * 5)).add i) = some u
theorem CanP.set {B : Nat} {w : World} {A : Option Addr} {n : Nat} (h : CanP B w A n) (p : Addr) (v : Value) : CanP B (w.setCell p v) A n := by
  intro j hj
  obtain ⟨ad, e, h1, h2⟩ := h j hj
  refine ⟨ad, e, h1, fun i hi => ?_⟩
  obtain ⟨h3, u, h4⟩ := h2 i hi
  refine ⟨by rw [World.frozen?_setCell]; exact h3, ?_⟩
  by_cases hp : p = (ad.add (j * 5)).add i
  · subst hp
    exact ⟨v, World.cell?_setCell_same _ _ _ h4⟩
  · exact ⟨u, by rw [World.cell?_setCell_other _ _ _ _ hp]; exact h4⟩
set_option maxHeartbeats 4000000 in
theorem OverRegex_any (B : Nat) (A : Option Addr) (n c : Nat) (w : World) (hn : n ≤ 1000000) (hw : CanP B w A n) :
    Calls Try.prog 26 #[.slice A n c] w fun e w' => e = .returned (.tuple #[]) ∧ Below B w w' := by
  go_enter Try.func26, Try.ntmps26
  go_wp2
  go_loopw [2] (fun i wr => ∃ k : Nat, k ≤ n ∧ i = .int .i64 k ∧ CanP B wr A n ∧ Below B w wr) (fun i _ => n - (intOf i).toNat)
  case atStart => exact ⟨0, by omega, rfl, hw, Below.refl _ _⟩
  case round =>
    clear hw
    obtain ⟨k, hk, rfl, hw, hb⟩ := hrel
    by_cases hlt : k < n
    · obtain ⟨ad, e0, g1, _⟩ := hw k hlt
      subst e0
      have k0 : wr.frozen? (ad.add (k * 5)) = false ∧ ∃ u, wr.cell? (ad.add (k * 5)) = some u := by obtain ⟨a2, e2, _, g⟩ := hw k hlt; cases e2; exact g 0 (by omega)
      obtain ⟨z0, v0, c0⟩ := k0
      have hw0 := hw.set (ad.add (k * 5)) (.int .u8 99)
      have hb0 := hb.setCell (p := (ad.add (k * 5))) (by rw [addr_block]; exact g1) (.int .u8 99)
      have k1 : (wr.setCell (ad.add (k * 5)) (.int .u8 99)).frozen? ⟨(ad.add (k * 5)).block, (ad.add (k * 5)).off + 1, none⟩ = false ∧ ∃ u, (wr.setCell (ad.add (k * 5)) (.int .u8 99)).cell? ⟨(ad.add (k * 5)).block, (ad.add (k * 5)).off + 1, none⟩ = some u := by obtain ⟨a2, e2, _, g⟩ := hw0 k hlt; cases e2; exact g 1 (by omega)
      obtain ⟨z1, v1, c1⟩ := k1
      have hw1 := hw0.set ⟨(ad.add (k * 5)).block, (ad.add (k * 5)).off + 1, none⟩ (.int .u8 0)
      have hb1 := hb0.setCell (p := ⟨(ad.add (k * 5)).block, (ad.add (k * 5)).off + 1, none⟩) (by show B ≤ (ad.add (k * 5)).block; rw [addr_block]; exact g1) (.int .u8 0)
      have k2 : ((wr.setCell (ad.add (k * 5)) (.int .u8 99)).setCell ⟨(ad.add (k * 5)).block, (ad.add (k * 5)).off + 1, none⟩ (.int .u8 0)).frozen? ⟨(ad.add (k * 5)).block, (ad.add (k * 5)).off + 2, none⟩ = false ∧ ∃ u, ((wr.setCell (ad.add (k * 5)) (.int .u8 99)).setCell ⟨(ad.add (k * 5)).block, (ad.add (k * 5)).off + 1, none⟩ (.int .u8 0)).cell? ⟨(ad.add (k * 5)).block, (ad.add (k * 5)).off + 2, none⟩ = some u := by obtain ⟨a2, e2, _, g⟩ := hw1 k hlt; cases e2; exact g 2 (by omega)
      obtain ⟨z2, v2, c2⟩ := k2
      have hw2 := hw1.set ⟨(ad.add (k * 5)).block, (ad.add (k * 5)).off + 2, none⟩ (.int .u8 0)
      have hb2 := hb1.setCell (p := ⟨(ad.add (k * 5)).block, (ad.add (k * 5)).off + 2, none⟩) (by show B ≤ (ad.add (k * 5)).block; rw [addr_block]; exact g1) (.int .u8 0)
      have k3 : (((wr.setCell (ad.add (k * 5)) (.int .u8 99)).setCell ⟨(ad.add (k * 5)).block, (ad.add (k * 5)).off + 1, none⟩ (.int .u8 0)).setCell ⟨(ad.add (k * 5)).block, (ad.add (k * 5)).off + 2, none⟩ (.int .u8 0)).frozen? ⟨(ad.add (k * 5)).block, (ad.add (k * 5)).off + 3, none⟩ = false ∧ ∃ u, (((wr.setCell (ad.add (k * 5)) (.int .u8 99)).setCell ⟨(ad.add (k * 5)).block, (ad.add (k * 5)).off + 1, none⟩ (.int .u8 0)).setCell ⟨(ad.add (k * 5)).block, (ad.add (k * 5)).off + 2, none⟩ (.int .u8 0)).cell? ⟨(ad.add (k * 5)).block, (ad.add (k * 5)).off + 3, none⟩ = some u := by obtain ⟨a2, e2, _, g⟩ := hw2 k hlt; cases e2; exact g 3 (by omega)
      obtain ⟨z3, v3, c3⟩ := k3
      have hw3 := hw2.set ⟨(ad.add (k * 5)).block, (ad.add (k * 5)).off + 3, none⟩ (.int .i64 0)
      have hb3 := hb2.setCell (p := ⟨(ad.add (k * 5)).block, (ad.add (k * 5)).off + 3, none⟩) (by show B ≤ (ad.add (k * 5)).block; rw [addr_block]; exact g1) (.int .i64 0)
      have k4 : ((((wr.setCell (ad.add (k * 5)) (.int .u8 99)).setCell ⟨(ad.add (k * 5)).block, (ad.add (k * 5)).off + 1, none⟩ (.int .u8 0)).setCell ⟨(ad.add (k * 5)).block, (ad.add (k * 5)).off + 2, none⟩ (.int .u8 0)).setCell ⟨(ad.add (k * 5)).block, (ad.add (k * 5)).off + 3, none⟩ (.int .i64 0)).frozen? ⟨(ad.add (k * 5)).block, (ad.add (k * 5)).off + 4, none⟩ = false ∧ ∃ u, ((((wr.setCell (ad.add (k * 5)) (.int .u8 99)).setCell ⟨(ad.add (k * 5)).block, (ad.add (k * 5)).off + 1, none⟩ (.int .u8 0)).setCell ⟨(ad.add (k * 5)).block, (ad.add (k * 5)).off + 2, none⟩ (.int .u8 0)).setCell ⟨(ad.add (k * 5)).block, (ad.add (k * 5)).off + 3, none⟩ (.int .i64 0)).cell? ⟨(ad.add (k * 5)).block, (ad.add (k * 5)).off + 4, none⟩ = some u := by obtain ⟨a2, e2, _, g⟩ := hw3 k hlt; cases e2; exact g 4 (by omega)
      obtain ⟨z4, v4, c4⟩ := k4
      have hw4 := hw3.set ⟨(ad.add (k * 5)).block, (ad.add (k * 5)).off + 4, none⟩ (.int .i64 0)
      have hb4 := hb3.setCell (p := ⟨(ad.add (k * 5)).block, (ad.add (k * 5)).off + 4, none⟩) (by show B ≤ (ad.add (k * 5)).block; rw [addr_block]; exact g1) (.int .i64 0)
      have HW := Lib.hid hw4
      have HB := Lib.hid hb4
      clear hw hb hw0 hw1 hw2 hw3 hw4 hb0 hb1 hb2 hb3 hb4 g1
      go_wp2
      go_roundw
      case rel => exact ⟨k + 1, by omega, by go_num, HW.out, HB.out⟩
      case measure => simp [intOf]; omega
    · obtain rfl : k = n := by omega
      go_wp2
      go_end0
      exact ⟨rfl, hb⟩
theorem CanP.own {B : Nat} {w : World} {e : TypeId} {n c : Nat} {A : Option Addr} {xs : List Value} (h : w.ownsRow B e 5 (.slice A n c) n xs) : CanP B w A n := by
  intro j hj
  have hl := h.1
  rcases h.2 with ⟨_, h0⟩ | ⟨g, cap, cur, hv, hg, hb, _, _, _, ht⟩
  · omega
  · have h' := h
    injection hv with hA hB hc
    subst hA hc
    refine ⟨⟨g, 0, none⟩, rfl, hg, fun i hi => ?_⟩
    rw [Ap.addr_add, show ((⟨g, j * 5, none⟩ : Addr).add i) = ⟨g, j * 5 + i, none⟩ by unfold Addr.add; split; simp; rfl]
    have hx : j * 5 + i < xs.length := by omega
    refine ⟨h'.frozenAt (j * 5 + i), xs[j * 5 + i], ?_⟩
    rw [h'.cellAt (j * 5 + i) (by omega), List.getElem?_eq_getElem hx]
end Go.Proofs.Ytbimfndkmolcdaa.Rx
