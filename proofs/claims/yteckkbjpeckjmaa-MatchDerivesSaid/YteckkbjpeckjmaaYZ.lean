/- Format, Block, Reverse and Plain of package regex. -/
import Derived.Test.YteckkbjpeckjmaaYV
import Derived.Test.YteckkbjpeckjmaaYY
namespace Go.Proofs.Yteckkbjpeckjmaa.Rx
open Go Go.RowKit Go.Proofs.Yteckkbjpeckjmaa
set_option linter.unusedVariables false
set_option maxRecDepth 100000
theorem rp_op (m : Bool) (x : Pc) : nk (Rp m x).op = nk x.op := by
  unfold Rp
  cases m
  · rfl
  · simp only [if_true]
    split
    · rename_i h; rw [h]
    · show nk (revOp x.op) = _
      unfold revOp
      split
      · rename_i h; rw [h]; rfl
      · split
        · rename_i h; rw [h]; rfl
        · rfl
theorem cop_any (w0 : World) (br be ba bb : Nat) (m : Bool) (A : Option Addr) (e : List Pc) (c : Nat) (hl : e.length ≤ 1000000) (hx : PcsAt w0 A e) : ∀ (t : Ex) (s j : Nat), t.Ok → Bl e s j t → CopC w0 br be ba bb m A e.length c t j
  | .leaf op p q, s, j, ho, hb => by
    have hpc := bl_leaf' hb
    refine cop_step w0 br be ba bb m A e c hl hx j (bl_lt hb) _ rfl _ (.inl ⟨?_, rfl, fun k => ?_⟩)
    · rw [rp_op, hpc]; exact nk_leaf ho.1
    · rw [hpc]
      have h1 := ho.1
      cases m
      · rfl
      · unfold Tp Rp
        simp only [if_true]
        rw [if_neg (by omega)]
        have : revOp op = op := by unfold revOp; rw [if_neg (by omega), if_neg (by omega)]
        rw [this]
        rfl
  | .one op a, s, j, ho, hb => by
    obtain ⟨h0, hpc, hba⟩ := bl_one' hb
    have ih := cop_any w0 br be ba bb m A e c hl hx a s (j - 1) ho.2 hba
    rw [show ((j - 1 : Nat) : Int) = (j : Int) - 1 by omega] at ih
    refine cop_step w0 br be ba bb m A e c hl hx j (bl_lt hb) _ rfl _ (.inr (.inl ⟨a, ?_, ⟨rfl, fun k => ?_⟩, ?_⟩))
    · rw [rp_op, hpc]; exact nk_one ho.1
    · rw [hpc]
      have h1 := ho.1
      cases m
      · rfl
      · unfold Tp Rp
        simp only [if_true]
        rw [if_neg (by omega), rev_one, flat, rev_size]
    · rw [hpc]
      have h1 := ho.1
      cases m
      · exact ih
      · unfold Rp
        simp only [if_true]
        rw [if_neg (by omega)]
        exact ih
  | .two op a b, s, j, ho, hb => by
    obtain ⟨h0, hpc, hba, hbb⟩ := bl_two' hb
    have hp := a.pos
    have ia := cop_any w0 br be ba bb m A e c hl hx a s (s + a.size - 1) ho.2.1 hba
    have ib := cop_any w0 br be ba bb m A e c hl hx b (s + a.size) (j - 1) ho.2.2 hbb
    rw [show ((s + a.size - 1 : Nat) : Int) = ((s + a.size : Nat) : Int) - 1 by omega] at ia
    rw [show ((j - 1 : Nat) : Int) = (j : Int) - 1 by omega] at ib
    have h1 := ho.1
    by_cases h4 : m = true ∧ op = 4
    · obtain ⟨rfl, rfl⟩ := h4
      refine cop_step w0 br be ba bb true A e c hl hx j (bl_lt hb) _ rfl _ (.inr (.inr ⟨b, a, ?_, ⟨?_, fun k => ?_⟩, ?_, ?_⟩))
      · rw [rp_op, hpc]; exact nk_two ho.1
      · show a.size + b.size + 1 = _; omega
      · rw [hpc]
        unfold Tp Rp
        simp only [if_true]
        rw [rev_two, if_pos rfl, flat, rev_size, rev_size]
      · rw [hpc]; exact ib
      · rw [hpc]; exact ia
    · refine cop_step w0 br be ba bb m A e c hl hx j (bl_lt hb) _ rfl _ (.inr (.inr ⟨a, b, ?_, ⟨rfl, fun k => ?_⟩, ?_, ?_⟩))
      · rw [rp_op, hpc]; exact nk_two ho.1
      · rw [hpc]
        cases m
        · rfl
        · have h4 : op ≠ 4 := fun e => h4 ⟨rfl, e⟩
          unfold Tp Rp
          simp only [if_true]
          rw [if_neg h4, rev_two, if_neg h4, flat, rev_size, rev_size]
          have : revOp op = op := by unfold revOp; rw [if_neg (by omega), if_neg (by omega)]
          rw [this]
      · rw [hpc]
        cases m
        · exact ia
        · have h4 : op ≠ 4 := fun e => h4 ⟨rfl, e⟩
          unfold Rp
          simp only [if_true]
          rw [if_neg h4]
          exact ia
      · rw [hpc]
        cases m
        · exact ib
        · have h4 : op ≠ 4 := fun e => h4 ⟨rfl, e⟩
          unfold Rp
          simp only [if_true]
          rw [if_neg h4]
          exact ib
theorem tx_any (w0 : World) (be bb bv bm : Nat) (A : Option Addr) (e : List Pc) (c : Nat) (v : Nat) (hv : v ≤ 6) (hl : e.length ≤ 1000000) (hx : PcsAt w0 A e) : ∀ (t : Ex) (s j : Nat), t.Ok → t.Cubes v → Bl e s j t → TxC w0 be bb bv bm A e.length c v t j
  | .leaf op p q, s, j, ho, hc, hb => tx_leaf w0 be bb bv bm A e c v hl hx op p q s j ho hc hv hb
  | .one op a, s, j, ho, hc, hb => by
    obtain ⟨h0, hpc, hba⟩ := bl_one' hb
    have ih := tx_any w0 be bb bv bm A e c v hv hl hx a s (j - 1) ho.2 hc hba
    rw [show ((j - 1 : Nat) : Int) = (j : Int) - 1 by omega] at ih
    exact tx_one w0 be bb bv bm A e c v hl hx op a s j ho hb ih
  | .two op a b, s, j, ho, hc, hb => by
    obtain ⟨h0, hpc, hba, hbb⟩ := bl_two' hb
    have hp := a.pos
    have ia := tx_any w0 be bb bv bm A e c v hv hl hx a s (s + a.size - 1) ho.2.1 hc.1 hba
    have ib := tx_any w0 be bb bv bm A e c v hv hl hx b (s + a.size) (j - 1) ho.2.2 hc.2 hbb
    rw [show ((s + a.size - 1 : Nat) : Int) = ((s + a.size : Nat) : Int) - 1 by omega] at ia
    rw [show ((j - 1 : Nat) : Int) = (j : Int) - 1 by omega] at ib
    exact tx_two w0 be bb bv bm A e c v hl hx op a b s j ho hb ia ib
end Go.Proofs.Yteckkbjpeckjmaa.Rx
