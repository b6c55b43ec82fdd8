/- The iterators over letters and over literals. -/
import Derived.Test.YteckkbjpeckjmaaDoorCUB
import Derived.Test.YteckkbjpeckjmaaDoorCE
import Derived.RangeFuncNested
import Derived.RangeFuncLeaves
import Derived.RangeFuncCalls
import Derived.Shelf.Abstract
import Derived.OwnWalkIn
import Derived.TacticsInMore
import Derived.LoopNIn
import Derived.LoopIn
namespace Go.Proofs.YteckkbjpeckjmaaDoor.Cu
open Go Go.RowKit Go.Shelf
set_option maxRecDepth 100000
attribute [local go_sem] Oper.semAt_some
/-- The members of a list. -/
abbrev In {β : Type} (L : List β) := { x : β // x ∈ L }
def vals {β : Type} {L : List β} (ys : List (In L)) : List β := ys.map (·.1)
theorem vals_snoc {β : Type} {L : List β} (ys : List (In L)) (x : In L) : vals (ys ++ [x]) = vals ys ++ [x.1] := by simp [vals]
theorem vals_len {β : Type} {L : List β} (ys : List (In L)) : (vals ys).length = ys.length := by simp [vals]
theorem vals_nil {β : Type} {L : List β} : vals ([] : List (In L)) = [] := rfl
theorem range_pre {a b : Nat} (h : a ≤ b) : List.range a <+: List.range b := by
  obtain ⟨c, rfl⟩ : ∃ c, b = a + c := ⟨b - a, by omega⟩
  rw [List.range_add]
  exact List.prefix_append _ _
theorem bit8 {p k : Nat} (hp : p < 256) (hk : k < 8) : (bits .and .u8 (p : Int) ((2 : Int) ^ k % 256) != 0) = p.testBit k := by
  have h1 : 2 ^ k < 2 ^ 8 := Nat.pow_lt_pow_right (by decide) hk
  have h2 : (2 : Int) ^ k % 256 = ((2 ^ k : Nat) : Int) := by
    have : ((2 ^ k : Nat) : Int) = (2 : Int) ^ k := by exact_mod_cast rfl
    rw [← this]
    generalize 2 ^ k = m at h1
    omega
  rw [h2, u8_and_nat _ _ hp (by omega)]
  have h3 := shift_and p k
  cases hb : p.testBit k with
  | true =>
    rw [hb] at h3
    rw [bne_iff_ne]
    have : p &&& 2 ^ k ≠ 0 := by simpa using h3
    exact_mod_cast this
  | false =>
    rw [hb] at h3
    have : p &&& 2 ^ k = 0 := by simpa using h3
    rw [this]; rfl
theorem letters_any (v : Int) (w : World) :
    Calls Tryd.prog 115 #[.int .i64 v] w fun e w' => e = .returned (.func (.func 122) #[] #[.pointer (some ⟨w.heap.size, 0, none⟩)]) ∧ w' = w.alloc (.cells #[.int .i64 v] 3) := by
  go_enter Tryd.func115, Tryd.ntmps115
  go_wp2
  go_ret
  exact ⟨rfl, rfl⟩
set_option maxHeartbeats 1000000 in
theorem letters_in (n : Nat) (hn : 1 ≤ n) (l Bn v : Nat) (Kp : World → World → Prop) (hv : v ≤ 6) (J Jx : List (In (List.range (2 ^ v))) → World → Prop)
    (hY : ∀ pre x W, J pre W → pre.length < 2 ^ v → YieldAt Fence.wide (n - 1) Tryd.prog l #[.int .u8 ((x.1 : Nat) : Int)] W fun e W' =>
      (e = .returned (.bool true) ∧ J (pre ++ [x]) W' ∧ Kp W W') ∨ (e = .returned (.bool false) ∧ Jx (pre ++ [x]) W'))
    (W : World) (hBn : W.cell? ⟨Bn, 0, none⟩ = some (.int .i64 v)) (h0 : J [] W) :
    CallsIn Fence.wide n Tryd.prog 122 #[.func (.yield l) #[] #[], .pointer (some ⟨Bn, 0, none⟩)] W fun e W' => (∃ u, e = .returned u) ∧
      ((∃ ys, vals ys = List.range (2 ^ v) ∧ J ys W') ∨ (∃ pre, vals pre <+: List.range (2 ^ v) ∧ Jx pre W')) := by
  have hsh := Lib.hid (shl64 hv)
  have h64 := pow6 hv
  have HY := Lib.hid hY
  clear hY
  have hfn : ∀ f, Fence.wide.fn f := fun _ => trivial
  refine callsIn_of_wp Tryd.func122 rfl trivial ?_ rfl
  simp only [Tryd.ntmps122, List.size_toArray, List.length_cons, List.length_nil, Nat.reduceAdd, Nat.reduceSub, Array.replicate_succ, Array.replicate_zero, List.push_toArray, List.append_toArray, List.nil_append, List.cons_append]
  gi_wp2
  rw [hsh.out]
  clear hBn hsh hv
  generalize 2 ^ v = m at *
  gi_loopw [6] (fun i wr => ∃ (k : Nat) (pre : List (In (List.range m))), k ≤ m ∧ i = .int .i64 k ∧ Hid (vals pre = List.range k) ∧ J pre wr) (fun i _ => m - (intOf i).toNat)
  case atStart => exact ⟨0, [], by omega, rfl, rfl, h0⟩
  case round =>
    obtain ⟨k, pre, hk, rfl, hpre, hJ⟩ := hrel
    by_cases hlt : k < m
    · have hlen : pre.length < m := by
        rw [← vals_len, hpre.out, List.length_range]; exact hlt
      obtain ⟨fn, tmps, assign, body, hy, hR⟩ := HY.out pre ⟨k, List.mem_range.2 hlt⟩ wr hJ hlen
      have hpre' : Hid (vals (pre ++ [⟨k, List.mem_range.2 hlt⟩]) = List.range (k + 1)) := by
        show _ = _
        rw [vals_snoc, hpre.out, List.range_succ]
      dsimp only at hy
      clear hlen
      gi_wp2
      refine hR.mono ?_
      rintro e W3 (⟨rfl, hJ3, _⟩ | ⟨rfl, hJx3⟩)
      · gi_wp2
        go_roundw
        case rel => exact ⟨k + 1, _, by omega, by go_num, hpre', hJ3⟩
        case measure => simp [intOf]; omega
      · gi_wp2
        refine bodyPost_ret (results_none rfl _ _ _) rfl ?_
        refine ⟨⟨_, rfl⟩, .inr ⟨_, ?_, hJx3⟩⟩
        rw [hpre'.out]
        exact range_pre (by omega)
    · obtain rfl : k = m := by omega
      gi_wp2
      go_end0
      exact ⟨⟨_, rfl⟩, .inl ⟨_, hpre.out, hJ⟩⟩
end Go.Proofs.YteckkbjpeckjmaaDoor.Cu
