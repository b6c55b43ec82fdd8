/- The iterator over literals; small words (package cube). -/
import Derived.Test.YteckkbjpeckjmaaYH
import Derived.Test.YteckkbjpeckjmaaCE
import Derived.RangeFuncNested
import Derived.RangeFuncLeaves
import Derived.RangeFuncCalls
import Derived.Shelf.Abstract
import Derived.OwnWalkIn
import Derived.TacticsInMore
import Derived.LoopNIn
import Derived.LoopIn
import Derived.RangeFuncBox
import Derived.RangeFuncWrites
import Derived.Maps.AppendAt
import Derived.Deep.RegionHeld3
namespace Go.Proofs.Yteckkbjpeckjmaa
open Go Go.RowKit Go.Shelf Go.Proofs.Yteckkbjpeckjmaa.Cb
set_option maxRecDepth 100000
attribute [local go_sem] Oper.semAt_some
/-- The members of a list. -/
abbrev In {β : Type} (L : List β) := { x : β // x ∈ L }
def vals {β : Type} {L : List β} (ys : List (In L)) : List β := ys.map (·.1)
theorem vals_snoc {β : Type} {L : List β} (ys : List (In L)) (x : In L) : vals (ys ++ [x]) = vals ys ++ [x.1] := by simp [vals]
theorem vals_len {β : Type} {L : List β} (ys : List (In L)) : (vals ys).length = ys.length := by simp [vals]
theorem vals_nil {β : Type} {L : List β} : vals ([] : List (In L)) = [] := rfl
theorem range_pre {a b : Nat} (h : a ≤ b) : List.range a <+: List.range b := by
  obtain ⟨c, rfl⟩ : ∃ c, b = a + c := ⟨b - a, by omega⟩
  rw [List.range_add]
  exact List.prefix_append _ _
theorem bit8 {p k : Nat} (hp : p < 256) (hk : k < 8) : (bits .and .u8 (p : Int) ((2 : Int) ^ k % 256) != 0) = p.testBit k := by
  have h1 : 2 ^ k < 2 ^ 8 := Nat.pow_lt_pow_right (by decide) hk
  have h2 : (2 : Int) ^ k % 256 = ((2 ^ k : Nat) : Int) := by
    have : ((2 ^ k : Nat) : Int) = (2 : Int) ^ k := by exact_mod_cast rfl
    rw [← this]
    generalize 2 ^ k = m at h1
    omega
  rw [h2, u8_and_nat _ _ hp (by omega)]
  have h3 := shift_and p k
  cases hb : p.testBit k with
  | true =>
    rw [hb] at h3
    rw [bne_iff_ne]
    have : p &&& 2 ^ k ≠ 0 := by simpa using h3
    exact_mod_cast this
  | false =>
    rw [hb] at h3
    have : p &&& 2 ^ k = 0 := by simpa using h3
    rw [this]; rfl
theorem literals_any (p q : Nat) (w : World) :
    Calls Try.prog 106 #[.agg #[.int .u8 p, .int .u8 q]] w fun e w' => e = .returned (.func (.func 139) #[] #[.pointer (some ⟨w.heap.size, 0, none⟩)]) ∧ w' = w.alloc (.cells #[.int .u8 p, .int .u8 q] 103) := by
  go_enter Try.func106, Try.ntmps106
  go_wp2
  go_ret
  exact ⟨rfl, rfl⟩
set_option maxHeartbeats 1000000 in
theorem literals_in (n : Nat) (hn : 1 ≤ n) (l Bn p q : Nat) (Kp : World → World → Prop) (hp : p < 256) (hq : q < 256) (hBl : ∀ {A B : World}, Kp A B → B.heap[Bn]? = A.heap[Bn]?) (J Jx : List (In (lits p q)) → World → Prop)
    (hY : ∀ pre x W, J pre W → pre.length < (lits p q).length → YieldAt Fence.wide (n - 1) Try.prog l #[.int .i64 ((x.1.1 : Nat) : Int), .bool x.1.2] W fun e W' =>
      (e = .returned (.bool true) ∧ J (pre ++ [x]) W' ∧ Kp W W') ∨ (e = .returned (.bool false) ∧ Jx (pre ++ [x]) W'))
    (W : World) (hB0 : W.cell? ⟨Bn, 0, none⟩ = some (.int .u8 p)) (hB1 : W.cell? ⟨Bn, 1, none⟩ = some (.int .u8 q)) (h0 : J [] W) :
    CallsIn Fence.wide n Try.prog 139 #[.func (.yield l) #[] #[], .pointer (some ⟨Bn, 0, none⟩)] W fun e W' => (∃ u, e = .returned u) ∧
      ((∃ ys, vals ys = lits p q ∧ J ys W') ∨ (∃ pre, vals pre <+: lits p q ∧ Jx pre W')) := by
  have HY := Lib.hid hY
  clear hY
  have hor := u8_or_nat p q hp hq
  have hfn : ∀ f, Fence.wide.fn f := fun _ => trivial
  refine callsIn_of_wp Try.func139 rfl trivial ?_ rfl
  simp only [Try.ntmps139, List.size_toArray, List.length_cons, List.length_nil, Nat.reduceAdd, Nat.reduceSub, Array.replicate_succ, Array.replicate_zero, List.push_toArray, List.append_toArray, List.nil_append, List.cons_append]
  gi_wp2
  gi_loopw [5] (fun i wr => ∃ (k : Nat) (pre : List (In (lits p q))), k ≤ 6 ∧ i = .int .i64 k ∧ Hid (vals pre = litTo p q k) ∧ J pre wr ∧ wr.cell? ⟨Bn, 0, none⟩ = some (.int .u8 p) ∧ wr.cell? ⟨Bn, 1, none⟩ = some (.int .u8 q)) (fun i _ => 6 - (intOf i).toNat)
  case atStart => exact ⟨0, [], by omega, rfl, rfl, h0, hB0, hB1⟩
  case round =>
    obtain ⟨k, pre, hk, rfl, hpre, hJ, hc0, hc1⟩ := hrel
    by_cases hlt : k < 6
    · obtain ⟨b, hb⟩ : ∃ b, p.testBit k = b := ⟨_, rfl⟩
      have e1 := bit8 (or_lt8 hp hq) (show k < 8 by omega)
      have e2 := bit8 hp (show k < 8 by omega)
      by_cases hl : litB p q k = true
      · rw [show (p ||| q).testBit k = true from hl] at e1
        rw [hb] at e2
        have hts := litTo_succ hl
        rw [hb] at hts
        have hmem : (k, b) ∈ lits p q := mem_lits.2 ⟨hlt, hl, hb.symm⟩
        have hlen : pre.length < (lits p q).length := by
          have h1 := (litTo_mono p q (k + 1) (b := 6) (by omega)).length_le
          rw [hts, List.length_append, List.length_singleton, ← hpre.out, vals_len] at h1
          show _ < (litTo p q 6).length
          omega
        obtain ⟨fn, tmps, assign, body, hy, hR⟩ := HY.out pre ⟨(k, b), hmem⟩ wr hJ hlen
        dsimp only at hy
        have hpre' : Hid (vals (pre ++ [⟨(k, b), hmem⟩]) = litTo p q (k + 1)) := by
          show _ = _
          rw [vals_snoc, hpre.out, hts]
        clear hlen hts hb hl
        gi_wp2
        refine hR.mono ?_
        rintro e W3 (⟨rfl, hJ3, hk3⟩ | ⟨rfl, hJx3⟩)
        · gi_wp2
          go_roundw
          case rel => exact ⟨k + 1, _, by omega, by go_num, hpre', hJ3, (World.cell?_of_block (w := wr) (hBl hk3)).trans hc0, (World.cell?_of_block (w := wr) (hBl hk3)).trans hc1⟩
          case measure => simp [intOf]; omega
        · gi_wp2
          refine bodyPost_ret (results_none rfl _ _ _) rfl ?_
          refine ⟨⟨_, rfl⟩, .inr ⟨_, ?_, hJx3⟩⟩
          rw [hpre'.out]
          exact litTo_mono p q _ (by omega)
      · have hl' : litB p q k = false := by simpa using hl
        rw [show (p ||| q).testBit k = false from hl'] at e1
        have hpre' : Hid (vals pre = litTo p q (k + 1)) := by
          show _ = _
          rw [hpre.out, litTo_same hl']
        clear hl hl' hb e2
        gi_wp2
        go_roundw
        case rel => exact ⟨k + 1, _, by omega, by go_num, hpre', hJ, hc0, hc1⟩
        case measure => simp [intOf]; omega
    · obtain rfl : k = 6 := by omega
      gi_wp2
      go_end0
      exact ⟨⟨_, rfl⟩, .inl ⟨_, hpre.out, hJ⟩⟩
theorem info_u8 : (Try.prog.info? 5).map (fun i => (i.zero, i.size, i.bytes)) = some (some (.int .u8 0), 1, 1) := by kernel_rfl
/-- Numbers as cells of bytes. -/
def bvs (l : List Nat) : List Value := l.map fun x : Nat => .int .u8 (x : Int)
theorem bvs_snoc (l : List Nat) (x : Nat) : bvs (l ++ [x]) = bvs l ++ [.int .u8 (x : Int)] := by simp [bvs]
theorem literals_stops (n : Nat) (hn : 1 ≤ n) (Bn p q : Nat) (Kp : World → World → Prop) (hp : p < 256) (hq : q < 256) (hBl : ∀ {A B : World}, Kp A B → B.heap[Bn]? = A.heap[Bn]?) (w : World) (hB : w.heap[Bn]? = some (.cells #[.int .u8 p, .int .u8 q] 103 (0, 0))) :
    SeqStopsK Fence.wide n Try.prog 139 #[.pointer (some ⟨Bn, 0, none⟩)] (fun x : In (lits p q) => #[Value.int .i64 ((x.1.1 : Nat) : Int), Value.bool x.1.2]) Kp (fun ys => vals ys = lits p q) (fun pre => vals pre <+: lits p q) (lits p q).length w :=
  fun l J Jx W hW _ _ hY h0 => literals_in n hn l Bn p q Kp hp hq hBl J Jx hY W ((hW.cell (p := ⟨Bn, 0, none⟩) (Array.getElem?_eq_some_iff.1 hB).1).trans (by simp [World.cell?, hB])) ((hW.cell (p := ⟨Bn, 1, none⟩) (Array.getElem?_eq_some_iff.1 hB).1).trans (by simp [World.cell?, hB])) h0
/-- The slice that begins at A holds the bytes l. -/
def Bys (w : World) (A : Option Addr) (l : List Nat) : Prop := Vals w A l.length fun j => .int .u8 (wd l j : Nat)
theorem Bys.below {w w' : World} {A : Option Addr} {l : List Nat} (h : Bys w A l) (hb : Below w.heap.size w w') : Bys w' A l := Vals.below h hb
theorem own_form {w : World} {base e size n : Nat} {v : Value} {xs : List Value} (h : w.ownsRow base e size v n xs) : ∃ A c, v = .slice A n c ∧ n ≤ c := by
  rcases h.2 with ⟨rfl, rfl⟩ | ⟨g, cap, cur, rfl, _, _, h1, _⟩
  · exact ⟨none, 0, rfl, Nat.le_refl _⟩
  · exact ⟨_, _, rfl, h1⟩
theorem own_bys {w : World} {base : Nat} {A : Option Addr} {c n : Nat} {l : List Nat} (h : w.ownsRow base 5 1 (.slice A n c) n (bvs l)) (hn : n = l.length) : Bys w A l := by
  subst hn
  exact Vals.of_own h fun j hj => by simp [bvs, wd, hj]
theorem addr_add (b j : Nat) : (⟨b, 0, none⟩ : Addr).add j = ⟨b, j, none⟩ := by
  unfold Addr.add
  split
  · rename_i h; rw [h]
  · simp
theorem vals_new_ (W : World) (t : TypeId) (n : Nat) (f : Nat → Value) (xs : List Value) (hf : ∀ j, j < n → xs[j]? = some (f j)) : Vals (W.alloc (.cells xs.toArray t)) (some ⟨W.heap.size, 0, none⟩) n f := by
  intro j hj
  refine ⟨_, rfl, by simp, ?_⟩
  rw [addr_add, World.cell?_alloc_at _ _ _ _ rfl]
  simp [hf j hj]
theorem bys_new (W : World) (t : TypeId) (l : List Nat) : Bys (W.alloc (.cells (bvs l).toArray t)) (some ⟨W.heap.size, 0, none⟩) l :=
  vals_new_ W t _ _ _ fun j hj => by simp [bvs, wd, hj]
theorem wd_ext {xs ys : List Nat} (h : xs.length = ys.length) (hk : ∀ i, i < xs.length → wd xs i = wd ys i) : xs = ys := by
  apply List.ext_getElem h
  intro i h1 h2
  have := hk i h1
  simpa [wd, h1, h2] using this
theorem drewN_below (w : World) (n : Nat) : Below w.heap.size w (w.drewN n) := ⟨rfl, rfl, rfl, Nat.le_refl _, fun _ _ => rfl⟩
end Go.Proofs.Yteckkbjpeckjmaa
