/- The iterator over the elements of a set. -/
import Derived.Test.YtnjagdocgmbmiaaDoorD
import Derived.RangeFuncKeeps
import Derived.RangeFuncLeaves
import Derived.Shelf.Abstract
import Derived.OwnWalkIn
import Derived.TacticsInMore
import Derived.LoopNIn
import Derived.LoopIn
namespace Go.Proofs.YtnjagdocgmbmiaaDoor
open Go Go.RowKit Go.Shelf
set_option maxRecDepth 100000
attribute [local go_sem] Oper.semAt_some
set_option maxHeartbeats 1000000 in
theorem iter_in (n : Nat) (hn : 1 ≤ n) (l Bn : Nat) (w0 : World) (A : Option Addr) (xs : List Nat) (c : Nat) (J Jx : List Nat → World → Prop)
    (hx : Words w0 A xs) (ux : U64 xs) (hc : xs.length ≤ c) (hT : Tab w0)
    (hY : ∀ pre x W, J pre W → pre.length < (els xs).length → YieldAt Fence.wide (n - 1) Tryd.prog l #[.int .i64 ((x : Nat) : Int)] W fun e W' =>
      (e = .returned (.bool true) ∧ J (pre ++ [x]) W' ∧ Below w0.heap.size W W') ∨ (e = .returned (.bool false) ∧ Jx (pre ++ [x]) W'))
    (W : World) (hBn : W.cell? ⟨Bn, 0, none⟩ = some (.slice A xs.length c)) (hb : Below w0.heap.size w0 W) (h0 : J [] W) :
    CallsIn Fence.wide n Tryd.prog 53 #[.func (.yield l) #[] #[], .pointer (some ⟨Bn, 0, none⟩)] W fun e W' => (∃ v, e = .returned v) ∧
      ((∃ ys, ys = els xs ∧ J ys W') ∨ (∃ pre, pre <+: els xs ∧ Jx pre W')) := by
  have lx := ulen_le64 xs
  obtain ⟨u, hu⟩ : ∃ u, u = ulen xs := ⟨_, rfl⟩
  have hu64 : u ≤ 64 := by omega
  have hul : u ≤ xs.length := by have := ulen_le xs; omega
  have HD : Hid (elsTo xs (64 * u) = els xs) := by rw [hu]; exact (els_ulen xs).symm
  have husd := used_any A xs c W (hx.below hb) hc
  rw [← hu] at husd
  have HU := Lib.hid (callsIn_wide (n := n - 1).2 husd)
  clear husd hu lx
  have HY := Lib.hid hY
  clear hY
  have hfn : ∀ f, Fence.wide.fn f := fun _ => trivial
  refine callsIn_of_wp Tryd.func53 rfl trivial ?_ rfl
  simp only [Tryd.ntmps53, List.size_toArray, List.length_cons, List.length_nil, Nat.reduceAdd, Nat.reduceSub, Array.replicate_succ, Array.replicate_zero, List.push_toArray, List.append_toArray, List.nil_append, List.cons_append]
  gi_wp2_with (gi_at_call 41; refine HU.out.mono ?_; rintro e w' ⟨rfl, rfl⟩)
  clear hBn HU
  gi_loopw [8] (fun v wr => ∃ i : Nat, i ≤ u ∧ v = .int .i64 i ∧ J (elsTo xs (64 * i)) wr ∧ Below w0.heap.size w0 wr) (fun v _ => u - (intOf v).toNat)
  case atStart => exact ⟨0, by omega, rfl, h0, hb⟩
  case round =>
    obtain ⟨i, hi, rfl, hJ, hbi⟩ := hrel
    by_cases hlt : i < u
    · obtain ⟨ad, rfl, hcell⟩ := (hx.below hbi).at_ (j := i) (by omega)
      have hw64 := ux.at_ i
      gi_wp2
      clear hcell
      obtain ⟨wo, rfl⟩ : ∃ wo : World, wo = wr := ⟨_, rfl⟩
      gi_loopw [4] (fun v wr => ∃ t r : Nat, t ≤ 64 ∧ v = .int .u64 r ∧ Hid (RestAt (wd xs i) t r) ∧ J (elsTo xs (64 * i + t)) wr ∧ Below w0.heap.size w0 wr) (fun v _ => (intOf v).toNat)
      case atStart => exact ⟨0, wd xs i, by omega, rfl, RestAt.start _, hJ, hbi⟩
      case round =>
        obtain ⟨t, r, ht, rfl, HR, hJr, hbr⟩ := hrel
        by_cases h0r : r = 0
        · subst h0r
          have HN := Lib.hid (els_next HR.out ht)
          gi_wp2
          go_roundw
          case rel => exact ⟨i + 1, by omega, by go_num, by rw [HN.out]; exact hJr, hbr⟩
          case measure => simp [intOf]; omega
        · have hs := HR.out.step h0r hw64
          have he := els_step HR.out h0r hw64
          have hr64 := HR.out.lt hw64
          have htz := callsIn_wide (n := n - 1).2 (tz_any r wr h0r hr64 (hT.below hbr))
          obtain ⟨z, hz⟩ : ∃ z, z = Lib.ctz 64 r := ⟨_, rfl⟩
          rw [← hz] at hs he htz
          clear hz
          obtain ⟨_, hz64, _, _, hR'⟩ := hs
          have hlen : (elsTo xs (64 * i + t)).length < (els xs).length := by
            have h1 := (elsTo_mono (xs := xs) (a := 64 * i + (z + 1)) (b := 4096) (by omega)).length_le
            rw [he] at h1
            simp only [List.length_append, List.length_cons, List.length_nil] at h1
            show _ < (elsTo xs 4096).length
            omega
          have hpre : elsTo xs (64 * i + (z + 1)) <+: els xs := elsTo_mono (by omega)
          obtain ⟨fn, tmps, assign, body, hy, hR⟩ := HY.out (elsTo xs (64 * i + t)) (64 * i + z) wr hJr hlen
          rw [← he] at hR
          have e1 : ((64 * i + z : Nat) : Int) = (i : Int) * 64 + z := by omega
          rw [e1] at hy
          have HT := Lib.hid htz
          have HR' := Lib.hid hR'
          have HP := Lib.hid hpre
          have hne : (((r : Int)) != 0) = true := by rw [bne_iff_ne]; omega
          have h1r : 1 ≤ r := by omega
          clear htz hR' hpre he e1 hlen h0r HR
          gi_wp2_with (gi_at_call 54; refine HT.out.mono ?_; rintro e w' ⟨rfl, rfl⟩)
          refine hR.mono ?_
          rintro e W3 (⟨rfl, hJ3, hk3⟩ | ⟨rfl, hJx3⟩)
          · have hb3 := hbr.trans hk3
            have hand : Hid (bits BinOp.and IntKind.u64 (r : Int) ((r : Int) - 1) = ((r &&& (r - 1) : Nat) : Int)) := by
              have := u64_and_nat r (r - 1) hr64 (by omega)
              rw [show ((r - 1 : Nat) : Int) = (r : Int) - 1 by omega] at this
              exact this
            gi_wp2
            rw [hand.out]
            go_roundw
            case rel => exact ⟨z + 1, r &&& (r - 1), by omega, rfl, HR'.out, hJ3, hb3⟩
            case measure =>
              have := and_pred_lt (r := r) (by omega)
              simp only [intOf, Int.toNat_natCast]
              exact this
          · gi_wp2
            refine bodyPost_ret (results_none rfl _ _ _) rfl ?_
            exact ⟨⟨_, rfl⟩, .inr ⟨_, HP.out, hJx3⟩⟩
    · obtain rfl : i = u := by omega
      gi_wp2
      go_end0
      exact ⟨⟨_, rfl⟩, .inl ⟨_, rfl, by rw [← HD.out]; exact hJ⟩⟩
theorem elements_any (A : Option Addr) (m c : Nat) (w : World) :
    Calls Tryd.prog 40 #[.slice A m c] w fun e w' => e = .returned (.func (.func 53) #[] #[.pointer (some ⟨w.heap.size, 0, none⟩)]) ∧ w' = w.alloc (.cells #[.slice A m c] 23) := by
  go_enter Tryd.func40, Tryd.ntmps40
  go_wp2
  go_ret
  exact ⟨rfl, rfl⟩
theorem iter_stops (n : Nat) (hn : 1 ≤ n) (Bn : Nat) (w0 w : World) (A : Option Addr) (xs : List Nat) (c : Nat)
    (hx : Words w0 A xs) (ux : U64 xs) (hc : xs.length ≤ c) (hT : Tab w0) (hb : Below w0.heap.size w0 w) (hB : Bn < w.heap.size) (hBn : w.cell? ⟨Bn, 0, none⟩ = some (.slice A xs.length c)) :
    SeqStopsK Fence.wide n Tryd.prog 53 #[.pointer (some ⟨Bn, 0, none⟩)] (fun x : Nat => #[Value.int .i64 (x : Int)]) (Below w0.heap.size) (fun ys => ys = els xs) (fun pre => pre <+: els xs) (els xs).length w :=
  fun l J Jx W hW _ _ hY h0 => iter_in n hn l Bn w0 A xs c J Jx hx ux hc hT hY W ((hW.cell (p := ⟨Bn, 0, none⟩) hB).trans hBn) (hb.trans (hW.mono hb.size)) h0
end Go.Proofs.YtnjagdocgmbmiaaDoor
