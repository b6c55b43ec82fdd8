/- region: the letters of a cube as bits. -/
import Derived.Test.YtjjdhegkcilaiaaDoorCG
import Derived.Test.YtjjdhegkcilaiaaDoorCL
import Derived.Shelf.RegionOpen
namespace Go.Proofs.YtjjdhegkcilaiaaDoor
open Go Go.RowKit Go.Shelf
set_option maxRecDepth 100000
attribute [local go_sem] Oper.semAt_some
/-- The table of package cube in its variable. -/
def HavT (w : World) : Prop := 0 < w.heap.size ∧ ∀ k, k < 6 → w.cell? ⟨0, k, none⟩ = some (.int .u64 (hav k : Nat))
theorem HavT.below {w w' : World} (h : HavT w) (hb : Below w.heap.size w w') : HavT w' :=
  ⟨Nat.lt_of_lt_of_le h.1 hb.size, fun k hk => (hb.cell (p := ⟨0, k, none⟩) h.1).trans (h.2 k hk)⟩
theorem mixed : Tryd.prog.follows .mixedOrders = true := by kernel_rfl
theorem full_eqs : ∀ v, v < 7 → IntKind.u64.wrap (IntKind.u64.wrap ((2 : Int) ^ min (IntKind.u64.wrap ((2 : Int) ^ v)).toNat 64) - 1) = ((full v : Nat) : Int) := by decide +kernel
theorem full_eq {v : Nat} (h : v ≤ 6) : IntKind.u64.wrap (IntKind.u64.wrap ((2 : Int) ^ min (IntKind.u64.wrap ((2 : Int) ^ v)).toNat 64) - 1) = ((full v : Nat) : Int) := full_eqs v (by omega)
set_option maxHeartbeats 2000000 in
theorem region_in (n : Nat) (hn : 4 ≤ n) (p q v : Nat) (w : World) (hC : Cube p q v) (hT : HavT w) :
    CallsIn Fence.wide n Tryd.prog 75 #[.agg #[.int .u8 p, .int .u8 q], .int .i64 v] w fun e w' =>
      e = .returned (.int .u64 (regN v p q : Nat)) ∧ Below w.heap.size w w' := by
  have hfn : ∀ f, Fence.wide.fn f := fun _ => trivial
  have h1 : 1 ≤ n := by omega
  have hlt := hC.lt
  have hp : p < 256 := by omega
  have hq : q < 256 := by omega
  have hv := hC.1
  have h64 := pow6 hv
  refine callsIn_of_wp_marks Tryd.func75 rfl trivial ?_ rfl
  simp only [Tryd.ntmps75, List.size_toArray, List.length_cons, List.length_nil, Nat.reduceAdd, Nat.reduceSub, Array.replicate_succ, Array.replicate_zero, List.push_toArray, List.append_toArray, List.nil_append, List.cons_append]
  gi_wp2_with (gi_at_call 62; refine (callsIn_wide.2 (literals_any _ _ _)).mono ?_; rintro e w' ⟨rfl, rfl⟩)
  rw [full_eq hv]
  generalize IntKind.u64.wrap ((2 : Int) ^ min (IntKind.u64.wrap ((2 : Int) ^ v)).toNat 64) = g10
  generalize IntKind.u64.wrap ((2 : Int) ^ v) = g9
  have bR := (Boxed.new (w.alloc (.cells #[.int .u8 p, .int .u8 q] 42)) 78 (.int .u64 (full v : Nat))).alloc (.cells #[.int .u8 p, .int .u8 q] 42)
  have bN := World.alloc_heap_new ((w.alloc (.cells #[.int .u8 p, .int .u8 q] 42)).alloc (.cells #[.int .u64 (full v : Nat)] 78)) (.cells #[.int .u8 (p : Nat), .int .u8 (q : Nat)] 42)
  simp only [World.size_alloc] at bR bN
  have hx0 : Below w.heap.size w (((w.alloc (.cells #[.int .u8 p, .int .u8 q] 42)).alloc (.cells #[.int .u64 (full v : Nat)] 78)).alloc (.cells #[.int .u8 p, .int .u8 q] 42)) := bal (bal (bal (Below.refl _ _) _) _) _
  have hsz : (((w.alloc (.cells #[.int .u8 p, .int .u8 q] 42)).alloc (.cells #[.int .u64 (full v : Nat)] 78)).alloc (.cells #[.int .u8 p, .int .u8 q] 42)).heap.size = w.heap.size + 3 := by simp
  obtain ⟨W0, hW0⟩ : ∃ W0, ((w.alloc (.cells #[.int .u8 p, .int .u8 q] 42)).alloc (.cells #[.int .u64 (full v : Nat)] 78)).alloc (.cells #[.int .u8 p, .int .u8 q] 42) = W0 := ⟨_, rfl⟩
  rw [hW0] at bR bN hx0 hsz ⊢
  clear hW0
  refine wpIn_rangeFunc_ownG rfl h1 (gf := 84) (lb := #[.pointer (some ⟨w.heap.size + 1 + 1, 0, none⟩)]) rfl trivial (enters_of Tryd.func84 (by kernel_rfl) rfl)
    (literals_stops (n - 1) (by omega) (w.heap.size + 1 + 1) p q (Exc [w.heap.size + 1] W0.heap.size) hp hq (fun h => h.block _ (by omega) (by simp)) W0 bN) excK_t (excK_b (Nat.le_refl _)) (Below.refl _ _) (fun _ => rfl)
    (fun pre W => Boxed W (w.heap.size + 1) 78 (.int .u64 (regF v (vals pre) : Nat)) ∧ Exc [w.heap.size + 1] W0.heap.size W0 W)
    (fun _ _ _ => False)
    (OwnFrom.and (Own.from (boxed_own _ _ _) _) (ownFrom_exc (Nat.le_refl _) (Nat.le_refl _)))
    (fun _ _ _ _ _ hs _ _ => hs)
    ⟨bR, Exc.refl _ _ _⟩
    (fun x => { tmps := #[.agg #[.int .u8 p, .int .u8 q], .int .i64 v, .pointer (some ⟨w.heap.size, 0, none⟩), undef, .int .u64 0, .pointer (some ⟨w.heap.size + 1, 0, none⟩), .int .i64 ((x.1.1 : Nat) : Int), .bool x.1.2, .int .i64 v, .int .u64 g9, .int .u64 g10, .int .u64 (full v : Nat), .agg #[.int .u8 p, .int .u8 q], .func (.func 84) #[] #[.pointer (some ⟨w.heap.size + 1 + 1, 0, none⟩)], .int .i64 ((x.1.1 : Nat) : Int), .bool x.1.2, undef, undef, undef, undef, undef, undef, undef, undef, undef, undef, undef, undef], defers := [] }) ?assign ?body ?done ?stop
  case assign =>
    intro l x W K hK
    gi_wp2
    exact hK
  case body =>
    rintro l pre ⟨⟨k, val⟩, hx⟩ W ⟨hR, hE⟩ _
    have hk6 : k < 6 := (mem_lits.1 hx).1
    have hrl : regF v (vals pre) < 18446744073709551616 := Nat.lt_of_le_of_lt (regF_le _ _) (full_lt hv)
    have hF : Hid (regF v (vals (pre ++ [⟨(k, val), hx⟩])) = regStep (regF v (vals pre)) (k, val)) := by
      show _ = _
      rw [vals_snoc, regF_snoc]
    have hT' := hT.below (hx0.trans (hE.below (by omega) (by simp)))
    have cT := hT'.2 k hk6
    have cR := hR.cell
    have fR := hR.frozen
    have i0 : (0 : Int) ≤ (k : Int) := by omega
    have i1 : (k : Int) < 6 := by omega
    cases val with
    | true =>
      have hA : Hid (bits .and .u64 ((regF v (vals pre) : Nat) : Int) ((hav k : Nat) : Int) = ((regStep (regF v (vals pre)) (k, true) : Nat) : Int)) := by
        show _ = _
        rw [u64_and_nat _ _ hrl (hav_lt hk6)]; rfl
      clear hrl hT'
      generalize hav k = hk at *
      have hmx := mixed
      gi_wp2
      gi_region_with_o (fail)
      all_goals
        gi_wp2
        have hE1 := ((Exc.refl [w.heap.size + 1] W0.heap.size W).setCell (p := ⟨w.heap.size + 1, 0, none⟩) (.inl List.mem_cons_self) (.int .u64 (bits .and .u64 ((regF v (vals pre) : Nat) : Int) (hk : Nat)))).drew
        refine ⟨((KeepsOthers.setCell _ _ _).trans (KeepsOthers.drew _)).from _, hE1, ?_, hE.trans hE1⟩
        rw [hF.out, ← hA.out]
        exact hR.set _
    | false =>
      have hA : Hid (bits .andNot .u64 ((regF v (vals pre) : Nat) : Int) ((hav k : Nat) : Int) = ((regStep (regF v (vals pre)) (k, false) : Nat) : Int)) := by
        show _ = _
        rw [u64_andNot_nat _ _ hrl (hav_lt hk6)]; rfl
      clear hrl hT'
      generalize hav k = hk at *
      have hmx := mixed
      gi_wp2
      gi_region_with_o (fail)
      all_goals
        gi_wp2
        have hE1 := ((Exc.refl [w.heap.size + 1] W0.heap.size W).setCell (p := ⟨w.heap.size + 1, 0, none⟩) (.inl List.mem_cons_self) (.int .u64 (bits .andNot .u64 ((regF v (vals pre) : Nat) : Int) (hk : Nat)))).drew
        refine ⟨((KeepsOthers.setCell _ _ _).trans (KeepsOthers.drew _)).from _, hE1, ?_, hE.trans hE1⟩
        rw [hF.out, ← hA.out]
        exact hR.set _
  case done =>
    rintro D ys W hD hys ⟨hR, hE⟩ hK
    have hF : Hid (regF v (vals ys) = regN v p q) := by show _ = _; rw [hys]; rfl
    have cR := hR.cell
    clear hys
    gi_wp2
    refine ⟨by simp, .inl ⟨_, _, rfl, run_takeDeferred hK, ?_⟩⟩
    rw [hF.out]
    exact ⟨_, results_tmp rfl _ _ _, rfl, (hx0.trans (hE.below (by omega) (by simp))).trans (belowK_b (w := W0) (by omega) W D _ _ hD hK rfl rfl)⟩
  case stop =>
    rintro D c pre W _ _ h _
    exact h.elim
theorem region_any (p q v : Nat) (w : World) (hC : Cube p q v) (hT : HavT w) :
    Calls Tryd.prog 75 #[.agg #[.int .u8 p, .int .u8 q], .int .i64 v] w fun e w' =>
      e = .returned (.int .u64 (regN v p q : Nat)) ∧ Below w.heap.size w w' :=
  callsIn_wide.1 (region_in 4 (by omega) p q v w hC hT)
end Go.Proofs.YtjjdhegkcilaiaaDoor
