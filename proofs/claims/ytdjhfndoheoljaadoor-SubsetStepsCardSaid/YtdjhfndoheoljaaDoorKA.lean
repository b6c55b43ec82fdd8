/- The walk of SubsetSteps. -/
import Derived.Test.YtdjhfndoheoljaaDoorJW
namespace Go.Proofs.YtdjhfndoheoljaaDoor.Sb
open Go Go.RowKit Go.Proofs.YtdjhfndoheoljaaDoor Go.Proofs.YtdjhfndoheoljaaDoor.Cb
open Go.Proofs.YtdjhfndoheoljaaDoor.Nf (bvs own_bys Bys wordE drew_below)
open Go.Proofs.YtdjhfndoheoljaaDoor.Dg (Tabs tb tb_mem)
set_option linter.unusedVariables false
set_option linter.unusedSimpArgs false
set_option maxRecDepth 100000
theorem info_u8S : (Tryd.prog.info? 5).map (fun i => (i.zero, i.size, i.bytes)) = some (some (.int .u8 0), 1, 1) := by kernel_rfl
theorem bvs_rangeS (l : List Nat) : (List.range l.length).map (fun j => Value.int .u8 (wd l j : Nat)) = bvs l := by
  apply List.ext_getElem
  · simp [bvs]
  · intro j h1 h2
    have : j < l.length := by simpa using h1
    simp [bvs, wd, this]
theorem zero_wrongD {d : Da} (hO : OkD d) {l : List Nat} (h64 : l.length ≤ 64) (hlt : ∀ y ∈ l, y < 2 ^ d.V.toNat) : wrongD d l = 0 := by
  unfold wrongD
  rw [if_neg (by have := okD_chk hO; omega)]
  unfold wordE
  rw [if_neg (by omega), if_pos (List.all_eq_true.2 fun y hy => decide_eq_true (hlt y hy))]
theorem steps_facts {d : Da} {lv lw : List Nat} (h : wrongD d (lv ++ lw) = 0) : ∃ q s : Nat, runD d (lv ++ lw) = s ∧ s < d.fi.length ∧ (wrongD d lv = 0 ∧ runD d lv = q) ∧ (wrongD ⟨d.V, q, d.nx, d.fi⟩ lw = 0 ∧ runD ⟨d.V, q, d.nx, d.fi⟩ lw = s) ∧ accD d (lv ++ lw) = d.fi.getD s false := by
  obtain ⟨hO, h64, hlt⟩ := wrongD_zero h
  rw [List.length_append] at h64
  have hlv : ∀ y ∈ lv, y < 2 ^ d.V.toNat := fun y hy => hlt y (List.mem_append_left _ hy)
  have hlw : ∀ y ∈ lw, y < 2 ^ d.V.toNat := fun y hy => hlt y (List.mem_append_right _ hy)
  have hq := hO.sq.run hO.q0 hlv
  have hs := hO.sq.run hO.q0 hlt
  obtain ⟨q, eq⟩ := Int.eq_ofNat_of_zero_le hq.1
  obtain ⟨s, es⟩ := Int.eq_ofNat_of_zero_le hs.1
  have hv : wrongD d lv = 0 := zero_wrongD hO (by omega) hlv
  have hO2 : OkD ⟨d.V, q, d.nx, d.fi⟩ := ⟨hO.v0, hO.v6, hO.n0, hO.n4, hO.fi, by show 0 ≤ (q : Int) ∧ (q : Int) < _; rw [← eq]; exact hq, hO.row⟩
  have hw : wrongD ⟨d.V, q, d.nx, d.fi⟩ lw = 0 := zero_wrongD hO2 (by omega) hlw
  refine ⟨q, s, ?_, ?_, ⟨hv, ?_⟩, ⟨hw, ?_⟩, ?_⟩
  · unfold runD; rw [if_pos h, es]
  · rw [hO.fi]; omega
  · unfold runD; rw [if_pos hv, eq]
  · unfold runD; rw [if_pos hw]; show runT d.nx (q : Int) lw = _; rw [← eq, ← runT_app, es]
  · unfold accD; rw [if_pos h, es]; rfl
section
variable (d : Da) (A B : Option Addr) (a b : Nat) (Dv : Option Addr) (lv : List Nat) (dv : Nat) (Dw : Option Addr) (lw : List Nat) (dw : Nat) (w : World)
set_option maxHeartbeats 8000000 in
theorem subsetSteps_walk (hx : DaAt w d A B) (m1 : d.nx.length ≤ maxLen) (m2 : d.fi.length ≤ maxLen) (m3 : ∀ r ∈ d.nx, r.length ≤ maxLen)
    (hv : Bys w Dv lv) (hv8 : ∀ y ∈ lv, y < 256) (mv : lv.length ≤ 140737488351232) (hw : Bys w Dw lw) (hw8 : ∀ y ∈ lw, y < 256) (mw : lw.length ≤ 140737488351232) (hT : Tabs2 w) :
    Calls Tryd.prog 10 #[.agg #[.int .i64 d.V, .int .i64 d.q0, .slice A d.nx.length a, .slice B d.fi.length b], .slice Dv lv.length dv, .slice Dw lw.length dw] w fun e w' => e = .returned (.bool true) ∧ Below w.heap.size w w' := by
  have HAw := Lib.hid fun X (hX : Below w.heap.size w X) => awake_any7 X (hT.below hX)
  have HLo : Hid (∀ X (hX : Below w.heap.size w X) g, g = X.heap.size → Calls Tryd.prog 14 #[.slice (some ⟨g, 0, none⟩) 1 1] (X.alloc (.cells #[.int .i64 d.V, .int .i64 d.q0, .slice A d.nx.length a, .slice B d.fi.length b] 25)) fun e w' => e = .returned (.bool (longD d)) ∧ Below X.heap.size X w') := fun X hX g hg => by
    subst hg
    exact Long7_any d A B a b X (hx.below hX) m1 m2 m3
  have hB0 := Blk4.new w (.int .i64 d.V) (.int .i64 d.q0) (.slice A d.nx.length a) (.slice B d.fi.length b)
  have hb0 := bal (Below.refl w.heap.size w) (.cells #[.int .i64 d.V, .int .i64 d.q0, .slice A d.nx.length a, .slice B d.fi.length b] 25)
  have hwr : IntKind.i64.wrap ((lv.length : Int) + (lw.length : Int)) = ((lv.length + lw.length : Nat) : Int) := by rw [IntKind.wrap_i64]; omega
  by_cases hlong : longD d = true ∨ 100 < lv.length + lw.length
  · have hor : (longD d = true) ∨ (longD d = false ∧ decide ((100 : Int) < ((lv.length + lw.length : Nat) : Int)) = true) := by
      cases hc : longD d with
      | true => exact .inl rfl
      | false => exact .inr ⟨rfl, decide_eq_true (by rcases hlong with h | h; (rw [hc] at h; cases h); omega)⟩
    clear hlong hx m1 m2 m3 hv hv8 hw hw8
    obtain ⟨z0, z1, z2, z3⟩ := hB0.cells
    generalize lv.length = nv at *
    generalize lw.length = nw at *
    generalize longD d = L at *
    generalize nv + nw = nvw at *
    rcases hor with rfl | ⟨rfl, hd⟩
    all_goals
      go_enter Tryd.func10, Tryd.ntmps10
      go_wp2_with (first
        | (go_at_call 14; ((with_reducible refine (HLo.out _ hb0 _ (by simp)).mono ?_); rintro e w2 ⟨rfl, hb2⟩); replace hb0 := stepB hb0 hb2)
        | (go_at_call 15; ((with_reducible refine (HAw.out _ hb0).mono ?_); rintro e w3 ⟨rfl, hb3⟩)))
      go_ret
      exact ⟨rfl, stepB hb0 hb3⟩
  have hL : longD d = false := by
    cases hc : longD d with
    | true => exact absurd (.inl hc) hlong
    | false => rfl
  have hsum : lv.length + lw.length ≤ 100 := by omega
  have hd1 : decide ((100 : Int) < ((lv.length + lw.length : Nat) : Int)) = false := decide_eq_false (by omega)
  have hlen := longD_len hL
  rw [hL] at HLo
  clear hlong hL m1 m2 m3
  have h8 : ∀ y ∈ lv ++ lw, y < 256 := fun y hy => (List.mem_append.1 hy).elim (hv8 y) (hw8 y)
  have hlall : (lv ++ lw).length = lv.length + lw.length := List.length_append
  obtain ⟨i0, hi0, hz0, hz1, hz2⟩ := info_parts info_u8S
  have HBw : Hid (∀ X, Below w.heap.size w X → Vals X Dw lw.length fun j => .int .u8 (wd lw j : Nat)) := fun X hX => hw.below hX
  have HBv : Hid (∀ X, Below w.heap.size w X → Vals X Dv lv.length fun j => .int .u8 (wd lv j : Nat)) := fun X hX => hv.below hX
  have HBall : Hid (∀ X A1 c1 B1, X.ownsRow B1 5 1 (.slice A1 (lv.length + lw.length) c1) (lv.length + lw.length) (bvs (lv ++ lw)) → Bys X A1 (lv ++ lw)) := fun X A1 c1 B1 h => own_bys h hlall.symm
  have HX1 := Lib.hid (bvs_rangeS lv)
  have HX2 : Hid (bvs lv ++ bvs lw = bvs (lv ++ lw)) := by unfold bvs; exact (List.map_append ..).symm
  have HX3 := Lib.hid (bvs_rangeS lw)
  have HR1 : Hid (∀ X, Below w.heap.size w X → ∀ D c, Bys X D (lv ++ lw) → Calls Tryd.prog 21 #[.agg #[.int .i64 d.V, .int .i64 d.q0, .slice A d.nx.length a, .slice B d.fi.length b], .slice D (lv.length + lw.length) c] X fun e w' => e = .returned (.tuple #[.int .i64 (runD d (lv ++ lw)), .int .i64 (wrongD d (lv ++ lw))]) ∧ Below X.heap.size X w') := fun X hX D c hD => by
    have := RunD_any d A B a b X (hx.below hX) hlen D (lv ++ lw) c hD h8 (by omega)
    rwa [hlall] at this
  by_cases hwr0 : wrongD d (lv ++ lw) = 0
  · obtain ⟨q, s, hs1, hs2, ⟨hv1, hv2⟩, ⟨hw1, hw2⟩, hac⟩ := steps_facts hwr0
    rw [hs1, hwr0] at HR1
    have HRv : Hid (∀ X, Below w.heap.size w X → Calls Tryd.prog 21 #[.agg #[.int .i64 d.V, .int .i64 d.q0, .slice A d.nx.length a, .slice B d.fi.length b], .slice Dv lv.length dv] X fun e w' => e = .returned (.tuple #[.int .i64 (q : Int), .int .i64 0]) ∧ Below X.heap.size X w') := fun X hX => by
      have := RunD_any d A B a b X (hx.below hX) hlen Dv lv dv (hv.below hX) hv8 (by omega)
      rwa [hv1, hv2] at this
    have HRr : Hid (∀ Y A' B' a' b', DaAt Y d A' B' → ∀ X, Below w.heap.size w X → Below Y.heap.size Y X → Calls Tryd.prog 21 #[.agg #[.int .i64 d.V, .int .i64 (q : Int), .slice A' d.nx.length a', .slice B' d.fi.length b'], .slice Dw lw.length dw] X fun e w' => e = .returned (.tuple #[.int .i64 (s : Int), .int .i64 0]) ∧ Below X.heap.size X w') := fun Y A' B' a' b' hY X hX hYX => by
      have := RunD_any ⟨d.V, q, d.nx, d.fi⟩ A' B' a' b' X ⟨hY.nx.below hYX, hY.fi.below hYX⟩ ⟨hlen.nx, hlen.fi, hlen.row⟩ Dw lw dw (hw.below hX) hw8 (by omega)
      rwa [hw1, hw2] at this
    have HAc : Hid (∀ X, Below w.heap.size w X → ∀ D c, Bys X D (lv ++ lw) → Calls Tryd.prog 22 #[.agg #[.int .i64 d.V, .int .i64 d.q0, .slice A d.nx.length a, .slice B d.fi.length b], .slice D (lv.length + lw.length) c] X fun e w' => e = .returned (.tuple #[.bool (d.fi.getD s false), .int .i64 0]) ∧ Below X.heap.size X w') := fun X hX D c hD => by
      have := AcceptsD_any d A B a b X (hx.below hX) hlen D (lv ++ lw) c hD h8 (by omega)
      rwa [hlall, hac, hwr0] at this
    have HCp := Lib.hid fun X (hX : Below w.heap.size w X) => CopyDFA_any d A B a b X (hx.below hX) hlen
    obtain ⟨fd, rfl, hfdl, hfc⟩ := hx.fi s hs2
    replace hfc : w.cell? (fd.add s) = some (.bool (d.fi.getD s false)) := hfc
    clear hx hlen hv hw hv8 hw8 h8 hlall hwr0
    obtain ⟨z0, z1, z2, z3⟩ := hB0.cells
    clear hs1 hv1 hv2 hw1 hw2 hac
    have hs3 : (s : Int) < (d.fi.length : Int) := by omega
    have hs4 : decide ((s : Int) < (d.fi.length : Int)) = true := decide_eq_true hs3
    have hs5 : decide ((0 : Int) ≤ (s : Int)) = true := decide_eq_true (by omega)
    generalize d.fi.getD s false = R at *
    have hRR : (R == R) = true := by simp
    have hss : ((s : Int) == (s : Int)) = true := by simp
    generalize d.nx.length = nn at *
    generalize d.fi.length = nf at *
    generalize bvs (lv ++ lw) = BA at *
    generalize lv.length = nv at *
    generalize lw.length = nw at *
    go_enter Tryd.func10, Tryd.ntmps10
    go_wp2_with (first
      | (go_at_call 14; ((with_reducible refine (HLo.out _ hb0 _ (by simp)).mono ?_); rintro e w2 ⟨rfl, hb2⟩); replace hb0 := stepB hb0 hb2; replace hB0 := hB0.below hb2; clear HLo z0 z1 z2 z3)
      | (go_at_call 15; ((with_reducible refine (HAw.out _ hb0).mono ?_); rintro e w3 ⟨rfl, hb3⟩); replace hb0 := stepB hb0 hb3; replace hB0 := hB0.below hb3; clear HAw)
      | (at_builtin; refine Ap.wpList_append_all rfl _ _ _ rfl w3.heap.size 5 i0 (.int .u8 0) 1 Tryd.underlying26 hi0 hz0 hz1 hz2 rfl _ _ _ rfl (World.ownsRow_made w3 #[] 0 (Nat.le_refl _) (Nat.zero_le _) (by simp)) Dv nv dv (fun j => .int .u8 (wd lv j : Nat)) rfl (HBv.out (w3.alloc (.cells #[] 5)) (bal hb0 _)) (fun _ _ => rfl) (by unfold maxLen; omega) (by omega) (by simp) ?_; intro A10 c10 w10 ho10 hc10 hb10; rw [Nat.zero_add] at ho10 ⊢; rw [List.nil_append, HX1.out] at ho10; replace hb10 := (bal (Below.refl w3.heap.size w3) (.cells #[] 5)).trans hb10; clear HBv)
      | (at_builtin; refine Ap.wpList_append_all rfl _ _ _ rfl w3.heap.size 5 i0 (.int .u8 0) 1 Tryd.underlying26 hi0 hz0 hz1 hz2 rfl _ _ _ rfl ho10 Dw nw dw (fun j => .int .u8 (wd lw j : Nat)) rfl (HBw.out w10 (stepB hb0 hb10)) (fun _ _ => rfl) (by unfold maxLen; omega) (by omega) hb10.size ?_; intro A11 c11 w11 ho11 hc11 hb11; rw [HX3.out, HX2.out] at ho11; replace hb11 := hb10.trans hb11; replace hb0 := stepB hb0 hb11; replace hB0 := hB0.below hb11; replace ho11 := HBall.out _ _ _ _ ho11; obtain ⟨z0, z1, z2, z3⟩ := hB0.cells; clear hb10 hb11 ho10)
      | (go_at_call 21; ((with_reducible refine (HR1.out _ hb0 _ _ ho11).mono ?_); rintro e w12 ⟨rfl, hb12⟩); clear z0 z1 z2 z3 HR1; replace ho11 := ho11.below hb12; replace hb0 := stepB hb0 hb12; replace hB0 := hB0.below hb12; clear hb12; obtain ⟨z0, z1, z2, z3⟩ := hB0.cells)
      | (go_at_call 21; ((with_reducible refine (HRv.out _ hb0).mono ?_); rintro e w13 ⟨rfl, hb13⟩); clear z0 z1 z2 z3 HRv; replace ho11 := ho11.below hb13; replace hb0 := stepB hb0 hb13; replace hB0 := hB0.below hb13; clear hb13; obtain ⟨z0, z1, z2, z3⟩ := hB0.cells)
      | (go_at_call 16; ((with_reducible refine (HCp.out _ hb0).mono ?_); rintro e w14 ⟨A14, B14, a14, b14, rfl, hda, hb14⟩); clear z0 z1 z2 z3 HCp; replace ho11 := ho11.below hb14; replace hb0 := stepB hb0 hb14; replace hB0 := hB0.below hb14; clear hb14;
          have hC1 := Blk4.new w14 (.int .i64 d.V) (.int .i64 (q : Int)) (.slice A14 nn a14) (.slice B14 nf b14);
          have K := bal (Below.refl w14.heap.size w14) (.cells #[.int .i64 d.V, .int .i64 (q : Int), .slice A14 nn a14, .slice B14 nf b14] 25);
          replace ho11 := ho11.below K; replace hb0 := stepB hb0 K; replace hB0 := hB0.below K; obtain ⟨y0, y1, y2, y3⟩ := hC1.cells)
      | (go_at_call 21; ((with_reducible refine (HRr.out w14 A14 B14 a14 b14 hda _ hb0 K).mono ?_); rintro e w15 ⟨rfl, hb15⟩); clear HRr K hC1 y0 y1 y2 y3 hda; replace ho11 := ho11.below hb15; replace hb0 := stepB hb0 hb15; replace hB0 := hB0.below hb15; clear hb15; obtain ⟨z0, z1, z2, z3⟩ := hB0.cells)
      | (go_at_call 22; ((with_reducible refine (HAc.out _ hb0 _ _ ho11).mono ?_); rintro e w16 ⟨rfl, hb16⟩); clear z0 z1 z2 z3 HAc ho11; replace hb0 := stepB hb0 hb16; replace hB0 := hB0.below hb16; clear hb16; obtain ⟨z0, z1, z2, z3⟩ := hB0.cells; have hfe := (Below.cell hb0 (p := fd.add s) (by rw [addr_block]; exact hfdl)).trans hfc))
    go_ret
    exact ⟨rfl, hb0⟩
  · have hr0 : runD d (lv ++ lw) = 0 := by unfold runD; rw [if_neg hwr0]
    rw [hr0] at HR1
    have hne : (wrongD d (lv ++ lw) != 0) = true := by rw [bne_iff_ne]; exact hwr0
    clear hr0
    clear hx hlen hv hw hv8 hw8 h8 hlall hwr0
    obtain ⟨z0, z1, z2, z3⟩ := hB0.cells
    generalize wrongD d (lv ++ lw) = E at *
    generalize d.nx.length = nn at *
    generalize d.fi.length = nf at *
    generalize bvs (lv ++ lw) = BA at *
    generalize lv.length = nv at *
    generalize lw.length = nw at *
    go_enter Tryd.func10, Tryd.ntmps10
    go_wp2_with (first
      | (go_at_call 14; ((with_reducible refine (HLo.out _ hb0 _ (by simp)).mono ?_); rintro e w2 ⟨rfl, hb2⟩); replace hb0 := stepB hb0 hb2; replace hB0 := hB0.below hb2; clear HLo z0 z1 z2 z3)
      | (go_at_call 15; ((with_reducible refine (HAw.out _ hb0).mono ?_); rintro e w3 ⟨rfl, hb3⟩); replace hb0 := stepB hb0 hb3; replace hB0 := hB0.below hb3; clear HAw)
      | (at_builtin; refine Ap.wpList_append_all rfl _ _ _ rfl w3.heap.size 5 i0 (.int .u8 0) 1 Tryd.underlying26 hi0 hz0 hz1 hz2 rfl _ _ _ rfl (World.ownsRow_made w3 #[] 0 (Nat.le_refl _) (Nat.zero_le _) (by simp)) Dv nv dv (fun j => .int .u8 (wd lv j : Nat)) rfl (HBv.out (w3.alloc (.cells #[] 5)) (bal hb0 _)) (fun _ _ => rfl) (by unfold maxLen; omega) (by omega) (by simp) ?_; intro A10 c10 w10 ho10 hc10 hb10; rw [Nat.zero_add] at ho10 ⊢; rw [List.nil_append, HX1.out] at ho10; replace hb10 := (bal (Below.refl w3.heap.size w3) (.cells #[] 5)).trans hb10; clear HBv)
      | (at_builtin; refine Ap.wpList_append_all rfl _ _ _ rfl w3.heap.size 5 i0 (.int .u8 0) 1 Tryd.underlying26 hi0 hz0 hz1 hz2 rfl _ _ _ rfl ho10 Dw nw dw (fun j => .int .u8 (wd lw j : Nat)) rfl (HBw.out w10 (stepB hb0 hb10)) (fun _ _ => rfl) (by unfold maxLen; omega) (by omega) hb10.size ?_; intro A11 c11 w11 ho11 hc11 hb11; rw [HX3.out, HX2.out] at ho11; replace hb11 := hb10.trans hb11; replace hb0 := stepB hb0 hb11; replace hB0 := hB0.below hb11; replace ho11 := HBall.out _ _ _ _ ho11; obtain ⟨z0, z1, z2, z3⟩ := hB0.cells; clear hb10 hb11 ho10)
      | (go_at_call 21; ((with_reducible refine (HR1.out _ hb0 _ _ ho11).mono ?_); rintro e w12 ⟨rfl, hb12⟩); replace hb0 := stepB hb0 hb12))
    go_ret
    exact ⟨rfl, hb0⟩
end
end Go.Proofs.YtdjhfndoheoljaaDoor.Sb
