/- The reference's Check, Wrong, Run and Accepts. -/
import Derived.Test.YtkgeihambgbjdaaDoorPF
namespace Go.Proofs.YtkgeihambgbjdaaDoor.Sb
open Go Go.RowKit Go.Proofs.YtkgeihambgbjdaaDoor Go.Proofs.YtkgeihambgbjdaaDoor.Cb
open Go.Proofs.YtkgeihambgbjdaaDoor.Nf (bvs own_bys Bys wordE drew_below ret_int ret_b inS)
open Go.Proofs.YtkgeihambgbjdaaDoor.Dg (Tabs tb tb_mem)
set_option linter.unusedVariables false
set_option linter.unusedSimpArgs false
set_option maxRecDepth 100000
theorem info_u8E : (Tryd.prog.info? 5).map (fun i => (i.zero, i.size, i.bytes)) = some (some (.int .u8 0), 1, 1) := by kernel_rfl
theorem bvs_rangeE (l : List Nat) : (List.range l.length).map (fun j => Value.int .u8 (wd l j : Nat)) = bvs l := by
  apply List.ext_getElem
  · simp [bvs]
  · intro j h1 h2
    have : j < l.length := by simpa using h1
    simp [bvs, wd, this]
set_option maxHeartbeats 4000000 in
theorem Vars6_any (v : Int) (w : World) : Calls Tryd.prog 36 #[.int .i64 v] w fun e w' => e = .returned (.bool (decide (0 ≤ v ∧ v ≤ 6))) ∧ w = w' := by
  by_cases h : 0 ≤ v ∧ v ≤ 6
  · rw [decide_eq_true h]
    have h1 : decide (0 ≤ v) = true := decide_eq_true h.1
    have h2 : decide (v ≤ 6) = true := decide_eq_true h.2
    clear h
    go_enter Tryd.func36, Tryd.ntmps36
    go_wp2
    go_ret
    exact ⟨rfl, rfl⟩
  · rw [decide_eq_false h]
    have h1 : decide (0 ≤ v) = false ∨ (decide (0 ≤ v) = true ∧ decide (v ≤ 6) = false) := by
      by_cases h0 : 0 ≤ v
      · exact .inr ⟨decide_eq_true h0, decide_eq_false fun h6 => h ⟨h0, h6⟩⟩
      · exact .inl (decide_eq_false h0)
    clear h
    rcases h1 with h1 | ⟨h1, h2⟩
    all_goals
      go_enter Tryd.func36, Tryd.ntmps36
      go_wp2
      go_ret
      exact ⟨rfl, rfl⟩
set_option maxHeartbeats 4000000 in
theorem EqualBytes6_same (A B : Option Addr) (l : List Nat) (c d : Nat) (w : World) (hx : Bys w A l) (hy : Bys w B l) (hl : l.length ≤ 1000000) :
    Calls Tryd.prog 27 #[.slice A l.length c, .slice B l.length d] w fun e w' => e = .returned (.bool true) ∧ ∃ n, w' = w.drewN n := by
  have hn0 : ((l.length : Int) != (l.length : Int)) = false := by simp
  have hx2 : Vals w A l.length fun j => .int .u8 (wd l j : Nat) := hx
  have hy2 : Vals w B l.length fun j => .int .u8 (wd l j : Nat) := hy
  clear hx hy
  generalize wd l = f at *
  generalize l.length = n at *
  go_enter Tryd.func27, Tryd.ntmps27
  go_wp2
  go_loopw [5] (fun i wr => ∃ k q : Nat, k ≤ n ∧ i = .int .i64 k ∧ wr = w.drewN q) (fun i _ => n - (intOf i).toNat)
  case atStart => exact ⟨0, 0, by omega, rfl, rfl⟩
  case round =>
    obtain ⟨k, q, hk, rfl, rfl⟩ := hrel
    by_cases hlt : k < n
    · obtain ⟨ad, rfl, _, hcell⟩ := hx2 k hlt
      obtain ⟨bd, rfl, _, hcell'⟩ := hy2 k hlt
      generalize f k = x at *
      have hne : ((x : Int) != (x : Int)) = false := by simp
      go_wp2
      go_quiet (fail)
      go_wp2
      go_roundw
      case rel => exact ⟨k + 1, _, by omega, by go_num, rfl⟩
      case measure => simp [intOf]; omega
    · obtain rfl : k = n := by omega
      go_wp2
      go_ret
      exact ⟨rfl, _, rfl⟩
theorem kitLetters_any (v : Nat) (w : World) (hv : v ≤ 6) :
    Calls Tryd.prog 37 #[.int .i64 v] w fun e w' => e = .returned (.int .i64 (2 ^ v : Nat)) ∧ w = w' := by
  go_enter Tryd.func37, Tryd.ntmps37
  go_wp2
  go_ret
  exact ⟨ret_int (shl64 hv), rfl⟩
theorem drewN_g {g : Nat} (w : World) (n : Nat) : Below g w (w.drewN n) := below_drewN_k (Below.refl _ _) n
/-- What comes out for a shape that is wrong. -/
theorem shp_bad {d : Da} {E : Int} (h : shpE d.V d.q0 d.nx.length d.fi.length = E) (h0 : E ≠ 0) : chkD d = E := by
  unfold chkD
  rw [if_pos (by rw [h]; exact h0), h]
theorem shp_rows {d : Da} (h : shpE d.V d.q0 d.nx.length d.fi.length = 0) : chkD d = rowsE d.V d.nx.length d.nx d.nx.length := by
  unfold chkD
  rw [if_neg (by rw [h]; simp)]
section
variable (d : Da) (A B : Option Addr) (a b : Nat) (w : World) (hx : DaAt w d A B) (hl : DaLen d)
include hx hl
set_option maxHeartbeats 8000000 in
theorem refCheck7_any :
    Calls Tryd.prog 11 #[.agg #[.int .i64 d.V, .int .i64 d.q0, .slice A d.nx.length a, .slice B d.fi.length b]] w fun e w' => e = .returned (.int .i64 (chkD d)) ∧ Below w.heap.size w w' := by
  have hB0 := Blk4.new w (.int .i64 d.V) (.int .i64 d.q0) (.slice A d.nx.length a) (.slice B d.fi.length b)
  have hb0 := bal (Below.refl w.heap.size w) (.cells #[.int .i64 d.V, .int .i64 d.q0, .slice A d.nx.length a, .slice B d.fi.length b] 25)
  have HV := Lib.hid fun X => Vars6_any d.V X
  have hn6 := hl.nx
  have hf6 := hl.fi
  by_cases hV : 0 ≤ d.V ∧ d.V ≤ 6
  rotate_left
  · have HE : Hid (chkD d = 7) := shp_bad (by unfold shpE; rw [if_neg hV]) (by decide)
    rw [decide_eq_false hV] at HV
    clear hx hl
    try clear hn0
    try clear hfn
    obtain ⟨z0, z1, z2, z3⟩ := hB0.cells
    generalize chkD d = E at *
    obtain ⟨V, q0, nx, fi⟩ := d
    dsimp only at *
    generalize nx.length = nn at *
    generalize fi.length = nf at *
    go_enter Tryd.func11, Tryd.ntmps11
    go_wp2_with (go_at_call 36; ((with_reducible refine (HV.out _).mono ?_); rintro e w2 ⟨rfl, rfl⟩))
    go_ret
    exact ⟨ret_int HE.out.symm, hb0⟩
  rw [decide_eq_true hV] at HV
  by_cases hn0 : d.nx.length = 0
  · have HE : Hid (chkD d = 3) := shp_bad (by unfold shpE; rw [if_pos hV, if_pos hn0]) (by decide)
    have d0 : ((d.nx.length : Int) == 0) = true := by rw [beq_iff_eq]; omega
    clear hx hl
    try clear hn0
    try clear hfn
    obtain ⟨z0, z1, z2, z3⟩ := hB0.cells
    generalize chkD d = E at *
    obtain ⟨V, q0, nx, fi⟩ := d
    dsimp only at *
    generalize nx.length = nn at *
    generalize fi.length = nf at *
    go_enter Tryd.func11, Tryd.ntmps11
    go_wp2_with (go_at_call 36; ((with_reducible refine (HV.out _).mono ?_); rintro e w2 ⟨rfl, rfl⟩))
    go_ret
    exact ⟨ret_int HE.out.symm, hb0⟩
  have d0 : ((d.nx.length : Int) == 0) = false := by rw [beq_eq_false_iff_ne]; omega
  by_cases hn4 : 4096 < d.nx.length
  · have HE : Hid (chkD d = 4) := shp_bad (by unfold shpE; rw [if_pos hV, if_neg hn0, if_pos hn4]) (by decide)
    have d1 : decide (4096 < (d.nx.length : Int)) = true := decide_eq_true (by omega)
    clear hx hl
    try clear hn0
    try clear hfn
    obtain ⟨z0, z1, z2, z3⟩ := hB0.cells
    generalize chkD d = E at *
    obtain ⟨V, q0, nx, fi⟩ := d
    dsimp only at *
    generalize nx.length = nn at *
    generalize fi.length = nf at *
    go_enter Tryd.func11, Tryd.ntmps11
    go_wp2_with (go_at_call 36; ((with_reducible refine (HV.out _).mono ?_); rintro e w2 ⟨rfl, rfl⟩))
    go_ret
    exact ⟨ret_int HE.out.symm, hb0⟩
  have d1 : decide (4096 < (d.nx.length : Int)) = false := decide_eq_false (by omega)
  by_cases hfn : d.fi.length = d.nx.length
  rotate_left
  · have HE : Hid (chkD d = 2) := shp_bad (by unfold shpE; rw [if_pos hV, if_neg hn0, if_neg hn4, if_pos hfn]) (by decide)
    have d2 : ((d.fi.length : Int) != (d.nx.length : Int)) = true := by rw [bne_iff_ne]; omega
    clear hx hl
    try clear hn0
    try clear hfn
    obtain ⟨z0, z1, z2, z3⟩ := hB0.cells
    generalize chkD d = E at *
    obtain ⟨V, q0, nx, fi⟩ := d
    dsimp only at *
    generalize nx.length = nn at *
    generalize fi.length = nf at *
    go_enter Tryd.func11, Tryd.ntmps11
    go_wp2_with (go_at_call 36; ((with_reducible refine (HV.out _).mono ?_); rintro e w2 ⟨rfl, rfl⟩))
    go_ret
    exact ⟨ret_int HE.out.symm, hb0⟩
  have d2 : ((d.fi.length : Int) != (d.nx.length : Int)) = false := by rw [hfn]; simp
  by_cases hq : inS d.nx.length d.q0 = true
  rotate_left
  · have HE : Hid (chkD d = 8) := shp_bad (by unfold shpE; rw [if_pos hV, if_neg hn0, if_neg hn4, if_neg (by omega), if_neg hq]) (by decide)
    rw [Nf.inS_iff] at hq
    by_cases hq0 : d.q0 < 0
    · have d3 : decide (d.q0 < 0) = true := decide_eq_true hq0
      clear hx hl
      try clear hn0
      try clear hfn
      obtain ⟨z0, z1, z2, z3⟩ := hB0.cells
      generalize chkD d = E at *
      obtain ⟨V, q0, nx, fi⟩ := d
      dsimp only at *
      generalize nx.length = nn at *
      generalize fi.length = nf at *
      go_enter Tryd.func11, Tryd.ntmps11
      go_wp2_with (go_at_call 36; ((with_reducible refine (HV.out _).mono ?_); rintro e w2 ⟨rfl, rfl⟩))
      go_ret
      exact ⟨ret_int HE.out.symm, hb0⟩
    · have d3 : decide (d.q0 < 0) = false := decide_eq_false hq0
      have d4 : decide ((d.nx.length : Int) ≤ d.q0) = true := decide_eq_true (by omega)
      clear hx hl
      try clear hn0
      try clear hfn
      obtain ⟨z0, z1, z2, z3⟩ := hB0.cells
      generalize chkD d = E at *
      obtain ⟨V, q0, nx, fi⟩ := d
      dsimp only at *
      generalize nx.length = nn at *
      generalize fi.length = nf at *
      go_enter Tryd.func11, Tryd.ntmps11
      go_wp2_with (go_at_call 36; ((with_reducible refine (HV.out _).mono ?_); rintro e w2 ⟨rfl, rfl⟩))
      go_ret
      exact ⟨ret_int HE.out.symm, hb0⟩
  have HC : Hid (chkD d = rowsE d.V d.nx.length d.nx d.nx.length) := shp_rows (by unfold shpE; rw [if_pos hV, if_neg hn0, if_neg hn4, if_neg (by omega), if_pos hq])
  rw [Nf.inS_iff] at hq
  have d3 : decide (d.q0 < 0) = false := decide_eq_false (by omega)
  have d4 : decide ((d.nx.length : Int) ≤ d.q0) = false := decide_eq_false (by omega)
  have HX := Lib.hid fun k (hk : k < d.nx.length) => (hx.nx.below hb0) k hk
  have HR := Lib.hid fun k (hk : k < d.nx.length) => hl.row _ (tb_mem hk)
  clear hx hl hq hn0
  obtain ⟨V, q0, nx, fi⟩ := d
  dsimp only at *
  obtain ⟨v, rfl⟩ := Int.eq_ofNat_of_zero_le hV.1
  have hv6 : v ≤ 6 := by omega
  have HL := Lib.hid fun X => kitLetters_any v X hv6
  have hRow : ∀ k, rowE (v : Int) nx.length (tb nx k) = if (tb nx k).length = 2 ^ v then (if allB (fun i => inS nx.length (nd (tb nx k) i)) (tb nx k).length then 0 else 8) else 2 := fun k => by
    unfold rowE
    rw [show ((v : Int)).toNat = v from rfl]
    by_cases h : (tb nx k).length = 2 ^ v
    · rw [if_pos (by rw [h]), if_pos h]
    · rw [if_neg (fun h2 => h (by exact_mod_cast h2)), if_neg h]
  have HE2 : Hid (∀ k, k < nx.length → rowsE (v : Int) nx.length nx k = 0 → (tb nx k).length ≠ 2 ^ v → chkD ⟨(v : Int), q0, nx, fi⟩ = 2) := fun k hk hz h => by
    have e : rowE (v : Int) nx.length (tb nx k) = 2 := by rw [hRow, if_neg h]
    rw [HC.out, rowsE_err hz hk (by rw [e]; decide), e]
  have HE8 : Hid (∀ k, k < nx.length → rowsE (v : Int) nx.length nx k = 0 → (tb nx k).length = 2 ^ v → ∀ j, j < (tb nx k).length → inS nx.length (nd (tb nx k) j) = false → chkD ⟨(v : Int), q0, nx, fi⟩ = 8) := fun k hk hz h j hj hf => by
    have e : rowE (v : Int) nx.length (tb nx k) = 8 := by
      rw [hRow, if_pos h, if_neg]
      intro h2
      have := (allB_iff _ _).1 h2 j hj
      rw [hf] at this
      cases this
    rw [HC.out, rowsE_err hz hk (by rw [e]; decide), e]
  have HOk : Hid (∀ k, k < nx.length → rowsE (v : Int) nx.length nx k = 0 → (tb nx k).length = 2 ^ v → (∀ j, j < (tb nx k).length → inS nx.length (nd (tb nx k) j) = true) → rowsE (v : Int) nx.length nx (k + 1) = 0) := fun k hk hz h hj => rowsE_next hz (by rw [hRow, if_pos h, if_pos ((allB_iff _ _).2 hj)])
  have HE0 : Hid (rowsE (v : Int) nx.length nx nx.length = 0 → chkD ⟨(v : Int), q0, nx, fi⟩ = 0) := fun h => by rw [HC.out, h]
  clear hV hRow HC
  generalize 2 ^ v = K at *
  generalize chkD ⟨(v : Int), q0, nx, fi⟩ = E at *
  obtain ⟨z0, z1, z2, z3⟩ := hB0.cells
  have HZ0 : Hid (rowsE (v : Int) nx.length nx 0 = 0) := rfl
  generalize rowsE (v : Int) nx.length nx = RW at *
  clear hB0 hfn
  generalize nx.length = nn at *
  generalize fi.length = nf at *
  go_enter Tryd.func11, Tryd.ntmps11
  go_wp2_with (go_at_call 36; ((with_reducible refine (HV.out _).mono ?_); rintro e w2 ⟨rfl, rfl⟩))
  generalize w.alloc (.cells #[.int .i64 (v : Int), .int .i64 q0, .slice A nn a, .slice B nf b] 25) = W at *
  go_loopw [4] (fun i wr => ∃ k q : Nat, k ≤ nn ∧ i = .int .i64 k ∧ Hid (RW k = 0) ∧ wr = W.drewN q) (fun i _ => nn - (intOf i).toNat)
  case atStart => exact ⟨0, 0, by omega, rfl, HZ0, rfl⟩
  case round =>
    obtain ⟨k, q, hk, rfl, HZ, rfl⟩ := hrel
    by_cases hlt : k < nn
    · obtain ⟨ad, p, c', rfl, hbk, hcell, hi⟩ := HX.out k hlt
      have hrl := HR.out k hlt
      have hlt2 : (k : Int) < (nn : Int) := by omega
      have hi2 := Lib.hid (show ∀ j, j < (tb nx k).length → ∃ pd, p = some pd ∧ pd.block < W.heap.size ∧ W.cell? (pd.add j) = some (.int .i64 (nd (tb nx k) j)) from hi)
      clear hi
      by_cases hK : (tb nx k).length = K
      · have dK : (((tb nx k).length : Int) != (K : Int)) = false := by rw [hK]; simp
        have HS := Lib.hid (HOk.out k hlt HZ.out hK)
        have HB := Lib.hid (HE8.out k hlt HZ.out hK)
        clear hK HE2
        generalize nd (tb nx k) = f at *
        generalize (tb nx k).length = nk at *
        go_wp2
        go_quiet (first | (go_at_call 37; exact ((HL.out _).mono (by rintro e w' ⟨rfl, rfl⟩; exact ⟨rfl, _, rfl⟩))))
        go_wp2
        go_loopw [5] (fun jv wr => ∃ j q : Nat, j ≤ nk ∧ jv = .int .i64 j ∧ Hid (∀ i, i < j → inS nn (f i) = true) ∧ wr = W.drewN q) (fun jv _ => nk - (intOf jv).toNat)
        case atStart => exact ⟨0, _, by omega, rfl, fun i hi => absurd hi (by omega), World.drewN_drewN W _ _⟩
        case round =>
          obtain ⟨j, q2, hj, rfl, HI, rfl⟩ := hrel
          by_cases hjt : j < nk
          · obtain ⟨pd, rfl, hpl, hpc⟩ := hi2.out j hjt
            have hjt2 : (j : Int) < (nk : Int) := by omega
            by_cases hneg : f j < 0
            · have HE : Hid (E = 8) := HB.out j hjt (by rw [Bool.eq_false_iff]; intro h; rw [Nf.inS_iff] at h; omega)
              have e1 : decide (f j < 0) = true := decide_eq_true hneg
              clear HB HS HI HOk HE8 HE0 HX HR HL hneg
              generalize f j = z at *
              go_wp2
              go_ret
              exact ⟨ret_int HE.out.symm, Below.trans hb0 (drewN_g _ _)⟩
            · have e1 : decide (f j < 0) = false := decide_eq_false hneg
              by_cases hbig : (nn : Int) ≤ f j
              · have HE : Hid (E = 8) := HB.out j hjt (by rw [Bool.eq_false_iff]; intro h; rw [Nf.inS_iff] at h; omega)
                have e2 : decide ((nn : Int) ≤ f j) = true := decide_eq_true hbig
                clear HB HS HI HOk HE8 HE0 HX HR HL hneg hbig
                generalize f j = z at *
                go_wp2
                go_ret
                exact ⟨ret_int HE.out.symm, Below.trans hb0 (drewN_g _ _)⟩
              · have e2 : decide ((nn : Int) ≤ f j) = false := decide_eq_false hbig
                have HI' : Hid (∀ i, i < j + 1 → inS nn (f i) = true) := fun i hi => by
                  rcases Nat.lt_or_eq_of_le (Nat.le_of_lt_succ hi) with h1 | rfl
                  · exact HI.out i h1
                  · rw [Nf.inS_iff]; omega
                clear HI hneg hbig
                have HB' := HB
                clear HB HS HOk HE8 HE0 HX HR HL
                generalize f j = z at *
                go_wp2
                go_roundw
                case rel => exact ⟨j + 1, _, by omega, by go_num, HI', rfl⟩
                case measure => simp [intOf]; omega
          · obtain rfl : j = nk := by omega
            have HZ' : Hid (RW (k + 1) = 0) := HS.out HI.out
            clear HB HS HI HOk HE8 HE0 HX HR HL hi2
            go_wp2
            go_roundw
            case rel => exact ⟨k + 1, _, by omega, by go_num, HZ', rfl⟩
            case measure => simp [intOf]; omega
      · have HE : Hid (E = 2) := HE2.out k hlt HZ.out hK
        have dK : (((tb nx k).length : Int) != (K : Int)) = true := by rw [bne_iff_ne]; exact_mod_cast hK
        clear hK HE2 HE8 HOk HE0 HX HR hi2
        generalize (tb nx k).length = nk at *
        go_wp2
        go_quiet (first | (go_at_call 37; exact ((HL.out _).mono (by rintro e w' ⟨rfl, rfl⟩; exact ⟨rfl, _, rfl⟩))))
        go_wp2
        go_ret
        exact ⟨ret_int HE.out.symm, Below.trans hb0 ((drewN_g _ _).trans (drewN_g _ _))⟩
    · obtain rfl : k = nn := by omega
      have HE : Hid (E = 0) := HE0.out HZ.out
      clear HE2 HE8 HOk HE0 HX HR HL HZ
      go_wp2
      go_ret
      exact ⟨ret_int HE.out.symm, Below.trans hb0 (drewN_g _ _)⟩
variable (D : Option Addr) (l : List Nat) (c : Nat) (hw : Bys w D l) (h8 : ∀ y ∈ l, y < 256) (hll : l.length ≤ 1000000)
include hw h8 hll
omit hl h8 hll in
end
end Go.Proofs.YtkgeihambgbjdaaDoor.Sb
