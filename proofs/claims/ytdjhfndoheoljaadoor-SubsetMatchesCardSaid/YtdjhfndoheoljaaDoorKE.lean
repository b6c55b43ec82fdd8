/- The reference's Check, Wrong, Run and Accepts. -/
import Derived.Test.YtdjhfndoheoljaaDoorJW
namespace Go.Proofs.YtdjhfndoheoljaaDoor.Sb
open Go Go.RowKit Go.Proofs.YtdjhfndoheoljaaDoor Go.Proofs.YtdjhfndoheoljaaDoor.Cb
open Go.Proofs.YtdjhfndoheoljaaDoor.Nf (bvs own_bys Bys wordE drew_below ret_int ret_b inS)
open Go.Proofs.YtdjhfndoheoljaaDoor.Dg (Tabs tb tb_mem)
set_option linter.unusedVariables false
set_option linter.unusedSimpArgs false
set_option maxRecDepth 100000
theorem info_u8E : (Tryd.prog.info? 5).map (fun i => (i.zero, i.size, i.bytes)) = some (some (.int .u8 0), 1, 1) := by kernel_rfl
theorem bvs_rangeE (l : List Nat) : (List.range l.length).map (fun j => Value.int .u8 (wd l j : Nat)) = bvs l := by
  apply List.ext_getElem
  · simp [bvs]
  · intro j h1 h2
    have : j < l.length := by simpa using h1
    simp [bvs, wd, this]
set_option maxHeartbeats 4000000 in
theorem Vars6_any (v : Int) (w : World) : Calls Tryd.prog 65 #[.int .i64 v] w fun e w' => e = .returned (.bool (decide (0 ≤ v ∧ v ≤ 6))) ∧ w = w' := by
  by_cases h : 0 ≤ v ∧ v ≤ 6
  · rw [decide_eq_true h]
    have h1 : decide (0 ≤ v) = true := decide_eq_true h.1
    have h2 : decide (v ≤ 6) = true := decide_eq_true h.2
    clear h
    go_enter Tryd.func65, Tryd.ntmps65
    go_wp2
    go_ret
    exact ⟨rfl, rfl⟩
  · rw [decide_eq_false h]
    have h1 : decide (0 ≤ v) = false ∨ (decide (0 ≤ v) = true ∧ decide (v ≤ 6) = false) := by
      by_cases h0 : 0 ≤ v
      · exact .inr ⟨decide_eq_true h0, decide_eq_false fun h6 => h ⟨h0, h6⟩⟩
      · exact .inl (decide_eq_false h0)
    clear h
    rcases h1 with h1 | ⟨h1, h2⟩
    all_goals
      go_enter Tryd.func65, Tryd.ntmps65
      go_wp2
      go_ret
      exact ⟨rfl, rfl⟩
set_option maxHeartbeats 4000000 in
theorem CopyBytes6_any (A : Option Addr) (l : List Nat) (c : Nat) (w : World) (hx : Bys w A l) (hl : l.length ≤ 1000000) :
    Calls Tryd.prog 17 #[.slice A l.length c] w fun e w' => ∃ A' c', e = .returned (.slice A' l.length c') ∧ Bys w' A' l ∧ Below w.heap.size w w' := by
  obtain ⟨i0, hi, hz0, hz1, hz2⟩ := info_parts info_u8E
  have HM := Lib.hid (bvs_rangeE l)
  have HF : Hid (∀ (X : World) B1 A1 c1, X.ownsRow B1 5 1 (.slice A1 l.length c1) l.length (bvs l) → Bys X A1 l) := fun X B1 A1 c1 h => own_bys h rfl
  have hx2 : Vals w A l.length fun j => .int .u8 (wd l j : Nat) := hx
  clear hx
  generalize l.length = n at *
  go_enter Tryd.func17, Tryd.ntmps17
  go_wp2_with (at_builtin; refine Ap.wpList_copy rfl _ _ 26 rfl 5 i0 (.int .u8 0) 1 Tryd.underlying26 hi hz0 hz1 hz2 rfl rfl A n c _ rfl hx2 (fun j _ => rfl) (by unfold maxLen; omega) (by omega) ?_; intro A' c' w' ho hc hb)
  go_ret
  rw [HM.out] at ho
  exact ⟨A', c', rfl, HF.out _ _ _ _ ho, hb⟩
set_option maxHeartbeats 4000000 in
theorem EqualBytes6_same (A B : Option Addr) (l : List Nat) (c d : Nat) (w : World) (hx : Bys w A l) (hy : Bys w B l) (hl : l.length ≤ 1000000) :
    Calls Tryd.prog 26 #[.slice A l.length c, .slice B l.length d] w fun e w' => e = .returned (.bool true) ∧ ∃ n, w' = w.drewN n := by
  have hn0 : ((l.length : Int) != (l.length : Int)) = false := by simp
  have hx2 : Vals w A l.length fun j => .int .u8 (wd l j : Nat) := hx
  have hy2 : Vals w B l.length fun j => .int .u8 (wd l j : Nat) := hy
  clear hx hy
  generalize wd l = f at *
  generalize l.length = n at *
  go_enter Tryd.func26, Tryd.ntmps26
  go_wp2
  go_loopw [5] (fun i wr => ∃ k q : Nat, k ≤ n ∧ i = .int .i64 k ∧ wr = w.drewN q) (fun i _ => n - (intOf i).toNat)
  case atStart => exact ⟨0, 0, by omega, rfl, rfl⟩
  case round =>
    obtain ⟨k, q, hk, rfl, rfl⟩ := hrel
    by_cases hlt : k < n
    · obtain ⟨ad, rfl, _, hcell⟩ := hx2 k hlt
      obtain ⟨bd, rfl, _, hcell'⟩ := hy2 k hlt
      generalize f k = x at *
      have hne : ((x : Int) != (x : Int)) = false := by simp
      go_wp2
      go_quiet (fail)
      go_wp2
      go_roundw
      case rel => exact ⟨k + 1, _, by omega, by go_num, rfl⟩
      case measure => simp [intOf]; omega
    · obtain rfl : k = n := by omega
      go_wp2
      go_ret
      exact ⟨rfl, _, rfl⟩
theorem kitLetters_any (v : Nat) (w : World) (hv : v ≤ 6) :
    Calls Tryd.prog 66 #[.int .i64 v] w fun e w' => e = .returned (.int .i64 (2 ^ v : Nat)) ∧ w = w' := by
  go_enter Tryd.func66, Tryd.ntmps66
  go_wp2
  go_ret
  exact ⟨ret_int (shl64 hv), rfl⟩
set_option maxHeartbeats 4000000 in
theorem refWord_any (v : Nat) (hv : v ≤ 6) (A : Option Addr) (l : List Nat) (c : Nat) (w : World) (hx : Bys w A l) (h8 : ∀ y ∈ l, y < 256) (hl : l.length ≤ 1000000) :
    Calls Tryd.prog 60 #[.slice A l.length c, .int .i64 v] w fun r w' => r = .returned (.int .i64 (wordE v l)) ∧ Below w.heap.size w w' := by
  have HL := Lib.hid fun X => kitLetters_any v X hv
  have hn64 := Nat.pow_le_pow_right (show 0 < 2 by decide) hv
  by_cases h64 : 64 < l.length
  · have HE : Hid (wordE v l = 4) := if_pos h64
    have d1 : decide ((64 : Int) < (l.length : Int)) = true := decide_eq_true (by omega)
    clear hx h64 hn64
    go_enter Tryd.func60, Tryd.ntmps60
    go_wp2
    go_ret
    exact ⟨ret_int HE.out.symm, Below.refl _ _⟩
  · have d1 : decide ((64 : Int) < (l.length : Int)) = false := decide_eq_false (by omega)
    have HE1 : Hid ((∀ i, i < l.length → wd l i < 2 ^ v) → wordE v l = 0) := fun h => by
      unfold wordE
      rw [if_neg h64, if_pos]
      rw [List.all_eq_true]
      intro y hy
      obtain ⟨j, hj, rfl⟩ := List.getElem_of_mem hy
      have := h j hj
      unfold wd at this
      rw [List.getD_eq_getElem?_getD, List.getElem?_eq_getElem hj] at this
      exact decide_eq_true this
    have HE2 : Hid (∀ i, i < l.length → ¬ wd l i < 2 ^ v → wordE v l = 1) := fun i hi h => by
      unfold wordE
      rw [if_neg h64, if_neg]
      intro h2
      rw [List.all_eq_true] at h2
      refine h (of_decide_eq_true (h2 (wd l i) ?_))
      unfold wd
      rw [List.getD_eq_getElem?_getD, List.getElem?_eq_getElem hi]
      exact List.getElem_mem hi
    have h8w : ∀ i, i < l.length → wd l i < 256 := fun i hi => h8 _ (by
      unfold wd
      rw [List.getD_eq_getElem?_getD, List.getElem?_eq_getElem hi]
      exact List.getElem_mem hi)
    clear h64 h8
    generalize 2 ^ v = K at *
    go_enter Tryd.func60, Tryd.ntmps60
    go_wp2
    go_loopw [5] (fun i wr => ∃ k q : Nat, k ≤ l.length ∧ i = .int .i64 k ∧ Hid (∀ i, i < k → wd l i < K) ∧ wr = w.drewN q) (fun i _ => l.length - (intOf i).toNat)
    case atStart => exact ⟨0, 0, by omega, rfl, fun i hi => absurd hi (by omega), rfl⟩
    case round =>
      obtain ⟨k, q, hk, rfl, H, rfl⟩ := hrel
      by_cases hlt : k < l.length
      · obtain ⟨ad, rfl, hcell⟩ := hx.at_ hlt
        have hkn : (k : Int) < (l.length : Int) := by omega
        have hy8 := h8w k hlt
        by_cases hin : wd l k < K
        · have H' : Hid (∀ i, i < k + 1 → wd l i < K) := fun i hi => by
            rcases Nat.lt_or_eq_of_le (Nat.le_of_lt_succ hi) with h1 | rfl
            · exact H.out i h1
            · exact hin
          have d2 : decide ((K : Int) ≤ (wd l k : Int)) = false := decide_eq_false (by omega)
          have d3 : decide (K ≤ wd l k) = false := decide_eq_false (by omega)
          clear H HE1 HE2
          generalize wd l k = x at *
          go_wp2
          go_quiet (first | (go_at_call 66; exact ((HL.out _).mono (by rintro e w' ⟨rfl, rfl⟩; exact ⟨rfl, _, rfl⟩))))
          go_wp2
          go_roundw
          case rel => exact ⟨k + 1, _, by omega, by go_num, H', rfl⟩
          case measure => simp [intOf]; omega
        · have HE := Lib.hid (HE2.out k hlt hin)
          have d2 : decide ((K : Int) ≤ (wd l k : Int)) = true := decide_eq_true (by omega)
          have d3 : decide (K ≤ wd l k) = true := decide_eq_true (by omega)
          clear H HE1 HE2
          generalize wd l k = x at *
          go_wp2
          go_quiet (first | (go_at_call 66; exact ((HL.out _).mono (by rintro e w' ⟨rfl, rfl⟩; exact ⟨rfl, _, rfl⟩))))
          go_wp2
          go_ret
          exact ⟨ret_int HE.out.symm, stepB (Ap.drewN_below w q) (Ap.drewN_below _ _)⟩
      · have HE := Lib.hid (HE1.out fun i hi => H.out i (by omega))
        obtain rfl : k = l.length := by omega
        clear H HE1 HE2
        go_wp2
        go_ret
        exact ⟨ret_int HE.out.symm, Ap.drewN_below w q⟩
theorem drewN_g {g : Nat} (w : World) (n : Nat) : Below g w (w.drewN n) := below_drewN_k (Below.refl _ _) n
/-- What comes out for a shape that is wrong. -/
theorem shp_bad {d : Da} {E : Int} (h : shpE d.V d.q0 d.nx.length d.fi.length = E) (h0 : E ≠ 0) : chkD d = E := by
  unfold chkD
  rw [if_pos (by rw [h]; exact h0), h]
theorem shp_rows {d : Da} (h : shpE d.V d.q0 d.nx.length d.fi.length = 0) : chkD d = rowsE d.V d.nx.length d.nx d.nx.length := by
  unfold chkD
  rw [if_neg (by rw [h]; simp)]
section
variable (d : Da) (A B : Option Addr) (a b : Nat) (w : World) (hx : DaAt w d A B) (hl : DaLen d)
include hx hl
set_option maxHeartbeats 8000000 in
theorem refCheck7_any :
    Calls Tryd.prog 24 #[.agg #[.int .i64 d.V, .int .i64 d.q0, .slice A d.nx.length a, .slice B d.fi.length b]] w fun e w' => e = .returned (.int .i64 (chkD d)) ∧ Below w.heap.size w w' := by
  have hB0 := Blk4.new w (.int .i64 d.V) (.int .i64 d.q0) (.slice A d.nx.length a) (.slice B d.fi.length b)
  have hb0 := bal (Below.refl w.heap.size w) (.cells #[.int .i64 d.V, .int .i64 d.q0, .slice A d.nx.length a, .slice B d.fi.length b] 25)
  have HV := Lib.hid fun X => Vars6_any d.V X
  have hn6 := hl.nx
  have hf6 := hl.fi
  by_cases hV : 0 ≤ d.V ∧ d.V ≤ 6
  rotate_left
  · have HE : Hid (chkD d = 7) := shp_bad (by unfold shpE; rw [if_neg hV]) (by decide)
    rw [decide_eq_false hV] at HV
    clear hx hl
    try clear hn0
    try clear hfn
    obtain ⟨z0, z1, z2, z3⟩ := hB0.cells
    generalize chkD d = E at *
    obtain ⟨V, q0, nx, fi⟩ := d
    dsimp only at *
    generalize nx.length = nn at *
    generalize fi.length = nf at *
    go_enter Tryd.func24, Tryd.ntmps24
    go_wp2_with (go_at_call 65; ((with_reducible refine (HV.out _).mono ?_); rintro e w2 ⟨rfl, rfl⟩))
    go_ret
    exact ⟨ret_int HE.out.symm, hb0⟩
  rw [decide_eq_true hV] at HV
  by_cases hn0 : d.nx.length = 0
  · have HE : Hid (chkD d = 3) := shp_bad (by unfold shpE; rw [if_pos hV, if_pos hn0]) (by decide)
    have d0 : ((d.nx.length : Int) == 0) = true := by rw [beq_iff_eq]; omega
    clear hx hl
    try clear hn0
    try clear hfn
    obtain ⟨z0, z1, z2, z3⟩ := hB0.cells
    generalize chkD d = E at *
    obtain ⟨V, q0, nx, fi⟩ := d
    dsimp only at *
    generalize nx.length = nn at *
    generalize fi.length = nf at *
    go_enter Tryd.func24, Tryd.ntmps24
    go_wp2_with (go_at_call 65; ((with_reducible refine (HV.out _).mono ?_); rintro e w2 ⟨rfl, rfl⟩))
    go_ret
    exact ⟨ret_int HE.out.symm, hb0⟩
  have d0 : ((d.nx.length : Int) == 0) = false := by rw [beq_eq_false_iff_ne]; omega
  by_cases hn4 : 4096 < d.nx.length
  · have HE : Hid (chkD d = 4) := shp_bad (by unfold shpE; rw [if_pos hV, if_neg hn0, if_pos hn4]) (by decide)
    have d1 : decide (4096 < (d.nx.length : Int)) = true := decide_eq_true (by omega)
    clear hx hl
    try clear hn0
    try clear hfn
    obtain ⟨z0, z1, z2, z3⟩ := hB0.cells
    generalize chkD d = E at *
    obtain ⟨V, q0, nx, fi⟩ := d
    dsimp only at *
    generalize nx.length = nn at *
    generalize fi.length = nf at *
    go_enter Tryd.func24, Tryd.ntmps24
    go_wp2_with (go_at_call 65; ((with_reducible refine (HV.out _).mono ?_); rintro e w2 ⟨rfl, rfl⟩))
    go_ret
    exact ⟨ret_int HE.out.symm, hb0⟩
  have d1 : decide (4096 < (d.nx.length : Int)) = false := decide_eq_false (by omega)
  by_cases hfn : d.fi.length = d.nx.length
  rotate_left
  · have HE : Hid (chkD d = 2) := shp_bad (by unfold shpE; rw [if_pos hV, if_neg hn0, if_neg hn4, if_pos hfn]) (by decide)
    have d2 : ((d.fi.length : Int) != (d.nx.length : Int)) = true := by rw [bne_iff_ne]; omega
    clear hx hl
    try clear hn0
    try clear hfn
    obtain ⟨z0, z1, z2, z3⟩ := hB0.cells
    generalize chkD d = E at *
    obtain ⟨V, q0, nx, fi⟩ := d
    dsimp only at *
    generalize nx.length = nn at *
    generalize fi.length = nf at *
    go_enter Tryd.func24, Tryd.ntmps24
    go_wp2_with (go_at_call 65; ((with_reducible refine (HV.out _).mono ?_); rintro e w2 ⟨rfl, rfl⟩))
    go_ret
    exact ⟨ret_int HE.out.symm, hb0⟩
  have d2 : ((d.fi.length : Int) != (d.nx.length : Int)) = false := by rw [hfn]; simp
  by_cases hq : inS d.nx.length d.q0 = true
  rotate_left
  · have HE : Hid (chkD d = 8) := shp_bad (by unfold shpE; rw [if_pos hV, if_neg hn0, if_neg hn4, if_neg (by omega), if_neg hq]) (by decide)
    rw [Nf.inS_iff] at hq
    by_cases hq0 : d.q0 < 0
    · have d3 : decide (d.q0 < 0) = true := decide_eq_true hq0
      clear hx hl
      try clear hn0
      try clear hfn
      obtain ⟨z0, z1, z2, z3⟩ := hB0.cells
      generalize chkD d = E at *
      obtain ⟨V, q0, nx, fi⟩ := d
      dsimp only at *
      generalize nx.length = nn at *
      generalize fi.length = nf at *
      go_enter Tryd.func24, Tryd.ntmps24
      go_wp2_with (go_at_call 65; ((with_reducible refine (HV.out _).mono ?_); rintro e w2 ⟨rfl, rfl⟩))
      go_ret
      exact ⟨ret_int HE.out.symm, hb0⟩
    · have d3 : decide (d.q0 < 0) = false := decide_eq_false hq0
      have d4 : decide ((d.nx.length : Int) ≤ d.q0) = true := decide_eq_true (by omega)
      clear hx hl
      try clear hn0
      try clear hfn
      obtain ⟨z0, z1, z2, z3⟩ := hB0.cells
      generalize chkD d = E at *
      obtain ⟨V, q0, nx, fi⟩ := d
      dsimp only at *
      generalize nx.length = nn at *
      generalize fi.length = nf at *
      go_enter Tryd.func24, Tryd.ntmps24
      go_wp2_with (go_at_call 65; ((with_reducible refine (HV.out _).mono ?_); rintro e w2 ⟨rfl, rfl⟩))
      go_ret
      exact ⟨ret_int HE.out.symm, hb0⟩
  have HC : Hid (chkD d = rowsE d.V d.nx.length d.nx d.nx.length) := shp_rows (by unfold shpE; rw [if_pos hV, if_neg hn0, if_neg hn4, if_neg (by omega), if_pos hq])
  rw [Nf.inS_iff] at hq
  have d3 : decide (d.q0 < 0) = false := decide_eq_false (by omega)
  have d4 : decide ((d.nx.length : Int) ≤ d.q0) = false := decide_eq_false (by omega)
  have HX := Lib.hid fun k (hk : k < d.nx.length) => (hx.nx.below hb0) k hk
  have HR := Lib.hid fun k (hk : k < d.nx.length) => hl.row _ (tb_mem hk)
  clear hx hl hq hn0
  obtain ⟨V, q0, nx, fi⟩ := d
  dsimp only at *
  obtain ⟨v, rfl⟩ := Int.eq_ofNat_of_zero_le hV.1
  have hv6 : v ≤ 6 := by omega
  have HL := Lib.hid fun X => kitLetters_any v X hv6
  have hRow : ∀ k, rowE (v : Int) nx.length (tb nx k) = if (tb nx k).length = 2 ^ v then (if allB (fun i => inS nx.length (nd (tb nx k) i)) (tb nx k).length then 0 else 8) else 2 := fun k => by
    unfold rowE
    rw [show ((v : Int)).toNat = v from rfl]
    by_cases h : (tb nx k).length = 2 ^ v
    · rw [if_pos (by rw [h]), if_pos h]
    · rw [if_neg (fun h2 => h (by exact_mod_cast h2)), if_neg h]
  have HE2 : Hid (∀ k, k < nx.length → rowsE (v : Int) nx.length nx k = 0 → (tb nx k).length ≠ 2 ^ v → chkD ⟨(v : Int), q0, nx, fi⟩ = 2) := fun k hk hz h => by
    have e : rowE (v : Int) nx.length (tb nx k) = 2 := by rw [hRow, if_neg h]
    rw [HC.out, rowsE_err hz hk (by rw [e]; decide), e]
  have HE8 : Hid (∀ k, k < nx.length → rowsE (v : Int) nx.length nx k = 0 → (tb nx k).length = 2 ^ v → ∀ j, j < (tb nx k).length → inS nx.length (nd (tb nx k) j) = false → chkD ⟨(v : Int), q0, nx, fi⟩ = 8) := fun k hk hz h j hj hf => by
    have e : rowE (v : Int) nx.length (tb nx k) = 8 := by
      rw [hRow, if_pos h, if_neg]
      intro h2
      have := (allB_iff _ _).1 h2 j hj
      rw [hf] at this
      cases this
    rw [HC.out, rowsE_err hz hk (by rw [e]; decide), e]
  have HOk : Hid (∀ k, k < nx.length → rowsE (v : Int) nx.length nx k = 0 → (tb nx k).length = 2 ^ v → (∀ j, j < (tb nx k).length → inS nx.length (nd (tb nx k) j) = true) → rowsE (v : Int) nx.length nx (k + 1) = 0) := fun k hk hz h hj => rowsE_next hz (by rw [hRow, if_pos h, if_pos ((allB_iff _ _).2 hj)])
  have HE0 : Hid (rowsE (v : Int) nx.length nx nx.length = 0 → chkD ⟨(v : Int), q0, nx, fi⟩ = 0) := fun h => by rw [HC.out, h]
  clear hV hRow HC
  generalize 2 ^ v = K at *
  generalize chkD ⟨(v : Int), q0, nx, fi⟩ = E at *
  obtain ⟨z0, z1, z2, z3⟩ := hB0.cells
  have HZ0 : Hid (rowsE (v : Int) nx.length nx 0 = 0) := rfl
  generalize rowsE (v : Int) nx.length nx = RW at *
  clear hB0 hfn
  generalize nx.length = nn at *
  generalize fi.length = nf at *
  go_enter Tryd.func24, Tryd.ntmps24
  go_wp2_with (go_at_call 65; ((with_reducible refine (HV.out _).mono ?_); rintro e w2 ⟨rfl, rfl⟩))
  generalize w.alloc (.cells #[.int .i64 (v : Int), .int .i64 q0, .slice A nn a, .slice B nf b] 25) = W at *
  go_loopw [4] (fun i wr => ∃ k q : Nat, k ≤ nn ∧ i = .int .i64 k ∧ Hid (RW k = 0) ∧ wr = W.drewN q) (fun i _ => nn - (intOf i).toNat)
  case atStart => exact ⟨0, 0, by omega, rfl, HZ0, rfl⟩
  case round =>
    obtain ⟨k, q, hk, rfl, HZ, rfl⟩ := hrel
    by_cases hlt : k < nn
    · obtain ⟨ad, p, c', rfl, hbk, hcell, hi⟩ := HX.out k hlt
      have hrl := HR.out k hlt
      have hlt2 : (k : Int) < (nn : Int) := by omega
      have hi2 := Lib.hid (show ∀ j, j < (tb nx k).length → ∃ pd, p = some pd ∧ pd.block < W.heap.size ∧ W.cell? (pd.add j) = some (.int .i64 (nd (tb nx k) j)) from hi)
      clear hi
      by_cases hK : (tb nx k).length = K
      · have dK : (((tb nx k).length : Int) != (K : Int)) = false := by rw [hK]; simp
        have HS := Lib.hid (HOk.out k hlt HZ.out hK)
        have HB := Lib.hid (HE8.out k hlt HZ.out hK)
        clear hK HE2
        generalize nd (tb nx k) = f at *
        generalize (tb nx k).length = nk at *
        go_wp2
        go_quiet (first | (go_at_call 66; exact ((HL.out _).mono (by rintro e w' ⟨rfl, rfl⟩; exact ⟨rfl, _, rfl⟩))))
        go_wp2
        go_loopw [5] (fun jv wr => ∃ j q : Nat, j ≤ nk ∧ jv = .int .i64 j ∧ Hid (∀ i, i < j → inS nn (f i) = true) ∧ wr = W.drewN q) (fun jv _ => nk - (intOf jv).toNat)
        case atStart => exact ⟨0, _, by omega, rfl, fun i hi => absurd hi (by omega), World.drewN_drewN W _ _⟩
        case round =>
          obtain ⟨j, q2, hj, rfl, HI, rfl⟩ := hrel
          by_cases hjt : j < nk
          · obtain ⟨pd, rfl, hpl, hpc⟩ := hi2.out j hjt
            have hjt2 : (j : Int) < (nk : Int) := by omega
            by_cases hneg : f j < 0
            · have HE : Hid (E = 8) := HB.out j hjt (by rw [Bool.eq_false_iff]; intro h; rw [Nf.inS_iff] at h; omega)
              have e1 : decide (f j < 0) = true := decide_eq_true hneg
              clear HB HS HI HOk HE8 HE0 HX HR HL hneg
              generalize f j = z at *
              go_wp2
              go_ret
              exact ⟨ret_int HE.out.symm, Below.trans hb0 (drewN_g _ _)⟩
            · have e1 : decide (f j < 0) = false := decide_eq_false hneg
              by_cases hbig : (nn : Int) ≤ f j
              · have HE : Hid (E = 8) := HB.out j hjt (by rw [Bool.eq_false_iff]; intro h; rw [Nf.inS_iff] at h; omega)
                have e2 : decide ((nn : Int) ≤ f j) = true := decide_eq_true hbig
                clear HB HS HI HOk HE8 HE0 HX HR HL hneg hbig
                generalize f j = z at *
                go_wp2
                go_ret
                exact ⟨ret_int HE.out.symm, Below.trans hb0 (drewN_g _ _)⟩
              · have e2 : decide ((nn : Int) ≤ f j) = false := decide_eq_false hbig
                have HI' : Hid (∀ i, i < j + 1 → inS nn (f i) = true) := fun i hi => by
                  rcases Nat.lt_or_eq_of_le (Nat.le_of_lt_succ hi) with h1 | rfl
                  · exact HI.out i h1
                  · rw [Nf.inS_iff]; omega
                clear HI hneg hbig
                have HB' := HB
                clear HB HS HOk HE8 HE0 HX HR HL
                generalize f j = z at *
                go_wp2
                go_roundw
                case rel => exact ⟨j + 1, _, by omega, by go_num, HI', rfl⟩
                case measure => simp [intOf]; omega
          · obtain rfl : j = nk := by omega
            have HZ' : Hid (RW (k + 1) = 0) := HS.out HI.out
            clear HB HS HI HOk HE8 HE0 HX HR HL hi2
            go_wp2
            go_roundw
            case rel => exact ⟨k + 1, _, by omega, by go_num, HZ', rfl⟩
            case measure => simp [intOf]; omega
      · have HE : Hid (E = 2) := HE2.out k hlt HZ.out hK
        have dK : (((tb nx k).length : Int) != (K : Int)) = true := by rw [bne_iff_ne]; exact_mod_cast hK
        clear hK HE2 HE8 HOk HE0 HX HR hi2
        generalize (tb nx k).length = nk at *
        go_wp2
        go_quiet (first | (go_at_call 66; exact ((HL.out _).mono (by rintro e w' ⟨rfl, rfl⟩; exact ⟨rfl, _, rfl⟩))))
        go_wp2
        go_ret
        exact ⟨ret_int HE.out.symm, Below.trans hb0 ((drewN_g _ _).trans (drewN_g _ _))⟩
    · obtain rfl : k = nn := by omega
      have HE : Hid (E = 0) := HE0.out HZ.out
      clear HE2 HE8 HOk HE0 HX HR HL HZ
      go_wp2
      go_ret
      exact ⟨ret_int HE.out.symm, Below.trans hb0 (drewN_g _ _)⟩
variable (D : Option Addr) (l : List Nat) (c : Nat) (hw : Bys w D l) (h8 : ∀ y ∈ l, y < 256) (hll : l.length ≤ 1000000)
include hw h8 hll
theorem refWrong7_any :
    Calls Tryd.prog 18 #[.agg #[.int .i64 d.V, .int .i64 d.q0, .slice A d.nx.length a, .slice B d.fi.length b], .slice D l.length c] w fun e w' => e = .returned (.int .i64 (wrongD d l)) ∧ Below w.heap.size w w' := by
  have hB0 := Blk4.new w (.int .i64 d.V) (.int .i64 d.q0) (.slice A d.nx.length a) (.slice B d.fi.length b)
  have hb0 := bal (Below.refl w.heap.size w) (.cells #[.int .i64 d.V, .int .i64 d.q0, .slice A d.nx.length a, .slice B d.fi.length b] 25)
  have HC := Lib.hid fun X (hX : Below w.heap.size w X) => refCheck7_any d A B a b X (hx.below hX) hl
  obtain ⟨z0, z1, z2, z3⟩ := hB0.cells
  by_cases h0 : chkD d = 0
  · have hO := okD_of h0
    obtain ⟨v, hv⟩ := Int.eq_ofNat_of_zero_le hO.v0
    have hv6 : v ≤ 6 := by have := hO.v6; omega
    have HW : Hid (∀ X, Below w.heap.size w X → Calls Tryd.prog 60 #[.slice D l.length c, .int .i64 d.V] X fun e w' => e = .returned (.int .i64 (wrongD d l)) ∧ Below X.heap.size X w') := fun X hX => by
      have := refWord_any v hv6 D l c X (hw.below hX) h8 hll
      unfold wrongD
      rw [if_neg (by omega), hv]
      exact this
    rw [h0] at HC
    clear hx hl hw h8 hll hO hv h0
    generalize wrongD d l = E at *
    generalize d.nx.length = nn at *
    generalize d.fi.length = nf at *
    generalize l.length = nl at *
    go_enter Tryd.func18, Tryd.ntmps18
    go_wp2_with (first
      | (go_at_call 24; ((with_reducible refine (HC.out _ hb0).mono ?_); rintro e w2 ⟨rfl, hb2⟩); clear z0 z1 z2 z3; replace hB0 := hB0.below hb2; replace hb0 := stepB hb0 hb2; obtain ⟨z0, z1, z2, z3⟩ := hB0.cells)
      | (go_at_call 60; ((with_reducible refine (HW.out _ hb0).mono ?_); rintro e w3 ⟨rfl, hb3⟩)))
    go_ret
    exact ⟨rfl, stepB hb0 hb3⟩
  · have hE : wrongD d l = chkD d := by unfold wrongD; rw [if_pos h0]
    rw [hE]
    have hne : (chkD d == 0) = false := by rw [beq_eq_false_iff_ne]; exact h0
    clear hx hl hw h8 hll h0 hE
    generalize chkD d = E at *
    generalize d.nx.length = nn at *
    generalize d.fi.length = nf at *
    generalize l.length = nl at *
    go_enter Tryd.func18, Tryd.ntmps18
    go_wp2_with (go_at_call 24; ((with_reducible refine (HC.out _ hb0).mono ?_); rintro e w2 ⟨rfl, hb2⟩))
    go_ret
    exact ⟨rfl, stepB hb0 hb2⟩
omit hl h8 hll in
set_option maxHeartbeats 4000000 in
theorem refRun7_any (h0 : wrongD d l = 0) :
    Calls Tryd.prog 19 #[.agg #[.int .i64 d.V, .int .i64 d.q0, .slice A d.nx.length a, .slice B d.fi.length b], .slice D l.length c] w fun e w' => e = .returned (.int .i64 (runD d l)) ∧ Below w.heap.size w w' := by
  have hB0 := Blk4.new w (.int .i64 d.V) (.int .i64 d.q0) (.slice A d.nx.length a) (.slice B d.fi.length b)
  have hb0 := bal (Below.refl w.heap.size w) (.cells #[.int .i64 d.V, .int .i64 d.q0, .slice A d.nx.length a, .slice B d.fi.length b] 25)
  obtain ⟨hO, _, hlt⟩ := wrongD_zero h0
  obtain ⟨z0, z1, z2, z3⟩ := hB0.cells
  have hst : ∀ k, 0 ≤ runT d.nx d.q0 (l.take k) ∧ runT d.nx d.q0 (l.take k) < (d.nx.length : Int) := fun k => hO.sq.run hO.q0 fun x hx => hlt x (List.mem_of_mem_take hx)
  obtain ⟨f, hf⟩ : ∃ f : Nat → Nat, ∀ k, runT d.nx d.q0 (l.take k) = (f k : Int) := ⟨fun k => (runT d.nx d.q0 (l.take k)).toNat, fun k => (Int.toNat_of_nonneg (hst k).1).symm⟩
  have hfn : ∀ k, f k < d.nx.length := fun k => by have := hst k; have := hf k; omega
  have hwk : ∀ k, k < l.length → wd l k < 2 ^ d.V.toNat := fun k hk => hlt _ (by
    unfold wd
    rw [List.getD_eq_getElem?_getD, List.getElem?_eq_getElem hk]
    exact List.getElem_mem hk)
  have HS := Lib.hid fun k (hk : k < l.length) => show ∃ ad p c' pd dd rl, A = some ad ∧ (w.alloc (.cells #[.int .i64 d.V, .int .i64 d.q0, .slice A d.nx.length a, .slice B d.fi.length b] 25)).cell? (ad.add (f k)) = some (.slice p rl c') ∧ f k < d.nx.length ∧ p = some pd ∧ wd l k < rl ∧ (w.alloc (.cells #[.int .i64 d.V, .int .i64 d.q0, .slice A d.nx.length a, .slice B d.fi.length b] 25)).cell? (pd.add (wd l k)) = some (.int .i64 (f (k + 1) : Int)) ∧ D = some dd ∧ (w.alloc (.cells #[.int .i64 d.V, .int .i64 d.q0, .slice A d.nx.length a, .slice B d.fi.length b] 25)).cell? (dd.add k) = some (.int .u8 (wd l k : Nat)) by
    obtain ⟨ad, p, c', h1, h2, h3, h4⟩ := (hx.nx.below hb0) (f k) (hfn k)
    have hrl : (tb d.nx (f k)).length = 2 ^ d.V.toNat := (hO.row _ (tb_mem (hfn k))).1
    obtain ⟨pd, h5, _, h6⟩ := h4 (wd l k) (by rw [hrl]; exact hwk k hk)
    obtain ⟨dd, h7, _, h8⟩ := (hw.below hb0) k hk
    refine ⟨ad, p, c', pd, dd, _, h1, h3, hfn k, h5, by rw [hrl]; exact hwk k hk, ?_, h7, h8⟩
    have e := runT_snoc d.nx d.q0 hk
    rw [hf, hf, stepT_nat] at e
    rw [h6, e]
  have HE : Hid (runD d l = (f l.length : Int)) := by
    show _ = _
    unfold runD
    rw [if_pos h0, ← hf, List.take_length]
  have h00 : d.q0 = (f 0 : Int) := hf 0
  clear hx hw h0 hO hlt hst hf hfn hwk
  generalize runD d l = E at *
  generalize wd l = g at *
  generalize d.nx.length = nn at *
  generalize d.fi.length = nf at *
  generalize l.length = nl at *
  generalize d.q0 = q0 at *
  subst h00
  go_enter Tryd.func19, Tryd.ntmps19
  go_wp2
  generalize w.alloc (.cells #[.int .i64 d.V, .int .i64 (f 0 : Int), .slice A nn a, .slice B nf b] 25) = W at *
  go_loopw [5, 6] (fun s i wr => ∃ k q : Nat, k ≤ nl ∧ s = .int .i64 (f k : Int) ∧ i = .int .i64 k ∧ wr = W.drewN q) (fun _ i _ => nl - (intOf i).toNat)
  case atStart => exact ⟨0, 0, by omega, rfl, rfl, rfl⟩
  case round =>
    obtain ⟨k, q, hk, rfl, rfl, rfl⟩ := hrel
    by_cases hlt : k < nl
    · obtain ⟨ad, p, c', pd, dd, rl, rfl, hc1, hc2, rfl, hc3, hc4, rfl, hc5⟩ := HS.out k hlt
      have hlt2 : (k : Int) < (nl : Int) := by omega
      have hlt3 : (f k : Int) < (nn : Int) := by omega
      have hlt4 : (g k : Int) < (rl : Int) := by omega
      clear HS
      generalize hY : f (k + 1) = y at *
      have HY := Lib.hid hY
      clear hY
      generalize f k = x at *
      generalize g k = u at *
      go_wp2
      go_quiet (fail)
      go_wp2
      go_roundw
      case rel => exact ⟨k + 1, _, by omega, by rw [HY.out], by go_num, rfl⟩
      case measure => simp [intOf]; omega
    · obtain rfl : k = nl := by omega
      clear HS
      go_wp2
      go_ret
      exact ⟨ret_int HE.out.symm, Below.trans hb0 (drewN_g _ _)⟩
set_option maxHeartbeats 4000000 in
theorem refAccepts7_any :
    Calls Tryd.prog 20 #[.agg #[.int .i64 d.V, .int .i64 d.q0, .slice A d.nx.length a, .slice B d.fi.length b], .slice D l.length c] w fun e w' => e = .returned (.tuple #[.bool (accD d l), .int .i64 (wrongD d l)]) ∧ Below w.heap.size w w' := by
  have hB0 := Blk4.new w (.int .i64 d.V) (.int .i64 d.q0) (.slice A d.nx.length a) (.slice B d.fi.length b)
  have hb0 := bal (Below.refl w.heap.size w) (.cells #[.int .i64 d.V, .int .i64 d.q0, .slice A d.nx.length a, .slice B d.fi.length b] 25)
  have HW := Lib.hid fun X (hX : Below w.heap.size w X) => refWrong7_any d A B a b X (hx.below hX) hl D l c (hw.below hX) h8 hll
  obtain ⟨z0, z1, z2, z3⟩ := hB0.cells
  by_cases h0 : wrongD d l = 0
  · obtain ⟨hO, _, hlt⟩ := wrongD_zero h0
    have hst := hO.sq.run hO.q0 hlt
    obtain ⟨s, hs⟩ := Int.eq_ofNat_of_zero_le hst.1
    have hsf : s < d.fi.length := by rw [hO.fi]; omega
    have HR : Hid (∀ X, Below w.heap.size w X → Calls Tryd.prog 19 #[.agg #[.int .i64 d.V, .int .i64 d.q0, .slice A d.nx.length a, .slice B d.fi.length b], .slice D l.length c] X fun e w' => e = .returned (.int .i64 (s : Int)) ∧ Below X.heap.size X w') := fun X hX => by
      have := refRun7_any d A B a b X (hx.below hX) D l c (hw.below hX) h0
      unfold runD at this
      rwa [if_pos h0, hs] at this
    have ha : accD d l = d.fi.getD s false := by unfold accD; rw [if_pos h0, hs]; rfl
    rw [ha, h0]
    rw [h0] at HW
    obtain ⟨fd, rfl, hfdl, hfc⟩ := hx.fi s hsf
    replace hfc : w.cell? (fd.add s) = some (.bool (d.fi.getD s false)) := hfc
    have hs3 : (s : Int) < (d.fi.length : Int) := by omega
    clear hx hl hw h8 hll hO hlt hst hs ha h0
    generalize d.fi.getD s false = R at *
    generalize d.nx.length = nn at *
    generalize d.fi.length = nf at *
    generalize l.length = nl at *
    go_enter Tryd.func20, Tryd.ntmps20
    go_wp2_with (go_at_call 18; ((with_reducible refine (HW.out _ hb0).mono ?_); rintro e w2 ⟨rfl, hb2⟩); clear z0 z1 z2 z3; replace hB0 := hB0.below hb2; replace hb0 := stepB hb0 hb2; obtain ⟨z0, z1, z2, z3⟩ := hB0.cells)
    have KE : Below w2.heap.size w2 w2.drew := drew_below w2
    have KD := stepB hb0 KE
    have hcd : ∀ X, Below w2.heap.size w2 X → X.cell? (fd.add s) = some (.bool R) := fun X hX => (Below.cell (stepB hb0 hX) (by rw [addr_block]; exact hfdl)).trans hfc
    have hSd : w2.drew.cell? ⟨w.heap.size, 0, none⟩ = some (.int .i64 d.V) ∧ w2.drew.cell? ⟨w.heap.size, 1, none⟩ = some (.int .i64 d.q0) ∧ w2.drew.cell? ⟨w.heap.size, 2, none⟩ = some (.slice A nn a) ∧ w2.drew.cell? ⟨w.heap.size, 3, none⟩ = some (.slice (some fd) nf b) ∧ w2.drew.cell? (fd.add s) = some (.bool R) ∧ Below w2.heap.size w2 w2.drew := ⟨(hB0.below KE).cells.1, (hB0.below KE).cells.2.1, (hB0.below KE).cells.2.2.1, (hB0.below KE).cells.2.2.2, hcd _ KE, KE⟩
    go_region_held3 (fun w' => w'.cell? ⟨w.heap.size, 0, none⟩ = some (.int .i64 d.V) ∧ w'.cell? ⟨w.heap.size, 1, none⟩ = some (.int .i64 d.q0) ∧ w'.cell? ⟨w.heap.size, 2, none⟩ = some (.slice A nn a) ∧ w'.cell? ⟨w.heap.size, 3, none⟩ = some (.slice (some fd) nf b) ∧ w'.cell? (fd.add s) = some (.bool R) ∧ Below w2.heap.size w2 w')
      (first | assumption)
      ((go_at_call 19; ((with_reducible refine (HR.out w2.drew KD).mono ?_); rintro e w3 ⟨rfl, hb3⟩); have K3 := stepB KE hb3; have hS3 : w3.cell? ⟨w.heap.size, 0, none⟩ = some (.int .i64 d.V) ∧ w3.cell? ⟨w.heap.size, 1, none⟩ = some (.int .i64 d.q0) ∧ w3.cell? ⟨w.heap.size, 2, none⟩ = some (.slice A nn a) ∧ w3.cell? ⟨w.heap.size, 3, none⟩ = some (.slice (some fd) nf b) ∧ w3.cell? (fd.add s) = some (.bool R) ∧ Below w2.heap.size w2 w3 := ⟨(hB0.below K3).cells.1, (hB0.below K3).cells.2.1, (hB0.below K3).cells.2.2.1, (hB0.below K3).cells.2.2.2, hcd _ K3, K3⟩))
    have K := hS3.2.2.2.2.2
    go_wp2
    go_ret2
    exact ⟨rfl, stepB hb0 K⟩
  · have ha : accD d l = false := by unfold accD; rw [if_neg h0]
    rw [ha]
    have hne : (wrongD d l != 0) = true := by rw [bne_iff_ne]; exact h0
    clear hx hl hw h8 hll h0 ha
    generalize wrongD d l = E at *
    generalize d.nx.length = nn at *
    generalize d.fi.length = nf at *
    generalize l.length = nl at *
    go_enter Tryd.func20, Tryd.ntmps20
    go_wp2_with (go_at_call 18; ((with_reducible refine (HW.out _ hb0).mono ?_); rintro e w2 ⟨rfl, hb2⟩))
    go_ret2
    exact ⟨rfl, stepB hb0 hb2⟩
end
end Go.Proofs.YtdjhfndoheoljaaDoor.Sb
