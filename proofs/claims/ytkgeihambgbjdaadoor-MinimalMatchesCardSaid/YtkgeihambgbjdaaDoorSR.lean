/- The kit's OverBytes; the walk of MinimalTells. -/
import Derived.Test.YtkgeihambgbjdaaDoorSQ
namespace Go.Proofs.YtkgeihambgbjdaaDoor.Mi
open Go Go.RowKit Go.Proofs.YtkgeihambgbjdaaDoor Go.Proofs.YtkgeihambgbjdaaDoor.Cb Go.Proofs.YtkgeihambgbjdaaDoor.Sb
open Go.Proofs.YtkgeihambgbjdaaDoor.Nf (Bys zvs bvs ret_int ret_b drew_below)
open Go.Proofs.YtkgeihambgbjdaaDoor.Dg (Tabs tb tb_mem)
set_option linter.unusedVariables false
set_option linter.unusedSimpArgs false
set_option linter.unusedSectionVars false
set_option maxRecDepth 100000
/-- Each of the n bytes at A may be overwritten; they lie in no block below B. -/
def CanB (B : Nat) (w : World) (A : Option Addr) (n : Nat) : Prop :=
  ∀ j, j < n → ∃ ad, A = some ad ∧ B ≤ ad.block ∧ w.frozen? (ad.add j) = false ∧ ∃ u, w.cell? (ad.add j) = some u
theorem CanB.set {B : Nat} {w : World} {A : Option Addr} {n : Nat} (h : CanB B w A n) (p : Addr) (v : Value) : CanB B (w.setCell p v) A n := by
  intro j hj
  obtain ⟨ad, e, h1, h2, u, h4⟩ := h j hj
  refine ⟨ad, e, h1, by rw [World.frozen?_setCell]; exact h2, ?_⟩
  by_cases hp : p = ad.add j
  · subst hp
    exact ⟨v, World.cell?_setCell_same _ _ _ h4⟩
  · exact ⟨u, by rw [World.cell?_setCell_other _ _ _ _ hp]; exact h4⟩
theorem CanB.own {B : Nat} {w : World} {e n c : Nat} {A : Option Addr} {l : List Nat} (h : w.ownsRow B e 1 (.slice A n c) n (wvs l)) : CanB B w A n := by
  intro j hj
  obtain ⟨g, c', hv, hg⟩ := Dg.own_somev h (by omega)
  injection hv with hA _ hc
  subst hA hc
  have hx : j < (wvs l).length := by have := h.1; omega
  have hx2 : j < l.length := by simpa [wvs] using hx
  refine ⟨_, rfl, hg, ?_, (wvs l)[j], ?_⟩
  · rw [addr_add]; exact h.frozenAt j
  · rw [addr_add, h.cellAt j (by omega), List.getElem?_eq_getElem hx]
theorem CanB.below {B : Nat} {w Y : World} {A : Option Addr} {n : Nat} (h : CanB B w A n) (hb : Below w.heap.size w Y) : CanB B Y A n := fun j hj => by
  obtain ⟨ad, e, h1, h2, u, h3⟩ := h j hj
  have h4 : (ad.add j).block < w.heap.size := World.block_lt_of_cell? w _ h3
  refine ⟨ad, e, h1, ?_, u, (hb.cell h4).trans h3⟩
  have h5 : Y.frozen? (ad.add j) = w.frozen? (ad.add j) := by
    unfold World.frozen?
    rw [hb.block _ h4]
  rw [h5]; exact h2
set_option maxHeartbeats 4000000 in
theorem OverBytes_any (B : Nat) (A : Option Addr) (n c : Nat) (w : World) (hn : n ≤ 1000000) (hw : CanB B w A n) :
    Calls Tryd.prog 28 #[.slice A n c] w fun e w' => e = .returned (.tuple #[]) ∧ Below B w w' := by
  go_enter Tryd.func28, Tryd.ntmps28
  go_wp2
  go_loopw [2] (fun i wr => ∃ k : Nat, k ≤ n ∧ i = .int .i64 k ∧ CanB B wr A n ∧ Below B w wr) (fun i _ => n - (intOf i).toNat)
  case atStart => exact ⟨0, by omega, rfl, hw, Below.refl _ _⟩
  case round =>
    clear hw
    obtain ⟨k, hk, rfl, hw, hb⟩ := hrel
    by_cases hlt : k < n
    · obtain ⟨ad, rfl, g1, g2, u, g3⟩ := hw k hlt
      have hb2 := hb.setCell (p := ad.add k) (by rw [addr_block]; exact g1) (.int .u8 201)
      have hw2 := hw.set (ad.add k) (.int .u8 201)
      clear hb hw g1
      go_wp2
      go_roundw
      case rel => exact ⟨k + 1, by omega, by go_num, hw2, hb2⟩
      case measure => simp [intOf]; omega
    · obtain rfl : k = n := by omega
      go_wp2
      go_end0
      exact ⟨rfl, hb⟩
/-- What all of Distinguish, Equivalent and the reference answer. -/
theorem tell_res (d : Da) (hl : DaLen d) (hn : chkD d = 0 → d.nx.length ≤ 12) (s t : Int) : ∃ (u : List Nat) (q : Bool) (E : Int), u.length ≤ 12 ∧ (∀ y ∈ u, y < 256) ∧ (E ≠ 0 → q = false) ∧ ∀ (A B : Option Addr) (a b : Nat) (X : World), DaAt X d A B →
    (Calls Tryd.prog 24 #[.agg #[.int .i64 d.V, .int .i64 d.q0, .slice A d.nx.length a, .slice B d.fi.length b], .int .i64 s, .int .i64 t] X fun e w' => ∃ D c, e = .returned (.tuple #[.slice D u.length c, .bool q, .int .i64 E]) ∧ Bys w' D u ∧ Below X.heap.size X w') ∧
    (Calls Tryd.prog 25 #[.agg #[.int .i64 d.V, .int .i64 d.q0, .slice A d.nx.length a, .slice B d.fi.length b], .int .i64 s, .int .i64 t] X fun e w' => ∃ D c, e = .returned (.tuple #[.slice D u.length c, .bool q, .int .i64 E]) ∧ Bys w' D u ∧ CanB X.heap.size w' D u.length ∧ Below X.heap.size X w') ∧
    (Calls Tryd.prog 26 #[.agg #[.int .i64 d.V, .int .i64 d.q0, .slice A d.nx.length a, .slice B d.fi.length b], .int .i64 s, .int .i64 t] X fun e w' => e = .returned (.tuple #[.bool (decide (E = 0) && !q), .int .i64 E]) ∧ Below X.heap.size X w') := by
  by_cases hc : chkS d s t = 0
  · obtain ⟨h0, ⟨h1, h2⟩, h3, h4⟩ := chkS_inv d hc
    have hO := okD_of h0
    have hn12 := hn h0
    obtain ⟨S, rfl⟩ : ∃ S : Nat, s = (S : Int) := ⟨s.toNat, by omega⟩
    obtain ⟨T, rfl⟩ : ∃ T : Nat, t = (T : Int) := ⟨t.toNat, by omega⟩
    obtain ⟨u, q, hu⟩ := least_ex d S T
    have hus := hu.short hO (by omega) (by omega)
    refine ⟨u, q, 0, by omega, fun y hy => ?_, fun h => absurd rfl h, fun A B a b X hx => ⟨?_, ?_, ?_⟩⟩
    · have h5 := hu.lt y hy
      have h6 : 2 ^ d.V.toNat ≤ 64 := Dg.pow7 (by have := hO.v6; omega)
      omega
    · exact (refDistinguish_good d A B a b X hx h0 (by omega) S T (by omega) (by omega) hu).mono fun e w' h => h
    · exact (dis_good d A B a b X hx h0 (by omega) S T (by omega) (by omega) hu).mono fun e w' ⟨D, c, h5, h6, h7⟩ => ⟨D, c, h5, bys_wvs h6 rfl, CanB.own h6, h7⟩
    · refine (Equivalent_good d A B a b X hx h0 (by omega) S T (by omega) (by omega)).mono fun e w' ⟨rv, q', h5, hS, h7⟩ => ⟨?_, h7⟩
      have hq : q' = q := by
        rcases hS with ⟨rv', u', e1, ho, hu', hne, hl'⟩ | ⟨e1, hl'⟩
        · have e2 := (Ending.returned.inj e1)
          simp only [Value.tuple.injEq, Array.mk.injEq, List.cons.injEq, Value.bool.injEq, and_true] at e2
          rw [e2.2]
          exact (hu.one (u' := u') (q' := true) ⟨hu', fun _ => ⟨hne, hl'⟩, fun e => (by cases e)⟩).2
        · have e2 := (Ending.returned.inj e1)
          simp only [Value.tuple.injEq, Array.mk.injEq, List.cons.injEq, Value.bool.injEq, and_true] at e2
          rw [e2.2]
          exact (hu.one (u' := []) (q' := false) ⟨fun y hy => (by cases hy), fun e => (by cases e), fun _ => ⟨rfl, (lg_eq rfl).2 hl'⟩⟩).2
      rw [h5, hq]
      simp
  · refine ⟨[], false, chkS d s t, by decide, fun y hy => (by cases hy), fun _ => rfl, fun A B a b X hx => ⟨?_, ?_, ?_⟩⟩
    · exact (refDistinguish_bad d A B a b X hx hl s t hc).mono fun e w' h => ⟨none, 0, h.1, (fun j hj => absurd hj (Nat.not_lt_zero _)), h.2⟩
    · exact (Distinguish_bad d A B a b X hx hl s t hc).mono fun e w' h => ⟨none, 0, h.1, (fun j hj => absurd hj (Nat.not_lt_zero _)), (fun j hj => absurd hj (Nat.not_lt_zero _)), h.2⟩
    · have := Equivalent_bad d A B a b X hx hl s t hc
      rw [show (decide (chkS d s t = 0) && !false) = false by rw [decide_eq_false hc]; rfl]
      exact this
section
variable (d : Da) (A B : Option Addr) (a b : Nat) (s t : Int) (w : World)
set_option maxHeartbeats 16000000 in
theorem minimalTells_walk (hx : DaAt w d A B) (m1 : d.nx.length ≤ maxLen) (m2 : d.fi.length ≤ maxLen) (m3 : ∀ r ∈ d.nx, r.length ≤ maxLen) (hs : -9223372036854775808 ≤ s ∧ s ≤ 9223372036854775807) (ht : -9223372036854775808 ≤ t ∧ t ≤ 9223372036854775807) (hT : Tabs2 w) :
    Calls Tryd.prog 4 #[.agg #[.int .i64 d.V, .int .i64 d.q0, .slice A d.nx.length a, .slice B d.fi.length b], .int .i64 s, .int .i64 t] w fun e w' => e = .returned (.bool true) ∧ Below w.heap.size w w' := by
  have HAw := Lib.hid fun X (hX : Below w.heap.size w X) => awake_any8 X (hT.below hX)
  have HLo : Hid (∀ X (hX : Below w.heap.size w X) g, g = X.heap.size → Calls Tryd.prog 10 #[.slice (some ⟨g, 0, none⟩) 1 1] (X.alloc (.cells #[.int .i64 d.V, .int .i64 d.q0, .slice A d.nx.length a, .slice B d.fi.length b] 25)) fun e w' => e = .returned (.bool (longD d)) ∧ Below X.heap.size X w') := fun X hX g hg => by
    subst hg
    exact Long7_any d A B a b X (hx.below hX) m1 m2 m3
  have hB0 := Blk4.new w (.int .i64 d.V) (.int .i64 d.q0) (.slice A d.nx.length a) (.slice B d.fi.length b)
  have hb0 := bal (Below.refl w.heap.size w) (.cells #[.int .i64 d.V, .int .i64 d.q0, .slice A d.nx.length a, .slice B d.fi.length b] 25)
  by_cases hlong : longD d = true
  · rw [hlong] at HLo
    clear hlong hx m1 m2 m3
    obtain ⟨z0, z1, z2, z3⟩ := hB0.cells
    go_enter Tryd.func4, Tryd.ntmps4
    go_wp2_with (first
      | (go_at_call 10; ((with_reducible refine (HLo.out _ hb0 _ (by simp)).mono ?_); rintro e w2 ⟨rfl, hb2⟩); replace hb0 := stepB hb0 hb2)
      | (go_at_call 12; ((with_reducible refine (HAw.out _ hb0).mono ?_); rintro e w3 ⟨rfl, hb3⟩)))
    go_ret
    exact ⟨rfl, stepB hb0 hb3⟩
  have hL : longD d = false := Bool.eq_false_iff.2 hlong
  have hlen := longD_len hL
  have h40 := (longD_no hL).1
  rw [hL] at HLo
  clear hlong hL m1 m2 m3
  have HCk := Lib.hid fun X (hX : Below w.heap.size w X) => refCheck7_any d A B a b X (hx.below hX) hlen
  by_cases hear : 12 < d.nx.length ∧ chkD d = 0
  · have hd1 : decide ((12 : Int) < (d.nx.length : Int)) = true := decide_eq_true (by omega)
    rw [hear.2] at HCk
    clear hx hlen
    have hd2 : decide (12 < d.nx.length) = true := decide_eq_true hear.1
    clear hear
    generalize d.nx.length = nn at *
    generalize d.fi.length = nf at *
    obtain ⟨z0, z1, z2, z3⟩ := hB0.cells
    go_enter Tryd.func4, Tryd.ntmps4
    go_wp2_with (first
      | (go_at_call 10; ((with_reducible refine (HLo.out _ hb0 _ (by simp)).mono ?_); rintro e w2 ⟨rfl, hb2⟩); replace hb0 := stepB hb0 hb2; replace hB0 := hB0.below hb2; clear z0 z1 z2 z3; obtain ⟨z0, z1, z2, z3⟩ := hB0.cells)
      | (go_at_call 11; ((with_reducible refine (HCk.out _ hb0).mono ?_); rintro e w3 ⟨rfl, hb3⟩); replace hb0 := stepB hb0 hb3; clear z0 z1 z2 z3)
      | (go_at_call 12; ((with_reducible refine (HAw.out _ hb0).mono ?_); rintro e w4 ⟨rfl, hb4⟩)))
    go_ret
    exact ⟨rfl, stepB hb0 hb4⟩
  obtain ⟨u, q, E, hu12, h8, hEq, HR⟩ := tell_res d hlen (fun h => by
    apply Decidable.byContradiction
    intro h2
    exact hear ⟨by omega, h⟩) s t
  have H1 := Lib.hid fun X (hX : Below w.heap.size w X) => (HR A B a b X (hx.below hX)).1
  have H2 := Lib.hid fun X (hX : Below w.heap.size w X) => (HR A B a b X (hx.below hX)).2.1
  have H3 := Lib.hid fun X (hX : Below w.heap.size w X) => (HR A B a b X (hx.below hX)).2.2
  have HEB := Lib.hid fun X D D' c c' (h1 : Bys X D u) (h2 : Bys X D' u) => EqualBytes6_same D D' u c c' X h1 h2 (by omega)
  have HOv := Lib.hid fun B X D c (h : CanB B X D u.length) => OverBytes_any B D u.length c X (by omega) h
  have hEE : (E != E) = false := by simp
  have hqq : (q != q) = false := by simp
  obtain ⟨P1, hP1⟩ : ∃ P, P = decide ((12 : Int) < (d.nx.length : Int)) := ⟨_, rfl⟩
  have hP2 : decide (12 < d.nx.length) = P1 := by rw [hP1]; exact decide_eq_decide.2 (by omega)
  have hP3 : P1 = true → (chkD d == 0) = false := fun h => by
    rw [beq_eq_false_iff_ne]
    intro h2
    exact hear ⟨by have := of_decide_eq_true (hP1 ▸ h); omega, h2⟩
  have hP1s := hP1.symm
  have hor : (E = 0) ∨ (E ≠ 0 ∧ q = false) := by
    by_cases h : E = 0
    · exact .inl h
    · exact .inr ⟨h, hEq h⟩
  have hnu : u.length ≤ 12 := hu12
  clear hx hlen HR hear hP1 hEq h8 hu12
  generalize chkD d = C0 at *
  generalize hnul : u.length = nu at *
  clear hnul
  generalize d.nx.length = nn at *
  generalize d.fi.length = nf at *
  have hor2 : (E = 0 ∧ q = true) ∨ (E = 0 ∧ q = false) ∨ ((E == 0) = false ∧ q = false) := by
    rcases hor with h | ⟨h, h2⟩
    · cases q with
      | true => exact .inl ⟨h, rfl⟩
      | false => exact .inr (.inl ⟨h, rfl⟩)
    · exact .inr (.inr ⟨by rw [beq_eq_false_iff_ne]; exact h, h2⟩)
  have hZ : (decide (E = 0) && !q) = ((E == 0) && !q) := by
    congr 1
  rw [hZ] at H3
  clear hZ hor
  obtain ⟨z0, z1, z2, z3⟩ := hB0.cells
  cases P1
  all_goals
    try replace hP3 := hP3 rfl
    rcases hor2 with ⟨rfl, rfl⟩ | ⟨rfl, rfl⟩ | ⟨hE0, rfl⟩
    all_goals
      try simp only [hE0, Bool.false_and] at H3
      go_enter Tryd.func4, Tryd.ntmps4
      go_wp2_with (first
        | (go_at_call 10; ((with_reducible refine (HLo.out _ hb0 _ (by simp)).mono ?_); rintro e w2 ⟨rfl, hb2⟩); replace hb0 := stepB hb0 hb2; replace hB0 := hB0.below hb2; clear z0 z1 z2 z3; obtain ⟨z0, z1, z2, z3⟩ := hB0.cells)
        | (go_at_call 11; ((with_reducible refine (HCk.out _ hb0).mono ?_); rintro e w3 ⟨rfl, hb3⟩); replace hb0 := stepB hb0 hb3; replace hB0 := hB0.below hb3; clear z0 z1 z2 z3; obtain ⟨z0, z1, z2, z3⟩ := hB0.cells)
        | (go_at_call 24; ((with_reducible refine (H1.out _ hb0).mono ?_); rintro e w5 ⟨D5, c5, rfl, hu5, hb5⟩); replace hb0 := stepB hb0 hb5; replace hB0 := hB0.below hb5; clear z0 z1 z2 z3))
      have HS := Lib.hid (And.intro hb0 (And.intro hB0 hu5))
      clear hb0 hB0 hu5 hb5
      go_loopw [10, 11, 12, 13, 14, 15] (fun iv _ _ _ _ _ wr => ∃ (k : Nat), k ≤ 2 ∧ iv = .int .i64 k ∧ Hid (Below w.heap.size w wr ∧ Blk4 wr w.heap.size (.int .i64 d.V) (.int .i64 d.q0) (.slice A nn a) (.slice B nf b) ∧ Bys wr D5 u)) (fun iv _ _ _ _ _ _ => 2 - (intOf iv).toNat)
      case atStart => exact ⟨0, by omega, rfl, HS⟩
      case round =>
        clear HS
        obtain ⟨k, hk, rfl, HS⟩ := hrel
        obtain ⟨hb0, hB0, hu5⟩ := HS.out
        obtain ⟨z0, z1, z2, z3⟩ := hB0.cells
        by_cases hk2 : k = 2
        · subst hk2
          clear z0 z1 z2 z3
          go_wp2_with (go_at_call 12; ((with_reducible refine (HAw.out _ hb0).mono ?_); rintro e w9 ⟨rfl, hb9⟩))
          go_ret
          exact ⟨rfl, stepB hb0 hb9⟩
        · have hg1 : decide ((k : Int) < 2) = true := decide_eq_true (by omega)
          have hg2 : decide (k < 2) = true := decide_eq_true (by omega)
          go_wp2_with (first
            | (go_at_call 25; ((with_reducible refine (H2.out _ hb0).mono ?_); rintro e w6 ⟨D6, c6, rfl, hu6, hC6, hb6⟩); have hbk := hb6; replace hb0 := stepB hb0 hb6; replace hB0 := hB0.below hb6; replace hu5 := hu5.below hb6; clear hb6; clear z0 z1 z2 z3; obtain ⟨z0, z1, z2, z3⟩ := hB0.cells)
            | (go_at_call 26; ((with_reducible refine (H3.out _ hb0).mono ?_); rintro e w7 ⟨rfl, hb7⟩); replace hbk := stepB hbk hb7; replace hu5 := hu5.below hb7; replace hu6 := hu6.below hb7; replace hC6 := hC6.below hb7; clear hb7 hb0 hB0; clear z0 z1 z2 z3)
            | (go_at_call 27; ((with_reducible refine (HEB.out _ _ _ _ _ hu6 hu5).mono ?_); rintro e w8 ⟨rfl, nq, rfl⟩); have K8 := Ap.drewN_below w7 nq; replace hbk := stepB hbk K8; replace hC6 := hC6.below K8; clear K8 hu5 hu6; generalize w7.drewN nq = w8 at *)
            | (go_at_call 28; ((with_reducible refine (HOv.out wr.heap.size _ _ _ hC6).mono ?_); rintro e w9 ⟨rfl, hb9⟩); replace hbk := hbk.trans hb9; clear hb9 hC6))
          go_roundw
          case rel => exact ⟨k + 1, by omega, by go_num, HS.out.1 |> fun h => stepB h hbk, HS.out.2.1.below hbk, HS.out.2.2.below hbk⟩
          case measure => simp [intOf]; omega
end
end Go.Proofs.YtkgeihambgbjdaaDoor.Mi
