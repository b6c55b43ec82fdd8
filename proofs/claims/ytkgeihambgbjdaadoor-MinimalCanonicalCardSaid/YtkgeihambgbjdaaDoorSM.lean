/- The walk of MinimalCanonical. -/
import Derived.Test.YtkgeihambgbjdaaDoorSL
import Derived.Test.YtkgeihambgbjdaaDoorSE
import Derived.Test.YtkgeihambgbjdaaDoorSJ
namespace Go.Proofs.YtkgeihambgbjdaaDoor.Mi
open Go Go.RowKit Go.Proofs.YtkgeihambgbjdaaDoor Go.Proofs.YtkgeihambgbjdaaDoor.Cb Go.Proofs.YtkgeihambgbjdaaDoor.Sb
open Go.Proofs.YtkgeihambgbjdaaDoor.Nf (Bys zvs zvs_snoc bvs ret_int ret_b drew_below wordE hnext info_int6)
open Go.Proofs.YtkgeihambgbjdaaDoor.Dg (Tabs tb tb_mem info_tab)
set_option linter.unusedVariables false
set_option linter.unusedSimpArgs false
set_option linter.unusedSectionVars false
set_option maxRecDepth 100000
theorem news_blk {X : World} {g : Nat} {v : Value} {t : TypeId} {fz : Nat × Nat} (h : X.heap[g]? = some (.cells #[v] t fz)) : ∀ j u, [v][j]? = some u → X.cell? ((⟨g, 0, none⟩ : Addr).add j) = some u := by
  intro j u hu
  rw [addr_add]
  simp only [World.cell?, h]
  simpa using hu
/-- The first k rows of b behind those of a. -/
def catN (d e : Da) (k : Nat) : List (List Int) := d.nx ++ (e.nx.take k).map (shR d.nx.length)
def catF (d e : Da) (k : Nat) : List Bool := d.fi ++ e.fi.take k
theorem catN_step (d e : Da) {k : Nat} (h : k < e.nx.length) : catN d e (k + 1) = catN d e k ++ [shR d.nx.length (tb e.nx k)] := by
  unfold catN tb
  rw [List.take_add_one, List.getElem?_eq_getElem h, List.map_append, List.append_assoc, List.getD_eq_getElem?_getD, List.getElem?_eq_getElem h]
  rfl
theorem catF_step (d e : Da) {k : Nat} (h : k < e.fi.length) : catF d e (k + 1) = catF d e k ++ [e.fi.getD k false] := by
  unfold catF
  rw [List.take_add_one, List.getElem?_eq_getElem h, List.append_assoc, List.getD_eq_getElem?_getD, List.getElem?_eq_getElem h]
  rfl
theorem catN_len (d e : Da) {k : Nat} (h : k ≤ e.nx.length) : (catN d e k).length = d.nx.length + k := by
  unfold catN
  rw [List.length_append, List.length_map, List.length_take]
  omega
theorem catF_len (d e : Da) {k : Nat} (h : k ≤ e.fi.length) : (catF d e k).length = d.fi.length + k := by
  unfold catF
  rw [List.length_append, List.length_take]
  omega
/-- The law's world behind its loops. -/
structure CSt (w : World) (g1 g2 g7 g8 g9 : Nat) (a0 a1 a2 a3 e0 e1 e2 e3 x0 x1 x2 x3 y0 y1 y2 y3 z0 z1 z2 z3 : Value) (c7 c8 c9 : Da) (A7 B7 A8 B8 A9 B9 : Option Addr) (X : World) : Prop where
  b : Below w.heap.size w X
  b1 : Blk4 X g1 a0 a1 a2 a3
  b2 : Blk4 X g2 e0 e1 e2 e3
  n7 : Blk4 X g7 x0 x1 x2 x3
  d7 : DaAt X c7 A7 B7
  n8 : Blk4 X g8 y0 y1 y2 y3
  d8 : DaAt X c8 A8 B8
  n9 : Blk4 X g9 z0 z1 z2 z3
  d9 : DaAt X c9 A9 B9
theorem CSt.below {w : World} {g1 g2 g7 g8 g9 : Nat} {a0 a1 a2 a3 e0 e1 e2 e3 x0 x1 x2 x3 y0 y1 y2 y3 z0 z1 z2 z3 : Value} {c7 c8 c9 : Da} {A7 B7 A8 B8 A9 B9 : Option Addr} {X Y : World} (h : CSt w g1 g2 g7 g8 g9 a0 a1 a2 a3 e0 e1 e2 e3 x0 x1 x2 x3 y0 y1 y2 y3 z0 z1 z2 z3 c7 c8 c9 A7 B7 A8 B8 A9 B9 X) (hb : Below X.heap.size X Y) : CSt w g1 g2 g7 g8 g9 a0 a1 a2 a3 e0 e1 e2 e3 x0 x1 x2 x3 y0 y1 y2 y3 z0 z1 z2 z3 c7 c8 c9 A7 B7 A8 B8 A9 B9 Y :=
  ⟨stepB h.b hb, h.b1.below hb, h.b2.below hb, h.n7.below hb, h.d7.below hb, h.n8.below hb, h.d8.below hb, h.n9.below hb, h.d9.below hb⟩
section
variable (d : Da) (A B : Option Addr) (a b : Nat) (e : Da) (A' B' : Option Addr) (a' b' : Nat) (D : Option Addr) (l : List Nat) (dl : Nat) (w : World)
set_option maxHeartbeats 32000000 in
theorem minimalCanonical_walk (hx : DaAt w d A B) (m1 : d.nx.length ≤ maxLen) (m2 : d.fi.length ≤ maxLen) (m3 : ∀ r ∈ d.nx, r.length ≤ maxLen) (hy : DaAt w e A' B') (k1 : e.nx.length ≤ maxLen) (k2 : e.fi.length ≤ maxLen) (k3 : ∀ r ∈ e.nx, r.length ≤ maxLen) (hD : Bys w D l) (h8 : ∀ y ∈ l, y < 256) (hll : l.length ≤ maxLen) (hT : Tabs2 w) :
    Calls Tryd.prog 7 #[.agg #[.int .i64 d.V, .int .i64 d.q0, .slice A d.nx.length a, .slice B d.fi.length b], .agg #[.int .i64 e.V, .int .i64 e.q0, .slice A' e.nx.length a', .slice B' e.fi.length b'], .slice D l.length dl] w fun r w' => r = .returned (.bool true) ∧ Below w.heap.size w w' := by
  unfold maxLen at hll
  have HAw := Lib.hid fun X (hX : Below w.heap.size w X) => awake_any8 X (hT.below hX)
  have HLo : Hid (∀ X (hX : Below w.heap.size w X) g, g = X.heap.size → Calls Tryd.prog 10 #[.slice (some ⟨g, 0, none⟩) 2 2] (X.alloc (.cells #[.int .i64 d.V, .int .i64 d.q0, .slice A d.nx.length a, .slice B d.fi.length b, .int .i64 e.V, .int .i64 e.q0, .slice A' e.nx.length a', .slice B' e.fi.length b'] 25)) fun r w' => r = .returned (.bool (longD d || longD e)) ∧ Below X.heap.size X w') := fun X hX g hg => Long72_any d e A B A' B' a b a' b' X (hx.below hX) (hy.below hX) m1 m2 m3 k1 k2 k3 g hg
  have hb0 := bal (bal (Below.refl w.heap.size w) (.cells #[.int .i64 d.V, .int .i64 d.q0, .slice A d.nx.length a, .slice B d.fi.length b] 25)) (.cells #[.int .i64 e.V, .int .i64 e.q0, .slice A' e.nx.length a', .slice B' e.fi.length b'] 25)
  have hB1 := (Blk4.new w (.int .i64 d.V) (.int .i64 d.q0) (.slice A d.nx.length a) (.slice B d.fi.length b)).below (bal (Below.refl _ _) (.cells #[.int .i64 e.V, .int .i64 e.q0, .slice A' e.nx.length a', .slice B' e.fi.length b'] 25))
  have hB2 := Blk4.new (w.alloc (.cells #[.int .i64 d.V, .int .i64 d.q0, .slice A d.nx.length a, .slice B d.fi.length b] 25)) (.int .i64 e.V) (.int .i64 e.q0) (.slice A' e.nx.length a') (.slice B' e.fi.length b')
  rw [World.size_alloc] at hB2
  obtain ⟨P1, hP1⟩ : ∃ P, P = (longD d || longD e) := ⟨_, rfl⟩
  obtain ⟨P2, hP2⟩ : ∃ P, P = decide ((60 : Int) < (l.length : Int)) := ⟨_, rfl⟩
  rw [← hP1] at HLo
  by_cases hearly : P1 = true ∨ P2 = true
  · have hor : P1 = true ∨ (P1 = false ∧ P2 = true) := by
      cases P1 with
      | true => exact .inl rfl
      | false => exact .inr ⟨rfl, by rcases hearly with h | h; cases h; exact h⟩
    clear hearly hx m1 m2 m3 hy k1 k2 k3 hD h8 hP1
    obtain ⟨z0, z1, z2, z3⟩ := hB1.cells
    obtain ⟨y0, y1, y2, y3⟩ := hB2.cells
    have hP2' := hP2.symm
    clear hP2
    generalize l.length = nl at *
    rcases hor with rfl | ⟨rfl, rfl⟩
    all_goals
      go_enter Tryd.func7, Tryd.ntmps7
      go_wp2_with (first
        | (go_at_call 10; ((with_reducible refine (HLo.out _ hb0 _ (by simp)).mono ?_); rintro r w2 ⟨rfl, hb2⟩); replace hb0 := stepB hb0 hb2)
        | (go_at_call 12; ((with_reducible refine (HAw.out _ hb0).mono ?_); rintro r w3 ⟨rfl, hb3⟩)))
      go_ret
      exact ⟨rfl, stepB hb0 hb3⟩
  have hP1f : P1 = false := by cases P1 with
    | true => exact absurd (.inl rfl) hearly
    | false => rfl
  have hP2f : P2 = false := by cases P2 with
    | true => exact absurd (.inr rfl) hearly
    | false => rfl
  subst hP1f
  subst hP2f
  have hL1 : longD d = false := by have := hP1.symm; simp at this; exact this.1
  have hL2 : longD e = false := by have := hP1.symm; simp at this; exact this.2
  have hl60 : l.length ≤ 60 := by have := of_decide_eq_false hP2.symm; omega
  have hlend := longD_len hL1
  have hlene := longD_len hL2
  have h40d := (longD_no hL1).1
  have h40e := (longD_no hL2).1
  have hP2' := hP2.symm
  clear hearly hP1 hP2 hL1 hL2 m1 m2 m3 k1 k2 k3
  have HC1 := Lib.hid fun X (hX : Below w.heap.size w X) => CheckD_any d A B a b X (hx.below hX) hlend
  have HC2 := Lib.hid fun X (hX : Below w.heap.size w X) => CheckD_any e A' B' a' b' X (hy.below hX) hlene
  by_cases hbad : chkD d ≠ 0 ∨ chkD e ≠ 0 ∨ d.V ≠ e.V
  · have hor : ((chkD d != 0) = true) ∨ ((chkD d != 0) = false ∧ (chkD e != 0) = true) ∨ ((chkD d != 0) = false ∧ (chkD e != 0) = false ∧ (d.V != e.V) = true) := by
      by_cases c1 : chkD d = 0
      · have h1 : (chkD d != 0) = false := by rw [bne_eq_false_iff_eq]; exact c1
        by_cases c2 : chkD e = 0
        · have h2 : (chkD e != 0) = false := by rw [bne_eq_false_iff_eq]; exact c2
          rcases hbad with h | h | h
          · exact absurd c1 h
          · exact absurd c2 h
          · exact .inr (.inr ⟨h1, h2, by rw [bne_iff_ne]; exact h⟩)
        · exact .inr (.inl ⟨h1, by rw [bne_iff_ne]; exact c2⟩)
      · exact .inl (by rw [bne_iff_ne]; exact c1)
    clear hbad hx hy hD h8 hlend hlene
    obtain ⟨z0, z1, z2, z3⟩ := hB1.cells
    obtain ⟨y0, y1, y2, y3⟩ := hB2.cells
    generalize chkD d = E1 at *
    generalize chkD e = E2 at *
    generalize d.V = V1 at *
    generalize e.V = V2 at *
    generalize l.length = nl at *
    generalize d.nx.length = nn at *
    generalize d.fi.length = nf at *
    generalize e.nx.length = mn at *
    generalize e.fi.length = mf at *
    rcases hor with c1 | ⟨c1, c2⟩ | ⟨c1, c2, c3⟩
    all_goals
      go_enter Tryd.func7, Tryd.ntmps7
      go_wp2_with (first
        | (go_at_call 10; ((with_reducible refine (HLo.out _ hb0 _ (by simp)).mono ?_); rintro r w2 ⟨rfl, hb2⟩); replace hb0 := stepB hb0 hb2; replace hB1 := hB1.below hb2; replace hB2 := hB2.below hb2; clear z0 z1 z2 z3 y0 y1 y2 y3; obtain ⟨z0, z1, z2, z3⟩ := hB1.cells; obtain ⟨y0, y1, y2, y3⟩ := hB2.cells)
        | (go_at_call 12; ((with_reducible refine (HAw.out _ hb0).mono ?_); rintro r w3 ⟨rfl, hb3⟩); replace hb0 := stepB hb0 hb3; replace hB1 := hB1.below hb3; replace hB2 := hB2.below hb3; clear z0 z1 z2 z3 y0 y1 y2 y3; obtain ⟨z0, z1, z2, z3⟩ := hB1.cells; obtain ⟨y0, y1, y2, y3⟩ := hB2.cells)
        | (go_at_call 31; ((with_reducible refine (HC1.out _ hb0).mono ?_); rintro r w4 ⟨rfl, hb4⟩); replace hb0 := stepB hb0 hb4; replace hB1 := hB1.below hb4; replace hB2 := hB2.below hb4; clear z0 z1 z2 z3 y0 y1 y2 y3; obtain ⟨z0, z1, z2, z3⟩ := hB1.cells; obtain ⟨y0, y1, y2, y3⟩ := hB2.cells)
        | (go_at_call 31; ((with_reducible refine (HC2.out _ hb0).mono ?_); rintro r w5 ⟨rfl, hb5⟩); replace hb0 := stepB hb0 hb5; replace hB1 := hB1.below hb5; replace hB2 := hB2.below hb5; clear z0 z1 z2 z3 y0 y1 y2 y3; obtain ⟨z0, z1, z2, z3⟩ := hB1.cells; obtain ⟨y0, y1, y2, y3⟩ := hB2.cells))
      go_ret
      exact ⟨rfl, hb0⟩
  have c1 : chkD d = 0 := by
    apply Decidable.byContradiction
    exact fun h => hbad (.inl h)
  have c2 : chkD e = 0 := by
    apply Decidable.byContradiction
    exact fun h => hbad (.inr (.inl h))
  have hV : d.V = e.V := by
    apply Decidable.byContradiction
    exact fun h => hbad (.inr (.inr h))
  have hVV : (d.V != e.V) = false := by rw [bne_eq_false_iff_eq]; exact hV
  rw [c1] at HC1
  rw [c2] at HC2
  clear hbad
  have hOd := okD_of c1
  have hOe := okD_of c2
  obtain ⟨F, hF, hFp⟩ := ren_some hOd
  obtain ⟨G, hG, hGp⟩ := ren_some hOe
  have hMd := min_ok hOd hF hFp
  have hMe := min_ok hOe hG hGp
  have hsame := min_same hOd hF hFp hOe hG hGp hV
  have hOc := cat_ok hOd hOe hV (by omega)
  have hcl := cat_len hOd hOe hV
  have hq1 := hOd.q0
  have hq2 := hOe.q0
  obtain ⟨s, hs⟩ : ∃ s : Nat, d.q0 = (s : Int) := ⟨d.q0.toNat, by omega⟩
  obtain ⟨t, ht⟩ : ∃ t : Nat, e.q0 = (t : Int) := ⟨e.q0.toNat, by omega⟩
  have hsn : s < d.nx.length := by omega
  have htn : t < e.nx.length := by omega
  obtain ⟨u, q, hu⟩ := least_ex (catD d e) s (d.nx.length + t)
  have hus := hu.short hOc (by omega) (by omega)
  have hlg1 := cat_lg1 hOd hOe hV hsn
  have hlg2 := cat_lg2 hOd hOe hV htn
  have hiff := hu.q_iff
  rw [hlg1, hlg2] at hiff
  rw [show d.q0.toNat = s by omega, show e.q0.toNat = t by omega] at hsame
  have hEq0 : eqD (minR (renD d F)) (minR (renD e G)) = !q := by
    cases q with
    | true =>
      cases h : eqD (minR (renD d F)) (minR (renD e G)) with
      | false => rfl
      | true => exact absurd (hsame.1 (eqD_iff.1 h)) (hiff.1 rfl)
    | false => exact eqD_iff.2 (hsame.2 (by rw [← hlg1, ← hlg2]; exact (hu.no rfl).2))
  have hu1 : ∀ y ∈ u, y < 2 ^ d.V.toNat := hu.lt
  have hu2 : ∀ y ∈ u, y < 2 ^ e.V.toNat := by rw [← hV]; exact hu1
  have h8u : ∀ y ∈ u, y < 256 := fun y hy => by
    have h1 := hu1 y hy
    have h2 : 2 ^ d.V.toNat ≤ 64 := Dg.pow7 (by have := hOd.v6; omega)
    omega
  have HMn1 : Hid (∀ X, Below w.heap.size w X → Calls Tryd.prog 17 #[.agg #[.int .i64 d.V, .int .i64 d.q0, .slice A d.nx.length a, .slice B d.fi.length b]] X fun r w' => ∃ A'' a'' B'' b'', r = .returned (.tuple #[.agg #[.int .i64 (minR (renD d F)).V, .int .i64 (minR (renD d F)).q0, .slice A'' (minR (renD d F)).nx.length a'', .slice B'' (minR (renD d F)).fi.length b''], .int .i64 0]) ∧ DaAt w' (minR (renD d F)) A'' B'' ∧ Below X.heap.size X w') := fun X hX =>
    (min_good d A B a b X (hx.below hX) (hT.below hX) c1 (by omega) F hF hFp rfl).mono fun r w' ⟨A', a', B', b', h1, h2, h3, _⟩ => ⟨A', a', B', b', h1, h2, h3⟩
  have HMn2 : Hid (∀ X, Below w.heap.size w X → Calls Tryd.prog 17 #[.agg #[.int .i64 e.V, .int .i64 e.q0, .slice A' e.nx.length a', .slice B' e.fi.length b']] X fun r w' => ∃ A'' a'' B'' b'', r = .returned (.tuple #[.agg #[.int .i64 (minR (renD e G)).V, .int .i64 (minR (renD e G)).q0, .slice A'' (minR (renD e G)).nx.length a'', .slice B'' (minR (renD e G)).fi.length b''], .int .i64 0]) ∧ DaAt w' (minR (renD e G)) A'' B'' ∧ Below X.heap.size X w') := fun X hX =>
    (min_good e A' B' a' b' X (hy.below hX) (hT.below hX) c2 (by omega) G hG hGp rfl).mono fun r w' ⟨A', a', B', b', h1, h2, h3, _⟩ => ⟨A', a', B', b', h1, h2, h3⟩
  have HEq : Hid (∀ X A1 B1 A2 B2 a1 b1 a2 b2, DaAt X (minR (renD d F)) A1 B1 → DaAt X (minR (renD e G)) A2 B2 → Calls Tryd.prog 20 #[.agg #[.int .i64 (minR (renD d F)).V, .int .i64 (minR (renD d F)).q0, .slice A1 (minR (renD d F)).nx.length a1, .slice B1 (minR (renD d F)).fi.length b1], .agg #[.int .i64 (minR (renD e G)).V, .int .i64 (minR (renD e G)).q0, .slice A2 (minR (renD e G)).nx.length a2, .slice B2 (minR (renD e G)).fi.length b2]] X fun r w' => r = .returned (.bool (!q)) ∧ Below X.heap.size X w') := fun X A1 B1 A2 B2 a1 b1 a2 b2 h1 h2 => by
    have := EqualDFA_dec (minR (renD d F)) (minR (renD e G)) A1 B1 A2 B2 a1 b1 a2 b2 X h1 h2 hMd.len hMe.len
    rwa [hEq0] at this
  have HDs : Hid (∀ X A1 B1 a1 b1, DaAt X (catD d e) A1 B1 → Calls Tryd.prog 25 #[.agg #[.int .i64 d.V, .int .i64 d.q0, .slice A1 (catD d e).nx.length a1, .slice B1 (catD d e).fi.length b1], .int .i64 d.q0, .int .i64 ((d.nx.length : Int) + e.q0)] X fun r w' => ∃ D c, r = .returned (.tuple #[.slice D u.length c, .bool q, .int .i64 0]) ∧ Bys w' D u ∧ Below X.heap.size X w') := fun X A1 B1 a1 b1 hd => by
    have h := dis_good (catD d e) A1 B1 a1 b1 X hd (okD_chk hOc) (by omega) s (d.nx.length + t) (by omega) (by omega) hu
    rw [show (catD d e).q0 = (s : Int) from hs] at h
    rw [hs, ht, show ((d.nx.length : Int) + (t : Int)) = ((d.nx.length + t : Nat) : Int) by omega]
    exact h.mono fun r w' ⟨D, c, h1, h2, h3⟩ => ⟨D, c, h1, bys_wvs h2 rfl, h3⟩
  have HA1 : Hid (∀ X D' c', Below w.heap.size w X → Bys X D' u → Calls Tryd.prog 32 #[.agg #[.int .i64 d.V, .int .i64 d.q0, .slice A d.nx.length a, .slice B d.fi.length b], .slice D' u.length c'] X fun r w' => r = .returned (.tuple #[.bool (accD d u), .int .i64 (wrongD d u)]) ∧ Below X.heap.size X w') := fun X D' c' hX hb => AcceptsD_any d A B a b X (hx.below hX) hlend D' u c' hb h8u (by omega)
  have HA2 : Hid (∀ X D' c', Below w.heap.size w X → Bys X D' u → Calls Tryd.prog 32 #[.agg #[.int .i64 e.V, .int .i64 e.q0, .slice A' e.nx.length a', .slice B' e.fi.length b'], .slice D' u.length c'] X fun r w' => r = .returned (.tuple #[.bool (accD e u), .int .i64 (wrongD e u)]) ∧ Below X.heap.size X w') := fun X D' c' hX hb => AcceptsD_any e A' B' a' b' X (hy.below hX) hlene D' u c' hb h8u (by omega)
  have hwe : wrongD e l = wrongD d l := by unfold wrongD; rw [c1, c2, hV]
  have HA3 := Lib.hid fun X (hX : Below w.heap.size w X) => AcceptsD_any d A B a b X (hx.below hX) hlend D l dl (hD.below hX) h8 (by omega)
  have HA4 := Lib.hid fun X (hX : Below w.heap.size w X) => AcceptsD_any e A' B' a' b' X (hy.below hX) hlene D l dl (hD.below hX) h8 (by omega)
  rw [hwe] at HA4
  have HPQ : Hid (q = false → accD d l = accD e l) := fun h => by
    have hlg : lg d s = lg e t := by rw [← hlg1, ← hlg2]; exact (hu.no h).2
    by_cases h0 : wrongD d l = 0
    · rw [acc_lg hOd h0, acc_lg hOe (by rw [hwe]; exact h0), show d.q0.toNat = s by omega, show e.q0.toNat = t by omega, hlg]
    · unfold accD
      rw [hwe, if_neg h0, if_neg h0]
  have HUU : Hid (u.length ≤ 64 → wrongD d u = 0 ∧ wrongD e u = 0 ∧ (accD d u != accD e u) = q) := fun h => by
    have w1 := wrong_ok hOd h hu1
    have w2 := wrong_ok hOe h hu2
    refine ⟨w1, w2, ?_⟩
    rw [acc_lg hOd w1, acc_lg hOe w2, show d.q0.toNat = s by omega, show e.q0.toNat = t by omega, ← hlg1, ← hlg2, lg_at (d := catD d e) hu1, lg_at (d := catD d e) hu1]
    cases q with
    | true => rw [bne_iff_ne]; exact (hu.yes rfl).1
    | false =>
      rw [bne_eq_false_iff_eq]
      exact (lg_eq rfl).1 (hu.no rfl).2 u hu1
  have HCp := Lib.hid fun X (hX : Below w.heap.size w X) => CopyDFA_own d A B a b X (hx.below hX) hlend
  have HYr := Lib.hid fun X (hX : Below w.heap.size w X) => (hy.below hX).nx
  have HYf := Lib.hid fun X (hX : Below w.heap.size w X) => (hy.below hX).fi
  have HRow : Hid (∀ k, k < e.nx.length → (tb e.nx k).length ≤ 64 ∧ ∀ j, j < (tb e.nx k).length → 0 ≤ nd (tb e.nx k) j ∧ nd (tb e.nx k) j < (e.nx.length : Int)) := fun k hk => by
    obtain ⟨h1, h2⟩ := hOe.row _ (tb_mem hk)
    refine ⟨by rw [h1]; exact Dg.pow7 (by have := hOe.v6; omega), fun j hj => ?_⟩
    have := h2 (nd (tb e.nx k) j) (by rw [nd_eq hj]; exact List.getElem_mem hj)
    exact this
  have hfe := hOe.fi
  have hfd := hOd.fi
  have hCN : catN d e e.nx.length = (catD d e).nx := by unfold catN; rw [List.take_length]; rfl
  have hCF : catF d e e.nx.length = (catD d e).fi := by unfold catF; rw [← hfe, List.take_length]; rfl
  have hCN0 : catN d e 0 = d.nx := by unfold catN; simp
  have hCF0 : catF d e 0 = d.fi := by unfold catF; simp
  have HCN := Lib.hid hCN
  have HCF := Lib.hid hCF
  have HCN0 := Lib.hid hCN0
  have HCF0 := Lib.hid hCF0
  have HFE := Lib.hid hfe
  have HFD := Lib.hid hfd
  have HCL := Lib.hid hcl
  have HUS := Lib.hid hus
  have HCFL : Hid ((catD d e).fi.length = (catD d e).nx.length) := hOc.fi
  obtain ⟨i0, hi0, hz0, hz1, hz2⟩ := info_parts info_int6
  obtain ⟨i1, hi1, hy0, hy1, hy2⟩ := info_parts info_tab
  obtain ⟨i2, hi2, hv0, hv1, hv2⟩ := info_parts info_boolJ
  have hEE : (wrongD d l == wrongD d l) = true := by simp
  have hqa : 0 ≤ e.q0 := hq2.1
  have hqb : e.q0 ≤ 100 := by omega
  have hqw : IntKind.i64.wrap ((d.nx.length : Int) + e.q0) = (d.nx.length : Int) + e.q0 := by rw [IntKind.wrap_i64]; omega
  clear hx hy hD h8 hlend hlene hT hOd hOe hF hFp hG hGp hMd hMe hsame hOc hcl hq1 hq2 hs ht hsn htn hu hus hlg1 hlg2 hiff hEq0 hu1 hu2 h8u hwe c1 c2 hV hfe hfd hCN hCF hCN0 hCF0
  generalize hd4 : l.length = nl at *
  clear hd4
  obtain ⟨z0, z1, z2, z3⟩ := hB1.cells
  obtain ⟨y0, y1, y2, y3⟩ := hB2.cells
  go_enter Tryd.func7, Tryd.ntmps7
  go_wp2_with (first
    | (go_at_call 10; ((with_reducible refine (HLo.out _ hb0 _ (by simp)).mono ?_); rintro r w2 ⟨rfl, hb2⟩); replace hb0 := stepB hb0 hb2; replace hB1 := hB1.below hb2; replace hB2 := hB2.below hb2; clear z0 z1 z2 z3 y0 y1 y2 y3; obtain ⟨z0, z1, z2, z3⟩ := hB1.cells; obtain ⟨y0, y1, y2, y3⟩ := hB2.cells; clear HLo)
    | (go_at_call 12; ((with_reducible refine (HAw.out _ hb0).mono ?_); rintro r w3 ⟨rfl, hb3⟩); replace hb0 := stepB hb0 hb3; replace hB1 := hB1.below hb3; replace hB2 := hB2.below hb3; clear z0 z1 z2 z3 y0 y1 y2 y3; obtain ⟨z0, z1, z2, z3⟩ := hB1.cells; obtain ⟨y0, y1, y2, y3⟩ := hB2.cells; clear HAw)
    | (go_at_call 31; ((with_reducible refine (HC1.out _ hb0).mono ?_); rintro r w4 ⟨rfl, hb4⟩); replace hb0 := stepB hb0 hb4; replace hB1 := hB1.below hb4; replace hB2 := hB2.below hb4; clear z0 z1 z2 z3 y0 y1 y2 y3; obtain ⟨z0, z1, z2, z3⟩ := hB1.cells; obtain ⟨y0, y1, y2, y3⟩ := hB2.cells; clear HC1)
    | (go_at_call 31; ((with_reducible refine (HC2.out _ hb0).mono ?_); rintro r w5 ⟨rfl, hb5⟩); replace hb0 := stepB hb0 hb5; replace hB1 := hB1.below hb5; replace hB2 := hB2.below hb5; clear z0 z1 z2 z3 y0 y1 y2 y3; obtain ⟨z0, z1, z2, z3⟩ := hB1.cells; obtain ⟨y0, y1, y2, y3⟩ := hB2.cells; clear HC2)
    | (go_at_call 13; ((with_reducible refine (HCp.out _ hb0).mono ?_); rintro r w6 ⟨A6, B6, a6, b6, rfl, ho6, hb6⟩); clear HCp;
        have K6 := bal (Below.refl w6.heap.size w6) (.cells #[.int .i64 d.V, .int .i64 d.q0, .slice A6 d.nx.length a6, .slice B6 d.fi.length b6] 25);
        have hG6 := Blk4.new w6 (.int .i64 d.V) (.int .i64 d.q0) (.slice A6 d.nx.length a6) (.slice B6 d.fi.length b6);
        have hBo := BoL.mk hG6 ((ho6.below K6).nx) ((ho6.below K6).fi) (stepB hb6 K6) hb6.size;
        have HB1 := Lib.hid (fun (X : World) (hX : Below w5.heap.size w5 X) => hB1.below hX);
        have HB2 := Lib.hid (fun (X : World) (hX : Below w5.heap.size w5 X) => hB2.below hX);
        have HW := Lib.hid (fun (X : World) (hX : Below w5.heap.size w5 X) => stepB hb0 hX);
        clear hG6 ho6 K6 hb6 hb0 hB1 hB2 z0 z1 z2 z3 y0 y1 y2 y3;
        obtain ⟨y0, y1, y2, y3⟩ := (HB2.out _ hBo.b).cells))
  have HBo : Hid (BoL w5 w6.heap.size d.V d.q0 (catN d e 0) (catF d e 0) (.slice A6 d.nx.length a6) (.slice B6 d.fi.length b6) (w6.alloc (.cells #[.int .i64 d.V, .int .i64 d.q0, .slice A6 d.nx.length a6, .slice B6 d.fi.length b6] 25))) := by
    show BoL _ _ _ _ _ _ _ _ _
    rw [HCN0.out, HCF0.out]
    exact hBo
  clear hBo y0 y1 y2 y3
  go_loopw [8, 9, 10] (fun iv _ _ wr => ∃ (k : Nat) (nv fv : Value), k ≤ e.nx.length ∧ iv = .int .i64 k ∧ Hid (BoL w5 w6.heap.size d.V d.q0 (catN d e k) (catF d e k) nv fv wr)) (fun iv _ _ _ => e.nx.length - (intOf iv).toNat)
  case atStart => exact ⟨0, _, _, by omega, rfl, HBo⟩
  case round =>
    clear HBo
    obtain ⟨k, nv, fv, hk, rfl, HBo⟩ := hrel
    obtain ⟨y0, y1, y2, y3⟩ := (HB2.out _ HBo.out.b).cells
    by_cases hk2 : k = e.nx.length
    · subst hk2
      have hBF := HBo.out
      rw [HCN.out, HCF.out] at hBF
      obtain ⟨A7, a7, B7, b7, rfl, rfl, hd7⟩ := hBF.at_
      have hd7 : DaAt wr (catD d e) A7 B7 := hd7
      have hn7 := hBF.n
      have hb7 := hBF.b
      have hcn := HCL.out
      have hcf := HCFL.out
      have hus := HUS.out
      clear HBo hBF HCN HCF HCN0 HCF0 HYr HYf HRow HCL HCFL HUS
      generalize (catD d e).nx.length = cn at *
      generalize (catD d e).fi.length = cf at *
      have hus2 : decide ((cn : Int) ≤ (u.length : Int)) = false := decide_eq_false (by omega)
      have hus3 : decide (cn ≤ u.length) = false := decide_eq_false (by omega)
      clear hcn hcf
      generalize minR (renD d F) = M1 at *
      generalize minR (renD e G) = M2 at *
      obtain ⟨n1, hn1⟩ : ∃ n, n = M1.nx.length := ⟨_, rfl⟩
      obtain ⟨f1, hf1⟩ : ∃ n, n = M1.fi.length := ⟨_, rfl⟩
      obtain ⟨n2, hn2⟩ : ∃ n, n = M2.nx.length := ⟨_, rfl⟩
      obtain ⟨f2, hf2⟩ : ∃ n, n = M2.fi.length := ⟨_, rfl⟩
      rw [← hn1, ← hf1] at HMn1 HEq
      rw [← hn2, ← hf2] at HMn2 HEq
      clear hn1 hf1 hn2 hf2
      have hb0 := HW.out _ hb7
      have hB1 := HB1.out _ hb7
      have hB2 := HB2.out _ hb7
      clear hb7 HW HB1 HB2 HFE HFD
      clear y0 y1 y2 y3
      obtain ⟨z0, z1, z2, z3⟩ := hB1.cells
      obtain ⟨y0, y1, y2, y3⟩ := hB2.cells
      obtain ⟨x0, x1, x2, x3⟩ := hn7.cells
      obtain ⟨nu, hnu⟩ : ∃ n, n = u.length := ⟨_, rfl⟩
      rw [← hnu] at HDs HA1 HA2 HUU hus2 hus3
      clear hnu hus
      by_cases hbig : 64 < nu
      · have hg1 : decide ((64 : Int) < (nu : Int)) = true := decide_eq_true (by omega)
        have hg2 : decide (64 < nu) = true := decide_eq_true hbig
        clear HUU HPQ
        generalize accD d u = xu at *
        generalize accD e u = yu at *
        generalize wrongD d u = xe at *
        generalize wrongD e u = ye at *
        generalize accD d l = xl at *
        generalize accD e l = yl at *
        generalize wrongD d l = xw at *
        cases q
        all_goals
          go_wp2_with (first
            | (go_at_call 17; ((with_reducible refine (HMn1.out _ hb0).mono ?_); rintro r w8 ⟨A8, a8, B8, b8, rfl, hd8, hb8⟩); clear HMn1;
                have K8 := bal (Below.refl w8.heap.size w8) (.cells #[.int .i64 M1.V, .int .i64 M1.q0, .slice A8 n1 a8, .slice B8 f1 b8] 25);
                have hn8 := Blk4.new w8 (.int .i64 M1.V) (.int .i64 M1.q0) (.slice A8 n1 a8) (.slice B8 f1 b8);
                replace hb0 := stepB (stepB hb0 hb8) K8; replace hB1 := (hB1.below hb8).below K8; replace hB2 := (hB2.below hb8).below K8; replace hn7 := (hn7.below hb8).below K8; replace hd7 := (hd7.below hb8).below K8; replace hd8 := hd8.below K8;
                clear K8 hb8 z0 z1 z2 z3 y0 y1 y2 y3 x0 x1 x2 x3; obtain ⟨y0, y1, y2, y3⟩ := hB2.cells)
            | (go_at_call 17; ((with_reducible refine (HMn2.out _ hb0).mono ?_); rintro r w9 ⟨A9, a9, B9, b9, rfl, hd9, hb9⟩); clear HMn2;
                have K9 := bal (Below.refl w9.heap.size w9) (.cells #[.int .i64 M2.V, .int .i64 M2.q0, .slice A9 n2 a9, .slice B9 f2 b9] 25);
                have hn9 := Blk4.new w9 (.int .i64 M2.V) (.int .i64 M2.q0) (.slice A9 n2 a9) (.slice B9 f2 b9);
                have hSt := CSt.mk (stepB (stepB hb0 hb9) K9) ((hB1.below hb9).below K9) ((hB2.below hb9).below K9) ((hn7.below hb9).below K9) ((hd7.below hb9).below K9) ((hn8.below hb9).below K9) ((hd8.below hb9).below K9) hn9 (hd9.below K9);
                clear K9 hb9 hb0 hB1 hB2 hn7 hd7 hn8 hd8 hn9 hd9 y0 y1 y2 y3; obtain ⟨z0, z1, z2, z3⟩ := hSt.b1.cells; obtain ⟨y0, y1, y2, y3⟩ := hSt.b2.cells; obtain ⟨x0, x1, x2, x3⟩ := hSt.n7.cells)
            | (go_at_call 25; ((with_reducible refine (HDs.out _ A7 B7 a7 b7 hSt.d7).mono ?_); rintro r w10 ⟨D10, c10, rfl, hu10, hb10⟩); clear HDs; replace hSt := hSt.below hb10; clear z0 z1 z2 z3 y0 y1 y2 y3 x0 x1 x2 x3; obtain ⟨x0, x1, x2, x3⟩ := hSt.n7.cells; obtain ⟨y0, y1, y2, y3⟩ := hSt.n8.cells; obtain ⟨v0, v1, v2, v3⟩ := hSt.n9.cells)
            | (go_at_call 20; ((with_reducible refine (HEq.out _ A8 B8 A9 B9 a8 b8 a9 b9 hSt.d8 hSt.d9).mono ?_); rintro r w11 ⟨rfl, hb11⟩); clear HEq; replace hSt := hSt.below hb11; replace hu10 := Bys.below hu10 hb11; clear x0 x1 x2 x3 y0 y1 y2 y3 v0 v1 v2 v3; obtain ⟨x0, x1, x2, x3⟩ := hSt.n7.cells; obtain ⟨z0, z1, z2, z3⟩ := hSt.b1.cells; obtain ⟨y0, y1, y2, y3⟩ := hSt.b2.cells)
            | (go_at_call 32; ((with_reducible refine (HA1.out _ D10 c10 hSt.b hu10).mono ?_); rintro r w12 ⟨rfl, hb12⟩); clear HA1; replace hSt := hSt.below hb12; replace hu10 := Bys.below hu10 hb12; clear z0 z1 z2 z3 y0 y1 y2 y3 x0 x1 x2 x3; obtain ⟨y0, y1, y2, y3⟩ := hSt.b2.cells)
            | (go_at_call 32; ((with_reducible refine (HA2.out _ D10 c10 hSt.b hu10).mono ?_); rintro r w13 ⟨rfl, hb13⟩); clear HA2; replace hSt := hSt.below hb13; clear y0 y1 y2 y3; obtain ⟨z0, z1, z2, z3⟩ := hSt.b1.cells)
            | (go_at_call 32; ((with_reducible refine (HA3.out _ hSt.b).mono ?_); rintro r w14 ⟨rfl, hb14⟩); clear HA3; replace hSt := hSt.below hb14; clear z0 z1 z2 z3; obtain ⟨y0, y1, y2, y3⟩ := hSt.b2.cells)
            | (go_at_call 32; ((with_reducible refine (HA4.out _ hSt.b).mono ?_); rintro r w15 ⟨rfl, hb15⟩); clear HA4; replace hSt := hSt.below hb15; clear y0 y1 y2 y3))
          go_ret
          exact ⟨rfl, hSt.b⟩
      · have hg1 : decide ((64 : Int) < (nu : Int)) = false := decide_eq_false (by omega)
        have hg2 : decide (64 < nu) = false := decide_eq_false hbig
        obtain ⟨w1, w2, hxq⟩ := HUU.out (by omega)
        rw [w1] at HA1
        rw [w2] at HA2
        clear HUU w1 w2
        generalize accD d u = xu at *
        generalize accD e u = yu at *
        generalize wrongD d l = xw at *
        cases q with
        | false =>
          have hpq := HPQ.out rfl
          rw [hpq] at HA3
          clear HPQ hpq
          generalize accD e l = yl at *
          have hyy : (yl == yl) = true := by simp
          obtain rfl : xu = yu := by rwa [bne_eq_false_iff_eq] at hxq
          have hxx : (xu == xu) = true := by simp
          go_wp2_with (first
            | (go_at_call 17; ((with_reducible refine (HMn1.out _ hb0).mono ?_); rintro r w8 ⟨A8, a8, B8, b8, rfl, hd8, hb8⟩); clear HMn1;
                have K8 := bal (Below.refl w8.heap.size w8) (.cells #[.int .i64 M1.V, .int .i64 M1.q0, .slice A8 n1 a8, .slice B8 f1 b8] 25);
                have hn8 := Blk4.new w8 (.int .i64 M1.V) (.int .i64 M1.q0) (.slice A8 n1 a8) (.slice B8 f1 b8);
                replace hb0 := stepB (stepB hb0 hb8) K8; replace hB1 := (hB1.below hb8).below K8; replace hB2 := (hB2.below hb8).below K8; replace hn7 := (hn7.below hb8).below K8; replace hd7 := (hd7.below hb8).below K8; replace hd8 := hd8.below K8;
                clear K8 hb8 z0 z1 z2 z3 y0 y1 y2 y3 x0 x1 x2 x3; obtain ⟨y0, y1, y2, y3⟩ := hB2.cells)
            | (go_at_call 17; ((with_reducible refine (HMn2.out _ hb0).mono ?_); rintro r w9 ⟨A9, a9, B9, b9, rfl, hd9, hb9⟩); clear HMn2;
                have K9 := bal (Below.refl w9.heap.size w9) (.cells #[.int .i64 M2.V, .int .i64 M2.q0, .slice A9 n2 a9, .slice B9 f2 b9] 25);
                have hn9 := Blk4.new w9 (.int .i64 M2.V) (.int .i64 M2.q0) (.slice A9 n2 a9) (.slice B9 f2 b9);
                have hSt := CSt.mk (stepB (stepB hb0 hb9) K9) ((hB1.below hb9).below K9) ((hB2.below hb9).below K9) ((hn7.below hb9).below K9) ((hd7.below hb9).below K9) ((hn8.below hb9).below K9) ((hd8.below hb9).below K9) hn9 (hd9.below K9);
                clear K9 hb9 hb0 hB1 hB2 hn7 hd7 hn8 hd8 hn9 hd9 y0 y1 y2 y3; obtain ⟨z0, z1, z2, z3⟩ := hSt.b1.cells; obtain ⟨y0, y1, y2, y3⟩ := hSt.b2.cells; obtain ⟨x0, x1, x2, x3⟩ := hSt.n7.cells)
            | (go_at_call 25; ((with_reducible refine (HDs.out _ A7 B7 a7 b7 hSt.d7).mono ?_); rintro r w10 ⟨D10, c10, rfl, hu10, hb10⟩); clear HDs; replace hSt := hSt.below hb10; clear z0 z1 z2 z3 y0 y1 y2 y3 x0 x1 x2 x3; obtain ⟨x0, x1, x2, x3⟩ := hSt.n7.cells; obtain ⟨y0, y1, y2, y3⟩ := hSt.n8.cells; obtain ⟨v0, v1, v2, v3⟩ := hSt.n9.cells)
            | (go_at_call 20; ((with_reducible refine (HEq.out _ A8 B8 A9 B9 a8 b8 a9 b9 hSt.d8 hSt.d9).mono ?_); rintro r w11 ⟨rfl, hb11⟩); clear HEq; replace hSt := hSt.below hb11; replace hu10 := Bys.below hu10 hb11; clear x0 x1 x2 x3 y0 y1 y2 y3 v0 v1 v2 v3; obtain ⟨x0, x1, x2, x3⟩ := hSt.n7.cells; obtain ⟨z0, z1, z2, z3⟩ := hSt.b1.cells; obtain ⟨y0, y1, y2, y3⟩ := hSt.b2.cells)
            | (go_at_call 32; ((with_reducible refine (HA1.out _ D10 c10 hSt.b hu10).mono ?_); rintro r w12 ⟨rfl, hb12⟩); clear HA1; replace hSt := hSt.below hb12; replace hu10 := Bys.below hu10 hb12; clear z0 z1 z2 z3 y0 y1 y2 y3 x0 x1 x2 x3; obtain ⟨y0, y1, y2, y3⟩ := hSt.b2.cells)
            | (go_at_call 32; ((with_reducible refine (HA2.out _ D10 c10 hSt.b hu10).mono ?_); rintro r w13 ⟨rfl, hb13⟩); clear HA2; replace hSt := hSt.below hb13; clear y0 y1 y2 y3; obtain ⟨z0, z1, z2, z3⟩ := hSt.b1.cells)
            | (go_at_call 32; ((with_reducible refine (HA3.out _ hSt.b).mono ?_); rintro r w14 ⟨rfl, hb14⟩); clear HA3; replace hSt := hSt.below hb14; clear z0 z1 z2 z3; obtain ⟨y0, y1, y2, y3⟩ := hSt.b2.cells)
            | (go_at_call 32; ((with_reducible refine (HA4.out _ hSt.b).mono ?_); rintro r w15 ⟨rfl, hb15⟩); clear HA4; replace hSt := hSt.below hb15; clear y0 y1 y2 y3))
          go_ret
          exact ⟨rfl, hSt.b⟩
        | true =>
          clear HPQ
          generalize accD d l = xl at *
          generalize accD e l = yl at *
          have hxx : (xu == yu) = false := by rw [bne_iff_ne] at hxq; rw [beq_eq_false_iff_ne]; exact hxq
          go_wp2_with (first
            | (go_at_call 17; ((with_reducible refine (HMn1.out _ hb0).mono ?_); rintro r w8 ⟨A8, a8, B8, b8, rfl, hd8, hb8⟩); clear HMn1;
                have K8 := bal (Below.refl w8.heap.size w8) (.cells #[.int .i64 M1.V, .int .i64 M1.q0, .slice A8 n1 a8, .slice B8 f1 b8] 25);
                have hn8 := Blk4.new w8 (.int .i64 M1.V) (.int .i64 M1.q0) (.slice A8 n1 a8) (.slice B8 f1 b8);
                replace hb0 := stepB (stepB hb0 hb8) K8; replace hB1 := (hB1.below hb8).below K8; replace hB2 := (hB2.below hb8).below K8; replace hn7 := (hn7.below hb8).below K8; replace hd7 := (hd7.below hb8).below K8; replace hd8 := hd8.below K8;
                clear K8 hb8 z0 z1 z2 z3 y0 y1 y2 y3 x0 x1 x2 x3; obtain ⟨y0, y1, y2, y3⟩ := hB2.cells)
            | (go_at_call 17; ((with_reducible refine (HMn2.out _ hb0).mono ?_); rintro r w9 ⟨A9, a9, B9, b9, rfl, hd9, hb9⟩); clear HMn2;
                have K9 := bal (Below.refl w9.heap.size w9) (.cells #[.int .i64 M2.V, .int .i64 M2.q0, .slice A9 n2 a9, .slice B9 f2 b9] 25);
                have hn9 := Blk4.new w9 (.int .i64 M2.V) (.int .i64 M2.q0) (.slice A9 n2 a9) (.slice B9 f2 b9);
                have hSt := CSt.mk (stepB (stepB hb0 hb9) K9) ((hB1.below hb9).below K9) ((hB2.below hb9).below K9) ((hn7.below hb9).below K9) ((hd7.below hb9).below K9) ((hn8.below hb9).below K9) ((hd8.below hb9).below K9) hn9 (hd9.below K9);
                clear K9 hb9 hb0 hB1 hB2 hn7 hd7 hn8 hd8 hn9 hd9 y0 y1 y2 y3; obtain ⟨z0, z1, z2, z3⟩ := hSt.b1.cells; obtain ⟨y0, y1, y2, y3⟩ := hSt.b2.cells; obtain ⟨x0, x1, x2, x3⟩ := hSt.n7.cells)
            | (go_at_call 25; ((with_reducible refine (HDs.out _ A7 B7 a7 b7 hSt.d7).mono ?_); rintro r w10 ⟨D10, c10, rfl, hu10, hb10⟩); clear HDs; replace hSt := hSt.below hb10; clear z0 z1 z2 z3 y0 y1 y2 y3 x0 x1 x2 x3; obtain ⟨x0, x1, x2, x3⟩ := hSt.n7.cells; obtain ⟨y0, y1, y2, y3⟩ := hSt.n8.cells; obtain ⟨v0, v1, v2, v3⟩ := hSt.n9.cells)
            | (go_at_call 20; ((with_reducible refine (HEq.out _ A8 B8 A9 B9 a8 b8 a9 b9 hSt.d8 hSt.d9).mono ?_); rintro r w11 ⟨rfl, hb11⟩); clear HEq; replace hSt := hSt.below hb11; replace hu10 := Bys.below hu10 hb11; clear x0 x1 x2 x3 y0 y1 y2 y3 v0 v1 v2 v3; obtain ⟨x0, x1, x2, x3⟩ := hSt.n7.cells; obtain ⟨z0, z1, z2, z3⟩ := hSt.b1.cells; obtain ⟨y0, y1, y2, y3⟩ := hSt.b2.cells)
            | (go_at_call 32; ((with_reducible refine (HA1.out _ D10 c10 hSt.b hu10).mono ?_); rintro r w12 ⟨rfl, hb12⟩); clear HA1; replace hSt := hSt.below hb12; replace hu10 := Bys.below hu10 hb12; clear z0 z1 z2 z3 y0 y1 y2 y3 x0 x1 x2 x3; obtain ⟨y0, y1, y2, y3⟩ := hSt.b2.cells)
            | (go_at_call 32; ((with_reducible refine (HA2.out _ D10 c10 hSt.b hu10).mono ?_); rintro r w13 ⟨rfl, hb13⟩); clear HA2; replace hSt := hSt.below hb13; clear y0 y1 y2 y3; obtain ⟨z0, z1, z2, z3⟩ := hSt.b1.cells)
            | (go_at_call 32; ((with_reducible refine (HA3.out _ hSt.b).mono ?_); rintro r w14 ⟨rfl, hb14⟩); clear HA3; replace hSt := hSt.below hb14; clear z0 z1 z2 z3; obtain ⟨y0, y1, y2, y3⟩ := hSt.b2.cells)
            | (go_at_call 32; ((with_reducible refine (HA4.out _ hSt.b).mono ?_); rintro r w15 ⟨rfl, hb15⟩); clear HA4; replace hSt := hSt.below hb15; clear y0 y1 y2 y3))
          go_ret
          exact ⟨rfl, hSt.b⟩
    · have hk1 : k < e.nx.length := by omega
      have hkm : (k : Int) < (e.nx.length : Int) := by omega
      have hdk : decide ((k : Int) < (e.nx.length : Int)) = true := decide_eq_true hkm
      have hkf : k < e.fi.length := by rw [HFE.out]; exact hk1
      have hkf2 : (k : Int) < (e.fi.length : Int) := by omega
      obtain ⟨adB, p, c', hAB, hbk, hcell, hi⟩ := (HYr.out _ (HW.out _ HBo.out.b)) k hk1
      obtain ⟨adF, hAF, hbf, hcf⟩ := (HYf.out _ (HW.out _ HBo.out.b)) k (by rw [HFE.out]; exact hk1)
      subst hAB
      subst hAF
      obtain ⟨hr64, hrz⟩ := HRow.out k hk1
      have hRl : (shR d.nx.length (tb e.nx k)).length = (tb e.nx k).length := List.length_map _
      have HRe : Hid (∀ j, j < (tb e.nx k).length → (shR d.nx.length (tb e.nx k)).take (j + 1) = (shR d.nx.length (tb e.nx k)).take j ++ [(d.nx.length : Int) + nd (tb e.nx k) j]) := fun j hj => by
        rw [List.take_add_one, List.getElem?_eq_getElem (by omega)]
        unfold shR
        rw [List.getElem_map, nd_eq hj]
        rfl
      have HRf : Hid ((shR d.nx.length (tb e.nx k)).take (tb e.nx k).length = shR d.nx.length (tb e.nx k)) := List.take_of_length_le (by omega)
      have HCs := Lib.hid (catN_step d e hk1)
      have HFs := Lib.hid (catF_step d e (k := k) (by rw [HFE.out]; exact hk1))
      have HCl := Lib.hid (catN_len d e (k := k) (by omega))
      have HFl := Lib.hid (catF_len d e (k := k) (by rw [HFE.out]; omega))
      obtain ⟨bv, hbv⟩ : ∃ bv, bv = e.fi.getD k false := ⟨_, rfl⟩
      replace hcf : wr.cell? (adF.add k) = some (.bool bv) := by rw [hbv]; exact hcf
      have HBV := Lib.hid hbv
      clear hbv
      have HI : Hid (∀ j, j < (tb e.nx k).length → ∃ pd z, p = some pd ∧ z = nd (tb e.nx k) j ∧ 0 ≤ z ∧ z < (e.nx.length : Int) ∧ pd.block < wr.heap.size ∧ wr.cell? (pd.add j) = some (.int .i64 z)) := fun j hj => by
        obtain ⟨pd, h1, h2, h3⟩ := hi j hj
        obtain ⟨h4, h5⟩ := hrz j hj
        exact ⟨pd, _, h1, rfl, h4, h5, h2, h3⟩
      obtain ⟨nk, hnk⟩ : ∃ nk, nk = (tb e.nx k).length := ⟨_, rfl⟩
      obtain ⟨Rk, hRk⟩ : ∃ R, R = shR d.nx.length (tb e.nx k) := ⟨_, rfl⟩
      rw [← hnk] at hcell hr64 hRl HRe HRf HI
      rw [← hRk] at hRl HRe HRf HCs
      have HNK := Lib.hid hnk
      have HRL := Lib.hid hRl
      clear hnk hRk hRl hi hrz
      obtain ⟨wi, rfl⟩ : ∃ wi : World, wi = wr := ⟨_, rfl⟩
      have HS : Hid (∀ X, Below wi.heap.size wi X → X.cell? ⟨w.heap.size, 2, none⟩ = some (.slice A d.nx.length a) ∧ X.cell? ⟨w.heap.size + 1, 2, none⟩ = some (.slice (some adB) e.nx.length a') ∧ X.cell? (adB.add k) = some (.slice p nk c')) := fun X hX => ⟨(HB1.out _ (stepB HBo.out.b hX)).cells.2.2.1, (HB2.out _ (stepB HBo.out.b hX)).cells.2.2.1, (hX.cell (by rw [addr_block]; exact hbk)).trans hcell⟩
      have HSF : Hid (∀ X, Below w5.heap.size w5 X → X.cell? ⟨w.heap.size + 1, 3, none⟩ = some (.slice (some adF) e.fi.length b') ∧ X.cell? (adF.add k) = some (.bool bv)) := fun X hX => ⟨(HB2.out _ hX).cells.2.2.2, by
        obtain ⟨ad2, h1, h2, h3⟩ := (HYf.out _ (HW.out _ hX)) k (by rw [HFE.out]; exact hk1)
        cases h1
        rw [HBV.out]; exact h3⟩
      clear hcf hbf
      go_wp2
      clear y0 y1 y2 y3
      go_loopw [9, 10] (fun rv xv X => ∃ (j : Nat) (v : Value), v = rv ∧ j ≤ nk ∧ xv = .int .i64 j ∧ Hid (X.ownsRow wi.heap.size 3 1 v j (zvs (Rk.take j))) ∧ Hid (Below wi.heap.size wi X)) (fun _ xv _ => nk - (intOf xv).toNat)
      case atStart => exact ⟨0, _, rfl, by omega, rfl, own_nil _ _ _, Below.refl _ _⟩
      case round =>
        obtain ⟨j, v, rfl, hj, rfl, HO, HBi⟩ := hrel
        obtain ⟨s0, s1, s2⟩ := HS.out _ HBi.out
        by_cases hj2 : j = nk
        · subst hj2
          obtain ⟨Av, cv, rfl, _⟩ := Ap.own_form HO.out
          go_wp2
          clear s0 s1 s2
          refine wp_region_any (by kernel_rfl) ?_
          change wpAny _ _ _ _ _ _ _ (World.drew _)
          have hRX0 := ownsRow_mono (HO.out.below (drew_below _)) HBo.out.b.size
          have hBoX0 := HBo.out.below (stepB HBi.out (drew_below _))
          rw [HRf.out] at hRX0
          rw [← HRL.out] at hRX0
          clear HO HBi
          generalize wr.drew = X0 at *
          have HS12 : Hid (∀ X, Blk4 X w6.heap.size (.int .i64 d.V) (.int .i64 d.q0) nv fv → Below w5.heap.size w5 X → (fun X : World => X.cell? ⟨w6.heap.size, 2, none⟩ = some nv ∧ X.cell? ⟨w6.heap.size, 3, none⟩ = some fv ∧ X.cell? ⟨w.heap.size + 1, 3, none⟩ = some (.slice (some adF) e.fi.length b') ∧ X.cell? (adF.add k) = some (.bool bv)) X) := fun X h1 h2 => ⟨h1.cells.2.2.1, h1.cells.2.2.2, (HSF.out X h2).1, (HSF.out X h2).2⟩
          have hS0 := HS12.out _ hBoX0.n hBoX0.b
          obtain ⟨Q, eQ, hQX0, hqX0⟩ := hBoX0.r
          refine wpAny_head 15 15 (fun X : World => X.cell? ⟨w6.heap.size, 2, none⟩ = some nv ∧ X.cell? ⟨w6.heap.size, 3, none⟩ = some fv ∧ X.cell? ⟨w.heap.size + 1, 3, none⟩ = some (.slice (some adF) e.fi.length b') ∧ X.cell? (adF.add k) = some (.bool bv)) rfl rfl (by kernel_rfl) (by kernel_rfl) (by kernel_rfl) (fun hA => ?_)
          refine wpHead_take (i := 0) (v := ?_) (by kernel_rfl) hA (at_drop rfl) (by decide) (by kernel_rfl) (by kernel_rfl) (by kernel_rfl) (fun _ _ _ h => h) (Or.inl ⟨by rfl, ?_⟩) hS0 (fun hA => ?_)
          rotate_left
          · (intro Y hSY; obtain ⟨s0, s1, s2, s3⟩ := hSY; go_simp <;> with_reducible rfl)
          simp only [Act.put, List.setIfInBounds_toArray, List.set_cons_zero, List.set_cons_succ]
          refine wpHead_take (i := 1) (v := ?_) (by kernel_rfl) hA (at_drop rfl) (by decide) (by kernel_rfl) (by kernel_rfl) (by kernel_rfl) (fun _ _ _ h => h) (Or.inl ⟨by rfl, ?_⟩) hS0 (fun hA => ?_)
          rotate_left
          · (intro Y hSY; obtain ⟨s0, s1, s2, s3⟩ := hSY; go_simp <;> with_reducible rfl)
          simp only [Act.put, List.setIfInBounds_toArray, List.set_cons_zero, List.set_cons_succ]
          refine wpHead_take (i := 2) (v := ?_) (by kernel_rfl) hA (at_drop rfl) (by decide) (by kernel_rfl) (by kernel_rfl) (by kernel_rfl) (fun _ _ _ h => h) (Or.inl ⟨by rfl, ?_⟩) hS0 (fun hA => ?_)
          rotate_left
          · (intro Y hSY; obtain ⟨s0, s1, s2, s3⟩ := hSY; go_simp <;> with_reducible rfl)
          simp only [Act.put, List.setIfInBounds_toArray, List.set_cons_zero, List.set_cons_succ]
          refine wpHead_take (i := 5) (v := ?_) (by kernel_rfl) hA (at_drop rfl) (by decide) (by kernel_rfl) (by kernel_rfl) (by kernel_rfl) (fun _ _ _ h => h) (Or.inl ⟨by rfl, ?_⟩) hS0 (fun hA => ?_)
          rotate_left
          · (intro Y hSY; obtain ⟨s0, s1, s2, s3⟩ := hSY; go_simp <;> with_reducible rfl)
          simp only [Act.put, List.setIfInBounds_toArray, List.set_cons_zero, List.set_cons_succ]
          refine wpHead_take (i := 6) (v := ?_) (by kernel_rfl) hA (at_drop rfl) (by decide) (by kernel_rfl) (by kernel_rfl) (by kernel_rfl) (fun _ _ _ h => h) (Or.inl ⟨by rfl, ?_⟩) hS0 (fun hA => ?_)
          rotate_left
          · (intro Y hSY; obtain ⟨s0, s1, s2, s3⟩ := hSY; go_simp <;> with_reducible rfl)
          simp only [Act.put, List.setIfInBounds_toArray, List.set_cons_zero, List.set_cons_succ]
          refine wpHead_take (i := 7) (v := ?_) (by kernel_rfl) hA (at_drop rfl) (by decide) (by kernel_rfl) (by kernel_rfl) (by kernel_rfl) (fun _ _ _ h => h) (Or.inl ⟨by rfl, ?_⟩) hS0 (fun hA => ?_)
          rotate_left
          · (intro Y hSY; obtain ⟨s0, s1, s2, s3⟩ := hSY; go_simp <;> with_reducible rfl)
          simp only [Act.put, List.setIfInBounds_toArray, List.set_cons_zero, List.set_cons_succ]
          refine wpHead_take (i := 8) (v := ?_) (by kernel_rfl) hA (at_drop rfl) (by decide) (by kernel_rfl) (by kernel_rfl) (by kernel_rfl) (fun _ _ _ h => h) (Or.inl ⟨by rfl, ?_⟩) hS0 (fun hA => ?_)
          rotate_left
          · (intro Y hSY; obtain ⟨s0, s1, s2, s3⟩ := hSY; go_simp <;> with_reducible rfl)
          simp only [Act.put, List.setIfInBounds_toArray, List.set_cons_zero, List.set_cons_succ]
          refine wpHead_take (i := 9) (v := ?_) (by kernel_rfl) hA (at_drop rfl) (by decide) (by kernel_rfl) (by kernel_rfl) (by kernel_rfl) (fun _ _ _ h => h) (Or.inl ⟨by rfl, ?_⟩) hS0 (fun hA => ?_)
          rotate_left
          · (intro Y hSY; obtain ⟨s0, s1, s2, s3⟩ := hSY; go_simp <;> with_reducible rfl)
          simp only [Act.put, List.setIfInBounds_toArray, List.set_cons_zero, List.set_cons_succ]
          refine wpHead_take (i := 10) (v := ?_) (by kernel_rfl) hA (at_drop rfl) (by decide) (by kernel_rfl) (by kernel_rfl) (by kernel_rfl) (fun _ _ _ h => h) (Or.inl ⟨by rfl, ?_⟩) hS0 (fun hA => ?_)
          rotate_left
          · (intro Y hSY; obtain ⟨s0, s1, s2, s3⟩ := hSY; go_simp <;> with_reducible rfl)
          simp only [Act.put, List.setIfInBounds_toArray, List.set_cons_zero, List.set_cons_succ]
          refine wpHead_take (i := 11) (v := ?_) (by kernel_rfl) hA (at_drop rfl) (by decide) (by kernel_rfl) (by kernel_rfl) (by kernel_rfl) (fun _ _ _ h => h) (Or.inl ⟨by rfl, ?_⟩) hS0 (fun hA => ?_)
          rotate_left
          · (intro Y hSY; obtain ⟨s0, s1, s2, s3⟩ := hSY; go_simp <;> with_reducible rfl)
          simp only [Act.put, List.setIfInBounds_toArray, List.set_cons_zero, List.set_cons_succ]
          have hA3 := hnext hA (rs := [3, 12]) (i := 3) (by kernel_rfl) (by decide) (by decide)
          have hA12 := hnext hA (rs := [3, 12]) (i := 12) (by kernel_rfl) (by decide) (by decide)
          refine wpHead_ready (rs := [3, 12]) (by kernel_rfl) (by decide) (AllHead.cons (at_drop rfl) (by decide) (fun KK hK => ?_) (AllHead.cons (at_drop rfl) (by decide) (fun KK hK => ?_) AllHead.nil))
          · replace hA := hA3
            go_simp
            have d3 := bal (Below.refl X0.heap.size X0) (.cells #[.slice Av j cv] 33)
            have n3 : (X0.alloc (.cells #[.slice Av j cv] 33)).heap[X0.heap.size]? = some (.cells #[.slice Av j cv] 33 (0, 0)) := World.alloc_heap_new X0 (.cells #[.slice Av j cv] 33)
            obtain ⟨g3, hg3⟩ : ∃ g, g = X0.heap.size := ⟨_, rfl⟩
            rw [← hg3] at n3
            have HG3 := Lib.hid hg3
            have hBoX1 := hBoX0.below d3
            have hRX1 := hRX0.below d3
            have hQX1 := hQX0.below d3
            have hqX1 := fun q hq => (hqX0 q hq).below d3
            generalize (X0.alloc (.cells #[.slice Av j cv] 33)) = X1 at *
            refine hK _ _ (HS12.out _ hBoX1.n hBoX1.b) ?_
            rw [← hg3]
            clear hK KK hg3
            try simp only [Act.put, List.setIfInBounds_toArray, List.set_cons_zero, List.set_cons_succ]
            have hA4 := hnext hA (rs := [4, 12]) (i := 4) (by kernel_rfl) (by decide) (by decide)
            have hA12 := hnext hA (rs := [4, 12]) (i := 12) (by kernel_rfl) (by decide) (by decide)
            refine wpHead_ready (rs := [4, 12]) (by kernel_rfl) (by decide) (AllHead.cons (at_drop rfl) (by decide) (fun KK hK => ?_) (AllHead.cons (at_drop rfl) (by decide) (fun KK hK => ?_) AllHead.nil))
            · replace hA := hA4
              refine step_append rfl (.tmp 92) (.tmp 94) 22 rfl w5.heap.size 33 i1 (.slice none 0 0) 1 24 Tryd.underlying22 hi1 hy0 hy1 hy2 rfl (by decide) nv (catN d e k).length _ (by simp [Act.eval]) hQX1 ⟨g3, 0, none⟩ 1 1 [.slice Av j cv] (by simp [Act.eval]) rfl (news_blk n3) (by simp [Value.oneCell']) (by have := HCl.out; unfold maxLen; omega) (by have := HCl.out; omega) hBoX1.b.size ?_
              intro A4 c4 Z4 ho4 hg4 hob4
              have hBmZ4 := hBoX1.row (nv' := .slice A4 ((catN d e k).length + 1) c4) eQ hQX1 hqX1 hRX1 (by rw [HRL.out]; exact ho4) hg4
              refine hK _ _ (HS12.out _ hBmZ4.n hBmZ4.b) ?_
              clear hK KK
              try simp only [Act.put, List.setIfInBounds_toArray, List.set_cons_zero, List.set_cons_succ]
              refine wpHead_take (i := 14) (v := ?_) (by kernel_rfl) hA (at_drop rfl) (by decide) (by kernel_rfl) (by kernel_rfl) (by kernel_rfl) (fun _ _ _ h => h) (Or.inl ⟨by rfl, ?_⟩) (HS12.out _ hBmZ4.n hBmZ4.b) (fun hA => ?_)
              rotate_left
              · (intro Y hSY; obtain ⟨s0, s1, s2, s3⟩ := hSY; go_simp <;> with_reducible rfl)
              simp only [Act.put, List.setIfInBounds_toArray, List.set_cons_zero, List.set_cons_succ]
              have hA12 := hnext hA (rs := [12]) (i := 12) (by kernel_rfl) (by decide) (by decide)
              refine wpHead_ready (rs := [12]) (by kernel_rfl) (by decide) (AllHead.cons (at_drop rfl) (by decide) (fun KK hK => ?_) AllHead.nil)
              replace hA := hA12
              go_simp
              have d12 := bal (Below.refl Z4.heap.size Z4) (.cells #[.bool bv] 4)
              have n12 : (Z4.alloc (.cells #[.bool bv] 4)).heap[Z4.heap.size]? = some (.cells #[.bool bv] 4 (0, 0)) := World.alloc_heap_new Z4 (.cells #[.bool bv] 4)
              obtain ⟨g12, hg12⟩ : ∃ g, g = Z4.heap.size := ⟨_, rfl⟩
              rw [← hg12] at n12
              have HG12 := Lib.hid hg12
              have hBmX2 := hBmZ4.below d12
              generalize (Z4.alloc (.cells #[.bool bv] 4)) = X2 at *
              refine hK _ _ (HS12.out _ hBmX2.n hBmX2.b) ?_
              rw [← hg12]
              clear hK KK hg12
              try simp only [Act.put, List.setIfInBounds_toArray, List.set_cons_zero, List.set_cons_succ]
              have hA13 := hnext hA (rs := [13]) (i := 13) (by kernel_rfl) (by decide) (by decide)
              refine wpHead_ready (rs := [13]) (by kernel_rfl) (by decide) (AllHead.cons (at_drop rfl) (by decide) (fun KK hK => ?_) AllHead.nil)
              replace hA := hA13
              refine step_append rfl (.tmp 97) (.tmp 103) 23 rfl w5.heap.size 4 i2 (.bool false) 1 1 Tryd.underlying23 hi2 hv0 hv1 hv2 rfl (by decide) fv (catF d e k).length _ (by simp [Act.eval]) hBmX2.f ⟨g12, 0, none⟩ 1 1 [.bool bv] (by simp [Act.eval]) rfl (news_blk n12) (by simp [Value.oneCell']) (by have := HFl.out; have := HFD.out; unfold maxLen; omega) (by have := HFl.out; have := HFD.out; omega) hBmX2.b.size ?_
              intro A13 c13 Z ho13 hg13 hob13
              obtain ⟨hZ, hBF⟩ := hBmX2.fin ho13 hg13
              have HBF := Lib.hid (show BoL w5 w6.heap.size d.V d.q0 (catN d e (k + 1)) (catF d e (k + 1)) _ _ _ by
                rw [HCs.out, HFs.out, ← HBV.out]; exact hBF)
              have q2 := hZ.cells.2.2.1
              have f2 := free_of hZ 2
              have hZ2 : Blk4 (Z.setCell ⟨w6.heap.size, 2, none⟩ (.slice A4 ((catN d e k).length + 1) c4)) w6.heap.size (.int .i64 d.V) (.int .i64 d.q0) (.slice A4 ((catN d e k).length + 1) c4) fv := heap_put hZ 2 _
              have q3 := hZ2.cells.2.2.2
              have f3 := free_of hZ2 3
              have hSZ := HS12.out Z hZ (hBmX2.b.grown hg13 hBmX2.b.size (fun q hq => (own_lt hBmX2.f hq).1))
              refine hK _ _ hSZ ?_
              clear hK KK hBF hZ hZ2 ho13 hg13 hob13 hSZ
              clear hBoX0 hBoX1 hBmZ4 hBmX2 hRX0 hRX1 hQX0 hQX1 hqX0 hqX1 n3 n12 d3 d12 ho4 hg4 hob4 eQ
              try simp only [Act.put, List.setIfInBounds_toArray, List.set_cons_zero, List.set_cons_succ]
              refine wpHead_end (by kernel_rfl) ?_
              simp only [List.drop_succ_cons, List.drop_zero]
              go_wp2
              go_roundw
              case rel => exact ⟨k + 1, _, _, by omega, by go_num, HBF⟩
              case measure => simp [intOf]; omega
            · replace hA := hA12
              go_simp
              have d12 := bal (Below.refl X1.heap.size X1) (.cells #[.bool bv] 4)
              have n12 : (X1.alloc (.cells #[.bool bv] 4)).heap[X1.heap.size]? = some (.cells #[.bool bv] 4 (0, 0)) := World.alloc_heap_new X1 (.cells #[.bool bv] 4)
              obtain ⟨g12, hg12⟩ : ∃ g, g = X1.heap.size := ⟨_, rfl⟩
              rw [← hg12] at n12
              have HG12 := Lib.hid hg12
              have hBoX2 := hBoX1.below d12
              have hRX2 := hRX1.below d12
              have hQX2 := hQX1.below d12
              have hqX2 := fun q hq => (hqX1 q hq).below d12
              replace n3 := (d12.block _ (blk_lt n3)).trans n3
              generalize (X1.alloc (.cells #[.bool bv] 4)) = X2 at *
              refine hK _ _ (HS12.out _ hBoX2.n hBoX2.b) ?_
              rw [← hg12]
              clear hK KK hg12
              try simp only [Act.put, List.setIfInBounds_toArray, List.set_cons_zero, List.set_cons_succ]
              have hA4 := hnext hA (rs := [4]) (i := 4) (by kernel_rfl) (by decide) (by decide)
              refine wpHead_ready (rs := [4]) (by kernel_rfl) (by decide) (AllHead.cons (at_drop rfl) (by decide) (fun KK hK => ?_) AllHead.nil)
              replace hA := hA4
              refine step_append rfl (.tmp 92) (.tmp 94) 22 rfl w5.heap.size 33 i1 (.slice none 0 0) 1 24 Tryd.underlying22 hi1 hy0 hy1 hy2 rfl (by decide) nv (catN d e k).length _ (by simp [Act.eval]) hQX2 ⟨g3, 0, none⟩ 1 1 [.slice Av j cv] (by simp [Act.eval]) rfl (news_blk n3) (by simp [Value.oneCell']) (by have := HCl.out; unfold maxLen; omega) (by have := HCl.out; omega) hBoX2.b.size ?_
              intro A4 c4 Z4 ho4 hg4 hob4
              have hBmZ4 := hBoX2.row (nv' := .slice A4 ((catN d e k).length + 1) c4) eQ hQX2 hqX2 hRX2 (by rw [HRL.out]; exact ho4) hg4
              replace n12 := (hg4.block _ (blk_lt n12) (fun e => own_ne n12 hQX2 (by decide) e.symm)).trans n12
              refine hK _ _ (HS12.out _ hBmZ4.n hBmZ4.b) ?_
              clear hK KK
              try simp only [Act.put, List.setIfInBounds_toArray, List.set_cons_zero, List.set_cons_succ]
              refine wpHead_take (i := 14) (v := ?_) (by kernel_rfl) hA (at_drop rfl) (by decide) (by kernel_rfl) (by kernel_rfl) (by kernel_rfl) (fun _ _ _ h => h) (Or.inl ⟨by rfl, ?_⟩) (HS12.out _ hBmZ4.n hBmZ4.b) (fun hA => ?_)
              rotate_left
              · (intro Y hSY; obtain ⟨s0, s1, s2, s3⟩ := hSY; go_simp <;> with_reducible rfl)
              simp only [Act.put, List.setIfInBounds_toArray, List.set_cons_zero, List.set_cons_succ]
              have hA13 := hnext hA (rs := [13]) (i := 13) (by kernel_rfl) (by decide) (by decide)
              refine wpHead_ready (rs := [13]) (by kernel_rfl) (by decide) (AllHead.cons (at_drop rfl) (by decide) (fun KK hK => ?_) AllHead.nil)
              replace hA := hA13
              refine step_append rfl (.tmp 97) (.tmp 103) 23 rfl w5.heap.size 4 i2 (.bool false) 1 1 Tryd.underlying23 hi2 hv0 hv1 hv2 rfl (by decide) fv (catF d e k).length _ (by simp [Act.eval]) hBmZ4.f ⟨g12, 0, none⟩ 1 1 [.bool bv] (by simp [Act.eval]) rfl (news_blk n12) (by simp [Value.oneCell']) (by have := HFl.out; have := HFD.out; unfold maxLen; omega) (by have := HFl.out; have := HFD.out; omega) hBmZ4.b.size ?_
              intro A13 c13 Z ho13 hg13 hob13
              obtain ⟨hZ, hBF⟩ := hBmZ4.fin ho13 hg13
              have HBF := Lib.hid (show BoL w5 w6.heap.size d.V d.q0 (catN d e (k + 1)) (catF d e (k + 1)) _ _ _ by
                rw [HCs.out, HFs.out, ← HBV.out]; exact hBF)
              have q2 := hZ.cells.2.2.1
              have f2 := free_of hZ 2
              have hZ2 : Blk4 (Z.setCell ⟨w6.heap.size, 2, none⟩ (.slice A4 ((catN d e k).length + 1) c4)) w6.heap.size (.int .i64 d.V) (.int .i64 d.q0) (.slice A4 ((catN d e k).length + 1) c4) fv := heap_put hZ 2 _
              have q3 := hZ2.cells.2.2.2
              have f3 := free_of hZ2 3
              have hSZ := HS12.out Z hZ (hBmZ4.b.grown hg13 hBmZ4.b.size (fun q hq => (own_lt hBmZ4.f hq).1))
              refine hK _ _ hSZ ?_
              clear hK KK hBF hZ hZ2 ho13 hg13 hob13 hSZ
              clear hBoX0 hBoX1 hBoX2 hBmZ4 hRX0 hRX1 hRX2 hQX0 hQX1 hQX2 hqX0 hqX1 hqX2 n3 n12 d3 d12 ho4 hg4 hob4 eQ
              try simp only [Act.put, List.setIfInBounds_toArray, List.set_cons_zero, List.set_cons_succ]
              refine wpHead_end (by kernel_rfl) ?_
              simp only [List.drop_succ_cons, List.drop_zero]
              go_wp2
              go_roundw
              case rel => exact ⟨k + 1, _, _, by omega, by go_num, HBF⟩
              case measure => simp [intOf]; omega
          · replace hA := hA12
            go_simp
            have d12 := bal (Below.refl X0.heap.size X0) (.cells #[.bool bv] 4)
            have n12 : (X0.alloc (.cells #[.bool bv] 4)).heap[X0.heap.size]? = some (.cells #[.bool bv] 4 (0, 0)) := World.alloc_heap_new X0 (.cells #[.bool bv] 4)
            obtain ⟨g12, hg12⟩ : ∃ g, g = X0.heap.size := ⟨_, rfl⟩
            rw [← hg12] at n12
            have HG12 := Lib.hid hg12
            have hBoX1 := hBoX0.below d12
            have hRX1 := hRX0.below d12
            have hQX1 := hQX0.below d12
            have hqX1 := fun q hq => (hqX0 q hq).below d12
            generalize (X0.alloc (.cells #[.bool bv] 4)) = X1 at *
            refine hK _ _ (HS12.out _ hBoX1.n hBoX1.b) ?_
            rw [← hg12]
            clear hK KK hg12
            try simp only [Act.put, List.setIfInBounds_toArray, List.set_cons_zero, List.set_cons_succ]
            have hA3 := hnext hA (rs := [3]) (i := 3) (by kernel_rfl) (by decide) (by decide)
            refine wpHead_ready (rs := [3]) (by kernel_rfl) (by decide) (AllHead.cons (at_drop rfl) (by decide) (fun KK hK => ?_) AllHead.nil)
            replace hA := hA3
            go_simp
            have d3 := bal (Below.refl X1.heap.size X1) (.cells #[.slice Av j cv] 33)
            have n3 : (X1.alloc (.cells #[.slice Av j cv] 33)).heap[X1.heap.size]? = some (.cells #[.slice Av j cv] 33 (0, 0)) := World.alloc_heap_new X1 (.cells #[.slice Av j cv] 33)
            obtain ⟨g3, hg3⟩ : ∃ g, g = X1.heap.size := ⟨_, rfl⟩
            rw [← hg3] at n3
            have HG3 := Lib.hid hg3
            have hBoX2 := hBoX1.below d3
            have hRX2 := hRX1.below d3
            have hQX2 := hQX1.below d3
            have hqX2 := fun q hq => (hqX1 q hq).below d3
            replace n12 := (d3.block _ (blk_lt n12)).trans n12
            generalize (X1.alloc (.cells #[.slice Av j cv] 33)) = X2 at *
            refine hK _ _ (HS12.out _ hBoX2.n hBoX2.b) ?_
            rw [← hg3]
            clear hK KK hg3
            try simp only [Act.put, List.setIfInBounds_toArray, List.set_cons_zero, List.set_cons_succ]
            have hA4 := hnext hA (rs := [4]) (i := 4) (by kernel_rfl) (by decide) (by decide)
            refine wpHead_ready (rs := [4]) (by kernel_rfl) (by decide) (AllHead.cons (at_drop rfl) (by decide) (fun KK hK => ?_) AllHead.nil)
            replace hA := hA4
            refine step_append rfl (.tmp 92) (.tmp 94) 22 rfl w5.heap.size 33 i1 (.slice none 0 0) 1 24 Tryd.underlying22 hi1 hy0 hy1 hy2 rfl (by decide) nv (catN d e k).length _ (by simp [Act.eval]) hQX2 ⟨g3, 0, none⟩ 1 1 [.slice Av j cv] (by simp [Act.eval]) rfl (news_blk n3) (by simp [Value.oneCell']) (by have := HCl.out; unfold maxLen; omega) (by have := HCl.out; omega) hBoX2.b.size ?_
            intro A4 c4 Z4 ho4 hg4 hob4
            have hBmZ4 := hBoX2.row (nv' := .slice A4 ((catN d e k).length + 1) c4) eQ hQX2 hqX2 hRX2 (by rw [HRL.out]; exact ho4) hg4
            replace n12 := (hg4.block _ (blk_lt n12) (fun e => own_ne n12 hQX2 (by decide) e.symm)).trans n12
            refine hK _ _ (HS12.out _ hBmZ4.n hBmZ4.b) ?_
            clear hK KK
            try simp only [Act.put, List.setIfInBounds_toArray, List.set_cons_zero, List.set_cons_succ]
            refine wpHead_take (i := 14) (v := ?_) (by kernel_rfl) hA (at_drop rfl) (by decide) (by kernel_rfl) (by kernel_rfl) (by kernel_rfl) (fun _ _ _ h => h) (Or.inl ⟨by rfl, ?_⟩) (HS12.out _ hBmZ4.n hBmZ4.b) (fun hA => ?_)
            rotate_left
            · (intro Y hSY; obtain ⟨s0, s1, s2, s3⟩ := hSY; go_simp <;> with_reducible rfl)
            simp only [Act.put, List.setIfInBounds_toArray, List.set_cons_zero, List.set_cons_succ]
            have hA13 := hnext hA (rs := [13]) (i := 13) (by kernel_rfl) (by decide) (by decide)
            refine wpHead_ready (rs := [13]) (by kernel_rfl) (by decide) (AllHead.cons (at_drop rfl) (by decide) (fun KK hK => ?_) AllHead.nil)
            replace hA := hA13
            refine step_append rfl (.tmp 97) (.tmp 103) 23 rfl w5.heap.size 4 i2 (.bool false) 1 1 Tryd.underlying23 hi2 hv0 hv1 hv2 rfl (by decide) fv (catF d e k).length _ (by simp [Act.eval]) hBmZ4.f ⟨g12, 0, none⟩ 1 1 [.bool bv] (by simp [Act.eval]) rfl (news_blk n12) (by simp [Value.oneCell']) (by have := HFl.out; have := HFD.out; unfold maxLen; omega) (by have := HFl.out; have := HFD.out; omega) hBmZ4.b.size ?_
            intro A13 c13 Z ho13 hg13 hob13
            obtain ⟨hZ, hBF⟩ := hBmZ4.fin ho13 hg13
            have HBF := Lib.hid (show BoL w5 w6.heap.size d.V d.q0 (catN d e (k + 1)) (catF d e (k + 1)) _ _ _ by
              rw [HCs.out, HFs.out, ← HBV.out]; exact hBF)
            have q2 := hZ.cells.2.2.1
            have f2 := free_of hZ 2
            have hZ2 : Blk4 (Z.setCell ⟨w6.heap.size, 2, none⟩ (.slice A4 ((catN d e k).length + 1) c4)) w6.heap.size (.int .i64 d.V) (.int .i64 d.q0) (.slice A4 ((catN d e k).length + 1) c4) fv := heap_put hZ 2 _
            have q3 := hZ2.cells.2.2.2
            have f3 := free_of hZ2 3
            have hSZ := HS12.out Z hZ (hBmZ4.b.grown hg13 hBmZ4.b.size (fun q hq => (own_lt hBmZ4.f hq).1))
            refine hK _ _ hSZ ?_
            clear hK KK hBF hZ hZ2 ho13 hg13 hob13 hSZ
            clear hBoX0 hBoX1 hBoX2 hBmZ4 hRX0 hRX1 hRX2 hQX0 hQX1 hQX2 hqX0 hqX1 hqX2 n3 n12 d3 d12 ho4 hg4 hob4 eQ
            try simp only [Act.put, List.setIfInBounds_toArray, List.set_cons_zero, List.set_cons_succ]
            refine wpHead_end (by kernel_rfl) ?_
            simp only [List.drop_succ_cons, List.drop_zero]
            go_wp2
            go_roundw
            case rel => exact ⟨k + 1, _, _, by omega, by go_num, HBF⟩
            case measure => simp [intOf]; omega
        · have hj1 : j < nk := by omega
          have hjm : (j : Int) < (nk : Int) := by omega
          have hdj : decide ((j : Int) < (nk : Int)) = true := decide_eq_true hjm
          obtain ⟨pd, z, hpd, hzz, hz3, hz4, hpb, hpc⟩ := HI.out j hj1
          subst hpd
          have HZZ := Lib.hid hzz
          clear hzz
          have hzw : IntKind.i64.wrap ((d.nx.length : Int) + z) = (d.nx.length : Int) + z := by rw [IntKind.wrap_i64]; omega
          go_wp2
          clear s0 s1 s2
          refine wp_region_any (by kernel_rfl) ?_
          change wpAny _ _ _ _ _ _ _ (World.drew _)
          have HSl : Hid (∀ X, Below wi.heap.size wi X → (fun X : World => X.cell? ⟨w.heap.size, 2, none⟩ = some (.slice A d.nx.length a) ∧ X.cell? ⟨w.heap.size + 1, 2, none⟩ = some (.slice (some adB) e.nx.length a') ∧ X.cell? (adB.add k) = some (.slice (some pd) nk c') ∧ X.cell? (pd.add j) = some (.int .i64 z)) X) := fun X hX => ⟨(HS.out X hX).1, (HS.out X hX).2.1, (HS.out X hX).2.2, (hX.cell (by rw [addr_block]; exact hpb)).trans hpc⟩
          have hO0 := HO.out.below (drew_below _)
          have hI0 := stepB HBi.out (drew_below _)
          clear HO HBi
          generalize wr.drew = X0 at *
          have hS0 := HSl.out _ hI0
          refine wpAny_head 15 15 (fun X : World => X.cell? ⟨w.heap.size, 2, none⟩ = some (.slice A d.nx.length a) ∧ X.cell? ⟨w.heap.size + 1, 2, none⟩ = some (.slice (some adB) e.nx.length a') ∧ X.cell? (adB.add k) = some (.slice (some pd) nk c') ∧ X.cell? (pd.add j) = some (.int .i64 z)) rfl rfl (by kernel_rfl) (by kernel_rfl) (by kernel_rfl) (fun hA => ?_)
          refine wpHead_take (i := 0) (v := ?_) (by kernel_rfl) hA (at_drop rfl) (by decide) (by kernel_rfl) (by kernel_rfl) (by kernel_rfl) (fun _ _ _ h => h) (Or.inl ⟨by rfl, ?_⟩) hS0 (fun hA => ?_)
          rotate_left
          · (intro Y hSY; obtain ⟨s0, s1, s2, s3⟩ := hSY; go_simp <;> with_reducible rfl)
          simp only [Act.put, List.setIfInBounds_toArray, List.set_cons_zero, List.set_cons_succ]
          refine wpHead_take (i := 1) (v := ?_) (by kernel_rfl) hA (at_drop rfl) (by decide) (by kernel_rfl) (by kernel_rfl) (by kernel_rfl) (fun _ _ _ h => h) (Or.inl ⟨by rfl, ?_⟩) hS0 (fun hA => ?_)
          rotate_left
          · (intro Y hSY; obtain ⟨s0, s1, s2, s3⟩ := hSY; go_simp <;> with_reducible rfl)
          simp only [Act.put, List.setIfInBounds_toArray, List.set_cons_zero, List.set_cons_succ]
          refine wpHead_take (i := 2) (v := ?_) (by kernel_rfl) hA (at_drop rfl) (by decide) (by kernel_rfl) (by kernel_rfl) (by kernel_rfl) (fun _ _ _ h => h) (Or.inl ⟨by rfl, ?_⟩) hS0 (fun hA => ?_)
          rotate_left
          · (intro Y hSY; obtain ⟨s0, s1, s2, s3⟩ := hSY; go_simp <;> with_reducible rfl)
          simp only [Act.put, List.setIfInBounds_toArray, List.set_cons_zero, List.set_cons_succ]
          refine wpHead_take (i := 3) (v := ?_) (by kernel_rfl) hA (at_drop rfl) (by decide) (by kernel_rfl) (by kernel_rfl) (by kernel_rfl) (fun _ _ _ h => h) (Or.inl ⟨by rfl, ?_⟩) hS0 (fun hA => ?_)
          rotate_left
          · (intro Y hSY; obtain ⟨s0, s1, s2, s3⟩ := hSY; go_simp <;> with_reducible rfl)
          simp only [Act.put, List.setIfInBounds_toArray, List.set_cons_zero, List.set_cons_succ]
          refine wpHead_take (i := 4) (v := ?_) (by kernel_rfl) hA (at_drop rfl) (by decide) (by kernel_rfl) (by kernel_rfl) (by kernel_rfl) (fun _ _ _ h => h) (Or.inl ⟨by rfl, ?_⟩) hS0 (fun hA => ?_)
          rotate_left
          · (intro Y hSY; obtain ⟨s0, s1, s2, s3⟩ := hSY; go_simp <;> with_reducible rfl)
          simp only [Act.put, List.setIfInBounds_toArray, List.set_cons_zero, List.set_cons_succ]
          refine wpHead_take (i := 5) (v := ?_) (by kernel_rfl) hA (at_drop rfl) (by decide) (by kernel_rfl) (by kernel_rfl) (by kernel_rfl) (fun _ _ _ h => h) (Or.inl ⟨by rfl, ?_⟩) hS0 (fun hA => ?_)
          rotate_left
          · (intro Y hSY; obtain ⟨s0, s1, s2, s3⟩ := hSY; go_simp <;> with_reducible rfl)
          simp only [Act.put, List.setIfInBounds_toArray, List.set_cons_zero, List.set_cons_succ]
          refine wpHead_take (i := 6) (v := ?_) (by kernel_rfl) hA (at_drop rfl) (by decide) (by kernel_rfl) (by kernel_rfl) (by kernel_rfl) (fun _ _ _ h => h) (Or.inl ⟨by rfl, ?_⟩) hS0 (fun hA => ?_)
          rotate_left
          · (intro Y hSY; obtain ⟨s0, s1, s2, s3⟩ := hSY; go_simp <;> with_reducible rfl)
          simp only [Act.put, List.setIfInBounds_toArray, List.set_cons_zero, List.set_cons_succ]
          refine wpHead_take (i := 7) (v := ?_) (by kernel_rfl) hA (at_drop rfl) (by decide) (by kernel_rfl) (by kernel_rfl) (by kernel_rfl) (fun _ _ _ h => h) (Or.inl ⟨by rfl, ?_⟩) hS0 (fun hA => ?_)
          rotate_left
          · (intro Y hSY; obtain ⟨s0, s1, s2, s3⟩ := hSY; go_simp <;> with_reducible rfl)
          simp only [Act.put, List.setIfInBounds_toArray, List.set_cons_zero, List.set_cons_succ]
          refine wpHead_take (i := 8) (v := ?_) (by kernel_rfl) hA (at_drop rfl) (by decide) (by kernel_rfl) (by kernel_rfl) (by kernel_rfl) (fun _ _ _ h => h) (Or.inl ⟨by rfl, ?_⟩) hS0 (fun hA => ?_)
          rotate_left
          · (intro Y hSY; obtain ⟨s0, s1, s2, s3⟩ := hSY; go_simp <;> with_reducible rfl)
          simp only [Act.put, List.setIfInBounds_toArray, List.set_cons_zero, List.set_cons_succ]
          refine wpHead_take (i := 9) (v := ?_) (by kernel_rfl) hA (at_drop rfl) (by decide) (by kernel_rfl) (by kernel_rfl) (by kernel_rfl) (fun _ _ _ h => h) (Or.inl ⟨by rfl, ?_⟩) hS0 (fun hA => ?_)
          rotate_left
          · (intro Y hSY; obtain ⟨s0, s1, s2, s3⟩ := hSY; go_simp <;> with_reducible rfl)
          simp only [Act.put, List.setIfInBounds_toArray, List.set_cons_zero, List.set_cons_succ]
          refine wpHead_take (i := 10) (v := ?_) (by kernel_rfl) hA (at_drop rfl) (by decide) (by kernel_rfl) (by kernel_rfl) (by kernel_rfl) (fun _ _ _ h => h) (Or.inl ⟨by rfl, ?_⟩) hS0 (fun hA => ?_)
          rotate_left
          · (intro Y hSY; obtain ⟨s0, s1, s2, s3⟩ := hSY; go_simp <;> with_reducible rfl)
          simp only [Act.put, List.setIfInBounds_toArray, List.set_cons_zero, List.set_cons_succ]
          refine wpHead_take (i := 11) (v := ?_) (by kernel_rfl) hA (at_drop rfl) (by decide) (by kernel_rfl) (by kernel_rfl) (by kernel_rfl) (fun _ _ _ h => h) (Or.inl ⟨by rfl, ?_⟩) hS0 (fun hA => ?_)
          rotate_left
          · (intro Y hSY; obtain ⟨s0, s1, s2, s3⟩ := hSY; go_simp <;> with_reducible rfl)
          simp only [Act.put, List.setIfInBounds_toArray, List.set_cons_zero, List.set_cons_succ]
          refine wpHead_take (i := 12) (v := ?_) (by kernel_rfl) hA (at_drop rfl) (by decide) (by kernel_rfl) (by kernel_rfl) (by kernel_rfl) (fun _ _ _ h => h) (Or.inl ⟨by rfl, ?_⟩) hS0 (fun hA => ?_)
          rotate_left
          · (intro Y hSY; obtain ⟨s0, s1, s2, s3⟩ := hSY; go_simp <;> with_reducible rfl)
          simp only [Act.put, List.setIfInBounds_toArray, List.set_cons_zero, List.set_cons_succ]
          have hA13 := hnext hA (rs := [13]) (i := 13) (by kernel_rfl) (by decide) (by decide)
          refine wpHead_ready (rs := [13]) (by kernel_rfl) (by decide) (AllHead.cons (at_drop rfl) (by decide) (fun KK hK => ?_) AllHead.nil)
          replace hA := hA13
          go_simp
          have d1 := bal (Below.refl X0.heap.size X0) (.cells #[.int .i64 ((d.nx.length : Int) + z)] 3)
          have hn1 := cell_one_new X0 (.int .i64 ((d.nx.length : Int) + z)) 3
          have hO1 := hO0.below d1
          have hI1 := stepB hI0 d1
          have hsz1 := hI1.size
          refine hK _ _ (HSl.out _ hI1) ?_
          clear hK KK
          try simp only [Act.put, List.setIfInBounds_toArray, List.set_cons_zero, List.set_cons_succ]
          have hA14 := hnext hA (rs := [14]) (i := 14) (by kernel_rfl) (by decide) (by decide)
          refine wpHead_ready (rs := [14]) (by kernel_rfl) (by decide) (AllHead.cons (at_drop rfl) (by decide) (fun KK hK => ?_) AllHead.nil)
          replace hA := hA14
          refine step_append rfl (.tmp 76) (.tmp 89) 33 rfl wi.heap.size 3 i0 (.int .i64 0) 1 8 Tryd.underlying33 hi0 hz0 hz1 hz2 rfl (by decide) v j (zvs (Rk.take j)) (by simp [Act.eval]) hO1 ⟨X0.heap.size, 0, none⟩ 1 1 [.int .i64 ((d.nx.length : Int) + z)] (by simp [Act.eval]) rfl hn1 (by simp [Value.oneCell']) (by unfold maxLen; omega) (by omega) (by omega) ?_
          intro A9 c9 Z ho9 hg9 hob9
          have hI9 := hI1.grown hg9 (by omega) (fun q hq => (own_lt hO1 hq).1)
          have HO9 : Hid (Z.ownsRow wi.heap.size 3 1 (.slice A9 (j + 1) c9) (j + 1) (zvs (Rk.take (j + 1)))) := by
            rw [HRe.out j hj1, zvs_snoc, ← HZZ.out]; exact ho9
          have HI9 := Lib.hid hI9
          refine hK _ _ (HSl.out _ hI9) ?_
          clear hK KK ho9 hg9 hob9 hO0 hO1 hI0 hI1 hI9 hn1 d1 hS0 hsz1
          try simp only [Act.put, List.setIfInBounds_toArray, List.set_cons_zero, List.set_cons_succ]
          refine wpHead_end (by kernel_rfl) ?_
          simp only [List.drop_succ_cons, List.drop_zero]
          go_wp2
          go_roundw
          case rel => exact ⟨j + 1, _, rfl, by omega, by go_num, HO9, HI9⟩
          case measure => simp [intOf]; omega
end
end Go.Proofs.YtkgeihambgbjdaaDoor.Mi
