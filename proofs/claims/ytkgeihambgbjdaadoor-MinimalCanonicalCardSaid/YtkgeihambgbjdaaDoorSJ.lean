/- The walk of MinimalDistinct. -/
import Derived.Test.YtkgeihambgbjdaaDoorSI
namespace Go.Proofs.YtkgeihambgbjdaaDoor.Mi
open Go Go.RowKit Go.Proofs.YtkgeihambgbjdaaDoor Go.Proofs.YtkgeihambgbjdaaDoor.Cb Go.Proofs.YtkgeihambgbjdaaDoor.Sb
open Go.Proofs.YtkgeihambgbjdaaDoor.Nf (Bys zvs bvs ret_int ret_b drew_below wordE)
open Go.Proofs.YtkgeihambgbjdaaDoor.Dg (Tabs tb tb_mem)
set_option linter.unusedVariables false
set_option linter.unusedSimpArgs false
set_option linter.unusedSectionVars false
set_option maxRecDepth 100000
/-- The automaton with another start. -/
def frD (m : Da) (p : Nat) : Da := ⟨m.V, p, m.nx, m.fi⟩
theorem frD_ok {m : Da} (hO : OkD m) {p : Nat} (hp : p < m.nx.length) : OkD (frD m p) := ⟨hO.v0, hO.v6, hO.n0, hO.n4, hO.fi, ⟨show (0 : Int) ≤ (p : Int) by omega, show (p : Int) < (m.nx.length : Int) by omega⟩, hO.row⟩
theorem wrong_ok {m : Da} (hO : OkD m) {u : List Nat} (hl : u.length ≤ 64) (hu : ∀ y ∈ u, y < 2 ^ m.V.toNat) : wrongD m u = 0 := by
  unfold wrongD wordE
  rw [okD_chk hO, if_neg (by decide), if_neg (by omega), if_pos (List.all_eq_true.2 fun y hy => decide_eq_true (hu y hy))]
theorem frD_wrong {m : Da} (hO : OkD m) {p : Nat} (hp : p < m.nx.length) (u : List Nat) : wrongD (frD m p) u = wrongD m u := by
  unfold wrongD
  rw [okD_chk hO, okD_chk (frD_ok hO hp)]
  rfl
theorem frD_acc {m : Da} (hO : OkD m) {p : Nat} (hp : p < m.nx.length) {u : List Nat} (h : wrongD m u = 0) : accD (frD m p) u = fiB m (runW (dlt m.nx) p u) := by
  have hu := (wrongD_zero h).2.2
  rw [acc_lg (frD_ok hO hp) (by rw [frD_wrong hO hp]; exact h)]
  exact lg_at (d := frD m p) hu
section
variable (d : Da) (A B : Option Addr) (a b : Nat) (s t : Nat) (D : Option Addr) (l : List Nat) (dl : Nat) (w : World)
set_option maxHeartbeats 16000000 in
theorem minimalDistinct_walk (hx : DaAt w d A B) (m1 : d.nx.length ≤ maxLen) (m2 : d.fi.length ≤ maxLen) (m3 : ∀ r ∈ d.nx, r.length ≤ maxLen) (hs : s < 256) (ht : t < 256) (hD : Bys w D l) (h8 : ∀ y ∈ l, y < 256) (hll : l.length ≤ maxLen) (hT : Tabs2 w) :
    Calls Tryd.prog 8 #[.agg #[.int .i64 d.V, .int .i64 d.q0, .slice A d.nx.length a, .slice B d.fi.length b], .int .u8 s, .int .u8 t, .slice D l.length dl] w fun e w' => e = .returned (.bool true) ∧ Below w.heap.size w w' := by
  unfold maxLen at hll
  have HAw := Lib.hid fun X (hX : Below w.heap.size w X) => awake_any8 X (hT.below hX)
  have HLo : Hid (∀ X (hX : Below w.heap.size w X) g, g = X.heap.size → Calls Tryd.prog 10 #[.slice (some ⟨g, 0, none⟩) 1 1] (X.alloc (.cells #[.int .i64 d.V, .int .i64 d.q0, .slice A d.nx.length a, .slice B d.fi.length b] 25)) fun e w' => e = .returned (.bool (longD d)) ∧ Below X.heap.size X w') := fun X hX g hg => by
    subst hg
    exact Long7_any d A B a b X (hx.below hX) m1 m2 m3
  have hB0 := Blk4.new w (.int .i64 d.V) (.int .i64 d.q0) (.slice A d.nx.length a) (.slice B d.fi.length b)
  have hb0 := bal (Below.refl w.heap.size w) (.cells #[.int .i64 d.V, .int .i64 d.q0, .slice A d.nx.length a, .slice B d.fi.length b] 25)
  by_cases hlong : longD d = true ∨ 60 < l.length
  · have hor : (longD d = true) ∨ (longD d = false ∧ decide (60 < (l.length : Int)) = true) := by
      cases hc : longD d with
      | true => exact .inl rfl
      | false => exact .inr ⟨rfl, decide_eq_true (by rcases hlong with h | h; (rw [hc] at h; cases h); omega)⟩
    clear hlong hx m1 m2 m3 hD h8
    obtain ⟨z0, z1, z2, z3⟩ := hB0.cells
    generalize l.length = nl at *
    generalize longD d = L at *
    rcases hor with rfl | ⟨rfl, hd⟩
    all_goals
      go_enter Tryd.func8, Tryd.ntmps8
      go_wp2_with (first
        | (go_at_call 10; ((with_reducible refine (HLo.out _ hb0 _ (by simp)).mono ?_); rintro e w2 ⟨rfl, hb2⟩); replace hb0 := stepB hb0 hb2)
        | (go_at_call 12; ((with_reducible refine (HAw.out _ hb0).mono ?_); rintro e w3 ⟨rfl, hb3⟩)))
      go_ret
      exact ⟨rfl, stepB hb0 hb3⟩
  have hL : longD d = false := by
    cases hc : longD d with
    | true => exact absurd (.inl hc) hlong
    | false => rfl
  have hl60 : l.length ≤ 60 := by
    by_cases h1 : 60 < l.length
    · exact absurd (.inr h1) hlong
    · omega
  have hd2 : decide (60 < (l.length : Int)) = false := decide_eq_false (by omega)
  have hlen := longD_len hL
  have h40 := (longD_no hL).1
  rw [hL] at HLo
  clear hlong hL m1 m2 m3
  by_cases h0 : chkD d = 0
  · have hO := okD_of h0
    obtain ⟨F, hF, hFp⟩ := ren_some hO
    have hOm := min_ok hO hF hFp
    have hle := min_le hO hF hFp
    have hM1 : Hid (∀ X, Below w.heap.size w X → Calls Tryd.prog 17 #[.agg #[.int .i64 d.V, .int .i64 d.q0, .slice A d.nx.length a, .slice B d.fi.length b]] X fun e w' => ∃ A' a' B' b', e = .returned (.tuple #[.agg #[.int .i64 (minR (renD d F)).V, .int .i64 (minR (renD d F)).q0, .slice A' (minR (renD d F)).nx.length a', .slice B' (minR (renD d F)).fi.length b'], .int .i64 0]) ∧ DaAt w' (minR (renD d F)) A' B' ∧ Below X.heap.size X w') := fun X hX =>
      (min_good d A B a b X (hx.below hX) (hT.below hX) h0 (by omega) F hF hFp rfl).mono fun e w' ⟨A', a', B', b', h1, h2, h3, _⟩ => ⟨A', a', B', b', h1, h2, h3⟩
    have hdi := fun p q hp hq => min_dist hO hF hFp (p := p) (q := q) hp hq
    have hq0 : (minR (renD d F)).q0 = 0 := rfl
    generalize minR (renD d F) = m at *
    have hmp : 0 < m.nx.length := hOm.n0
    obtain ⟨p, hp⟩ : ∃ p, p = s % m.nx.length := ⟨_, rfl⟩
    obtain ⟨q, hq⟩ : ∃ q, q = t % m.nx.length := ⟨_, rfl⟩
    have hpl : p < m.nx.length := by rw [hp]; exact Nat.mod_lt _ hmp
    have hql : q < m.nx.length := by rw [hq]; exact Nat.mod_lt _ hmp
    have hp1 : ((s : Nat) : Int) % (m.nx.length : Int) = (p : Int) := by rw [hp]; exact_mod_cast rfl
    have hq1 : ((t : Nat) : Int) % (m.nx.length : Int) = (q : Int) := by rw [hq]; exact_mod_cast rfl
    have hp2 : ((s : Nat) : Int).tmod (m.nx.length : Int) = (p : Int) := by rw [Int.tmod_eq_emod_of_nonneg (by omega)]; exact hp1
    have hq2 : ((t : Nat) : Int).tmod (m.nx.length : Int) = (q : Int) := by rw [Int.tmod_eq_emod_of_nonneg (by omega)]; exact hq1
    obtain ⟨u, qq, hu⟩ := least_ex m p q
    have hus := hu.short hOm hpl hql
    have hDs : Hid (∀ X A' B' a' b', DaAt X m A' B' → Calls Tryd.prog 25 #[.agg #[.int .i64 m.V, .int .i64 m.q0, .slice A' m.nx.length a', .slice B' m.fi.length b'], .int .i64 (p : Int), .int .i64 (q : Int)] X fun e w' => ∃ D c, e = .returned (.tuple #[.slice D u.length c, .bool qq, .int .i64 0]) ∧ Bys w' D u ∧ Below X.heap.size X w') := fun X A' B' a' b' hd =>
      (dis_good m A' B' a' b' X hd (okD_chk hOm) (by omega) p q hpl hql hu).mono fun e w' ⟨D, c, h1, h2, h3⟩ => ⟨D, c, h1, bys_wvs h2 rfl, h3⟩
    have hFp1 : Hid (∀ X A' B' a' b', DaAt X m A' B' → Calls Tryd.prog 34 #[.agg #[.int .i64 m.V, .int .i64 m.q0, .slice A' m.nx.length a', .slice B' m.fi.length b'], .int .i64 (p : Int)] X fun e w' => ∃ A'' B'' a'' b'', e = .returned (.agg #[.int .i64 m.V, .int .i64 (p : Int), .slice A'' m.nx.length a'', .slice B'' m.fi.length b'']) ∧ DaAt w' (frD m p) A'' B'' ∧ Below X.heap.size X w') := fun X A' B' a' b' hd => from_any m A' B' a' b' (p : Int) X hd hOm.len
    have hFq1 : Hid (∀ X A' B' a' b', DaAt X m A' B' → Calls Tryd.prog 34 #[.agg #[.int .i64 m.V, .int .i64 m.q0, .slice A' m.nx.length a', .slice B' m.fi.length b'], .int .i64 (q : Int)] X fun e w' => ∃ A'' B'' a'' b'', e = .returned (.agg #[.int .i64 m.V, .int .i64 (q : Int), .slice A'' m.nx.length a'', .slice B'' m.fi.length b'']) ∧ DaAt w' (frD m q) A'' B'' ∧ Below X.heap.size X w') := fun X A' B' a' b' hd => from_any m A' B' a' b' (q : Int) X hd hOm.len
    have hwu : wrongD m u = 0 := wrong_ok hOm (by omega) hu.lt
    have h8u : ∀ y ∈ u, y < 256 := fun y hy => by
      have h1 := hu.lt y hy
      have h2 : 2 ^ m.V.toNat ≤ 64 := Dg.pow7 (by have := hOm.v6; omega)
      omega
    have hApu : Hid (∀ X A' B' a' b' D' c', DaAt X (frD m p) A' B' → Bys X D' u → Calls Tryd.prog 32 #[.agg #[.int .i64 m.V, .int .i64 (p : Int), .slice A' m.nx.length a', .slice B' m.fi.length b'], .slice D' u.length c'] X fun e w' => e = .returned (.tuple #[.bool (fiB m (runW (dlt m.nx) p u)), .int .i64 0]) ∧ Below X.heap.size X w') := fun X A' B' a' b' D' c' hd hb => by
      have := AcceptsD_any (frD m p) A' B' a' b' X hd (frD_ok hOm hpl).len D' u c' hb h8u (by omega)
      rwa [frD_acc hOm hpl hwu, frD_wrong hOm hpl, hwu] at this
    have hAqu : Hid (∀ X A' B' a' b' D' c', DaAt X (frD m q) A' B' → Bys X D' u → Calls Tryd.prog 32 #[.agg #[.int .i64 m.V, .int .i64 (q : Int), .slice A' m.nx.length a', .slice B' m.fi.length b'], .slice D' u.length c'] X fun e w' => e = .returned (.tuple #[.bool (fiB m (runW (dlt m.nx) q u)), .int .i64 0]) ∧ Below X.heap.size X w') := fun X A' B' a' b' D' c' hd hb => by
      have := AcceptsD_any (frD m q) A' B' a' b' X hd (frD_ok hOm hql).len D' u c' hb h8u (by omega)
      rwa [frD_acc hOm hql hwu, frD_wrong hOm hql, hwu] at this
    have hApo : Hid (∀ X A' B' a' b', Below w.heap.size w X → DaAt X (frD m p) A' B' → Calls Tryd.prog 32 #[.agg #[.int .i64 m.V, .int .i64 (p : Int), .slice A' m.nx.length a', .slice B' m.fi.length b'], .slice D l.length dl] X fun e w' => e = .returned (.tuple #[.bool (accD (frD m p) l), .int .i64 (wrongD m l)]) ∧ Below X.heap.size X w') := fun X A' B' a' b' hX hd => by
      have := AcceptsD_any (frD m p) A' B' a' b' X hd (frD_ok hOm hpl).len D l dl (hD.below hX) h8 (by omega)
      rwa [frD_wrong hOm hpl] at this
    have hAqo : Hid (∀ X A' B' a' b', Below w.heap.size w X → DaAt X (frD m q) A' B' → Calls Tryd.prog 32 #[.agg #[.int .i64 m.V, .int .i64 (q : Int), .slice A' m.nx.length a', .slice B' m.fi.length b'], .slice D l.length dl] X fun e w' => e = .returned (.tuple #[.bool (accD (frD m q) l), .int .i64 (wrongD m l)]) ∧ Below X.heap.size X w') := fun X A' B' a' b' hX hd => by
      have := AcceptsD_any (frD m q) A' B' a' b' X hd (frD_ok hOm hql).len D l dl (hD.below hX) h8 (by omega)
      rwa [frD_wrong hOm hql] at this
    have hCm := Lib.hid fun X D' c' (hX : Below w.heap.size w X) (hb : Bys X D' u) => CompareWords_any D' D u l c' dl X hb (hD.below hX) (by omega) (by omega) h8u h8
    have hpq : ((p : Int) != (q : Int)) = qq := by
      cases qq with
      | true => rw [bne_iff_ne]; intro e; exact hu.q_iff.1 rfl ((hdi p q hpl hql).2 (by omega))
      | false => rw [bne_eq_false_iff_eq]; have := (hdi p q hpl hql).1 (hu.no rfl).2; omega
    have hab : Hid (qq = true → (fiB m (runW (dlt m.nx) p u) == fiB m (runW (dlt m.nx) q u)) = false) := fun h => by
      rw [beq_eq_false_iff_ne]; exact (hu.yes h).1
    have hnu : Hid (qq = false → ((u.length : Int) == 0) = true) := fun h => by rw [(hu.no h).1]; rfl
    have hz : Hid (qq = true → wrongD m l = 0 → (accD (frD m p) l == accD (frD m q) l) = false → ∀ z, CmpOk u l z → z ≤ 0) := fun h1 h2 h3 z hz => by
      have hlt := (wrongD_zero h2).2.2
      rw [frD_acc hOm hpl h2, frD_acc hOm hql h2, beq_eq_false_iff_ne] at h3
      refine hz (2 ^ m.V.toNat) Nat.one_le_two_pow hu.lt hlt ?_
      apply Decidable.byContradiction
      intro h4
      exact h3 ((hu.yes h1).2 l hlt (by omega))
    have hlu : decide ((u.length : Int) < (m.nx.length : Int)) = true := decide_eq_true (by omega)
    have hlu2 : decide (u.length < m.nx.length) = true := decide_eq_true hus
    have hn0 : ((m.nx.length : Int) == 0) = false := by rw [beq_eq_false_iff_ne]; omega
    have hn1 : (m.nx.length : Int) ≠ 0 := by omega
    have hw1 : IntKind.i64.wrap (s : Int) = (s : Int) := by rw [IntKind.wrap_i64]; omega
    have hw2 : IntKind.i64.wrap (t : Int) = (t : Int) := by rw [IntKind.wrap_i64]; omega
    have hml : m.nx.length ≤ 40 := by omega
    clear hx hlen hT hD h8 h0 hO hF hFp hOm hle hdi hq0 hwu h8u hu hp hq hus
    generalize accD (frD m p) l = xp at *
    generalize accD (frD m q) l = xq at *
    generalize fiB m (runW (dlt m.nx) p u) = ap at *
    generalize fiB m (runW (dlt m.nx) q u) = aq at *
    generalize wrongD m l = E at *
    generalize hnn : u.length = nu at *
    clear hnn
    generalize hml2 : m.nx.length = ml at *
    clear hml2
    generalize m.fi.length = mf at *
    generalize d.nx.length = nn at *
    generalize d.fi.length = nf at *
    generalize l.length = nl at *
    obtain ⟨z0, z1, z2, z3⟩ := hB0.cells
    go_enter Tryd.func8, Tryd.ntmps8
    go_wp2_with (first
      | (go_at_call 10; ((with_reducible refine (HLo.out _ hb0 _ (by simp)).mono ?_); rintro e w2 ⟨rfl, hb2⟩); replace hb0 := stepB hb0 hb2; replace hB0 := hB0.below hb2; clear HLo; clear z0 z1 z2 z3; obtain ⟨z0, z1, z2, z3⟩ := hB0.cells)
      | (go_at_call 12; ((with_reducible refine (HAw.out _ hb0).mono ?_); rintro e w3 ⟨rfl, hb3⟩); replace hb0 := stepB hb0 hb3; replace hB0 := hB0.below hb3; clear HAw; clear z0 z1 z2 z3; obtain ⟨z0, z1, z2, z3⟩ := hB0.cells)
      | (go_at_call 17; ((with_reducible refine (hM1.out _ hb0).mono ?_); rintro e w4 ⟨A4, a4, B4, b4, rfl, hda, hb4⟩); clear hM1;
          have K4 := bal (Below.refl w4.heap.size w4) (.cells #[.int .i64 m.V, .int .i64 m.q0, .slice A4 ml a4, .slice B4 mf b4] 25);
          have hG := Blk4.new w4 (.int .i64 m.V) (.int .i64 m.q0) (.slice A4 ml a4) (.slice B4 mf b4);
          replace hb0 := stepB (stepB hb0 hb4) K4; replace hda := hda.below K4; clear hb4 hB0 z0 z1 z2 z3; obtain ⟨x0, x1, x2, x3⟩ := hG.cells))
    have HW := Lib.hid (And.intro hb0 (And.intro hG hda))
    clear hb0 hG hda K4
    generalize w4.alloc (.cells #[.int .i64 m.V, .int .i64 m.q0, .slice A4 ml a4, .slice B4 mf b4] 25) = w5 at *
    go_quiet (fail)
    have K5 := Ap.drewN_below w5 nq
    obtain ⟨hb0, hG, hda⟩ := HW.out
    replace hb0 := stepB hb0 K5
    replace hG := hG.below K5
    replace hda := hda.below K5
    clear K5 HW x0 x1 x2 x3
    generalize w5.drewN nq = w6 at *
    obtain ⟨x0, x1, x2, x3⟩ := hG.cells
    cases qq with
    | false =>
      have hnu2 := hnu.out rfl
      clear hnu hab hz
      go_wp2_with (first
      | (go_at_call 25; ((with_reducible refine (hDs.out _ A4 B4 a4 b4 hda).mono ?_); rintro e w7 ⟨D7, c7, rfl, hu7, hb7⟩); clear hDs; replace hb0 := stepB hb0 hb7; replace hG := hG.below hb7; replace hda := hda.below hb7; clear x0 x1 x2 x3; obtain ⟨x0, x1, x2, x3⟩ := hG.cells))
      go_ret
      exact ⟨rfl, hb0⟩
    | true =>
      have hab2 := hab.out rfl
      have hz2 := Lib.hid (hz.out rfl)
      clear hnu hab hz
      have hEE : (E == E) = true := by simp
      by_cases hE : E = 0
      · subst hE
        cases hxx : (xp == xq) with
        | true =>
          clear hz2
          go_wp2_with (first
      | (go_at_call 25; ((with_reducible refine (hDs.out _ A4 B4 a4 b4 hda).mono ?_); rintro e w7 ⟨D7, c7, rfl, hu7, hb7⟩); clear hDs; replace hb0 := stepB hb0 hb7; replace hG := hG.below hb7; replace hda := hda.below hb7; clear x0 x1 x2 x3; obtain ⟨x0, x1, x2, x3⟩ := hG.cells)
      | (go_at_call 34; ((with_reducible refine (hFp1.out _ A4 B4 a4 b4 hda).mono ?_); rintro e w8 ⟨A8, B8, a8, b8, rfl, hd8, hb8⟩); replace hb0 := stepB hb0 hb8; replace hG := hG.below hb8; replace hda := hda.below hb8; (try replace hu7 := Bys.below hu7 hb8); clear x0 x1 x2 x3; obtain ⟨x0, x1, x2, x3⟩ := hG.cells)
      | (go_at_call 34; ((with_reducible refine (hFq1.out _ A4 B4 a4 b4 hda).mono ?_); rintro e w8 ⟨A8, B8, a8, b8, rfl, hd8, hb8⟩); replace hb0 := stepB hb0 hb8; replace hG := hG.below hb8; replace hda := hda.below hb8; (try replace hu7 := Bys.below hu7 hb8); clear x0 x1 x2 x3; obtain ⟨x0, x1, x2, x3⟩ := hG.cells)
      | (go_at_call 32; ((with_reducible refine (hApu.out _ A8 B8 a8 b8 D7 c7 hd8 hu7).mono ?_); rintro e w9 ⟨rfl, hb9⟩); clear hd8 hApu; replace hb0 := stepB hb0 hb9; replace hG := hG.below hb9; replace hda := hda.below hb9; (try replace hu7 := Bys.below hu7 hb9); clear x0 x1 x2 x3; obtain ⟨x0, x1, x2, x3⟩ := hG.cells)
      | (go_at_call 32; ((with_reducible refine (hAqu.out _ A8 B8 a8 b8 D7 c7 hd8 hu7).mono ?_); rintro e w10 ⟨rfl, hb10⟩); clear hd8 hAqu; replace hb0 := stepB hb0 hb10; replace hG := hG.below hb10; replace hda := hda.below hb10; (try replace hu7 := Bys.below hu7 hb10); clear x0 x1 x2 x3; obtain ⟨x0, x1, x2, x3⟩ := hG.cells)
      | (go_at_call 32; ((with_reducible refine (hApo.out _ A8 B8 a8 b8 hb0 hd8).mono ?_); rintro e w11 ⟨rfl, hb11⟩); clear hd8 hApo; replace hb0 := stepB hb0 hb11; replace hG := hG.below hb11; replace hda := hda.below hb11; (try replace hu7 := Bys.below hu7 hb11); clear x0 x1 x2 x3; obtain ⟨x0, x1, x2, x3⟩ := hG.cells)
      | (go_at_call 32; ((with_reducible refine (hAqo.out _ A8 B8 a8 b8 hb0 hd8).mono ?_); rintro e w12 ⟨rfl, hb12⟩); clear hd8 hAqo; replace hb0 := stepB hb0 hb12; replace hG := hG.below hb12; replace hda := hda.below hb12; (try replace hu7 := Bys.below hu7 hb12); clear x0 x1 x2 x3; obtain ⟨x0, x1, x2, x3⟩ := hG.cells))
          go_ret
          exact ⟨rfl, hb0⟩
        | false =>
          have hz3 := Lib.hid (hz2.out rfl hxx)
          clear hz2
          go_wp2_with (first
      | (go_at_call 25; ((with_reducible refine (hDs.out _ A4 B4 a4 b4 hda).mono ?_); rintro e w7 ⟨D7, c7, rfl, hu7, hb7⟩); clear hDs; replace hb0 := stepB hb0 hb7; replace hG := hG.below hb7; replace hda := hda.below hb7; clear x0 x1 x2 x3; obtain ⟨x0, x1, x2, x3⟩ := hG.cells)
      | (go_at_call 34; ((with_reducible refine (hFp1.out _ A4 B4 a4 b4 hda).mono ?_); rintro e w8 ⟨A8, B8, a8, b8, rfl, hd8, hb8⟩); replace hb0 := stepB hb0 hb8; replace hG := hG.below hb8; replace hda := hda.below hb8; (try replace hu7 := Bys.below hu7 hb8); clear x0 x1 x2 x3; obtain ⟨x0, x1, x2, x3⟩ := hG.cells)
      | (go_at_call 34; ((with_reducible refine (hFq1.out _ A4 B4 a4 b4 hda).mono ?_); rintro e w8 ⟨A8, B8, a8, b8, rfl, hd8, hb8⟩); replace hb0 := stepB hb0 hb8; replace hG := hG.below hb8; replace hda := hda.below hb8; (try replace hu7 := Bys.below hu7 hb8); clear x0 x1 x2 x3; obtain ⟨x0, x1, x2, x3⟩ := hG.cells)
      | (go_at_call 32; ((with_reducible refine (hApu.out _ A8 B8 a8 b8 D7 c7 hd8 hu7).mono ?_); rintro e w9 ⟨rfl, hb9⟩); clear hd8 hApu; replace hb0 := stepB hb0 hb9; replace hG := hG.below hb9; replace hda := hda.below hb9; (try replace hu7 := Bys.below hu7 hb9); clear x0 x1 x2 x3; obtain ⟨x0, x1, x2, x3⟩ := hG.cells)
      | (go_at_call 32; ((with_reducible refine (hAqu.out _ A8 B8 a8 b8 D7 c7 hd8 hu7).mono ?_); rintro e w10 ⟨rfl, hb10⟩); clear hd8 hAqu; replace hb0 := stepB hb0 hb10; replace hG := hG.below hb10; replace hda := hda.below hb10; (try replace hu7 := Bys.below hu7 hb10); clear x0 x1 x2 x3; obtain ⟨x0, x1, x2, x3⟩ := hG.cells)
      | (go_at_call 32; ((with_reducible refine (hApo.out _ A8 B8 a8 b8 hb0 hd8).mono ?_); rintro e w11 ⟨rfl, hb11⟩); clear hd8 hApo; replace hb0 := stepB hb0 hb11; replace hG := hG.below hb11; replace hda := hda.below hb11; (try replace hu7 := Bys.below hu7 hb11); clear x0 x1 x2 x3; obtain ⟨x0, x1, x2, x3⟩ := hG.cells)
      | (go_at_call 32; ((with_reducible refine (hAqo.out _ A8 B8 a8 b8 hb0 hd8).mono ?_); rintro e w12 ⟨rfl, hb12⟩); clear hd8 hAqo; replace hb0 := stepB hb0 hb12; replace hG := hG.below hb12; replace hda := hda.below hb12; (try replace hu7 := Bys.below hu7 hb12); clear x0 x1 x2 x3; obtain ⟨x0, x1, x2, x3⟩ := hG.cells)
      | (go_at_call 35; ((with_reducible refine (hCm.out _ D7 c7 hb0 hu7).mono ?_); rintro e w13 ⟨z, rfl, hcz, hz1, hz9, hb13⟩); have hzle := decide_eq_true (hz3.out z hcz); replace hb0 := stepB hb0 hb13; clear hcz hCm hz3))
          go_ret
          exact ⟨rfl, hb0⟩
      · have hne : (E != 0) = true := by rw [bne_iff_ne]; exact hE
        clear hz2 hE
        go_wp2_with (first
      | (go_at_call 25; ((with_reducible refine (hDs.out _ A4 B4 a4 b4 hda).mono ?_); rintro e w7 ⟨D7, c7, rfl, hu7, hb7⟩); clear hDs; replace hb0 := stepB hb0 hb7; replace hG := hG.below hb7; replace hda := hda.below hb7; clear x0 x1 x2 x3; obtain ⟨x0, x1, x2, x3⟩ := hG.cells)
      | (go_at_call 34; ((with_reducible refine (hFp1.out _ A4 B4 a4 b4 hda).mono ?_); rintro e w8 ⟨A8, B8, a8, b8, rfl, hd8, hb8⟩); replace hb0 := stepB hb0 hb8; replace hG := hG.below hb8; replace hda := hda.below hb8; (try replace hu7 := Bys.below hu7 hb8); clear x0 x1 x2 x3; obtain ⟨x0, x1, x2, x3⟩ := hG.cells)
      | (go_at_call 34; ((with_reducible refine (hFq1.out _ A4 B4 a4 b4 hda).mono ?_); rintro e w8 ⟨A8, B8, a8, b8, rfl, hd8, hb8⟩); replace hb0 := stepB hb0 hb8; replace hG := hG.below hb8; replace hda := hda.below hb8; (try replace hu7 := Bys.below hu7 hb8); clear x0 x1 x2 x3; obtain ⟨x0, x1, x2, x3⟩ := hG.cells)
      | (go_at_call 32; ((with_reducible refine (hApu.out _ A8 B8 a8 b8 D7 c7 hd8 hu7).mono ?_); rintro e w9 ⟨rfl, hb9⟩); clear hd8 hApu; replace hb0 := stepB hb0 hb9; replace hG := hG.below hb9; replace hda := hda.below hb9; (try replace hu7 := Bys.below hu7 hb9); clear x0 x1 x2 x3; obtain ⟨x0, x1, x2, x3⟩ := hG.cells)
      | (go_at_call 32; ((with_reducible refine (hAqu.out _ A8 B8 a8 b8 D7 c7 hd8 hu7).mono ?_); rintro e w10 ⟨rfl, hb10⟩); clear hd8 hAqu; replace hb0 := stepB hb0 hb10; replace hG := hG.below hb10; replace hda := hda.below hb10; (try replace hu7 := Bys.below hu7 hb10); clear x0 x1 x2 x3; obtain ⟨x0, x1, x2, x3⟩ := hG.cells)
      | (go_at_call 32; ((with_reducible refine (hApo.out _ A8 B8 a8 b8 hb0 hd8).mono ?_); rintro e w11 ⟨rfl, hb11⟩); clear hd8 hApo; replace hb0 := stepB hb0 hb11; replace hG := hG.below hb11; replace hda := hda.below hb11; (try replace hu7 := Bys.below hu7 hb11); clear x0 x1 x2 x3; obtain ⟨x0, x1, x2, x3⟩ := hG.cells)
      | (go_at_call 32; ((with_reducible refine (hAqo.out _ A8 B8 a8 b8 hb0 hd8).mono ?_); rintro e w12 ⟨rfl, hb12⟩); clear hd8 hAqo; replace hb0 := stepB hb0 hb12; replace hG := hG.below hb12; replace hda := hda.below hb12; (try replace hu7 := Bys.below hu7 hb12); clear x0 x1 x2 x3; obtain ⟨x0, x1, x2, x3⟩ := hG.cells))
        go_ret
        exact ⟨rfl, hb0⟩
  · have hBad := Lib.hid fun X (hX : Below w.heap.size w X) => Minimize_bad d A B a b X (hx.below hX) hlen h0
    have hCk := Lib.hid fun X (hX : Below w.heap.size w X) => CheckD_any d A B a b X (hx.below hX) hlen
    have hne : (chkD d != 0) = true := by rw [bne_iff_ne]; exact h0
    have hee : (chkD d == chkD d) = true := by simp
    clear hx hlen hT hD h8 h0
    generalize chkD d = E at *
    generalize d.nx.length = nn at *
    generalize d.fi.length = nf at *
    generalize l.length = nl at *
    obtain ⟨z0, z1, z2, z3⟩ := hB0.cells
    go_enter Tryd.func8, Tryd.ntmps8
    go_wp2_with (first
      | (go_at_call 10; ((with_reducible refine (HLo.out _ hb0 _ (by simp)).mono ?_); rintro e w2 ⟨rfl, hb2⟩); replace hb0 := stepB hb0 hb2; replace hB0 := hB0.below hb2; clear HLo; clear z0 z1 z2 z3; obtain ⟨z0, z1, z2, z3⟩ := hB0.cells)
      | (go_at_call 12; ((with_reducible refine (HAw.out _ hb0).mono ?_); rintro e w3 ⟨rfl, hb3⟩); replace hb0 := stepB hb0 hb3; replace hB0 := hB0.below hb3; clear HAw; clear z0 z1 z2 z3; obtain ⟨z0, z1, z2, z3⟩ := hB0.cells)
      | (go_at_call 17; ((with_reducible refine (hBad.out _ hb0).mono ?_); rintro e w4 ⟨rfl, hb4⟩); clear hBad;
          have K4 := bal (Below.refl w4.heap.size w4) (.cells #[.int .i64 0, .int .i64 0, .slice none 0 0, .slice none 0 0] 25);
          have hG := Blk4.new w4 (.int .i64 0) (.int .i64 0) (.slice none 0 0) (.slice none 0 0);
          replace hb0 := stepB (stepB hb0 hb4) K4; replace hB0 := (hB0.below hb4).below K4; clear z0 z1 z2 z3; obtain ⟨z0, z1, z2, z3⟩ := hB0.cells; obtain ⟨x0, x1, x2, x3⟩ := hG.cells)
      | (go_at_call 31; ((with_reducible refine (hCk.out _ hb0).mono ?_); rintro e w5 ⟨rfl, hb5⟩); replace hb0 := stepB hb0 hb5; clear z0 z1 z2 z3 x0 x1 x2 x3))
    go_ret
    exact ⟨rfl, hb0⟩
end
end Go.Proofs.YtkgeihambgbjdaaDoor.Mi
