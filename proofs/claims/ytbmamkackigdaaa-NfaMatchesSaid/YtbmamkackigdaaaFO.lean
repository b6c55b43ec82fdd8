/- The walk of NfaReverses. -/
import Derived.Test.YtbmamkackigdaaaFN
namespace Go.Proofs.Ytbmamkackigdaaa.Nf
open Go Go.RowKit Go.Proofs.Ytbmamkackigdaaa Go.Proofs.Ytbmamkackigdaaa.Cb
set_option linter.unusedVariables false
set_option linter.unusedSimpArgs false
set_option maxRecDepth 100000
theorem info_u8R : (Try.prog.info? 5).map (fun i => (i.zero, i.size, i.bytes)) = some (some (.int .u8 0), 1, 1) := by kernel_rfl
theorem rev_take {l : List Nat} {j k : Nat} (h : j + 1 + k = l.length) : l.reverse.take (k + 1) = l.reverse.take k ++ [wd l j] := by
  rw [List.take_add_one]
  congr 1
  rw [List.getElem?_reverse (by omega), show l.length - 1 - k = j by omega]
  unfold wd
  rw [List.getD_eq_getElem?_getD, List.getElem?_eq_getElem (by omega)]
  rfl
set_option maxHeartbeats 4000000 in
theorem lawReversed_any (B : Option Addr) (word : List Nat) (d : Nat) (w : World) (hB : Bys w B word) (hn : word.length ≤ 1000) :
    Calls Try.prog 29 #[.slice B word.length d] w fun r w' => ∃ A' c', r = .returned (.slice A' word.length c') ∧ Bys w' A' word.reverse ∧ Below w.heap.size w w' := by
  obtain ⟨i0, hi0, hz0, hz1, hz2⟩ := info_parts info_u8R
  have HT := Lib.hid fun j k (h : j + 1 + k = word.length) => rev_take (l := word) h
  have HF : Hid (∀ (X : World) v, X.ownsRow w.heap.size 5 1 v word.length (bvs (word.reverse.take word.length)) → ∃ A' c', v = .slice A' word.length c' ∧ Bys X A' word.reverse) := fun X v h => by
    obtain ⟨A', c', rfl, _⟩ := Ap.own_form h
    rw [List.take_of_length_le (by simp)] at h
    exact ⟨A', c', rfl, own_bys h (by simp)⟩
  have HC : Hid (∀ X, Below w.heap.size w X → ∀ j, j < word.length → ∃ ad, B = some ad ∧ X.cell? (ad.add j) = some (.int .u8 ((wd word j : Nat) : Int))) := fun X hX j hj => by
    obtain ⟨ad, e, _, h⟩ := (hB.below hX) j hj
    exact ⟨ad, e, h⟩
  generalize word.length = n at *
  generalize word.reverse = R at *
  generalize wd word = W at *
  clear hB
  go_enter Try.func29, Try.ntmps29
  go_wp2
  go_loopw [3, 4] (fun ov iv wr => ∃ (k : Nat) (i : Int), i + 1 + k = n ∧ -1 ≤ i ∧ iv = .int .i64 i ∧ Hid (wr.ownsRow w.heap.size 5 1 ov k (bvs (R.take k))) ∧ Hid (Below w.heap.size w wr)) (fun _ i _ => (intOf i + 1).toNat)
  case atStart => exact ⟨0, (n : Int) - 1, by omega, by omega, rfl, ⟨rfl, .inl ⟨rfl, rfl⟩⟩, Below.refl _ _⟩
  case round =>
    obtain ⟨k, i, hik, hi1, rfl, hO, hb⟩ := hrel
    by_cases hi : i = -1
    · subst hi
      obtain rfl : k = n := by omega
      obtain ⟨A', c', rfl, hF⟩ := HF.out _ _ hO.out
      have HF2 := Lib.hid hF
      clear hF
      go_wp2
      go_ret
      exact ⟨A', c', rfl, HF2.out, hb.out⟩
    · obtain ⟨j, rfl⟩ : ∃ j : Nat, i = j := ⟨i.toNat, by omega⟩
      obtain ⟨ad, rfl, hc⟩ := HC.out _ hb.out j (by omega)
      have hT := Lib.hid (HT.out j k (by omega))
      have hjn : (j : Int) < (n : Int) := by omega
      have hge : decide ((0 : Int) ≤ (j : Int)) = true := decide_eq_true (by omega)
      have hbs := hb.out.size
      have ho := hO.out
      generalize W j = x at *
      go_wp2_with (at_builtin; refine wpList_append_own _ rfl _ _ 28 rfl w.heap.size 5 i0 (.int .u8 0) 1 1 Try.underlying28 hi0 hz0 hz1 hz2 rfl (by decide) _ _ _ rfl (ho.alloc _) ⟨wr.heap.size, 0, none⟩ 1 1 [.int .u8 x] rfl rfl (cell_one_new _ _ _) (by simp [Value.oneCell']) (by unfold maxLen; omega) (by omega) (by simp; omega) ?_; intro v' w6 hown' hgrow _; have HO6 := Lib.hid hown'; have HG6 := Lib.hid hgrow; clear hown' hgrow)
      clear ho
      go_roundw
      case rel =>
        refine ⟨k + 1, (j : Int) - 1, by omega, by omega, by go_num, ?_, ?_⟩
        · show World.ownsRow _ _ _ _ _ _ _
          rw [hT.out, bvs_snoc]
          exact HO6.out
        · exact (hb.out.alloc hbs _).grown HG6.out (by simp; omega) (fun q hq => (hO.out.lt q hq).1)
      case measure => simp [intOf]
/-- What Accepts answers. -/
def accE (n : Na) (l : List Nat) : Bool := if wrongN n l = 0 then accW n l else false
theorem Accepts_any (n : Na) (A B C : Option Addr) (a b c : Nat) (w : World) (hx : NaAt w n A B C) (hl : NaLen n) (D : Option Addr) (l : List Nat) (d : Nat) (hw : Bys w D l) (h8 : ∀ y ∈ l, y < 256) (hll : l.length ≤ 1000000) :
    Calls Try.prog 21 #[.agg #[.int .i64 n.V, .int .i64 n.S, .slice A n.st.length a, .slice B n.fi.length b, .slice C n.es.length c], .slice D l.length d] w fun e w' =>
      e = .returned (.tuple #[.bool (accE n l), .int .i64 (wrongN n l)]) ∧ Below w.heap.size w w' := by
  unfold accE
  by_cases h : wrongN n l = 0
  · have := Accepts_good n A B C a b c w hx hl D l d hw h8 hll h
    rw [if_pos h, h]
    exact this
  · have := Accepts_bad n A B C a b c w hx hl D l d hw h8 hll h
    rw [if_neg h]
    exact this
theorem wrong_rev {n : Na} (h : chkN n = 0) (l : List Nat) : wrongN (revN n) l.reverse = wrongN n l := by
  unfold wrongN
  rw [h, ok_chk (rev_ok (ok_of h))]
  simp only [ne_eq, not_true_eq_false, if_false]
  exact wordE_rev _ _
theorem accE_rev {n : Na} (h : chkN n = 0) (l : List Nat) : accE (revN n) l.reverse = accE n l := by
  unfold accE
  rw [wrong_rev h, acc_rev (ok_of h)]
theorem rev_len {n : Na} (h : NaLen n) : NaLen (revN n) := ⟨h.fi, h.st, by show (n.es.map flipE).length ≤ _; rw [List.length_map]; exact h.es⟩
theorem flip_fine {l : List Ed} (h : ∀ x ∈ l, EdOk x) : ∀ x ∈ l.map flipE, EdOk x := fun x hx => by
  obtain ⟨y, hy, rfl⟩ := List.mem_map.1 hx
  have := h y hy
  exact ⟨this.to, this.fr, this.p, this.q⟩
/-- What the frame lays: no slice is longer than memory allows. -/
structure NaMax (n : Na) : Prop where
  st : n.st.length ≤ maxLen
  fi : n.fi.length ≤ maxLen
  es : n.es.length ≤ maxLen
section
variable (n : Na) (A B C : Option Addr) (a b c : Nat) (D : Option Addr) (l : List Nat) (d : Nat) (w : World)
set_option maxHeartbeats 8000000 in
theorem nfaReverses_walk (hx : NaAt w n A B C) (hM : NaMax n) (hD : Bys w D l) (h8 : ∀ y ∈ l, y < 256) (hm : l.length ≤ maxLen) :
    Calls Try.prog 4 #[.agg #[.int .i64 n.V, .int .i64 n.S, .slice A n.st.length a, .slice B n.fi.length b, .slice C n.es.length c], .slice D l.length d] w fun e w' => e = .returned (.bool true) ∧ Below w.heap.size w w' := by
  have HAw := Lib.hid fun X => awake_any6 X
  have HLo : Hid (∀ X g, g = X.heap.size → Calls Try.prog 8 #[.slice (some ⟨g, 0, none⟩) 1 1] (X.alloc (.cells #[.int .i64 n.V, .int .i64 n.S, .slice A n.st.length a, .slice B n.fi.length b, .slice C n.es.length c] 25)) fun e w' => e = .returned (.bool (longB n)) ∧ Below X.heap.size X w') := fun X g hg => by
    subst hg
    exact Long1_any n A B C a b c X hM.st hM.fi hM.es
  have hB0 := Boxed5.mk0 w n A B C a b c
  have hb0 := bal (Below.refl w.heap.size w) (.cells #[.int .i64 n.V, .int .i64 n.S, .slice A n.st.length a, .slice B n.fi.length b, .slice C n.es.length c] 25)
  unfold maxLen at hm
  by_cases hlong : longB n = true ∨ 100 < l.length
  · have hor : (longB n = true) ∨ (longB n = false ∧ decide ((100 : Int) < (l.length : Int)) = true) := by
      cases hc : longB n with
      | true => exact .inl rfl
      | false => exact .inr ⟨rfl, decide_eq_true (by rcases hlong with h | h; (rw [hc] at h; cases h); omega)⟩
    clear hlong hx hM hD h8 hB0
    generalize l.length = nl at *
    generalize longB n = L at *
    rcases hor with rfl | ⟨rfl, hd⟩
    all_goals
      go_enter Try.func4, Try.ntmps4
      go_wp2_with (first
        | (go_at_call 8; ((with_reducible refine (HLo.out _ _ (by simp)).mono ?_); rintro e w2 ⟨rfl, hb2⟩); replace hb0 := stepB hb0 hb2)
        | (go_at_call 10; ((with_reducible refine (HAw.out _).mono ?_); rintro e w3 ⟨rfl, hb3⟩)))
      go_ret
      exact ⟨rfl, stepB hb0 hb3⟩
  have hL : longB n = false := by
    cases hc : longB n with
    | true => exact absurd (.inl hc) hlong
    | false => rfl
  have hl100 : l.length ≤ 100 := by omega
  have hd1 : decide ((100 : Int) < (l.length : Int)) = false := decide_eq_false (by omega)
  have hlen := long_len hL
  rw [hL] at HLo
  clear hlong hM
  by_cases h0 : chkN n = 0
  · have hO := ok_of h0
    have hlr : (revN n).es.length = n.es.length := List.length_map _
    have hrl := rev_len hlen
    have hfl : ∀ x ∈ (revN n).es, EdOk x := flip_fine (eds_mem hx.es)
    have HA1 := Lib.hid fun X (hX : Below w.heap.size w X) => Accepts_any n A B C a b c X (hx.below hX) hlen D l d (hD.below hX) h8 (by omega)
    have HA2 : Hid (∀ X A1 B1 C1 a1 b1 c1 D1 d1, NaAt X (revN n) A1 B1 C1 → Bys X D1 l.reverse → Calls Try.prog 21 #[.agg #[.int .i64 n.V, .int .i64 n.S, .slice A1 n.fi.length a1, .slice B1 n.st.length b1, .slice C1 n.es.length c1], .slice D1 l.length d1] X fun e w' => e = .returned (.tuple #[.bool (accE n l), .int .i64 (wrongN n l)]) ∧ Below X.heap.size X w') := fun X A1 B1 C1 a1 b1 c1 D1 d1 hm2 hD1 => by
      have := Accepts_any (revN n) A1 B1 C1 a1 b1 c1 X hm2 hrl D1 l.reverse d1 hD1 (fun y hy => h8 y (List.mem_reverse.1 hy)) (by rw [List.length_reverse]; omega)
      rw [accE_rev h0, wrong_rev h0, List.length_reverse, hlr] at this
      exact this
    have HR1 : Hid (∀ X, Below w.heap.size w X → Calls Try.prog 28 #[.agg #[.int .i64 n.V, .int .i64 n.S, .slice A n.st.length a, .slice B n.fi.length b, .slice C n.es.length c]] X fun e w' => ∃ A1 B1 C1 a1 b1 c1, e = .returned (.tuple #[.agg #[.int .i64 n.V, .int .i64 n.S, .slice A1 n.fi.length a1, .slice B1 n.st.length b1, .slice C1 n.es.length c1], .int .i64 0]) ∧ Below X.heap.size X w' ∧ NaAt w' (revN n) A1 B1 C1) := fun X hX => by
      have := Reverse_good n A B C a b c X (hx.below hX) hlen h0
      rw [hlr] at this
      exact this.mono fun e w' ⟨A1, B1, C1, a1, b1, c1, h1, h2, h3⟩ => ⟨A1, B1, C1, a1, b1, c1, h1, h2, h3.at_ hx.v hx.s hfl⟩
    have HR2 : Hid (∀ X A1 B1 C1 a1 b1 c1, NaAt X (revN n) A1 B1 C1 → Calls Try.prog 28 #[.agg #[.int .i64 n.V, .int .i64 n.S, .slice A1 n.fi.length a1, .slice B1 n.st.length b1, .slice C1 n.es.length c1]] X fun e w' => ∃ A2 B2 C2 a2 b2 c2, e = .returned (.tuple #[.agg #[.int .i64 n.V, .int .i64 n.S, .slice A2 n.st.length a2, .slice B2 n.fi.length b2, .slice C2 n.es.length c2], .int .i64 0]) ∧ Below X.heap.size X w' ∧ NaAt w' n A2 B2 C2) := fun X A1 B1 C1 a1 b1 c1 hm2 => by
      have := Reverse_good (revN n) A1 B1 C1 a1 b1 c1 X hm2 hrl (ok_chk (rev_ok hO))
      rw [rev_rev, hlr] at this
      exact this.mono fun e w' ⟨A2, B2, C2, a2, b2, c2, h1, h2, h3⟩ => ⟨A2, B2, C2, a2, b2, c2, h1, h2, h3.at_ hx.v hx.s (eds_mem hx.es)⟩
    have HCm : Hid (∀ X A1 B1 C1 a1 b1 c1, NaAt X (revN n) A1 B1 C1 → Calls Try.prog 22 #[.agg #[.int .i64 n.V, .int .i64 n.S, .slice A1 n.fi.length a1, .slice B1 n.st.length b1, .slice C1 n.es.length c1]] X fun e w' => e = .returned (.int .i64 0) ∧ Below X.heap.size X w') := fun X A1 B1 C1 a1 b1 c1 hm2 => by
      have := Check6_any (revN n) A1 B1 C1 a1 b1 c1 X hm2 hrl
      rw [ok_chk (rev_ok hO), hlr] at this
      exact this
    have HEq := Lib.hid fun X (hX : Below w.heap.size w X) A2 B2 C2 a2 b2 c2 (h2 : NaAt X n A2 B2 C2) => EqualNFA_same n A2 B2 C2 A B C a2 b2 c2 a b c X h2 (hx.below hX) hlen
    have HRv := Lib.hid fun X (hX : Below w.heap.size w X) => lawReversed_any D l d X (hD.below hX) (by omega)
    generalize revN n = m at *
    generalize l.reverse = lr at *
    generalize wrongN n l = E at *
    generalize accE n l = G at *
    have hEE : (E == E) = true := beq_self_eq_true E
    clear h8 hlr hrl hfl hO h0 hL
    generalize l.length = nl at *
    have HNx : Hid (∀ X, Below w.heap.size w X → NaAt X n A B C) := fun X hX => hx.below hX
    clear hx hD hlen
    cases G
    all_goals
      go_enter Try.func4, Try.ntmps4
      go_wp2_with (first
        | (go_at_call 8; ((with_reducible refine (HLo.out _ _ (by simp)).mono ?_); rintro e w2 ⟨rfl, hb2⟩); replace hb0 := stepB hb0 hb2; replace hB0 := hB0.below hb2; clear HLo)
        | (go_at_call 10; ((with_reducible refine (HAw.out _).mono ?_); rintro e w3 ⟨rfl, hb3⟩); replace hb0 := stepB hb0 hb3; replace hB0 := hB0.below hb3; clear HAw; obtain ⟨z0, z1, z2, z3, z4⟩ := hB0.cells)
        | (go_at_call 28; ((with_reducible refine (HR1.out _ hb0).mono ?_); rintro e w4 ⟨A1, B1, C1, a1, b1, c1, rfl, hb4, hm4⟩); clear z0 z1 z2 z3 z4 HR1; have hBm := Boxed5.new w4 25 (.int .i64 n.V) (.int .i64 n.S) (.slice A1 n.fi.length a1) (.slice B1 n.st.length b1) (.slice C1 n.es.length c1); have hbm := bal (Below.refl w4.heap.size w4) (.cells #[.int .i64 n.V, .int .i64 n.S, .slice A1 n.fi.length a1, .slice B1 n.st.length b1, .slice C1 n.es.length c1] 25); replace hb0 := stepB (stepB hb0 hb4) hbm; replace hB0 := (hB0.below hb4).below hbm; replace hm4 := hm4.below hbm; clear hb4 hbm; obtain ⟨y0, y1, y2, y3, y4⟩ := hBm.cells)
        | (go_at_call 28; ((with_reducible refine (HR2.out _ _ _ _ _ _ _ hm4).mono ?_); rintro e w5 ⟨A2, B2, C2, a2, b2, c2, rfl, hb5, hn5⟩); clear y0 y1 y2 y3 y4 HR2; have hBk := Boxed5.new w5 25 (.int .i64 n.V) (.int .i64 n.S) (.slice A2 n.st.length a2) (.slice B2 n.fi.length b2) (.slice C2 n.es.length c2); have hbk := bal (Below.refl w5.heap.size w5) (.cells #[.int .i64 n.V, .int .i64 n.S, .slice A2 n.st.length a2, .slice B2 n.fi.length b2, .slice C2 n.es.length c2] 25); replace hb0 := stepB (stepB hb0 hb5) hbk; replace hB0 := (hB0.below hb5).below hbk; replace hm4 := (hm4.below hb5).below hbk; replace hBm := (hBm.below hb5).below hbk; replace hn5 := hn5.below hbk; clear hb5 hbk; obtain ⟨z0, z1, z2, z3, z4⟩ := hB0.cells)
        | (go_at_call 21; ((with_reducible refine (HA1.out _ hb0).mono ?_); rintro e w6 ⟨rfl, hb6⟩); clear z0 z1 z2 z3 z4 HA1; replace hb0 := stepB hb0 hb6; replace hB0 := hB0.below hb6; replace hm4 := hm4.below hb6; replace hBm := hBm.below hb6; replace hn5 := hn5.below hb6; replace hBk := hBk.below hb6; clear hb6; obtain ⟨y0, y1, y2, y3, y4⟩ := hBm.cells))
      generalize w4.heap.size = bm at *
      have KD : Below w.heap.size w w6.drew := stepB hb0 (drew_below w6)
      have KE : Below w6.heap.size w6 w6.drew := drew_below w6
      have hS6 : w6.drew.cell? ⟨bm, 0, none⟩ = some (.int .i64 n.V) ∧ w6.drew.cell? ⟨bm, 1, none⟩ = some (.int .i64 n.S) ∧ w6.drew.cell? ⟨bm, 2, none⟩ = some (.slice A1 n.fi.length a1) ∧ w6.drew.cell? ⟨bm, 3, none⟩ = some (.slice B1 n.st.length b1) ∧ w6.drew.cell? ⟨bm, 4, none⟩ = some (.slice C1 n.es.length c1) ∧ Below w6.heap.size w6 w6.drew := ⟨y0, y1, y2, y3, y4, KE⟩
      go_region_held3 (fun w' => w'.cell? ⟨bm, 0, none⟩ = some (.int .i64 n.V) ∧ w'.cell? ⟨bm, 1, none⟩ = some (.int .i64 n.S) ∧ w'.cell? ⟨bm, 2, none⟩ = some (.slice A1 n.fi.length a1) ∧ w'.cell? ⟨bm, 3, none⟩ = some (.slice B1 n.st.length b1) ∧ w'.cell? ⟨bm, 4, none⟩ = some (.slice C1 n.es.length c1) ∧ Below w6.heap.size w6 w')
        (first | assumption)
        (first
          | (go_at_call 29; ((with_reducible refine (HRv.out w6.drew KD).mono ?_); rintro e w7 ⟨D7, d7, rfl, hD7, hb7⟩); have hm7 := hm4.below (stepB KE hb7); have hB7 := hBm.below (stepB KE hb7); have hS7 : w7.cell? ⟨bm, 0, none⟩ = some (.int .i64 n.V) ∧ w7.cell? ⟨bm, 1, none⟩ = some (.int .i64 n.S) ∧ w7.cell? ⟨bm, 2, none⟩ = some (.slice A1 n.fi.length a1) ∧ w7.cell? ⟨bm, 3, none⟩ = some (.slice B1 n.st.length b1) ∧ w7.cell? ⟨bm, 4, none⟩ = some (.slice C1 n.es.length c1) ∧ Below w6.heap.size w6 w7 := ⟨hB7.c0, hB7.c1, hB7.c2, hB7.c3, hB7.c4, stepB KE hb7⟩)
          | (go_at_call 21; ((with_reducible refine (HA2.out w7 _ _ _ _ _ _ _ _ hm7 hD7).mono ?_); rintro e w8 ⟨rfl, hb8⟩); have hB8 := hB7.below hb8; have hS8 : w8.cell? ⟨bm, 0, none⟩ = some (.int .i64 n.V) ∧ w8.cell? ⟨bm, 1, none⟩ = some (.int .i64 n.S) ∧ w8.cell? ⟨bm, 2, none⟩ = some (.slice A1 n.fi.length a1) ∧ w8.cell? ⟨bm, 3, none⟩ = some (.slice B1 n.st.length b1) ∧ w8.cell? ⟨bm, 4, none⟩ = some (.slice C1 n.es.length c1) ∧ Below w6.heap.size w6 w8 := ⟨hB8.c0, hB8.c1, hB8.c2, hB8.c3, hB8.c4, stepB hS7.2.2.2.2.2 hb8⟩))
      have hb9 := hS8.2.2.2.2.2
      replace hb0 := stepB hb0 hb9
      replace hB0 := hB0.below hb9
      replace hn5 := hn5.below hb9
      replace hBk := hBk.below hb9
      replace hm7 := hm7.below hb8
      clear hS6 hS7 hS8 KD KE hb7 hb8 hb9 hB7 hBm hm4 hD7 y0 y1 y2 y3 y4 HRv HA2
      obtain ⟨y0, y1, y2, y3, y4⟩ := hB8.cells
      go_wp2_with (first
        | (go_at_call 22; ((with_reducible refine (HCm.out _ _ _ _ _ _ _ hm7).mono ?_); rintro e w9 ⟨rfl, hb9⟩); replace hb0 := stepB hb0 hb9; replace hn5 := hn5.below hb9; obtain ⟨x0, x1, x2, x3, x4⟩ := (hB0.below hb9).cells; obtain ⟨v0, v1, v2, v3, v4⟩ := (hBk.below hb9).cells)
        | (go_at_call 25; ((with_reducible refine (HEq.out _ hb0 _ _ _ _ _ _ hn5).mono ?_); rintro e w10 ⟨rfl, hb10⟩)))
      go_ret
      exact ⟨rfl, stepB hb0 hb10⟩
  · have HR1 := Lib.hid fun X (hX : Below w.heap.size w X) => Reverse_bad n A B C a b c X (hx.below hX) hlen h0
    have HC1 := Lib.hid fun X (hX : Below w.heap.size w X) => Check6_any n A B C a b c X (hx.below hX) hlen
    have hne : (chkN n != 0) = true := by rw [bne_iff_ne]; exact h0
    have hEE : (chkN n == chkN n) = true := beq_self_eq_true _
    clear hx hD h8 hlen h0 hL
    generalize chkN n = E at *
    generalize l.length = nl at *
    go_enter Try.func4, Try.ntmps4
    go_wp2_with (first
      | (go_at_call 8; ((with_reducible refine (HLo.out _ _ (by simp)).mono ?_); rintro e w2 ⟨rfl, hb2⟩); replace hb0 := stepB hb0 hb2; replace hB0 := hB0.below hb2; clear HLo)
      | (go_at_call 10; ((with_reducible refine (HAw.out _).mono ?_); rintro e w3 ⟨rfl, hb3⟩); replace hb0 := stepB hb0 hb3; replace hB0 := hB0.below hb3; clear HAw; obtain ⟨z0, z1, z2, z3, z4⟩ := hB0.cells)
      | (go_at_call 28; ((with_reducible refine (HR1.out _ hb0).mono ?_); rintro e w4 ⟨rfl, hb4⟩); clear z0 z1 z2 z3 z4 HR1; have hbm := bal (Below.refl w4.heap.size w4) (.cells #[.int .i64 0, .int .i64 0, .slice none 0 0, .slice none 0 0, .slice none 0 0] 25); have hBm := Boxed5.new w4 25 (.int .i64 0) (.int .i64 0) (.slice none 0 0) (.slice none 0 0) (.slice none 0 0); replace hb0 := stepB (stepB hb0 hb4) hbm; replace hB0 := (hB0.below hb4).below hbm; obtain ⟨z0, z1, z2, z3, z4⟩ := hB0.cells)
      | (go_at_call 22; ((with_reducible refine (HC1.out _ hb0).mono ?_); rintro e w5 ⟨rfl, hb5⟩); replace hb0 := stepB hb0 hb5; obtain ⟨y0, y1, y2, y3, y4⟩ := (hBm.below hb5).cells))
    go_ret
    exact ⟨rfl, hb0⟩
end
end Go.Proofs.Ytbmamkackigdaaa.Nf
