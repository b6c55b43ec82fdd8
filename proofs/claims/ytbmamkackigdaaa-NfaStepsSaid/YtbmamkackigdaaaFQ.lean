/- The walk of NfaReaches. -/
import Derived.Test.YtbmamkackigdaaaFO
import Derived.Test.YtbmamkackigdaaaFP
namespace Go.Proofs.Ytbmamkackigdaaa.Nf
open Go Go.RowKit Go.Proofs.Ytbmamkackigdaaa Go.Proofs.Ytbmamkackigdaaa.Cb
set_option linter.unusedVariables false
set_option linter.unusedSimpArgs false
set_option maxRecDepth 100000
theorem eqB_self {xs : List Nat} (ux : U64 xs) : eqB xs xs = true := (eqB_has ux ux).2 fun _ => Iff.rfl
section
variable (n : Na) (A B C : Option Addr) (a b c : Nat) (w : World)
set_option maxHeartbeats 8000000 in
theorem nfaReaches_walk (hx : NaAt w n A B C) (hM : NaMax n) :
    Calls Try.prog 7 #[.agg #[.int .i64 n.V, .int .i64 n.S, .slice A n.st.length a, .slice B n.fi.length b, .slice C n.es.length c]] w fun e w' => e = .returned (.bool true) ∧ Below w.heap.size w w' := by
  have HAw := Lib.hid fun X => awake_any6 X
  have HLo : Hid (∀ X g, g = X.heap.size → Calls Try.prog 8 #[.slice (some ⟨g, 0, none⟩) 1 1] (X.alloc (.cells #[.int .i64 n.V, .int .i64 n.S, .slice A n.st.length a, .slice B n.fi.length b, .slice C n.es.length c] 25)) fun e w' => e = .returned (.bool (longB n)) ∧ Below X.heap.size X w') := fun X g hg => by
    subst hg
    exact Long1_any n A B C a b c X hM.st hM.fi hM.es
  have hB0 := Boxed5.mk0 w n A B C a b c
  have hb0 := bal (Below.refl w.heap.size w) (.cells #[.int .i64 n.V, .int .i64 n.S, .slice A n.st.length a, .slice B n.fi.length b, .slice C n.es.length c] 25)
  by_cases hlong : longB n = true
  · clear hx hM hB0
    rw [hlong] at HLo
    go_enter Try.func7, Try.ntmps7
    go_wp2_with (first
      | (go_at_call 8; ((with_reducible refine (HLo.out _ _ (by simp)).mono ?_); rintro e w2 ⟨rfl, hb2⟩); replace hb0 := stepB hb0 hb2)
      | (go_at_call 10; ((with_reducible refine (HAw.out _).mono ?_); rintro e w3 ⟨rfl, hb3⟩)))
    go_ret
    exact ⟨rfl, stepB hb0 hb3⟩
  have hL : longB n = false := by
    cases hc : longB n with
    | true => exact absurd hc hlong
    | false => rfl
  have hlen := long_len hL
  rw [hL] at HLo
  clear hlong hM
  by_cases h0 : chkN n = 0
  · have hO := ok_of h0
    obtain ⟨v, hv⟩ : ∃ v : Nat, n.V = v := ⟨n.V.toNat, by have := hO.v0; omega⟩
    have hv6 : v ≤ 6 := by have := hO.v6; omega
    have hp64 : 2 ^ v ≤ 64 := Nat.le_trans (Nat.pow_le_pow_right (by decide) hv6) (by decide)
    have hlr : (revN n).es.length = n.es.length := List.length_map _
    have hrl := rev_len hlen
    have hfl : ∀ x ∈ (revN n).es, EdOk x := flip_fine (eds_mem hx.es)
    have HLt := Lib.hid fun X => kitLetters_any v X hv6
    have HRe := Lib.hid fun X (hX : Below w.heap.size w X) => Reachable_good n A B C a b c X (hx.below hX) hlen h0
    have HPr := Lib.hid fun X (hX : Below w.heap.size w X) => Productive_good n A B C a b c X (hx.below hX) hlen h0
    have HCp := Lib.hid fun X (hX : Below w.heap.size w X) => Dg.CopyInts_any A n.st a X (hx.st.below hX) hlen.st
    have HOf := Lib.hid fun X A1 c1 (h : Ints X A1 n.st) => Of_own A1 n.st c1 X h (by have := hlen.st; unfold maxLen; omega)
    have HAf := Lib.hid fun X (hX : Below w.heap.size w X) E xs d (hE : Words X E xs) (ux : U64 xs) x (h8 : x < 2 ^ v) => After_good n A B C a b c X (hx.below hX) hlen E xs d x (by omega) hE ux h0 (by rw [hv, Int.toNat_natCast]; exact h8)
    have HRv : Hid (∀ X, Below w.heap.size w X → Calls Try.prog 28 #[.agg #[.int .i64 n.V, .int .i64 n.S, .slice A n.st.length a, .slice B n.fi.length b, .slice C n.es.length c]] X fun e w' => ∃ A1 B1 C1 a1 b1 c1, e = .returned (.tuple #[.agg #[.int .i64 n.V, .int .i64 n.S, .slice A1 n.fi.length a1, .slice B1 n.st.length b1, .slice C1 n.es.length c1], .int .i64 0]) ∧ Below X.heap.size X w' ∧ NaAt w' (revN n) A1 B1 C1) := fun X hX => by
      have := Reverse_good n A B C a b c X (hx.below hX) hlen h0
      rw [hlr] at this
      exact this.mono fun e w' ⟨A1, B1, C1, a1, b1, c1, h1, h2, h3⟩ => ⟨A1, B1, C1, a1, b1, c1, h1, h2, h3.at_ hx.v hx.s hfl⟩
    have HRm : Hid (∀ X A1 B1 C1 a1 b1 c1, NaAt X (revN n) A1 B1 C1 → Calls Try.prog 36 #[.agg #[.int .i64 n.V, .int .i64 n.S, .slice A1 n.fi.length a1, .slice B1 n.st.length b1, .slice C1 n.es.length c1]] X fun e w' => ∃ xs A' c', e = .returned (.tuple #[.slice A' xs.length c', .int .i64 0]) ∧ IsSet xs (Rc (revN n).es (revN n).st) ∧ OwnW X.heap.size w' A' c' xs ∧ Below X.heap.size X w') := fun X A1 B1 C1 a1 b1 c1 hm2 => by
      have := Reachable_good (revN n) A1 B1 C1 a1 b1 c1 X hm2 hrl (ok_chk (rev_ok hO))
      rw [hlr] at this
      exact this
    have hU0 : upTo n = upTo n := rfl
    have HU0 : Hid (∀ r, ofL n.st = upTo n r 0) := fun r => rfl
    have HUs : Hid (∀ r k, canon (zipW (· ||| ·) (upTo n r k) (stepW n.es r k)) = upTo n r (k + 1)) := fun r k => rfl
    have HUe : Hid (∀ r, IsSet r (Rc n.es n.st) → eqB (upTo n r (2 ^ v)) r = true) := fun r hr => by
      have := upTo_rc hO hr
      rwa [hv, Int.toNat_natCast] at this
    clear hx hlen h0 hO hL hlr hrl hfl hU0
    simp only [hv] at HLo hB0 hb0 HRe HPr HAf HRv HRm ⊢
    clear hv
    generalize 2 ^ v = K at *
    generalize upTo n = U at *
    generalize stepW n.es = St at *
    generalize Rc n.es n.st = P at *
    generalize revN n = m at *
    go_enter Try.func7, Try.ntmps7
    go_wp2_with (first
      | (go_at_call 8; ((with_reducible refine (HLo.out _ _ (by simp)).mono ?_); rintro e w2 ⟨rfl, hb2⟩); replace hb0 := stepB hb0 hb2; replace hB0 := hB0.below hb2; clear HLo)
      | (go_at_call 10; ((with_reducible refine (HAw.out _).mono ?_); rintro e w3 ⟨rfl, hb3⟩); replace hb0 := stepB hb0 hb3; replace hB0 := hB0.below hb3; clear HAw hb2 hb3; obtain ⟨z0, z1, z2, z3, z4⟩ := hB0.cells)
      | (go_at_call 36; ((with_reducible refine (HRe.out _ hb0).mono ?_); rintro e w4 ⟨r, A4, c4, rfl, hS, ho4, hb4⟩); replace ho4 := OwnW.low ho4 hb0.size; replace hb0 := stepB hb0 hb4; replace hB0 := hB0.below hb4; clear hb4 HRe z0 z1 z2 z3 z4; have HUe := Lib.hid (HUe.out r hS); have HUs := Lib.hid (HUs.out r); have HU0 := Lib.hid (HU0.out r); clear hS; generalize U r = U at *; obtain ⟨z0, z1, z2, z3, z4⟩ := hB0.cells)
      | (go_at_call 35; ((with_reducible refine (HCp.out _ hb0).mono ?_); rintro e w5 ⟨A5, c5, rfl, ho5, hc5, hb5⟩); replace ho4 := OwnW.bel ho4 hb5; replace hb0 := stepB hb0 hb5; replace hB0 := hB0.below hb5; clear HCp hb5)
      | (go_at_call 34; ((with_reducible refine (HOf.out _ _ _ (Dg.ints_row ho5 rfl)).mono ?_); rintro e w6 ⟨A6, c6, rfl, ho6, hb6⟩); replace ho4 := OwnW.bel ho4 hb6; replace ho6 := OwnW.low ho6 hb0.size; replace hb0 := stepB hb0 hb6; replace hB0 := hB0.below hb6; rw [HU0.out] at ho6 ⊢; clear HOf hb6 ho5))
    go_loopw [5, 6] (fun nv iv wr => ∃ (k : Nat) (A' : Option Addr) (c' : Nat), k ≤ K ∧ nv = .slice A' (U k).length c' ∧ iv = .int .i64 k ∧ OwnW w.heap.size wr A' c' (U k) ∧ OwnW w.heap.size wr A4 c4 r ∧ Boxed5 wr w.heap.size (.int .i64 v) (.int .i64 n.S) (.slice A n.st.length a) (.slice B n.fi.length b) (.slice C n.es.length c) ∧ Below w.heap.size w wr) (fun _ i _ => K - (intOf i).toNat)
    case atStart => exact ⟨0, A6, c6, Nat.zero_le _, rfl, rfl, ho6, ho4, hB0, hb0⟩
    case round =>
      clear ho6 ho4 hB0 hb0
      obtain ⟨k, A7, c7, hk, rfl, rfl, ho7, ho4, hB0, hb0⟩ := hrel
      obtain ⟨z0, z1, z2, z3, z4⟩ := hB0.cells
      by_cases hk2 : k < K
      · have hw8 : IntKind.u8.wrap (k : Int) = (k : Int) := by rw [IntKind.wrap_u8]; omega
        have hlt : decide ((k : Int) < (K : Int)) = true := decide_eq_true (by omega)
        have HA := Lib.hid (HAf.out wr hb0 A4 r c4 (OwnW.words ho4) (OwnW.u64 ho4) k hk2)
        have HUk := Lib.hid (HUs.out k)
        clear HRv HRm HPr HUe HAf
        generalize St r k = T at *
        go_wp2_with (first
          | (go_at_call 37; ((with_reducible refine (HLt.out _).mono ?_); rintro e w8 ⟨rfl, rfl⟩))
          | (go_at_call 19; ((with_reducible refine HA.out.mono ?_); rintro e w9 ⟨A9, c9, rfl, ho9, hb9⟩); replace ho4 := OwnW.bel ho4 hb9; replace ho7 := OwnW.bel ho7 hb9; replace ho9 := OwnW.low ho9 hb0.size; replace hb0 := stepB hb0 hb9; replace hB0 := hB0.below hb9; clear hb9; have HUn := Lib.hid (Union_any A7 A9 (U k) T c7 c9 w9 (OwnW.words ho7) (OwnW.u64 ho7) (OwnW.cap ho7) (OwnW.words ho9) (OwnW.u64 ho9) (OwnW.cap ho9)))
          | (go_at_call 31; ((with_reducible refine HUn.out.mono ?_); rintro e w10 ⟨A10, c10, rfl, ho10, hb10⟩); replace ho4 := OwnW.bel ho4 hb10; replace ho10 := OwnW.low ho10 hb0.size; replace hb0 := stepB hb0 hb10; replace hB0 := hB0.below hb10; rw [HUk.out] at ho10 ⊢))
        go_roundw
        case rel => exact ⟨k + 1, A10, c10, by omega, rfl, by go_num, ho10, ho4, hB0, hb0⟩
        case measure => simp [intOf]; omega
      · obtain rfl : K = k := by omega
        have hlt : decide ((K : Int) < (K : Int)) = false := decide_eq_false (by omega)
        have hE := HUe.out
        clear HUs HU0 HUe HAf
        generalize U K = u at *
        have HQ1 := Lib.hid fun X (hu : OwnW w.heap.size X A7 c7 u) (hr : OwnW w.heap.size X A4 c4 r) => Equal_any A7 A4 u r c7 c4 X (OwnW.words hu) (OwnW.u64 hu) (OwnW.cap hu) (OwnW.words hr) (OwnW.u64 hr) (OwnW.cap hr)
        rw [hE] at HQ1
        clear hE
        go_wp2_with (first
          | (go_at_call 37; ((with_reducible refine (HLt.out _).mono ?_); rintro e w8 ⟨rfl, rfl⟩))
          | (go_at_call 28; ((with_reducible refine (HRv.out _ hb0).mono ?_); rintro e w9 ⟨A1, B1, C1, a1, b1, c1, rfl, hb9, hm9⟩); clear z0 z1 z2 z3 z4 HRv; have hBm := Boxed5.new w9 25 (.int .i64 v) (.int .i64 n.S) (.slice A1 n.fi.length a1) (.slice B1 n.st.length b1) (.slice C1 n.es.length c1); have hbm := bal (Below.refl w9.heap.size w9) (.cells #[.int .i64 v, .int .i64 n.S, .slice A1 n.fi.length a1, .slice B1 n.st.length b1, .slice C1 n.es.length c1] 25); replace hb0 := stepB (stepB hb0 hb9) hbm; replace hB0 := (hB0.below hb9).below hbm; replace ho4 := OwnW.bel (OwnW.bel ho4 hb9) hbm; replace ho7 := OwnW.bel (OwnW.bel ho7 hb9) hbm; replace hm9 := hm9.below hbm; clear hb9 hbm; obtain ⟨y0, y1, y2, y3, y4⟩ := hBm.cells)
          | (go_at_call 36; ((with_reducible refine (HRm.out _ _ _ _ _ _ _ hm9).mono ?_); rintro e w10 ⟨xs, A10, c10, rfl, hS10, ho10, hb10⟩); replace ho10 := OwnW.low ho10 hb0.size; replace ho4 := OwnW.bel ho4 hb10; replace ho7 := OwnW.bel ho7 hb10; replace hb0 := stepB hb0 hb10; replace hB0 := hB0.below hb10; clear hb10 y0 y1 y2 y3 y4; obtain ⟨z0, z1, z2, z3, z4⟩ := hB0.cells)
          | (go_at_call 38; ((with_reducible refine (HPr.out _ hb0).mono ?_); rintro e w11 ⟨ys, A11, c11, rfl, hS11, ho11, hb11⟩); replace ho11 := OwnW.low ho11 hb0.size; replace ho4 := OwnW.bel ho4 hb11; replace ho7 := OwnW.bel ho7 hb11; replace ho10 := OwnW.bel ho10 hb11; replace hb0 := stepB hb0 hb11; clear hb11; have HQ2 := Lib.hid (Equal_any A10 A11 xs ys c10 c11 _ (OwnW.words ho10) (OwnW.u64 ho10) (OwnW.cap ho10) (OwnW.words ho11) (OwnW.u64 ho11) (OwnW.cap ho11)); rw [show eqB xs ys = true by rw [hS10.unique hS11]; exact eqB_self hS11.2.1] at HQ2)
          | (go_at_call 32; ((with_reducible refine (HQ1.out _ ho7 ho4).mono ?_); rintro e w12 ⟨rfl, rfl⟩))
          | (go_at_call 32; ((with_reducible refine HQ2.out.mono ?_); rintro e w13 ⟨rfl, rfl⟩)))
        go_ret
        exact ⟨rfl, hb0⟩
  · have HR1 := Lib.hid fun X (hX : Below w.heap.size w X) => Reachable_bad n A B C a b c X (hx.below hX) hlen h0
    have HC1 := Lib.hid fun X (hX : Below w.heap.size w X) => Check6_any n A B C a b c X (hx.below hX) hlen
    have hne : (chkN n != 0) = true := by rw [bne_iff_ne]; exact h0
    have hEE : (chkN n == chkN n) = true := beq_self_eq_true _
    clear hx hlen h0 hL
    generalize chkN n = E at *
    go_enter Try.func7, Try.ntmps7
    go_wp2_with (first
      | (go_at_call 8; ((with_reducible refine (HLo.out _ _ (by simp)).mono ?_); rintro e w2 ⟨rfl, hb2⟩); replace hb0 := stepB hb0 hb2; replace hB0 := hB0.below hb2; clear HLo)
      | (go_at_call 10; ((with_reducible refine (HAw.out _).mono ?_); rintro e w3 ⟨rfl, hb3⟩); replace hb0 := stepB hb0 hb3; replace hB0 := hB0.below hb3; clear HAw; obtain ⟨z0, z1, z2, z3, z4⟩ := hB0.cells)
      | (go_at_call 36; ((with_reducible refine (HR1.out _ hb0).mono ?_); rintro e w4 ⟨rfl, hb4⟩); clear z0 z1 z2 z3 z4 HR1; replace hb0 := stepB hb0 hb4; replace hB0 := hB0.below hb4; obtain ⟨z0, z1, z2, z3, z4⟩ := hB0.cells)
      | (go_at_call 22; ((with_reducible refine (HC1.out _ hb0).mono ?_); rintro e w5 ⟨rfl, hb5⟩); replace hb0 := stepB hb0 hb5))
    go_ret
    exact ⟨rfl, hb0⟩
end
end Go.Proofs.Ytbmamkackigdaaa.Nf
