/- The walk of NfaSteps. -/
import Derived.Test.YtbmamkackigdaaaFR
namespace Go.Proofs.Ytbmamkackigdaaa.Nf
open Go Go.RowKit Go.Proofs.Ytbmamkackigdaaa Go.Proofs.Ytbmamkackigdaaa.Cb
set_option linter.unusedVariables false
set_option linter.unusedSimpArgs false
set_option maxRecDepth 100000
section
variable (n : Na) (A B C : Option Addr) (a b c : Nat) (Es : Option Addr) (ss : List Nat) (cs : Nat) (Et : Option Addr) (ts : List Nat) (ct : Nat) (x : Nat) (Dv : Option Addr) (lv : List Nat) (dv : Nat) (Dw : Option Addr) (lw : List Nat) (dw : Nat) (w : World)
set_option maxHeartbeats 8000000 in
theorem nfaSteps_walk (hx : NaAt w n A B C) (hM : NaMax n) (hs : Words w Es ss) (us : U64 ss) (ls : ss.length ≤ cs) (ms : cs ≤ maxLen) (ht : Words w Et ts) (ut : U64 ts) (lt : ts.length ≤ ct) (mt : ct ≤ maxLen) (hx8 : x < 256)
    (hv : Bys w Dv lv) (hv8 : ∀ y ∈ lv, y < 256) (mv : lv.length ≤ 140737488351232) (hw : Bys w Dw lw) (hw8 : ∀ y ∈ lw, y < 256) (mw : lw.length ≤ 140737488351232) :
    Calls Try.prog 6 #[.agg #[.int .i64 n.V, .int .i64 n.S, .slice A n.st.length a, .slice B n.fi.length b, .slice C n.es.length c], .slice Es ss.length cs, .slice Et ts.length ct, .int .u8 x, .slice Dv lv.length dv, .slice Dw lw.length dw] w fun e w' => e = .returned (.bool true) ∧ Below w.heap.size w w' := by
  have HAw := Lib.hid fun X => awake_any6 X
  have HLo : Hid (∀ X g, g = X.heap.size → Calls Try.prog 8 #[.slice (some ⟨g, 0, none⟩) 1 1] (X.alloc (.cells #[.int .i64 n.V, .int .i64 n.S, .slice A n.st.length a, .slice B n.fi.length b, .slice C n.es.length c] 25)) fun e w' => e = .returned (.bool (longB n)) ∧ Below X.heap.size X w') := fun X g hg => by
    subst hg
    exact Long1_any n A B C a b c X hM.st hM.fi hM.es
  have HL2 := Lib.hid fun X => Long2_any Es Et ss.length ts.length cs ct X (by omega) (by omega)
  have hB0 := Boxed5.mk0 w n A B C a b c
  have hb0 := bal (Below.refl w.heap.size w) (.cells #[.int .i64 n.V, .int .i64 n.S, .slice A n.st.length a, .slice B n.fi.length b, .slice C n.es.length c] 25)
  have hwr : IntKind.i64.wrap ((lv.length : Int) + (lw.length : Int)) = ((lv.length + lw.length : Nat) : Int) := by rw [IntKind.wrap_i64]; omega
  by_cases hlong : longB n = true ∨ long2 ss.length ts.length = true ∨ 100 < lv.length + lw.length
  · have hor : (longB n = true) ∨ (longB n = false ∧ long2 ss.length ts.length = true) ∨ (longB n = false ∧ long2 ss.length ts.length = false ∧ decide ((100 : Int) < ((lv.length + lw.length : Nat) : Int)) = true) := by
      cases hc : longB n with
      | true => exact .inl rfl
      | false =>
        cases hc2 : long2 ss.length ts.length with
        | true => exact .inr (.inl ⟨rfl, rfl⟩)
        | false => exact .inr (.inr ⟨rfl, rfl, decide_eq_true (by rcases hlong with h | h | h; (rw [hc] at h; cases h); (rw [hc2] at h; cases h); omega)⟩)
    clear hlong hx hM hs ht hv hv8 hw hw8 hB0 ls ms lt mt us ut
    generalize lv.length = nv at *
    generalize lw.length = nw at *
    generalize ss.length = ns at *
    generalize ts.length = nt at *
    generalize longB n = L at *
    generalize long2 ns nt = L2 at *
    generalize nv + nw = nvw at *
    rcases hor with rfl | ⟨rfl, rfl⟩ | ⟨rfl, rfl, hd⟩
    all_goals
      go_enter Try.func6, Try.ntmps6
      go_wp2_with (first
        | (go_at_call 8; ((with_reducible refine (HLo.out _ _ (by simp)).mono ?_); rintro e w2 ⟨rfl, hb2⟩); replace hb0 := stepB hb0 hb2)
        | (go_at_call 9; ((with_reducible refine (HL2.out _ _ (by simp)).mono ?_); rintro e w2 ⟨rfl, hb2⟩); replace hb0 := stepB hb0 hb2)
        | (go_at_call 10; ((with_reducible refine (HAw.out _).mono ?_); rintro e w3 ⟨rfl, hb3⟩)))
      go_ret
      exact ⟨rfl, stepB hb0 hb3⟩
  have hL : longB n = false := by
    cases hc : longB n with
    | true => exact absurd (.inl hc) hlong
    | false => rfl
  have hL2 : long2 ss.length ts.length = false := by
    cases hc : long2 ss.length ts.length with
    | true => exact absurd (.inr (.inl hc)) hlong
    | false => rfl
  have hsum : lv.length + lw.length ≤ 100 := by omega
  have hd1 : decide ((100 : Int) < ((lv.length + lw.length : Nat) : Int)) = false := decide_eq_false (by omega)
  have hlen := long_len hL
  rw [hL] at HLo
  rw [hL2] at HL2
  clear hlong hM hL hL2
  have h8 : ∀ y ∈ lv ++ lw, y < 256 := fun y hy => (List.mem_append.1 hy).elim (hv8 y) (hw8 y)
  have hlall : (lv ++ lw).length = lv.length + lw.length := List.length_append
  obtain ⟨f, e0, hf, hAf⟩ := After_uni n A B C a b c w hx hlen x hx8
  obtain ⟨r, hr0, hr1, hRun⟩ := Run_uni n A B C a b c w hx hlen (lv ++ lw) h8 (by omega)
  have HUn := Lib.hid fun X (hX : Below w.heap.size w X) => Union_any Es Et ss ts cs ct X (hs.below hX) us ls (ht.below hX) ut lt
  have HAs := Lib.hid fun X (hX : Below w.heap.size w X) => hAf X hX Es ss cs (hs.below hX) us
  have HAt := Lib.hid fun X (hX : Below w.heap.size w X) => hAf X hX Et ts ct (ht.below hX) ut
  have HAu := Lib.hid fun X (hX : Below w.heap.size w X) A1 c1 (h : OwnW w.heap.size X A1 c1 (zor ss ts)) => hAf X hX A1 (zor ss ts) c1 (OwnW.words h) (OwnW.u64 h)
  have hq := hf ss ts
  clear hf hAf
  generalize hzs : zor ss ts = zs at *
  change canon (zipW (· ||| ·) ss ts) = zs at hzs
  rw [hzs] at HUn
  clear hzs
  generalize f zs = fz at *
  generalize f ss = fs at *
  generalize f ts = ft at *
  have HU2 := Lib.hid fun X A1 B1 c1 d1 (h1 : OwnW w.heap.size X A1 c1 fs) (h2 : OwnW w.heap.size X B1 d1 ft) => Union_any A1 B1 fs ft c1 d1 X (OwnW.words h1) (OwnW.u64 h1) (OwnW.cap h1) (OwnW.words h2) (OwnW.u64 h2) (OwnW.cap h2)
  have HQ1 : Hid (∀ X A1 B1 c1 d1, OwnW w.heap.size X A1 c1 fz → OwnW w.heap.size X B1 d1 (zor fs ft) → Calls Try.prog 32 #[.slice A1 fz.length c1, .slice B1 (zor fs ft).length d1] X fun e w' => e = .returned (.bool true) ∧ X = w') := fun X A1 B1 c1 d1 h1 h2 => by
    rw [← hq]
    exact Equal_any A1 B1 fz (zor fs ft) c1 d1 X (OwnW.words h1) (OwnW.u64 h1) (OwnW.cap h1) (OwnW.words h2) (OwnW.u64 h2) (OwnW.cap h2)
  clear hq
  generalize hzz : zor fs ft = fu at *
  change canon (zipW (· ||| ·) fs ft) = fu at hzz
  rw [hzz] at HU2
  clear hzz f
  have hne0 : (e0 != e0) = false := by simp
  obtain ⟨i0, hi0, hz0, hz1, hz2⟩ := info_parts info_u8R
  have HBw : Hid (∀ X, Below w.heap.size w X → Vals X Dw lw.length fun j => .int .u8 (wd lw j : Nat)) := fun X hX => hw.below hX
  have HBv2 := Lib.hid fun X (hX : Below w.heap.size w X) => hv.below hX
  have HBv : Hid (∀ X, Below w.heap.size w X → Vals X Dv lv.length fun j => .int .u8 (wd lv j : Nat)) := fun X hX => hv.below hX
  have HBall : Hid (∀ X A1 c1 B1, X.ownsRow B1 5 1 (.slice A1 (lv.length + lw.length) c1) (lv.length + lw.length) (bvs (lv ++ lw)) → Bys X A1 (lv ++ lw)) := fun X A1 c1 B1 h => own_bys h hlall.symm
  have HRall : Hid (∀ X, Below w.heap.size w X → ∀ D d, Bys X D (lv ++ lw) → Calls Try.prog 20 #[.agg #[.int .i64 n.V, .int .i64 n.S, .slice A n.st.length a, .slice B n.fi.length b, .slice C n.es.length c], .slice D (lv.length + lw.length) d] X fun e w' =>
      ∃ A' c', e = .returned (.tuple #[.slice A' r.length c', .int .i64 (wrongN n (lv ++ lw))]) ∧ OwnW X.heap.size w' A' c' r ∧ Below X.heap.size X w') := fun X hX D d hD => by
    have := hRun X hX D d hD
    rwa [hlall] at this
  clear hRun
  by_cases hwr0 : wrongN n (lv ++ lw) = 0
  · obtain ⟨h0, hl64, hlt⟩ := wrong_zero hwr0
    have hwv : wrongN n lv = 0 := zero_wrong h0 (by omega) fun y hy => hlt y (List.mem_append_left _ hy)
    have hr := hr0 hwr0
    subst hr
    have HRv := Lib.hid fun X (hX : Below w.heap.size w X) => Run_good n A B C a b c X (hx.below hX) hlen Dv lv dv (hv.below hX) hv8 (by omega) hwv
    have hRz : runTo n (lv ++ lw) (lv.length + 0) = runW n lv := runTo_app n lv lw
    have hRe : runTo n (lv ++ lw) (lv.length + lw.length) = runW n (lv ++ lw) := runTo_end n lv lw
    have hRs : ∀ k, k < lw.length → stepW n.es (runTo n (lv ++ lw) (lv.length + k)) (wd lw k) = runTo n (lv ++ lw) (lv.length + (k + 1)) := fun k hk => (runTo_add n hk).symm
    have hwk : ∀ k, k < lw.length → wd lw k ∈ lw := fun k hk => by
      unfold wd
      rw [List.getD_eq_getElem?_getD, List.getElem?_eq_getElem hk]
      exact List.getElem_mem hk
    have HAk : Hid (∀ X, Below w.heap.size w X → ∀ k, k < lw.length → ∀ E d, OwnW w.heap.size X E d (runTo n (lv ++ lw) (lv.length + k)) → Calls Try.prog 19 #[.agg #[.int .i64 n.V, .int .i64 n.S, .slice A n.st.length a, .slice B n.fi.length b, .slice C n.es.length c], .slice E (runTo n (lv ++ lw) (lv.length + k)).length d, .int .u8 (wd lw k : Nat)] X fun e w' =>
        ∃ A' c', e = .returned (.tuple #[.slice A' (runTo n (lv ++ lw) (lv.length + (k + 1))).length c', .int .i64 0]) ∧ OwnW X.heap.size w' A' c' (runTo n (lv ++ lw) (lv.length + (k + 1))) ∧ Below X.heap.size X w') := fun X hX k hk E d hE => by
      have := After_good n A B C a b c X (hx.below hX) hlen E _ d (wd lw k) (hw8 _ (hwk k hk)) (OwnW.words hE) (OwnW.u64 hE) h0 (hlt _ (List.mem_append_right _ (hwk k hk)))
      rw [hRs k hk] at this
      exact this
    have HAc : Hid (∀ X, Below w.heap.size w X → ∀ D d, Bys X D (lv ++ lw) → Calls Try.prog 21 #[.agg #[.int .i64 n.V, .int .i64 n.S, .slice A n.st.length a, .slice B n.fi.length b, .slice C n.es.length c], .slice D (lv.length + lw.length) d] X fun e w' =>
        e = .returned (.tuple #[.bool (accW n (lv ++ lw)), .int .i64 0]) ∧ Below X.heap.size X w') := fun X hX D d hD => by
      have := Accepts_good n A B C a b c X (hx.below hX) hlen D (lv ++ lw) d hD h8 (by omega) hwr0
      rw [hlall] at this
      exact this
    have HCp := Lib.hid fun X (hX : Below w.heap.size w X) => Dg.CopyInts_any B n.fi b X (hx.fi.below hX) hlen.fi
    have HOf := Lib.hid fun X A1 c1 (h : Ints X A1 n.fi) => Of_own A1 n.fi c1 X h (by have := hlen.fi; unfold maxLen; omega)
    have HIn : Hid (∀ X A1 c1 B1 d1, OwnW w.heap.size X A1 c1 (runW n (lv ++ lw)) → OwnW w.heap.size X B1 d1 (ofL n.fi) → Calls Try.prog 33 #[.slice A1 (runW n (lv ++ lw)).length c1, .slice B1 (ofL n.fi).length d1] X fun e w' => e = .returned (.bool (accW n (lv ++ lw))) ∧ X = w') := fun X A1 c1 B1 d1 h1 h2 =>
      Intersects_any A1 B1 _ _ c1 d1 X (OwnW.words h1) (OwnW.u64 h1) (OwnW.cap h1) (OwnW.words h2) (OwnW.u64 h2) (OwnW.cap h2)
    have HEq : Hid (∀ X A1 c1 B1 d1, OwnW w.heap.size X A1 c1 (runW n (lv ++ lw)) → OwnW w.heap.size X B1 d1 (runW n (lv ++ lw)) → Calls Try.prog 32 #[.slice A1 (runW n (lv ++ lw)).length c1, .slice B1 (runW n (lv ++ lw)).length d1] X fun e w' => e = .returned (.bool true) ∧ X = w') := fun X A1 c1 B1 d1 h1 h2 => by
      have := Equal_any A1 B1 _ _ c1 d1 X (OwnW.words h1) (OwnW.u64 h1) (OwnW.cap h1) (OwnW.words h2) (OwnW.u64 h2) (OwnW.cap h2)
      rw [eqB_self (OwnW.u64 h1)] at this
      exact this
    have hEE : ∀ b : Bool, (b == b) = true := fun b => by cases b <;> rfl
    have HX1 := Lib.hid (bvs_range lv)
    have HX2 : Hid (bvs lv ++ bvs lw = bvs (lv ++ lw)) := by unfold bvs; exact (List.map_append ..).symm
    have HX3 := Lib.hid (bvs_range lw)
    rw [hwr0] at HRall
    obtain ⟨R, hR⟩ : ∃ R : Nat → List Nat, R = fun k => runTo n (lv ++ lw) (lv.length + k) := ⟨_, rfl⟩
    have hRk : ∀ k, runTo n (lv ++ lw) (lv.length + k) = R k := fun k => by rw [hR]
    simp only [hRk] at HAk hRz hRe
    have hRz := Lib.hid hRz
    have hRe := Lib.hid hRe
    clear hr0 hr1 hwr0 h8 hx hs ht hv hv8 hw hw8 hlen hlall hRs hwk hR hRk hlt hl64 hwv h0
    generalize bvs (lv ++ lw) = BA at *
    generalize hva : lv ++ lw = lva at *
    clear hva
    generalize runW n lva = r at *
    generalize runW n lv = rv at *
    have hRz0 := hRz.out
    subst hRz0
    generalize accW n lva = G at *
    have HBvl := HBv
    generalize lv.length = nv at *
    generalize lw.length = nw at *
    generalize wd lw = W at *
    have hGG := hEE G
    clear hEE
    go_enter Try.func6, Try.ntmps6
    go_wp2_with (first
      | (go_at_call 8; ((with_reducible refine (HLo.out _ _ (by simp)).mono ?_); rintro e w2 ⟨rfl, hb2⟩); replace hb0 := stepB hb0 hb2; replace hB0 := hB0.below hb2; clear HLo)
      | (go_at_call 9; ((with_reducible refine (HL2.out _ _ (by simp)).mono ?_); rintro e w2 ⟨rfl, hb2⟩); replace hb0 := stepB hb0 hb2; replace hB0 := hB0.below hb2; clear HL2)
      | (go_at_call 10; ((with_reducible refine (HAw.out _).mono ?_); rintro e w3 ⟨rfl, hb3⟩); replace hb0 := stepB hb0 hb3; replace hB0 := hB0.below hb3; clear HAw; obtain ⟨z0, z1, z2, z3, z4⟩ := hB0.cells)
      | (go_at_call 19; ((with_reducible refine (HAs.out _ hb0).mono ?_); rintro e w4 ⟨A4, c4, rfl, ho4, hb4⟩); clear z0 z1 z2 z3 z4 HAs; replace ho4 := OwnW.low ho4 hb0.size; replace hb0 := stepB hb0 hb4; replace hB0 := hB0.below hb4; clear hb4; obtain ⟨z0, z1, z2, z3, z4⟩ := hB0.cells)
      | (go_at_call 19; ((with_reducible refine (HAt.out _ hb0).mono ?_); rintro e w5 ⟨A5, c5, rfl, ho5, hb5⟩); clear z0 z1 z2 z3 z4 HAt; replace ho5 := OwnW.low ho5 hb0.size; replace ho4 := OwnW.bel ho4 hb5; replace hb0 := stepB hb0 hb5; replace hB0 := hB0.below hb5; clear hb5; obtain ⟨z0, z1, z2, z3, z4⟩ := hB0.cells))
    have KE : Below w5.heap.size w5 w5.drew := drew_below w5
    have KD : Below w.heap.size w w5.drew := stepB hb0 KE
    have hBd := hB0.below KE
    have hS5 : w5.drew.cell? ⟨w.heap.size, 0, none⟩ = some (.int .i64 n.V) ∧ w5.drew.cell? ⟨w.heap.size, 1, none⟩ = some (.int .i64 n.S) ∧ w5.drew.cell? ⟨w.heap.size, 2, none⟩ = some (.slice A n.st.length a) ∧ w5.drew.cell? ⟨w.heap.size, 3, none⟩ = some (.slice B n.fi.length b) ∧ w5.drew.cell? ⟨w.heap.size, 4, none⟩ = some (.slice C n.es.length c) ∧ Below w5.heap.size w5 w5.drew := ⟨hBd.c0, hBd.c1, hBd.c2, hBd.c3, hBd.c4, KE⟩
    go_region_held3 (fun w' => w'.cell? ⟨w.heap.size, 0, none⟩ = some (.int .i64 n.V) ∧ w'.cell? ⟨w.heap.size, 1, none⟩ = some (.int .i64 n.S) ∧ w'.cell? ⟨w.heap.size, 2, none⟩ = some (.slice A n.st.length a) ∧ w'.cell? ⟨w.heap.size, 3, none⟩ = some (.slice B n.fi.length b) ∧ w'.cell? ⟨w.heap.size, 4, none⟩ = some (.slice C n.es.length c) ∧ Below w5.heap.size w5 w')
      (first | assumption)
      (first
        | (go_at_call 31; ((with_reducible refine (HUn.out w5.drew KD).mono ?_); rintro e w6 ⟨A6, c6, rfl, ho6, hb6⟩); have K6 := stepB KE hb6; have B6 := hB0.below K6; have K6b := stepB KD hb6; have ho6b := OwnW.low ho6 KD.size; have hS6 : w6.cell? ⟨w.heap.size, 0, none⟩ = some (.int .i64 n.V) ∧ w6.cell? ⟨w.heap.size, 1, none⟩ = some (.int .i64 n.S) ∧ w6.cell? ⟨w.heap.size, 2, none⟩ = some (.slice A n.st.length a) ∧ w6.cell? ⟨w.heap.size, 3, none⟩ = some (.slice B n.fi.length b) ∧ w6.cell? ⟨w.heap.size, 4, none⟩ = some (.slice C n.es.length c) ∧ Below w5.heap.size w5 w6 := ⟨B6.c0, B6.c1, B6.c2, B6.c3, B6.c4, K6⟩)
        | (go_at_call 19; ((with_reducible refine (HAu.out w6 K6b A6 c6 ho6b).mono ?_); rintro e w7 ⟨A7, c7, rfl, ho7, hb7⟩); have K7 := stepB K6 hb7; have B7 := hB0.below K7; have hS7 : w7.cell? ⟨w.heap.size, 0, none⟩ = some (.int .i64 n.V) ∧ w7.cell? ⟨w.heap.size, 1, none⟩ = some (.int .i64 n.S) ∧ w7.cell? ⟨w.heap.size, 2, none⟩ = some (.slice A n.st.length a) ∧ w7.cell? ⟨w.heap.size, 3, none⟩ = some (.slice B n.fi.length b) ∧ w7.cell? ⟨w.heap.size, 4, none⟩ = some (.slice C n.es.length c) ∧ Below w5.heap.size w5 w7 := ⟨B7.c0, B7.c1, B7.c2, B7.c3, B7.c4, K7⟩))
    replace ho7 := OwnW.low ho7 K6b.size
    have K := hS7.2.2.2.2.2
    replace hb0 := stepB hb0 K
    replace hB0 := hB0.below K
    replace ho4 := OwnW.bel ho4 K
    replace ho5 := OwnW.bel ho5 K
    clear hS5 hS6 hS7 KE KD hBd K hb6 hb7 ho6 z0 z1 z2 z3 z4 HUn HAu K6 K6b B6 ho6b K7 B7
    obtain ⟨z0, z1, z2, z3, z4⟩ := hB0.cells
    go_wp2_with (first
      | (go_at_call 31; ((with_reducible refine (HU2.out _ _ _ _ _ ho4 ho5).mono ?_); rintro e w8 ⟨A8, c8, rfl, ho8, hb8⟩); replace ho8 := OwnW.low ho8 hb0.size; replace ho7 := OwnW.bel ho7 hb8; replace hb0 := stepB hb0 hb8; replace hB0 := hB0.below hb8; clear HU2 hb8 z0 z1 z2 z3 z4 ho4 ho5)
      | (go_at_call 32; ((with_reducible refine (HQ1.out _ _ _ _ _ ho7 ho8).mono ?_); rintro e w9 ⟨rfl, rfl⟩))
      | (at_builtin; refine Ap.wpList_append_all rfl _ _ _ rfl w8.heap.size 5 i0 (.int .u8 0) 1 Try.underlying28 hi0 hz0 hz1 hz2 rfl _ _ _ rfl (World.ownsRow_made w8 #[] 0 (Nat.le_refl _) (Nat.zero_le _) (by simp)) Dv nv dv (fun j => .int .u8 (wd lv j : Nat)) rfl (HBv.out (w8.alloc (.cells #[] 5)) (bal hb0 _)) (fun _ _ => rfl) (by unfold maxLen; omega) (by omega) (by simp) ?_; intro A10 c10 w10 ho10 hc10 hb10; rw [Nat.zero_add] at ho10 ⊢; rw [List.nil_append, HX1.out] at ho10; replace hb10 := (bal (Below.refl w8.heap.size w8) (.cells #[] 5)).trans hb10; clear HBv HQ1 ho7 ho8)
      | (at_builtin; refine Ap.wpList_append_all rfl _ _ _ rfl w8.heap.size 5 i0 (.int .u8 0) 1 Try.underlying28 hi0 hz0 hz1 hz2 rfl _ _ _ rfl ho10 Dw nw dw (fun j => .int .u8 (W j : Nat)) rfl (HBw.out w10 (stepB hb0 hb10)) (fun _ _ => rfl) (by unfold maxLen; omega) (by omega) hb10.size ?_; intro A11 c11 w11 ho11 hc11 hb11; rw [HX3.out, HX2.out] at ho11; replace hb11 := hb10.trans hb11; replace hb0 := stepB hb0 hb11; replace hB0 := hB0.below hb11; replace ho11 := HBall.out _ _ _ _ ho11; obtain ⟨z0, z1, z2, z3, z4⟩ := hB0.cells; clear hb10 hb11 ho10)
      | (go_at_call 20; ((with_reducible refine (HRall.out _ hb0 _ _ ho11).mono ?_); rintro e w12 ⟨A12, c12, rfl, ho12, hb12⟩); clear z0 z1 z2 z3 z4 HRall; replace ho12 := OwnW.low ho12 hb0.size; replace ho11 := ho11.below hb12; replace hb0 := stepB hb0 hb12; replace hB0 := hB0.below hb12; clear hb12; obtain ⟨z0, z1, z2, z3, z4⟩ := hB0.cells)
      | (go_at_call 20; ((with_reducible refine (HRv.out _ hb0).mono ?_); rintro e w13 ⟨A13, c13, rfl, ho13, hb13⟩); clear z0 z1 z2 z3 z4 HRv; replace ho13 := OwnW.low ho13 hb0.size; replace ho12 := OwnW.bel ho12 hb13; replace ho11 := ho11.below hb13; replace hb0 := stepB hb0 hb13; replace hB0 := hB0.below hb13; clear hb13))
    go_loopw [22, 24] (fun qv iv wr => ∃ (k : Nat) (A' : Option Addr) (c' : Nat), k ≤ nw ∧ qv = .slice A' (R k).length c' ∧ iv = .int .i64 k ∧ OwnW w.heap.size wr A' c' (R k) ∧ OwnW w.heap.size wr A12 c12 r ∧ Bys wr A11 lva ∧ Boxed5 wr w.heap.size (.int .i64 n.V) (.int .i64 n.S) (.slice A n.st.length a) (.slice B n.fi.length b) (.slice C n.es.length c) ∧ Below w.heap.size w wr) (fun _ i _ => nw - (intOf i).toNat)
    case atStart => exact ⟨0, A13, c13, Nat.zero_le _, rfl, rfl, ho13, ho12, ho11, hB0, hb0⟩
    case round =>
      clear ho13 ho12 ho11 hB0 hb0
      obtain ⟨k, A14, c14, hk, rfl, rfl, ho14, ho12, ho11, hB0, hb0⟩ := hrel
      by_cases hk2 : k < nw
      · have hklt : decide ((k : Int) < (nw : Int)) = true := decide_eq_true (by omega)
        obtain ⟨ad, rfl, hadl, hcW⟩ := HBw.out wr hb0 k hk2
        go_wp2
        have KE : Below wr.heap.size wr wr.drew := drew_below wr
        have KD : Below w.heap.size w wr.drew := stepB hb0 KE
        have hBd := hB0.below KE
        have hcD : wr.drew.cell? (ad.add k) = some (.int .u8 (W k : Nat)) := (Below.cell KE (by rw [addr_block]; exact hadl)).trans hcW
        have hSd : wr.drew.cell? ⟨w.heap.size, 0, none⟩ = some (.int .i64 n.V) ∧ wr.drew.cell? ⟨w.heap.size, 1, none⟩ = some (.int .i64 n.S) ∧ wr.drew.cell? ⟨w.heap.size, 2, none⟩ = some (.slice A n.st.length a) ∧ wr.drew.cell? ⟨w.heap.size, 3, none⟩ = some (.slice B n.fi.length b) ∧ wr.drew.cell? ⟨w.heap.size, 4, none⟩ = some (.slice C n.es.length c) ∧ wr.drew.cell? (ad.add k) = some (.int .u8 (W k : Nat)) ∧ Below wr.heap.size wr wr.drew := ⟨hBd.c0, hBd.c1, hBd.c2, hBd.c3, hBd.c4, hcD, KE⟩
        go_region_held3 (fun w' => w'.cell? ⟨w.heap.size, 0, none⟩ = some (.int .i64 n.V) ∧ w'.cell? ⟨w.heap.size, 1, none⟩ = some (.int .i64 n.S) ∧ w'.cell? ⟨w.heap.size, 2, none⟩ = some (.slice A n.st.length a) ∧ w'.cell? ⟨w.heap.size, 3, none⟩ = some (.slice B n.fi.length b) ∧ w'.cell? ⟨w.heap.size, 4, none⟩ = some (.slice C n.es.length c) ∧ w'.cell? (ad.add k) = some (.int .u8 (W k : Nat)) ∧ Below wr.heap.size wr w')
          (first | assumption)
          ((go_at_call 19; ((with_reducible refine (HAk.out wr.drew KD k hk2 A14 c14 (OwnW.bel ho14 KE)).mono ?_); rintro e w15 ⟨A15, c15, rfl, ho15, hb15⟩); have K15 := stepB KE hb15; have B15 := hB0.below K15; have hS15 : w15.cell? ⟨w.heap.size, 0, none⟩ = some (.int .i64 n.V) ∧ w15.cell? ⟨w.heap.size, 1, none⟩ = some (.int .i64 n.S) ∧ w15.cell? ⟨w.heap.size, 2, none⟩ = some (.slice A n.st.length a) ∧ w15.cell? ⟨w.heap.size, 3, none⟩ = some (.slice B n.fi.length b) ∧ w15.cell? ⟨w.heap.size, 4, none⟩ = some (.slice C n.es.length c) ∧ w15.cell? (ad.add k) = some (.int .u8 (W k : Nat)) ∧ Below wr.heap.size wr w15 := ⟨B15.c0, B15.c1, B15.c2, B15.c3, B15.c4, (Below.cell K15 (by rw [addr_block]; exact hadl)).trans hcW, K15⟩))
        have K := hS15.2.2.2.2.2.2
        replace ho15 := OwnW.low ho15 KD.size
        replace hb0 := stepB hb0 K
        replace hB0 := hB0.below K
        replace ho12 := OwnW.bel ho12 K
        replace ho11 := ho11.below K
        clear hSd hS15 KE KD hBd hcD K15 B15 hb15 K HBw
        go_wp2
        go_roundw
        case rel => exact ⟨k + 1, A15, c15, by omega, rfl, by go_num, ho15, ho12, ho11, hB0, hb0⟩
        case measure => simp [intOf]; omega
      · obtain rfl : k = nw := by omega
        rw [hRe.out] at ho14 ⊢
        have hklt : decide ((k : Int) < (k : Int)) = false := decide_eq_false (by omega)
        obtain ⟨z0, z1, z2, z3, z4⟩ := hB0.cells
        clear HBw HAk hRz hRe
        go_wp2_with (first
          | (go_at_call 21; ((with_reducible refine (HAc.out _ hb0 _ _ ho11).mono ?_); rintro e w16 ⟨rfl, hb16⟩); replace ho12 := OwnW.bel ho12 hb16; replace ho14 := OwnW.bel ho14 hb16; replace hb0 := stepB hb0 hb16; replace hB0 := hB0.below hb16; clear hb16 z0 z1 z2 z3 z4 ho11; obtain ⟨z0, z1, z2, z3, z4⟩ := hB0.cells)
          | (go_at_call 32; ((with_reducible refine (HEq.out _ _ _ _ _ ho14 ho12).mono ?_); rintro e w17 ⟨rfl, rfl⟩))
          | (go_at_call 35; ((with_reducible refine (HCp.out _ hb0).mono ?_); rintro e w18 ⟨A18, c18, rfl, ho18, hc18, hb18⟩); replace ho12 := OwnW.bel ho12 hb18; replace hb0 := stepB hb0 hb18)
          | (go_at_call 34; ((with_reducible refine (HOf.out _ _ _ (Dg.ints_row ho18 rfl)).mono ?_); rintro e w19 ⟨A19, c19, rfl, ho19, hb19⟩); replace ho12 := OwnW.bel ho12 hb19; replace ho19 := OwnW.low ho19 hb0.size; replace hb0 := stepB hb0 hb19)
          | (go_at_call 33; ((with_reducible refine (HIn.out _ _ _ _ _ ho12 ho19).mono ?_); rintro e w20 ⟨rfl, rfl⟩)))
        go_ret
        exact ⟨rfl, hb0⟩
  · obtain ⟨rv, _, _, hRv⟩ := Run_uni n A B C a b c w hx hlen lv hv8 (by omega)
    have HRv := Lib.hid fun X hX D d hD => hRv X hX D d hD
    clear hRv
    have hr := hr1 hwr0
    subst hr
    have hne : (wrongN n (lv ++ lw) != 0) = true := by rw [bne_iff_ne]; exact hwr0
    have HX1 := Lib.hid (bvs_range lv)
    have HX2 : Hid (bvs lv ++ bvs lw = bvs (lv ++ lw)) := by unfold bvs; exact (List.map_append ..).symm
    have HX3 := Lib.hid (bvs_range lw)
    clear hr0 hr1 hwr0 h8 hx hs ht hv hv8 hw hw8 hlen hlall
    generalize wrongN n (lv ++ lw) = E at *
    generalize wrongN n lv = Ev at *
    generalize bvs (lv ++ lw) = BA at *
    generalize lv.length = nv at *
    generalize lw.length = nw at *
    go_enter Try.func6, Try.ntmps6
    go_wp2_with (first
      | (go_at_call 8; ((with_reducible refine (HLo.out _ _ (by simp)).mono ?_); rintro e w2 ⟨rfl, hb2⟩); replace hb0 := stepB hb0 hb2; replace hB0 := hB0.below hb2; clear HLo)
      | (go_at_call 9; ((with_reducible refine (HL2.out _ _ (by simp)).mono ?_); rintro e w2 ⟨rfl, hb2⟩); replace hb0 := stepB hb0 hb2; replace hB0 := hB0.below hb2; clear HL2)
      | (go_at_call 10; ((with_reducible refine (HAw.out _).mono ?_); rintro e w3 ⟨rfl, hb3⟩); replace hb0 := stepB hb0 hb3; replace hB0 := hB0.below hb3; clear HAw; obtain ⟨z0, z1, z2, z3, z4⟩ := hB0.cells)
      | (go_at_call 19; ((with_reducible refine (HAs.out _ hb0).mono ?_); rintro e w4 ⟨A4, c4, rfl, ho4, hb4⟩); clear z0 z1 z2 z3 z4 HAs; replace ho4 := OwnW.low ho4 hb0.size; replace hb0 := stepB hb0 hb4; replace hB0 := hB0.below hb4; clear hb4; obtain ⟨z0, z1, z2, z3, z4⟩ := hB0.cells)
      | (go_at_call 19; ((with_reducible refine (HAt.out _ hb0).mono ?_); rintro e w5 ⟨A5, c5, rfl, ho5, hb5⟩); clear z0 z1 z2 z3 z4 HAt; replace ho5 := OwnW.low ho5 hb0.size; replace ho4 := OwnW.bel ho4 hb5; replace hb0 := stepB hb0 hb5; replace hB0 := hB0.below hb5; clear hb5; obtain ⟨z0, z1, z2, z3, z4⟩ := hB0.cells))
    have KE : Below w5.heap.size w5 w5.drew := drew_below w5
    have KD : Below w.heap.size w w5.drew := stepB hb0 KE
    have hBd := hB0.below KE
    have hS5 : w5.drew.cell? ⟨w.heap.size, 0, none⟩ = some (.int .i64 n.V) ∧ w5.drew.cell? ⟨w.heap.size, 1, none⟩ = some (.int .i64 n.S) ∧ w5.drew.cell? ⟨w.heap.size, 2, none⟩ = some (.slice A n.st.length a) ∧ w5.drew.cell? ⟨w.heap.size, 3, none⟩ = some (.slice B n.fi.length b) ∧ w5.drew.cell? ⟨w.heap.size, 4, none⟩ = some (.slice C n.es.length c) ∧ Below w5.heap.size w5 w5.drew := ⟨hBd.c0, hBd.c1, hBd.c2, hBd.c3, hBd.c4, KE⟩
    go_region_held3 (fun w' => w'.cell? ⟨w.heap.size, 0, none⟩ = some (.int .i64 n.V) ∧ w'.cell? ⟨w.heap.size, 1, none⟩ = some (.int .i64 n.S) ∧ w'.cell? ⟨w.heap.size, 2, none⟩ = some (.slice A n.st.length a) ∧ w'.cell? ⟨w.heap.size, 3, none⟩ = some (.slice B n.fi.length b) ∧ w'.cell? ⟨w.heap.size, 4, none⟩ = some (.slice C n.es.length c) ∧ Below w5.heap.size w5 w')
      (first | assumption)
      (first
        | (go_at_call 31; ((with_reducible refine (HUn.out w5.drew KD).mono ?_); rintro e w6 ⟨A6, c6, rfl, ho6, hb6⟩); have K6 := stepB KE hb6; have B6 := hB0.below K6; have K6b := stepB KD hb6; have ho6b := OwnW.low ho6 KD.size; have hS6 : w6.cell? ⟨w.heap.size, 0, none⟩ = some (.int .i64 n.V) ∧ w6.cell? ⟨w.heap.size, 1, none⟩ = some (.int .i64 n.S) ∧ w6.cell? ⟨w.heap.size, 2, none⟩ = some (.slice A n.st.length a) ∧ w6.cell? ⟨w.heap.size, 3, none⟩ = some (.slice B n.fi.length b) ∧ w6.cell? ⟨w.heap.size, 4, none⟩ = some (.slice C n.es.length c) ∧ Below w5.heap.size w5 w6 := ⟨B6.c0, B6.c1, B6.c2, B6.c3, B6.c4, K6⟩)
        | (go_at_call 19; ((with_reducible refine (HAu.out w6 K6b A6 c6 ho6b).mono ?_); rintro e w7 ⟨A7, c7, rfl, ho7, hb7⟩); have K7 := stepB K6 hb7; have B7 := hB0.below K7; have hS7 : w7.cell? ⟨w.heap.size, 0, none⟩ = some (.int .i64 n.V) ∧ w7.cell? ⟨w.heap.size, 1, none⟩ = some (.int .i64 n.S) ∧ w7.cell? ⟨w.heap.size, 2, none⟩ = some (.slice A n.st.length a) ∧ w7.cell? ⟨w.heap.size, 3, none⟩ = some (.slice B n.fi.length b) ∧ w7.cell? ⟨w.heap.size, 4, none⟩ = some (.slice C n.es.length c) ∧ Below w5.heap.size w5 w7 := ⟨B7.c0, B7.c1, B7.c2, B7.c3, B7.c4, K7⟩))
    replace ho7 := OwnW.low ho7 K6b.size
    have K := hS7.2.2.2.2.2
    replace hb0 := stepB hb0 K
    replace hB0 := hB0.below K
    replace ho4 := OwnW.bel ho4 K
    replace ho5 := OwnW.bel ho5 K
    clear hS5 hS6 hS7 KE KD hBd K hb6 hb7 ho6 z0 z1 z2 z3 z4 HUn HAu K6 K6b B6 ho6b K7 B7
    obtain ⟨z0, z1, z2, z3, z4⟩ := hB0.cells
    go_wp2_with (first
      | (go_at_call 31; ((with_reducible refine (HU2.out _ _ _ _ _ ho4 ho5).mono ?_); rintro e w8 ⟨A8, c8, rfl, ho8, hb8⟩); replace ho8 := OwnW.low ho8 hb0.size; replace ho7 := OwnW.bel ho7 hb8; replace hb0 := stepB hb0 hb8; replace hB0 := hB0.below hb8; clear HU2 hb8 z0 z1 z2 z3 z4 ho4 ho5)
      | (go_at_call 32; ((with_reducible refine (HQ1.out _ _ _ _ _ ho7 ho8).mono ?_); rintro e w9 ⟨rfl, rfl⟩))
      | (at_builtin; refine Ap.wpList_append_all rfl _ _ _ rfl w8.heap.size 5 i0 (.int .u8 0) 1 Try.underlying28 hi0 hz0 hz1 hz2 rfl _ _ _ rfl (World.ownsRow_made w8 #[] 0 (Nat.le_refl _) (Nat.zero_le _) (by simp)) Dv nv dv (fun j => .int .u8 (wd lv j : Nat)) rfl (HBv.out (w8.alloc (.cells #[] 5)) (bal hb0 _)) (fun _ _ => rfl) (by unfold maxLen; omega) (by omega) (by simp) ?_; intro A10 c10 w10 ho10 hc10 hb10; rw [Nat.zero_add] at ho10 ⊢; rw [List.nil_append, HX1.out] at ho10; replace hb10 := (bal (Below.refl w8.heap.size w8) (.cells #[] 5)).trans hb10; clear HBv HQ1 ho7 ho8)
      | (at_builtin; refine Ap.wpList_append_all rfl _ _ _ rfl w8.heap.size 5 i0 (.int .u8 0) 1 Try.underlying28 hi0 hz0 hz1 hz2 rfl _ _ _ rfl ho10 Dw nw dw (fun j => .int .u8 (wd lw j : Nat)) rfl (HBw.out w10 (stepB hb0 hb10)) (fun _ _ => rfl) (by unfold maxLen; omega) (by omega) hb10.size ?_; intro A11 c11 w11 ho11 hc11 hb11; rw [HX3.out, HX2.out] at ho11; replace hb11 := hb10.trans hb11; replace hb0 := stepB hb0 hb11; replace hB0 := hB0.below hb11; replace ho11 := HBall.out _ _ _ _ ho11; obtain ⟨z0, z1, z2, z3, z4⟩ := hB0.cells; clear hb10 hb11 ho10)
      | (go_at_call 20; ((with_reducible refine (HRall.out _ hb0 _ _ ho11).mono ?_); rintro e w12 ⟨A12, c12, rfl, ho12, hb12⟩); clear z0 z1 z2 z3 z4 HRall; replace ho12 := OwnW.low ho12 hb0.size; replace ho11 := ho11.below hb12; replace hb0 := stepB hb0 hb12; replace hB0 := hB0.below hb12; clear hb12; obtain ⟨z0, z1, z2, z3, z4⟩ := hB0.cells)
      | (go_at_call 20; ((with_reducible refine (HRv.out _ hb0 _ _ (HBv2.out _ hb0)).mono ?_); rintro e w13 ⟨A13, c13, rfl, ho13, hb13⟩); replace ho13 := OwnW.low ho13 hb0.size; replace hb0 := stepB hb0 hb13))
    go_ret
    exact ⟨rfl, hb0⟩
end
end Go.Proofs.Ytbmamkackigdaaa.Nf
