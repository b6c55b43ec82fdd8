/- Union that fails; the law NfaUnions. -/
import Derived.Test.YtdjhfndoheoljaaGE
import Derived.Test.YtdjhfndoheoljaaFR
namespace Go.Proofs.Ytdjhfndoheoljaa.Nf
open Go Go.RowKit Go.Proofs.Ytdjhfndoheoljaa Go.Proofs.Ytdjhfndoheoljaa.Cb
set_option linter.unusedVariables false
set_option linter.unusedSimpArgs false
set_option maxRecDepth 100000
set_option maxHeartbeats 4000000 in
theorem Union_bad (n m : Na) (A B C D E F : Option Addr) (a b c d e f : Nat) (w : World) (hx : NaAt w n A B C) (hl : NaLen n) (hy : NaAt w m D E F) (hk : NaLen m) (h0 : uniE n m ≠ 0) :
    Calls Try.prog 6 #[.agg #[.int .i64 n.V, .int .i64 n.S, .slice A n.st.length a, .slice B n.fi.length b, .slice C n.es.length c], .agg #[.int .i64 m.V, .int .i64 m.S, .slice D m.st.length d, .slice E m.fi.length e, .slice F m.es.length f]] w fun r w' => r = .returned (.tuple #[.agg #[.int .i64 0, .int .i64 0, .slice none 0 0, .slice none 0 0, .slice none 0 0], .int .i64 (uniE n m)]) ∧ Below w.heap.size w w' := by
  have hB0 := bal (bal (bal (Below.refl w.heap.size w) (.cells #[.int .i64 n.V, .int .i64 n.S, .slice A n.st.length a, .slice B n.fi.length b, .slice C n.es.length c] 25)) (.cells #[.int .i64 m.V, .int .i64 m.S, .slice D m.st.length d, .slice E m.fi.length e, .slice F m.es.length f] 25)) (.cells #[.int .i64 0, .int .i64 0, .slice none 0 0, .slice none 0 0, .slice none 0 0] 25)
  have hR0 := Blk.new ((w.alloc (.cells #[.int .i64 n.V, .int .i64 n.S, .slice A n.st.length a, .slice B n.fi.length b, .slice C n.es.length c] 25)).alloc (.cells #[.int .i64 m.V, .int .i64 m.S, .slice D m.st.length d, .slice E m.fi.length e, .slice F m.es.length f] 25)) (.int .i64 0) (.int .i64 0) (.slice none 0 0) (.slice none 0 0) (.slice none 0 0)
  have hN0 := ((Blk.new w (.int .i64 n.V) (.int .i64 n.S) (.slice A n.st.length a) (.slice B n.fi.length b) (.slice C n.es.length c)).below (bal (Below.refl _ _) (.cells #[.int .i64 m.V, .int .i64 m.S, .slice D m.st.length d, .slice E m.fi.length e, .slice F m.es.length f] 25))).below (bal (Below.refl _ _) (.cells #[.int .i64 0, .int .i64 0, .slice none 0 0, .slice none 0 0, .slice none 0 0] 25))
  have hM0 := (Blk.new (w.alloc (.cells #[.int .i64 n.V, .int .i64 n.S, .slice A n.st.length a, .slice B n.fi.length b, .slice C n.es.length c] 25)) (.int .i64 m.V) (.int .i64 m.S) (.slice D m.st.length d) (.slice E m.fi.length e) (.slice F m.es.length f)).below (bal (Below.refl _ _) (.cells #[.int .i64 0, .int .i64 0, .slice none 0 0, .slice none 0 0, .slice none 0 0] 25))
  simp only [World.size_alloc] at hR0 hM0
  have HC := Lib.hid fun X (hX : Below w.heap.size w X) => checkUnion_any n m A B C D E F a b c d e f X (hx.below hX) hl (hy.below hX) hk
  have hne : (uniE n m != 0) = true := by rw [bne_iff_ne]; exact h0
  clear hx hl hy hk h0
  generalize uniE n m = E0 at *
  go_enter Try.func6, Try.ntmps6
  obtain ⟨z0, z1, z2, z3, z4⟩ := hN0.cells
  obtain ⟨t0, t1, t2, t3, t4⟩ := hM0.cells
  go_wp2_with (first
    | (go_at_call 14; ((with_reducible refine (HC.out _ hB0).mono ?_); rintro r w2 ⟨rfl, hb2⟩); clear z0 z1 z2 z3 z4 t0 t1 t2 t3 t4; replace hR0 := hR0.below hb2; replace hB0 := stepB hB0 hb2; obtain ⟨⟨p0, f0⟩, ⟨p1, f1⟩, ⟨p2, f2⟩, ⟨p3, f3⟩, ⟨p4, f4⟩, hR5, hB5, _⟩ := store5 hR0 (.int .i64 0) (.int .i64 0) (.slice none 0 0) (.slice none 0 0) (.slice none 0 0); have HF := Lib.hid (And.intro hR5.cells (hB5 w.heap.size (by omega))); clear hR5 hB5))
  obtain ⟨⟨y0, y1, y2, y3, y4⟩, hb5⟩ := HF.out
  unfold put5 at y0 y1 y2 y3 y4 hb5
  refine bodyPost_ret (v := .tuple #[.agg #[.int .i64 0, .int .i64 0, .slice none 0 0, .slice none 0 0, .slice none 0 0], .int .i64 E0]) (by simp [results, Try.results6, go_sem, y0, y1, y2, y3, y4]) rfl ?_
  exact ⟨rfl, hB0.trans hb5⟩
/-- The ways of Long at one automaton. -/
theorem long_cases (n : Na) : (longB n = true ∧ decide ((100 : Int) < (n.st.length : Int)) = true) ∨ (longB n = true ∧ decide ((100 : Int) < (n.st.length : Int)) = false ∧ decide ((100 : Int) < (n.fi.length : Int)) = true) ∨
    (longB n = true ∧ decide ((100 : Int) < (n.st.length : Int)) = false ∧ decide ((100 : Int) < (n.fi.length : Int)) = false ∧ decide ((520 : Int) < (n.es.length : Int)) = true) ∨
    (longB n = false ∧ decide ((100 : Int) < (n.st.length : Int)) = false ∧ decide ((100 : Int) < (n.fi.length : Int)) = false ∧ decide ((520 : Int) < (n.es.length : Int)) = false) := by
  unfold longB
  by_cases h1 : 100 < n.st.length
  · exact .inl ⟨by rw [decide_eq_true h1]; rfl, decide_eq_true (by omega)⟩
  by_cases h2 : 100 < n.fi.length
  · exact .inr (.inl ⟨by rw [decide_eq_true h2]; simp, decide_eq_false (by omega), decide_eq_true (by omega)⟩)
  by_cases h3 : 520 < n.es.length
  · exact .inr (.inr (.inl ⟨by rw [decide_eq_true h3]; simp, decide_eq_false (by omega), decide_eq_false (by omega), decide_eq_true (by omega)⟩))
  · exact .inr (.inr (.inr ⟨by rw [decide_eq_false h1, decide_eq_false h2, decide_eq_false h3]; rfl, decide_eq_false (by omega), decide_eq_false (by omega), decide_eq_false (by omega)⟩))
set_option maxHeartbeats 4000000 in
theorem LongN2_any (n m : Na) (A B C D E F : Option Addr) (a b c d e f : Nat) (w : World) (hM : NaMax n) (hN : NaMax m) (g : Nat) (hg : g = w.heap.size) :
    Calls Try.prog 4 #[.slice (some ⟨g, 0, none⟩) 2 2] (w.alloc (.cells #[.int .i64 n.V, .int .i64 n.S, .slice A n.st.length a, .slice B n.fi.length b, .slice C n.es.length c, .int .i64 m.V, .int .i64 m.S, .slice D m.st.length d, .slice E m.fi.length e, .slice F m.es.length f] 25)) fun e w' => e = .returned (.bool (longB n || longB m)) ∧ Below w.heap.size w w' := by
  subst hg
  have hb0 := bal (Below.refl w.heap.size w) (.cells #[.int .i64 n.V, .int .i64 n.S, .slice A n.st.length a, .slice B n.fi.length b, .slice C n.es.length c, .int .i64 m.V, .int .i64 m.S, .slice D m.st.length d, .slice E m.fi.length e, .slice F m.es.length f] 25)
  have hT := Ten.new w 25 (.int .i64 n.V) (.int .i64 n.S) (.slice A n.st.length a) (.slice B n.fi.length b) (.slice C n.es.length c) (.int .i64 m.V) (.int .i64 m.S) (.slice D m.st.length d) (.slice E m.fi.length e) (.slice F m.es.length f)
  obtain ⟨m1, m2, m3⟩ := hM
  obtain ⟨k1, k2, k3⟩ := hN
  unfold maxLen at m1 m2 m3 k1 k2 k3
  have hn := long_cases n
  have hm := long_cases m
  generalize longB n = L at *
  generalize longB m = R at *
  obtain ⟨V, S, st, fi, es⟩ := n
  obtain ⟨V', S', st', fi', es'⟩ := m
  dsimp only at *
  generalize st.length = ns at *
  generalize fi.length = nf at *
  generalize es.length = ne at *
  generalize st'.length = ms at *
  generalize fi'.length = mf at *
  generalize es'.length = me at *
  obtain ⟨t0, t1, t2, t3, t4, t5, t6, t7, t8, t9⟩ := And.intro hT.c0 (And.intro hT.c1 (And.intro hT.c2 (And.intro hT.c3 (And.intro hT.c4 (And.intro hT.d0 (And.intro hT.d1 (And.intro hT.d2 (And.intro hT.d3 hT.d4))))))))
  clear hT
  generalize World.alloc w _ = W at *
  have HH := Lib.hid hn
  have HM := Lib.hid hm
  clear hn hm
  go_enter Try.func4, Try.ntmps4
  go_wp2
  go_loopw [3] (fun i wr => (i = .int .i64 0 ∨ (i = .int .i64 1 ∧ Hid (L = false)) ∨ (i = .int .i64 2 ∧ Hid (L = false) ∧ Hid (R = false))) ∧ wr = W) (fun i _ => 2 - (intOf i).toNat)
  case atStart => exact ⟨.inl rfl, rfl⟩
  case round =>
    obtain ⟨rfl | ⟨rfl, hF⟩ | ⟨rfl, hF, hG⟩, rfl⟩ := hrel
    · rcases HH.out with ⟨h0, h1⟩ | ⟨h0, h1, h2⟩ | ⟨h0, h1, h2, h3⟩ | ⟨h0, h1, h2, h3⟩
      · have h0' := Lib.hid h0
        clear h0
        go_wp2
        go_ret
        exact ⟨ret_b (by rw [h0'.out]; rfl), hb0⟩
      · have h0' := Lib.hid h0
        clear h0
        go_wp2
        go_ret
        exact ⟨ret_b (by rw [h0'.out]; rfl), hb0⟩
      · have h0' := Lib.hid h0
        clear h0
        go_wp2
        go_ret
        exact ⟨ret_b (by rw [h0'.out]; rfl), hb0⟩
      · have h0' := Lib.hid h0
        clear h0
        go_wp2
        go_roundw
        case rel => exact ⟨.inr (.inl ⟨rfl, h0'⟩), trivial⟩
        case measure => simp [intOf]
    · rcases HM.out with ⟨h0, h1⟩ | ⟨h0, h1, h2⟩ | ⟨h0, h1, h2, h3⟩ | ⟨h0, h1, h2, h3⟩
      · have h0' := Lib.hid h0
        clear h0
        go_wp2
        go_ret
        exact ⟨ret_b (by rw [h0'.out, hF.out]; rfl), hb0⟩
      · have h0' := Lib.hid h0
        clear h0
        go_wp2
        go_ret
        exact ⟨ret_b (by rw [h0'.out, hF.out]; rfl), hb0⟩
      · have h0' := Lib.hid h0
        clear h0
        go_wp2
        go_ret
        exact ⟨ret_b (by rw [h0'.out, hF.out]; rfl), hb0⟩
      · have h0' := Lib.hid h0
        clear h0
        go_wp2
        go_roundw
        case rel => exact ⟨.inr (.inr ⟨rfl, hF, h0'⟩), trivial⟩
        case measure => simp [intOf]
    · go_wp2
      go_ret
      exact ⟨ret_b (by rw [hF.out, hG.out]; rfl), hb0⟩
theorem wrong_uni {n m : Na} (hn : chkN n = 0) (hm : chkN m = 0) (hV : n.V = m.V) (hu : chkN (uniN n m) = 0) (l : List Nat) : wrongN m l = wrongN n l ∧ wrongN (uniN n m) l = wrongN n l := by
  unfold wrongN
  rw [hn, hm, hu, ← hV]
  exact ⟨rfl, rfl⟩
theorem uni_zero {n m : Na} (h : uniE n m = 0) : chkN n = 0 ∧ chkN m = 0 ∧ n.V = m.V ∧ n.S + m.S ≤ 64 ∧ n.es.length + m.es.length ≤ 512 := by
  unfold uniE at h
  by_cases h1 : chkN n = 0
  · by_cases h2 : chkN m = 0
    · rw [if_neg (by omega), if_neg (by omega)] at h
      by_cases h3 : n.V = m.V
      · rw [if_neg (by omega)] at h
        by_cases h4 : n.S + m.S ≤ 64 ∧ n.es.length + m.es.length ≤ 512
        · exact ⟨h1, h2, h3, h4.1, h4.2⟩
        · rw [if_pos h4] at h; cases h
      · rw [if_pos h3] at h; cases h
    · rw [if_neg (by omega), if_pos h2] at h; exact absurd h h2
  · rw [if_pos h1] at h; exact absurd h h1
section
variable (n : Na) (A B C : Option Addr) (a b c : Nat) (m : Na) (D E F : Option Addr) (d e f : Nat) (G : Option Addr) (l : List Nat) (g : Nat) (w : World)
set_option maxHeartbeats 16000000 in
theorem nfaUnions_walk (hx : NaAt w n A B C) (hM : NaMax n) (hy : NaAt w m D E F) (hN : NaMax m) (hD : Bys w G l) (h8 : ∀ y ∈ l, y < 256) (hm : l.length ≤ maxLen) :
    Calls Try.prog 3 #[.agg #[.int .i64 n.V, .int .i64 n.S, .slice A n.st.length a, .slice B n.fi.length b, .slice C n.es.length c], .agg #[.int .i64 m.V, .int .i64 m.S, .slice D m.st.length d, .slice E m.fi.length e, .slice F m.es.length f], .slice G l.length g] w fun e w' => e = .returned (.bool true) ∧ Below w.heap.size w w' := by
  have HAw := Lib.hid fun X => awake_any6 X
  have HLo := Lib.hid fun X g hg => LongN2_any n m A B C D E F a b c d e f X hM hN g hg
  have hB1 := (Boxed5.new w 25 (.int .i64 n.V) (.int .i64 n.S) (.slice A n.st.length a) (.slice B n.fi.length b) (.slice C n.es.length c)).below (bal (Below.refl _ _) (.cells #[.int .i64 m.V, .int .i64 m.S, .slice D m.st.length d, .slice E m.fi.length e, .slice F m.es.length f] 25))
  have hB2 := Boxed5.new (w.alloc (.cells #[.int .i64 n.V, .int .i64 n.S, .slice A n.st.length a, .slice B n.fi.length b, .slice C n.es.length c] 25)) 25 (.int .i64 m.V) (.int .i64 m.S) (.slice D m.st.length d) (.slice E m.fi.length e) (.slice F m.es.length f)
  have hb0 := bal (bal (Below.refl w.heap.size w) (.cells #[.int .i64 n.V, .int .i64 n.S, .slice A n.st.length a, .slice B n.fi.length b, .slice C n.es.length c] 25)) (.cells #[.int .i64 m.V, .int .i64 m.S, .slice D m.st.length d, .slice E m.fi.length e, .slice F m.es.length f] 25)
  simp only [World.size_alloc] at hB2
  unfold maxLen at hm
  by_cases hlong : (longB n || longB m) = true ∨ 100 < l.length
  · have hor : ((longB n || longB m) = true) ∨ ((longB n || longB m) = false ∧ decide ((100 : Int) < (l.length : Int)) = true) := by
      cases hc : (longB n || longB m) with
      | true => exact .inl rfl
      | false => exact .inr ⟨rfl, decide_eq_true (by rcases hlong with h | h; (rw [hc] at h; cases h); omega)⟩
    obtain ⟨x0, x1, x2, x3, x4⟩ := hB1.cells
    obtain ⟨y0, y1, y2, y3, y4⟩ := hB2.cells
    clear hlong hx hM hD h8 hy hN hB1 hB2
    generalize l.length = nl at *
    generalize (longB n || longB m) = L at *
    rcases hor with rfl | ⟨rfl, hd⟩
    all_goals
      go_enter Try.func3, Try.ntmps3
      go_wp2_with (first
        | (go_at_call 4; ((with_reducible refine (HLo.out _ _ (by simp)).mono ?_); rintro e w2 ⟨rfl, hb2⟩); clear x0 x1 x2 x3 x4 y0 y1 y2 y3 y4; replace hb0 := stepB hb0 hb2)
        | (go_at_call 5; ((with_reducible refine (HAw.out _).mono ?_); rintro e w3 ⟨rfl, hb3⟩)))
      go_ret
      exact ⟨rfl, stepB hb0 hb3⟩
  have hL : (longB n || longB m) = false := by
    cases hc : (longB n || longB m) with
    | true => exact absurd (.inl hc) hlong
    | false => rfl
  have hd1 : decide ((100 : Int) < (l.length : Int)) = false := decide_eq_false (by omega)
  rw [hL] at HLo
  rw [Bool.or_eq_false_iff] at hL
  have hl := long_len hL.1
  have hk := long_len hL.2
  have hno := long_no hL.1
  have hmo := long_no hL.2
  have hl1 : l.length ≤ 1000000 := by omega
  clear hlong hM hN hL
  by_cases h0 : uniE n m = 0
  · obtain ⟨c1, c2, c3, c4, c5⟩ := uni_zero h0
    have oN := ok_of c1
    have oM := ok_of c2
    have hu := ok_chk (uni_ok oN oM c3 c4 c5)
    obtain ⟨w1, w2⟩ := wrong_uni c1 c2 c3 hu l
    have hacc : accE (uniN n m) l = (accE n l || accE m l) := by
      unfold accE
      rw [w1, w2]
      by_cases h : wrongN n l = 0
      · rw [if_pos h, if_pos h, if_pos h, acc_uni oN oM c3 c4 c5]
      · rw [if_neg h, if_neg h, if_neg h]; rfl
    have hlu : (uniN n m).es.length = n.es.length + m.es.length := by show (n.es ++ m.es.map (shiftE n.S)).length = _; rw [List.length_append, List.length_map]
    have hlst : (uniN n m).st.length = n.st.length + m.st.length := by show (n.st ++ m.st.map (· + n.S)).length = _; rw [List.length_append, List.length_map]
    have hlfi : (uniN n m).fi.length = n.fi.length + m.fi.length := by show (n.fi ++ m.fi.map (· + n.S)).length = _; rw [List.length_append, List.length_map]
    have hul : NaLen (uniN n m) := ⟨by rw [hlst]; omega, by rw [hlfi]; omega, by rw [hlu]; omega⟩
    have HA1 := Lib.hid fun X (hX : Below w.heap.size w X) => Accepts_any n A B C a b c X (hx.below hX) hl G l g (hD.below hX) h8 hl1
    have HA2 := Lib.hid fun X (hX : Below w.heap.size w X) => Accepts_any m D E F d e f X (hy.below hX) hk G l g (hD.below hX) h8 hl1
    rw [w1] at HA2
    have HA3 : Hid (∀ X A1 B1 C1 a1 b1 c1, Below w.heap.size w X → NaAt X (uniN n m) A1 B1 C1 → Calls Try.prog 8 #[.agg #[.int .i64 n.V, .int .i64 (n.S + m.S), .slice A1 (n.st.length + m.st.length) a1, .slice B1 (n.fi.length + m.fi.length) b1, .slice C1 (n.es.length + m.es.length) c1], .slice G l.length g] X fun e w' => e = .returned (.tuple #[.bool (accE n l || accE m l), .int .i64 (wrongN n l)]) ∧ Below X.heap.size X w') := fun X A1 B1 C1 a1 b1 c1 hX hu1 => by
      have := Accepts_any (uniN n m) A1 B1 C1 a1 b1 c1 X hu1 hul G l g (hD.below hX) h8 hl1
      rw [hacc, w2, hlst, hlfi, hlu] at this
      exact this
    have HCm : Hid (∀ X A1 B1 C1 a1 b1 c1, NaAt X (uniN n m) A1 B1 C1 → Calls Try.prog 7 #[.agg #[.int .i64 n.V, .int .i64 (n.S + m.S), .slice A1 (n.st.length + m.st.length) a1, .slice B1 (n.fi.length + m.fi.length) b1, .slice C1 (n.es.length + m.es.length) c1]] X fun e w' => e = .returned (.int .i64 0) ∧ Below X.heap.size X w') := fun X A1 B1 C1 a1 b1 c1 hu1 => by
      have := Check6_any (uniN n m) A1 B1 C1 a1 b1 c1 X hu1 hul
      rw [hu, hlst, hlfi, hlu] at this
      exact this
    have HU := Lib.hid fun X (hX : Below w.heap.size w X) => Union_good n m A B C D E F a b c d e f X (hx.below hX) hl (hy.below hX) hk h0 c1 c2 (by omega)
    have HNx : Hid (∀ X, Below w.heap.size w X → NaAt X n A B C) := fun X hX => hx.below hX
    have hEE : (wrongN n l == wrongN n l) = true := beq_self_eq_true _
    clear h0 c1 c2 c3 c4 c5 oN oM hu w1 w2 hacc hlu hlst hlfi hul hx hy hD h8 hl hk hl1
    generalize uniN n m = u at *
    generalize wrongN n l = E0 at *
    generalize accE n l = P at *
    generalize accE m l = Q at *
    generalize l.length = nl at *
    obtain ⟨x0, x1, x2, x3, x4⟩ := hB1.cells
    obtain ⟨y0, y1, y2, y3, y4⟩ := hB2.cells
    cases P <;> cases Q
    all_goals
      go_enter Try.func3, Try.ntmps3
      go_wp2_with (first
        | (go_at_call 4; ((with_reducible refine (HLo.out _ _ (by simp)).mono ?_); rintro e w2 ⟨rfl, hb2⟩); clear x0 x1 x2 x3 x4 y0 y1 y2 y3 y4 HLo; replace hb0 := stepB hb0 hb2; replace hB1 := hB1.below hb2; replace hB2 := hB2.below hb2)
        | (go_at_call 5; ((with_reducible refine (HAw.out _).mono ?_); rintro e w3 ⟨rfl, hb3⟩); clear HAw; replace hb0 := stepB hb0 hb3; replace hB1 := hB1.below hb3; replace hB2 := hB2.below hb3; obtain ⟨x0, x1, x2, x3, x4⟩ := hB1.cells; obtain ⟨y0, y1, y2, y3, y4⟩ := hB2.cells)
        | (go_at_call 6; ((with_reducible refine (HU.out _ hb0).mono ?_); rintro e w4 ⟨A1, B1, C1, a1, b1, c1, rfl, hb4, hu4⟩); clear x0 x1 x2 x3 x4 y0 y1 y2 y3 y4 HU; have hBm := Boxed5.new w4 25 (.int .i64 n.V) (.int .i64 (n.S + m.S)) (.slice A1 (n.st.length + m.st.length) a1) (.slice B1 (n.fi.length + m.fi.length) b1) (.slice C1 (n.es.length + m.es.length) c1); have hbm := bal (Below.refl w4.heap.size w4) (.cells #[.int .i64 n.V, .int .i64 (n.S + m.S), .slice A1 (n.st.length + m.st.length) a1, .slice B1 (n.fi.length + m.fi.length) b1, .slice C1 (n.es.length + m.es.length) c1] 25); replace hb0 := stepB (stepB hb0 hb4) hbm; replace hB1 := (hB1.below hb4).below hbm; replace hB2 := (hB2.below hb4).below hbm; replace hu4 := hu4.below hbm; clear hb4 hbm; obtain ⟨x0, x1, x2, x3, x4⟩ := hB1.cells)
        | (go_at_call 8; ((with_reducible refine (HA1.out _ hb0).mono ?_); rintro e w5 ⟨rfl, hb5⟩); clear x0 x1 x2 x3 x4 HA1; replace hb0 := stepB hb0 hb5; replace hB2 := hB2.below hb5; replace hBm := hBm.below hb5; replace hu4 := hu4.below hb5; clear hb5; obtain ⟨y0, y1, y2, y3, y4⟩ := hB2.cells)
        | (go_at_call 8; ((with_reducible refine (HA2.out _ hb0).mono ?_); rintro e w6 ⟨rfl, hb6⟩); clear y0 y1 y2 y3 y4 HA2; replace hb0 := stepB hb0 hb6; replace hBm := hBm.below hb6; replace hu4 := hu4.below hb6; clear hb6; obtain ⟨z0, z1, z2, z3, z4⟩ := hBm.cells)
        | (go_at_call 8; ((with_reducible refine (HA3.out _ _ _ _ _ _ _ hb0 hu4).mono ?_); rintro e w7 ⟨rfl, hb7⟩); clear z0 z1 z2 z3 z4 HA3; replace hb0 := stepB hb0 hb7; replace hBm := hBm.below hb7; replace hu4 := hu4.below hb7; clear hb7; obtain ⟨z0, z1, z2, z3, z4⟩ := hBm.cells)
        | (go_at_call 7; ((with_reducible refine (HCm.out _ _ _ _ _ _ _ hu4).mono ?_); rintro e w8 ⟨rfl, hb8⟩); replace hb0 := stepB hb0 hb8))
      go_ret
      exact ⟨rfl, hb0⟩
  · have HU := Lib.hid fun X (hX : Below w.heap.size w X) => Union_bad n m A B C D E F a b c d e f X (hx.below hX) hl (hy.below hX) hk h0
    have HC1 := Lib.hid fun X (hX : Below w.heap.size w X) => Check6_any n A B C a b c X (hx.below hX) hl
    have HC2 := Lib.hid fun X (hX : Below w.heap.size w X) => Check6_any m D E F d e f X (hy.below hX) hk
    have hne : (uniE n m != 0) = true := by rw [bne_iff_ne]; exact h0
    have hways : Hid (chkN n ≠ 0 ∨ (chkN n = 0 ∧ chkN m ≠ 0) ∨ (chkN n = 0 ∧ chkN m = 0 ∧ n.V ≠ m.V ∧ uniE n m = 7) ∨ (chkN n = 0 ∧ chkN m = 0 ∧ n.V = m.V ∧ uniE n m = 4)) := by
      show _
      by_cases k1 : chkN n = 0
      · by_cases k2 : chkN m = 0
        · by_cases k3 : n.V = m.V
          · refine .inr (.inr (.inr ⟨k1, k2, k3, ?_⟩))
            unfold uniE at h0 ⊢
            rw [if_neg (fun h => h k1), if_neg (fun h => h k2), if_neg (fun h => h k3)] at h0 ⊢
            by_cases k4 : n.S + m.S ≤ 64 ∧ n.es.length + m.es.length ≤ 512
            · rw [if_neg (fun h => h k4)] at h0; exact absurd rfl h0
            · rw [if_pos k4]
          · refine .inr (.inr (.inl ⟨k1, k2, k3, ?_⟩))
            unfold uniE
            rw [if_neg (fun h => h k1), if_neg (fun h => h k2), if_pos k3]
        · exact .inr (.inl ⟨k1, k2⟩)
      · exact .inl k1
    clear h0 hx hy hD h8 hl hk hl1
    generalize uniE n m = U at *
    generalize chkN n = E1 at *
    generalize chkN m = E2 at *
    generalize l.length = nl at *
    obtain ⟨x0, x1, x2, x3, x4⟩ := hB1.cells
    obtain ⟨y0, y1, y2, y3, y4⟩ := hB2.cells
    have hcase : (E1 != 0) = true ∨ (E1 = 0 ∧ (E2 != 0) = true) ∨ (E1 = 0 ∧ E2 = 0 ∧ (n.V != m.V) = true ∧ U = 7) ∨ (E1 = 0 ∧ E2 = 0 ∧ U = 4) := by
      rcases hways.out with h | ⟨h, h'⟩ | ⟨h, h', h3, h4⟩ | ⟨h, h', _, h4⟩
      · exact .inl (by rw [bne_iff_ne]; exact h)
      · exact .inr (.inl ⟨h, by rw [bne_iff_ne]; exact h'⟩)
      · exact .inr (.inr (.inl ⟨h, h', by rw [bne_iff_ne]; exact h3, h4⟩))
      · exact .inr (.inr (.inr ⟨h, h', h4⟩))
    clear hways
    rcases hcase with k1 | ⟨rfl, k2⟩ | ⟨rfl, rfl, k3, rfl⟩ | ⟨rfl, rfl, rfl⟩
    all_goals
      go_enter Try.func3, Try.ntmps3
      go_wp2_with (first
        | (go_at_call 4; ((with_reducible refine (HLo.out _ _ (by simp)).mono ?_); rintro e w2 ⟨rfl, hb2⟩); clear x0 x1 x2 x3 x4 y0 y1 y2 y3 y4 HLo; replace hb0 := stepB hb0 hb2; replace hB1 := hB1.below hb2; replace hB2 := hB2.below hb2)
        | (go_at_call 5; ((with_reducible refine (HAw.out _).mono ?_); rintro e w3 ⟨rfl, hb3⟩); clear HAw; replace hb0 := stepB hb0 hb3; replace hB1 := hB1.below hb3; replace hB2 := hB2.below hb3; obtain ⟨x0, x1, x2, x3, x4⟩ := hB1.cells; obtain ⟨y0, y1, y2, y3, y4⟩ := hB2.cells)
        | (go_at_call 6; ((with_reducible refine (HU.out _ hb0).mono ?_); rintro e w4 ⟨rfl, hb4⟩); clear x0 x1 x2 x3 x4 y0 y1 y2 y3 y4 HU; have hBm := Boxed5.new w4 25 (.int .i64 0) (.int .i64 0) (.slice none 0 0) (.slice none 0 0) (.slice none 0 0); have hbm := bal (Below.refl w4.heap.size w4) (.cells #[.int .i64 0, .int .i64 0, .slice none 0 0, .slice none 0 0, .slice none 0 0] 25); replace hb0 := stepB (stepB hb0 hb4) hbm; replace hB1 := (hB1.below hb4).below hbm; replace hB2 := (hB2.below hb4).below hbm; clear hb4 hbm; obtain ⟨z0, z1, z2, z3, z4⟩ := hBm.cells; obtain ⟨x0, x1, x2, x3, x4⟩ := hB1.cells)
        | (go_at_call 7; ((with_reducible refine (HC1.out _ hb0).mono ?_); rintro e w5 ⟨rfl, hb5⟩); clear x0 x1 x2 x3 x4 z0 z1 z2 z3 z4 HC1; replace hb0 := stepB hb0 hb5; replace hB1 := hB1.below hb5; replace hB2 := hB2.below hb5; obtain ⟨y0, y1, y2, y3, y4⟩ := hB2.cells)
        | (go_at_call 7; ((with_reducible refine (HC2.out _ hb0).mono ?_); rintro e w6 ⟨rfl, hb6⟩); clear y0 y1 y2 y3 y4 HC2; replace hb0 := stepB hb0 hb6; replace hB1 := hB1.below hb6; replace hB2 := hB2.below hb6; obtain ⟨x0, x1, x2, x3, x4⟩ := hB1.cells; obtain ⟨y0, y1, y2, y3, y4⟩ := hB2.cells))
      go_ret
      exact ⟨rfl, hb0⟩
end
end Go.Proofs.Ytdjhfndoheoljaa.Nf
