/- Expressions in a text (package regex): the method that reads one. -/
import Derived.Test.YteckkbjpeckjmaaYZK
namespace Go.Proofs.Yteckkbjpeckjmaa.Rx
open Go Go.RowKit Go.Shelf Go.Proofs.Yteckkbjpeckjmaa
set_option linter.unusedVariables false
set_option maxRecDepth 100000
theorem group_any (B pb : Nat) (s : ByteArray) (f : Nat) (HE : ExC B pb s f) (i : Nat) (v : Value) (l : List Pc) (w : World) (h : PsAt w B pb s i v l) (hi : i ≤ s.size) (hf : s.size - i ≤ f) (hl : l.length + (s.size - i) ≤ 9000) (hs : s.size ≤ 4096) :
    Calls Try.prog 85 #[.pointer (some ⟨pb, 0, none⟩)] w (ExPost B pb s v l w (resP l.length (pex (f + 1) (40 :: Dl s i)))) := by
  by_cases he : i = s.size
  · subst he
    have HN := Lib.hid (next_end B pb s v l w h (by omega))
    have hX : pex (f + 1) (40 :: Dl s s.size) = .error 3 := by rw [Dl_end]; rfl
    rw [hX]
    have HB : Hid (∀ w', Below w.heap.size w w' → Below B w w') := fun w' hw => hw.mono h.Bw
    clear h hX HE
    show Calls _ _ _ _ (fun e w' => e = .panicked (errV 3) ∧ Below B w w')
    go_enter Try.func85, Try.ntmps85
    go_wp2_with (go_at_call 101; ((with_reducible refine HN.out.mono ?_); rintro r w1 ⟨rfl, hb1⟩))
    exact ⟨rfl, rfl, HB.out _ hb1⟩
  · by_cases hp : preOp (ch s i) ≠ 0
    · exact group_pre B pb s f HE i v l w h (by omega) hf hl hs hp
    · exact group_mid B pb s f HE i v l w h (by omega) hf hl hs (Decidable.byContradiction hp)
theorem pex_ch {s : ByteArray} {f i : Nat} (h : i < s.size) : pex (f + 1) (Dl s i) =
    if ch s i = 48 then .ok (.leaf 1 0 0, Dl s (i + 1)) else if ch s i = 49 then .ok (.leaf 2 0 0, Dl s (i + 1))
    else if ch s i = 91 then (match pcube (Dl s (i + 1)) with | .error e => .error e | .ok (pq, r') => .ok (.leaf 3 pq.1 pq.2, r'))
    else if ch s i = 40 then pex (f + 1) (40 :: Dl s (i + 1)) else .error 2 := by
  rw [Dl_cons s i h]
  by_cases h48 : ch s i = 48
  · rw [if_pos h48, show UInt8.ofNat (ch s i) = 48 by rw [h48]; rfl, pex_zero]
  · rw [if_neg h48]
    by_cases h49 : ch s i = 49
    · rw [if_pos h49, show UInt8.ofNat (ch s i) = 49 by rw [h49]; rfl, pex_one]
    · rw [if_neg h49]
      by_cases h91 : ch s i = 91
      · rw [if_pos h91, show UInt8.ofNat (ch s i) = 91 by rw [h91]; rfl, pex_cube]
        cases pcube (Dl s (i + 1)) <;> rfl
      · rw [if_neg h91]
        by_cases h40 : ch s i = 40
        · rw [if_pos h40, show UInt8.ofNat (ch s i) = 40 by rw [h40]; rfl]
        · rw [if_neg h40]
          conv => lhs; unfold pex
          rw [ofNat_ch, if_neg h48, if_neg h49, if_neg h91, if_neg h40]
set_option maxHeartbeats 16000000 in
theorem expr_all (B pb : Nat) (s : ByteArray) (hs : s.size ≤ 4095) : ∀ f, ExC B pb s f
  | 0 => fun i v l w h hi hf hl => by
    obtain rfl : i = s.size := by omega
    have HT := Lib.hid (take_no B pb s s.size w v l h (by omega) rfl)
    clear h
    show Calls _ _ _ _ (fun e w' => e = .panicked (errV 3) ∧ Below B w w')
    go_enter Try.func53, Try.ntmps53
    go_wp2_with (go_at_call 82; ((with_reducible refine HT.out.mono ?_); rintro r w1 ⟨rfl, hb1⟩))
    exact ⟨rfl, rfl, hb1⟩
  | f + 1 => fun i v l w h hi hf hl => by
    have HE := expr_all B pb s hs f
    by_cases he : i = s.size
    · subst he
      have HT := Lib.hid (take_no B pb s s.size w v l h (by omega) rfl)
      rw [Dl_end]
      clear h HE
      show Calls _ _ _ _ (fun e w' => e = .panicked (errV 3) ∧ Below B w w')
      go_enter Try.func53, Try.ntmps53
      go_wp2_with (go_at_call 82; ((with_reducible refine HT.out.mono ?_); rintro r w1 ⟨rfl, hb1⟩))
      exact ⟨rfl, rfl, hb1⟩
    · have hi1 : i < s.size := by omega
      have HX := pex_ch (f := f) hi1
      rw [HX]
      have HT := take_st B pb s i (ch s i) w v l h (by omega) hi1 rfl (i + 1) rfl
      have HBl : Hid (∀ wx w' v', Fr pb v v' w wx → Below B wx w' → Below B w w') := fun wx w' v' hF hb => (h.bel hF).trans hb
      have HBf : Hid (∀ wx v', Fr pb v v' w wx → Below B w wx) := fun wx v' hF => h.bel hF
      obtain ⟨j, hj⟩ : ∃ j, j = i + 1 := ⟨_, rfl⟩
      rw [← hj] at HT ⊢
      have hj1 : j ≤ s.size := by omega
      have hjf : s.size - j ≤ f := by omega
      have hjl : l.length + (s.size - j) ≤ 9000 := by omega
      have hjj : s.size - (Dl s j).length = j := by rw [Dl_len]; omega
      have HT := Lib.hid HT
      generalize ch s i = c at *
      clear h HX hj he hi1
      by_cases h48 : c = 48
      · rw [if_pos h48]
        show Calls _ _ _ _ (fun e w' => e = .returned (.tuple #[]) ∧ ∃ v', PsAt w' B pb s (s.size - (Dl s j).length) v' (l ++ [⟨1, 0, 0, 0, 0⟩]) ∧ Fr pb v v' w w')
        rw [hjj]
        have e1 := nat_eq0 (n := c) (k := 48) (by omega)
        have HA : Hid (∀ X v', PsAt X B pb s j v' l → Calls Try.prog 83 #[.pointer (some ⟨pb, 0, none⟩), .agg #[.int .u8 1, .int .u8 0, .int .u8 0, .int .i64 0, .int .i64 0]] X fun e w2 => e = .returned (.tuple #[]) ∧ ∃ v2, PsAt w2 B pb s j v2 (l ++ [⟨1, 0, 0, 0, 0⟩]) ∧ Fr pb v' v2 X w2) := fun X v' hX => add_any B pb s j v' l ⟨1, 0, 0, 0, 0⟩ X hX (by omega)
        clear h48 HE hjj
        go_enter Try.func53, Try.ntmps53
        go_wp2_with (first
          | (go_at_call 82; ((with_reducible refine HT.out.mono ?_); rintro r w1 ⟨rfl, v1, hP1, hF1⟩); have HP1 := Lib.hid hP1; have HF1 := Lib.hid hF1; clear hP1 hF1)
          | (go_at_call 83; ((with_reducible refine (HA.out _ _ HP1.out).mono ?_); rintro r w2 ⟨rfl, v2, hP2, hF2⟩)))
        go_end0
        exact ⟨rfl, v2, hP2, HF1.out.trans hF2⟩
      rw [if_neg h48]
      have n48 := nat_ne0 (n := c) (k := 48) (by omega)
      by_cases h49 : c = 49
      · rw [if_pos h49]
        show Calls _ _ _ _ (fun e w' => e = .returned (.tuple #[]) ∧ ∃ v', PsAt w' B pb s (s.size - (Dl s j).length) v' (l ++ [⟨2, 0, 0, 0, 0⟩]) ∧ Fr pb v v' w w')
        rw [hjj]
        have e1 := nat_eq0 (n := c) (k := 49) (by omega)
        have HA : Hid (∀ X v', PsAt X B pb s j v' l → Calls Try.prog 83 #[.pointer (some ⟨pb, 0, none⟩), .agg #[.int .u8 2, .int .u8 0, .int .u8 0, .int .i64 0, .int .i64 0]] X fun e w2 => e = .returned (.tuple #[]) ∧ ∃ v2, PsAt w2 B pb s j v2 (l ++ [⟨2, 0, 0, 0, 0⟩]) ∧ Fr pb v' v2 X w2) := fun X v' hX => add_any B pb s j v' l ⟨2, 0, 0, 0, 0⟩ X hX (by omega)
        clear h48 h49 HE hjj
        go_enter Try.func53, Try.ntmps53
        go_wp2_with (first
          | (go_at_call 82; ((with_reducible refine HT.out.mono ?_); rintro r w1 ⟨rfl, v1, hP1, hF1⟩); have HP1 := Lib.hid hP1; have HF1 := Lib.hid hF1; clear hP1 hF1)
          | (go_at_call 83; ((with_reducible refine (HA.out _ _ HP1.out).mono ?_); rintro r w2 ⟨rfl, v2, hP2, hF2⟩)))
        go_end0
        exact ⟨rfl, v2, hP2, HF1.out.trans hF2⟩
      rw [if_neg h49]
      have n49 := nat_ne0 (n := c) (k := 49) (by omega)
      by_cases h91 : c = 91
      · rw [if_pos h91]
        have e1 := nat_eq0 (n := c) (k := 91) (by omega)
        have HL0 := fun X v' (hX : PsAt X B pb s j v' l) => letter_any B pb s j v' l X hX hs hj1 (by omega)
        unfold LetOut at HL0
        rw [plet_pcube] at HL0
        cases hc : pcube (Dl s j) with
        | error k =>
          rw [hc] at HL0
          have HL := Lib.hid HL0
          clear HL0 hc HE h48 h49 h91 hjj
          show Calls _ _ _ _ (fun e w' => e = .panicked (errV k) ∧ Below B w w')
          go_enter Try.func53, Try.ntmps53
          go_wp2_with (first
            | (go_at_call 82; ((with_reducible refine HT.out.mono ?_); rintro r w1 ⟨rfl, v1, hP1, hF1⟩); have HP1 := Lib.hid hP1; have HF1 := Lib.hid hF1; clear hP1 hF1)
            | (go_at_call 84; ((with_reducible refine (HL.out _ _ HP1.out).mono ?_); rintro r w2 ⟨rfl, hb2⟩)))
          exact ⟨rfl, rfl, HBl.out _ _ _ HF1.out hb2⟩
        | ok x =>
          obtain ⟨⟨p, q⟩, r⟩ := x
          rw [hc] at HL0
          have HL := Lib.hid HL0
          clear HL0 hc HE h48 h49 h91 hjj
          show Calls _ _ _ _ (fun e w' => e = .returned (.tuple #[]) ∧ ∃ v', PsAt w' B pb s (s.size - r.length) v' (l ++ [⟨3, p, q, 0, 0⟩]) ∧ Fr pb v v' w w')
          go_enter Try.func53, Try.ntmps53
          go_wp2_with (first
            | (go_at_call 82; ((with_reducible refine HT.out.mono ?_); rintro r w1 ⟨rfl, v1, hP1, hF1⟩); have HP1 := Lib.hid hP1; have HF1 := Lib.hid hF1; clear hP1 hF1)
            | (go_at_call 84; ((with_reducible refine (HL.out _ _ HP1.out).mono ?_); rintro r w2 ⟨rfl, v2, hP2, hF2⟩)))
          go_end0
          exact ⟨rfl, v2, hP2, HF1.out.trans hF2⟩
      rw [if_neg h91]
      have n91 := nat_ne0 (n := c) (k := 91) (by omega)
      by_cases h40 : c = 40
      · rw [if_pos h40]
        have e1 := nat_eq0 (n := c) (k := 40) (by omega)
        have HG0 := fun X v' (hX : PsAt X B pb s j v' l) => group_any B pb s f HE j v' l X hX hj1 hjf hjl (by omega)
        cases hc : pex (f + 1) (40 :: Dl s j) with
        | error k =>
          rw [hc] at HG0
          have HG : Hid (∀ X v', PsAt X B pb s j v' l → Calls Try.prog 85 #[.pointer (some ⟨pb, 0, none⟩)] X fun e w' => e = .panicked (errV k) ∧ Below B X w') := HG0
          clear HG0 hc HE h48 h49 h91 h40 hjj
          show Calls _ _ _ _ (fun e w' => e = .panicked (errV k) ∧ Below B w w')
          go_enter Try.func53, Try.ntmps53
          go_wp2_with (first
            | (go_at_call 82; ((with_reducible refine HT.out.mono ?_); rintro r w1 ⟨rfl, v1, hP1, hF1⟩); have HP1 := Lib.hid hP1; have HF1 := Lib.hid hF1; clear hP1 hF1)
            | (go_at_call 85; ((with_reducible refine (HG.out _ _ HP1.out).mono ?_); rintro r w2 ⟨rfl, hb2⟩)))
          exact ⟨rfl, rfl, HBl.out _ _ _ HF1.out hb2⟩
        | ok x =>
          obtain ⟨t, r⟩ := x
          rw [hc] at HG0
          have HG : Hid (∀ X v', PsAt X B pb s j v' l → Calls Try.prog 85 #[.pointer (some ⟨pb, 0, none⟩)] X fun e w' => e = .returned (.tuple #[]) ∧ ∃ v2, PsAt w' B pb s (s.size - r.length) v2 (l ++ flat t l.length) ∧ Fr pb v' v2 X w') := HG0
          clear HG0 hc HE h48 h49 h91 h40 hjj
          show Calls _ _ _ _ (fun e w' => e = .returned (.tuple #[]) ∧ ∃ v', PsAt w' B pb s (s.size - r.length) v' (l ++ flat t l.length) ∧ Fr pb v v' w w')
          go_enter Try.func53, Try.ntmps53
          go_wp2_with (first
            | (go_at_call 82; ((with_reducible refine HT.out.mono ?_); rintro r w1 ⟨rfl, v1, hP1, hF1⟩); have HP1 := Lib.hid hP1; have HF1 := Lib.hid hF1; clear hP1 hF1)
            | (go_at_call 85; ((with_reducible refine (HG.out _ _ HP1.out).mono ?_); rintro r w2 ⟨rfl, v2, hP2, hF2⟩)))
          go_end0
          exact ⟨rfl, v2, hP2, HF1.out.trans hF2⟩
      rw [if_neg h40]
      have n40 := nat_ne0 (n := c) (k := 40) (by omega)
      clear h48 h49 h91 h40 HE hjj
      show Calls _ _ _ _ (fun e w' => e = .panicked (errV 2) ∧ Below B w w')
      go_enter Try.func53, Try.ntmps53
      go_wp2_with (go_at_call 82; ((with_reducible refine HT.out.mono ?_); rintro r w1 ⟨rfl, v1, hP1, hF1⟩))
      exact ⟨rfl, rfl, HBf.out _ _ hF1⟩
end Go.Proofs.Yteckkbjpeckjmaa.Rx
