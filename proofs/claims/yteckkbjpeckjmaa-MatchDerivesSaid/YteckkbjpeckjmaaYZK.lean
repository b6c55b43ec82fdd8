/- Expressions in a text (package regex): what stands in parentheses, with a sign behind its first part. -/
import Derived.Test.YteckkbjpeckjmaaYZHJ
namespace Go.Proofs.Yteckkbjpeckjmaa.Rx
open Go Go.RowKit Go.Shelf Go.Proofs.Yteckkbjpeckjmaa
set_option linter.unusedVariables false
set_option maxRecDepth 100000
set_option maxHeartbeats 32000000 in
theorem group_mid (B pb : Nat) (s : ByteArray) (f : Nat) (HE : ExC B pb s f) (i : Nat) (v : Value) (l : List Pc) (w : World) (h : PsAt w B pb s i v l) (hi : i < s.size) (hf : s.size - i ≤ f) (hl : l.length + (s.size - i) ≤ 9000) (hs : s.size ≤ 4096) (hp : preOp (ch s i) = 0) :
    Calls Try.prog 85 #[.pointer (some ⟨pb, 0, none⟩)] w (ExPost B pb s v l w (resP l.length (pex (f + 1) (40 :: Dl s i)))) := by
  have hneq0 : ∀ (w : World), (binOp BinOp.neq 1 .nilFunc .nilFunc).run Try.prog w = .ok (.bool false) w := fun _ => by kernel_rfl
  have HX := pex_grp (f := f) hi
  rw [if_neg (by rw [hp]; simp)] at HX
  have HN := Lib.hid (next_ok B pb s i v l w h (by omega) hi)
  have HP := Lib.hid h
  have HB : Hid (∀ wx w', Fr pb v wx w w' → Below B w w') := fun wx w' hw => h.bel hw
  have HPre := Lib.hid fun X => prefix_no pb _ X hp
  have HEx := Lib.hid fun X v' (hX : PsAt X B pb s i v' l) => HE i v' l X hX (by omega) (by omega) (by omega)
  generalize ch s i = d at *
  clear hp h
  cases hx : pex f (Dl s i) with
  | error k =>
    rw [hx] at HX HEx
    have HX2 : pex (f + 1) (40 :: Dl s i) = .error k := HX
    rw [HX2]
    have HEr : Hid (∀ X v', PsAt X B pb s i v' l → Calls Try.prog 53 #[.pointer (some ⟨pb, 0, none⟩)] X fun e w' => e = .panicked (errV k) ∧ Below B X w') := fun X v' hX => HEx.out X v' hX
    clear HX HX2 hx HEx HE
    show Calls _ _ _ _ (fun e w' => e = .panicked (errV k) ∧ Below B w w')
    go_enter Try.func85, Try.ntmps85
    go_wp2_with (first
      | (go_at_call 101; ((with_reducible refine HN.out.mono ?_); rintro r w1 ⟨rfl, hb1⟩); have P := Lib.hid (HP.out.below hb1); have F := Lib.hid (Fr.of_below (bb := pb) (v := v) hb1))
      | (go_at_call 104; ((with_reducible refine (HPre.out _).mono ?_); rintro r w' ⟨rfl, rfl⟩))
      | (go_at_call 53; ((with_reducible refine (HEr.out _ _ P.out).mono ?_); rintro r w' ⟨rfl, hb⟩)))
    exact ⟨rfl, rfl, (HB.out _ _ F.out).trans hb⟩
  | ok ar =>
    obtain ⟨a, r⟩ := ar
    rw [hx] at HX HEx
    obtain ⟨hr, hsz, hrl⟩ := pex_left hx (by omega)
    obtain ⟨k, hk⟩ : ∃ k, k = s.size - r.length := ⟨_, rfl⟩
    have HEr : Hid (∀ X v', PsAt X B pb s i v' l → Calls Try.prog 53 #[.pointer (some ⟨pb, 0, none⟩)] X fun e w' => e = .returned (.tuple #[]) ∧ ∃ v2, PsAt w' B pb s k v2 (l ++ flat a l.length) ∧ Fr pb v' v2 X w') := by
      rw [hk]; exact fun X v' hX => HEx.out X v' hX
    have hks : k ≤ s.size := by omega
    have hak : l.length + a.size + (s.size - k) ≤ 9000 := by omega
    have hkf : s.size - k ≤ f := by omega
    rw [← hk] at hr
    clear HEx hx
    by_cases he : k = s.size
    · have hr0 : r = [] := by rw [hr, he, Dl_end]
      subst hr0
      have HX2 : pex (f + 1) (40 :: Dl s i) = .error 3 := HX
      rw [HX2]
      have HT := Lib.hid fun X v' (hX : PsAt X B pb s k v' (l ++ flat a l.length)) => take_no B pb s k X v' _ hX (by omega) he
      clear HX HX2 HE hr hk he hsz hrl
      show Calls _ _ _ _ (fun e w' => e = .panicked (errV 3) ∧ Below B w w')
      go_enter Try.func85, Try.ntmps85
      go_wp2_with (first
        | (go_at_call 101; ((with_reducible refine HN.out.mono ?_); rintro r w1 ⟨rfl, hb1⟩); have P := Lib.hid (HP.out.below hb1); have F := Lib.hid (Fr.of_below (bb := pb) (v := v) hb1))
        | (go_at_call 104; ((with_reducible refine (HPre.out _).mono ?_); rintro r w' ⟨rfl, rfl⟩))
        | (go_at_call 53; ((with_reducible refine (HEr.out _ _ P.out).mono ?_); rintro r w' ⟨rfl, v', hP, hF⟩); have P2 := Lib.hid hP; have F2 := Lib.hid (F.out.trans hF); clear P F hP hF; have P := P2; have F := F2; clear P2 F2)
        | (go_at_call 82; ((with_reducible refine (HT.out _ _ P.out).mono ?_); rintro r w' ⟨rfl, hb⟩)))
      exact ⟨rfl, rfl, (HB.out _ _ F.out).trans hb⟩
    · have hk1 : k < s.size := by omega
      obtain ⟨m, hm⟩ : ∃ m, m = k + 1 := ⟨_, rfl⟩
      have hr1 : r = UInt8.ofNat (ch s k) :: Dl s m := by rw [hr, Dl_cons s k hk1, hm]
      have hch := ofNat_ch s k
      have HT1 := fun X v' (hX : PsAt X B pb s k v' (l ++ flat a l.length)) => take_st B pb s k (ch s k) X v' _ hX (by omega) hk1 rfl m hm
      subst hr1
      simp only [hch] at HX
      have hms : m ≤ s.size := by omega
      have hmf : s.size - m ≤ f := by omega
      have hml : l.length + a.size + (s.size - m) ≤ 9000 := by omega
      generalize ch s k = c at *
      have HT1 := Lib.hid HT1
      clear hr hk hsz hrl hch he
      by_cases h42 : c = 42
      · subst h42
        rw [if_pos rfl] at HX
        rw [HX]
        have HT1 : Hid (∀ X v', PsAt X B pb s k v' (l ++ flat a l.length) → Calls Try.prog 82 #[.pointer (some ⟨pb, 0, none⟩)] X fun e w' => e = .returned (.int .u8 42) ∧ ∃ v2, PsAt w' B pb s m v2 (l ++ flat a l.length) ∧ Fr pb v' v2 X w') := HT1.out
        have HSuf := Lib.hid fun X => suffix_star pb X
        unfold mthF at HSuf
        have HO2 : Hid (∀ X v', PsAt X B pb s m v' (l ++ flat a l.length) → Calls Try.prog 138 #[.pointer (some ⟨pb, 0, none⟩)] X fun e w' => e = .returned (.tuple #[]) ∧ ∃ v2, PsAt w' B pb s m v2 (l ++ flat (.one 8 a) l.length) ∧ Fr pb v' v2 X w') := fun X v' hX => by
          have := star_any B pb s m v' _ X hX (by rw [List.length_append, flat_len]; omega)
          rw [List.length_append, flat_len, List.append_assoc] at this
          exact this
        have HT := tail_cases B pb s m (.one 8 a) hms hs (l ++ flat (.one 8 a) l.length)
        clear HX HE
        rcases HT with ⟨HR, HT⟩ | ⟨c', HR, hc', HT⟩ | ⟨HR, HT⟩
        · rw [HR.out]
          show Calls _ _ _ _ (fun e w' => e = .panicked (errV 3) ∧ Below B w w')
          go_enter Try.func85, Try.ntmps85
          go_wp2_with (first
            | (go_at_call 101; ((with_reducible refine HN.out.mono ?_); rintro r w1 ⟨rfl, hb1⟩); have P := Lib.hid (HP.out.below hb1); have F := Lib.hid (Fr.of_below (bb := pb) (v := v) hb1))
            | (go_at_call 104; ((with_reducible refine (HPre.out _).mono ?_); rintro r w' ⟨rfl, rfl⟩))
            | (go_at_call 53; ((with_reducible refine (HEr.out _ _ P.out).mono ?_); rintro r w' ⟨rfl, v', hP, hF⟩); have P2 := Lib.hid hP; have F2 := Lib.hid (F.out.trans hF); clear P F hP hF; have P := P2; have F := F2; clear P2 F2)
            | (go_at_call 82; ((with_reducible refine (HT1.out _ _ P.out).mono ?_); rintro r w' ⟨rfl, v', hP, hF⟩); have P2 := Lib.hid hP; have F2 := Lib.hid (F.out.trans hF); clear P F hP hF; have P := P2; have F := F2; clear P2 F2)
            | (go_at_call 105; ((with_reducible refine (HSuf.out _).mono ?_); rintro r w' ⟨rfl, rfl⟩))
            | (go_at_call 138; ((with_reducible refine (HO2.out _ _ P.out).mono ?_); rintro r w' ⟨rfl, v', hP, hF⟩); have P2 := Lib.hid hP; have F2 := Lib.hid (F.out.trans hF); clear P F hP hF; have P := P2; have F := F2; clear P2 F2)
            | (go_at_call 82; ((with_reducible refine (HT.out _ _ P.out).mono ?_); rintro r w' ⟨rfl, hb⟩)))
          exact ⟨rfl, rfl, (HB.out _ _ F.out).trans hb⟩
        · rw [HR.out]
          show Calls _ _ _ _ (fun e w' => e = .panicked (errV 2) ∧ Below B w w')
          go_enter Try.func85, Try.ntmps85
          go_wp2_with (first
            | (go_at_call 101; ((with_reducible refine HN.out.mono ?_); rintro r w1 ⟨rfl, hb1⟩); have P := Lib.hid (HP.out.below hb1); have F := Lib.hid (Fr.of_below (bb := pb) (v := v) hb1))
            | (go_at_call 104; ((with_reducible refine (HPre.out _).mono ?_); rintro r w' ⟨rfl, rfl⟩))
            | (go_at_call 53; ((with_reducible refine (HEr.out _ _ P.out).mono ?_); rintro r w' ⟨rfl, v', hP, hF⟩); have P2 := Lib.hid hP; have F2 := Lib.hid (F.out.trans hF); clear P F hP hF; have P := P2; have F := F2; clear P2 F2)
            | (go_at_call 82; ((with_reducible refine (HT1.out _ _ P.out).mono ?_); rintro r w' ⟨rfl, v', hP, hF⟩); have P2 := Lib.hid hP; have F2 := Lib.hid (F.out.trans hF); clear P F hP hF; have P := P2; have F := F2; clear P2 F2)
            | (go_at_call 105; ((with_reducible refine (HSuf.out _).mono ?_); rintro r w' ⟨rfl, rfl⟩))
            | (go_at_call 138; ((with_reducible refine (HO2.out _ _ P.out).mono ?_); rintro r w' ⟨rfl, v', hP, hF⟩); have P2 := Lib.hid hP; have F2 := Lib.hid (F.out.trans hF); clear P F hP hF; have P := P2; have F := F2; clear P2 F2)
            | (go_at_call 82; ((with_reducible refine (HT.out _ _ P.out).mono ?_); rintro r w' ⟨rfl, v', hP, hF⟩); have P2 := Lib.hid hP; have F2 := Lib.hid (F.out.trans hF); clear P F hP hF; have P := P2; have F := F2; clear P2 F2))
          exact ⟨rfl, rfl, HB.out _ _ F.out⟩
        · rw [HR.out.1]
          have hkk : s.size - (Dl s (m + 1)).length = m + 1 := by rw [Dl_len]; have := HR.out.2; omega
          show Calls _ _ _ _ (fun e w' => e = .returned (.tuple #[]) ∧ ∃ v', PsAt w' B pb s (s.size - (Dl s (m + 1)).length) v' (l ++ flat (.one 8 a) l.length) ∧ Fr pb v v' w w')
          rw [hkk]
          clear hkk
          go_enter Try.func85, Try.ntmps85
          go_wp2_with (first
            | (go_at_call 101; ((with_reducible refine HN.out.mono ?_); rintro r w1 ⟨rfl, hb1⟩); have P := Lib.hid (HP.out.below hb1); have F := Lib.hid (Fr.of_below (bb := pb) (v := v) hb1))
            | (go_at_call 104; ((with_reducible refine (HPre.out _).mono ?_); rintro r w' ⟨rfl, rfl⟩))
            | (go_at_call 53; ((with_reducible refine (HEr.out _ _ P.out).mono ?_); rintro r w' ⟨rfl, v', hP, hF⟩); have P2 := Lib.hid hP; have F2 := Lib.hid (F.out.trans hF); clear P F hP hF; have P := P2; have F := F2; clear P2 F2)
            | (go_at_call 82; ((with_reducible refine (HT1.out _ _ P.out).mono ?_); rintro r w' ⟨rfl, v', hP, hF⟩); have P2 := Lib.hid hP; have F2 := Lib.hid (F.out.trans hF); clear P F hP hF; have P := P2; have F := F2; clear P2 F2)
            | (go_at_call 105; ((with_reducible refine (HSuf.out _).mono ?_); rintro r w' ⟨rfl, rfl⟩))
            | (go_at_call 138; ((with_reducible refine (HO2.out _ _ P.out).mono ?_); rintro r w' ⟨rfl, v', hP, hF⟩); have P2 := Lib.hid hP; have F2 := Lib.hid (F.out.trans hF); clear P F hP hF; have P := P2; have F := F2; clear P2 F2)
            | (go_at_call 82; ((with_reducible refine (HT.out _ _ P.out).mono ?_); rintro r w' ⟨rfl, v', hP, hF⟩); have P2 := Lib.hid hP; have F2 := Lib.hid (F.out.trans hF); clear P F hP hF; have P := P2; have F := F2; clear P2 F2))
          go_end0
          exact ⟨rfl, _, P.out, F.out⟩
      · rw [if_neg h42] at HX
        by_cases hmid : midOp c ≠ 0
        · rw [if_pos hmid] at HX
          have HSuf := Lib.hid fun X => suffix_mid pb c X hmid
          have hop := midOp_in hmid
          have HMid := fun X v' (hX : PsAt X B pb s m v' (l ++ flat a l.length)) => mid_any B pb s f HE m v' _ (midOp c) X hX hms hmf (by rw [List.length_append, flat_len]; omega) hop
          have hK := midK_in hop
          have eK : Enters Try.prog (midK (midOp c)) := by
            rcases hK with h | h | h <;> rw [h]
            · exact enters_of Try.func135 (by kernel_rfl) rfl
            · exact enters_of Try.func136 (by kernel_rfl) rfl
            · exact enters_of Try.func137 (by kernel_rfl) rfl
          generalize midOp c = op at *
          generalize midK op = K at *
          unfold mthF at HSuf
          unfold Enters at eK
          clear hK h42 hmid
          cases hy : pex f (Dl s m) with
          | error k2 =>
            rw [hy] at HX HMid
            have HX2 : pex (f + 1) (40 :: Dl s i) = .error k2 := HX
            rw [HX2]
            have HO2 : Hid (∀ X v', PsAt X B pb s m v' (l ++ flat a l.length) → Calls Try.prog K #[.pointer (some ⟨pb, 0, none⟩)] X fun e w' => e = .panicked (errV k2) ∧ Below B X w') := fun X v' hX => HMid X v' hX
            clear HX HX2 HE HMid hy
            show Calls _ _ _ _ (fun e w' => e = .panicked (errV k2) ∧ Below B w w')
            go_enter Try.func85, Try.ntmps85
            go_wp2_with (first
              | (go_at_call 101; ((with_reducible refine HN.out.mono ?_); rintro r w1 ⟨rfl, hb1⟩); have P := Lib.hid (HP.out.below hb1); have F := Lib.hid (Fr.of_below (bb := pb) (v := v) hb1))
              | (go_at_call 104; ((with_reducible refine (HPre.out _).mono ?_); rintro r w' ⟨rfl, rfl⟩))
              | (go_at_call 53; ((with_reducible refine (HEr.out _ _ P.out).mono ?_); rintro r w' ⟨rfl, v', hP, hF⟩); have P2 := Lib.hid hP; have F2 := Lib.hid (F.out.trans hF); clear P F hP hF; have P := P2; have F := F2; clear P2 F2)
              | (go_at_call 82; ((with_reducible refine (HT1.out _ _ P.out).mono ?_); rintro r w' ⟨rfl, v', hP, hF⟩); have P2 := Lib.hid hP; have F2 := Lib.hid (F.out.trans hF); clear P F hP hF; have P := P2; have F := F2; clear P2 F2)
              | (go_at_call 105; ((with_reducible refine (HSuf.out _).mono ?_); rintro r w' ⟨rfl, rfl⟩))
              | (go_at_fn K; ((with_reducible refine (HO2.out _ _ P.out).mono ?_); rintro r w' ⟨rfl, hb⟩)))
            exact ⟨rfl, rfl, (HB.out _ _ F.out).trans hb⟩
          | ok br =>
            obtain ⟨b, r4⟩ := br
            rw [hy] at HX HMid
            obtain ⟨hr4, hsz4, hrl4⟩ := pex_left hy hms
            obtain ⟨k4, hk4⟩ : ∃ k4, k4 = s.size - r4.length := ⟨_, rfl⟩
            have HO2 : Hid (∀ X v', PsAt X B pb s m v' (l ++ flat a l.length) → Calls Try.prog K #[.pointer (some ⟨pb, 0, none⟩)] X fun e w' => e = .returned (.tuple #[]) ∧ ∃ v2, PsAt w' B pb s k4 v2 (l ++ flat (.two op a b) l.length) ∧ Fr pb v' v2 X w') := fun X v' hX => by
              have h1 := HMid X v' hX
              have h2 : Calls Try.prog K #[.pointer (some ⟨pb, 0, none⟩)] X fun e w' => e = .returned (.tuple #[]) ∧ ∃ v2, PsAt w' B pb s (s.size - r4.length) v2 ((l ++ flat a l.length) ++ (flat b (l ++ flat a l.length).length ++ [⟨op, 0, 0, ((l ++ flat a l.length).length : Int) - 1, (((l ++ flat a l.length).length + b.size : Nat) : Int) - 1⟩])) ∧ Fr pb v' v2 X w' := h1
              rw [List.length_append, flat_len, List.append_assoc, ← hk4] at h2
              exact h2
            have hks4 : k4 ≤ s.size := by omega
            rw [← hk4] at hr4
            have HX2 : pex (f + 1) (40 :: Dl s i) = eatT (.two op a b) (eat 41 (Dl s k4)) := by rw [HX, ← hr4]
            rw [HX2]
            have HT := tail_cases B pb s k4 (.two op a b) hks4 hs (l ++ flat (.two op a b) l.length)
            clear HX HX2 HE HMid hy hr4 hsz4 hrl4 hk4
            rcases HT with ⟨HR, HT⟩ | ⟨c', HR, hc', HT⟩ | ⟨HR, HT⟩
            · rw [HR.out]
              show Calls _ _ _ _ (fun e w' => e = .panicked (errV 3) ∧ Below B w w')
              go_enter Try.func85, Try.ntmps85
              go_wp2_with (first
                | (go_at_call 101; ((with_reducible refine HN.out.mono ?_); rintro r w1 ⟨rfl, hb1⟩); have P := Lib.hid (HP.out.below hb1); have F := Lib.hid (Fr.of_below (bb := pb) (v := v) hb1))
                | (go_at_call 104; ((with_reducible refine (HPre.out _).mono ?_); rintro r w' ⟨rfl, rfl⟩))
                | (go_at_call 53; ((with_reducible refine (HEr.out _ _ P.out).mono ?_); rintro r w' ⟨rfl, v', hP, hF⟩); have P2 := Lib.hid hP; have F2 := Lib.hid (F.out.trans hF); clear P F hP hF; have P := P2; have F := F2; clear P2 F2)
                | (go_at_call 82; ((with_reducible refine (HT1.out _ _ P.out).mono ?_); rintro r w' ⟨rfl, v', hP, hF⟩); have P2 := Lib.hid hP; have F2 := Lib.hid (F.out.trans hF); clear P F hP hF; have P := P2; have F := F2; clear P2 F2)
                | (go_at_call 105; ((with_reducible refine (HSuf.out _).mono ?_); rintro r w' ⟨rfl, rfl⟩))
                | (go_at_fn K; ((with_reducible refine (HO2.out _ _ P.out).mono ?_); rintro r w' ⟨rfl, v', hP, hF⟩); have P2 := Lib.hid hP; have F2 := Lib.hid (F.out.trans hF); clear P F hP hF; have P := P2; have F := F2; clear P2 F2)
                | (go_at_call 82; ((with_reducible refine (HT.out _ _ P.out).mono ?_); rintro r w' ⟨rfl, hb⟩)))
              exact ⟨rfl, rfl, (HB.out _ _ F.out).trans hb⟩
            · rw [HR.out]
              show Calls _ _ _ _ (fun e w' => e = .panicked (errV 2) ∧ Below B w w')
              go_enter Try.func85, Try.ntmps85
              go_wp2_with (first
                | (go_at_call 101; ((with_reducible refine HN.out.mono ?_); rintro r w1 ⟨rfl, hb1⟩); have P := Lib.hid (HP.out.below hb1); have F := Lib.hid (Fr.of_below (bb := pb) (v := v) hb1))
                | (go_at_call 104; ((with_reducible refine (HPre.out _).mono ?_); rintro r w' ⟨rfl, rfl⟩))
                | (go_at_call 53; ((with_reducible refine (HEr.out _ _ P.out).mono ?_); rintro r w' ⟨rfl, v', hP, hF⟩); have P2 := Lib.hid hP; have F2 := Lib.hid (F.out.trans hF); clear P F hP hF; have P := P2; have F := F2; clear P2 F2)
                | (go_at_call 82; ((with_reducible refine (HT1.out _ _ P.out).mono ?_); rintro r w' ⟨rfl, v', hP, hF⟩); have P2 := Lib.hid hP; have F2 := Lib.hid (F.out.trans hF); clear P F hP hF; have P := P2; have F := F2; clear P2 F2)
                | (go_at_call 105; ((with_reducible refine (HSuf.out _).mono ?_); rintro r w' ⟨rfl, rfl⟩))
                | (go_at_fn K; ((with_reducible refine (HO2.out _ _ P.out).mono ?_); rintro r w' ⟨rfl, v', hP, hF⟩); have P2 := Lib.hid hP; have F2 := Lib.hid (F.out.trans hF); clear P F hP hF; have P := P2; have F := F2; clear P2 F2)
                | (go_at_call 82; ((with_reducible refine (HT.out _ _ P.out).mono ?_); rintro r w' ⟨rfl, v', hP, hF⟩); have P2 := Lib.hid hP; have F2 := Lib.hid (F.out.trans hF); clear P F hP hF; have P := P2; have F := F2; clear P2 F2))
              exact ⟨rfl, rfl, HB.out _ _ F.out⟩
            · rw [HR.out.1]
              have hkk : s.size - (Dl s (k4 + 1)).length = k4 + 1 := by rw [Dl_len]; have := HR.out.2; omega
              show Calls _ _ _ _ (fun e w' => e = .returned (.tuple #[]) ∧ ∃ v', PsAt w' B pb s (s.size - (Dl s (k4 + 1)).length) v' (l ++ flat (.two op a b) l.length) ∧ Fr pb v v' w w')
              rw [hkk]
              clear hkk
              go_enter Try.func85, Try.ntmps85
              go_wp2_with (first
                | (go_at_call 101; ((with_reducible refine HN.out.mono ?_); rintro r w1 ⟨rfl, hb1⟩); have P := Lib.hid (HP.out.below hb1); have F := Lib.hid (Fr.of_below (bb := pb) (v := v) hb1))
                | (go_at_call 104; ((with_reducible refine (HPre.out _).mono ?_); rintro r w' ⟨rfl, rfl⟩))
                | (go_at_call 53; ((with_reducible refine (HEr.out _ _ P.out).mono ?_); rintro r w' ⟨rfl, v', hP, hF⟩); have P2 := Lib.hid hP; have F2 := Lib.hid (F.out.trans hF); clear P F hP hF; have P := P2; have F := F2; clear P2 F2)
                | (go_at_call 82; ((with_reducible refine (HT1.out _ _ P.out).mono ?_); rintro r w' ⟨rfl, v', hP, hF⟩); have P2 := Lib.hid hP; have F2 := Lib.hid (F.out.trans hF); clear P F hP hF; have P := P2; have F := F2; clear P2 F2)
                | (go_at_call 105; ((with_reducible refine (HSuf.out _).mono ?_); rintro r w' ⟨rfl, rfl⟩))
                | (go_at_fn K; ((with_reducible refine (HO2.out _ _ P.out).mono ?_); rintro r w' ⟨rfl, v', hP, hF⟩); have P2 := Lib.hid hP; have F2 := Lib.hid (F.out.trans hF); clear P F hP hF; have P := P2; have F := F2; clear P2 F2)
                | (go_at_call 82; ((with_reducible refine (HT.out _ _ P.out).mono ?_); rintro r w' ⟨rfl, v', hP, hF⟩); have P2 := Lib.hid hP; have F2 := Lib.hid (F.out.trans hF); clear P F hP hF; have P := P2; have F := F2; clear P2 F2))
              go_end0
              exact ⟨rfl, _, P.out, F.out⟩
        · rw [if_neg hmid] at HX
          rw [HX]
          have hm0 : midOp c = 0 := Decidable.byContradiction hmid
          have HSuf : Hid (∀ X, Calls Try.prog 105 #[.pointer (some ⟨pb, 0, none⟩), .int .u8 c] X fun e w' => e = .panicked (errV 2) ∧ X = w') := fun X => suffix_no pb c X hm0 h42
          clear HX HE hmid hm0 h42
          show Calls _ _ _ _ (fun e w' => e = .panicked (errV 2) ∧ Below B w w')
          go_enter Try.func85, Try.ntmps85
          go_wp2_with (first
            | (go_at_call 101; ((with_reducible refine HN.out.mono ?_); rintro r w1 ⟨rfl, hb1⟩); have P := Lib.hid (HP.out.below hb1); have F := Lib.hid (Fr.of_below (bb := pb) (v := v) hb1))
            | (go_at_call 104; ((with_reducible refine (HPre.out _).mono ?_); rintro r w' ⟨rfl, rfl⟩))
            | (go_at_call 53; ((with_reducible refine (HEr.out _ _ P.out).mono ?_); rintro r w' ⟨rfl, v', hP, hF⟩); have P2 := Lib.hid hP; have F2 := Lib.hid (F.out.trans hF); clear P F hP hF; have P := P2; have F := F2; clear P2 F2)
            | (go_at_call 82; ((with_reducible refine (HT1.out _ _ P.out).mono ?_); rintro r w' ⟨rfl, v', hP, hF⟩); have P2 := Lib.hid hP; have F2 := Lib.hid (F.out.trans hF); clear P F hP hF; have P := P2; have F := F2; clear P2 F2)
            | (go_at_call 105; ((with_reducible refine (HSuf.out _).mono ?_); rintro r w' ⟨rfl, rfl⟩)))
          exact ⟨rfl, rfl, HB.out _ _ F.out⟩
end Go.Proofs.Yteckkbjpeckjmaa.Rx
