/- Expressions in a text (package regex): what stands in parentheses. -/
import Derived.Test.YtbmamkackigdaabYZI
namespace Go.Proofs.Ytbmamkackigdaab.Rx
open Go Go.RowKit Go.Shelf Go.Proofs.Ytbmamkackigdaab
set_option linter.unusedVariables false
set_option maxRecDepth 100000
theorem eat_Dl {s : ByteArray} {k : Nat} (h : k < s.size) : eat 41 (Dl s k) = if ch s k = 41 then .ok (Dl s (k + 1)) else .error 2 := by
  rw [Dl_cons s k h, eat_cons, ofNat_ch]
theorem eat_end (s : ByteArray) : eat 41 (Dl s s.size) = .error 3 := by rw [Dl_end]; rfl
def eatT (t : Ex) : Except Int (List UInt8) → Except Int (Ex × List UInt8)
  | .error e => .error e
  | .ok r => .ok (t, r)
/-- What stands before the closing parenthesis is asked for. -/
def GMid (B pb : Nat) (s : ByteArray) (v : Value) (l : List Pc) (w : World) (X : Except Int (Ex × List UInt8)) (wx : World) : Prop :=
  ∃ t k v', k ≤ s.size ∧ X = eatT t (eat 41 (Dl s k)) ∧ PsAt wx B pb s k v' (l ++ flat t l.length) ∧ Fr pb v v' w wx
theorem pex_grp {s : ByteArray} {f i : Nat} (h : i < s.size) : pex (f + 1) (40 :: Dl s i) =
    if preOp (ch s i) ≠ 0 then
      (match pex f (Dl s (i + 1)) with
      | .error e => .error e
      | .ok (a, r2) => eatT (.one (preOp (ch s i)) a) (eat 41 r2))
    else
      (match pex f (Dl s i) with
      | .error e => .error e
      | .ok (_, []) => .error 3
      | .ok (a, d2 :: r3) =>
        if d2.toNat = 42 then eatT (.one 8 a) (eat 41 r3)
        else if midOp d2.toNat ≠ 0 then
          (match pex f r3 with
          | .error e => .error e
          | .ok (b, r4) => eatT (.two (midOp d2.toNat) a b) (eat 41 r4))
        else .error 2) := by
  rw [Dl_cons s i h, pex_open, ofNat_ch, ← Dl_cons s i h]
  by_cases hp : preOp (ch s i) ≠ 0
  · rw [if_pos hp, if_pos hp]
    cases pex f (Dl s (i + 1)) with
    | error e => rfl
    | ok x =>
      obtain ⟨a, r2⟩ := x
      simp only
      cases eat 41 r2 <;> rfl
  · rw [if_neg hp, if_neg hp]
    cases pex f (Dl s i) with
    | error e => rfl
    | ok x =>
      obtain ⟨a, r⟩ := x
      cases r with
      | nil => rfl
      | cons d2 r3 =>
        simp only
        by_cases h42 : d2.toNat = 42
        · rw [if_pos h42, if_pos h42]
          cases eat 41 r3 <;> rfl
        · rw [if_neg h42, if_neg h42]
          by_cases hm : midOp d2.toNat ≠ 0
          · rw [if_pos hm, if_pos hm]
            cases pex f r3 with
            | error e => rfl
            | ok y =>
              obtain ⟨b, r4⟩ := y
              simp only
              cases eat 41 r4 <;> rfl
          · rw [if_neg hm, if_neg hm]
theorem preOp_in {d : Nat} (h : preOp d ≠ 0) : preOp d = 7 ∨ preOp d = 9 ∨ preOp d = 10 := by
  unfold preOp at *
  split
  · exact .inl rfl
  · split
    · exact .inr (.inl rfl)
    · split
      · exact .inr (.inr rfl)
      · rename_i h1 h2 h3
        rw [if_neg h1, if_neg h2, if_neg h3] at h
        exact absurd rfl h
theorem midOp_in {d : Nat} (h : midOp d ≠ 0) : midOp d = 4 ∨ midOp d = 5 ∨ midOp d = 6 := by
  unfold midOp at *
  split
  · exact .inl rfl
  · split
    · exact .inr (.inl rfl)
    · split
      · exact .inr (.inr rfl)
      · rename_i h1 h2 h3
        rw [if_neg h1, if_neg h2, if_neg h3] at h
        exact absurd rfl h
theorem preK_in {op : Nat} (h : op = 7 ∨ op = 9 ∨ op = 10) : preK op = 144 ∨ preK op = 145 ∨ preK op = 146 := by
  rcases h with rfl | rfl | rfl
  · exact .inl rfl
  · exact .inr (.inl rfl)
  · exact .inr (.inr rfl)
theorem midK_in {op : Nat} (h : op = 4 ∨ op = 5 ∨ op = 6) : midK op = 147 ∨ midK op = 148 ∨ midK op = 149 := by
  rcases h with rfl | rfl | rfl
  · exact .inl rfl
  · exact .inr (.inl rfl)
  · exact .inr (.inr rfl)
theorem flat_one (op : Nat) (a : Ex) (k : Nat) : flat (.one op a) k = flat a k ++ [⟨op, 0, 0, ((k + a.size : Nat) : Int) - 1, 0⟩] := rfl
theorem flat_two (op : Nat) (a b : Ex) (k : Nat) : flat (.two op a b) k = flat a k ++ (flat b (k + a.size) ++ [⟨op, 0, 0, ((k + a.size : Nat) : Int) - 1, ((k + a.size + b.size : Nat) : Int) - 1⟩]) := rfl
theorem take_st (B pb : Nat) (s : ByteArray) (i : Nat) (c : Nat) (X : World) (v : Value) (l : List Pc) (h : PsAt X B pb s i v l) (hs : s.size ≤ 5000) (hi : i < s.size) (hc : c = ch s i) (j : Nat) (hj : j = i + 1) :
    Calls Try.prog 103 #[.pointer (some ⟨pb, 0, none⟩)] X fun e w' => e = .returned (.int .u8 c) ∧ ∃ v', PsAt w' B pb s j v' l ∧ Fr pb v v' X w' := by
  subst hc hj
  exact (take_ok B pb s i v l X h hs hi).mono fun e w' ⟨h1, h2, h3⟩ => ⟨h1, v, h2, h3⟩
theorem take_no (B pb : Nat) (s : ByteArray) (i : Nat) (X : World) (v : Value) (l : List Pc) (h : PsAt X B pb s i v l) (hs : s.size ≤ 5000) (hi : i = s.size) :
    Calls Try.prog 103 #[.pointer (some ⟨pb, 0, none⟩)] X fun e w' => e = .panicked (errV 3) ∧ Below B X w' := by
  subst hi
  exact (take_end B pb s v l X h hs).mono fun e w' ⟨h1, h2⟩ => ⟨h1, h2.mono h.Bw⟩
/-- What the closing parenthesis makes of it. -/
theorem tail_cases (B pb : Nat) (s : ByteArray) (k : Nat) (t : Ex) (hk : k ≤ s.size) (hs : s.size ≤ 4096) (L : List Pc) :
    (Hid (eatT t (eat 41 (Dl s k)) = .error 3) ∧ Hid (∀ X v, PsAt X B pb s k v L → Calls Try.prog 103 #[.pointer (some ⟨pb, 0, none⟩)] X fun e w' => e = .panicked (errV 3) ∧ Below B X w')) ∨
    (∃ c : Nat, Hid (eatT t (eat 41 (Dl s k)) = .error 2) ∧ ((c : Int) != 41) = true ∧ Hid (∀ X v, PsAt X B pb s k v L → Calls Try.prog 103 #[.pointer (some ⟨pb, 0, none⟩)] X fun e w' => e = .returned (.int .u8 c) ∧ ∃ v', PsAt w' B pb s (k + 1) v' L ∧ Fr pb v v' X w')) ∨
    (Hid (eatT t (eat 41 (Dl s k)) = .ok (t, Dl s (k + 1)) ∧ k < s.size) ∧ Hid (∀ X v, PsAt X B pb s k v L → Calls Try.prog 103 #[.pointer (some ⟨pb, 0, none⟩)] X fun e w' => e = .returned (.int .u8 41) ∧ ∃ v', PsAt w' B pb s (k + 1) v' L ∧ Fr pb v v' X w')) := by
  by_cases he : k = s.size
  · refine .inl ⟨?_, fun X v h => take_no B pb s k X v L h (by omega) he⟩
    subst he
    show _ = _
    rw [eat_end]; rfl
  · have hk : k < s.size := by omega
    by_cases h41 : ch s k = 41
    · refine .inr (.inr ⟨⟨?_, hk⟩, fun X v h => ?_⟩)
      · rw [eat_Dl hk, if_pos h41]; rfl
      · have := take_st B pb s k (ch s k) X v L h (by omega) hk rfl _ rfl
        rw [h41] at this
        exact this
    · refine .inr (.inl ⟨ch s k, ?_, int_ne (by omega), fun X v h => take_st B pb s k (ch s k) X v L h (by omega) hk rfl _ rfl⟩)
      show _ = _
      rw [eat_Dl hk, if_neg h41]; rfl
set_option maxHeartbeats 16000000 in
theorem group_pre (B pb : Nat) (s : ByteArray) (f : Nat) (HE : ExC B pb s f) (i : Nat) (v : Value) (l : List Pc) (w : World) (h : PsAt w B pb s i v l) (hi : i < s.size) (hf : s.size - i ≤ f) (hl : l.length + (s.size - i) ≤ 9000) (hs : s.size ≤ 4096) (hp : preOp (ch s i) ≠ 0) :
    Calls Try.prog 106 #[.pointer (some ⟨pb, 0, none⟩)] w (ExPost B pb s v l w (resP l.length (pex (f + 1) (40 :: Dl s i)))) := by
  have hneq : ∀ (fn : Fn) (first cap : Array Value) (w : World), (binOp BinOp.neq 1 (.func fn first cap) .nilFunc).run Try.prog w = .ok (.bool true) w := fun _ _ _ _ => by kernel_rfl
  have HX := pex_grp (f := f) hi
  rw [if_pos hp] at HX
  have HN := Lib.hid (next_ok B pb s i v l w h (by omega) hi)
  have HP := Lib.hid h
  have HB : Hid (∀ wx w', Fr pb v wx w w' → Below B w w') := fun wx w' hw => h.bel hw
  have HPre := Lib.hid fun X => prefix_yes pb _ X hp
  have hop := preOp_in hp
  obtain ⟨j, hj⟩ : ∃ j, j = i + 1 := ⟨_, rfl⟩
  have HEx := Lib.hid fun X v' (hX : PsAt X B pb s j v' l) => HE j v' l X hX (by omega) (by omega) (by omega)
  rw [← hj] at HX
  have hij : (i : Int) + 1 = (j : Int) := by omega
  have hj1 : j ≤ s.size := by omega
  have hlj : l.length + (s.size - j) ≤ 9000 := by omega
  generalize preOp (ch s i) = op at *
  generalize ch s i = d at *
  unfold mthF at HPre
  have hK := preK_in hop
  have eK : Enters Try.prog (preK op) := by
    rcases hK with h | h | h <;> rw [h]
    · exact enters_of Try.func144 (by kernel_rfl) rfl
    · exact enters_of Try.func145 (by kernel_rfl) rfl
    · exact enters_of Try.func146 (by kernel_rfl) rfl
  have HOp := Lib.hid fun X k v' L (hX : PsAt X B pb s k v' L) (hL : L.length ≤ 90000) => pre_any B pb s k v' L op X hX hL hop
  generalize preK op = K at *
  unfold Enters at eK
  clear hK hp h HE hj
  cases hx : pex f (Dl s j) with
  | error k =>
    rw [hx] at HX HEx
    have HX2 : pex (f + 1) (40 :: Dl s i) = .error k := HX
    rw [HX2]
    have HEr : Hid (∀ X v', PsAt X B pb s j v' l → Calls Try.prog 86 #[.pointer (some ⟨pb, 0, none⟩)] X fun e w' => e = .panicked (errV k) ∧ Below B X w') := fun X v' hX => HEx.out X v' hX
    clear HX HX2 hx HEx HOp
    show Calls _ _ _ _ (fun e w' => e = .panicked (errV k) ∧ Below B w w')
    go_enter Try.func106, Try.ntmps106
    go_wp2_with (first
      | (go_at_call 119; ((with_reducible refine HN.out.mono ?_); rintro r w1 ⟨rfl, hb1⟩); have P := Lib.hid (HP.out.below hb1); have F := Lib.hid (Fr.of_below (bb := pb) (v := v) hb1); obtain ⟨c0, c1, c2⟩ := P.out.cells; have f1 := P.out.free 1)
      | (go_at_call 122; ((with_reducible refine (HPre.out _).mono ?_); rintro r w' ⟨rfl, rfl⟩))
      | (go_at_call 86; have P2 := Lib.hid (P.out.move j); have F2 := Lib.hid (F.out.trans (P.out.fr_move j)); clear P F c0 c1 c2 f1; have P := P2; have F := F2; clear P2 F2; ((with_reducible refine (HEr.out _ _ P.out).mono ?_); rintro r w' ⟨rfl, hb⟩)))
    exact ⟨rfl, rfl, (HB.out _ _ F.out).trans hb⟩
  | ok ar =>
    obtain ⟨a, r⟩ := ar
    rw [hx] at HX HEx
    obtain ⟨hr, hsz, hrl⟩ := pex_left hx hj1
    obtain ⟨k, hk⟩ : ∃ k, k = s.size - r.length := ⟨_, rfl⟩
    have HEr : Hid (∀ X v', PsAt X B pb s j v' l → Calls Try.prog 86 #[.pointer (some ⟨pb, 0, none⟩)] X fun e w' => e = .returned (.tuple #[]) ∧ ∃ v2, PsAt w' B pb s k v2 (l ++ flat a l.length) ∧ Fr pb v' v2 X w') := by
      rw [hk]; exact fun X v' hX => HEx.out X v' hX
    have hks : k ≤ s.size := by omega
    have HO2 : Hid (∀ X v', PsAt X B pb s k v' (l ++ flat a l.length) → Calls Try.prog K #[.pointer (some ⟨pb, 0, none⟩)] X fun e w' => e = .returned (.tuple #[]) ∧ ∃ v2, PsAt w' B pb s k v2 (l ++ flat (.one op a) l.length) ∧ Fr pb v' v2 X w') := fun X v' hX => by
      have := HOp.out X k v' _ hX (by rw [List.length_append, flat_len]; omega)
      rw [List.length_append, flat_len, List.append_assoc] at this
      exact this
    rw [← hk] at hr
    have HX2 : pex (f + 1) (40 :: Dl s i) = eatT (.one op a) (eat 41 (Dl s k)) := by rw [HX, ← hr]
    rw [HX2]
    have HT := tail_cases B pb s k (.one op a) hks hs (l ++ flat (.one op a) l.length)
    clear HX HX2 hx HEx HOp hr hsz hrl hk
    rcases HT with ⟨HR, HT⟩ | ⟨c, HR, hc, HT⟩ | ⟨HR, HT⟩
    · rw [HR.out]
      show Calls _ _ _ _ (fun e w' => e = .panicked (errV 3) ∧ Below B w w')
      go_enter Try.func106, Try.ntmps106
      go_wp2_with (first
        | (go_at_call 119; ((with_reducible refine HN.out.mono ?_); rintro r w1 ⟨rfl, hb1⟩); have P := Lib.hid (HP.out.below hb1); have F := Lib.hid (Fr.of_below (bb := pb) (v := v) hb1); obtain ⟨c0, c1, c2⟩ := P.out.cells; have f1 := P.out.free 1)
        | (go_at_call 122; ((with_reducible refine (HPre.out _).mono ?_); rintro r w' ⟨rfl, rfl⟩))
        | (go_at_call 86; have P2 := Lib.hid (P.out.move j); have F2 := Lib.hid (F.out.trans (P.out.fr_move j)); clear P F c0 c1 c2 f1; have P := P2; have F := F2; clear P2 F2; ((with_reducible refine (HEr.out _ _ P.out).mono ?_); rintro r w' ⟨rfl, v', hP, hF⟩); have P2 := Lib.hid hP; have F2 := Lib.hid (F.out.trans hF); clear P F hP hF; have P := P2; have F := F2; clear P2 F2)
        | (go_at_fn K; ((with_reducible refine (HO2.out _ _ P.out).mono ?_); rintro r w' ⟨rfl, v', hP, hF⟩); have P2 := Lib.hid hP; have F2 := Lib.hid (F.out.trans hF); clear P F hP hF; have P := P2; have F := F2; clear P2 F2)
        | (go_at_call 103; ((with_reducible refine (HT.out _ _ P.out).mono ?_); rintro r w' ⟨rfl, hb⟩)))
      exact ⟨rfl, rfl, (HB.out _ _ F.out).trans hb⟩
    · rw [HR.out]
      show Calls _ _ _ _ (fun e w' => e = .panicked (errV 2) ∧ Below B w w')
      go_enter Try.func106, Try.ntmps106
      go_wp2_with (first
        | (go_at_call 119; ((with_reducible refine HN.out.mono ?_); rintro r w1 ⟨rfl, hb1⟩); have P := Lib.hid (HP.out.below hb1); have F := Lib.hid (Fr.of_below (bb := pb) (v := v) hb1); obtain ⟨c0, c1, c2⟩ := P.out.cells; have f1 := P.out.free 1)
        | (go_at_call 122; ((with_reducible refine (HPre.out _).mono ?_); rintro r w' ⟨rfl, rfl⟩))
        | (go_at_call 86; have P2 := Lib.hid (P.out.move j); have F2 := Lib.hid (F.out.trans (P.out.fr_move j)); clear P F c0 c1 c2 f1; have P := P2; have F := F2; clear P2 F2; ((with_reducible refine (HEr.out _ _ P.out).mono ?_); rintro r w' ⟨rfl, v', hP, hF⟩); have P2 := Lib.hid hP; have F2 := Lib.hid (F.out.trans hF); clear P F hP hF; have P := P2; have F := F2; clear P2 F2)
        | (go_at_fn K; ((with_reducible refine (HO2.out _ _ P.out).mono ?_); rintro r w' ⟨rfl, v', hP, hF⟩); have P2 := Lib.hid hP; have F2 := Lib.hid (F.out.trans hF); clear P F hP hF; have P := P2; have F := F2; clear P2 F2)
        | (go_at_call 103; ((with_reducible refine (HT.out _ _ P.out).mono ?_); rintro r w' ⟨rfl, v', hP, hF⟩); have P2 := Lib.hid hP; have F2 := Lib.hid (F.out.trans hF); clear P F hP hF; have P := P2; have F := F2; clear P2 F2))
      exact ⟨rfl, rfl, HB.out _ _ F.out⟩
    · rw [HR.out.1]
      have hkk : s.size - (Dl s (k + 1)).length = k + 1 := by rw [Dl_len]; have := HR.out.2; omega
      show Calls _ _ _ _ (fun e w' => e = .returned (.tuple #[]) ∧ ∃ v', PsAt w' B pb s (s.size - (Dl s (k + 1)).length) v' (l ++ flat (.one op a) l.length) ∧ Fr pb v v' w w')
      rw [hkk]
      clear hkk
      go_enter Try.func106, Try.ntmps106
      go_wp2_with (first
        | (go_at_call 119; ((with_reducible refine HN.out.mono ?_); rintro r w1 ⟨rfl, hb1⟩); have P := Lib.hid (HP.out.below hb1); have F := Lib.hid (Fr.of_below (bb := pb) (v := v) hb1); obtain ⟨c0, c1, c2⟩ := P.out.cells; have f1 := P.out.free 1)
        | (go_at_call 122; ((with_reducible refine (HPre.out _).mono ?_); rintro r w' ⟨rfl, rfl⟩))
        | (go_at_call 86; have P2 := Lib.hid (P.out.move j); have F2 := Lib.hid (F.out.trans (P.out.fr_move j)); clear P F c0 c1 c2 f1; have P := P2; have F := F2; clear P2 F2; ((with_reducible refine (HEr.out _ _ P.out).mono ?_); rintro r w' ⟨rfl, v', hP, hF⟩); have P2 := Lib.hid hP; have F2 := Lib.hid (F.out.trans hF); clear P F hP hF; have P := P2; have F := F2; clear P2 F2)
        | (go_at_fn K; ((with_reducible refine (HO2.out _ _ P.out).mono ?_); rintro r w' ⟨rfl, v', hP, hF⟩); have P2 := Lib.hid hP; have F2 := Lib.hid (F.out.trans hF); clear P F hP hF; have P := P2; have F := F2; clear P2 F2)
        | (go_at_call 103; ((with_reducible refine (HT.out _ _ P.out).mono ?_); rintro r w' ⟨rfl, v', hP, hF⟩); have P2 := Lib.hid hP; have F2 := Lib.hid (F.out.trans hF); clear P F hP hF; have P := P2; have F := F2; clear P2 F2))
      go_end0
      exact ⟨rfl, _, P.out, F.out⟩
end Go.Proofs.Ytbmamkackigdaab.Rx
