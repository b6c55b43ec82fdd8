/- NfaMatches: what its walk leans on. -/
import Derived.Test.YtbmamkackigdaaaFW
namespace Go.Proofs.Ytbmamkackigdaaa.Nf
open Go Go.RowKit Go.Proofs.Ytbmamkackigdaaa Go.Proofs.Ytbmamkackigdaaa.Cb
set_option linter.unusedVariables false
set_option linter.unusedSimpArgs false
set_option maxRecDepth 100000
def elN (n : Na) (x : Nat) : Int := if chkN n ≠ 0 then chkN n else if x < 2 ^ n.V.toNat then 0 else 1
theorem el_yes {n : Na} {x : Nat} (h0 : chkN n = 0) (h1 : x < 2 ^ n.V.toNat) : elN n x = 0 := by
  have hn : ¬ (chkN n ≠ 0) := fun h => h h0
  unfold elN
  rw [if_neg hn, if_pos h1]
theorem el_no {n : Na} {x : Nat} (h0 : chkN n = 0) (h1 : ¬ x < 2 ^ n.V.toNat) : elN n x = 1 := by
  have hn : ¬ (chkN n ≠ 0) := fun h => h h0
  unfold elN
  rw [if_neg hn, if_neg h1]
theorem el_bad {n : Na} {x : Nat} (h0 : chkN n ≠ 0) : elN n x = chkN n := by unfold elN; rw [if_pos h0]
def raN (n : Na) (xs : List Nat) (x : Nat) : List Nat := if elN n x = 0 then stepW n.es xs x else []
def rrN (n : Na) (l : List Nat) : List Nat := if wrongN n l = 0 then runW n l else []
section
variable (n : Na) (A B C : Option Addr) (a b c : Nat) (w : World) (hx : NaAt w n A B C) (hl : NaLen n)
include hx hl
theorem After_code (E : Option Addr) (xs : List Nat) (d : Nat) (x : Nat) (h8 : x < 256) (hE : Words w E xs) (ux : U64 xs) :
    Calls Try.prog 19 #[.agg #[.int .i64 n.V, .int .i64 n.S, .slice A n.st.length a, .slice B n.fi.length b, .slice C n.es.length c], .slice E xs.length d, .int .u8 x] w fun e w' =>
      ∃ A' c', e = .returned (.tuple #[.slice A' (raN n xs x).length c', .int .i64 (elN n x)]) ∧ OwnW w.heap.size w' A' c' (raN n xs x) ∧ Below w.heap.size w w' := by
  by_cases h0 : chkN n = 0
  · by_cases h1 : x < 2 ^ n.V.toNat
    · have hr : raN n xs x = stepW n.es xs x := if_pos (el_yes h0 h1)
      rw [hr, el_yes h0 h1]
      exact After_good n A B C a b c w hx hl E xs d x h8 hE ux h0 h1
    · have hr : raN n xs x = [] := if_neg (by rw [el_no h0 h1]; decide)
      rw [hr, el_no h0 h1]
      exact (After_letter n A B C a b c w hx hl E xs d x h8 h0 h1).mono fun e w' ⟨h2, h3⟩ => ⟨none, 0, h2, own_none _ _, h3⟩
  · have hr : raN n xs x = [] := if_neg (by rw [el_bad h0]; exact h0)
    rw [hr, el_bad h0]
    exact (After_bad n A B C a b c w hx hl E xs d x h0).mono fun e w' ⟨h2, h3⟩ => ⟨none, 0, h2, own_none _ _, h3⟩
theorem Run_code (D : Option Addr) (l : List Nat) (d : Nat) (hw : Bys w D l) (h8 : ∀ y ∈ l, y < 256) (hll : l.length ≤ 1000000) :
    Calls Try.prog 20 #[.agg #[.int .i64 n.V, .int .i64 n.S, .slice A n.st.length a, .slice B n.fi.length b, .slice C n.es.length c], .slice D l.length d] w fun e w' =>
      ∃ A' c', e = .returned (.tuple #[.slice A' (rrN n l).length c', .int .i64 (wrongN n l)]) ∧ OwnW w.heap.size w' A' c' (rrN n l) ∧ Below w.heap.size w w' := by
  unfold rrN
  by_cases h0 : wrongN n l = 0
  · rw [if_pos h0]
    have := Run_good n A B C a b c w hx hl D l d hw h8 hll h0
    rw [h0]
    exact this
  · rw [if_neg h0]
    exact (Run_bad n A B C a b c w hx hl D l d hw h8 hll h0).mono fun e w' ⟨h2, h3⟩ => ⟨none, 0, h2, own_none _ _, h3⟩
end
theorem word_one {n : Na} (h0 : chkN n = 0) (x : Nat) : wordE n.V [x] = elN n x := by
  unfold wordE
  rw [if_neg (by simp)]
  by_cases h : x < 2 ^ n.V.toNat
  · rw [el_yes h0 h, if_pos (by simp [h])]
  · rw [el_no h0 h, if_neg (by simp only [List.all_cons, List.all_nil, Bool.and_true, decide_eq_true_iff]; exact h)]
/-- A slice whose ints make the set r; what set answers of it. -/
def SetOk (X : World) (v : Value) (e : Int) (r : List Nat) : Prop := ∃ (A : Option Addr) (l : List Int) (c : Nat), v = .slice A l.length c ∧ Ints X A l ∧ l.length ≤ 1000000 ∧ (e = 0 → ofL l = r) ∧ (e ≠ 0 → r = [])
theorem SetOk.below {X Y : World} {v : Value} {e : Int} {r : List Nat} (h : SetOk X v e r) (hb : Below X.heap.size X Y) : SetOk Y v e r := by
  obtain ⟨A, l, c, h1, h2, h3⟩ := h
  exact ⟨A, l, c, h1, h2.below hb, h3⟩
theorem SetOk.call {X : World} {v : Value} {e : Int} {r : List Nat} (h : SetOk X v e r) :
    Calls Try.prog 24 #[v, .int .i64 e] X fun o w' => ∃ A' c', o = .returned (.slice A' r.length c') ∧ Words w' A' r ∧ Below X.heap.size X w' := by
  obtain ⟨A, l, c, rfl, h2, h3, h4, h5⟩ := h
  by_cases he : e = 0
  · subst he
    rw [← h4 rfl]
    exact set6_good A l c X h2 h3
  · rw [h5 he]
    refine (set6_bad A l.length c e he X).mono ?_
    rintro o w' ⟨rfl, rfl⟩
    exact ⟨none, 0, rfl, Vals.nil_, Below.refl _ _⟩
theorem SetOk.nil {X : World} {e : Int} {r : List Nat} (he : e ≠ 0) (hr : r = []) : SetOk X (.slice none 0 0) e r := ⟨none, [], 0, rfl, Vals.nil_, Nat.zero_le _, fun h => absurd h he, fun _ => hr⟩
theorem SetOk.after {X : World} {n : Na} {xs : List Nat} {x : Nat} {A : Option Addr} {c : Nat} (h0 : chkN n = 0) (he : elN n x = 0) (h : Ints X A (aftL n (elsI xs) x)) : SetOk X (.slice A (aftL n (elsI xs) x).length c) (elN n x) (raN n xs x) := by
  have hO := ok_of h0
  refine ⟨A, _, c, rfl, h, ?_, fun _ => ?_, fun h => absurd he h⟩
  · have : (aftL n (elsI xs) x).length ≤ n.S.toNat := aftTo_len
    have := hO.s64
    omega
  · unfold raN
    rw [if_pos he]
    exact ofL_of (ofL_canon _) (u64_step _ _ _) fun z => mem_aft hO (fun z => elsI_mem)
theorem SetOk.run {X : World} {n : Na} {l : List Nat} {A : Option Addr} {c : Nat} (h0 : chkN n = 0) (hs : n.st.length ≤ 1000000) (he : wrongN n l = 0) (h : Ints X A (runL n l l.length)) : SetOk X (.slice A (runL n l l.length).length c) (wrongN n l) (rrN n l) := by
  have hO := ok_of h0
  refine ⟨A, _, c, rfl, h, runL_len hO.s64 hs (Nat.le_refl _), fun _ => ?_, fun h => absurd he h⟩
  unfold rrN
  rw [if_pos he]
  refine ofL_of ?_ (u64_run _ _) fun z => by rw [mem_runL hO l.length (Nat.le_refl _), runTo_all]
  unfold runW
  rcases List.eq_nil_or_concat l with rfl | ⟨l', y, rfl⟩
  · exact ofL_canon _
  · rw [List.concat_eq_append, List.foldl_append]
    exact ofL_canon _
theorem Long1s_any (A : Option Addr) (l c : Nat) (X : World) (hl : l ≤ maxLen) (g : Nat) (hg : g = X.heap.size) :
    Calls Try.prog 9 #[.slice (some ⟨g, 0, none⟩) 1 1] (X.alloc (.cells #[.slice A l c] 27)) fun e w' => e = .returned (.bool (decide (80 < l))) ∧ Below X.heap.size X w' := by
  subst hg
  have hs : Sets (X.alloc (.cells #[.slice A l c] 27)) (some ⟨X.heap.size, 0, none⟩) 1 (fun _ => A) (fun _ => l) (fun _ => c) :=
    Ap.vals_new_ X _ 1 _ [.slice A l c] fun j hj => by
      match j, hj with
      | 0, _ => rfl
  refine (Long_any _ 1 1 _ _ _ _ hs (by decide) (fun j _ => hl)).mono ?_
  rintro e w' ⟨rfl, rfl⟩
  refine ⟨ret_b ?_, bal (Below.refl _ _) _⟩
  rw [Bool.eq_iff_iff]
  simp [allB]
theorem bys_one (W : World) (x : Nat) : Bys (W.alloc (.cells #[.int .u8 x] 5)) (some ⟨W.heap.size, 0, none⟩) [x] := bys_new W [x]
theorem ra_len (n : Na) (xs : List Nat) (x : Nat) : (raN n xs x).length ≤ 64 := by
  unfold raN
  split
  · exact IsSet.len (P := fun z => hasB (stepW n.es xs x) z = true) ⟨ofL_canon _, u64_step _ _ _, fun _ => Iff.rfl⟩
  · exact Nat.zero_le _
theorem rr_len (n : Na) (l : List Nat) : (rrN n l).length ≤ 64 := by
  unfold rrN
  split
  · refine IsSet.len (P := fun z => hasB (runW n l) z = true) ⟨?_, u64_run _ _, fun _ => Iff.rfl⟩
    unfold runW
    rcases List.eq_nil_or_concat l with rfl | ⟨l', y, rfl⟩
    · exact ofL_canon _
    · rw [List.concat_eq_append, List.foldl_append]
      exact ofL_canon _
  · exact Nat.zero_le _
theorem OverSet_keep (B : Nat) (A : Option Addr) (n c : Nat) (w : World) (hn : n ≤ 1000000) (hw : Dg.CanI B w A n) (B2 : Nat) (A2 : Option Addr) (n2 : Nat) (hw2 : Dg.CanI B2 w A2 n2) :
    Calls Try.prog 27 #[.slice A n c] w fun e w' => e = .returned (.tuple #[]) ∧ Below B w w' ∧ Dg.CanI B2 w' A2 n2 := by
  go_enter Try.func27, Try.ntmps27
  go_wp2
  go_loopw [2] (fun i wr => ∃ k : Nat, k ≤ n ∧ i = .int .i64 k ∧ Dg.CanI B wr A n ∧ Dg.CanI B2 wr A2 n2 ∧ Below B w wr) (fun i _ => n - (intOf i).toNat)
  case atStart => exact ⟨0, by omega, rfl, hw, hw2, Below.refl _ _⟩
  case round =>
    clear hw hw2
    obtain ⟨k, hk, rfl, hw, hw2, hb⟩ := hrel
    by_cases hlt : k < n
    · obtain ⟨ad, rfl, g1, g2, u, g3⟩ := hw k hlt
      have hb2 := hb.setCell (p := ad.add k) (by rw [addr_block]; exact g1) (.int .u64 77)
      have hw1 := hw.set (ad.add k) (.int .u64 77)
      have hw3 := hw2.set (ad.add k) (.int .u64 77)
      clear hb hw hw2 g1
      go_wp2
      go_roundw
      case rel => exact ⟨k + 1, by omega, by go_num, hw1, hw3, hb2⟩
      case measure => simp [intOf]; omega
    · obtain rfl : k = n := by omega
      go_wp2
      go_end0
      exact ⟨rfl, hb, hw2⟩
section
variable (n : Na) (A B C : Option Addr) (a b c : Nat) (E : Option Addr) (ss : List Nat) (cs : Nat) (x : Nat) (D : Option Addr) (l : List Nat) (d : Nat) (w : World)
set_option maxHeartbeats 16000000 in
theorem nfaMatches_walk (hx : NaAt w n A B C) (hM : NaMax n) (hs : Words w E ss) (us : U64 ss) (ls : ss.length ≤ cs) (ms : cs ≤ maxLen) (hx8 : x < 256) (hD : Bys w D l) (h8 : ∀ y ∈ l, y < 256) (mD : l.length ≤ maxLen) :
    Calls Try.prog 3 #[.agg #[.int .i64 n.V, .int .i64 n.S, .slice A n.st.length a, .slice B n.fi.length b, .slice C n.es.length c], .slice E ss.length cs, .int .u8 x, .slice D l.length d] w fun e w' => e = .returned (.bool true) ∧ Below w.heap.size w w' := by
  have HAw := Lib.hid fun X => awake_any6 X
  have HLo : Hid (∀ X g, g = X.heap.size → Calls Try.prog 8 #[.slice (some ⟨g, 0, none⟩) 1 1] (X.alloc (.cells #[.int .i64 n.V, .int .i64 n.S, .slice A n.st.length a, .slice B n.fi.length b, .slice C n.es.length c] 25)) fun e w' => e = .returned (.bool (longB n)) ∧ Below X.heap.size X w') := fun X g hg => by
    subst hg
    exact Long1_any n A B C a b c X hM.st hM.fi hM.es
  have HL1 := Lib.hid fun X => Long1s_any E ss.length cs X (by omega)
  have hB0 := Boxed5.mk0 w n A B C a b c
  have hb0 := bal (Below.refl w.heap.size w) (.cells #[.int .i64 n.V, .int .i64 n.S, .slice A n.st.length a, .slice B n.fi.length b, .slice C n.es.length c] 25)
  unfold maxLen at mD
  by_cases hlong : longB n = true ∨ 80 < ss.length ∨ 100 < l.length
  · have hor : (longB n = true) ∨ (longB n = false ∧ decide (80 < ss.length) = true) ∨ (longB n = false ∧ decide (80 < ss.length) = false ∧ decide ((100 : Int) < (l.length : Int)) = true) := by
      cases hc : longB n with
      | true => exact .inl rfl
      | false =>
        by_cases hc2 : 80 < ss.length
        · exact .inr (.inl ⟨rfl, decide_eq_true hc2⟩)
        · exact .inr (.inr ⟨rfl, decide_eq_false hc2, decide_eq_true (by rcases hlong with h | h | h; (rw [hc] at h; cases h); (exact absurd h hc2); omega)⟩)
    clear hlong hx hM hs hD h8 hB0 ls ms us
    generalize l.length = nl at *
    generalize decide (80 < ss.length) = L2 at *
    generalize ss.length = ns at *
    generalize longB n = L at *
    rcases hor with rfl | ⟨rfl, rfl⟩ | ⟨rfl, rfl, hd⟩
    all_goals
      go_enter Try.func3, Try.ntmps3
      go_wp2_with (first
        | (go_at_call 8; ((with_reducible refine (HLo.out _ _ (by simp)).mono ?_); rintro e w2 ⟨rfl, hb2⟩); replace hb0 := stepB hb0 hb2)
        | (go_at_call 9; ((with_reducible refine (HL1.out _ _ (by simp)).mono ?_); rintro e w2 ⟨rfl, hb2⟩); replace hb0 := stepB hb0 hb2)
        | (go_at_call 10; ((with_reducible refine (HAw.out _).mono ?_); rintro e w3 ⟨rfl, hb3⟩)))
      go_ret
      exact ⟨rfl, stepB hb0 hb3⟩
  have hL : longB n = false := by
    cases hc : longB n with
    | true => exact absurd (.inl hc) hlong
    | false => rfl
  have hs80 : ss.length ≤ 80 := by omega
  have hl100 : l.length ≤ 100 := by omega
  have hd1 : decide ((100 : Int) < (l.length : Int)) = false := decide_eq_false (by omega)
  have hlen := long_len hL
  rw [hL] at HLo
  rw [decide_eq_false (by omega : ¬ 80 < ss.length)] at HL1
  clear hlong hM hL
  have HCN := Lib.hid fun X (hX : Below w.heap.size w X) => CopyNFA_any n A B C a b c X (hx.below hX) hlen
  have HCB := Lib.hid fun X (hX : Below w.heap.size w X) => CopyBytes6_any D l d X (hD.below hX) (by omega)
  have HC := Lib.hid fun X (hX : Below w.heap.size w X) => refCheck6_any n A B C a b c X (hx.below hX) hlen
  have HAc := Lib.hid fun X (hX : Below w.heap.size w X) => refAccepts_any n A B C a b c X (hx.below hX) hlen D l d (hD.below hX) h8 (by omega)
  have HAm := Lib.hid fun X (hX : Below w.heap.size w X) A1 B1 C1 a1 b1 c1 (h : NaAt X n A1 B1 C1) => After_code n A1 B1 C1 a1 b1 c1 X h hlen E ss cs x hx8 (hs.below hX) us
  have HRm := Lib.hid fun X A1 B1 C1 a1 b1 c1 (h : NaAt X n A1 B1 C1) D1 d1 (hb : Bys X D1 l) => Run_code n A1 B1 C1 a1 b1 c1 X h hlen D1 l d1 hb h8 (by omega)
  have HAcm := Lib.hid fun X A1 B1 C1 a1 b1 c1 (h : NaAt X n A1 B1 C1) D1 d1 (hb : Bys X D1 l) => Accepts_any n A1 B1 C1 a1 b1 c1 X h hlen D1 l d1 hb h8 (by omega)
  have HCm := Lib.hid fun X A1 B1 C1 a1 b1 c1 (h : NaAt X n A1 B1 C1) => Check6_any n A1 B1 C1 a1 b1 c1 X h hlen
  have HEa := Lib.hid fun X A1 B1 c1 d1 (h1 : Words X A1 (raN n ss x)) (h2 : Words X B1 (raN n ss x)) => EqualSet_same A1 B1 (raN n ss x) c1 d1 X h1 h2 (Nat.le_trans (ra_len n ss x) (by decide))
  have HEr := Lib.hid fun X A1 B1 c1 d1 (h1 : Words X A1 (rrN n l)) (h2 : Words X B1 (rrN n l)) => EqualSet_same A1 B1 (rrN n l) c1 d1 X h1 h2 (Nat.le_trans (rr_len n l) (by decide))
  have HEN := Lib.hid fun X (hX : Below w.heap.size w X) A1 B1 C1 a1 b1 c1 (h : NaAt X n A1 B1 C1) => EqualNFA_same n A1 B1 C1 A B C a1 b1 c1 a b c X h (hx.below hX) hlen
  have HEB := Lib.hid fun X (hX : Below w.heap.size w X) D1 d1 (h : Bys X D1 l) => EqualBytes6_same D1 D l d1 d X h (hD.below hX) (by omega)
  have HOa := Lib.hid fun (Bs : Nat) X A1 c1 (h : OwnW Bs X A1 c1 (raN n ss x)) A2 c2 (h2 : OwnW Bs X A2 c2 (rrN n l)) => OverSet_keep Bs A1 (raN n ss x).length c1 X (Nat.le_trans (ra_len n ss x) (by decide)) (Dg.CanI.own h.1) Bs A2 (rrN n l).length (Dg.CanI.own h2.1)
  have HOr := Lib.hid fun (Bs : Nat) X A1 c1 (h : Dg.CanI Bs X A1 (rrN n l).length) => OverSet_any Bs A1 (rrN n l).length c1 X (Nat.le_trans (rr_len n l) (by decide)) h
  have HLi : Hid (∀ X, Below w.heap.size w X → Calls Try.prog 16 #[.slice E ss.length cs] X fun e w' => ∃ A' c', e = .returned (.slice A' (elsI ss).length c') ∧ Ints w' A' (elsI ss) ∧ Below X.heap.size X w') := fun X hX => (refList_any E ss cs X (hs.below hX) us hs80).mono fun e w' ⟨v, he, ho, hb⟩ => by
    obtain ⟨A', c', rfl, _⟩ := Ap.own_form ho
    refine ⟨A', c', by rw [elsI_len]; exact he, ?_, hb⟩
    have h1 : (elsI ss).map (Value.int .i64) = ivs (els ss) := by simp [elsI, ivs]
    rw [← h1] at ho
    exact Dg.ints_row ho (by rw [elsI_len])
  by_cases h0 : chkN n = 0
  · have hO := ok_of h0
    obtain ⟨v, hv⟩ : ∃ v : Nat, n.V = v := ⟨n.V.toNat, by have := hO.v0; omega⟩
    have hv6 : v ≤ 6 := by have := hO.v6; omega
    have HWx : Hid (∀ X g, Bys X (some ⟨g, 0, none⟩) [x] → Calls Try.prog 14 #[.slice (some ⟨g, 0, none⟩) 1 1, .int .i64 n.V] X fun r w' => r = .returned (.int .i64 (elN n x)) ∧ Below X.heap.size X w') := fun X g h => by
      have := refWord_any v hv6 (some ⟨g, 0, none⟩) [x] 1 X h (fun y hy => by rw [List.mem_singleton.1 hy]; exact hx8) (by simp)
      rw [← hv, word_one h0] at this
      exact this
    have HWw : Hid (∀ X, Below w.heap.size w X → Calls Try.prog 14 #[.slice D l.length d, .int .i64 n.V] X fun r w' => r = .returned (.int .i64 (wrongN n l)) ∧ Below X.heap.size X w') := fun X hX => by
      have := refWord_any v hv6 D l d X (hD.below hX) h8 (by omega)
      have e : wrongN n l = wordE n.V l := by unfold wrongN; rw [if_neg (fun h => h h0)]
      rw [← hv, ← e] at this
      exact this
    have HAr := Lib.hid fun X (hX : Below w.heap.size w X) A4 c4 (h : Ints X A4 (elsI ss)) => refAfter_any n A B C a b c X (hx.below hX) hlen hO A4 (elsI ss) c4 h (by rw [elsI_len]; exact Nat.le_trans (els_le ss) (by decide)) x hx8
    have HRr := Lib.hid fun X (hX : Below w.heap.size w X) => refRun_any n A B C a b c X (hx.below hX) hlen D l d (hD.below hX) h8 (by omega) hO
    have HSA : Hid (elN n x = 0 → ∀ X A4 c4, Ints X A4 (aftL n (elsI ss) x) → SetOk X (.slice A4 (aftL n (elsI ss) x).length c4) (elN n x) (raN n ss x)) := fun he X A4 c4 h => SetOk.after h0 he h
    have HSAn : Hid (elN n x ≠ 0 → ∀ X, SetOk X (.slice none 0 0) (elN n x) (raN n ss x)) := fun he X => SetOk.nil he (if_neg he)
    have HSR : Hid (wrongN n l = 0 → ∀ X A4 c4, Ints X A4 (runL n l l.length) → SetOk X (.slice A4 (runL n l l.length).length c4) (wrongN n l) (rrN n l)) := fun he X A4 c4 h => SetOk.run h0 hlen.st he h
    have HSRn : Hid (wrongN n l ≠ 0 → ∀ X, SetOk X (.slice none 0 0) (wrongN n l) (rrN n l)) := fun he X => SetOk.nil he (if_neg he)
    rw [h0] at HC HCm
    clear hx hs us hD h8 hs80 hlen hO hv hv6 h0 ls ms
    generalize elN n x = el at *
    generalize wrongN n l = ew at *
    generalize raN n ss x = ra at *
    generalize rrN n l = rr at *
    generalize accE n l = G at *
    have hnel : (el != el) = false := by simp
    have hnew : (ew != ew) = false := by simp
    have hnG : (G != G) = false := by simp
    generalize aftL n (elsI ss) x = La at *
    generalize runL n l l.length = Lr at *
    generalize elsI ss = Ls at *
    go_enter Try.func3, Try.ntmps3
    go_wp2_with (first
      | (go_at_call 8; ((with_reducible refine (HLo.out _ _ (by simp)).mono ?_); rintro e w2 ⟨rfl, hb2⟩); replace hb0 := stepB hb0 hb2; replace hB0 := hB0.below hb2; clear HLo hb2)
      | (go_at_call 9; ((with_reducible refine (HL1.out _ _ (by simp)).mono ?_); rintro e w2 ⟨rfl, hb2⟩); replace hb0 := stepB hb0 hb2; replace hB0 := hB0.below hb2; clear HL1 hb2; obtain ⟨z0, z1, z2, z3, z4⟩ := hB0.cells)
      | (go_at_call 11; ((with_reducible refine (HCN.out _ hb0).mono ?_); rintro e w4 ⟨A1, B1, C1, a1, b1, c1, rfl, hb4, hm⟩); clear z0 z1 z2 z3 z4 HCN; replace hb0 := stepB hb0 hb4; replace hB0 := hB0.below hb4; clear hb4)
      | (go_at_call 12; ((with_reducible refine (HCB.out _ hb0).mono ?_); rintro e w5 ⟨D1, d1, rfl, hin, hb5⟩); clear HCB; have hBm := Boxed5.new w5 25 (.int .i64 n.V) (.int .i64 n.S) (.slice A1 n.st.length a1) (.slice B1 n.fi.length b1) (.slice C1 n.es.length c1); have hbm := bal (Below.refl w5.heap.size w5) (.cells #[.int .i64 n.V, .int .i64 n.S, .slice A1 n.st.length a1, .slice B1 n.fi.length b1, .slice C1 n.es.length c1] 25); replace hb0 := stepB (stepB hb0 hb5) hbm; replace hB0 := (hB0.below hb5).below hbm; replace hm := (hm.below hb5).below hbm; replace hin := hin.below hbm; clear hb5 hbm; obtain ⟨z0, z1, z2, z3, z4⟩ := hB0.cells)
      | (go_at_call 13; ((with_reducible refine (HC.out _ hb0).mono ?_); rintro e w6 ⟨rfl, hb6⟩); clear z0 z1 z2 z3 z4 HC; replace hb0 := stepB hb0 hb6; replace hB0 := hB0.below hb6; replace hBm := hBm.below hb6; replace hm := hm.below hb6; replace hin := hin.below hb6; clear hb6; obtain ⟨z0, z1, z2, z3, z4⟩ := hB0.cells))
    generalize w5.heap.size = bm at *
    have hS0 : (fun X : World => Boxed5 X w.heap.size (.int .i64 n.V) (.int .i64 n.S) (.slice A n.st.length a) (.slice B n.fi.length b) (.slice C n.es.length c)) w6.drew := hB0.below (drew_below w6)
    have hlY : ∀ Y : World, Below w6.heap.size w6 Y → (fun X : World => Boxed5 X w.heap.size (.int .i64 n.V) (.int .i64 n.S) (.slice A n.st.length a) (.slice B n.fi.length b) (.slice C n.es.length c)) Y := fun Y hY => hB0.below hY
    have hD : Below w6.heap.size w6 w6.drew := drew_below w6
    clear z0 z1 z2 z3 z4
    refine wp_region_any (by kernel_rfl) ?_
    change wpAny _ _ _ _ _ _ _ (World.drew _)
    generalize w6.drew = X0 at *
    refine wpAny_head 9 9 (fun X : World => Boxed5 X w.heap.size (.int .i64 n.V) (.int .i64 n.S) (.slice A n.st.length a) (.slice B n.fi.length b) (.slice C n.es.length c)) rfl rfl (by kernel_rfl) (by kernel_rfl) (by kernel_rfl) (fun hA => ?_)
    refine wpHead_take (i := 0) (v := ?_) (by kernel_rfl) hA (at_drop rfl) (by decide) (by kernel_rfl) (by kernel_rfl) (by kernel_rfl) (fun _ _ _ h => h) (Or.inl ⟨by rfl, ?_⟩) hS0 (fun hA => ?_)
    rotate_left
    · (intro w hSw; obtain ⟨s0, s1, s2, s3, s4⟩ := hSw.cells; go_simp <;> with_reducible rfl)
    simp only [Act.put, List.setIfInBounds_toArray, List.set_cons_zero, List.set_cons_succ]
    refine wpHead_take (i := 2) (v := ?_) (by kernel_rfl) hA (at_drop rfl) (by decide) (by kernel_rfl) (by kernel_rfl) (by kernel_rfl) (fun _ _ _ h => h) (Or.inl ⟨by rfl, ?_⟩) hS0 (fun hA => ?_)
    rotate_left
    · (intro w hSw; obtain ⟨s0, s1, s2, s3, s4⟩ := hSw.cells; go_simp <;> with_reducible rfl)
    simp only [Act.put, List.setIfInBounds_toArray, List.set_cons_zero, List.set_cons_succ]
    refine wpHead_take (i := 3) (v := ?_) (by kernel_rfl) hA (at_drop rfl) (by decide) (by kernel_rfl) (by kernel_rfl) (by kernel_rfl) (fun _ _ _ h => h) (Or.inl ⟨by rfl, ?_⟩) hS0 (fun hA => ?_)
    rotate_left
    · (intro w hSw; obtain ⟨s0, s1, s2, s3, s4⟩ := hSw.cells; go_simp <;> with_reducible rfl)
    simp only [Act.put, List.setIfInBounds_toArray, List.set_cons_zero, List.set_cons_succ]
    refine wpHead_take (i := 5) (v := ?_) (by kernel_rfl) hA (at_drop rfl) (by decide) (by kernel_rfl) (by kernel_rfl) (by kernel_rfl) (fun _ _ _ h => h) (Or.inl ⟨by rfl, ?_⟩) hS0 (fun hA => ?_)
    rotate_left
    · (intro w hSw; obtain ⟨s0, s1, s2, s3, s4⟩ := hSw.cells; go_simp <;> with_reducible rfl)
    simp only [Act.put, List.setIfInBounds_toArray, List.set_cons_zero, List.set_cons_succ]
    refine wpHead_take (i := 6) (v := ?_) (by kernel_rfl) hA (at_drop rfl) (by decide) (by kernel_rfl) (by kernel_rfl) (by kernel_rfl) (fun _ _ _ h => h) (Or.inl ⟨by rfl, ?_⟩) hS0 (fun hA => ?_)
    rotate_left
    · (intro w hSw; obtain ⟨s0, s1, s2, s3, s4⟩ := hSw.cells; go_simp <;> with_reducible rfl)
    simp only [Act.put, List.setIfInBounds_toArray, List.set_cons_zero, List.set_cons_succ]
    refine wpHead_take (i := 7) (v := ?_) (by kernel_rfl) hA (at_drop rfl) (by decide) (by kernel_rfl) (by kernel_rfl) (by kernel_rfl) (fun _ _ _ h => h) (Or.inl ⟨by rfl, ?_⟩) hS0 (fun hA => ?_)
    rotate_left
    · (intro w hSw; obtain ⟨s0, s1, s2, s3, s4⟩ := hSw.cells; go_simp <;> with_reducible rfl)
    simp only [Act.put, List.setIfInBounds_toArray, List.set_cons_zero, List.set_cons_succ]
    have hA1 := hnext hA (rs := [1]) (i := 1) (by kernel_rfl) (by decide) (by decide)
    refine wpHead_ready (rs := [1]) (by kernel_rfl) (by decide) (AllHead.cons (at_drop rfl) (by decide) (fun KK hK => ?_) AllHead.nil)
    replace hA := hA1
    go_simp
    have d1 := bal (Below.refl X0.heap.size X0) (.cells #[.int .u8 x] 5)
    have hone := bys_one X0 x
    have HX1 := stepB hD d1
    generalize (World.alloc X0 (.cells #[.int .u8 x] 5)) = X1 at *
    refine hK _ _ (hlY _ HX1) ?_
    clear hK KK
    try simp only [Act.put, List.setIfInBounds_toArray, List.set_cons_zero, List.set_cons_succ]
    have hA4 := hnext hA (rs := [4]) (i := 4) (by kernel_rfl) (by decide) (by decide)
    refine wpHead_ready (rs := [4]) (by kernel_rfl) (by decide) (AllHead.cons (at_drop rfl) (by decide) (fun KK hK => ?_) AllHead.nil)
    replace hA := hA4
    go_simp
    refine (HWx.out X1 X0.heap.size hone).mono ?_
    rintro e X2 ⟨rfl, d2⟩
    have HX2 := stepB HX1 d2
    refine hK _ _ (hlY _ HX2) ?_
    clear hK KK
    try simp only [Act.put, List.setIfInBounds_toArray, List.set_cons_zero, List.set_cons_succ]
    have hA8 := hnext hA (rs := [8]) (i := 8) (by kernel_rfl) (by decide) (by decide)
    refine wpHead_ready (rs := [8]) (by kernel_rfl) (by decide) (AllHead.cons (at_drop rfl) (by decide) (fun KK hK => ?_) AllHead.nil)
    replace hA := hA8
    go_simp
    refine (HWw.out X2 (stepB hb0 HX2)).mono ?_
    rintro e X3 ⟨rfl, d3⟩
    have HX3 := stepB HX2 d3
    refine hK _ _ (hlY _ HX3) ?_
    clear hK KK
    try simp only [Act.put, List.setIfInBounds_toArray, List.set_cons_zero, List.set_cons_succ]
    refine wpHead_end (by kernel_rfl) ?_
    simp only [List.drop_succ_cons, List.drop_zero]
    replace hb0 := stepB hb0 HX3
    replace hB0 := hB0.below HX3
    replace hBm := hBm.below HX3
    replace hm := hm.below HX3
    replace hin := hin.below HX3
    clear d1 d2 d3 HX1 HX2 HX3 hone hlY hS0 hD hA
    generalize X0.heap.size = g0 at *
    by_cases hel : el = 0
    · subst hel
      by_cases hew : ew = 0
      · subst hew
        obtain ⟨z0, z1, z2, z3, z4⟩ := hB0.cells
        go_wp2
        have KE : Below X3.heap.size X3 X3.drew := drew_below X3
        have KD : Below w.heap.size w X3.drew := stepB hb0 KE
        have hBd := hB0.below KE
        have hSd : X3.drew.cell? ⟨w.heap.size, 0, none⟩ = some (.int .i64 n.V) ∧ X3.drew.cell? ⟨w.heap.size, 1, none⟩ = some (.int .i64 n.S) ∧ X3.drew.cell? ⟨w.heap.size, 2, none⟩ = some (.slice A n.st.length a) ∧ X3.drew.cell? ⟨w.heap.size, 3, none⟩ = some (.slice B n.fi.length b) ∧ X3.drew.cell? ⟨w.heap.size, 4, none⟩ = some (.slice C n.es.length c) ∧ Below X3.heap.size X3 X3.drew := ⟨hBd.c0, hBd.c1, hBd.c2, hBd.c3, hBd.c4, KE⟩
        go_region_held3 (fun w' => w'.cell? ⟨w.heap.size, 0, none⟩ = some (.int .i64 n.V) ∧ w'.cell? ⟨w.heap.size, 1, none⟩ = some (.int .i64 n.S) ∧ w'.cell? ⟨w.heap.size, 2, none⟩ = some (.slice A n.st.length a) ∧ w'.cell? ⟨w.heap.size, 3, none⟩ = some (.slice B n.fi.length b) ∧ w'.cell? ⟨w.heap.size, 4, none⟩ = some (.slice C n.es.length c) ∧ Below X3.heap.size X3 w')
          (first | assumption)
          (first
            | (go_at_call 16; ((with_reducible refine (HLi.out X3.drew KD).mono ?_); rintro e w8 ⟨A8, c8, rfl, hi8, hb8⟩); have K8 := stepB KE hb8; have B8 := hB0.below K8; have K8b := stepB KD hb8; have hS8 : w8.cell? ⟨w.heap.size, 0, none⟩ = some (.int .i64 n.V) ∧ w8.cell? ⟨w.heap.size, 1, none⟩ = some (.int .i64 n.S) ∧ w8.cell? ⟨w.heap.size, 2, none⟩ = some (.slice A n.st.length a) ∧ w8.cell? ⟨w.heap.size, 3, none⟩ = some (.slice B n.fi.length b) ∧ w8.cell? ⟨w.heap.size, 4, none⟩ = some (.slice C n.es.length c) ∧ Below X3.heap.size X3 w8 := ⟨B8.c0, B8.c1, B8.c2, B8.c3, B8.c4, K8⟩)
            | (go_at_call 15; ((with_reducible refine (HAr.out w8 K8b A8 c8 hi8).mono ?_); rintro e w9 ⟨A9, c9, rfl, hi9, hb9⟩); have K9 := stepB K8 hb9; have B9 := hB0.below K9; have hS9 : w9.cell? ⟨w.heap.size, 0, none⟩ = some (.int .i64 n.V) ∧ w9.cell? ⟨w.heap.size, 1, none⟩ = some (.int .i64 n.S) ∧ w9.cell? ⟨w.heap.size, 2, none⟩ = some (.slice A n.st.length a) ∧ w9.cell? ⟨w.heap.size, 3, none⟩ = some (.slice B n.fi.length b) ∧ w9.cell? ⟨w.heap.size, 4, none⟩ = some (.slice C n.es.length c) ∧ Below X3.heap.size X3 w9 := ⟨B9.c0, B9.c1, B9.c2, B9.c3, B9.c4, K9⟩))
        have K := hS9.2.2.2.2.2
        have hsa := HSA.out (by simp) w9 A9 c9 hi9
        replace hb0 := stepB hb0 K
        replace hB0 := hB0.below K
        replace hBm := hBm.below K
        replace hm := hm.below K
        replace hin := hin.below K
        clear hSd hS8 hS9 KE KD hBd K8 B8 K8b K9 B9 K hb8 hb9 hi8 hi9 z0 z1 z2 z3 z4
        obtain ⟨z0, z1, z2, z3, z4⟩ := hB0.cells
        go_wp2_with (first
          | (go_at_call 17; ((with_reducible refine (HRr.out _ hb0).mono ?_); rintro e w12 ⟨A12, c12, rfl, hi12, hb12⟩); clear z0 z1 z2 z3 z4; replace hb0 := stepB hb0 hb12; replace hB0 := hB0.below hb12; replace hBm := hBm.below hb12; replace hm := hm.below hb12; replace hin := hin.below hb12; replace hsa := hsa.below hb12; have hsr := HSR.out (by simp) w12 A12 c12 hi12; clear hb12 hi12; obtain ⟨z0, z1, z2, z3, z4⟩ := hB0.cells)
          | (go_at_call 18; ((with_reducible refine (HAc.out _ hb0).mono ?_); rintro e w13 ⟨rfl, hb13⟩); clear z0 z1 z2 z3 z4 HAc; replace hb0 := stepB hb0 hb13; replace hB0 := hB0.below hb13; replace hBm := hBm.below hb13; replace hm := hm.below hb13; replace hin := hin.below hb13; replace hsa := hsa.below hb13; replace hsr := hsr.below hb13; clear hb13))
        clear HSA HSAn HSR HSRn
        have HB0 := Lib.hid hB0
        have HBm := Lib.hid hBm
        have Hm := Lib.hid hm
        have Hin := Lib.hid hin
        have HSA := Lib.hid hsa
        have HSR := Lib.hid hsr
        have HK := Lib.hid hb0
        clear hB0 hBm hm hin hsa hsr hb0 HLi HAr HRr HWx HWw
        go_loopw [18] (fun i wr => ∃ k : Nat, k ≤ 2 ∧ i = .int .i64 k ∧ Hid (Below w13.heap.size w13 wr)) (fun i _ => 2 - (intOf i).toNat)
        case atStart => exact ⟨0, by omega, rfl, Below.refl _ _⟩
        case round =>
          obtain ⟨k, hk, rfl, HY⟩ := hrel
          by_cases hk2 : k = 2
          · subst hk2
            go_wp2_with (go_at_call 10; ((with_reducible refine (HAw.out _).mono ?_); rintro e w30 ⟨rfl, hb30⟩))
            go_ret
            exact ⟨rfl, stepB (stepB HK.out HY.out) hb30⟩
          · have hk3 : k < 2 := by omega
            have hk4 : decide ((k : Int) < 2) = true := decide_eq_true (by omega)
            have hY := HY.out
            have hsz := hY.size
            have hb0 := stepB HK.out hY
            have hB0 := HB0.out.below hY
            have hBm := HBm.out.below hY
            have hm := Hm.out.below hY
            have hin := Hin.out.below hY
            have hsa := HSA.out.below hY
            have hsr := HSR.out.below hY
            clear HY
            obtain ⟨y0, y1, y2, y3, y4⟩ := hBm.cells
            go_wp2_with (first
              | (go_at_call 19; ((with_reducible refine (HAm.out _ hb0 _ _ _ _ _ _ hm).mono ?_); rintro e w14 ⟨A14, c14, rfl, ho14, hb14⟩); clear y0 y1 y2 y3 y4; replace ho14 := OwnW.low ho14 hsz; replace hb0 := stepB hb0 hb14; replace hB0 := hB0.below hb14; replace hBm := hBm.below hb14; replace hm := hm.below hb14; replace hin := hin.below hb14; replace hsa := hsa.below hb14; replace hsr := hsr.below hb14; replace hY := stepB hY hb14; clear hb14; obtain ⟨y0, y1, y2, y3, y4⟩ := hBm.cells)
              | (go_at_call 20; ((with_reducible refine (HRm.out _ _ _ _ _ _ _ hm _ _ hin).mono ?_); rintro e w15 ⟨A15, c15, rfl, ho15, hb15⟩); clear y0 y1 y2 y3 y4; replace ho15 := OwnW.low ho15 hY.size; replace ho14 := OwnW.bel ho14 hb15; replace hb0 := stepB hb0 hb15; replace hB0 := hB0.below hb15; replace hBm := hBm.below hb15; replace hm := hm.below hb15; replace hin := hin.below hb15; replace hsa := hsa.below hb15; replace hsr := hsr.below hb15; replace hY := stepB hY hb15; clear hb15; obtain ⟨y0, y1, y2, y3, y4⟩ := hBm.cells)
              | (go_at_call 21; ((with_reducible refine (HAcm.out _ _ _ _ _ _ _ hm _ _ hin).mono ?_); rintro e w16 ⟨rfl, hb16⟩); clear y0 y1 y2 y3 y4; replace ho14 := OwnW.bel ho14 hb16; replace ho15 := OwnW.bel ho15 hb16; replace hb0 := stepB hb0 hb16; replace hB0 := hB0.below hb16; replace hBm := hBm.below hb16; replace hm := hm.below hb16; replace hin := hin.below hb16; replace hsa := hsa.below hb16; replace hsr := hsr.below hb16; replace hY := stepB hY hb16; clear hb16; obtain ⟨y0, y1, y2, y3, y4⟩ := hBm.cells)
              | (go_at_call 22; ((with_reducible refine (HCm.out _ _ _ _ _ _ _ hm).mono ?_); rintro e w17 ⟨rfl, hb17⟩); clear y0 y1 y2 y3 y4; replace ho14 := OwnW.bel ho14 hb17; replace ho15 := OwnW.bel ho15 hb17; replace hb0 := stepB hb0 hb17; replace hB0 := hB0.below hb17; replace hBm := hBm.below hb17; replace hm := hm.below hb17; replace hin := hin.below hb17; replace hsa := hsa.below hb17; replace hsr := hsr.below hb17; replace hY := stepB hY hb17; clear hb17)
              | (go_at_call 24; ((with_reducible refine hsa.call.mono ?_); rintro e w18 ⟨A18, c18, rfl, ho18, hb18⟩); replace ho14 := OwnW.bel ho14 hb18; replace ho15 := OwnW.bel ho15 hb18; replace hb0 := stepB hb0 hb18; replace hB0 := hB0.below hb18; replace hBm := hBm.below hb18; replace hm := hm.below hb18; replace hin := hin.below hb18; replace hsr := hsr.below hb18; replace hY := stepB hY hb18; clear hb18; clear hsa)
              | (go_at_call 23; ((with_reducible refine (HEa.out _ _ _ _ _ (OwnW.words ho14) ho18).mono ?_); rintro e w19 ⟨rfl, nq, rfl⟩); have hb19 := Ap.drewN_below w18 nq; replace ho14 := OwnW.bel ho14 hb19; replace ho15 := OwnW.bel ho15 hb19; replace hb0 := stepB hb0 hb19; replace hB0 := hB0.below hb19; replace hBm := hBm.below hb19; replace hm := hm.below hb19; replace hin := hin.below hb19; replace hsr := hsr.below hb19; replace hY := stepB hY hb19; clear hb19; generalize w18.drewN nq = w19 at *)
              | (go_at_call 24; ((with_reducible refine hsr.call.mono ?_); rintro e w20 ⟨A20, c20, rfl, ho20, hb20⟩); replace ho14 := OwnW.bel ho14 hb20; replace ho15 := OwnW.bel ho15 hb20; replace hb0 := stepB hb0 hb20; replace hB0 := hB0.below hb20; replace hBm := hBm.below hb20; replace hm := hm.below hb20; replace hin := hin.below hb20; replace hY := stepB hY hb20; clear hb20; clear hsr)
              | (go_at_call 23; ((with_reducible refine (HEr.out _ _ _ _ _ (OwnW.words ho15) ho20).mono ?_); rintro e w21 ⟨rfl, nq2, rfl⟩); have hb21 := Ap.drewN_below w20 nq2; replace ho14 := OwnW.bel ho14 hb21; replace ho15 := OwnW.bel ho15 hb21; replace hb0 := stepB hb0 hb21; replace hB0 := hB0.below hb21; replace hBm := hBm.below hb21; replace hm := hm.below hb21; replace hin := hin.below hb21; replace hY := stepB hY hb21; clear hb21; generalize w20.drewN nq2 = w21 at *; obtain ⟨y0, y1, y2, y3, y4⟩ := hBm.cells; obtain ⟨z0, z1, z2, z3, z4⟩ := hB0.cells)
              | (go_at_call 25; ((with_reducible refine (HEN.out _ hb0 _ _ _ _ _ _ hm).mono ?_); rintro e w22 ⟨rfl, hb22⟩); replace ho14 := OwnW.bel ho14 hb22; replace ho15 := OwnW.bel ho15 hb22; replace hb0 := stepB hb0 hb22; replace hin := hin.below hb22; replace hY := stepB hY hb22; clear hb22 y0 y1 y2 y3 y4 z0 z1 z2 z3 z4 hm)
              | (go_at_call 26; ((with_reducible refine (HEB.out _ hb0 _ _ hin).mono ?_); rintro e w23 ⟨rfl, nq3, rfl⟩); have hb23 := Ap.drewN_below w22 nq3; replace ho14 := OwnW.bel ho14 hb23; replace ho15 := OwnW.bel ho15 hb23; replace hY := stepB hY hb23; clear hb23 hin; generalize w22.drewN nq3 = w23 at *)
              | (go_at_call 27; ((with_reducible refine (HOa.out _ _ _ _ ho14 _ _ ho15).mono ?_); rintro e w24 ⟨rfl, hb24, hca⟩); replace hY := hY.trans hb24; clear ho14 ho15 HOa)
              | (go_at_call 27; ((with_reducible refine (HOr.out _ _ _ _ hca).mono ?_); rintro e w25 ⟨rfl, hb25⟩); replace hY := hY.trans hb25))
            go_roundw
            case rel => exact ⟨k + 1, by omega, by go_num, hY⟩
            case measure => simp [intOf]; omega
      · have hew0 : (ew == 0) = false := beq_eq_false_iff_ne.2 hew
        obtain ⟨z0, z1, z2, z3, z4⟩ := hB0.cells
        go_wp2
        have KE : Below X3.heap.size X3 X3.drew := drew_below X3
        have KD : Below w.heap.size w X3.drew := stepB hb0 KE
        have hBd := hB0.below KE
        have hSd : X3.drew.cell? ⟨w.heap.size, 0, none⟩ = some (.int .i64 n.V) ∧ X3.drew.cell? ⟨w.heap.size, 1, none⟩ = some (.int .i64 n.S) ∧ X3.drew.cell? ⟨w.heap.size, 2, none⟩ = some (.slice A n.st.length a) ∧ X3.drew.cell? ⟨w.heap.size, 3, none⟩ = some (.slice B n.fi.length b) ∧ X3.drew.cell? ⟨w.heap.size, 4, none⟩ = some (.slice C n.es.length c) ∧ Below X3.heap.size X3 X3.drew := ⟨hBd.c0, hBd.c1, hBd.c2, hBd.c3, hBd.c4, KE⟩
        go_region_held3 (fun w' => w'.cell? ⟨w.heap.size, 0, none⟩ = some (.int .i64 n.V) ∧ w'.cell? ⟨w.heap.size, 1, none⟩ = some (.int .i64 n.S) ∧ w'.cell? ⟨w.heap.size, 2, none⟩ = some (.slice A n.st.length a) ∧ w'.cell? ⟨w.heap.size, 3, none⟩ = some (.slice B n.fi.length b) ∧ w'.cell? ⟨w.heap.size, 4, none⟩ = some (.slice C n.es.length c) ∧ Below X3.heap.size X3 w')
          (first | assumption)
          (first
            | (go_at_call 16; ((with_reducible refine (HLi.out X3.drew KD).mono ?_); rintro e w8 ⟨A8, c8, rfl, hi8, hb8⟩); have K8 := stepB KE hb8; have B8 := hB0.below K8; have K8b := stepB KD hb8; have hS8 : w8.cell? ⟨w.heap.size, 0, none⟩ = some (.int .i64 n.V) ∧ w8.cell? ⟨w.heap.size, 1, none⟩ = some (.int .i64 n.S) ∧ w8.cell? ⟨w.heap.size, 2, none⟩ = some (.slice A n.st.length a) ∧ w8.cell? ⟨w.heap.size, 3, none⟩ = some (.slice B n.fi.length b) ∧ w8.cell? ⟨w.heap.size, 4, none⟩ = some (.slice C n.es.length c) ∧ Below X3.heap.size X3 w8 := ⟨B8.c0, B8.c1, B8.c2, B8.c3, B8.c4, K8⟩)
            | (go_at_call 15; ((with_reducible refine (HAr.out w8 K8b A8 c8 hi8).mono ?_); rintro e w9 ⟨A9, c9, rfl, hi9, hb9⟩); have K9 := stepB K8 hb9; have B9 := hB0.below K9; have hS9 : w9.cell? ⟨w.heap.size, 0, none⟩ = some (.int .i64 n.V) ∧ w9.cell? ⟨w.heap.size, 1, none⟩ = some (.int .i64 n.S) ∧ w9.cell? ⟨w.heap.size, 2, none⟩ = some (.slice A n.st.length a) ∧ w9.cell? ⟨w.heap.size, 3, none⟩ = some (.slice B n.fi.length b) ∧ w9.cell? ⟨w.heap.size, 4, none⟩ = some (.slice C n.es.length c) ∧ Below X3.heap.size X3 w9 := ⟨B9.c0, B9.c1, B9.c2, B9.c3, B9.c4, K9⟩))
        have K := hS9.2.2.2.2.2
        have hsa := HSA.out (by simp) w9 A9 c9 hi9
        replace hb0 := stepB hb0 K
        replace hB0 := hB0.below K
        replace hBm := hBm.below K
        replace hm := hm.below K
        replace hin := hin.below K
        clear hSd hS8 hS9 KE KD hBd K8 B8 K8b K9 B9 K hb8 hb9 hi8 hi9 z0 z1 z2 z3 z4
        have hsr := HSRn.out hew w9
        obtain ⟨z0, z1, z2, z3, z4⟩ := hB0.cells
        go_wp2_with (first
          | (go_at_call 18; ((with_reducible refine (HAc.out _ hb0).mono ?_); rintro e w13 ⟨rfl, hb13⟩); clear z0 z1 z2 z3 z4 HAc; replace hb0 := stepB hb0 hb13; replace hB0 := hB0.below hb13; replace hBm := hBm.below hb13; replace hm := hm.below hb13; replace hin := hin.below hb13; replace hsa := hsa.below hb13; replace hsr := hsr.below hb13; clear hb13))
        clear HSA HSAn HSR HSRn
        have HB0 := Lib.hid hB0
        have HBm := Lib.hid hBm
        have Hm := Lib.hid hm
        have Hin := Lib.hid hin
        have HSA := Lib.hid hsa
        have HSR := Lib.hid hsr
        have HK := Lib.hid hb0
        clear hB0 hBm hm hin hsa hsr hb0 HLi HAr HRr HWx HWw
        go_loopw [18] (fun i wr => ∃ k : Nat, k ≤ 2 ∧ i = .int .i64 k ∧ Hid (Below w13.heap.size w13 wr)) (fun i _ => 2 - (intOf i).toNat)
        case atStart => exact ⟨0, by omega, rfl, Below.refl _ _⟩
        case round =>
          obtain ⟨k, hk, rfl, HY⟩ := hrel
          by_cases hk2 : k = 2
          · subst hk2
            go_wp2_with (go_at_call 10; ((with_reducible refine (HAw.out _).mono ?_); rintro e w30 ⟨rfl, hb30⟩))
            go_ret
            exact ⟨rfl, stepB (stepB HK.out HY.out) hb30⟩
          · have hk3 : k < 2 := by omega
            have hk4 : decide ((k : Int) < 2) = true := decide_eq_true (by omega)
            have hY := HY.out
            have hsz := hY.size
            have hb0 := stepB HK.out hY
            have hB0 := HB0.out.below hY
            have hBm := HBm.out.below hY
            have hm := Hm.out.below hY
            have hin := Hin.out.below hY
            have hsa := HSA.out.below hY
            have hsr := HSR.out.below hY
            clear HY
            obtain ⟨y0, y1, y2, y3, y4⟩ := hBm.cells
            go_wp2_with (first
              | (go_at_call 19; ((with_reducible refine (HAm.out _ hb0 _ _ _ _ _ _ hm).mono ?_); rintro e w14 ⟨A14, c14, rfl, ho14, hb14⟩); clear y0 y1 y2 y3 y4; replace ho14 := OwnW.low ho14 hsz; replace hb0 := stepB hb0 hb14; replace hB0 := hB0.below hb14; replace hBm := hBm.below hb14; replace hm := hm.below hb14; replace hin := hin.below hb14; replace hsa := hsa.below hb14; replace hsr := hsr.below hb14; replace hY := stepB hY hb14; clear hb14; obtain ⟨y0, y1, y2, y3, y4⟩ := hBm.cells)
              | (go_at_call 20; ((with_reducible refine (HRm.out _ _ _ _ _ _ _ hm _ _ hin).mono ?_); rintro e w15 ⟨A15, c15, rfl, ho15, hb15⟩); clear y0 y1 y2 y3 y4; replace ho15 := OwnW.low ho15 hY.size; replace ho14 := OwnW.bel ho14 hb15; replace hb0 := stepB hb0 hb15; replace hB0 := hB0.below hb15; replace hBm := hBm.below hb15; replace hm := hm.below hb15; replace hin := hin.below hb15; replace hsa := hsa.below hb15; replace hsr := hsr.below hb15; replace hY := stepB hY hb15; clear hb15; obtain ⟨y0, y1, y2, y3, y4⟩ := hBm.cells)
              | (go_at_call 21; ((with_reducible refine (HAcm.out _ _ _ _ _ _ _ hm _ _ hin).mono ?_); rintro e w16 ⟨rfl, hb16⟩); clear y0 y1 y2 y3 y4; replace ho14 := OwnW.bel ho14 hb16; replace ho15 := OwnW.bel ho15 hb16; replace hb0 := stepB hb0 hb16; replace hB0 := hB0.below hb16; replace hBm := hBm.below hb16; replace hm := hm.below hb16; replace hin := hin.below hb16; replace hsa := hsa.below hb16; replace hsr := hsr.below hb16; replace hY := stepB hY hb16; clear hb16; obtain ⟨y0, y1, y2, y3, y4⟩ := hBm.cells)
              | (go_at_call 22; ((with_reducible refine (HCm.out _ _ _ _ _ _ _ hm).mono ?_); rintro e w17 ⟨rfl, hb17⟩); clear y0 y1 y2 y3 y4; replace ho14 := OwnW.bel ho14 hb17; replace ho15 := OwnW.bel ho15 hb17; replace hb0 := stepB hb0 hb17; replace hB0 := hB0.below hb17; replace hBm := hBm.below hb17; replace hm := hm.below hb17; replace hin := hin.below hb17; replace hsa := hsa.below hb17; replace hsr := hsr.below hb17; replace hY := stepB hY hb17; clear hb17)
              | (go_at_call 24; ((with_reducible refine hsa.call.mono ?_); rintro e w18 ⟨A18, c18, rfl, ho18, hb18⟩); replace ho14 := OwnW.bel ho14 hb18; replace ho15 := OwnW.bel ho15 hb18; replace hb0 := stepB hb0 hb18; replace hB0 := hB0.below hb18; replace hBm := hBm.below hb18; replace hm := hm.below hb18; replace hin := hin.below hb18; replace hsr := hsr.below hb18; replace hY := stepB hY hb18; clear hb18; clear hsa)
              | (go_at_call 23; ((with_reducible refine (HEa.out _ _ _ _ _ (OwnW.words ho14) ho18).mono ?_); rintro e w19 ⟨rfl, nq, rfl⟩); have hb19 := Ap.drewN_below w18 nq; replace ho14 := OwnW.bel ho14 hb19; replace ho15 := OwnW.bel ho15 hb19; replace hb0 := stepB hb0 hb19; replace hB0 := hB0.below hb19; replace hBm := hBm.below hb19; replace hm := hm.below hb19; replace hin := hin.below hb19; replace hsr := hsr.below hb19; replace hY := stepB hY hb19; clear hb19; generalize w18.drewN nq = w19 at *)
              | (go_at_call 24; ((with_reducible refine hsr.call.mono ?_); rintro e w20 ⟨A20, c20, rfl, ho20, hb20⟩); replace ho14 := OwnW.bel ho14 hb20; replace ho15 := OwnW.bel ho15 hb20; replace hb0 := stepB hb0 hb20; replace hB0 := hB0.below hb20; replace hBm := hBm.below hb20; replace hm := hm.below hb20; replace hin := hin.below hb20; replace hY := stepB hY hb20; clear hb20; clear hsr)
              | (go_at_call 23; ((with_reducible refine (HEr.out _ _ _ _ _ (OwnW.words ho15) ho20).mono ?_); rintro e w21 ⟨rfl, nq2, rfl⟩); have hb21 := Ap.drewN_below w20 nq2; replace ho14 := OwnW.bel ho14 hb21; replace ho15 := OwnW.bel ho15 hb21; replace hb0 := stepB hb0 hb21; replace hB0 := hB0.below hb21; replace hBm := hBm.below hb21; replace hm := hm.below hb21; replace hin := hin.below hb21; replace hY := stepB hY hb21; clear hb21; generalize w20.drewN nq2 = w21 at *; obtain ⟨y0, y1, y2, y3, y4⟩ := hBm.cells; obtain ⟨z0, z1, z2, z3, z4⟩ := hB0.cells)
              | (go_at_call 25; ((with_reducible refine (HEN.out _ hb0 _ _ _ _ _ _ hm).mono ?_); rintro e w22 ⟨rfl, hb22⟩); replace ho14 := OwnW.bel ho14 hb22; replace ho15 := OwnW.bel ho15 hb22; replace hb0 := stepB hb0 hb22; replace hin := hin.below hb22; replace hY := stepB hY hb22; clear hb22 y0 y1 y2 y3 y4 z0 z1 z2 z3 z4 hm)
              | (go_at_call 26; ((with_reducible refine (HEB.out _ hb0 _ _ hin).mono ?_); rintro e w23 ⟨rfl, nq3, rfl⟩); have hb23 := Ap.drewN_below w22 nq3; replace ho14 := OwnW.bel ho14 hb23; replace ho15 := OwnW.bel ho15 hb23; replace hY := stepB hY hb23; clear hb23 hin; generalize w22.drewN nq3 = w23 at *)
              | (go_at_call 27; ((with_reducible refine (HOa.out _ _ _ _ ho14 _ _ ho15).mono ?_); rintro e w24 ⟨rfl, hb24, hca⟩); replace hY := hY.trans hb24; clear ho14 ho15 HOa)
              | (go_at_call 27; ((with_reducible refine (HOr.out _ _ _ _ hca).mono ?_); rintro e w25 ⟨rfl, hb25⟩); replace hY := hY.trans hb25))
            go_roundw
            case rel => exact ⟨k + 1, by omega, by go_num, hY⟩
            case measure => simp [intOf]; omega
    · have hel0 : (el == 0) = false := beq_eq_false_iff_ne.2 hel
      by_cases hew : ew = 0
      · subst hew
        have hsa := HSAn.out hel X3
        obtain ⟨z0, z1, z2, z3, z4⟩ := hB0.cells
        go_wp2_with (first
          | (go_at_call 17; ((with_reducible refine (HRr.out _ hb0).mono ?_); rintro e w12 ⟨A12, c12, rfl, hi12, hb12⟩); clear z0 z1 z2 z3 z4; replace hb0 := stepB hb0 hb12; replace hB0 := hB0.below hb12; replace hBm := hBm.below hb12; replace hm := hm.below hb12; replace hin := hin.below hb12; replace hsa := hsa.below hb12; have hsr := HSR.out (by simp) w12 A12 c12 hi12; clear hb12 hi12; obtain ⟨z0, z1, z2, z3, z4⟩ := hB0.cells)
          | (go_at_call 18; ((with_reducible refine (HAc.out _ hb0).mono ?_); rintro e w13 ⟨rfl, hb13⟩); clear z0 z1 z2 z3 z4 HAc; replace hb0 := stepB hb0 hb13; replace hB0 := hB0.below hb13; replace hBm := hBm.below hb13; replace hm := hm.below hb13; replace hin := hin.below hb13; replace hsa := hsa.below hb13; replace hsr := hsr.below hb13; clear hb13))
        clear HSA HSAn HSR HSRn
        have HB0 := Lib.hid hB0
        have HBm := Lib.hid hBm
        have Hm := Lib.hid hm
        have Hin := Lib.hid hin
        have HSA := Lib.hid hsa
        have HSR := Lib.hid hsr
        have HK := Lib.hid hb0
        clear hB0 hBm hm hin hsa hsr hb0 HLi HAr HRr HWx HWw
        go_loopw [18] (fun i wr => ∃ k : Nat, k ≤ 2 ∧ i = .int .i64 k ∧ Hid (Below w13.heap.size w13 wr)) (fun i _ => 2 - (intOf i).toNat)
        case atStart => exact ⟨0, by omega, rfl, Below.refl _ _⟩
        case round =>
          obtain ⟨k, hk, rfl, HY⟩ := hrel
          by_cases hk2 : k = 2
          · subst hk2
            go_wp2_with (go_at_call 10; ((with_reducible refine (HAw.out _).mono ?_); rintro e w30 ⟨rfl, hb30⟩))
            go_ret
            exact ⟨rfl, stepB (stepB HK.out HY.out) hb30⟩
          · have hk3 : k < 2 := by omega
            have hk4 : decide ((k : Int) < 2) = true := decide_eq_true (by omega)
            have hY := HY.out
            have hsz := hY.size
            have hb0 := stepB HK.out hY
            have hB0 := HB0.out.below hY
            have hBm := HBm.out.below hY
            have hm := Hm.out.below hY
            have hin := Hin.out.below hY
            have hsa := HSA.out.below hY
            have hsr := HSR.out.below hY
            clear HY
            obtain ⟨y0, y1, y2, y3, y4⟩ := hBm.cells
            go_wp2_with (first
              | (go_at_call 19; ((with_reducible refine (HAm.out _ hb0 _ _ _ _ _ _ hm).mono ?_); rintro e w14 ⟨A14, c14, rfl, ho14, hb14⟩); clear y0 y1 y2 y3 y4; replace ho14 := OwnW.low ho14 hsz; replace hb0 := stepB hb0 hb14; replace hB0 := hB0.below hb14; replace hBm := hBm.below hb14; replace hm := hm.below hb14; replace hin := hin.below hb14; replace hsa := hsa.below hb14; replace hsr := hsr.below hb14; replace hY := stepB hY hb14; clear hb14; obtain ⟨y0, y1, y2, y3, y4⟩ := hBm.cells)
              | (go_at_call 20; ((with_reducible refine (HRm.out _ _ _ _ _ _ _ hm _ _ hin).mono ?_); rintro e w15 ⟨A15, c15, rfl, ho15, hb15⟩); clear y0 y1 y2 y3 y4; replace ho15 := OwnW.low ho15 hY.size; replace ho14 := OwnW.bel ho14 hb15; replace hb0 := stepB hb0 hb15; replace hB0 := hB0.below hb15; replace hBm := hBm.below hb15; replace hm := hm.below hb15; replace hin := hin.below hb15; replace hsa := hsa.below hb15; replace hsr := hsr.below hb15; replace hY := stepB hY hb15; clear hb15; obtain ⟨y0, y1, y2, y3, y4⟩ := hBm.cells)
              | (go_at_call 21; ((with_reducible refine (HAcm.out _ _ _ _ _ _ _ hm _ _ hin).mono ?_); rintro e w16 ⟨rfl, hb16⟩); clear y0 y1 y2 y3 y4; replace ho14 := OwnW.bel ho14 hb16; replace ho15 := OwnW.bel ho15 hb16; replace hb0 := stepB hb0 hb16; replace hB0 := hB0.below hb16; replace hBm := hBm.below hb16; replace hm := hm.below hb16; replace hin := hin.below hb16; replace hsa := hsa.below hb16; replace hsr := hsr.below hb16; replace hY := stepB hY hb16; clear hb16; obtain ⟨y0, y1, y2, y3, y4⟩ := hBm.cells)
              | (go_at_call 22; ((with_reducible refine (HCm.out _ _ _ _ _ _ _ hm).mono ?_); rintro e w17 ⟨rfl, hb17⟩); clear y0 y1 y2 y3 y4; replace ho14 := OwnW.bel ho14 hb17; replace ho15 := OwnW.bel ho15 hb17; replace hb0 := stepB hb0 hb17; replace hB0 := hB0.below hb17; replace hBm := hBm.below hb17; replace hm := hm.below hb17; replace hin := hin.below hb17; replace hsa := hsa.below hb17; replace hsr := hsr.below hb17; replace hY := stepB hY hb17; clear hb17)
              | (go_at_call 24; ((with_reducible refine hsa.call.mono ?_); rintro e w18 ⟨A18, c18, rfl, ho18, hb18⟩); replace ho14 := OwnW.bel ho14 hb18; replace ho15 := OwnW.bel ho15 hb18; replace hb0 := stepB hb0 hb18; replace hB0 := hB0.below hb18; replace hBm := hBm.below hb18; replace hm := hm.below hb18; replace hin := hin.below hb18; replace hsr := hsr.below hb18; replace hY := stepB hY hb18; clear hb18; clear hsa)
              | (go_at_call 23; ((with_reducible refine (HEa.out _ _ _ _ _ (OwnW.words ho14) ho18).mono ?_); rintro e w19 ⟨rfl, nq, rfl⟩); have hb19 := Ap.drewN_below w18 nq; replace ho14 := OwnW.bel ho14 hb19; replace ho15 := OwnW.bel ho15 hb19; replace hb0 := stepB hb0 hb19; replace hB0 := hB0.below hb19; replace hBm := hBm.below hb19; replace hm := hm.below hb19; replace hin := hin.below hb19; replace hsr := hsr.below hb19; replace hY := stepB hY hb19; clear hb19; generalize w18.drewN nq = w19 at *)
              | (go_at_call 24; ((with_reducible refine hsr.call.mono ?_); rintro e w20 ⟨A20, c20, rfl, ho20, hb20⟩); replace ho14 := OwnW.bel ho14 hb20; replace ho15 := OwnW.bel ho15 hb20; replace hb0 := stepB hb0 hb20; replace hB0 := hB0.below hb20; replace hBm := hBm.below hb20; replace hm := hm.below hb20; replace hin := hin.below hb20; replace hY := stepB hY hb20; clear hb20; clear hsr)
              | (go_at_call 23; ((with_reducible refine (HEr.out _ _ _ _ _ (OwnW.words ho15) ho20).mono ?_); rintro e w21 ⟨rfl, nq2, rfl⟩); have hb21 := Ap.drewN_below w20 nq2; replace ho14 := OwnW.bel ho14 hb21; replace ho15 := OwnW.bel ho15 hb21; replace hb0 := stepB hb0 hb21; replace hB0 := hB0.below hb21; replace hBm := hBm.below hb21; replace hm := hm.below hb21; replace hin := hin.below hb21; replace hY := stepB hY hb21; clear hb21; generalize w20.drewN nq2 = w21 at *; obtain ⟨y0, y1, y2, y3, y4⟩ := hBm.cells; obtain ⟨z0, z1, z2, z3, z4⟩ := hB0.cells)
              | (go_at_call 25; ((with_reducible refine (HEN.out _ hb0 _ _ _ _ _ _ hm).mono ?_); rintro e w22 ⟨rfl, hb22⟩); replace ho14 := OwnW.bel ho14 hb22; replace ho15 := OwnW.bel ho15 hb22; replace hb0 := stepB hb0 hb22; replace hin := hin.below hb22; replace hY := stepB hY hb22; clear hb22 y0 y1 y2 y3 y4 z0 z1 z2 z3 z4 hm)
              | (go_at_call 26; ((with_reducible refine (HEB.out _ hb0 _ _ hin).mono ?_); rintro e w23 ⟨rfl, nq3, rfl⟩); have hb23 := Ap.drewN_below w22 nq3; replace ho14 := OwnW.bel ho14 hb23; replace ho15 := OwnW.bel ho15 hb23; replace hY := stepB hY hb23; clear hb23 hin; generalize w22.drewN nq3 = w23 at *)
              | (go_at_call 27; ((with_reducible refine (HOa.out _ _ _ _ ho14 _ _ ho15).mono ?_); rintro e w24 ⟨rfl, hb24, hca⟩); replace hY := hY.trans hb24; clear ho14 ho15 HOa)
              | (go_at_call 27; ((with_reducible refine (HOr.out _ _ _ _ hca).mono ?_); rintro e w25 ⟨rfl, hb25⟩); replace hY := hY.trans hb25))
            go_roundw
            case rel => exact ⟨k + 1, by omega, by go_num, hY⟩
            case measure => simp [intOf]; omega
      · have hew0 : (ew == 0) = false := beq_eq_false_iff_ne.2 hew
        have hsa := HSAn.out hel X3
        have hsr := HSRn.out hew X3
        obtain ⟨z0, z1, z2, z3, z4⟩ := hB0.cells
        go_wp2_with (first
          | (go_at_call 18; ((with_reducible refine (HAc.out _ hb0).mono ?_); rintro e w13 ⟨rfl, hb13⟩); clear z0 z1 z2 z3 z4 HAc; replace hb0 := stepB hb0 hb13; replace hB0 := hB0.below hb13; replace hBm := hBm.below hb13; replace hm := hm.below hb13; replace hin := hin.below hb13; replace hsa := hsa.below hb13; replace hsr := hsr.below hb13; clear hb13))
        clear HSA HSAn HSR HSRn
        have HB0 := Lib.hid hB0
        have HBm := Lib.hid hBm
        have Hm := Lib.hid hm
        have Hin := Lib.hid hin
        have HSA := Lib.hid hsa
        have HSR := Lib.hid hsr
        have HK := Lib.hid hb0
        clear hB0 hBm hm hin hsa hsr hb0 HLi HAr HRr HWx HWw
        go_loopw [18] (fun i wr => ∃ k : Nat, k ≤ 2 ∧ i = .int .i64 k ∧ Hid (Below w13.heap.size w13 wr)) (fun i _ => 2 - (intOf i).toNat)
        case atStart => exact ⟨0, by omega, rfl, Below.refl _ _⟩
        case round =>
          obtain ⟨k, hk, rfl, HY⟩ := hrel
          by_cases hk2 : k = 2
          · subst hk2
            go_wp2_with (go_at_call 10; ((with_reducible refine (HAw.out _).mono ?_); rintro e w30 ⟨rfl, hb30⟩))
            go_ret
            exact ⟨rfl, stepB (stepB HK.out HY.out) hb30⟩
          · have hk3 : k < 2 := by omega
            have hk4 : decide ((k : Int) < 2) = true := decide_eq_true (by omega)
            have hY := HY.out
            have hsz := hY.size
            have hb0 := stepB HK.out hY
            have hB0 := HB0.out.below hY
            have hBm := HBm.out.below hY
            have hm := Hm.out.below hY
            have hin := Hin.out.below hY
            have hsa := HSA.out.below hY
            have hsr := HSR.out.below hY
            clear HY
            obtain ⟨y0, y1, y2, y3, y4⟩ := hBm.cells
            go_wp2_with (first
              | (go_at_call 19; ((with_reducible refine (HAm.out _ hb0 _ _ _ _ _ _ hm).mono ?_); rintro e w14 ⟨A14, c14, rfl, ho14, hb14⟩); clear y0 y1 y2 y3 y4; replace ho14 := OwnW.low ho14 hsz; replace hb0 := stepB hb0 hb14; replace hB0 := hB0.below hb14; replace hBm := hBm.below hb14; replace hm := hm.below hb14; replace hin := hin.below hb14; replace hsa := hsa.below hb14; replace hsr := hsr.below hb14; replace hY := stepB hY hb14; clear hb14; obtain ⟨y0, y1, y2, y3, y4⟩ := hBm.cells)
              | (go_at_call 20; ((with_reducible refine (HRm.out _ _ _ _ _ _ _ hm _ _ hin).mono ?_); rintro e w15 ⟨A15, c15, rfl, ho15, hb15⟩); clear y0 y1 y2 y3 y4; replace ho15 := OwnW.low ho15 hY.size; replace ho14 := OwnW.bel ho14 hb15; replace hb0 := stepB hb0 hb15; replace hB0 := hB0.below hb15; replace hBm := hBm.below hb15; replace hm := hm.below hb15; replace hin := hin.below hb15; replace hsa := hsa.below hb15; replace hsr := hsr.below hb15; replace hY := stepB hY hb15; clear hb15; obtain ⟨y0, y1, y2, y3, y4⟩ := hBm.cells)
              | (go_at_call 21; ((with_reducible refine (HAcm.out _ _ _ _ _ _ _ hm _ _ hin).mono ?_); rintro e w16 ⟨rfl, hb16⟩); clear y0 y1 y2 y3 y4; replace ho14 := OwnW.bel ho14 hb16; replace ho15 := OwnW.bel ho15 hb16; replace hb0 := stepB hb0 hb16; replace hB0 := hB0.below hb16; replace hBm := hBm.below hb16; replace hm := hm.below hb16; replace hin := hin.below hb16; replace hsa := hsa.below hb16; replace hsr := hsr.below hb16; replace hY := stepB hY hb16; clear hb16; obtain ⟨y0, y1, y2, y3, y4⟩ := hBm.cells)
              | (go_at_call 22; ((with_reducible refine (HCm.out _ _ _ _ _ _ _ hm).mono ?_); rintro e w17 ⟨rfl, hb17⟩); clear y0 y1 y2 y3 y4; replace ho14 := OwnW.bel ho14 hb17; replace ho15 := OwnW.bel ho15 hb17; replace hb0 := stepB hb0 hb17; replace hB0 := hB0.below hb17; replace hBm := hBm.below hb17; replace hm := hm.below hb17; replace hin := hin.below hb17; replace hsa := hsa.below hb17; replace hsr := hsr.below hb17; replace hY := stepB hY hb17; clear hb17)
              | (go_at_call 24; ((with_reducible refine hsa.call.mono ?_); rintro e w18 ⟨A18, c18, rfl, ho18, hb18⟩); replace ho14 := OwnW.bel ho14 hb18; replace ho15 := OwnW.bel ho15 hb18; replace hb0 := stepB hb0 hb18; replace hB0 := hB0.below hb18; replace hBm := hBm.below hb18; replace hm := hm.below hb18; replace hin := hin.below hb18; replace hsr := hsr.below hb18; replace hY := stepB hY hb18; clear hb18; clear hsa)
              | (go_at_call 23; ((with_reducible refine (HEa.out _ _ _ _ _ (OwnW.words ho14) ho18).mono ?_); rintro e w19 ⟨rfl, nq, rfl⟩); have hb19 := Ap.drewN_below w18 nq; replace ho14 := OwnW.bel ho14 hb19; replace ho15 := OwnW.bel ho15 hb19; replace hb0 := stepB hb0 hb19; replace hB0 := hB0.below hb19; replace hBm := hBm.below hb19; replace hm := hm.below hb19; replace hin := hin.below hb19; replace hsr := hsr.below hb19; replace hY := stepB hY hb19; clear hb19; generalize w18.drewN nq = w19 at *)
              | (go_at_call 24; ((with_reducible refine hsr.call.mono ?_); rintro e w20 ⟨A20, c20, rfl, ho20, hb20⟩); replace ho14 := OwnW.bel ho14 hb20; replace ho15 := OwnW.bel ho15 hb20; replace hb0 := stepB hb0 hb20; replace hB0 := hB0.below hb20; replace hBm := hBm.below hb20; replace hm := hm.below hb20; replace hin := hin.below hb20; replace hY := stepB hY hb20; clear hb20; clear hsr)
              | (go_at_call 23; ((with_reducible refine (HEr.out _ _ _ _ _ (OwnW.words ho15) ho20).mono ?_); rintro e w21 ⟨rfl, nq2, rfl⟩); have hb21 := Ap.drewN_below w20 nq2; replace ho14 := OwnW.bel ho14 hb21; replace ho15 := OwnW.bel ho15 hb21; replace hb0 := stepB hb0 hb21; replace hB0 := hB0.below hb21; replace hBm := hBm.below hb21; replace hm := hm.below hb21; replace hin := hin.below hb21; replace hY := stepB hY hb21; clear hb21; generalize w20.drewN nq2 = w21 at *; obtain ⟨y0, y1, y2, y3, y4⟩ := hBm.cells; obtain ⟨z0, z1, z2, z3, z4⟩ := hB0.cells)
              | (go_at_call 25; ((with_reducible refine (HEN.out _ hb0 _ _ _ _ _ _ hm).mono ?_); rintro e w22 ⟨rfl, hb22⟩); replace ho14 := OwnW.bel ho14 hb22; replace ho15 := OwnW.bel ho15 hb22; replace hb0 := stepB hb0 hb22; replace hin := hin.below hb22; replace hY := stepB hY hb22; clear hb22 y0 y1 y2 y3 y4 z0 z1 z2 z3 z4 hm)
              | (go_at_call 26; ((with_reducible refine (HEB.out _ hb0 _ _ hin).mono ?_); rintro e w23 ⟨rfl, nq3, rfl⟩); have hb23 := Ap.drewN_below w22 nq3; replace ho14 := OwnW.bel ho14 hb23; replace ho15 := OwnW.bel ho15 hb23; replace hY := stepB hY hb23; clear hb23 hin; generalize w22.drewN nq3 = w23 at *)
              | (go_at_call 27; ((with_reducible refine (HOa.out _ _ _ _ ho14 _ _ ho15).mono ?_); rintro e w24 ⟨rfl, hb24, hca⟩); replace hY := hY.trans hb24; clear ho14 ho15 HOa)
              | (go_at_call 27; ((with_reducible refine (HOr.out _ _ _ _ hca).mono ?_); rintro e w25 ⟨rfl, hb25⟩); replace hY := hY.trans hb25))
            go_roundw
            case rel => exact ⟨k + 1, by omega, by go_num, hY⟩
            case measure => simp [intOf]; omega
  · have hsa0 : Hid (∀ X, SetOk X (.slice none 0 0) (elN n x) (raN n ss x)) := fun X => SetOk.nil (by rw [el_bad h0]; exact h0) (if_neg (by rw [el_bad h0]; exact h0))
    have hE : wrongN n l = chkN n := by unfold wrongN; rw [if_pos h0]
    have hsr0 : Hid (∀ X, SetOk X (.slice none 0 0) (wrongN n l) (rrN n l)) := fun X => SetOk.nil (by rw [hE]; exact h0) (if_neg (by rw [hE]; exact h0))
    have hEl : elN n x = chkN n := el_bad h0
    have heq : (chkN n == 0) = false := by rw [beq_eq_false_iff_ne]; exact h0
    clear hx hs us hD h8 hs80 hlen h0
    have HAr := trivial
    have HRr := trivial
    have HWx := trivial
    have HWw := trivial
    generalize chkN n = e0 at *
    generalize elN n x = el at *
    generalize wrongN n l = ew at *
    generalize raN n ss x = ra at *
    generalize rrN n l = rr at *
    generalize accE n l = G at *
    have hne0 : (e0 != e0) = false := by simp
    have hnel : (el != el) = false := by simp
    have hnew : (ew != ew) = false := by simp
    have hnG : (G != G) = false := by simp
    subst hEl
    subst hE
    go_enter Try.func3, Try.ntmps3
    go_wp2_with (first
      | (go_at_call 8; ((with_reducible refine (HLo.out _ _ (by simp)).mono ?_); rintro e w2 ⟨rfl, hb2⟩); replace hb0 := stepB hb0 hb2; replace hB0 := hB0.below hb2; clear HLo hb2)
      | (go_at_call 9; ((with_reducible refine (HL1.out _ _ (by simp)).mono ?_); rintro e w2 ⟨rfl, hb2⟩); replace hb0 := stepB hb0 hb2; replace hB0 := hB0.below hb2; clear HL1 hb2; obtain ⟨z0, z1, z2, z3, z4⟩ := hB0.cells)
      | (go_at_call 11; ((with_reducible refine (HCN.out _ hb0).mono ?_); rintro e w4 ⟨A1, B1, C1, a1, b1, c1, rfl, hb4, hm⟩); clear z0 z1 z2 z3 z4 HCN; replace hb0 := stepB hb0 hb4; replace hB0 := hB0.below hb4; clear hb4)
      | (go_at_call 12; ((with_reducible refine (HCB.out _ hb0).mono ?_); rintro e w5 ⟨D1, d1, rfl, hin, hb5⟩); clear HCB; have hBm := Boxed5.new w5 25 (.int .i64 n.V) (.int .i64 n.S) (.slice A1 n.st.length a1) (.slice B1 n.fi.length b1) (.slice C1 n.es.length c1); have hbm := bal (Below.refl w5.heap.size w5) (.cells #[.int .i64 n.V, .int .i64 n.S, .slice A1 n.st.length a1, .slice B1 n.fi.length b1, .slice C1 n.es.length c1] 25); replace hb0 := stepB (stepB hb0 hb5) hbm; replace hB0 := (hB0.below hb5).below hbm; replace hm := (hm.below hb5).below hbm; replace hin := hin.below hbm; clear hb5 hbm; obtain ⟨z0, z1, z2, z3, z4⟩ := hB0.cells)
      | (go_at_call 13; ((with_reducible refine (HC.out _ hb0).mono ?_); rintro e w6 ⟨rfl, hb6⟩); clear z0 z1 z2 z3 z4 HC; replace hb0 := stepB hb0 hb6; replace hB0 := hB0.below hb6; replace hBm := hBm.below hb6; replace hm := hm.below hb6; replace hin := hin.below hb6; clear hb6; obtain ⟨z0, z1, z2, z3, z4⟩ := hB0.cells)
      | (go_at_call 18; ((with_reducible refine (HAc.out _ hb0).mono ?_); rintro e w13 ⟨rfl, hb13⟩); clear z0 z1 z2 z3 z4 HAc; replace hb0 := stepB hb0 hb13; replace hB0 := hB0.below hb13; replace hBm := hBm.below hb13; replace hm := hm.below hb13; replace hin := hin.below hb13; clear hb13))
    generalize w5.heap.size = bm at *
    have hsa := hsa0.out w13
    have hsr := hsr0.out w13
    clear hsa0 hsr0
    have HB0 := Lib.hid hB0
    have HBm := Lib.hid hBm
    have Hm := Lib.hid hm
    have Hin := Lib.hid hin
    have HSA := Lib.hid hsa
    have HSR := Lib.hid hsr
    have HK := Lib.hid hb0
    clear hB0 hBm hm hin hsa hsr hb0 HLi HAr HRr HWx HWw
    go_loopw [18] (fun i wr => ∃ k : Nat, k ≤ 2 ∧ i = .int .i64 k ∧ Hid (Below w13.heap.size w13 wr)) (fun i _ => 2 - (intOf i).toNat)
    case atStart => exact ⟨0, by omega, rfl, Below.refl _ _⟩
    case round =>
      obtain ⟨k, hk, rfl, HY⟩ := hrel
      by_cases hk2 : k = 2
      · subst hk2
        go_wp2_with (go_at_call 10; ((with_reducible refine (HAw.out _).mono ?_); rintro e w30 ⟨rfl, hb30⟩))
        go_ret
        exact ⟨rfl, stepB (stepB HK.out HY.out) hb30⟩
      · have hk3 : k < 2 := by omega
        have hk4 : decide ((k : Int) < 2) = true := decide_eq_true (by omega)
        have hY := HY.out
        have hsz := hY.size
        have hb0 := stepB HK.out hY
        have hB0 := HB0.out.below hY
        have hBm := HBm.out.below hY
        have hm := Hm.out.below hY
        have hin := Hin.out.below hY
        have hsa := HSA.out.below hY
        have hsr := HSR.out.below hY
        clear HY
        obtain ⟨y0, y1, y2, y3, y4⟩ := hBm.cells
        go_wp2_with (first
          | (go_at_call 19; ((with_reducible refine (HAm.out _ hb0 _ _ _ _ _ _ hm).mono ?_); rintro e w14 ⟨A14, c14, rfl, ho14, hb14⟩); clear y0 y1 y2 y3 y4; replace ho14 := OwnW.low ho14 hsz; replace hb0 := stepB hb0 hb14; replace hB0 := hB0.below hb14; replace hBm := hBm.below hb14; replace hm := hm.below hb14; replace hin := hin.below hb14; replace hsa := hsa.below hb14; replace hsr := hsr.below hb14; replace hY := stepB hY hb14; clear hb14; obtain ⟨y0, y1, y2, y3, y4⟩ := hBm.cells)
          | (go_at_call 20; ((with_reducible refine (HRm.out _ _ _ _ _ _ _ hm _ _ hin).mono ?_); rintro e w15 ⟨A15, c15, rfl, ho15, hb15⟩); clear y0 y1 y2 y3 y4; replace ho15 := OwnW.low ho15 hY.size; replace ho14 := OwnW.bel ho14 hb15; replace hb0 := stepB hb0 hb15; replace hB0 := hB0.below hb15; replace hBm := hBm.below hb15; replace hm := hm.below hb15; replace hin := hin.below hb15; replace hsa := hsa.below hb15; replace hsr := hsr.below hb15; replace hY := stepB hY hb15; clear hb15; obtain ⟨y0, y1, y2, y3, y4⟩ := hBm.cells)
          | (go_at_call 21; ((with_reducible refine (HAcm.out _ _ _ _ _ _ _ hm _ _ hin).mono ?_); rintro e w16 ⟨rfl, hb16⟩); clear y0 y1 y2 y3 y4; replace ho14 := OwnW.bel ho14 hb16; replace ho15 := OwnW.bel ho15 hb16; replace hb0 := stepB hb0 hb16; replace hB0 := hB0.below hb16; replace hBm := hBm.below hb16; replace hm := hm.below hb16; replace hin := hin.below hb16; replace hsa := hsa.below hb16; replace hsr := hsr.below hb16; replace hY := stepB hY hb16; clear hb16; obtain ⟨y0, y1, y2, y3, y4⟩ := hBm.cells)
          | (go_at_call 22; ((with_reducible refine (HCm.out _ _ _ _ _ _ _ hm).mono ?_); rintro e w17 ⟨rfl, hb17⟩); clear y0 y1 y2 y3 y4; replace ho14 := OwnW.bel ho14 hb17; replace ho15 := OwnW.bel ho15 hb17; replace hb0 := stepB hb0 hb17; replace hB0 := hB0.below hb17; replace hBm := hBm.below hb17; replace hm := hm.below hb17; replace hin := hin.below hb17; replace hsa := hsa.below hb17; replace hsr := hsr.below hb17; replace hY := stepB hY hb17; clear hb17)
          | (go_at_call 24; ((with_reducible refine hsa.call.mono ?_); rintro e w18 ⟨A18, c18, rfl, ho18, hb18⟩); replace ho14 := OwnW.bel ho14 hb18; replace ho15 := OwnW.bel ho15 hb18; replace hb0 := stepB hb0 hb18; replace hB0 := hB0.below hb18; replace hBm := hBm.below hb18; replace hm := hm.below hb18; replace hin := hin.below hb18; replace hsr := hsr.below hb18; replace hY := stepB hY hb18; clear hb18; clear hsa)
          | (go_at_call 23; ((with_reducible refine (HEa.out _ _ _ _ _ (OwnW.words ho14) ho18).mono ?_); rintro e w19 ⟨rfl, nq, rfl⟩); have hb19 := Ap.drewN_below w18 nq; replace ho14 := OwnW.bel ho14 hb19; replace ho15 := OwnW.bel ho15 hb19; replace hb0 := stepB hb0 hb19; replace hB0 := hB0.below hb19; replace hBm := hBm.below hb19; replace hm := hm.below hb19; replace hin := hin.below hb19; replace hsr := hsr.below hb19; replace hY := stepB hY hb19; clear hb19; generalize w18.drewN nq = w19 at *)
          | (go_at_call 24; ((with_reducible refine hsr.call.mono ?_); rintro e w20 ⟨A20, c20, rfl, ho20, hb20⟩); replace ho14 := OwnW.bel ho14 hb20; replace ho15 := OwnW.bel ho15 hb20; replace hb0 := stepB hb0 hb20; replace hB0 := hB0.below hb20; replace hBm := hBm.below hb20; replace hm := hm.below hb20; replace hin := hin.below hb20; replace hY := stepB hY hb20; clear hb20; clear hsr)
          | (go_at_call 23; ((with_reducible refine (HEr.out _ _ _ _ _ (OwnW.words ho15) ho20).mono ?_); rintro e w21 ⟨rfl, nq2, rfl⟩); have hb21 := Ap.drewN_below w20 nq2; replace ho14 := OwnW.bel ho14 hb21; replace ho15 := OwnW.bel ho15 hb21; replace hb0 := stepB hb0 hb21; replace hB0 := hB0.below hb21; replace hBm := hBm.below hb21; replace hm := hm.below hb21; replace hin := hin.below hb21; replace hY := stepB hY hb21; clear hb21; generalize w20.drewN nq2 = w21 at *; obtain ⟨y0, y1, y2, y3, y4⟩ := hBm.cells; obtain ⟨z0, z1, z2, z3, z4⟩ := hB0.cells)
          | (go_at_call 25; ((with_reducible refine (HEN.out _ hb0 _ _ _ _ _ _ hm).mono ?_); rintro e w22 ⟨rfl, hb22⟩); replace ho14 := OwnW.bel ho14 hb22; replace ho15 := OwnW.bel ho15 hb22; replace hb0 := stepB hb0 hb22; replace hin := hin.below hb22; replace hY := stepB hY hb22; clear hb22 y0 y1 y2 y3 y4 z0 z1 z2 z3 z4 hm)
          | (go_at_call 26; ((with_reducible refine (HEB.out _ hb0 _ _ hin).mono ?_); rintro e w23 ⟨rfl, nq3, rfl⟩); have hb23 := Ap.drewN_below w22 nq3; replace ho14 := OwnW.bel ho14 hb23; replace ho15 := OwnW.bel ho15 hb23; replace hY := stepB hY hb23; clear hb23 hin; generalize w22.drewN nq3 = w23 at *)
          | (go_at_call 27; ((with_reducible refine (HOa.out _ _ _ _ ho14 _ _ ho15).mono ?_); rintro e w24 ⟨rfl, hb24, hca⟩); replace hY := hY.trans hb24; clear ho14 ho15 HOa)
          | (go_at_call 27; ((with_reducible refine (HOr.out _ _ _ _ hca).mono ?_); rintro e w25 ⟨rfl, hb25⟩); replace hY := hY.trans hb25))
        go_roundw
        case rel => exact ⟨k + 1, by omega, by go_num, hY⟩
        case measure => simp [intOf]; omega
end
end Go.Proofs.Ytbmamkackigdaaa.Nf
