/- The reference's turned expression, and its Reverse. -/
import Derived.Test.YtlaagjmfgaccjaaUD
import Derived.Test.YtlaagjmfgaccjaaYZP
import Derived.Deep.RegionHeld3
namespace Go.Proofs.Ytlaagjmfgaccjaa.Rx
open Go Go.RowKit Go.Proofs.Ytlaagjmfgaccjaa
set_option linter.unusedVariables false
set_option maxRecDepth 100000
theorem pcs_some {w : World} {A : Option Addr} {l : List Pc} (h : PcsAt w A l) (h0 : 0 < l.length) : ∃ ad, A = some ad := by
  obtain ⟨_, ad, e, _⟩ := h 0 h0
  exact ⟨ad, e⟩
theorem rev_p8 : ∀ t : Ex, t.P8 → (rev t).P8
  | .leaf op p q, h => h
  | .one op a, h => rev_p8 a h
  | .two op a b, h => by
    unfold rev
    split
    · exact ⟨rev_p8 b h.2, rev_p8 a h.1⟩
    · exact ⟨rev_p8 a h.1, rev_p8 b h.2⟩
theorem flat_pos (t : Ex) (k : Nat) : 0 < (flat t k).length := by rw [flat_len]; exact t.pos
theorem fine_all {t : Ex} (ho : t.Ok) (hP : t.P8) (hs : t.size ≤ 1000) (k : Nat) (hk : k ≤ 1000) : ∀ x ∈ flat t k, PcOk x := flat_fine t k ho hP (by omega)
/-- Cut, with a block of a tree. -/
theorem cut_tree (A : Option Addr) (t a : Ex) (n c s j : Nat) (hn : n = t.size) (hs : t.size ≤ 400) (w : World) (hx : PcsAt w A (flat t 0)) (ho : a.Ok) (hP : a.P8) (hb : Bl (flat t 0) s j a) (hz : a.size ≤ 400) (J : Int) (hJ : J = j) :
    Calls Try.prog 41 #[.slice A n c, .int .i64 J] w fun r w' => ∃ ad c', r = .returned (.slice (some ad) a.size c') ∧ PcsAt w' (some ad) (flat a 0) ∧ Below w.heap.size w w' := by
  have h := Cut_any A (flat t 0) c (by rw [flat_len]; omega) a s j w hx ho hP hb (by omega)
  rw [flat_len] at h
  subst hn hJ
  refine h.mono ?_
  rintro r w' ⟨A', c', rfl, hown, hb⟩
  have hp := pcs_of_own hown (fine_all ho hP (by omega) 0 (by omega))
  obtain ⟨ad, rfl⟩ := pcs_some hp (flat_pos a 0)
  exact ⟨ad, c', rfl, hp, hb⟩
theorem join_one (ad : Addr) (x : Ex) (n c op : Nat) (hn : n = x.size) (w : World) (hx : PcsAt w (some ad) (flat x 0)) (ho : (Ex.one op x).Ok) (hP : x.P8) (hs : x.size ≤ 400) :
    Calls Try.prog 70 #[.int .u8 op, .slice (some ad) n c, .slice none 0 0] w fun r w' => ∃ ad' c', r = .returned (.slice (some ad') (n + 1) c') ∧ PcsAt w' (some ad') (flat (.one op x) 0) ∧ Below w.heap.size w w' := by
  have h := join_any ad none (flat x 0) [] c 0 op w hx (fun j hj => absurd hj (by simp)) (flat_pos x 0) (by rw [flat_len]; simp; omega) (fun d hd => absurd hd (by simp))
  subst hn
  rw [flat_len] at h
  refine Calls.mono h ?_
  rintro r w' ⟨A', c', rfl, hown, hb⟩
  rw [show flat x 0 ++ ([] : List Pc).map (up x.size) ++ [⟨op, 0, 0, (x.size : Int) - 1, if ([] : List Pc).length = 0 then 0 else ((x.size + ([] : List Pc).length : Nat) : Int) - 1⟩] = flat (.one op x) 0 by simp [flat]] at hown
  have hp := pcs_of_own hown (fine_all ho (show (Ex.one op x).P8 from hP) (by show x.size + 1 ≤ _; omega) 0 (by omega))
  obtain ⟨ad', rfl⟩ := pcs_some hp (flat_pos _ 0)
  exact ⟨ad', c', rfl, hp, hb⟩
theorem join_two (ad ae : Addr) (x y : Ex) (n m c d op : Nat) (hn : n = x.size) (hm : m = y.size) (w : World) (hx : PcsAt w (some ad) (flat x 0)) (hy : PcsAt w (some ae) (flat y 0)) (ho : (Ex.two op x y).Ok) (hP : x.P8) (hQ : y.P8) (hs : x.size + y.size ≤ 400) :
    Calls Try.prog 70 #[.int .u8 op, .slice (some ad) n c, .slice (some ae) m d] w fun r w' => ∃ ad' c', r = .returned (.slice (some ad') (n + m + 1) c') ∧ PcsAt w' (some ad') (flat (.two op x y) 0) ∧ Below w.heap.size w w' := by
  have hup := flat_up y x.size ho.2.2
  have h := join_any ad (some ae) (flat x 0) (flat y 0) c d op w hx hy (flat_pos x 0) (by rw [flat_len, flat_len]; omega) (fun d hd => by
    rw [← pc_map (f := up (flat x 0).length) hd, flat_len, ← hup]
    refine fine_all ho.2.2 hQ (by omega) x.size (by omega) _ ?_
    unfold pc
    rw [flat_len] at hd
    rw [List.getD_eq_getElem?_getD, List.getElem?_eq_getElem (by rw [flat_len]; exact hd)]
    exact List.getElem_mem _)
  subst hn hm
  rw [flat_len, flat_len, ← hup] at h
  have hy0 := y.pos
  refine Calls.mono h ?_
  rintro r w' ⟨A', c', rfl, hown, hb⟩
  rw [if_neg (by omega), show flat x 0 ++ flat y x.size ++ [⟨op, 0, 0, (x.size : Int) - 1, ((x.size + y.size : Nat) : Int) - 1⟩] = flat (.two op x y) 0 by simp [flat]] at hown
  have hp := pcs_of_own hown (fine_all ho (show (Ex.two op x y).P8 from ⟨hP, hQ⟩) (by show x.size + y.size + 1 ≤ _; omega) 0 (by omega))
  obtain ⟨ad', rfl⟩ := pcs_some hp (flat_pos _ 0)
  exact ⟨ad', c', rfl, hp, hb⟩
theorem ret_slice {ad : Addr} {n m c : Nat} (h : n = m) : Ending.returned (.slice (some ad) n c) = .returned (.slice (some ad) m c) := by rw [h]
set_option maxHeartbeats 8000000 in
theorem turned_any : ∀ (t : Ex) (A : Option Addr) (n c : Nat) (w : World), n = t.size → PcsAt w A (flat t 0) → t.Ok → t.P8 → t.size ≤ 400 →
    Calls Try.prog 42 #[.slice A n c] w fun r w' => ∃ ad c', r = .returned (.slice (some ad) n c') ∧ PcsAt w' (some ad) (flat (rev t) 0) ∧ Below w.heap.size w w'
  | .leaf op p q, A, n, c, w, hn, hx, ho, hP, hs => by
    obtain rfl : n = 1 := hn
    obtain ⟨hok, ad, rfl, _, hc⟩ := hx 0 (by simp [flat])
    obtain ⟨f0, f1, f2, f3, f4⟩ := five_at hc
    rw [show pc (flat (.leaf op p q) 0) 0 = ⟨op, p, q, 0, 0⟩ from rfl] at f0 f1 f2 f3 f4 hok
    dsimp only at f0 f1 f2 f3 f4
    have e0 : ad.add (0 * 5) = ad := by simp [Addr.add]
    rw [e0] at f0 f1 f2 f3 f4
    clear e0
    have hop := hok.op
    have HF := Lib.hid fun X => pcs_new X (flat (rev (.leaf op p q)) 0) (by simp [rev, flat]) (fine_all (t := rev (.leaf op p q)) ho hP (show (1 : Nat) ≤ 1000 by decide) 0 (by omega))
    have HCh : Hid (∀ X, Calls Try.prog 53 #[.int .u8 op] X fun r w' => r = .returned (.int .i64 0) ∧ X = w') := fun X => by
      have := Children_any op X hop
      rwa [kids_leaf ho.1] at this
    have n9 : ((op : Int) == 9) = false := by have := ho.1; rw [beq_eq_false_iff_ne]; omega
    have n10 : ((op : Int) == 10) = false := by have := ho.1; rw [beq_eq_false_iff_ne]; omega
    clear hc hok hx ho hP hs hop
    go_enter Try.func42, Try.ntmps42
    go_wp2_with (go_at_call 53; ((refine (HCh.out _).mono ?_); rintro r w2 ⟨rfl, rfl⟩))
    go_ret
    have h := HF.out (w.alloc (.cells #[.int .u8 op, .int .u8 p, .int .u8 q, .int .i64 0, .int .i64 0] 43))
    rw [World.size_alloc] at h
    exact ⟨_, _, rfl, h, bal (bal (Below.refl _ _) _) _⟩
  | .one op a, A, n, c, w, hn, hx, ho, hP, hs => by
    have hsz : a.size + 1 ≤ 400 := hs
    have hn' : n = a.size + 1 := hn
    have hbw := bl_whole (t := .one op a)
    rw [flat_len] at hbw
    obtain ⟨h0, hpc, hba⟩ := bl_one' hbw
    have hj : (Ex.one op a).size - 1 = a.size := by show a.size + 1 - 1 = _; omega
    rw [hj] at hpc hba
    obtain ⟨hok, ad, rfl, _, hc⟩ := hx a.size (by rw [flat_len]; show _ < a.size + 1; omega)
    obtain ⟨f0, f1, f2, f3, f4⟩ := five_at hc
    rw [hpc] at f0 f1 f2 f3 f4 hok
    dsimp only at f0 f1 f2 f3 f4
    have hop := hok.op
    have hpa := a.pos
    have HK := Lib.hid fun X (hX : Below w.heap.size w X) => cut_tree (some ad) (.one op a) a n c 0 (a.size - 1) hn hs X (hx.below hX) ho.2 hP hba (by omega) ((a.size : Int) - 1) (by omega)
    have HI := Lib.hid fun X ad c hX => turned_any a (some ad) a.size c X rfl hX ho.2 hP (by omega)
    have HJ := Lib.hid fun X ad c op' (ho' : (Ex.one op' (rev a)).Ok) hX => join_one ad (rev a) a.size c op' (rev_size a).symm X hX ho' (rev_p8 a hP) (by rw [rev_size]; omega)
    have HCh : Hid (∀ X, Calls Try.prog 53 #[.int .u8 op] X fun r w' => r = .returned (.int .i64 1) ∧ X = w') := fun X => by
      have := Children_any op X hop
      rwa [kids_one ho.1] at this
    have HR := Lib.hid (rev_one op a)
    have HO := Lib.hid (rev_ok (.one op a) ho)
    rw [rev_one] at HO
    have hop4 : op = 7 ∨ op = 8 ∨ op = 9 ∨ op = 10 := by have := ho.1; omega
    have K := Lib.hid fun o => bal (Below.refl w.heap.size w) o
    clear hc hok hx ho hP hs hop hn hbw hba hpc hj h0
    subst hn'
    generalize rev (.one op a) = RV at *
    generalize flat a 0 = FA at *
    generalize flat (rev a) 0 = FR at *
    generalize hna : a.size = na at *
    clear hna
    rcases hop4 with rfl | rfl | rfl | rfl
    all_goals
      go_enter Try.func42, Try.ntmps42
      go_wp2_with (first
        | (go_at_call 53; ((refine (HCh.out _).mono ?_); rintro r w2 ⟨rfl, rfl⟩))
        | (go_at_call 41; ((with_reducible refine (HK.out _ (K.out _)).mono ?_); rintro r w3 ⟨ad3, c3, rfl, hp3, hb3⟩))
        | (go_at_call 42; ((with_reducible refine (HI.out _ _ _ hp3).mono ?_); rintro r w4 ⟨ad4, c4, rfl, hp4, hb4⟩))
        | (go_at_call 70; (refine (HJ.out _ _ _ _ HO.out hp4).mono ?_); rintro r w5 ⟨ad5, c5, rfl, hp5, hb5⟩))
      go_ret
      exact ⟨_, _, rfl, by rw [HR.out]; exact hp5, stepB (K.out _) (stepB hb3 (stepB hb4 hb5))⟩
  | .two op a b, A, n, c, w, hn, hx, ho, hP, hs => by
    have hsz : a.size + b.size + 1 ≤ 400 := hs
    have hn' : n = a.size + b.size + 1 := hn
    have hbw := bl_whole (t := .two op a b)
    rw [flat_len] at hbw
    obtain ⟨h0, hpc, hba, hbb⟩ := bl_two' hbw
    have hj : (Ex.two op a b).size - 1 = a.size + b.size := by show a.size + b.size + 1 - 1 = _; omega
    rw [hj] at hpc hbb
    rw [Nat.zero_add] at hpc hba hbb
    obtain ⟨hok, ad, rfl, _, hc⟩ := hx (a.size + b.size) (by rw [flat_len]; show _ < a.size + b.size + 1; omega)
    obtain ⟨f0, f1, f2, f3, f4⟩ := five_at hc
    rw [hpc] at f0 f1 f2 f3 f4 hok
    dsimp only at f0 f1 f2 f3 f4
    have hop := hok.op
    have hpa := a.pos
    have hpb := b.pos
    have HKa := Lib.hid fun X (hX : Below w.heap.size w X) => cut_tree (some ad) (.two op a b) a n c 0 (a.size - 1) hn hs X (hx.below hX) ho.2.1 hP.1 hba (by omega) ((a.size : Int) - 1) (by omega)
    have HKb := Lib.hid fun X (hX : Below w.heap.size w X) => cut_tree (some ad) (.two op a b) b n c a.size (a.size + b.size - 1) hn hs X (hx.below hX) ho.2.2 hP.2 hbb (by omega) ((a.size : Int) + (b.size : Int) - 1) (by omega)
    have HIa := Lib.hid fun X ad c hX => turned_any a (some ad) a.size c X rfl hX ho.2.1 hP.1 (by omega)
    have HIb := Lib.hid fun X ad c hX => turned_any b (some ad) b.size c X rfl hX ho.2.2 hP.2 (by omega)
    have hoo := rev_ok (.two op a b) ho
    have hpp := rev_p8 (.two op a b) hP
    have HJ : Hid (∀ X ad1 c1 ad2 c2, PcsAt X (some ad1) (flat (rev a) 0) → PcsAt X (some ad2) (flat (rev b) 0) →
        (op = 4 → Calls Try.prog 70 #[.int .u8 op, .slice (some ad2) b.size c2, .slice (some ad1) a.size c1] X fun r w' => ∃ ad' c', r = .returned (.slice (some ad') (b.size + a.size + 1) c') ∧ PcsAt w' (some ad') (flat (rev (.two op a b)) 0) ∧ Below X.heap.size X w') ∧
        (op ≠ 4 → Calls Try.prog 70 #[.int .u8 op, .slice (some ad1) a.size c1, .slice (some ad2) b.size c2] X fun r w' => ∃ ad' c', r = .returned (.slice (some ad') (a.size + b.size + 1) c') ∧ PcsAt w' (some ad') (flat (rev (.two op a b)) 0) ∧ Below X.heap.size X w')) := fun X ad1 c1 ad2 c2 h1 h2 => by
      constructor
      · intro h4
        rw [rev_two, if_pos h4] at hoo hpp ⊢
        exact join_two ad2 ad1 (rev b) (rev a) b.size a.size c2 c1 op (rev_size b).symm (rev_size a).symm X h2 h1 hoo hpp.1 hpp.2 (by rw [rev_size, rev_size]; omega)
      · intro h4
        rw [rev_two, if_neg h4] at hoo hpp ⊢
        exact join_two ad1 ad2 (rev a) (rev b) a.size b.size c1 c2 op (rev_size a).symm (rev_size b).symm X h1 h2 hoo hpp.1 hpp.2 (by rw [rev_size, rev_size]; omega)
    have HCh : Hid (∀ X, Calls Try.prog 53 #[.int .u8 op] X fun r w' => r = .returned (.int .i64 2) ∧ X = w') := fun X => by
      have := Children_any op X hop
      rwa [kids_two ho.1] at this
    have hop4 : op = 4 ∨ op = 5 ∨ op = 6 := by have := ho.1; omega
    clear hc hok hx ho hP hs hop hn hbw hba hbb hpc hj h0 hoo hpp
    subst hn'
    generalize rev (.two op a b) = RV at *
    generalize flat a 0 = FA at *
    generalize flat (rev a) 0 = FR at *
    generalize flat b 0 = FB at *
    generalize flat (rev b) 0 = FS at *
    generalize hna : a.size = na at *
    generalize hnb : b.size = nb at *
    clear hna hnb
    rcases hop4 with rfl | rfl | rfl
    · go_enter Try.func42, Try.ntmps42
      go_upto_region 13 with (go_at_call 53; ((refine (HCh.out _).mono ?_); rintro r w2 ⟨rfl, rfl⟩))
      have K9 : Hid (Below w.heap.size w (w.alloc (.cells #[.int .u8 4, .int .u8 0, .int .u8 0, .int .i64 ((na : Int) - 1), .int .i64 ((na : Int) + (nb : Int) - 1)] 43))) := bal (Below.refl _ _) _
      have e3 : (w.alloc (.cells #[.int .u8 4, .int .u8 0, .int .u8 0, .int .i64 ((na : Int) - 1), .int .i64 ((na : Int) + (nb : Int) - 1)] 43)).cell? ⟨w.heap.size, 3, none⟩ = some (.int .i64 ((na : Int) - 1)) := by rw [World.cell?_alloc_at _ _ _ _ rfl]; rfl
      have e4 : (w.alloc (.cells #[.int .u8 4, .int .u8 0, .int .u8 0, .int .i64 ((na : Int) - 1), .int .i64 ((na : Int) + (nb : Int) - 1)] 43)).cell? ⟨w.heap.size, 4, none⟩ = some (.int .i64 ((na : Int) + (nb : Int) - 1)) := by rw [World.cell?_alloc_at _ _ _ _ rfl]; rfl
      have hs9 : w.heap.size < (w.alloc (.cells #[.int .u8 4, .int .u8 0, .int .u8 0, .int .i64 ((na : Int) - 1), .int .i64 ((na : Int) + (nb : Int) - 1)] 43)).heap.size := by rw [World.size_alloc]; omega
      generalize w.alloc (.cells #[.int .u8 4, .int .u8 0, .int .u8 0, .int .i64 ((na : Int) - 1), .int .i64 ((na : Int) + (nb : Int) - 1)] 43) = w9 at *
      have HSx : Hid (∀ X, Below w9.heap.size w9 X → X.cell? ⟨w.heap.size, 3, none⟩ = some (.int .i64 ((na : Int) - 1)) ∧ X.cell? ⟨w.heap.size, 4, none⟩ = some (.int .i64 ((na : Int) + (nb : Int) - 1)) ∧ Below w9.heap.size w9 X) := fun X hX => ⟨(Below.cell hX hs9).trans e3, (Below.cell hX hs9).trans e4, hX⟩
      have KE : Below w9.heap.size w9 w9.drew := drew_below w9
      have hSd := HSx.out _ KE
      have G1 := Lib.hid fun X (hX : Below w9.heap.size w9 X) => HKa.out X (stepB K9.out hX)
      have G2 := Lib.hid fun X (hX : Below w9.heap.size w9 X) => HKb.out X (stepB K9.out hX)
      clear f0 f1 f2 f3 f4 HKa HKb HCh hs9
      go_region_held3 (fun w' => w'.cell? ⟨w.heap.size, 3, none⟩ = some (.int .i64 ((na : Int) - 1)) ∧ w'.cell? ⟨w.heap.size, 4, none⟩ = some (.int .i64 ((na : Int) + (nb : Int) - 1)) ∧ Below w9.heap.size w9 w')
        (first | assumption)
        (first
          | (go_at_call 41; ((with_reducible refine (G1.out _ (by assumption)).mono ?_); rintro e wA ⟨adA, cA, rfl, Pa, hbwA⟩); have KwA : Below w9.heap.size w9 wA := stepB (by assumption) hbwA; have hSwA := HSx.out wA KwA; (try replace Pb := Pb.below hbwA); (try replace Qb := Qb.below hbwA); clear G1)
          | (go_at_call 41; ((with_reducible refine (G2.out _ (by assumption)).mono ?_); rintro e wB ⟨adB, cB, rfl, Pb, hbwB⟩); have KwB : Below w9.heap.size w9 wB := stepB (by assumption) hbwB; have hSwB := HSx.out wB KwB; (try replace Pa := Pa.below hbwB); (try replace Qa := Qa.below hbwB); clear G2)
          | (go_at_call 42; ((with_reducible refine (HIa.out _ _ _ Pa).mono ?_); rintro e wC ⟨adC, cC, rfl, Qa, hbwC⟩); have KwC : Below w9.heap.size w9 wC := stepB (by assumption) hbwC; have hSwC := HSx.out wC KwC; (try replace Pb := Pb.below hbwC); (try replace Qb := Qb.below hbwC); clear HIa)
          | (go_at_call 42; ((with_reducible refine (HIb.out _ _ _ Pb).mono ?_); rintro e wD ⟨adD, cD, rfl, Qb, hbwD⟩); have KwD : Below w9.heap.size w9 wD := stepB (by assumption) hbwD; have hSwD := HSx.out wD KwD; (try replace Pa := Pa.below hbwD); (try replace Qa := Qa.below hbwD); clear HIb))
      all_goals
        have K := stepB K9.out (show Below w9.heap.size w9 _ by assumption)
        have J := (HJ.out _ adC cC adD cD Qa Qb).1 (by first | trivial | decide | simp)
        go_wp2_with (go_at_call 70; ((refine J.mono ?_); rintro r w5 ⟨ad5, c5, rfl, hp5, hb5⟩))
        go_ret
        exact ⟨_, _, ret_slice (by omega), hp5, stepB K hb5⟩
    · go_enter Try.func42, Try.ntmps42
      go_upto_region 13 with (go_at_call 53; ((refine (HCh.out _).mono ?_); rintro r w2 ⟨rfl, rfl⟩))
      have K9 : Hid (Below w.heap.size w (w.alloc (.cells #[.int .u8 5, .int .u8 0, .int .u8 0, .int .i64 ((na : Int) - 1), .int .i64 ((na : Int) + (nb : Int) - 1)] 43))) := bal (Below.refl _ _) _
      have e3 : (w.alloc (.cells #[.int .u8 5, .int .u8 0, .int .u8 0, .int .i64 ((na : Int) - 1), .int .i64 ((na : Int) + (nb : Int) - 1)] 43)).cell? ⟨w.heap.size, 3, none⟩ = some (.int .i64 ((na : Int) - 1)) := by rw [World.cell?_alloc_at _ _ _ _ rfl]; rfl
      have e4 : (w.alloc (.cells #[.int .u8 5, .int .u8 0, .int .u8 0, .int .i64 ((na : Int) - 1), .int .i64 ((na : Int) + (nb : Int) - 1)] 43)).cell? ⟨w.heap.size, 4, none⟩ = some (.int .i64 ((na : Int) + (nb : Int) - 1)) := by rw [World.cell?_alloc_at _ _ _ _ rfl]; rfl
      have hs9 : w.heap.size < (w.alloc (.cells #[.int .u8 5, .int .u8 0, .int .u8 0, .int .i64 ((na : Int) - 1), .int .i64 ((na : Int) + (nb : Int) - 1)] 43)).heap.size := by rw [World.size_alloc]; omega
      generalize w.alloc (.cells #[.int .u8 5, .int .u8 0, .int .u8 0, .int .i64 ((na : Int) - 1), .int .i64 ((na : Int) + (nb : Int) - 1)] 43) = w9 at *
      have HSx : Hid (∀ X, Below w9.heap.size w9 X → X.cell? ⟨w.heap.size, 3, none⟩ = some (.int .i64 ((na : Int) - 1)) ∧ X.cell? ⟨w.heap.size, 4, none⟩ = some (.int .i64 ((na : Int) + (nb : Int) - 1)) ∧ Below w9.heap.size w9 X) := fun X hX => ⟨(Below.cell hX hs9).trans e3, (Below.cell hX hs9).trans e4, hX⟩
      have KE : Below w9.heap.size w9 w9.drew := drew_below w9
      have hSd := HSx.out _ KE
      have G1 := Lib.hid fun X (hX : Below w9.heap.size w9 X) => HKa.out X (stepB K9.out hX)
      have G2 := Lib.hid fun X (hX : Below w9.heap.size w9 X) => HKb.out X (stepB K9.out hX)
      clear f0 f1 f2 f3 f4 HKa HKb HCh hs9
      go_region_held3 (fun w' => w'.cell? ⟨w.heap.size, 3, none⟩ = some (.int .i64 ((na : Int) - 1)) ∧ w'.cell? ⟨w.heap.size, 4, none⟩ = some (.int .i64 ((na : Int) + (nb : Int) - 1)) ∧ Below w9.heap.size w9 w')
        (first | assumption)
        (first
          | (go_at_call 41; ((with_reducible refine (G1.out _ (by assumption)).mono ?_); rintro e wA ⟨adA, cA, rfl, Pa, hbwA⟩); have KwA : Below w9.heap.size w9 wA := stepB (by assumption) hbwA; have hSwA := HSx.out wA KwA; (try replace Pb := Pb.below hbwA); (try replace Qb := Qb.below hbwA); clear G1)
          | (go_at_call 41; ((with_reducible refine (G2.out _ (by assumption)).mono ?_); rintro e wB ⟨adB, cB, rfl, Pb, hbwB⟩); have KwB : Below w9.heap.size w9 wB := stepB (by assumption) hbwB; have hSwB := HSx.out wB KwB; (try replace Pa := Pa.below hbwB); (try replace Qa := Qa.below hbwB); clear G2)
          | (go_at_call 42; ((with_reducible refine (HIa.out _ _ _ Pa).mono ?_); rintro e wC ⟨adC, cC, rfl, Qa, hbwC⟩); have KwC : Below w9.heap.size w9 wC := stepB (by assumption) hbwC; have hSwC := HSx.out wC KwC; (try replace Pb := Pb.below hbwC); (try replace Qb := Qb.below hbwC); clear HIa)
          | (go_at_call 42; ((with_reducible refine (HIb.out _ _ _ Pb).mono ?_); rintro e wD ⟨adD, cD, rfl, Qb, hbwD⟩); have KwD : Below w9.heap.size w9 wD := stepB (by assumption) hbwD; have hSwD := HSx.out wD KwD; (try replace Pa := Pa.below hbwD); (try replace Qa := Qa.below hbwD); clear HIb))
      all_goals
        have K := stepB K9.out (show Below w9.heap.size w9 _ by assumption)
        have J := (HJ.out _ adC cC adD cD Qa Qb).2 (by first | trivial | decide | simp)
        go_wp2_with (go_at_call 70; ((refine J.mono ?_); rintro r w5 ⟨ad5, c5, rfl, hp5, hb5⟩))
        go_ret
        exact ⟨_, _, ret_slice (by omega), hp5, stepB K hb5⟩
    · go_enter Try.func42, Try.ntmps42
      go_upto_region 13 with (go_at_call 53; ((refine (HCh.out _).mono ?_); rintro r w2 ⟨rfl, rfl⟩))
      have K9 : Hid (Below w.heap.size w (w.alloc (.cells #[.int .u8 6, .int .u8 0, .int .u8 0, .int .i64 ((na : Int) - 1), .int .i64 ((na : Int) + (nb : Int) - 1)] 43))) := bal (Below.refl _ _) _
      have e3 : (w.alloc (.cells #[.int .u8 6, .int .u8 0, .int .u8 0, .int .i64 ((na : Int) - 1), .int .i64 ((na : Int) + (nb : Int) - 1)] 43)).cell? ⟨w.heap.size, 3, none⟩ = some (.int .i64 ((na : Int) - 1)) := by rw [World.cell?_alloc_at _ _ _ _ rfl]; rfl
      have e4 : (w.alloc (.cells #[.int .u8 6, .int .u8 0, .int .u8 0, .int .i64 ((na : Int) - 1), .int .i64 ((na : Int) + (nb : Int) - 1)] 43)).cell? ⟨w.heap.size, 4, none⟩ = some (.int .i64 ((na : Int) + (nb : Int) - 1)) := by rw [World.cell?_alloc_at _ _ _ _ rfl]; rfl
      have hs9 : w.heap.size < (w.alloc (.cells #[.int .u8 6, .int .u8 0, .int .u8 0, .int .i64 ((na : Int) - 1), .int .i64 ((na : Int) + (nb : Int) - 1)] 43)).heap.size := by rw [World.size_alloc]; omega
      generalize w.alloc (.cells #[.int .u8 6, .int .u8 0, .int .u8 0, .int .i64 ((na : Int) - 1), .int .i64 ((na : Int) + (nb : Int) - 1)] 43) = w9 at *
      have HSx : Hid (∀ X, Below w9.heap.size w9 X → X.cell? ⟨w.heap.size, 3, none⟩ = some (.int .i64 ((na : Int) - 1)) ∧ X.cell? ⟨w.heap.size, 4, none⟩ = some (.int .i64 ((na : Int) + (nb : Int) - 1)) ∧ Below w9.heap.size w9 X) := fun X hX => ⟨(Below.cell hX hs9).trans e3, (Below.cell hX hs9).trans e4, hX⟩
      have KE : Below w9.heap.size w9 w9.drew := drew_below w9
      have hSd := HSx.out _ KE
      have G1 := Lib.hid fun X (hX : Below w9.heap.size w9 X) => HKa.out X (stepB K9.out hX)
      have G2 := Lib.hid fun X (hX : Below w9.heap.size w9 X) => HKb.out X (stepB K9.out hX)
      clear f0 f1 f2 f3 f4 HKa HKb HCh hs9
      go_region_held3 (fun w' => w'.cell? ⟨w.heap.size, 3, none⟩ = some (.int .i64 ((na : Int) - 1)) ∧ w'.cell? ⟨w.heap.size, 4, none⟩ = some (.int .i64 ((na : Int) + (nb : Int) - 1)) ∧ Below w9.heap.size w9 w')
        (first | assumption)
        (first
          | (go_at_call 41; ((with_reducible refine (G1.out _ (by assumption)).mono ?_); rintro e wA ⟨adA, cA, rfl, Pa, hbwA⟩); have KwA : Below w9.heap.size w9 wA := stepB (by assumption) hbwA; have hSwA := HSx.out wA KwA; (try replace Pb := Pb.below hbwA); (try replace Qb := Qb.below hbwA); clear G1)
          | (go_at_call 41; ((with_reducible refine (G2.out _ (by assumption)).mono ?_); rintro e wB ⟨adB, cB, rfl, Pb, hbwB⟩); have KwB : Below w9.heap.size w9 wB := stepB (by assumption) hbwB; have hSwB := HSx.out wB KwB; (try replace Pa := Pa.below hbwB); (try replace Qa := Qa.below hbwB); clear G2)
          | (go_at_call 42; ((with_reducible refine (HIa.out _ _ _ Pa).mono ?_); rintro e wC ⟨adC, cC, rfl, Qa, hbwC⟩); have KwC : Below w9.heap.size w9 wC := stepB (by assumption) hbwC; have hSwC := HSx.out wC KwC; (try replace Pb := Pb.below hbwC); (try replace Qb := Qb.below hbwC); clear HIa)
          | (go_at_call 42; ((with_reducible refine (HIb.out _ _ _ Pb).mono ?_); rintro e wD ⟨adD, cD, rfl, Qb, hbwD⟩); have KwD : Below w9.heap.size w9 wD := stepB (by assumption) hbwD; have hSwD := HSx.out wD KwD; (try replace Pa := Pa.below hbwD); (try replace Qa := Qa.below hbwD); clear HIb))
      all_goals
        have K := stepB K9.out (show Below w9.heap.size w9 _ by assumption)
        have J := (HJ.out _ adC cC adD cD Qa Qb).2 (by first | trivial | decide | simp)
        go_wp2_with (go_at_call 70; ((refine J.mono ?_); rintro r w5 ⟨ad5, c5, rfl, hp5, hb5⟩))
        go_ret
        exact ⟨_, _, ret_slice (by omega), hp5, stepB K hb5⟩
set_option maxHeartbeats 4000000 in
theorem refReverse_good (A : Option Addr) (t : Ex) (k c : Nat) (v : Int) (w : World) (hx : PcsAt w A (flat t 0)) (hV : t.Valid v) (hk : k = t.size) :
    Calls Try.prog 13 #[.slice A k c, .int .i64 v] w fun r w' => ∃ A' c', r = .returned (.tuple #[.slice A' k c', .int .i64 0]) ∧ PcsAt w' A' (flat (rev t) 0) ∧ Below w.heap.size w w' := by
  have hs := hV.size
  have hl : (flat t 0).length ≤ 1000000 := by rw [flat_len]; omega
  have hk' : k = (flat t 0).length := by rw [flat_len]; exact hk
  have HK := Lib.hid (refCheck_L A (flat t 0) c v w hx hl)
  rw [chkL_valid hV, ← hk'] at HK
  have HT := Lib.hid fun X (hX : Below w.heap.size w X) => turned_any t A k c X hk (hx.below hX) hV.ok (p8_cubes t hV.ok hV.cubes) (by omega)
  clear hx hV hk hk' hl hs
  go_enter Try.func13, Try.ntmps13
  go_wp2_with (first
    | (go_at_call 19; ((with_reducible refine HK.out.mono ?_); rintro r w2 ⟨rfl, hb2⟩))
    | (go_at_call 42; ((with_reducible refine (HT.out _ hb2).mono ?_); rintro r w3 ⟨ad3, c3, rfl, hp3, hb3⟩)))
  go_ret2
  exact ⟨_, _, rfl, hp3, stepB hb2 hb3⟩
end Go.Proofs.Ytlaagjmfgaccjaa.Rx
