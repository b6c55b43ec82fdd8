/- The walk of NfaTrims. -/
import Derived.Test.YteckkbjpeckjmaaDoorFN
import Derived.Test.YteckkbjpeckjmaaDoorTP
namespace Go.Proofs.YteckkbjpeckjmaaDoor.Nf
open Go Go.RowKit Go.Proofs.YteckkbjpeckjmaaDoor Go.Proofs.YteckkbjpeckjmaaDoor.Cb
set_option linter.unusedVariables false
set_option linter.unusedSectionVars false
set_option linter.unusedSimpArgs false
set_option maxRecDepth 100000
def accT (n : Na) (l : List Nat) : Bool := if wrongN n l = 0 then accW n l else false
theorem AcceptsT_any (n : Na) (A B C : Option Addr) (a b c : Nat) (w : World) (hx : NaAt w n A B C) (hl : NaLen n) (D : Option Addr) (l : List Nat) (d : Nat) (hw : Bys w D l) (h8 : ∀ y ∈ l, y < 256) (hll : l.length ≤ 1000000) :
    Calls Tryd.prog 7 #[.agg #[.int .i64 n.V, .int .i64 n.S, .slice A n.st.length a, .slice B n.fi.length b, .slice C n.es.length c], .slice D l.length d] w fun e w' =>
      e = .returned (.tuple #[.bool (accT n l), .int .i64 (wrongN n l)]) ∧ Below w.heap.size w w' := by
  unfold accT
  by_cases h : wrongN n l = 0
  · have := Accepts_good n A B C a b c w hx hl D l d hw h8 hll h
    rw [if_pos h, h]
    exact this
  · have := Accepts_bad n A B C a b c w hx hl D l d hw h8 hll h
    rw [if_neg h]
    exact this
structure NaMaxT (n : Na) : Prop where
  st : n.st.length ≤ maxLen
  fi : n.fi.length ≤ maxLen
  es : n.es.length ≤ maxLen
/-- m is n without its useless states. -/
def TrimOf (n m : Na) : Prop := ∃ us : List Int, us.Pairwise (· < ·) ∧ Useful n us ∧ m = trimN n us
section
variable {n m : Na} (h0 : chkN n = 0) (hT : TrimOf n m)
include h0 hT
theorem TrimOf.v : m.V = n.V := by obtain ⟨us, _, _, rfl⟩ := hT; rfl
theorem TrimOf.ok : Ok m := by obtain ⟨us, hp, hU, rfl⟩ := hT; exact trim_good (ok_of h0) hp hU
theorem TrimOf.chk : chkN m = 0 := ok_chk (TrimOf.ok h0 hT)
theorem TrimOf.acc (l : List Nat) : accW m l = accW n l := by obtain ⟨us, hp, hU, rfl⟩ := hT; exact trim_acc (ok_of h0) hp hU l
theorem TrimOf.wrong (l : List Nat) : wrongN m l = wrongN n l := by
  unfold wrongN
  rw [TrimOf.chk h0 hT, h0, TrimOf.v h0 hT]
theorem TrimOf.accT (l : List Nat) : Nf.accT m l = Nf.accT n l := by
  unfold Nf.accT
  rw [TrimOf.wrong h0 hT, TrimOf.acc h0 hT]
theorem TrimOf.again {m2 : Na} (h2 : TrimOf m m2) : m2 = m := by
  obtain ⟨us, hp, hU, rfl⟩ := hT
  obtain ⟨us2, hp2, hU2, rfl⟩ := h2
  exact (trim_ids (ok_of h0) hp hU hp2 hU2).2
theorem TrimOf.rc {i : Int} : Rc m.es m.st i ↔ 0 ≤ i ∧ i < m.S := by obtain ⟨us, hp, hU, rfl⟩ := hT; exact trim_reach (ok_of h0) hp hU
theorem TrimOf.pr {i : Int} : Rc (revN m).es (revN m).st i ↔ 0 ≤ i ∧ i < m.S := by obtain ⟨us, hp, hU, rfl⟩ := hT; exact trim_prod (ok_of h0) hp hU
theorem TrimOf.len (hl : NaLen n) : NaLen m := by
  obtain ⟨us, hp, hU, rfl⟩ := hT
  refine ⟨Nat.le_trans (renL_len us n.st) hl.st, Nat.le_trans (renL_len us n.fi) hl.fi, ?_⟩
  show ((n.es.filter (inU us)).map (reN us)).length ≤ 1000000
  rw [List.length_map]
  exact Nat.le_trans (List.length_filter_le _ _) hl.es
theorem TrimOf.s : InJ m.S := by
  have hO := TrimOf.ok h0 hT
  have h1 := hO.s0
  have h2 := hO.s64
  unfold InJ
  omega
theorem TrimOf.ed (he : ∀ x ∈ n.es, EdOk x) : ∀ x ∈ m.es, EdOk x := by
  have hO := TrimOf.ok h0 hT
  have h2 := hO.s64
  intro x hx
  obtain ⟨h3, h4, _⟩ := edE_in (hO.ed x hx)
  obtain ⟨us, hp, hU, rfl⟩ := hT
  have hx' : x ∈ (n.es.filter (inU us)).map (reN us) := hx
  obtain ⟨y, hy, rfl⟩ := List.mem_map.1 hx'
  have hy2 := he y (List.mem_filter.1 hy).1
  refine ⟨?_, ?_, hy2.p, hy2.q⟩ <;> unfold InJ <;> omega
end
theorem els_all {xs : List Nat} {P : Int → Prop} {S : Int} (h : IsSet xs P) (hP : ∀ i, P i ↔ 0 ≤ i ∧ i < S) (h0 : 0 ≤ S) : ((els xs).length : Int) = S := by
  have hp : (elsI xs).Pairwise (· < ·) := by
    unfold elsI
    rw [List.pairwise_map]
    exact els_sorted.imp fun h => by omega
  have he : elsI xs = ids S.toNat := pw_unique hp (ids_pw _) fun z => by
    rw [elsI_mem, h.2.2 z, hP z, mem_ids]
    omega
  have hl : (elsI xs).length = (els xs).length := by unfold elsI; rw [List.length_map]
  rw [← hl, he, ids_len]
  omega
section
variable (n : Na) (A B C : Option Addr) (a b c : Nat) (D : Option Addr) (l : List Nat) (d : Nat) (w : World)
theorem Trim_na (hx : NaAt w n A B C) (hl : NaLen n) (h0 : chkN n = 0) (hT : Tab w) :
    Calls Tryd.prog 8 #[.agg #[.int .i64 n.V, .int .i64 n.S, .slice A n.st.length a, .slice B n.fi.length b, .slice C n.es.length c]] w fun e w' =>
      ∃ (m : Na) (A1 B1 C1 : Option Addr) (a1 b1 c1 : Nat), TrimOf n m ∧ e = .returned (.tuple #[.agg #[.int .i64 m.V, .int .i64 m.S, .slice A1 m.st.length a1, .slice B1 m.fi.length b1, .slice C1 m.es.length c1], .int .i64 0]) ∧ Below w.heap.size w w' ∧ NaAt w' m A1 B1 C1 := by
  refine (Trim_good n A B C a b c w hx hl h0 hT).mono ?_
  rintro e w' ⟨us, A1, B1, C1, a1, b1, c1, hp, hU, rfl, hb, hO⟩
  have hT : TrimOf n (trimN n us) := ⟨us, hp, hU, rfl⟩
  have he : esU us n.es n.es.length = (n.es.filter (inU us)).map (reN us) := by unfold esU; rw [List.take_length]
  rw [he]
  exact ⟨trimN n us, A1, B1, C1, a1, b1, c1, hT, rfl, hb, hO.at_ hx.v (TrimOf.s h0 hT) (TrimOf.ed h0 hT (eds_mem hx.es))⟩
set_option maxHeartbeats 8000000 in
theorem nfaTrims_walk (hx : NaAt w n A B C) (hM : NaMaxT n) (hD : Bys w D l) (h8 : ∀ y ∈ l, y < 256) (hm : l.length ≤ maxLen) (hT : Tab w) :
    Calls Tryd.prog 4 #[.agg #[.int .i64 n.V, .int .i64 n.S, .slice A n.st.length a, .slice B n.fi.length b, .slice C n.es.length c], .slice D l.length d] w fun e w' => e = .returned (.bool true) ∧ Below w.heap.size w w' := by
  have HAw := Lib.hid fun X => awake_any6 X
  have HLo : Hid (∀ X g, g = X.heap.size → Calls Tryd.prog 14 #[.slice (some ⟨g, 0, none⟩) 1 1] (X.alloc (.cells #[.int .i64 n.V, .int .i64 n.S, .slice A n.st.length a, .slice B n.fi.length b, .slice C n.es.length c] 26)) fun e w' => e = .returned (.bool (longB n)) ∧ Below X.heap.size X w') := fun X g hg => by
    subst hg
    exact Long1_any n A B C a b c X hM.st hM.fi hM.es
  have hB0 := Boxed5.mk0 w n A B C a b c
  have hb0 := bal (Below.refl w.heap.size w) (.cells #[.int .i64 n.V, .int .i64 n.S, .slice A n.st.length a, .slice B n.fi.length b, .slice C n.es.length c] 26)
  unfold maxLen at hm
  by_cases hlong : longB n = true ∨ 100 < l.length
  · have hor : (longB n = true) ∨ (longB n = false ∧ decide ((100 : Int) < (l.length : Int)) = true) := by
      cases hc : longB n with
      | true => exact .inl rfl
      | false => exact .inr ⟨rfl, decide_eq_true (by rcases hlong with h | h; (rw [hc] at h; cases h); omega)⟩
    clear hlong hx hM hD h8 hB0 hT
    generalize l.length = nl at *
    generalize longB n = L at *
    rcases hor with rfl | ⟨rfl, hd⟩
    all_goals
      go_enter Tryd.func4, Tryd.ntmps4
      go_wp2_with (first
        | (go_at_call 14; ((with_reducible refine (HLo.out _ _ (by simp)).mono ?_); rintro e w2 ⟨rfl, hb2⟩); replace hb0 := stepB hb0 hb2)
        | (go_at_call 6; ((with_reducible refine (HAw.out _).mono ?_); rintro e w3 ⟨rfl, hb3⟩)))
      go_ret
      exact ⟨rfl, stepB hb0 hb3⟩
  have hL : longB n = false := by
    cases hc : longB n with
    | true => exact absurd (.inl hc) hlong
    | false => rfl
  have hl100 : l.length ≤ 100 := by omega
  have hd1 : decide ((100 : Int) < (l.length : Int)) = false := decide_eq_false (by omega)
  have hlen := long_len hL
  rw [hL] at HLo
  clear hlong hM
  by_cases h0 : chkN n = 0
  · have HA1 := Lib.hid fun X (hX : Below w.heap.size w X) => AcceptsT_any n A B C a b c X (hx.below hX) hlen D l d (hD.below hX) h8 (by omega)
    have HT1 := Lib.hid fun X (hX : Below w.heap.size w X) => Trim_na n A B C a b c X (hx.below hX) hlen h0 (hT.below hX)
    have HA2 : Hid (∀ X m A1 B1 C1 a1 b1 c1, Below w.heap.size w X → TrimOf n m → NaAt X m A1 B1 C1 → Calls Tryd.prog 7 #[.agg #[.int .i64 m.V, .int .i64 m.S, .slice A1 m.st.length a1, .slice B1 m.fi.length b1, .slice C1 m.es.length c1], .slice D l.length d] X fun e w' => e = .returned (.tuple #[.bool (accT n l), .int .i64 (wrongN n l)]) ∧ Below X.heap.size X w') := fun X m A1 B1 C1 a1 b1 c1 hX hm hm2 => by
      have := AcceptsT_any m A1 B1 C1 a1 b1 c1 X hm2 (TrimOf.len h0 hm hlen) D l d (hD.below hX) h8 (by omega)
      rw [TrimOf.accT h0 hm, TrimOf.wrong h0 hm] at this
      exact this
    have HT2 : Hid (∀ X m A1 B1 C1 a1 b1 c1, Below w.heap.size w X → TrimOf n m → NaAt X m A1 B1 C1 → Calls Tryd.prog 8 #[.agg #[.int .i64 m.V, .int .i64 m.S, .slice A1 m.st.length a1, .slice B1 m.fi.length b1, .slice C1 m.es.length c1]] X fun e w' => ∃ A2 B2 C2 a2 b2 c2, e = .returned (.tuple #[.agg #[.int .i64 m.V, .int .i64 m.S, .slice A2 m.st.length a2, .slice B2 m.fi.length b2, .slice C2 m.es.length c2], .int .i64 0]) ∧ Below X.heap.size X w' ∧ NaAt w' m A2 B2 C2) := fun X m A1 B1 C1 a1 b1 c1 hX hm hm2 => by
      refine (Trim_na m A1 B1 C1 a1 b1 c1 X hm2 (TrimOf.len h0 hm hlen) (TrimOf.chk h0 hm) (hT.below hX)).mono ?_
      rintro e w' ⟨m3, A2, B2, C2, a2, b2, c2, h3, he, hb, hn⟩
      obtain rfl := TrimOf.again h0 hm h3
      exact ⟨A2, B2, C2, a2, b2, c2, he, hb, hn⟩
    have HRe : Hid (∀ X m A1 B1 C1 a1 b1 c1, TrimOf n m → NaAt X m A1 B1 C1 → Calls Tryd.prog 15 #[.agg #[.int .i64 m.V, .int .i64 m.S, .slice A1 m.st.length a1, .slice B1 m.fi.length b1, .slice C1 m.es.length c1]] X fun e w' => ∃ xs A' c', e = .returned (.tuple #[.slice A' xs.length c', .int .i64 0]) ∧ ((els xs).length : Int) = m.S ∧ OwnW X.heap.size w' A' c' xs ∧ Below X.heap.size X w') := fun X m A1 B1 C1 a1 b1 c1 hm hm2 => by
      refine (Reachable_good m A1 B1 C1 a1 b1 c1 X hm2 (TrimOf.len h0 hm hlen) (TrimOf.chk h0 hm)).mono ?_
      rintro e w' ⟨xs, A', c', h1, h2, h3, h4⟩
      exact ⟨xs, A', c', h1, els_all h2 (fun i => TrimOf.rc h0 hm) (TrimOf.ok h0 hm).s0, h3, h4⟩
    have HPr : Hid (∀ X m A1 B1 C1 a1 b1 c1, TrimOf n m → NaAt X m A1 B1 C1 → Calls Tryd.prog 16 #[.agg #[.int .i64 m.V, .int .i64 m.S, .slice A1 m.st.length a1, .slice B1 m.fi.length b1, .slice C1 m.es.length c1]] X fun e w' => ∃ xs A' c', e = .returned (.tuple #[.slice A' xs.length c', .int .i64 0]) ∧ ((els xs).length : Int) = m.S ∧ OwnW X.heap.size w' A' c' xs ∧ Below X.heap.size X w') := fun X m A1 B1 C1 a1 b1 c1 hm hm2 => by
      refine (Productive_good m A1 B1 C1 a1 b1 c1 X hm2 (TrimOf.len h0 hm hlen) (TrimOf.chk h0 hm)).mono ?_
      rintro e w' ⟨xs, A', c', h1, h2, h3, h4⟩
      exact ⟨xs, A', c', h1, els_all h2 (fun i => TrimOf.pr h0 hm) (TrimOf.ok h0 hm).s0, h3, h4⟩
    have HEq : Hid (∀ X m A1 B1 C1 a1 b1 c1 A2 B2 C2 a2 b2 c2, TrimOf n m → NaAt X m A1 B1 C1 → NaAt X m A2 B2 C2 → Calls Tryd.prog 17 #[.agg #[.int .i64 m.V, .int .i64 m.S, .slice A2 m.st.length a2, .slice B2 m.fi.length b2, .slice C2 m.es.length c2], .agg #[.int .i64 m.V, .int .i64 m.S, .slice A1 m.st.length a1, .slice B1 m.fi.length b1, .slice C1 m.es.length c1]] X fun e w' => e = .returned (.bool true) ∧ Below X.heap.size X w') := fun X m A1 B1 C1 a1 b1 c1 A2 B2 C2 a2 b2 c2 hm h1 h2 =>
      EqualNFA_same m A2 B2 C2 A1 B1 C1 a2 b2 c2 a1 b1 c1 X h2 h1 (TrimOf.len h0 hm hlen)
    have HLn : Hid (∀ X B0 A1 c1 xs S, OwnW B0 X A1 c1 xs → ((els xs).length : Int) = S → Calls Tryd.prog 18 #[.slice A1 xs.length c1] X fun e w' => e = .returned (.int .i64 S) ∧ X = w') := fun X B0 A1 c1 xs S o hS => by
      have := Len_any A1 xs c1 X o.words (OwnW.u64 o) (OwnW.cap o)
      rw [hS] at this
      exact this
    clear h0 hx hD hlen hT h8 hL
    generalize wrongN n l = E at *
    generalize accT n l = G at *
    have hEE : (E == E) = true := beq_self_eq_true E
    have hGG : (G == G) = true := by cases G <;> rfl
    generalize l.length = nl at *
    generalize hTo : TrimOf n = TO at *
    clear hTo
    go_enter Tryd.func4, Tryd.ntmps4
    go_upto_region 11 with (first
      | (go_at_call 14; ((with_reducible refine (HLo.out _ _ (by simp)).mono ?_); rintro e w2 ⟨rfl, hb2⟩); replace hb0 := stepB hb0 hb2; replace hB0 := hB0.below hb2; clear HLo hb2)
      | (go_at_call 6; ((with_reducible refine (HAw.out _).mono ?_); rintro e w3 ⟨rfl, hb3⟩); replace hb0 := stepB hb0 hb3; replace hB0 := hB0.below hb3; clear HAw hb3; obtain ⟨z0, z1, z2, z3, z4⟩ := hB0.cells)
      | (go_at_call 8; ((with_reducible refine (HT1.out _ hb0).mono ?_); rintro e w4 ⟨m, A1, B1, C1, a1, b1, c1, hm, rfl, hb4, hm4⟩); clear z0 z1 z2 z3 z4 HT1; have hBm := Boxed5.new w4 26 (.int .i64 m.V) (.int .i64 m.S) (.slice A1 m.st.length a1) (.slice B1 m.fi.length b1) (.slice C1 m.es.length c1); have hbm := bal (Below.refl w4.heap.size w4) (.cells #[.int .i64 m.V, .int .i64 m.S, .slice A1 m.st.length a1, .slice B1 m.fi.length b1, .slice C1 m.es.length c1] 26); replace hb0 := stepB (stepB hb0 hb4) hbm; replace hB0 := (hB0.below hb4).below hbm; replace hm4 := hm4.below hbm; clear hb4 hbm; obtain ⟨z0, z1, z2, z3, z4⟩ := hB0.cells)
      | (go_at_call 7; ((with_reducible refine (HA1.out _ hb0).mono ?_); rintro e w5 ⟨rfl, hb5⟩); clear z0 z1 z2 z3 z4 HA1 hB0; replace hb0 := stepB hb0 hb5; replace hm4 := hm4.below hb5; replace hBm := hBm.below hb5; clear hb5; obtain ⟨y0, y1, y2, y3, y4⟩ := hBm.cells)
      | (go_at_call 7; ((with_reducible refine (HA2.out _ _ _ _ _ _ _ _ hb0 hm hm4).mono ?_); rintro e w6 ⟨rfl, hb6⟩); clear y0 y1 y2 y3 y4 HA2; replace hb0 := stepB hb0 hb6; replace hm4 := hm4.below hb6; replace hBm := hBm.below hb6; clear hb6; obtain ⟨y0, y1, y2, y3, y4⟩ := hBm.cells)
      | (go_at_call 8; ((with_reducible refine (HT2.out _ _ _ _ _ _ _ _ hb0 hm hm4).mono ?_); rintro e w7 ⟨A2, B2, C2, a2, b2, c2, rfl, hb7, hm7⟩); clear y0 y1 y2 y3 y4 HT2; have hBk := Boxed5.new w7 26 (.int .i64 m.V) (.int .i64 m.S) (.slice A2 m.st.length a2) (.slice B2 m.fi.length b2) (.slice C2 m.es.length c2); have hbk := bal (Below.refl w7.heap.size w7) (.cells #[.int .i64 m.V, .int .i64 m.S, .slice A2 m.st.length a2, .slice B2 m.fi.length b2, .slice C2 m.es.length c2] 26); replace hb0 := stepB (stepB hb0 hb7) hbk; replace hBm := (hBm.below hb7).below hbk; replace hm4 := (hm4.below hb7).below hbk; replace hm7 := hm7.below hbk; clear hb7 hbk; obtain ⟨y0, y1, y2, y3, y4⟩ := hBm.cells)
      | (go_at_call 15; ((with_reducible refine (HRe.out _ _ _ _ _ _ _ _ hm hm4).mono ?_); rintro e w8 ⟨xs, A8, c8, rfl, hS8, ho8, hb8⟩); clear y0 y1 y2 y3 y4 HRe; replace hb0 := stepB hb0 hb8; replace hBm := hBm.below hb8; replace hBk := hBk.below hb8; replace hm4 := hm4.below hb8; replace hm7 := hm7.below hb8; clear hb8; obtain ⟨y0, y1, y2, y3, y4⟩ := hBm.cells)
      | (go_at_call 16; ((with_reducible refine (HPr.out _ _ _ _ _ _ _ _ hm hm4).mono ?_); rintro e w9 ⟨ys, A9, c9, rfl, hS9, ho9, hb9⟩); clear y0 y1 y2 y3 y4 HPr; replace hb0 := stepB hb0 hb9; replace hBm := hBm.below hb9; replace hBk := hBk.below hb9; replace hm4 := hm4.below hb9; replace hm7 := hm7.below hb9; replace ho8 := OwnW.bel ho8 hb9; clear hb9))
    generalize w4.heap.size = bm at *
    generalize w7.heap.size = bk at *
    have HQ := Lib.hid fun X (hX : Below w9.heap.size w9 X) => HEq.out X m A1 B1 C1 a1 b1 c1 A2 B2 C2 a2 b2 c2 hm (hm4.below hX) (hm7.below hX)
    have HL8 := Lib.hid fun X (hX : Below w9.heap.size w9 X) => HLn.out X _ A8 c8 xs m.S (OwnW.bel ho8 hX) hS8
    have HL9 := Lib.hid fun X (hX : Below w9.heap.size w9 X) => HLn.out X _ A9 c9 ys m.S (OwnW.bel ho9 hX) hS9
    have hSS : (m.S == m.S) = true := beq_self_eq_true _
    have y0 : ∀ r : Cls (fun X => Below w9.heap.size w9 X), r.w.cell? ⟨bm, 0, none⟩ = some (.int .i64 m.V) := fun r => (hBm.below r.h).c0
    have y1 : ∀ r : Cls (fun X => Below w9.heap.size w9 X), r.w.cell? ⟨bm, 1, none⟩ = some (.int .i64 m.S) := fun r => (hBm.below r.h).c1
    have y2 : ∀ r : Cls (fun X => Below w9.heap.size w9 X), r.w.cell? ⟨bm, 2, none⟩ = some (.slice A1 m.st.length a1) := fun r => (hBm.below r.h).c2
    have y3 : ∀ r : Cls (fun X => Below w9.heap.size w9 X), r.w.cell? ⟨bm, 3, none⟩ = some (.slice B1 m.fi.length b1) := fun r => (hBm.below r.h).c3
    have y4 : ∀ r : Cls (fun X => Below w9.heap.size w9 X), r.w.cell? ⟨bm, 4, none⟩ = some (.slice C1 m.es.length c1) := fun r => (hBm.below r.h).c4
    have z0 : ∀ r : Cls (fun X => Below w9.heap.size w9 X), r.w.cell? ⟨bk, 0, none⟩ = some (.int .i64 m.V) := fun r => (hBk.below r.h).c0
    have z1 : ∀ r : Cls (fun X => Below w9.heap.size w9 X), r.w.cell? ⟨bk, 1, none⟩ = some (.int .i64 m.S) := fun r => (hBk.below r.h).c1
    have z2 : ∀ r : Cls (fun X => Below w9.heap.size w9 X), r.w.cell? ⟨bk, 2, none⟩ = some (.slice A2 m.st.length a2) := fun r => (hBk.below r.h).c2
    have z3 : ∀ r : Cls (fun X => Below w9.heap.size w9 X), r.w.cell? ⟨bk, 3, none⟩ = some (.slice B2 m.fi.length b2) := fun r => (hBk.below r.h).c3
    have z4 : ∀ r : Cls (fun X => Below w9.heap.size w9 X), r.w.cell? ⟨bk, 4, none⟩ = some (.slice C2 m.es.length c2) := fun r => (hBk.below r.h).c4
    haveI : Nonempty (Cls (fun X => Below w9.heap.size w9 X)) := ⟨⟨w9, Below.refl _ _⟩⟩
    clear hBm hBk hm4 hm7 ho8 ho9 HEq HLn hS8 hS9 hm
    refine wp_region_cls (fun X => Below w9.heap.size w9 X) (by kernel_rfl) (by kernel_rfl) (drew_below w9) ?_
    repeat (go_big_quiet_step (first
      | (go_at_call 17; rename_i r; (with_reducible refine (HQ.out r.w r.h).mono ?_); rintro e w10 ⟨rfl, hb10⟩; exact ⟨rfl, ⟨⟨w10, stepB r.h hb10⟩, rfl⟩⟩)
      | (go_at_call 18; rename_i r; (with_reducible refine (HL8.out r.w r.h).mono ?_); rintro e w10 ⟨rfl, rfl⟩; exact ⟨rfl, ⟨r, rfl⟩⟩)
      | (go_at_call 18; rename_i r; (with_reducible refine (HL9.out r.w r.h).mono ?_); rintro e w10 ⟨rfl, rfl⟩; exact ⟨rfl, ⟨r, rfl⟩⟩)))
    refine wpQuiet_nil ?_
    rintro _ ⟨⟨X, hX⟩, rfl⟩
    clear y0 y1 y2 y3 y4 z0 z1 z2 z3 z4
    go_wp2
    go_ret
    exact ⟨rfl, stepB hb0 hX⟩
  · have hw : wrongN n l = chkN n := by unfold wrongN; rw [if_pos h0]
    have HT1 := Lib.hid fun X (hX : Below w.heap.size w X) => Trim_bad n A B C a b c X (hx.below hX) hlen h0
    have HC1 := Lib.hid fun X (hX : Below w.heap.size w X) => Check6_any n A B C a b c X (hx.below hX) hlen
    have HA1 := fun X (hX : Below w.heap.size w X) => AcceptsT_any n A B C a b c X (hx.below hX) hlen D l d (hD.below hX) h8 (by omega)
    rw [hw] at HA1
    have HA1 := Lib.hid HA1
    have HA2 := Lib.hid fun X (hX : Below w.heap.size w X) => AcceptsT_any ⟨0, 0, [], [], []⟩ none none none 0 0 0 X ⟨by constructor <;> decide, by constructor <;> decide, fun j hj => absurd hj (by simp), fun j hj => absurd hj (by simp), fun j hj => absurd hj (by simp)⟩ ⟨by simp, by simp, by simp⟩ D l d (hD.below hX) h8 (by omega)
    have hne : (chkN n != 0) = true := by rw [bne_iff_ne]; exact h0
    have hEE : (chkN n == chkN n) = true := beq_self_eq_true _
    clear hx hD h8 hlen h0 hL hw hT
    generalize chkN n = E at *
    generalize accT n l = G at *
    generalize accT ⟨0, 0, [], [], []⟩ l = G2 at *
    generalize wrongN ⟨0, 0, [], [], []⟩ l = E2 at *
    simp only [List.length_nil] at HA2
    generalize l.length = nl at *
    go_enter Tryd.func4, Tryd.ntmps4
    go_wp2_with (first
      | (go_at_call 14; ((with_reducible refine (HLo.out _ _ (by simp)).mono ?_); rintro e w2 ⟨rfl, hb2⟩); replace hb0 := stepB hb0 hb2; replace hB0 := hB0.below hb2; clear HLo)
      | (go_at_call 6; ((with_reducible refine (HAw.out _).mono ?_); rintro e w3 ⟨rfl, hb3⟩); replace hb0 := stepB hb0 hb3; replace hB0 := hB0.below hb3; clear HAw; obtain ⟨z0, z1, z2, z3, z4⟩ := hB0.cells)
      | (go_at_call 8; ((with_reducible refine (HT1.out _ hb0).mono ?_); rintro e w4 ⟨rfl, hb4⟩); clear z0 z1 z2 z3 z4 HT1; have hbm := bal (Below.refl w4.heap.size w4) (.cells #[.int .i64 0, .int .i64 0, .slice none 0 0, .slice none 0 0, .slice none 0 0] 26); have hBm := Boxed5.new w4 26 (.int .i64 0) (.int .i64 0) (.slice none 0 0) (.slice none 0 0) (.slice none 0 0); replace hb0 := stepB (stepB hb0 hb4) hbm; replace hB0 := (hB0.below hb4).below hbm; obtain ⟨z0, z1, z2, z3, z4⟩ := hB0.cells)
      | (go_at_call 7; ((with_reducible refine (HA1.out _ hb0).mono ?_); rintro e w5 ⟨rfl, hb5⟩); clear z0 z1 z2 z3 z4 HA1; replace hb0 := stepB hb0 hb5; replace hB0 := hB0.below hb5; replace hBm := hBm.below hb5; clear hb5; obtain ⟨y0, y1, y2, y3, y4⟩ := hBm.cells)
      | (go_at_call 7; ((with_reducible refine (HA2.out _ hb0).mono ?_); rintro e w6 ⟨rfl, hb6⟩); clear y0 y1 y2 y3 y4 HA2; replace hb0 := stepB hb0 hb6; replace hB0 := hB0.below hb6; replace hBm := hBm.below hb6; clear hb6; obtain ⟨z0, z1, z2, z3, z4⟩ := hB0.cells)
      | (go_at_call 10; ((with_reducible refine (HC1.out _ hb0).mono ?_); rintro e w7 ⟨rfl, hb7⟩); replace hb0 := stepB hb0 hb7; obtain ⟨y0, y1, y2, y3, y4⟩ := (hBm.below hb7).cells))
    go_ret
    exact ⟨rfl, hb0⟩
end
end Go.Proofs.YteckkbjpeckjmaaDoor.Nf
