/- The law BitsetOperations. -/
import Derived.Test.YtnjagdocgmbmiaaDoorRA
import Derived.Test.YtnjagdocgmbmiaaDoorN
namespace Go.Proofs.YtnjagdocgmbmiaaDoor
open Go Go.RowKit
set_option maxRecDepth 100000
set_option linter.unusedVariables false
theorem Env.self {w0 w : World} {S : List (Option Addr × Nat × List Nat)} (E : Env w0 w S) : Env w w S := ⟨Below.refl _ _, E.2⟩
theorem Env.join {w0 w w' : World} {S S' : List (Option Addr × Nat × List Nat)} (E : Env w0 w S) (E' : Env w w' S') : Env w0 w' S' := ⟨stepB E.1 E'.1, E'.2⟩
theorem canon_none {zs : List Nat} : (canon zs).length = 0 ↔ ∀ i, i < 64 → wd zs i = 0 := by
  constructor
  · intro h i hi
    rw [← wd_canon zs i hi, List.length_eq_zero_iff.1 h]
    simp [wd]
  · intro h
    have e : canon zs = canon [] := canon_ext fun i hi => by rw [h i hi]; simp [wd]
    rw [e, canon_len]
    rfl
theorem sub_less {xs ys : List Nat} : (((canon (zipW andNot xs ys)).length : Int) == 0) = subB xs ys := by
  rw [Bool.eq_iff_iff, beq_iff_eq, subB_iff]
  have h := canon_none (zs := zipW andNot xs ys)
  constructor
  · intro h0 i hi
    have := h.1 (by omega) i hi
    rwa [wd_zipW _ (by decide) _ _ _ hi] at this
  · intro h0
    have := h.2 fun i hi => by rw [wd_zipW _ (by decide) _ _ _ hi]; exact h0 i hi
    omega
theorem meet_more {xs ys : List Nat} : decide ((0 : Int) < ((canon (zipW (· &&& ·) xs ys)).length : Int)) = meetB xs ys := by
  have h := canon_none (zs := zipW (· &&& ·) xs ys)
  rw [← Bool.not_inj_iff, Bool.eq_iff_iff, Bool.not_eq_true', Bool.not_eq_true', decide_eq_false_iff_not, meetB_iff]
  constructor
  · intro h0 i hi
    have := h.1 (by omega) i hi
    rwa [wd_zipW _ rfl _ _ _ hi] at this
  · intro h0
    have := h.2 fun i hi => by rw [wd_zipW _ rfl _ _ _ hi]; exact h0 i hi
    omega
theorem eq_cmp {xs ys : List Nat} (ux : U64 xs) (uy : U64 ys) : (cmpS xs ys == 0) = eqB xs ys := by
  rw [cmpS_eq ux uy, Bool.eq_iff_iff, beq_iff_eq, decide_eq_true_iff]
/-- Sets that are readable, and sets of one's own that lie at or above w0's end. -/
def Both (w0 w : World) (S L : List (Option Addr × Nat × List Nat)) : Prop := Env w0 w S ∧ ∀ q ∈ L, OwnW w0.heap.size w q.1 q.2.1 q.2.2
namespace Both
variable {w0 w w' : World} {S S' L : List (Option Addr × Nat × List Nat)}
theorem env (H : Both w0 w S L) : Env w w S := ⟨Below.refl _ _, H.1.2⟩
theorem next (H : Both w0 w S L) (E : Env w w' S') : Both w0 w' S' L :=
  ⟨⟨stepB H.1.1 E.1, E.2⟩, fun q hq => ⟨own_bel (H.2 q hq).1 E.1, (H.2 q hq).2⟩⟩
theorem push (H : Both w0 w S L) {A : Option Addr} {c : Nat} {xs : List Nat} (o : OwnW w.heap.size w' A c xs) (h : Below w.heap.size w w') : Both w0 w' ((A, c, xs) :: S) ((A, c, xs) :: L) :=
  let H' := H.next (H.env.step h)
  ⟨H'.1.push o.words o.2.1 o.2.2, fun q hq => by
    rcases List.mem_cons.1 hq with rfl | h1
    · exact ⟨own_low o.1 H.1.1.size, o.2⟩
    · exact H'.2 q h1⟩
end Both
section
variable {w0 w : World} {S L : List (Option Addr × Nat × List Nat)} {A B : Option Addr} {c d : Nat} {xs ys : List Nat}
theorem Union_both (H : Both w0 w S L) (ha : (A, c, xs) ∈ S) (hb : (B, d, ys) ∈ S) :
    Calls Tryd.prog 30 #[.slice A xs.length c, .slice B ys.length d] w fun e w' =>
      ∃ A' c', e = .returned (.slice A' (canon (zipW (· ||| ·) xs ys)).length c') ∧ Both w0 w' ((A', c', canon (zipW (· ||| ·) xs ys)) :: S) ((A', c', canon (zipW (· ||| ·) xs ys)) :: L) := by
  obtain ⟨a1, a2, a3⟩ := H.1.2.2 _ ha
  obtain ⟨b1, b2, b3⟩ := H.1.2.2 _ hb
  refine (Union_any A B xs ys c d w a1 a2 a3 b1 b2 b3).mono ?_
  rintro e w' ⟨A', c', he, ho, hb⟩
  exact ⟨A', c', he, H.push ho hb⟩
theorem Intersect_both (H : Both w0 w S L) (ha : (A, c, xs) ∈ S) (hb : (B, d, ys) ∈ S) :
    Calls Tryd.prog 31 #[.slice A xs.length c, .slice B ys.length d] w fun e w' =>
      ∃ A' c', e = .returned (.slice A' (canon (zipW (· &&& ·) xs ys)).length c') ∧ Both w0 w' ((A', c', canon (zipW (· &&& ·) xs ys)) :: S) ((A', c', canon (zipW (· &&& ·) xs ys)) :: L) := by
  obtain ⟨a1, a2, a3⟩ := H.1.2.2 _ ha
  obtain ⟨b1, b2, b3⟩ := H.1.2.2 _ hb
  refine (Intersect_any A B xs ys c d w a1 a2 a3 b1 b2 b3).mono ?_
  rintro e w' ⟨A', c', he, ho, hb⟩
  exact ⟨A', c', he, H.push ho hb⟩
theorem Minus_both (H : Both w0 w S L) (ha : (A, c, xs) ∈ S) (hb : (B, d, ys) ∈ S) :
    Calls Tryd.prog 32 #[.slice A xs.length c, .slice B ys.length d] w fun e w' =>
      ∃ A' c', e = .returned (.slice A' (canon (zipW andNot xs ys)).length c') ∧ Both w0 w' ((A', c', canon (zipW andNot xs ys)) :: S) ((A', c', canon (zipW andNot xs ys)) :: L) := by
  obtain ⟨a1, a2, a3⟩ := H.1.2.2 _ ha
  obtain ⟨b1, b2, b3⟩ := H.1.2.2 _ hb
  refine (Minus_any A B xs ys c d w a1 a2 a3 b1 b2 b3).mono ?_
  rintro e w' ⟨A', c', he, ho, hb⟩
  exact ⟨A', c', he, H.push ho hb⟩
theorem canon_max (zs : List Nat) : (canon zs).length ≤ maxLen := by
  have := ulen_le64 zs
  rw [canon_len]; unfold maxLen; omega
theorem canon_64 (zs : List Nat) : (canon zs).length ≤ 64 := by
  rw [canon_len]; exact ulen_le64 zs
theorem Both.sub3 (H : Both w0 w S L) {q1 q2 q3 : Option Addr × Nat × List Nat} (h1 : q1 ∈ L) (h2 : q2 ∈ L) (h3 : q3 ∈ L) : Both w0 w S [q1, q2, q3] :=
  ⟨H.1, fun q hq => by
    simp only [List.mem_cons, List.not_mem_nil, or_false] at hq
    rcases hq with rfl | rfl | rfl
    · exact H.2 _ h1
    · exact H.2 _ h2
    · exact H.2 _ h3⟩
theorem spoil_both (H : Both w0 w S L) (hn : L.length ≤ 1000) (hs : ∀ q ∈ L, q.2.2.length ≤ 64) (t : TypeId) (m : Nat) :
    Calls Tryd.prog 27 #[.slice (some ⟨w.heap.size, 0, none⟩) L.length m] (w.alloc (.cells (slices (L.map fun q => (q.1, q.2.2.length, q.2.1))) t)) fun e w' => e = .returned (.tuple #[]) ∧ Below w0.heap.size w0 w' := by
  have hb : Below w0.heap.size w0 (w.alloc (.cells (slices (L.map fun q => (q.1, q.2.2.length, q.2.1))) t)) := stepB H.1.1 (alloc_below w _)
  refine (spoil_any w0.heap.size ⟨w.heap.size, 0, none⟩ L.length m (fun j => (L.getD j default).1) (fun j => (L.getD j default).2.2.length) (fun j => (L.getD j default).2.1) _ ?_ hn ?_ ?_).mono ?_
  · intro j hj
    refine ⟨_, rfl, by simp, ?_⟩
    rw [addr_add, World.cell?_alloc_at _ _ _ _ rfl]
    simp [slices, hj]
  · intro j hj
    have := hs _ (List.getElem_mem hj)
    simp only [List.getD_eq_getElem?_getD, List.getElem?_eq_getElem hj, Option.getD_some]
    unfold maxLen; omega
  · intro i hi
    have hq := H.2 _ (List.getElem_mem hi)
    simp only [List.getD_eq_getElem?_getD, List.getElem?_eq_getElem hi, Option.getD_some]
    refine CanW.own (own_bel hq.1 (alloc_below w _)) ?_
    intro ad had
    have := (hq.1.lt ad.block (by rw [had]; rfl)).2
    show ad.block ≠ w.heap.size
    omega
  · rintro e w' ⟨rfl, h⟩
    exact ⟨rfl, hb.trans h⟩
end
set_option maxHeartbeats 4000000 in
theorem bitsetOperations_walk (A : Option Addr) (xs : List Nat) (c : Nat) (B : Option Addr) (ys : List Nat) (d : Nat) (w : World) (hx : Words w A xs) (ux : U64 xs) (lx : xs.length ≤ c) (mx : c ≤ maxLen) (hy : Words w B ys) (uy : U64 ys) (ly : ys.length ≤ d) (my : d ≤ maxLen) (hT : Tab w) :
    Calls Tryd.prog 4 #[.slice A xs.length c, .slice B ys.length d] w fun e w' => e = .returned (.bool true) ∧ Below w.heap.size w w' := by
  have E00 : Env w w [] := ⟨Below.refl _ _, hT, (fun q hq => by cases hq)⟩
  have E0 : Env w w [(A, c, xs), (B, d, ys)] := (E00.push hy uy ly).push hx ux lx
  clear E00
  have hm : ∀ q ∈ [(A, xs.length, c), (B, ys.length, d)], q.2.1 ≤ maxLen := by
    intro q hq
    simp only [List.mem_cons, List.not_mem_nil, or_false] at hq
    rcases hq with rfl | rfl <;> simp only <;> omega
  by_cases hl : (!([(A, xs.length, c), (B, ys.length, d)] : List (Option Addr × Nat × Nat)).all fun q => decide (q.2.1 ≤ 80)) = true
  · have HL := Lib.hid (Long_env E0 [(A, xs.length, c), (B, ys.length, d)] 23 2 (by simp) hm hl)
    clear hl hm hx hy
    go_enter Tryd.func4, Tryd.ntmps4
    go_wp2_with (first
      | (go_at_call 11; refine HL.out.mono ?_; rintro e w1 ⟨rfl, E⟩)
      | (go_at_call 12; refine (awake_env E).mono ?_; rintro e w2 ⟨rfl, E2⟩))
    go_ret
    exact ⟨rfl, E2.1⟩
  · have hl' : (!([(A, xs.length, c), (B, ys.length, d)] : List (Option Addr × Nat × Nat)).all fun q => decide (q.2.1 ≤ 80)) = false := by simpa using hl
    have HL := Lib.hid (Long_env E0 [(A, xs.length, c), (B, ys.length, d)] 23 2 (by simp) hm hl')
    have h80 : xs.length ≤ 80 ∧ ys.length ≤ 80 := by simpa using hl'
    obtain ⟨x80, y80⟩ := h80
    clear hl hl' hm hx hy
    obtain ⟨n, hn⟩ : ∃ n, n = (els xs).length := ⟨_, rfl⟩
    obtain ⟨m, hm'⟩ : ∃ m, m = (els ys).length := ⟨_, rfl⟩
    have HN := Lib.hid hn
    have HM := Lib.hid hm'
    clear hn hm'
    go_enter Tryd.func4, Tryd.ntmps4
    go_wp2_with (first
      | (go_at_call 11; refine HL.out.mono ?_; rintro e w1 ⟨rfl, E⟩)
      | (go_at_call 13; have hc0 := Own_env (A := A) (c := c) (xs := xs) E (by repeat (first | with_reducible exact List.mem_cons_self | apply List.mem_cons_of_mem)) x80; (with_reducible refine hc0.mono ?_); clear hc0; rintro e w1 ⟨X, xc, rfl, E⟩)
      | (go_at_call 13; have hc0 := Own_env (A := B) (c := d) (xs := ys) E (by repeat (first | with_reducible exact List.mem_cons_self | apply List.mem_cons_of_mem)) y80; (with_reducible refine hc0.mono ?_); clear hc0; rintro e w1 ⟨Y, yc, rfl, E⟩)
      | (go_at_call 14; have hc0 := refList_env (A := A) (c := c) (xs := xs) E (by repeat (first | with_reducible exact List.mem_cons_self | apply List.mem_cons_of_mem)) x80 HN.out; (with_reducible refine hc0.mono ?_); clear hc0; rintro e wl ⟨A1, c1, rfl, hi1, hc1, hbl, E⟩)
      | (go_at_call 14; have hc0 := refList_env (A := B) (c := d) (xs := ys) E (by repeat (first | with_reducible exact List.mem_cons_self | apply List.mem_cons_of_mem)) y80 HM.out; (with_reducible refine hc0.mono ?_); clear hc0; rintro e wm ⟨A2, c2, rfl, hi2, hc2, hbm, E⟩)
      | (go_at_call 28; have hc0 := refMinus_env (A := A) (c := c) (xs := xs) (B := B) (d := d) (ys := ys) (Env.self E) (by repeat (first | with_reducible exact List.mem_cons_self | apply List.mem_cons_of_mem)) (by repeat (first | with_reducible exact List.mem_cons_self | apply List.mem_cons_of_mem)) x80 y80; (with_reducible refine hc0.mono ?_); clear hc0; rintro e wn ⟨A3, c3, rfl, E'⟩; have hbn := E'.1; replace E := Env.join E E'; clear E')
      | (go_at_call 29; have hc0 := refIntersect_env (A := A) (c := c) (xs := xs) (B := B) (d := d) (ys := ys) (Env.self E) (by repeat (first | with_reducible exact List.mem_cons_self | apply List.mem_cons_of_mem)) (by repeat (first | with_reducible exact List.mem_cons_self | apply List.mem_cons_of_mem)) x80 y80; (with_reducible refine hc0.mono ?_); clear hc0; rintro e ws ⟨A4, c4, rfl, E'⟩; have hbs := E'.1; replace E := Env.join E E'; clear E'))
    have ES := E.2
    have EB := E.1
    clear E E0 HL
    go_loopw [11] (fun i wr => ∃ t : Nat, t ≤ 2 ∧ i = .int .i64 t ∧ Below ws.heap.size ws wr) (fun i _ => 2 - (intOf i).toNat)
    case atStart => exact ⟨0, by omega, rfl, Below.refl _ _⟩
    case round =>
      obtain ⟨t, ht, rfl, hb⟩ := hrel
      have E1 := Env.step (w0 := ws) ⟨Below.refl _ _, ES⟩ hb
      by_cases hlt : t < 2
      · have H0 : Both wr wr _ [] := ⟨⟨Below.refl _ _, E1.2⟩, fun q hq => by cases hq⟩
        clear E1
        go_wp2_with (first
          | (go_at_call 30; refine (Union_both H0 (A := X) (c := xc) (xs := xs) (B := Y) (d := yc) (ys := ys) (by repeat (first | with_reducible exact List.mem_cons_self | apply List.mem_cons_of_mem)) (by repeat (first | with_reducible exact List.mem_cons_self | apply List.mem_cons_of_mem))).mono ?_; rintro e u1 ⟨C1, k1, rfl, H⟩)
          | (go_at_call 31; refine (Intersect_both H (A := X) (c := xc) (xs := xs) (B := Y) (d := yc) (ys := ys) (by repeat (first | with_reducible exact List.mem_cons_self | apply List.mem_cons_of_mem)) (by repeat (first | with_reducible exact List.mem_cons_self | apply List.mem_cons_of_mem))).mono ?_; rintro e u2 ⟨C2, k2, rfl, H⟩)
          | (go_at_call 32; refine (Minus_both H (A := X) (c := xc) (xs := xs) (B := Y) (d := yc) (ys := ys) (by repeat (first | with_reducible exact List.mem_cons_self | apply List.mem_cons_of_mem)) (by repeat (first | with_reducible exact List.mem_cons_self | apply List.mem_cons_of_mem))).mono ?_; rintro e u3 ⟨C3, k3, rfl, H⟩)
          | (go_at_call 33; refine (refUnion_env H.env (A := A) (c := c) (xs := xs) (B := B) (d := d) (ys := ys) (by repeat (first | with_reducible exact List.mem_cons_self | apply List.mem_cons_of_mem)) (by repeat (first | with_reducible exact List.mem_cons_self | apply List.mem_cons_of_mem)) x80 y80).mono ?_; rintro e u4 ⟨C4, k4, rfl, E4⟩; replace H := H.next E4; clear E4)
          | (go_at_call 22; refine (Same_env H.env (by repeat (first | with_reducible exact List.mem_cons_self | apply List.mem_cons_of_mem)) (by repeat (first | with_reducible exact List.mem_cons_self | apply List.mem_cons_of_mem)) (by with_reducible rfl) (by first | exact canon_max _ | (unfold maxLen; omega))).mono ?_; rintro e u5 ⟨rfl, E5⟩; replace H := H.next E5; clear E5)
          | (go_at_call 27; have HS := H.sub3 (by simp) (by simp) (by simp) (q1 := (C1, k1, canon (zipW (· ||| ·) xs ys))) (q2 := (C2, k2, canon (zipW (· &&& ·) xs ys))) (q3 := (C3, k3, canon (zipW andNot xs ys))); refine (spoil_both HS (by simp) (by simp only [List.mem_cons, List.not_mem_nil, or_false]; rintro q (rfl | rfl | rfl) <;> exact canon_64 _) 23 3).mono ?_; clear HS; rintro e u6 ⟨rfl, hb6⟩))
        go_roundw
        case rel => exact ⟨t + 1, by omega, by go_num, stepB hb hb6⟩
        case measure => simp [intOf]; omega
      · obtain rfl : t = 2 := by omega
        have hi1r := ((((Vals.below hi1 hbm).below hbn).below hbs).below hb)
        have hi2r := (((Vals.below hi2 hbn).below hbs).below hb)
        have HI : Hid (∀ w', Below wr.heap.size wr w' → Calls Tryd.prog 24 #[.slice A1 n c1, .slice A2 m c2] w' fun e w'' => e = .returned (.int .i64 (cmpS xs ys)) ∧ ∃ q, w'' = w'.drewN q) := by
          intro w' hb'
          have hl1 : (elsI xs).length = n := by rw [elsI_len, HN.out]
          have hl2 : (elsI ys).length = m := by rw [elsI_len, HM.out]
          have q1 := els_le xs
          have q2 := els_le ys
          have hj1 : Ints w' A1 (elsI xs) := by unfold Ints; rw [hl1]; exact Vals.below hi1r hb'
          have hj2 : Ints w' A2 (elsI ys) := by unfold Ints; rw [hl2]; exact Vals.below hi2r hb'
          have := Ints_any A1 A2 (elsI xs) (elsI ys) c1 c2 w' hj1 hj2 (by rw [elsI_len]; unfold maxLen; omega) (by rw [elsI_len]; unfold maxLen; omega)
          rw [hl1, hl2] at this
          exact this
        have hF := stepB EB hb
        have E2 := E1.self
        have g1 := sub_less (xs := xs) (ys := ys)
        have g2 := meet_more (xs := xs) (ys := ys)
        have g3 := eq_cmp ux uy
        obtain ⟨sb, hsb⟩ : ∃ sb, subB xs ys = sb := ⟨_, rfl⟩
        obtain ⟨mb, hmb⟩ : ∃ mb, meetB xs ys = mb := ⟨_, rfl⟩
        obtain ⟨eb, heb⟩ : ∃ eb, eqB xs ys = eb := ⟨_, rfl⟩
        obtain ⟨v, hv⟩ : ∃ v, cmpS xs ys = v := ⟨_, rfl⟩
        rw [hsb] at g1
        rw [hmb] at g2
        rw [heb, hv] at g3
        rw [hv] at HI
        have G1 := Lib.hid hsb
        have G2 := Lib.hid hmb
        have G3 := Lib.hid heb
        have G4 := Lib.hid hv
        have g4 : decide (0 < (canon (zipW (· &&& ·) xs ys)).length) = mb := by rw [← g2, Bool.eq_iff_iff, decide_eq_true_iff, decide_eq_true_iff]; omega
        clear hsb hmb heb hv E1 hi1r hi2r
        go_wp2_with (first
          | (go_at_call 34; refine (Subset_env E2 (A := X) (c := xc) (xs := xs) (B := Y) (d := yc) (ys := ys) (by repeat (first | with_reducible exact List.mem_cons_self | apply List.mem_cons_of_mem)) (by repeat (first | with_reducible exact List.mem_cons_self | apply List.mem_cons_of_mem)) G1.out).mono ?_; rintro e v1 ⟨rfl, rfl⟩)
          | (go_at_call 35; refine (Equal_env E2 (A := X) (c := xc) (xs := xs) (B := Y) (d := yc) (ys := ys) (by repeat (first | with_reducible exact List.mem_cons_self | apply List.mem_cons_of_mem)) (by repeat (first | with_reducible exact List.mem_cons_self | apply List.mem_cons_of_mem)) G3.out).mono ?_; rintro e v1 ⟨rfl, rfl⟩)
          | (go_at_call 36; refine (Intersects_env E2 (A := X) (c := xc) (xs := xs) (B := Y) (d := yc) (ys := ys) (by repeat (first | with_reducible exact List.mem_cons_self | apply List.mem_cons_of_mem)) (by repeat (first | with_reducible exact List.mem_cons_self | apply List.mem_cons_of_mem)) G2.out).mono ?_; rintro e v1 ⟨rfl, rfl⟩)
          | (go_at_call 37; have hc0 := Compare_env E2 (A := X) (c := xc) (xs := xs) (B := Y) (d := yc) (ys := ys) (by repeat (first | with_reducible exact List.mem_cons_self | apply List.mem_cons_of_mem)) (by repeat (first | with_reducible exact List.mem_cons_self | apply List.mem_cons_of_mem)); rw [G4.out] at hc0; (with_reducible refine hc0.mono ?_); clear hc0; rintro e v1 ⟨rfl, E4⟩; replace E2 := E4; clear E4)
          | (go_at_call 24; refine (HI.out _ E2.1).mono ?_; rintro e v2 ⟨rfl, q, rfl⟩; replace E2 := E2.step (drewN_below _ q))
          | (go_at_call 12; refine (awake_env E2).mono ?_; rintro e v3 ⟨rfl, E2⟩))
        go_ret
        exact ⟨rfl, stepB hF E2.1⟩
end Go.Proofs.YtnjagdocgmbmiaaDoor
