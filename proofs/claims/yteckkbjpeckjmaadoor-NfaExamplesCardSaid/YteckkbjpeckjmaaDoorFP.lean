/- reachable, productive (package nfa): a closure that is called until nothing changes. -/
import Derived.Test.YteckkbjpeckjmaaDoorFM
import Derived.Deep.LoopGhost
import Derived.Deep.DeepCutAuto
import Derived.Shelf.Abstract
namespace Go.Proofs.YteckkbjpeckjmaaDoor.Nf
open Go Go.RowKit Go.Proofs.YteckkbjpeckjmaaDoor Go.Proofs.YteckkbjpeckjmaaDoor.Cb
set_option linter.unusedVariables false
set_option linter.unusedSimpArgs false
set_option maxRecDepth 100000
def wth (xs : List Nat) (k : Int) : List Nat := canon (zipW (· ||| ·) xs (ofL [k]))
theorem With6_any (A : Option Addr) (xs : List Nat) (c : Nat) (k : Int) (w : World) (hx : Words w A xs) (ux : U64 xs) (hc : xs.length ≤ c) :
    Calls Tryd.prog 77 #[.slice A xs.length c, .int .i64 k] w fun e w' => ∃ A' c', e = .returned (.slice A' (wth xs k).length c') ∧ OwnW w.heap.size w' A' c' (wth xs k) ∧ Below w.heap.size w w' := by
  have HO := Lib.hid (of_one k w)
  have HU := Lib.hid fun X A1 c1 (hX : Below w.heap.size w X) (h1 : Words X A1 (ofL [k])) (u1 : U64 (ofL [k])) (l1 : (ofL [k]).length ≤ c1) => Union_any A A1 xs (ofL [k]) c c1 X (hx.below hX) ux hc h1 u1 l1
  have HW : Hid (wth xs k = canon (zipW (· ||| ·) xs (ofL [k]))) := rfl
  rw [← HW.out] at HU
  generalize wth xs k = R at *
  generalize ofL [k] = F at *
  clear hx HW
  go_enter Tryd.func77, Tryd.ntmps77
  go_wp2_with (first
    | (go_at_call 34; refine HO.out.mono ?_; rintro e w1 ⟨A1, c1, rfl, hw1, u1, l1, hb1⟩)
    | (go_at_call 108; refine (HU.out _ _ _ hb1 hw1 u1 l1).mono ?_; rintro e w2 ⟨A2, c2, rfl, ho2, hb2⟩))
  go_ret
  exact ⟨A2, c2, rfl, OwnW.low ho2 hb1.size, stepB hb1 hb2⟩
theorem has_wth {xs : List Nat} {k o : Int} (hk : 0 ≤ k ∧ k < 64) : hasB (wth xs k) o = true ↔ hasB xs o = true ∨ o = k := by
  unfold wth
  rw [has_with, Bool.or_eq_true, Bool.and_eq_true, decide_eq_true_iff, decide_eq_true_iff]
  constructor
  · rintro (h | h)
    · exact .inl h
    · exact .inr h.2
  · rintro (h | h)
    · exact .inl h
    · exact .inr ⟨by omega, h⟩
theorem u64_wth {xs : List Nat} {k : Int} (ux : U64 xs) : U64 (wth xs k) := u64_with ux
theorem canon_wth {xs : List Nat} {k : Int} : canon (wth xs k) = wth xs k := canon_canon _
/-- What grows the set: nothing so far, or some state. -/
structure GrowP (n : Na) (xs ys : List Nat) (k : Nat) (g : Bool) : Prop where
  can : canon ys = ys
  u : U64 ys
  mono : ∀ z, hasB xs z = true → hasB ys z = true
  rc : ∀ z, hasB ys z = true → Rc n.es n.st z
  no : g = false → ys = xs ∧ ∀ j, j < k → hasB xs (ed n.es j).fr = true → hasB xs (ed n.es j).to = true
  yes : g = true → miss n ys < miss n xs
theorem GrowP.start {n : Na} {xs : List Nat} (hc : canon xs = xs) (ux : U64 xs) (hr : ∀ z, hasB xs z = true → Rc n.es n.st z) : GrowP n xs xs 0 false :=
  ⟨hc, ux, fun _ h => h, hr, fun _ => ⟨rfl, fun j hj => absurd hj (by omega)⟩, fun h => by cases h⟩
theorem GrowP.same {n : Na} {xs ys : List Nat} {k : Nat} {g : Bool} (h : GrowP n xs ys k g) (hn : ¬ (hasB ys (ed n.es k).fr = true ∧ hasB ys (ed n.es k).to = false)) : GrowP n xs ys (k + 1) g := by
  refine ⟨h.can, h.u, h.mono, h.rc, fun hg => ?_, h.yes⟩
  obtain ⟨rfl, h2⟩ := h.no hg
  refine ⟨rfl, fun j hj hf => ?_⟩
  rcases Nat.lt_or_eq_of_le (Nat.le_of_lt_succ hj) with h3 | rfl
  · exact h2 j h3 hf
  · cases ht : hasB ys (ed n.es j).to with
    | true => rfl
    | false => exact absurd ⟨hf, ht⟩ hn
theorem GrowP.more {n : Na} (hO : Ok n) {xs ys : List Nat} {k : Nat} {g : Bool} (h : GrowP n xs ys k g) (hk : k < n.es.length) (hf : hasB ys (ed n.es k).fr = true) (ht : hasB ys (ed n.es k).to = false) : GrowP n xs (wth ys (ed n.es k).to) (k + 1) true := by
  have hin := (edE_in (hO.ed _ (ed_mem hk))).2.1
  have hs := hO.s64
  have hh := fun o => has_wth (xs := ys) (k := (ed n.es k).to) (o := o) (by omega)
  refine ⟨canon_wth, u64_wth h.u, fun z hz => (hh z).2 (.inl (h.mono z hz)), fun z hz => ?_, (fun hg => by cases hg), fun _ => ?_⟩
  · rcases (hh z).1 hz with h1 | rfl
    · exact h.rc z h1
    · exact .step (ed_mem hk) (h.rc _ hf)
  · have h1 : miss n (wth ys (ed n.es k).to) < miss n ys := miss_lt (fun z hz => (hh z).2 (.inl hz)) hin ht ((hh _).2 (.inr rfl))
    cases g with
    | true => exact Nat.lt_trans h1 (h.yes rfl)
    | false => rw [(h.no rfl).1] at h1 ⊢; exact h1
set_option maxHeartbeats 4000000 in
/-- One call of the closure. -/
theorem grows_any (n : Na) (hO : Ok n) (C : Option Addr) (c bn bs : Nat) (w0 : World) (hes : EdsAt w0 C n.es) (A : Option Addr) (xs : List Nat) (cs : Nat) (w : World) (hb0 : Below w0.heap.size w0 w) (hbs : w0.heap.size ≤ bs) (hne : bn ≠ bs) (hn4 : w.cell? ⟨bn, 4, none⟩ = some (.slice C n.es.length c)) (hbx : Boxed w bs 41 (.slice A xs.length cs)) (ho : OwnW w0.heap.size w A cs xs)
    (hcan : canon xs = xs) (hr : ∀ z, hasB xs z = true → Rc n.es n.st z) :
    Calls Tryd.prog 75 #[.pointer (some ⟨bn, 0, none⟩), .pointer (some ⟨bs, 0, none⟩)] w fun e w' =>
      ∃ (g : Bool) (ys : List Nat) (A' : Option Addr) (c' : Nat), e = .returned (.bool g) ∧ GrowP n xs ys n.es.length g ∧ Boxed w' bs 41 (.slice A' ys.length c') ∧ OwnW w0.heap.size w' A' c' ys ∧ Exc [bs] w.heap.size w w' := by
  have hle := hO.es
  have hbw := hbx.lt
  go_enter Tryd.func75, Tryd.ntmps75
  go_wp2
  have hP0 := GrowP.start hcan ho.2.1 hr
  clear hn4 hcan hr
  go_loopw [3, 9] (fun gv i wr => ∃ (k : Nat) (g : Bool) (ys : List Nat) (A' : Option Addr) (c' : Nat), k ≤ n.es.length ∧ i = .int .i64 k ∧ gv = .bool g ∧ Hid (GrowP n xs ys k g) ∧ Boxed wr bs 41 (.slice A' ys.length c') ∧ OwnW w0.heap.size wr A' c' ys ∧ Exc [bs] w.heap.size w wr) (fun _ i _ => n.es.length - (intOf i).toNat)
  case atStart => exact ⟨0, false, xs, A, cs, by omega, rfl, rfl, hP0, hbx, ho, Exc.refl _ _ _⟩
  case round =>
    clear hP0 hbx ho
    obtain ⟨k, g, ys, A', c', hk, rfl, rfl, HP, hbx, ho, hE⟩ := hrel
    have hb1 : Below w0.heap.size w0 wr := hb0.trans (hE.below hb0.size (fun q hq => by have := List.mem_singleton.1 hq; omega))
    by_cases hlt : k < n.es.length
    · obtain ⟨hok, ad, rfl, had, hc⟩ := (hes.below hb1) k hlt
      obtain ⟨q0, q1, q2, q3⟩ := four_at hc
      have hS := fun h => Lib.hid (HP.out.same (k := k) h)
      have hM := fun h1 h2 => Lib.hid (HP.out.more hO hlt h1 h2)
      have hB4 := Boxed4.new wr 30 (.int .i64 (ed n.es k).fr) (.int .i64 (ed n.es k).to) (.int .u8 (ed n.es k).p) (.int .u8 (ed n.es k).q)
      have hba := bal (Below.refl wr.heap.size wr) (.cells #[.int .i64 (ed n.es k).fr, .int .i64 (ed n.es k).to, .int .u8 (ed n.es k).p, .int .u8 (ed n.es k).q] 30)
      have hbx1 := hbx.below hba
      have ho1 := OwnW.bel ho hba
      have hE1 := hE.trans (exc_of_call (S := [bs]) hba hE.size)
      have HH := Lib.hid fun z X (hZ : Words X A' ys) => Go.Proofs.YteckkbjpeckjmaaDoor.Has_any A' ys c' z X hZ ho.2.1
      have HW := Lib.hid fun z X (hZ : Words X A' ys) => With6_any A' ys c' z X hZ ho.2.1 ho.2.2
      clear hc hok hbx hE hb1 HP had
      generalize ed n.es k = x at *
      go_upto_region 5 with fail
      generalize World.alloc wr (.cells #[.int .i64 x.fr, .int .i64 x.to, .int .u8 x.p, .int .u8 x.q] 30) = W1 at *
      have hcv := hbx1.cell
      have hfv := hbx1.frozen
      obtain ⟨e0, e1, e2, e3⟩ := hB4.cells
      have hw1 := ho1.words
      have hsz1 : w.heap.size ≤ W1.heap.size := hE1.size
      cases h1 : hasB ys x.fr with
      | false =>
        have S1 := hS (by rw [h1]; simp)
        have HF := Lib.hid (HH.out x.fr)
        rw [h1] at HF
        clear hS hM HH HW h1
        go_wp2_with (go_at_call 76; ((with_reducible refine (HF.out _ hw1).mono ?_); rintro e w3 ⟨rfl, nq, rfl⟩))
        have hd := Ap.drewN_below W1 nq
        go_roundw
        case rel => exact ⟨k + 1, g, ys, A', c', by omega, by go_num, rfl, S1.out, hbx1.below hd, OwnW.bel ho1 hd, hE1.trans (exc_of_call hd hsz1)⟩
        case measure => simp [intOf]; omega
      | true =>
        cases h2 : hasB ys x.to with
        | true =>
          have S1 := hS (by rw [h2]; simp)
          have HF := Lib.hid (HH.out x.fr)
          rw [h1] at HF
          have HT := Lib.hid (HH.out x.to)
          rw [h2] at HT
          clear hS hM HH HW h1 h2
          go_wp2_with (first
            | (go_at_call 76; ((with_reducible refine (HF.out _ hw1).mono ?_); rintro e w3 ⟨rfl, nq, rfl⟩); have hd := Ap.drewN_below W1 nq; replace hbx1 := hbx1.below hd; replace ho1 := OwnW.bel ho1 hd; replace hE1 := hE1.trans (exc_of_call (S := [bs]) hd hsz1); replace hw1 := hw1.below hd; replace hB4 := hB4.below hd; clear hcv hfv e0 e1 e2 e3 HF; generalize W1.drewN nq = W2 at *; have hcv := hbx1.cell; have hfv := hbx1.frozen; obtain ⟨e0, e1, e2, e3⟩ := hB4.cells)
            | (go_at_call 76; ((with_reducible refine (HT.out _ hw1).mono ?_); rintro e w4 ⟨rfl, nq2, rfl⟩)))
          have hd2 := Ap.drewN_below W2 nq2
          have hs2 : w.heap.size ≤ W2.heap.size := hE1.size
          go_roundw
          case rel => exact ⟨k + 1, g, ys, A', c', by omega, by go_num, rfl, S1.out, hbx1.below hd2, OwnW.bel ho1 hd2, hE1.trans (exc_of_call hd2 hs2)⟩
          case measure => simp [intOf]; omega
        | false =>
          have S1 := hM h1 h2
          have HF := Lib.hid (HH.out x.fr)
          rw [h1] at HF
          have HT := Lib.hid (HH.out x.to)
          rw [h2] at HT
          have HW2 := Lib.hid (HW.out x.to)
          clear hS hM HH HW h1 h2
          generalize wth ys x.to = R at *
          go_wp2_with (first
            | (go_at_call 76; ((with_reducible refine (HF.out _ hw1).mono ?_); rintro e w3 ⟨rfl, nq, rfl⟩); have hd := Ap.drewN_below W1 nq; replace hbx1 := hbx1.below hd; replace ho1 := OwnW.bel ho1 hd; replace hE1 := hE1.trans (exc_of_call (S := [bs]) hd hsz1); replace hw1 := hw1.below hd; replace hB4 := hB4.below hd; clear hcv hfv e0 e1 e2 e3 HF; generalize W1.drewN nq = W2 at *; have hcv := hbx1.cell; have hfv := hbx1.frozen; obtain ⟨e0, e1, e2, e3⟩ := hB4.cells)
            | (go_at_call 76; ((with_reducible refine (HT.out _ hw1).mono ?_); rintro e w4 ⟨rfl, nq2, rfl⟩); have hd2 := Ap.drewN_below W2 nq2; have hs2 : w.heap.size ≤ W2.heap.size := hE1.size; replace hbx1 := hbx1.below hd2; replace ho1 := OwnW.bel ho1 hd2; replace hE1 := hE1.trans (exc_of_call (S := [bs]) hd2 hs2); replace hw1 := hw1.below hd2; replace hB4 := hB4.below hd2; clear hcv hfv e0 e1 e2 e3 HT; generalize W2.drewN nq2 = W3 at *; have hcv := hbx1.cell; have hfv := hbx1.frozen; obtain ⟨e0, e1, e2, e3⟩ := hB4.cells)
            | (go_at_call 77; ((with_reducible refine (HW2.out _ hw1).mono ?_); rintro e w5 ⟨A5, c5, rfl, ho5, hb5⟩); have hbx5 := hbx1.below hb5; have hcv5 := hbx5.cell; have hfv5 := hbx5.frozen))
          have hs3 : w.heap.size ≤ W3.heap.size := hE1.size
          have hw0 : w0.heap.size ≤ w.heap.size := hb0.size
          have hE5 := hE1.trans (exc_of_call (S := [bs]) hb5 hs3)
          have hE6 := hE5.setCell (p := ⟨bs, 0, none⟩) (.inl List.mem_cons_self) (.slice A5 R.length c5)
          have ho6 : OwnW w0.heap.size (w5.setCell ⟨bs, 0, none⟩ (.slice A5 R.length c5)) A5 c5 R := ⟨(OwnW.low ho5 (Nat.le_trans hw0 hs3)).1.kept (grownBy_setCell' w5 bs _) (.inr (hbx5.not_row (by decide) ho5.1).symm), ho5.2.1, ho5.2.2⟩
          have hbx6 := hbx5.set (.slice A5 R.length c5)
          go_roundw
          case rel => exact ⟨k + 1, true, R, A5, c5, by omega, by go_num, rfl, S1.out, hbx6, ho6, hE6⟩
          case measure => simp [intOf]; omega
    · obtain rfl : k = n.es.length := by omega
      go_wp2
      go_ret
      exact ⟨g, ys, A', c', rfl, HP.out, hbx, ho, hE⟩
theorem GrowP.closed {n : Na} {xs ys : List Nat} (h : GrowP n xs ys n.es.length false) : ys = xs ∧ ∀ e ∈ n.es, hasB xs e.fr = true → hasB xs e.to = true := by
  obtain ⟨h1, h2⟩ := h.no rfl
  refine ⟨h1, fun e he => ?_⟩
  obtain ⟨j, hj, rfl⟩ := mem_ed he
  exact h2 j hj
set_option maxHeartbeats 4000000 in
theorem reachable_any (n : Na) (hO : Ok n) (A B C : Option Addr) (a b c : Nat) (w : World) (hx : NaAt w n A B C) (hl : NaLen n) :
    Calls Tryd.prog 37 #[.agg #[.int .i64 n.V, .int .i64 n.S, .slice A n.st.length a, .slice B n.fi.length b, .slice C n.es.length c]] w fun e w' =>
      ∃ xs A' c', e = .returned (.slice A' xs.length c') ∧ IsSet xs (Rc n.es n.st) ∧ OwnW w.heap.size w' A' c' xs ∧ Below w.heap.size w w' := by
  have hB0 := Boxed5.mk0 w n A B C a b c
  have hb0 := bal (Below.refl w.heap.size w) (.cells #[.int .i64 n.V, .int .i64 n.S, .slice A n.st.length a, .slice B n.fi.length b, .slice C n.es.length c] 26)
  have HO := Lib.hid (Of_own A n.st a _ (hx.st.below hb0) (by have := hl.st; unfold maxLen; omega))
  have hset := ofL_set (n := n) hO.s64 hO.st
  have HG := Lib.hid fun (bs : Nat) (hbs : w.heap.size ≤ bs) (hne : w.heap.size ≠ bs) A1 xs cs X (hX : Below w.heap.size w X) hn4 hbx ho hcan hr => grows_any n hO C c w.heap.size bs w hx.es A1 xs cs X hX hbs hne hn4 hbx ho hcan hr
  go_enter Tryd.func37, Tryd.ntmps37
  go_wp2_with (go_at_call 34; ((with_reducible refine HO.out.mono ?_); rintro e w2 ⟨A2, c2, rfl, ho2, hb2⟩))
  have hb3 := stepB hb0 hb2
  have hB3 := hB0.below hb2
  have hs3 := hb3.size
  have hlt3 : w.heap.size < w2.heap.size := hB3.lt
  obtain ⟨xs0, hxs0⟩ : ∃ xs0, xs0 = ofL n.st := ⟨_, rfl⟩
  rw [← hxs0] at ho2 hset ⊢
  clear hxs0 HO
  have hba := bal (Below.refl w2.heap.size w2) (.cells #[.slice A2 xs0.length c2] 41)
  have hbx := Boxed.new w2 41 (.slice A2 xs0.length c2)
  have ho3 := OwnW.bel (OwnW.low ho2 hb0.size) hba
  have hb4 := stepB hb3 hba
  have hB4 := hB3.below hba
  have hrc0 : ∀ z, hasB xs0 z = true → Rc n.es n.st z := fun z hz => .base ((hset.2.2 z).1 hz)
  have hin0 : ∀ z ∈ n.st, hasB xs0 z = true := fun z hz => (hset.2.2 z).2 hz
  have hcan0 := hset.1
  clear ho2 hb2 hb0 hB0 hB3 hb3 hset hba
  generalize hbs : w2.heap.size = bs at *
  clear hbs
  generalize World.alloc w2 (.cells #[.slice A2 xs0.length c2] 41) = W0 at *
  go_loopg [] (miss n xs0) (fun gk wr => ∃ (xs : List Nat) (A' : Option Addr) (c' : Nat), Hid (gk = miss n xs ∧ canon xs = xs ∧ (∀ z, hasB xs z = true → Rc n.es n.st z) ∧ (∀ z ∈ n.st, hasB xs z = true)) ∧ Boxed wr bs 41 (.slice A' xs.length c') ∧ OwnW w.heap.size wr A' c' xs ∧ Boxed5 wr w.heap.size (.int .i64 n.V) (.int .i64 n.S) (.slice A n.st.length a) (.slice B n.fi.length b) (.slice C n.es.length c) ∧ Below w.heap.size w wr)
  case atStart => exact ⟨xs0, A2, c2, ⟨rfl, hcan0, hrc0, hin0⟩, hbx, ho3, hB4, hb4⟩
  case round =>
    clear hbx ho3 hB4 hb4 hcan0 hrc0 hin0
    obtain ⟨xs, A', c', HX, hbx, ho, hB, hb⟩ := hrel
    have hG := Lib.hid (HG.out bs hs3 (by omega) A' xs c' wr hb hB.c4 hbx ho HX.out.2.1 HX.out.2.2.1)
    have hcv := hbx.cell
    go_wp2_with (go_at_call 75; ((with_reducible refine hG.out.mono ?_); rintro e w5 ⟨g, ys, A5, c5, rfl, hP, hbx5, ho5, hE5⟩); have hcv5 := hbx5.cell; have HP := Lib.hid hP; clear hP; cases g)
    · have hP := HP.out
      obtain ⟨h1, h2⟩ := hP.closed
      subst h1
      go_ret
      have hb5 : Below w.heap.size w w5 := hb.trans (hE5.below hb.size (fun q hq => by have := List.mem_singleton.1 hq; omega))
      exact ⟨ys, A5, c5, rfl, rc_set hO hP.can hP.u hP.rc HX.out.2.2.2 h2, ho5, hb5⟩
    · have hb5 : Below w.heap.size w w5 := hb.trans (hE5.below hb.size (fun q hq => by have := List.mem_singleton.1 hq; omega))
      have hblk : w5.heap[w.heap.size]? = wr.heap[w.heap.size]? := hE5.block _ hB.lt (fun hm => by have := List.mem_singleton.1 hm; omega)
      have hB5 : Boxed5 w5 w.heap.size (.int .i64 n.V) (.int .i64 n.S) (.slice A n.st.length a) (.slice B n.fi.length b) (.slice C n.es.length c) := ⟨block_lt hblk hB.lt, (World.cell?_of_block (a := ⟨w.heap.size, 0, none⟩) hblk).trans hB.c0, (World.cell?_of_block (a := ⟨w.heap.size, 1, none⟩) hblk).trans hB.c1, (World.cell?_of_block (a := ⟨w.heap.size, 2, none⟩) hblk).trans hB.c2, (World.cell?_of_block (a := ⟨w.heap.size, 3, none⟩) hblk).trans hB.c3, (World.cell?_of_block (a := ⟨w.heap.size, 4, none⟩) hblk).trans hB.c4⟩
      go_roundg (miss n ys)
      case measure => rw [HX.out.1]; exact HP.out.yes rfl
      case rel => exact ⟨ys, A5, c5, ⟨rfl, HP.out.can, HP.out.rc, fun z hz => HP.out.mono z (HX.out.2.2.2 z hz)⟩, hbx5, ho5, hB5, hb5⟩
section
variable (n : Na) (A B C : Option Addr) (a b c : Nat) (w : World) (hx : NaAt w n A B C) (hl : NaLen n)
include hx hl
theorem Reachable_good (h0 : chkN n = 0) :
    Calls Tryd.prog 15 #[.agg #[.int .i64 n.V, .int .i64 n.S, .slice A n.st.length a, .slice B n.fi.length b, .slice C n.es.length c]] w fun e w' =>
      ∃ xs A' c', e = .returned (.tuple #[.slice A' xs.length c', .int .i64 0]) ∧ IsSet xs (Rc n.es n.st) ∧ OwnW w.heap.size w' A' c' xs ∧ Below w.heap.size w w' := by
  have hB0 := Boxed5.mk0 w n A B C a b c
  have hb0 := bal (Below.refl w.heap.size w) (.cells #[.int .i64 n.V, .int .i64 n.S, .slice A n.st.length a, .slice B n.fi.length b, .slice C n.es.length c] 26)
  have HC := Check6_any n A B C a b c _ (hx.below hb0) hl
  rw [h0] at HC
  have HC := Lib.hid HC
  have HR := Lib.hid fun X (hX : Below w.heap.size w X) => reachable_any n (ok_of h0) A B C a b c X (hx.below hX) hl
  clear hx hl h0
  go_enter Tryd.func15, Tryd.ntmps15
  go_wp2_with (first
    | (go_at_call 10; ((with_reducible refine HC.out.mono ?_); rintro e w2 ⟨rfl, hb2⟩); obtain ⟨z0, z1, z2, z3, z4⟩ := (hB0.below hb2).cells; have K2 := stepB hb0 hb2)
    | (go_at_call 37; ((with_reducible refine (HR.out _ K2).mono ?_); rintro e w3 ⟨xs, A3, c3, rfl, hS, ho3, hb3⟩)))
  go_ret2
  exact ⟨xs, A3, c3, rfl, hS, OwnW.low ho3 K2.size, stepB K2 hb3⟩
theorem Reachable_bad (h0 : chkN n ≠ 0) :
    Calls Tryd.prog 15 #[.agg #[.int .i64 n.V, .int .i64 n.S, .slice A n.st.length a, .slice B n.fi.length b, .slice C n.es.length c]] w fun e w' =>
      e = .returned (.tuple #[.slice none 0 0, .int .i64 (chkN n)]) ∧ Below w.heap.size w w' := by
  have hB0 := Boxed5.mk0 w n A B C a b c
  have hb0 := bal (Below.refl w.heap.size w) (.cells #[.int .i64 n.V, .int .i64 n.S, .slice A n.st.length a, .slice B n.fi.length b, .slice C n.es.length c] 26)
  have HC := Lib.hid (Check6_any n A B C a b c _ (hx.below hb0) hl)
  have hne : (chkN n != 0) = true := by rw [bne_iff_ne]; exact h0
  clear hx hl h0
  generalize chkN n = E at *
  go_enter Tryd.func15, Tryd.ntmps15
  go_wp2_with (go_at_call 10; ((with_reducible refine HC.out.mono ?_); rintro e w2 ⟨rfl, hb2⟩))
  go_ret2
  exact ⟨rfl, stepB hb0 hb2⟩
theorem productive_any (hO : Ok n) :
    Calls Tryd.prog 38 #[.agg #[.int .i64 n.V, .int .i64 n.S, .slice A n.st.length a, .slice B n.fi.length b, .slice C n.es.length c]] w fun e w' =>
      ∃ xs A' c', e = .returned (.slice A' xs.length c') ∧ IsSet xs (Rc (revN n).es (revN n).st) ∧ OwnW w.heap.size w' A' c' xs ∧ Below w.heap.size w w' := by
  have hB0 := Boxed5.mk0 w n A B C a b c
  have hb0 := bal (Below.refl w.heap.size w) (.cells #[.int .i64 n.V, .int .i64 n.S, .slice A n.st.length a, .slice B n.fi.length b, .slice C n.es.length c] 26)
  have hfl : ∀ x ∈ (revN n).es, EdOk x := fun x hx' => by
    obtain ⟨y, hy, rfl⟩ := List.mem_map.1 hx'
    have := eds_mem hx.es y hy
    exact ⟨this.to, this.fr, this.p, this.q⟩
  have hrl : NaLen (revN n) := ⟨hl.fi, hl.st, by show (n.es.map flipE).length ≤ _; rw [List.length_map]; exact hl.es⟩
  have hlr : (revN n).es.length = n.es.length := List.length_map _
  have HV : Hid (∀ X, Below w.heap.size w X → Calls Tryd.prog 67 #[.agg #[.int .i64 n.V, .int .i64 n.S, .slice A n.st.length a, .slice B n.fi.length b, .slice C n.es.length c]] X fun e w' => ∃ A' B' C' a' b' c', e = .returned (.agg #[.int .i64 n.V, .int .i64 n.S, .slice A' n.fi.length a', .slice B' n.st.length b', .slice C' n.es.length c']) ∧ Below X.heap.size X w' ∧ NaAt w' (revN n) A' B' C') := fun X hX =>
    (reversed6_any n A B C a b c X (hx.below hX) hl).mono fun e w' ⟨A', B', C', a', b', c', h1, h2, h3, h4, h5⟩ => ⟨A', B', C', a', b', c', h1, h2, ⟨hx.v, hx.s, Dg.ints_row h3 rfl, Dg.ints_row h4 rfl, eds_of_own h5 hfl⟩⟩
  have HR : Hid (∀ X A1 B1 C1 a1 b1 c1, NaAt X (revN n) A1 B1 C1 → Calls Tryd.prog 37 #[.agg #[.int .i64 n.V, .int .i64 n.S, .slice A1 n.fi.length a1, .slice B1 n.st.length b1, .slice C1 n.es.length c1]] X fun e w' => ∃ xs A' c', e = .returned (.slice A' xs.length c') ∧ IsSet xs (Rc (revN n).es (revN n).st) ∧ OwnW X.heap.size w' A' c' xs ∧ Below X.heap.size X w') := fun X A1 B1 C1 a1 b1 c1 hm => by
    have := reachable_any (revN n) (rev_ok hO) A1 B1 C1 a1 b1 c1 X hm hrl
    rw [hlr] at this
    exact this
  clear hx hl hO hfl hrl hlr
  generalize revN n = m at *
  go_enter Tryd.func38, Tryd.ntmps38
  go_wp2_with (first
    | (go_at_call 67; ((with_reducible refine (HV.out _ hb0).mono ?_); rintro e w2 ⟨A1, B1, C1, a1, b1, c1, rfl, hb2, hm2⟩); have K2 := stepB hb0 hb2)
    | (go_at_call 37; ((with_reducible refine (HR.out _ _ _ _ _ _ _ hm2).mono ?_); rintro e w3 ⟨xs, A3, c3, rfl, hS, ho3, hb3⟩)))
  go_ret
  exact ⟨xs, A3, c3, rfl, hS, OwnW.low ho3 K2.size, stepB K2 hb3⟩
theorem Productive_good (h0 : chkN n = 0) :
    Calls Tryd.prog 16 #[.agg #[.int .i64 n.V, .int .i64 n.S, .slice A n.st.length a, .slice B n.fi.length b, .slice C n.es.length c]] w fun e w' =>
      ∃ xs A' c', e = .returned (.tuple #[.slice A' xs.length c', .int .i64 0]) ∧ IsSet xs (Rc (revN n).es (revN n).st) ∧ OwnW w.heap.size w' A' c' xs ∧ Below w.heap.size w w' := by
  have hB0 := Boxed5.mk0 w n A B C a b c
  have hb0 := bal (Below.refl w.heap.size w) (.cells #[.int .i64 n.V, .int .i64 n.S, .slice A n.st.length a, .slice B n.fi.length b, .slice C n.es.length c] 26)
  have HC := Check6_any n A B C a b c _ (hx.below hb0) hl
  rw [h0] at HC
  have HC := Lib.hid HC
  have HR := Lib.hid fun X (hX : Below w.heap.size w X) => productive_any n A B C a b c X (hx.below hX) hl (ok_of h0)
  clear hx hl h0
  generalize revN n = m at *
  go_enter Tryd.func16, Tryd.ntmps16
  go_wp2_with (first
    | (go_at_call 10; ((with_reducible refine HC.out.mono ?_); rintro e w2 ⟨rfl, hb2⟩); obtain ⟨z0, z1, z2, z3, z4⟩ := (hB0.below hb2).cells; have K2 := stepB hb0 hb2)
    | (go_at_call 38; ((with_reducible refine (HR.out _ K2).mono ?_); rintro e w3 ⟨xs, A3, c3, rfl, hS, ho3, hb3⟩)))
  go_ret2
  exact ⟨xs, A3, c3, rfl, hS, OwnW.low ho3 K2.size, stepB K2 hb3⟩
end
end Go.Proofs.YteckkbjpeckjmaaDoor.Nf
