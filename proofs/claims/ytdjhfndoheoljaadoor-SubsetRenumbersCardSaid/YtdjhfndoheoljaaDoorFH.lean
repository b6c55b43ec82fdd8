/- ends, checkWord, Run, Accepts, After (package nfa). -/
import Derived.Test.YtdjhfndoheoljaaDoorFG
namespace Go.Proofs.YtdjhfndoheoljaaDoor.Nf
open Go Go.RowKit Go.Proofs.YtdjhfndoheoljaaDoor Go.Proofs.YtdjhfndoheoljaaDoor.Cb
set_option linter.unusedVariables false
set_option maxRecDepth 100000
theorem OwnW.low {B B' : Nat} {w : World} {A : Option Addr} {c : Nat} {xs : List Nat} (h : OwnW B w A c xs) (hb : B' ≤ B) : OwnW B' w A c xs := ⟨ownsRow_mono h.1 hb, h.2.1, h.2.2⟩
theorem OwnW.bel {B : Nat} {w w' : World} {A : Option Addr} {c : Nat} {xs : List Nat} (h : OwnW B w A c xs) (hb : Below w.heap.size w w') : OwnW B w' A c xs := ⟨h.1.below hb, h.2.1, h.2.2⟩
theorem Boxed5.mk0 (w : World) (n : Na) (A B C : Option Addr) (a b c : Nat) : Boxed5 (w.alloc (.cells #[.int .i64 n.V, .int .i64 n.S, .slice A n.st.length a, .slice B n.fi.length b, .slice C n.es.length c] 47)) w.heap.size (.int .i64 n.V) (.int .i64 n.S) (.slice A n.st.length a) (.slice B n.fi.length b) (.slice C n.es.length c) := Boxed5.new _ _ _ _ _ _ _
section
variable (n : Na) (A B C : Option Addr) (a b c : Nat) (w : World) (hx : NaAt w n A B C) (hl : NaLen n)
include hx hl
set_option maxHeartbeats 2000000 in
theorem ends_any (D : Option Addr) (l : List Nat) (d : Nat) (hw : Bys w D l) (h8 : ∀ y ∈ l, y < 256) (hll : l.length ≤ 1000000) :
    Calls Tryd.prog 93 #[.agg #[.int .i64 n.V, .int .i64 n.S, .slice A n.st.length a, .slice B n.fi.length b, .slice C n.es.length c], .slice D l.length d] w fun e w' =>
      ∃ A' c', e = .returned (.slice A' (runW n l).length c') ∧ OwnW w.heap.size w' A' c' (runW n l) ∧ Below w.heap.size w w' := by
  have hB0 := Boxed5.mk0 w n A B C a b c
  have hb0 := bal (Below.refl w.heap.size w) (.cells #[.int .i64 n.V, .int .i64 n.S, .slice A n.st.length a, .slice B n.fi.length b, .slice C n.es.length c] 47)
  have HO := Lib.hid (Of_own A n.st a _ (hx.st.below hb0) (by have := hl.st; unfold maxLen; omega))
  have HS := Lib.hid fun X (hX : Below w.heap.size w X) y (hy : y < 256) E xs e (hE : Words X E xs) (ux : U64 xs) => succ_any n.V n.S (.slice A n.st.length a) (.slice B n.fi.length b) C n.es c y hy E xs e X (hx.es.below hX) hl.es hE ux
  have hs0 := hb0.size
  go_enter Tryd.func93, Tryd.ntmps93
  go_wp2_with (go_at_call 85; ((with_reducible refine HO.out.mono ?_); rintro e w2 ⟨A2, c2, rfl, ho2, hb2⟩))
  have hb3 := stepB hb0 hb2
  have hB3 := hB0.below hb2
  have ho3 := OwnW.low ho2 hs0
  obtain ⟨xs0, hxs0⟩ : ∃ xs0, xs0 = ofL n.st := ⟨_, rfl⟩
  rw [← hxs0] at ho3 ⊢
  have H0 : Hid (xs0 = runTo n l 0) := hxs0
  clear hxs0 ho2 hb0 hB0 hb2 HO hs0
  go_loopw [5, 13] (fun s i wr => ∃ (k : Nat) (xs : List Nat) (E : Option Addr) (e : Nat), k ≤ l.length ∧ i = .int .i64 k ∧ Hid (xs = runTo n l k) ∧ s = .slice E xs.length e ∧ OwnW w.heap.size wr E e xs ∧ Boxed5 wr w.heap.size (.int .i64 n.V) (.int .i64 n.S) (.slice A n.st.length a) (.slice B n.fi.length b) (.slice C n.es.length c) ∧ Below w.heap.size w wr) (fun _ i _ => l.length - (intOf i).toNat)
  case atStart => exact ⟨0, xs0, A2, c2, by omega, rfl, H0, rfl, ho3, hB3, hb3⟩
  case round =>
    clear ho3 hB3 hb3 H0
    obtain ⟨k, xs, E, e, hk, rfl, H, rfl, ho, hB, hb⟩ := hrel
    obtain ⟨z0, z1, z2, z3, z4⟩ := hB.cells
    by_cases hlt : k < l.length
    · obtain ⟨ad, rfl, hcell⟩ := (hw.below hb).at_ hlt
      have hy := h8 (wd l k) (by unfold wd; rw [List.getD_eq_getElem?_getD, List.getElem?_eq_getElem hlt]; exact List.getElem_mem hlt)
      have H' : Hid (stepW n.es xs (wd l k) = runTo n l (k + 1)) := by show _ = _; rw [runTo_succ n hlt, H.out]
      have HS2 := Lib.hid (HS.out wr hb (wd l k) hy E xs e ho.words ho.2.1)
      clear H HS hy
      obtain ⟨ys, hys⟩ : ∃ ys, ys = stepW n.es xs (wd l k) := ⟨_, rfl⟩
      rw [← hys] at H' HS2
      clear hys
      generalize wd l k = x at *
      go_wp2_with (go_at_call 109; ((with_reducible refine HS2.out.mono ?_); rintro e3 w3 ⟨A3, c3, rfl, ho3, hb3⟩))
      go_roundw
      case rel => exact ⟨k + 1, ys, A3, c3, by omega, by go_num, H'.out, rfl, OwnW.low ho3 hb.size, hB.below hb3, stepB hb hb3⟩
      case measure => simp [intOf]; omega
    · obtain rfl : k = l.length := by omega
      have H' : Hid (xs = runW n l) := by show _ = _; rw [H.out, runTo_all]
      clear H HS
      go_wp2
      go_ret
      have hR := H'.out
      subst hR
      exact ⟨E, e, rfl, ho, hb⟩
set_option maxHeartbeats 2000000 in
theorem checkWord_any (D : Option Addr) (l : List Nat) (d : Nat) (hw : Bys w D l) (h8 : ∀ y ∈ l, y < 256) (hll : l.length ≤ 1000000) :
    Calls Tryd.prog 92 #[.agg #[.int .i64 n.V, .int .i64 n.S, .slice A n.st.length a, .slice B n.fi.length b, .slice C n.es.length c], .slice D l.length d] w fun e w' =>
      e = .returned (.int .i64 (wrongN n l)) ∧ Below w.heap.size w w' := by
  have hB0 := Boxed5.mk0 w n A B C a b c
  have hb0 := bal (Below.refl w.heap.size w) (.cells #[.int .i64 n.V, .int .i64 n.S, .slice A n.st.length a, .slice B n.fi.length b, .slice C n.es.length c] 47)
  have HC := Lib.hid (Check6_any n A B C a b c _ (hx.below hb0) hl)
  by_cases h0 : chkN n = 0
  · have hO := ok_of h0
    have HW : Hid (wrongN n l = wordE n.V l) := by show _ = _; unfold wrongN; rw [h0]; rfl
    obtain ⟨v, hv⟩ : ∃ v : Nat, n.V = v := ⟨n.V.toNat, by have := hO.v0; omega⟩
    have hv6 : v ≤ 6 := by have := hO.v6; omega
    have HV := Lib.hid hv
    rw [h0] at HC
    rw [hv] at HC hB0 hb0
    clear hO h0
    by_cases h64 : 64 < l.length
    · have HE : Hid (wrongN n l = 4) := by show _ = _; rw [HW.out]; unfold wordE; rw [if_pos h64]
      have hd : decide ((64 : Int) < (l.length : Int)) = true := decide_eq_true (by omega)
      clear HW hw h8
      generalize l.length = k at *
      rw [hv]
      clear hv
      go_enter Tryd.func92, Tryd.ntmps92
      go_wp2_with (go_at_call 43; ((with_reducible refine HC.out.mono ?_); rintro e w2 ⟨rfl, hb2⟩))
      go_ret
      exact ⟨ret_int HE.out.symm, stepB hb0 hb2⟩
    · have hd : decide ((64 : Int) < (l.length : Int)) = false := decide_eq_false (by omega)
      have HW2 : Hid (wrongN n l = if l.all (fun x => decide (x < 2 ^ v)) then 0 else 1) := by
        show _ = _
        rw [HW.out]
        unfold wordE
        rw [if_neg h64, HV.out, Int.toNat_natCast]
      clear HW
      rw [hv]
      clear hv
      go_enter Tryd.func92, Tryd.ntmps92
      go_wp2_with (go_at_call 43; ((with_reducible refine HC.out.mono ?_); rintro e w2 ⟨rfl, hb2⟩))
      have hB2 := hB0.below hb2
      have hb3 := stepB hb0 hb2
      clear HC hB0 hb0 hb2
      go_loopw [18] (fun i wr => ∃ (k : Nat), k ≤ l.length ∧ i = .int .i64 k ∧ Hid (∀ j, j < k → wd l j < 2 ^ v) ∧ Boxed5 wr w.heap.size (.int .i64 v) (.int .i64 n.S) (.slice A n.st.length a) (.slice B n.fi.length b) (.slice C n.es.length c) ∧ Below w.heap.size w wr) (fun i _ => l.length - (intOf i).toNat)
      case atStart => exact ⟨0, by omega, rfl, fun j hj => absurd hj (by omega), hB2, hb3⟩
      case round =>
        clear hB2 hb3
        obtain ⟨k, hk, rfl, H, hB, hb⟩ := hrel
        obtain ⟨z0, z1, z2, z3, z4⟩ := hB.cells
        by_cases hlt : k < l.length
        · obtain ⟨ad, rfl, hcell⟩ := (hw.below hb).at_ hlt
          have hm : wd l k ∈ l := by unfold wd; rw [List.getD_eq_getElem?_getD, List.getElem?_eq_getElem hlt]; exact List.getElem_mem hlt
          have HL := Lib.hid fun X => isLetter6_any (wd l k) v X (h8 _ hm) hv6
          by_cases hy : wd l k < 2 ^ v
          · have H' : Hid (∀ j, j < k + 1 → wd l j < 2 ^ v) := fun j hj => by
              rcases Nat.lt_or_eq_of_le (Nat.le_of_lt_succ hj) with h1 | rfl
              · exact H.out j h1
              · exact hy
            rw [decide_eq_true hy] at HL
            clear H hy hm HW2
            generalize wd l k = x at *
            go_wp2_with (go_at_call 108; ((with_reducible refine (HL.out _).mono ?_); rintro e w3 ⟨rfl, rfl⟩))
            go_roundw
            case rel => exact ⟨k + 1, by omega, by go_num, H', hB, hb⟩
            case measure => simp [intOf]; omega
          · have HE : Hid (wrongN n l = 1) := by
              show _ = _
              rw [HW2.out, if_neg]
              rw [List.all_eq_true]
              intro h
              exact hy (of_decide_eq_true (h _ hm))
            rw [decide_eq_false hy] at HL
            clear H hy hm HW2
            generalize wd l k = x at *
            go_wp2_with (go_at_call 108; ((with_reducible refine (HL.out _).mono ?_); rintro e w3 ⟨rfl, rfl⟩))
            go_ret
            exact ⟨ret_int HE.out.symm, hb⟩
        · obtain rfl : k = l.length := by omega
          have HE : Hid (wrongN n l = 0) := by
            show _ = _
            rw [HW2.out, if_pos]
            rw [List.all_eq_true]
            intro x hxl
            obtain ⟨j, hj, rfl⟩ := List.getElem_of_mem hxl
            have := H.out j hj
            unfold wd at this
            rw [List.getD_eq_getElem?_getD, List.getElem?_eq_getElem hj] at this
            exact decide_eq_true this
          clear H HW2
          go_wp2
          go_ret
          exact ⟨ret_int HE.out.symm, hb⟩
  · have HE : Hid (wrongN n l = chkN n) := by show _ = _; unfold wrongN; rw [if_pos h0]
    have hne : (chkN n != 0) = true := by rw [bne_iff_ne]; exact h0
    clear h0
    generalize chkN n = E at *
    generalize l.length = k at *
    go_enter Tryd.func92, Tryd.ntmps92
    go_wp2_with (go_at_call 43; ((with_reducible refine HC.out.mono ?_); rintro e w2 ⟨rfl, hb2⟩))
    go_ret
    exact ⟨ret_int HE.out.symm, stepB hb0 hb2⟩
end
end Go.Proofs.YtdjhfndoheoljaaDoor.Nf
