/- The reference's side of layer 7, second part: number, Order. -/
import Derived.Test.YtkgeihambgbjdaaDoorKE
import Derived.Test.YtkgeihambgbjdaaDoorKM
namespace Go.Proofs.YtkgeihambgbjdaaDoor.Sb
open Go Go.RowKit Go.Proofs.YtkgeihambgbjdaaDoor Go.Proofs.YtkgeihambgbjdaaDoor.Cb
open Go.Proofs.YtkgeihambgbjdaaDoor.Nf (zvs drew_below info_int6)
open Go.Proofs.YtkgeihambgbjdaaDoor.Dg (Tabs tb tb_mem)
set_option linter.unusedVariables false
set_option linter.unusedSimpArgs false
set_option maxRecDepth 100000
set_option maxHeartbeats 2000000 in
theorem HasInt7_any (A : Option Addr) (l : List Int) (c : Nat) (z : Int) (w : World) (hx : Ints w A l) (hl : l.length ≤ 1000000) :
    Calls Tryd.prog 74 #[.slice A l.length c, .int .i64 z] w fun e w' => e = .returned (.bool (decide (z ∈ l))) ∧ w = w' := by
  go_enter Tryd.func74, Tryd.ntmps74
  go_wp2
  go_loopw [5] (fun i wr => ∃ k : Nat, k ≤ l.length ∧ i = .int .i64 k ∧ Hid (∀ i, i < k → nd l i ≠ z) ∧ wr = w) (fun i _ => l.length - (intOf i).toNat)
  case atStart => exact ⟨0, by omega, rfl, fun i hi => absurd hi (by omega), rfl⟩
  case round =>
    obtain ⟨k, hk, rfl, H, rfl⟩ := hrel
    by_cases hlt : k < l.length
    · obtain ⟨ad, rfl, hcell⟩ := hx.at_ hlt
      by_cases he : nd l k = z
      · have hin : Hid (decide (z ∈ l) = true) := decide_eq_true (by
          rw [← he]
          unfold nd
          rw [List.getD_eq_getElem?_getD, List.getElem?_eq_getElem hlt]
          exact List.getElem_mem hlt)
        have hb : (nd l k == z) = true := beq_iff_eq.2 he
        clear H he hx
        generalize nd l k = x at *
        generalize l.length = n at *
        go_wp2
        go_ret
        exact ⟨Nf.ret_b hin.out.symm, rfl⟩
      · have hb : (nd l k == z) = false := beq_eq_false_iff_ne.2 he
        have H' : Hid (∀ i, i < k + 1 → nd l i ≠ z) := fun i hi => by
          rcases Nat.lt_or_eq_of_le (Nat.le_of_lt_succ hi) with h1 | rfl
          · exact H.out i h1
          · exact he
        clear H he
        generalize nd l k = x at *
        go_wp2
        go_roundw
        case rel => exact ⟨k + 1, by omega, by go_num, H', trivial⟩
        case measure => simp [intOf]; omega
    · have hno : Hid (decide (z ∈ l) = false) := decide_eq_false fun hm => by
        obtain ⟨j, hj, rfl⟩ := List.getElem_of_mem hm
        refine H.out j (by omega) ?_
        unfold nd
        rw [List.getD_eq_getElem?_getD, List.getElem?_eq_getElem hj]
        rfl
      clear H
      go_wp2
      go_ret
      exact ⟨Nf.ret_b hno.out.symm, rfl⟩
theorem zvs_snoc7 (l : List Int) (z : Int) : zvs (l ++ [z]) = zvs l ++ [.int .i64 z] := by simp [zvs]
theorem ret_sl {A : Option Addr} {n m c : Nat} (h : n = m) : Ending.returned (.slice A n c) = .returned (.slice A m c) := by rw [h]
theorem nd_pos_lt {L : List Int} {s : Int} : ∀ {k : Nat}, k < pos L s → nd L k ≠ s := by
  induction L with
  | nil => intro k h; exact absurd h (by unfold pos; simp)
  | cons x L ih =>
    intro k h
    unfold pos at h
    rw [List.idxOf_cons] at h
    by_cases hx : x = s
    · subst hx
      simp at h
    · have hb : (x == s) = false := by simpa using hx
      rw [hb] at h
      cases k with
      | zero => exact hx
      | succ k => exact ih (k := k) (by unfold pos; simpa using h)
theorem nd_pos {L : List Int} {s : Int} (h : s ∈ L) : nd L (pos L s) = s := by
  have := (posI_at h).2
  unfold nd
  rw [List.getD_eq_getElem?_getD, this]; rfl
set_option maxHeartbeats 2000000 in
theorem refNumber_any (P : Option Addr) (L : List Int) (c : Nat) (s : Int) (w : World) (hx : Ints w P L) (hs : s ∈ L) (hl : L.length ≤ 1000000) :
    Calls Tryd.prog 60 #[.slice P L.length c, .int .i64 s] w fun e w' => e = .returned (.int .i64 (pos L s)) ∧ w = w' := by
  have hp := (posI_at hs).1
  have HN := Lib.hid fun k (h : k < pos L s) => nd_pos_lt h
  have HP := Lib.hid (nd_pos hs)
  go_enter Tryd.func60, Tryd.ntmps60
  go_wp2
  go_loopw [5] (fun iv wr => ∃ k : Nat, k ≤ pos L s ∧ iv = .int .i64 k ∧ wr = w) (fun i _ => L.length - (intOf i).toNat)
  case atStart => exact ⟨0, Nat.zero_le _, rfl, rfl⟩
  case round =>
    obtain ⟨k, hk, rfl, rfl⟩ := hrel
    have hkl : k < L.length := by omega
    have hkl2 : (k : Int) < (L.length : Int) := by omega
    obtain ⟨ad, rfl, hc⟩ := Vals.at_ hx hkl
    by_cases hlt : k < pos L s
    · have hne : (nd L k != s) = true := by rw [bne_iff_ne]; exact HN.out k hlt
      go_wp2
      go_roundw
      case rel => exact ⟨k + 1, by omega, by go_num, trivial⟩
      case measure => simp [intOf]; omega
    · have he : k = pos L s := by omega
      have hne : (nd L k != s) = false := by rw [he, HP.out]; simp
      have HE := Lib.hid he
      clear he
      go_wp2
      go_ret
      exact ⟨Nf.ret_int (by rw [HE.out]), rfl⟩
/-- The rest of the way finds F. -/
def OrdI (succ : Int → List Int) (b : Nat) (F L : List Int) (k : Nat) : Prop := ∃ f, expl succ b f k L = some F
theorem OrdI.step {succ : Int → List Int} {b : Nat} {F L : List Int} {k : Nat} (h : OrdI succ b F L k) (hk : k < L.length) : OrdI succ b F (rowF L (succ (nd L k))) (k + 1) := by
  obtain ⟨f, h⟩ := h
  have e : nd L k = L[k] := by unfold nd; rw [List.getD_eq_getElem?_getD, List.getElem?_eq_getElem hk]; rfl
  rw [e]
  cases f with
  | zero => cases h
  | succ f =>
    by_cases ho : b < (rowF L (succ L[k])).length
    · rw [expl_over succ b hk ho] at h; cases h
    · rw [expl_step succ b hk (by omega)] at h
      exact ⟨f, h⟩
theorem OrdI.done {succ : Int → List Int} {b : Nat} {F L : List Int} {k : Nat} (h : OrdI succ b F L k) (hk : L.length ≤ k) : L = F := by
  obtain ⟨f, h⟩ := h
  cases f with
  | zero => cases h
  | succ f =>
    rw [expl_end succ b hk] at h
    cases h; rfl
theorem OrdI.pre {succ : Int → List Int} {b : Nat} {F L : List Int} {k : Nat} (h : OrdI succ b F L k) : L <+: F := by
  obtain ⟨f, h⟩ := h
  exact expl_pre succ _ _ _ h
section
variable (d : Da) (A B : Option Addr) (a b : Nat) (w : World) (hx : DaAt w d A B)
include hx
set_option maxHeartbeats 4000000 in
theorem refOrder_any (hO : OkD d) (F : List Int) (hF : found (succT d) d.nx.length d.q0 = some F) (hFp : ∀ s ∈ F, Pd d s) :
    Calls Tryd.prog 59 #[.agg #[.int .i64 d.V, .int .i64 d.q0, .slice A d.nx.length a, .slice B d.fi.length b]] w fun e w' => ∃ P c, e = .returned (.slice P F.length c) ∧ Ints w' P F ∧ Below w.heap.size w w' := by
  obtain ⟨i0, hi0, hz0, hz1, hz2⟩ := info_parts info_int6
  have hN0 := Blk4.new w (.int .i64 d.V) (.int .i64 d.q0) (.slice A d.nx.length a) (.slice B d.fi.length b)
  have hb00 := bal (Below.refl w.heap.size w) (.cells #[.int .i64 d.V, .int .i64 d.q0, .slice A d.nx.length a, .slice B d.fi.length b] 25)
  have hsz0 : (w.alloc (.cells #[.int .i64 d.V, .int .i64 d.q0, .slice A d.nx.length a, .slice B d.fi.length b] 25)).heap.size = w.heap.size + 1 := by simp
  have HD := Lib.hid hx.nx
  have hI0 : OrdI (succT d) d.nx.length F [d.q0] 0 := ⟨_, hF⟩
  have hn4 := hO.n4
  have hFl : F.length ≤ 4096 := by have := (found_is (succT d) _ hO.n0 hF).len; omega
  have HFp := Lib.hid hFp
  have HRl := Lib.hid fun s (hs : Pd d s) => pd_len hO hs
  clear hx hO hF hFp
  obtain ⟨z0, z1, z2, z3⟩ := hN0.cells
  go_enter Tryd.func59, Tryd.ntmps59
  go_wp2
  generalize w.alloc (.cells #[.int .i64 d.V, .int .i64 d.q0, .slice A d.nx.length a, .slice B d.fi.length b] 25) = w0 at *
  clear z0 z1 z2 z3
  have hNew : (w0.alloc (.cells #[.int .i64 d.q0] 3)).ownsRow (w.heap.size + 1) 3 1 (.slice (some ⟨w0.heap.size, 0, none⟩) 1 1) [d.q0].length (zvs [d.q0]) :=
    ⟨rfl, .inr ⟨w0.heap.size, 1, _, rfl, by omega, World.alloc_heap_new w0 _, Nat.le_refl _, by unfold maxLen; omega, rfl, rfl⟩⟩
  rw [hsz0] at hNew
  have hbel0 : Below (w.heap.size + 1) w0 (w0.alloc (.cells #[.int .i64 d.q0] 3)) := by rw [← hsz0]; exact bal (Below.refl _ _) _
  go_loopw [3, 4] (fun lv iv wr => ∃ (k : Nat) (v : Value) (L : List Int), v = lv ∧ k ≤ L.length ∧ iv = .int .i64 k ∧ Hid (OrdI (succT d) d.nx.length F L k) ∧ Hid (wr.ownsRow (w.heap.size + 1) 3 1 v L.length (zvs L)) ∧ Hid (Below (w.heap.size + 1) w0 wr)) (fun _ iv _ => F.length - (intOf iv).toNat)
  case atStart => exact ⟨0, _, [d.q0], rfl, Nat.zero_le _, rfl, hI0, hNew, hbel0⟩
  case round =>
    clear hI0 hNew hbel0
    obtain ⟨k, v, L, rfl, hk, rfl, hI, hO, hb⟩ := hrel
    have hpre := hI.out.pre
    have hLF := hpre.length_le
    have hN := ((hb.out.block w.heap.size (by omega)).trans hN0)
    have hbw : Below w.heap.size w wr := hb00.trans (hb.out.mono (Nat.le_succ _))
    obtain ⟨z0, z1, z2, z3⟩ := Blk4.cells hN
    by_cases hlt : k < L.length
    · obtain ⟨A7, c7, rfl, _⟩ := Ap.own_form hO.out
      have hi7 : Ints wr A7 L := Dg.ints_row hO.out rfl
      obtain ⟨ld, rfl, hlc⟩ := Vals.at_ hi7 hlt
      have hsP : Pd d (nd L k) := HFp.out _ (hpre.subset (by unfold nd; rw [List.getD_eq_getElem?_getD, List.getElem?_eq_getElem hlt]; exact List.getElem_mem hlt))
      have hSt := hI.out.step hlt
      obtain ⟨q, hq⟩ := Int.eq_ofNat_of_zero_le hsP.1
      have hql : q < d.nx.length := by have := hsP.2; omega
      rw [hq] at hlc hSt hsP
      have hrl := HRl.out _ hsP
      obtain ⟨ad, p, c', rfl, hbk, hcell, hi⟩ := HD.out q hql
      have hcX := (hbw.cell (p := ad.add q) (by rw [addr_block]; exact hbk)).trans hcell
      have hst : succT d (q : Int) = tb d.nx q := by unfold succT; rw [Int.toNat_natCast]
      rw [hst] at hSt hrl
      have hlt2 : (k : Int) < (L.length : Int) := by omega
      have hql2 : (q : Int) < (d.nx.length : Int) := by omega
      have HLen : Hid (∀ j, (rowF L ((tb d.nx q).take j)).length ≤ 4096) := fun j => by
        have h1 : (rowF L ((tb d.nx q).take j)).length ≤ (rowF L ((tb d.nx q).take (max j (tb d.nx q).length))).length := rowF_len_mono (by omega)
        rw [List.take_of_length_le (l := tb d.nx q) (i := max j (tb d.nx q).length) (by omega)] at h1
        have h2 := hSt.pre.length_le
        omega
      have HTk : Hid (∀ j, j < (tb d.nx q).length → rowF L ((tb d.nx q).take (j + 1)) = add (rowF L ((tb d.nx q).take j)) (nd (tb d.nx q) j)) := fun j hj => by
        rw [rowF_take hj]
        unfold nd
        rw [List.getD_eq_getElem?_getD, List.getElem?_eq_getElem hj]; rfl
      have HSt : Hid (OrdI (succT d) d.nx.length F (rowF L ((tb d.nx q).take (tb d.nx q).length)) (k + 1)) := by rw [List.take_length]; exact hSt
      have HI : Hid (∀ X, Below w.heap.size w X → Ints X p (tb d.nx q)) := fun X hX => Vals.below hi hX
      have hkl : Hid (k + 1 ≤ (rowF L ((tb d.nx q).take (tb d.nx q).length)).length) := by
        have := (rowF_pre ((tb d.nx q).take (tb d.nx q).length) L).length_le
        show _ ≤ _
        omega
      go_upto_region 5 with fail
      go_quiet (fail)
      have hdr := Ap.drewN_below wr nq
      have hb2 : Hid (Below (w.heap.size + 1) w0 (wr.drewN nq)) := hb.out.trans (drewN_g wr nq)
      have hO2 : Hid ((wr.drewN nq).ownsRow (w.heap.size + 1) 3 1 (.slice (some ld) L.length c7) (rowF L ((tb d.nx q).take 0)).length (zvs (rowF L ((tb d.nx q).take 0)))) := hO.out.below hdr
      clear z0 z1 z2 z3 hb hO hi hcell hcX hlc hbk hN hi7 hI hdr hSt hbw
      generalize wr.drewN nq = wi at *
      generalize tb d.nx q = row at *
      go_wp2
      go_loopw [3, 6] (fun lv jv wr => ∃ (j : Nat) (v : Value), v = lv ∧ j ≤ row.length ∧ jv = .int .i64 j ∧ Hid (wr.ownsRow (w.heap.size + 1) 3 1 v (rowF L (row.take j)).length (zvs (rowF L (row.take j)))) ∧ Hid (Below (w.heap.size + 1) w0 wr)) (fun _ jv _ => row.length - (intOf jv).toNat)
      case atStart => exact ⟨0, _, rfl, Nat.zero_le _, rfl, hO2, hb2⟩
      case round =>
        clear hO2 hb2
        obtain ⟨j, v, rfl, hj, rfl, hO, hb⟩ := hrel
        by_cases hjt : j < row.length
        · have hbw : Below w.heap.size w wr := hb00.trans (hb.out.mono (Nat.le_succ _))
          obtain ⟨pd, rfl, hce⟩ := Vals.at_ (HI.out wr hbw) hjt
          have hjt2 : (j : Int) < (row.length : Int) := by omega
          obtain ⟨A8, c8, rfl, _⟩ := Ap.own_form hO.out
          have hi8 : Ints wr A8 (rowF L (row.take j)) := Dg.ints_row hO.out rfl
          have hL8 := HLen.out j
          have hTk := HTk.out j hjt
          have hszr := hb.out.size
          generalize rowF L (row.take j) = L8 at *
          generalize hL9 : rowF L (row.take (j + 1)) = L9 at *
          have HL9 := Lib.hid hL9
          clear hL9
          generalize nd row j = t at *
          have HH := Lib.hid (HasInt7_any A8 L8 c8 t wr hi8 (by omega))
          by_cases hm : t ∈ L8
          · have HT : Hid (L9 = L8) := by show _ = _; rw [hTk]; unfold add; rw [if_pos hm]
            rw [decide_eq_true hm] at HH
            clear hm hTk hi8
            go_wp2_with (go_at_call 74; ((with_reducible refine HH.out.mono ?_); rintro r w2 ⟨rfl, rfl⟩))
            go_roundw
            case rel => exact ⟨j + 1, _, rfl, by omega, by go_num, by rw [HL9.out, HT.out]; exact hO, hb⟩
            case measure => simp [intOf]; omega
          · have HT : Hid (L9 = L8 ++ [t]) := by show _ = _; rw [hTk]; unfold add; rw [if_neg hm]
            rw [decide_eq_false hm] at HH
            clear hm hTk hi8
            go_wp2_with (first
              | (go_at_call 74; ((with_reducible refine HH.out.mono ?_); rintro r w2 ⟨rfl, rfl⟩))
              | (at_builtin; refine wpList_append_own_at _ rfl _ _ 33 rfl (w.heap.size + 1) 3 i0 (.int .i64 0) 1 8 Tryd.underlying33 hi0 hz0 hz1 hz2 rfl (by decide) _ L8.length _ rfl (hO.out.alloc _) ⟨wr.heap.size, 0, none⟩ 1 1 [.int .i64 t] rfl rfl (cell_one_new _ _ _) (by simp [Value.oneCell']) (by unfold maxLen; omega) (by omega) (by simp; omega) ?_; intro v' w6 hown' hgrow _ hb6; have HO6 := Lib.hid hown'; have HB6 := Lib.hid ((hb.out.alloc (by omega) (.cells #[.int .i64 t] 3)).grown hgrow (by simp; omega) (fun q hq => (own_lt hO.out hq).1)); clear hown' hgrow hb6))
            go_roundw
            case rel => exact ⟨j + 1, _, rfl, by omega, by go_num, by rw [HL9.out, HT.out, List.length_append, zvs_snoc7]; exact HO6.out, HB6.out⟩
            case measure => simp [intOf]; omega
        · obtain rfl : j = row.length := by omega
          clear HI HTk HLen
          go_wp2
          go_roundw
          case rel => exact ⟨k + 1, v, _, rfl, hkl.out, by go_num, HSt, hO, hb⟩
          case measure => simp [intOf]; omega
    · have hLe : L = F := hI.out.done (by omega)
      obtain ⟨A7, c7, rfl, _⟩ := Ap.own_form hO.out
      have hR := Lib.hid (Dg.ints_row (l := L) hO.out rfl)
      have HL := Lib.hid hLe
      have hbb := Lib.hid hbw
      have hkL : k = L.length := by omega
      subst hkL
      clear hLe hI hb hO hpre hLF
      go_wp2
      go_ret
      refine ⟨A7, c7, ret_sl (by rw [HL.out]), ?_, hbb.out⟩
      rw [← HL.out]; exact hR.out
end
end Go.Proofs.YtkgeihambgbjdaaDoor.Sb
