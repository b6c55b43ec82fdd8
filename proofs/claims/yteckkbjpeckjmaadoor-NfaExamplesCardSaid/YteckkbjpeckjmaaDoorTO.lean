/- Trim's numbering; the lists and the automaton that renumbered makes by it (package nfa). -/
import Derived.Test.YteckkbjpeckjmaaDoorTN
import Derived.Test.YteckkbjpeckjmaaDoorFM
import Derived.Laws.EntriesVeiled
import Derived.Deep.DeepCutAuto
namespace Go.Proofs.YteckkbjpeckjmaaDoor.Nf
open Go Go.RowKit Go.Proofs.YteckkbjpeckjmaaDoor Go.Proofs.YteckkbjpeckjmaaDoor.Cb
set_option linter.unusedVariables false
set_option linter.unusedSimpArgs false
set_option maxRecDepth 100000
theorem nd_in' {l : List Int} {k : Nat} (h : k < l.length) : nd l k ∈ l := by
  unfold nd
  rw [List.getD_eq_getElem?_getD, List.getElem?_eq_getElem h]
  exact List.getElem_mem h
theorem zvs_app (l m : List Int) : zvs (l ++ m) = zvs l ++ zvs m := by simp [zvs]
theorem trim1_any (s : Int) (ba cu : Nat) (Au : Option Addr) (us : List Int) (X : World) (hS : X.cell? ⟨ba, 0, none⟩ = some (.slice Au us.length cu)) (hu : Ints X Au us) (hp : us.Pairwise (· < ·)) (hl : us.length ≤ 1000) :
    Calls Tryd.prog 39 #[.int .i64 s, .pointer (some ⟨ba, 0, none⟩)] X fun e w' => ∃ k : Int, e = .returned (.tuple #[.int .i64 k, .bool (decide (s ∈ us))]) ∧ (s ∈ us → k = tp us s) ∧ X = w' := by
  have HB := Lib.hid (BinarySearch_any Au us cu s X hu hp hl)
  generalize decide (s ∈ us) = b at *
  clear hu hp
  generalize us.length = n at *
  go_enter Tryd.func39, Tryd.ntmps39
  go_wp2_with (go_at_call 40; ((with_reducible refine HB.out.mono ?_); rintro e w2 ⟨k, rfl, hk, rfl⟩); have HK := Lib.hid hk; clear hk)
  go_ret2
  exact ⟨k, rfl, HK.out, rfl⟩
theorem renL_in {us l : List Int} {k : Nat} (hk : k < l.length) (h : nd l k ∈ us) : renL us (l.take (k + 1)) = renL us (l.take k) ++ [tp us (nd l k)] := by
  rw [nd_get hk] at h
  unfold renL
  rw [List.take_succ_eq_append_getElem hk, List.filter_append, List.map_append, nd_get hk]
  simp [h]
theorem renL_out {us l : List Int} {k : Nat} (hk : k < l.length) (h : ¬ nd l k ∈ us) : renL us (l.take (k + 1)) = renL us (l.take k) := by
  rw [nd_get hk] at h
  unfold renL
  rw [List.take_succ_eq_append_getElem hk, List.filter_append, List.map_append]
  simp [h]
theorem renL_len (us l : List Int) : (renL us l).length ≤ l.length := by
  unfold renL
  rw [List.length_map]
  exact List.length_filter_le _ _
def esU (us : List Int) (l : List Ed) (k : Nat) : List Ed := ((l.take k).filter (inU us)).map (reN us)
theorem esU_in {us : List Int} {l : List Ed} {k : Nat} (hk : k < l.length) (h : inU us (ed l k) = true) : esU us l (k + 1) = esU us l k ++ [reN us (ed l k)] := by
  have hx : ed l k = l[k] := by unfold ed; rw [List.getD_eq_getElem?_getD, List.getElem?_eq_getElem hk]; rfl
  rw [hx] at h ⊢
  unfold esU
  rw [List.take_succ_eq_append_getElem hk, List.filter_append, List.map_append]
  simp [h]
theorem esU_out {us : List Int} {l : List Ed} {k : Nat} (hk : k < l.length) (h : inU us (ed l k) = false) : esU us l (k + 1) = esU us l k := by
  have hx : ed l k = l[k] := by unfold ed; rw [List.getD_eq_getElem?_getD, List.getElem?_eq_getElem hk]; rfl
  rw [hx] at h
  unfold esU
  rw [List.take_succ_eq_append_getElem hk, List.filter_append, List.map_append]
  simp [h]
theorem esU_len (us : List Int) (l : List Ed) (k : Nat) : (esU us l k).length ≤ l.length := by
  unfold esU
  rw [List.length_map]
  exact Nat.le_trans (List.length_filter_le _ _) (by rw [List.length_take]; omega)
set_option maxHeartbeats 4000000 in
theorem list7_any (A : Option Addr) (l : List Int) (c : Nat) (us : List Int) (Au : Option Addr) (cu : Nat) (ba bf : Nat) (w : World) (hx : Ints w A l) (hl : l.length ≤ 1000000) (hu : Ints w Au us) (hp : us.Pairwise (· < ·)) (hul : us.length ≤ 1000)
    (hba : ba < w.heap.size) (hbf : bf < w.heap.size) (hS : w.cell? ⟨ba, 0, none⟩ = some (.slice Au us.length cu)) (hf : w.cell? ⟨bf, 0, none⟩ = some (.func (.func 39) #[] #[.pointer (some ⟨ba, 0, none⟩)])) :
    Calls Tryd.prog 80 #[.slice A l.length c, .pointer (some ⟨bf, 0, none⟩)] w fun e w' => ∃ A' c', e = .returned (.slice A' (renL us l).length c') ∧ w'.ownsRow w.heap.size 3 1 (.slice A' (renL us l).length c') (renL us l).length (zvs (renL us l)) ∧ Below w.heap.size w w' := by
  obtain ⟨i0, hi0, hz0, hz1, hz2⟩ := info_parts info_int6
  have HU := Lib.hid fun z X (hX : Below w.heap.size w X) => trim1_any z ba cu Au us X ((hX.cell (p := ⟨ba, 0, none⟩) hba).trans hS) (hu.below hX) hp hul
  have HF := Lib.hid fun X (hX : Below w.heap.size w X) => (hX.cell (p := ⟨bf, 0, none⟩) hbf).trans hf
  have HI : Hid (∀ k, k < l.length → nd l k ∈ us → renL us (l.take (k + 1)) = renL us (l.take k) ++ [tp us (nd l k)]) := fun k hk h => renL_in hk h
  have HO : Hid (∀ k, k < l.length → ¬ nd l k ∈ us → renL us (l.take (k + 1)) = renL us (l.take k)) := fun k hk h => renL_out hk h
  have HLn : Hid (∀ k, (renL us (l.take k)).length ≤ 1000000) := fun k => by
    have := renL_len us (l.take k)
    rw [List.length_take] at this
    omega
  have HE : Hid (renL us (l.take l.length) = renL us l) := by show _ = _; rw [List.take_length]
  clear hu hp hS hf hba hbf
  go_enter Tryd.func80, Tryd.ntmps80
  go_wp2
  go_loopw [4, 6, 7, 8, 11] (fun nv _ _ _ iv wr => ∃ (k q : Nat) (v : Value) (R : List Int), k ≤ l.length ∧ v = nv ∧ iv = .int .i64 k ∧ Hid (R = renL us (l.take k)) ∧ Hid (q = R.length) ∧ Hid (wr.ownsRow w.heap.size 3 1 v q (zvs R)) ∧ Hid (Below w.heap.size w wr)) (fun _ _ _ _ i _ => l.length - (intOf i).toNat)
  case atStart => exact ⟨0, 0, _, [], Nat.zero_le _, rfl, rfl, rfl, rfl, ⟨rfl, .inl ⟨rfl, rfl⟩⟩, Below.refl _ _⟩
  case round =>
    obtain ⟨k, q, v, R, hk, rfl, rfl, hR, hq, hO, hb⟩ := hrel
    by_cases hkl : k < l.length
    · obtain ⟨ad, rfl, hcell⟩ := (hx.below hb.out).at_ hkl
      have hfc := HF.out _ hb.out
      have hU := HU.out (nd l k) _ hb.out
      have hI := HI.out k hkl
      have hOu := HO.out k hkl
      have ho := hO.out
      have hbw := hb.out
      have hq6 : q ≤ 1000000 := by rw [hq.out, hR.out]; exact HLn.out k
      by_cases hin : nd l k ∈ us
      · rw [decide_eq_true hin] at hU
        have hI2 := Lib.hid (hI hin)
        have hin2 := Lib.hid hin
        have hU2 := Lib.hid hU
        clear hin hU hI hOu
        generalize hzz : nd l k = z at *
        clear hzz
        go_wp2_with (first
          | (go_at_call 39; ((with_reducible refine hU2.out.mono ?_); rintro e w2 ⟨kk, rfl, hkk, rfl⟩); have hkz := hkk hin2.out; subst hkz; clear hkk)
          | (at_builtin; refine wpList_append_own _ rfl _ _ 23 rfl w.heap.size 3 i0 (.int .i64 0) 1 8 Tryd.underlying23 hi0 hz0 hz1 hz2 rfl (by decide) _ _ _ rfl (ho.alloc _) ⟨wr.heap.size, 0, none⟩ 1 1 [.int .i64 (tp us z)] rfl rfl (cell_one_new _ _ _) (by simp [Value.oneCell']) (by unfold maxLen; omega) (by omega) (by have := hbw.size; simp; omega) ?_; intro v6 w6 ho6 hg6 _; have HO6 := Lib.hid ho6; have HB6 := Lib.hid ((hbw.alloc hbw.size _).grown hg6 (by have := hbw.size; simp; omega) (fun q hq => (ho.lt q hq).1)); clear ho6 hg6))
        go_roundw
        case rel => exact ⟨k + 1, q + 1, _, R ++ [tp us z], by omega, rfl, by go_num, by show _ = _; rw [hI2.out, hR.out], by show _ = _; rw [List.length_append, hq.out]; rfl, by rw [zvs_app]; exact HO6.out, HB6.out⟩
        case measure => simp [intOf]; omega
      · rw [decide_eq_false hin] at hU
        have hI2 := Lib.hid (hOu hin)
        have hU2 := Lib.hid hU
        clear hin hU hI hOu
        generalize hzz : nd l k = z at *
        clear hzz
        go_wp2_with (go_at_call 39; ((with_reducible refine hU2.out.mono ?_); rintro e w2 ⟨kk, rfl, hkk, rfl⟩); clear hkk)
        go_roundw
        case rel => exact ⟨k + 1, q, _, R, by omega, rfl, by go_num, by show _ = _; rw [hI2.out, hR.out], hq, hO.out, hb.out⟩
        case measure => simp [intOf]; omega
    · obtain rfl : k = l.length := by omega
      have hR2 := hR.out
      rw [HE.out] at hR2
      have hO2 := hO.out
      rw [hq.out, hR2] at hO2
      obtain ⟨A', c', rfl, _⟩ := Ap.own_form hO2
      have HF2 := Lib.hid hO2
      clear hO2 hR2 hO hR hq
      go_wp2
      go_ret
      exact ⟨A', c', rfl, HF2.out, hb.out⟩
/-- Behind the first statement of renumbered. -/
structure RenP2 (w : World) (n : Na) (A B C : Option Addr) (a b c : Nat) (T : Int) (ba b3 : Nat) (A1 B1 : Option Addr) (a1 b1 : Nat) (L1 L2 : List Int) (Y : World) : Prop where
  bel : Below w.heap.size w Y
  nb : Blk Y w.heap.size (.int .i64 n.V) (.int .i64 n.S) (.slice A n.st.length a) (.slice B n.fi.length b) (.slice C n.es.length c)
  fb : Boxed Y (w.heap.size + 1) 76 (.func (.func 39) #[] #[.pointer (some ⟨ba, 0, none⟩)])
  rb : Blk Y (w.heap.size + 2) (.int .i64 0) (.int .i64 0) (.slice none 0 0) (.slice none 0 0) (.slice none 0 0)
  r8 : Blk Y b3 (.int .i64 n.V) (.int .i64 T) (.slice A1 L1.length a1) (.slice B1 L2.length b1) (.slice none 0 0)
  lt3 : w.heap.size + 2 < b3
  o1 : Y.ownsRow w.heap.size 3 1 (.slice A1 L1.length a1) L1.length (zvs L1)
  o2 : Y.ownsRow w.heap.size 3 1 (.slice B1 L2.length b1) L2.length (zvs L2)
/-- The first k edges are renumbered. -/
structure RenQ2 (w : World) (n : Na) (A B C : Option Addr) (a b c : Nat) (T : Int) (ba b3 : Nat) (A1 B1 : Option Addr) (a1 b1 : Nat) (L1 L2 : List Int) (C1 : Option Addr) (c1 : Nat) (LE : List Ed) (Y : World) : Prop where
  bel : Below w.heap.size w Y
  nb : Blk Y w.heap.size (.int .i64 n.V) (.int .i64 n.S) (.slice A n.st.length a) (.slice B n.fi.length b) (.slice C n.es.length c)
  fb : Boxed Y (w.heap.size + 1) 76 (.func (.func 39) #[] #[.pointer (some ⟨ba, 0, none⟩)])
  rb : Blk Y (w.heap.size + 2) (.int .i64 0) (.int .i64 0) (.slice none 0 0) (.slice none 0 0) (.slice none 0 0)
  r8 : Blk Y b3 (.int .i64 n.V) (.int .i64 T) (.slice A1 L1.length a1) (.slice B1 L2.length b1) (.slice C1 LE.length c1)
  lt3 : w.heap.size + 2 < b3
  o1 : Y.ownsRow w.heap.size 3 1 (.slice A1 L1.length a1) L1.length (zvs L1)
  o2 : Y.ownsRow w.heap.size 3 1 (.slice B1 L2.length b1) L2.length (zvs L2)
  o3 : Y.ownsRow w.heap.size 30 4 (.slice C1 LE.length c1) LE.length (evs LE)
theorem RenP2.start {w : World} {n : Na} {A B C : Option Addr} {a b c : Nat} {T : Int} {ba b3 : Nat} {A1 B1 : Option Addr} {a1 b1 : Nat} {L1 L2 : List Int} {Y : World} (h : RenP2 w n A B C a b c T ba b3 A1 B1 a1 b1 L1 L2 Y) : RenQ2 w n A B C a b c T ba b3 A1 B1 a1 b1 L1 L2 none 0 [] Y :=
  ⟨h.bel, h.nb, h.fb, h.rb, h.r8, h.lt3, h.o1, h.o2, ⟨rfl, .inl ⟨rfl, rfl⟩⟩⟩
theorem row_ne7 {w : World} {B B' e e' size size' n n' : Nat} {v v' : Value} {xs xs' : List Value} (h : w.ownsRow B e size v n xs) (h' : w.ownsRow B' e' size' v' n' xs') (he : e ≠ e') : v.ownBlock = none ∨ v.ownBlock ≠ v'.ownBlock := by
  rcases h.2 with ⟨rfl, _⟩ | ⟨g, cap, cur, rfl, _, hg, _⟩
  · exact .inl rfl
  · right
    intro hv
    rcases h'.2 with ⟨rfl, _⟩ | ⟨g', cap', cur', rfl, _, hg', _⟩
    · simp [Value.ownBlock] at hv
    · obtain rfl : g = g' := by simpa [Value.ownBlock] using hv
      rw [hg] at hg'
      cases hg'
      exact he rfl
theorem RenQ2.below {w : World} {n : Na} {A B C : Option Addr} {a b c : Nat} {T : Int} {ba b3 : Nat} {A1 B1 : Option Addr} {a1 b1 : Nat} {L1 L2 : List Int} {C1 : Option Addr} {c1 : Nat} {LE : List Ed} {Y Z : World} (h : RenQ2 w n A B C a b c T ba b3 A1 B1 a1 b1 L1 L2 C1 c1 LE Y) (hb : Below Y.heap.size Y Z) : RenQ2 w n A B C a b c T ba b3 A1 B1 a1 b1 L1 L2 C1 c1 LE Z :=
  ⟨stepB h.bel hb, h.nb.below hb, h.fb.below hb, h.rb.below hb, h.r8.below hb, h.lt3, h.o1.below hb, h.o2.below hb, h.o3.below hb⟩
theorem RenQ2.more {w : World} {n : Na} {A B C : Option Addr} {a b c : Nat} {T : Int} {ba b3 : Nat} {A1 B1 : Option Addr} {a1 b1 : Nat} {L1 L2 : List Int} {C1 C2 : Option Addr} {c1 c2 : Nat} {LE : List Ed} {x : Ed} {Y Z : World} (h : RenQ2 w n A B C a b c T ba b3 A1 B1 a1 b1 L1 L2 C1 c1 LE Y)
    (hg : Y.grownBy Z (Value.slice C1 LE.length c1).ownBlock) (ho : Z.ownsRow w.heap.size 30 4 (.slice C2 (LE.length + 1) c2) (LE.length + 1) (evs LE ++ ev x)) :
    Blk Z b3 (.int .i64 n.V) (.int .i64 T) (.slice A1 L1.length a1) (.slice B1 L2.length b1) (.slice C1 LE.length c1) ∧ RenQ2 w n A B C a b c T ba b3 A1 B1 a1 b1 L1 L2 C2 c2 (LE ++ [x]) (Z.setCell ⟨b3, 4, none⟩ (.slice C2 (LE.length + 1) c2)) := by
  have hb : ∀ {g : Nat} {u0 u1 u2 u3 u4 : Value}, Blk Y g u0 u1 u2 u3 u4 → Blk Z g u0 u1 u2 u3 u4 := fun {g u0 u1 u2 u3 u4} hB => (hg.block g hB.lt (fun e => hB.ne_row h.o3 (by decide) e.symm)).trans hB
  have hB3 := hb h.r8
  have hne : ∀ g, g ≠ b3 → (Z.setCell ⟨b3, 4, none⟩ (.slice C2 (LE.length + 1) c2)).heap[g]? = Z.heap[g]? := fun g hgb => Below.heap_setCell _ _ _ g hgb
  have hlt := h.lt3
  have hbel : Below w.heap.size w Z := h.bel.grown hg h.bel.size (fun q hq => (h.o3.lt q hq).1)
  refine ⟨hB3, hbel.setCell (p := ⟨b3, 4, none⟩) (by show w.heap.size ≤ b3; omega) _, (hne _ (by omega)).trans (hb h.nb), ?_, (hne _ (by omega)).trans (hb h.rb), by rw [List.length_append]; exact hB3.set4 _, h.lt3, ?_, ?_, ?_⟩
  · refine (hne _ (by omega)).trans ((hg.block _ h.fb.lt (fun e => ?_)).trans h.fb)
    rcases h.o3.2 with ⟨h0, _⟩ | ⟨g, cap, cur, hv, _, hgc, _⟩
    · rw [h0] at e
      simp [Value.ownBlock] at e
    · rw [hv] at e
      obtain rfl : w.heap.size + 1 = g := by simpa [Value.ownBlock] using e
      have := h.fb
      unfold Boxed at this
      rw [hgc] at this
      cases this
  · exact row_set (h.o1.kept hg (row_ne7 h.o1 h.o3 (by decide))) (hB3.ne_row (h.o1.kept hg (row_ne7 h.o1 h.o3 (by decide))) (by decide)) 4 _
  · exact row_set (h.o2.kept hg (row_ne7 h.o2 h.o3 (by decide))) (hB3.ne_row (h.o2.kept hg (row_ne7 h.o2 h.o3 (by decide))) (by decide)) 4 _
  · show (Z.setCell ⟨b3, 4, none⟩ (.slice C2 (LE.length + 1) c2)).ownsRow w.heap.size 30 4 (.slice C2 (LE ++ [x]).length c2) (LE ++ [x]).length (evs (LE ++ [x]))
    rw [evs_snoc, List.length_append]
    exact row_set ho (hB3.ne_row ho (by decide)) 4 _
set_option maxHeartbeats 8000000 in
theorem renumbered7_any (n : Na) (A B C : Option Addr) (a b c : Nat) (us : List Int) (Au : Option Addr) (cu : Nat) (T : Int) (ba : Nat) (w : World) (hx : NaAt w n A B C) (hl : NaLen n) (hO : Ok n) (hu : Ints w Au us) (hp : us.Pairwise (· < ·)) (hul : us.length ≤ 1000) (hba : ba < w.heap.size) (hS : w.cell? ⟨ba, 0, none⟩ = some (.slice Au us.length cu)) :
    Calls Tryd.prog 41 #[.agg #[.int .i64 n.V, .int .i64 n.S, .slice A n.st.length a, .slice B n.fi.length b, .slice C n.es.length c], .int .i64 T, .func (.func 39) #[] #[.pointer (some ⟨ba, 0, none⟩)]] w fun e w' =>
      ∃ A' B' C' a' b' c', e = .returned (.agg #[.int .i64 n.V, .int .i64 T, .slice A' (renL us n.st).length a', .slice B' (renL us n.fi).length b', .slice C' (esU us n.es n.es.length).length c']) ∧ Below w.heap.size w w' ∧
        w'.ownsRow w.heap.size 3 1 (.slice A' (renL us n.st).length a') (renL us n.st).length (zvs (renL us n.st)) ∧ w'.ownsRow w.heap.size 3 1 (.slice B' (renL us n.fi).length b') (renL us n.fi).length (zvs (renL us n.fi)) ∧ w'.ownsRow w.heap.size 30 4 (.slice C' (esU us n.es n.es.length).length c') (esU us n.es n.es.length).length (evs (esU us n.es n.es.length)) := by
  have hba0 := hba
  have hB0 := bal (bal (bal (Below.refl w.heap.size w) (.cells #[.int .i64 n.V, .int .i64 n.S, .slice A n.st.length a, .slice B n.fi.length b, .slice C n.es.length c] 26)) (.cells #[.func (.func 39) #[] #[.pointer (some ⟨ba, 0, none⟩)]] 76)) (.cells #[.int .i64 0, .int .i64 0, .slice none 0 0, .slice none 0 0, .slice none 0 0] 26)
  have hN0 := ((Blk.new w (.int .i64 n.V) (.int .i64 n.S) (.slice A n.st.length a) (.slice B n.fi.length b) (.slice C n.es.length c)).below (bal (Below.refl _ _) (.cells #[.func (.func 39) #[] #[.pointer (some ⟨ba, 0, none⟩)]] 76))).below (bal (Below.refl _ _) (.cells #[.int .i64 0, .int .i64 0, .slice none 0 0, .slice none 0 0, .slice none 0 0] 26))
  have hF0 := (Boxed.new (w.alloc (.cells #[.int .i64 n.V, .int .i64 n.S, .slice A n.st.length a, .slice B n.fi.length b, .slice C n.es.length c] 26)) 76 (.func (.func 39) #[] #[.pointer (some ⟨ba, 0, none⟩)])).below (bal (Below.refl _ _) (.cells #[.int .i64 0, .int .i64 0, .slice none 0 0, .slice none 0 0, .slice none 0 0] 26))
  have hR0 := Blk.new ((w.alloc (.cells #[.int .i64 n.V, .int .i64 n.S, .slice A n.st.length a, .slice B n.fi.length b, .slice C n.es.length c] 26)).alloc (.cells #[.func (.func 39) #[] #[.pointer (some ⟨ba, 0, none⟩)]] 76)) (.int .i64 0) (.int .i64 0) (.slice none 0 0) (.slice none 0 0) (.slice none 0 0)
  simp only [World.size_alloc] at hF0 hR0
  have hsz : (((w.alloc (.cells #[.int .i64 n.V, .int .i64 n.S, .slice A n.st.length a, .slice B n.fi.length b, .slice C n.es.length c] 26)).alloc (.cells #[.func (.func 39) #[] #[.pointer (some ⟨ba, 0, none⟩)]] 76)).alloc (.cells #[.int .i64 0, .int .i64 0, .slice none 0 0, .slice none 0 0, .slice none 0 0] 26)).heap.size = w.heap.size + 1 + 1 + 1 := by simp
  have H1 := Lib.hid fun X (hX : Below w.heap.size w X) hf => list7_any A n.st a us Au cu ba (w.heap.size + 1) X (hx.st.below hX) hl.st (hu.below hX) hp hul (Nat.lt_of_lt_of_le hba hX.size) (World.block_lt_of_cell? X _ hf) ((hX.cell (p := ⟨ba, 0, none⟩) hba).trans hS) hf
  have H2 := Lib.hid fun X (hX : Below w.heap.size w X) hf => list7_any B n.fi b us Au cu ba (w.heap.size + 1) X (hx.fi.below hX) hl.fi (hu.below hX) hp hul (Nat.lt_of_lt_of_le hba hX.size) (World.block_lt_of_cell? X _ hf) ((hX.cell (p := ⟨ba, 0, none⟩) hba).trans hS) hf
  have hba0 := hba
  have hB0 := bal (bal (bal (Below.refl w.heap.size w) (.cells #[.int .i64 n.V, .int .i64 n.S, .slice A n.st.length a, .slice B n.fi.length b, .slice C n.es.length c] 26)) (.cells #[.func (.func 39) #[] #[.pointer (some ⟨ba, 0, none⟩)]] 76)) (.cells #[.int .i64 0, .int .i64 0, .slice none 0 0, .slice none 0 0, .slice none 0 0] 26)
  have hN0 := ((Blk.new w (.int .i64 n.V) (.int .i64 n.S) (.slice A n.st.length a) (.slice B n.fi.length b) (.slice C n.es.length c)).below (bal (Below.refl _ _) (.cells #[.func (.func 39) #[] #[.pointer (some ⟨ba, 0, none⟩)]] 76))).below (bal (Below.refl _ _) (.cells #[.int .i64 0, .int .i64 0, .slice none 0 0, .slice none 0 0, .slice none 0 0] 26))
  have hF0 := (Boxed.new (w.alloc (.cells #[.int .i64 n.V, .int .i64 n.S, .slice A n.st.length a, .slice B n.fi.length b, .slice C n.es.length c] 26)) 76 (.func (.func 39) #[] #[.pointer (some ⟨ba, 0, none⟩)])).below (bal (Below.refl _ _) (.cells #[.int .i64 0, .int .i64 0, .slice none 0 0, .slice none 0 0, .slice none 0 0] 26))
  have hR0 := Blk.new ((w.alloc (.cells #[.int .i64 n.V, .int .i64 n.S, .slice A n.st.length a, .slice B n.fi.length b, .slice C n.es.length c] 26)).alloc (.cells #[.func (.func 39) #[] #[.pointer (some ⟨ba, 0, none⟩)]] 76)) (.int .i64 0) (.int .i64 0) (.slice none 0 0) (.slice none 0 0) (.slice none 0 0)
  simp only [World.size_alloc] at hF0 hR0
  have hsz : (((w.alloc (.cells #[.int .i64 n.V, .int .i64 n.S, .slice A n.st.length a, .slice B n.fi.length b, .slice C n.es.length c] 26)).alloc (.cells #[.func (.func 39) #[] #[.pointer (some ⟨ba, 0, none⟩)]] 76)).alloc (.cells #[.int .i64 0, .int .i64 0, .slice none 0 0, .slice none 0 0, .slice none 0 0] 26)).heap.size = w.heap.size + 1 + 1 + 1 := by simp
  have H1 := Lib.hid fun X (hX : Below w.heap.size w X) hf => list7_any A n.st a us Au cu ba (w.heap.size + 1) X (hx.st.below hX) hl.st (hu.below hX) hp hul (Nat.lt_of_lt_of_le hba hX.size) (World.block_lt_of_cell? X _ hf) ((hX.cell (p := ⟨ba, 0, none⟩) hba).trans hS) hf
  have H2 := Lib.hid fun X (hX : Below w.heap.size w X) hf => list7_any B n.fi b us Au cu ba (w.heap.size + 1) X (hx.fi.below hX) hl.fi (hu.below hX) hp hul (Nat.lt_of_lt_of_le hba hX.size) (World.block_lt_of_cell? X _ hf) ((hX.cell (p := ⟨ba, 0, none⟩) hba).trans hS) hf
  have hba0 := hba
  have hB0 := bal (bal (bal (Below.refl w.heap.size w) (.cells #[.int .i64 n.V, .int .i64 n.S, .slice A n.st.length a, .slice B n.fi.length b, .slice C n.es.length c] 26)) (.cells #[.func (.func 39) #[] #[.pointer (some ⟨ba, 0, none⟩)]] 76)) (.cells #[.int .i64 0, .int .i64 0, .slice none 0 0, .slice none 0 0, .slice none 0 0] 26)
  have hN0 := ((Blk.new w (.int .i64 n.V) (.int .i64 n.S) (.slice A n.st.length a) (.slice B n.fi.length b) (.slice C n.es.length c)).below (bal (Below.refl _ _) (.cells #[.func (.func 39) #[] #[.pointer (some ⟨ba, 0, none⟩)]] 76))).below (bal (Below.refl _ _) (.cells #[.int .i64 0, .int .i64 0, .slice none 0 0, .slice none 0 0, .slice none 0 0] 26))
  have hF0 := (Boxed.new (w.alloc (.cells #[.int .i64 n.V, .int .i64 n.S, .slice A n.st.length a, .slice B n.fi.length b, .slice C n.es.length c] 26)) 76 (.func (.func 39) #[] #[.pointer (some ⟨ba, 0, none⟩)])).below (bal (Below.refl _ _) (.cells #[.int .i64 0, .int .i64 0, .slice none 0 0, .slice none 0 0, .slice none 0 0] 26))
  have hR0 := Blk.new ((w.alloc (.cells #[.int .i64 n.V, .int .i64 n.S, .slice A n.st.length a, .slice B n.fi.length b, .slice C n.es.length c] 26)).alloc (.cells #[.func (.func 39) #[] #[.pointer (some ⟨ba, 0, none⟩)]] 76)) (.int .i64 0) (.int .i64 0) (.slice none 0 0) (.slice none 0 0) (.slice none 0 0)
  simp only [World.size_alloc] at hF0 hR0
  have hsz : (((w.alloc (.cells #[.int .i64 n.V, .int .i64 n.S, .slice A n.st.length a, .slice B n.fi.length b, .slice C n.es.length c] 26)).alloc (.cells #[.func (.func 39) #[] #[.pointer (some ⟨ba, 0, none⟩)]] 76)).alloc (.cells #[.int .i64 0, .int .i64 0, .slice none 0 0, .slice none 0 0, .slice none 0 0] 26)).heap.size = w.heap.size + 1 + 1 + 1 := by simp
  have H1 := Lib.hid fun X (hX : Below w.heap.size w X) hf => list7_any A n.st a us Au cu ba (w.heap.size + 1) X (hx.st.below hX) hl.st (hu.below hX) hp hul (Nat.lt_of_lt_of_le hba hX.size) (World.block_lt_of_cell? X _ hf) ((hX.cell (p := ⟨ba, 0, none⟩) hba).trans hS) hf
  have H2 := Lib.hid fun X (hX : Below w.heap.size w X) hf => list7_any B n.fi b us Au cu ba (w.heap.size + 1) X (hx.fi.below hX) hl.fi (hu.below hX) hp hul (Nat.lt_of_lt_of_le hba hX.size) (World.block_lt_of_cell? X _ hf) ((hX.cell (p := ⟨ba, 0, none⟩) hba).trans hS) hf
  have hba0 := hba
  have hB0 := bal (bal (bal (Below.refl w.heap.size w) (.cells #[.int .i64 n.V, .int .i64 n.S, .slice A n.st.length a, .slice B n.fi.length b, .slice C n.es.length c] 26)) (.cells #[.func (.func 39) #[] #[.pointer (some ⟨ba, 0, none⟩)]] 76)) (.cells #[.int .i64 0, .int .i64 0, .slice none 0 0, .slice none 0 0, .slice none 0 0] 26)
  have hN0 := ((Blk.new w (.int .i64 n.V) (.int .i64 n.S) (.slice A n.st.length a) (.slice B n.fi.length b) (.slice C n.es.length c)).below (bal (Below.refl _ _) (.cells #[.func (.func 39) #[] #[.pointer (some ⟨ba, 0, none⟩)]] 76))).below (bal (Below.refl _ _) (.cells #[.int .i64 0, .int .i64 0, .slice none 0 0, .slice none 0 0, .slice none 0 0] 26))
  have hF0 := (Boxed.new (w.alloc (.cells #[.int .i64 n.V, .int .i64 n.S, .slice A n.st.length a, .slice B n.fi.length b, .slice C n.es.length c] 26)) 76 (.func (.func 39) #[] #[.pointer (some ⟨ba, 0, none⟩)])).below (bal (Below.refl _ _) (.cells #[.int .i64 0, .int .i64 0, .slice none 0 0, .slice none 0 0, .slice none 0 0] 26))
  have hR0 := Blk.new ((w.alloc (.cells #[.int .i64 n.V, .int .i64 n.S, .slice A n.st.length a, .slice B n.fi.length b, .slice C n.es.length c] 26)).alloc (.cells #[.func (.func 39) #[] #[.pointer (some ⟨ba, 0, none⟩)]] 76)) (.int .i64 0) (.int .i64 0) (.slice none 0 0) (.slice none 0 0) (.slice none 0 0)
  simp only [World.size_alloc] at hF0 hR0
  have hsz : (((w.alloc (.cells #[.int .i64 n.V, .int .i64 n.S, .slice A n.st.length a, .slice B n.fi.length b, .slice C n.es.length c] 26)).alloc (.cells #[.func (.func 39) #[] #[.pointer (some ⟨ba, 0, none⟩)]] 76)).alloc (.cells #[.int .i64 0, .int .i64 0, .slice none 0 0, .slice none 0 0, .slice none 0 0] 26)).heap.size = w.heap.size + 1 + 1 + 1 := by simp
  have H1 := Lib.hid fun X (hX : Below w.heap.size w X) hf => list7_any A n.st a us Au cu ba (w.heap.size + 1) X (hx.st.below hX) hl.st (hu.below hX) hp hul (Nat.lt_of_lt_of_le hba hX.size) (World.block_lt_of_cell? X _ hf) ((hX.cell (p := ⟨ba, 0, none⟩) hba).trans hS) hf
  have H2 := Lib.hid fun X (hX : Below w.heap.size w X) hf => list7_any B n.fi b us Au cu ba (w.heap.size + 1) X (hx.fi.below hX) hl.fi (hu.below hX) hp hul (Nat.lt_of_lt_of_le hba hX.size) (World.block_lt_of_cell? X _ hf) ((hX.cell (p := ⟨ba, 0, none⟩) hba).trans hS) hf
  go_enter Tryd.func41, Tryd.ntmps41
  go_upto_region 2 with fail
  generalize (((w.alloc (.cells #[.int .i64 n.V, .int .i64 n.S, .slice A n.st.length a, .slice B n.fi.length b, .slice C n.es.length c] 26)).alloc (.cells #[.func (.func 39) #[] #[.pointer (some ⟨ba, 0, none⟩)]] 76)).alloc (.cells #[.int .i64 0, .int .i64 0, .slice none 0 0, .slice none 0 0, .slice none 0 0] 26)) = w1 at *
  go_cut [8] from 16 to 27 (fun t wx => ∃ b3 A1 B1 a1 b1, t = .pointer (some ⟨b3, 0, none⟩) ∧ Hid (RenP2 w n A B C a b c T ba b3 A1 B1 a1 b1 (renL us n.st) (renL us n.fi) wx))
  case first =>
    refine wp_region_any (by kernel_rfl) ?_
    change wpAny _ _ _ _ _ _ _ (World.drew _)
    have hS0 : (fun X : World => Blk X w.heap.size (.int .i64 n.V) (.int .i64 n.S) (.slice A n.st.length a) (.slice B n.fi.length b) (.slice C n.es.length c)) w1.drew := hN0
    have hlY : ∀ Y : World, Below w1.heap.size w1 Y → (fun X : World => Blk X w.heap.size (.int .i64 n.V) (.int .i64 n.S) (.slice A n.st.length a) (.slice B n.fi.length b) (.slice C n.es.length c)) Y := fun Y hY => hN0.below hY
    have hD : Below w1.heap.size w1 w1.drew := drew_below w1
    generalize w1.drew = X0 at *
    refine wpAny_head 13 13 (fun X : World => Blk X w.heap.size (.int .i64 n.V) (.int .i64 n.S) (.slice A n.st.length a) (.slice B n.fi.length b) (.slice C n.es.length c)) rfl rfl (by kernel_rfl) (by kernel_rfl) (by kernel_rfl) (fun hA => ?_)
    refine wpHead_take (i := 0) (v := ?_) (by kernel_rfl) hA (at_drop rfl) (by decide) (by kernel_rfl) (by kernel_rfl) (by kernel_rfl) (fun _ _ _ h => h) (Or.inl ⟨by rfl, ?_⟩) hS0 (fun hA => ?_)
    rotate_left
    · (intro w hSw; obtain ⟨s0, s1, s2, s3, s4⟩ := hSw.cells; go_simp <;> with_reducible rfl)
    simp only [Act.put, List.setIfInBounds_toArray, List.set_cons_zero, List.set_cons_succ]
    refine wpHead_take (i := 1) (v := ?_) (by kernel_rfl) hA (at_drop rfl) (by decide) (by kernel_rfl) (by kernel_rfl) (by kernel_rfl) (fun _ _ _ h => h) (Or.inl ⟨by rfl, ?_⟩) hS0 (fun hA => ?_)
    rotate_left
    · (intro w hSw; obtain ⟨s0, s1, s2, s3, s4⟩ := hSw.cells; go_simp <;> with_reducible rfl)
    simp only [Act.put, List.setIfInBounds_toArray, List.set_cons_zero, List.set_cons_succ]
    refine wpHead_take (i := 2) (v := ?_) (by kernel_rfl) hA (at_drop rfl) (by decide) (by kernel_rfl) (by kernel_rfl) (by kernel_rfl) (fun _ _ _ h => h) (Or.inl ⟨by rfl, ?_⟩) hS0 (fun hA => ?_)
    rotate_left
    · (intro w hSw; obtain ⟨s0, s1, s2, s3, s4⟩ := hSw.cells; go_simp <;> with_reducible rfl)
    simp only [Act.put, List.setIfInBounds_toArray, List.set_cons_zero, List.set_cons_succ]
    refine wpHead_take (i := 3) (v := ?_) (by kernel_rfl) hA (at_drop rfl) (by decide) (by kernel_rfl) (by kernel_rfl) (by kernel_rfl) (fun _ _ _ h => h) (Or.inl ⟨by rfl, ?_⟩) hS0 (fun hA => ?_)
    rotate_left
    · (intro w hSw; obtain ⟨s0, s1, s2, s3, s4⟩ := hSw.cells; go_simp <;> with_reducible rfl)
    simp only [Act.put, List.setIfInBounds_toArray, List.set_cons_zero, List.set_cons_succ]
    refine wpHead_take (i := 4) (v := ?_) (by kernel_rfl) hA (at_drop rfl) (by decide) (by kernel_rfl) (by kernel_rfl) (by kernel_rfl) (fun _ _ _ h => h) (Or.inl ⟨by rfl, ?_⟩) hS0 (fun hA => ?_)
    rotate_left
    · (intro w hSw; obtain ⟨s0, s1, s2, s3, s4⟩ := hSw.cells; go_simp <;> with_reducible rfl)
    simp only [Act.put, List.setIfInBounds_toArray, List.set_cons_zero, List.set_cons_succ]
    refine wpHead_take (i := 5) (v := ?_) (by kernel_rfl) hA (at_drop rfl) (by decide) (by kernel_rfl) (by kernel_rfl) (by kernel_rfl) (fun _ _ _ h => h) (Or.inl ⟨by rfl, ?_⟩) hS0 (fun hA => ?_)
    rotate_left
    · (intro w hSw; obtain ⟨s0, s1, s2, s3, s4⟩ := hSw.cells; go_simp <;> with_reducible rfl)
    simp only [Act.put, List.setIfInBounds_toArray, List.set_cons_zero, List.set_cons_succ]
    refine wpHead_take (i := 7) (v := ?_) (by kernel_rfl) hA (at_drop rfl) (by decide) (by kernel_rfl) (by kernel_rfl) (by kernel_rfl) (fun _ _ _ h => h) (Or.inl ⟨by rfl, ?_⟩) hS0 (fun hA => ?_)
    rotate_left
    · (intro w hSw; obtain ⟨s0, s1, s2, s3, s4⟩ := hSw.cells; go_simp <;> with_reducible rfl)
    simp only [Act.put, List.setIfInBounds_toArray, List.set_cons_zero, List.set_cons_succ]
    refine wpHead_take (i := 8) (v := ?_) (by kernel_rfl) hA (at_drop rfl) (by decide) (by kernel_rfl) (by kernel_rfl) (by kernel_rfl) (fun _ _ _ h => h) (Or.inl ⟨by rfl, ?_⟩) hS0 (fun hA => ?_)
    rotate_left
    · (intro w hSw; obtain ⟨s0, s1, s2, s3, s4⟩ := hSw.cells; go_simp <;> with_reducible rfl)
    simp only [Act.put, List.setIfInBounds_toArray, List.set_cons_zero, List.set_cons_succ]
    refine wpHead_take (i := 9) (v := ?_) (by kernel_rfl) hA (at_drop rfl) (by decide) (by kernel_rfl) (by kernel_rfl) (by kernel_rfl) (fun _ _ _ h => h) (Or.inl ⟨by rfl, ?_⟩) hS0 (fun hA => ?_)
    rotate_left
    · (intro w hSw; obtain ⟨s0, s1, s2, s3, s4⟩ := hSw.cells; go_simp <;> with_reducible rfl)
    simp only [Act.put, List.setIfInBounds_toArray, List.set_cons_zero, List.set_cons_succ]
    have hA6 := hnext hA (rs := [6, 12]) (i := 6) (by kernel_rfl) (by decide) (by decide)
    have hA12 := hnext hA (rs := [6, 12]) (i := 12) (by kernel_rfl) (by decide) (by decide)
    refine wpHead_ready (rs := [6, 12]) (by kernel_rfl) (by decide) (AllHead.cons (at_drop rfl) (by decide) (fun KK hK => ?_) (AllHead.cons (at_drop rfl) (by decide) (fun KK hK => ?_) AllHead.nil))
    · replace hA := hA6
      go_simp
      refine (H1.out X0 (stepB hB0 hD) (hF0.below hD).cell).mono ?_
      rintro e X1 ⟨A1, a1, rfl, o1, d1⟩
      have HX1 := stepB hD d1
      refine hK _ _ (hlY _ HX1) ?_
      clear hK KK
      try simp only [Act.put, List.setIfInBounds_toArray, List.set_cons_zero, List.set_cons_succ]
      have hA10 := hnext hA (rs := [10, 12]) (i := 10) (by kernel_rfl) (by decide) (by decide)
      have hA12 := hnext hA (rs := [10, 12]) (i := 12) (by kernel_rfl) (by decide) (by decide)
      refine wpHead_ready (rs := [10, 12]) (by kernel_rfl) (by decide) (AllHead.cons (at_drop rfl) (by decide) (fun KK hK => ?_) (AllHead.cons (at_drop rfl) (by decide) (fun KK hK => ?_) AllHead.nil))
      · replace hA := hA10
        go_simp
        refine (H2.out X1 (stepB hB0 HX1) (hF0.below HX1).cell).mono ?_
        rintro e X2 ⟨B1, b1, rfl, o2, d2⟩
        have HX2 := stepB HX1 d2
        refine hK _ _ (hlY _ HX2) ?_
        clear hK KK
        try simp only [Act.put, List.setIfInBounds_toArray, List.set_cons_zero, List.set_cons_succ]
        refine wpHead_take (i := 11) (v := ?_) (by kernel_rfl) hA (at_drop rfl) (by decide) (by kernel_rfl) (by kernel_rfl) (by kernel_rfl) (fun _ _ _ h => h) (Or.inl ⟨by rfl, ?_⟩) (hlY _ HX2) (fun hA => ?_)
        rotate_left
        · (intro w hSw; obtain ⟨s0, s1, s2, s3, s4⟩ := hSw.cells; go_simp <;> with_reducible rfl)
        simp only [Act.put, List.setIfInBounds_toArray, List.set_cons_zero, List.set_cons_succ]
        have hA12 := hnext hA (rs := [12]) (i := 12) (by kernel_rfl) (by decide) (by decide)
        refine wpHead_ready (rs := [12]) (by kernel_rfl) (by decide) (AllHead.cons (at_drop rfl) (by decide) (fun KK hK => ?_) AllHead.nil)
        replace hA := hA12
        go_simp
        have d3 := bal (Below.refl X2.heap.size X2) (.cells #[.int .i64 0, .int .i64 0, .slice none 0 0, .slice none 0 0, .slice none 0 0] 26)
        have r3 := Blk.new X2 (.int .i64 0) (.int .i64 0) (.slice none 0 0) (.slice none 0 0) (.slice none 0 0)
        generalize (World.alloc X2 (.cells #[.int .i64 0, .int .i64 0, .slice none 0 0, .slice none 0 0, .slice none 0 0] 26)) = X3 at *
        have HX3 := stepB HX2 d3
        refine hK _ _ (hlY _ HX3) ?_
        clear hK KK
        obtain ⟨⟨q0, f0⟩, ⟨q1, f1⟩, ⟨q2, f2⟩, ⟨q3, f3⟩, ⟨q4, f4⟩, hR5, hB5, hO5⟩ := store5 r3 (.int .i64 n.V) (.int .i64 T) (.slice A1 (renL us n.st).length a1) (.slice B1 (renL us n.fi).length b1) (.slice none 0 0)
        have hlt : w.heap.size + 2 < X2.heap.size := by have := HX2.size; omega
        have hK := hB5 _ (Nat.le_refl _)
        have HP := Lib.hid (show RenP2 w n A B C a b c T ba X2.heap.size A1 B1 a1 b1 (renL us n.st) (renL us n.fi) (put5 _ _ _ _ _ _ _) from ⟨(stepB hB0 HX3).trans (hB5 w.heap.size (by omega)), (hK.block _ (by omega)).trans (hlY _ HX3), (hK.block _ (by omega)).trans (hF0.below HX3), (hK.block _ (by omega)).trans (hR0.below HX3), hR5, hlt, hO5 _ _ _ _ _ _ (ownsRow_mono ((o1.below d2).below d3) (stepB hB0 hD).size) (by decide), hO5 _ _ _ _ _ _ (ownsRow_mono (o2.below d3) (stepB hB0 HX1).size) (by decide)⟩)
        unfold put5 at HP
        clear hR5 hB5 hO5 hK hlY hN0 hR0 hF0 H1 H2 hB0 o1 o2 hA r3
        refine wpHead_end (by kernel_rfl) ?_
        simp only [List.drop_succ_cons, List.drop_zero]
        generalize X2.heap.size = b3 at *
        go_wp2_with fail
        go_meet
        exact ⟨b3, A1, B1, a1, b1, rfl, HP⟩
      · replace hA := hA12
        go_simp
        have d2 := bal (Below.refl X1.heap.size X1) (.cells #[.int .i64 0, .int .i64 0, .slice none 0 0, .slice none 0 0, .slice none 0 0] 26)
        have r3 := Blk.new X1 (.int .i64 0) (.int .i64 0) (.slice none 0 0) (.slice none 0 0) (.slice none 0 0)
        generalize (World.alloc X1 (.cells #[.int .i64 0, .int .i64 0, .slice none 0 0, .slice none 0 0, .slice none 0 0] 26)) = X2 at *
        have HX2 := stepB HX1 d2
        refine hK _ _ (hlY _ HX2) ?_
        clear hK KK
        have hA10 := hnext hA (rs := [10]) (i := 10) (by kernel_rfl) (by decide) (by decide)
        refine wpHead_ready (rs := [10]) (by kernel_rfl) (by decide) (AllHead.cons (at_drop rfl) (by decide) (fun KK hK => ?_) AllHead.nil)
        replace hA := hA10
        go_simp
        refine (H2.out X2 (stepB hB0 HX2) (hF0.below HX2).cell).mono ?_
        rintro e X3 ⟨B1, b1, rfl, o2, d3⟩
        have HX3 := stepB HX2 d3
        refine hK _ _ (hlY _ HX3) ?_
        clear hK KK
        try simp only [Act.put, List.setIfInBounds_toArray, List.set_cons_zero, List.set_cons_succ]
        refine wpHead_take (i := 11) (v := ?_) (by kernel_rfl) hA (at_drop rfl) (by decide) (by kernel_rfl) (by kernel_rfl) (by kernel_rfl) (fun _ _ _ h => h) (Or.inl ⟨by rfl, ?_⟩) (hlY _ HX3) (fun hA => ?_)
        rotate_left
        · (intro w hSw; obtain ⟨s0, s1, s2, s3, s4⟩ := hSw.cells; go_simp <;> with_reducible rfl)
        simp only [Act.put, List.setIfInBounds_toArray, List.set_cons_zero, List.set_cons_succ]
        obtain ⟨⟨q0, f0⟩, ⟨q1, f1⟩, ⟨q2, f2⟩, ⟨q3, f3⟩, ⟨q4, f4⟩, hR5, hB5, hO5⟩ := store5 (r3.below d3) (.int .i64 n.V) (.int .i64 T) (.slice A1 (renL us n.st).length a1) (.slice B1 (renL us n.fi).length b1) (.slice none 0 0)
        have hlt : w.heap.size + 2 < X1.heap.size := by have := HX1.size; omega
        have hK := hB5 _ (Nat.le_refl _)
        have HP := Lib.hid (show RenP2 w n A B C a b c T ba X1.heap.size A1 B1 a1 b1 (renL us n.st) (renL us n.fi) (put5 _ _ _ _ _ _ _) from ⟨(stepB hB0 HX3).trans (hB5 w.heap.size (by omega)), (hK.block _ (by omega)).trans (hlY _ HX3), (hK.block _ (by omega)).trans (hF0.below HX3), (hK.block _ (by omega)).trans (hR0.below HX3), hR5, hlt, hO5 _ _ _ _ _ _ (ownsRow_mono ((o1.below d2).below d3) (stepB hB0 hD).size) (by decide), hO5 _ _ _ _ _ _ (ownsRow_mono o2 (stepB hB0 HX2).size) (by decide)⟩)
        unfold put5 at HP
        clear hR5 hB5 hO5 hK hlY hN0 hR0 hF0 H1 H2 hB0 o1 o2 hA r3
        refine wpHead_end (by kernel_rfl) ?_
        simp only [List.drop_succ_cons, List.drop_zero]
        generalize X1.heap.size = b3 at *
        go_wp2_with fail
        go_meet
        exact ⟨b3, A1, B1, a1, b1, rfl, HP⟩
    · replace hA := hA12
      go_simp
      have d1 := bal (Below.refl X0.heap.size X0) (.cells #[.int .i64 0, .int .i64 0, .slice none 0 0, .slice none 0 0, .slice none 0 0] 26)
      have r3 := Blk.new X0 (.int .i64 0) (.int .i64 0) (.slice none 0 0) (.slice none 0 0) (.slice none 0 0)
      generalize (World.alloc X0 (.cells #[.int .i64 0, .int .i64 0, .slice none 0 0, .slice none 0 0, .slice none 0 0] 26)) = X1 at *
      have HX1 := stepB hD d1
      refine hK _ _ (hlY _ HX1) ?_
      clear hK KK
      have hA6 := hnext hA (rs := [6]) (i := 6) (by kernel_rfl) (by decide) (by decide)
      refine wpHead_ready (rs := [6]) (by kernel_rfl) (by decide) (AllHead.cons (at_drop rfl) (by decide) (fun KK hK => ?_) AllHead.nil)
      replace hA := hA6
      go_simp
      refine (H1.out X1 (stepB hB0 HX1) (hF0.below HX1).cell).mono ?_
      rintro e X2 ⟨A1, a1, rfl, o1, d2⟩
      have HX2 := stepB HX1 d2
      refine hK _ _ (hlY _ HX2) ?_
      clear hK KK
      try simp only [Act.put, List.setIfInBounds_toArray, List.set_cons_zero, List.set_cons_succ]
      have hA10 := hnext hA (rs := [10]) (i := 10) (by kernel_rfl) (by decide) (by decide)
      refine wpHead_ready (rs := [10]) (by kernel_rfl) (by decide) (AllHead.cons (at_drop rfl) (by decide) (fun KK hK => ?_) AllHead.nil)
      replace hA := hA10
      go_simp
      refine (H2.out X2 (stepB hB0 HX2) (hF0.below HX2).cell).mono ?_
      rintro e X3 ⟨B1, b1, rfl, o2, d3⟩
      have HX3 := stepB HX2 d3
      refine hK _ _ (hlY _ HX3) ?_
      clear hK KK
      try simp only [Act.put, List.setIfInBounds_toArray, List.set_cons_zero, List.set_cons_succ]
      refine wpHead_take (i := 11) (v := ?_) (by kernel_rfl) hA (at_drop rfl) (by decide) (by kernel_rfl) (by kernel_rfl) (by kernel_rfl) (fun _ _ _ h => h) (Or.inl ⟨by rfl, ?_⟩) (hlY _ HX3) (fun hA => ?_)
      rotate_left
      · (intro w hSw; obtain ⟨s0, s1, s2, s3, s4⟩ := hSw.cells; go_simp <;> with_reducible rfl)
      simp only [Act.put, List.setIfInBounds_toArray, List.set_cons_zero, List.set_cons_succ]
      obtain ⟨⟨q0, f0⟩, ⟨q1, f1⟩, ⟨q2, f2⟩, ⟨q3, f3⟩, ⟨q4, f4⟩, hR5, hB5, hO5⟩ := store5 ((r3.below d2).below d3) (.int .i64 n.V) (.int .i64 T) (.slice A1 (renL us n.st).length a1) (.slice B1 (renL us n.fi).length b1) (.slice none 0 0)
      have hlt : w.heap.size + 2 < X0.heap.size := by have := hD.size; omega
      have hK := hB5 _ (Nat.le_refl _)
      have HP := Lib.hid (show RenP2 w n A B C a b c T ba X0.heap.size A1 B1 a1 b1 (renL us n.st) (renL us n.fi) (put5 _ _ _ _ _ _ _) from ⟨(stepB hB0 HX3).trans (hB5 w.heap.size (by omega)), (hK.block _ (by omega)).trans (hlY _ HX3), (hK.block _ (by omega)).trans (hF0.below HX3), (hK.block _ (by omega)).trans (hR0.below HX3), hR5, hlt, hO5 _ _ _ _ _ _ (ownsRow_mono (o1.below d3) (stepB hB0 HX1).size) (by decide), hO5 _ _ _ _ _ _ (ownsRow_mono o2 (stepB hB0 HX2).size) (by decide)⟩)
      unfold put5 at HP
      clear hR5 hB5 hO5 hK hlY hN0 hR0 hF0 H1 H2 hB0 o1 o2 hA r3
      refine wpHead_end (by kernel_rfl) ?_
      simp only [List.drop_succ_cons, List.drop_zero]
      generalize X0.heap.size = b3 at *
      go_wp2_with fail
      go_meet
      exact ⟨b3, A1, B1, a1, b1, rfl, HP⟩
  case rest =>
    obtain ⟨b3, A1, B1, a1, b1, rfl, HP⟩ := hcut
    have hQ0 := HP.out.start
    clear HP hB0 hN0 hF0 hR0 hsz H1 H2
    have hHU := Lib.hid fun z X (hX : Below w.heap.size w X) => trim1_any z ba cu Au us X ((hX.cell (p := ⟨ba, 0, none⟩) hba).trans hS) (hu.below hX) hp hul
    have hes := hx.es
    have hle := hl.es
    obtain ⟨i0, hi0, hz0, hz1, hz2⟩ := info_parts info_edge
    have HIn : Hid (∀ k, k < n.es.length → (ed n.es k).fr ∈ us → (ed n.es k).to ∈ us → esU us n.es (k + 1) = esU us n.es k ++ [reN us (ed n.es k)]) := fun k hk h1 h2 => esU_in hk (inU_iff.2 ⟨h1, h2⟩)
    have HOut : Hid (∀ k, k < n.es.length → ¬ ((ed n.es k).fr ∈ us ∧ (ed n.es k).to ∈ us) → esU us n.es (k + 1) = esU us n.es k) := fun k hk h => esU_out hk (by
      rw [← Bool.not_eq_true, inU_iff]
      exact h)
    have HEl := Lib.hid fun k => esU_len us n.es k
    clear hx hl hO hS hu hp
    obtain ⟨z0, z1, z2, z3, z4⟩ := hQ0.nb.cells
    go_wp2
    clear z0 z1 z2 z3 z4
    go_loopw [31, 11, 12, 13, 14, 10] (fun iv _ _ _ _ _ wr => ∃ (k : Nat) (C1 : Option Addr) (c1 : Nat) (LE : List Ed), k ≤ n.es.length ∧ iv = .int .i64 k ∧ Hid (LE = esU us n.es k) ∧ RenQ2 w n A B C a b c T ba b3 A1 B1 a1 b1 (renL us n.st) (renL us n.fi) C1 c1 LE wr) (fun i _ _ _ _ _ _ => n.es.length - (intOf i).toNat)
    case atStart => exact ⟨0, none, 0, [], Nat.zero_le _, rfl, rfl, hQ0⟩
    case round =>
      clear hQ0
      obtain ⟨k, C1, c1, LE, hk, rfl, hLE, hQ⟩ := hrel
      by_cases hlt : k < n.es.length
      · obtain ⟨hok, ad, rfl, had, hc⟩ := (hes.below hQ.bel) k hlt
        obtain ⟨q0, q1, q2, q3⟩ := four_at hc
        have hll : LE.length ≤ 1000000 := by rw [hLE.out]; have := HEl.out k; omega
        have hba4 := bal (Below.refl wr.heap.size wr) (.cells #[.int .i64 (ed n.es k).fr, .int .i64 (ed n.es k).to, .int .u8 (ed n.es k).p, .int .u8 (ed n.es k).q] 30)
        have hB4 := Boxed4.new wr 30 (.int .i64 (ed n.es k).fr) (.int .i64 (ed n.es k).to) (.int .u8 (ed n.es k).p) (.int .u8 (ed n.es k).q)
        have hQ1 := hQ.below hba4
        have HMo := Lib.hid fun Z C2 c2 hg ho => hQ1.more (Z := Z) (C2 := C2) (c2 := c2) (x := reN us (ed n.es k)) hg ho
        have HQ1 := Lib.hid hQ1
        have hF := fun X (hX : Below w.heap.size w X) => hHU.out (ed n.es k).fr X hX
        have hT := fun X (hX : Below w.heap.size w X) => hHU.out (ed n.es k).to X hX
        have hI := HIn.out k hlt
        have hO2 := HOut.out k hlt
        clear hHU hc hok had hQ HIn HOut HEl
        go_upto_region 6 with fail
        generalize World.alloc wr (.cells #[.int .i64 (ed n.es k).fr, .int .i64 (ed n.es k).to, .int .u8 (ed n.es k).p, .int .u8 (ed n.es k).q] 30) = W1 at *
        clear hba4 q0 q1 q2 q3
        generalize wr.heap.size = g4 at *
        obtain ⟨e0, e1, e2, e3⟩ := hB4.cells
        have hfc := hQ1.fb.cell
        obtain ⟨r0, r1, r2, r3, r4⟩ := hQ1.r8.cells
        have ho3 := hQ1.o3
        have hbel := hQ1.bel
        have hsz1 := hbel.size
        clear hB4 hQ1
        generalize hxe : ed n.es k = x at *
        clear hxe
        by_cases m1 : x.fr ∈ us
        · by_cases m2 : x.to ∈ us
          · have hLE2 := Lib.hid (hI m1 m2)
            rw [decide_eq_true m1] at hF
            rw [decide_eq_true m2] at hT
            have HFr := Lib.hid hF
            have HTo := Lib.hid hT
            have M1 := Lib.hid m1
            have M2 := Lib.hid m2
            have HRe : Hid (reN us x = ⟨tp us x.fr, tp us x.to, x.p, x.q⟩) := rfl
            clear hF hT m1 m2 hI hO2
            go_wp2_with (first
              | (go_at_call 39; ((with_reducible refine (HFr.out _ hbel).mono ?_); rintro e w4 ⟨kf, rfl, hkf, rfl⟩); have hkz := hkf M1.out; subst hkz; clear hkf HFr)
              | (go_at_call 39; ((with_reducible refine (HTo.out _ hbel).mono ?_); rintro e w5 ⟨kt, rfl, hkt, rfl⟩); have hkz := hkt M2.out; subst hkz; clear hkt HTo)
              | (at_builtin; refine wpList_append_own _ rfl _ _ 24 rfl w.heap.size 30 i0 _ 4 24 Tryd.underlying24 hi0 hz0 hz1 hz2 rfl (by decide) _ LE.length _ rfl (ho3.alloc _) ⟨W1.heap.size, 0, none⟩ 1 1 [.int .i64 (tp us x.fr), .int .i64 (tp us x.to), .int .u8 x.p, .int .u8 x.q] rfl rfl (fun j u hu => by rw [addr_add, World.cell?_alloc_at _ _ _ _ rfl]; simpa using hu) (by simp [Value.oneCell']) (by unfold maxLen; omega) (by omega) (by simp; omega) ?_; intro v' w6 hown' hgrow _; obtain ⟨C2, c2, rfl, _⟩ := Ap.own_form hown'; have hg1 : W1.grownBy w6 (Value.slice C1 LE.length c1).ownBlock := ⟨hgrow.os, hgrow.tape, hgrow.output, (by have := hgrow.size; simp at this; omega), fun q hq hne => (hgrow.block q (by simp; omega) hne).trans (Below.heap_alloc W1 _ q hq)⟩; obtain ⟨hr8, hQ6⟩ := HMo.out w6 C2 c2 hg1 hown'; have HQ6 := Lib.hid hQ6; have x4 := hr8.cells.2.2.2.2; have f4 := hr8.frozen 4; clear hown' hgrow hg1 hQ6 r0 r1 r2 r3 r4))
            go_roundw
            case rel => exact ⟨k + 1, C2, c2, LE ++ [reN us x], by omega, by go_num, by show _ = _; rw [hLE2.out, hLE.out], HQ6.out⟩
            case measure => simp [intOf]; omega
          · have hLE2 := Lib.hid (hO2 fun h => m2 h.2)
            rw [decide_eq_true m1] at hF
            rw [decide_eq_false m2] at hT
            have HFr := Lib.hid hF
            have HTo := Lib.hid hT
            clear hF hT m1 m2 hI hO2
            go_wp2_with (first
              | (go_at_call 39; ((with_reducible refine (HFr.out _ hbel).mono ?_); rintro e w4 ⟨kf, rfl, hkf, rfl⟩); clear hkf HFr)
              | (go_at_call 39; ((with_reducible refine (HTo.out _ hbel).mono ?_); rintro e w5 ⟨kt, rfl, hkt, rfl⟩); clear hkt HTo))
            go_roundw
            case rel => exact ⟨k + 1, C1, c1, LE, by omega, by go_num, by show _ = _; rw [hLE2.out, hLE.out], HQ1.out⟩
            case measure => simp [intOf]; omega
        · have hLE2 := Lib.hid (hO2 fun h => m1 h.1)
          rw [decide_eq_false m1] at hF
          generalize hbb : decide (x.to ∈ us) = bb at hT
          have HFr := Lib.hid hF
          have HTo := Lib.hid hT
          clear hF hT m1 hI hO2 hbb
          go_wp2_with (first
            | (go_at_call 39; ((with_reducible refine (HFr.out _ hbel).mono ?_); rintro e w4 ⟨kf, rfl, hkf, rfl⟩); clear hkf HFr)
            | (go_at_call 39; ((with_reducible refine (HTo.out _ hbel).mono ?_); rintro e w5 ⟨kt, rfl, hkt, rfl⟩); clear hkt HTo))
          go_roundw
          case rel => exact ⟨k + 1, C1, c1, LE, by omega, by go_num, by show _ = _; rw [hLE2.out, hLE.out], HQ1.out⟩
          case measure => simp [intOf]; omega
      · obtain rfl : k = n.es.length := by omega
        have hLF := hLE.out
        clear hLE
        subst hLF
        obtain ⟨r0, r1, r2, r3, r4⟩ := hQ.r8.cells
        obtain ⟨⟨p0, f0⟩, ⟨p1, f1⟩, ⟨p2, f2⟩, ⟨p3, f3⟩, ⟨p4, f4⟩, hR5, hB5, hO5⟩ := store5 hQ.rb (.int .i64 n.V) (.int .i64 T) (.slice A1 (renL us n.st).length a1) (.slice B1 (renL us n.fi).length b1) (.slice C1 (esU us n.es n.es.length).length c1)
        have ho3 := hQ.o3
        have HF := Lib.hid (And.intro hR5.cells (And.intro (hQ.bel.trans (hB5 w.heap.size (by omega))) (And.intro (hO5 _ _ _ _ _ _ hQ.o1 (by decide)) (And.intro (hO5 _ _ _ _ _ _ hQ.o2 (by decide)) (hO5 _ _ _ _ _ _ ho3 (by decide))))))
        clear hR5 hB5 hO5 ho3 hQ hHU hes HIn HOut HEl
        go_wp2
        obtain ⟨⟨y0, y1, y2, y3, y4⟩, hb5, o1, o2, o3⟩ := HF.out
        unfold put5 at y0 y1 y2 y3 y4 hb5 o1 o2 o3
        refine bodyPost_ret (v := .agg #[.int .i64 n.V, .int .i64 T, .slice A1 (renL us n.st).length a1, .slice B1 (renL us n.fi).length b1, .slice C1 (esU us n.es n.es.length).length c1]) (by simp [results, Tryd.results41, go_sem, y0, y1, y2, y3, y4]) rfl ?_
        exact ⟨_, _, _, _, _, _, rfl, hb5, o1, o2, o3⟩
end Go.Proofs.YteckkbjpeckjmaaDoor.Nf
