/- Union's numbering and the lists that renumbered makes (package nfa). -/
import Derived.Test.YteckkbjpeckjmaaDoorGA
import Derived.Laws.EntriesVeiled
namespace Go.Proofs.YteckkbjpeckjmaaDoor.Nf
open Go Go.RowKit Go.Proofs.YteckkbjpeckjmaaDoor Go.Proofs.YteckkbjpeckjmaaDoor.Cb
set_option linter.unusedVariables false
set_option linter.unusedSimpArgs false
set_option maxRecDepth 100000
theorem nd_in' {l : List Int} {k : Nat} (h : k < l.length) : nd l k ∈ l := by
  unfold nd
  rw [List.getD_eq_getElem?_getD, List.getElem?_eq_getElem h]
  exact List.getElem_mem h
theorem zvs_app (l m : List Int) : zvs (l ++ m) = zvs l ++ zvs m := by simp [zvs]
theorem union1_any (s S : Int) (ba : Nat) (X : World) (hS : X.cell? ⟨ba, 1, none⟩ = some (.int .i64 S)) (h1 : 0 ≤ s ∧ s ≤ 1000) (h2 : 0 ≤ S ∧ S ≤ 1000) :
    Calls Tryd.prog 43 #[.int .i64 s, .pointer (some ⟨ba, 0, none⟩)] X fun e w' => e = .returned (.tuple #[.int .i64 (s + S), .bool true]) ∧ X = w' := by
  have hw : IntKind.i64.wrap (s + S) = s + S := by rw [IntKind.wrap_i64]; omega
  go_enter Tryd.func43, Tryd.ntmps43
  go_wp2
  go_ret2
  exact ⟨rfl, rfl⟩
set_option maxHeartbeats 4000000 in
theorem list_any (A : Option Addr) (l : List Int) (c : Nat) (S : Int) (ba bf : Nat) (w : World) (hx : Ints w A l) (hl : l.length ≤ 1000000) (hr : ∀ z ∈ l, 0 ≤ z ∧ z ≤ 1000) (h2 : 0 ≤ S ∧ S ≤ 1000)
    (hba : ba < w.heap.size) (hbf : bf < w.heap.size) (hS : w.cell? ⟨ba, 1, none⟩ = some (.int .i64 S)) (hf : w.cell? ⟨bf, 0, none⟩ = some (.func (.func 43) #[] #[.pointer (some ⟨ba, 0, none⟩)])) :
    Calls Tryd.prog 80 #[.slice A l.length c, .pointer (some ⟨bf, 0, none⟩)] w fun e w' => ∃ A' c', e = .returned (.slice A' l.length c') ∧ w'.ownsRow w.heap.size 3 1 (.slice A' l.length c') l.length (zvs (l.map (· + S))) ∧ Below w.heap.size w w' := by
  obtain ⟨i0, hi0, hz0, hz1, hz2⟩ := info_parts info_int6
  have HU := Lib.hid fun z X (hX : Below w.heap.size w X) (hz : 0 ≤ z ∧ z ≤ 1000) => union1_any z S ba X ((hX.cell (p := ⟨ba, 1, none⟩) hba).trans hS) hz h2
  have HF := Lib.hid fun X (hX : Below w.heap.size w X) => (hX.cell (p := ⟨bf, 0, none⟩) hbf).trans hf
  have HR := Lib.hid fun j (h : j < l.length) => hr _ (nd_in' h)
  have HT : Hid (∀ k, k < l.length → zvs ((l.take (k + 1)).map (· + S)) = zvs ((l.take k).map (· + S)) ++ [.int .i64 (nd l k + S)]) := fun k hk => by
    rw [List.take_succ_eq_append_getElem hk, List.map_append, zvs_app]
    have : nd l k = l[k] := by unfold nd; rw [List.getD_eq_getElem?_getD, List.getElem?_eq_getElem hk]; rfl
    rw [this]
    rfl
  have HE : Hid (∀ (X : World) v, X.ownsRow w.heap.size 3 1 v l.length (zvs ((l.take l.length).map (· + S))) → ∃ A' c', v = .slice A' l.length c' ∧ X.ownsRow w.heap.size 3 1 (.slice A' l.length c') l.length (zvs (l.map (· + S)))) := fun X v h => by
    obtain ⟨A', c', rfl, _⟩ := Ap.own_form h
    rw [List.take_length] at h
    exact ⟨A', c', rfl, h⟩
  clear hr hS hf hba hbf
  go_enter Tryd.func80, Tryd.ntmps80
  go_wp2
  go_loopw [4, 11] (fun nv iv wr => ∃ (k : Nat) (v : Value), k ≤ l.length ∧ v = nv ∧ iv = .int .i64 k ∧ Hid (wr.ownsRow w.heap.size 3 1 v k (zvs ((l.take k).map (· + S)))) ∧ Hid (Below w.heap.size w wr)) (fun _ i _ => l.length - (intOf i).toNat)
  case atStart => exact ⟨0, _, Nat.zero_le _, rfl, rfl, ⟨rfl, .inl ⟨rfl, rfl⟩⟩, Below.refl _ _⟩
  case round =>
    obtain ⟨k, v, hk, rfl, rfl, hO, hb⟩ := hrel
    by_cases hkl : k < l.length
    · obtain ⟨ad, rfl, hcell⟩ := (hx.below hb.out).at_ hkl
      have hfc := HF.out _ hb.out
      have hU := Lib.hid fun X hX => HU.out (nd l k) X hX (HR.out k hkl)
      have hT := Lib.hid (HT.out k hkl)
      have ho := hO.out
      have hbw := hb.out
      generalize nd l k = z at *
      go_wp2_with (first
        | (go_at_call 43; ((with_reducible refine (hU.out _ hbw).mono ?_); rintro e w2 ⟨rfl, rfl⟩))
        | (at_builtin; refine wpList_append_own _ rfl _ _ 23 rfl w.heap.size 3 i0 (.int .i64 0) 1 8 Tryd.underlying23 hi0 hz0 hz1 hz2 rfl (by decide) _ _ _ rfl (ho.alloc _) ⟨wr.heap.size, 0, none⟩ 1 1 [.int .i64 (z + S)] rfl rfl (cell_one_new _ _ _) (by simp [Value.oneCell']) (by unfold maxLen; omega) (by omega) (by have := hbw.size; simp; omega) ?_; intro v' w6 hown' hgrow _; have HO6 := Lib.hid hown'; have HB6 := Lib.hid ((hbw.alloc hbw.size (.cells #[.int .i64 (z + S)] 3)).grown hgrow (by have := hbw.size; simp; omega) (fun q hq => (ho.lt q hq).1)); clear hown' hgrow))
      go_roundw
      case rel => exact ⟨k + 1, _, by omega, rfl, by go_num, by rw [hT.out]; exact HO6.out, HB6.out⟩
      case measure => simp [intOf]; omega
    · obtain rfl : k = l.length := by omega
      obtain ⟨A', c', rfl, hF⟩ := HE.out _ _ hO.out
      have HF2 := Lib.hid hF
      clear hF
      go_wp2
      go_ret
      exact ⟨A', c', rfl, HF2.out, hb.out⟩
end Go.Proofs.YteckkbjpeckjmaaDoor.Nf
