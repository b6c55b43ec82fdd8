/- slices.Clone of ints and of edges; reversed, Reverse (package nfa). -/
import Derived.Test.YtdjhfndoheoljaaDoorFJ
import Derived.Lib.SliceRun
namespace Go.Proofs.YtdjhfndoheoljaaDoor.Nf
open Go Go.RowKit Go.Proofs.YtdjhfndoheoljaaDoor Go.Proofs.YtdjhfndoheoljaaDoor.Cb
set_option linter.unusedVariables false
set_option maxRecDepth 100000
theorem ints_cells {w : World} {ad : Addr} {l : List Int} (hx : Ints w (some ad) l) : ∀ j u, (zvs l)[j]? = some u → w.cell? (ad.add j) = some u := fun j u hu => by
  have hj := (List.getElem?_eq_some_iff.1 hu).1
  rw [zvs, List.length_map] at hj
  obtain ⟨_, e, _, hc⟩ := hx j hj
  cases e
  rw [hc, ← hu]
  simp [zvs, nd, hj]
theorem zvs_one {l : List Int} : ∀ x ∈ zvs l, x.oneCell' = true := by
  intro x hx
  obtain ⟨y, _, rfl⟩ := List.mem_map.1 hx
  rfl
set_option maxHeartbeats 2000000 in
theorem CloneInts_any (A : Option Addr) (l : List Int) (c : Nat) (w : World) (hx : Ints w A l) (hl : l.length ≤ 1000000) :
    Calls Tryd.prog 156 #[.slice A l.length c] w fun e w' => ∃ A' c', e = .returned (.slice A' l.length c') ∧ w'.ownsRow w.heap.size 3 1 (.slice A' l.length c') l.length (zvs l) ∧ Below w.heap.size w w' := by
  obtain ⟨i0, hi, hz0, hz1, hz2⟩ := info_parts info_int6
  have q22 : ∀ (w : World) (a : Option Addr) (n c n' c' : Nat), (binOp .eql 44 (.slice a n c) (.slice none n' c')).run Tryd.prog w = .ok (.bool a.isNone) w := fun w a n c n' c' => Lib.run_eql_slice_nil w _ _ a n c n' c' Tryd.underlying44
  rcases A with _ | ad
  · have hl0 : l = [] := by
      cases l with
      | nil => rfl
      | cons x r => obtain ⟨ad, e, _⟩ := hx 0 (by simp); cases e
    subst hl0
    clear hx
    show Calls Tryd.prog 156 #[.slice none 0 c] w _
    go_enter Tryd.func156, Tryd.ntmps156
    go_wp2
    go_ret
    exact ⟨none, 0, rfl, ⟨rfl, .inl ⟨rfl, rfl⟩⟩, Below.refl _ _⟩
  · have hc := Lib.hid (ints_cells hx)
    have HL : Hid ((zvs l).length = l.length) := List.length_map _
    have h1 := Lib.hid (zvs_one (l := l))
    clear hx
    generalize zvs l = F at *
    generalize l.length = n at *
    go_enter Tryd.func156, Tryd.ntmps156
    go_wp2_with (at_builtin; refine wpList_append_own _ rfl _ _ 44 rfl w.heap.size 3 i0 _ 1 8 Tryd.underlying44 hi hz0 hz1 hz2 rfl (by decide) _ _ _ rfl (World.ownsRow_made w #[] 0 (Nat.le_refl _) (Nat.zero_le _) (by simp)) ad n c F rfl (by have := HL.out; omega) (fun j u hj => Lib.cell?_alloc_some _ (hc.out j u hj)) h1.out (by unfold maxLen; omega) (by omega) (by simp) ?_; intro v' w5 hown' hgrow _)
    go_ret
    rw [Nat.zero_add, List.nil_append] at hown'
    obtain ⟨A', c', rfl, _⟩ := Ap.own_form hown'
    exact ⟨A', c', rfl, hown', ((Below.refl _ w).alloc (Nat.le_refl _) _).grown hgrow (by simp) (fun k hk => by cases hk; exact Nat.le_refl _)⟩
set_option maxHeartbeats 2000000 in
theorem CloneEdges_any (A : Option Addr) (l : List Ed) (c : Nat) (w : World) (hx : EdsAt w A l) (hl : l.length ≤ 1000000) :
    Calls Tryd.prog 157 #[.slice A l.length c] w fun e w' => ∃ A' c', e = .returned (.slice A' l.length c') ∧ w'.ownsRow w.heap.size 81 4 (.slice A' l.length c') l.length (evs l) ∧ Below w.heap.size w w' := by
  obtain ⟨i0, hi, hz0, hz1, hz2⟩ := info_parts info_edge
  have q22 : ∀ (w : World) (a : Option Addr) (n c n' c' : Nat), (binOp .eql 45 (.slice a n c) (.slice none n' c')).run Tryd.prog w = .ok (.bool a.isNone) w := fun w a n c n' c' => Lib.run_eql_slice_nil w _ _ a n c n' c' Tryd.underlying45
  rcases A with _ | ad
  · have hl0 : l = [] := by
      cases l with
      | nil => rfl
      | cons x r => obtain ⟨_, ad, e, _⟩ := hx 0 (by simp); cases e
    subst hl0
    clear hx
    show Calls Tryd.prog 157 #[.slice none 0 c] w _
    go_enter Tryd.func157, Tryd.ntmps157
    go_wp2
    go_ret
    exact ⟨none, 0, rfl, ⟨rfl, .inl ⟨rfl, rfl⟩⟩, Below.refl _ _⟩
  · have hc := Lib.hid (eds_cells hx)
    have HL := Lib.hid (evs_len l)
    have h1 := Lib.hid (evs_one (l := l))
    clear hx
    generalize evs l = F at *
    generalize l.length = n at *
    go_enter Tryd.func157, Tryd.ntmps157
    go_wp2_with (at_builtin; refine wpList_append_own _ rfl _ _ 45 rfl w.heap.size 81 i0 _ 4 24 Tryd.underlying45 hi hz0 hz1 hz2 rfl (by decide) _ _ _ rfl (World.ownsRow_made w #[] 0 (Nat.le_refl _) (Nat.zero_le _) (by simp)) ad n c F rfl (by have := HL.out; omega) (fun j u hj => Lib.cell?_alloc_some _ (hc.out j u hj)) h1.out (by unfold maxLen; omega) (by omega) (by simp) ?_; intro v' w5 hown' hgrow _)
    go_ret
    rw [Nat.zero_add, List.nil_append] at hown'
    obtain ⟨A', c', rfl, _⟩ := Ap.own_form hown'
    exact ⟨A', c', rfl, hown', ((Below.refl _ w).alloc (Nat.le_refl _) _).grown hgrow (by simp) (fun k hk => by cases hk; exact Nat.le_refl _)⟩
end Go.Proofs.YtdjhfndoheoljaaDoor.Nf
