/- The kit's CopyRegex. -/
import Derived.Test.YteckkbjpeckjmaaRK
import Derived.Test.YteckkbjpeckjmaaYZY
namespace Go.Proofs.Yteckkbjpeckjmaa.Rx
open Go Go.RowKit Go.Proofs.Yteckkbjpeckjmaa
set_option linter.unusedVariables false
set_option maxRecDepth 100000
theorem add_add (ad : Addr) (i j : Nat) : (ad.add i).add j = ad.add (i + j) := by
  unfold Addr.add
  by_cases hi : i = 0
  · subst hi; simp
  · by_cases hj : j = 0
    · subst hj; simp [hi]
    · simp [hi, hj, Nat.add_assoc]
theorem pcs_cells {w : World} {ad : Addr} {l : List Pc} (hx : PcsAt w (some ad) l) : ∀ j u, (pvs l)[j]? = some u → w.cell? (ad.add j) = some u := fun j u hu => by
  have hj := (List.getElem?_eq_some_iff.1 hu).1
  rw [pvs_len] at hj
  obtain ⟨_, ad', e, _, hc⟩ := hx (j / 5) (by omega)
  cases e
  have hr : j % 5 < (pv (pc l (j / 5))).length := Nat.mod_lt _ (by decide)
  have h1 : (pv (pc l (j / 5)))[j % 5]? = some (pv (pc l (j / 5)))[j % 5] := List.getElem?_eq_getElem hr
  have h2 := pvs_at l (j / 5) (j % 5) _ (by omega) h1
  have h3 := hc _ _ h1
  rw [add_add] at h3
  rw [show j / 5 * 5 + j % 5 = j by omega] at h2 h3
  rw [h2] at hu
  cases hu
  exact h3
set_option maxHeartbeats 4000000 in
theorem CopyRegex_any (A : Option Addr) (l : List Pc) (c : Nat) (w : World) (hx : PcsAt w A l) (hl : l.length ≤ 1000) :
    Calls Try.prog 14 #[.slice A l.length c] w fun e w' => ∃ A' c', e = .returned (.slice A' l.length c') ∧ w'.ownsRow w.heap.size 32 5 (.slice A' l.length c') l.length (pvs l) ∧ Below w.heap.size w w' := by
  obtain ⟨i0, hi, hz0, hz1, hz2⟩ := info_parts info_piece
  have hnil : w.ownsRow w.heap.size 32 5 (.slice none 0 0) 0 [] := ⟨rfl, .inl ⟨rfl, rfl⟩⟩
  rcases A with _ | ad
  · have hl0 : l = [] := by
      cases l with
      | nil => rfl
      | cons x r => obtain ⟨_, ad, e, _⟩ := hx 0 (by simp); cases e
    subst hl0
    have hr : ∀ ty, (Builtin.append_ #[27, 27] ty #[.slice none 0 0, .slice none 0 c]).run Try.prog w = .ok (.slice none 0 0) w := fun ty => by simp [Builtin.append_, run_underlying Try.underlying27, sizeOf, typeInfo, hi, Builtin.lenOf, Builtin.firstCells]
    clear hx
    show Calls Try.prog 14 #[.slice none 0 c] w _
    go_enter Try.func14, Try.ntmps14
    go_wp2_with (at_builtin; refine wpList_plain rfl fun K hK => ?_; unfold Oper.wp execOp; simp only [resolve, invoke, builtin, Sem.run_bind, Sem.run_pure, Result.andThen_ok, List.map_toArray, List.map_cons, List.map_nil, Act.eval]; refine hK _ _ ?_)
    go_ret
    exact ⟨none, 0, rfl, hnil, Below.refl _ _⟩
  · have hc := Lib.hid (pcs_cells hx)
    have HL := Lib.hid (pvs_len l)
    have h1 : Hid (∀ x ∈ pvs l, x.oneCell' = true) := by
      intro x hx
      simp only [pvs, List.mem_flatMap, pv] at hx
      obtain ⟨y, _, hy⟩ := hx
      simp at hy
      rcases hy with rfl | rfl | rfl | rfl | rfl <;> rfl
    clear hx
    generalize pvs l = F at *
    generalize l.length = n at *
    go_enter Try.func14, Try.ntmps14
    go_wp2_with (at_builtin; refine wpList_append_own _ rfl _ _ 27 rfl w.heap.size 32 i0 _ 5 24 Try.underlying27 hi hz0 hz1 hz2 rfl (by decide) _ _ _ rfl hnil ad n c F rfl (by have := HL.out; omega) hc.out h1.out (by unfold maxLen; omega) (by omega) (Nat.le_refl _) ?_; intro v' w5 hown' hgrow _)
    go_ret
    rw [Nat.zero_add, List.nil_append] at hown'
    obtain ⟨A', c', rfl, _⟩ := Ap.own_form hown'
    exact ⟨A', c', rfl, hown', (Below.refl _ _).grown hgrow (Nat.le_refl _) (fun q hq => by cases hq)⟩
end Go.Proofs.Yteckkbjpeckjmaa.Rx
