/- Sets of states are found within two to the number of states; what Determinize finds; the kit's EqualDFA. -/
import Derived.Test.YtdjhfndoheoljaaDoorJW
namespace Go.Proofs.YtdjhfndoheoljaaDoor.Sb
open Go Go.RowKit Go.Proofs.YtdjhfndoheoljaaDoor Go.Proofs.YtdjhfndoheoljaaDoor.Cb
open Go.Proofs.YtdjhfndoheoljaaDoor.Nf (Na NaAt NaLen Ok ok_of chkN stepW runW accW wrongN Long1_any longB long_len)
open Go.Proofs.YtdjhfndoheoljaaDoor.Dg (Tabs tb tb_mem)
set_option linter.unusedVariables false
set_option linter.unusedSimpArgs false
set_option maxRecDepth 100000
/-- The lists of numbers below n, ascending. -/
def subs : Nat → List (List Nat)
  | 0 => [[]]
  | n + 1 => subs n ++ (subs n).map (· ++ [n])
theorem subs_len : ∀ n, (subs n).length = 2 ^ n
  | 0 => rfl
  | n + 1 => by
    show (subs n ++ _).length = _
    rw [List.length_append, List.length_map, subs_len n, Nat.pow_succ]
    omega
theorem filter_subs (p : Nat → Bool) : ∀ n, (List.range n).filter p ∈ subs n
  | 0 => by simp [subs]
  | n + 1 => by
    rw [List.range_succ, List.filter_append]
    show _ ∈ subs n ++ _
    have h := filter_subs p n
    by_cases hp : p n = true
    · rw [List.filter_cons_of_pos hp, List.filter_nil]
      exact List.mem_append_right _ (List.mem_map.2 ⟨_, h, rfl⟩)
    · rw [List.filter_cons_of_neg hp, List.filter_nil, List.append_nil]
      exact List.mem_append_left _ h
def allS (S : Nat) : List (List Nat) := (subs S).map fun l => ofL (l.map fun x : Nat => (x : Int))
theorem els_below {s : List Nat} {S : Nat} (hS : S ≤ 4096) (h : ∀ k ∈ els s, k < S) : els s = (List.range S).filter (mem s) := by
  have h0 : els s = (List.range 4096).filter (mem s) := rfl
  obtain ⟨r, hr⟩ : ∃ r, 4096 = S + r := ⟨4096 - S, by omega⟩
  have h2 : ((List.range r).map (S + ·)).filter (mem s) = [] := by
    rw [List.filter_eq_nil_iff]
    intro k hk hm
    obtain ⟨j, hj, rfl⟩ := List.mem_map.1 hk
    have hj' := List.mem_range.1 hj
    have := h (S + j) (els_mem.2 ⟨by omega, hm⟩)
    omega
  rw [h0, hr, List.range_add, List.filter_append, h2, List.append_nil]
theorem pn_all {n : Na} {s : List Nat} (hO : Ok n) (h : PN n s) : s ∈ allS n.S.toNat := by
  obtain ⟨h1, h2, _, h4⟩ := h
  have := hO.s64
  have h5 := els_below (s := s) (S := n.S.toNat) (by omega) h4
  refine List.mem_map.2 ⟨els s, by rw [h5]; exact filter_subs _ _, ?_⟩
  exact (ofL_els h2).trans h1
theorem all_pn {n : Na} (hO : Ok n) (s : List Nat) : ∀ t ∈ succN n s, t ∈ allS n.S.toNat := fun t ht => pn_all hO (pn_succ hO s t ht)
theorem det_some {n : Na} (hO : Ok n) {b : Nat} (hb : 2 ^ n.S.toNat ≤ b) : ∃ F, detN n b = some F ∧ F.length ≤ 2 ^ n.S.toNat := by
  have hp : 1 ≤ 2 ^ n.S.toNat := Nat.pow_pos (by decide)
  obtain ⟨G, hG, _⟩ := found_some (succN n) (2 ^ n.S.toNat) (T := allS n.S.toNat) (s0 := ofL n.st) (fun s _ t ht => all_pn hO s t ht) (pn_all hO (pn_start hO)) (by unfold allS; rw [List.length_map, subs_len]; exact Nat.le_refl _)
  exact ⟨G, expl_mono (succN n) hb _ _ _ _ (by omega) _ hG, (found_is (succN n) _ hp hG).len⟩
theorem det_budget {n : Na} {b c : Nat} {F : List (List Nat)} (h : detN n c = some F) (hb : 1 ≤ b) (hc : b ≤ c) : detN n b = if b < F.length then none else some F := by
  by_cases hl : b < F.length
  · rw [if_pos hl]
    cases hd : detN n b with
    | none => rfl
    | some G =>
      have h1 : detN n c = some G := expl_mono (succN n) hc _ _ _ _ (by omega) _ hd
      rw [h] at h1
      injection h1 with h2
      subst h2
      have := (found_is (succN n) b hb hd).len
      omega
  · rw [if_neg hl]
    exact expl_less (succN n) _ _ _ _ (by omega) (Nat.zero_le _) _ h (by omega)
theorem det_found {n : Na} {b : Nat} {F : List (List Nat)} (hb : 1 ≤ b) (hd : detN n b = some F) : Found (succN n) b (ofL n.st) F := found_is (succN n) b hb hd
theorem det_nx (n : Na) (F : List (List Nat)) : (detD n F).nx.length = F.length := nums_len _ _ _ (Nat.le_refl _)
theorem det_fi (n : Na) (F : List (List Nat)) : (detD n F).fi.length = F.length := List.length_map _
theorem det_ok {n : Na} {b : Nat} {F : List (List Nat)} (hO : Ok n) (hb : 1 ≤ b) (hb2 : b ≤ 4096) (hd : detN n b = some F) : OkD (detD n F) := by
  have hF := det_found hb hd
  have h0 : 0 < F.length := by
    have := hF.head
    rcases F with _ | ⟨x, F⟩
    · cases this
    · exact Nat.succ_pos _
  have hl := hF.len
  refine ⟨hO.v0, hO.v6, by rw [det_nx]; exact h0, by rw [det_nx]; omega, by rw [det_nx, det_fi], ?_, fun r hr => ⟨?_, ?_⟩⟩
  · rw [det_nx]; show 0 ≤ (0 : Int) ∧ (0 : Int) < _; omega
  · obtain ⟨s, _, rfl⟩ := List.mem_map.1 hr
    show ((succN n s).map _).length = _
    rw [List.length_map]
    unfold succN rowS
    rw [List.length_map, List.length_range]; rfl
  · rw [det_nx]; exact nums_ok (succN n) hF.shut r hr
theorem elsI_small (s : List Nat) : (elsI s).length ≤ 4096 := by
  unfold elsI
  rw [List.length_map]
  exact Nat.le_trans (List.length_filter_le _ _) (by rw [List.length_range]; exact Nat.le_refl _)
section
variable (n : Na) (A B C : Option Addr) (a b c : Nat) (w : World) (hx : NaAt w n A B C) (hl : NaLen n)
include hx hl
theorem det_good (bud : Nat) (hT : Tabs2 w) (hc : chkN n = 0) (hb1 : 1 ≤ bud) (hb2 : bud ≤ 4096) (F : List (List Nat)) (hd : detN n bud = some F) :
    Calls Tryd.prog 38 #[.agg #[.int .i64 n.V, .int .i64 n.S, .slice A n.st.length a, .slice B n.fi.length b, .slice C n.es.length c], .int .i64 bud] w fun e w' =>
      ∃ A' a' B' b' C' c', e = .returned (.tuple #[.agg #[.int .i64 n.V, .int .i64 0, .slice A' F.length a', .slice B' F.length b'], .slice C' F.length c', .int .i64 0]) ∧ DaAt w' (detD n F) A' B' ∧ Tabs w' C' (F.map elsI) ∧ Below w.heap.size w w' :=
  (Determinize_good n A B C a b c w hx hl bud hT hc hb1 hb2 F hd).mono fun e w' ⟨rv, fv, sv, h1, h2, h3⟩ => by
    obtain ⟨A', a', B', b', C', c', rfl, rfl, rfl, h4, h5⟩ := h2.at_
    exact ⟨A', a', B', b', C', c', h1, h4, h5, h3⟩
theorem det_most (hT : Tabs2 w) (hc : chkN n = 0) (F : List (List Nat)) (hd : detN n 4096 = some F) :
    Calls Tryd.prog 38 #[.agg #[.int .i64 n.V, .int .i64 n.S, .slice A n.st.length a, .slice B n.fi.length b, .slice C n.es.length c], .int .i64 4096] w fun e w' =>
      ∃ A' a' B' b' C' c', e = .returned (.tuple #[.agg #[.int .i64 n.V, .int .i64 0, .slice A' F.length a', .slice B' F.length b'], .slice C' F.length c', .int .i64 0]) ∧ DaAt w' (detD n F) A' B' ∧ Tabs w' C' (F.map elsI) ∧ Below w.heap.size w w' :=
  det_good n A B C a b c w hx hl 4096 hT hc (by decide) (by decide) F hd
end
set_option maxHeartbeats 4000000 in
theorem EqualDFA_same (d : Da) (A B A' B' : Option Addr) (a b a' b' : Nat) (w : World) (hx : DaAt w d A B) (hy : DaAt w d A' B') (hl : DaLen d) :
    Calls Tryd.prog 25 #[.agg #[.int .i64 d.V, .int .i64 d.q0, .slice A d.nx.length a, .slice B d.fi.length b], .agg #[.int .i64 d.V, .int .i64 d.q0, .slice A' d.nx.length a', .slice B' d.fi.length b']] w fun e w' => e = .returned (.bool true) ∧ Below w.heap.size w w' := by
  have hb0 := bal (bal (Below.refl w.heap.size w) (.cells #[.int .i64 d.V, .int .i64 d.q0, .slice A d.nx.length a, .slice B d.fi.length b] 25)) (.cells #[.int .i64 d.V, .int .i64 d.q0, .slice A' d.nx.length a', .slice B' d.fi.length b'] 25)
  have hB1 := (Blk4.new w (.int .i64 d.V) (.int .i64 d.q0) (.slice A d.nx.length a) (.slice B d.fi.length b)).below (bal (Below.refl _ _) (.cells #[.int .i64 d.V, .int .i64 d.q0, .slice A' d.nx.length a', .slice B' d.fi.length b'] 25))
  have hB2 := Blk4.new (w.alloc (.cells #[.int .i64 d.V, .int .i64 d.q0, .slice A d.nx.length a, .slice B d.fi.length b] 25)) (.int .i64 d.V) (.int .i64 d.q0) (.slice A' d.nx.length a') (.slice B' d.fi.length b')
  rw [World.size_alloc] at hB2
  have H1 := Lib.hid fun X (hX : Below w.heap.size w X) => EqualRows_same A A' d.nx a a' X (hx.nx.below hX) (hy.nx.below hX) hl.nx hl.row
  have H2 := Lib.hid fun X (hX : Below w.heap.size w X) => EqualBools_same B B' d.fi b b' X (hx.fi.below hX) (hy.fi.below hX) hl.fi
  obtain ⟨V, q0, nx, fi⟩ := d
  dsimp only at *
  clear hx hy hl
  generalize nx.length = nn at *
  generalize fi.length = nf at *
  have hV : (V == V) = true := beq_self_eq_true V
  have hS : (q0 == q0) = true := beq_self_eq_true q0
  obtain ⟨z0, z1, z2, z3⟩ := hB1.cells
  obtain ⟨y0, y1, y2, y3⟩ := hB2.cells
  go_enter Tryd.func25, Tryd.ntmps25
  go_wp2_with (first
    | (go_at_call 39; ((with_reducible refine (H1.out _ hb0).mono ?_); rintro e w2 ⟨rfl, hb2⟩); clear z0 z1 z2 z3 y0 y1 y2 y3; replace hB1 := hB1.below hb2; replace hB2 := hB2.below hb2; replace hb0 := stepB hb0 hb2; clear H1; obtain ⟨z0, z1, z2, z3⟩ := hB1.cells; obtain ⟨y0, y1, y2, y3⟩ := hB2.cells)
    | (go_at_call 57; ((with_reducible refine (H2.out _ hb0).mono ?_); rintro e w3 ⟨rfl, nq, rfl⟩)))
  go_ret
  exact ⟨rfl, stepB hb0 (Ap.drewN_below _ _)⟩
/-- The lengths of an automaton that came in. -/
structure NaMax7 (n : Na) : Prop where
  st : n.st.length ≤ maxLen
  fi : n.fi.length ≤ maxLen
  es : n.es.length ≤ maxLen
theorem Long6_any (n : Na) (A B C : Option Addr) (a b c : Nat) (w : World) (hM : NaMax7 n) : ∀ X (g : Nat), g = X.heap.size → Calls Tryd.prog 34 #[.slice (some ⟨g, 0, none⟩) 1 1] (X.alloc (.cells #[.int .i64 n.V, .int .i64 n.S, .slice A n.st.length a, .slice B n.fi.length b, .slice C n.es.length c] 47)) fun e w' => e = .returned (.bool (longB n)) ∧ Below X.heap.size X w' := fun X g hg => by
  subst hg
  exact Long1_any n A B C a b c X hM.st hM.fi hM.es
end Go.Proofs.YtdjhfndoheoljaaDoor.Sb
