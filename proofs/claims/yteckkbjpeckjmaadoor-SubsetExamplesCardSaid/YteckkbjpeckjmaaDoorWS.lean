/- SubsetExamples: what the program answers at the chapter's automata. -/
import Derived.Test.YteckkbjpeckjmaaDoorWR
import Derived.ArgAppend
namespace Go.Proofs.YteckkbjpeckjmaaDoor.Sx
open Go Go.RowKit Go.Proofs.YteckkbjpeckjmaaDoor Go.Proofs.YteckkbjpeckjmaaDoor.Cb Go.Proofs.YteckkbjpeckjmaaDoor.Wi Go.Proofs.YteckkbjpeckjmaaDoor.Sb
open Go.Proofs.YteckkbjpeckjmaaDoor.Nf (info_int6 Na NaAt NaLen OwnN wordE exN ex_ok ex_len chkN Bys bvs bys_new hnext drew_below)
open Go.Proofs.YteckkbjpeckjmaaDoor.Dg (Tabs tb tb_mem)
set_option linter.unusedVariables false
set_option linter.unusedSectionVars false
set_option linter.unusedSimpArgs false
set_option maxRecDepth 100000
theorem info_u8X : (Tryd.prog.info? 5).map (fun i => (i.zero, i.size, i.bytes)) = some (some (.int .u8 0), 1, 1) := by kernel_rfl
theorem made64_any (W : World) : ∃ W', (Instr.makeSlice 39 (.int .i64 64) (.int .i64 64)).run Tryd.prog W = .ok (.slice (some ⟨W.heap.size, 0, none⟩) 64 64) W' ∧ W'.ownsRow W.heap.size 5 1 (.slice (some ⟨W.heap.size, 0, none⟩) 64 64) 64 (bvs (List.replicate 64 0)) ∧ Below W.heap.size W W' := by
  obtain ⟨i0, hi, hz0, hz1, hz2⟩ := info_parts info_u8X
  obtain ⟨W', h1, h2, h3⟩ := run_makeSlice_full (P := Tryd.prog) W W.heap.size 39 5 i0 _ 1 Tryd.underlying39 hi hz0 hz1 .i64 .i64 64 (by decide) (by rw [hz2]; decide) (by unfold maxLen; decide) (Nat.le_refl _)
  refine ⟨W', h1, ?_, (Below.refl _ _).grown h3 (Nat.le_refl _) fun q hq => by cases hq⟩
  have e : (madeCells (Value.int .u8 0).cells (64 * 1)).toList = bvs (List.replicate 64 0) := by kernel_rfl
  rw [e] at h2
  exact h2
theorem bys_row {X : World} {B n c : Nat} {D : Option Addr} {l : List Nat} (h : X.ownsRow B 5 1 (.slice D n c) n (bvs l)) (hn : n = l.length) : Bys X D l := by
  subst hn
  exact Vals.of_own h fun j hj => by simp [bvs, wd, hj]
theorem news1 {X : World} {ad : Addr} (h : Bys X (some ad) [1]) : ∀ j u, ([.int .u8 1] : List Value)[j]? = some u → X.cell? (ad.add j) = some u := by
  intro j u hu
  have hj : j < 1 := (List.getElem?_eq_some_iff.1 hu).1
  obtain ⟨ad', e, hc⟩ := h.at_ (j := j) hj
  cases e
  obtain rfl : j = 0 := by omega
  cases hu
  exact hc
def w65 : List Nat := List.replicate 64 0 ++ [1]
theorem bvs65 : bvs (List.replicate 64 0) ++ [.int .u8 1] = bvs w65 := by kernel_rfl
theorem bvs_at (l : List Nat) (j : Nat) (h : j < l.length) : (bvs l)[j]? = some (.int .u8 (wd l j : Nat)) := by simp [bvs, wd, h]
theorem op_append65 {o : Oper} {A : Act} {W : World} {K : Act → World → Prop} {Q : Exit → Act → World → Prop} (s x : Operand) (ho : o.op = .call { callee := .builtin .append, args := #[s, x], argTypes := #[39, 39] }) (gm gb : Nat)
    (hs : A.eval s = .slice (some ⟨gm, 0, none⟩) 64 64) (hx : A.eval x = .slice (some ⟨gb, 0, none⟩) 1 1) (hm : Bys W (some ⟨gm, 0, none⟩) (List.replicate 64 0)) (hb : Bys W (some ⟨gb, 0, none⟩) [1])
    (hK : ∀ D d W', Bys W' D w65 → Below W.heap.size W W' → K (A.put o.dst (.slice D 65 d)) W') : o.wp Tryd.prog A W K Q := by
  obtain ⟨i0, hi, hz0, hz1, hz2⟩ := info_parts info_u8X
  obtain ⟨v', w', hrun, r1, r2⟩ := run_append_arg_grows (P := Tryd.prog) W 39 o.type 5 i0 (.int .u8 0) 1 1 Tryd.underlying39 hi hz0 hz1 hz2 rfl (by decide) ⟨gm, 0, none⟩ 64 64 (bvs (List.replicate 64 0)) (by kernel_rfl) (fun j u hj => by
    have hl : j < 64 := (List.getElem?_eq_some_iff.1 hj).1
    obtain ⟨ad, e, hc⟩ := hm.at_ (j := j) (by rw [List.length_replicate]; exact hl)
    cases e
    have he := bvs_at (List.replicate 64 0) j (by rw [List.length_replicate]; exact hl)
    rw [he] at hj
    obtain rfl := Option.some.inj hj
    exact hc) ⟨gb, 0, none⟩ 1 1 [.int .u8 1] rfl (news1 hb) (by decide) (by unfold maxLen; decide) (by decide)
  rw [bvs65] at r1
  obtain ⟨D, d, rfl, _⟩ := Ap.own_form r1
  unfold Oper.wp
  simp [execOp, ho, resolve, invoke, builtin, hs, hx, hrun, Result.andThen]
  exact hK _ _ _ (bys_row r1 (by rfl)) ((Below.refl _ _).grown r2 (Nat.le_refl _) fun q hq => by cases hq)
theorem exE_len : DaLen exE := ⟨by decide, by decide, by decide⟩
section
variable (X : World) (A B : Option Addr) (hd : DaAt X exE A B)
include hd
theorem sx12 (D : Option Addr) (d : Nat) (hD : Bys X D (List.replicate 64 0)) : Calls Tryd.prog 21 #[.agg #[.int .i64 0, .int .i64 0, .slice A 2 2, .slice B 2 2], .slice D 64 d] X fun r w' => r = .returned (.tuple #[.bool true, .int .i64 0]) ∧ Below X.heap.size X w' := by
  have := AcceptsD_any exE A B 2 2 X hd exE_len D (List.replicate 64 0) d hD (fun y hy => by rw [List.eq_of_mem_replicate hy]; decide) (by rw [List.length_replicate]; decide)
  rw [show accD exE (List.replicate 64 0) = true by kernel_rfl, show wrongD exE (List.replicate 64 0) = 0 by kernel_rfl, List.length_replicate] at this
  exact this
theorem sx13 (D : Option Addr) (d : Nat) (hD : Bys X D w65) : Calls Tryd.prog 21 #[.agg #[.int .i64 0, .int .i64 0, .slice A 2 2, .slice B 2 2], .slice D 65 d] X fun r w' => r = .returned (.tuple #[.bool false, .int .i64 4]) ∧ Below X.heap.size X w' := by
  have := AcceptsD_any exE A B 2 2 X hd exE_len D w65 d hD (fun y hy => by have := List.all_eq_true.1 (show w65.all (fun y => decide (y < 256)) = true by kernel_rfl) y hy; simpa using this) (by decide)
  rw [show accD exE w65 = false by kernel_rfl, show wrongD exE w65 = 4 by kernel_rfl] at this
  exact this
theorem sx14 (D : Option Addr) (d : Nat) (hD : Bys X D [1]) : Calls Tryd.prog 21 #[.agg #[.int .i64 0, .int .i64 0, .slice A 2 2, .slice B 2 2], .slice D 1 d] X fun r w' => r = .returned (.tuple #[.bool false, .int .i64 1]) ∧ Below X.heap.size X w' := by
  have := AcceptsD_any exE A B 2 2 X hd exE_len D [1] d hD (by decide) (by decide)
  rw [show accD exE [1] = false by kernel_rfl, show wrongD exE [1] = 1 by kernel_rfl] at this
  exact this
end
theorem sx_bad (X : World) (A B C : Option Addr) (hn : NaAt X exN A B C) (bud : Int) (hb : ¬ (1 ≤ bud ∧ bud ≤ 4096)) : Calls Tryd.prog 25 #[.agg #[.int .i64 1, .int .i64 3, .slice A 1 1, .slice B 1 1, .slice C 3 3], .int .i64 bud] X fun e w' => e = .returned (.tuple #[.agg #[.int .i64 0, .int .i64 0, .slice none 0 0, .slice none 0 0], .slice none 0 0, .int .i64 1]) ∧ Below X.heap.size X w' := by
  have := Determinize_bad exN A B C 1 1 3 X hn ex_len bud (.inr hb)
  rw [show detE exN bud = 1 by unfold detE; rw [if_neg (by rw [ex_ok]; decide), if_neg hb]] at this
  exact this
def n9 : Na := ⟨9, 0, [], [], []⟩
def n1 : Na := ⟨1, 0, [], [], []⟩
theorem small_at (X : World) (V S : Int) (hV : Nf.InJ V) (hS : Nf.InJ S) : NaAt X ⟨V, S, [], [], []⟩ none none none := ⟨hV, hS, fun j hj => absurd hj (Nat.not_lt_zero j), fun j hj => absurd hj (Nat.not_lt_zero j), fun j hj => absurd hj (Nat.not_lt_zero j)⟩
theorem sx17 (X : World) : Calls Tryd.prog 25 #[.agg #[.int .i64 9, .int .i64 0, .slice none 0 0, .slice none 0 0, .slice none 0 0], .int .i64 0] X fun e w' => e = .returned (.tuple #[.agg #[.int .i64 0, .int .i64 0, .slice none 0 0, .slice none 0 0], .slice none 0 0, .int .i64 7]) ∧ Below X.heap.size X w' := by
  have := Determinize_bad n9 none none none 0 0 0 X (small_at X 9 0 (by constructor <;> decide) (by constructor <;> decide)) ⟨by decide, by decide, by decide⟩ 0 (.inl (by decide))
  rw [show detE n9 0 = 7 by kernel_rfl] at this
  exact this
def d1 : Da := ⟨1, 0, [[0, 0]], [false]⟩
theorem d1_len : DaLen d1 := ⟨by decide, by decide, by decide⟩
theorem sx18 (X : World) (hT : Tabs2 X) : Calls Tryd.prog 25 #[.agg #[.int .i64 1, .int .i64 0, .slice none 0 0, .slice none 0 0, .slice none 0 0], .int .i64 1] X fun e w' => ∃ A' a' B' b' C' c', e = .returned (.tuple #[.agg #[.int .i64 1, .int .i64 0, .slice A' 1 a', .slice B' 1 b'], .slice C' 1 c', .int .i64 0]) ∧ DaAt w' d1 A' B' ∧ Tabs w' C' [[]] ∧ Below X.heap.size X w' := by
  refine (Determinize_good n1 none none none 0 0 0 X (small_at X 1 0 (by constructor <;> decide) (by constructor <;> decide)) ⟨by decide, by decide, by decide⟩ 1 hT (by kernel_rfl) (by decide) (by decide) [[]] (by kernel_rfl)).mono ?_
  rintro e w' ⟨rv, fv, sv, h1, h2, h3⟩
  obtain ⟨A', a, B', b, C', c, rfl, rfl, rfl, h4, h5⟩ := h2.at_
  rw [show detD n1 [[]] = d1 by kernel_rfl] at h4
  rw [show ([[]] : List (List Nat)).map elsI = [[]] by kernel_rfl] at h5
  exact ⟨A', a, B', b, C', c, h1, h4, h5, h3⟩
theorem sx19 (X : World) (A B C : Option Addr) (hn : NaAt X exN A B C) (hT : Tabs2 X) : Calls Tryd.prog 25 #[.agg #[.int .i64 1, .int .i64 3, .slice A 1 1, .slice B 1 1, .slice C 3 3], .int .i64 4096] X fun e w' => ∃ A' a' B' b' C' c', e = .returned (.tuple #[.agg #[.int .i64 1, .int .i64 0, .slice A' 4 a', .slice B' 4 b'], .slice C' 4 c', .int .i64 0]) ∧ Below X.heap.size X w' := by
  have hd : detN exN 4096 = some exF := expl_mono (succN exN) (show 4 ≤ 4096 by decide) _ _ _ _ (by omega) _ ex_det4
  refine (Determinize_good exN A B C 1 1 3 X hn ex_len 4096 hT ex_ok (by decide) (by decide) exF hd).mono ?_
  rintro e w' ⟨rv, fv, sv, h1, h2, h3⟩
  obtain ⟨A', a, B', b, C', c, rfl, rfl, rfl, _, _⟩ := h2.at_
  exact ⟨A', a, B', b, C', c, h1, h3⟩
theorem d1_at (w1 : World) : DaAt (((w1.alloc (.cells #[.int .i64 0, .int .i64 0] 3)).alloc (.cells #[.slice (some ⟨w1.heap.size, 0, none⟩) 2 2] 23)).alloc (.cells #[.bool false] 4)) d1 (some ⟨w1.heap.size + 1, 0, none⟩) (some ⟨w1.heap.size + 1 + 1, 0, none⟩) := by
  have i1 := Dg.ints_new w1 3 [0, 0]
  have t := tabs1 (w1.alloc (.cells #[.int .i64 0, .int .i64 0] 3)) 23 [0, 0] _ 2 i1
  rw [World.size_alloc] at t
  have b := bools_new ((w1.alloc (.cells #[.int .i64 0, .int .i64 0] 3)).alloc (.cells #[.slice (some ⟨w1.heap.size, 0, none⟩) 2 2] 23)) [false]
  rw [World.size_alloc, World.size_alloc] at b
  exact ⟨Tabs.below t (bal (Below.refl _ _) _), b⟩
theorem sx20 (X : World) (A B : Option Addr) (a b : Nat) (hd : DaAt X d1 A B) : Calls Tryd.prog 27 #[.agg #[.int .i64 1, .int .i64 0, .slice A 1 a, .slice B 1 b], .agg #[.int .i64 1, .int .i64 0, .slice (some ⟨X.heap.size + 1, 0, none⟩) 1 1, .slice (some ⟨X.heap.size + 1 + 1, 0, none⟩) 1 1]] (((X.alloc (.cells #[.int .i64 0, .int .i64 0] 3)).alloc (.cells #[.slice (some ⟨X.heap.size, 0, none⟩) 2 2] 23)).alloc (.cells #[.bool false] 4)) fun r w' => r = .returned (.bool true) ∧ Below X.heap.size X w' := by
  have hb := bal (bal (bal (Below.refl X.heap.size X) (.cells #[.int .i64 0, .int .i64 0] 3)) (.cells #[.slice (some ⟨X.heap.size, 0, none⟩) 2 2] 23)) (.cells #[.bool false] 4)
  have := EqualDFA_same d1 A B _ _ a b 1 1 _ (hd.below hb) (d1_at X) d1_len
  exact this.mono fun r w' h => ⟨h.1, stepB hb h.2⟩
theorem sx14b (X : World) (A B : Option Addr) (hd : DaAt X exE A B) : Calls Tryd.prog 21 #[.agg #[.int .i64 0, .int .i64 0, .slice A 2 2, .slice B 2 2], .slice (some ⟨X.heap.size, 0, none⟩) 1 1] (X.alloc (.cells #[.int .u8 1] 5)) fun r w' => r = .returned (.tuple #[.bool false, .int .i64 1]) ∧ Below X.heap.size X w' := by
  have hb := bal (Below.refl X.heap.size X) (.cells (bvs [1]).toArray 5)
  have := sx14 (X.alloc (.cells (bvs [1]).toArray 5)) A B (hd.below hb) (some ⟨X.heap.size, 0, none⟩) 1 (bys_new X [1])
  exact this.mono fun r w' h => ⟨h.1, stepB hb h.2⟩
end Go.Proofs.YteckkbjpeckjmaaDoor.Sx
