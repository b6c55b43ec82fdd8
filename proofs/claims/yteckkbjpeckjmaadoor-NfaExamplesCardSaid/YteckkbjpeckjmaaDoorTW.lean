/- NfaExamples: what the program answers at the chapter's automaton. -/
import Derived.Test.YteckkbjpeckjmaaDoorTR
namespace Go.Proofs.YteckkbjpeckjmaaDoor.Nx
open Go Go.RowKit Go.Proofs.YteckkbjpeckjmaaDoor Go.Proofs.YteckkbjpeckjmaaDoor.Wi Go.Proofs.YteckkbjpeckjmaaDoor.Nf Go.Proofs.YteckkbjpeckjmaaDoor.Cb
set_option linter.unusedVariables false
set_option linter.unusedSectionVars false
set_option linter.unusedSimpArgs false
set_option maxRecDepth 100000
theorem info_u8X : (Tryd.prog.info? 5).map (fun i => (i.zero, i.size, i.bytes)) = some (some (.int .u8 0), 1, 1) := by kernel_rfl
theorem made64_any (W : World) : ∃ W', (Instr.makeSlice 39 (.int .i64 64) (.int .i64 64)).run Tryd.prog W = .ok (.slice (some ⟨W.heap.size, 0, none⟩) 64 64) W' ∧ W'.ownsRow W.heap.size 5 1 (.slice (some ⟨W.heap.size, 0, none⟩) 64 64) 64 (bvs (List.replicate 64 0)) ∧ Below W.heap.size W W' := by
  obtain ⟨i0, hi, hz0, hz1, hz2⟩ := info_parts info_u8X
  obtain ⟨W', h1, h2, h3⟩ := run_makeSlice_full (P := Tryd.prog) W W.heap.size 39 5 i0 _ 1 Tryd.underlying39 hi hz0 hz1 .i64 .i64 64 (by decide) (by rw [hz2]; decide) (by unfold maxLen; decide) (Nat.le_refl _)
  refine ⟨W', h1, ?_, (Below.refl _ _).grown h3 (Nat.le_refl _) fun q hq => by cases hq⟩
  have e : (madeCells (Value.int .u8 0).cells (64 * 1)).toList = bvs (List.replicate 64 0) := by kernel_rfl
  rw [e] at h2
  exact h2
theorem bys_row {X : World} {B n c : Nat} {D : Option Addr} {l : List Nat} (h : X.ownsRow B 5 1 (.slice D n c) n (bvs l)) (hn : n = l.length) : Bys X D l := by
  subst hn
  exact Vals.of_own h fun j hj => by simp [bvs, wd, hj]
theorem news2 {X : World} {ad : Addr} (h : Bys X (some ad) [2]) : ∀ j u, ([.int .u8 2] : List Value)[j]? = some u → X.cell? (ad.add j) = some u := by
  intro j u hu
  have hj : j < 1 := (List.getElem?_eq_some_iff.1 hu).1
  obtain ⟨ad', e, hc⟩ := h.at_ (j := j) hj
  cases e
  obtain rfl : j = 0 := by omega
  cases hu
  exact hc
def w65 : List Nat := List.replicate 64 0 ++ [2]
theorem bvs65 : bvs (List.replicate 64 0) ++ [.int .u8 2] = bvs w65 := by kernel_rfl
def z510 : Na := ⟨1, 1, [], [], List.replicate 510 ⟨0, 0, 0, 0⟩⟩
theorem small_at (X : World) (V S : Int) (hV : InJ V) (hS : InJ S) : NaAt X ⟨V, S, [], [], []⟩ none none none := ⟨hV, hS, fun j hj => absurd hj (Nat.not_lt_zero j), fun j hj => absurd hj (Nat.not_lt_zero j), fun j hj => absurd hj (Nat.not_lt_zero j)⟩
section
variable (X : World) (A B C : Option Addr) (hn : NaAt X exN A B C)
include hn
theorem ex14 (D : Option Addr) (d : Nat) (hD : Bys X D (List.replicate 64 0)) : Calls Tryd.prog 7 #[.agg #[.int .i64 1, .int .i64 3, .slice A 1 1, .slice B 1 1, .slice C 3 3], .slice D 64 d] X fun r w' => r = .returned (.tuple #[.bool false, .int .i64 0]) ∧ Below X.heap.size X w' := by
  have := AcceptsT_any exN A B C 1 1 3 X hn ex_len D (List.replicate 64 0) d hD (fun y hy => by rw [List.eq_of_mem_replicate hy]; decide) (by rw [List.length_replicate]; decide)
  rw [show accT exN (List.replicate 64 0) = false by kernel_rfl, show wrongN exN (List.replicate 64 0) = 0 by kernel_rfl, List.length_replicate] at this
  exact this
theorem ex15 (D : Option Addr) (d : Nat) (hD : Bys X D w65) : Calls Tryd.prog 7 #[.agg #[.int .i64 1, .int .i64 3, .slice A 1 1, .slice B 1 1, .slice C 3 3], .slice D 65 d] X fun r w' => r = .returned (.tuple #[.bool false, .int .i64 4]) ∧ Below X.heap.size X w' := by
  have := AcceptsT_any exN A B C 1 1 3 X hn ex_len D w65 d hD (fun y hy => by have := List.all_eq_true.1 (show w65.all (fun y => decide (y < 256)) = true by kernel_rfl) y hy; simpa using this) (by decide)
  rw [show accT exN w65 = false by kernel_rfl, show wrongN exN w65 = 4 by kernel_rfl] at this
  exact this
theorem ex16 (D : Option Addr) (d : Nat) (hD : Bys X D [0, 2]) : Calls Tryd.prog 7 #[.agg #[.int .i64 1, .int .i64 3, .slice A 1 1, .slice B 1 1, .slice C 3 3], .slice D 2 d] X fun r w' => r = .returned (.tuple #[.bool false, .int .i64 1]) ∧ Below X.heap.size X w' := by
  have := AcceptsT_any exN A B C 1 1 3 X hn ex_len D [0, 2] d hD (by decide) (by decide)
  rw [show accT exN [0, 2] = false by kernel_rfl, show wrongN exN [0, 2] = 1 by kernel_rfl] at this
  exact this
theorem ex17 (E : Option Addr) (d : Nat) : Calls Tryd.prog 12 #[.agg #[.int .i64 1, .int .i64 3, .slice A 1 1, .slice B 1 1, .slice C 3 3], .slice E 1 d, .int .u8 2] X fun r w' => r = .returned (.tuple #[.slice none 0 0, .int .i64 1]) ∧ Below X.heap.size X w' :=
  After_letter exN A B C 1 1 3 X hn ex_len E [1] d 2 (by decide) ex_ok (by decide)
theorem ex22 (E : Option Addr) (d : Nat) (hd : 1 ≤ d) (hE : Words X E [9223372036854775809]) : Calls Tryd.prog 12 #[.agg #[.int .i64 1, .int .i64 3, .slice A 1 1, .slice B 1 1, .slice C 3 3], .slice E 1 d, .int .u8 1] X fun r w' => ∃ A' c', r = .returned (.tuple #[.slice A' 1 c', .int .i64 0]) ∧ Words w' A' [3] ∧ Below X.heap.size X w' := by
  refine (After_good exN A B C 1 1 3 X hn ex_len E [9223372036854775809] d 1 (by decide) hE (fun y hy => by rw [List.mem_singleton.1 hy]; decide) ex_ok (by decide)).mono ?_
  rintro r w' ⟨A', c', rfl, ho, hb⟩
  rw [show stepW exN.es [9223372036854775809] 1 = [3] by kernel_rfl] at ho ⊢
  exact ⟨A', c', rfl, ho.words, hb⟩
theorem ex18 : Calls Tryd.prog 9 #[.agg #[.int .i64 1, .int .i64 3, .slice A 1 1, .slice B 1 1, .slice C 3 3], .agg #[.int .i64 2, .int .i64 0, .slice none 0 0, .slice none 0 0, .slice none 0 0]] X fun r w' => ∃ (V S : Int) (A' B' C' : Option Addr) (p a' q b' k c' : Nat), r = .returned (.tuple #[.agg #[.int .i64 V, .int .i64 S, .slice A' p a', .slice B' q b', .slice C' k c'], .int .i64 7]) ∧ Below X.heap.size X w' := by
  have := Union_ex exN ⟨2, 0, [], [], []⟩ A B C none none none 1 1 3 0 0 0 X hn ex_len (small_at X 2 0 (by constructor <;> decide) (by constructor <;> decide)) ⟨by decide, by decide, by decide⟩
  rw [show uniE exN ⟨2, 0, [], [], []⟩ = 7 by kernel_rfl] at this
  exact this
theorem ex19 : Calls Tryd.prog 9 #[.agg #[.int .i64 1, .int .i64 62, .slice none 0 0, .slice none 0 0, .slice none 0 0], .agg #[.int .i64 1, .int .i64 3, .slice A 1 1, .slice B 1 1, .slice C 3 3]] X fun r w' => ∃ (V S : Int) (A' B' C' : Option Addr) (p a' q b' k c' : Nat), r = .returned (.tuple #[.agg #[.int .i64 V, .int .i64 S, .slice A' p a', .slice B' q b', .slice C' k c'], .int .i64 4]) ∧ Below X.heap.size X w' := by
  have := Union_ex ⟨1, 62, [], [], []⟩ exN none none none A B C 0 0 0 1 1 3 X (small_at X 1 62 (by constructor <;> decide) (by constructor <;> decide)) ⟨by decide, by decide, by decide⟩ hn ex_len
  rw [show uniE ⟨1, 62, [], [], []⟩ exN = 4 by kernel_rfl] at this
  exact this
theorem ex20 : Calls Tryd.prog 9 #[.agg #[.int .i64 1, .int .i64 61, .slice none 0 0, .slice none 0 0, .slice none 0 0], .agg #[.int .i64 1, .int .i64 3, .slice A 1 1, .slice B 1 1, .slice C 3 3]] X fun r w' => ∃ (V S : Int) (A' B' C' : Option Addr) (p a' q b' k c' : Nat), r = .returned (.tuple #[.agg #[.int .i64 V, .int .i64 S, .slice A' p a', .slice B' q b', .slice C' k c'], .int .i64 0]) ∧ Below X.heap.size X w' := by
  have := Union_ex ⟨1, 61, [], [], []⟩ exN none none none A B C 0 0 0 1 1 3 X (small_at X 1 61 (by constructor <;> decide) (by constructor <;> decide)) ⟨by decide, by decide, by decide⟩ hn ex_len
  rw [show uniE ⟨1, 61, [], [], []⟩ exN = 0 by kernel_rfl] at this
  exact this
theorem ex21 (F : Option Addr) (f : Nat) (hF : EdsAt X F (List.replicate 510 ⟨0, 0, 0, 0⟩)) : Calls Tryd.prog 9 #[.agg #[.int .i64 1, .int .i64 1, .slice none 0 0, .slice none 0 0, .slice F 510 f], .agg #[.int .i64 1, .int .i64 3, .slice A 1 1, .slice B 1 1, .slice C 3 3]] X fun r w' => ∃ (V S : Int) (A' B' C' : Option Addr) (p a' q b' k c' : Nat), r = .returned (.tuple #[.agg #[.int .i64 V, .int .i64 S, .slice A' p a', .slice B' q b', .slice C' k c'], .int .i64 4]) ∧ Below X.heap.size X w' := by
  have := Union_ex z510 exN none none F A B C 0 0 f 1 1 3 X ⟨by constructor <;> decide, by constructor <;> decide, fun j hj => absurd hj (Nat.not_lt_zero j), fun j hj => absurd hj (Nat.not_lt_zero j), hF⟩ ⟨by decide, by decide, by show (List.replicate 510 _).length ≤ _; rw [List.length_replicate]; decide⟩ hn ex_len
  rw [show uniE z510 exN = 4 by kernel_rfl, show z510.es.length = 510 from List.length_replicate] at this
  exact this
end
end Go.Proofs.YteckkbjpeckjmaaDoor.Nx
