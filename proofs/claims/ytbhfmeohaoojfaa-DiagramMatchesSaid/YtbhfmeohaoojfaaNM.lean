/- The table of a function. -/
import Derived.Test.YtbhfmeohaoojfaaNL
import Derived.Outline
namespace Go.Proofs.Ytbhfmeohaoojfaa.Dn
open Go Go.RowKit Go.Proofs.Ytbhfmeohaoojfaa.Ap
open Go.Proofs.Ytbhfmeohaoojfaa.Dg (shl_i64 pow7 cell_one info_int ints_row nd_ext)
set_option linter.unusedVariables false
set_option maxRecDepth 100000
theorem own_set {w : World} {base : Nat} {e : TypeId} {g n c : Nat} {xs : List Value} (h : w.ownsRow base e 1 (.slice (some ⟨g, 0, none⟩) n c) n xs) (k : Nat) (u : Value) (hk : k < n) : (w.setCell ⟨g, k, none⟩ u).ownsRow base e 1 (.slice (some ⟨g, 0, none⟩) n c) n (xs.set k u) := by
  refine ⟨by rw [List.length_set]; exact h.1, ?_⟩
  rcases h.2 with ⟨e1, _⟩ | ⟨g', cp, cur, e1, g1, g2, g3, g4, g5, g6⟩
  · cases e1
  · injection e1 with e2 e3 e4
    injection e2 with e5
    injection e5 with e6
    subst e6 e4
    refine .inr ⟨g, c, cur.setIfInBounds k u, rfl, g1, heap_set g2 k u, g3, g4, by rw [Array.size_setIfInBounds]; exact g5, ?_⟩
    rw [Array.toList_setIfInBounds, ← g6]
    apply List.ext_getElem
    · simp
    · intro j h1 h2
      simp only [List.getElem_take, List.getElem_set]
/-- The first k of K values are there, the others 0. -/
def fillT (t : List Int) (k K : Nat) : List Value := (List.range K).map fun j => Value.int .i64 (if j < k then nd t j else 0)
theorem fillT_set (t : List Int) (k K : Nat) : (fillT t k K).set k (.int .i64 (nd t k)) = fillT t (k + 1) K := by
  unfold fillT
  apply List.ext_getElem
  · simp
  · intro j h1 h2
    rw [List.getElem_set]
    simp only [List.getElem_map, List.getElem_range]
    by_cases h : k = j
    · subst h; rw [if_pos rfl, if_pos (by omega)]
    · rw [if_neg h]
      by_cases hj : j < k
      · rw [if_pos hj, if_pos (by omega)]
      · rw [if_neg hj, if_neg (by omega)]
theorem fillT_zero (t : List Int) (K : Nat) : fillT t 0 K = List.replicate K (.int .i64 0) := by
  unfold fillT
  apply List.ext_getElem <;> simp
theorem fillT_full (t : List Int) : fillT t t.length t.length = t.map (Value.int .i64) := by
  unfold fillT
  apply List.ext_getElem
  · simp
  · intro j h1 h2
    have hj : j < t.length := by simpa using h2
    simp [nd, hj]
theorem made_rep (K : Nat) : (madeCells (Value.int .i64 0).cells (K * 1)).toList = List.replicate K (.int .i64 0) := by
  rw [Nat.mul_one]
  exact toList_madeCells_one (Value.int .i64 0) K
theorem own_some {w : World} {base e g n c : Nat} {xs : List Value} (h : w.ownsRow base e 1 (.slice (some ⟨g, 0, none⟩) n c) n xs) {k : Nat} (hk : k < n) : ∃ u, w.cell? ⟨g, k, none⟩ = some u := by
  have h1 : k < xs.length := by have := h.1; omega
  exact ⟨xs[k], by rw [h.cellAt k (by omega), List.getElem?_eq_getElem h1]⟩
section
variable {sb cb rb tb v cap : Nat} {nv : Value} {N : List Nd} {R : List Nat}
set_option maxHeartbeats 4000000 in
theorem Table_yes (w : World) (h : Inv w sb cb rb tb v cap nv N R) (q : Nat) (hq : q ∈ R) :
    Calls Try.prog 16 #[.pointer (some ⟨sb, 0, none⟩), .int .i64 q] w fun e w' =>
      ∃ g c, e = .returned (.tuple #[.slice (some ⟨g, 0, none⟩) (2 ^ v) c, .int .i64 0]) ∧ w'.ownsRow w.heap.size 3 1 (.slice (some ⟨g, 0, none⟩) (2 ^ v) c) (2 ^ v) ((tabD v N q).map (Value.int .i64)) ∧ Below w.heap.size w w' := by
  obtain ⟨i0, hi, hz0, hz1, hz2⟩ := info_parts info_int
  have hin := h.ref q hq
  have hq4 : q ≤ 4096 := by have := hin.2; have := h.len; have := h.cap4; omega
  have HO := Lib.hid fun X hX b hc => open1 h (r := (q : Int)) ⟨by omega, by omega⟩ X hX b hc (inR_iff.2 ⟨q, hq, rfl⟩)
  have HL := Lib.hid fun X hX => letters_any X (h.below hX).mem h.v6
  have h64 := pow7 h.v6
  have hK0 : 0 < 2 ^ v := Nat.two_pow_pos v
  have HE : Hid (∀ (x : Nat) (X : World), x < 2 ^ v → Below w.heap.size w X → Calls Try.prog 47 #[.pointer (some ⟨cb, 0, none⟩), .int .i64 q, .int .u8 x] X fun e w' => e = .returned (.int .i64 (nd (tabD v N q) x)) ∧ Below X.heap.size X w') := fun x X hx hX => by
    rw [tabD_nd hx]
    exact eval_any q x X (h.below hX).mem h.wf h.v6 hin (by have := h.len; have := h.cap4; omega) hx
  have hTl := tabD_len v N q
  generalize tabD v N q = t at *
  have HF := Lib.hid (fillT_full t)
  rw [hTl] at HF
  clear h hin hq hTl
  generalize 2 ^ v = K at *
  go_enter Try.func16, Try.ntmps16
  go_wp2_with (first
    | (go_at_call 44; ((with_reducible refine (HO.out _ (bal (Below.refl _ _) _) _ (cell_of_one (MapKept.heap_alloc w _).1)).mono ?_); rintro e w1 ⟨rfl, hb⟩); have hb1 := stepB (bal (Below.refl _ _) _) hb; clear hb)
    | (go_at_call 46; ((with_reducible refine (HL.out w1 hb1).mono ?_); rintro e w2 ⟨rfl, rfl⟩))
    | (at_make; refine wpList_make_full w1 rfl _ _ _ rfl w1.heap.size 3 i0 _ 1 Try.underlying29 hi hz0 hz1 _ _ _ _ K rfl rfl rfl rfl (by rw [hz2]; omega) (by unfold maxLen; omega) (Nat.le_refl _) ?_; intro w2 hown hg))
  have hs1 := hb1.size
  have hown0 : w2.ownsRow w.heap.size 3 1 (.slice (some ⟨w1.heap.size, 0, none⟩) K K) K (fillT t 0 K) := by
    have e : (madeCells (Value.int .i64 0).cells (K * 1)).toList = fillT t 0 K := by rw [fillT_zero]; exact made_rep K
    rw [← e]
    exact own_low hown hs1
  have hb2 : Below w.heap.size w w2 := hb1.grown hg hs1 (fun q hq => by cases hq)
  obtain ⟨g, hgd⟩ : ∃ g, g = w1.heap.size := ⟨_, rfl⟩
  rw [← hgd] at hown0 hs1 ⊢
  clear hown hg hb1 hgd
  go_loopw [25] (fun i wr => ∃ k : Nat, k ≤ K ∧ i = .int .i64 k ∧ wr.ownsRow w.heap.size 3 1 (.slice (some ⟨g, 0, none⟩) K K) K (fillT t k K) ∧ Below w.heap.size w wr) (fun i _ => K - (intOf i).toNat)
  case atStart => exact ⟨0, by omega, rfl, hown0, hb2⟩
  case round =>
    clear hown0 hb2
    obtain ⟨k, hk, rfl, ho, hb⟩ := hrel
    by_cases hkK : k < K
    · have HEk := Lib.hid (HE.out k wr hkK hb)
      have HSt := Lib.hid (fillT_set t k K)
      have hk64 : k < 256 := by omega
      generalize nd t k = y at *
      go_wp2_with (go_at_call 47; ((with_reducible refine HEk.out.mono ?_); rintro e w3 ⟨rfl, hb3⟩); have ho3 := own_bel ho hb3; obtain ⟨u0, hu0⟩ := own_some ho3 hkK; have hfz := ho3.frozenAt k)
      have ho4 := own_set ho3 k (.int .i64 y) hkK
      rw [HSt.out] at ho4
      have hb4 : Below w.heap.size w (w3.setCell ⟨g, k, none⟩ (.int .i64 y)) := (stepB hb hb3).setCell hs1 _
      go_roundw
      case rel => exact ⟨k + 1, by omega, by go_num, ho4, hb4⟩
      case measure => simp [intOf]; omega
    · obtain rfl : k = K := by omega
      rw [HF.out] at ho
      go_wp2
      go_ret2
      exact ⟨g, k, rfl, ho, hb⟩
end
end Go.Proofs.Ytbhfmeohaoojfaa.Dn
