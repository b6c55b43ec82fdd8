/- Which references a store has returned: check, open. -/
import Derived.Test.YtbhfmeohaoojfaaNI
import Derived.Outline
import Derived.Lib.Builder
namespace Go.Proofs.Ytbhfmeohaoojfaa.Dn
open Go Go.RowKit Go.Proofs.Ytbhfmeohaoojfaa.Ap
open Go.Proofs.Ytbhfmeohaoojfaa.Dg (shl_i64 pow7 cell_one info_int ints_row nd_ext)
set_option linter.unusedVariables false
set_option maxRecDepth 100000
section
variable {sb cb rb tb v cap : Nat} {nv : Value} {N : List Nd} {R : List Nat}
/-- ErrState, if one of the references was not returned. -/
def chk (R : List Nat) (rs : List Int) : Int := if rs.all (inR R) then 0 else 8
def IntOk (r : Int) : Prop := -9223372036854775808 ≤ r ∧ r ≤ 9223372036854775807
set_option maxHeartbeats 2000000 in
theorem check_any (A : Option Addr) (rs : List Int) (c : Nat) (w : World) (h : Mem w sb cb rb tb v cap nv N R) (hx : Ints w A rs) (hl : rs.length ≤ 1000) (hw : ∀ r ∈ rs, IntOk r) :
    Calls Try.prog 50 #[.pointer (some ⟨cb, 0, none⟩), .slice A rs.length c] w fun e w' => e = .returned (.int .i64 (chk R rs)) ∧ Below w.heap.size w w' := by
  obtain ⟨c0, c1, c2, c3, c4, c5⟩ := h.cells
  have HL : Hid (∀ r, IntOk r → (Instr.lookup 89 (.map (some tb)) (.int .i64 r) false).run Try.prog w = .ok (.bool (inR R r)) w) := fun r hr => h.t.look (wf_i64 hr.1 hr.2)
  have HW := Lib.hid hw
  have HT : Hid ((∀ i, i < rs.length → inR R (nd rs i) = true) → chk R rs = 0) := fun hall => by
    unfold chk
    rw [if_pos]
    rw [List.all_eq_true]
    intro r hr
    obtain ⟨i, hi, rfl⟩ := List.mem_iff_getElem.1 hr
    have := hall i hi
    simpa [nd, hi] using this
  have HFl : Hid (∀ i, i < rs.length → inR R (nd rs i) = false → chk R rs = 8) := fun i hi hf => by
    unfold chk
    rw [if_neg]
    intro hall
    rw [List.all_eq_true] at hall
    have := hall (nd rs i) (by simp [nd, hi])
    rw [hf] at this
    cases this
  have HI : Hid (∀ i, i < rs.length → IntOk (nd rs i)) := fun i hi => hw _ (by simp [nd, hi])
  clear hw h
  go_enter Try.func50, Try.ntmps50
  go_wp2
  go_loop [9] (fun i => ∃ k : Nat, k ≤ rs.length ∧ i = .int .i64 k ∧ Hid (∀ i, i < k → inR R (nd rs i) = true)) (fun i => rs.length - (intOf i).toNat)
  case atStart => exact ⟨0, by omega, rfl, fun i hi => absurd hi (by omega)⟩
  case round =>
    obtain ⟨k, hk, rfl, H⟩ := hrel
    by_cases hlt : k < rs.length
    · obtain ⟨ad, rfl, hcell⟩ := hx.at_ hlt
      have hlk := HL.out _ (HI.out k hlt)
      cases hr : inR R (nd rs k) with
      | true =>
        rw [hr] at hlk
        have H' : Hid (∀ i, i < k + 1 → inR R (nd rs i) = true) := fun i hi => by
          rcases Nat.lt_or_eq_of_le (Nat.le_of_lt_succ hi) with h1 | rfl
          · exact H.out i h1
          · exact hr
        clear hr H
        generalize nd rs k = y at *
        go_wp2
        go_round
        case rel => exact ⟨k + 1, by omega, by go_num, H'⟩
        case measure => simp [intOf]; omega
      | false =>
        rw [hr] at hlk
        have HE := Lib.hid (HFl.out k hlt hr)
        clear hr H
        generalize nd rs k = y at *
        go_wp2
        go_ret
        exact ⟨ret_of HE.out.symm, Below.refl _ _⟩
    · obtain rfl : k = rs.length := by omega
      have HE := Lib.hid (HT.out H.out)
      clear H
      go_wp2
      go_ret
      exact ⟨ret_of HE.out.symm, Below.refl _ _⟩
theorem info_store : (Try.prog.info? 106).map (fun i => (i.zero, i.size, i.bytes)) = some (some (.agg #[.pointer none]), 1, 8) := by kernel_rfl
theorem chk_cases (R : List Nat) (rs : List Int) : chk R rs = 0 ∨ chk R rs = 8 := by unfold chk; split <;> simp
set_option maxHeartbeats 2000000 in
theorem open_any (A : Option Addr) (rs : List Int) (c : Nat) (w : World) (h : Mem w sb cb rb tb v cap nv N R) (hx : Ints w A rs) (hl : rs.length ≤ 1000) (hw : ∀ r ∈ rs, IntOk r) :
    Calls Try.prog 44 #[.pointer (some ⟨sb, 0, none⟩), .slice A rs.length c] w fun e w' =>
      e = .returned (.tuple #[.pointer (if chk R rs = 0 then some ⟨cb, 0, none⟩ else none), .int .i64 (chk R rs)]) ∧ Below w.heap.size w w' := by
  obtain ⟨c0, c1, c2, c3, c4, c5⟩ := h.cells
  have s0 := h.cell0
  have hsb := h.lt.1
  have HC : Hid (∀ X, Below w.heap.size w X → Calls Try.prog 50 #[.pointer (some ⟨cb, 0, none⟩), .slice A rs.length c] X fun e w' => e = .returned (.int .i64 (chk R rs)) ∧ Below X.heap.size X w') := fun X hX => check_any A rs c X (h.below hX) (Vals.below hx hX) hl hw
  obtain ⟨j, hj, _⟩ := info_parts info_store
  have hne := Lib.run_neq_ptr_same (P := Try.prog) w ⟨sb, 0, none⟩ Try.underlying36 hj
  have hd := chk_cases R rs
  generalize chk R rs = z at *
  clear h hx hw
  rcases hd with rfl | rfl
  · rw [if_pos rfl]
    go_enter Try.func44, Try.ntmps44
    go_wp2_with (go_at_call 50; ((with_reducible refine (HC.out w (Below.refl _ _)).mono ?_); rintro e w1 ⟨rfl, hb1⟩); have s1 := (hb1.cell (p := ⟨sb, 0, none⟩) hsb).trans s0)
    go_ret2
    exact ⟨rfl, hb1⟩
  · rw [if_neg (by decide)]
    go_enter Try.func44, Try.ntmps44
    go_wp2_with (go_at_call 50; ((with_reducible refine (HC.out w (Below.refl _ _)).mono ?_); rintro e w1 ⟨rfl, hb1⟩))
    go_ret2
    exact ⟨rfl, hb1⟩
/-- A nil store, and one that New did not return. -/
theorem open_nil (A : Option Addr) (n c : Nat) (w : World) :
    Calls Try.prog 44 #[.pointer none, .slice A n c] w fun e w' => e = .returned (.tuple #[.pointer none, .int .i64 12]) ∧ w = w' := by
  go_enter Try.func44, Try.ntmps44
  go_wp2_with (fail)
  go_ret2
  exact ⟨rfl, rfl⟩
theorem open_zero (A : Option Addr) (n c b : Nat) (w : World) (s0 : w.cell? ⟨b, 0, none⟩ = some (.pointer none)) :
    Calls Try.prog 44 #[.pointer (some ⟨b, 0, none⟩), .slice A n c] w fun e w' => e = .returned (.tuple #[.pointer none, .int .i64 12]) ∧ w = w' := by
  go_enter Try.func44, Try.ntmps44
  go_wp2_with (fail)
  go_ret2
  exact ⟨rfl, rfl⟩
end
end Go.Proofs.Ytbhfmeohaoojfaa.Dn
