/- The walk of NfaReverses. -/
import Derived.Test.YtdjhfndoheoljaaFN
namespace Go.Proofs.Ytdjhfndoheoljaa.Nf
open Go Go.RowKit Go.Proofs.Ytdjhfndoheoljaa Go.Proofs.Ytdjhfndoheoljaa.Cb
set_option linter.unusedVariables false
set_option linter.unusedSimpArgs false
set_option maxRecDepth 100000
theorem info_u8R : (Try.prog.info? 5).map (fun i => (i.zero, i.size, i.bytes)) = some (some (.int .u8 0), 1, 1) := by kernel_rfl
theorem rev_take {l : List Nat} {j k : Nat} (h : j + 1 + k = l.length) : l.reverse.take (k + 1) = l.reverse.take k ++ [wd l j] := by
  rw [List.take_add_one]
  congr 1
  rw [List.getElem?_reverse (by omega), show l.length - 1 - k = j by omega]
  unfold wd
  rw [List.getD_eq_getElem?_getD, List.getElem?_eq_getElem (by omega)]
  rfl
/-- What Accepts answers. -/
def accE (n : Na) (l : List Nat) : Bool := if wrongN n l = 0 then accW n l else false
theorem Accepts_any (n : Na) (A B C : Option Addr) (a b c : Nat) (w : World) (hx : NaAt w n A B C) (hl : NaLen n) (D : Option Addr) (l : List Nat) (d : Nat) (hw : Bys w D l) (h8 : ∀ y ∈ l, y < 256) (hll : l.length ≤ 1000000) :
    Calls Try.prog 8 #[.agg #[.int .i64 n.V, .int .i64 n.S, .slice A n.st.length a, .slice B n.fi.length b, .slice C n.es.length c], .slice D l.length d] w fun e w' =>
      e = .returned (.tuple #[.bool (accE n l), .int .i64 (wrongN n l)]) ∧ Below w.heap.size w w' := by
  unfold accE
  by_cases h : wrongN n l = 0
  · have := Accepts_good n A B C a b c w hx hl D l d hw h8 hll h
    rw [if_pos h, h]
    exact this
  · have := Accepts_bad n A B C a b c w hx hl D l d hw h8 hll h
    rw [if_neg h]
    exact this
theorem wrong_rev {n : Na} (h : chkN n = 0) (l : List Nat) : wrongN (revN n) l.reverse = wrongN n l := by
  unfold wrongN
  rw [h, ok_chk (rev_ok (ok_of h))]
  simp only [ne_eq, not_true_eq_false, if_false]
  exact wordE_rev _ _
theorem accE_rev {n : Na} (h : chkN n = 0) (l : List Nat) : accE (revN n) l.reverse = accE n l := by
  unfold accE
  rw [wrong_rev h, acc_rev (ok_of h)]
theorem rev_len {n : Na} (h : NaLen n) : NaLen (revN n) := ⟨h.fi, h.st, by show (n.es.map flipE).length ≤ _; rw [List.length_map]; exact h.es⟩
theorem flip_fine {l : List Ed} (h : ∀ x ∈ l, EdOk x) : ∀ x ∈ l.map flipE, EdOk x := fun x hx => by
  obtain ⟨y, hy, rfl⟩ := List.mem_map.1 hx
  have := h y hy
  exact ⟨this.to, this.fr, this.p, this.q⟩
/-- What the frame lays: no slice is longer than memory allows. -/
structure NaMax (n : Na) : Prop where
  st : n.st.length ≤ maxLen
  fi : n.fi.length ≤ maxLen
  es : n.es.length ≤ maxLen
section
variable (n : Na) (A B C : Option Addr) (a b c : Nat) (D : Option Addr) (l : List Nat) (d : Nat) (w : World)
end
end Go.Proofs.Ytdjhfndoheoljaa.Nf
