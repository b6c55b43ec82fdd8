/- The steps that come in; Long. -/
import Derived.Test.YtbhfmeohaoojfaaVI
import Derived.Deep.Slices
namespace Go.Proofs.Ytbhfmeohaoojfaa.Dn
open Go Go.RowKit Go.Proofs.Ytbhfmeohaoojfaa.Ap
open Go.Proofs.Ytbhfmeohaoojfaa.Dg
set_option linter.unusedVariables false
set_option maxRecDepth 100000
/-- A step as it comes in. -/
structure SD where
  o : Nat
  op : Nat
  x : Nat
  a : Int
  b : Int
  z : Int
  D : Option Addr
  k : Nat
  u : List Int
  p : Nat
  q : Nat
instance : Inhabited SD := ⟨⟨0, 0, 0, 0, 0, 0, none, 0, [], 0, 0⟩⟩
structure SD.Ok (s : SD) : Prop where
  o : s.o < 256
  op : s.op < 256
  x : s.x < 256
  a : InI s.a
  b : InI s.b
  z : InI s.z
  p : s.p < 256
  q : s.q < 256
  u : ∀ y ∈ s.u, InI y
def SD.val (s : SD) : List Value := [.int .u8 s.o, .int .u8 s.op, .int .u8 s.x, .int .i64 s.a, .int .i64 s.b, .int .i64 s.z, .slice s.D s.u.length s.k, .int .u8 s.p, .int .u8 s.q]
def sd (l : List SD) (j : Nat) : SD := l.getD j default
/-- The steps l lie in a row that begins at A. -/
def StepsAt (w : World) (A : Option Addr) (l : List SD) : Prop := ∀ j, j < l.length → (sd l j).Ok ∧ Ints w (sd l j).D (sd l j).u ∧ (sd l j).u.length ≤ maxLen ∧
  ∃ ad, A = some ad ∧ ad.block < w.heap.size ∧ ∀ i v, (sd l j).val[i]? = some v → w.cell? ((ad.add (j * 9)).add i) = some v
theorem StepsAt.below {w w' : World} {A : Option Addr} {l : List SD} (h : StepsAt w A l) (hb : Below w.heap.size w w') : StepsAt w' A l := fun j hj => by
  obtain ⟨h1, h2, h3, ad, e, h4, h5⟩ := h j hj
  exact ⟨h1, Ints.below h2 hb, h3, ad, e, Nat.lt_of_lt_of_le h4 hb.size, fun i v hv => (Below.cell hb (by rw [addr_block, addr_block]; exact h4)).trans (h5 i v hv)⟩
/-- What Long says. -/
def longB (v : Int) (l : List SD) : Bool := decide (4 < v ∧ v ≤ 6) || decide (10 < l.length) || l.any fun s => decide (70 < s.u.length)
theorem longB_no {v : Int} {l : List SD} (h : longB v l = false) : ¬ (4 < v ∧ v ≤ 6) ∧ l.length ≤ 10 ∧ ∀ j, j < l.length → (sd l j).u.length ≤ 70 := by
  simp only [longB, Bool.or_eq_false_iff, decide_eq_false_iff_not, List.any_eq_false, decide_eq_true_eq] at h
  obtain ⟨⟨h1, h2⟩, h3⟩ := h
  refine ⟨h1, by omega, fun j hj => ?_⟩
  have := h3 l[j] (List.getElem_mem hj)
  unfold sd
  rw [List.getD_eq_getElem?_getD, List.getElem?_eq_getElem hj]
  simp only [Option.getD_some]
  omega
def longTo (l : List SD) (k : Nat) : Prop := ∀ j, j < k → (sd l j).u.length ≤ 70
theorem longB_yes {v : Int} {l : List SD} (hv : ¬ (4 < v ∧ v ≤ 6)) (hl : l.length ≤ 10) {k : Nat} (hk : k < l.length) (h : 70 < (sd l k).u.length) : longB v l = true := by
  have : l.any (fun s => decide (70 < s.u.length)) = true := by
    rw [List.any_eq_true]
    refine ⟨l[k], List.getElem_mem hk, ?_⟩
    unfold sd at h
    rw [List.getD_eq_getElem?_getD, List.getElem?_eq_getElem hk] at h
    exact decide_eq_true h
  simp [longB, this]
theorem longB_all {v : Int} {l : List SD} (hv : ¬ (4 < v ∧ v ≤ 6)) (hl : l.length ≤ 10) (h : longTo l l.length) : longB v l = false := by
  have : l.any (fun s => decide (70 < s.u.length)) = false := by
    rw [List.any_eq_false]
    intro s hs
    obtain ⟨j, hj, rfl⟩ := List.mem_iff_getElem.1 hs
    have := h j hj
    unfold sd at this
    rw [List.getD_eq_getElem?_getD, List.getElem?_eq_getElem hj] at this
    simp only [Option.getD_some] at this
    simp; omega
  simp only [longB, Bool.or_eq_false_iff, decide_eq_false_iff_not]
  exact ⟨⟨hv, by omega⟩, this⟩
set_option maxHeartbeats 2000000 in
theorem Long_any (v : Int) (A : Option Addr) (l : List SD) (c : Nat) (w : World) (hs : StepsAt w A l) (hl : l.length ≤ maxLen) :
    Calls Try.prog 9 #[.int .i64 v, .slice A l.length c] w fun e w' => e = .returned (.bool (longB v l)) ∧ ∃ n, w' = w.drewN n := by
  unfold maxLen at hl
  by_cases h1 : 4 < v ∧ v ≤ 6
  · have d1 : decide (4 < v) = true := decide_eq_true h1.1
    have d2 : decide (v ≤ 6) = true := decide_eq_true h1.2
    have HL : Hid (longB v l = true) := by
      show _ = _
      unfold longB
      rw [decide_eq_true h1]; rfl
    clear h1
    go_enter Try.func9, Try.ntmps9
    go_wp2
    go_ret
    exact ⟨ret_bool HL.out.symm, 0, rfl⟩
  by_cases h2 : 10 < l.length
  · have HL : Hid (longB v l = true) := by
      show _ = _
      unfold longB
      rw [decide_eq_true h2]; simp
    have d3 : decide ((10 : Int) < (l.length : Int)) = true := decide_eq_true (by omega)
    have hv : decide (4 < v) = false ∨ (decide (4 < v) = true ∧ decide (v ≤ 6) = false) := by
      by_cases h3 : 4 < v
      · exact .inr ⟨decide_eq_true h3, decide_eq_false (fun h => h1 ⟨h3, h⟩)⟩
      · exact .inl (decide_eq_false h3)
    clear h1 h2
    rcases hv with d1 | ⟨d1, d2⟩
    all_goals
      go_enter Try.func9, Try.ntmps9
      go_wp2
      go_ret
      exact ⟨ret_bool HL.out.symm, 0, rfl⟩
  have hv : decide (4 < v) = false ∨ (decide (4 < v) = true ∧ decide (v ≤ 6) = false) := by
    by_cases h3 : 4 < v
    · exact .inr ⟨decide_eq_true h3, decide_eq_false (fun h => h1 ⟨h3, h⟩)⟩
    · exact .inl (decide_eq_false h3)
  have d3 : decide ((10 : Int) < (l.length : Int)) = false := decide_eq_false (by omega)
  have HV := Lib.hid h1
  have HN := Lib.hid h2
  clear h1 h2
  rcases hv with d1 | ⟨d1, d2⟩
  all_goals
    go_enter Try.func9, Try.ntmps9
    go_wp2
    go_loopw [5] (fun i wr => ∃ k q : Nat, k ≤ l.length ∧ i = .int .i64 k ∧ Hid (longTo l k) ∧ wr = w.drewN q) (fun i _ => l.length - (intOf i).toNat)
    case atStart => exact ⟨0, 0, by omega, rfl, fun i hi => absurd hi (by omega), rfl⟩
    case round =>
      obtain ⟨k, q, hk, rfl, H, rfl⟩ := hrel
      by_cases hlt : k < l.length
      · obtain ⟨_, _, _, ad, rfl, _, hc⟩ := hs k hlt
        have hc6 : w.cell? ⟨(ad.add (k * 9)).block, (ad.add (k * 9)).off + 6, none⟩ = some (.slice (sd l k).D (sd l k).u.length (sd l k).k) := hc 6 _ rfl
        by_cases h : 70 < (sd l k).u.length
        · have HL := Lib.hid (longB_yes HV.out (by have := HN.out; omega) hlt h)
          have hd : decide ((70 : Int) < ((sd l k).u.length : Int)) = true := decide_eq_true (by omega)
          clear h hc
          generalize (sd l k).u.length = m at *
          go_wp2
          go_ret
          exact ⟨ret_bool HL.out.symm, _, rfl⟩
        · have H' : Hid (longTo l (k + 1)) := fun i hi => by
            rcases Nat.lt_or_eq_of_le (Nat.le_of_lt_succ hi) with h1 | rfl
            · exact H.out i h1
            · omega
          have hd : decide ((70 : Int) < ((sd l k).u.length : Int)) = false := decide_eq_false (by omega)
          clear h hc H
          generalize (sd l k).u.length = m at *
          go_wp2
          go_roundw
          case rel => exact ⟨k + 1, _, by omega, by go_num, H', rfl⟩
          case measure => simp [intOf]; omega
      · obtain rfl : k = l.length := by omega
        have HL := Lib.hid (longB_all HV.out (by have := HN.out; omega) H.out)
        clear H
        go_wp2
        go_ret
        exact ⟨ret_bool HL.out.symm, _, rfl⟩
end Go.Proofs.Ytbhfmeohaoojfaa.Dn
