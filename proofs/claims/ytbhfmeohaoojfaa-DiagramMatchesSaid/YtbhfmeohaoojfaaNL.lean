/- The methods of a store that only read. -/
import Derived.Test.YtbhfmeohaoojfaaNK
import Derived.Outline
namespace Go.Proofs.Ytbhfmeohaoojfaa.Dn
open Go Go.RowKit Go.Proofs.Ytbhfmeohaoojfaa.Ap
open Go.Proofs.Ytbhfmeohaoojfaa.Dg (shl_i64 pow7 cell_one info_int ints_row nd_ext)
set_option linter.unusedVariables false
set_option maxRecDepth 100000
/-- A list without repeats whose members lie in another is no longer. -/
theorem nodup_le {α : Type} [DecidableEq α] : ∀ (l m : List α), l.Nodup → (∀ x ∈ l, x ∈ m) → l.length ≤ m.length
  | [], m, _, _ => Nat.zero_le _
  | x :: l, m, hn, hs => by
    obtain ⟨h1, h2⟩ := List.nodup_cons.1 hn
    have hx := hs x (by simp)
    have := nodup_le l (m.erase x) h2 fun y hy => (List.mem_erase_of_ne (fun (e : y = x) => h1 (e ▸ hy))).2 (hs y (by simp [hy]))
    rw [List.length_erase_of_mem hx] at this
    have := List.length_pos_of_mem hx
    simp only [List.length_cons]
    omega
/-- What holds of a store that New has returned, whatever has been done with it. -/
structure Inv (w : World) (sb cb rb tb v cap : Nat) (nv : Value) (N : List Nd) (R : List Nat) : Prop where
  mem : Mem w sb cb rb tb v cap nv N R
  wf : Wf v N
  fitv : FitV N
  len : N.length ≤ cap
  cap4 : cap ≤ 4096
  v6 : v ≤ 6
  ref : ∀ r ∈ R, inN N r
  nodup : R.Nodup
section
variable {w w' : World} {sb cb rb tb v cap : Nat} {nv nv' : Value} {N : List Nd} {R : List Nat}
theorem Inv.below (h : Inv w sb cb rb tb v cap nv N R) (hb : Below w.heap.size w w') : Inv w' sb cb rb tb v cap nv N R := ⟨h.mem.below hb, h.wf, h.fitv, h.len, h.cap4, h.v6, h.ref, h.nodup⟩
theorem Inv.rl (h : Inv w sb cb rb tb v cap nv N R) : R.length ≤ 4096 := by
  have := nodup_le R (List.range (N.length + 1)) h.nodup fun r hr => List.mem_range.2 (by have := (h.ref r hr).2; omega)
  rw [List.length_range] at this
  have h1 := h.len
  have h2 := h.cap4
  by_cases he : R.length ≤ N.length
  · omega
  · -- the number 0 is no reference
    have h3 := nodup_le (0 :: R) (List.range (N.length + 1)) (List.nodup_cons.2 ⟨fun h0 => by have := (h.ref 0 h0).1; omega, h.nodup⟩) fun r hr => by
      rcases List.mem_cons.1 hr with rfl | hr
      · exact List.mem_range.2 (by omega)
      · exact List.mem_range.2 (by have := (h.ref r hr).2; omega)
    rw [List.length_range, List.length_cons] at h3
    omega
theorem Inv.of_inR (h : Inv w sb cb rb tb v cap nv N R) {r : Int} (hr : inR R r = true) : ∃ q : Nat, r = q ∧ inN N q ∧ q ∈ R := by
  obtain ⟨q, hq, e⟩ := inR_iff.1 hr
  exact ⟨q, e.symm, h.ref q hq, hq⟩
theorem open0 (h : Inv w sb cb rb tb v cap nv N R) : Calls Try.prog 44 #[.pointer (some ⟨sb, 0, none⟩), .slice none 0 0] w fun e w' =>
    e = .returned (.tuple #[.pointer (some ⟨cb, 0, none⟩), .int .i64 0]) ∧ Below w.heap.size w w' :=
  open_any none [] 0 w h.mem (fun j hj => absurd hj (by simp)) (by simp) (by simp)
theorem open1 (h : Inv w sb cb rb tb v cap nv N R) {r : Int} (hi : IntOk r) (X : World) (hX : Below w.heap.size w X) (b : Nat) (hc : X.cell? ⟨b, 0, none⟩ = some (.int .i64 r)) (hr : inR R r = true) :
    Calls Try.prog 44 #[.pointer (some ⟨sb, 0, none⟩), .slice (some ⟨b, 0, none⟩) 1 1] X fun e w' => e = .returned (.tuple #[.pointer (some ⟨cb, 0, none⟩), .int .i64 0]) ∧ Below X.heap.size X w' := by
  have := open_any (some ⟨b, 0, none⟩) [r] 1 X (h.below hX).mem (fun j hj => ⟨_, rfl, World.block_lt_of_cell? X _ hc, by obtain rfl : j = 0 := (by simp at hj; exact hj); exact hc⟩) (by simp) (by simpa using hi)
  have e : chk R [r] = 0 := by unfold chk; simp [hr]
  rw [e] at this
  exact this
theorem open1_no (h : Inv w sb cb rb tb v cap nv N R) {r : Int} (hi : IntOk r) (X : World) (hX : Below w.heap.size w X) (b : Nat) (hc : X.cell? ⟨b, 0, none⟩ = some (.int .i64 r)) (hr : inR R r = false) :
    Calls Try.prog 44 #[.pointer (some ⟨sb, 0, none⟩), .slice (some ⟨b, 0, none⟩) 1 1] X fun e w' => e = .returned (.tuple #[.pointer none, .int .i64 8]) ∧ Below X.heap.size X w' := by
  have := open_any (some ⟨b, 0, none⟩) [r] 1 X (h.below hX).mem (fun j hj => ⟨_, rfl, World.block_lt_of_cell? X _ hc, by obtain rfl : j = 0 := (by simp at hj; exact hj); exact hc⟩) (by simp) (by simpa using hi)
  have e : chk R [r] = 8 := by unfold chk; simp [hr]
  rw [e] at this
  exact this
end
section
variable {sb cb rb tb v cap : Nat} {nv : Value} {N : List Nd} {R : List Nat}
theorem Vars_any (w : World) (h : Inv w sb cb rb tb v cap nv N R) :
    Calls Try.prog 15 #[.pointer (some ⟨sb, 0, none⟩)] w fun e w' => e = .returned (.int .i64 v) ∧ Below w.heap.size w w' := by
  have HO := Lib.hid (open0 h)
  have HI := Lib.hid h
  clear h
  go_enter Try.func15, Try.ntmps15
  go_wp2_with (go_at_call 44; ((with_reducible refine HO.out.mono ?_); rintro e w1 ⟨rfl, hb⟩); obtain ⟨c0, c1, c2, c3, c4, c5⟩ := (HI.out.below hb).mem.cells)
  go_ret
  exact ⟨rfl, hb⟩
theorem Nodes_any (w : World) (h : Inv w sb cb rb tb v cap nv N R) :
    Calls Try.prog 13 #[.pointer (some ⟨sb, 0, none⟩)] w fun e w' => e = .returned (.tuple #[.int .i64 (N.length : Nat), .int .i64 0]) ∧ Below w.heap.size w w' := by
  have HO := Lib.hid (open0 h)
  have HI := Lib.hid h
  obtain ⟨A, cA, rfl, _⟩ := h.mem.form
  clear h
  go_enter Try.func13, Try.ntmps13
  go_wp2_with (go_at_call 44; ((with_reducible refine HO.out.mono ?_); rintro e w1 ⟨rfl, hb⟩); obtain ⟨c0, c1, c2, c3, c4, c5⟩ := (HI.out.below hb).mem.cells)
  go_ret2
  exact ⟨rfl, hb⟩
set_option maxHeartbeats 1000000 in
theorem Eval_yes (w : World) (h : Inv w sb cb rb tb v cap nv N R) (q x : Nat) (hq : q ∈ R) (hx : x < 256) :
    Calls Try.prog 23 #[.pointer (some ⟨sb, 0, none⟩), .int .i64 q, .int .u8 x] w fun e w' =>
      e = .returned (.tuple #[.int .i64 (if x < 2 ^ v then den v N q x else 0), .int .i64 (if x < 2 ^ v then 0 else 1)]) ∧ Below w.heap.size w w' := by
  have hin := h.ref q hq
  have hq4 : q ≤ 4096 := by have := hin.2; have := h.len; have := h.cap4; omega
  have HO := Lib.hid fun X hX b hc => open1 h (r := (q : Int)) ⟨by omega, by omega⟩ X hX b hc (inR_iff.2 ⟨q, hq, rfl⟩)
  have HL := Lib.hid fun X hX => letters_any X (h.below hX).mem h.v6
  have HI := Lib.hid h
  have h64 := pow7 h.v6
  have hsz : w.heap.size < (w.alloc (.cells #[.int .i64 q] 46)).heap.size := by simp
  by_cases hlt : x < 2 ^ v
  · have HE := Lib.hid fun X hX => eval_any q x X (h.below hX).mem h.wf h.v6 hin (by have := h.len; have := h.cap4; omega) hlt
    rw [if_pos hlt, if_pos hlt]
    clear h hin hq
    have hd : decide (((2 ^ v : Nat) : Int) ≤ (x : Int)) = false := decide_eq_false (by omega)
    generalize 2 ^ v = K at *
    generalize den v N q x = y at *
    go_enter Try.func23, Try.ntmps23
    go_wp2_with (first
      | (go_at_call 44; ((with_reducible refine (HO.out _ (bal (Below.refl _ _) _) _ (cell_of_one (MapKept.heap_alloc w _).1)).mono ?_); rintro e w1 ⟨rfl, hb⟩); have hb1 := stepB (bal (Below.refl _ _) _) hb)
      | (go_at_call 46; ((with_reducible refine (HL.out w1 hb1).mono ?_); rintro e w2 ⟨rfl, rfl⟩))
      | (go_at_call 47; ((with_reducible refine (HE.out w1 hb1).mono ?_); rintro e w2 ⟨rfl, hb2⟩)))
    go_ret2
    exact ⟨rfl, stepB hb1 hb2⟩
  · rw [if_neg hlt, if_neg hlt]
    clear h hin hq
    have hd : decide (((2 ^ v : Nat) : Int) ≤ (x : Int)) = true := decide_eq_true (by omega)
    generalize 2 ^ v = K at *
    go_enter Try.func23, Try.ntmps23
    go_wp2_with (first
      | (go_at_call 44; ((with_reducible refine (HO.out _ (bal (Below.refl _ _) _) _ (cell_of_one (MapKept.heap_alloc w _).1)).mono ?_); rintro e w1 ⟨rfl, hb⟩); have hb1 := stepB (bal (Below.refl _ _) _) hb)
      | (go_at_call 46; ((with_reducible refine (HL.out w1 hb1).mono ?_); rintro e w2 ⟨rfl, rfl⟩)))
    go_ret2
    exact ⟨rfl, hb1⟩
theorem Eval_no (w : World) (h : Inv w sb cb rb tb v cap nv N R) (r : Int) (x : Nat) (hi : IntOk r) (hr : inR R r = false) :
    Calls Try.prog 23 #[.pointer (some ⟨sb, 0, none⟩), .int .i64 r, .int .u8 x] w fun e w' => e = .returned (.tuple #[.int .i64 0, .int .i64 8]) ∧ Below w.heap.size w w' := by
  have HO := Lib.hid fun X hX b hc => open1_no h hi X hX b hc hr
  clear h hr
  go_enter Try.func23, Try.ntmps23
  go_wp2_with (go_at_call 44; ((with_reducible refine (HO.out _ (bal (Below.refl _ _) _) _ (cell_of_one (MapKept.heap_alloc w _).1)).mono ?_); rintro e w1 ⟨rfl, hb⟩); have hb1 := stepB (bal (Below.refl _ _) _) hb)
  go_ret2
  exact ⟨rfl, hb1⟩
theorem Table_no (w : World) (h : Inv w sb cb rb tb v cap nv N R) (r : Int) (hi : IntOk r) (hr : inR R r = false) :
    Calls Try.prog 16 #[.pointer (some ⟨sb, 0, none⟩), .int .i64 r] w fun e w' => e = .returned (.tuple #[.slice none 0 0, .int .i64 8]) ∧ Below w.heap.size w w' := by
  have HO := Lib.hid fun X hX b hc => open1_no h hi X hX b hc hr
  clear h hr
  go_enter Try.func16, Try.ntmps16
  go_wp2_with (go_at_call 44; ((with_reducible refine (HO.out _ (bal (Below.refl _ _) _) _ (cell_of_one (MapKept.heap_alloc w _).1)).mono ?_); rintro e w1 ⟨rfl, hb⟩); have hb1 := stepB (bal (Below.refl _ _) _) hb)
  go_ret2
  exact ⟨rfl, hb1⟩
theorem Size_no (w : World) (h : Inv w sb cb rb tb v cap nv N R) (r : Int) (hi : IntOk r) (hr : inR R r = false) :
    Calls Try.prog 19 #[.pointer (some ⟨sb, 0, none⟩), .int .i64 r] w fun e w' => e = .returned (.tuple #[.int .i64 0, .int .i64 8]) ∧ Below w.heap.size w w' := by
  have HO := Lib.hid fun X hX b hc => open1_no h hi X hX b hc hr
  clear h hr
  go_enter Try.func19, Try.ntmps19
  go_wp2_with (go_at_call 44; ((with_reducible refine (HO.out _ (bal (Below.refl _ _) _) _ (cell_of_one (MapKept.heap_alloc w _).1)).mono ?_); rintro e w1 ⟨rfl, hb⟩); have hb1 := stepB (bal (Below.refl _ _) _) hb)
  go_ret2
  exact ⟨rfl, hb1⟩
theorem Count_no (w : World) (h : Inv w sb cb rb tb v cap nv N R) (r : Int) (z : Int) (hi : IntOk r) (hr : inR R r = false) :
    Calls Try.prog 20 #[.pointer (some ⟨sb, 0, none⟩), .int .i64 r, .int .i64 z] w fun e w' => e = .returned (.tuple #[.int .i64 0, .int .i64 8]) ∧ Below w.heap.size w w' := by
  have HO := Lib.hid fun X hX b hc => open1_no h hi X hX b hc hr
  clear h hr
  go_enter Try.func20, Try.ntmps20
  go_wp2_with (go_at_call 44; ((with_reducible refine (HO.out _ (bal (Below.refl _ _) _) _ (cell_of_one (MapKept.heap_alloc w _).1)).mono ?_); rintro e w1 ⟨rfl, hb⟩); have hb1 := stepB (bal (Below.refl _ _) _) hb)
  go_ret2
  exact ⟨rfl, hb1⟩
/-- The table of node q. -/
def tabD (v : Nat) (N : List Nd) (q : Nat) : List Int := (List.range (2 ^ v)).map fun x => den v N q x
theorem tabD_len (v : Nat) (N : List Nd) (q : Nat) : (tabD v N q).length = 2 ^ v := by simp [tabD]
theorem tabD_nd {v : Nat} {N : List Nd} {q x : Nat} (hx : x < 2 ^ v) : nd (tabD v N q) x = den v N q x := by simp [tabD, nd, hx]
set_option maxHeartbeats 2000000 in
theorem Count_yes (w : World) (h : Inv w sb cb rb tb v cap nv N R) (q : Nat) (z : Int) (hq : q ∈ R) :
    Calls Try.prog 20 #[.pointer (some ⟨sb, 0, none⟩), .int .i64 q, .int .i64 z] w fun e w' =>
      e = .returned (.tuple #[.int .i64 ((tabD v N q).count z : Nat), .int .i64 0]) ∧ Below w.heap.size w w' := by
  have hin := h.ref q hq
  have hq4 : q ≤ 4096 := by have := hin.2; have := h.len; have := h.cap4; omega
  have HO := Lib.hid fun X hX b hc => open1 h (r := (q : Int)) ⟨by omega, by omega⟩ X hX b hc (inR_iff.2 ⟨q, hq, rfl⟩)
  have HL := Lib.hid fun X hX => letters_any X (h.below hX).mem h.v6
  have h64 := pow7 h.v6
  have HE : Hid (∀ (x : Nat) (X : World), x < 2 ^ v → Below w.heap.size w X → Calls Try.prog 47 #[.pointer (some ⟨cb, 0, none⟩), .int .i64 q, .int .u8 x] X fun e w' => e = .returned (.int .i64 (nd (tabD v N q) x)) ∧ Below X.heap.size X w') := fun x X hx hX => by
    rw [tabD_nd hx]
    exact eval_any q x X (h.below hX).mem h.wf h.v6 hin (by have := h.len; have := h.cap4; omega) hx
  have hTl := tabD_len v N q
  generalize tabD v N q = t at *
  have HS : Hid (∀ k, k < 2 ^ v → (t.take (k + 1)).count z = (t.take k).count z + if nd t k = z then 1 else 0) := fun k hk => by
    have hk' : k < t.length := by omega
    rw [List.take_succ_eq_append_getElem hk', List.count_append]
    have : nd t k = t[k] := by simp [nd, hk']
    rw [this, List.count_singleton]
    simp
  have HT := Lib.hid hTl
  clear h hin hq hTl
  generalize 2 ^ v = K at *
  go_enter Try.func20, Try.ntmps20
  go_wp2_with (first
    | (go_at_call 44; ((with_reducible refine (HO.out _ (bal (Below.refl _ _) _) _ (cell_of_one (MapKept.heap_alloc w _).1)).mono ?_); rintro e w1 ⟨rfl, hb⟩); have hb1 := stepB (bal (Below.refl _ _) _) hb; clear hb)
    | (go_at_call 46; ((with_reducible refine (HL.out w1 hb1).mono ?_); rintro e w2 ⟨rfl, rfl⟩)))
  go_loopw [10, 24] (fun m i wr => ∃ k n : Nat, k ≤ K ∧ n ≤ k ∧ i = .int .i64 k ∧ m = .int .i64 n ∧ Hid (n = (t.take k).count z) ∧ Below w.heap.size w wr) (fun _ i _ => K - (intOf i).toNat)
  case atStart => exact ⟨0, 0, by omega, by omega, rfl, rfl, by show _ = _; simp, hb1⟩
  case round =>
    clear hb1
    obtain ⟨k, n, hk, hn, rfl, rfl, HQ, hb⟩ := hrel
    by_cases hkK : k < K
    · have HEk := Lib.hid (HE.out k wr hkK hb)
      have HSk := Lib.hid (HS.out k hkK)
      have hk64 : k < 256 := by omega
      generalize nd t k = y at *
      by_cases hy : y = z
      · have hyb : (y == z) = true := beq_iff_eq.2 hy
        have HF : Hid (n + 1 = (t.take (k + 1)).count z) := by show _ = _; rw [HSk.out, if_pos hy, ← HQ.out]
        clear hy HSk HQ
        go_wp2_with (go_at_call 47; ((with_reducible refine HEk.out.mono ?_); rintro e w2 ⟨rfl, hb2⟩))
        go_roundw
        case rel => exact ⟨k + 1, n + 1, by omega, by omega, by go_num, by go_num, HF, stepB hb hb2⟩
        case measure => simp [intOf]; omega
      · have hyb : (y == z) = false := beq_eq_false_iff_ne.2 hy
        have HF : Hid (n = (t.take (k + 1)).count z) := by show _ = _; rw [HSk.out, if_neg hy, ← HQ.out]; rfl
        clear hy HSk HQ
        go_wp2_with (go_at_call 47; ((with_reducible refine HEk.out.mono ?_); rintro e w2 ⟨rfl, hb2⟩))
        go_roundw
        case rel => exact ⟨k + 1, n, by omega, by omega, by go_num, rfl, HF, stepB hb hb2⟩
        case measure => simp [intOf]; omega
    · obtain rfl : k = K := by omega
      have HF : Hid (((n : Nat) : Int) = ((t.count z : Nat) : Int)) := by
        show _ = _
        rw [HQ.out, List.take_of_length_le (by have := HT.out; omega)]
      go_wp2
      go_ret2
      exact ⟨ret2_of HF.out rfl, hb⟩
end
end Go.Proofs.Ytbhfmeohaoojfaa.Dn
