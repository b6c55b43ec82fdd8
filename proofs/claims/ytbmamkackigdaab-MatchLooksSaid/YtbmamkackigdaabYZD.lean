/- The parser of package regex: its memory, next, take, add, root. -/
import Derived.Test.YtbmamkackigdaabYZC
import Derived.Test.YtbmamkackigdaabQH
namespace Go.Proofs.Ytbmamkackigdaab.Rx
open Go Go.RowKit Go.Proofs.Ytbmamkackigdaab
set_option linter.unusedVariables false
set_option maxRecDepth 100000
/-- Byte number i of a text. -/
def ch (s : ByteArray) (i : Nat) : Nat := (s.data.toList.getD i 0).toNat
theorem ch_at (s : ByteArray) (i : Nat) (h : i < s.size) : s[i].toNat = ch s i := by
  unfold ch
  have h' : i < s.data.toList.length := by simpa using h
  rw [List.getD_eq_getElem?_getD, List.getElem?_eq_getElem h']
  rfl
theorem ch_lt (s : ByteArray) (i : Nat) : ch s i < 256 := UInt8.toNat_lt _
/-- The parser in block pb: its text, its place, its pieces. -/
structure PsAt (w : World) (B pb : Nat) (s : ByteArray) (i : Nat) (v : Value) (l : List Pc) : Prop where
  b : w.heap[pb]? = some (.cells #[.string s, .int .i64 i, v] 115 (0, 0))
  o : w.ownsRow B 43 5 v l.length (pvs l)
  B0 : B ≤ pb
  Bw : B ≤ w.heap.size
section
variable {w w1 : World} {B pb i : Nat} {s : ByteArray} {v v' : Value} {l : List Pc}
theorem PsAt.cells (h : PsAt w B pb s i v l) : w.cell? ⟨pb, 0, none⟩ = some (.string s) ∧ w.cell? ⟨pb, 1, none⟩ = some (.int .i64 i) ∧ w.cell? ⟨pb, 2, none⟩ = some v := by
  refine ⟨?_, ?_, ?_⟩ <;> simp [World.cell?, h.b]
theorem PsAt.free (h : PsAt w B pb s i v l) (k : Nat) : w.frozen? ⟨pb, k, none⟩ = false := by simp [World.frozen?, h.b]
theorem PsAt.lt (h : PsAt w B pb s i v l) : pb < w.heap.size := (Array.getElem?_eq_some_iff.1 h.b).1
theorem PsAt.below (h : PsAt w B pb s i v l) (hb : Below w.heap.size w w1) : PsAt w1 B pb s i v l :=
  ⟨(hb.block pb h.lt).trans h.b, Ap.own_bel h.o hb, h.B0, Nat.le_trans h.Bw hb.size⟩
theorem PsAt.ne (h : PsAt w B pb s i v l) : v.ownBlock ≠ some pb := fun e => by
  rcases h.o.2 with ⟨rfl, _⟩ | ⟨g, cap, cur, rfl, _, hb, _⟩
  · cases e
  · cases e
    have := h.b
    rw [hb] at this
    simp at this
/-- Another place. -/
theorem PsAt.move (h : PsAt w B pb s i v l) (k : Nat) : PsAt (w.setCell ⟨pb, 1, none⟩ (.int .i64 k)) B pb s k v l := by
  have hs : ∀ g, g ≠ pb → (w.setCell ⟨pb, 1, none⟩ (.int .i64 k)).heap[g]? = w.heap[g]? := fun g hg => Below.heap_setCell w _ _ g hg
  refine ⟨heap_set h.b 1 _, ⟨h.o.1, ?_⟩, h.B0, by show _ ≤ (w.heap.modify _ _).size; rw [Array.size_modify]; exact h.Bw⟩
  rcases h.o.2 with h0 | ⟨g, cap, cur, hv, hg, hc, rest⟩
  · exact .inl h0
  · exact .inr ⟨g, cap, cur, hv, hg, (hs g (fun e => h.ne (by rw [hv, ← e]; rfl))).trans hc, rest⟩
theorem PsAt.fr_move (h : PsAt w B pb s i v l) (k : Nat) : Fr pb v v w (w.setCell ⟨pb, 1, none⟩ (.int .i64 k)) := (Fr.of_below (Below.refl _ _)).set ⟨pb, 1, none⟩ (.inl rfl) _
/-- Below the first world nothing has changed. -/
theorem PsAt.bel (h : PsAt w B pb s i v l) (hf : Fr pb v v' w w1) : Below B w w1 := hf.below h.Bw h.B0 (row_ge h.o)
theorem ps_appended {z : Pc} {tmp : Obj} (h : PsAt w B pb s i v l)
    (hown : w1.ownsRow B 43 5 v' (l.length + 1) (pvs l ++ pv z)) (hg : (w.alloc tmp).grownBy w1 v.ownBlock) (hob : v'.ownBlock = v.ownBlock ∨ v'.ownBlock = some (w.alloc tmp).heap.size) :
    w1.cell? ⟨pb, 2, none⟩ = some v ∧ w1.frozen? ⟨pb, 2, none⟩ = false ∧ PsAt (w1.setCell ⟨pb, 2, none⟩ v') B pb s i v' (l ++ [z]) ∧ Fr pb v v' w (w1.setCell ⟨pb, 2, none⟩ v') := by
  have hb := (Below.refl w.heap.size w).alloc (Nat.le_refl _) tmp
  have h1 : w1.heap[pb]? = some (.cells #[.string s, .int .i64 i, v] 115 (0, 0)) := ((hg.block pb (Nat.lt_of_lt_of_le h.lt hb.size) (fun e => h.ne e.symm)).trans (hb.block pb h.lt)).trans h.b
  have hne : v'.ownBlock ≠ some pb := fun e => by
    rcases hown.2 with ⟨rfl, _⟩ | ⟨g, cap, cur, rfl, _, hb, _⟩
    · cases e
    · cases e
      rw [hb] at h1
      simp at h1
  have hs : ∀ k, k ≠ pb → (w1.setCell ⟨pb, 2, none⟩ v').heap[k]? = w1.heap[k]? := fun k hk => Below.heap_setCell w1 _ v' k hk
  refine ⟨by simp [World.cell?, h1], by simp [World.frozen?, h1], ⟨heap_set h1 2 v', ?_, h.B0, ?_⟩, (Fr.grown hg hob).set ⟨pb, 2, none⟩ (.inl rfl) v'⟩
  · rw [List.length_append, pvs_snoc]
    refine ⟨hown.1, ?_⟩
    rcases hown.2 with h0 | ⟨g, cap, cur, hv, hge, hc, rest⟩
    · exact .inl h0
    · exact .inr ⟨g, cap, cur, hv, hge, (hs g (fun e => hne (by rw [hv, ← e]; rfl))).trans hc, rest⟩
  · show _ ≤ (w1.heap.modify _ _).size
    rw [Array.size_modify]
    exact Nat.le_trans h.Bw (Nat.le_trans hb.size hg.size)
end
def errV (k : Int) : List PanicEntry := [{ v := .iface 26 (.int .i64 k), recovered := false }]
set_option maxHeartbeats 4000000 in
theorem next_ok (B pb : Nat) (s : ByteArray) (i : Nat) (v : Value) (l : List Pc) (w : World) (h : PsAt w B pb s i v l) (hs : s.size ≤ 5000) (hi : i < s.size) :
    Calls Try.prog 119 #[.pointer (some ⟨pb, 0, none⟩)] w fun e w' => e = .returned (.int .u8 (ch s i)) ∧ Below w.heap.size w w' := by
  obtain ⟨c0, c1, c2⟩ := h.cells
  have hne : ((i : Int) == (s.size : Int)) = false := by rw [beq_eq_false_iff_ne]; omega
  have hx := Lib.hid (ch_at s i hi)
  have hi2 : (i : Int) < s.size := by omega
  clear h
  go_enter Try.func119, Try.ntmps119
  go_wp2
  go_quiet (fail)
  go_wp2
  go_quiet (fail)
  go_wp2
  go_ret
  exact ⟨by rw [← hx.out]; rfl, stepB (Ap.drewN_below _ _) (Ap.drewN_below _ _)⟩
set_option maxHeartbeats 4000000 in
theorem next_end (B pb : Nat) (s : ByteArray) (v : Value) (l : List Pc) (w : World) (h : PsAt w B pb s s.size v l) (hs : s.size ≤ 5000) :
    Calls Try.prog 119 #[.pointer (some ⟨pb, 0, none⟩)] w fun e w' => e = .panicked (errV 3) ∧ Below w.heap.size w w' := by
  obtain ⟨c0, c1, c2⟩ := h.cells
  have hne : ((s.size : Int) == (s.size : Int)) = true := by rw [beq_iff_eq]
  clear h
  go_enter Try.func119, Try.ntmps119
  go_wp2
  go_quiet (fail)
  go_wp2
  exact ⟨rfl, rfl, Ap.drewN_below _ _⟩
set_option maxHeartbeats 4000000 in
theorem take_ok (B pb : Nat) (s : ByteArray) (i : Nat) (v : Value) (l : List Pc) (w : World) (h : PsAt w B pb s i v l) (hs : s.size ≤ 5000) (hi : i < s.size) :
    Calls Try.prog 103 #[.pointer (some ⟨pb, 0, none⟩)] w fun e w' => e = .returned (.int .u8 (ch s i)) ∧ PsAt w' B pb s (i + 1) v l ∧ Fr pb v v w w' := by
  have HN := Lib.hid (next_ok B pb s i v l w h hs hi)
  have HP := Lib.hid fun X (hX : Below w.heap.size w X) => h.below hX
  clear h
  go_enter Try.func103, Try.ntmps103
  go_wp2_with (go_at_call 119; ((with_reducible refine HN.out.mono ?_); rintro r w1 ⟨rfl, hb1⟩); have hP1 := HP.out _ hb1; obtain ⟨c0, c1, c2⟩ := hP1.cells; have f1 := hP1.free 1; have HP1 := Lib.hid hP1; clear hP1)
  go_ret
  have := HP1.out.move (i + 1)
  rw [show (((i + 1 : Nat) : Int)) = (i : Int) + 1 by omega] at this
  exact ⟨rfl, this, (Fr.of_below hb1).trans (by have h := HP1.out.fr_move (i + 1); rwa [show (((i + 1 : Nat) : Int)) = (i : Int) + 1 by omega] at h)⟩
set_option maxHeartbeats 4000000 in
theorem take_end (B pb : Nat) (s : ByteArray) (v : Value) (l : List Pc) (w : World) (h : PsAt w B pb s s.size v l) (hs : s.size ≤ 5000) :
    Calls Try.prog 103 #[.pointer (some ⟨pb, 0, none⟩)] w fun e w' => e = .panicked (errV 3) ∧ Below w.heap.size w w' := by
  have HN := Lib.hid (next_end B pb s v l w h hs)
  clear h
  go_enter Try.func103, Try.ntmps103
  go_wp2_with (go_at_call 119; ((with_reducible refine HN.out.mono ?_); rintro r w1 ⟨rfl, hb1⟩))
  exact ⟨rfl, rfl, hb1⟩
set_option maxHeartbeats 4000000 in
theorem root_any (B pb : Nat) (s : ByteArray) (i : Nat) (v : Value) (l : List Pc) (w : World) (h : PsAt w B pb s i v l) (hl : l.length ≤ 100000) :
    Calls Try.prog 155 #[.pointer (some ⟨pb, 0, none⟩)] w fun e w' => e = .returned (.int .i64 ((l.length : Int) - 1)) ∧ w = w' := by
  obtain ⟨c0, c1, c2⟩ := h.cells
  obtain ⟨A', c', rfl, _⟩ := Ap.own_form h.o
  clear h
  generalize l.length = n at *
  go_enter Try.func155, Try.ntmps155
  go_wp2
  go_ret
  exact ⟨rfl, rfl⟩
set_option maxHeartbeats 8000000 in
theorem add_any (B pb : Nat) (s : ByteArray) (i : Nat) (v : Value) (l : List Pc) (x : Pc) (w : World) (h : PsAt w B pb s i v l) (hl : l.length ≤ 100000) :
    Calls Try.prog 104 #[.pointer (some ⟨pb, 0, none⟩), agv x] w fun e w' => e = .returned (.tuple #[]) ∧ ∃ v', PsAt w' B pb s i v' (l ++ [x]) ∧ Fr pb v v' w w' := by
  obtain ⟨i0, hi0, hz0, hz1, hz2⟩ := info_parts info_piece
  have hw0 := bal (Below.refl w.heap.size w) (.cells (pv x).toArray 43)
  have hP := h.below hw0
  have hbx := Bx5.new w x
  have HW0 := Lib.hid hw0
  obtain ⟨op, p, q, a, b⟩ := x
  unfold agv
  simp only
  go_enter Try.func104, Try.ntmps104
  go_upto_region 1 with fail
  change Code.wp _ _ _ _ (w.alloc (.cells (pv ⟨op, p, q, a, b⟩).toArray 43))
  have hn0 : w.heap.size < (w.alloc (.cells (pv ⟨op, p, q, a, b⟩).toArray 43)).heap.size := by simp
  generalize w.alloc (.cells (pv ⟨op, p, q, a, b⟩).toArray 43) = w1 at *
  obtain ⟨c0, c1, c2⟩ := hP.cells
  obtain ⟨b0, b1, b2, b3, b4⟩ := hbx.cells
  simp only at b0 b1 b2 b3 b4
  have HP := Lib.hid hP
  have HP2 := Lib.hid (hP.below (drew_below w1))
  have hpl := hP.lt
  clear h hw0 hP hbx
  refine wp_region_any (by kernel_rfl) ?_
  change wpAny _ _ _ _ _ _ _ (World.drew _)
  refine wpAny_take (i := 0) (v := ?_) (at_drop rfl) (by kernel_rfl) (by kernel_rfl) (by kernel_rfl) (fun _ _ _ h => h) (Or.inl ⟨by rfl, ?_⟩) ?_
  rotate_left
  · (intro w; go_simp <;> with_reducible rfl)
  simp only [Act.put, List.setIfInBounds_toArray, List.set_cons_zero, List.set_cons_succ]
  refine wpAny_take (i := 1) (v := ?_) (at_drop rfl) (by kernel_rfl) (by kernel_rfl) (by kernel_rfl) (fun _ _ _ h => h) (Or.inl ⟨by rfl, ?_⟩) ?_
  rotate_left
  · (intro w; go_simp <;> with_reducible rfl)
  simp only [Act.put, List.setIfInBounds_toArray, List.set_cons_zero, List.set_cons_succ]
  refine wpAny_take (i := 2) (v := ?_) (at_drop rfl) (by kernel_rfl) (by kernel_rfl) (by kernel_rfl) (fun _ _ _ h => h) (Or.inl ⟨by rfl, ?_⟩) ?_
  rotate_left
  · (intro w; go_simp <;> with_reducible rfl)
  simp only [Act.put, List.setIfInBounds_toArray, List.set_cons_zero, List.set_cons_succ]
  refine wpAny_take (i := 3) (v := ?_) (at_drop rfl) (by kernel_rfl) (by kernel_rfl) (by kernel_rfl) (fun _ _ _ h => h) (Or.inl ⟨by rfl, ?_⟩) ?_
  rotate_left
  · (intro w; go_simp <;> with_reducible rfl)
  simp only [Act.put, List.setIfInBounds_toArray, List.set_cons_zero, List.set_cons_succ]
  have hS0 : (fun X : World => X.cell? ⟨pb, 2, none⟩ = some v ∧ X.cell? ⟨w.heap.size, 0, none⟩ = some (.int .u8 op) ∧ X.cell? ⟨w.heap.size, 1, none⟩ = some (.int .u8 p) ∧ X.cell? ⟨w.heap.size, 2, none⟩ = some (.int .u8 q) ∧ X.cell? ⟨w.heap.size, 3, none⟩ = some (.int .i64 a) ∧ X.cell? ⟨w.heap.size, 4, none⟩ = some (.int .i64 b)) w1.drew := ⟨c2, b0, b1, b2, b3, b4⟩
  have hlY : ∀ Y : World, Below w1.heap.size w1 Y → (fun X : World => X.cell? ⟨pb, 2, none⟩ = some v ∧ X.cell? ⟨w.heap.size, 0, none⟩ = some (.int .u8 op) ∧ X.cell? ⟨w.heap.size, 1, none⟩ = some (.int .u8 p) ∧ X.cell? ⟨w.heap.size, 2, none⟩ = some (.int .u8 q) ∧ X.cell? ⟨w.heap.size, 3, none⟩ = some (.int .i64 a) ∧ X.cell? ⟨w.heap.size, 4, none⟩ = some (.int .i64 b)) Y := fun Y hY => ⟨(hY.cell (p := ⟨pb, 2, none⟩) hpl).trans c2, (hY.cell (p := ⟨w.heap.size, 0, none⟩) hn0).trans b0, (hY.cell (p := ⟨w.heap.size, 1, none⟩) hn0).trans b1, (hY.cell (p := ⟨w.heap.size, 2, none⟩) hn0).trans b2, (hY.cell (p := ⟨w.heap.size, 3, none⟩) hn0).trans b3, (hY.cell (p := ⟨w.heap.size, 4, none⟩) hn0).trans b4⟩
  refine wpAny_head 7 3 (fun X : World => X.cell? ⟨pb, 2, none⟩ = some v ∧ X.cell? ⟨w.heap.size, 0, none⟩ = some (.int .u8 op) ∧ X.cell? ⟨w.heap.size, 1, none⟩ = some (.int .u8 p) ∧ X.cell? ⟨w.heap.size, 2, none⟩ = some (.int .u8 q) ∧ X.cell? ⟨w.heap.size, 3, none⟩ = some (.int .i64 a) ∧ X.cell? ⟨w.heap.size, 4, none⟩ = some (.int .i64 b)) rfl rfl (by kernel_rfl) (by kernel_rfl) (by kernel_rfl) (fun hA => ?_)
  refine wpHead_take (i := 4) (v := ?_) (by kernel_rfl) hA (at_drop rfl) (by decide) (by kernel_rfl) (by kernel_rfl) (by kernel_rfl) (fun _ _ _ h => h) (Or.inl ⟨by rfl, ?_⟩) hS0 (fun hA => ?_)
  rotate_left
  · (intro w hSw; obtain ⟨s0, s1, s2, s3, s4, s5⟩ := hSw; go_simp <;> with_reducible rfl)
  simp only [Act.put, List.setIfInBounds_toArray, List.set_cons_zero, List.set_cons_succ]
  refine wpHead_take (i := 5) (v := ?_) (by kernel_rfl) hA (at_drop rfl) (by decide) (by kernel_rfl) (by kernel_rfl) (by kernel_rfl) (fun _ _ _ h => h) (Or.inl ⟨by rfl, ?_⟩) hS0 (fun hA => ?_)
  rotate_left
  · (intro w hSw; obtain ⟨s0, s1, s2, s3, s4, s5⟩ := hSw; go_simp <;> with_reducible rfl)
  simp only [Act.put, List.setIfInBounds_toArray, List.set_cons_zero, List.set_cons_succ]
  refine wpHead_ready (rs := [6]) (by kernel_rfl) (by decide) (AllHead.cons (at_drop rfl) (by decide) (fun KK hK => ?_) AllHead.nil)
  go_simp
  refine hK _ _ (hlY _ (bal (drew_below w1) _)) ?_
  clear hK KK
  refine wpHead_end (by kernel_rfl) ?_
  simp only [List.drop_succ_cons, List.drop_zero]
  have own2 := Lib.hid HP2.out.o
  have hBw := HP.out.Bw
  clear hlY c0 c1 c2 b0 b1 b2 b3 b4 hS0 hA
  go_wp2_with (at_builtin; refine wpList_append_own_at _ rfl _ _ 23 rfl B 43 i0 _ 5 24 Try.underlying23 hi0 hz0 hz1 hz2 rfl (by decide) v l.length (pvs l) rfl (Ap.own_bel HP.out.o (stepB (bal (Below.refl w1.heap.size w1) _) (drew_below _))) ⟨w1.heap.size, 0, none⟩ 1 1 [.int .u8 op, .int .u8 p, .int .u8 q, .int .i64 a, .int .i64 b] rfl rfl (fun j u hu => cells_new w1 _ 43 j u hu) (by simp [Value.oneCell']) (by unfold maxLen; omega) (by omega) (by simp; omega) ?_; intro v' w6 hown' hgrow _ hob; obtain ⟨A', c', rfl, _⟩ := Ap.own_form hown'; obtain ⟨q0, q1, hC6, hF6⟩ := ps_appended (z := ⟨op, p, q, a, b⟩) HP.out hown' ⟨hgrow.os, hgrow.tape, hgrow.output, hgrow.size, hgrow.block⟩ hob; clear hown' hgrow hob)
  go_end0
  exact ⟨rfl, _, hC6, (Fr.of_below HW0.out).trans hF6⟩
end Go.Proofs.Ytbmamkackigdaab.Rx
