/- The parser of package regex: its memory, next, take, add, root. -/
import Derived.Test.YteckkbjpeckjmaaYZC
import Derived.Test.YteckkbjpeckjmaaQH
import Derived.Test.YteckkbjpeckjmaaYE
import Derived.Test.YteckkbjpeckjmaaYM
import Derived.Deep.LoopGhost
import Derived.IntWalk
namespace Go.Proofs.Yteckkbjpeckjmaa.Rx
open Go Go.RowKit Go.Proofs.Yteckkbjpeckjmaa
set_option linter.unusedVariables false
set_option maxRecDepth 100000
/-- Byte number i of a text. -/
def ch (s : ByteArray) (i : Nat) : Nat := (s.data.toList.getD i 0).toNat
theorem ch_at (s : ByteArray) (i : Nat) (h : i < s.size) : s[i].toNat = ch s i := by
  unfold ch
  have h' : i < s.data.toList.length := by simpa using h
  rw [List.getD_eq_getElem?_getD, List.getElem?_eq_getElem h']
  rfl
theorem ch_lt (s : ByteArray) (i : Nat) : ch s i < 256 := UInt8.toNat_lt _
/-- The parser in block pb: its text, its place, its pieces. -/
structure PsAt (w : World) (B pb : Nat) (s : ByteArray) (i : Nat) (v : Value) (l : List Pc) : Prop where
  b : w.heap[pb]? = some (.cells #[.string s, .int .i64 i, v] 84 (0, 0))
  o : w.ownsRow B 32 5 v l.length (pvs l)
  B0 : B ≤ pb
  Bw : B ≤ w.heap.size
section
variable {w w1 : World} {B pb i : Nat} {s : ByteArray} {v v' : Value} {l : List Pc}
theorem PsAt.cells (h : PsAt w B pb s i v l) : w.cell? ⟨pb, 0, none⟩ = some (.string s) ∧ w.cell? ⟨pb, 1, none⟩ = some (.int .i64 i) ∧ w.cell? ⟨pb, 2, none⟩ = some v := by
  refine ⟨?_, ?_, ?_⟩ <;> simp [World.cell?, h.b]
theorem PsAt.free (h : PsAt w B pb s i v l) (k : Nat) : w.frozen? ⟨pb, k, none⟩ = false := by simp [World.frozen?, h.b]
theorem PsAt.lt (h : PsAt w B pb s i v l) : pb < w.heap.size := (Array.getElem?_eq_some_iff.1 h.b).1
theorem PsAt.below (h : PsAt w B pb s i v l) (hb : Below w.heap.size w w1) : PsAt w1 B pb s i v l :=
  ⟨(hb.block pb h.lt).trans h.b, Ap.own_bel h.o hb, h.B0, Nat.le_trans h.Bw hb.size⟩
theorem PsAt.ne (h : PsAt w B pb s i v l) : v.ownBlock ≠ some pb := fun e => by
  rcases h.o.2 with ⟨rfl, _⟩ | ⟨g, cap, cur, rfl, _, hb, _⟩
  · cases e
  · cases e
    have := h.b
    rw [hb] at this
    simp at this
/-- Another place. -/
theorem PsAt.move (h : PsAt w B pb s i v l) (k : Nat) : PsAt (w.setCell ⟨pb, 1, none⟩ (.int .i64 k)) B pb s k v l := by
  have hs : ∀ g, g ≠ pb → (w.setCell ⟨pb, 1, none⟩ (.int .i64 k)).heap[g]? = w.heap[g]? := fun g hg => Below.heap_setCell w _ _ g hg
  refine ⟨heap_set h.b 1 _, ⟨h.o.1, ?_⟩, h.B0, by show _ ≤ (w.heap.modify _ _).size; rw [Array.size_modify]; exact h.Bw⟩
  rcases h.o.2 with h0 | ⟨g, cap, cur, hv, hg, hc, rest⟩
  · exact .inl h0
  · exact .inr ⟨g, cap, cur, hv, hg, (hs g (fun e => h.ne (by rw [hv, ← e]; rfl))).trans hc, rest⟩
theorem PsAt.fr_move (h : PsAt w B pb s i v l) (k : Nat) : Fr pb v v w (w.setCell ⟨pb, 1, none⟩ (.int .i64 k)) := (Fr.of_below (Below.refl _ _)).set ⟨pb, 1, none⟩ (.inl rfl) _
/-- Below the first world nothing has changed. -/
theorem PsAt.bel (h : PsAt w B pb s i v l) (hf : Fr pb v v' w w1) : Below B w w1 := hf.below h.Bw h.B0 (row_ge h.o)
theorem ps_appended {z : Pc} {tmp : Obj} (h : PsAt w B pb s i v l)
    (hown : w1.ownsRow B 32 5 v' (l.length + 1) (pvs l ++ pv z)) (hg : (w.alloc tmp).grownBy w1 v.ownBlock) (hob : v'.ownBlock = v.ownBlock ∨ v'.ownBlock = some (w.alloc tmp).heap.size) :
    w1.cell? ⟨pb, 2, none⟩ = some v ∧ w1.frozen? ⟨pb, 2, none⟩ = false ∧ PsAt (w1.setCell ⟨pb, 2, none⟩ v') B pb s i v' (l ++ [z]) ∧ Fr pb v v' w (w1.setCell ⟨pb, 2, none⟩ v') := by
  have hb := (Below.refl w.heap.size w).alloc (Nat.le_refl _) tmp
  have h1 : w1.heap[pb]? = some (.cells #[.string s, .int .i64 i, v] 84 (0, 0)) := ((hg.block pb (Nat.lt_of_lt_of_le h.lt hb.size) (fun e => h.ne e.symm)).trans (hb.block pb h.lt)).trans h.b
  have hne : v'.ownBlock ≠ some pb := fun e => by
    rcases hown.2 with ⟨rfl, _⟩ | ⟨g, cap, cur, rfl, _, hb, _⟩
    · cases e
    · cases e
      rw [hb] at h1
      simp at h1
  have hs : ∀ k, k ≠ pb → (w1.setCell ⟨pb, 2, none⟩ v').heap[k]? = w1.heap[k]? := fun k hk => Below.heap_setCell w1 _ v' k hk
  refine ⟨by simp [World.cell?, h1], by simp [World.frozen?, h1], ⟨heap_set h1 2 v', ?_, h.B0, ?_⟩, (Fr.grown hg hob).set ⟨pb, 2, none⟩ (.inl rfl) v'⟩
  · rw [List.length_append, pvs_snoc]
    refine ⟨hown.1, ?_⟩
    rcases hown.2 with h0 | ⟨g, cap, cur, hv, hge, hc, rest⟩
    · exact .inl h0
    · exact .inr ⟨g, cap, cur, hv, hge, (hs g (fun e => hne (by rw [hv, ← e]; rfl))).trans hc, rest⟩
  · show _ ≤ (w1.heap.modify _ _).size
    rw [Array.size_modify]
    exact Nat.le_trans h.Bw (Nat.le_trans hb.size hg.size)
end
def errV (k : Int) : List PanicEntry := [{ v := .iface 23 (.int .i64 k), recovered := false }]
set_option maxHeartbeats 4000000 in
theorem next_ok (B pb : Nat) (s : ByteArray) (i : Nat) (v : Value) (l : List Pc) (w : World) (h : PsAt w B pb s i v l) (hs : s.size ≤ 5000) (hi : i < s.size) :
    Calls Try.prog 101 #[.pointer (some ⟨pb, 0, none⟩)] w fun e w' => e = .returned (.int .u8 (ch s i)) ∧ Below w.heap.size w w' := by
  obtain ⟨c0, c1, c2⟩ := h.cells
  have hne : ((i : Int) == (s.size : Int)) = false := by rw [beq_eq_false_iff_ne]; omega
  have hx := Lib.hid (ch_at s i hi)
  have hi2 : (i : Int) < s.size := by omega
  clear h
  go_enter Try.func101, Try.ntmps101
  go_wp2
  go_quiet (fail)
  go_wp2
  go_quiet (fail)
  go_wp2
  go_ret
  exact ⟨by rw [← hx.out]; rfl, stepB (Ap.drewN_below _ _) (Ap.drewN_below _ _)⟩
set_option maxHeartbeats 4000000 in
theorem next_end (B pb : Nat) (s : ByteArray) (v : Value) (l : List Pc) (w : World) (h : PsAt w B pb s s.size v l) (hs : s.size ≤ 5000) :
    Calls Try.prog 101 #[.pointer (some ⟨pb, 0, none⟩)] w fun e w' => e = .panicked (errV 3) ∧ Below w.heap.size w w' := by
  obtain ⟨c0, c1, c2⟩ := h.cells
  have hne : ((s.size : Int) == (s.size : Int)) = true := by rw [beq_iff_eq]
  clear h
  go_enter Try.func101, Try.ntmps101
  go_wp2
  go_quiet (fail)
  go_wp2
  exact ⟨rfl, rfl, Ap.drewN_below _ _⟩
set_option maxHeartbeats 4000000 in
theorem take_ok (B pb : Nat) (s : ByteArray) (i : Nat) (v : Value) (l : List Pc) (w : World) (h : PsAt w B pb s i v l) (hs : s.size ≤ 5000) (hi : i < s.size) :
    Calls Try.prog 82 #[.pointer (some ⟨pb, 0, none⟩)] w fun e w' => e = .returned (.int .u8 (ch s i)) ∧ PsAt w' B pb s (i + 1) v l ∧ Fr pb v v w w' := by
  have HN := Lib.hid (next_ok B pb s i v l w h hs hi)
  have HP := Lib.hid fun X (hX : Below w.heap.size w X) => h.below hX
  clear h
  go_enter Try.func82, Try.ntmps82
  go_wp2_with (go_at_call 101; ((with_reducible refine HN.out.mono ?_); rintro r w1 ⟨rfl, hb1⟩); have hP1 := HP.out _ hb1; obtain ⟨c0, c1, c2⟩ := hP1.cells; have f1 := hP1.free 1; have HP1 := Lib.hid hP1; clear hP1)
  go_ret
  have := HP1.out.move (i + 1)
  rw [show (((i + 1 : Nat) : Int)) = (i : Int) + 1 by omega] at this
  exact ⟨rfl, this, (Fr.of_below hb1).trans (by have h := HP1.out.fr_move (i + 1); rwa [show (((i + 1 : Nat) : Int)) = (i : Int) + 1 by omega] at h)⟩
set_option maxHeartbeats 4000000 in
theorem take_end (B pb : Nat) (s : ByteArray) (v : Value) (l : List Pc) (w : World) (h : PsAt w B pb s s.size v l) (hs : s.size ≤ 5000) :
    Calls Try.prog 82 #[.pointer (some ⟨pb, 0, none⟩)] w fun e w' => e = .panicked (errV 3) ∧ Below w.heap.size w w' := by
  have HN := Lib.hid (next_end B pb s v l w h hs)
  clear h
  go_enter Try.func82, Try.ntmps82
  go_wp2_with (go_at_call 101; ((with_reducible refine HN.out.mono ?_); rintro r w1 ⟨rfl, hb1⟩))
  exact ⟨rfl, rfl, hb1⟩
set_option maxHeartbeats 4000000 in
theorem root_any (B pb : Nat) (s : ByteArray) (i : Nat) (v : Value) (l : List Pc) (w : World) (h : PsAt w B pb s i v l) (hl : l.length ≤ 100000) :
    Calls Try.prog 145 #[.pointer (some ⟨pb, 0, none⟩)] w fun e w' => e = .returned (.int .i64 ((l.length : Int) - 1)) ∧ w = w' := by
  obtain ⟨c0, c1, c2⟩ := h.cells
  obtain ⟨A', c', rfl, _⟩ := Ap.own_form h.o
  clear h
  generalize l.length = n at *
  go_enter Try.func145, Try.ntmps145
  go_wp2
  go_ret
  exact ⟨rfl, rfl⟩
set_option maxHeartbeats 8000000 in
theorem add_any (B pb : Nat) (s : ByteArray) (i : Nat) (v : Value) (l : List Pc) (x : Pc) (w : World) (h : PsAt w B pb s i v l) (hl : l.length ≤ 100000) :
    Calls Try.prog 83 #[.pointer (some ⟨pb, 0, none⟩), agv x] w fun e w' => e = .returned (.tuple #[]) ∧ ∃ v', PsAt w' B pb s i v' (l ++ [x]) ∧ Fr pb v v' w w' := by
  obtain ⟨i0, hi0, hz0, hz1, hz2⟩ := info_parts info_piece
  have hw0 := bal (Below.refl w.heap.size w) (.cells (pv x).toArray 32)
  have hP := h.below hw0
  have hbx := Bx5.new w x
  have HW0 := Lib.hid hw0
  obtain ⟨op, p, q, a, b⟩ := x
  unfold agv
  simp only
  go_enter Try.func83, Try.ntmps83
  go_upto_region 1 with fail
  change Code.wp _ _ _ _ (w.alloc (.cells (pv ⟨op, p, q, a, b⟩).toArray 32))
  have hn0 : w.heap.size < (w.alloc (.cells (pv ⟨op, p, q, a, b⟩).toArray 32)).heap.size := by simp
  generalize w.alloc (.cells (pv ⟨op, p, q, a, b⟩).toArray 32) = w1 at *
  obtain ⟨c0, c1, c2⟩ := hP.cells
  obtain ⟨b0, b1, b2, b3, b4⟩ := hbx.cells
  simp only at b0 b1 b2 b3 b4
  have HP := Lib.hid hP
  have HP2 := Lib.hid (hP.below (drew_below w1))
  have hpl := hP.lt
  clear h hw0 hP hbx
  refine wp_region_any (by kernel_rfl) ?_
  change wpAny _ _ _ _ _ _ _ (World.drew _)
  refine wpAny_take (i := 0) (v := ?_) (at_drop rfl) (by kernel_rfl) (by kernel_rfl) (by kernel_rfl) (fun _ _ _ h => h) (Or.inl ⟨by rfl, ?_⟩) ?_
  rotate_left
  · (intro w; go_simp <;> with_reducible rfl)
  simp only [Act.put, List.setIfInBounds_toArray, List.set_cons_zero, List.set_cons_succ]
  refine wpAny_take (i := 1) (v := ?_) (at_drop rfl) (by kernel_rfl) (by kernel_rfl) (by kernel_rfl) (fun _ _ _ h => h) (Or.inl ⟨by rfl, ?_⟩) ?_
  rotate_left
  · (intro w; go_simp <;> with_reducible rfl)
  simp only [Act.put, List.setIfInBounds_toArray, List.set_cons_zero, List.set_cons_succ]
  refine wpAny_take (i := 2) (v := ?_) (at_drop rfl) (by kernel_rfl) (by kernel_rfl) (by kernel_rfl) (fun _ _ _ h => h) (Or.inl ⟨by rfl, ?_⟩) ?_
  rotate_left
  · (intro w; go_simp <;> with_reducible rfl)
  simp only [Act.put, List.setIfInBounds_toArray, List.set_cons_zero, List.set_cons_succ]
  refine wpAny_take (i := 3) (v := ?_) (at_drop rfl) (by kernel_rfl) (by kernel_rfl) (by kernel_rfl) (fun _ _ _ h => h) (Or.inl ⟨by rfl, ?_⟩) ?_
  rotate_left
  · (intro w; go_simp <;> with_reducible rfl)
  simp only [Act.put, List.setIfInBounds_toArray, List.set_cons_zero, List.set_cons_succ]
  have hS0 : (fun X : World => X.cell? ⟨pb, 2, none⟩ = some v ∧ X.cell? ⟨w.heap.size, 0, none⟩ = some (.int .u8 op) ∧ X.cell? ⟨w.heap.size, 1, none⟩ = some (.int .u8 p) ∧ X.cell? ⟨w.heap.size, 2, none⟩ = some (.int .u8 q) ∧ X.cell? ⟨w.heap.size, 3, none⟩ = some (.int .i64 a) ∧ X.cell? ⟨w.heap.size, 4, none⟩ = some (.int .i64 b)) w1.drew := ⟨c2, b0, b1, b2, b3, b4⟩
  have hlY : ∀ Y : World, Below w1.heap.size w1 Y → (fun X : World => X.cell? ⟨pb, 2, none⟩ = some v ∧ X.cell? ⟨w.heap.size, 0, none⟩ = some (.int .u8 op) ∧ X.cell? ⟨w.heap.size, 1, none⟩ = some (.int .u8 p) ∧ X.cell? ⟨w.heap.size, 2, none⟩ = some (.int .u8 q) ∧ X.cell? ⟨w.heap.size, 3, none⟩ = some (.int .i64 a) ∧ X.cell? ⟨w.heap.size, 4, none⟩ = some (.int .i64 b)) Y := fun Y hY => ⟨(hY.cell (p := ⟨pb, 2, none⟩) hpl).trans c2, (hY.cell (p := ⟨w.heap.size, 0, none⟩) hn0).trans b0, (hY.cell (p := ⟨w.heap.size, 1, none⟩) hn0).trans b1, (hY.cell (p := ⟨w.heap.size, 2, none⟩) hn0).trans b2, (hY.cell (p := ⟨w.heap.size, 3, none⟩) hn0).trans b3, (hY.cell (p := ⟨w.heap.size, 4, none⟩) hn0).trans b4⟩
  refine wpAny_head 7 3 (fun X : World => X.cell? ⟨pb, 2, none⟩ = some v ∧ X.cell? ⟨w.heap.size, 0, none⟩ = some (.int .u8 op) ∧ X.cell? ⟨w.heap.size, 1, none⟩ = some (.int .u8 p) ∧ X.cell? ⟨w.heap.size, 2, none⟩ = some (.int .u8 q) ∧ X.cell? ⟨w.heap.size, 3, none⟩ = some (.int .i64 a) ∧ X.cell? ⟨w.heap.size, 4, none⟩ = some (.int .i64 b)) rfl rfl (by kernel_rfl) (by kernel_rfl) (by kernel_rfl) (fun hA => ?_)
  refine wpHead_take (i := 4) (v := ?_) (by kernel_rfl) hA (at_drop rfl) (by decide) (by kernel_rfl) (by kernel_rfl) (by kernel_rfl) (fun _ _ _ h => h) (Or.inl ⟨by rfl, ?_⟩) hS0 (fun hA => ?_)
  rotate_left
  · (intro w hSw; obtain ⟨s0, s1, s2, s3, s4, s5⟩ := hSw; go_simp <;> with_reducible rfl)
  simp only [Act.put, List.setIfInBounds_toArray, List.set_cons_zero, List.set_cons_succ]
  refine wpHead_take (i := 5) (v := ?_) (by kernel_rfl) hA (at_drop rfl) (by decide) (by kernel_rfl) (by kernel_rfl) (by kernel_rfl) (fun _ _ _ h => h) (Or.inl ⟨by rfl, ?_⟩) hS0 (fun hA => ?_)
  rotate_left
  · (intro w hSw; obtain ⟨s0, s1, s2, s3, s4, s5⟩ := hSw; go_simp <;> with_reducible rfl)
  simp only [Act.put, List.setIfInBounds_toArray, List.set_cons_zero, List.set_cons_succ]
  refine wpHead_ready (rs := [6]) (by kernel_rfl) (by decide) (AllHead.cons (at_drop rfl) (by decide) (fun KK hK => ?_) AllHead.nil)
  go_simp
  refine hK _ _ (hlY _ (bal (drew_below w1) _)) ?_
  clear hK KK
  refine wpHead_end (by kernel_rfl) ?_
  simp only [List.drop_succ_cons, List.drop_zero]
  have own2 := Lib.hid HP2.out.o
  have hBw := HP.out.Bw
  clear hlY c0 c1 c2 b0 b1 b2 b3 b4 hS0 hA
  go_wp2_with (at_builtin; refine wpList_append_own_at _ rfl _ _ 27 rfl B 32 i0 _ 5 24 Try.underlying27 hi0 hz0 hz1 hz2 rfl (by decide) v l.length (pvs l) rfl (Ap.own_bel HP.out.o (stepB (bal (Below.refl w1.heap.size w1) _) (drew_below _))) ⟨w1.heap.size, 0, none⟩ 1 1 [.int .u8 op, .int .u8 p, .int .u8 q, .int .i64 a, .int .i64 b] rfl rfl (fun j u hu => cells_new w1 _ 32 j u hu) (by simp [Value.oneCell']) (by unfold maxLen; omega) (by omega) (by simp; omega) ?_; intro v' w6 hown' hgrow _ hob; obtain ⟨A', c', rfl, _⟩ := Ap.own_form hown'; obtain ⟨q0, q1, hC6, hF6⟩ := ps_appended (z := ⟨op, p, q, a, b⟩) HP.out hown' ⟨hgrow.os, hgrow.tape, hgrow.output, hgrow.size, hgrow.block⟩ hob; clear hown' hgrow hob)
  go_end0
  exact ⟨rfl, _, hC6, (Fr.of_below HW0.out).trans hF6⟩
end Go.Proofs.Yteckkbjpeckjmaa.Rx
/- A letter behind its bracket: read byte by byte, each beginning being asked whether the text of a cube begins so. Plain mathematics. -/
namespace Go.Proofs.Yteckkbjpeckjmaa.Rx
open Go Go.RowKit Go.Proofs.Yteckkbjpeckjmaa
set_option linter.unusedVariables false
/-- The text of some cube begins with u. -/
def begB (u : List UInt8) : Bool := (readC u).isSome || (readC (u ++ [102])).isSome
def plet : List UInt8 → List UInt8 → Except Int ((Nat × Nat) × List UInt8)
  | _, [] => .error 3
  | u, c :: r => if c.toNat = 93 then (match readC u with | some pq => .ok (pq, r) | none => .error 2) else if begB (u ++ [c]) = true then plet (u ++ [c]) r else .error 2
theorem plet_cons (u : List UInt8) (c : UInt8) (r : List UInt8) : plet u (c :: r) = if c.toNat = 93 then (match readC u with | some pq => .ok (pq, r) | none => .error 2) else if begB (u ++ [c]) = true then plet (u ++ [c]) r else .error 2 := rfl
theorem readC_rd {u : List UInt8} (h : u ≠ [42]) : readC u = match rd u with | some (p, q, least, value) => if least = 0 ∨ value = false then none else some (p, q) | none => none := by
  unfold readC
  rw [if_neg h]
  cases rd u <;> rfl
theorem readC_none {u : List UInt8} (h : u ≠ [42]) (hr : rd u = none) : readC u = none := by rw [readC_rd h, hr]
theorem app_ne {u : List UInt8} {c d : UInt8} : u ++ [c, d] ≠ [42] := fun h => by
  have := congrArg List.length h
  simp at this
theorem rd_app2 (u : List UInt8) (c d : UInt8) : rd (u ++ [c, d]) = ((rd (u ++ [c])).bind fun st => rdStep st d.toNat) := by
  rw [show u ++ [c, d] = (u ++ [c]) ++ [d] by simp, rd_snoc]
theorem plet_pcl : ∀ (r u : List UInt8) (st : Rd), rd u = some st → u ≠ [42] → (∀ c : UInt8, u ++ [c] = [42] → r.head? ≠ some c) → plet u r = pcl st r
  | [], u, st, h, hu, h42 => rfl
  | c :: r, u, (p, q, least, value), h, hu, h42 => by
    have hne : u ++ [c] ≠ [42] := fun e => h42 c e rfl
    have e2 : u ++ [c] ++ [102] = u ++ [c, 102] := by simp
    have hp : pcl (p, q, least, value) (c :: r) = if c.toNat = 93 ∧ least ≠ 0 ∧ value = true then .ok ((p, q), r) else if c.toNat = 33 ∧ 6 ≤ least then .error 2 else match rdStep (p, q, least, value) c.toNat with | none => .error 2 | some st' => pcl st' r := pcl_cons (p, q, least, value) c r
    rw [plet_cons, hp]
    by_cases h93 : c.toNat = 93
    · rw [if_pos h93, readC_rd hu, h]
      simp only
      by_cases hok : least = 0 ∨ value = false
      · rw [if_pos hok, if_neg (by rintro ⟨_, h1, h2⟩; rcases hok with h | h; exact h1 h; rw [h] at h2; cases h2), if_neg (by omega)]
        have : rdStep (p, q, least, value) c.toNat = none := by
          unfold rdStep
          simp only
          rw [if_neg (by omega), if_neg (by omega)]
        rw [this]
      · rw [if_neg hok, if_pos]
        exact ⟨h93, fun e => hok (.inl e), by cases value; exact absurd (.inr rfl) hok; rfl⟩
    · have hf : ¬ (c.toNat = 93 ∧ least ≠ 0 ∧ value = true) := fun e => h93 e.1
      rw [if_neg h93, if_neg hf]
      have hrd : rd (u ++ [c]) = rdStep (p, q, least, value) c.toNat := by rw [rd_snoc, h]; rfl
      cases hs : rdStep (p, q, least, value) c.toNat with
      | none =>
        rw [hs] at hrd
        have hb : begB (u ++ [c]) = false := by
          unfold begB
          rw [readC_none hne hrd, e2, readC_none app_ne (by rw [rd_app2, hrd]; rfl)]
          rfl
        rw [hb]
        simp
      | some st' =>
        rw [hs] at hrd
        have hbe : begB (u ++ [c]) = !(decide (c.toNat = 33 ∧ 6 ≤ least)) := by
          unfold begB
          rw [readC_rd hne, hrd, e2, readC_rd app_ne, rd_app2, hrd]
          have hs' := hs
          unfold rdStep at hs'
          simp only at hs'
          by_cases hA : c.toNat = 33 ∧ value = true
          · rw [if_pos hA] at hs'
            cases hs'
            simp only [Option.bind_some]
            rw [if_pos (.inr trivial)]
            unfold rdStep
            simp only [Bool.false_eq_true, and_false, if_false]
            by_cases h6 : 6 ≤ least
            · rw [if_neg (by simp; omega), decide_eq_true ⟨hA.1, h6⟩]; rfl
            · rw [if_pos (by simp; omega), decide_eq_false (by omega)]
              simp
          · rw [if_neg hA] at hs'
            by_cases hB : 97 + least ≤ c.toNat ∧ c.toNat < 103
            · rw [if_pos hB] at hs'
              cases hs'
              simp only
              rw [if_neg (by simp)]
              rw [decide_eq_false (by omega)]
              rfl
            · rw [if_neg hB] at hs'; cases hs'
        rw [hbe]
        by_cases h6 : c.toNat = 33 ∧ 6 ≤ least
        · rw [decide_eq_true h6, if_pos h6]; rfl
        · rw [decide_eq_false h6, if_neg h6]
          simp only [Bool.not_false, if_true]
          exact plet_pcl r (u ++ [c]) st' hrd hne (fun d e => by
            have := congrArg List.length e
            simp at this)
theorem plet_pcube (r : List UInt8) : plet [] r = pcube r := by
  cases r with
  | nil => rfl
  | cons c r =>
    by_cases h42 : c.toNat = 42
    · have hc : c = 42 := by rw [byte_of c 42 h42]; rfl
      subst hc
      rw [plet_cons, pcube_cons, if_neg (by decide), if_pos (by decide), if_pos (by decide)]
      cases r with
      | nil => rfl
      | cons d r =>
        show plet [42] (d :: r) = _
        rw [plet_cons, eat_cons]
        by_cases h93 : d.toNat = 93
        · rw [if_pos h93, if_pos h93]; rfl
        · rw [if_neg h93, if_neg h93]
          have h1 : rd [42, d] = none := by
            have := rd_app2 [] 42 d
            rw [List.nil_append] at this
            rw [this]
            rfl
          have hb : begB ([42] ++ [d]) = false := by
            unfold begB
            rw [show [(42 : UInt8)] ++ [d] = [42, d] from rfl, readC_none (by simp) h1, show [(42 : UInt8), d] ++ [102] = [42, d, 102] from rfl, readC_none (by simp) (by
              show rd ([42] ++ [d, 102]) = none
              rw [rd_app2, show [(42 : UInt8)] ++ [d] = [42, d] from rfl, h1]; rfl)]
            rfl
          rw [hb]
          simp
    · rw [pcube_cons, if_neg h42]
      exact plet_pcl (c :: r) [] (0, 0, 0, true) rfl (by simp) (fun d e => by
        simp at e
        subst e
        simp
        intro e
        subst e
        exact h42 (by decide))
end Go.Proofs.Yteckkbjpeckjmaa.Rx
/- A letter in a text (package regex): whether a cube's text begins so. -/
namespace Go.Proofs.Yteckkbjpeckjmaa.Rx
open Go Go.RowKit Go.Proofs.Yteckkbjpeckjmaa
set_option linter.unusedVariables false
set_option maxRecDepth 100000
theorem prs_six {u : List UInt8} (hu : u.length ≤ 4096) : prs u 6 = match readC u with | some pq => (pq, 0) | none => ((0, 0), 2) := by
  unfold prs
  rw [if_neg (by omega), if_neg (by omega)]
  cases h : readC u with
  | none => rfl
  | some c =>
    obtain ⟨h1, h2, h3, _⟩ := readC_sound (p := c.1) (q := c.2) h
    have hc : Cube c.1 c.2 6 := ⟨by decide, by omega, by omega, h3⟩
    have := hc.chk
    simp only
    rw [show ((6 : Int)) = ((6 : Nat) : Int) from rfl, if_pos this]
theorem parse_yes {s : ByteArray} {p q : Nat} (hs : s.size ≤ 4096) (h : readC s.data.toList = some (p, q)) (w : World) :
    Calls Try.prog 103 #[.string s, .int .i64 6] w fun e w' => e = .returned (.tuple #[.agg #[.int .u8 p, .int .u8 q], .int .i64 0]) ∧ Below w.heap.size w w' := by
  have := Parse_any s 6 w (by omega)
  rw [prs_six (by simpa using hs), h] at this
  exact this
theorem parse_no {s : ByteArray} (hs : s.size ≤ 4096) (h : readC s.data.toList = none) (w : World) :
    Calls Try.prog 103 #[.string s, .int .i64 6] w fun e w' => e = .returned (.tuple #[.agg #[.int .u8 0, .int .u8 0], .int .i64 2]) ∧ Below w.heap.size w w' := by
  have := Parse_any s 6 w (by omega)
  rw [prs_six (by simpa using hs), h] at this
  exact this
set_option maxHeartbeats 4000000 in
theorem isCube_any (s : ByteArray) (w : World) (hs : s.size ≤ 4096) :
    Calls Try.prog 130 #[.string s] w fun e w' => e = .returned (.bool (readC s.data.toList).isSome) ∧ Below w.heap.size w w' := by
  cases h : readC s.data.toList with
  | none =>
    have HP := Lib.hid fun X => parse_no hs h X
    clear h
    go_enter Try.func130, Try.ntmps130
    go_wp2_with (go_at_call 103; ((with_reducible refine (HP.out _).mono ?_); rintro r w1 ⟨rfl, hb1⟩))
    go_ret
    exact ⟨rfl, bal hb1 _⟩
  | some pq =>
    obtain ⟨p, q⟩ := pq
    have HP := Lib.hid fun X => parse_yes hs h X
    clear h
    go_enter Try.func130, Try.ntmps130
    go_wp2_with (go_at_call 103; ((with_reducible refine (HP.out _).mono ?_); rintro r w1 ⟨rfl, hb1⟩))
    go_ret
    exact ⟨rfl, bal hb1 _⟩
set_option maxHeartbeats 4000000 in
theorem beginsCube_any (s : ByteArray) (w : World) (hs : s.size ≤ 4095) :
    Calls Try.prog 102 #[.string s] w fun e w' => e = .returned (.bool (begB s.data.toList)) ∧ Below w.heap.size w w' := by
  have HI := Lib.hid fun X => isCube_any s X (by omega)
  have hf : (s ++ ⟨#[102]⟩).data.toList = s.data.toList ++ [102] := by simp
  have HJ := Lib.hid fun X => isCube_any (s ++ ⟨#[102]⟩) X (by rw [ByteArray.size_append]; show s.size + 1 ≤ 4096; omega)
  rw [hf] at HJ
  have HB : Hid (begB s.data.toList = ((readC s.data.toList).isSome || (readC (s.data.toList ++ [102])).isSome)) := rfl
  generalize begB s.data.toList = R at *
  generalize (readC s.data.toList).isSome = a at *
  generalize (readC (s.data.toList ++ [102])).isSome = b at *
  clear hf
  cases a
  · go_enter Try.func102, Try.ntmps102
    go_wp2_with (first
      | (go_at_call 130; ((with_reducible refine (HI.out _).mono ?_); rintro r w1 ⟨rfl, hb1⟩))
      | (go_at_call 130; ((with_reducible refine (HJ.out _).mono ?_); rintro r w2 ⟨rfl, hb2⟩)))
    go_ret
    exact ⟨ret_b HB.out.symm, stepB hb1 hb2⟩
  · go_enter Try.func102, Try.ntmps102
    go_wp2_with (go_at_call 130; ((with_reducible refine (HI.out _).mono ?_); rintro r w1 ⟨rfl, hb1⟩))
    go_ret
    exact ⟨ret_bt (HB.out.trans rfl), hb1⟩
end Go.Proofs.Yteckkbjpeckjmaa.Rx
/- A letter in a text (package regex): the method. -/
namespace Go.Proofs.Yteckkbjpeckjmaa.Rx
open Go Go.RowKit Go.Proofs.Yteckkbjpeckjmaa
set_option linter.unusedVariables false
set_option maxRecDepth 100000
def Dl (s : ByteArray) (i : Nat) : List UInt8 := s.data.toList.drop i
theorem Dl_end (s : ByteArray) : Dl s s.size = [] := by
  unfold Dl
  rw [List.drop_eq_nil_of_le (by simp)]
theorem Dl_cons (s : ByteArray) (i : Nat) (h : i < s.size) : Dl s i = UInt8.ofNat (ch s i) :: Dl s (i + 1) := by
  unfold Dl
  have h' : i < s.data.toList.length := by simpa using h
  rw [List.drop_eq_getElem_cons h']
  congr 1
  unfold ch
  rw [List.getD_eq_getElem?_getD, List.getElem?_eq_getElem h']
  simp
theorem Dl_len (s : ByteArray) (i : Nat) : (Dl s i).length = s.size - i := by
  unfold Dl; simp
theorem ext_list (s : ByteArray) (a b : Nat) (h : b ≤ s.size) : (s.extract a b).data.toList = (Dl s a).take (b - a) := by
  unfold Dl
  simp [List.extract_eq_take_drop]
theorem take_more (s : ByteArray) (a i : Nat) (ha : a ≤ i) (hi : i < s.size) : (Dl s a).take (i + 1 - a) = (Dl s a).take (i - a) ++ [UInt8.ofNat (ch s i)] := by
  have h1 : (Dl s a)[i - a]? = some (UInt8.ofNat (ch s i)) := by
    unfold Dl
    rw [List.getElem?_drop, show a + (i - a) = i by omega]
    have h' : i < s.data.toList.length := by simpa using hi
    rw [List.getElem?_eq_getElem h']
    unfold ch
    rw [List.getD_eq_getElem?_getD, List.getElem?_eq_getElem h']
    simp
  rw [show i + 1 - a = (i - a) + 1 by omega]
  exact take_snoc h1
theorem ofNat_ch (s : ByteArray) (i : Nat) : (UInt8.ofNat (ch s i)).toNat = ch s i := by
  have := ch_lt s i
  simp
  omega
/-- Where the reading stands. -/
def LetI (s : ByteArray) (a i : Nat) : Prop := plet ((Dl s a).take (i - a)) (Dl s i) = plet [] (Dl s a)
theorem let_step {s : ByteArray} {a i : Nat} (h : LetI s a i) (ha : a ≤ i) (hi : i < s.size) :
    plet [] (Dl s a) = if ch s i = 93 then (match readC ((Dl s a).take (i - a)) with | some pq => .ok (pq, Dl s (i + 1)) | none => .error 2) else if begB ((Dl s a).take (i + 1 - a)) = true then plet ((Dl s a).take (i + 1 - a)) (Dl s (i + 1)) else .error 2 := by
  rw [← h, Dl_cons s i hi, plet_cons, ofNat_ch, take_more s a i ha hi]
  try rfl
theorem _root_.Go.Proofs.Yteckkbjpeckjmaa.HeadAt.next {md : Region.Mode} {ops : Array Oper} {n i : Nat} {L0 listed : Array Bool} {rs : List Nat} (hA : HeadAt md ops n L0 listed) (hr : Region.ready md ops listed = rs) (hi : i ∈ rs) (hin : i < n) : HeadAt md ops n L0 (listed.setIfInBounds i true) := hA.set (hr ▸ hi) hin
def LetOut (B pb : Nat) (s : ByteArray) (a : Nat) (v : Value) (l : List Pc) (w : World) (e : Ending) (w' : World) : Prop :=
  match plet [] (Dl s a) with
  | .ok ((p, q), r) => e = .returned (.tuple #[]) ∧ ∃ v', PsAt w' B pb s (s.size - r.length) v' (l ++ [⟨3, p, q, 0, 0⟩]) ∧ Fr pb v v' w w'
  | .error k => e = .panicked (errV k) ∧ Below B w w'
/-- What region 4 leaves. -/
def LetR (w4 : World) (p q : Nat) (k : Int) (t3 t4 : Value) (wx : World) : Prop := ∃ b, t3 = .pointer (some ⟨b, 0, none⟩) ∧ t4 = .int .i64 k ∧ Box2 wx b 103 (.int .u8 p) (.int .u8 q) ∧ Below w4.heap.size w4 wx
set_option maxHeartbeats 16000000 in
theorem letter_any (B pb : Nat) (s : ByteArray) (a : Nat) (v : Value) (l : List Pc) (w : World) (h : PsAt w B pb s a v l) (hs : s.size ≤ 4095) (ha : a ≤ s.size) (hl : l.length ≤ 10000) :
    Calls Try.prog 84 #[.pointer (some ⟨pb, 0, none⟩)] w (LetOut B pb s a v l w) := by
  obtain ⟨c0, c1, c2⟩ := h.cells
  have HP := Lib.hid h
  clear h
  go_enter Try.func84, Try.ntmps84
  go_wp2
  go_loopg [10] (s.size - a) (fun g t wr => ∃ i, a ≤ i ∧ i ≤ s.size ∧ g = s.size - i ∧ Hid (LetI s a i) ∧ Hid (PsAt wr B pb s i v l) ∧ Hid (Fr pb v v w wr))
  case atStart => exact ⟨a, Nat.le_refl _, ha, rfl, by show _ = _; rw [Nat.sub_self, List.take_zero], HP, Fr.of_below (Below.refl _ _)⟩
  case round =>
    clear c0 c1 c2
    obtain ⟨i, hai, his, hg, HI, HPi, HFi⟩ := hrel
    by_cases hend : i = s.size
    · have HT := Lib.hid (take_end B pb s v l wr (by rw [← hend]; exact HPi.out) (by omega))
      have hfin : plet [] (Dl s a) = .error 3 := by rw [← HI.out, hend, Dl_end]; rfl
      have HFin : Hid (∀ w', Below wr.heap.size wr w' → LetOut B pb s a v l w (.panicked (errV 3)) w') := fun w' hw' => by
        unfold LetOut
        rw [hfin]
        exact ⟨rfl, (HP.out.bel HFi.out).trans (hw'.mono HPi.out.Bw)⟩
      clear hfin hend hg
      go_wp2_with (go_at_call 82; ((with_reducible refine HT.out.mono ?_); rintro r w1 ⟨rfl, hb1⟩))
      exact ⟨rfl, HFin.out _ hb1⟩
    · have hi : i < s.size := by omega
      have HT := take_ok B pb s i v l wr HPi.out (by omega) hi
      have HStep := let_step HI.out hai hi
      obtain ⟨c, hc⟩ : ∃ c, c = ch s i := ⟨_, rfl⟩
      obtain ⟨j, hj⟩ : ∃ j, j = i + 1 := ⟨_, rfl⟩
      rw [← hc, ← hj] at HT HStep
      have haj : a ≤ j := by omega
      have hjs : j ≤ s.size := by omega
      have haj2 : (a : Int) ≤ j := by omega
      have hjs2 : (j : Int) ≤ s.size := by omega
      have hgj : s.size - j < gk := by omega
      have HJ := Lib.hid hj
      have HT := Lib.hid HT
      clear hc hend hj
      by_cases h93 : c = 93
      · have e93 : ((c : Int) != 93) = false := int_same (by omega)
        have hst := HStep
        rw [if_pos h93] at hst
        have hps : ∃ (p q : Nat) (k : Int), Hid (∀ X, Calls Try.prog 103 #[.string (s.extract a i), .int .i64 6] X fun e w' => e = .returned (.tuple #[.agg #[.int .u8 p, .int .u8 q], .int .i64 k]) ∧ Below X.heap.size X w') ∧ Hid ((k = 0 ∧ plet [] (Dl s a) = .ok ((p, q), Dl s j)) ∨ (k = 2 ∧ plet [] (Dl s a) = .error 2)) := by
          have hex := ext_list s a i his
          cases hr : readC ((Dl s a).take (i - a)) with
          | some pq =>
            obtain ⟨p, q⟩ := pq
            rw [hr] at hst
            exact ⟨p, q, 0, fun X => parse_yes (by simp; omega) (by rw [hex]; exact hr) X, .inl ⟨rfl, hst⟩⟩
          | none =>
            rw [hr] at hst
            exact ⟨0, 0, 2, fun X => parse_no (by simp; omega) (by rw [hex]; exact hr) X, .inr ⟨rfl, hst⟩⟩
        obtain ⟨p, q, k, HPr, HOut⟩ := hps
        have hji : (j : Int) - 1 = (i : Int) := by have := HJ.out; omega
        have hai2 : (a : Int) ≤ i := by omega
        have his2 : (i : Int) ≤ s.size := by omega
        have hwr : IntKind.i64.wrap (i : Int) = (i : Int) := IntWalk.i64_in _ (by omega)
        clear hst HStep h93 HI
        go_upto_region 4 with (go_at_call 82; ((with_reducible refine HT.out.mono ?_); rintro r w1 ⟨rfl, hP1, hF1⟩); obtain ⟨c0, c1, c2⟩ := hP1.cells; have hpl := hP1.lt; have HP1 := Lib.hid hP1; have HF1 := Lib.hid hF1; clear hP1 hF1)
        go_cut [3, 4] (fun t3 t4 wx => LetR w1 p q k t3 t4 wx)
        case first =>
          refine wp_region_any (by kernel_rfl) ?_
          change wpAny _ _ _ _ _ _ _ (World.drew _)
          refine wpAny_take (i := 0) (v := ?_) (at_drop rfl) (by kernel_rfl) (by kernel_rfl) (by kernel_rfl) (fun _ _ _ h => h) (Or.inl ⟨by rfl, ?_⟩) ?_
          rotate_left
          · (intro w; go_simp <;> with_reducible rfl)
          simp only [Act.put, List.setIfInBounds_toArray, List.set_cons_zero, List.set_cons_succ]
          refine wpAny_take (i := 1) (v := ?_) (at_drop rfl) (by kernel_rfl) (by kernel_rfl) (by kernel_rfl) (fun _ _ _ h => h) (Or.inl ⟨by rfl, ?_⟩) ?_
          rotate_left
          · (intro w; go_simp <;> with_reducible rfl)
          simp only [Act.put, List.setIfInBounds_toArray, List.set_cons_zero, List.set_cons_succ]
          refine wpAny_take (i := 2) (v := ?_) (at_drop rfl) (by kernel_rfl) (by kernel_rfl) (by kernel_rfl) (fun _ _ _ h => h) (Or.inl ⟨by rfl, ?_⟩) ?_
          rotate_left
          · (intro w; go_simp <;> with_reducible rfl)
          simp only [Act.put, List.setIfInBounds_toArray, List.set_cons_zero, List.set_cons_succ]
          refine wpAny_take (i := 4) (v := ?_) (at_drop rfl) (by kernel_rfl) (by kernel_rfl) (by kernel_rfl) (fun _ _ _ h => h) (Or.inl ⟨by rfl, ?_⟩) ?_
          rotate_left
          · (intro w; go_simp <;> with_reducible rfl)
          simp only [Act.put, List.setIfInBounds_toArray, List.set_cons_zero, List.set_cons_succ]
          refine wpAny_take (i := 5) (v := ?_) (at_drop rfl) (by kernel_rfl) (by kernel_rfl) (by kernel_rfl) (fun _ _ _ h => h) (Or.inl ⟨by rfl, ?_⟩) ?_
          rotate_left
          · (intro w; go_simp <;> with_reducible rfl)
          simp only [Act.put, List.setIfInBounds_toArray, List.set_cons_zero, List.set_cons_succ]
          refine wpAny_take (i := 6) (v := ?_) (at_drop rfl) (by kernel_rfl) (by kernel_rfl) (by kernel_rfl) (fun _ _ _ h => h) (Or.inl ⟨by rfl, ?_⟩) ?_
          rotate_left
          · (intro w; go_simp <;> with_reducible rfl)
          simp only [Act.put, List.setIfInBounds_toArray, List.set_cons_zero, List.set_cons_succ]
          refine wpAny_take (i := 7) (v := ?_) (at_drop rfl) (by kernel_rfl) (by kernel_rfl) (by kernel_rfl) (fun _ _ _ h => h) (Or.inl ⟨by rfl, ?_⟩) ?_
          rotate_left
          · (intro w; go_simp <;> with_reducible rfl)
          simp only [Act.put, List.setIfInBounds_toArray, List.set_cons_zero, List.set_cons_succ]
          have hS0 : (fun X : World => X.cell? ⟨pb, 0, none⟩ = some (.string s) ∧ X.cell? ⟨pb, 1, none⟩ = some (.int .i64 j)) w1.drew := ⟨c0, c1⟩
          have hlY : ∀ Y : World, Below w1.heap.size w1 Y → (fun X : World => X.cell? ⟨pb, 0, none⟩ = some (.string s) ∧ X.cell? ⟨pb, 1, none⟩ = some (.int .i64 j)) Y := fun Y hY => ⟨(hY.cell (p := ⟨pb, 0, none⟩) hpl).trans c0, (hY.cell (p := ⟨pb, 1, none⟩) hpl).trans c1⟩
          refine wpAny_head 17 10 (fun X : World => X.cell? ⟨pb, 0, none⟩ = some (.string s) ∧ X.cell? ⟨pb, 1, none⟩ = some (.int .i64 j)) rfl rfl (by kernel_rfl) (by kernel_rfl) (by kernel_rfl) (fun hA => ?_)
          refine wpHead_take (i := 3) (v := ?_) (by kernel_rfl) hA (at_drop rfl) (by decide) (by kernel_rfl) (by kernel_rfl) (by kernel_rfl) (fun _ _ _ h => h) (Or.inl ⟨by rfl, ?_⟩) hS0 (fun hA => ?_)
          rotate_left
          · (intro w hSw; obtain ⟨s0, s1⟩ := hSw; go_simp <;> with_reducible rfl)
          simp only [Act.put, List.setIfInBounds_toArray, List.set_cons_zero, List.set_cons_succ]
          refine wpHead_take (i := 8) (v := ?_) (by kernel_rfl) hA (at_drop rfl) (by decide) (by kernel_rfl) (by kernel_rfl) (by kernel_rfl) (fun _ _ _ h => h) (Or.inl ⟨by rfl, ?_⟩) hS0 (fun hA => ?_)
          rotate_left
          · (intro w hSw; obtain ⟨s0, s1⟩ := hSw; go_simp <;> with_reducible rfl)
          simp only [Act.put, List.setIfInBounds_toArray, List.set_cons_zero, List.set_cons_succ]
          refine wpHead_take (i := 9) (v := ?_) (by kernel_rfl) hA (at_drop rfl) (by decide) (by kernel_rfl) (by kernel_rfl) (by kernel_rfl) (fun _ _ _ h => h) (Or.inl ⟨by rfl, ?_⟩) hS0 (fun hA => ?_)
          rotate_left
          · (intro w hSw; obtain ⟨s0, s1⟩ := hSw; go_simp <;> with_reducible rfl)
          simp only [Act.put, List.setIfInBounds_toArray, List.set_cons_zero, List.set_cons_succ]
          refine wpHead_take (i := 10) (v := ?_) (by kernel_rfl) hA (at_drop rfl) (by decide) (by kernel_rfl) (by kernel_rfl) (by kernel_rfl) (fun _ _ _ h => h) (Or.inl ⟨by rfl, ?_⟩) hS0 (fun hA => ?_)
          rotate_left
          · (intro w hSw; obtain ⟨s0, s1⟩ := hSw; go_simp <;> with_reducible rfl)
          simp only [Act.put, List.setIfInBounds_toArray, List.set_cons_zero, List.set_cons_succ]
          have hA11 := hA.next (rs := [11, 15]) (i := 11) (by kernel_rfl) (by decide) (by decide)
          have hA15 := hA.next (rs := [11, 15]) (i := 15) (by kernel_rfl) (by decide) (by decide)
          clear hA
          refine wpHead_ready (rs := [11, 15]) (by kernel_rfl) (by decide) (AllHead.cons (at_drop rfl) (by decide) (fun KK hK => ?_) (AllHead.cons (at_drop rfl) (by decide) (fun KK hK => ?_) AllHead.nil))
          · go_simp
            have hA := hA11
            clear hA11 hA15
            go_at_call 103
            (with_reducible refine (HPr.out _).mono ?_)
            rintro r w2 ⟨rfl, hb2⟩
            have hS2 := hlY _ (stepB (drew_below w1) hb2)
            refine hK _ _ hS2 ?_
            clear hK KK
            refine wpHead_take (i := 12) (v := ?_) (by kernel_rfl) hA (at_drop rfl) (by decide) (by kernel_rfl) (by kernel_rfl) (by kernel_rfl) (fun _ _ _ h => h) (Or.inl ⟨by rfl, ?_⟩) hS2 (fun hA => ?_)
            rotate_left
            · (intro w hSw; obtain ⟨s0, s1⟩ := hSw; go_simp <;> with_reducible rfl)
            simp only [Act.put, List.setIfInBounds_toArray, List.set_cons_zero, List.set_cons_succ]
            refine wpHead_take (i := 13) (v := ?_) (by kernel_rfl) hA (at_drop rfl) (by decide) (by kernel_rfl) (by kernel_rfl) (by kernel_rfl) (fun _ _ _ h => h) (Or.inl ⟨by rfl, ?_⟩) hS2 (fun hA => ?_)
            rotate_left
            · (intro w hSw; obtain ⟨s0, s1⟩ := hSw; go_simp <;> with_reducible rfl)
            simp only [Act.put, List.setIfInBounds_toArray, List.set_cons_zero, List.set_cons_succ]
            refine wpHead_take (i := 14) (v := ?_) (by kernel_rfl) hA (at_drop rfl) (by decide) (by kernel_rfl) (by kernel_rfl) (by kernel_rfl) (fun _ _ _ h => h) (Or.inl ⟨by rfl, ?_⟩) hS2 (fun hA => ?_)
            rotate_left
            · (intro w hSw; obtain ⟨s0, s1⟩ := hSw; go_simp <;> with_reducible rfl)
            simp only [Act.put, List.setIfInBounds_toArray, List.set_cons_zero, List.set_cons_succ]
            refine wpHead_ready (rs := [15]) (by kernel_rfl) (by decide) (AllHead.cons (at_drop rfl) (by decide) (fun KK hK => ?_) AllHead.nil)
            go_simp
            have hS3 := hlY _ (bal (stepB (drew_below w1) hb2) (.cells #[.int .u8 0, .int .u8 0] 103))
            refine hK _ _ hS3 ?_
            clear hK KK
            refine wpHead_ready (rs := [16]) (by kernel_rfl) (by decide) (AllHead.cons (at_drop rfl) (by decide) (fun KK hK => ?_) AllHead.nil)
            go_simp
            refine hK _ _ (hlY _ (bal (stepB (drew_below w1) hb2) (.cells #[.int .u8 p, .int .u8 q] 103))) ?_
            clear hK KK
            refine wpHead_end (by kernel_rfl) ?_
            simp only [List.drop_succ_cons, List.drop_zero]
            go_wp2_with fail
            go_meet
            exact ⟨w2.heap.size, rfl, rfl, Box2.new w2 _ _ _, bal (stepB (drew_below w1) hb2) _⟩
          · go_simp
            have hA := hA15
            clear hA11 hA15
            have hb1 : Below w1.heap.size w1 (w1.alloc (.cells #[.int .u8 0, .int .u8 0] 103)).drew := stepB (bal (Below.refl _ _) _) (drew_below _)
            have hX1 : Box2 (w1.alloc (.cells #[.int .u8 0, .int .u8 0] 103)).drew w1.heap.size 103 (.int .u8 0) (.int .u8 0) := Box2.new w1 _ _ _
            refine hK _ _ (hlY _ hb1) ?_
            clear hK KK
            have hA11 := hA.next (rs := [11]) (i := 11) (by kernel_rfl) (by decide) (by decide)
            refine wpHead_ready (rs := [11]) (by kernel_rfl) (by decide) (AllHead.cons (at_drop rfl) (by decide) (fun KK hK => ?_) AllHead.nil)
            clear hA
            have hA := hA11
            clear hA11
            go_simp
            go_at_call 103
            (with_reducible refine (HPr.out _).mono ?_)
            rintro r w2 ⟨rfl, hb2⟩
            have hS2 := hlY _ (stepB hb1 hb2)
            have hX2 := hX1.below hb2
            have x0 := hX2.c0
            have x1 := hX2.c1
            have y0 := hX2.f0
            have y1 := hX2.f1
            refine hK _ _ hS2 ?_
            clear hK KK
            refine wpHead_take (i := 12) (v := ?_) (by kernel_rfl) hA (at_drop rfl) (by decide) (by kernel_rfl) (by kernel_rfl) (by kernel_rfl) (fun _ _ _ h => h) (Or.inl ⟨by rfl, ?_⟩) hS2 (fun hA => ?_)
            rotate_left
            · (intro w hSw; obtain ⟨s0, s1⟩ := hSw; go_simp <;> with_reducible rfl)
            simp only [Act.put, List.setIfInBounds_toArray, List.set_cons_zero, List.set_cons_succ]
            refine wpHead_take (i := 13) (v := ?_) (by kernel_rfl) hA (at_drop rfl) (by decide) (by kernel_rfl) (by kernel_rfl) (by kernel_rfl) (fun _ _ _ h => h) (Or.inl ⟨by rfl, ?_⟩) hS2 (fun hA => ?_)
            rotate_left
            · (intro w hSw; obtain ⟨s0, s1⟩ := hSw; go_simp <;> with_reducible rfl)
            simp only [Act.put, List.setIfInBounds_toArray, List.set_cons_zero, List.set_cons_succ]
            refine wpHead_take (i := 14) (v := ?_) (by kernel_rfl) hA (at_drop rfl) (by decide) (by kernel_rfl) (by kernel_rfl) (by kernel_rfl) (fun _ _ _ h => h) (Or.inl ⟨by rfl, ?_⟩) hS2 (fun hA => ?_)
            rotate_left
            · (intro w hSw; obtain ⟨s0, s1⟩ := hSw; go_simp <;> with_reducible rfl)
            simp only [Act.put, List.setIfInBounds_toArray, List.set_cons_zero, List.set_cons_succ]
            refine wpHead_ready (rs := [16]) (by kernel_rfl) (by decide) (AllHead.cons (at_drop rfl) (by decide) (fun KK hK => ?_) AllHead.nil)
            go_simp
            refine hK _ _ (hlY _ (((stepB hb1 hb2).setCell (p := ⟨w1.heap.size, 0, none⟩) (Nat.le_refl _) (.int .u8 p)).setCell (p := ⟨w1.heap.size, 1, none⟩) (Nat.le_refl _) (.int .u8 q))) ?_
            clear hK KK
            refine wpHead_end (by kernel_rfl) ?_
            simp only [List.drop_succ_cons, List.drop_zero]
            go_wp2_with fail
            go_meet
            exact ⟨w1.heap.size, rfl, rfl, (hX2.set0 _).set1 _, ((stepB hb1 hb2).setCell (p := ⟨w1.heap.size, 0, none⟩) (Nat.le_refl _) (.int .u8 p)).setCell (p := ⟨w1.heap.size, 1, none⟩) (Nat.le_refl _) (.int .u8 q)⟩

        case rest =>
          obtain ⟨b, rfl, rfl, hX, hbx⟩ := hcut
          have x0 := hX.c0
          have x1 := hX.c1
          have HPc := Lib.hid (HP1.out.below hbx)
          have HFc := Lib.hid (HF1.out.trans (Fr.of_below hbx))
          clear c0 c1 c2 hX hbx
          rcases HOut.out with ⟨rfl, hst⟩ | ⟨rfl, hst⟩
          · have HFin : Hid (∀ w' v', PsAt w' B pb s j v' (l ++ [⟨3, p, q, 0, 0⟩]) → Fr pb v v' w w' → LetOut B pb s a v l w (.returned (.tuple #[])) w') := fun w' v' h1 h2 => by
              unfold LetOut
              rw [hst]
              refine ⟨rfl, v', ?_, h2⟩
              rw [Dl_len, show s.size - (s.size - j) = j by omega]
              exact h1
            have HAd : Hid (∀ w', PsAt w' B pb s j v l → Calls Try.prog 83 #[.pointer (some ⟨pb, 0, none⟩), .agg #[.int .u8 3, .int .u8 p, .int .u8 q, .int .i64 0, .int .i64 0]] w' fun e w2 => e = .returned (.tuple #[]) ∧ ∃ v', PsAt w2 B pb s j v' (l ++ [⟨3, p, q, 0, 0⟩]) ∧ Fr pb v v' w' w2) := fun w' h => add_any B pb s j v l ⟨3, p, q, 0, 0⟩ w' h (by omega)
            clear hst HOut
            go_wp2_with (go_at_call 83; ((with_reducible refine (HAd.out _ HPc.out).mono ?_); rintro r w5 ⟨rfl, v', hP5, hF5⟩))
            go_end0
            exact HFin.out _ _ hP5 (HFi.out.trans (HFc.out.trans hF5))
          · have HFin : Hid (∀ w', Fr pb v v wr w' → LetOut B pb s a v l w (.panicked (errV 2)) w') := fun w' hw' => by
              unfold LetOut
              rw [hst]
              exact ⟨rfl, HP.out.bel (HFi.out.trans hw')⟩
            clear hst HOut
            go_wp2
            exact ⟨rfl, HFin.out _ HFc.out⟩
      · have e93 : ((c : Int) != 93) = true := int_ne (by omega)
        have hst := HStep
        rw [if_neg h93] at hst
        have HB := Lib.hid fun X => beginsCube_any (s.extract a j) X (by simp; omega)
        rw [ext_list s a j hjs] at HB
        clear h93 HStep
        cases hb : begB ((Dl s a).take (j - a)) with
        | true =>
          rw [hb] at HB hst
          simp only [if_true] at hst
          have HI2 : Hid (LetI s a j) := hst.symm
          clear hst hb HI
          go_upto_region 2 with (go_at_call 82; ((with_reducible refine HT.out.mono ?_); rintro r w1 ⟨rfl, hP1, hF1⟩); obtain ⟨c0, c1, c2⟩ := hP1.cells; have HP1 := Lib.hid hP1; have HF1 := Lib.hid hF1; clear hP1 hF1)
          go_still_tail 10, (by kernel_rfl)
          change wpList _ _ _ _ _ w1.drew
          have hd := drew_below w1
          have HP2 := Lib.hid (HP1.out.below hd)
          have HF2 := Lib.hid (HF1.out.trans (Fr.of_below hd))
          clear hd c0 c1 c2
          generalize w1.drew = w2 at *
          go_wp2_with (go_at_call 102; ((with_reducible refine (HB.out _).mono ?_); rintro r w3 ⟨rfl, hb3⟩))
          go_roundg (s.size - j)
          case rel => exact ⟨j, haj, hjs, rfl, HI2, HP2.out.below hb3, HFi.out.trans (HF2.out.trans (Fr.of_below hb3))⟩
          case measure => omega
        | false =>
          rw [hb] at HB hst
          simp only [Bool.false_eq_true, if_false] at hst
          have HFin : Hid (∀ w', Fr pb v v wr w' → LetOut B pb s a v l w (.panicked (errV 2)) w') := fun w' hw' => by
            unfold LetOut
            rw [hst]
            exact ⟨rfl, HP.out.bel (HFi.out.trans hw')⟩
          clear hst hb HI
          go_upto_region 2 with (go_at_call 82; ((with_reducible refine HT.out.mono ?_); rintro r w1 ⟨rfl, hP1, hF1⟩); obtain ⟨c0, c1, c2⟩ := hP1.cells; have HP1 := Lib.hid hP1; have HF1 := Lib.hid hF1; clear hP1 hF1)
          go_still_tail 10, (by kernel_rfl)
          change wpList _ _ _ _ _ w1.drew
          have HF2 := Lib.hid (HF1.out.trans (Fr.of_below (drew_below w1)))
          clear c0 c1 c2
          generalize w1.drew = w2 at *
          go_wp2_with (go_at_call 102; ((with_reducible refine (HB.out _).mono ?_); rintro r w3 ⟨rfl, hb3⟩))
          exact ⟨rfl, HFin.out _ (HF2.out.trans (Fr.of_below hb3))⟩
end Go.Proofs.Yteckkbjpeckjmaa.Rx
