/- The reference's reader (package regex): its memory; see, eat, add. -/
import Derived.Test.YteckkbjpeckjmaaYZDG
import Derived.Test.YteckkbjpeckjmaaYZN
namespace Go.Proofs.Yteckkbjpeckjmaa.Rx
open Go Go.RowKit Go.Proofs.Yteckkbjpeckjmaa
set_option linter.unusedVariables false
set_option linter.unusedSimpArgs false
set_option maxRecDepth 100000
/-- Where a reader stands: its place, its pieces, its error. -/
structure RS where
  i : Nat
  l : List Pc
  e : Int
def seeM (s : ByteArray) (r : RS) : Nat × RS := if r.e ≠ 0 then (0, r) else if r.i = s.size then (0, ⟨r.i, r.l, 3⟩) else (ch s r.i, r)
def eatM (s : ByteArray) (b : Nat) (r : RS) : RS := if (seeM s r).2.e = 0 then (if (seeM s r).1 ≠ b then ⟨(seeM s r).2.i, (seeM s r).2.l, 2⟩ else ⟨(seeM s r).2.i + 1, (seeM s r).2.l, (seeM s r).2.e⟩) else (seeM s r).2
/-- What may be known of a reader: its place is in the text, its error is small. -/
structure RS.In (r : RS) (s : ByteArray) (N : Nat) : Prop where
  i : r.i ≤ s.size
  l : r.l.length + (s.size - r.i) ≤ N
theorem seeM_in {s : ByteArray} {r : RS} {N : Nat} (h : r.In s N) : (seeM s r).2.In s N := by
  unfold seeM
  split
  · exact h
  · split
    · exact ⟨h.i, h.l⟩
    · exact h
theorem seeM_lt {s : ByteArray} {r : RS} : (seeM s r).1 < 256 := by
  unfold seeM
  split
  · show 0 < 256; decide
  · split
    · show 0 < 256; decide
    · exact ch_lt s r.i
theorem seeM_ok {s : ByteArray} {r : RS} {N : Nat} (h : r.In s N) (h0 : (seeM s r).2.e = 0) : seeM s r = (ch s r.i, r) ∧ r.e = 0 ∧ r.i < s.size := by
  unfold seeM at h0 ⊢
  by_cases h1 : r.e ≠ 0
  · rw [if_pos h1] at h0
    exact absurd h0 h1
  · rw [if_neg h1] at h0 ⊢
    by_cases h2 : r.i = s.size
    · rw [if_pos h2] at h0
      exact absurd h0 (by show ¬ (3 : Int) = 0; decide)
    · rw [if_neg h2]
      exact ⟨rfl, Decidable.byContradiction h1, by have := h.i; omega⟩
theorem eatM_in {s : ByteArray} {b : Nat} {r : RS} {N : Nat} (h : r.In s N) : (eatM s b r).In s N := by
  have h1 := seeM_in h
  unfold eatM
  by_cases h0 : (seeM s r).2.e = 0
  · rw [if_pos h0]
    obtain ⟨h2, h3, h4⟩ := seeM_ok h h0
    rw [h2]
    simp only
    split
    · exact ⟨h.i, h.l⟩
    · exact ⟨by show r.i + 1 ≤ _; omega, by have := h.l; show r.l.length + (s.size - (r.i + 1)) ≤ _; omega⟩
  · rw [if_neg h0]
    exact h1
/-- The reader in block rb. -/
structure RdAt (w : World) (B rb : Nat) (s : ByteArray) (r : RS) (v : Value) : Prop where
  b : w.heap[rb]? = some (.cells #[.string s, .int .i64 r.i, v, .int .i64 r.e] 127 (0, 0))
  o : w.ownsRow B 32 5 v r.l.length (pvs r.l)
  B0 : B ≤ rb
  Bw : B ≤ w.heap.size
section
variable {w w1 : World} {B rb : Nat} {s : ByteArray} {r : RS} {v v' : Value}
theorem RdAt.cells (h : RdAt w B rb s r v) : w.cell? ⟨rb, 0, none⟩ = some (.string s) ∧ w.cell? ⟨rb, 1, none⟩ = some (.int .i64 r.i) ∧ w.cell? ⟨rb, 2, none⟩ = some v ∧ w.cell? ⟨rb, 3, none⟩ = some (.int .i64 r.e) := by
  refine ⟨?_, ?_, ?_, ?_⟩ <;> simp [World.cell?, h.b]
theorem RdAt.free (h : RdAt w B rb s r v) (k : Nat) : w.frozen? ⟨rb, k, none⟩ = false := by simp [World.frozen?, h.b]
theorem RdAt.lt (h : RdAt w B rb s r v) : rb < w.heap.size := (Array.getElem?_eq_some_iff.1 h.b).1
theorem RdAt.below (h : RdAt w B rb s r v) (hb : Below w.heap.size w w1) : RdAt w1 B rb s r v :=
  ⟨(hb.block rb h.lt).trans h.b, Ap.own_bel h.o hb, h.B0, Nat.le_trans h.Bw hb.size⟩
theorem RdAt.ne (h : RdAt w B rb s r v) : v.ownBlock ≠ some rb := fun e => by
  rcases h.o.2 with ⟨rfl, _⟩ | ⟨g, cap, cur, rfl, _, hb, _⟩
  · cases e
  · cases e
    have := h.b
    rw [hb] at this
    simp at this
theorem RdAt.keep (h : RdAt w B rb s r v) (k : Nat) (u : Value) : (w.setCell ⟨rb, k, none⟩ u).ownsRow B 32 5 v r.l.length (pvs r.l) ∧ B ≤ (w.setCell ⟨rb, k, none⟩ u).heap.size := by
  have hs : ∀ g, g ≠ rb → (w.setCell ⟨rb, k, none⟩ u).heap[g]? = w.heap[g]? := fun g hg => Below.heap_setCell w _ _ g hg
  refine ⟨⟨h.o.1, ?_⟩, by show _ ≤ (w.heap.modify _ _).size; rw [Array.size_modify]; exact h.Bw⟩
  rcases h.o.2 with h0 | ⟨g, cap, cur, hv, hg, hc, rest⟩
  · exact .inl h0
  · exact .inr ⟨g, cap, cur, hv, hg, (hs g (fun e => h.ne (by rw [hv, ← e]; rfl))).trans hc, rest⟩
/-- Another place, another error. -/
theorem RdAt.move (h : RdAt w B rb s r v) (k : Nat) : RdAt (w.setCell ⟨rb, 1, none⟩ (.int .i64 k)) B rb s ⟨k, r.l, r.e⟩ v :=
  ⟨heap_set h.b 1 _, (h.keep 1 _).1, h.B0, (h.keep 1 (.int .i64 k)).2⟩
theorem RdAt.fail (h : RdAt w B rb s r v) (k : Int) : RdAt (w.setCell ⟨rb, 3, none⟩ (.int .i64 k)) B rb s ⟨r.i, r.l, k⟩ v :=
  ⟨heap_set h.b 3 _, (h.keep 3 _).1, h.B0, (h.keep 3 (.int .i64 k)).2⟩
theorem RdAt.fr (h : RdAt w B rb s r v) (k : Nat) (u : Value) : Fr rb v v w (w.setCell ⟨rb, k, none⟩ u) := (Fr.of_below (Below.refl _ _)).set ⟨rb, k, none⟩ (.inl rfl) _
theorem RdAt.bel (h : RdAt w B rb s r v) (hf : Fr rb v v' w w1) : Below B w w1 := hf.below h.Bw h.B0 (row_ge h.o)
theorem rd_appended {z : Pc} {tmp : Obj} (h : RdAt w B rb s r v)
    (hown : w1.ownsRow B 32 5 v' (r.l.length + 1) (pvs r.l ++ pv z)) (hg : (w.alloc tmp).grownBy w1 v.ownBlock) (hob : v'.ownBlock = v.ownBlock ∨ v'.ownBlock = some (w.alloc tmp).heap.size) :
    w1.cell? ⟨rb, 2, none⟩ = some v ∧ w1.frozen? ⟨rb, 2, none⟩ = false ∧ RdAt (w1.setCell ⟨rb, 2, none⟩ v') B rb s ⟨r.i, r.l ++ [z], r.e⟩ v' ∧ Fr rb v v' w (w1.setCell ⟨rb, 2, none⟩ v') := by
  have hb := (Below.refl w.heap.size w).alloc (Nat.le_refl _) tmp
  have h1 : w1.heap[rb]? = some (.cells #[.string s, .int .i64 r.i, v, .int .i64 r.e] 127 (0, 0)) := ((hg.block rb (Nat.lt_of_lt_of_le h.lt hb.size) (fun e => h.ne e.symm)).trans (hb.block rb h.lt)).trans h.b
  have hne : v'.ownBlock ≠ some rb := fun e => by
    rcases hown.2 with ⟨rfl, _⟩ | ⟨g, cap, cur, rfl, _, hb, _⟩
    · cases e
    · cases e
      rw [hb] at h1
      simp at h1
  have hs : ∀ k, k ≠ rb → (w1.setCell ⟨rb, 2, none⟩ v').heap[k]? = w1.heap[k]? := fun k hk => Below.heap_setCell w1 _ v' k hk
  refine ⟨by simp [World.cell?, h1], by simp [World.frozen?, h1], ⟨heap_set h1 2 v', ?_, h.B0, ?_⟩, (Fr.grown hg hob).set ⟨rb, 2, none⟩ (.inl rfl) v'⟩
  · show World.ownsRow _ _ _ _ _ (r.l ++ [z]).length (pvs (r.l ++ [z]))
    rw [List.length_append, pvs_snoc]
    refine ⟨hown.1, ?_⟩
    rcases hown.2 with h0 | ⟨g, cap, cur, hv, hge, hc, rest⟩
    · exact .inl h0
    · exact .inr ⟨g, cap, cur, hv, hge, (hs g (fun e => hne (by rw [hv, ← e]; rfl))).trans hc, rest⟩
  · show _ ≤ (w1.heap.modify _ _).size
    rw [Array.size_modify]
    exact Nat.le_trans h.Bw (Nat.le_trans hb.size hg.size)
end
/-- What a method of the reader leaves. -/
def RdPost (B rb : Nat) (s : ByteArray) (v : Value) (w : World) (x : Value) (r : RS) (e : Ending) (w' : World) : Prop := e = .returned x ∧ ∃ v', RdAt w' B rb s r v' ∧ Fr rb v v' w w'
set_option maxHeartbeats 4000000 in
theorem see_any (B rb N : Nat) (s : ByteArray) (r : RS) (v : Value) (w : World) (h : RdAt w B rb s r v) (hs : s.size ≤ 5000) (hi : r.In s N) :
    Calls Try.prog 109 #[.pointer (some ⟨rb, 0, none⟩)] w (RdPost B rb s v w (.int .u8 ((seeM s r).1 : Nat)) (seeM s r).2) := by
  obtain ⟨c0, c1, c2, c3⟩ := h.cells
  have hP : Hid (∀ e w', (e = .returned (.int .u8 ((seeM s r).1 : Nat)) ∧ ∃ v', RdAt w' B rb s (seeM s r).2 v' ∧ Fr rb v v' w w') → RdPost B rb s v w (.int .u8 ((seeM s r).1 : Nat)) (seeM s r).2 e w') := fun _ _ h => h
  unfold seeM at hP ⊢
  by_cases he : r.e ≠ 0
  · rw [if_pos he] at hP ⊢
    have h1 := int_ne he
    have H := Lib.hid h
    clear h
    go_enter Try.func109, Try.ntmps109
    go_wp2
    go_ret
    exact hP.out _ _ ⟨rfl, v, H.out, Fr.of_below (Below.refl _ _)⟩
  · have he0 : r.e = 0 := Decidable.byContradiction he
    rw [if_neg he] at hP ⊢
    rw [he0] at c3
    by_cases hz : r.i = s.size
    · rw [if_pos hz] at hP ⊢
      rw [hz] at c1
      have H := Lib.hid h
      have hne : ((s.size : Int) == (s.size : Int)) = true := by rw [beq_iff_eq]
      have HN : Hid (∀ X, Below w.heap.size w X → X.cell? ⟨rb, 3, none⟩ = some (.int .i64 0) ∧ X.frozen? ⟨rb, 3, none⟩ = false ∧ RdAt (X.setCell ⟨rb, 3, none⟩ (.int .i64 3)) B rb s ⟨r.i, r.l, 3⟩ v ∧ Fr rb v v w (X.setCell ⟨rb, 3, none⟩ (.int .i64 3))) := fun X hX => by
        have h2 := h.below hX
        exact ⟨by have := h2.cells.2.2.2; rwa [he0] at this, h2.free 3, h2.fail 3, (Fr.of_below hX).trans (h2.fr 3 _)⟩
      clear h he he0 hz
      go_enter Try.func109, Try.ntmps109
      go_wp2
      go_quiet (fail)
      have d3 := fun n => (HN.out _ (Ap.drewN_below w n)).1
      have d4 := fun n => (HN.out _ (Ap.drewN_below w n)).2.1
      have hrbl := fun n => Nat.lt_of_lt_of_le H.out.lt (Ap.drewN_below w n).size
      go_wp2
      go_ret
      exact hP.out _ _ ⟨rfl, v, (HN.out _ (Ap.drewN_below w _)).2.2.1, (HN.out _ (Ap.drewN_below w _)).2.2.2⟩
    · rw [if_neg hz] at hP ⊢
      have hi' : r.i < s.size := by have := hi.i; omega
      have hne : ((r.i : Int) == (s.size : Int)) = false := by rw [beq_eq_false_iff_ne]; omega
      have hx := Lib.hid (ch_at s r.i hi')
      have hi2 : (r.i : Int) < s.size := by omega
      have H := Lib.hid h
      generalize r.i = i at *
      clear h he he0 hz hi
      go_enter Try.func109, Try.ntmps109
      go_wp2
      go_quiet (fail)
      go_wp2
      go_quiet (fail)
      go_wp2
      go_ret
      exact hP.out _ _ ⟨by rw [← hx.out]; rfl, v, H.out.below (stepB (Ap.drewN_below _ _) (Ap.drewN_below _ _)), Fr.of_below (stepB (Ap.drewN_below _ _) (Ap.drewN_below _ _))⟩
end Go.Proofs.Yteckkbjpeckjmaa.Rx
/- The reference's reader (package regex): eat, add. -/
namespace Go.Proofs.Yteckkbjpeckjmaa.Rx
open Go Go.RowKit Go.Proofs.Yteckkbjpeckjmaa
set_option linter.unusedVariables false
set_option linter.unusedSimpArgs false
set_option maxRecDepth 100000
section
variable {B rb N : Nat} {s : ByteArray} {r : RS} {v : Value} {w : World}
/-- The reader's cells. -/
theorem RdAt.all {w : World} (h : RdAt w B rb s r v) : (w.cell? ⟨rb, 1, none⟩ = some (.int .i64 r.i) ∧ w.cell? ⟨rb, 3, none⟩ = some (.int .i64 r.e)) ∧ (w.frozen? ⟨rb, 1, none⟩ = false ∧ w.frozen? ⟨rb, 3, none⟩ = false) ∧ rb < w.heap.size :=
  ⟨⟨h.cells.2.1, h.cells.2.2.2⟩, ⟨h.free 1, h.free 3⟩, h.lt⟩
set_option maxHeartbeats 4000000 in
theorem eat_any (b : Nat) (hb8 : b < 256) (h : RdAt w B rb s r v) (hs : s.size ≤ 5000) (hi : r.In s N) :
    Calls Try.prog 140 #[.pointer (some ⟨rb, 0, none⟩), .int .u8 b] w (RdPost B rb s v w (.tuple #[]) (eatM s b r)) := by
  have HS := Lib.hid (see_any B rb N s r v w h hs hi)
  have hin := seeM_in hi
  have hlt := seeM_lt (s := s) (r := r)
  have hP : Hid (∀ e w', (e = .returned (.tuple #[]) ∧ ∃ v', RdAt w' B rb s (eatM s b r) v' ∧ Fr rb v v' w w') → RdPost B rb s v w (.tuple #[]) (eatM s b r) e w') := fun _ _ h => h
  have hE : Hid (eatM s b r = if (seeM s r).2.e = 0 then (if (seeM s r).1 ≠ b then ⟨(seeM s r).2.i, (seeM s r).2.l, 2⟩ else ⟨(seeM s r).2.i + 1, (seeM s r).2.l, (seeM s r).2.e⟩) else (seeM s r).2) := rfl
  unfold RdPost at HS
  generalize eatM s b r = R at *
  obtain ⟨c, hc⟩ : ∃ c, c = (seeM s r).1 := ⟨_, rfl⟩
  obtain ⟨r1, hr1⟩ : ∃ r1, r1 = (seeM s r).2 := ⟨_, rfl⟩
  rw [← hc, ← hr1] at HS hE
  rw [← hr1] at hin
  rw [← hc] at hlt
  have hil := hin.i
  clear hc hr1 h hi hin
  by_cases h0 : r1.e = 0
  · have HE := hE.out
    rw [if_pos h0] at HE
    by_cases hcb : c = b
    · rw [if_neg (by simp [hcb])] at HE
      subst HE
      subst hcb
      have hq : ((c : Int) != (c : Int)) = false := by simp
      clear hE
      obtain ⟨i1, l1, e1⟩ := r1
      simp only at *
      subst h0
      go_enter Try.func140, Try.ntmps140
      go_wp2_with (go_at_call 109; ((with_reducible refine HS.out.mono ?_); rintro x w1 ⟨rfl, v1, hR1, hF1⟩); obtain ⟨⟨k1, k3⟩, ⟨z1, z3⟩, hrl⟩ := hR1.all; have HR := Lib.hid hR1; have HF := Lib.hid hF1; clear hR1 hF1)
      go_end0
      have := HR.out.move (i1 + 1)
      have hf := HR.out.fr 1 (.int .i64 ((i1 + 1 : Nat) : Int))
      rw [show (((i1 + 1 : Nat)) : Int) = (i1 : Int) + 1 from rfl] at this hf
      exact hP.out _ _ ⟨rfl, v1, this, HF.out.trans hf⟩
    · rw [if_pos hcb] at HE
      subst HE
      have hq : ((c : Int) != (b : Int)) = true := by rw [bne_iff_ne]; omega
      clear hE
      obtain ⟨i1, l1, e1⟩ := r1
      simp only at *
      subst h0
      go_enter Try.func140, Try.ntmps140
      go_wp2_with (go_at_call 109; ((with_reducible refine HS.out.mono ?_); rintro x w1 ⟨rfl, v1, hR1, hF1⟩); obtain ⟨⟨k1, k3⟩, ⟨z1, z3⟩, hrl⟩ := hR1.all; have HR := Lib.hid hR1; have HF := Lib.hid hF1; clear hR1 hF1)
      go_end0
      exact hP.out _ _ ⟨rfl, v1, HR.out.fail 2, HF.out.trans (HR.out.fr 3 _)⟩
  · have HE := hE.out
    rw [if_neg h0] at HE
    subst HE
    have hq : (R.e == 0) = false := by rw [beq_eq_false_iff_ne]; exact h0
    clear hE h0
    go_enter Try.func140, Try.ntmps140
    go_wp2_with (go_at_call 109; ((with_reducible refine HS.out.mono ?_); rintro x w1 ⟨rfl, v1, hR1, hF1⟩); obtain ⟨⟨k1, k3⟩, ⟨z1, z3⟩, hrl⟩ := hR1.all; have HR := Lib.hid hR1; have HF := Lib.hid hF1; clear hR1 hF1)
    go_end0
    exact hP.out _ _ ⟨rfl, v1, HR.out, HF.out⟩
set_option maxHeartbeats 8000000 in
theorem rAdd_any (x : Pc) (h : RdAt w B rb s r v) (hl : r.l.length ≤ 100000) :
    Calls Try.prog 110 #[.pointer (some ⟨rb, 0, none⟩), agv x] w (RdPost B rb s v w (.int .i64 (r.l.length : Nat)) ⟨r.i, r.l ++ [x], r.e⟩) := by
  obtain ⟨i0, hi0, hz0, hz1, hz2⟩ := info_parts info_piece
  have hw0 := bal (Below.refl w.heap.size w) (.cells (pv x).toArray 32)
  have hP := h.below hw0
  have hbx := Bx5.new w x
  have HW0 := Lib.hid hw0
  obtain ⟨op, p, q, a, b⟩ := x
  unfold agv
  simp only
  have hPost : Hid (∀ e w', (e = .returned (.int .i64 (r.l.length : Nat)) ∧ ∃ v', RdAt w' B rb s ⟨r.i, r.l ++ [⟨op, p, q, a, b⟩], r.e⟩ v' ∧ Fr rb v v' w w') → RdPost B rb s v w (.int .i64 (r.l.length : Nat)) ⟨r.i, r.l ++ [⟨op, p, q, a, b⟩], r.e⟩ e w') := fun _ _ h => h
  go_enter Try.func110, Try.ntmps110
  go_upto_region 1 with fail
  change Code.wp _ _ _ _ (w.alloc (.cells (pv ⟨op, p, q, a, b⟩).toArray 32))
  have hn0 : w.heap.size < (w.alloc (.cells (pv ⟨op, p, q, a, b⟩).toArray 32)).heap.size := by simp
  generalize w.alloc (.cells (pv ⟨op, p, q, a, b⟩).toArray 32) = w1 at *
  obtain ⟨c0, c1, c2, c3⟩ := hP.cells
  obtain ⟨b0, b1, b2, b3, b4⟩ := hbx.cells
  simp only at b0 b1 b2 b3 b4
  have HP := Lib.hid hP
  have HP2 := Lib.hid (hP.below (drew_below w1))
  have hpl := hP.lt
  clear h hw0 hP hbx
  refine wp_region_any (by kernel_rfl) ?_
  change wpAny _ _ _ _ _ _ _ (World.drew _)
  refine wpAny_take (i := 0) (v := ?_) (at_drop rfl) (by kernel_rfl) (by kernel_rfl) (by kernel_rfl) (fun _ _ _ h => h) (Or.inl ⟨by rfl, ?_⟩) ?_
  rotate_left
  · (intro w; go_simp <;> with_reducible rfl)
  simp only [Act.put, List.setIfInBounds_toArray, List.set_cons_zero, List.set_cons_succ]
  refine wpAny_take (i := 1) (v := ?_) (at_drop rfl) (by kernel_rfl) (by kernel_rfl) (by kernel_rfl) (fun _ _ _ h => h) (Or.inl ⟨by rfl, ?_⟩) ?_
  rotate_left
  · (intro w; go_simp <;> with_reducible rfl)
  simp only [Act.put, List.setIfInBounds_toArray, List.set_cons_zero, List.set_cons_succ]
  refine wpAny_take (i := 2) (v := ?_) (at_drop rfl) (by kernel_rfl) (by kernel_rfl) (by kernel_rfl) (fun _ _ _ h => h) (Or.inl ⟨by rfl, ?_⟩) ?_
  rotate_left
  · (intro w; go_simp <;> with_reducible rfl)
  simp only [Act.put, List.setIfInBounds_toArray, List.set_cons_zero, List.set_cons_succ]
  refine wpAny_take (i := 3) (v := ?_) (at_drop rfl) (by kernel_rfl) (by kernel_rfl) (by kernel_rfl) (fun _ _ _ h => h) (Or.inl ⟨by rfl, ?_⟩) ?_
  rotate_left
  · (intro w; go_simp <;> with_reducible rfl)
  simp only [Act.put, List.setIfInBounds_toArray, List.set_cons_zero, List.set_cons_succ]
  have hS0 : (fun X : World => X.cell? ⟨rb, 2, none⟩ = some v ∧ X.cell? ⟨w.heap.size, 0, none⟩ = some (.int .u8 op) ∧ X.cell? ⟨w.heap.size, 1, none⟩ = some (.int .u8 p) ∧ X.cell? ⟨w.heap.size, 2, none⟩ = some (.int .u8 q) ∧ X.cell? ⟨w.heap.size, 3, none⟩ = some (.int .i64 a) ∧ X.cell? ⟨w.heap.size, 4, none⟩ = some (.int .i64 b)) w1.drew := ⟨c2, b0, b1, b2, b3, b4⟩
  have hlY : ∀ Y : World, Below w1.heap.size w1 Y → (fun X : World => X.cell? ⟨rb, 2, none⟩ = some v ∧ X.cell? ⟨w.heap.size, 0, none⟩ = some (.int .u8 op) ∧ X.cell? ⟨w.heap.size, 1, none⟩ = some (.int .u8 p) ∧ X.cell? ⟨w.heap.size, 2, none⟩ = some (.int .u8 q) ∧ X.cell? ⟨w.heap.size, 3, none⟩ = some (.int .i64 a) ∧ X.cell? ⟨w.heap.size, 4, none⟩ = some (.int .i64 b)) Y := fun Y hY => ⟨(hY.cell (p := ⟨rb, 2, none⟩) hpl).trans c2, (hY.cell (p := ⟨w.heap.size, 0, none⟩) hn0).trans b0, (hY.cell (p := ⟨w.heap.size, 1, none⟩) hn0).trans b1, (hY.cell (p := ⟨w.heap.size, 2, none⟩) hn0).trans b2, (hY.cell (p := ⟨w.heap.size, 3, none⟩) hn0).trans b3, (hY.cell (p := ⟨w.heap.size, 4, none⟩) hn0).trans b4⟩
  refine wpAny_head 7 3 (fun X : World => X.cell? ⟨rb, 2, none⟩ = some v ∧ X.cell? ⟨w.heap.size, 0, none⟩ = some (.int .u8 op) ∧ X.cell? ⟨w.heap.size, 1, none⟩ = some (.int .u8 p) ∧ X.cell? ⟨w.heap.size, 2, none⟩ = some (.int .u8 q) ∧ X.cell? ⟨w.heap.size, 3, none⟩ = some (.int .i64 a) ∧ X.cell? ⟨w.heap.size, 4, none⟩ = some (.int .i64 b)) rfl rfl (by kernel_rfl) (by kernel_rfl) (by kernel_rfl) (fun hA => ?_)
  refine wpHead_take (i := 4) (v := ?_) (by kernel_rfl) hA (at_drop rfl) (by decide) (by kernel_rfl) (by kernel_rfl) (by kernel_rfl) (fun _ _ _ h => h) (Or.inl ⟨by rfl, ?_⟩) hS0 (fun hA => ?_)
  rotate_left
  · (intro w hSw; obtain ⟨s0, s1, s2, s3, s4, s5⟩ := hSw; go_simp <;> with_reducible rfl)
  simp only [Act.put, List.setIfInBounds_toArray, List.set_cons_zero, List.set_cons_succ]
  refine wpHead_take (i := 5) (v := ?_) (by kernel_rfl) hA (at_drop rfl) (by decide) (by kernel_rfl) (by kernel_rfl) (by kernel_rfl) (fun _ _ _ h => h) (Or.inl ⟨by rfl, ?_⟩) hS0 (fun hA => ?_)
  rotate_left
  · (intro w hSw; obtain ⟨s0, s1, s2, s3, s4, s5⟩ := hSw; go_simp <;> with_reducible rfl)
  simp only [Act.put, List.setIfInBounds_toArray, List.set_cons_zero, List.set_cons_succ]
  refine wpHead_ready (rs := [6]) (by kernel_rfl) (by decide) (AllHead.cons (at_drop rfl) (by decide) (fun KK hK => ?_) AllHead.nil)
  go_simp
  refine hK _ _ (hlY _ (bal (drew_below w1) _)) ?_
  clear hK KK
  refine wpHead_end (by kernel_rfl) ?_
  simp only [List.drop_succ_cons, List.drop_zero]
  have own2 := Lib.hid HP2.out.o
  have hBw := HP.out.Bw
  clear hlY c0 c1 c2 c3 b0 b1 b2 b3 b4 hS0 hA
  go_wp2_with (at_builtin; refine wpList_append_own_at _ rfl _ _ 27 rfl B 32 i0 _ 5 24 Try.underlying27 hi0 hz0 hz1 hz2 rfl (by decide) v r.l.length (pvs r.l) rfl (Ap.own_bel HP.out.o (bal (drew_below w1) _)) ⟨w1.heap.size, 0, none⟩ 1 1 [.int .u8 op, .int .u8 p, .int .u8 q, .int .i64 a, .int .i64 b] rfl rfl (fun j u hu => cells_new w1 _ 32 j u hu) (by simp [Value.oneCell']) (by unfold maxLen; omega) (by omega) (by simp; omega) ?_; intro v' w6 hown' hgrow _ hob; obtain ⟨A', c', rfl, _⟩ := Ap.own_form hown'; obtain ⟨q0, q1, hC6, hF6⟩ := rd_appended (z := ⟨op, p, q, a, b⟩) HP.out hown' ⟨hgrow.os, hgrow.tape, hgrow.output, hgrow.size, hgrow.block⟩ hob; have q2 := hC6.cells.2.2.1; have HC6 := Lib.hid hC6; have HF6 := Lib.hid hF6; clear hown' hgrow hob hC6 hF6)
  go_ret
  exact hPost.out _ _ ⟨rfl, _, HC6.out, (Fr.of_below HW0.out).trans HF6.out⟩
end
end Go.Proofs.Yteckkbjpeckjmaa.Rx
/- The reference's reader (package regex): a cube. -/
namespace Go.Proofs.Yteckkbjpeckjmaa.Rx
open Go Go.RowKit Go.Proofs.Yteckkbjpeckjmaa
set_option linter.unusedVariables false
set_option linter.unusedSimpArgs false
set_option maxRecDepth 100000
section
variable {B rb : Nat} {s : ByteArray} {r : RS} {v v' : Value} {w w' : World}
theorem RdAt.other (h : RdAt w B rb s r v) {b : Nat} {cs : Array Value} {t : TypeId} {f : Nat × Nat} (hb : w.heap[b]? = some (.cells cs t f)) (h1 : t ≠ 127) (h2 : t ≠ 32) (k : Nat) (u : Value) : RdAt (w.setCell ⟨b, k, none⟩ u) B rb s r v := by
  have hs : ∀ g, g ≠ b → (w.setCell ⟨b, k, none⟩ u).heap[g]? = w.heap[g]? := fun g hg => Below.heap_setCell w _ _ g hg
  refine ⟨(hs rb fun e => ?_).trans h.b, ⟨h.o.1, ?_⟩, h.B0, by show _ ≤ (w.heap.modify _ _).size; rw [Array.size_modify]; exact h.Bw⟩
  · have := h.b
    rw [e, hb] at this
    simp only [Option.some.injEq, Obj.cells.injEq] at this
    exact h1 this.2.1
  · rcases h.o.2 with h0 | ⟨g, cap, cur, hv, hg, hc, rest⟩
    · exact .inl h0
    · refine .inr ⟨g, cap, cur, hv, hg, (hs g fun e => ?_).trans hc, rest⟩
      rw [e, hb] at hc
      simp only [Option.some.injEq, Obj.cells.injEq] at hc
      exact h2 hc.2.1
theorem RdAt.keeps (h : RdAt w B rb s r v) (hf : Fr rb v v' w w') {b : Nat} {cs : Array Value} {t : TypeId} {f : Nat × Nat} (hb : w.heap[b]? = some (.cells cs t f)) (h1 : t ≠ 127) (h2 : t ≠ 32) : w'.heap[b]? = some (.cells cs t f) := by
  refine (hf.block b (lt_of_block hb) (fun e => ?_) fun e => ?_).trans hb
  · have := h.b
    rw [← e, hb] at this
    simp only [Option.some.injEq, Obj.cells.injEq] at this
    exact h1 this.2.1
  · rcases h.o.2 with ⟨rfl, _⟩ | ⟨g, cap, cur, rfl, _, hc, _⟩
    · cases e
    · cases e
      rw [hb] at hc
      simp only [Option.some.injEq, Obj.cells.injEq] at hc
      exact h2 hc.2.1
theorem seeM_at {i : Nat} {l : List Pc} (hi : i < s.size) : seeM s ⟨i, l, 0⟩ = (ch s i, ⟨i, l, 0⟩) := by
  unfold seeM
  rw [if_neg (by simp), if_neg (by show ¬ i = s.size; omega)]
theorem seeM_stop {l : List Pc} : seeM s ⟨s.size, l, 0⟩ = (0, ⟨s.size, l, 3⟩) := by
  unfold seeM
  rw [if_neg (by simp), if_pos rfl]
theorem seeM_off {i : Nat} {l : List Pc} {k : Int} (hk : k ≠ 0) : seeM s ⟨i, l, k⟩ = (0, ⟨i, l, k⟩) := by
  unfold seeM
  rw [if_pos hk]
/-- What see answers where there is no error. -/
theorem see_at {i : Nat} {l : List Pc} (hs : s.size ≤ 5000) (hi : i < s.size) (h : RdAt w B rb s ⟨i, l, 0⟩ v) : Calls Try.prog 109 #[.pointer (some ⟨rb, 0, none⟩)] w fun e w' => e = .returned (.int .u8 (ch s i)) ∧ ∃ v', RdAt w' B rb s ⟨i, l, 0⟩ v' ∧ Fr rb v v' w w' := by
  have := see_any B rb (l.length + (s.size - i)) s ⟨i, l, 0⟩ v w h hs ⟨Nat.le_of_lt hi, Nat.le_refl _⟩
  rw [seeM_at hi] at this
  exact this
theorem see_stop {l : List Pc} (hs : s.size ≤ 5000) (h : RdAt w B rb s ⟨s.size, l, 0⟩ v) : Calls Try.prog 109 #[.pointer (some ⟨rb, 0, none⟩)] w fun e w' => e = .returned (.int .u8 0) ∧ ∃ v', RdAt w' B rb s ⟨s.size, l, 3⟩ v' ∧ Fr rb v v' w w' := by
  have := see_any B rb l.length s ⟨s.size, l, 0⟩ v w h hs ⟨Nat.le_refl _, by simp⟩
  rw [seeM_stop] at this
  exact this
theorem see_err {i : Nat} {l : List Pc} {k : Int} (hs : s.size ≤ 5000) (hi : i ≤ s.size) (hk : k ≠ 0) (h : RdAt w B rb s ⟨i, l, k⟩ v) : Calls Try.prog 109 #[.pointer (some ⟨rb, 0, none⟩)] w fun e w' => e = .returned (.int .u8 0) ∧ ∃ v', RdAt w' B rb s ⟨i, l, k⟩ v' ∧ Fr rb v v' w w' := by
  have := see_any B rb (l.length + (s.size - i)) s ⟨i, l, k⟩ v w h hs ⟨hi, Nat.le_refl _⟩
  rw [seeM_off hk] at this
  exact this
/-- What eat does. -/
theorem eat_at (b : Nat) (hb : b < 256) {i : Nat} {l : List Pc} (hs : s.size ≤ 5000) (hi : i ≤ s.size) (h : RdAt w B rb s ⟨i, l, 0⟩ v) : Calls Try.prog 140 #[.pointer (some ⟨rb, 0, none⟩), .int .u8 b] w fun e w' => e = .returned (.tuple #[]) ∧ ∃ v', (match eat b (Dl s i) with
    | .ok r' => RdAt w' B rb s ⟨s.size - r'.length, l, 0⟩ v'
    | .error k => RdAt w' B rb s ⟨i, l, k⟩ v') ∧ Fr rb v v' w w' := by
  have := eat_any (B := B) (rb := rb) (N := l.length + (s.size - i)) (s := s) (r := ⟨i, l, 0⟩) (v := v) (w := w) b hb h hs ⟨hi, Nat.le_refl _⟩
  unfold RdPost at this
  by_cases hz : i = s.size
  · subst hz
    have e : eatM s b ⟨s.size, l, 0⟩ = ⟨s.size, l, 3⟩ := by
      unfold eatM
      rw [seeM_stop, if_neg (by show ¬ (3 : Int) = 0; decide)]
    rw [e] at this
    rw [Dl_end]
    exact this
  · have hi1 : i < s.size := by omega
    rw [Dl_cons s i hi1, eat_cons, ofNat_ch]
    have e : eatM s b ⟨i, l, 0⟩ = if ch s i = b then ⟨i + 1, l, 0⟩ else ⟨i, l, 2⟩ := by
      unfold eatM
      rw [seeM_at hi1, if_pos rfl]
      simp only
      by_cases hc : ch s i = b
      · rw [if_neg (by simp [hc]), if_pos hc]
      · rw [if_pos hc, if_neg hc]
    rw [e] at this
    by_cases hc : ch s i = b
    · rw [if_pos hc] at this ⊢
      simp only
      rw [Dl_len, show s.size - (s.size - (i + 1)) = i + 1 by omega]
      exact this
    · rw [if_neg hc] at this ⊢
      exact this
theorem eat_off (b : Nat) (hb : b < 256) {i : Nat} {l : List Pc} {k : Int} (hs : s.size ≤ 5000) (hi : i ≤ s.size) (hk : k ≠ 0) (h : RdAt w B rb s ⟨i, l, k⟩ v) : Calls Try.prog 140 #[.pointer (some ⟨rb, 0, none⟩), .int .u8 b] w fun e w' => e = .returned (.tuple #[]) ∧ ∃ v', RdAt w' B rb s ⟨i, l, k⟩ v' ∧ Fr rb v v' w w' := by
  have := eat_any (B := B) (rb := rb) (N := l.length + (s.size - i)) (s := s) (r := ⟨i, l, k⟩) (v := v) (w := w) b hb h hs ⟨hi, Nat.le_refl _⟩
  have e : eatM s b ⟨i, l, k⟩ = ⟨i, l, k⟩ := by
    unfold eatM
    rw [seeM_off hk, if_neg hk]
  rw [e] at this
  exact this
theorem RdAt.apart (h : RdAt w B rb s r v) {b : Nat} {cs : Array Value} {t : TypeId} {f : Nat × Nat} (hb : w.heap[b]? = some (.cells cs t f)) (h1 : t ≠ 127) : b ≠ rb := fun e => by
  have := h.b
  rw [← e, hb] at this
  simp only [Option.some.injEq, Obj.cells.injEq] at this
  exact h1 this.2.1
theorem RdAt.step (h : RdAt w B rb s r v) : RdAt (w.setCell ⟨rb, 1, none⟩ (.int .i64 ((r.i : Int) + 1))) B rb s ⟨r.i + 1, r.l, r.e⟩ v ∧ Fr rb v v w (w.setCell ⟨rb, 1, none⟩ (.int .i64 ((r.i : Int) + 1))) := ⟨h.move (r.i + 1), h.fr 1 _⟩
/-- The result of cube has been laid. -/
theorem cub_fin {v3 : Value} {w0 : World} {bq : Nat} {u0 u1 p q : Value} (hB : Box2 w bq 103 u0 u1) (hR : RdAt w B rb s r v3) (hF : Fr rb v v3 w0 w) (hq : w0.heap.size ≤ bq) :
    ((w.setCell ⟨bq, 0, none⟩ p).setCell ⟨bq, 1, none⟩ q).cell? ⟨bq, 0, none⟩ = some p ∧ ((w.setCell ⟨bq, 0, none⟩ p).setCell ⟨bq, 1, none⟩ q).cell? ⟨bq, 1, none⟩ = some q ∧ RdAt ((w.setCell ⟨bq, 0, none⟩ p).setCell ⟨bq, 1, none⟩ q) B rb s r v3 ∧ Fr rb v v3 w0 ((w.setCell ⟨bq, 0, none⟩ p).setCell ⟨bq, 1, none⟩ q) := by
  have b1 := hB.set0 p
  have b2 := b1.set1 q
  have h1 := hR.other hB (by decide) (by decide) 0 p
  exact ⟨b2.c0, b2.c1, h1.other b1 (by decide) (by decide) 1 q, (hF.set ⟨bq, 0, none⟩ (.inr hq) p).set ⟨bq, 1, none⟩ (.inr hq) q⟩
/-- What reading a cube leaves. -/
def CubP (B rb : Nat) (s : ByteArray) (a : Nat) (l : List Pc) (v : Value) (w : World) (R : Except Int ((Nat × Nat) × List UInt8)) (e : Ending) (w' : World) : Prop :=
  match R with
  | .ok ((p, q), rest) => e = .returned (.agg #[.int .u8 p, .int .u8 q]) ∧ ∃ v', RdAt w' B rb s ⟨s.size - rest.length, l, 0⟩ v' ∧ Fr rb v v' w w'
  | .error k => ∃ i, a ≤ i ∧ i ≤ s.size ∧ e = .returned (.agg #[.int .u8 0, .int .u8 0]) ∧ ∃ v', RdAt w' B rb s ⟨i, l, k⟩ v' ∧ Fr rb v v' w w'
theorem pcl_fin (st : Rd) : pcl st (Dl s s.size) = .error 3 := by
  rw [Dl_end]; rfl
theorem px_ok {i p q n : Nat} (h : i < s.size) (hc : ch s i = 93) (hn : n ≠ 0) : pcl (p, q, n, true) (Dl s i) = .ok ((p, q), Dl s (i + 1)) := by
  rw [Dl_cons s i h, pcl_cons, ofNat_ch, if_pos ⟨hc, hn, rfl⟩]
theorem px_bad {i p q n : Nat} (h : i < s.size) (h1 : ¬ (ch s i = 93 ∧ n ≠ 0)) (h2 : ¬ (ch s i = 33 ∧ n ≤ 5)) (h3 : ¬ (97 + n ≤ ch s i ∧ ch s i < 103)) : pcl (p, q, n, true) (Dl s i) = .error 2 := by
  rw [Dl_cons s i h, pcl_cons, ofNat_ch, if_neg (fun e => h1 ⟨e.1, e.2.1⟩)]
  split
  · rfl
  · rename_i h4
    rw [show rdStep (p, q, n, true) (ch s i) = none by
      unfold rdStep
      rw [if_neg (by simp only [and_true]; simp only at h4; omega), if_neg h3]]
theorem px_pos {i p q n : Nat} (h : i < s.size) (h3 : 97 + n ≤ ch s i) (h4 : ch s i < 103) : pcl (p, q, n, true) (Dl s i) = pcl (p ||| 2 ^ (ch s i - 97), q, ch s i - 97 + 1, true) (Dl s (i + 1)) := by
  rw [Dl_cons s i h, pcl_cons, ofNat_ch, if_neg (by simp only; omega), if_neg (by simp only; omega)]
  rw [show rdStep (p, q, n, true) (ch s i) = some (p ||| 2 ^ (ch s i - 97), q, ch s i - 97 + 1, true) by
    unfold rdStep
    rw [if_neg (by simp only; omega), if_pos ⟨h3, h4⟩]
    rfl]
theorem px_not {i p q n : Nat} (h : i < s.size) (hc : ch s i = 33) (hn : n ≤ 5) : pcl (p, q, n, true) (Dl s i) = pcl (p, q, n, false) (Dl s (i + 1)) := by
  rw [Dl_cons s i h, pcl_cons, ofNat_ch, if_neg (by simp only; omega), if_neg (by simp only; omega)]
  rw [show rdStep (p, q, n, true) (ch s i) = some (p, q, n, false) by
    unfold rdStep
    rw [if_pos ⟨hc, rfl⟩]]
theorem px_neg {i p q n : Nat} (h : i < s.size) (h3 : 97 + n ≤ ch s i) (h4 : ch s i < 103) : pcl (p, q, n, false) (Dl s i) = pcl (p, q ||| 2 ^ (ch s i - 97), ch s i - 97 + 1, true) (Dl s (i + 1)) := by
  rw [Dl_cons s i h, pcl_cons, ofNat_ch, if_neg (by simp), if_neg (by simp only; omega)]
  rw [show rdStep (p, q, n, false) (ch s i) = some (p, q ||| 2 ^ (ch s i - 97), ch s i - 97 + 1, true) by
    unfold rdStep
    rw [if_neg (by simp), if_pos ⟨h3, h4⟩]
    rfl]
theorem px_badn {i p q n : Nat} (h : i < s.size) (h3 : ¬ (97 + n ≤ ch s i ∧ ch s i < 103)) : pcl (p, q, n, false) (Dl s i) = .error 2 := by
  rw [Dl_cons s i h, pcl_cons, ofNat_ch, if_neg (by simp)]
  split
  · rfl
  · rw [show rdStep (p, q, n, false) (ch s i) = none by
      unfold rdStep
      rw [if_neg (by simp), if_neg h3]]
theorem eat_at93 {i : Nat} {l : List Pc} (hs : s.size ≤ 5000) (hi : i ≤ s.size) (h : RdAt w B rb s ⟨i, l, 0⟩ v) : Calls Try.prog 140 #[.pointer (some ⟨rb, 0, none⟩), .int .u8 93] w fun e w' => e = .returned (.tuple #[]) ∧ ∃ v', (match eat 93 (Dl s i) with
    | .ok r' => RdAt w' B rb s ⟨s.size - r'.length, l, 0⟩ v'
    | .error k => RdAt w' B rb s ⟨i, l, k⟩ v') ∧ Fr rb v v' w w' := eat_at 93 (by decide) hs hi h
theorem eat_at41 {i : Nat} {l : List Pc} (hs : s.size ≤ 5000) (hi : i ≤ s.size) (h : RdAt w B rb s ⟨i, l, 0⟩ v) : Calls Try.prog 140 #[.pointer (some ⟨rb, 0, none⟩), .int .u8 41] w fun e w' => e = .returned (.tuple #[]) ∧ ∃ v', (match eat 41 (Dl s i) with
    | .ok r' => RdAt w' B rb s ⟨s.size - r'.length, l, 0⟩ v'
    | .error k => RdAt w' B rb s ⟨i, l, k⟩ v') ∧ Fr rb v v' w w' := eat_at 41 (by decide) hs hi h
theorem eat_off41 {i : Nat} {l : List Pc} {k : Int} (hs : s.size ≤ 5000) (hi : i ≤ s.size) (hk : k ≠ 0) (h : RdAt w B rb s ⟨i, l, k⟩ v) : Calls Try.prog 140 #[.pointer (some ⟨rb, 0, none⟩), .int .u8 41] w fun e w' => e = .returned (.tuple #[]) ∧ ∃ v', RdAt w' B rb s ⟨i, l, k⟩ v' ∧ Fr rb v v' w w' := eat_off 41 (by decide) hs hi hk h
/-- A letter has been read. -/
theorem cub_next0 {v3 : Value} {w0 : World} {l : List Pc} {bq k : Nat} {u0 u1 p q u : Value} (hA : Box2 w bq 103 u0 u1) (hB : Box2 w (bq + 1) 103 p q) (hR : RdAt w B rb s ⟨k, l, 0⟩ v3) (hF : Fr rb v v3 w0 w) (hq : w0.heap.size ≤ bq) :
    RdAt ((w.setCell ⟨bq + 1, 0, none⟩ u).setCell ⟨rb, 1, none⟩ (.int .i64 ((k : Int) + 1))) B rb s ⟨k + 1, l, 0⟩ v3 ∧ Fr rb v v3 w0 ((w.setCell ⟨bq + 1, 0, none⟩ u).setCell ⟨rb, 1, none⟩ (.int .i64 ((k : Int) + 1))) ∧ Box2 ((w.setCell ⟨bq + 1, 0, none⟩ u).setCell ⟨rb, 1, none⟩ (.int .i64 ((k : Int) + 1))) bq 103 u0 u1 ∧ Box2 ((w.setCell ⟨bq + 1, 0, none⟩ u).setCell ⟨rb, 1, none⟩ (.int .i64 ((k : Int) + 1))) (bq + 1) 103 u q := by
  have b1 := hB.set0 u
  have a1 := hA.other ⟨bq + 1, 0, none⟩ u (by show bq ≠ bq + 1; omega)
  have h1 := hR.other hB (by decide) (by decide) 0 u
  have f1 := hF.set ⟨bq + 1, 0, none⟩ (.inr (by show _ ≤ bq + 1; omega)) u
  exact ⟨h1.move (k + 1), f1.trans (h1.fr 1 _), a1.other ⟨rb, 1, none⟩ _ (h1.apart a1 (by decide)), b1.other ⟨rb, 1, none⟩ _ (h1.apart b1 (by decide))⟩
theorem cub_next1 {v3 : Value} {w0 : World} {l : List Pc} {bq k : Nat} {u0 u1 p q u : Value} (hA : Box2 w bq 103 u0 u1) (hB : Box2 w (bq + 1) 103 p q) (hR : RdAt w B rb s ⟨k, l, 0⟩ v3) (hF : Fr rb v v3 w0 w) (hq : w0.heap.size ≤ bq) :
    RdAt ((w.setCell ⟨bq + 1, 1, none⟩ u).setCell ⟨rb, 1, none⟩ (.int .i64 ((k : Int) + 1))) B rb s ⟨k + 1, l, 0⟩ v3 ∧ Fr rb v v3 w0 ((w.setCell ⟨bq + 1, 1, none⟩ u).setCell ⟨rb, 1, none⟩ (.int .i64 ((k : Int) + 1))) ∧ Box2 ((w.setCell ⟨bq + 1, 1, none⟩ u).setCell ⟨rb, 1, none⟩ (.int .i64 ((k : Int) + 1))) bq 103 u0 u1 ∧ Box2 ((w.setCell ⟨bq + 1, 1, none⟩ u).setCell ⟨rb, 1, none⟩ (.int .i64 ((k : Int) + 1))) (bq + 1) 103 p u := by
  have b1 := hB.set1 u
  have a1 := hA.other ⟨bq + 1, 1, none⟩ u (by show bq ≠ bq + 1; omega)
  have h1 := hR.other hB (by decide) (by decide) 1 u
  have f1 := hF.set ⟨bq + 1, 1, none⟩ (.inr (by show _ ≤ bq + 1; omega)) u
  exact ⟨h1.move (k + 1), f1.trans (h1.fr 1 _), a1.other ⟨rb, 1, none⟩ _ (h1.apart a1 (by decide)), b1.other ⟨rb, 1, none⟩ _ (h1.apart b1 (by decide))⟩
/-- A byte that does not fit. -/
theorem cub_fail {v3 : Value} {w0 : World} {l : List Pc} {bq k : Nat} {u0 u1 : Value} (hA : Box2 w bq 103 u0 u1) (hR : RdAt w B rb s ⟨k, l, 0⟩ v3) (hF : Fr rb v v3 w0 w) :
    RdAt (w.setCell ⟨rb, 3, none⟩ (.int .i64 2)) B rb s ⟨k, l, 2⟩ v3 ∧ Fr rb v v3 w0 (w.setCell ⟨rb, 3, none⟩ (.int .i64 2)) ∧ Box2 (w.setCell ⟨rb, 3, none⟩ (.int .i64 2)) bq 103 u0 u1 :=
  ⟨hR.fail 2, hF.trans (hR.fr 3 _), hA.other ⟨rb, 3, none⟩ _ (hR.apart hA (by decide))⟩
theorem lor64 {p j : Nat} (hp : p < 64) (hj : j < 6) : p ||| 2 ^ j < 64 := Nat.or_lt_two_pow (n := 6) hp (Nat.pow_lt_pow_right (by decide) hj)
end
end Go.Proofs.Yteckkbjpeckjmaa.Rx
/- The reference's reader (package regex): what an expression leaves. -/
namespace Go.Proofs.Yteckkbjpeckjmaa.Rx
open Go Go.RowKit Go.Proofs.Yteckkbjpeckjmaa
set_option linter.unusedVariables false
set_option linter.unusedSimpArgs false
set_option maxRecDepth 100000
/-- What reading an expression leaves: the index x and the reader R1. -/
def XR (s : ByteArray) (N : Nat) (l : List Pc) (R : Except Int (Ex × List UInt8)) (x : Int) (R1 : RS) : Prop :=
  R1.In s N ∧ match R with
    | .ok (t, rest) => x = ((l.length + t.size : Nat) : Int) - 1 ∧ R1 = ⟨s.size - rest.length, l ++ flat t l.length, 0⟩
    | .error k => R1.e = k ∧ k ≠ 0
def ExO (B rb : Nat) (s : ByteArray) (N : Nat) (l : List Pc) (v : Value) (w : World) (R : Except Int (Ex × List UInt8)) (e : Ending) (w' : World) : Prop :=
  ∃ x R1 v', Hid (XR s N l R x R1) ∧ e = .returned (.int .i64 x) ∧ RdAt w' B rb s R1 v' ∧ Fr rb v v' w w'
def ExR (B rb : Nat) (s : ByteArray) (f : Nat) : Prop := ∀ (i : Nat) (v : Value) (l : List Pc) (w : World), RdAt w B rb s ⟨i, l, 0⟩ v → i ≤ s.size → s.size - i ≤ f → l.length + (s.size - i) ≤ 9000 →
  Calls Try.prog 91 #[.pointer (some ⟨rb, 0, none⟩)] w (ExO B rb s (l.length + (s.size - i)) l v w (pex f (Dl s i)))
theorem RS.In.mono {r : RS} {s : ByteArray} {N M : Nat} (h : r.In s N) (hm : N ≤ M) : r.In s M := ⟨h.i, Nat.le_trans h.l hm⟩
theorem eatM_off {s : ByteArray} {b : Nat} {r : RS} (h : r.e ≠ 0) : eatM s b r = r := by
  have : seeM s r = (0, r) := by
    unfold seeM
    rw [if_pos h]
  unfold eatM
  rw [this, if_neg h]
theorem eatM_len {s : ByteArray} {b : Nat} {r : RS} : (eatM s b r).l = r.l := by
  have h : (seeM s r).2.l = r.l := by
    unfold seeM
    split
    · rfl
    · split <;> rfl
  unfold eatM
  split
  · split <;> exact h
  · exact h
/-- The reader after a piece has been added. -/
def addM (r : RS) (z : Pc) : RS := ⟨r.i, r.l ++ [z], r.e⟩
theorem xr_off {s : ByteArray} {N : Nat} {l : List Pc} {k : Int} {R1 : RS} {z : Pc} (hi : R1.In s N) (he : R1.e = k) (hk : k ≠ 0) (y : Int) : XR s (N + 1) l (.error k) y (addM (eatM s 41 R1) z) := by
  rw [eatM_off (by rw [he]; exact hk)]
  exact ⟨⟨hi.i, by have := hi.l; show (R1.l ++ [z]).length + _ ≤ _; rw [List.length_append]; simp only [List.length_cons, List.length_nil]; show _ + (s.size - R1.i) ≤ _; omega⟩, he, hk⟩
theorem xr_fin {s : ByteArray} {N k : Nat} {l L : List Pc} {t : Ex} {z : Pc} (hk : k ≤ s.size) (hl : L.length + 1 = l.length + t.size) (hL : L ++ [z] = l ++ flat t l.length) (hN : L.length + (s.size - k) + 1 ≤ N) :
    XR s N l (eatT t (eat 41 (Dl s k))) ((L.length : Nat) : Int) (addM (eatM s 41 ⟨k, L, 0⟩) z) := by
  have hx : (((L.length : Nat)) : Int) = ((l.length + t.size : Nat) : Int) - 1 := by omega
  have hlen : (L ++ [z]).length = L.length + 1 := by simp
  by_cases hz : k = s.size
  · subst hz
    have e : eatM s 41 ⟨s.size, L, 0⟩ = ⟨s.size, L, 3⟩ := by
      unfold eatM
      rw [seeM_stop, if_neg (by show ¬ (3 : Int) = 0; decide)]
    rw [e, eat_end]
    exact ⟨⟨Nat.le_refl _, by show (L ++ [z]).length + (s.size - s.size) ≤ N; omega⟩, rfl, by decide⟩
  · have hk1 : k < s.size := by omega
    have e : eatM s 41 ⟨k, L, 0⟩ = if ch s k = 41 then ⟨k + 1, L, 0⟩ else ⟨k, L, 2⟩ := by
      unfold eatM
      rw [seeM_at hk1, if_pos rfl]
      simp only
      by_cases hc : ch s k = 41
      · rw [if_neg (by simp [hc]), if_pos hc]
      · rw [if_pos hc, if_neg hc]
    rw [e, eat_Dl hk1]
    by_cases hc : ch s k = 41
    · rw [if_pos hc, if_pos hc]
      refine ⟨⟨by show k + 1 ≤ _; omega, by show (L ++ [z]).length + (s.size - (k + 1)) ≤ N; omega⟩, hx, ?_⟩
      show (⟨k + 1, L ++ [z], 0⟩ : RS) = _
      rw [hL, Dl_len, show s.size - (s.size - (k + 1)) = k + 1 by omega]
    · rw [if_neg hc, if_neg hc]
      exact ⟨⟨hk, by show (L ++ [z]).length + (s.size - k) ≤ N; omega⟩, rfl, by decide⟩
theorem xr_one {s : ByteArray} {f j op : Nat} {l : List Pc} {x : Int} {R1 : RS} (hj : j ≤ s.size) (h : XR s (l.length + (s.size - j)) l (pex f (Dl s j)) x R1) :
    XR s (l.length + (s.size - j) + 1) l (match pex f (Dl s j) with | .error e => .error e | .ok (a, r2) => eatT (.one op a) (eat 41 r2)) ((R1.l.length : Nat) : Int) (addM (eatM s 41 R1) ⟨op, 0, 0, x, 0⟩) := by
  cases hp : pex f (Dl s j) with
  | error k =>
    rw [hp] at h
    exact xr_off h.1 h.2.1 h.2.2 _
  | ok y =>
    obtain ⟨a, r⟩ := y
    rw [hp] at h
    obtain ⟨hi, hx, rfl⟩ := h
    obtain ⟨hr, h1, h2⟩ := pex_left hp hj
    have hl := flat_len a l.length
    simp only
    have hi2 := hi.l
    simp only [List.length_append] at hi2
    have := xr_fin (s := s) (N := l.length + (s.size - j) + 1) (k := s.size - r.length) (l := l) (L := l ++ flat a l.length) (t := .one op a) (z := ⟨op, 0, 0, x, 0⟩) (by omega) (by simp only [List.length_append, hl]; rfl) (by rw [flat_one, hx, List.append_assoc]) (by simp only [List.length_append]; omega)
    rw [← hr] at this
    exact this
theorem xr_two {s : ByteArray} {f j op : Nat} {l : List Pc} {a : Ex} {x1 x : Int} {R1 : RS} (hj : j ≤ s.size) (hx1 : x1 = ((l.length + a.size : Nat) : Int) - 1) (h : XR s ((l ++ flat a l.length).length + (s.size - j)) (l ++ flat a l.length) (pex f (Dl s j)) x R1) :
    XR s ((l ++ flat a l.length).length + (s.size - j) + 1) l (match pex f (Dl s j) with | .error e => .error e | .ok (b, r4) => eatT (.two op a b) (eat 41 r4)) ((R1.l.length : Nat) : Int) (addM (eatM s 41 R1) ⟨op, 0, 0, x1, x⟩) := by
  have hla := flat_len a l.length
  cases hp : pex f (Dl s j) with
  | error k =>
    rw [hp] at h
    exact xr_off h.1 h.2.1 h.2.2 _
  | ok y =>
    obtain ⟨b, r⟩ := y
    rw [hp] at h
    obtain ⟨hi, hx, rfl⟩ := h
    obtain ⟨hr, h1, h2⟩ := pex_left hp hj
    have hll : (l ++ flat a l.length).length = l.length + a.size := by rw [List.length_append, hla]
    rw [hll] at hx hi ⊢
    have hlb := flat_len b (l.length + a.size)
    simp only
    have hi2 := hi.l
    simp only [List.length_append, hla, hlb] at hi2
    have := xr_fin (s := s) (N := l.length + a.size + (s.size - j) + 1) (k := s.size - r.length) (l := l) (L := (l ++ flat a l.length) ++ flat b (l.length + a.size)) (t := .two op a b) (z := ⟨op, 0, 0, x1, x⟩) (by omega) (by simp only [List.length_append, hla, hlb]; show _ = l.length + (a.size + b.size + 1); omega) (by rw [flat_two, hx, hx1, List.append_assoc, List.append_assoc]) (by simp only [List.length_append, hla, hlb]; omega)
    rw [← hr] at this
    exact this
theorem XR.inn {s : ByteArray} {N : Nat} {l : List Pc} {R : Except Int (Ex × List UInt8)} {x : Int} {R1 : RS} (h : XR s N l R x R1) : R1.In s N := h.1
theorem XR.err {s : ByteArray} {N : Nat} {l : List Pc} {k : Int} {x : Int} {R1 : RS} (h : XR s N l (.error k) x R1) : R1.e = k := h.2.1
theorem XR.mono {s : ByteArray} {N M : Nat} {l : List Pc} {R : Except Int (Ex × List UInt8)} {x : Int} {R1 : RS} (h : XR s N l R x R1) (hm : N ≤ M) : XR s M l R x R1 := ⟨h.1.mono hm, h.2⟩
end Go.Proofs.Yteckkbjpeckjmaa.Rx
/- The reference's reader (package regex): what stands in parentheses. -/
namespace Go.Proofs.Yteckkbjpeckjmaa.Rx
open Go Go.RowKit Go.Proofs.Yteckkbjpeckjmaa
set_option linter.unusedVariables false
set_option linter.unusedSimpArgs false
set_option maxRecDepth 100000
section
variable {B rb : Nat} {s : ByteArray} {v : Value} {w : World}
/-- eat and add where anything may have gone before. -/
theorem eat_gen (hs : s.size ≤ 4096) {N : Nat} {R : RS} (hi : R.In s N) (h : RdAt w B rb s R v) : Calls Try.prog 140 #[.pointer (some ⟨rb, 0, none⟩), .int .u8 41] w fun e w' => e = .returned (.tuple #[]) ∧ ∃ v', RdAt w' B rb s (eatM s 41 R) v' ∧ Fr rb v v' w w' :=
  eat_any (B := B) (rb := rb) (N := N) (s := s) (r := R) (v := v) (w := w) 41 (by decide) h (by omega) hi
theorem add_gen (op : Nat) (a b : Int) {N : Nat} {R : RS} (hi : R.In s N) (hN : N ≤ 100000) (h : RdAt w B rb s R v) : Calls Try.prog 110 #[.pointer (some ⟨rb, 0, none⟩), .agg #[.int .u8 op, .int .u8 0, .int .u8 0, .int .i64 a, .int .i64 b]] w fun e w' => e = .returned (.int .i64 ((R.l.length : Nat) : Int)) ∧ ∃ v', RdAt w' B rb s (addM R ⟨op, 0, 0, a, b⟩) v' ∧ Fr rb v v' w w' :=
  rAdd_any (B := B) (rb := rb) (s := s) (r := R) (v := v) (w := w) ⟨op, 0, 0, a, b⟩ h (by have := hi.l; omega)
/-- expr where an error stands. -/
theorem expr_off (hs : s.size ≤ 4096) {i : Nat} {l : List Pc} {k : Int} (hi : i ≤ s.size) (hk : k ≠ 0) (h : RdAt w B rb s ⟨i, l, k⟩ v) :
    Calls Try.prog 91 #[.pointer (some ⟨rb, 0, none⟩)] w fun e w' => e = .returned (.int .i64 0) ∧ ∃ v', RdAt w' B rb s ⟨i, l, k⟩ v' ∧ Fr rb v v' w w' := by
  have HS := Lib.hid (see_err (by omega) hi hk h)
  have hk' := int_ne hk
  have F0 : Hid (Fr rb v v w w) := Fr.of_below (Below.refl _ _)
  clear h
  go_enter Try.func91, Try.ntmps91
  go_wp2_with (go_at_call 109; ((with_reducible refine (HS.out).mono ?_); rintro y1 w1 ⟨rfl, v1, hR1, hF1⟩); obtain ⟨⟨ka1, kb1⟩, ⟨za1, zb1⟩, rl1⟩ := hR1.all; have H1 := Lib.hid hR1; have F1 := Lib.hid (F0.out.trans hF1); clear hR1 hF1)
  go_ret
  exact ⟨rfl, v1, H1.out, F1.out⟩
set_option maxHeartbeats 16000000 in
theorem inner_any (f : Nat) (hs : s.size ≤ 4096) (HE : ExR B rb s f) (i : Nat) (l : List Pc) (h : RdAt w B rb s ⟨i, l, 0⟩ v) (hi : i ≤ s.size) (hf : s.size - i ≤ f) (hl : l.length + (s.size - i) ≤ 9000) :
    Calls Try.prog 112 #[.pointer (some ⟨rb, 0, none⟩)] w (ExO B rb s (l.length + (s.size - i) + 1) l v w (pex (f + 1) (40 :: Dl s i))) := by
  have F0 : Hid (Fr rb v v w w) := Fr.of_below (Below.refl _ _)
  by_cases hz : i = s.size
  · subst hz
    have hX : pex (f + 1) (40 :: Dl s s.size) = .error 3 := by rw [Dl_end]; rfl
    rw [hX]
    have HS := Lib.hid (see_stop (by omega) h)
    have HE1 : Hid (∀ v X, RdAt X B rb s ⟨s.size, l, 3⟩ v → _) := fun v X hX => expr_off hs (Nat.le_refl _) (by decide) hX
    have HE2 : Hid (∀ v X, RdAt X B rb s ⟨s.size, l, 3⟩ v → _) := fun v X hX => see_err (by omega) (Nat.le_refl _) (by decide) hX
    have HXR : Hid (XR s (l.length + (s.size - s.size) + 1) l (.error 3) 0 ⟨s.size, l, 3⟩) := ⟨⟨Nat.le_refl _, Nat.le_succ _⟩, rfl, by decide⟩
    clear h hX HE
    go_enter Try.func112, Try.ntmps112
    go_wp2_with (first
  | (go_at_call 109; ((with_reducible refine (HS.out).mono ?_); rintro y1 w1 ⟨rfl, v1, hR1, hF1⟩); obtain ⟨⟨ka1, kb1⟩, ⟨za1, zb1⟩, rl1⟩ := hR1.all; have H1 := Lib.hid hR1; have F1 := Lib.hid (F0.out.trans hF1); clear hR1 hF1)
  | (go_at_call 91; ((with_reducible refine (HE1.out v1 _ H1.out).mono ?_); rintro y2 w2 ⟨rfl, v2, hR2, hF2⟩); obtain ⟨⟨ka2, kb2⟩, ⟨za2, zb2⟩, rl2⟩ := hR2.all; have H2 := Lib.hid hR2; have F2 := Lib.hid (F1.out.trans hF2); clear hR2 hF2)
  | (go_at_call 109; ((with_reducible refine (HE2.out v2 _ H2.out).mono ?_); rintro y3 w3 ⟨rfl, v3, hR3, hF3⟩); obtain ⟨⟨ka3, kb3⟩, ⟨za3, zb3⟩, rl3⟩ := hR3.all; have H3 := Lib.hid hR3; have F3 := Lib.hid (F2.out.trans hF3); clear hR3 hF3))
    go_ret
    exact ⟨0, _, v3, HXR, rfl, H3.out, F3.out⟩
  · have hi1 : i < s.size := by omega
    have HX := pex_grp (f := f) hi1
    have HS := Lib.hid (see_at (by omega) hi1 h)
    by_cases hp : preOp (ch s i) ≠ 0
    · rw [if_pos hp] at HX
      have HEx : Hid (∀ v X, RdAt X B rb s ⟨i + 1, l, 0⟩ v → _) := fun v X hX => HE (i + 1) v l X hX (by omega) (by omega) (by omega)
      have HEat : Hid (∀ (R : RS) v X, R.In s (l.length + (s.size - (i + 1))) → RdAt X B rb s R v → _) := fun R v X hin hX => eat_gen hs hin hX
      have HOne : Hid (∀ x R1, XR s (l.length + (s.size - (i + 1))) l (pex f (Dl s (i + 1))) x R1 → XR s (l.length + (s.size - i) + 1) l (pex (f + 1) (40 :: Dl s i)) ((R1.l.length : Nat) : Int) (addM (eatM s 41 R1) ⟨preOp (ch s i), 0, 0, x, 0⟩)) := fun x R1 h => by
        rw [HX]
        exact (xr_one (by omega) h).mono (by omega)
      have hN : Hid (l.length + (s.size - (i + 1)) ≤ 100000) := show _ ≤ _ by omega
      have hi2 : i < 4096 := by omega
      clear HX HE h hi1 hf hl hz
      have hc : ch s i = 126 ∨ ch s i = 62 ∨ ch s i = 60 := by
        unfold preOp at hp
        split at hp
        · omega
        · split at hp
          · omega
          · split at hp
            · omega
            · exact absurd rfl hp
      generalize pex (f + 1) (40 :: Dl s i) = RR at *
      rcases hc with hc | hc | hc
      · rw [hc] at HS HOne
        have HAdd : Hid (∀ (R : RS) (x : Int) v X, R.In s (l.length + (s.size - (i + 1))) → RdAt X B rb s (eatM s 41 R) v → Calls Try.prog 110 #[.pointer (some ⟨rb, 0, none⟩), .agg #[.int .u8 7, .int .u8 0, .int .u8 0, .int .i64 x, .int .i64 0]] X fun e w' => e = .returned (.int .i64 ((R.l.length : Nat) : Int)) ∧ ∃ v', RdAt w' B rb s (addM (eatM s 41 R) ⟨7, 0, 0, x, 0⟩) v' ∧ Fr rb v v' X w') := fun R x v X hin hX => by
          have := add_gen 7 x 0 (eatM_in (b := 41) hin) hN.out hX
          rw [eatM_len] at this
          exact this
        clear hp hc
        go_enter Try.func112, Try.ntmps112
        go_wp2_with (first
        | (go_at_call 109; ((with_reducible refine (HS.out).mono ?_); rintro y1 w1 ⟨rfl, v1, hR1, hF1⟩); obtain ⟨⟨ka1, kb1⟩, ⟨za1, zb1⟩, rl1⟩ := hR1.all; have H1 := Lib.hid hR1; have F1 := Lib.hid (F0.out.trans hF1); have H2 : Hid (RdAt (w1.setCell ⟨rb, 1, none⟩ (.int .i64 ((i : Int) + 1))) B rb s ⟨i + 1, l, 0⟩ v1) := H1.out.step.1; have F2 : Hid (Fr rb v v1 w (w1.setCell ⟨rb, 1, none⟩ (.int .i64 ((i : Int) + 1)))) := F1.out.trans H1.out.step.2; clear hR1 hF1)
        | (go_at_call 91; ((with_reducible refine (HEx.out v1 _ H2.out).mono ?_); rintro y3 w3 ⟨x3, R3, v3, HX3, rfl, hR3, hF3⟩); have H3 := Lib.hid hR3; have F3 := Lib.hid (F2.out.trans hF3); clear hR3 hF3)
        | (go_at_call 140; ((with_reducible refine (HEat.out R3 _ _ HX3.out.inn H3.out).mono ?_); rintro y4 w4 ⟨rfl, v4, hR4, hF4⟩); obtain ⟨⟨ka4, kb4⟩, ⟨za4, zb4⟩, rl4⟩ := hR4.all; have H4 := Lib.hid hR4; have F4 := Lib.hid (F3.out.trans hF4); clear hR4 hF4)
        | (go_at_call 110; ((with_reducible refine (HAdd.out R3 x3 _ _ HX3.out.inn H4.out).mono ?_); rintro y5 w5 ⟨rfl, v5, hR5, hF5⟩); obtain ⟨⟨ka5, kb5⟩, ⟨za5, zb5⟩, rl5⟩ := hR5.all; have H5 := Lib.hid hR5; have F5 := Lib.hid (F4.out.trans hF5); clear hR5 hF5))
        go_ret
        exact ⟨_, _, v5, Lib.hid (HOne.out _ _ HX3.out), rfl, H5.out, F5.out⟩
      · rw [hc] at HS HOne
        have HAdd : Hid (∀ (R : RS) (x : Int) v X, R.In s (l.length + (s.size - (i + 1))) → RdAt X B rb s (eatM s 41 R) v → Calls Try.prog 110 #[.pointer (some ⟨rb, 0, none⟩), .agg #[.int .u8 9, .int .u8 0, .int .u8 0, .int .i64 x, .int .i64 0]] X fun e w' => e = .returned (.int .i64 ((R.l.length : Nat) : Int)) ∧ ∃ v', RdAt w' B rb s (addM (eatM s 41 R) ⟨9, 0, 0, x, 0⟩) v' ∧ Fr rb v v' X w') := fun R x v X hin hX => by
          have := add_gen 9 x 0 (eatM_in (b := 41) hin) hN.out hX
          rw [eatM_len] at this
          exact this
        clear hp hc
        go_enter Try.func112, Try.ntmps112
        go_wp2_with (first
        | (go_at_call 109; ((with_reducible refine (HS.out).mono ?_); rintro y1 w1 ⟨rfl, v1, hR1, hF1⟩); obtain ⟨⟨ka1, kb1⟩, ⟨za1, zb1⟩, rl1⟩ := hR1.all; have H1 := Lib.hid hR1; have F1 := Lib.hid (F0.out.trans hF1); have H2 : Hid (RdAt (w1.setCell ⟨rb, 1, none⟩ (.int .i64 ((i : Int) + 1))) B rb s ⟨i + 1, l, 0⟩ v1) := H1.out.step.1; have F2 : Hid (Fr rb v v1 w (w1.setCell ⟨rb, 1, none⟩ (.int .i64 ((i : Int) + 1)))) := F1.out.trans H1.out.step.2; clear hR1 hF1)
        | (go_at_call 91; ((with_reducible refine (HEx.out v1 _ H2.out).mono ?_); rintro y3 w3 ⟨x3, R3, v3, HX3, rfl, hR3, hF3⟩); have H3 := Lib.hid hR3; have F3 := Lib.hid (F2.out.trans hF3); clear hR3 hF3)
        | (go_at_call 140; ((with_reducible refine (HEat.out R3 _ _ HX3.out.inn H3.out).mono ?_); rintro y4 w4 ⟨rfl, v4, hR4, hF4⟩); obtain ⟨⟨ka4, kb4⟩, ⟨za4, zb4⟩, rl4⟩ := hR4.all; have H4 := Lib.hid hR4; have F4 := Lib.hid (F3.out.trans hF4); clear hR4 hF4)
        | (go_at_call 110; ((with_reducible refine (HAdd.out R3 x3 _ _ HX3.out.inn H4.out).mono ?_); rintro y5 w5 ⟨rfl, v5, hR5, hF5⟩); obtain ⟨⟨ka5, kb5⟩, ⟨za5, zb5⟩, rl5⟩ := hR5.all; have H5 := Lib.hid hR5; have F5 := Lib.hid (F4.out.trans hF5); clear hR5 hF5))
        go_ret
        exact ⟨_, _, v5, Lib.hid (HOne.out _ _ HX3.out), rfl, H5.out, F5.out⟩
      · rw [hc] at HS HOne
        have HAdd : Hid (∀ (R : RS) (x : Int) v X, R.In s (l.length + (s.size - (i + 1))) → RdAt X B rb s (eatM s 41 R) v → Calls Try.prog 110 #[.pointer (some ⟨rb, 0, none⟩), .agg #[.int .u8 10, .int .u8 0, .int .u8 0, .int .i64 x, .int .i64 0]] X fun e w' => e = .returned (.int .i64 ((R.l.length : Nat) : Int)) ∧ ∃ v', RdAt w' B rb s (addM (eatM s 41 R) ⟨10, 0, 0, x, 0⟩) v' ∧ Fr rb v v' X w') := fun R x v X hin hX => by
          have := add_gen 10 x 0 (eatM_in (b := 41) hin) hN.out hX
          rw [eatM_len] at this
          exact this
        clear hp hc
        go_enter Try.func112, Try.ntmps112
        go_wp2_with (first
        | (go_at_call 109; ((with_reducible refine (HS.out).mono ?_); rintro y1 w1 ⟨rfl, v1, hR1, hF1⟩); obtain ⟨⟨ka1, kb1⟩, ⟨za1, zb1⟩, rl1⟩ := hR1.all; have H1 := Lib.hid hR1; have F1 := Lib.hid (F0.out.trans hF1); have H2 : Hid (RdAt (w1.setCell ⟨rb, 1, none⟩ (.int .i64 ((i : Int) + 1))) B rb s ⟨i + 1, l, 0⟩ v1) := H1.out.step.1; have F2 : Hid (Fr rb v v1 w (w1.setCell ⟨rb, 1, none⟩ (.int .i64 ((i : Int) + 1)))) := F1.out.trans H1.out.step.2; clear hR1 hF1)
        | (go_at_call 91; ((with_reducible refine (HEx.out v1 _ H2.out).mono ?_); rintro y3 w3 ⟨x3, R3, v3, HX3, rfl, hR3, hF3⟩); have H3 := Lib.hid hR3; have F3 := Lib.hid (F2.out.trans hF3); clear hR3 hF3)
        | (go_at_call 140; ((with_reducible refine (HEat.out R3 _ _ HX3.out.inn H3.out).mono ?_); rintro y4 w4 ⟨rfl, v4, hR4, hF4⟩); obtain ⟨⟨ka4, kb4⟩, ⟨za4, zb4⟩, rl4⟩ := hR4.all; have H4 := Lib.hid hR4; have F4 := Lib.hid (F3.out.trans hF4); clear hR4 hF4)
        | (go_at_call 110; ((with_reducible refine (HAdd.out R3 x3 _ _ HX3.out.inn H4.out).mono ?_); rintro y5 w5 ⟨rfl, v5, hR5, hF5⟩); obtain ⟨⟨ka5, kb5⟩, ⟨za5, zb5⟩, rl5⟩ := hR5.all; have H5 := Lib.hid hR5; have F5 := Lib.hid (F4.out.trans hF5); clear hR5 hF5))
        go_ret
        exact ⟨_, _, v5, Lib.hid (HOne.out _ _ HX3.out), rfl, H5.out, F5.out⟩
    · rw [if_neg hp] at HX
      obtain ⟨c, hc⟩ : ∃ c, c = ch s i := ⟨_, rfl⟩
      rw [← hc] at HS
      have n1 : ((c : Int) == 126) = false := by rw [beq_eq_false_iff_ne]; intro e; apply hp; rw [← hc, show c = 126 by omega]; decide
      have n2 : ((c : Int) == 62) = false := by rw [beq_eq_false_iff_ne]; intro e; apply hp; rw [← hc, show c = 62 by omega]; decide
      have n3 : ((c : Int) == 60) = false := by rw [beq_eq_false_iff_ne]; intro e; apply hp; rw [← hc, show c = 60 by omega]; decide
      clear hp hc
      have HEx0 : ∀ v X, RdAt X B rb s ⟨i, l, 0⟩ v → _ := fun v X hX => HE i v l X hX hi hf hl
      clear h
      cases hq : pex f (Dl s i) with
      | error k =>
        rw [hq] at HX HEx0
        have hk := pex_err _ _ _ hq
        rw [HX]
        have HEx : Hid (∀ v X, RdAt X B rb s ⟨i, l, 0⟩ v → Calls Try.prog 91 #[.pointer (some ⟨rb, 0, none⟩)] X (ExO B rb s (l.length + (s.size - i)) l v X (.error k))) := HEx0
        have HE2 : Hid (∀ j l' v X, j ≤ s.size → RdAt X B rb s ⟨j, l', k⟩ v → _) := fun j l' v X hj hX => see_err (by omega) hj hk hX
        have hk' : (k == 0) = false := by rw [beq_eq_false_iff_ne]; exact hk
        clear HX HEx0 HE hq hf hl hz hi1 hk
        go_enter Try.func112, Try.ntmps112
        go_wp2_with (first
  | (go_at_call 109; ((with_reducible refine (HS.out).mono ?_); rintro y1 w1 ⟨rfl, v1, hR1, hF1⟩); obtain ⟨⟨ka1, kb1⟩, ⟨za1, zb1⟩, rl1⟩ := hR1.all; have H1 := Lib.hid hR1; have F1 := Lib.hid (F0.out.trans hF1); clear hR1 hF1)
  | (go_at_call 91; ((with_reducible refine (HEx.out v1 _ H1.out).mono ?_); rintro y2 w2 ⟨x2, ⟨i2, l2, e2⟩, v2, HX2, rfl, hR2, hF2⟩); obtain rfl : e2 = k := HX2.out.err; obtain ⟨⟨ka2, kb2⟩, ⟨za2, zb2⟩, rl2⟩ := hR2.all; have H2 := Lib.hid hR2; have F2 := Lib.hid (F1.out.trans hF2); clear hR2 hF2)
  | (go_at_call 109; ((with_reducible refine (HE2.out _ _ v2 _ HX2.out.inn.i H2.out).mono ?_); rintro y3 w3 ⟨rfl, v3, hR3, hF3⟩); obtain ⟨⟨ka3, kb3⟩, ⟨za3, zb3⟩, rl3⟩ := hR3.all; have H3 := Lib.hid hR3; have F3 := Lib.hid (F2.out.trans hF3); clear hR3 hF3))
        go_ret
        exact ⟨0, _, v3, Lib.hid (⟨HX2.out.1.mono (Nat.le_succ _), HX2.out.2⟩), rfl, H3.out, F3.out⟩
      | ok y =>
        obtain ⟨a, r⟩ := y
        rw [hq] at HX HEx0
        obtain ⟨hr, hq1, hq2⟩ := pex_left hq hi
        have hla := flat_len a l.length
        have hll : (l ++ flat a l.length).length = l.length + a.size := by rw [List.length_append, hla]
        have HEx : Hid (∀ v X, RdAt X B rb s ⟨i, l, 0⟩ v → Calls Try.prog 91 #[.pointer (some ⟨rb, 0, none⟩)] X fun e w' => ∃ x v', Hid (x = ((l.length + a.size : Nat) : Int) - 1) ∧ e = .returned (.int .i64 x) ∧ RdAt w' B rb s ⟨s.size - r.length, l ++ flat a l.length, 0⟩ v' ∧ Fr rb v v' X w') := fun v X hX => (HEx0 v X hX).mono fun e w' ⟨x, R1, v', hx, he, hR, hF⟩ => by
          obtain ⟨h1, h2, rfl⟩ := hx.out
          exact ⟨x, v', Lib.hid h2, he, hR, hF⟩
        obtain ⟨k, hk⟩ : ∃ k, k = s.size - r.length := ⟨_, rfl⟩
        rw [← hk] at HEx hr
        have hks : k ≤ s.size := by omega
        have hkl : (l ++ flat a l.length).length + (s.size - k) ≤ l.length + (s.size - i) := by rw [hll]; omega
        clear HEx0 hq hk hla
        by_cases hz2 : k = s.size
        · have hr0 : r = [] := by rw [hr, hz2, Dl_end]
          subst hz2
          rw [hr0] at HX
          simp only at HX
          rw [HX]
          have HXR : Hid (XR s (l.length + (s.size - i) + 1) l (.error 3) 0 ⟨s.size, l ++ flat a l.length, 3⟩) := ⟨⟨Nat.le_refl _, by show (l ++ flat a l.length).length + (s.size - s.size) ≤ _; omega⟩, rfl, by decide⟩
          have HE2 : Hid (∀ v X, RdAt X B rb s ⟨s.size, l ++ flat a l.length, 0⟩ v → _) := fun v X hX => see_stop (by omega) hX
          clear HX HE hr hr0 hll hkl hq1 hq2
          generalize l ++ flat a l.length = l2 at *
          go_enter Try.func112, Try.ntmps112
          go_wp2_with (first
  | (go_at_call 109; ((with_reducible refine (HS.out).mono ?_); rintro y1 w1 ⟨rfl, v1, hR1, hF1⟩); obtain ⟨⟨ka1, kb1⟩, ⟨za1, zb1⟩, rl1⟩ := hR1.all; have H1 := Lib.hid hR1; have F1 := Lib.hid (F0.out.trans hF1); clear hR1 hF1)
  | (go_at_call 91; ((with_reducible refine (HEx.out v1 _ H1.out).mono ?_); rintro y2 w2 ⟨x2, v2, HX2, rfl, hR2, hF2⟩); obtain ⟨⟨ka2, kb2⟩, ⟨za2, zb2⟩, rl2⟩ := hR2.all; have H2 := Lib.hid hR2; have F2 := Lib.hid (F1.out.trans hF2); clear hR2 hF2)
  | (go_at_call 109; ((with_reducible refine (HE2.out v2 _ H2.out).mono ?_); rintro y3 w3 ⟨rfl, v3, hR3, hF3⟩); obtain ⟨⟨ka3, kb3⟩, ⟨za3, zb3⟩, rl3⟩ := hR3.all; have H3 := Lib.hid hR3; have F3 := Lib.hid (F2.out.trans hF3); clear hR3 hF3))
          go_ret
          exact ⟨0, _, v3, HXR, rfl, H3.out, F3.out⟩
        · have hk1 : k < s.size := by omega
          have hk4 : k < 4096 := by omega
          rw [hr, Dl_cons s k hk1] at HX
          simp only [ofNat_ch] at HX
          have HE2 : Hid (∀ v X, RdAt X B rb s ⟨k, l ++ flat a l.length, 0⟩ v → _) := fun v X hX => see_at (by omega) hk1 hX
          by_cases h42 : ch s k = 42
          · rw [if_pos h42] at HX
            rw [h42] at HE2
            rw [HX]
            have HEat : Hid (∀ v X, RdAt X B rb s ⟨k + 1, l ++ flat a l.length, 0⟩ v → _) := fun v X hX => eat_gen (N := 9000) hs ⟨by show k + 1 ≤ _; omega, by show (l ++ flat a l.length).length + (s.size - (k + 1)) ≤ _; omega⟩ hX
            have HAdd : Hid (∀ (x : Int) v X, RdAt X B rb s (eatM s 41 ⟨k + 1, l ++ flat a l.length, 0⟩) v → Calls Try.prog 110 #[.pointer (some ⟨rb, 0, none⟩), .agg #[.int .u8 8, .int .u8 0, .int .u8 0, .int .i64 x, .int .i64 0]] X fun e w' => e = .returned (.int .i64 (((eatM s 41 ⟨k + 1, l ++ flat a l.length, 0⟩).l.length : Nat) : Int)) ∧ ∃ v', RdAt w' B rb s (addM (eatM s 41 ⟨k + 1, l ++ flat a l.length, 0⟩) ⟨8, 0, 0, x, 0⟩) v' ∧ Fr rb v v' X w') := fun x v X hX => add_gen 8 x 0 (N := 9000) (eatM_in ⟨by show k + 1 ≤ _; omega, by show (l ++ flat a l.length).length + (s.size - (k + 1)) ≤ _; omega⟩) (by decide) hX
            have HXR : Hid (∀ x : Int, x = ((l.length + a.size : Nat) : Int) - 1 → XR s (l.length + (s.size - i) + 1) l (eatT (.one 8 a) (eat 41 (Dl s (k + 1)))) (((eatM s 41 ⟨k + 1, l ++ flat a l.length, 0⟩).l.length : Nat) : Int) (addM (eatM s 41 ⟨k + 1, l ++ flat a l.length, 0⟩) ⟨8, 0, 0, x, 0⟩)) := fun x hx => by
              rw [eatM_len]
              exact xr_fin (L := l ++ flat a l.length) (k := k + 1) (t := .one 8 a) (by omega) (by rw [hll]; rfl) (by rw [flat_one, hx, List.append_assoc]) (by omega)
            clear HX HE hr hll hkl hq1 hq2 h42
            generalize eatT (.one 8 a) (eat 41 (Dl s (k + 1))) = RR at *
            generalize eatM s 41 ⟨k + 1, l ++ flat a l.length, 0⟩ = R4 at *
            generalize l ++ flat a l.length = l2 at *
            go_enter Try.func112, Try.ntmps112
            go_wp2_with (first
  | (go_at_call 109; ((with_reducible refine (HS.out).mono ?_); rintro y1 w1 ⟨rfl, v1, hR1, hF1⟩); obtain ⟨⟨ka1, kb1⟩, ⟨za1, zb1⟩, rl1⟩ := hR1.all; have H1 := Lib.hid hR1; have F1 := Lib.hid (F0.out.trans hF1); clear hR1 hF1)
  | (go_at_call 91; ((with_reducible refine (HEx.out v1 _ H1.out).mono ?_); rintro y2 w2 ⟨x2, v2, HX2, rfl, hR2, hF2⟩); obtain ⟨⟨ka2, kb2⟩, ⟨za2, zb2⟩, rl2⟩ := hR2.all; have H2 := Lib.hid hR2; have F2 := Lib.hid (F1.out.trans hF2); clear hR2 hF2)
  | (go_at_call 109; ((with_reducible refine (HE2.out v2 _ H2.out).mono ?_); rintro y3 w3 ⟨rfl, v3, hR3, hF3⟩); obtain ⟨⟨ka3, kb3⟩, ⟨za3, zb3⟩, rl3⟩ := hR3.all; have H3 := Lib.hid hR3; have F3 := Lib.hid (F2.out.trans hF3); have H4 : Hid (RdAt (w3.setCell ⟨rb, 1, none⟩ (.int .i64 ((k : Int) + 1))) B rb s ⟨k + 1, l2, 0⟩ v3) := H3.out.step.1; have F4 : Hid (Fr rb v v3 w (w3.setCell ⟨rb, 1, none⟩ (.int .i64 ((k : Int) + 1)))) := F3.out.trans H3.out.step.2; clear hR3 hF3)
  | (go_at_call 140; ((with_reducible refine (HEat.out v3 _ H4.out).mono ?_); rintro y5 w5 ⟨rfl, v5, hR5, hF5⟩); obtain ⟨⟨ka5, kb5⟩, ⟨za5, zb5⟩, rl5⟩ := hR5.all; have H5 := Lib.hid hR5; have F5 := Lib.hid (F4.out.trans hF5); clear hR5 hF5)
  | (go_at_call 110; ((with_reducible refine (HAdd.out x2 v5 _ H5.out).mono ?_); rintro y6 w6 ⟨rfl, v6, hR6, hF6⟩); obtain ⟨⟨ka6, kb6⟩, ⟨za6, zb6⟩, rl6⟩ := hR6.all; have H6 := Lib.hid hR6; have F6 := Lib.hid (F5.out.trans hF6); clear hR6 hF6))
            go_ret
            exact ⟨_, _, v6, Lib.hid (HXR.out _ HX2.out), rfl, H6.out, F6.out⟩
          · rw [if_neg h42] at HX
            by_cases hm : midOp (ch s k) ≠ 0
            · rw [if_pos hm] at HX
              have HEy : Hid (∀ v X, RdAt X B rb s ⟨k + 1, l ++ flat a l.length, 0⟩ v → _) := fun v X hX => HE (k + 1) v (l ++ flat a l.length) X hX (by omega) (by omega) (by omega)
              have HEat : Hid (∀ (R : RS) v X, R.In s ((l ++ flat a l.length).length + (s.size - (k + 1))) → RdAt X B rb s R v → _) := fun R v X hin hX => eat_gen hs hin hX
              have HTwo : Hid (∀ x1 x R1, x1 = ((l.length + a.size : Nat) : Int) - 1 → XR s ((l ++ flat a l.length).length + (s.size - (k + 1))) (l ++ flat a l.length) (pex f (Dl s (k + 1))) x R1 → XR s (l.length + (s.size - i) + 1) l (pex (f + 1) (40 :: Dl s i)) ((R1.l.length : Nat) : Int) (addM (eatM s 41 R1) ⟨midOp (ch s k), 0, 0, x1, x⟩)) := fun x1 x R1 hx1 h => by
                rw [HX]
                exact (xr_two (by omega) hx1 h).mono (by omega)
              have hN : Hid ((l ++ flat a l.length).length + (s.size - (k + 1)) ≤ 100000) := show _ ≤ _ by omega
              clear HX HE hr hll hkl hq1 hq2 hf hl hz hi1 hz2 hk1
              have hc : ch s k = 46 ∨ ch s k = 124 ∨ ch s k = 38 := by
                unfold midOp at hm
                split at hm
                · omega
                · split at hm
                  · omega
                  · split at hm
                    · omega
                    · exact absurd rfl hm
              generalize pex (f + 1) (40 :: Dl s i) = RR at *
              generalize l ++ flat a l.length = l2 at *
              rcases hc with hc | hc | hc
              · rw [hc] at HE2 HTwo
                have HAdd : Hid (∀ (R : RS) (x1 x : Int) v X, R.In s (l2.length + (s.size - (k + 1))) → RdAt X B rb s (eatM s 41 R) v → Calls Try.prog 110 #[.pointer (some ⟨rb, 0, none⟩), .agg #[.int .u8 4, .int .u8 0, .int .u8 0, .int .i64 x1, .int .i64 x]] X fun e w' => e = .returned (.int .i64 ((R.l.length : Nat) : Int)) ∧ ∃ v', RdAt w' B rb s (addM (eatM s 41 R) ⟨4, 0, 0, x1, x⟩) v' ∧ Fr rb v v' X w') := fun R x1 x v X hin hX => by
                  have := add_gen 4 x1 x (eatM_in (b := 41) hin) hN.out hX
                  rw [eatM_len] at this
                  exact this
                clear hm hc h42
                go_enter Try.func112, Try.ntmps112
                go_wp2_with (first
                | (go_at_call 109; ((with_reducible refine (HS.out).mono ?_); rintro y1 w1 ⟨rfl, v1, hR1, hF1⟩); obtain ⟨⟨ka1, kb1⟩, ⟨za1, zb1⟩, rl1⟩ := hR1.all; have H1 := Lib.hid hR1; have F1 := Lib.hid (F0.out.trans hF1); clear hR1 hF1)
                | (go_at_call 91; ((with_reducible refine (HEx.out v1 _ H1.out).mono ?_); rintro y2 w2 ⟨x2, v2, HX2, rfl, hR2, hF2⟩); obtain ⟨⟨ka2, kb2⟩, ⟨za2, zb2⟩, rl2⟩ := hR2.all; have H2 := Lib.hid hR2; have F2 := Lib.hid (F1.out.trans hF2); clear hR2 hF2)
                | (go_at_call 109; ((with_reducible refine (HE2.out v2 _ H2.out).mono ?_); rintro y3 w3 ⟨rfl, v3, hR3, hF3⟩); obtain ⟨⟨ka3, kb3⟩, ⟨za3, zb3⟩, rl3⟩ := hR3.all; have H3 := Lib.hid hR3; have F3 := Lib.hid (F2.out.trans hF3); have H4 : Hid (RdAt (w3.setCell ⟨rb, 1, none⟩ (.int .i64 ((k : Int) + 1))) B rb s ⟨k + 1, l2, 0⟩ v3) := H3.out.step.1; have F4 : Hid (Fr rb v v3 w (w3.setCell ⟨rb, 1, none⟩ (.int .i64 ((k : Int) + 1)))) := F3.out.trans H3.out.step.2; clear hR3 hF3)
                | (go_at_call 91; ((with_reducible refine (HEy.out v3 _ H4.out).mono ?_); rintro y5 w5 ⟨x5, R5, v5, HX5, rfl, hR5, hF5⟩); have H5 := Lib.hid hR5; have F5 := Lib.hid (F4.out.trans hF5); clear hR5 hF5)
                | (go_at_call 140; ((with_reducible refine (HEat.out R5 _ _ HX5.out.inn H5.out).mono ?_); rintro y6 w6 ⟨rfl, v6, hR6, hF6⟩); obtain ⟨⟨ka6, kb6⟩, ⟨za6, zb6⟩, rl6⟩ := hR6.all; have H6 := Lib.hid hR6; have F6 := Lib.hid (F5.out.trans hF6); clear hR6 hF6)
                | (go_at_call 110; ((with_reducible refine (HAdd.out R5 x2 x5 _ _ HX5.out.inn H6.out).mono ?_); rintro y7 w7 ⟨rfl, v7, hR7, hF7⟩); obtain ⟨⟨ka7, kb7⟩, ⟨za7, zb7⟩, rl7⟩ := hR7.all; have H7 := Lib.hid hR7; have F7 := Lib.hid (F6.out.trans hF7); clear hR7 hF7))
                go_ret
                exact ⟨_, _, v7, Lib.hid (HTwo.out _ _ _ HX2.out HX5.out), rfl, H7.out, F7.out⟩
              · rw [hc] at HE2 HTwo
                have HAdd : Hid (∀ (R : RS) (x1 x : Int) v X, R.In s (l2.length + (s.size - (k + 1))) → RdAt X B rb s (eatM s 41 R) v → Calls Try.prog 110 #[.pointer (some ⟨rb, 0, none⟩), .agg #[.int .u8 5, .int .u8 0, .int .u8 0, .int .i64 x1, .int .i64 x]] X fun e w' => e = .returned (.int .i64 ((R.l.length : Nat) : Int)) ∧ ∃ v', RdAt w' B rb s (addM (eatM s 41 R) ⟨5, 0, 0, x1, x⟩) v' ∧ Fr rb v v' X w') := fun R x1 x v X hin hX => by
                  have := add_gen 5 x1 x (eatM_in (b := 41) hin) hN.out hX
                  rw [eatM_len] at this
                  exact this
                clear hm hc h42
                go_enter Try.func112, Try.ntmps112
                go_wp2_with (first
                | (go_at_call 109; ((with_reducible refine (HS.out).mono ?_); rintro y1 w1 ⟨rfl, v1, hR1, hF1⟩); obtain ⟨⟨ka1, kb1⟩, ⟨za1, zb1⟩, rl1⟩ := hR1.all; have H1 := Lib.hid hR1; have F1 := Lib.hid (F0.out.trans hF1); clear hR1 hF1)
                | (go_at_call 91; ((with_reducible refine (HEx.out v1 _ H1.out).mono ?_); rintro y2 w2 ⟨x2, v2, HX2, rfl, hR2, hF2⟩); obtain ⟨⟨ka2, kb2⟩, ⟨za2, zb2⟩, rl2⟩ := hR2.all; have H2 := Lib.hid hR2; have F2 := Lib.hid (F1.out.trans hF2); clear hR2 hF2)
                | (go_at_call 109; ((with_reducible refine (HE2.out v2 _ H2.out).mono ?_); rintro y3 w3 ⟨rfl, v3, hR3, hF3⟩); obtain ⟨⟨ka3, kb3⟩, ⟨za3, zb3⟩, rl3⟩ := hR3.all; have H3 := Lib.hid hR3; have F3 := Lib.hid (F2.out.trans hF3); have H4 : Hid (RdAt (w3.setCell ⟨rb, 1, none⟩ (.int .i64 ((k : Int) + 1))) B rb s ⟨k + 1, l2, 0⟩ v3) := H3.out.step.1; have F4 : Hid (Fr rb v v3 w (w3.setCell ⟨rb, 1, none⟩ (.int .i64 ((k : Int) + 1)))) := F3.out.trans H3.out.step.2; clear hR3 hF3)
                | (go_at_call 91; ((with_reducible refine (HEy.out v3 _ H4.out).mono ?_); rintro y5 w5 ⟨x5, R5, v5, HX5, rfl, hR5, hF5⟩); have H5 := Lib.hid hR5; have F5 := Lib.hid (F4.out.trans hF5); clear hR5 hF5)
                | (go_at_call 140; ((with_reducible refine (HEat.out R5 _ _ HX5.out.inn H5.out).mono ?_); rintro y6 w6 ⟨rfl, v6, hR6, hF6⟩); obtain ⟨⟨ka6, kb6⟩, ⟨za6, zb6⟩, rl6⟩ := hR6.all; have H6 := Lib.hid hR6; have F6 := Lib.hid (F5.out.trans hF6); clear hR6 hF6)
                | (go_at_call 110; ((with_reducible refine (HAdd.out R5 x2 x5 _ _ HX5.out.inn H6.out).mono ?_); rintro y7 w7 ⟨rfl, v7, hR7, hF7⟩); obtain ⟨⟨ka7, kb7⟩, ⟨za7, zb7⟩, rl7⟩ := hR7.all; have H7 := Lib.hid hR7; have F7 := Lib.hid (F6.out.trans hF7); clear hR7 hF7))
                go_ret
                exact ⟨_, _, v7, Lib.hid (HTwo.out _ _ _ HX2.out HX5.out), rfl, H7.out, F7.out⟩
              · rw [hc] at HE2 HTwo
                have HAdd : Hid (∀ (R : RS) (x1 x : Int) v X, R.In s (l2.length + (s.size - (k + 1))) → RdAt X B rb s (eatM s 41 R) v → Calls Try.prog 110 #[.pointer (some ⟨rb, 0, none⟩), .agg #[.int .u8 6, .int .u8 0, .int .u8 0, .int .i64 x1, .int .i64 x]] X fun e w' => e = .returned (.int .i64 ((R.l.length : Nat) : Int)) ∧ ∃ v', RdAt w' B rb s (addM (eatM s 41 R) ⟨6, 0, 0, x1, x⟩) v' ∧ Fr rb v v' X w') := fun R x1 x v X hin hX => by
                  have := add_gen 6 x1 x (eatM_in (b := 41) hin) hN.out hX
                  rw [eatM_len] at this
                  exact this
                clear hm hc h42
                go_enter Try.func112, Try.ntmps112
                go_wp2_with (first
                | (go_at_call 109; ((with_reducible refine (HS.out).mono ?_); rintro y1 w1 ⟨rfl, v1, hR1, hF1⟩); obtain ⟨⟨ka1, kb1⟩, ⟨za1, zb1⟩, rl1⟩ := hR1.all; have H1 := Lib.hid hR1; have F1 := Lib.hid (F0.out.trans hF1); clear hR1 hF1)
                | (go_at_call 91; ((with_reducible refine (HEx.out v1 _ H1.out).mono ?_); rintro y2 w2 ⟨x2, v2, HX2, rfl, hR2, hF2⟩); obtain ⟨⟨ka2, kb2⟩, ⟨za2, zb2⟩, rl2⟩ := hR2.all; have H2 := Lib.hid hR2; have F2 := Lib.hid (F1.out.trans hF2); clear hR2 hF2)
                | (go_at_call 109; ((with_reducible refine (HE2.out v2 _ H2.out).mono ?_); rintro y3 w3 ⟨rfl, v3, hR3, hF3⟩); obtain ⟨⟨ka3, kb3⟩, ⟨za3, zb3⟩, rl3⟩ := hR3.all; have H3 := Lib.hid hR3; have F3 := Lib.hid (F2.out.trans hF3); have H4 : Hid (RdAt (w3.setCell ⟨rb, 1, none⟩ (.int .i64 ((k : Int) + 1))) B rb s ⟨k + 1, l2, 0⟩ v3) := H3.out.step.1; have F4 : Hid (Fr rb v v3 w (w3.setCell ⟨rb, 1, none⟩ (.int .i64 ((k : Int) + 1)))) := F3.out.trans H3.out.step.2; clear hR3 hF3)
                | (go_at_call 91; ((with_reducible refine (HEy.out v3 _ H4.out).mono ?_); rintro y5 w5 ⟨x5, R5, v5, HX5, rfl, hR5, hF5⟩); have H5 := Lib.hid hR5; have F5 := Lib.hid (F4.out.trans hF5); clear hR5 hF5)
                | (go_at_call 140; ((with_reducible refine (HEat.out R5 _ _ HX5.out.inn H5.out).mono ?_); rintro y6 w6 ⟨rfl, v6, hR6, hF6⟩); obtain ⟨⟨ka6, kb6⟩, ⟨za6, zb6⟩, rl6⟩ := hR6.all; have H6 := Lib.hid hR6; have F6 := Lib.hid (F5.out.trans hF6); clear hR6 hF6)
                | (go_at_call 110; ((with_reducible refine (HAdd.out R5 x2 x5 _ _ HX5.out.inn H6.out).mono ?_); rintro y7 w7 ⟨rfl, v7, hR7, hF7⟩); obtain ⟨⟨ka7, kb7⟩, ⟨za7, zb7⟩, rl7⟩ := hR7.all; have H7 := Lib.hid hR7; have F7 := Lib.hid (F6.out.trans hF7); clear hR7 hF7))
                go_ret
                exact ⟨_, _, v7, Lib.hid (HTwo.out _ _ _ HX2.out HX5.out), rfl, H7.out, F7.out⟩
            · rw [if_neg hm] at HX
              rw [HX]
              obtain ⟨d, hd⟩ : ∃ d, d = ch s k := ⟨_, rfl⟩
              rw [← hd] at HE2 h42
              have m1 : ((d : Int) == 42) = false := by rw [beq_eq_false_iff_ne]; omega
              have m2 : ((d : Int) == 46) = false := by rw [beq_eq_false_iff_ne]; intro e; apply hm; rw [← hd, show d = 46 by omega]; decide
              have m3 : ((d : Int) == 124) = false := by rw [beq_eq_false_iff_ne]; intro e; apply hm; rw [← hd, show d = 124 by omega]; decide
              have m4 : ((d : Int) == 38) = false := by rw [beq_eq_false_iff_ne]; intro e; apply hm; rw [← hd, show d = 38 by omega]; decide
              have HXR : Hid (XR s (l.length + (s.size - i) + 1) l (.error 2) 0 ⟨k, l ++ flat a l.length, 2⟩) := ⟨⟨hks, by show (l ++ flat a l.length).length + (s.size - k) ≤ _; omega⟩, rfl, by decide⟩
              clear HX HE hr hll hkl hq1 hq2 hf hl hz hi1 hz2 hk1 hm hd h42
              generalize l ++ flat a l.length = l2 at *
              go_enter Try.func112, Try.ntmps112
              go_wp2_with (first
  | (go_at_call 109; ((with_reducible refine (HS.out).mono ?_); rintro y1 w1 ⟨rfl, v1, hR1, hF1⟩); obtain ⟨⟨ka1, kb1⟩, ⟨za1, zb1⟩, rl1⟩ := hR1.all; have H1 := Lib.hid hR1; have F1 := Lib.hid (F0.out.trans hF1); clear hR1 hF1)
  | (go_at_call 91; ((with_reducible refine (HEx.out v1 _ H1.out).mono ?_); rintro y2 w2 ⟨x2, v2, HX2, rfl, hR2, hF2⟩); obtain ⟨⟨ka2, kb2⟩, ⟨za2, zb2⟩, rl2⟩ := hR2.all; have H2 := Lib.hid hR2; have F2 := Lib.hid (F1.out.trans hF2); clear hR2 hF2)
  | (go_at_call 109; ((with_reducible refine (HE2.out v2 _ H2.out).mono ?_); rintro y3 w3 ⟨rfl, v3, hR3, hF3⟩); obtain ⟨⟨ka3, kb3⟩, ⟨za3, zb3⟩, rl3⟩ := hR3.all; have H3 := Lib.hid hR3; have F3 := Lib.hid (F2.out.trans hF3); clear hR3 hF3))
              go_ret
              exact ⟨0, _, v3, HXR, rfl, H3.out.fail 2, F3.out.trans (H3.out.fr 3 _)⟩
end
end Go.Proofs.Yteckkbjpeckjmaa.Rx
