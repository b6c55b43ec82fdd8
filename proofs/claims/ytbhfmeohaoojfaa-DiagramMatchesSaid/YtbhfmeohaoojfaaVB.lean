/- awake: the chapter's examples. -/
import Derived.Test.YtbhfmeohaoojfaaVA
import Derived.Outline
namespace Go.Proofs.Ytbhfmeohaoojfaa.Dn
open Go Go.RowKit Go.Proofs.Ytbhfmeohaoojfaa.Ap
open Go.Proofs.Ytbhfmeohaoojfaa.Dg (shl_i64 pow7 cell_one info_int ints_row nd_ext valI EqualInts_any ints_new)
set_option linter.unusedVariables false
set_option maxRecDepth 100000
/-- Two stores of the call's own, the second still empty. -/
def TwoS (w X : World) (sb cb rb tb v cap s2 c2 r2 t2 v2 cap2 : Nat) (nv : Value) (N : List Nd) (R : List Nat) : Prop := Own w X sb cb rb tb v cap nv N R ∧ Beside cb rb tb nv X s2 c2 r2 t2 v2 cap2
section
variable {w X X' : World} {sb cb rb tb v cap s2 c2 r2 t2 v2 cap2 : Nat} {nv : Value} {N : List Nd} {R : List Nat}
theorem TwoS.below (h : TwoS w X sb cb rb tb v cap s2 c2 r2 t2 v2 cap2 nv N R) (hb : Below X.heap.size X X') : TwoS w X' sb cb rb tb v cap s2 c2 r2 t2 v2 cap2 nv N R := ⟨h.1.below hb, h.2.below hb⟩
theorem TwoS.add (h : TwoS w X sb cb rb tb v cap s2 c2 r2 t2 v2 cap2 nv N R) {val : Nat → Int} {e : Ending} (hp : AddPost sb cb rb tb v cap nv N R val X e X') {A : Added} (hA : addM v cap val N R = A) :
    e = .returned (.tuple #[.int .i64 (A.ref : Nat), .int .i64 (A.err : Nat)]) ∧ ∃ nv', TwoS w X' sb cb rb tb v cap s2 c2 r2 t2 v2 cap2 nv' A.N A.R := by
  obtain ⟨he, nv', ho, hs⟩ := h.1.add hp
  subst hA
  exact ⟨he, nv', ho, h.2.step hs⟩
theorem two_start {w w1 w2 : World} {sb cb rb tb v cap s2 c2 r2 t2 v2 cap2 : Nat} (h1 : Inv w1 sb cb rb tb v cap (.slice none 0 0) [] []) (g1 : w.heap.size ≤ sb) (g2 : w.heap.size ≤ cb) (g3 : w.heap.size ≤ rb) (g4 : w.heap.size ≤ tb) (hb1 : Below w.heap.size w w1)
    (h2 : Inv w2 s2 c2 r2 t2 v2 cap2 (.slice none 0 0) [] []) (k1 : w1.heap.size ≤ s2) (k2 : w1.heap.size ≤ c2) (k3 : w1.heap.size ≤ r2) (k4 : w1.heap.size ≤ t2) (hb2 : Below w1.heap.size w1 w2) : TwoS w w2 sb cb rb tb v cap s2 c2 r2 t2 v2 cap2 (.slice none 0 0) [] [] := by
  obtain ⟨_, _, hr1⟩ := h1.mem.r.obj
  obtain ⟨_, _, ht1⟩ := h1.mem.t.obj
  obtain ⟨_, _, hr2⟩ := h2.mem.r.obj
  obtain ⟨_, _, ht2⟩ := h2.mem.t.obj
  have l1 := h1.mem.lt.2
  have l2 := lt_of_block hr1
  have l3 := lt_of_block ht1
  have ap : ∀ k, w1.heap.size ≤ k → k < w2.heap.size → Apart cb rb tb (.slice none 0 0) w2 k := fun k hk hk2 => ⟨hk2, by
    rintro (e | e | e | e)
    · omega
    · omega
    · omega
    · simp [Value.ownBlock] at e⟩
  exact ⟨⟨h1.below hb2, g1, g2, g3, g4, fun k hk => by simp [Value.ownBlock] at hk, stepB hb1 hb2⟩, ⟨h2, ap _ k1 h2.mem.lt.1, ap _ k2 h2.mem.lt.2, ap _ k3 (lt_of_block hr2), ap _ k4 (lt_of_block ht2)⟩⟩
end
theorem two_second {w w1 X : World} {sb cb rb tb v cap s2 c2 r2 t2 v2 cap2 : Nat} {nv : Value} {N : List Nd} {R : List Nat} (h : TwoS w X sb cb rb tb v cap s2 c2 r2 t2 v2 cap2 nv N R) (hs : w.heap.size ≤ w1.heap.size) (k1 : w1.heap.size ≤ s2) (k2 : w1.heap.size ≤ c2) (k3 : w1.heap.size ≤ r2) (k4 : w1.heap.size ≤ t2) :
    Own w X s2 c2 r2 t2 v2 cap2 (.slice none 0 0) [] [] := ⟨h.2.inv, by omega, by omega, by omega, by omega, fun k hk => by simp [Value.ownBlock] at hk, h.1.bel⟩
theorem tabK_row {w : World} {base : Nat} {A : Option Addr} {n c : Nat} {l : List Int} (h : w.ownsRow base 3 1 (.slice A n c) n (l.map (Value.int .i64))) (hn : n = l.length) : TabK w A l := by
  refine ⟨ints_row h hn, fun ad e => ?_⟩
  rcases h.2 with ⟨e1, _⟩ | ⟨g, cp, cur, e1, _, hg, _⟩
  · cases e1; cases e
  · injection e1 with e2
    rw [e2] at e
    cases e
    exact ⟨_, _, _, hg, by decide, by decide⟩
def aN1 : List Nd := [(2, 0, 0, 0), (2, 0, 0, 1), (1, 1, 2, 0), (0, 3, 2, 0)]
def aN2 : List Nd := [(2, 0, 0, 0), (2, 0, 0, 1), (1, 1, 2, 0), (0, 3, 2, 0), (0, 1, 3, 0)]
theorem a1 : addM 2 16 (fun x => nd [0, 1, 1, 1] x) [] [] = ⟨aN1, [4], 4, 0⟩ := by kernel_rfl
theorem a2 : addM 2 16 (fun x => nd [0, 0, 0, 1] x) aN1 [4] = ⟨aN2, [4, 5], 5, 0⟩ := by kernel_rfl
theorem a3 : addM 2 16 (fun x => valI 1 (den 2 aN2 4 x) (den 2 aN2 5 x)) aN2 [4, 5] = ⟨aN2, [4, 5], 4, 0⟩ := by kernel_rfl
theorem a4 : addM 2 16 (fun x => max (den 2 aN2 4 (stV x 0 false)) (den 2 aN2 4 (stV x 0 true))) aN2 [4, 5] = ⟨aN2, [4, 5, 2], 2, 0⟩ := by kernel_rfl
theorem a5 : addM 2 3 (fun x => nd [0, 1, 1, 1] x) [] [] = ⟨[], [], 0, 10⟩ := by kernel_rfl
theorem a6 : (vis 2 aN1 2 [] 4).length = 4 := by kernel_rfl
theorem a7 : (vis 2 aN2 2 [] 2).length = 1 := by kernel_rfl
theorem a8 : tabD 2 aN2 2 = [1, 1, 1, 1] := by kernel_rfl
theorem nd4 {a b c d : Int} (ha : InI a) (hb : InI b) (hc : InI c) (hd : InI d) : ∀ x, x < 2 ^ 2 → InI (nd [a, b, c, d] x) := fun x hx => by
  match x, hx with
  | 0, _ => exact ha
  | 1, _ => exact hb
  | 2, _ => exact hc
  | 3, _ => exact hd
theorem i0 : InI 0 := by unfold InI; omega
theorem i1 : InI 1 := by unfold InI; omega
set_option maxHeartbeats 8000000 in
theorem awake_any (w : World) : Calls Try.prog 10 #[] w fun e w' => e = .returned (.bool true) ∧ Below w.heap.size w w' := by
  have HN1 : Hid (∀ X, Calls Try.prog 30 #[.int .i64 2, .int .i64 16] X fun e w' => ∃ sb cb rb tb, e = .returned (.tuple #[.pointer (some ⟨sb, 0, none⟩), .int .i64 0]) ∧ Inv w' sb cb rb tb 2 16 (.slice none 0 0) [] [] ∧ X.heap.size ≤ sb ∧ X.heap.size ≤ cb ∧ X.heap.size ≤ rb ∧ X.heap.size ≤ tb ∧ Below X.heap.size X w') := fun X => New_yes 2 16 X (by decide) (by decide) (by decide)
  have HN2 : Hid (∀ X, Calls Try.prog 30 #[.int .i64 2, .int .i64 3] X fun e w' => ∃ sb cb rb tb, e = .returned (.tuple #[.pointer (some ⟨sb, 0, none⟩), .int .i64 0]) ∧ Inv w' sb cb rb tb 2 3 (.slice none 0 0) [] [] ∧ X.heap.size ≤ sb ∧ X.heap.size ≤ cb ∧ X.heap.size ≤ rb ∧ X.heap.size ≤ tb ∧ Below X.heap.size X w') := fun X => New_yes 2 3 X (by decide) (by decide) (by decide)
  have H1 : Hid (∀ sb cb rb tb s2 c2 r2 t2 nv X, TwoS w X sb cb rb tb 2 16 s2 c2 r2 t2 2 3 nv [] [] → Calls Try.prog 31 #[.pointer (some ⟨sb, 0, none⟩), .slice (some ⟨X.heap.size, 0, none⟩) 4 4] (X.alloc (.cells #[.int .i64 0, .int .i64 1, .int .i64 1, .int .i64 1] 3)) fun e w' =>
      e = .returned (.tuple #[.int .i64 4, .int .i64 0]) ∧ ∃ nv', TwoS w w' sb cb rb tb 2 16 s2 c2 r2 t2 2 3 nv' aN1 [4]) := fun sb cb rb tb s2 c2 r2 t2 nv X h => by
    have h' := h.below (bal (Below.refl _ _) (.cells #[.int .i64 0, .int .i64 1, .int .i64 1, .int .i64 1] 3))
    exact (FromTable_yes _ h'.1.inv _ [0, 1, 1, 1] 4 (tabK_lit X [0, 1, 1, 1]) rfl (nd4 i0 i1 i1 i1)).mono fun e w' hp => h'.add hp a1
  have H2 : Hid (∀ sb cb rb tb s2 c2 r2 t2 nv X, TwoS w X sb cb rb tb 2 16 s2 c2 r2 t2 2 3 nv aN1 [4] → Calls Try.prog 19 #[.pointer (some ⟨sb, 0, none⟩), .int .i64 4] X fun e w' => e = .returned (.tuple #[.int .i64 4, .int .i64 0]) ∧ Below X.heap.size X w') := fun sb cb rb tb s2 c2 r2 t2 nv X h => by
    have := Size_yes X h.1.inv 4 (by simp)
    rw [a6] at this
    exact this
  have H3 : Hid (∀ sb cb rb tb s2 c2 r2 t2 nv X, TwoS w X sb cb rb tb 2 16 s2 c2 r2 t2 2 3 nv aN1 [4] → Calls Try.prog 31 #[.pointer (some ⟨sb, 0, none⟩), .slice (some ⟨X.heap.size, 0, none⟩) 4 4] (X.alloc (.cells #[.int .i64 0, .int .i64 0, .int .i64 0, .int .i64 1] 3)) fun e w' =>
      e = .returned (.tuple #[.int .i64 5, .int .i64 0]) ∧ ∃ nv', TwoS w w' sb cb rb tb 2 16 s2 c2 r2 t2 2 3 nv' aN2 [4, 5]) := fun sb cb rb tb s2 c2 r2 t2 nv X h => by
    have h' := h.below (bal (Below.refl _ _) (.cells #[.int .i64 0, .int .i64 0, .int .i64 0, .int .i64 1] 3))
    exact (FromTable_yes _ h'.1.inv _ [0, 0, 0, 1] 4 (tabK_lit X [0, 0, 0, 1]) rfl (nd4 i0 i0 i0 i1)).mono fun e w' hp => h'.add hp a2
  have H4 : Hid (∀ sb cb rb tb s2 c2 r2 t2 nv X, TwoS w X sb cb rb tb 2 16 s2 c2 r2 t2 2 3 nv aN2 [4, 5] → Calls Try.prog 25 #[.pointer (some ⟨sb, 0, none⟩), .int .u8 1, .int .i64 4, .int .i64 5] X fun e w' =>
      e = .returned (.tuple #[.int .i64 4, .int .i64 0]) ∧ ∃ nv', TwoS w w' sb cb rb tb 2 16 s2 c2 r2 t2 2 3 nv' aN2 [4, 5]) := fun sb cb rb tb s2 c2 r2 t2 nv X h =>
    (Apply_yes X h.1.inv 1 4 5 (by decide) (by decide) (by simp) (by simp)).mono fun e w' hp => h.add hp a3
  have H5 : Hid (∀ sb cb rb tb s2 c2 r2 t2 nv X, TwoS w X sb cb rb tb 2 16 s2 c2 r2 t2 2 3 nv aN2 [4, 5] → Calls Try.prog 27 #[.pointer (some ⟨sb, 0, none⟩), .int .i64 4, .int .i64 0] X fun e w' =>
      e = .returned (.tuple #[.int .i64 2, .int .i64 0]) ∧ ∃ nv', TwoS w w' sb cb rb tb 2 16 s2 c2 r2 t2 2 3 nv' aN2 [4, 5, 2]) := fun sb cb rb tb s2 c2 r2 t2 nv X h =>
    (Exists_yes X h.1.inv 4 0 (by simp) (by decide)).mono fun e w' hp => h.add hp a4
  have H6 : Hid (∀ sb cb rb tb s2 c2 r2 t2 nv X, TwoS w X sb cb rb tb 2 16 s2 c2 r2 t2 2 3 nv aN2 [4, 5, 2] → Calls Try.prog 16 #[.pointer (some ⟨sb, 0, none⟩), .int .i64 2] X fun e w' =>
      ∃ g c, e = .returned (.tuple #[.slice (some ⟨g, 0, none⟩) 4 c, .int .i64 0]) ∧ TabK w' (some ⟨g, 0, none⟩) [1, 1, 1, 1] ∧ Below X.heap.size X w') := fun sb cb rb tb s2 c2 r2 t2 nv X h =>
    (Table_yes X h.1.inv 2 (by simp)).mono fun e w' ⟨g, c, he, ho, hb⟩ => ⟨g, c, he, by rw [a8] at ho; exact tabK_row ho rfl, hb⟩
  have H7 : Hid (∀ sb cb rb tb s2 c2 r2 t2 nv X, TwoS w X sb cb rb tb 2 16 s2 c2 r2 t2 2 3 nv aN2 [4, 5, 2] → Calls Try.prog 19 #[.pointer (some ⟨sb, 0, none⟩), .int .i64 2] X fun e w' => e = .returned (.tuple #[.int .i64 1, .int .i64 0]) ∧ Below X.heap.size X w') := fun sb cb rb tb s2 c2 r2 t2 nv X h => by
    have := Size_yes X h.1.inv 2 (by simp)
    rw [a7] at this
    exact this
  have H8 : Hid (∀ s2 c2 r2 t2 X, Own w X s2 c2 r2 t2 2 3 (.slice none 0 0) [] [] → Calls Try.prog 31 #[.pointer (some ⟨s2, 0, none⟩), .slice (some ⟨X.heap.size, 0, none⟩) 4 4] (X.alloc (.cells #[.int .i64 0, .int .i64 1, .int .i64 1, .int .i64 1] 3)) fun e w' =>
      e = .returned (.tuple #[.int .i64 0, .int .i64 10]) ∧ (∃ nv', Own w w' s2 c2 r2 t2 2 3 nv' [] []) ∧ Keeps X w') := fun s2 c2 r2 t2 X h => by
    have h' := h.below (bal (Below.refl _ _) (.cells #[.int .i64 0, .int .i64 1, .int .i64 1, .int .i64 1] 3))
    refine (FromTable_yes _ h'.inv _ [0, 1, 1, 1] 4 (tabK_lit X [0, 1, 1, 1]) rfl (nd4 i0 i1 i1 i1)).mono fun e w' hp => ?_
    obtain ⟨he, nv', ho, hs⟩ := h'.add hp
    rw [a5] at he ho
    exact ⟨he, ⟨nv', ho⟩, (Keeps.of_below (bal (Below.refl _ _) _)).trans (h'.inv.mem.keeps hs)⟩
  have H9 : Hid (∀ s2 c2 r2 t2 nv X, Own w X s2 c2 r2 t2 2 3 nv [] [] → Calls Try.prog 13 #[.pointer (some ⟨s2, 0, none⟩)] X fun e w' => e = .returned (.tuple #[.int .i64 0, .int .i64 0]) ∧ Below X.heap.size X w') := fun s2 c2 r2 t2 nv X h => Nodes_any X h.inv
  have HE : Hid (∀ X g c, Ints X (some ⟨g, 0, none⟩) [1, 1, 1, 1] → Calls Try.prog 17 #[.slice (some ⟨g, 0, none⟩) 4 c, .slice (some ⟨X.heap.size, 0, none⟩) 4 4] (X.alloc (.cells #[.int .i64 1, .int .i64 1, .int .i64 1, .int .i64 1] 3)) fun e w' => e = .returned (.bool true) ∧ Below X.heap.size X w') := fun X g c h =>
    (EqualInts_any (some ⟨g, 0, none⟩) (some ⟨X.heap.size, 0, none⟩) [1, 1, 1, 1] [1, 1, 1, 1] c 4 _ (Ints.below h (bal (Below.refl _ _) _)) (ints_new X _ [1, 1, 1, 1]) (by unfold maxLen; decide)).mono fun e w' ⟨he, hb⟩ => ⟨by rw [he]; rfl, stepB (bal (Below.refl _ _) _) hb⟩
  go_enter Try.func10, Try.ntmps10
  go_wp2_with (first
    | (go_at_call 30; ((with_reducible refine (HN1.out _).mono ?_); rintro e w1 ⟨sb, cb, rb, tb, rfl, n1, g1, g2, g3, g4, hb1⟩))
    | (go_at_call 30; ((with_reducible refine (HN2.out _).mono ?_); rintro e w2 ⟨s2, c2, r2, t2, rfl, n2, k1, k2, k3, k4, hb2⟩); have T0 := two_start n1 g1 g2 g3 g4 hb1 n2 k1 k2 k3 k4 hb2; have hsz := hb1.size; clear n1 g1 g2 g3 g4 hb1 n2 hb2)
    | (go_at_call 31; ((with_reducible refine (H1.out _ _ _ _ _ _ _ _ _ _ T0).mono ?_); rintro e w3 ⟨rfl, nv3, T1⟩); clear T0)
    | (go_at_call 19; ((with_reducible refine (H2.out _ _ _ _ _ _ _ _ _ _ T1).mono ?_); rintro e w4 ⟨rfl, hb4⟩); have T2 := T1.below hb4; clear T1 hb4)
    | (go_at_call 31; ((with_reducible refine (H3.out _ _ _ _ _ _ _ _ _ _ T2).mono ?_); rintro e w5 ⟨rfl, nv5, T3⟩); clear T2)
    | (go_at_call 25; ((with_reducible refine (H4.out _ _ _ _ _ _ _ _ _ _ T3).mono ?_); rintro e w6 ⟨rfl, nv6, T4⟩); clear T3)
    | (go_at_call 27; ((with_reducible refine (H5.out _ _ _ _ _ _ _ _ _ _ T4).mono ?_); rintro e w7 ⟨rfl, nv7, T5⟩); clear T4)
    | (go_at_call 16; ((with_reducible refine (H6.out _ _ _ _ _ _ _ _ _ _ T5).mono ?_); rintro e w8 ⟨g, c, rfl, hi8, hb8⟩); have T6 := T5.below hb8; clear T5 hb8)
    | (go_at_call 19; ((with_reducible refine (H7.out _ _ _ _ _ _ _ _ _ _ T6).mono ?_); rintro e w9 ⟨rfl, hb9⟩); have T7 := T6.below hb9; have hi9 := hi8.keeps (Keeps.of_below hb9); clear T6 hi8 hb9; have U0 : Own w w9 s2 c2 r2 t2 2 3 (.slice none 0 0) [] [] := two_second T7 hsz k1 k2 k3 k4)
    | (go_at_call 31; ((with_reducible refine (H8.out _ _ _ _ _ U0).mono ?_); rintro e w10 ⟨rfl, ⟨nv10, U1⟩, hk10⟩); have hi10 := hi9.keeps hk10)
    | (go_at_call 13; ((with_reducible refine (H9.out _ _ _ _ _ _ U1).mono ?_); rintro e w11 ⟨rfl, hb11⟩); have hi11 := (hi10.keeps (Keeps.of_below hb11)).1; have bl11 := (U1.below hb11).bel)
    | (go_at_call 17; ((with_reducible refine (HE.out _ _ _ hi11).mono ?_); rintro e w12 ⟨rfl, hb12⟩)))
  go_ret
  exact ⟨rfl, stepB bl11 hb12⟩
end Go.Proofs.Ytbhfmeohaoojfaa.Dn
