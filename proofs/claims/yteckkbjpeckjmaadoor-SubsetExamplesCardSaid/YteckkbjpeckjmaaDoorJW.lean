/- The chapter's example holds. -/
import Derived.Test.YteckkbjpeckjmaaDoorJV
namespace Go.Proofs.YteckkbjpeckjmaaDoor.Sb
open Go Go.RowKit Go.Proofs.YteckkbjpeckjmaaDoor Go.Proofs.YteckkbjpeckjmaaDoor.Cb
open Go.Proofs.YteckkbjpeckjmaaDoor.Nf (Na NaAt NaLen exN ex_ok ex_len bys_new bvs)
open Go.Proofs.YteckkbjpeckjmaaDoor.Dg (Tabs tb tb_mem)
set_option linter.unusedVariables false
set_option linter.unusedSimpArgs false
set_option maxRecDepth 100000
theorem ex_det (w : World) (A B C : Option Addr) (hx : NaAt w exN A B C) (hT : Tabs2 w) : Calls Tryd.prog 25 #[.agg #[.int .i64 1, .int .i64 3, .slice A 1 1, .slice B 1 1, .slice C 3 3], .int .i64 4] w fun e w' =>
    ∃ A' a B' b C' c, e = .returned (.tuple #[.agg #[.int .i64 1, .int .i64 0, .slice A' 4 a, .slice B' 4 b], .slice C' 4 c, .int .i64 0]) ∧ DaAt w' exD A' B' ∧ Tabs w' C' exL ∧ Below w.heap.size w w' :=
  (Determinize_good exN A B C 1 1 3 w hx ex_len 4 hT ex_ok (by decide) (by decide) exF ex_det4).mono fun e w' ⟨rv, fv, sv, h1, h2, h3⟩ => by
    obtain ⟨A', a, B', b, C', c, rfl, rfl, rfl, h4, h5⟩ := h2.at_
    rw [ex_D] at h4
    rw [ex_els] at h5
    exact ⟨A', a, B', b, C', c, h1, h4, h5, h3⟩
theorem ex_det_none (w : World) (A B C : Option Addr) (hx : NaAt w exN A B C) (hT : Tabs2 w) : Calls Tryd.prog 25 #[.agg #[.int .i64 1, .int .i64 3, .slice A 1 1, .slice B 1 1, .slice C 3 3], .int .i64 3] w fun e w' =>
    e = .returned (.tuple #[.agg #[.int .i64 0, .int .i64 0, .slice none 0 0, .slice none 0 0], .slice none 0 0, .int .i64 10]) ∧ Below w.heap.size w w' :=
  Determinize_none exN A B C 1 1 3 w hx ex_len 3 hT ex_ok (by decide) (by decide) ex_det3
theorem ex_acc (l : List Nat) (h8 : ∀ y ∈ l, y < 256) (hl : l.length ≤ 100) (b0 : Bool) (ha : accD exD l = b0 ∧ wrongD exD l = 0) (w : World) (A B : Option Addr) (a b : Nat) (hx : DaAt w exD A B) (X : World) (hX : Below w.heap.size w X) :
    Calls Tryd.prog 21 #[.agg #[.int .i64 1, .int .i64 0, .slice A 4 a, .slice B 4 b], .slice (some ⟨X.heap.size, 0, none⟩) l.length l.length] (X.alloc (.cells (bvs l).toArray 5)) fun e w' =>
      e = .returned (.tuple #[.bool b0, .int .i64 0]) ∧ Below X.heap.size X w' := by
  have hb := bal (Below.refl X.heap.size X) (.cells (bvs l).toArray 5)
  have := AcceptsD_any exD A B a b (X.alloc (.cells (bvs l).toArray 5)) (hx.below (hX.trans (hb.mono hX.size))) exD_len (some ⟨X.heap.size, 0, none⟩) l l.length (bys_new X l) h8 (by omega)
  rw [ha.1, ha.2] at this
  exact this.mono fun e w' h => ⟨h.1, stepB hb h.2⟩
set_option maxHeartbeats 8000000 in
theorem awake_any7 (w : World) (hT : Tabs2 w) : Calls Tryd.prog 19 #[] w fun e w' => e = .returned (.bool true) ∧ Below w.heap.size w w' := by
  have H0 := Lib.hid fun X => second_any7 X
  have HT := Lib.hid fun X (hX : Below w.heap.size w X) => hT.below hX
  have H1 := Lib.hid fun w A B C hx hT => ex_det w A B C hx hT
  have H2 := Lib.hid fun w A B C hx hT => ex_det_none w A B C hx hT
  have H3 : Hid (∀ (w : World) (A B : Option Addr) (a b : Nat) (hx : DaAt w exD A B) (X : World) (hX : Below w.heap.size w X) (g : Nat) (hg : g = X.heap.size), Calls Tryd.prog 21 #[.agg #[.int .i64 1, .int .i64 0, .slice A 4 a, .slice B 4 b], .slice (some ⟨g, 0, none⟩) 2 2] (X.alloc (.cells #[.int .u8 1, .int .u8 0] 5)) fun e w' => e = .returned (.tuple #[.bool true, .int .i64 0]) ∧ Below X.heap.size X w') := fun w A B a b hx X hX g hg => by
    subst hg
    exact ex_acc [1, 0] (by decide) (by decide) true ex_acc1 w A B a b hx X hX
  have H4 : Hid (∀ (w : World) (A B : Option Addr) (a b : Nat) (hx : DaAt w exD A B) (X : World) (hX : Below w.heap.size w X) (g : Nat) (hg : g = X.heap.size), Calls Tryd.prog 21 #[.agg #[.int .i64 1, .int .i64 0, .slice A 4 a, .slice B 4 b], .slice (some ⟨g, 0, none⟩) 2 2] (X.alloc (.cells #[.int .u8 0, .int .u8 1] 5)) fun e w' => e = .returned (.tuple #[.bool false, .int .i64 0]) ∧ Below X.heap.size X w') := fun w A B a b hx X hX g hg => by
    subst hg
    exact ex_acc [0, 1] (by decide) (by decide) false ex_acc2 w A B a b hx X hX
  have HR : Hid (∀ (w : World) (C : Option Addr) (c : Nat) (hx : Tabs w C exL) (X : World) (hX : Below w.heap.size w X) (g0 g1 g2 g3 g4 : Nat) (h0 : g0 = X.heap.size) (h1 : g1 = X.heap.size + 1) (h2 : g2 = X.heap.size + 1 + 1) (h3 : g3 = X.heap.size + 1 + 1 + 1) (h4 : g4 = X.heap.size + 1 + 1 + 1 + 1), Calls Tryd.prog 53 #[.slice C 4 c, .slice (some ⟨g4, 0, none⟩) 4 4] (((((X.alloc (.cells #[.int .i64 0] 3)).alloc (.cells #[.int .i64 0, .int .i64 1] 3)).alloc (.cells #[.int .i64 0, .int .i64 2] 3)).alloc (.cells #[.int .i64 0, .int .i64 1, .int .i64 2] 3)).alloc (.cells #[.slice (some ⟨g0, 0, none⟩) 1 1, .slice (some ⟨g1, 0, none⟩) 2 2, .slice (some ⟨g2, 0, none⟩) 2 2, .slice (some ⟨g3, 0, none⟩) 3 3] 23)) fun e w' => e = .returned (.bool true) ∧ Below X.heap.size X w') := fun w C c hx X hX g0 g1 g2 g3 g4 h0 h1 h2 h3 h4 => by
    subst h0 h1 h2 h3 h4
    have hb := bal (bal (bal (bal (bal (Below.refl X.heap.size X) (.cells #[.int .i64 0] 3)) (.cells #[.int .i64 0, .int .i64 1] 3)) (.cells #[.int .i64 0, .int .i64 2] 3)) (.cells #[.int .i64 0, .int .i64 1, .int .i64 2] 3)) (.cells #[.slice (some ⟨X.heap.size, 0, none⟩) 1 1, .slice (some ⟨X.heap.size + 1, 0, none⟩) 2 2, .slice (some ⟨X.heap.size + 1 + 1, 0, none⟩) 2 2, .slice (some ⟨X.heap.size + 1 + 1 + 1, 0, none⟩) 3 3] 23)
    exact (EqualRows_same C (some ⟨X.heap.size + 1 + 1 + 1 + 1, 0, none⟩) exL c 4 _ (hx.below (hX.trans (hb.mono hX.size))) (tabs_ex X) (by decide) (by decide)).mono fun e w' h => ⟨h.1, stepB hb h.2⟩
  have HB : Hid (∀ (w : World) (B : Option Addr) (b : Nat) (hx : Bools w B exD.fi) (X : World) (hX : Below w.heap.size w X) (g : Nat) (hg : g = X.heap.size), Calls Tryd.prog 54 #[.slice B 4 b, .slice (some ⟨g, 0, none⟩) 4 4] (X.alloc (.cells #[.bool false, .bool false, .bool true, .bool true] 4)) fun e w' => e = .returned (.bool true) ∧ Below X.heap.size X w') := fun w B b hx X hX g hg => by
    subst hg
    have hb := bal (Below.refl X.heap.size X) (.cells #[.bool false, .bool false, .bool true, .bool true] 4)
    exact (EqualBools_same B (some ⟨X.heap.size, 0, none⟩) exD.fi b 4 _ (hx.below (hX.trans (hb.mono hX.size))) (bools_new X [false, false, true, true]) (by decide)).mono fun e w' ⟨h1, n, h2⟩ => ⟨h1, h2 ▸ stepB hb (Ap.drewN_below _ n)⟩
  clear hT
  go_enter Tryd.func19, Tryd.ntmps19
  go_wp2_with (first
    | (go_at_call 26; ((with_reducible refine (H0.out w).mono ?_); rintro e w2 ⟨A, B, C, rfl, hx2, hb2⟩))
    | (go_at_call 25; ((with_reducible refine (H1.out w2 A B C hx2 (HT.out w2 hb2)).mono ?_); rintro e w3 ⟨A3, a3, B3, b3, C3, c3, rfl, hd3, ht3, hb3⟩); clear hx2; have hB := Blk4.new w3 (.int .i64 1) (.int .i64 0) (.slice A3 4 a3) (.slice B3 4 b3); have K := bal (Below.refl w3.heap.size w3) (.cells #[.int .i64 1, .int .i64 0, .slice A3 4 a3, .slice B3 4 b3] 54); have K0 := stepB hb2 hb3; have KW := stepB K0 K)
    | (go_at_call 26; ((with_reducible refine (H0.out _).mono ?_); rintro e w4 ⟨A, B, C, rfl, hx4, hb4⟩); clear H0; replace K := stepB K hb4; replace KW := stepB KW hb4; replace hB := hB.below hb4)
    | (go_at_call 25; ((with_reducible refine (H2.out w4 A B C hx4 (HT.out w4 KW)).mono ?_); rintro e w5 ⟨rfl, hb5⟩); clear hx4 H1 H2; replace K := stepB K hb5; replace K := bal K (.cells #[.int .i64 0, .int .i64 0, .slice none 0 0, .slice none 0 0] 54); replace hB := (hB.below hb5).below (bal (Below.refl _ _) (.cells #[.int .i64 0, .int .i64 0, .slice none 0 0, .slice none 0 0] 54)); obtain ⟨z0, z1, z2, z3⟩ := hB.cells)
    | (go_at_call 21; ((with_reducible refine (H3.out w3 A3 B3 a3 b3 hd3 _ K _ (by simp)).mono ?_); rintro e w6 ⟨rfl, hb6⟩); clear H3; replace K := stepB K hb6; replace hB := hB.below hb6; clear z0 z1 z2 z3; obtain ⟨z0, z1, z2, z3⟩ := hB.cells)
    | (go_at_call 21; ((with_reducible refine (H4.out w3 A3 B3 a3 b3 hd3 _ K _ rfl).mono ?_); rintro e w7 ⟨rfl, hb7⟩); clear H4; replace K := stepB K hb7; replace hB := hB.below hb7; clear z0 z1 z2 z3; obtain ⟨z0, z1, z2, z3⟩ := hB.cells)
    | (go_at_call 53; ((with_reducible refine (HR.out w3 C3 c3 ht3 _ K _ _ _ _ _ rfl rfl rfl rfl rfl).mono ?_); rintro e w8 ⟨rfl, hb8⟩); clear HR; replace K := stepB K hb8; replace hB := hB.below hb8; clear z0 z1 z2 z3; obtain ⟨z0, z1, z2, z3⟩ := hB.cells)
    | (go_at_call 54; ((with_reducible refine (HB.out w3 B3 b3 hd3.fi _ K _ rfl).mono ?_); rintro e w9 ⟨rfl, hb9⟩); replace K := stepB K hb9))
  go_ret
  exact ⟨rfl, stepB K0 K⟩
end Go.Proofs.YteckkbjpeckjmaaDoor.Sb
