/- The chapter's examples hold: awake. -/
import Derived.Test.YtjjdhegkcilaiaaDoorCO
import Derived.Test.YtjjdhegkcilaiaaDoorCF
namespace Go.Proofs.YtjjdhegkcilaiaaDoor
open Go Go.RowKit
set_option maxRecDepth 100000
theorem cvs_get : ∀ (l : List (Nat × Nat)) (j : Nat), j < l.length → (cvs l)[j * 2]? = some (.int .u8 ((cd l j).1 : Nat)) ∧ (cvs l)[j * 2 + 1]? = some (.int .u8 ((cd l j).2 : Nat))
  | [], j, h => by simp at h
  | c :: l, 0, _ => by simp [cvs, cd]
  | c :: l, j + 1, h => by
    have ih := cvs_get l j (by simpa using h)
    have e : cvs (c :: l) = [.int .u8 (c.1 : Nat), .int .u8 (c.2 : Nat)] ++ cvs l := by simp [cvs]
    have e1 : (j + 1) * 2 = j * 2 + 2 := by omega
    have e2 : cd (c :: l) (j + 1) = cd l j := by simp [cd]
    rw [e, e1, e2]
    exact ⟨ih.1, ih.2⟩
theorem own_cubs {w : World} {base : Nat} {A : Option Addr} {c n : Nat} {l : List (Nat × Nat)} (h : w.ownsRow base 42 2 (.slice A n c) n (cvs l)) (hn : n = l.length) : Cubs w A l := by
  subst hn
  intro j hj
  rcases h.2 with ⟨_, h0⟩ | ⟨g, cap, cur, hv, _, hh, _⟩
  · omega
  · injection hv with hA
    subst hA
    obtain ⟨c0, c1⟩ := cvs_get l j hj
    have k0 := h.cells (g := g) rfl _ _ c0
    have k1 := h.cells (g := g) rfl _ _ c1
    rw [addr_add] at k0 k1
    exact ⟨g, rfl, (Array.getElem?_eq_some_iff.1 hh).1, k0, k1⟩
theorem cubs_new (W : World) (t : TypeId) (l : List (Nat × Nat)) : Cubs (W.alloc (.cells (cvs l).toArray t)) (some ⟨W.heap.size, 0, none⟩) l := by
  intro j hj
  obtain ⟨c0, c1⟩ := cvs_get l j hj
  refine ⟨W.heap.size, rfl, by simp, ?_, ?_⟩
  · rw [World.cell?_alloc_at _ _ _ _ rfl]; simpa using c0
  · rw [World.cell?_alloc_at _ _ _ _ rfl]; simpa using c1
theorem Letters_is (p q v : Nat) (l : List Nat) (w : World) (hC : Cube p q v) (hl : letTo p q (2 ^ v) = l) :
    Calls Tryd.prog 33 #[.agg #[.int .u8 p, .int .u8 q], .int .i64 v] w fun e w' => ∃ A c, e = .returned (.tuple #[.slice A l.length c, .int .i64 0]) ∧ Bys w' A l ∧ l.length ≤ c ∧ Below w.heap.size w w' := by
  subst hl
  refine (Letters_ok p q v w hC).mono ?_
  rintro e w' ⟨u, rfl, ho, hb⟩
  obtain ⟨A, c, rfl, hc⟩ := own_form ho
  exact ⟨A, c, rfl, own_bys ho rfl, hc, hb⟩
theorem Cover_is (A : Option Addr) (l : List Nat) (c v : Nat) (r : List (Nat × Nat)) (w : World) (hv : v ≤ 6) (hx : Bys w A l) (h8 : B8 l) (hl : l.length ≤ 1000000) (hT : HavT w) (ha : ascL l v = true) (hr : coverL l v = r) :
    Calls Tryd.prog 47 #[.slice A l.length c, .int .i64 v] w fun e w' => ∃ A' c', e = .returned (.tuple #[.slice A' r.length c', .int .i64 0]) ∧ Cubs w' A' r ∧ r.length ≤ c' ∧ Below w.heap.size w w' := by
  subst hr
  refine (Cover_ok A l c v w hv hx h8 hl hT ha).mono ?_
  rintro e w' ⟨u, rfl, ho, hb⟩
  obtain ⟨A', c', rfl, hc⟩ := own_form ho
  exact ⟨A', c', rfl, own_cubs ho rfl, hc, hb⟩
theorem ex1 : letTo 1 0 (2 ^ 2) = [1, 3] := by decide +kernel
theorem ex2 : fmtT 1 2 = [97, 33, 98] := by decide +kernel
theorem ex3 : coverL [1, 2, 3] 2 = [(1, 0), (2, 0)] := by decide +kernel
theorem ex4 : letTo 0 0 (2 ^ 0) = [0] := by decide +kernel
theorem ex5 : prs [33, 97] 1 = ((0, 1), 0) := by decide +kernel
theorem ex6 : prs [98, 97] 2 = ((0, 0), 2) := by decide +kernel
theorem ex7 : meet 1 2 2 0 = ((0, 0), false) := by decide +kernel
theorem cube_of {p q v : Nat} (h : chk p q v = 0) : Cube p q v := by
  obtain ⟨n, e, h1⟩ := chk_ok h
  have : v = n := by exact_mod_cast e
  rw [this]; exact h1
theorem aw1 (w : World) : Calls Tryd.prog 33 #[.agg #[.int .u8 1, .int .u8 0], .int .i64 2] w fun e w' => ∃ A c, e = .returned (.tuple #[.slice A 2 c, .int .i64 0]) ∧ Bys w' A [1, 3] ∧ 2 ≤ c ∧ Below w.heap.size w w' :=
  Letters_is 1 0 2 [1, 3] w (cube_of (by decide)) ex1
theorem aw2 (w : World) : Calls Tryd.prog 34 #[.agg #[.int .u8 1, .int .u8 2], .int .i64 2] w fun e w' => e = .returned (.tuple #[.string ⟨#[97, 33, 98]⟩, .int .i64 0]) ∧ Below w.heap.size w w' := by
  have := Format_ok 1 2 2 w (cube_of (by decide))
  rw [ex2] at this
  exact this
theorem aw3 (w : World) : Calls Tryd.prog 41 #[.agg #[.int .u8 1, .int .u8 2], .agg #[.int .u8 2, .int .u8 0]] w fun e w' => e = .returned (.tuple #[.agg #[.int .u8 0, .int .u8 0], .bool false]) ∧ Below w.heap.size w w' := by
  have := Intersect_any 1 2 2 0 w (by decide) (by decide) (by decide) (by decide)
  rw [ex7] at this
  exact this
theorem aw4 (w : World) (hT : HavT w) : Calls Tryd.prog 47 #[.slice (some ⟨w.heap.size, 0, none⟩) 3 3, .int .i64 2] (w.alloc (.cells #[.int .u8 1, .int .u8 2, .int .u8 3] 5)) fun e w' =>
    ∃ A' c', e = .returned (.tuple #[.slice A' 2 c', .int .i64 0]) ∧ Cubs w' A' [(1, 0), (2, 0)] ∧ 2 ≤ c' ∧ Below w.heap.size w w' :=
  (Cover_is (some ⟨w.heap.size, 0, none⟩) [1, 2, 3] 3 2 _ _ (by decide) (bys_new w 5 [1, 2, 3]) (by intro x hx; simp at hx; omega) (by decide) (hT.below (bal (Below.refl _ _) _)) (by decide +kernel) ex3).mono
    fun _ _ ⟨A', c', h1, h2, h3, h4⟩ => ⟨A', c', h1, h2, h3, stepB (bal (Below.refl _ _) _) h4⟩
theorem aw5 (w : World) : Calls Tryd.prog 33 #[.agg #[.int .u8 0, .int .u8 0], .int .i64 0] w fun e w' => ∃ A c, e = .returned (.tuple #[.slice A 1 c, .int .i64 0]) ∧ Bys w' A [0] ∧ 1 ≤ c ∧ Below w.heap.size w w' :=
  Letters_is 0 0 0 [0] w (cube_of (by decide)) ex4
theorem aw6 (w : World) : Calls Tryd.prog 49 #[.string ⟨#[33, 97]⟩, .int .i64 1] w fun e w' => e = .returned (.tuple #[.agg #[.int .u8 0, .int .u8 1], .int .i64 0]) ∧ Below w.heap.size w w' := by
  have := Parse_any ⟨#[33, 97]⟩ 1 w (by decide)
  rw [show (⟨#[33, 97]⟩ : ByteArray).data.toList = [33, 97] from rfl, ex5] at this
  exact this
theorem aw7 (w : World) : Calls Tryd.prog 49 #[.string ⟨#[98, 97]⟩, .int .i64 2] w fun e w' => e = .returned (.tuple #[.agg #[.int .u8 0, .int .u8 0], .int .i64 2]) ∧ Below w.heap.size w w' := by
  have := Parse_any ⟨#[98, 97]⟩ 2 w (by decide)
  rw [show (⟨#[98, 97]⟩ : ByteArray).data.toList = [98, 97] from rfl, ex6] at this
  exact this
theorem equalLit (A : Option Addr) (c : Nat) (l : List Nat) (W : World) (h : Bys W A l) (hl : l.length ≤ maxLen) :
    Calls Tryd.prog 38 #[.slice A l.length c, .slice (some ⟨W.heap.size, 0, none⟩) l.length l.length] (W.alloc (.cells (bvs l).toArray 5)) fun e w' => e = .returned (.bool true) ∧ Below W.heap.size W w' := by
  have h1 := bal (Below.refl _ W) (.cells (bvs l).toArray 5)
  have := EqualBytes_any A (some ⟨W.heap.size, 0, none⟩) l l c l.length _ (h.below h1) (bys_new W 5 l) hl
  rw [decide_eq_true rfl] at this
  exact this.mono fun e w' ⟨h2, n, h3⟩ => ⟨h2, by rw [h3]; exact stepB h1 (drewN_below _ _)⟩
theorem sameLit (A : Option Addr) (c : Nat) (l : List (Nat × Nat)) (W : World) (h : Cubs W A l) (hl : l.length ≤ 1000000) :
    Calls Tryd.prog 48 #[.slice A l.length c, .slice (some ⟨W.heap.size, 0, none⟩) l.length l.length] (W.alloc (.cells (cvs l).toArray 42)) fun e w' => e = .returned (.bool true) ∧ Below W.heap.size W w' := by
  have h1 := bal (Below.refl _ W) (.cells (cvs l).toArray 42)
  have := refSame_any A (some ⟨W.heap.size, 0, none⟩) l l c l.length _ (h.below h1) (cubs_new W 42 l) hl
  rw [decide_eq_true rfl] at this
  exact this.mono fun e w' ⟨h2, n, h3⟩ => ⟨h2, by rw [h3]; exact stepB h1 (drewN_below _ _)⟩
set_option maxHeartbeats 2000000 in
theorem awake_any (w : World) (hT : HavT w) :
    Calls Tryd.prog 40 #[] w fun e w' => e = .returned (.bool true) ∧ Below w.heap.size w w' := by
  go_enter Tryd.func40, Tryd.ntmps40
  go_wp2_with fail
  refine (aw1 _).mono ?_
  rintro e w1 ⟨A1, c1, rfl, h1, l1, hb1⟩
  go_wp2_with fail
  refine (aw2 _).mono ?_
  rintro e w2 ⟨rfl, hb2⟩
  have h2 := h1.below hb2
  have k2 := stepB hb1 hb2
  clear h1 hb1 hb2
  go_wp2_with fail
  refine (aw3 _).mono ?_
  rintro e w3 ⟨rfl, hb3⟩
  have h3 := (h2.below hb3).below (bal (Below.refl _ _) (.cells #[.int .u8 0, .int .u8 0] 42))
  have k3 := bal (stepB k2 hb3) (.cells #[.int .u8 0, .int .u8 0] 42)
  clear h2 hb3 k2
  have H4 := aw4 (w3.alloc (.cells #[.int .u8 0, .int .u8 0] 42)) (hT.below k3)
  rw [World.size_alloc] at H4
  go_wp2_with fail
  refine H4.mono ?_
  rintro e w4 ⟨A4, c4, rfl, g4, l4, hb4⟩
  have hb4' : Below (w3.alloc (.cells #[.int .u8 0, .int .u8 0] 42)).heap.size (w3.alloc (.cells #[.int .u8 0, .int .u8 0] 42)) w4 := by rw [World.size_alloc]; exact hb4
  have h4 := h3.below hb4'
  have k4 := stepB k3 hb4'
  clear h3 hb4 hb4' k3 H4
  go_wp2_with fail
  refine (aw5 _).mono ?_
  rintro e w5 ⟨A5, c5, rfl, f5, l5, hb5⟩
  have h5 := h4.below hb5
  have g5 := g4.below hb5
  have k5 := stepB k4 hb5
  clear h4 g4 hb5 k4
  go_wp2_with fail
  refine (aw6 _).mono ?_
  rintro e w6 ⟨rfl, hb6⟩
  have b6 := Box2.new w6 42 (.int .u8 0) (.int .u8 1)
  have n6 := bal (Below.refl _ w6) (.cells #[.int .u8 0, .int .u8 1] 42)
  have h6 := (h5.below hb6).below n6
  have g6 := (g5.below hb6).below n6
  have f6 := (f5.below hb6).below n6
  have k6 := stepB (stepB k5 hb6) n6
  clear h5 g5 f5 hb6 k5 n6
  go_wp2_with fail
  refine (aw7 _).mono ?_
  rintro e w7 ⟨rfl, hb7⟩
  have n7 := bal (Below.refl _ w7) (.cells #[.int .u8 0, .int .u8 0] 42)
  have b7 := (b6.below hb7).alloc (.cells #[.int .u8 0, .int .u8 0] 42)
  have h7 := (h6.below hb7).below n7
  have g7 := (g6.below hb7).below n7
  have f7 := (f6.below hb7).below n7
  have k7 := stepB (stepB k6 hb7) n7
  clear h6 g6 f6 hb7 k6 n7 b6
  have E1 := equalLit A1 c1 [1, 3] (w7.alloc (.cells #[.int .u8 0, .int .u8 0] 42)) h7 (by decide)
  rw [World.size_alloc] at E1
  go_wp2_with fail
  refine E1.mono ?_
  rintro e w8 ⟨rfl, hb8⟩
  have hb8' : Below (w7.alloc (.cells #[.int .u8 0, .int .u8 0] 42)).heap.size (w7.alloc (.cells #[.int .u8 0, .int .u8 0] 42)) w8 := by rw [World.size_alloc]; exact hb8
  have g8 := g7.below hb8'
  have f8 := f7.below hb8'
  have b8 := b7.below hb8'
  have k8 := stepB k7 hb8'
  clear hb8 hb8' h7 g7 f7 b7 k7 E1
  go_wp2_with fail
  refine (sameLit A4 c4 [(1, 0), (2, 0)] w8 g8 (by decide)).mono ?_
  rintro e w9 ⟨rfl, hb9⟩
  have f9 := f8.below hb9
  have b9 := b8.below hb9
  have k9 := stepB k8 hb9
  clear g8 f8 b8 k8 hb9
  go_wp2_with fail
  refine (equalLit A5 c5 [0] w9 f9 (by decide)).mono ?_
  rintro e w10 ⟨rfl, hb10⟩
  have b10 := b9.below hb10
  have k10 := stepB k9 hb10
  have x0 := b10.c0
  have x1 := b10.c1
  clear f9 b9 k9 hb10
  go_wp2
  go_ret
  exact ⟨rfl, k10⟩
end Go.Proofs.YtjjdhegkcilaiaaDoor
