/- ToNFA (package subset). -/
import Derived.Test.YteckkbjpeckjmaaDoorKM
namespace Go.Proofs.YteckkbjpeckjmaaDoor.Sb
open Go Go.RowKit Go.Proofs.YteckkbjpeckjmaaDoor Go.Proofs.YteckkbjpeckjmaaDoor.Cb
open Go.Proofs.YteckkbjpeckjmaaDoor.Nf (info_int6 Na Ed ed Blk Blk.new Blk.below Blk.cells OwnN zvs ev evs evs_snoc info_edge drew_below store5 put5 EdOk)
open Go.Proofs.YteckkbjpeckjmaaDoor.Dg (Tabs tb tb_mem)
set_option linter.unusedVariables false
set_option linter.unusedSimpArgs false
set_option maxRecDepth 100000
/-- The result so far: finals fs, edges es. -/
structure ToL (w wL : World) (g3 : Nat) (V S : Int) (st : Value) (fs : List Int) (es : List Ed) (A3 : Option Addr) (c3 : Nat) (A4 : Option Addr) (c4 : Nat) (X : World) : Prop where
  n : Blk X g3 (.int .i64 V) (.int .i64 S) st (.slice A3 fs.length c3) (.slice A4 es.length c4)
  f : X.ownsRow wL.heap.size 3 1 (.slice A3 fs.length c3) fs.length (zvs fs)
  e : X.ownsRow wL.heap.size 30 4 (.slice A4 es.length c4) es.length (evs es)
  fr : wL.heap.size ≤ X.heap.size ∧ ∀ b, b < wL.heap.size → b ≠ g3 → X.heap[b]? = wL.heap[b]?
  b : Below w.heap.size w X
  lo : w.heap.size ≤ g3 ∧ g3 < wL.heap.size ∧ w.heap.size ≤ wL.heap.size
theorem ToL.below {w wL : World} {g3 : Nat} {V S : Int} {st : Value} {fs : List Int} {es : List Ed} {A3 : Option Addr} {c3 : Nat} {A4 : Option Addr} {c4 : Nat} {X Y : World} (h : ToL w wL g3 V S st fs es A3 c3 A4 c4 X) (hb : Below X.heap.size X Y) : ToL w wL g3 V S st fs es A3 c3 A4 c4 Y :=
  ⟨h.n.below hb, h.f.below hb, h.e.below hb, ⟨Nat.le_trans h.fr.1 hb.size, fun b h1 h2 => (hb.block b (by have := h.fr.1; omega)).trans (h.fr.2 b h1 h2)⟩, stepB h.b hb, h.lo⟩
theorem zvs_snoc (l : List Int) (z : Int) : zvs (l ++ [z]) = zvs l ++ [.int .i64 z] := by simp [zvs]
theorem ToL.fin {w wL : World} {g3 : Nat} {V S : Int} {st : Value} {fs : List Int} {es : List Ed} {A3 A5 : Option Addr} {c3 c5 : Nat} {A4 : Option Addr} {c4 : Nat} {X Z : World} {tmp : Obj} {z : Int} (h : ToL w wL g3 V S st fs es A3 c3 A4 c4 X)
    (ho : Z.ownsRow wL.heap.size 3 1 (.slice A5 (fs.length + 1) c5) (fs.length + 1) (zvs fs ++ [.int .i64 z])) (hg : (X.alloc tmp).grownBy Z (Value.slice A3 fs.length c3).ownBlock) :
    Blk Z g3 (.int .i64 V) (.int .i64 S) st (.slice A3 fs.length c3) (.slice A4 es.length c4) ∧ ToL w wL g3 V S st (fs ++ [z]) es A5 c5 A4 c4 (Z.setCell ⟨g3, 3, none⟩ (.slice A5 (fs.length + 1) c5)) := by
  have hd := h.n
  have hlt := blk_lt hd
  have hfr := h.fr
  have hlo := h.lo
  have hX := hg.size
  simp at hX
  have hZ : Blk Z g3 (.int .i64 V) (.int .i64 S) st (.slice A3 fs.length c3) (.slice A4 es.length c4) := ((hg.block g3 (by simp; omega) (fun e => own_ne hd h.f (by decide) e.symm)).trans (Below.heap_alloc X tmp _ hlt)).trans hd
  have heZ := (h.e.alloc tmp).kept hg (row_ne (h.e.alloc tmp) (h.f.alloc tmp) (by decide))
  have hl1 : (fs ++ [z]).length = fs.length + 1 := by simp
  refine ⟨hZ, ?_, ?_, row_put heZ (own_ne hZ heZ (by decide)) _ _, ⟨by rw [size_put]; omega, fun b hb hb1 => ?_⟩, ?_, hlo⟩
  · rw [hl1]; exact hZ.set3 _
  · rw [hl1, zvs_snoc]
    exact row_put ho (own_ne hZ ho (by decide)) _ _
  · rw [Below.heap_setCell _ _ _ _ hb1]
    exact ((hg.block b (by simp; omega) (fun e => by have := own_lt h.f e.symm; omega)).trans (Below.heap_alloc X tmp b (by omega))).trans (hfr.2 b hb hb1)
  · exact ((h.b.alloc (by omega) tmp).grown hg (by simp; omega) (fun q hq => by have := own_lt h.f hq; omega)).setCell (p := ⟨g3, 3, none⟩) hlo.1 _
theorem ToL.edge {w wL : World} {g3 : Nat} {V S : Int} {st : Value} {fs : List Int} {es : List Ed} {A3 A5 : Option Addr} {c3 c5 : Nat} {A4 : Option Addr} {c4 : Nat} {X Z : World} {tmp : Obj} {x : Ed} (h : ToL w wL g3 V S st fs es A3 c3 A4 c4 X)
    (ho : Z.ownsRow wL.heap.size 30 4 (.slice A5 (es.length + 1) c5) (es.length + 1) (evs es ++ ev x)) (hg : (X.alloc tmp).grownBy Z (Value.slice A4 es.length c4).ownBlock) :
    Blk Z g3 (.int .i64 V) (.int .i64 S) st (.slice A3 fs.length c3) (.slice A4 es.length c4) ∧ ToL w wL g3 V S st fs (es ++ [x]) A3 c3 A5 c5 (Z.setCell ⟨g3, 4, none⟩ (.slice A5 (es.length + 1) c5)) := by
  have hd := h.n
  have hlt := blk_lt hd
  have hfr := h.fr
  have hlo := h.lo
  have hX := hg.size
  simp at hX
  have hZ : Blk Z g3 (.int .i64 V) (.int .i64 S) st (.slice A3 fs.length c3) (.slice A4 es.length c4) := ((hg.block g3 (by simp; omega) (fun e => own_ne hd h.e (by decide) e.symm)).trans (Below.heap_alloc X tmp _ hlt)).trans hd
  have hfZ := (h.f.alloc tmp).kept hg (row_ne (h.f.alloc tmp) (h.e.alloc tmp) (by decide))
  have hl1 : (es ++ [x]).length = es.length + 1 := by simp
  refine ⟨hZ, ?_, row_put hfZ (own_ne hZ hfZ (by decide)) _ _, ?_, ⟨by rw [size_put]; omega, fun b hb hb1 => ?_⟩, ?_, hlo⟩
  · rw [hl1]; exact hZ.set4 _
  · rw [hl1, evs_snoc]
    exact row_put ho (own_ne hZ ho (by decide)) _ _
  · rw [Below.heap_setCell _ _ _ _ hb1]
    exact ((hg.block b (by simp; omega) (fun e => by have := own_lt h.e e.symm; omega)).trans (Below.heap_alloc X tmp b (by omega))).trans (hfr.2 b hb hb1)
  · exact ((h.b.alloc (by omega) tmp).grown hg (by simp; omega) (fun q hq => by have := own_lt h.e hq; omega)).setCell (p := ⟨g3, 4, none⟩) hlo.1 _
theorem and_not : ∀ v : Nat, v < 7 → ∀ x : Nat, x < 64 → x < 2 ^ v → bits BinOp.andNot IntKind.u8 (((2 ^ v : Nat) : Int) - 1) (x : Int) = ((2 ^ v - 1 - x : Nat) : Int) := by decide +kernel
section
variable (d : Da) (A B : Option Addr) (a b : Nat) (w : World) (hx : DaAt w d A B) (hl : DaLen d)
include hx hl
theorem ToNFA_bad (h0 : chkD d ≠ 0) :
    Calls Tryd.prog 23 #[.agg #[.int .i64 d.V, .int .i64 d.q0, .slice A d.nx.length a, .slice B d.fi.length b]] w fun e w' => e = .returned (.tuple #[.agg #[.int .i64 0, .int .i64 0, .slice none 0 0, .slice none 0 0, .slice none 0 0], .int .i64 (chkD d)]) ∧ Below w.heap.size w w' := by
  have hb0 := bal (bal (Below.refl w.heap.size w) (.cells #[.int .i64 d.V, .int .i64 d.q0, .slice A d.nx.length a, .slice B d.fi.length b] 54)) (.cells #[.int .i64 0, .int .i64 0, .slice none 0 0, .slice none 0 0, .slice none 0 0] 26)
  have hN0 := (Blk4.new w (.int .i64 d.V) (.int .i64 d.q0) (.slice A d.nx.length a) (.slice B d.fi.length b)).below (bal (Below.refl _ _) (.cells #[.int .i64 0, .int .i64 0, .slice none 0 0, .slice none 0 0, .slice none 0 0] 26))
  have hR0 := Blk.new (w.alloc (.cells #[.int .i64 d.V, .int .i64 d.q0, .slice A d.nx.length a, .slice B d.fi.length b] 54)) (.int .i64 0) (.int .i64 0) (.slice none 0 0) (.slice none 0 0) (.slice none 0 0)
  rw [World.size_alloc] at hR0
  have HC := Lib.hid fun X (hX : Below w.heap.size w X) => CheckD_any d A B a b X (hx.below hX) hl
  have hne : (chkD d != 0) = true := by rw [bne_iff_ne]; exact h0
  clear hx hl h0
  obtain ⟨z0, z1, z2, z3⟩ := hN0.cells
  generalize chkD d = E at *
  generalize d.nx.length = nn at *
  generalize d.fi.length = nf at *
  go_enter Tryd.func23, Tryd.ntmps23
  go_wp2_with (go_at_call 24; ((with_reducible refine (HC.out _ hb0).mono ?_); rintro e w2 ⟨rfl, hb2⟩); clear z0 z1 z2 z3; replace hR0 := hR0.below hb2; replace hb0 := stepB hb0 hb2; obtain ⟨⟨p0, f0⟩, ⟨p1, f1⟩, ⟨p2, f2⟩, ⟨p3, f3⟩, ⟨p4, f4⟩, hR5, hB5, _⟩ := store5 hR0 (.int .i64 0) (.int .i64 0) (.slice none 0 0) (.slice none 0 0) (.slice none 0 0); have HF := Lib.hid (And.intro hR5.cells (hB5 w.heap.size (by omega))); clear hR5 hB5)
  obtain ⟨⟨y0, y1, y2, y3, y4⟩, hb5'⟩ := HF.out
  have hb5 := hb0.trans hb5'
  unfold put5 at y0 y1 y2 y3 y4 hb5
  refine bodyPost_ret (v := .tuple #[.agg #[.int .i64 0, .int .i64 0, .slice none 0 0, .slice none 0 0, .slice none 0 0], .int .i64 E]) (by simp [results, Tryd.results23, go_sem, y0, y1, y2, y3, y4]) rfl ?_
  exact ⟨rfl, hb5⟩
set_option maxHeartbeats 4000000 in
theorem ToNFA_long (h0 : chkD d = 0) (hbig : 64 < d.nx.length ∨ 512 < d.nx.length * 2 ^ d.V.toNat) :
    Calls Tryd.prog 23 #[.agg #[.int .i64 d.V, .int .i64 d.q0, .slice A d.nx.length a, .slice B d.fi.length b]] w fun e w' => e = .returned (.tuple #[.agg #[.int .i64 0, .int .i64 0, .slice none 0 0, .slice none 0 0, .slice none 0 0], .int .i64 4]) ∧ Below w.heap.size w w' := by
  have hO := okD_of h0
  obtain ⟨v, hv, hv7, hvp, hv64⟩ := pow64 hO
  have hn4 := hO.n4
  have hb0 := bal (bal (Below.refl w.heap.size w) (.cells #[.int .i64 d.V, .int .i64 d.q0, .slice A d.nx.length a, .slice B d.fi.length b] 54)) (.cells #[.int .i64 0, .int .i64 0, .slice none 0 0, .slice none 0 0, .slice none 0 0] 26)
  have hN0 := (Blk4.new w (.int .i64 d.V) (.int .i64 d.q0) (.slice A d.nx.length a) (.slice B d.fi.length b)).below (bal (Below.refl _ _) (.cells #[.int .i64 0, .int .i64 0, .slice none 0 0, .slice none 0 0, .slice none 0 0] 26))
  have hR0 := Blk.new (w.alloc (.cells #[.int .i64 d.V, .int .i64 d.q0, .slice A d.nx.length a, .slice B d.fi.length b] 54)) (.int .i64 0) (.int .i64 0) (.slice none 0 0) (.slice none 0 0) (.slice none 0 0)
  rw [World.size_alloc] at hR0
  have HC := Lib.hid fun X (hX : Below w.heap.size w X) => CheckD_any d A B a b X (hx.below hX) hl
  rw [h0] at HC
  have HLt := Lib.hid fun X => lettersOver_any v X (by omega)
  rw [hvp] at hbig
  rw [hv] at hb0 hN0 hR0 HC ⊢
  have hor : (decide ((64 : Int) < (d.nx.length : Int)) = true ∧ decide (64 < d.nx.length) = true) ∨ (decide ((64 : Int) < (d.nx.length : Int)) = false ∧ decide (64 < d.nx.length) = false ∧ d.nx.length ≤ 64 ∧ 512 < d.nx.length * 2 ^ v) := by
    by_cases h : 64 < d.nx.length
    · exact .inl ⟨decide_eq_true (by omega), decide_eq_true h⟩
    · exact .inr ⟨decide_eq_false (by omega), decide_eq_false h, by omega, by omega⟩
  clear hx hl h0 hO hbig hvp hv
  generalize 2 ^ v = K at *
  generalize d.nx.length = nn at *
  generalize d.fi.length = nf at *
  obtain ⟨z0, z1, z2, z3⟩ := hN0.cells
  rcases hor with ⟨c1, c2⟩ | ⟨c1, c2, c3, c4⟩
  · go_enter Tryd.func23, Tryd.ntmps23
    go_wp2_with (go_at_call 24; ((with_reducible refine (HC.out _ hb0).mono ?_); rintro e w2 ⟨rfl, hb2⟩); clear z0 z1 z2 z3; replace hR0 := hR0.below hb2; replace hN0 := hN0.below hb2; replace hb0 := stepB hb0 hb2; obtain ⟨z0, z1, z2, z3⟩ := hN0.cells)
    have HSt := fun n => store5 (hR0.below (Ap.drewN_below w2 n)) (.int .i64 0) (.int .i64 0) (.slice none 0 0) (.slice none 0 0) (.slice none 0 0)
    have p0 := fun n => (HSt n).1.1
    have f0 := fun n => (HSt n).1.2
    have p1 := fun n => (HSt n).2.1.1
    have f1 := fun n => (HSt n).2.1.2
    have p2 := fun n => (HSt n).2.2.1.1
    have f2 := fun n => (HSt n).2.2.1.2
    have p3 := fun n => (HSt n).2.2.2.1.1
    have f3 := fun n => (HSt n).2.2.2.1.2
    have p4 := fun n => (HSt n).2.2.2.2.1.1
    have f4 := fun n => (HSt n).2.2.2.2.1.2
    have HF := Lib.hid fun n => And.intro (HSt n).2.2.2.2.2.1.cells ((HSt n).2.2.2.2.2.2.1 w.heap.size (by omega))
    clear HSt
    go_quiet (first | (go_at_call 60; exact ((HLt.out _).mono (by rintro e w' ⟨rfl, rfl⟩; exact ⟨rfl, _, rfl⟩))))
    go_wp2
    obtain ⟨⟨y0, y1, y2, y3, y4⟩, hb5'⟩ := HF.out nq
    have hb5 := (stepB hb0 (Ap.drewN_below w2 _)).trans hb5'
    unfold put5 at y0 y1 y2 y3 y4 hb5
    refine bodyPost_ret (v := .tuple #[.agg #[.int .i64 0, .int .i64 0, .slice none 0 0, .slice none 0 0, .slice none 0 0], .int .i64 4]) (by simp [results, Tryd.results23, go_sem, y0, y1, y2, y3, y4]) rfl ?_
    exact ⟨rfl, hb5⟩
  · have hmul : (nn : Int) * (K : Int) = ((nn * K : Nat) : Int) := by rw [Int.natCast_mul]
    have hP : nn * K ≤ 64 * 64 := Nat.mul_le_mul c3 hv64
    generalize nn * K = P at *
    have hd5 : decide ((512 : Int) < (P : Int)) = true := decide_eq_true (by omega)
    have hd6 : decide (512 < P) = true := decide_eq_true (by omega)
    go_enter Tryd.func23, Tryd.ntmps23
    go_wp2_with (go_at_call 24; ((with_reducible refine (HC.out _ hb0).mono ?_); rintro e w2 ⟨rfl, hb2⟩); clear z0 z1 z2 z3; replace hR0 := hR0.below hb2; replace hN0 := hN0.below hb2; replace hb0 := stepB hb0 hb2; obtain ⟨z0, z1, z2, z3⟩ := hN0.cells)
    have HSt := fun n => store5 (hR0.below (Ap.drewN_below w2 n)) (.int .i64 0) (.int .i64 0) (.slice none 0 0) (.slice none 0 0) (.slice none 0 0)
    have p0 := fun n => (HSt n).1.1
    have f0 := fun n => (HSt n).1.2
    have p1 := fun n => (HSt n).2.1.1
    have f1 := fun n => (HSt n).2.1.2
    have p2 := fun n => (HSt n).2.2.1.1
    have f2 := fun n => (HSt n).2.2.1.2
    have p3 := fun n => (HSt n).2.2.2.1.1
    have f3 := fun n => (HSt n).2.2.2.1.2
    have p4 := fun n => (HSt n).2.2.2.2.1.1
    have f4 := fun n => (HSt n).2.2.2.2.1.2
    have HF := Lib.hid fun n => And.intro (HSt n).2.2.2.2.2.1.cells ((HSt n).2.2.2.2.2.2.1 w.heap.size (by omega))
    clear HSt
    go_quiet (first | (go_at_call 60; exact ((HLt.out _).mono (by rintro e w' ⟨rfl, rfl⟩; exact ⟨rfl, _, rfl⟩))))
    go_wp2
    obtain ⟨⟨y0, y1, y2, y3, y4⟩, hb5'⟩ := HF.out nq
    have hb5 := (stepB hb0 (Ap.drewN_below w2 _)).trans hb5'
    unfold put5 at y0 y1 y2 y3 y4 hb5
    refine bodyPost_ret (v := .tuple #[.agg #[.int .i64 0, .int .i64 0, .slice none 0 0, .slice none 0 0, .slice none 0 0], .int .i64 4]) (by simp [results, Tryd.results23, go_sem, y0, y1, y2, y3, y4]) rfl ?_
    exact ⟨rfl, hb5⟩
end
theorem toN_at {d : Da} (hO : OkD d) (h64 : d.nx.length ≤ 64) (h512 : d.nx.length * 2 ^ d.V.toNat ≤ 512) {X : World} {B1 : Nat} {A' B' C' : Option Addr} {a' b' c' : Nat} (h : OwnN B1 X (toN d) A' B' C' a' b' c') : Nf.NaAt X (toN d) A' B' C' := by
  refine h.at_ ?_ ?_ fun x hx => ?_
  · have := hO.v0; have := hO.v6
    show _ ≤ d.V ∧ d.V ≤ _
    omega
  · show _ ≤ (d.nx.length : Int) ∧ (d.nx.length : Int) ≤ _
    omega
  · obtain ⟨s, y, hs, hy, rfl⟩ := mem_edsT.1 hx
    obtain ⟨v, hv, hv7, hvp, hv64⟩ := pow64 hO
    have h1 := nd_row hO hs hy
    rw [(hO.row _ (tb_mem hs)).1, hvp] at hy
    refine ⟨?_, ?_, ?_, ?_⟩
    · show _ ≤ (s : Int) ∧ (s : Int) ≤ _
      omega
    · show _ ≤ nd (tb d.nx s) y ∧ nd (tb d.nx s) y ≤ _
      omega
    · show y < 256
      omega
    · show 2 ^ d.V.toNat - 1 - y < 256
      omega
theorem start_own {w X : World} {g : Nat} {q : Int} (hg : w.heap.size ≤ g) (h : X.heap[g]? = some (.cells #[.int .i64 q] 3 (0, 0))) : X.ownsRow w.heap.size 3 1 (.slice (some ⟨g, 0, none⟩) 1 1) 1 (zvs [q]) :=
  ⟨rfl, .inr ⟨g, 1, _, rfl, hg, h, Nat.le_refl _, by unfold maxLen; omega, rfl, rfl⟩⟩
section
variable (d : Da) (A B : Option Addr) (a b : Nat) (w : World) (hx : DaAt w d A B) (hl : DaLen d)
include hx hl
set_option maxHeartbeats 8000000 in
theorem ToNFA_good (h0 : chkD d = 0) (h64 : d.nx.length ≤ 64) (h512 : d.nx.length * 2 ^ d.V.toNat ≤ 512) :
    Calls Tryd.prog 23 #[.agg #[.int .i64 d.V, .int .i64 d.q0, .slice A d.nx.length a, .slice B d.fi.length b]] w fun e w' => ∃ A' B' C' a' b' c', e = .returned (.tuple #[.agg #[.int .i64 d.V, .int .i64 d.nx.length, .slice A' 1 a', .slice B' (finT d d.nx.length).length b', .slice C' (edsT d d.nx.length).length c'], .int .i64 0]) ∧ OwnN w.heap.size w' (toN d) A' B' C' a' b' c' ∧ Below w.heap.size w w' := by
  have hO := okD_of h0
  obtain ⟨v, hv, hv7, hvp, hv64⟩ := pow64 hO
  have hb0 := bal (bal (Below.refl w.heap.size w) (.cells #[.int .i64 d.V, .int .i64 d.q0, .slice A d.nx.length a, .slice B d.fi.length b] 54)) (.cells #[.int .i64 0, .int .i64 0, .slice none 0 0, .slice none 0 0, .slice none 0 0] 26)
  have hN0 := (Blk4.new w (.int .i64 d.V) (.int .i64 d.q0) (.slice A d.nx.length a) (.slice B d.fi.length b)).below (bal (Below.refl _ _) (.cells #[.int .i64 0, .int .i64 0, .slice none 0 0, .slice none 0 0, .slice none 0 0] 26))
  have hR0 := Blk.new (w.alloc (.cells #[.int .i64 d.V, .int .i64 d.q0, .slice A d.nx.length a, .slice B d.fi.length b] 54)) (.int .i64 0) (.int .i64 0) (.slice none 0 0) (.slice none 0 0) (.slice none 0 0)
  rw [World.size_alloc] at hR0
  have HC := Lib.hid fun X (hX : Below w.heap.size w X) => CheckD_any d A B a b X (hx.below hX) hl
  rw [h0] at HC
  have HLt := Lib.hid fun X => lettersOver_any v X (by omega)
  have hTab := hx.nx
  have hFin := hx.fi
  have hrow : ∀ k, k < d.nx.length → (tb d.nx k).length = 2 ^ v := fun k hk => by rw [(hO.row _ (tb_mem hk)).1, hvp]
  have hel : ∀ k, k ≤ d.nx.length → (edsT d k).length = k * 2 ^ v := fun k hk => by rw [edsT_len hO k hk, hvp]
  rw [hvp] at h512
  have hK1 : 1 ≤ 2 ^ v := Nat.one_le_two_pow
  have hand : ∀ x : Nat, x < 2 ^ v → bits BinOp.andNot IntKind.u8 (((2 ^ v : Nat) : Int) - 1) (x : Int) = ((2 ^ v - 1 - x : Nat) : Int) := fun x hx => and_not v hv7 x (by omega) hx
  have hfl : d.fi.length = d.nx.length := hO.fi
  have hs1 := finT_succ d
  have hs2 := edsT_succ d
  have hfz : finT d 0 = [] := rfl
  have hez : edsT d 0 = [] := rfl
  have hq0 := hO.q0
  have HRes : Hid (∀ X A' B' C' a' b' c', X.ownsRow w.heap.size 3 1 (.slice A' 1 a') 1 (zvs [d.q0]) → X.ownsRow w.heap.size 3 1 (.slice B' (finT d d.nx.length).length b') (finT d d.nx.length).length (zvs (finT d d.nx.length)) → X.ownsRow w.heap.size 30 4 (.slice C' (edsT d d.nx.length).length c') (edsT d d.nx.length).length (evs (edsT d d.nx.length)) → OwnN w.heap.size X (toN d) A' B' C' a' b' c') := fun X A' B' C' a' b' c' h1 h2 h3 => ⟨h1, h2, h3⟩
  have hnn : (d.nx.length : Int) * ((2 ^ v : Nat) : Int) = ((d.nx.length * 2 ^ v : Nat) : Int) := by rw [Int.natCast_mul]
  have hd1 : decide ((64 : Int) < (d.nx.length : Int)) = false := decide_eq_false (by omega)
  have hd2 : decide (64 < d.nx.length) = false := decide_eq_false (by omega)
  have HD := Lib.hid hx.nx
  have HFi := Lib.hid hx.fi
  have HOut := Lib.hid (And.intro hrow (And.intro hel (And.intro hand (And.intro hs1 (And.intro hs2 (And.intro hfz hez))))))
  have HV := Lib.hid hv
  have HFL := Lib.hid hfl
  clear hfl
  rw [hv] at hb0 hN0 hR0 HC ⊢
  clear hx hl h0 hO hTab hFin hrow hel hand hs1 hs2 hfz hez hvp hv
  generalize hP : d.nx.length * 2 ^ v = P at *
  have hd5 : decide ((512 : Int) < (P : Int)) = false := decide_eq_false (by omega)
  have hd6 : decide (512 < P) = false := decide_eq_false (by omega)
  have HP := Lib.hid hP
  clear hP
  generalize hKK : 2 ^ v = K at *
  have HKK := Lib.hid hKK
  clear hKK
  generalize hNN : d.nx.length = nn at *
  have HNN := Lib.hid hNN
  clear hNN
  generalize hNF : d.fi.length = nf at *
  have HNF := Lib.hid hNF
  clear hNF
  obtain ⟨z0, z1, z2, z3⟩ := hN0.cells
  go_enter Tryd.func23, Tryd.ntmps23
  go_wp2_with (go_at_call 24; ((with_reducible refine (HC.out _ hb0).mono ?_); rintro e w2 ⟨rfl, hb2⟩); clear z0 z1 z2 z3; replace hR0 := hR0.below hb2; replace hN0 := hN0.below hb2; replace hb0 := stepB hb0 hb2; obtain ⟨z0, z1, z2, z3⟩ := hN0.cells)
  go_quiet (first | (go_at_call 60; exact ((HLt.out _).mono (by rintro e w' ⟨rfl, rfl⟩; exact ⟨rfl, _, rfl⟩))))
  replace hN0 := hN0.below (Ap.drewN_below w2 nq)
  replace hR0 := hR0.below (Ap.drewN_below w2 nq)
  replace hb0 := stepB hb0 (Ap.drewN_below w2 nq)
  clear z0 z1 z2 z3 hb2
  generalize w2.drewN nq = w5 at *
  obtain ⟨z0, z1, z2, z3⟩ := hN0.cells
  have hbA := bal (bal (Below.refl w5.heap.size w5) (.cells #[.int .i64 d.q0] 3)) (.cells #[.int .i64 v, .int .i64 nn, .slice (some ⟨w5.heap.size, 0, none⟩) 1 1, .slice none 0 0, .slice none 0 0] 26)
  have hG := Blk.new (w5.alloc (.cells #[.int .i64 d.q0] 3)) (.int .i64 v) (.int .i64 nn) (.slice (some ⟨w5.heap.size, 0, none⟩) 1 1) (.slice none 0 0) (.slice none 0 0)
  have hS := (Below.heap_alloc (w5.alloc (.cells #[.int .i64 d.q0] 3)) (.cells #[.int .i64 v, .int .i64 nn, .slice (some ⟨w5.heap.size, 0, none⟩) 1 1, .slice none 0 0, .slice none 0 0] 26) w5.heap.size (by simp)).trans (World.alloc_heap_new w5 (.cells #[.int .i64 d.q0] 3))
  rw [World.size_alloc] at hG
  have hszL : ((w5.alloc (.cells #[.int .i64 d.q0] 3)).alloc (.cells #[.int .i64 v, .int .i64 nn, .slice (some ⟨w5.heap.size, 0, none⟩) 1 1, .slice none 0 0, .slice none 0 0] 26)).heap.size = w5.heap.size + 2 := by simp
  go_upto_region 9 with fail
  clear z0 z1 z2 z3
  have hNL := hN0.below hbA
  have hRL := hR0.below hbA
  have hbL := stepB hb0 hbA
  have hw5 := hb0.size
  have hw6 := blk_lt hR0
  clear hbA hN0 hR0 hb0
  generalize ((w5.alloc (.cells #[.int .i64 d.q0] 3)).alloc (.cells #[.int .i64 v, .int .i64 nn, .slice (some ⟨w5.heap.size, 0, none⟩) 1 1, .slice none 0 0, .slice none 0 0] 26)) = wL at *
  generalize w5.heap.size = g2 at *
  obtain ⟨hrow, hel, hand, hs1, hs2, hfz, hez⟩ := HOut.out
  have hL0 : ToL w wL (g2 + 1) v nn (.slice (some ⟨g2, 0, none⟩) 1 1) (finT d 0) (edsT d 0) none 0 none 0 wL := by
    rw [hfz, hez]
    exact ⟨hG, ⟨rfl, .inl ⟨rfl, rfl⟩⟩, ⟨rfl, .inl ⟨rfl, rfl⟩⟩, ⟨Nat.le_refl _, fun b _ _ => rfl⟩, hbL, ⟨by omega, by omega, by omega⟩⟩
  have hltg : w.heap.size < wL.heap.size ∧ w.heap.size + 1 < wL.heap.size ∧ g2 < wL.heap.size ∧ w.heap.size + 1 < g2 + 1 := by
    have := blk_lt hNL
    have := blk_lt hRL
    have := blk_lt hS
    omega
  have HL0 := Lib.hid hL0
  clear hL0
  obtain ⟨i0, hi0, hz0, hz1, hz2⟩ := info_parts info_int6
  obtain ⟨i1, hi1, hy0, hy1, hy2⟩ := info_parts info_edge
  obtain ⟨z0, z1, z2, z3⟩ := hNL.cells
  go_wp2
  clear z0 z1 z2 z3
  go_loopw [47] (fun iv wr => ∃ (k : Nat) (A3 : Option Addr) (c3 : Nat) (A4 : Option Addr) (c4 : Nat), k ≤ nn ∧ iv = .int .i64 k ∧ Hid (ToL w wL (g2 + 1) v nn (.slice (some ⟨g2, 0, none⟩) 1 1) (finT d k) (edsT d k) A3 c3 A4 c4 wr)) (fun iv _ => nn - (intOf iv).toNat)
  case atStart => exact ⟨0, none, 0, none, 0, Nat.zero_le _, rfl, HL0⟩
  case round =>
    obtain ⟨k, A3, c3, A4, c4, hk, rfl, hT⟩ := hrel
    by_cases hlt : k < nn
    · obtain ⟨ad, p, c', rfl, hbk, hcell, hi⟩ := HD.out k (by rw [HNN.out]; exact hlt)
      rw [hrow k hlt] at hcell
      have hb := hT.out.b
      have hfr := hT.out.fr.1
      have hNX : Blk4 wr w.heap.size (.int .i64 v) (.int .i64 d.q0) (.slice (some ad) nn a) (.slice B nf b) := (hT.out.fr.2 _ hltg.1 (by omega)).trans hNL
      obtain ⟨z0, z1, z2, z3⟩ := hNX.cells
      have hcX := (hb.cell (p := ad.add k) (by rw [addr_block]; exact hbk)).trans hcell
      have hlt2 : (k : Int) < (nn : Int) := by omega
      have hlt3 : (k : Int) < (nf : Int) := by have := HFL.out; omega
      obtain ⟨bd, rfl, hfc⟩ := Vals.at_ (HFi.out.below hb) (show k < d.fi.length by rw [HNF.out, HFL.out]; exact hlt)
      have hml : (finT d k).length ≤ 64 := by have := finT_len d k; omega
      obtain ⟨x0, x1, x2, x3, x4⟩ := hT.out.n.cells
      have hsT := hs1 k
      generalize hfk : d.fi.getD k false = fb at *
      have HFk := Lib.hid hfk
      clear hfk
      go_upto_if 56 with fail
      clear hcX z0 z1 z2 z3 hfc
      go_cut [] from 57 to 62 (fun wx => ∃ A5 c5, Hid (ToL w wL (g2 + 1) v nn (.slice (some ⟨g2, 0, none⟩) 1 1) (finT d (k + 1)) (edsT d k) A5 c5 A4 c4 wx))
      case first =>
        clear HD HFi HRes HOut
        cases fb with
        | true =>
          rw [if_pos rfl] at hsT
          have HST : Hid (finT d (k + 1) = finT d k ++ [(k : Int)]) := hsT
          clear hsT hrow hel hand hs1 hs2 hfz hez hi hcell hbk
          go_wp2_with (at_builtin; (refine wpList_append_own_at _ rfl _ _ 23 rfl wL.heap.size 3 i0 (.int .i64 0) 1 8 Tryd.underlying23 hi0 hz0 hz1 hz2 rfl (by decide) _ (finT d k).length _ rfl (hT.out.f.alloc _) ⟨wr.heap.size, 0, none⟩ 1 1 [.int .i64 k] rfl rfl (cell_one_new _ _ _) (by simp [Value.oneCell']) (by unfold maxLen; omega) (by omega) (by simp; omega) ?_; intro v' w6 hown' hgrow _ hb6; obtain ⟨A5, c5, rfl, _⟩ := Ap.own_form hown'; obtain ⟨hblk, hT6⟩ := hT.out.fin hown' hgrow; have HT6 := Lib.hid hT6; have y3 := hblk.cells.2.2.2.1; have f3 := free_of hblk 3; clear hT6 hown' hgrow hb6 hblk))
          go_meet
          exact ⟨A5, c5, by show ToL _ _ _ _ _ _ _ _ _ _ _ _ _; rw [HST.out]; exact HT6.out⟩
        | false =>
          rw [if_neg (by decide), List.append_nil] at hsT
          have HST : Hid (finT d (k + 1) = finT d k) := hsT
          clear hsT hrow hel hand hs1 hs2 hfz hez hi hcell hbk
          go_wp2
          go_meet
          exact ⟨A3, c3, by show ToL _ _ _ _ _ _ _ _ _ _ _ _ _; rw [HST.out]; exact hT.out⟩
      case rest =>
        obtain ⟨A5, c5, hT5⟩ := hcut
        clear hT hNX x0 x1 x2 x3 x4 hsT hml hb HFk
        have HI : Hid (∀ X, Below w.heap.size w X → ∀ j, j < K → ∃ pd, p = some pd ∧ X.cell? (pd.add j) = some (.int .i64 (nd (tb d.nx k) j))) := fun X hX j hj => (Vals.below hi hX).at_ (by rw [hrow k hlt]; exact hj)
        have hel0 : edsT d k = edsT d k ++ rowT v k (tb d.nx k) 0 := by simp [rowT]
        have hT0 : Hid (ToL w wL (g2 + 1) v nn (.slice (some ⟨g2, 0, none⟩) 1 1) (finT d (k + 1)) (edsT d k ++ rowT v k (tb d.nx k) 0) A5 c5 A4 c4 wc) := by
          rw [← hel0]; exact hT5
        have hkK : (edsT d k).length + K ≤ 512 := by
          have h1 := hel (k + 1) (by omega)
          have h2 := hel k (by omega)
          have h3 : (k + 1) * K ≤ nn * K := Nat.mul_le_mul_right _ (by omega)
          have h4 := HP.out
          rw [Nat.add_mul] at h1 h3
          omega
        clear hT5 hel0 hcell hbk hi
        go_wp2
        go_loopw [65] (fun jv wr => ∃ (j : Nat) (A4 : Option Addr) (c4 : Nat), j ≤ K ∧ jv = .int .i64 j ∧ Hid (ToL w wL (g2 + 1) v nn (.slice (some ⟨g2, 0, none⟩) 1 1) (finT d (k + 1)) (edsT d k ++ rowT v k (tb d.nx k) j) A5 c5 A4 c4 wr)) (fun jv _ => K - (intOf jv).toNat)
        case atStart => exact ⟨0, A4, c4, Nat.zero_le _, rfl, hT0⟩
        case round =>
          clear hT0
          obtain ⟨j, A6, c6, hj, rfl, hT⟩ := hrel
          by_cases hjt : j < K
          · have hb := hT.out.b
            have hfr := hT.out.fr.1
            obtain ⟨pd, rfl, hce⟩ := HI.out _ hb j hjt
            have hjt2 : (j : Int) < (K : Int) := by omega
            have hrs := rowT_succ v k (tb d.nx k) j
            have hrl := rowT_len v k (tb d.nx k) j
            have hES : (edsT d k ++ rowT v k (tb d.nx k) j).length ≤ 512 := by rw [List.length_append, hrl]; omega
            obtain ⟨x0, x1, x2, x3, x4⟩ := hT.out.n.cells
            generalize (nd (tb d.nx k) j) = t at *
            have hbit := hand j hjt
            have HEV : Hid (ev (edT v k j t) = [.int .i64 k, .int .i64 t, .int .u8 j, .int .u8 ((K - 1 - j : Nat) : Int)]) := by
              show _ = _
              unfold ev edT
              rw [Int.toNat_natCast, HKK.out]
            have HRS : Hid (edsT d k ++ rowT v k (tb d.nx k) (j + 1) = edsT d k ++ rowT v k (tb d.nx k) j ++ [edT v k j t]) := by
              show _ = _
              rw [hrs, List.append_assoc]
            clear hrs hrl hrow hel hand hs1 hs2 hfz hez
            generalize edsT d k ++ rowT v k (tb d.nx k) j = es at *
            go_wp2_with (at_builtin; (refine wpList_append_own_at _ rfl _ _ 24 rfl wL.heap.size 30 i1 _ 4 24 Tryd.underlying24 hi1 hy0 hy1 hy2 rfl (by decide) _ es.length _ rfl (hT.out.e.alloc _) ⟨wr.heap.size, 0, none⟩ 1 1 [.int .i64 k, .int .i64 t, .int .u8 j, .int .u8 ((K - 1 - j : Nat) : Int)] rfl rfl (fun j u hu => by rw [addr_add, World.cell?_alloc_at _ _ _ _ rfl]; simpa using hu) (by simp [Value.oneCell']) (by unfold maxLen; omega) (by omega) (by simp; omega) ?_; intro v' w6 hown' hgrow _ hb6; obtain ⟨A7, c7, rfl, _⟩ := Ap.own_form hown'; obtain ⟨hblk, hT6⟩ := hT.out.edge (by rw [HEV.out]; exact hown') hgrow; have HT6 := Lib.hid hT6; have y4 := hblk.cells.2.2.2.2; have f4 := free_of hblk 4; clear hT6 hown' hgrow hb6 hblk))
            go_roundw
            case rel => exact ⟨j + 1, A7, c7, by omega, by go_num, by show ToL _ _ _ _ _ _ _ _ _ _ _ _ _; rw [HRS.out]; exact HT6.out⟩
            case measure => simp [intOf]; omega
          · obtain rfl : j = K := by omega
            clear HI hkK
            have HRS : Hid (edsT d (k + 1) = edsT d k ++ rowT v k (tb d.nx k) j) := by
              show _ = _
              rw [hs2, hrow k hlt, HV.out]
            clear hrow hel hand hs1 hs2 hfz hez
            go_wp2
            go_roundw
            case rel => exact ⟨k + 1, A5, c5, A6, c6, by omega, by go_num, by show ToL _ _ _ _ _ _ _ _ _ _ _ _ _; rw [HRS.out]; exact hT.out⟩
            case measure => simp [intOf]; omega
    · obtain rfl : k = nn := by omega
      have hT0 := hT.out
      have hRX : Blk wr (w.heap.size + 1) (.int .i64 0) (.int .i64 0) (.slice none 0 0) (.slice none 0 0) (.slice none 0 0) := (hT0.fr.2 _ hltg.2.1 (by omega)).trans hRL
      have hSX := (hT0.fr.2 _ hltg.2.2.1 (by omega)).trans hS
      obtain ⟨x0, x1, x2, x3, x4⟩ := hT0.n.cells
      obtain ⟨⟨p0, f0⟩, ⟨p1, f1⟩, ⟨p2, f2⟩, ⟨p3, f3⟩, ⟨p4, f4⟩, hR5, hB5, hO5⟩ := store5 hRX (.int .i64 v) (.int .i64 k) (.slice (some ⟨g2, 0, none⟩) 1 1) (.slice A3 (finT d k).length c3) (.slice A4 (edsT d k).length c4)
      have hOw := HRes.out _ _ _ _ _ _ _ (hO5 _ _ _ _ _ _ (start_own (by omega) hSX) (by decide)) (hO5 _ _ _ _ _ _ (ownsRow_mono hT0.f hT0.lo.2.2) (by decide)) (hO5 _ _ _ _ _ _ (ownsRow_mono hT0.e hT0.lo.2.2) (by decide))
      have HF := Lib.hid (And.intro hR5.cells (And.intro hOw (hT0.b.trans (hB5 w.heap.size (by omega)))))
      clear hR5 hB5 hO5 hOw hT hT0 hRX hSX HRes hrow hel hand hs1 hs2 hfz hez HOut
      go_wp2
      obtain ⟨⟨u0, u1, u2, u3, u4⟩, hO, hb5⟩ := HF.out
      unfold put5 at u0 u1 u2 u3 u4 hO hb5
      refine bodyPost_ret (v := .tuple #[.agg #[.int .i64 v, .int .i64 k, .slice (some ⟨g2, 0, none⟩) 1 1, .slice A3 (finT d k).length c3, .slice A4 (edsT d k).length c4], .int .i64 0]) (by simp [results, Tryd.results23, go_sem, u0, u1, u2, u3, u4]) rfl ?_
      exact ⟨_, _, _, _, _, _, rfl, hO, hb5⟩
end
end Go.Proofs.YteckkbjpeckjmaaDoor.Sb
