/- The kit's OverEdges, OverNFA. -/
import Derived.Test.YtlaagjmfgaccjaaDoorKP
namespace Go.Proofs.YtlaagjmfgaccjaaDoor.Sb
open Go Go.RowKit Go.Proofs.YtlaagjmfgaccjaaDoor Go.Proofs.YtlaagjmfgaccjaaDoor.Cb
open Go.Proofs.YtlaagjmfgaccjaaDoor.Nf (Na Ed zvs evs OwnN Blk Blk.new Blk.below Blk.cells)
open Go.Proofs.YtlaagjmfgaccjaaDoor.Dg (CanI)
set_option linter.unusedVariables false
set_option linter.unusedSimpArgs false
set_option maxRecDepth 100000
/-- Each of the n edges at A may be overwritten; they lie in no block below B. -/
def CanE (B : Nat) (w : World) (A : Option Addr) (n : Nat) : Prop :=
  ∀ j, j < n → ∃ ad, A = some ad ∧ B ≤ ad.block ∧ ∀ i, i < 4 → w.frozen? ((ad.add (j * 4)).add i) = false ∧ ∃ u, w.cell? ((ad.add (j * 4)).add i) = some u
theorem CanE.set {B : Nat} {w : World} {A : Option Addr} {n : Nat} (h : CanE B w A n) (p : Addr) (v : Value) : CanE B (w.setCell p v) A n := by
  intro j hj
  obtain ⟨ad, e, h1, h2⟩ := h j hj
  refine ⟨ad, e, h1, fun i hi => ?_⟩
  obtain ⟨h3, u, h4⟩ := h2 i hi
  refine ⟨by rw [World.frozen?_setCell]; exact h3, ?_⟩
  by_cases hp : p = (ad.add (j * 4)).add i
  · subst hp
    exact ⟨v, World.cell?_setCell_same _ _ _ h4⟩
  · exact ⟨u, by rw [World.cell?_setCell_other _ _ _ _ hp]; exact h4⟩
theorem CanE.below {B : Nat} {w Y : World} {A : Option Addr} {n : Nat} (h : CanE B w A n) (hb : Below w.heap.size w Y) : CanE B Y A n := fun j hj => by
  obtain ⟨ad, e, h1, h2⟩ := h j hj
  refine ⟨ad, e, h1, fun i hi => ?_⟩
  obtain ⟨h3, u, h4⟩ := h2 i hi
  exact ⟨by rw [froz_below hb (cell_at h4)]; exact h3, u, (hb.cell (cell_at h4)).trans h4⟩
theorem CanE.own {B : Nat} {w : World} {e : TypeId} {n c : Nat} {A : Option Addr} {xs : List Value} (h : w.ownsRow B e 4 (.slice A n c) n xs) : CanE B w A n := by
  intro j hj
  have hl := h.1
  rcases h.2 with ⟨_, h0⟩ | ⟨g, cap, cur, hv, hg, hb, _, _, _, ht⟩
  · omega
  · have h' := h
    injection hv with hA hB hc
    subst hA hc
    refine ⟨⟨g, 0, none⟩, rfl, hg, fun i hi => ?_⟩
    rw [Ap.addr_add, show ((⟨g, j * 4, none⟩ : Addr).add i) = ⟨g, j * 4 + i, none⟩ by unfold Addr.add; split; simp; rfl]
    have hx : j * 4 + i < xs.length := by omega
    refine ⟨h'.frozenAt (j * 4 + i), xs[j * 4 + i], ?_⟩
    rw [h'.cellAt (j * 4 + i) (by omega), List.getElem?_eq_getElem hx]
set_option maxHeartbeats 4000000 in
theorem OverEdges_keep (K : World → Prop) (B : Nat) (A : Option Addr) (n c : Nat) (w : World) (hn : n ≤ 1000000) (hw : CanE B w A n) (h0 : K w) (hK : ∀ X (p : Addr) v, K X → K (X.setCell p v)) :
    Calls Tryd.prog 80 #[.slice A n c] w fun e w' => e = .returned (.tuple #[]) ∧ Below B w w' ∧ K w' := by
  have HK := Lib.hid hK
  have H0 : Hid (K w) := h0
  clear hK h0
  go_enter Tryd.func80, Tryd.ntmps80
  go_wp2
  go_loopw [2] (fun i wr => ∃ k : Nat, k ≤ n ∧ i = .int .i64 k ∧ CanE B wr A n ∧ Below B w wr ∧ Hid (K wr)) (fun i _ => n - (intOf i).toNat)
  case atStart => exact ⟨0, by omega, rfl, hw, Below.refl _ _, H0⟩
  case round =>
    clear hw H0
    obtain ⟨k, hk, rfl, hw, hb, hKw⟩ := hrel
    by_cases hlt : k < n
    · obtain ⟨ad, e0, g1, _⟩ := hw k hlt
      subst e0
      have k0 : (wr).frozen? (ad.add (k * 4)) = false ∧ ∃ u, (wr).cell? (ad.add (k * 4)) = some u := by obtain ⟨a2, e2, _, g⟩ := hw k hlt; cases e2; exact g 0 (by omega)
      obtain ⟨z0, v0, c0⟩ := k0
      have hw0 := hw.set (ad.add (k * 4)) (.int .i64 (-7))
      have hb0 := hb.setCell (p := (ad.add (k * 4))) (by rw [addr_block]; exact g1) (.int .i64 (-7))
      have hK0 := HK.out _ (ad.add (k * 4)) (.int .i64 (-7)) hKw.out
      have k1 : ((wr).setCell (ad.add (k * 4)) (.int .i64 (-7))).frozen? ⟨(ad.add (k * 4)).block, (ad.add (k * 4)).off + 1, none⟩ = false ∧ ∃ u, ((wr).setCell (ad.add (k * 4)) (.int .i64 (-7))).cell? ⟨(ad.add (k * 4)).block, (ad.add (k * 4)).off + 1, none⟩ = some u := by obtain ⟨a2, e2, _, g⟩ := hw0 k hlt; cases e2; exact g 1 (by omega)
      obtain ⟨z1, v1, c1⟩ := k1
      have hw1 := hw0.set ⟨(ad.add (k * 4)).block, (ad.add (k * 4)).off + 1, none⟩ (.int .i64 0)
      have hb1 := hb0.setCell (p := ⟨(ad.add (k * 4)).block, (ad.add (k * 4)).off + 1, none⟩) (by show B ≤ (ad.add (k * 4)).block; rw [addr_block]; exact g1) (.int .i64 0)
      have hK1 := HK.out _ ⟨(ad.add (k * 4)).block, (ad.add (k * 4)).off + 1, none⟩ (.int .i64 0) hK0
      have k2 : (((wr).setCell (ad.add (k * 4)) (.int .i64 (-7))).setCell ⟨(ad.add (k * 4)).block, (ad.add (k * 4)).off + 1, none⟩ (.int .i64 0)).frozen? ⟨(ad.add (k * 4)).block, (ad.add (k * 4)).off + 2, none⟩ = false ∧ ∃ u, (((wr).setCell (ad.add (k * 4)) (.int .i64 (-7))).setCell ⟨(ad.add (k * 4)).block, (ad.add (k * 4)).off + 1, none⟩ (.int .i64 0)).cell? ⟨(ad.add (k * 4)).block, (ad.add (k * 4)).off + 2, none⟩ = some u := by obtain ⟨a2, e2, _, g⟩ := hw1 k hlt; cases e2; exact g 2 (by omega)
      obtain ⟨z2, v2, c2⟩ := k2
      have hw2 := hw1.set ⟨(ad.add (k * 4)).block, (ad.add (k * 4)).off + 2, none⟩ (.int .u8 0)
      have hb2 := hb1.setCell (p := ⟨(ad.add (k * 4)).block, (ad.add (k * 4)).off + 2, none⟩) (by show B ≤ (ad.add (k * 4)).block; rw [addr_block]; exact g1) (.int .u8 0)
      have hK2 := HK.out _ ⟨(ad.add (k * 4)).block, (ad.add (k * 4)).off + 2, none⟩ (.int .u8 0) hK1
      have k3 : ((((wr).setCell (ad.add (k * 4)) (.int .i64 (-7))).setCell ⟨(ad.add (k * 4)).block, (ad.add (k * 4)).off + 1, none⟩ (.int .i64 0)).setCell ⟨(ad.add (k * 4)).block, (ad.add (k * 4)).off + 2, none⟩ (.int .u8 0)).frozen? ⟨(ad.add (k * 4)).block, (ad.add (k * 4)).off + 3, none⟩ = false ∧ ∃ u, ((((wr).setCell (ad.add (k * 4)) (.int .i64 (-7))).setCell ⟨(ad.add (k * 4)).block, (ad.add (k * 4)).off + 1, none⟩ (.int .i64 0)).setCell ⟨(ad.add (k * 4)).block, (ad.add (k * 4)).off + 2, none⟩ (.int .u8 0)).cell? ⟨(ad.add (k * 4)).block, (ad.add (k * 4)).off + 3, none⟩ = some u := by obtain ⟨a2, e2, _, g⟩ := hw2 k hlt; cases e2; exact g 3 (by omega)
      obtain ⟨z3, v3, c3⟩ := k3
      have hw3 := hw2.set ⟨(ad.add (k * 4)).block, (ad.add (k * 4)).off + 3, none⟩ (.int .u8 0)
      have hb3 := hb2.setCell (p := ⟨(ad.add (k * 4)).block, (ad.add (k * 4)).off + 3, none⟩) (by show B ≤ (ad.add (k * 4)).block; rw [addr_block]; exact g1) (.int .u8 0)
      have hK3 := HK.out _ ⟨(ad.add (k * 4)).block, (ad.add (k * 4)).off + 3, none⟩ (.int .u8 0) hK2
      have HW := Lib.hid hw3
      have HB := Lib.hid hb3
      have HK3 := Lib.hid hK3
      clear hw hb hw0 hw1 hw2 hw3 hb0 hb1 hb2 hb3 hK0 hK1 hK2 hK3 hKw HK g1
      go_wp2
      go_roundw
      case rel => exact ⟨k + 1, by omega, by go_num, HW.out, HB.out, HK3.out⟩
      case measure => simp [intOf]; omega
    · obtain rfl : k = n := by omega
      go_wp2
      go_end0
      exact ⟨rfl, hb, hKw.out⟩
/-- The three rows of an automaton may be overwritten. -/
structure CanN (B : Nat) (w : World) (A1 B1 C1 : Option Addr) (n1 n2 n3 : Nat) : Prop where
  st : CanI B w A1 n1
  fi : CanI B w B1 n2
  es : CanE B w C1 n3
theorem CanN.set {B : Nat} {w : World} {A1 B1 C1 : Option Addr} {n1 n2 n3 : Nat} (h : CanN B w A1 B1 C1 n1 n2 n3) (p : Addr) (v : Value) : CanN B (w.setCell p v) A1 B1 C1 n1 n2 n3 := ⟨h.st.set p v, h.fi.set p v, h.es.set p v⟩
theorem CanN.below {B : Nat} {w Y : World} {A1 B1 C1 : Option Addr} {n1 n2 n3 : Nat} (h : CanN B w A1 B1 C1 n1 n2 n3) (hb : Below w.heap.size w Y) : CanN B Y A1 B1 C1 n1 n2 n3 := ⟨canI_below h.st hb, canI_below h.fi hb, h.es.below hb⟩
theorem CanN.own {B : Nat} {w : World} {n : Na} {A1 B1 C1 : Option Addr} {a1 b1 c1 : Nat} (h : OwnN B w n A1 B1 C1 a1 b1 c1) : CanN B w A1 B1 C1 n.st.length n.fi.length n.es.length := ⟨CanI.own h.o1, CanI.own h.o2, CanE.own h.o3⟩
set_option maxHeartbeats 2000000 in
theorem OverNFA_keep (K : World → Prop) (B : Nat) (V S : Int) (A1 B1 C1 : Option Addr) (n1 n2 n3 a b c : Nat) (w : World) (hn1 : n1 ≤ 1000000) (hn2 : n2 ≤ 1000000) (hn3 : n3 ≤ 1000000) (hB : B ≤ w.heap.size) (hw : CanN B w A1 B1 C1 n1 n2 n3) (h0 : K w) (hKb : ∀ X Y, Below X.heap.size X Y → K X → K Y) (hK : ∀ X (p : Addr) v, K X → K (X.setCell p v)) :
    Calls Tryd.prog 31 #[.agg #[.int .i64 V, .int .i64 S, .slice A1 n1 a, .slice B1 n2 b, .slice C1 n3 c]] w fun e w' => e = .returned (.tuple #[]) ∧ Below B w w' ∧ K w' := by
  have hb0 := bal (Below.refl w.heap.size w) (.cells #[.int .i64 V, .int .i64 S, .slice A1 n1 a, .slice B1 n2 b, .slice C1 n3 c] 26)
  have hG0 := Blk.new w (.int .i64 V) (.int .i64 S) (.slice A1 n1 a) (.slice B1 n2 b) (.slice C1 n3 c)
  have hw1 := hw.below hb0
  have hK1 := hKb _ _ hb0 h0
  have hbB : Below B w (w.alloc (.cells #[.int .i64 V, .int .i64 S, .slice A1 n1 a, .slice B1 n2 b, .slice C1 n3 c] 26)) := Below.mono hb0 hB
  have hX0 : ∃ X0 : World, Below w.heap.size X0 X0 := ⟨w, Below.refl _ _⟩
  have HS := Lib.hid fun X (A' : Option Addr) (n' c' : Nat) (hn' : n' ≤ 1000000) (hA : ∀ j, j < n' → ∃ ad, A' = some ad ∧ B ≤ ad.block ∧ ad.block ≠ w.heap.size) (hwX : CanN B X A1 B1 C1 n1 n2 n3) (hKX : K X) (hGX : Blk X w.heap.size (.int .i64 V) (.int .i64 S) (.slice A1 n1 a) (.slice B1 n2 b) (.slice C1 n3 c)) (hI : CanI B X A' n') =>
    OverInts_keep (fun Y => CanN B Y A1 B1 C1 n1 n2 n3 ∧ K Y ∧ Blk Y w.heap.size (.int .i64 V) (.int .i64 S) (.slice A1 n1 a) (.slice B1 n2 b) (.slice C1 n3 c)) B A' n' c' X hn' hI ⟨hwX, hKX, hGX⟩ (fun Y ad j v e hj hY => ⟨hY.1.set _ _, hK _ _ _ hY.2.1, (Below.heap_setCell _ _ _ _ (fun e2 => by obtain ⟨ad', e', _, hne⟩ := hA j hj; rw [e] at e'; cases e'; rw [addr_block] at e2; exact hne e2.symm)).trans hY.2.2⟩)
  have HE := Lib.hid fun X (hwX : CanN B X A1 B1 C1 n1 n2 n3) (hKX : K X) => OverEdges_keep K B C1 n3 c X hn3 hwX.es hKX hK
  have hA1 : ∀ j, j < n1 → ∃ ad, A1 = some ad ∧ B ≤ ad.block ∧ ad.block ≠ w.heap.size := fun j hj => by
    obtain ⟨ad, e, h1, _, u, h2⟩ := hw.st j hj
    have := cell_at h2
    rw [addr_block] at this
    exact ⟨ad, e, h1, by omega⟩
  have hB1 : ∀ j, j < n2 → ∃ ad, B1 = some ad ∧ B ≤ ad.block ∧ ad.block ≠ w.heap.size := fun j hj => by
    obtain ⟨ad, e, h1, _, u, h2⟩ := hw.fi j hj
    have := cell_at h2
    rw [addr_block] at this
    exact ⟨ad, e, h1, by omega⟩
  have H1 := Lib.hid fun X hwX hKX hGX => HS.out X A1 n1 a hn1 hA1 hwX hKX hGX hwX.st
  have H2 := Lib.hid fun X hwX hKX hGX => HS.out X B1 n2 b hn2 hB1 hwX hKX hGX hwX.fi
  clear hw h0 hb0 hKb hK HS hA1 hB1 hX0
  obtain ⟨z0, z1, z2, z3, z4⟩ := hG0.cells
  go_enter Tryd.func31, Tryd.ntmps31
  go_wp2_with (first
    | (go_at_call 79; ((with_reducible refine (H1.out _ hw1 hK1 hG0).mono ?_); rintro e w2 ⟨rfl, hb2, ⟨hw2, hK2, hG2⟩, _⟩); clear z0 z1 z2 z3 z4 H1; obtain ⟨z0, z1, z2, z3, z4⟩ := hG2.cells)
    | (go_at_call 79; ((with_reducible refine (H2.out _ hw2 hK2 hG2).mono ?_); rintro e w3 ⟨rfl, hb3, ⟨hw3, hK3, hG3⟩, _⟩); clear z0 z1 z2 z3 z4; obtain ⟨z0, z1, z2, z3, z4⟩ := hG3.cells)
    | (go_at_call 80; ((with_reducible refine (HE.out _ hw3 hK3).mono ?_); rintro e w4 ⟨rfl, hb4, hK4⟩)))
  go_end0
  exact ⟨rfl, ((hbB.trans hb2).trans hb3).trans hb4, hK4⟩
end Go.Proofs.YtlaagjmfgaccjaaDoor.Sb
