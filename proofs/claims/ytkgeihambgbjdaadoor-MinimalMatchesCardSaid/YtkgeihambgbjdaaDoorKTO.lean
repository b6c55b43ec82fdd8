/- The reference's Renumber; its result is its own. -/
import Derived.Test.YtkgeihambgbjdaaDoorKS
namespace Go.Proofs.YtkgeihambgbjdaaDoor.Sb
open Go Go.RowKit Go.Proofs.YtkgeihambgbjdaaDoor Go.Proofs.YtkgeihambgbjdaaDoor.Cb
open Go.Proofs.YtkgeihambgbjdaaDoor.Nf (zvs drew_below info_int6 hnext)
open Go.Proofs.YtkgeihambgbjdaaDoor.Dg (Tabs tb tb_mem)
set_option linter.unusedVariables false
set_option linter.unusedSimpArgs false
set_option maxRecDepth 100000
theorem Blk4.set2 {w : World} {b : Nat} {v0 v1 v2 v3 : Value} (h : Blk4 w b v0 v1 v2 v3) (u : Value) : Blk4 (w.setCell ⟨b, 2, none⟩ u) b v0 v1 u v3 := heap_put h 2 u
/-- The result so far. -/
structure RefL (w wL : World) (g3 : Nat) (V : Int) (rows : List (List Int)) (fs : List Bool) (rv : Value) (A3 : Option Addr) (c3 : Nat) (X : World) : Prop where
  n : Blk4 X g3 (.int .i64 V) (.int .i64 0) rv (.slice A3 fs.length c3)
  r : SetsO wL.heap.size X rv rows
  f : X.ownsRow wL.heap.size 4 1 (.slice A3 fs.length c3) fs.length (fs.map Value.bool)
  fr : wL.heap.size ≤ X.heap.size ∧ ∀ b, b < wL.heap.size → b ≠ g3 → X.heap[b]? = wL.heap[b]?
  b : Below w.heap.size w X
  lo : w.heap.size ≤ g3 ∧ g3 < wL.heap.size ∧ w.heap.size ≤ wL.heap.size
theorem RefL.below {w wL : World} {g3 : Nat} {V : Int} {rows : List (List Int)} {fs : List Bool} {rv : Value} {A3 : Option Addr} {c3 : Nat} {X Y : World} (h : RefL w wL g3 V rows fs rv A3 c3 X) (hb : Below X.heap.size X Y) : RefL w wL g3 V rows fs rv A3 c3 Y :=
  ⟨h.n.below hb, h.r.below hb, h.f.below hb, ⟨Nat.le_trans h.fr.1 hb.size, fun b h1 h2 => (hb.block b (by have := h.fr.1; omega)).trans (h.fr.2 b h1 h2)⟩, stepB h.b hb, h.lo⟩
theorem RefL.row {w wL : World} {g3 : Nat} {V : Int} {rows : List (List Int)} {fs : List Bool} {rv rv' v : Value} {A3 : Option Addr} {c3 : Nat} {X Z : World} {tmp : Obj} {l : List Int} {Q : List (Value × List Int)} (h : RefL w wL g3 V rows fs rv A3 c3 X)
    (e : Q.map (fun q => q.2) = rows) (hoQ : X.ownsRow wL.heap.size 33 1 rv rows.length (Q.map fun q => q.1)) (hq : ∀ q ∈ Q, X.ownsRow wL.heap.size 3 1 q.1 q.2.length (zvs q.2)) (hl : X.ownsRow wL.heap.size 3 1 v l.length (zvs l))
    (ho : Z.ownsRow wL.heap.size 33 1 rv' (rows.length + 1) ((Q.map fun q => q.1) ++ [v])) (hg : (X.alloc tmp).grownBy Z rv.ownBlock) :
    Blk4 Z g3 (.int .i64 V) (.int .i64 0) rv (.slice A3 fs.length c3) ∧ RefL w wL g3 V (rows ++ [l]) fs rv' A3 c3 (Z.setCell ⟨g3, 2, none⟩ rv') := by
  have hd := h.n
  have hlt := blk_lt hd
  have hfr := h.fr
  have hlo := h.lo
  have hX := hg.size
  simp at hX
  have hZ : Blk4 Z g3 (.int .i64 V) (.int .i64 0) rv (.slice A3 fs.length c3) := ((hg.block g3 (by simp; omega) (fun e => own_ne hd hoQ (by decide) e.symm)).trans (Below.heap_alloc X tmp _ hlt)).trans hd
  have hfZ := (h.f.alloc tmp).kept hg (row_ne (h.f.alloc tmp) (hoQ.alloc tmp) (by decide))
  refine ⟨hZ, hZ.set2 _, (SetsO.push e hoQ hq hl ho hg).put hZ (by decide) (by decide) _ _, row_put hfZ (own_ne hZ hfZ (by decide)) _ _, ⟨by rw [size_put]; omega, fun b hb hb1 => ?_⟩, ?_, hlo⟩
  · rw [Below.heap_setCell _ _ _ _ hb1]
    exact ((hg.block b (by simp; omega) (fun e => by have := own_lt hoQ e.symm; omega)).trans (Below.heap_alloc X tmp b (by omega))).trans (hfr.2 b hb hb1)
  · exact ((h.b.alloc (by omega) tmp).grown hg (by simp; omega) (fun q hq => by have := own_lt hoQ hq; omega)).setCell (p := ⟨g3, 2, none⟩) hlo.1 _
theorem RefL.fin {w wL : World} {g3 : Nat} {V : Int} {rows : List (List Int)} {fs : List Bool} {rv : Value} {A3 A5 : Option Addr} {c3 c5 : Nat} {X Z : World} {tmp : Obj} {u : Bool} (h : RefL w wL g3 V rows fs rv A3 c3 X)
    (ho : Z.ownsRow wL.heap.size 4 1 (.slice A5 (fs.length + 1) c5) (fs.length + 1) (fs.map Value.bool ++ [.bool u])) (hg : (X.alloc tmp).grownBy Z (Value.slice A3 fs.length c3).ownBlock) :
    Blk4 Z g3 (.int .i64 V) (.int .i64 0) rv (.slice A3 fs.length c3) ∧ RefL w wL g3 V rows (fs ++ [u]) rv A5 c5 (Z.setCell ⟨g3, 3, none⟩ (.slice A5 (fs.length + 1) c5)) := by
  have hd := h.n
  have hlt := blk_lt hd
  have hfr := h.fr
  have hlo := h.lo
  have hX := hg.size
  simp at hX
  have hZ : Blk4 Z g3 (.int .i64 V) (.int .i64 0) rv (.slice A3 fs.length c3) := ((hg.block g3 (by simp; omega) (fun e => own_ne hd h.f (by decide) e.symm)).trans (Below.heap_alloc X tmp _ hlt)).trans hd
  have hrZ : SetsO wL.heap.size Z rv rows := (h.r.below (bal (Below.refl _ _) tmp)).other (h.f.alloc tmp) (by decide) (by decide) hg
  have hl1 : (fs ++ [u]).length = fs.length + 1 := by simp
  refine ⟨hZ, ?_, hrZ.put hZ (by decide) (by decide) _ _, ?_, ⟨by rw [size_put]; omega, fun b hb hb1 => ?_⟩, ?_, hlo⟩
  · rw [hl1]; exact hZ.set3 _
  · rw [hl1, List.map_append]
    exact row_put ho (own_ne hZ ho (by decide)) _ _
  · rw [Below.heap_setCell _ _ _ _ hb1]
    exact ((hg.block b (by simp; omega) (fun e => by have := own_lt h.f e.symm; omega)).trans (Below.heap_alloc X tmp b (by omega))).trans (hfr.2 b hb hb1)
  · exact ((h.b.alloc (by omega) tmp).grown hg (by simp; omega) (fun q hq => by have := own_lt h.f hq; omega)).setCell (p := ⟨g3, 3, none⟩) hlo.1 _
/-- Row k of the result. -/
theorem nums_snoc {F : List Int} {d : Da} {k : Nat} (hk : k < F.length) : nums (succT d) F (k + 1) = nums (succT d) F k ++ [(succT d (nd F k)).map fun t => (pos F t : Int)] := by
  unfold nums
  have e : nd F k = F[k] := by unfold nd; rw [List.getD_eq_getElem?_getD, List.getElem?_eq_getElem hk]; rfl
  rw [List.take_add_one, List.getElem?_eq_getElem hk, List.map_append, e]
  rfl
section
variable (d : Da) (A B : Option Addr) (a b : Nat) (w : World) (hx : DaAt w d A B) (hl : DaLen d)
include hx hl
theorem refRenumber_bad (h0 : chkD d ≠ 0) :
    Calls Tryd.prog 40 #[.agg #[.int .i64 d.V, .int .i64 d.q0, .slice A d.nx.length a, .slice B d.fi.length b]] w fun e w' => e = .returned (.tuple #[.agg #[.int .i64 0, .int .i64 0, .slice none 0 0, .slice none 0 0], .int .i64 (chkD d)]) ∧ Below w.heap.size w w' := by
  have hb0 := bal (bal (Below.refl w.heap.size w) (.cells #[.int .i64 d.V, .int .i64 d.q0, .slice A d.nx.length a, .slice B d.fi.length b] 25)) (.cells #[.int .i64 0, .int .i64 0, .slice none 0 0, .slice none 0 0] 25)
  have hN0 := (Blk4.new w (.int .i64 d.V) (.int .i64 d.q0) (.slice A d.nx.length a) (.slice B d.fi.length b)).below (bal (Below.refl _ _) (.cells #[.int .i64 0, .int .i64 0, .slice none 0 0, .slice none 0 0] 25))
  have hR0 := Blk4.new (w.alloc (.cells #[.int .i64 d.V, .int .i64 d.q0, .slice A d.nx.length a, .slice B d.fi.length b] 25)) (.int .i64 0) (.int .i64 0) (.slice none 0 0) (.slice none 0 0)
  rw [World.size_alloc] at hR0
  have HC := Lib.hid fun X (hX : Below w.heap.size w X) => refCheck7_any d A B a b X (hx.below hX) hl
  have hne : (chkD d != 0) = true := by rw [bne_iff_ne]; exact h0
  clear hx hl h0
  obtain ⟨z0, z1, z2, z3⟩ := hN0.cells
  generalize chkD d = E at *
  generalize d.nx.length = nn at *
  generalize d.fi.length = nf at *
  go_enter Tryd.func40, Tryd.ntmps40
  go_wp2_with (go_at_call 11; ((with_reducible refine (HC.out _ hb0).mono ?_); rintro e w2 ⟨rfl, hb2⟩); clear z0 z1 z2 z3; replace hR0 := hR0.below hb2; replace hb0 := stepB hb0 hb2; obtain ⟨⟨p0, f0⟩, ⟨p1, f1⟩, ⟨p2, f2⟩, ⟨p3, f3⟩, hR5, hB5⟩ := store4 hR0 (.int .i64 0) (.int .i64 0) (.slice none 0 0) (.slice none 0 0); have HF := Lib.hid (And.intro hR5.cells (hB5 w.heap.size (by omega))); clear hR5 hB5)
  obtain ⟨⟨y0, y1, y2, y3⟩, hb5'⟩ := HF.out
  have hb5 := hb0.trans hb5'
  unfold put4 at y0 y1 y2 y3 hb5
  refine bodyPost_ret (v := .tuple #[.agg #[.int .i64 0, .int .i64 0, .slice none 0 0, .slice none 0 0], .int .i64 E]) (by simp [results, Tryd.results40, go_sem, y0, y1, y2, y3]) rfl ?_
  exact ⟨rfl, hb5⟩
set_option maxHeartbeats 16000000 in
theorem refRenumber_own (h0 : chkD d = 0) (F : List Int) (hF : found (succT d) d.nx.length d.q0 = some F) (hFp : ∀ s ∈ F, Pd d s) :
    Calls Tryd.prog 40 #[.agg #[.int .i64 d.V, .int .i64 d.q0, .slice A d.nx.length a, .slice B d.fi.length b]] w fun e w' => ∃ A' a' B' b', e = .returned (.tuple #[.agg #[.int .i64 d.V, .int .i64 0, .slice A' F.length a', .slice B' F.length b'], .int .i64 0]) ∧ DaAt w' (renD d F) A' B' ∧ Below w.heap.size w w' ∧ ∃ Bs, w.heap.size ≤ Bs ∧ SetsO Bs w' (.slice A' F.length a') (renD d F).nx ∧ w'.ownsRow Bs 4 1 (.slice B' F.length b') F.length ((renD d F).fi.map Value.bool) := by
  have hO := okD_of h0
  have hb0 := bal (bal (Below.refl w.heap.size w) (.cells #[.int .i64 d.V, .int .i64 d.q0, .slice A d.nx.length a, .slice B d.fi.length b] 25)) (.cells #[.int .i64 0, .int .i64 0, .slice none 0 0, .slice none 0 0] 25)
  have hN0 := (Blk4.new w (.int .i64 d.V) (.int .i64 d.q0) (.slice A d.nx.length a) (.slice B d.fi.length b)).below (bal (Below.refl _ _) (.cells #[.int .i64 0, .int .i64 0, .slice none 0 0, .slice none 0 0] 25))
  have hR0 := Blk4.new (w.alloc (.cells #[.int .i64 d.V, .int .i64 d.q0, .slice A d.nx.length a, .slice B d.fi.length b] 25)) (.int .i64 0) (.int .i64 0) (.slice none 0 0) (.slice none 0 0)
  rw [World.size_alloc] at hR0
  have HC := Lib.hid fun X (hX : Below w.heap.size w X) => refCheck7_any d A B a b X (hx.below hX) hl
  rw [h0] at HC
  have HOr := Lib.hid fun X (hX : Below w.heap.size w X) => refOrder_any d A B a b X (hx.below hX) hO F hF hFp
  have hFd := ren_found hO hF
  have hFl : F.length ≤ 4096 := by have := hFd.len; have := hO.n4; omega
  have HNb := Lib.hid fun X (P : Option Addr) (c : Nat) (t : Int) (hi : Ints X P F) (ht : t ∈ F) => refNumber_any P F c t X hi ht (by omega)
  have HSh : Hid (∀ k, k < F.length → ∃ s : Nat, nd F k = (s : Int) ∧ s < d.nx.length ∧ s < d.fi.length ∧ (∀ j, j < (tb d.nx s).length → nd (tb d.nx s) j ∈ F) ∧ (tb d.nx s).length ≤ 64) := fun k hk => by
    have hm : nd F k ∈ F := by unfold nd; rw [List.getD_eq_getElem?_getD, List.getElem?_eq_getElem hk]; exact List.getElem_mem hk
    have hp := hFp _ hm
    obtain ⟨s, hs⟩ := Int.eq_ofNat_of_zero_le hp.1
    rw [hs] at hp hm ⊢
    have hsl : s < d.nx.length := by have := hp.2; omega
    have hst : succT d (s : Int) = tb d.nx s := by unfold succT; rw [Int.toNat_natCast]
    refine ⟨s, rfl, hsl, by rw [hO.fi]; exact hsl, fun j hj => hFd.shut _ hm _ ?_, ?_⟩
    · rw [hst]; unfold nd; rw [List.getD_eq_getElem?_getD, List.getElem?_eq_getElem hj]; exact List.getElem_mem hj
    · have := pd_len hO hp; rw [hst] at this; exact this
  have HD := Lib.hid hx.nx
  have HFi := Lib.hid hx.fi
  clear hx hl h0 hO hF hFp hFd
  obtain ⟨z0, z1, z2, z3⟩ := hN0.cells
  go_enter Tryd.func40, Tryd.ntmps40
  go_upto_region 5 with (first
    | (go_at_call 11; ((with_reducible refine (HC.out _ hb0).mono ?_); rintro e w2 ⟨rfl, hb2⟩); clear z0 z1 z2 z3; replace hR0 := hR0.below hb2; replace hN0 := hN0.below hb2; replace hb0 := stepB hb0 hb2; obtain ⟨z0, z1, z2, z3⟩ := hN0.cells)
    | (go_at_call 59; ((with_reducible refine (HOr.out _ hb0).mono ?_); rintro e w3 ⟨P, cP, rfl, hiP, hb3⟩); clear z0 z1 z2 z3; replace hR0 := hR0.below hb3; replace hN0 := hN0.below hb3; replace hb0 := stepB hb0 hb3; obtain ⟨z0, z1, z2, z3⟩ := hN0.cells))
  have hG := Blk4.new w3 (.int .i64 d.V) (.int .i64 0) (.slice none 0 0) (.slice none 0 0)
  have K4 := bal (Below.refl w3.heap.size w3) (.cells #[.int .i64 d.V, .int .i64 0, .slice none 0 0, .slice none 0 0] 25)
  have hs4 : (w3.alloc (.cells #[.int .i64 d.V, .int .i64 0, .slice none 0 0, .slice none 0 0] 25)).heap.size = w3.heap.size + 1 := World.size_alloc ..
  go_upto_region 6 with fail
  clear z0 z1 z2 z3 HC HOr
  have hsb := hb0.size
  have hR4 := hR0.below K4
  have hN4 := hN0.below K4
  have hlR := blk_lt hR0
  have hlN := blk_lt hN0
  have hb4 := stepB hb0 K4
  have hiP4 := Vals.below hiP K4
  have hL0 : RefL w (w3.alloc (.cells #[.int .i64 d.V, .int .i64 0, .slice none 0 0, .slice none 0 0] 25)) w3.heap.size d.V (nums (succT d) F 0) ((F.take 0).map fun s => d.fi.getD s.toNat false) (.slice none 0 0) none 0 (w3.alloc (.cells #[.int .i64 d.V, .int .i64 0, .slice none 0 0, .slice none 0 0] 25)) := ⟨hG, SetsO.nil _ _, ⟨rfl, .inl ⟨rfl, rfl⟩⟩, ⟨Nat.le_refl _, fun b _ _ => rfl⟩, hb4, ⟨hsb, by omega, by omega⟩⟩
  have HiP : Hid (∀ X : World, ((w3.alloc (.cells #[.int .i64 d.V, .int .i64 0, .slice none 0 0, .slice none 0 0] 25)).heap.size ≤ X.heap.size ∧ ∀ b, b < (w3.alloc (.cells #[.int .i64 d.V, .int .i64 0, .slice none 0 0, .slice none 0 0] 25)).heap.size → b ≠ w3.heap.size → X.heap[b]? = (w3.alloc (.cells #[.int .i64 d.V, .int .i64 0, .slice none 0 0, .slice none 0 0] 25)).heap[b]?) → Ints X P F) := fun X hf j hj => by
    obtain ⟨ad, e, h1, h2⟩ := hiP j hj
    have h3 := hf.1
    exact ⟨ad, e, by omega, (World.cell?_of_block (by rw [addr_block]; exact (hf.2 _ (by omega) (by omega)).trans (K4.block _ h1))).trans h2⟩
  clear hN0 hR0 hG K4 hb0 hiP
  generalize (w3.alloc (.cells #[.int .i64 d.V, .int .i64 0, .slice none 0 0, .slice none 0 0] 25)) = wL at *
  generalize w3.heap.size = g3 at *
  have HN := Lib.hid fun (X : World) (hf : wL.heap.size ≤ X.heap.size ∧ ∀ b, b < wL.heap.size → b ≠ g3 → X.heap[b]? = wL.heap[b]?) => show Blk4 X w.heap.size (.int .i64 d.V) (.int .i64 d.q0) (.slice A d.nx.length a) (.slice B d.fi.length b) from (hf.2 _ (by omega) (by omega)).trans hN4
  have HRb := Lib.hid fun (X : World) (hf : wL.heap.size ≤ X.heap.size ∧ ∀ b, b < wL.heap.size → b ≠ g3 → X.heap[b]? = wL.heap[b]?) => show Blk4 X (w.heap.size + 1) (.int .i64 0) (.int .i64 0) (.slice none 0 0) (.slice none 0 0) from (hf.2 _ (by omega) (by omega)).trans hR4
  have HL0 := Lib.hid hL0
  clear hL0
  obtain ⟨i0, hi0, hz0, hz1, hz2⟩ := info_parts info_int6
  obtain ⟨i1, hi1, hy0, hy1, hy2⟩ := info_parts Dg.info_tab
  obtain ⟨i2, hi2, hx0, hx1, hx2⟩ := info_parts info_boolJ
  go_wp2
  go_loopw [7] (fun iv wr => ∃ (k : Nat) (rv : Value) (A3 : Option Addr) (c3 : Nat), k ≤ F.length ∧ iv = .int .i64 k ∧ Hid (RefL w wL g3 d.V (nums (succT d) F k) ((F.take k).map fun s => d.fi.getD s.toNat false) rv A3 c3 wr)) (fun iv _ => F.length - (intOf iv).toNat)
  case atStart => exact ⟨0, _, none, 0, Nat.zero_le _, rfl, HL0⟩
  case round =>
    clear HL0
    obtain ⟨k, rv, A3, c3, hk, rfl, hT⟩ := hrel
    by_cases hlt : k < F.length
    · obtain ⟨s, hs, hsn, hsf, hmem, hr64⟩ := HSh.out k hlt
      obtain ⟨ld, rfl, _⟩ := Vals.at_ (HiP.out wr hT.out.fr) hlt
      obtain ⟨ad, p, c', rfl, hbk, hcell, hi⟩ := HD.out s hsn
      have HLc : Hid (∀ X : World, (wL.heap.size ≤ X.heap.size ∧ ∀ b, b < wL.heap.size → b ≠ g3 → X.heap[b]? = wL.heap[b]?) → X.cell? (ld.add k) = some (.int .i64 (s : Int))) := fun X hf => by
        obtain ⟨ld', e, h⟩ := Vals.at_ (HiP.out X hf) hlt
        cases e
        rw [h, hs]
      have HCl := Lib.hid fun X (hX : Below w.heap.size w X) => (hX.cell (p := ad.add s) (by rw [addr_block]; exact hbk)).trans hcell
      have HI := Lib.hid fun X (hX : Below w.heap.size w X) => show Ints X p (tb d.nx s) from Vals.below hi hX
      have HNs : Hid (nums (succT d) F (k + 1) = nums (succT d) F k ++ [(tb d.nx s).map fun t => (pos F t : Int)]) := by
        have e1 := nums_snoc (d := d) hlt
        rw [hs, show succT d (s : Int) = tb d.nx s from by unfold succT; rw [Int.toNat_natCast]] at e1
        exact e1
      have HFs : Hid ((F.take (k + 1)).map (fun s => d.fi.getD s.toNat false) = (F.take k).map (fun s => d.fi.getD s.toNat false) ++ [d.fi.getD s false]) := by
        show _ = _
        have e : F[k] = (s : Int) := by rw [← hs]; unfold nd; rw [List.getD_eq_getElem?_getD, List.getElem?_eq_getElem hlt]; rfl
        rw [List.take_add_one, List.getElem?_eq_getElem hlt, List.map_append, e]
        simp
      have HMem := Lib.hid hmem
      have hlt2 : (k : Int) < (F.length : Int) := by omega
      have hsn2 : (s : Int) < (d.nx.length : Int) := by omega
      have hsf2 : (s : Int) < (d.fi.length : Int) := by omega
      have hF0 : Hid (wr.ownsRow wr.heap.size 3 1 (.slice none 0 0) 0 (zvs (((tb d.nx s).map fun t => (pos F t : Int)).take 0))) := ⟨rfl, .inl ⟨rfl, rfl⟩⟩
      obtain ⟨bd, hBd, hfiA⟩ := Vals.at_ HFi.out hsf
      have hbdl : bd.block < w.heap.size := by have := World.block_lt_of_cell? _ _ hfiA; rwa [addr_block] at this
      subst hBd
      have HFc := Lib.hid fun X (hX : Below w.heap.size w X) => (hX.cell (p := bd.add s) (by rw [addr_block]; exact hbdl)).trans hfiA
      have hrk : (nums (succT d) F k).length ≤ 4096 := by rw [nums_len _ _ _ hk]; omega
      have hfk : ((F.take k).map fun s => d.fi.getD s.toNat false).length ≤ 4096 := by rw [List.length_map, List.length_take]; omega
      clear hs hmem hcell hbk hi hfiA
      generalize tb d.nx s = row at *
      generalize d.fi.getD s false = fb at *
      generalize hrw : nums (succT d) F k = rows at *
      generalize hfw : (F.take k).map (fun s => d.fi.getD s.toNat false) = fs at *
      clear hrw hfw
      generalize hnn : d.nx.length = nn at *
      generalize hnf : d.fi.length = nf at *
      have HNN := Lib.hid hnn
      have HNF := Lib.hid hnf
      clear hnn hnf
      obtain ⟨wi, rfl⟩ : ∃ wi : World, wi = wr := ⟨_, rfl⟩
      go_wp2
      go_loopw [8, 9] (fun lv jv X => ∃ (j : Nat) (v : Value), v = lv ∧ j ≤ row.length ∧ jv = .int .i64 j ∧ Hid (X.ownsRow wi.heap.size 3 1 v j (zvs ((row.map fun t => (pos F t : Int)).take j))) ∧ Hid (Below wi.heap.size wi X)) (fun _ jv _ => row.length - (intOf jv).toNat)
      case atStart => exact ⟨0, _, rfl, Nat.zero_le _, rfl, hF0, Below.refl _ _⟩
      case round =>
        clear hF0
        obtain ⟨j, v, rfl, hj, rfl, hO, hbX⟩ := hrel
        have hTX := hT.out.below hbX.out
        obtain ⟨z0, z1, z2, z3⟩ := (HN.out _ hTX.fr).cells
        have y1 := HLc.out _ hTX.fr
        have y2 := HCl.out _ hTX.b
        by_cases hjt : j < row.length
        · obtain ⟨pd, rfl, y3⟩ := Vals.at_ (HI.out _ hTX.b) hjt
          have hjt2 : (j : Int) < (row.length : Int) := by omega
          have hpm := HMem.out j hjt
          generalize hnt : nd row j = t at *
          have HRj : Hid (zvs ((row.map fun t => (pos F t : Int)).take (j + 1)) = zvs ((row.map fun t => (pos F t : Int)).take j) ++ [.int .i64 (pos F t : Nat)]) := by
            show _ = _
            rw [List.take_add_one, List.getElem?_map, List.getElem?_eq_getElem hjt, ← zvs_snoc7, ← hnt]
            unfold nd
            rw [List.getD_eq_getElem?_getD, List.getElem?_eq_getElem hjt]
            rfl
          have HNt := Lib.hid hnt
          clear hnt
          go_upto_region 11 with fail
          go_quiet (fail)
          have hbq : Hid (Below wi.heap.size wi (wr.drewN nq)) := stepB hbX.out (Ap.drewN_below wr nq)
          have hOq : Hid ((wr.drewN nq).ownsRow wi.heap.size 3 1 v j (zvs ((row.map fun t => (pos F t : Int)).take j))) := hO.out.below (Ap.drewN_below wr nq)
          clear z0 z1 z2 z3 y1 y2 y3 hTX hO hbX
          generalize wr.drewN nq = X1 at *
          obtain ⟨A8, c8, rfl, _⟩ := Ap.own_form hOq.out
          go_upto_region 13 with fail
          refine wp_region_any (by kernel_rfl) ?_
          change wpAny _ _ _ _ _ _ _ (World.drew _)
          have HSb : Hid (∀ Y, Below wi.heap.size wi Y → (fun X : World => X.cell? ⟨w.heap.size, 2, none⟩ = some (.slice (some ad) nn a) ∧ X.cell? (ld.add k) = some (.int .i64 (s : Int)) ∧ X.cell? (ad.add s) = some (.slice (some pd) row.length c') ∧ X.cell? (pd.add j) = some (.int .i64 t)) Y) := fun Y hY => by
            have hTY := hT.out.below hY
            obtain ⟨pd', e, h⟩ := Vals.at_ (HI.out _ hTY.b) hjt
            cases e
            rw [HNt.out] at h
            exact ⟨(HN.out _ hTY.fr).cells.2.2.1, HLc.out _ hTY.fr, HCl.out _ hTY.b, h⟩
          have hX0 := stepB hbq.out (drew_below X1)
          have hO0 := hOq.out.below (drew_below X1)
          have hS0 := HSb.out _ hX0
          have HP0 := Lib.hid fun Y (hY : Below wi.heap.size wi Y) => HiP.out Y (hT.out.below hY).fr
          clear hbq hOq
          generalize X1.drew = X0 at *
          refine wpAny_head 16 16 (fun X : World => X.cell? ⟨w.heap.size, 2, none⟩ = some (.slice (some ad) nn a) ∧ X.cell? (ld.add k) = some (.int .i64 (s : Int)) ∧ X.cell? (ad.add s) = some (.slice (some pd) row.length c') ∧ X.cell? (pd.add j) = some (.int .i64 t)) rfl rfl (by kernel_rfl) (by kernel_rfl) (by kernel_rfl) (fun hA => ?_)
          refine wpHead_take (i := 0) (v := ?_) (by kernel_rfl) hA (at_drop rfl) (by decide) (by kernel_rfl) (by kernel_rfl) (by kernel_rfl) (fun _ _ _ h => h) (Or.inl ⟨by rfl, ?_⟩) hS0 (fun hA => ?_)
          rotate_left
          · (intro Y hSY; obtain ⟨s0, s1, s2, s3⟩ := hSY; go_simp <;> with_reducible rfl)
          simp only [Act.put, List.setIfInBounds_toArray, List.set_cons_zero, List.set_cons_succ]
          refine wpHead_take (i := 1) (v := ?_) (by kernel_rfl) hA (at_drop rfl) (by decide) (by kernel_rfl) (by kernel_rfl) (by kernel_rfl) (fun _ _ _ h => h) (Or.inl ⟨by rfl, ?_⟩) hS0 (fun hA => ?_)
          rotate_left
          · (intro Y hSY; obtain ⟨s0, s1, s2, s3⟩ := hSY; go_simp <;> with_reducible rfl)
          simp only [Act.put, List.setIfInBounds_toArray, List.set_cons_zero, List.set_cons_succ]
          refine wpHead_take (i := 2) (v := ?_) (by kernel_rfl) hA (at_drop rfl) (by decide) (by kernel_rfl) (by kernel_rfl) (by kernel_rfl) (fun _ _ _ h => h) (Or.inl ⟨by rfl, ?_⟩) hS0 (fun hA => ?_)
          rotate_left
          · (intro Y hSY; obtain ⟨s0, s1, s2, s3⟩ := hSY; go_simp <;> with_reducible rfl)
          simp only [Act.put, List.setIfInBounds_toArray, List.set_cons_zero, List.set_cons_succ]
          refine wpHead_take (i := 3) (v := ?_) (by kernel_rfl) hA (at_drop rfl) (by decide) (by kernel_rfl) (by kernel_rfl) (by kernel_rfl) (fun _ _ _ h => h) (Or.inl ⟨by rfl, ?_⟩) hS0 (fun hA => ?_)
          rotate_left
          · (intro Y hSY; obtain ⟨s0, s1, s2, s3⟩ := hSY; go_simp <;> with_reducible rfl)
          simp only [Act.put, List.setIfInBounds_toArray, List.set_cons_zero, List.set_cons_succ]
          refine wpHead_take (i := 4) (v := ?_) (by kernel_rfl) hA (at_drop rfl) (by decide) (by kernel_rfl) (by kernel_rfl) (by kernel_rfl) (fun _ _ _ h => h) (Or.inl ⟨by rfl, ?_⟩) hS0 (fun hA => ?_)
          rotate_left
          · (intro Y hSY; obtain ⟨s0, s1, s2, s3⟩ := hSY; go_simp <;> with_reducible rfl)
          simp only [Act.put, List.setIfInBounds_toArray, List.set_cons_zero, List.set_cons_succ]
          refine wpHead_take (i := 5) (v := ?_) (by kernel_rfl) hA (at_drop rfl) (by decide) (by kernel_rfl) (by kernel_rfl) (by kernel_rfl) (fun _ _ _ h => h) (Or.inl ⟨by rfl, ?_⟩) hS0 (fun hA => ?_)
          rotate_left
          · (intro Y hSY; obtain ⟨s0, s1, s2, s3⟩ := hSY; go_simp <;> with_reducible rfl)
          simp only [Act.put, List.setIfInBounds_toArray, List.set_cons_zero, List.set_cons_succ]
          refine wpHead_take (i := 6) (v := ?_) (by kernel_rfl) hA (at_drop rfl) (by decide) (by kernel_rfl) (by kernel_rfl) (by kernel_rfl) (fun _ _ _ h => h) (Or.inl ⟨by rfl, ?_⟩) hS0 (fun hA => ?_)
          rotate_left
          · (intro Y hSY; obtain ⟨s0, s1, s2, s3⟩ := hSY; go_simp <;> with_reducible rfl)
          simp only [Act.put, List.setIfInBounds_toArray, List.set_cons_zero, List.set_cons_succ]
          refine wpHead_take (i := 7) (v := ?_) (by kernel_rfl) hA (at_drop rfl) (by decide) (by kernel_rfl) (by kernel_rfl) (by kernel_rfl) (fun _ _ _ h => h) (Or.inl ⟨by rfl, ?_⟩) hS0 (fun hA => ?_)
          rotate_left
          · (intro Y hSY; obtain ⟨s0, s1, s2, s3⟩ := hSY; go_simp <;> with_reducible rfl)
          simp only [Act.put, List.setIfInBounds_toArray, List.set_cons_zero, List.set_cons_succ]
          refine wpHead_take (i := 8) (v := ?_) (by kernel_rfl) hA (at_drop rfl) (by decide) (by kernel_rfl) (by kernel_rfl) (by kernel_rfl) (fun _ _ _ h => h) (Or.inl ⟨by rfl, ?_⟩) hS0 (fun hA => ?_)
          rotate_left
          · (intro Y hSY; obtain ⟨s0, s1, s2, s3⟩ := hSY; go_simp <;> with_reducible rfl)
          simp only [Act.put, List.setIfInBounds_toArray, List.set_cons_zero, List.set_cons_succ]
          refine wpHead_take (i := 9) (v := ?_) (by kernel_rfl) hA (at_drop rfl) (by decide) (by kernel_rfl) (by kernel_rfl) (by kernel_rfl) (fun _ _ _ h => h) (Or.inl ⟨by rfl, ?_⟩) hS0 (fun hA => ?_)
          rotate_left
          · (intro Y hSY; obtain ⟨s0, s1, s2, s3⟩ := hSY; go_simp <;> with_reducible rfl)
          simp only [Act.put, List.setIfInBounds_toArray, List.set_cons_zero, List.set_cons_succ]
          refine wpHead_take (i := 10) (v := ?_) (by kernel_rfl) hA (at_drop rfl) (by decide) (by kernel_rfl) (by kernel_rfl) (by kernel_rfl) (fun _ _ _ h => h) (Or.inl ⟨by rfl, ?_⟩) hS0 (fun hA => ?_)
          rotate_left
          · (intro Y hSY; obtain ⟨s0, s1, s2, s3⟩ := hSY; go_simp <;> with_reducible rfl)
          simp only [Act.put, List.setIfInBounds_toArray, List.set_cons_zero, List.set_cons_succ]
          refine wpHead_take (i := 11) (v := ?_) (by kernel_rfl) hA (at_drop rfl) (by decide) (by kernel_rfl) (by kernel_rfl) (by kernel_rfl) (fun _ _ _ h => h) (Or.inl ⟨by rfl, ?_⟩) hS0 (fun hA => ?_)
          rotate_left
          · (intro Y hSY; obtain ⟨s0, s1, s2, s3⟩ := hSY; go_simp <;> with_reducible rfl)
          simp only [Act.put, List.setIfInBounds_toArray, List.set_cons_zero, List.set_cons_succ]
          refine wpHead_take (i := 12) (v := ?_) (by kernel_rfl) hA (at_drop rfl) (by decide) (by kernel_rfl) (by kernel_rfl) (by kernel_rfl) (fun _ _ _ h => h) (Or.inl ⟨by rfl, ?_⟩) hS0 (fun hA => ?_)
          rotate_left
          · (intro Y hSY; obtain ⟨s0, s1, s2, s3⟩ := hSY; go_simp <;> with_reducible rfl)
          simp only [Act.put, List.setIfInBounds_toArray, List.set_cons_zero, List.set_cons_succ]
          have hA13 := hnext hA (rs := [13]) (i := 13) (by kernel_rfl) (by decide) (by decide)
          refine wpHead_ready (rs := [13]) (by kernel_rfl) (by decide) (AllHead.cons (at_drop rfl) (by decide) (fun KK hK => ?_) AllHead.nil)
          replace hA := hA13
          go_simp
          refine (HNb.out X0 (some ld) cP t (HP0.out X0 hX0) hpm).mono ?_
          rintro e X3 ⟨rfl, rfl⟩
          refine hK _ _ hS0 ?_
          clear hK KK
          try simp only [Act.put, List.setIfInBounds_toArray, List.set_cons_zero, List.set_cons_succ]
          have hA14 := hnext hA (rs := [14]) (i := 14) (by kernel_rfl) (by decide) (by decide)
          refine wpHead_ready (rs := [14]) (by kernel_rfl) (by decide) (AllHead.cons (at_drop rfl) (by decide) (fun KK hK => ?_) AllHead.nil)
          replace hA := hA14
          go_simp
          have hb1 := bal (Below.refl X0.heap.size X0) (.cells #[.int .i64 (pos F t : Nat)] 3)
          have hX1 := stepB hX0 hb1
          have hO1 := hO0.below hb1
          have hS1 := HSb.out _ hX1
          have hn1 := cell_one_new X0 (.int .i64 (pos F t : Nat)) 3
          have hszX := hX0.size
          refine hK _ _ hS1 ?_
          clear hK KK
          try simp only [Act.put, List.setIfInBounds_toArray, List.set_cons_zero, List.set_cons_succ]
          have hA15 := hnext hA (rs := [15]) (i := 15) (by kernel_rfl) (by decide) (by decide)
          refine wpHead_ready (rs := [15]) (by kernel_rfl) (by decide) (AllHead.cons (at_drop rfl) (by decide) (fun KK hK => ?_) AllHead.nil)
          replace hA := hA15
          refine step_append rfl (.tmp 40) (.tmp 54) 33 rfl wi.heap.size 3 i0 (.int .i64 0) 1 8 Tryd.underlying33 hi0 hz0 hz1 hz2 rfl (by decide) (.slice A8 j c8) j _ (by simp [Act.eval]) hO1 ⟨X0.heap.size, 0, none⟩ 1 1 [.int .i64 (pos F t : Nat)] (by simp [Act.eval]) rfl hn1 (by simp [Value.oneCell']) (by unfold maxLen; omega) (by omega) (by simp; omega) ?_
          intro A9 c9 Z ho2 hg2 hob2
          have hZ : Below wi.heap.size wi Z := (hX0.alloc (by omega) _).grown hg2 (by simp; omega) (fun q hq => by have := own_lt hO1 hq; omega)
          have HZ := Lib.hid hZ
          have HO2 := Lib.hid ho2
          have hSZ := HSb.out _ hZ
          refine hK _ _ hSZ ?_
          clear hK KK ho2 hg2 hob2 hO1 hS1 hn1 hS0 HSb hZ hb1 hX1 hO0 hX0 HP0
          try simp only [Act.put, List.setIfInBounds_toArray, List.set_cons_zero, List.set_cons_succ]
          refine wpHead_end (by kernel_rfl) ?_
          simp only [List.drop_succ_cons, List.drop_zero]
          go_wp2
          go_roundw
          case rel => exact ⟨j + 1, _, rfl, by omega, by go_num, by rw [HRj.out]; exact HO2.out, HZ⟩
          case measure => simp [intOf]; omega
        · obtain rfl : j = row.length := by omega
          go_upto_region 11 with fail
          go_quiet (fail)
          have hbq : Below wi.heap.size wi (wr.drewN nq) := stepB hbX.out (Ap.drewN_below wr nq)
          have hOq := hO.out.below (Ap.drewN_below wr nq)
          have hTq := Lib.hid (hT.out.below hbq)
          have hRt : ((row.map fun t => (pos F t : Int)).take row.length) = (row.map fun t => (pos F t : Int)) := List.take_of_length_le (by simp)
          have hRl : (row.map fun t => (pos F t : Int)).length = row.length := List.length_map _
          rw [hRt] at hOq
          have hwis := hT.out.fr.1
          have hOl : Hid ((wr.drewN nq).ownsRow wL.heap.size 3 1 v (row.map fun t => (pos F t : Int)).length (zvs (row.map fun t => (pos F t : Int)))) := by
            rw [hRl]; exact ownsRow_mono hOq hwis
          clear z0 z1 z2 z3 y1 y2 hTX hO hbX hOq hbq hRt HMem HCl HI hT
          generalize wr.drewN nq = X1 at *
          obtain ⟨A8, c8, rfl, _⟩ := Ap.own_form hOl.out
          rw [hRl] at hOl
          generalize hRR : (row.map fun t => (pos F t : Int)) = R at *
          clear hRR
          obtain ⟨x0, x1, x2, x3⟩ := hTq.out.n.cells
          have hszq := hTq.out.fr.1
          obtain ⟨Q, eQ, hoQ, hqQ⟩ := hTq.out.r
          have HOQ := Lib.hid hoQ
          have HRow := Lib.hid fun v' Z (tmp : Obj) ho hg => hTq.out.row (v := .slice A8 row.length c8) (l := R) (rv' := v') (Z := Z) (tmp := tmp) eQ hoQ hqQ (by rw [hRl]; exact hOl.out) ho hg
          clear eQ hoQ hqQ hOl
          go_upto_region 15 with (at_builtin; refine wpList_append_own_at _ rfl _ _ 22 rfl wL.heap.size 33 i1 (.slice none 0 0) 1 24 Tryd.underlying22 hi1 hy0 hy1 hy2 rfl (by decide) _ rows.length _ rfl (HOQ.out.alloc _) ⟨X1.heap.size, 0, none⟩ 1 1 [.slice A8 row.length c8] rfl rfl (cell_one_new _ _ _) (by simp [Value.oneCell']) (by unfold maxLen; omega) (by omega) (by simp; omega) ?_; intro v' w6 hown' hgrow _ hb6; obtain ⟨A5, c5, rfl, _⟩ := Ap.own_form hown'; obtain ⟨hblk, hT6⟩ := HRow.out _ w6 _ hown' hgrow; have HT6 := Lib.hid hT6; have y3 := hblk.cells.2.2.1; have f3 := free_of hblk 2; clear hT6 hown' hgrow hb6 hblk)
          clear x0 x1 x2 x3 y3 f3 HRow HOQ hTq hszq
          generalize w6.setCell ⟨g3, 2, none⟩ (.slice A5 (rows.length + 1) c5) = w7 at *
          refine wp_region_any (by kernel_rfl) ?_
          change wpAny _ _ _ _ _ _ _ (World.drew _)
          have hLd := HT6.out.below (drew_below w7)
          have hS0 : (fun X : World => X.cell? ⟨g3, 3, none⟩ = some (.slice A3 fs.length c3) ∧ X.cell? ⟨w.heap.size, 3, none⟩ = some (.slice (some bd) nf b) ∧ X.cell? (ld.add k) = some (.int .i64 (s : Int)) ∧ X.cell? (bd.add s) = some (.bool fb)) w7.drew := ⟨hLd.n.cells.2.2.2, (HN.out _ hLd.fr).cells.2.2.2, HLc.out _ hLd.fr, HFc.out _ hLd.b⟩
          have HSb : Hid (∀ Y, Below w7.drew.heap.size w7.drew Y → (fun X : World => X.cell? ⟨g3, 3, none⟩ = some (.slice A3 fs.length c3) ∧ X.cell? ⟨w.heap.size, 3, none⟩ = some (.slice (some bd) nf b) ∧ X.cell? (ld.add k) = some (.int .i64 (s : Int)) ∧ X.cell? (bd.add s) = some (.bool fb)) Y) := fun Y hY => ⟨(hLd.below hY).n.cells.2.2.2, (HN.out _ (hLd.below hY).fr).cells.2.2.2, HLc.out _ (hLd.below hY).fr, HFc.out _ (hLd.below hY).b⟩
          clear HT6
          generalize w7.drew = X0 at *
          refine wpAny_head 12 12 (fun X : World => X.cell? ⟨g3, 3, none⟩ = some (.slice A3 fs.length c3) ∧ X.cell? ⟨w.heap.size, 3, none⟩ = some (.slice (some bd) nf b) ∧ X.cell? (ld.add k) = some (.int .i64 (s : Int)) ∧ X.cell? (bd.add s) = some (.bool fb)) rfl rfl (by kernel_rfl) (by kernel_rfl) (by kernel_rfl) (fun hA => ?_)
          refine wpHead_take (i := 0) (v := ?_) (by kernel_rfl) hA (at_drop rfl) (by decide) (by kernel_rfl) (by kernel_rfl) (by kernel_rfl) (fun _ _ _ h => h) (Or.inl ⟨by rfl, ?_⟩) hS0 (fun hA => ?_)
          rotate_left
          · (intro Y hSY; obtain ⟨s0, s1, s2, s3⟩ := hSY; go_simp <;> with_reducible rfl)
          simp only [Act.put, List.setIfInBounds_toArray, List.set_cons_zero, List.set_cons_succ]
          refine wpHead_take (i := 1) (v := ?_) (by kernel_rfl) hA (at_drop rfl) (by decide) (by kernel_rfl) (by kernel_rfl) (by kernel_rfl) (fun _ _ _ h => h) (Or.inl ⟨by rfl, ?_⟩) hS0 (fun hA => ?_)
          rotate_left
          · (intro Y hSY; obtain ⟨s0, s1, s2, s3⟩ := hSY; go_simp <;> with_reducible rfl)
          simp only [Act.put, List.setIfInBounds_toArray, List.set_cons_zero, List.set_cons_succ]
          refine wpHead_take (i := 2) (v := ?_) (by kernel_rfl) hA (at_drop rfl) (by decide) (by kernel_rfl) (by kernel_rfl) (by kernel_rfl) (fun _ _ _ h => h) (Or.inl ⟨by rfl, ?_⟩) hS0 (fun hA => ?_)
          rotate_left
          · (intro Y hSY; obtain ⟨s0, s1, s2, s3⟩ := hSY; go_simp <;> with_reducible rfl)
          simp only [Act.put, List.setIfInBounds_toArray, List.set_cons_zero, List.set_cons_succ]
          refine wpHead_take (i := 3) (v := ?_) (by kernel_rfl) hA (at_drop rfl) (by decide) (by kernel_rfl) (by kernel_rfl) (by kernel_rfl) (fun _ _ _ h => h) (Or.inl ⟨by rfl, ?_⟩) hS0 (fun hA => ?_)
          rotate_left
          · (intro Y hSY; obtain ⟨s0, s1, s2, s3⟩ := hSY; go_simp <;> with_reducible rfl)
          simp only [Act.put, List.setIfInBounds_toArray, List.set_cons_zero, List.set_cons_succ]
          refine wpHead_take (i := 4) (v := ?_) (by kernel_rfl) hA (at_drop rfl) (by decide) (by kernel_rfl) (by kernel_rfl) (by kernel_rfl) (fun _ _ _ h => h) (Or.inl ⟨by rfl, ?_⟩) hS0 (fun hA => ?_)
          rotate_left
          · (intro Y hSY; obtain ⟨s0, s1, s2, s3⟩ := hSY; go_simp <;> with_reducible rfl)
          simp only [Act.put, List.setIfInBounds_toArray, List.set_cons_zero, List.set_cons_succ]
          refine wpHead_take (i := 5) (v := ?_) (by kernel_rfl) hA (at_drop rfl) (by decide) (by kernel_rfl) (by kernel_rfl) (by kernel_rfl) (fun _ _ _ h => h) (Or.inl ⟨by rfl, ?_⟩) hS0 (fun hA => ?_)
          rotate_left
          · (intro Y hSY; obtain ⟨s0, s1, s2, s3⟩ := hSY; go_simp <;> with_reducible rfl)
          simp only [Act.put, List.setIfInBounds_toArray, List.set_cons_zero, List.set_cons_succ]
          refine wpHead_take (i := 6) (v := ?_) (by kernel_rfl) hA (at_drop rfl) (by decide) (by kernel_rfl) (by kernel_rfl) (by kernel_rfl) (fun _ _ _ h => h) (Or.inl ⟨by rfl, ?_⟩) hS0 (fun hA => ?_)
          rotate_left
          · (intro Y hSY; obtain ⟨s0, s1, s2, s3⟩ := hSY; go_simp <;> with_reducible rfl)
          simp only [Act.put, List.setIfInBounds_toArray, List.set_cons_zero, List.set_cons_succ]
          refine wpHead_take (i := 7) (v := ?_) (by kernel_rfl) hA (at_drop rfl) (by decide) (by kernel_rfl) (by kernel_rfl) (by kernel_rfl) (fun _ _ _ h => h) (Or.inl ⟨by rfl, ?_⟩) hS0 (fun hA => ?_)
          rotate_left
          · (intro Y hSY; obtain ⟨s0, s1, s2, s3⟩ := hSY; go_simp <;> with_reducible rfl)
          simp only [Act.put, List.setIfInBounds_toArray, List.set_cons_zero, List.set_cons_succ]
          refine wpHead_take (i := 8) (v := ?_) (by kernel_rfl) hA (at_drop rfl) (by decide) (by kernel_rfl) (by kernel_rfl) (by kernel_rfl) (fun _ _ _ h => h) (Or.inl ⟨by rfl, ?_⟩) hS0 (fun hA => ?_)
          rotate_left
          · (intro Y hSY; obtain ⟨s0, s1, s2, s3⟩ := hSY; go_simp <;> with_reducible rfl)
          simp only [Act.put, List.setIfInBounds_toArray, List.set_cons_zero, List.set_cons_succ]
          refine wpHead_take (i := 9) (v := ?_) (by kernel_rfl) hA (at_drop rfl) (by decide) (by kernel_rfl) (by kernel_rfl) (by kernel_rfl) (fun _ _ _ h => h) (Or.inl ⟨by rfl, ?_⟩) hS0 (fun hA => ?_)
          rotate_left
          · (intro Y hSY; obtain ⟨s0, s1, s2, s3⟩ := hSY; go_simp <;> with_reducible rfl)
          simp only [Act.put, List.setIfInBounds_toArray, List.set_cons_zero, List.set_cons_succ]
          have hA10 := hnext hA (rs := [10]) (i := 10) (by kernel_rfl) (by decide) (by decide)
          refine wpHead_ready (rs := [10]) (by kernel_rfl) (by decide) (AllHead.cons (at_drop rfl) (by decide) (fun KK hK => ?_) AllHead.nil)
          replace hA := hA10
          go_simp
          have hb1 := bal (Below.refl X0.heap.size X0) (.cells #[.bool fb] 4)
          have hL1 := hLd.below hb1
          have hS1 := HSb.out _ hb1
          have hn1 := cell_one_new X0 (.bool fb) 4
          have hfr0 := hLd.fr.1
          refine hK _ _ hS1 ?_
          clear hK KK
          try simp only [Act.put, List.setIfInBounds_toArray, List.set_cons_zero, List.set_cons_succ]
          have hA11 := hnext hA (rs := [11]) (i := 11) (by kernel_rfl) (by decide) (by decide)
          refine wpHead_ready (rs := [11]) (by kernel_rfl) (by decide) (AllHead.cons (at_drop rfl) (by decide) (fun KK hK => ?_) AllHead.nil)
          replace hA := hA11
          refine step_append rfl (.tmp 63) (.tmp 72) 23 rfl wL.heap.size 4 i2 (.bool false) 1 1 Tryd.underlying23 hi2 hx0 hx1 hx2 rfl (by decide) (.slice A3 fs.length c3) fs.length _ (by simp [Act.eval]) hL1.f ⟨X0.heap.size, 0, none⟩ 1 1 [.bool fb] (by simp [Act.eval]) rfl hn1 (by simp [Value.oneCell']) (by unfold maxLen; omega) (by omega) (by simp; omega) ?_
          intro A4 c4 Z ho2 hg2 hob2
          obtain ⟨hdZ, hLZ⟩ := hLd.fin ho2 hg2
          have hfrZ : wL.heap.size ≤ Z.heap.size ∧ ∀ b, b < wL.heap.size → b ≠ g3 → Z.heap[b]? = wL.heap[b]? := ⟨by have := hLZ.fr.1; rwa [size_put] at this, fun b h1 h2 => by have := hLZ.fr.2 b h1 h2; rwa [Below.heap_setCell _ _ _ _ h2] at this⟩
          have hbZ : Below w.heap.size w Z := ((hLd.b.alloc (by have := hLd.lo.2; omega) _).grown hg2 (by simp; have := hLd.lo.2; omega) (fun q hq => by have := own_lt hL1.f hq; have := hLd.lo.2; omega))
          have hSZ : (fun X : World => X.cell? ⟨g3, 3, none⟩ = some (.slice A3 fs.length c3) ∧ X.cell? ⟨w.heap.size, 3, none⟩ = some (.slice (some bd) nf b) ∧ X.cell? (ld.add k) = some (.int .i64 (s : Int)) ∧ X.cell? (bd.add s) = some (.bool fb)) Z := ⟨hdZ.cells.2.2.2, (HN.out _ hfrZ).cells.2.2.2, HLc.out _ hfrZ, HFc.out _ hbZ⟩
          have HLZ := Lib.hid hLZ
          have f3 := free_of hdZ 3
          have c3z := hdZ.cells.2.2.2
          have l3z := blk_lt hdZ
          refine hK _ _ hSZ ?_
          clear hK KK hLZ hdZ ho2 hg2 hob2 hL1 hS1 hn1 hLd hS0 HSb
          try simp only [Act.put, List.setIfInBounds_toArray, List.set_cons_zero, List.set_cons_succ]
          refine wpHead_end (by kernel_rfl) ?_
          simp only [List.drop_succ_cons, List.drop_zero]
          clear HFc HLc
          go_wp2
          go_roundw
          case rel => exact ⟨k + 1, _, A4, c4, by omega, by go_num, by show RefL _ _ _ _ _ _ _ _ _ _; rw [HNs.out, HFs.out]; exact HLZ.out⟩
          case measure => simp [intOf]; omega
    · obtain rfl : k = F.length := by omega
      have hT0 := hT.out
      have hRw := HRb.out _ hT0.fr
      have htk : F.take F.length = F := List.take_length
      have hnf2 : ((F.take F.length).map fun s => d.fi.getD s.toNat false).length = F.length := by rw [htk, List.length_map]
      have hnr2 : (nums (succT d) F F.length).length = F.length := nums_len _ _ _ (Nat.le_refl _)
      obtain ⟨Ar, cr, hrv, _⟩ := hT0.r.form
      rw [hnr2] at hrv
      subst hrv
      obtain ⟨y0, y1, y2, y3⟩ := hT0.n.cells
      rw [hnf2] at y3
      obtain ⟨⟨p0, f0⟩, ⟨p1, f1⟩, ⟨p2, f2⟩, ⟨p3, f3⟩, hR5, hB5⟩ := store4 hRw (.int .i64 d.V) (.int .i64 0) (.slice Ar F.length cr) (.slice A3 F.length c3)
      have hS : SetsO wL.heap.size (put4 wr (w.heap.size + 1) (.int .i64 d.V) (.int .i64 0) (.slice Ar F.length cr) (.slice A3 F.length c3)) (.slice Ar F.length cr) (renD d F).nx := hT0.r.keep hRw (by decide) (by decide) fun b hb => put4_other _ _ _ _ hb
      have hBo : (put4 wr (w.heap.size + 1) (.int .i64 d.V) (.int .i64 0) (.slice Ar F.length cr) (.slice A3 F.length c3)).ownsRow wL.heap.size 4 1 (.slice A3 F.length c3) F.length ((renD d F).fi.map Value.bool) := by
        have hf := hT0.f
        rw [hnf2] at hf
        have hf2 := own_eq (w' := (put4 wr (w.heap.size + 1) (.int .i64 d.V) (.int .i64 0) (.slice Ar F.length cr) (.slice A3 F.length c3))) hf fun g hg => put4_other _ _ _ _ (fun e => own_ne hRw hf (by decide) (e ▸ hg))
        rw [htk] at hf2
        exact hf2
      have hO : DaAt (put4 wr (w.heap.size + 1) (.int .i64 d.V) (.int .i64 0) (.slice Ar F.length cr) (.slice A3 F.length c3)) (renD d F) Ar A3 := ⟨hS.tabs hnr2.symm, bools_own hBo (show F.length = (F.map _).length by rw [List.length_map])⟩
      have hlo := hT0.lo.2.2
      have HF := Lib.hid (And.intro hR5.cells (And.intro hO (And.intro (hT0.b.trans (hB5 w.heap.size (by omega))) (And.intro hlo (And.intro hS hBo)))))
      clear hR5 hB5 hO hS hBo hlo hT hT0 HN HRb hRw HFi HD HiP hnf2 hnr2 htk
      go_wp2
      obtain ⟨⟨u0, u1, u2, u3⟩, hO, hb5, hlo, hS, hBo⟩ := HF.out
      unfold put4 at u0 u1 u2 u3 hO hb5 hS hBo
      refine bodyPost_ret (v := .tuple #[.agg #[.int .i64 d.V, .int .i64 0, .slice Ar F.length cr, .slice A3 F.length c3], .int .i64 0]) (by simp [results, Tryd.results40, go_sem, u0, u1, u2, u3]) rfl ?_
      exact ⟨_, _, _, _, rfl, hO, hb5, _, hlo, hS, hBo⟩
end
end Go.Proofs.YtkgeihambgbjdaaDoor.Sb
