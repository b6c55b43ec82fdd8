/- Determinize (package subset). -/
import Derived.Test.YteckkbjpeckjmaaDoorJP
import Derived.Test.YteckkbjpeckjmaaDoorFM
namespace Go.Proofs.YteckkbjpeckjmaaDoor.Sb
open Go Go.RowKit Go.Proofs.YteckkbjpeckjmaaDoor Go.Proofs.YteckkbjpeckjmaaDoor.Cb
open Go.Proofs.YteckkbjpeckjmaaDoor.Nf (Ed ed Na NaAt NaLen Ok ok_of chkN Blk Blk.new Blk.below Blk.cells Blk.lt zvs zvs_snoc info_int6 ret_int ret_b inS Boxed4 Boxed5 hnext drew_below stepW asc_in Check6_any OwnW.low u64_step has_st)
open Go.Proofs.YteckkbjpeckjmaaDoor.Dg (Tabs tb)
set_option linter.unusedVariables false
set_option linter.unusedSimpArgs false
set_option maxRecDepth 100000
/-- The sets to which the letters lead. -/
def succN (n : Na) (s : List Nat) : List (List Nat) := rowS (stepW n.es) (2 ^ n.V.toNat) s
def detN (n : Na) (b : Nat) : Option (List (List Nat)) := found (succN n) b (ofL n.st)
/-- The subset automaton of the sets F. -/
def detD (n : Na) (F : List (List Nat)) : Da := ⟨n.V, 0, nums (succN n) F F.length, F.map fun s => meetB s (ofL n.fi)⟩
def detE (n : Na) (b : Int) : Int := if chkN n ≠ 0 then chkN n else if 1 ≤ b ∧ b ≤ 4096 then (match detN n b.toNat with | none => 10 | some _ => 0) else 1
/-- A set of states. -/
def PN (n : Na) (s : List Nat) : Prop := canon s = s ∧ U64 s ∧ s.length ≤ 64 ∧ ∀ k ∈ els s, k < n.S.toNat
theorem pn_of {n : Na} (hO : Ok n) {l : List Int} (h : ∀ z ∈ l, 0 ≤ z ∧ z < n.S) : PN n (ofL l) := by
  have hI : Nf.IsSet (ofL l) (fun z => (0 ≤ z ∧ z ≤ 4095) ∧ z ∈ l) := ⟨ofL_canon _, u64_of _, fun z => Nf.has_ofL⟩
  refine ⟨ofL_canon _, u64_of _, hI.len, fun k hk => ?_⟩
  obtain ⟨h1, h2⟩ := els_mem.1 hk
  have h3 : hasB (ofL l) (k : Int) = true := by rw [Nf.has_nat h1]; exact h2
  have := h _ (Nf.has_ofL.1 h3).2
  omega
theorem pn_start {n : Na} (hO : Ok n) : PN n (ofL n.st) := pn_of hO fun z hz => asc_in hO.st hz
theorem pn_step {n : Na} (hO : Ok n) (s : List Nat) (x : Nat) : PN n (stepW n.es s x) := pn_of hO fun z hz => by
  obtain ⟨e, he, _, _, rfl⟩ := Nf.mem_tg.1 hz
  exact (Nf.edE_in (hO.ed e he)).2.1
theorem pn_succ {n : Na} (hO : Ok n) (s : List Nat) : ∀ t ∈ succN n s, PN n t := fun t ht => by
  obtain ⟨x, _, rfl⟩ := List.mem_map.1 ht
  exact pn_step hO s x
/-- Slices of numbers in a row of one's own. -/
def SetsO (B : Nat) (w : World) (sv : Value) (L : List (List Int)) : Prop :=
  ∃ Q : List (Value × List Int), Q.map (fun q => q.2) = L ∧ w.ownsRow B 23 1 sv L.length (Q.map fun q => q.1) ∧ ∀ q ∈ Q, w.ownsRow B 3 1 q.1 q.2.length (zvs q.2)
theorem SetsO.nil (B : Nat) (w : World) : SetsO B w (.slice none 0 0) [] := ⟨[], rfl, ⟨rfl, .inl ⟨rfl, rfl⟩⟩, fun q h => by cases h⟩
theorem SetsO.below {B : Nat} {w w' : World} {sv : Value} {L : List (List Int)} (h : SetsO B w sv L) (hb : Below w.heap.size w w') : SetsO B w' sv L := by
  obtain ⟨Q, e, ho, hq⟩ := h
  exact ⟨Q, e, ho.below hb, fun q h1 => (hq q h1).below hb⟩
theorem SetsO.low {B B' : Nat} {w : World} {sv : Value} {L : List (List Int)} (h : SetsO B w sv L) (hb : B' ≤ B) : SetsO B' w sv L := by
  obtain ⟨Q, e, ho, hq⟩ := h
  exact ⟨Q, e, ownsRow_mono ho hb, fun q h1 => ownsRow_mono (hq q h1) hb⟩
theorem SetsO.form {B : Nat} {w : World} {sv : Value} {L : List (List Int)} (h : SetsO B w sv L) : ∃ A c, sv = .slice A L.length c ∧ L.length ≤ c := by
  obtain ⟨Q, e, ho, hq⟩ := h
  exact Ap.own_form ho
/-- A change of another row, or of a block of other cells. -/
theorem SetsO.other {B e n : Nat} {w w' : World} {sv v : Value} {L : List (List Int)} {xs : List Value} (h : SetsO B w sv L) {B' size : Nat} (hv : w.ownsRow B' e size v n xs) (h1 : 23 ≠ e) (h2 : 3 ≠ e) (hg : w.grownBy w' v.ownBlock) : SetsO B w' sv L := by
  obtain ⟨Q, e', ho, hq⟩ := h
  exact ⟨Q, e', ho.kept hg (row_ne ho hv h1), fun q hq1 => (hq q hq1).kept hg (row_ne (hq q hq1) hv h2)⟩
theorem SetsO.put {B : Nat} {w : World} {sv : Value} {L : List (List Int)} (h : SetsO B w sv L) {b : Nat} {cs : Array Value} {t : TypeId} {fz : Nat × Nat} (hb : w.heap[b]? = some (Obj.cells cs t fz)) (h1 : 23 ≠ t) (h2 : 3 ≠ t) (j : Nat) (u : Value) : SetsO B (w.setCell ⟨b, j, none⟩ u) sv L := by
  obtain ⟨Q, e, ho, hq⟩ := h
  exact ⟨Q, e, row_put ho (own_ne hb ho h1) _ _, fun q hq1 => row_put (hq q hq1) (own_ne hb (hq q hq1) h2) _ _⟩
theorem SetsO.tabs {B : Nat} {w : World} {A : Option Addr} {n c : Nat} {L : List (List Int)} (h : SetsO B w (.slice A n c) L) (hn : n = L.length) : Tabs w A L := by
  obtain ⟨Q, e, ho, hq⟩ := h
  subst hn
  have hl : Q.length = L.length := by rw [← e, List.length_map]
  have hv := Vals.of_own (f := fun j => (Q.map fun q => q.1).getD j (.slice none 0 0)) ho fun j hj => by
    have : j < (Q.map fun q => q.1).length := by rw [List.length_map]; omega
    rw [List.getD_eq_getElem?_getD, List.getElem?_eq_getElem this]; rfl
  intro j hj
  obtain ⟨ad, e1, h1, h2⟩ := hv j hj
  have hjQ : j < Q.length := by omega
  have h3 := hq Q[j] (List.getElem_mem hjQ)
  obtain ⟨p, cp, ep, _⟩ := Ap.own_form h3
  have e2 : tb L j = Q[j].2 := by
    unfold tb
    rw [← e, List.getD_eq_getElem?_getD, List.getElem?_map, List.getElem?_eq_getElem hjQ]; rfl
  refine ⟨ad, p, cp, e1, h1, ?_, ?_⟩
  · rw [h2, e2, ← ep]
    simp only [List.getD_eq_getElem?_getD, List.getElem?_map, List.getElem?_eq_getElem hjQ]
    rfl
  · rw [e2]
    rw [ep] at h3
    exact Dg.ints_row h3 rfl
theorem SetsO.push {B : Nat} {w Z : World} {sv sv' v : Value} {L : List (List Int)} {l : List Int} {tmp : Obj} {Q : List (Value × List Int)} (e : Q.map (fun q => q.2) = L) (ho : w.ownsRow B 23 1 sv L.length (Q.map fun q => q.1)) (hq : ∀ q ∈ Q, w.ownsRow B 3 1 q.1 q.2.length (zvs q.2)) (hl : w.ownsRow B 3 1 v l.length (zvs l))
    (hown : Z.ownsRow B 23 1 sv' (L.length + 1) ((Q.map fun q => q.1) ++ [v])) (hg : (w.alloc tmp).grownBy Z sv.ownBlock) : SetsO B Z sv' (L ++ [l]) := by
  have keep : ∀ {v : Value} {l : List Int}, w.ownsRow B 3 1 v l.length (zvs l) → Z.ownsRow B 3 1 v l.length (zvs l) := fun {v l} h => (h.alloc tmp).kept hg (row_ne (h.alloc tmp) (ho.alloc tmp) (by decide))
  refine ⟨Q ++ [(v, l)], by rw [List.map_append, e]; rfl, ?_, fun q h1 => ?_⟩
  · rw [List.length_append, List.map_append]
    exact hown
  · rcases List.mem_append.1 h1 with h2 | h2
    · exact keep (hq q h2)
    · rw [List.mem_singleton] at h2
      subst h2
      exact keep hl
theorem RowsO.mono {B B' : Nat} {w : World} {rv : Value} {L : List (List Int)} {C : Nat → Prop} (h : RowsO B w rv L C) (hb : B' ≤ B) : RowsO B' w rv L fun _ => True := by
  obtain ⟨Q, e, ho, hq⟩ := h
  exact ⟨Q, e, ownsRow_mono ho hb, fun q h1 => ⟨Nat.le_trans hb (hq q h1).1, trivial, (hq q h1).2.2⟩⟩
/-- A block of four cells, known whole. -/
def Blk4 (w : World) (b : Nat) (v0 v1 v2 v3 : Value) : Prop := w.heap[b]? = some (.cells #[v0, v1, v2, v3] 54 (0, 0))
theorem Blk4.new (w : World) (v0 v1 v2 v3 : Value) : Blk4 (w.alloc (.cells #[v0, v1, v2, v3] 54)) w.heap.size v0 v1 v2 v3 := World.alloc_heap_new w _
theorem Blk4.below {w w' : World} {b : Nat} {v0 v1 v2 v3 : Value} (h : Blk4 w b v0 v1 v2 v3) (hb : Below w.heap.size w w') : Blk4 w' b v0 v1 v2 v3 := (hb.block b (blk_lt h)).trans h
theorem Blk4.cells {w : World} {b : Nat} {v0 v1 v2 v3 : Value} (h : Blk4 w b v0 v1 v2 v3) : w.cell? ⟨b, 0, none⟩ = some v0 ∧ w.cell? ⟨b, 1, none⟩ = some v1 ∧ w.cell? ⟨b, 2, none⟩ = some v2 ∧ w.cell? ⟨b, 3, none⟩ = some v3 := by
  unfold Blk4 at h
  simp [World.cell?, h]
theorem Blk4.set3 {w : World} {b : Nat} {v0 v1 v2 v3 : Value} (h : Blk4 w b v0 v1 v2 v3) (u : Value) : Blk4 (w.setCell ⟨b, 3, none⟩ u) b v0 v1 v2 u := heap_put h 3 u
def put4 (Y : World) (b : Nat) (v0 v1 v2 v3 : Value) : World := (((Y.setCell ⟨b, 0, none⟩ v0).setCell ⟨b, 1, none⟩ v1).setCell ⟨b, 2, none⟩ v2).setCell ⟨b, 3, none⟩ v3
theorem store4 {Y : World} {b : Nat} {u0 u1 u2 u3 : Value} (h : Blk4 Y b u0 u1 u2 u3) (v0 v1 v2 v3 : Value) :
    (Y.cell? ⟨b, 0, none⟩ = some u0 ∧ Y.frozen? ⟨b, 0, none⟩ = false) ∧ ((Y.setCell ⟨b, 0, none⟩ v0).cell? ⟨b, 1, none⟩ = some u1 ∧ (Y.setCell ⟨b, 0, none⟩ v0).frozen? ⟨b, 1, none⟩ = false) ∧
    (((Y.setCell ⟨b, 0, none⟩ v0).setCell ⟨b, 1, none⟩ v1).cell? ⟨b, 2, none⟩ = some u2 ∧ ((Y.setCell ⟨b, 0, none⟩ v0).setCell ⟨b, 1, none⟩ v1).frozen? ⟨b, 2, none⟩ = false) ∧
    ((((Y.setCell ⟨b, 0, none⟩ v0).setCell ⟨b, 1, none⟩ v1).setCell ⟨b, 2, none⟩ v2).cell? ⟨b, 3, none⟩ = some u3 ∧ (((Y.setCell ⟨b, 0, none⟩ v0).setCell ⟨b, 1, none⟩ v1).setCell ⟨b, 2, none⟩ v2).frozen? ⟨b, 3, none⟩ = false) ∧
    Blk4 (put4 Y b v0 v1 v2 v3) b v0 v1 v2 v3 ∧ ∀ B, B ≤ b → Below B Y (put4 Y b v0 v1 v2 v3) := by
  have h1 : Blk4 (Y.setCell ⟨b, 0, none⟩ v0) b v0 u1 u2 u3 := heap_put h 0 v0
  have h2 : Blk4 ((Y.setCell ⟨b, 0, none⟩ v0).setCell ⟨b, 1, none⟩ v1) b v0 v1 u2 u3 := heap_put h1 1 v1
  have h3 : Blk4 (((Y.setCell ⟨b, 0, none⟩ v0).setCell ⟨b, 1, none⟩ v1).setCell ⟨b, 2, none⟩ v2) b v0 v1 v2 u3 := heap_put h2 2 v2
  exact ⟨⟨h.cells.1, free_of h 0⟩, ⟨h1.cells.2.1, free_of h1 1⟩, ⟨h2.cells.2.2.1, free_of h2 2⟩, ⟨h3.cells.2.2.2, free_of h3 3⟩, heap_put h3 3 v3, fun B hB => ((((Below.refl B Y).setCell (p := ⟨b, 0, none⟩) hB _).setCell (p := ⟨b, 1, none⟩) hB _).setCell (p := ⟨b, 2, none⟩) hB _).setCell (p := ⟨b, 3, none⟩) hB _⟩
theorem put4_other {Y : World} {b k : Nat} (v0 v1 v2 v3 : Value) (h : k ≠ b) : (put4 Y b v0 v1 v2 v3).heap[k]? = Y.heap[k]? := by
  unfold put4
  rw [Below.heap_setCell _ _ _ k h, Below.heap_setCell _ _ _ k h, Below.heap_setCell _ _ _ k h, Below.heap_setCell _ _ _ k h]
theorem size_put (Y : World) (p : Addr) (v : Value) : (Y.setCell p v).heap.size = Y.heap.size := by show (Array.modify _ _ _).size = _; rw [Array.size_modify]
theorem put4_size (Y : World) (b : Nat) (v0 v1 v2 v3 : Value) : (put4 Y b v0 v1 v2 v3).heap.size = Y.heap.size := by
  unfold put4
  rw [size_put, size_put, size_put, size_put]
section
variable (n : Na) (A B C : Option Addr) (a b c : Nat) (w : World) (hx : NaAt w n A B C) (hl : NaLen n)
include hx hl
omit hx hl in
theorem explN (hO : Ok n) (bud : Nat) (hb1 : 1 ≤ bud) (hb2 : bud ≤ 4096) (X : World) (mb : Nat) (P1 : Option Addr) (c1 : Nat) (hX : Below w.heap.size w X) (hT : Tabs2 w) (hm : MovAt X mb (2 ^ n.V.toNat) n.S.toNat (mvF n.es)) (hs : SetR X (.slice P1 (ofL n.st).length c1) (ofL n.st)) :
    Calls Tryd.prog 63 #[.slice P1 (ofL n.st).length c1, .func (.func 65) #[.slice (some ⟨mb, 0, none⟩) (2 ^ n.V.toNat) (2 ^ n.V.toNat)] #[], .func (.func 66) #[] #[], .int .i64 bud] X (Xs.ExplPost X (succN n) bud (detN n bud)) := by
  refine Xs.explore_any X _ (ofL n.st) (succN n) _ bud (PN n) (fun s hs => ⟨hs.2.1, hs.2.2.1⟩) hs (pn_start hO) (fun s _ => pn_succ hO s) (fun s _ => ?_) hb1 (by omega) (hT.below hX) (fun Y hY u s hR hP => ?_)
  · unfold succN rowS
    rw [List.length_map, List.length_range]
    have : 2 ^ n.V.toNat ≤ 2 ^ 6 := Nat.pow_le_pow_right (by decide) (by have := hO.v6; omega)
    omega
  · obtain ⟨p, cc, rfl, h1, h2, h3, _⟩ := hR
    refine (successors_any n hO mb p s cc Y (hm.below hY) h1 h2 h3 ((hT.below hX).below hY).tz hP.2.2.2).mono ?_
    rintro e Z ⟨gl, c', rfl, h4, h5, h6⟩
    refine ⟨some ⟨gl, 0, none⟩, c', ?_, h5, h6, fun ad ha _ => .inr (by cases ha; exact h4)⟩
    unfold succN rowS
    rw [List.length_map, List.length_range]
set_option maxHeartbeats 4000000 in
theorem Determinize_bad (bud : Int) (h0 : chkN n ≠ 0 ∨ ¬ (1 ≤ bud ∧ bud ≤ 4096)) :
    Calls Tryd.prog 25 #[.agg #[.int .i64 n.V, .int .i64 n.S, .slice A n.st.length a, .slice B n.fi.length b, .slice C n.es.length c], .int .i64 bud] w fun e w' => e = .returned (.tuple #[.agg #[.int .i64 0, .int .i64 0, .slice none 0 0, .slice none 0 0], .slice none 0 0, .int .i64 (detE n bud)]) ∧ Below w.heap.size w w' := by
  have hb0 := bal (bal (Below.refl w.heap.size w) (.cells #[.int .i64 n.V, .int .i64 n.S, .slice A n.st.length a, .slice B n.fi.length b, .slice C n.es.length c] 26)) (.cells #[.int .i64 0, .int .i64 0, .slice none 0 0, .slice none 0 0] 54)
  have hN0 := (Blk.new w (.int .i64 n.V) (.int .i64 n.S) (.slice A n.st.length a) (.slice B n.fi.length b) (.slice C n.es.length c)).below (bal (Below.refl _ _) (.cells #[.int .i64 0, .int .i64 0, .slice none 0 0, .slice none 0 0] 54))
  have hR0 := Blk4.new (w.alloc (.cells #[.int .i64 n.V, .int .i64 n.S, .slice A n.st.length a, .slice B n.fi.length b, .slice C n.es.length c] 26)) (.int .i64 0) (.int .i64 0) (.slice none 0 0) (.slice none 0 0)
  rw [World.size_alloc] at hR0
  have HC := Check6_any n A B C a b c _ (hx.below hb0) hl
  by_cases hc : chkN n = 0
  · have hbud : ¬ (1 ≤ bud ∧ bud ≤ 4096) := h0.resolve_left (fun h => h hc)
    have HE : Hid (detE n bud = 1) := by show _ = _; unfold detE; rw [if_neg (by omega), if_neg hbud]
    rw [hc] at HC
    have HC := Lib.hid HC
    have hways : (decide (bud < 1) = true) ∨ (decide (bud < 1) = false ∧ decide (4096 < bud) = true) := by
      by_cases h1 : bud < 1
      · exact .inl (decide_eq_true h1)
      · exact .inr ⟨decide_eq_false h1, decide_eq_true (by omega)⟩
    clear hx hl h0 hc hbud
    rw [HE.out]
    clear HE
    obtain ⟨z0, z1, z2, z3, z4⟩ := hN0.cells
    rcases hways with h1 | ⟨h1, h2⟩
    all_goals
      go_enter Tryd.func25, Tryd.ntmps25
      go_wp2_with (go_at_call 10; ((with_reducible refine HC.out.mono ?_); rintro e w2 ⟨rfl, hb2⟩); clear z0 z1 z2 z3 z4; replace hR0 := hR0.below hb2; replace hb0 := stepB hb0 hb2; obtain ⟨⟨p0, f0⟩, ⟨p1, f1⟩, ⟨p2, f2⟩, ⟨p3, f3⟩, hR5, hB5⟩ := store4 hR0 (.int .i64 0) (.int .i64 0) (.slice none 0 0) (.slice none 0 0); have HF := Lib.hid (And.intro hR5.cells (hB5 w.heap.size (by omega))); clear hR5 hB5)
      obtain ⟨⟨y0, y1, y2, y3⟩, hb5⟩ := HF.out
      unfold put4 at y0 y1 y2 y3 hb5
      refine bodyPost_ret (v := .tuple #[.agg #[.int .i64 0, .int .i64 0, .slice none 0 0, .slice none 0 0], .slice none 0 0, .int .i64 1]) (by simp [results, Tryd.results25, go_sem, y0, y1, y2, y3]) rfl ?_
      exact ⟨rfl, hb0.trans hb5⟩
  · have HE : Hid (detE n bud = chkN n) := by show _ = _; unfold detE; rw [if_pos hc]
    have hne : (chkN n != 0) = true := by rw [bne_iff_ne]; exact hc
    have HC := Lib.hid HC
    clear hx hl h0 hc
    rw [HE.out]
    clear HE
    generalize chkN n = E at *
    obtain ⟨z0, z1, z2, z3, z4⟩ := hN0.cells
    go_enter Tryd.func25, Tryd.ntmps25
    go_wp2_with (go_at_call 10; ((with_reducible refine HC.out.mono ?_); rintro e w2 ⟨rfl, hb2⟩); clear z0 z1 z2 z3 z4; replace hR0 := hR0.below hb2; replace hb0 := stepB hb0 hb2; obtain ⟨⟨p0, f0⟩, ⟨p1, f1⟩, ⟨p2, f2⟩, ⟨p3, f3⟩, hR5, hB5⟩ := store4 hR0 (.int .i64 0) (.int .i64 0) (.slice none 0 0) (.slice none 0 0); have HF := Lib.hid (And.intro hR5.cells (hB5 w.heap.size (by omega))); clear hR5 hB5)
    obtain ⟨⟨y0, y1, y2, y3⟩, hb5⟩ := HF.out
    unfold put4 at y0 y1 y2 y3 hb5
    refine bodyPost_ret (v := .tuple #[.agg #[.int .i64 0, .int .i64 0, .slice none 0 0, .slice none 0 0], .slice none 0 0, .int .i64 E]) (by simp [results, Tryd.results25, go_sem, y0, y1, y2, y3]) rfl ?_
    exact ⟨rfl, hb0.trans hb5⟩
set_option maxHeartbeats 8000000 in
theorem Determinize_none (bud : Nat) (hT : Tabs2 w) (hc : chkN n = 0) (hb1 : 1 ≤ bud) (hb2 : bud ≤ 4096) (hd : detN n bud = none) :
    Calls Tryd.prog 25 #[.agg #[.int .i64 n.V, .int .i64 n.S, .slice A n.st.length a, .slice B n.fi.length b, .slice C n.es.length c], .int .i64 bud] w fun e w' => e = .returned (.tuple #[.agg #[.int .i64 0, .int .i64 0, .slice none 0 0, .slice none 0 0], .slice none 0 0, .int .i64 10]) ∧ Below w.heap.size w w' := by
  have hb0 := bal (bal (Below.refl w.heap.size w) (.cells #[.int .i64 n.V, .int .i64 n.S, .slice A n.st.length a, .slice B n.fi.length b, .slice C n.es.length c] 26)) (.cells #[.int .i64 0, .int .i64 0, .slice none 0 0, .slice none 0 0] 54)
  have hN0 := (Blk.new w (.int .i64 n.V) (.int .i64 n.S) (.slice A n.st.length a) (.slice B n.fi.length b) (.slice C n.es.length c)).below (bal (Below.refl _ _) (.cells #[.int .i64 0, .int .i64 0, .slice none 0 0, .slice none 0 0] 54))
  have hR0 := Blk4.new (w.alloc (.cells #[.int .i64 n.V, .int .i64 n.S, .slice A n.st.length a, .slice B n.fi.length b, .slice C n.es.length c] 26)) (.int .i64 0) (.int .i64 0) (.slice none 0 0) (.slice none 0 0)
  rw [World.size_alloc] at hR0
  have HC := Check6_any n A B C a b c _ (hx.below hb0) hl
  rw [hc] at HC
  have HC := Lib.hid HC
  have hO := ok_of hc
  have HOf := Lib.hid fun X (hX : Below w.heap.size w X) => Of_own A n.st a X (hx.st.below hX) (by have := hl.st; unfold maxLen; omega)
  have HMv := Lib.hid fun X (hX : Below w.heap.size w X) => movesOf_any n A B C a b c X (hx.below hX) hl hO
  have HEx := Lib.hid fun X mb P1 c1 (hX : Below w.heap.size w X) hm hs => (explN n w hO bud hb1 hb2 X mb P1 c1 hX hT hm hs).mono (R' := fun e w' => e = .returned (.tuple #[.slice none 0 0, .slice none 0 0, .bool false]) ∧ Below X.heap.size X w') fun e w' h => by
    rcases h with ⟨_, h1, h2⟩ | ⟨F, _, _, h1, _⟩
    · exact ⟨h1, h2⟩
    · rw [hd] at h1; cases h1
  have hd1 : decide ((bud : Int) < 1) = false := decide_eq_false (by omega)
  have hd2 : decide ((4096 : Int) < (bud : Int)) = false := decide_eq_false (by omega)
  have hd3 : decide (bud < 1) = false := decide_eq_false (by omega)
  have hd4 : decide (4096 < bud) = false := decide_eq_false (by omega)
  have hb11 : (1 : Int) ≤ (bud : Int) := by omega
  clear hx hl hT hc hd hO
  obtain ⟨z0, z1, z2, z3, z4⟩ := hN0.cells
  go_enter Tryd.func25, Tryd.ntmps25
  go_wp2_with (go_at_call 10; ((with_reducible refine HC.out.mono ?_); rintro e w2 ⟨rfl, hb2⟩); clear z0 z1 z2 z3 z4; replace hR0 := hR0.below hb2; replace hN0 := hN0.below hb2; replace hb0 := stepB hb0 hb2; clear hb2)
  refine wp_region_any (by kernel_rfl) ?_
  change wpAny _ _ _ _ _ _ _ (World.drew _)
  have hS0 : (fun X : World => Blk X w.heap.size (.int .i64 n.V) (.int .i64 n.S) (.slice A n.st.length a) (.slice B n.fi.length b) (.slice C n.es.length c)) w2.drew := hN0.below (drew_below w2)
  have hR0' := hR0.below (drew_below w2)
  have hb0' := stepB hb0 (drew_below w2)
  clear hN0 hR0 hb0
  generalize w2.drew = X0 at *
  refine wpAny_head 14 14 (fun X : World => Blk X w.heap.size (.int .i64 n.V) (.int .i64 n.S) (.slice A n.st.length a) (.slice B n.fi.length b) (.slice C n.es.length c)) rfl rfl (by kernel_rfl) (by kernel_rfl) (by kernel_rfl) (fun hA => ?_)
  refine wpHead_take (i := 0) (v := ?_) (by kernel_rfl) hA (at_drop rfl) (by decide) (by kernel_rfl) (by kernel_rfl) (by kernel_rfl) (fun _ _ _ h => h) (Or.inl ⟨by rfl, ?_⟩) hS0 (fun hA => ?_)
  rotate_left
  · (intro w hSw; obtain ⟨s0, s1, s2, s3, s4⟩ := Blk.cells hSw; go_simp <;> with_reducible rfl)
  simp only [Act.put, List.setIfInBounds_toArray, List.set_cons_zero, List.set_cons_succ]
  refine wpHead_take (i := 1) (v := ?_) (by kernel_rfl) hA (at_drop rfl) (by decide) (by kernel_rfl) (by kernel_rfl) (by kernel_rfl) (fun _ _ _ h => h) (Or.inl ⟨by rfl, ?_⟩) hS0 (fun hA => ?_)
  rotate_left
  · (intro w hSw; obtain ⟨s0, s1, s2, s3, s4⟩ := Blk.cells hSw; go_simp <;> with_reducible rfl)
  simp only [Act.put, List.setIfInBounds_toArray, List.set_cons_zero, List.set_cons_succ]
  refine wpHead_take (i := 3) (v := ?_) (by kernel_rfl) hA (at_drop rfl) (by decide) (by kernel_rfl) (by kernel_rfl) (by kernel_rfl) (fun _ _ _ h => h) (Or.inl ⟨by rfl, ?_⟩) hS0 (fun hA => ?_)
  rotate_left
  · (intro w hSw; obtain ⟨s0, s1, s2, s3, s4⟩ := Blk.cells hSw; go_simp <;> with_reducible rfl)
  simp only [Act.put, List.setIfInBounds_toArray, List.set_cons_zero, List.set_cons_succ]
  refine wpHead_take (i := 6) (v := ?_) (by kernel_rfl) hA (at_drop rfl) (by decide) (by kernel_rfl) (by kernel_rfl) (by kernel_rfl) (fun _ _ _ h => h) (Or.inl ⟨by rfl, ?_⟩) hS0 (fun hA => ?_)
  rotate_left
  · (intro w hSw; obtain ⟨s0, s1, s2, s3, s4⟩ := Blk.cells hSw; go_simp <;> with_reducible rfl)
  simp only [Act.put, List.setIfInBounds_toArray, List.set_cons_zero, List.set_cons_succ]
  have hA2 := hnext hA (rs := [2]) (i := 2) (by kernel_rfl) (by decide) (by decide)
  refine wpHead_ready (rs := [2]) (by kernel_rfl) (by decide) (AllHead.cons (at_drop rfl) (by decide) (fun KK hK => ?_) AllHead.nil)
  replace hA := hA2
  go_simp
  refine (HOf.out X0 hb0').mono ?_
  rintro e X1 ⟨P1, c1, rfl, ho1, hb1⟩
  have hS1 : (fun X : World => Blk X w.heap.size (.int .i64 n.V) (.int .i64 n.S) (.slice A n.st.length a) (.slice B n.fi.length b) (.slice C n.es.length c)) X1 := Blk.below hS0 hb1
  have hR1 := hR0'.below hb1
  have hb1' := stepB hb0' hb1
  refine hK _ _ hS1 ?_
  clear hK KK
  try simp only [Act.put, List.setIfInBounds_toArray, List.set_cons_zero, List.set_cons_succ]
  have hA4 := hnext hA (rs := [4]) (i := 4) (by kernel_rfl) (by decide) (by decide)
  refine wpHead_ready (rs := [4]) (by kernel_rfl) (by decide) (AllHead.cons (at_drop rfl) (by decide) (fun KK hK => ?_) AllHead.nil)
  replace hA := hA4
  go_simp
  refine (HMv.out X1 hb1').mono ?_
  rintro e X2 ⟨mb, rfl, hm2, hb2⟩
  have hS2 : (fun X : World => Blk X w.heap.size (.int .i64 n.V) (.int .i64 n.S) (.slice A n.st.length a) (.slice B n.fi.length b) (.slice C n.es.length c)) X2 := Blk.below hS1 hb2
  have hR2 := hR1.below hb2
  have hb2' := stepB hb1' hb2
  refine hK _ _ hS2 ?_
  clear hK KK
  try simp only [Act.put, List.setIfInBounds_toArray, List.set_cons_zero, List.set_cons_succ]
  refine wpHead_take (i := 5) (v := ?_) (by kernel_rfl) hA (at_drop rfl) (by decide) (by kernel_rfl) (by kernel_rfl) (by kernel_rfl) (fun _ _ _ h => h) (Or.inl ⟨by rfl, ?_⟩) hS2 (fun hA => ?_)
  rotate_left
  · (intro w hSw; obtain ⟨s0, s1, s2, s3, s4⟩ := Blk.cells hSw; go_simp <;> with_reducible rfl)
  simp only [Act.put, List.setIfInBounds_toArray, List.set_cons_zero, List.set_cons_succ]
  have hA7 := hnext hA (rs := [7]) (i := 7) (by kernel_rfl) (by decide) (by decide)
  refine wpHead_ready (rs := [7]) (by kernel_rfl) (by decide) (AllHead.cons (at_drop rfl) (by decide) (fun KK hK => ?_) AllHead.nil)
  replace hA := hA7
  go_simp
  refine (HEx.out X2 mb P1 c1 hb2' hm2 (SetR.below (SetR.own ho1) hb2)).mono ?_
  rintro e X3 ⟨rfl, hb3⟩
  have hS3 : (fun X : World => Blk X w.heap.size (.int .i64 n.V) (.int .i64 n.S) (.slice A n.st.length a) (.slice B n.fi.length b) (.slice C n.es.length c)) X3 := Blk.below hS2 hb3
  have hR3 := hR2.below hb3
  have hb3' := stepB hb2' hb3
  refine hK _ _ hS3 ?_
  clear hK KK
  try simp only [Act.put, List.setIfInBounds_toArray, List.set_cons_zero, List.set_cons_succ]
  refine wpHead_take (i := 8) (v := ?_) (by kernel_rfl) hA (at_drop rfl) (by decide) (by kernel_rfl) (by kernel_rfl) (by kernel_rfl) (fun _ _ _ h => h) (Or.inl ⟨by rfl, ?_⟩) hS3 (fun hA => ?_)
  rotate_left
  · (intro w hSw; obtain ⟨s0, s1, s2, s3, s4⟩ := Blk.cells hSw; go_simp <;> with_reducible rfl)
  simp only [Act.put, List.setIfInBounds_toArray, List.set_cons_zero, List.set_cons_succ]
  refine wpHead_take (i := 9) (v := ?_) (by kernel_rfl) hA (at_drop rfl) (by decide) (by kernel_rfl) (by kernel_rfl) (by kernel_rfl) (fun _ _ _ h => h) (Or.inl ⟨by rfl, ?_⟩) hS3 (fun hA => ?_)
  rotate_left
  · (intro w hSw; obtain ⟨s0, s1, s2, s3, s4⟩ := Blk.cells hSw; go_simp <;> with_reducible rfl)
  simp only [Act.put, List.setIfInBounds_toArray, List.set_cons_zero, List.set_cons_succ]
  refine wpHead_take (i := 10) (v := ?_) (by kernel_rfl) hA (at_drop rfl) (by decide) (by kernel_rfl) (by kernel_rfl) (by kernel_rfl) (fun _ _ _ h => h) (Or.inl ⟨by rfl, ?_⟩) hS3 (fun hA => ?_)
  rotate_left
  · (intro w hSw; obtain ⟨s0, s1, s2, s3, s4⟩ := Blk.cells hSw; go_simp <;> with_reducible rfl)
  simp only [Act.put, List.setIfInBounds_toArray, List.set_cons_zero, List.set_cons_succ]
  refine wpHead_take (i := 11) (v := ?_) (by kernel_rfl) hA (at_drop rfl) (by decide) (by kernel_rfl) (by kernel_rfl) (by kernel_rfl) (fun _ _ _ h => h) (Or.inl ⟨by rfl, ?_⟩) hS3 (fun hA => ?_)
  rotate_left
  · (intro w hSw; obtain ⟨s0, s1, s2, s3, s4⟩ := Blk.cells hSw; go_simp <;> with_reducible rfl)
  simp only [Act.put, List.setIfInBounds_toArray, List.set_cons_zero, List.set_cons_succ]
  refine wpHead_take (i := 12) (v := ?_) (by kernel_rfl) hA (at_drop rfl) (by decide) (by kernel_rfl) (by kernel_rfl) (by kernel_rfl) (fun _ _ _ h => h) (Or.inl ⟨by rfl, ?_⟩) hS3 (fun hA => ?_)
  rotate_left
  · (intro w hSw; obtain ⟨s0, s1, s2, s3, s4⟩ := Blk.cells hSw; go_simp <;> with_reducible rfl)
  simp only [Act.put, List.setIfInBounds_toArray, List.set_cons_zero, List.set_cons_succ]
  refine wpHead_take (i := 13) (v := ?_) (by kernel_rfl) hA (at_drop rfl) (by decide) (by kernel_rfl) (by kernel_rfl) (by kernel_rfl) (fun _ _ _ h => h) (Or.inl ⟨by rfl, ?_⟩) hS3 (fun hA => ?_)
  rotate_left
  · (intro w hSw; obtain ⟨s0, s1, s2, s3, s4⟩ := Blk.cells hSw; go_simp <;> with_reducible rfl)
  simp only [Act.put, List.setIfInBounds_toArray, List.set_cons_zero, List.set_cons_succ]
  refine wpHead_end (by kernel_rfl) ?_
  simp only [List.drop_succ_cons, List.drop_zero]
  obtain ⟨⟨p0, f0⟩, ⟨p1, f1⟩, ⟨p2, f2⟩, ⟨p3, f3⟩, hR5, hB5⟩ := store4 hR3 (.int .i64 0) (.int .i64 0) (.slice none 0 0) (.slice none 0 0)
  have HF := Lib.hid (And.intro hR5.cells (hB5 w.heap.size (by omega)))
  clear hR5 hB5
  go_wp2
  obtain ⟨⟨y0, y1, y2, y3⟩, hb5⟩ := HF.out
  unfold put4 at y0 y1 y2 y3 hb5
  refine bodyPost_ret (v := .tuple #[.agg #[.int .i64 0, .int .i64 0, .slice none 0 0, .slice none 0 0], .slice none 0 0, .int .i64 10]) (by simp [results, Tryd.results25, go_sem, y0, y1, y2, y3]) rfl ?_
  exact ⟨rfl, hb3'.trans hb5⟩
end
/-- What Determinize leaves. -/
structure DetO (B : Nat) (w : World) (n : Na) (F : List (List Nat)) (rv fv sv : Value) : Prop where
  nx : RowsO B w rv (nums (succN n) F F.length) fun _ => True
  fi : w.ownsRow B 4 1 fv F.length (F.map fun s => .bool (meetB s (ofL n.fi)))
  se : SetsO B w sv (F.map elsI)
def DetPost (w : World) (n : Na) (F : List (List Nat)) (e : Ending) (w' : World) : Prop := ∃ rv fv sv, e = .returned (.tuple #[.agg #[.int .i64 n.V, .int .i64 0, rv, fv], sv, .int .i64 0]) ∧ DetO w.heap.size w' n F rv fv sv ∧ Below w.heap.size w w'
theorem row_at {w : World} {B e n c k : Nat} {A : Option Addr} {vs : List Value} {u : Value} (h : w.ownsRow B e 1 (.slice A n c) n vs) (hk : k < n) (hu : vs[k]? = some u) : ∃ ad, A = some ad ∧ ad.block < w.heap.size ∧ w.cell? (ad.add k) = some u ∧ (Value.slice A n c).ownBlock = some ad.block := by
  rcases h.2 with ⟨h3, h4⟩ | ⟨g, cap, cur, h3, _, hg, _⟩
  · omega
  · injection h3 with h4
    subst h4
    exact ⟨_, rfl, lt_of_block hg, h.cells (g := g) rfl k u hu, rfl⟩
/-- A change of one block of other cells. -/
theorem SetsO.keep {B : Nat} {w w' : World} {sv : Value} {L : List (List Int)} (h : SetsO B w sv L) {g : Nat} {cs : Array Value} {t : TypeId} {fz : Nat × Nat} (hb : w.heap[g]? = some (Obj.cells cs t fz)) (h1 : 23 ≠ t) (h2 : 3 ≠ t) (hk : ∀ b, b ≠ g → w'.heap[b]? = w.heap[b]?) : SetsO B w' sv L := by
  obtain ⟨Q, e, ho, hq⟩ := h
  exact ⟨Q, e, own_eq ho fun g' hg => hk g' (fun e => own_ne hb ho h1 (e ▸ hg)), fun q hq1 => own_eq (hq q hq1) fun g' hg => hk g' (fun e => own_ne hb (hq q hq1) h2 (e ▸ hg))⟩
/-- Behind k finals and m sets. -/
structure DetL (w w4 : World) (n : Na) (F : List (List Nat)) (g1 : Nat) (rv : Value) (k m : Nat) (A3 : Option Addr) (c3 : Nat) (sv : Value) (X : World) : Prop where
  d : Blk4 X g1 (.int .i64 n.V) (.int .i64 0) rv (.slice A3 k c3)
  f : X.ownsRow w4.heap.size 4 1 (.slice A3 k c3) k ((F.take k).map fun s => .bool (meetB s (ofL n.fi)))
  s : SetsO w4.heap.size X sv ((F.take m).map elsI)
  fr : w4.heap.size ≤ X.heap.size ∧ ∀ b, b < w4.heap.size → b ≠ g1 → X.heap[b]? = w4.heap[b]?
  b : Below w.heap.size w X
  lo : w.heap.size ≤ g1 ∧ w.heap.size ≤ w4.heap.size
theorem DetL.c3 {w w4 : World} {n : Na} {F : List (List Nat)} {g1 : Nat} {rv : Value} {k m : Nat} {A3 : Option Addr} {c3 : Nat} {sv : Value} {X : World} (h : DetL w w4 n F g1 rv k m A3 c3 sv X) : X.cell? ⟨g1, 3, none⟩ = some (.slice A3 k c3) := h.d.cells.2.2.2
theorem DetL.below {w w4 : World} {n : Na} {F : List (List Nat)} {g1 : Nat} {rv : Value} {k m : Nat} {A3 : Option Addr} {c3 : Nat} {sv : Value} {X Y : World} (h : DetL w w4 n F g1 rv k m A3 c3 sv X) (hb : Below X.heap.size X Y) : DetL w w4 n F g1 rv k m A3 c3 sv Y :=
  ⟨h.d.below hb, h.f.below hb, h.s.below hb, ⟨Nat.le_trans h.fr.1 hb.size, fun b h1 h2 => (hb.block b (by have := h.fr.1; omega)).trans (h.fr.2 b h1 h2)⟩, stepB h.b hb, h.lo⟩
theorem take_snocF {F : List (List Nat)} {k : Nat} (hk : k < F.length) {α : Type} (f : List Nat → α) : (F.take (k + 1)).map f = (F.take k).map f ++ [f (F.getD k [])] := by
  rw [List.take_add_one, List.getElem?_eq_getElem hk, List.map_append, List.getD_eq_getElem?_getD, List.getElem?_eq_getElem hk]
  rfl
theorem DetL.fin {w w4 : World} {n : Na} {F : List (List Nat)} {g1 : Nat} {rv : Value} {k m : Nat} {A3 A4 : Option Addr} {c3 c4 : Nat} {sv : Value} {X Z : World} {tmp : Obj} (h : DetL w w4 n F g1 rv k m A3 c3 sv X) (hk : k < F.length)
    (ho : Z.ownsRow w4.heap.size 4 1 (.slice A4 (k + 1) c4) (k + 1) (((F.take k).map fun s => .bool (meetB s (ofL n.fi))) ++ [.bool (meetB (F.getD k []) (ofL n.fi))])) (hg : (X.alloc tmp).grownBy Z (Value.slice A3 k c3).ownBlock) :
    Blk4 Z g1 (.int .i64 n.V) (.int .i64 0) rv (.slice A3 k c3) ∧ DetL w w4 n F g1 rv (k + 1) m A4 c4 sv (Z.setCell ⟨g1, 3, none⟩ (.slice A4 (k + 1) c4)) := by
  have hd := h.d
  have hlt := blk_lt hd
  have hfr := h.fr
  have hlo := h.lo
  have hX := hg.size
  simp at hX
  have hZ : Blk4 Z g1 (.int .i64 n.V) (.int .i64 0) rv (.slice A3 k c3) := ((hg.block g1 (by simp; omega) (fun e => own_ne hd h.f (by decide) e.symm)).trans (Below.heap_alloc X tmp _ hlt)).trans hd
  have hsZ : SetsO w4.heap.size Z sv ((F.take m).map elsI) := (h.s.below (bal (Below.refl _ _) tmp)).other (h.f.alloc tmp) (by decide) (by decide) hg
  refine ⟨hZ, hZ.set3 _, ?_, hsZ.put hZ (by decide) (by decide) _ _, ⟨by rw [size_put]; omega, fun b hb hb1 => ?_⟩, ?_, hlo⟩
  · rw [take_snocF hk]
    exact row_put ho (own_ne hZ ho (by decide)) _ _
  · rw [Below.heap_setCell _ _ _ _ hb1]
    exact ((hg.block b (by simp; omega) (fun e => by have := own_lt h.f e.symm; omega)).trans (Below.heap_alloc X tmp b (by omega))).trans (hfr.2 b hb hb1)
  · exact ((h.b.alloc (by omega) tmp).grown hg (by simp; omega) (fun q hq => by have := own_lt h.f hq; omega)).setCell (p := ⟨g1, 3, none⟩) hlo.1 _
theorem DetL.set {w w4 : World} {n : Na} {F : List (List Nat)} {g1 : Nat} {rv : Value} {k m : Nat} {A3 : Option Addr} {c3 : Nat} {sv sv' v : Value} {X Z : World} {tmp : Obj} {Q : List (Value × List Int)} (h : DetL w w4 n F g1 rv k m A3 c3 sv X) (hm : m < F.length)
    (e : Q.map (fun q => q.2) = (F.take m).map elsI) (hoQ : X.ownsRow w4.heap.size 23 1 sv ((F.take m).map elsI).length (Q.map fun q => q.1)) (hq : ∀ q ∈ Q, X.ownsRow w4.heap.size 3 1 q.1 q.2.length (zvs q.2)) (hl : X.ownsRow w4.heap.size 3 1 v (elsI (F.getD m [])).length (zvs (elsI (F.getD m []))))
    (ho : Z.ownsRow w4.heap.size 23 1 sv' (((F.take m).map elsI).length + 1) ((Q.map fun q => q.1) ++ [v])) (hg : (X.alloc tmp).grownBy Z sv.ownBlock) : DetL w w4 n F g1 rv k (m + 1) A3 c3 sv' Z := by
  have hd := h.d
  have hlt := blk_lt hd
  have hfr := h.fr
  have hlo := h.lo
  have hX := hg.size
  simp at hX
  refine ⟨((hg.block g1 (by simp; omega) (fun e => own_ne hd hoQ (by decide) e.symm)).trans (Below.heap_alloc X tmp _ hlt)).trans hd, (h.f.alloc tmp).kept hg (row_ne (h.f.alloc tmp) (hoQ.alloc tmp) (by decide)), ?_, ⟨by omega, fun b hb hb1 => ?_⟩, ?_, hlo⟩
  · rw [take_snocF hm]
    exact SetsO.push e hoQ hq hl ho hg
  · exact ((hg.block b (by simp; omega) (fun e => by have := own_lt hoQ e.symm; omega)).trans (Below.heap_alloc X tmp b (by omega))).trans (hfr.2 b hb hb1)
  · exact (h.b.alloc (by omega) tmp).grown hg (by simp; omega) (fun q hq => by have := own_lt hoQ hq; omega)
theorem info_boolJ : (Tryd.prog.info? 4).map (fun i => (i.zero, i.size, i.bytes)) = some (some (.bool false), 1, 1) := by kernel_rfl
section
variable (n : Na) (A B C : Option Addr) (a b c : Nat) (w : World) (hx : NaAt w n A B C) (hl : NaLen n)
include hx hl
set_option maxHeartbeats 8000000 in
theorem Determinize_good (bud : Nat) (hT : Tabs2 w) (hc : chkN n = 0) (hb1 : 1 ≤ bud) (hb2 : bud ≤ 4096) (F : List (List Nat)) (hd : detN n bud = some F) :
    Calls Tryd.prog 25 #[.agg #[.int .i64 n.V, .int .i64 n.S, .slice A n.st.length a, .slice B n.fi.length b, .slice C n.es.length c], .int .i64 bud] w (DetPost w n F) := by
  have hb0 := bal (bal (Below.refl w.heap.size w) (.cells #[.int .i64 n.V, .int .i64 n.S, .slice A n.st.length a, .slice B n.fi.length b, .slice C n.es.length c] 26)) (.cells #[.int .i64 0, .int .i64 0, .slice none 0 0, .slice none 0 0] 54)
  have hN0 := (Blk.new w (.int .i64 n.V) (.int .i64 n.S) (.slice A n.st.length a) (.slice B n.fi.length b) (.slice C n.es.length c)).below (bal (Below.refl _ _) (.cells #[.int .i64 0, .int .i64 0, .slice none 0 0, .slice none 0 0] 54))
  have hR0 := Blk4.new (w.alloc (.cells #[.int .i64 n.V, .int .i64 n.S, .slice A n.st.length a, .slice B n.fi.length b, .slice C n.es.length c] 26)) (.int .i64 0) (.int .i64 0) (.slice none 0 0) (.slice none 0 0)
  rw [World.size_alloc] at hR0
  have HC := Check6_any n A B C a b c _ (hx.below hb0) hl
  rw [hc] at HC
  have HC := Lib.hid HC
  have hO := ok_of hc
  have HOf := Lib.hid fun X (hX : Below w.heap.size w X) => Of_own A n.st a X (hx.st.below hX) (by have := hl.st; unfold maxLen; omega)
  have HOf2 := Lib.hid fun X (hX : Below w.heap.size w X) => Of_own B n.fi b X (hx.fi.below hX) (by have := hl.fi; unfold maxLen; omega)
  have HMv := Lib.hid fun X (hX : Below w.heap.size w X) => movesOf_any n A B C a b c X (hx.below hX) hl hO
  have HEx := Lib.hid fun X mb P1 c1 (hX : Below w.heap.size w X) hm hs => (explN n w hO bud hb1 hb2 X mb P1 c1 hX hT hm hs).mono (R' := fun e w' => ∃ fv rv, e = .returned (.tuple #[fv, rv, .bool true]) ∧ ∃ vs : List Value, w'.ownsRow X.heap.size 41 1 fv F.length vs ∧ (∀ (i : Nat) (s : List Nat), F[i]? = some s → ∃ u : Value, vs[i]? = some u ∧ SetR w' u s) ∧ RowsO (X.heap.size + 4) w' rv (nums (succN n) F F.length) (fun g => fv.ownBlock ≠ some g) ∧ Below X.heap.size X w') fun e w' h => by
    rcases h with ⟨h1, _⟩ | ⟨F', fv, rv, h1, h2, ⟨vs, h3, h4⟩, h5, h6⟩
    · rw [hd] at h1; cases h1
    · rw [hd] at h1
      cases h1
      exact ⟨fv, rv, h2, vs, h3, h4, h5, h6⟩
  have hFn : F.length ≤ 4096 := by
    have := (found_is (succN n) bud hb1 hd).len
    omega
  have hTz := Lib.hid fun X (hX : Below w.heap.size w X) => hT.tz.below hX
  have hd1 : decide ((bud : Int) < 1) = false := decide_eq_false (by omega)
  have hd2 : decide ((4096 : Int) < (bud : Int)) = false := decide_eq_false (by omega)
  have hd3 : decide (bud < 1) = false := decide_eq_false (by omega)
  have hd4 : decide (4096 < bud) = false := decide_eq_false (by omega)
  have hb11 : (1 : Int) ≤ (bud : Int) := by omega
  clear hx hl hT hc hd hO
  obtain ⟨z0, z1, z2, z3, z4⟩ := hN0.cells
  go_enter Tryd.func25, Tryd.ntmps25
  go_upto_region 6 with (go_at_call 10; ((with_reducible refine HC.out.mono ?_); rintro e w2 ⟨rfl, hb2⟩); clear z0 z1 z2 z3 z4; replace hR0 := hR0.below hb2; replace hN0 := hN0.below hb2; replace hb0 := stepB hb0 hb2; clear hb2)
  go_cut [8, 9, 10] from 27 to 38 (fun t8 t9 t10 wx => ∃ fv rv, t8 = fv ∧ t9 = rv ∧ t10 = .bool true ∧ Blk wx w.heap.size (.int .i64 n.V) (.int .i64 n.S) (.slice A n.st.length a) (.slice B n.fi.length b) (.slice C n.es.length c) ∧ Blk4 wx (w.heap.size + 1) (.int .i64 0) (.int .i64 0) (.slice none 0 0) (.slice none 0 0) ∧ Below w.heap.size w wx ∧ ∃ vs : List Value, wx.ownsRow w.heap.size 41 1 fv F.length vs ∧ (∀ (i : Nat) (s : List Nat), F[i]? = some s → ∃ u : Value, vs[i]? = some u ∧ SetR wx u s) ∧ RowsO w.heap.size wx rv (nums (succN n) F F.length) (fun _ => True))
  case first =>
    refine wp_region_any (by kernel_rfl) ?_
    change wpAny _ _ _ _ _ _ _ (World.drew _)
    have hS0 : (fun X : World => Blk X w.heap.size (.int .i64 n.V) (.int .i64 n.S) (.slice A n.st.length a) (.slice B n.fi.length b) (.slice C n.es.length c)) w2.drew := hN0.below (drew_below w2)
    have hR0' := hR0.below (drew_below w2)
    have hb0' := stepB hb0 (drew_below w2)
    clear hN0 hR0 hb0
    generalize w2.drew = X0 at *
    refine wpAny_head 14 14 (fun X : World => Blk X w.heap.size (.int .i64 n.V) (.int .i64 n.S) (.slice A n.st.length a) (.slice B n.fi.length b) (.slice C n.es.length c)) rfl rfl (by kernel_rfl) (by kernel_rfl) (by kernel_rfl) (fun hA => ?_)
    refine wpHead_take (i := 0) (v := ?_) (by kernel_rfl) hA (at_drop rfl) (by decide) (by kernel_rfl) (by kernel_rfl) (by kernel_rfl) (fun _ _ _ h => h) (Or.inl ⟨by rfl, ?_⟩) hS0 (fun hA => ?_)
    rotate_left
    · (intro w hSw; obtain ⟨s0, s1, s2, s3, s4⟩ := Blk.cells hSw; go_simp <;> with_reducible rfl)
    simp only [Act.put, List.setIfInBounds_toArray, List.set_cons_zero, List.set_cons_succ]
    refine wpHead_take (i := 1) (v := ?_) (by kernel_rfl) hA (at_drop rfl) (by decide) (by kernel_rfl) (by kernel_rfl) (by kernel_rfl) (fun _ _ _ h => h) (Or.inl ⟨by rfl, ?_⟩) hS0 (fun hA => ?_)
    rotate_left
    · (intro w hSw; obtain ⟨s0, s1, s2, s3, s4⟩ := Blk.cells hSw; go_simp <;> with_reducible rfl)
    simp only [Act.put, List.setIfInBounds_toArray, List.set_cons_zero, List.set_cons_succ]
    refine wpHead_take (i := 3) (v := ?_) (by kernel_rfl) hA (at_drop rfl) (by decide) (by kernel_rfl) (by kernel_rfl) (by kernel_rfl) (fun _ _ _ h => h) (Or.inl ⟨by rfl, ?_⟩) hS0 (fun hA => ?_)
    rotate_left
    · (intro w hSw; obtain ⟨s0, s1, s2, s3, s4⟩ := Blk.cells hSw; go_simp <;> with_reducible rfl)
    simp only [Act.put, List.setIfInBounds_toArray, List.set_cons_zero, List.set_cons_succ]
    refine wpHead_take (i := 6) (v := ?_) (by kernel_rfl) hA (at_drop rfl) (by decide) (by kernel_rfl) (by kernel_rfl) (by kernel_rfl) (fun _ _ _ h => h) (Or.inl ⟨by rfl, ?_⟩) hS0 (fun hA => ?_)
    rotate_left
    · (intro w hSw; obtain ⟨s0, s1, s2, s3, s4⟩ := Blk.cells hSw; go_simp <;> with_reducible rfl)
    simp only [Act.put, List.setIfInBounds_toArray, List.set_cons_zero, List.set_cons_succ]
    have hA2 := hnext hA (rs := [2]) (i := 2) (by kernel_rfl) (by decide) (by decide)
    refine wpHead_ready (rs := [2]) (by kernel_rfl) (by decide) (AllHead.cons (at_drop rfl) (by decide) (fun KK hK => ?_) AllHead.nil)
    replace hA := hA2
    go_simp
    refine (HOf.out X0 hb0').mono ?_
    rintro e X1 ⟨P1, c1, rfl, ho1, hb1⟩
    have hS1 : (fun X : World => Blk X w.heap.size (.int .i64 n.V) (.int .i64 n.S) (.slice A n.st.length a) (.slice B n.fi.length b) (.slice C n.es.length c)) X1 := Blk.below hS0 hb1
    have hR1 := hR0'.below hb1
    have hb1' := stepB hb0' hb1
    refine hK _ _ hS1 ?_
    clear hK KK
    try simp only [Act.put, List.setIfInBounds_toArray, List.set_cons_zero, List.set_cons_succ]
    have hA4 := hnext hA (rs := [4]) (i := 4) (by kernel_rfl) (by decide) (by decide)
    refine wpHead_ready (rs := [4]) (by kernel_rfl) (by decide) (AllHead.cons (at_drop rfl) (by decide) (fun KK hK => ?_) AllHead.nil)
    replace hA := hA4
    go_simp
    refine (HMv.out X1 hb1').mono ?_
    rintro e X2 ⟨mb, rfl, hm2, hb2⟩
    have hS2 : (fun X : World => Blk X w.heap.size (.int .i64 n.V) (.int .i64 n.S) (.slice A n.st.length a) (.slice B n.fi.length b) (.slice C n.es.length c)) X2 := Blk.below hS1 hb2
    have hR2 := hR1.below hb2
    have hb2' := stepB hb1' hb2
    refine hK _ _ hS2 ?_
    clear hK KK
    try simp only [Act.put, List.setIfInBounds_toArray, List.set_cons_zero, List.set_cons_succ]
    refine wpHead_take (i := 5) (v := ?_) (by kernel_rfl) hA (at_drop rfl) (by decide) (by kernel_rfl) (by kernel_rfl) (by kernel_rfl) (fun _ _ _ h => h) (Or.inl ⟨by rfl, ?_⟩) hS2 (fun hA => ?_)
    rotate_left
    · (intro w hSw; obtain ⟨s0, s1, s2, s3, s4⟩ := Blk.cells hSw; go_simp <;> with_reducible rfl)
    simp only [Act.put, List.setIfInBounds_toArray, List.set_cons_zero, List.set_cons_succ]
    have hA7 := hnext hA (rs := [7]) (i := 7) (by kernel_rfl) (by decide) (by decide)
    refine wpHead_ready (rs := [7]) (by kernel_rfl) (by decide) (AllHead.cons (at_drop rfl) (by decide) (fun KK hK => ?_) AllHead.nil)
    replace hA := hA7
    go_simp
    refine (HEx.out X2 mb P1 c1 hb2' hm2 (SetR.below (SetR.own ho1) hb2)).mono ?_
    rintro e X3 ⟨fv, rv, rfl, vs, hfo, hfR, hro, hb3⟩
    have hS3 : (fun X : World => Blk X w.heap.size (.int .i64 n.V) (.int .i64 n.S) (.slice A n.st.length a) (.slice B n.fi.length b) (.slice C n.es.length c)) X3 := Blk.below hS2 hb3
    have hR3 := hR2.below hb3
    have hb3' := stepB hb2' hb3
    refine hK _ _ hS3 ?_
    clear hK KK
    try simp only [Act.put, List.setIfInBounds_toArray, List.set_cons_zero, List.set_cons_succ]
    refine wpHead_take (i := 8) (v := ?_) (by kernel_rfl) hA (at_drop rfl) (by decide) (by kernel_rfl) (by kernel_rfl) (by kernel_rfl) (fun _ _ _ h => h) (Or.inl ⟨by rfl, ?_⟩) hS3 (fun hA => ?_)
    rotate_left
    · (intro w hSw; obtain ⟨s0, s1, s2, s3, s4⟩ := Blk.cells hSw; go_simp <;> with_reducible rfl)
    simp only [Act.put, List.setIfInBounds_toArray, List.set_cons_zero, List.set_cons_succ]
    refine wpHead_take (i := 9) (v := ?_) (by kernel_rfl) hA (at_drop rfl) (by decide) (by kernel_rfl) (by kernel_rfl) (by kernel_rfl) (fun _ _ _ h => h) (Or.inl ⟨by rfl, ?_⟩) hS3 (fun hA => ?_)
    rotate_left
    · (intro w hSw; obtain ⟨s0, s1, s2, s3, s4⟩ := Blk.cells hSw; go_simp <;> with_reducible rfl)
    simp only [Act.put, List.setIfInBounds_toArray, List.set_cons_zero, List.set_cons_succ]
    refine wpHead_take (i := 10) (v := ?_) (by kernel_rfl) hA (at_drop rfl) (by decide) (by kernel_rfl) (by kernel_rfl) (by kernel_rfl) (fun _ _ _ h => h) (Or.inl ⟨by rfl, ?_⟩) hS3 (fun hA => ?_)
    rotate_left
    · (intro w hSw; obtain ⟨s0, s1, s2, s3, s4⟩ := Blk.cells hSw; go_simp <;> with_reducible rfl)
    simp only [Act.put, List.setIfInBounds_toArray, List.set_cons_zero, List.set_cons_succ]
    refine wpHead_take (i := 11) (v := ?_) (by kernel_rfl) hA (at_drop rfl) (by decide) (by kernel_rfl) (by kernel_rfl) (by kernel_rfl) (fun _ _ _ h => h) (Or.inl ⟨by rfl, ?_⟩) hS3 (fun hA => ?_)
    rotate_left
    · (intro w hSw; obtain ⟨s0, s1, s2, s3, s4⟩ := Blk.cells hSw; go_simp <;> with_reducible rfl)
    simp only [Act.put, List.setIfInBounds_toArray, List.set_cons_zero, List.set_cons_succ]
    refine wpHead_take (i := 12) (v := ?_) (by kernel_rfl) hA (at_drop rfl) (by decide) (by kernel_rfl) (by kernel_rfl) (by kernel_rfl) (fun _ _ _ h => h) (Or.inl ⟨by rfl, ?_⟩) hS3 (fun hA => ?_)
    rotate_left
    · (intro w hSw; obtain ⟨s0, s1, s2, s3, s4⟩ := Blk.cells hSw; go_simp <;> with_reducible rfl)
    simp only [Act.put, List.setIfInBounds_toArray, List.set_cons_zero, List.set_cons_succ]
    refine wpHead_take (i := 13) (v := ?_) (by kernel_rfl) hA (at_drop rfl) (by decide) (by kernel_rfl) (by kernel_rfl) (by kernel_rfl) (fun _ _ _ h => h) (Or.inl ⟨by rfl, ?_⟩) hS3 (fun hA => ?_)
    rotate_left
    · (intro w hSw; obtain ⟨s0, s1, s2, s3, s4⟩ := Blk.cells hSw; go_simp <;> with_reducible rfl)
    simp only [Act.put, List.setIfInBounds_toArray, List.set_cons_zero, List.set_cons_succ]
    refine wpHead_end (by kernel_rfl) ?_
    simp only [List.drop_succ_cons, List.drop_zero]
    go_wp2_with fail
    go_meet
    exact ⟨fv, rv, rfl, rfl, rfl, hS3, hR3, hb3', vs, ownsRow_mono hfo hb2'.size, hfR, hro.mono (by have := hb2'.size; omega)⟩
  case rest =>
    obtain ⟨fv, rv, rfl, rfl, rfl, hN, hR, hb, vs, hfo, hfR, hro⟩ := hcut
    clear HEx HMv HOf HC hN0 hR0 hb0
    have hnl : (nums (succN n) F F.length).length = F.length := nums_len _ _ _ (Nat.le_refl _)
    obtain ⟨Ar, cr, hrv, _⟩ := hro.form
    rw [hnl] at hrv
    subst hrv
    obtain ⟨Af, cf, hfv, _⟩ := Ap.own_form hfo
    subst hfv
    obtain ⟨⟨p0, f0⟩, ⟨p1, f1⟩, ⟨p2, f2⟩, ⟨p3, f3⟩, hR5, hB5⟩ := store4 hR (.int .i64 n.V) (.int .i64 0) (.slice Ar F.length cr) (.slice none 0 0)
    have hfo5 := own_eq hfo (w' := put4 wc (w.heap.size + 1) (.int .i64 n.V) (.int .i64 0) (.slice Ar F.length cr) (.slice none 0 0)) fun g hg => put4_other _ _ _ _ (fun e => own_ne hR hfo (by decide) (e ▸ hg))
    have hfR5 : ∀ (i : Nat) (s : List Nat), F[i]? = some s → ∃ u : Value, vs[i]? = some u ∧ SetR (put4 wc (w.heap.size + 1) (.int .i64 n.V) (.int .i64 0) (.slice Ar F.length cr) (.slice none 0 0)) u s := fun i s hs => by
      obtain ⟨u, h1, h2⟩ := hfR i s hs
      exact ⟨u, h1, h2.keep (by rw [put4_size]; omega) fun b cs fz hbb => (put4_other _ _ _ _ (fun e => by rw [e] at hbb; unfold Blk4 at hR; rw [hR] at hbb; exact absurd hbb (by simp))).trans hbb⟩
    have hN5 := (put4_other (k := w.heap.size) (b := w.heap.size + 1) (.int .i64 n.V) (.int .i64 0) (.slice Ar F.length cr) (.slice none 0 0) (by omega)).trans hN
    have hb5 := hb.trans (hB5 w.heap.size (by omega))
    have hro5 : RowsO w.heap.size (put4 wc (w.heap.size + 1) (.int .i64 n.V) (.int .i64 0) (.slice Ar F.length cr) (.slice none 0 0)) (.slice Ar F.length cr) (nums (succN n) F F.length) (fun _ => True) := by
      obtain ⟨Q, e, ho, hq⟩ := hro
      exact ⟨Q, e, own_eq ho fun g hg => put4_other _ _ _ _ (fun e => own_ne hR ho (by decide) (e ▸ hg)), fun q h1 => ⟨(hq q h1).1, trivial, (put4_other _ _ _ _ (fun e => by have h3 := (hq q h1).2.2; rw [e] at h3; unfold Blk4 at hR; rw [hR] at h3; exact absurd h3 (by simp))).trans (hq q h1).2.2⟩⟩
    obtain ⟨z0, z1, z2, z3, z4⟩ := Blk.cells hN
    obtain ⟨x0, x1, x2, x3, x4⟩ := Blk.cells hN5
    unfold put4 at hfo5 hfR5 hN5 hb5 hro5 hR5 x0 x1 x2 x3 x4
    clear hfo hfR hN hb hro hB5
    generalize hFl : F.length = fl at *
    go_wp2_with (go_at_call 34; ((with_reducible refine (HOf2.out _ hb5).mono ?_); rintro e w4 ⟨Pf, cfn, rfl, ho4, hb4⟩))
    have HFl := Lib.hid hFl
    clear hFl
    have hL0 : DetL w w4 n F (w.heap.size + 1) (.slice Ar fl cr) 0 0 none 0 (.slice none 0 0) w4 := ⟨hR5.below hb4, ⟨rfl, .inl ⟨rfl, rfl⟩⟩, SetsO.nil _ _, ⟨Nat.le_refl _, fun b _ _ => rfl⟩, stepB hb5 hb4, ⟨by omega, Nat.le_trans hb5.size hb4.size⟩⟩
    have hd4 := hL0.d
    have hKS := Lib.hid fun (X : World) (hf : w4.heap.size ≤ X.heap.size ∧ ∀ b, b < w4.heap.size → b ≠ w.heap.size + 1 → X.heap[b]? = w4.heap[b]?) v s (h : SetR w4 v s) => h.keep hf.1 fun b cs fz hbb => (hf.2 b (blk_lt hbb) (fun e => by rw [e] at hbb; unfold Blk4 at hd4; rw [hd4] at hbb; exact absurd hbb (by simp))).trans hbb
    have hfo6 := hfo5.below hb4
    have HEl := Lib.hid fun (k : Nat) (hk : k < F.length) => show ∃ ad u, Af = some ad ∧ SetR w4 u (F.getD k []) ∧ ∀ X : World, (w4.heap.size ≤ X.heap.size ∧ ∀ b, b < w4.heap.size → b ≠ w.heap.size + 1 → X.heap[b]? = w4.heap[b]?) → X.cell? (ad.add k) = some u by
      obtain ⟨u, h1, h2⟩ := hfR5 k _ (List.getElem?_eq_getElem hk)
      have hfl := HFl.out
      obtain ⟨ad, e, hlt, hc, hown⟩ := row_at hfo6 (by omega) h1
      refine ⟨ad, u, e, ?_, fun X hf => ?_⟩
      · rw [List.getD_eq_getElem?_getD, List.getElem?_eq_getElem hk]
        exact h2.below hb4
      · have hne : ad.block ≠ w.heap.size + 1 := fun e2 => own_ne hd4 hfo6 (by decide) (by rw [hown, e2])
        have h5 : X.cell? (ad.add k) = w4.cell? (ad.add k) := World.cell?_of_block (by rw [addr_block]; exact hf.2 _ hlt hne)
        rw [h5, hc]
    have hfiR := SetR.own ho4
    generalize hfw : ofL n.fi = fw at *
    have HFW := Lib.hid hfw
    clear hfw
    have ufw : U64 fw := ho4.2.1
    have hcf : fw.length ≤ cfn := ho4.2.2
    have HFin := Lib.hid hfiR
    have hro6 := Lib.hid (show RowsO w.heap.size w4 (.slice Ar fl cr) (nums (succN n) F fl) (fun _ => True) from hro5.frame (fun b hbl _ _ => hb4.block b hbl) (fun _ _ _ h => h))
    clear hfo5 hfR5 hN5 hb5 hro5 hR5 x0 x1 x2 x3 x4 hb4 ho4 hfo6 hfiR hR hd4
    obtain ⟨i0, hi0, hz0, hz1, hz2⟩ := info_parts info_boolJ
    obtain ⟨i1, hi1, hy0, hy1, hy2⟩ := info_parts Dg.info_tab
    have HD4 := Lib.hid hL0.d
    have hL00 := Lib.hid hL0
    clear hL0
    go_wp2
    go_loopw [5, 51] (fun su iv wr => ∃ (k : Nat) (A3 : Option Addr) (c3 : Nat) (sv : Value), sv = su ∧ k ≤ fl ∧ iv = .int .i64 k ∧ DetL w w4 n F (w.heap.size + 1) (.slice Ar fl cr) k k A3 c3 sv wr) (fun _ iv _ => fl - (intOf iv).toNat)
    case atStart => exact ⟨0, none, 0, _, rfl, Nat.zero_le _, rfl, hL00.out⟩
    case round =>
      clear hL00
      obtain ⟨k, A3, c3, sv, rfl, hk, rfl, hD⟩ := hrel
      by_cases hlt : k < fl
      · obtain ⟨ad, u, hA, hRu, hcu⟩ := HEl.out k (by rw [HFl.out]; exact hlt)
        subst hA
        have hcell := hcu wr hD.fr
        have hRu2 := hKS.out wr hD.fr _ _ hRu
        have hRf2 := hKS.out wr hD.fr _ _ HFin.out
        obtain ⟨ps, cs, hus', hws, hus, hcs, _⟩ := hRu2
        subst hus'
        obtain ⟨pf2, cf2, hpf, hfiw, _, _, _⟩ := hRf2
        injection hpf with hp1 hp2 hp3
        subst hp1
        have hFin := Lib.hid fun X A4 c4 Z (tmp : Obj) (h : DetL w w4 n F (w.heap.size + 1) (.slice Ar fl cr) k k A3 c3 sv X) ho hg => h.fin (A4 := A4) (c4 := c4) (Z := Z) (tmp := tmp) (by rw [HFl.out]; exact hlt) ho hg
        have HLL := Lib.hid hD
        have hlt2 : (k : Int) < (fl : Int) := by omega
        have HSs : Hid (∀ X, Below w.heap.size w X → Words X ps (F.getD k []) → Calls Tryd.prog 35 #[.slice ps (F.getD k []).length cs] X fun e w' => ∃ v, e = .returned v ∧ w'.ownsRow X.heap.size 3 1 v (els (F.getD k [])).length (ivs (els (F.getD k []))) ∧ Below X.heap.size X w') := fun X hX hw => List_any ps _ cs X hw hus hcs (hTz.out X hX)
        have HSR := Lib.hid hRu
        clear hcu hRu hD hp2 hp3
        generalize hsF : F.getD k [] = s at *
        have HsF := Lib.hid hsF
        clear hsF
        go_upto_region 14 with fail
        clear hcell
        go_cut [] from 55 to 62 (fun wx => ∃ A4 c4, DetL w w4 n F (w.heap.size + 1) (.slice Ar fl cr) (k + 1) k A4 c4 sv wx)
        case first =>
          refine wp_region_any (by kernel_rfl) ?_
          change wpAny _ _ _ _ _ _ _ (World.drew _)
          have hLd := HLL.out.below (drew_below wr)
          have hS0 : (fun X : World => X.cell? ⟨w.heap.size + 1, 3, none⟩ = some (.slice A3 k c3)) wr.drew := hLd.c3
          have hWs := hws.below (drew_below wr)
          have hFi := hfiw.below (drew_below wr)
          clear hws hfiw HLL
          generalize wr.drew = X0 at *
          refine wpAny_head 7 7 (fun X : World => X.cell? ⟨w.heap.size + 1, 3, none⟩ = some (.slice A3 k c3)) rfl rfl (by kernel_rfl) (by kernel_rfl) (by kernel_rfl) (fun hA => ?_)
          refine wpHead_take (i := 0) (v := ?_) (by kernel_rfl) hA (at_drop rfl) (by decide) (by kernel_rfl) (by kernel_rfl) (by kernel_rfl) (fun _ _ _ h => h) (Or.inl ⟨by rfl, ?_⟩) hS0 (fun hA => ?_)
          rotate_left
          · (intro Y hSY; have s0 := hSY; go_simp <;> with_reducible rfl)
          simp only [Act.put, List.setIfInBounds_toArray, List.set_cons_zero, List.set_cons_succ]
          refine wpHead_take (i := 1) (v := ?_) (by kernel_rfl) hA (at_drop rfl) (by decide) (by kernel_rfl) (by kernel_rfl) (by kernel_rfl) (fun _ _ _ h => h) (Or.inl ⟨by rfl, ?_⟩) hS0 (fun hA => ?_)
          rotate_left
          · (intro Y hSY; have s0 := hSY; go_simp <;> with_reducible rfl)
          simp only [Act.put, List.setIfInBounds_toArray, List.set_cons_zero, List.set_cons_succ]
          refine wpHead_take (i := 2) (v := ?_) (by kernel_rfl) hA (at_drop rfl) (by decide) (by kernel_rfl) (by kernel_rfl) (by kernel_rfl) (fun _ _ _ h => h) (Or.inl ⟨by rfl, ?_⟩) hS0 (fun hA => ?_)
          rotate_left
          · (intro Y hSY; have s0 := hSY; go_simp <;> with_reducible rfl)
          simp only [Act.put, List.setIfInBounds_toArray, List.set_cons_zero, List.set_cons_succ]
          refine wpHead_take (i := 3) (v := ?_) (by kernel_rfl) hA (at_drop rfl) (by decide) (by kernel_rfl) (by kernel_rfl) (by kernel_rfl) (fun _ _ _ h => h) (Or.inl ⟨by rfl, ?_⟩) hS0 (fun hA => ?_)
          rotate_left
          · (intro Y hSY; have s0 := hSY; go_simp <;> with_reducible rfl)
          simp only [Act.put, List.setIfInBounds_toArray, List.set_cons_zero, List.set_cons_succ]
          have hA4 := hnext hA (rs := [4]) (i := 4) (by kernel_rfl) (by decide) (by decide)
          refine wpHead_ready (rs := [4]) (by kernel_rfl) (by decide) (AllHead.cons (at_drop rfl) (by decide) (fun KK hK => ?_) AllHead.nil)
          replace hA := hA4
          go_simp
          refine (Intersects_any ps Pf s fw cs cfn X0 hWs hus hcs hFi ufw hcf).mono ?_
          rintro e X1 ⟨rfl, rfl⟩
          refine hK _ _ hS0 ?_
          clear hK KK
          try simp only [Act.put, List.setIfInBounds_toArray, List.set_cons_zero, List.set_cons_succ]
          have hA5 := hnext hA (rs := [5]) (i := 5) (by kernel_rfl) (by decide) (by decide)
          refine wpHead_ready (rs := [5]) (by kernel_rfl) (by decide) (AllHead.cons (at_drop rfl) (by decide) (fun KK hK => ?_) AllHead.nil)
          replace hA := hA5
          go_simp
          have hb1 := bal (Below.refl X0.heap.size X0) (.cells #[.bool (meetB s fw)] 4)
          have hL1 := hLd.below hb1
          have hS1 : (fun X : World => X.cell? ⟨w.heap.size + 1, 3, none⟩ = some (.slice A3 k c3)) (X0.alloc (.cells #[.bool (meetB s fw)] 4)) := hL1.c3
          have hn1 := cell_one_new X0 (.bool (meetB s fw)) 4
          have hfr0 := hLd.fr.1
          refine hK _ _ hS1 ?_
          clear hK KK
          try simp only [Act.put, List.setIfInBounds_toArray, List.set_cons_zero, List.set_cons_succ]
          have hA6 := hnext hA (rs := [6]) (i := 6) (by kernel_rfl) (by decide) (by decide)
          refine wpHead_ready (rs := [6]) (by kernel_rfl) (by decide) (AllHead.cons (at_drop rfl) (by decide) (fun KK hK => ?_) AllHead.nil)
          replace hA := hA6
          refine step_append rfl (.tmp 56) (.tmp 60) 52 rfl w4.heap.size 4 i0 (.bool false) 1 1 Tryd.underlying52 hi0 hz0 hz1 hz2 rfl (by decide) (.slice A3 k c3) k _ (by simp [Act.eval]) hL1.f ⟨X0.heap.size, 0, none⟩ 1 1 [.bool (meetB s fw)] (by simp [Act.eval]) rfl hn1 (by simp [Value.oneCell']) (by unfold maxLen; omega) (by omega) (by simp; omega) ?_
          intro A4 c4 Z ho2 hg2 hob2
          have hbq : Value.bool (meetB s (ofL n.fi)) = .bool (meetB s fw) := by rw [HFW.out]
          obtain ⟨hdZ, hLZ⟩ := hFin.out X0 A4 c4 Z _ hLd (by rw [hbq]; exact ho2) hg2
          clear hbq
          have hSZ : (fun X : World => X.cell? ⟨w.heap.size + 1, 3, none⟩ = some (.slice A3 k c3)) Z := hdZ.cells.2.2.2
          have HLZ := Lib.hid hLZ
          have f3 := free_of hdZ 3
          have c3z := hdZ.cells.2.2.2
          have l3z := blk_lt hdZ
          refine hK _ _ hSZ ?_
          clear hK KK hLZ hdZ ho2 hg2 hob2 hL1 hS1 hn1 hLd hS0 hWs hFi
          try simp only [Act.put, List.setIfInBounds_toArray, List.set_cons_zero, List.set_cons_succ]
          refine wpHead_end (by kernel_rfl) ?_
          simp only [List.drop_succ_cons, List.drop_zero]
          go_wp2
          go_meet
          exact ⟨A4, c4, HLZ.out⟩
        case rest =>
          obtain ⟨A4, c4, hD⟩ := hcut
          clear hFin HLL
          have hsz4 := hD.lo.2
          have hszw := hD.b.size
          have hfr4 := hD.fr.1
          have hwsK := hKS.out _ hD.fr _ _ HSR.out
          obtain ⟨ps2, cs2, hpp, hws2, _, _, _⟩ := hwsK
          injection hpp with hp1 hp2 hp3
          subst hp1
          have HLi := Lib.hid (HSs.out _ hD.b hws2)
          have hSt := Lib.hid fun X (hX : Below wc.heap.size wc X) => show ∃ Q : List (Value × List Int), Q.map (fun q => q.2) = (F.take k).map elsI ∧ X.ownsRow w4.heap.size 23 1 sv k (Q.map fun q => q.1) ∧ ∀ v Z sv' (tmp : Obj), X.ownsRow wc.heap.size 3 1 v (els s).length (ivs (els s)) → Z.ownsRow w4.heap.size 23 1 sv' (k + 1) ((Q.map fun q => q.1) ++ [v]) → (X.alloc tmp).grownBy Z sv.ownBlock → DetL w w4 n F (w.heap.size + 1) (.slice Ar fl cr) (k + 1) (k + 1) A4 c4 sv' Z by
            have hDX := hD.below hX
            have hlk : ((F.take k).map elsI).length = k := by rw [List.length_map, List.length_take]; have := HFl.out; omega
            obtain ⟨Q, eQ, hoQ, hqQ⟩ := hDX.s
            refine ⟨Q, eQ, by rw [hlk] at hoQ; exact hoQ, fun v Z sv' tmp hv ho hg => ?_⟩
            have hz : zvs (elsI s) = ivs (els s) := by unfold zvs elsI ivs; rw [List.map_map]; rfl
            refine hDX.set (v := v) (by rw [HFl.out]; exact hlt) eQ hoQ hqQ ?_ (by rw [hlk]; exact ho) hg
            rw [HsF.out, hz, elsI_len]
            exact ownsRow_mono hv hfr4
          clear hD HSs hws2 hp2 hp3
          go_wp2_with (first
            | (go_at_call 35; ((with_reducible refine HLi.out.mono ?_); rintro e w5 ⟨v5, rfl, ho5, hb5⟩); obtain ⟨Q, eQ, hoQ, hNext⟩ := hSt.out w5 hb5; obtain ⟨A5, c5, hv5, _⟩ := Ap.own_form ho5; subst hv5; have HOQ := Lib.hid hoQ; have HO5 := Lib.hid ho5; have HNX := Lib.hid hNext; have hs5 := hb5.size; have HEQ := Lib.hid eQ; clear hoQ ho5 hNext eQ)
            | (at_builtin; refine wpList_append_own_at _ rfl _ _ 51 rfl w4.heap.size 23 i1 (.slice none 0 0) 1 24 Tryd.underlying51 hi1 hy0 hy1 hy2 rfl (by decide) _ k _ rfl (HOQ.out.alloc _) ⟨w5.heap.size, 0, none⟩ 1 1 [.slice A5 (els s).length c5] rfl rfl (cell_one_new _ _ _) (by simp [Value.oneCell']) (by unfold maxLen; omega) (by omega) (by simp; omega) ?_; intro v' w6 hown' hgrow _ _; have hnx := HNX.out _ _ _ _ HO5.out hown' hgrow; have HN6 := Lib.hid hnx; clear hnx hown' hgrow))
          go_roundw
          case rel => exact ⟨k + 1, A4, c4, _, rfl, by omega, by go_num, HN6.out⟩
          case measure => simp [intOf]; omega
      · obtain rfl : k = fl := by omega
        have hFk := HFl.out
        obtain ⟨y0, y1, y2, y3⟩ := hD.d.cells
        obtain ⟨⟨p0, f0⟩, ⟨p1, f1⟩, ⟨p2, f2⟩, ⟨p3, f3⟩, hR5, hB5⟩ := store4 hD.d (.int .i64 n.V) (.int .i64 0) (.slice Ar k cr) (.slice A3 k c3)
        have hto : ∀ b, b < w4.heap.size → b ≠ w.heap.size + 1 → (put4 wr (w.heap.size + 1) (.int .i64 n.V) (.int .i64 0) (.slice Ar k cr) (.slice A3 k c3)).heap[b]? = w4.heap[b]? := fun b h1 h2 => (put4_other _ _ _ _ h2).trans (hD.fr.2 b h1 h2)
        have hO : DetO w.heap.size (put4 wr (w.heap.size + 1) (.int .i64 n.V) (.int .i64 0) (.slice Ar k cr) (.slice A3 k c3)) n F (.slice Ar k cr) (.slice A3 k c3) sv := by
          have htk : F.take k = F := List.take_of_length_le (by omega)
          refine ⟨?_, ?_, ?_⟩
          · rw [hFk]
            obtain ⟨Q, e, ho, hq⟩ := hro6.out
            have hd4 := HD4.out
            refine ⟨Q, e, own_eq ho fun g hg => hto g (own_lt ho hg).2 (fun e => own_ne hd4 ho (by decide) (e ▸ hg)), fun q h1 => ?_⟩
            obtain ⟨h2, _, h3⟩ := hq q h1
            exact ⟨h2, trivial, (hto _ (blk_lt h3) (fun e => by rw [e] at h3; unfold Blk4 at hd4; rw [hd4] at h3; exact absurd h3 (by simp))).trans h3⟩
          · rw [hFk]
            have hf := hD.f
            rw [htk] at hf
            exact own_eq (ownsRow_mono hf hD.lo.2) fun g hg => put4_other _ _ _ _ (fun e => own_ne hD.d hf (by decide) (e ▸ hg))
          · have hs := hD.s
            rw [htk] at hs
            exact (hs.low hD.lo.2).keep hD.d (by decide) (by decide) fun b hb => put4_other _ _ _ _ hb
        have HF := Lib.hid (And.intro hR5.cells (And.intro hO (hD.b.trans (hB5 w.heap.size (by omega)))))
        clear hR5 hB5 hto hO hD HEl hKS HFin hro6 HD4 HFW hFk
        go_wp2
        obtain ⟨⟨u0, u1, u2, u3⟩, hO, hb5⟩ := HF.out
        unfold put4 at u0 u1 u2 u3 hO hb5
        refine bodyPost_ret (v := .tuple #[.agg #[.int .i64 n.V, .int .i64 0, .slice Ar k cr, .slice A3 k c3], sv, .int .i64 0]) (by simp [results, Tryd.results25, go_sem, u0, u1, u2, u3]) rfl ?_
        exact ⟨_, _, _, rfl, hO, hb5⟩
end
end Go.Proofs.YteckkbjpeckjmaaDoor.Sb
