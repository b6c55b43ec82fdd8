/- The reference's Minimize. -/
import Derived.Test.YtkgeihambgbjdaaDoorST
import Derived.Test.YtkgeihambgbjdaaDoorKTO
namespace Go.Proofs.YtkgeihambgbjdaaDoor.Mi
open Go Go.RowKit Go.Proofs.YtkgeihambgbjdaaDoor Go.Proofs.YtkgeihambgbjdaaDoor.Cb Go.Proofs.YtkgeihambgbjdaaDoor.Sb
open Go.Proofs.YtkgeihambgbjdaaDoor.Nf (zvs zvs_snoc drew_below info_int6 hnext)
open Go.Proofs.YtkgeihambgbjdaaDoor.Dg (Tabs tb tb_mem)
set_option linter.unusedVariables false
set_option linter.unusedSimpArgs false
set_option linter.unusedSectionVars false
set_option maxRecDepth 100000
/-- The automaton of the classes so far. -/
structure QfL (w wL : World) (g3 : Nat) (V q : Int) (rows : List (List Int)) (fs : List Bool) (rv : Value) (A3 : Option Addr) (c3 : Nat) (X : World) : Prop where
  n : Blk4 X g3 (.int .i64 V) (.int .i64 q) rv (.slice A3 fs.length c3)
  r : SetsO wL.heap.size X rv rows
  f : X.ownsRow wL.heap.size 4 1 (.slice A3 fs.length c3) fs.length (fs.map Value.bool)
  fr : wL.heap.size ≤ X.heap.size ∧ ∀ b, b < wL.heap.size → b ≠ g3 → X.heap[b]? = wL.heap[b]?
  b : Below w.heap.size w X
  lo : w.heap.size ≤ g3 ∧ g3 < wL.heap.size ∧ w.heap.size ≤ wL.heap.size
theorem QfL.below {w wL : World} {g3 : Nat} {V q : Int} {rows : List (List Int)} {fs : List Bool} {rv : Value} {A3 : Option Addr} {c3 : Nat} {X Y : World} (h : QfL w wL g3 V q rows fs rv A3 c3 X) (hb : Below X.heap.size X Y) : QfL w wL g3 V q rows fs rv A3 c3 Y :=
  ⟨h.n.below hb, h.r.below hb, h.f.below hb, ⟨Nat.le_trans h.fr.1 hb.size, fun b h1 h2 => (hb.block b (by have := h.fr.1; omega)).trans (h.fr.2 b h1 h2)⟩, stepB h.b hb, h.lo⟩
theorem QfL.row {w wL : World} {g3 : Nat} {V q : Int} {rows : List (List Int)} {fs : List Bool} {rv rv' v : Value} {A3 : Option Addr} {c3 : Nat} {X Z : World} {tmp : Obj} {l : List Int} {Q : List (Value × List Int)} (h : QfL w wL g3 V q rows fs rv A3 c3 X)
    (e : Q.map (fun q => q.2) = rows) (hoQ : X.ownsRow wL.heap.size 33 1 rv rows.length (Q.map fun q => q.1)) (hq : ∀ q ∈ Q, X.ownsRow wL.heap.size 3 1 q.1 q.2.length (zvs q.2)) (hl : X.ownsRow wL.heap.size 3 1 v l.length (zvs l))
    (ho : Z.ownsRow wL.heap.size 33 1 rv' (rows.length + 1) ((Q.map fun q => q.1) ++ [v])) (hg : (X.alloc tmp).grownBy Z rv.ownBlock) :
    Blk4 Z g3 (.int .i64 V) (.int .i64 q) rv (.slice A3 fs.length c3) ∧ QfL w wL g3 V q (rows ++ [l]) fs rv' A3 c3 (Z.setCell ⟨g3, 2, none⟩ rv') := by
  have hd := h.n
  have hlt := blk_lt hd
  have hfr := h.fr
  have hlo := h.lo
  have hX := hg.size
  simp at hX
  have hZ : Blk4 Z g3 (.int .i64 V) (.int .i64 q) rv (.slice A3 fs.length c3) := ((hg.block g3 (by simp; omega) (fun e => own_ne hd hoQ (by decide) e.symm)).trans (Below.heap_alloc X tmp _ hlt)).trans hd
  have hfZ := (h.f.alloc tmp).kept hg (row_ne (h.f.alloc tmp) (hoQ.alloc tmp) (by decide))
  refine ⟨hZ, hZ.set2 _, (SetsO.push e hoQ hq hl ho hg).put hZ (by decide) (by decide) _ _, row_put hfZ (own_ne hZ hfZ (by decide)) _ _, ⟨by rw [size_put]; omega, fun b hb hb1 => ?_⟩, ?_, hlo⟩
  · rw [Below.heap_setCell _ _ _ _ hb1]
    exact ((hg.block b (by simp; omega) (fun e => by have := own_lt hoQ e.symm; omega)).trans (Below.heap_alloc X tmp b (by omega))).trans (hfr.2 b hb hb1)
  · exact ((h.b.alloc (by omega) tmp).grown hg (by simp; omega) (fun q hq => by have := own_lt hoQ hq; omega)).setCell (p := ⟨g3, 2, none⟩) hlo.1 _
theorem QfL.fin {w wL : World} {g3 : Nat} {V q : Int} {rows : List (List Int)} {fs : List Bool} {rv : Value} {A3 A5 : Option Addr} {c3 c5 : Nat} {X Z : World} {tmp : Obj} {u : Bool} (h : QfL w wL g3 V q rows fs rv A3 c3 X)
    (ho : Z.ownsRow wL.heap.size 4 1 (.slice A5 (fs.length + 1) c5) (fs.length + 1) (fs.map Value.bool ++ [.bool u])) (hg : (X.alloc tmp).grownBy Z (Value.slice A3 fs.length c3).ownBlock) :
    Blk4 Z g3 (.int .i64 V) (.int .i64 q) rv (.slice A3 fs.length c3) ∧ QfL w wL g3 V q rows (fs ++ [u]) rv A5 c5 (Z.setCell ⟨g3, 3, none⟩ (.slice A5 (fs.length + 1) c5)) := by
  have hd := h.n
  have hlt := blk_lt hd
  have hfr := h.fr
  have hlo := h.lo
  have hX := hg.size
  simp at hX
  have hZ : Blk4 Z g3 (.int .i64 V) (.int .i64 q) rv (.slice A3 fs.length c3) := ((hg.block g3 (by simp; omega) (fun e => own_ne hd h.f (by decide) e.symm)).trans (Below.heap_alloc X tmp _ hlt)).trans hd
  have hrZ : SetsO wL.heap.size Z rv rows := (h.r.below (bal (Below.refl _ _) tmp)).other (h.f.alloc tmp) (by decide) (by decide) hg
  have hl1 : (fs ++ [u]).length = fs.length + 1 := by simp
  refine ⟨hZ, ?_, hrZ.put hZ (by decide) (by decide) _ _, ?_, ⟨by rw [size_put]; omega, fun b hb hb1 => ?_⟩, ?_, hlo⟩
  · rw [hl1]; exact hZ.set3 _
  · rw [hl1, List.map_append]
    exact row_put ho (own_ne hZ ho (by decide)) _ _
  · rw [Below.heap_setCell _ _ _ _ hb1]
    exact ((hg.block b (by simp; omega) (fun e => by have := own_lt h.f e.symm; omega)).trans (Below.heap_alloc X tmp b (by omega))).trans (hfr.2 b hb hb1)
  · exact ((h.b.alloc (by omega) tmp).grown hg (by simp; omega) (fun q hq => by have := own_lt h.f hq; omega)).setCell (p := ⟨g3, 3, none⟩) hlo.1 _
section
variable (d : Da) (A B : Option Addr) (a b : Nat) (w : World)
set_option maxHeartbeats 4000000 in
theorem refMinimize_bad (hx : DaAt w d A B) (hl : DaLen d) (hn : d.nx.length ≤ 1000) (h0 : chkD d ≠ 0) :
    Calls Tryd.prog 14 #[.agg #[.int .i64 d.V, .int .i64 d.q0, .slice A d.nx.length a, .slice B d.fi.length b]] w fun e w' => e = .returned (.tuple #[.agg #[.int .i64 0, .int .i64 0, .slice none 0 0, .slice none 0 0], .int .i64 (chkD d)]) ∧ Below w.heap.size w w' := by
  have hb0 := bal (bal (Below.refl w.heap.size w) (.cells #[.int .i64 d.V, .int .i64 d.q0, .slice A d.nx.length a, .slice B d.fi.length b] 25)) (.cells #[.int .i64 0, .int .i64 0, .slice none 0 0, .slice none 0 0] 25)
  have hN0 := (Blk4.new w (.int .i64 d.V) (.int .i64 d.q0) (.slice A d.nx.length a) (.slice B d.fi.length b)).below (bal (Below.refl _ _) (.cells #[.int .i64 0, .int .i64 0, .slice none 0 0, .slice none 0 0] 25))
  have hR0 := Blk4.new (w.alloc (.cells #[.int .i64 d.V, .int .i64 d.q0, .slice A d.nx.length a, .slice B d.fi.length b] 25)) (.int .i64 0) (.int .i64 0) (.slice none 0 0) (.slice none 0 0)
  rw [World.size_alloc] at hR0
  have HC := Lib.hid fun X (hX : Below w.heap.size w X) => refClasses_any d A B a b X (fun e w' => e = .returned (.tuple #[.slice none 0 0, .int .i64 (chkD d)]) ∧ Below X.heap.size X w') (hx.below hX) hn
    ((refRounds_bad d A B a b _ ((hx.below hX).below (bal (Below.refl _ _) _)) hl _ h0).mono fun e w' ⟨h1, h2⟩ => ⟨⟨_, _, h1⟩, h1, stepB (bal (Below.refl _ _) _) h2⟩)
  have hne : (chkD d != 0) = true := by rw [bne_iff_ne]; exact h0
  clear hx hl h0
  obtain ⟨z0, z1, z2, z3⟩ := hN0.cells
  generalize chkD d = E at *
  generalize d.nx.length = nn at *
  generalize d.fi.length = nf at *
  go_enter Tryd.func14, Tryd.ntmps14
  go_wp2_with (go_at_call 15; ((with_reducible refine (HC.out _ hb0).mono ?_); rintro e w2 ⟨rfl, hb2⟩); clear z0 z1 z2 z3; replace hR0 := hR0.below hb2; replace hb0 := stepB hb0 hb2; obtain ⟨⟨p0, f0⟩, ⟨p1, f1⟩, ⟨p2, f2⟩, ⟨p3, f3⟩, hR5, hB5⟩ := store4 hR0 (.int .i64 0) (.int .i64 0) (.slice none 0 0) (.slice none 0 0); have HF := Lib.hid (And.intro hR5.cells (hB5 w.heap.size (by omega))); clear hR5 hB5)
  obtain ⟨⟨y0, y1, y2, y3⟩, hb5'⟩ := HF.out
  have hb5 := hb0.trans hb5'
  unfold put4 at y0 y1 y2 y3 hb5
  refine bodyPost_ret (v := .tuple #[.agg #[.int .i64 0, .int .i64 0, .slice none 0 0, .slice none 0 0], .int .i64 E]) (by simp [results, Tryd.results14, go_sem, y0, y1, y2, y3]) rfl ?_
  exact ⟨rfl, hb5⟩
set_option maxHeartbeats 32000000 in
theorem refMinimize_good (hx : DaAt w d A B) (h0 : chkD d = 0) (hn : d.nx.length ≤ 1000) (F : List Int) (hF : found (succT d) d.nx.length d.q0 = some F) (hFp : ∀ s ∈ F, Pd d s) :
    Calls Tryd.prog 14 #[.agg #[.int .i64 d.V, .int .i64 d.q0, .slice A d.nx.length a, .slice B d.fi.length b]] w fun e w' => ∃ A' a' B' b', e = .returned (.tuple #[.agg #[.int .i64 d.V, .int .i64 0, .slice A' (minR (renD d F)).nx.length a', .slice B' (minR (renD d F)).fi.length b'], .int .i64 0]) ∧ DaAt w' (minR (renD d F)) A' B' ∧ Below w.heap.size w w' := by
  have hO := okD_of h0
  have hb0 := bal (bal (Below.refl w.heap.size w) (.cells #[.int .i64 d.V, .int .i64 d.q0, .slice A d.nx.length a, .slice B d.fi.length b] 25)) (.cells #[.int .i64 0, .int .i64 0, .slice none 0 0, .slice none 0 0] 25)
  have hN0 := (Blk4.new w (.int .i64 d.V) (.int .i64 d.q0) (.slice A d.nx.length a) (.slice B d.fi.length b)).below (bal (Below.refl _ _) (.cells #[.int .i64 0, .int .i64 0, .slice none 0 0, .slice none 0 0] 25))
  have hR0 := Blk4.new (w.alloc (.cells #[.int .i64 d.V, .int .i64 d.q0, .slice A d.nx.length a, .slice B d.fi.length b] 25)) (.int .i64 0) (.int .i64 0) (.slice none 0 0) (.slice none 0 0)
  rw [World.size_alloc] at hR0
  obtain ⟨cl, hcl⟩ : ∃ cl, cl = clsD d d.nx.length := ⟨_, rfl⟩
  have HC := Lib.hid fun X (hX : Below w.heap.size w X) => refClasses_any d A B a b X (fun e w' => ∃ A' c', e = .returned (.tuple #[.slice A' d.nx.length c', .int .i64 0]) ∧ Ints w' A' cl ∧ Below X.heap.size X w') (hx.below hX) hn
    ((refRounds_good d A B a b _ ((hx.below hX).below (bal (Below.refl _ _) _)) h0 hn (d.nx.length : Int) (by omega) (by omega) cl (by rw [hcl, Int.toNat_natCast, Nat.min_self])).mono fun e w' ⟨A', c', h1, h2, h3⟩ => ⟨⟨_, _, h1⟩, A', c', h1, h2, stepB (bal (Below.refl _ _) _) h3⟩)
  have hOq : OkD (quoD d) := by classical exact quo_ok hO
  obtain ⟨E, hE, hEp⟩ := ren_some hOq
  have hmin := quo_min hO hF hFp hE hEp
  have HRen := Lib.hid fun X (A' B' : Option Addr) (a' b' : Nat) (hX : DaAt X (quoD d) A' B') => (refRenumber_own (quoD d) A' B' a' b' X hX hOq.len (okD_chk hOq) E hE hEp).mono (R' := fun e w' => ∃ A' a' B' b' Bs, e = .returned (.tuple #[.agg #[.int .i64 d.V, .int .i64 0, .slice A' (minR (renD d F)).nx.length a', .slice B' (minR (renD d F)).fi.length b'], .int .i64 0]) ∧ Below X.heap.size X w' ∧ X.heap.size ≤ Bs ∧ SetsO Bs w' (.slice A' (minR (renD d F)).nx.length a') (minR (renD d F)).nx ∧ w'.ownsRow Bs 4 1 (.slice B' (minR (renD d F)).fi.length b') (minR (renD d F)).fi.length ((minR (renD d F)).fi.map Value.bool)) fun e w' ⟨A', a', B', b', h1, h2, h3, Bs, h4, h5, h6⟩ => by
    have e1 : E.length = (minR (renD d F)).nx.length := by rw [← hmin, ren_nx]
    have e2 : E.length = (minR (renD d F)).fi.length := by rw [← hmin, ren_fi]
    rw [hmin] at h5 h6
    refine ⟨A', a', B', b', Bs, ?_, h3, h4, by rw [← e1]; exact h5, by rw [← e2]; exact h6⟩
    rw [h1, ← e1, ← e2]
    rfl
  have hqV : (quoD d).V = d.V := rfl
  have hqq : (quoD d).q0 = nd cl d.q0.toNat := by rw [hcl]; rfl
  have hqn : (quoD d).nx = nxM cl d.nx (fst cl d.nx.length) := by rw [hcl]; rfl
  have hqf : (quoD d).fi = (fst cl d.nx.length).map (fiB d) := by rw [hcl]; rfl
  have hcln : cl.length = d.nx.length := by rw [hcl]; exact clsD_len hO _
  have HFst : Hid (∀ k, k < d.nx.length → (0 ≤ nd cl k ∧ nd cl k < ((nxM cl d.nx (fst cl k)).length : Int) ∧ fst cl (k + 1) = fst cl k) ∨ (nd cl k = ((nxM cl d.nx (fst cl k)).length : Int) ∧ fst cl (k + 1) = fst cl k ++ [k])) := fun k hk => by
    rw [show (nxM cl d.nx (fst cl k)).length = (fst cl k).length from List.length_map _]
    have h := fst_max hO (k := d.nx.length) hk
    rw [← hcl] at h
    rcases h with h | ⟨h, _⟩
    · exact .inl h
    · exact .inr ⟨h, fst_yes h⟩
  have HRow : Hid (∀ k, k < d.nx.length → k < d.fi.length ∧ (tb d.nx k).length ≤ 64 ∧ ∀ j, j < (tb d.nx k).length → 0 ≤ nd (tb d.nx k) j ∧ nd (tb d.nx k) j < (d.nx.length : Int)) := fun k hk => by
    have h1 := hO.row _ (tb_mem hk)
    refine ⟨by rw [hO.fi]; exact hk, by rw [h1.1]; exact Dg.pow7 (by have := hO.v6; omega), fun j hj => ?_⟩
    have h2 := h1.2 _ (List.getElem_mem hj)
    rw [← nd_eq hj] at h2
    exact h2
  obtain ⟨Q0, hQ0, hQn⟩ : ∃ Q0 : Nat, d.q0 = (Q0 : Int) ∧ Q0 < d.nx.length := ⟨d.q0.toNat, by have := hO.q0; omega, by have := hO.q0; omega⟩
  have HFl : Hid (∀ k, (fst cl k).length ≤ k) := fst_len cl
  have HD := Lib.hid hx.nx
  have HFi := Lib.hid hx.fi
  rw [hQ0] at hqq
  rw [Int.toNat_natCast] at hqq
  have HQ := Lib.hid (And.intro hqV (And.intro hqq (And.intro hqn hqf)))
  generalize minR (renD d F) = M at *
  clear hx h0 hO hF hFp hOq hE hEp hmin hcl hqV hqq hqn hqf
  generalize quoD d = QD at *
  rw [hQ0] at HC hN0 hb0 hR0 ⊢
  clear hQ0
  obtain ⟨z0, z1, z2, z3⟩ := hN0.cells
  go_enter Tryd.func14, Tryd.ntmps14
  go_upto_region 4 with (go_at_call 15; ((with_reducible refine (HC.out _ hb0).mono ?_); rintro e w3 ⟨P, cP, rfl, hiP, hb3⟩); clear z0 z1 z2 z3; replace hR0 := hR0.below hb3; replace hN0 := hN0.below hb3; replace hb0 := stepB hb0 hb3; obtain ⟨z0, z1, z2, z3⟩ := hN0.cells)
  refine wp_region_any (by kernel_rfl) ?_
  change wpAny _ _ _ _ _ _ _ (World.drew _)
  have hdr := drew_below w3
  obtain ⟨lp, rfl, hlp⟩ := Vals.at_ (Vals.below hiP hdr) (show Q0 < cl.length by omega)
  have hN1 := hN0.below hdr
  have hR1 := hR0.below hdr
  have hiP1 := Vals.below hiP hdr
  have hb1 := stepB hb0 hdr
  have HSb : Hid (∀ Y, Below w3.drew.heap.size w3.drew Y → (fun X : World => X.cell? ⟨w.heap.size, 0, none⟩ = some (.int .i64 d.V) ∧ X.cell? ⟨w.heap.size, 1, none⟩ = some (.int .i64 (Q0 : Int)) ∧ X.cell? (lp.add Q0) = some (.int .i64 (nd cl Q0))) Y) := fun Y hY => ⟨(hN1.below hY).cells.1, (hN1.below hY).cells.2.1, by
    obtain ⟨lp', e, h⟩ := Vals.at_ (Vals.below hiP1 hY) (show Q0 < cl.length by omega)
    cases e
    exact h⟩
  have hS0 := HSb.out _ (Below.refl _ _)
  have hQi : (Q0 : Int) < (d.nx.length : Int) := by omega
  clear hb0 hN0 hR0 hiP hdr z0 z1 z2 z3 hlp
  generalize w3.drew = X0 at *
  refine wpAny_head 9 9 (fun X : World => X.cell? ⟨w.heap.size, 0, none⟩ = some (.int .i64 d.V) ∧ X.cell? ⟨w.heap.size, 1, none⟩ = some (.int .i64 (Q0 : Int)) ∧ X.cell? (lp.add Q0) = some (.int .i64 (nd cl Q0))) rfl rfl (by kernel_rfl) (by kernel_rfl) (by kernel_rfl) (fun hA => ?_)
  refine wpHead_take (i := 0) (v := ?_) (by kernel_rfl) hA (at_drop rfl) (by decide) (by kernel_rfl) (by kernel_rfl) (by kernel_rfl) (fun _ _ _ h => h) (Or.inl ⟨by rfl, ?_⟩) hS0 (fun hA => ?_)
  rotate_left
  · (intro Y hSY; obtain ⟨s0, s1, s2⟩ := hSY; go_simp <;> with_reducible rfl)
  simp only [Act.put, List.setIfInBounds_toArray, List.set_cons_zero, List.set_cons_succ]
  refine wpHead_take (i := 1) (v := ?_) (by kernel_rfl) hA (at_drop rfl) (by decide) (by kernel_rfl) (by kernel_rfl) (by kernel_rfl) (fun _ _ _ h => h) (Or.inl ⟨by rfl, ?_⟩) hS0 (fun hA => ?_)
  rotate_left
  · (intro Y hSY; obtain ⟨s0, s1, s2⟩ := hSY; go_simp <;> with_reducible rfl)
  simp only [Act.put, List.setIfInBounds_toArray, List.set_cons_zero, List.set_cons_succ]
  refine wpHead_take (i := 2) (v := ?_) (by kernel_rfl) hA (at_drop rfl) (by decide) (by kernel_rfl) (by kernel_rfl) (by kernel_rfl) (fun _ _ _ h => h) (Or.inl ⟨by rfl, ?_⟩) hS0 (fun hA => ?_)
  rotate_left
  · (intro Y hSY; obtain ⟨s0, s1, s2⟩ := hSY; go_simp <;> with_reducible rfl)
  simp only [Act.put, List.setIfInBounds_toArray, List.set_cons_zero, List.set_cons_succ]
  refine wpHead_take (i := 3) (v := ?_) (by kernel_rfl) hA (at_drop rfl) (by decide) (by kernel_rfl) (by kernel_rfl) (by kernel_rfl) (fun _ _ _ h => h) (Or.inl ⟨by rfl, ?_⟩) hS0 (fun hA => ?_)
  rotate_left
  · (intro Y hSY; obtain ⟨s0, s1, s2⟩ := hSY; go_simp <;> with_reducible rfl)
  simp only [Act.put, List.setIfInBounds_toArray, List.set_cons_zero, List.set_cons_succ]
  refine wpHead_take (i := 4) (v := ?_) (by kernel_rfl) hA (at_drop rfl) (by decide) (by kernel_rfl) (by kernel_rfl) (by kernel_rfl) (fun _ _ _ h => h) (Or.inl ⟨by rfl, ?_⟩) hS0 (fun hA => ?_)
  rotate_left
  · (intro Y hSY; obtain ⟨s0, s1, s2⟩ := hSY; go_simp <;> with_reducible rfl)
  simp only [Act.put, List.setIfInBounds_toArray, List.set_cons_zero, List.set_cons_succ]
  refine wpHead_take (i := 5) (v := ?_) (by kernel_rfl) hA (at_drop rfl) (by decide) (by kernel_rfl) (by kernel_rfl) (by kernel_rfl) (fun _ _ _ h => h) (Or.inl ⟨by rfl, ?_⟩) hS0 (fun hA => ?_)
  rotate_left
  · (intro Y hSY; obtain ⟨s0, s1, s2⟩ := hSY; go_simp <;> with_reducible rfl)
  simp only [Act.put, List.setIfInBounds_toArray, List.set_cons_zero, List.set_cons_succ]
  refine wpHead_take (i := 6) (v := ?_) (by kernel_rfl) hA (at_drop rfl) (by decide) (by kernel_rfl) (by kernel_rfl) (by kernel_rfl) (fun _ _ _ h => h) (Or.inl ⟨by rfl, ?_⟩) hS0 (fun hA => ?_)
  rotate_left
  · (intro Y hSY; obtain ⟨s0, s1, s2⟩ := hSY; go_simp <;> with_reducible rfl)
  simp only [Act.put, List.setIfInBounds_toArray, List.set_cons_zero, List.set_cons_succ]
  refine wpHead_take (i := 7) (v := ?_) (by kernel_rfl) hA (at_drop rfl) (by decide) (by kernel_rfl) (by kernel_rfl) (by kernel_rfl) (fun _ _ _ h => h) (Or.inl ⟨by rfl, ?_⟩) hS0 (fun hA => ?_)
  rotate_left
  · (intro Y hSY; obtain ⟨s0, s1, s2⟩ := hSY; go_simp <;> with_reducible rfl)
  simp only [Act.put, List.setIfInBounds_toArray, List.set_cons_zero, List.set_cons_succ]
  have hA8 := hnext hA (rs := [8]) (i := 8) (by kernel_rfl) (by decide) (by decide)
  refine wpHead_ready (rs := [8]) (by kernel_rfl) (by decide) (AllHead.cons (at_drop rfl) (by decide) (fun KK hK => ?_) AllHead.nil)
  replace hA := hA8
  go_simp
  obtain ⟨wL, hwL⟩ : ∃ wL, wL = X0.alloc (.cells #[.int .i64 d.V, .int .i64 (nd cl Q0), .slice none 0 0, .slice none 0 0] 25) := ⟨_, rfl⟩
  have hG := Blk4.new X0 (.int .i64 d.V) (.int .i64 (nd cl Q0)) (.slice none 0 0) (.slice none 0 0)
  have K4 : Below X0.heap.size X0 wL := by rw [hwL]; exact bal (Below.refl _ _) _
  have hs4 : wL.heap.size = X0.heap.size + 1 := by rw [hwL]; exact World.size_alloc ..
  rw [← hwL] at hG
  have HwL := Lib.hid hwL
  refine hK _ _ (HSb.out _ (bal (Below.refl _ _) (.cells #[.int .i64 0, .int .i64 0, .slice none 0 0, .slice none 0 0] 25))) ?_
  clear hK KK hS0 HSb hwL
  try simp only [Act.put, List.setIfInBounds_toArray, List.set_cons_zero, List.set_cons_succ]
  refine wpHead_end (by kernel_rfl) ?_
  simp only [List.drop_succ_cons, List.drop_zero]
  go_upto_region 5 with fail
  rw [← HwL.out]
  clear HwL HC
  have hsb := hb1.size
  have hlR := blk_lt hR1
  have hlN := blk_lt hN1
  have hb4 := stepB hb1 K4
  have hiP4 := Vals.below hiP1 K4
  have hR4 := hR1.below K4
  have hN4 := hN1.below K4
  have HL0 : Hid (QfL w wL X0.heap.size d.V (nd cl Q0) (nxM cl d.nx (fst cl 0)) ((fst cl 0).map (fiB d)) (.slice none 0 0) none 0 wL) := ⟨hG, SetsO.nil _ _, ⟨rfl, .inl ⟨rfl, rfl⟩⟩, ⟨Nat.le_refl _, fun b _ _ => rfl⟩, hb4, ⟨hsb, by omega, by omega⟩⟩
  have HiP : Hid (∀ X : World, (wL.heap.size ≤ X.heap.size ∧ ∀ b, b < wL.heap.size → b ≠ X0.heap.size → X.heap[b]? = wL.heap[b]?) → Ints X (some lp) cl) := fun X hf j hj => by
    obtain ⟨ad, e, h1, h2⟩ := hiP1 j hj
    have h3 := hf.1
    exact ⟨ad, e, by omega, (World.cell?_of_block (by rw [addr_block]; exact (hf.2 _ (by omega) (by omega)).trans (K4.block _ h1))).trans h2⟩
  have HN := Lib.hid fun (X : World) (hf : wL.heap.size ≤ X.heap.size ∧ ∀ b, b < wL.heap.size → b ≠ X0.heap.size → X.heap[b]? = wL.heap[b]?) => show Blk4 X w.heap.size (.int .i64 d.V) (.int .i64 (Q0 : Int)) (.slice A d.nx.length a) (.slice B d.fi.length b) from (hf.2 _ (by omega) (by omega)).trans hN4
  have HRb := Lib.hid fun (X : World) (hf : wL.heap.size ≤ X.heap.size ∧ ∀ b, b < wL.heap.size → b ≠ X0.heap.size → X.heap[b]? = wL.heap[b]?) => show Blk4 X (w.heap.size + 1) (.int .i64 0) (.int .i64 0) (.slice none 0 0) (.slice none 0 0) from (hf.2 _ (by omega) (by omega)).trans hR4
  clear hN1 hR1 hG K4 hb1 hiP1 hb4 hiP4 hR4 hN4 hs4 hsb hlR hlN
  generalize X0.heap.size = g3 at *
  generalize nd cl Q0 = qn at *
  obtain ⟨i0, hi0, hz0, hz1, hz2⟩ := info_parts info_int6
  obtain ⟨i1, hi1, hy0, hy1, hy2⟩ := info_parts Dg.info_tab
  obtain ⟨i2, hi2, hx0, hx1, hx2⟩ := info_parts info_boolJ
  go_wp2
  go_loopw [7] (fun iv wr => ∃ (k : Nat) (rv : Value) (A3 : Option Addr) (c3 : Nat), k ≤ d.nx.length ∧ iv = .int .i64 k ∧ Hid (QfL w wL g3 d.V qn (nxM cl d.nx (fst cl k)) ((fst cl k).map (fiB d)) rv A3 c3 wr)) (fun iv _ => d.nx.length - (intOf iv).toNat)
  case atStart => exact ⟨0, _, none, 0, Nat.zero_le _, rfl, HL0⟩
  case round =>
    clear HL0
    obtain ⟨k, rv, A3, c3, hk, rfl, hT⟩ := hrel
    obtain ⟨Ar, cr, rfl, _⟩ := hT.out.r.form
    by_cases hlt : k < d.nx.length
    · obtain ⟨hkf, hr64, hrow⟩ := HRow.out k hlt
      have HLc : Hid (∀ X : World, (wL.heap.size ≤ X.heap.size ∧ ∀ b, b < wL.heap.size → b ≠ g3 → X.heap[b]? = wL.heap[b]?) → ∀ t : Nat, t < d.nx.length → X.cell? (lp.add t) = some (.int .i64 (nd cl t))) := fun X hf t ht => by
        obtain ⟨ld', e, h⟩ := Vals.at_ (HiP.out X hf) (show t < cl.length by omega)
        cases e
        exact h
      have hkn : (k : Int) < (d.nx.length : Int) := by omega
      have hrl : (nxM cl d.nx (fst cl k)).length ≤ 1000 := by rw [show (nxM cl d.nx (fst cl k)).length = (fst cl k).length from List.length_map _]; have := HFl.out k; omega
      have hfl : ((fst cl k).map (fiB d)).length ≤ 1000 := by rw [List.length_map]; have := HFl.out k; omega
      rcases HFst.out k hlt with ⟨h1, h2, h3⟩ | ⟨h1, h3⟩
      · have HE : Hid (fst cl (k + 1) = fst cl k) := h3
        clear h3 hrow
        have e1 : decide (nd cl k < ((nxM cl d.nx (fst cl k)).length : Int)) = true := decide_eq_true h2
        have y1 := HLc.out _ hT.out.fr k hlt
        obtain ⟨x0, x1, x2, x3⟩ := hT.out.n.cells
        generalize hnk : nd cl k = v at *
        clear hnk h1 h2
        generalize hrw : nxM cl d.nx (fst cl k) = rows at *
        generalize hfw : (fst cl k).map (fiB d) = fs at *
        have HRW := Lib.hid hrw
        have HFW := Lib.hid hfw
        clear hrw hfw
        go_upto_region 8 with fail
        go_quiet (fail)
        have hTq := Lib.hid (hT.out.below (Ap.drewN_below wr nq))
        clear x0 x1 x2 x3 y1 hT
        generalize wr.drewN nq = X1 at *
        go_wp2
        go_roundw
        case rel => exact ⟨k + 1, _, A3, c3, by omega, by go_num, by show QfL _ _ _ _ _ _ _ _ _ _ _; rw [HE.out, HRW.out, HFW.out]; exact hTq.out⟩
        case measure => simp [intOf]; omega
      · have HNs : Hid (nxM cl d.nx (fst cl (k + 1)) = nxM cl d.nx (fst cl k) ++ [eachL cl (tb d.nx k)]) := by
          show _ = _
          rw [h3]; unfold nxM; rw [List.map_append]; rfl
        have HFs : Hid ((fst cl (k + 1)).map (fiB d) = (fst cl k).map (fiB d) ++ [fiB d k]) := by
          show _ = _
          rw [h3, List.map_append]; rfl
        have e1 : decide (nd cl k < ((nxM cl d.nx (fst cl k)).length : Int)) = false := decide_eq_false (by omega)
        obtain ⟨ad, p, c', rfl, hbk, hcell, hi⟩ := HD.out k hlt
        have HCl := Lib.hid fun X (hX : Below w.heap.size w X) => (hX.cell (p := ad.add k) (by rw [addr_block]; exact hbk)).trans hcell
        have HI := Lib.hid fun X (hX : Below w.heap.size w X) => show Ints X p (tb d.nx k) from Vals.below hi hX
        have HEl : Hid (∀ j, j < (tb d.nx k).length → ∃ t : Nat, nd (tb d.nx k) j = (t : Int) ∧ t < d.nx.length) := fun j hj => ⟨(nd (tb d.nx k) j).toNat, by have := hrow j hj; omega, by have := hrow j hj; omega⟩
        obtain ⟨bd, hBd, hfiA⟩ := Vals.at_ HFi.out hkf
        have hbdl : bd.block < w.heap.size := by have := World.block_lt_of_cell? _ _ hfiA; rwa [addr_block] at this
        replace hfiA : w.cell? (bd.add k) = some (.bool (fiB d k)) := hfiA
        subst hBd
        have HFc := Lib.hid fun X (hX : Below w.heap.size w X) => (hX.cell (p := bd.add k) (by rw [addr_block]; exact hbdl)).trans hfiA
        have y1 := HLc.out _ hT.out.fr k hlt
        obtain ⟨x0, x1, x2, x3⟩ := hT.out.n.cells
        have hkf2 : (k : Int) < (d.fi.length : Int) := by omega
        clear h1 h3 hrow hcell hbk hi hfiA hbdl
        generalize nd cl k = vk at *
        generalize tb d.nx k = row at *
        generalize fiB d k = fb at *
        generalize hrw : nxM cl d.nx (fst cl k) = rows at *
        generalize hfw : (fst cl k).map (fiB d) = fs at *
        clear hrw hfw
        generalize hnn : d.nx.length = nn at *
        generalize hnf : d.fi.length = nf at *
        have HNN := Lib.hid hnn
        have HNF := Lib.hid hnf
        clear hnn hnf
        go_upto_region 8 with fail
        go_quiet (fail)
        have hTq := Lib.hid (hT.out.below (Ap.drewN_below wr nq))
        clear x0 x1 x2 x3 y1 hT
        generalize wr.drewN nq = wi at *
        have hF0 : Hid (wi.ownsRow wi.heap.size 3 1 (.slice none 0 0) 0 (zvs ((eachL cl row).take 0))) := ⟨rfl, .inl ⟨rfl, rfl⟩⟩
        go_wp2
        go_loopw [8, 9] (fun lv jv X => ∃ (j : Nat) (v : Value), v = lv ∧ j ≤ row.length ∧ jv = .int .i64 j ∧ Hid (X.ownsRow wi.heap.size 3 1 v j (zvs ((eachL cl row).take j))) ∧ Hid (Below wi.heap.size wi X)) (fun _ jv _ => row.length - (intOf jv).toNat)
        case atStart => exact ⟨0, _, rfl, Nat.zero_le _, rfl, hF0, Below.refl _ _⟩
        case round =>
          clear hF0
          obtain ⟨j, v, rfl, hj, rfl, hO, hbX⟩ := hrel
          have hTX := hTq.out.below hbX.out
          obtain ⟨z0, z1, z2, z3⟩ := (HN.out _ hTX.fr).cells
          have y2 := HCl.out _ hTX.b
          by_cases hjt : j < row.length
          · obtain ⟨pd, rfl, y3⟩ := Vals.at_ (HI.out _ hTX.b) hjt
            obtain ⟨t, ht, htn⟩ := HEl.out j hjt
            replace y3 : wr.cell? (pd.add j) = some (.int .i64 (nd row j)) := y3
            rw [ht] at y3
            have y4 := HLc.out _ hTX.fr t htn
            have hjt2 : (j : Int) < (row.length : Int) := by omega
            have htn2 : (t : Int) < (nn : Int) := by omega
            have HRj : Hid (zvs ((eachL cl row).take (j + 1)) = zvs ((eachL cl row).take j) ++ [.int .i64 (nd cl t)]) := by
              show _ = _
              rw [← zvs_snoc]
              congr 1
              unfold eachL
              rw [List.take_add_one, List.getElem?_map, List.getElem?_eq_getElem hjt, ← nd_eq hjt, ht]
              rfl
            clear ht
            generalize nd cl t = tv at *
            obtain ⟨A8, c8, rfl, _⟩ := Ap.own_form hO.out
            have hszr := hbX.out.size
            go_wp2_with (at_builtin; refine wpList_append_own_at _ rfl _ _ 33 rfl wi.heap.size 3 i0 (.int .i64 0) 1 8 Tryd.underlying33 hi0 hz0 hz1 hz2 rfl (by decide) _ j _ rfl (hO.out.alloc _) ⟨wr.heap.size, 0, none⟩ 1 1 [.int .i64 tv] rfl rfl (cell_one_new _ _ _) (by simp [Value.oneCell']) (by unfold maxLen; omega) (by omega) (by simp; omega) ?_; intro v' w6 hown' hgrow _ hb6; have HO6 := Lib.hid hown'; have HB6 := Lib.hid ((hbX.out.alloc (by omega) (.cells #[.int .i64 tv] 3)).grown hgrow (by simp; omega) (fun q hq => (own_lt hO.out hq).1)); clear hown' hgrow hb6)
            go_roundw
            case rel => exact ⟨j + 1, _, rfl, by omega, by go_num, by rw [HRj.out]; exact HO6.out, HB6⟩
            case measure => simp [intOf]; omega
          · obtain rfl : j = row.length := by omega
            have hOq := hO.out
            have hTq2 := Lib.hid hTX
            have hRt : (eachL cl row).take row.length = eachL cl row := List.take_of_length_le (by simp [eachL])
            have hRl : (eachL cl row).length = row.length := List.length_map _
            rw [hRt] at hOq
            have hwis := hTq.out.fr.1
            have hOl : Hid (wr.ownsRow wL.heap.size 3 1 v (eachL cl row).length (zvs (eachL cl row))) := by
              rw [hRl]; exact ownsRow_mono hOq hwis
            clear hTX hO hbX hOq hRt HCl HI HEl hTq
            obtain ⟨A8, c8, rfl, _⟩ := Ap.own_form hOl.out
            rw [hRl] at hOl
            generalize eachL cl row = R at *
            obtain ⟨x0, x1, x2, x3⟩ := hTq2.out.n.cells
            have hszq := hTq2.out.fr.1
            obtain ⟨Q, eQ, hoQ, hqQ⟩ := hTq2.out.r
            have HOQ := Lib.hid hoQ
            have HRow2 := Lib.hid fun v' Z (tmp : Obj) ho hg => hTq2.out.row (v := .slice A8 row.length c8) (l := R) (rv' := v') (Z := Z) (tmp := tmp) eQ hoQ hqQ (by rw [hRl]; exact hOl.out) ho hg
            clear eQ hoQ hqQ hOl
            go_upto_region 15 with (at_builtin; refine wpList_append_own_at _ rfl _ _ 22 rfl wL.heap.size 33 i1 (.slice none 0 0) 1 24 Tryd.underlying22 hi1 hy0 hy1 hy2 rfl (by decide) _ rows.length _ rfl (HOQ.out.alloc _) ⟨wr.heap.size, 0, none⟩ 1 1 [.slice A8 row.length c8] rfl rfl (cell_one_new _ _ _) (by simp [Value.oneCell']) (by unfold maxLen; omega) (by omega) (by simp; omega) ?_; intro v' w6 hown' hgrow _ hb6; obtain ⟨A5, c5, rfl, _⟩ := Ap.own_form hown'; obtain ⟨hblk, hT6⟩ := HRow2.out _ w6 _ hown' hgrow; have HT6 := Lib.hid hT6; have y3 := hblk.cells.2.2.1; have f3 := free_of hblk 2; clear hT6 hown' hgrow hb6 hblk)
            clear x0 x1 x2 x3 y2 y3 f3 z0 z1 z2 z3 HRow2 HOQ hTq2 hszq
            generalize w6.setCell ⟨g3, 2, none⟩ (.slice A5 (rows.length + 1) c5) = w7 at *
            refine wp_region_any (by kernel_rfl) ?_
            change wpAny _ _ _ _ _ _ _ (World.drew _)
            have hLd := HT6.out.below (drew_below w7)
            have hS0 : (fun X : World => X.cell? ⟨g3, 3, none⟩ = some (.slice A3 fs.length c3) ∧ X.cell? ⟨w.heap.size, 3, none⟩ = some (.slice (some bd) nf b) ∧ X.cell? (bd.add k) = some (.bool fb)) w7.drew := ⟨hLd.n.cells.2.2.2, (HN.out _ hLd.fr).cells.2.2.2, HFc.out _ hLd.b⟩
            have HSb : Hid (∀ Y, Below w7.drew.heap.size w7.drew Y → (fun X : World => X.cell? ⟨g3, 3, none⟩ = some (.slice A3 fs.length c3) ∧ X.cell? ⟨w.heap.size, 3, none⟩ = some (.slice (some bd) nf b) ∧ X.cell? (bd.add k) = some (.bool fb)) Y) := fun Y hY => ⟨(hLd.below hY).n.cells.2.2.2, (HN.out _ (hLd.below hY).fr).cells.2.2.2, HFc.out _ (hLd.below hY).b⟩
            clear HT6
            generalize w7.drew = X0 at *
            refine wpAny_head 9 9 (fun X : World => X.cell? ⟨g3, 3, none⟩ = some (.slice A3 fs.length c3) ∧ X.cell? ⟨w.heap.size, 3, none⟩ = some (.slice (some bd) nf b) ∧ X.cell? (bd.add k) = some (.bool fb)) rfl rfl (by kernel_rfl) (by kernel_rfl) (by kernel_rfl) (fun hA => ?_)
            refine wpHead_take (i := 0) (v := ?_) (by kernel_rfl) hA (at_drop rfl) (by decide) (by kernel_rfl) (by kernel_rfl) (by kernel_rfl) (fun _ _ _ h => h) (Or.inl ⟨by rfl, ?_⟩) hS0 (fun hA => ?_)
            rotate_left
            · (intro Y hSY; obtain ⟨s0, s1, s2⟩ := hSY; go_simp <;> with_reducible rfl)
            simp only [Act.put, List.setIfInBounds_toArray, List.set_cons_zero, List.set_cons_succ]
            refine wpHead_take (i := 1) (v := ?_) (by kernel_rfl) hA (at_drop rfl) (by decide) (by kernel_rfl) (by kernel_rfl) (by kernel_rfl) (fun _ _ _ h => h) (Or.inl ⟨by rfl, ?_⟩) hS0 (fun hA => ?_)
            rotate_left
            · (intro Y hSY; obtain ⟨s0, s1, s2⟩ := hSY; go_simp <;> with_reducible rfl)
            simp only [Act.put, List.setIfInBounds_toArray, List.set_cons_zero, List.set_cons_succ]
            refine wpHead_take (i := 2) (v := ?_) (by kernel_rfl) hA (at_drop rfl) (by decide) (by kernel_rfl) (by kernel_rfl) (by kernel_rfl) (fun _ _ _ h => h) (Or.inl ⟨by rfl, ?_⟩) hS0 (fun hA => ?_)
            rotate_left
            · (intro Y hSY; obtain ⟨s0, s1, s2⟩ := hSY; go_simp <;> with_reducible rfl)
            simp only [Act.put, List.setIfInBounds_toArray, List.set_cons_zero, List.set_cons_succ]
            refine wpHead_take (i := 3) (v := ?_) (by kernel_rfl) hA (at_drop rfl) (by decide) (by kernel_rfl) (by kernel_rfl) (by kernel_rfl) (fun _ _ _ h => h) (Or.inl ⟨by rfl, ?_⟩) hS0 (fun hA => ?_)
            rotate_left
            · (intro Y hSY; obtain ⟨s0, s1, s2⟩ := hSY; go_simp <;> with_reducible rfl)
            simp only [Act.put, List.setIfInBounds_toArray, List.set_cons_zero, List.set_cons_succ]
            refine wpHead_take (i := 4) (v := ?_) (by kernel_rfl) hA (at_drop rfl) (by decide) (by kernel_rfl) (by kernel_rfl) (by kernel_rfl) (fun _ _ _ h => h) (Or.inl ⟨by rfl, ?_⟩) hS0 (fun hA => ?_)
            rotate_left
            · (intro Y hSY; obtain ⟨s0, s1, s2⟩ := hSY; go_simp <;> with_reducible rfl)
            simp only [Act.put, List.setIfInBounds_toArray, List.set_cons_zero, List.set_cons_succ]
            refine wpHead_take (i := 5) (v := ?_) (by kernel_rfl) hA (at_drop rfl) (by decide) (by kernel_rfl) (by kernel_rfl) (by kernel_rfl) (fun _ _ _ h => h) (Or.inl ⟨by rfl, ?_⟩) hS0 (fun hA => ?_)
            rotate_left
            · (intro Y hSY; obtain ⟨s0, s1, s2⟩ := hSY; go_simp <;> with_reducible rfl)
            simp only [Act.put, List.setIfInBounds_toArray, List.set_cons_zero, List.set_cons_succ]
            refine wpHead_take (i := 6) (v := ?_) (by kernel_rfl) hA (at_drop rfl) (by decide) (by kernel_rfl) (by kernel_rfl) (by kernel_rfl) (fun _ _ _ h => h) (Or.inl ⟨by rfl, ?_⟩) hS0 (fun hA => ?_)
            rotate_left
            · (intro Y hSY; obtain ⟨s0, s1, s2⟩ := hSY; go_simp <;> with_reducible rfl)
            simp only [Act.put, List.setIfInBounds_toArray, List.set_cons_zero, List.set_cons_succ]
            have hA7 := hnext hA (rs := [7]) (i := 7) (by kernel_rfl) (by decide) (by decide)
            refine wpHead_ready (rs := [7]) (by kernel_rfl) (by decide) (AllHead.cons (at_drop rfl) (by decide) (fun KK hK => ?_) AllHead.nil)
            replace hA := hA7
            go_simp
            have hb1 := bal (Below.refl X0.heap.size X0) (.cells #[.bool fb] 4)
            have hL1 := hLd.below hb1
            have hS1 := HSb.out _ hb1
            have hn1 := cell_one_new X0 (.bool fb) 4
            have hfr0 := hLd.fr.1
            refine hK _ _ hS1 ?_
            clear hK KK
            try simp only [Act.put, List.setIfInBounds_toArray, List.set_cons_zero, List.set_cons_succ]
            have hA8 := hnext hA (rs := [8]) (i := 8) (by kernel_rfl) (by decide) (by decide)
            refine wpHead_ready (rs := [8]) (by kernel_rfl) (by decide) (AllHead.cons (at_drop rfl) (by decide) (fun KK hK => ?_) AllHead.nil)
            replace hA := hA8
            refine step_append rfl (.tmp 72) (.tmp 78) 23 rfl wL.heap.size 4 i2 (.bool false) 1 1 Tryd.underlying23 hi2 hx0 hx1 hx2 rfl (by decide) (.slice A3 fs.length c3) fs.length _ (by simp [Act.eval]) hL1.f ⟨X0.heap.size, 0, none⟩ 1 1 [.bool fb] (by simp [Act.eval]) rfl hn1 (by simp [Value.oneCell']) (by unfold maxLen; omega) (by omega) (by simp; omega) ?_
            intro A4 c4 Z ho2 hg2 hob2
            obtain ⟨hdZ, hLZ⟩ := hLd.fin ho2 hg2
            have hfrZ : wL.heap.size ≤ Z.heap.size ∧ ∀ b, b < wL.heap.size → b ≠ g3 → Z.heap[b]? = wL.heap[b]? := ⟨by have := hLZ.fr.1; rwa [size_put] at this, fun b h1 h2 => by have := hLZ.fr.2 b h1 h2; rwa [Below.heap_setCell _ _ _ _ h2] at this⟩
            have hbZ : Below w.heap.size w Z := ((hLd.b.alloc (by have := hLd.lo.2; omega) _).grown hg2 (by simp; have := hLd.lo.2; omega) (fun q hq => by have := own_lt hL1.f hq; have := hLd.lo.2; omega))
            have hSZ : (fun X : World => X.cell? ⟨g3, 3, none⟩ = some (.slice A3 fs.length c3) ∧ X.cell? ⟨w.heap.size, 3, none⟩ = some (.slice (some bd) nf b) ∧ X.cell? (bd.add k) = some (.bool fb)) Z := ⟨hdZ.cells.2.2.2, (HN.out _ hfrZ).cells.2.2.2, HFc.out _ hbZ⟩
            have HLZ := Lib.hid hLZ
            have f3 := free_of hdZ 3
            have c3z := hdZ.cells.2.2.2
            have l3z := blk_lt hdZ
            refine hK _ _ hSZ ?_
            clear hK KK hLZ hdZ ho2 hg2 hob2 hL1 hS1 hn1 hLd hS0 HSb
            try simp only [Act.put, List.setIfInBounds_toArray, List.set_cons_zero, List.set_cons_succ]
            refine wpHead_end (by kernel_rfl) ?_
            simp only [List.drop_succ_cons, List.drop_zero]
            clear HFc HLc
            go_wp2
            go_roundw
            case rel => exact ⟨k + 1, _, A4, c4, by omega, by go_num, by show QfL _ _ _ _ _ _ _ _ _ _ _; rw [HNs.out, HFs.out]; exact HLZ.out⟩
            case measure => simp [intOf]; omega
    · obtain rfl : k = d.nx.length := by omega
      have hT0 := hT.out
      have hRw := HRb.out _ hT0.fr
      have hlo := hT0.lo
      obtain ⟨y0, y1, y2, y3⟩ := hT0.n.cells
      have hDa : DaAt wr QD (Ar) A3 := ⟨by rw [HQ.out.2.2.1]; exact hT0.r.tabs rfl, by rw [HQ.out.2.2.2]; exact bools_own hT0.f rfl⟩
      have hr := HRen.out wr Ar A3 cr c3 hDa
      rw [HQ.out.1, HQ.out.2.1, HQ.out.2.2.1, HQ.out.2.2.2] at hr
      have HR := Lib.hid hr
      have HB := Lib.hid hT0.b
      clear hr hDa hT hT0 HN HRb HFi HD HiP HFst HRow HFl HQ HRen
      generalize (nxM cl d.nx (fst cl d.nx.length)).length = rn at *
      generalize ((fst cl d.nx.length).map (fiB d)).length = fnn at *
      generalize d.nx.length = nn at *
      generalize d.fi.length = nf at *
      go_wp2_with (go_at_call 40; ((with_reducible refine HR.out.mono ?_); rintro e w6 ⟨A7, a7, B7, b7, Bs, rfl, hb7, hBs, hS7, hf7⟩); clear y0 y1 y2 y3; have hRw7 := hRw.below hb7; obtain ⟨⟨p0, f0⟩, ⟨p1, f1⟩, ⟨p2, f2⟩, ⟨p3, f3⟩, hR5, hB5⟩ := store4 hRw7 (.int .i64 d.V) (.int .i64 0) (.slice A7 M.nx.length a7) (.slice B7 M.fi.length b7); have hS8 : SetsO Bs (put4 w6 (w.heap.size + 1) (.int .i64 d.V) (.int .i64 0) (.slice A7 M.nx.length a7) (.slice B7 M.fi.length b7)) (.slice A7 M.nx.length a7) M.nx := hS7.keep hRw7 (by decide) (by decide) (fun b hb => put4_other _ _ _ _ hb); have hf8 := own_eq (w' := put4 w6 (w.heap.size + 1) (.int .i64 d.V) (.int .i64 0) (.slice A7 M.nx.length a7) (.slice B7 M.fi.length b7)) hf7 (fun g hg => put4_other _ _ _ _ (fun e => own_ne hRw7 hf7 (by decide) (e ▸ hg))); have HF := Lib.hid (And.intro hR5.cells (And.intro (show DaAt (put4 w6 (w.heap.size + 1) (.int .i64 d.V) (.int .i64 0) (.slice A7 M.nx.length a7) (.slice B7 M.fi.length b7)) M A7 B7 from ⟨hS8.tabs rfl, bools_own hf8 rfl⟩) ((stepB HB.out hb7).trans (hB5 w.heap.size (by omega))))); clear hR5 hB5 hS8 hf8 hS7 hf7 hRw7 hRw hBs hb7)
      obtain ⟨⟨u0, u1, u2, u3⟩, hO, hb5⟩ := HF.out
      unfold put4 at u0 u1 u2 u3 hO hb5
      refine bodyPost_ret (v := .tuple #[.agg #[.int .i64 d.V, .int .i64 0, .slice A7 M.nx.length a7, .slice B7 M.fi.length b7], .int .i64 0]) (by simp [results, Tryd.results14, go_sem, u0, u1, u2, u3]) rfl ?_
      exact ⟨_, _, _, _, rfl, hO, hb5⟩
end
end Go.Proofs.YtkgeihambgbjdaaDoor.Mi
