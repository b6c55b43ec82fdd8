/- The groups of search (package minimal): singles, root, join. -/
import Derived.Test.YtkgeihambgbjdaaDoorPH
namespace Go.Proofs.YtkgeihambgbjdaaDoor.Mi
open Go Go.RowKit Go.Maps Go.Proofs.YtkgeihambgbjdaaDoor Go.Proofs.YtkgeihambgbjdaaDoor.Cb Go.Proofs.YtkgeihambgbjdaaDoor.Sb
open Go.Proofs.YtkgeihambgbjdaaDoor.Nf (zvs zvs_snoc info_int6 ret_int ret_b drew_below hnext)
open Go.Proofs.YtkgeihambgbjdaaDoor.Dg (Tabs tb tb_mem mem_tb info_tab)
set_option linter.unusedVariables false
set_option linter.unusedSimpArgs false
set_option maxRecDepth 100000
/-- One place changed. -/
def upd (p : Nat → Nat) (s v : Nat) : Nat → Nat := fun i => if i = s then v else p i
theorem upd_at (p : Nat → Nat) (s v : Nat) : upd p s v s = v := if_pos rfl
theorem upd_ne (p : Nat → Nat) {s i : Nat} (v : Nat) (h : i ≠ s) : upd p s v i = p i := if_neg h
/-- The groups of n states: p leads to another one of the group, and ρ is the one that stands for it. -/
structure Uf (n : Nat) (p ρ rk : Nat → Nat) (M : Nat) : Prop where
  lt : ∀ s, s < n → p s < n
  ro : ∀ s, s < n → ρ (p s) = ρ s
  rt : ∀ s, s < n → p s = s → ρ s = s
  le : ∀ s, s < n → rk s ≤ M
  up : ∀ s, s < n → p s ≠ s → rk s < rk (p s)
theorem Uf.single (n : Nat) : Uf n (fun s => s) (fun s => s) (fun _ => 0) 0 := ⟨fun s h => h, fun _ _ => rfl, fun _ _ _ => rfl, fun _ _ => Nat.le_refl _, fun s _ h => absurd rfl h⟩
theorem Uf.root {n : Nat} {p ρ rk : Nat → Nat} {M : Nat} (h : Uf n p ρ rk M) : ∀ k s, s < n → M - rk s ≤ k → ρ s < n ∧ p (ρ s) = ρ s ∧ ρ (ρ s) = ρ s
  | 0, s, hs, hk => by
    have h1 := h.le s hs
    by_cases e : p s = s
    · have h2 := h.rt s hs e
      rw [h2]
      exact ⟨hs, e, h2⟩
    · have h2 := h.up s hs e
      have h3 := h.le _ (h.lt s hs)
      omega
  | k + 1, s, hs, hk => by
    by_cases e : p s = s
    · have h2 := h.rt s hs e
      rw [h2]
      exact ⟨hs, e, h2⟩
    · have h2 := h.up s hs e
      have h3 := h.le _ (h.lt s hs)
      have := Uf.root h k (p s) (h.lt s hs) (by omega)
      rwa [h.ro s hs] at this
theorem Uf.rho {n : Nat} {p ρ rk : Nat → Nat} {M : Nat} (h : Uf n p ρ rk M) {s : Nat} (hs : s < n) : ρ s < n ∧ p (ρ s) = ρ s ∧ ρ (ρ s) = ρ s := h.root _ s hs (Nat.le_refl _)
theorem Uf.up2 {n : Nat} {p ρ rk : Nat → Nat} {M : Nat} (h : Uf n p ρ rk M) {s : Nat} (hs : s < n) (e : p s ≠ s) : rk s < rk (p (p s)) := by
  have h1 := h.up s hs e
  by_cases e2 : p (p s) = p s
  · rw [e2]; exact h1
  · have := h.up _ (h.lt s hs) e2; omega
/-- A state may lead to the one that the next one leads to. -/
theorem Uf.half {n : Nat} {p ρ rk : Nat → Nat} {M : Nat} (h : Uf n p ρ rk M) {s : Nat} (hs : s < n) (e : p s ≠ s) : Uf n (upd p s (p (p s))) ρ rk M := by
  have h2 := h.up2 hs e
  refine ⟨fun i hi => ?_, fun i hi => ?_, fun i hi e2 => ?_, h.le, fun i hi e2 => ?_⟩
  all_goals by_cases ei : i = s
  · subst ei; rw [upd_at]; exact h.lt _ (h.lt _ hs)
  · rw [upd_ne _ _ ei]; exact h.lt i hi
  · subst ei; rw [upd_at, h.ro _ (h.lt _ hs), h.ro _ hs]
  · rw [upd_ne _ _ ei]; exact h.ro i hi
  · subst ei; rw [upd_at] at e2; rw [e2] at h2; omega
  · rw [upd_ne _ _ ei] at e2; exact h.rt i hi e2
  · subst ei; rw [upd_at]; exact h2
  · rw [upd_ne _ _ ei] at e2 ⊢; exact h.up i hi e2
/-- The group of a and that of b are one. -/
def jo (ρ : Nat → Nat) (a b : Nat) : Nat → Nat := fun s => if ρ s = ρ a then ρ b else ρ s
theorem Uf.join {n : Nat} {p ρ rk : Nat → Nat} {M : Nat} (h : Uf n p ρ rk M) {s t : Nat} (hs : s < n) (ht : t < n) : ∃ rk' M', Uf n (upd p (ρ s) (ρ t)) (jo ρ s t) rk' M' := by
  obtain ⟨a1, a2, a3⟩ := h.rho hs
  obtain ⟨b1, b2, b3⟩ := h.rho ht
  by_cases eab : ρ s = ρ t
  · have e1 : upd p (ρ s) (ρ t) = p := by
      funext i
      by_cases ei : i = ρ s
      · rw [ei, upd_at, a2, eab]
      · rw [upd_ne _ _ ei]
    have e2 : jo ρ s t = ρ := by
      funext i
      unfold jo
      by_cases ei : ρ i = ρ s
      · rw [if_pos ei, ei, eab]
      · rw [if_neg ei]
    rw [e1, e2]
    exact ⟨rk, M, h⟩
  · refine ⟨fun i => if ρ i = ρ t then rk i + M + 1 else rk i, 2 * M + 1, ⟨fun i hi => ?_, fun i hi => ?_, fun i hi e2 => ?_, fun i hi => ?_, fun i hi e2 => ?_⟩⟩
    · by_cases ei : i = ρ s
      · rw [ei, upd_at]; exact b1
      · rw [upd_ne _ _ ei]; exact h.lt i hi
    · by_cases ei : i = ρ s
      · subst ei
        rw [upd_at]
        unfold jo
        rw [b3, if_neg (fun e => eab e.symm), a3, if_pos rfl]
      · rw [upd_ne _ _ ei]
        unfold jo
        rw [h.ro i hi]
    · by_cases ei : i = ρ s
      · subst ei
        rw [upd_at] at e2
        exact absurd e2.symm eab
      · rw [upd_ne _ _ ei] at e2
        have h1 := h.rt i hi e2
        unfold jo
        rw [if_neg (fun e => ei (h1.symm.trans e))]
        exact h1
    · have := h.le i hi
      show (if ρ i = ρ t then rk i + M + 1 else rk i) ≤ _
      by_cases e : ρ i = ρ t
      · rw [if_pos e]; omega
      · rw [if_neg e]; omega
    · show (if ρ i = ρ t then rk i + M + 1 else rk i) < (if ρ (upd p (ρ s) (ρ t) i) = ρ t then rk (upd p (ρ s) (ρ t) i) + M + 1 else rk (upd p (ρ s) (ρ t) i))
      by_cases ei : i = ρ s
      · subst ei
        rw [upd_at, b3, if_pos rfl, a3, if_neg eab]
        have := h.le _ a1
        omega
      · rw [upd_ne _ _ ei] at e2 ⊢
        rw [h.ro i hi]
        have := h.up i hi e2
        by_cases e : ρ i = ρ t
        · rw [if_pos e, if_pos e]; omega
        · rw [if_neg e, if_neg e]; exact this
/-- Only the block G changes. -/
structure OnlyG (G : Nat) (w w' : World) : Prop where
  os : w'.os = w.os
  tape : w'.tape = w.tape
  output : w'.output = w.output
  size : w'.heap.size = w.heap.size
  block : ∀ k, k ≠ G → w'.heap[k]? = w.heap[k]?
theorem OnlyG.refl (G : Nat) (w : World) : OnlyG G w w := ⟨rfl, rfl, rfl, rfl, fun _ _ => rfl⟩
theorem OnlyG.trans {G : Nat} {a b c : World} (h : OnlyG G a b) (k : OnlyG G b c) : OnlyG G a c := ⟨k.os.trans h.os, k.tape.trans h.tape, k.output.trans h.output, k.size.trans h.size, fun j hj => (k.block j hj).trans (h.block j hj)⟩
theorem OnlyG.put (G : Nat) (w : World) (o : Nat) (v : Value) : OnlyG G w (w.setCell ⟨G, o, none⟩ v) := ⟨rfl, rfl, rfl, Sb.size_put _ _ _, fun k hk => Below.heap_setCell _ _ _ k hk⟩
theorem OnlyG.below {G B : Nat} {w w' : World} (h : OnlyG G w w') (hB : B ≤ G) : Below B w w' := ⟨h.os, h.tape, h.output, Nat.le_of_eq h.size.symm, fun k hk => h.block k (by omega)⟩
/-- The worlds' blocks below w's end but G are kept. -/
structure Keep (G : Nat) (w w' : World) : Prop where
  os : w'.os = w.os
  tape : w'.tape = w.tape
  output : w'.output = w.output
  size : w.heap.size ≤ w'.heap.size
  block : ∀ k, k < w.heap.size → k ≠ G → w'.heap[k]? = w.heap[k]?
theorem Keep.refl (G : Nat) (w : World) : Keep G w w := ⟨rfl, rfl, rfl, Nat.le_refl _, fun _ _ _ => rfl⟩
theorem Keep.trans {G : Nat} {a b c : World} (h : Keep G a b) (k : Keep G b c) : Keep G a c := ⟨k.os.trans h.os, k.tape.trans h.tape, k.output.trans h.output, Nat.le_trans h.size k.size, fun j hj hg => (k.block j (Nat.lt_of_lt_of_le hj h.size) hg).trans (h.block j hj hg)⟩
theorem OnlyG.keep {G : Nat} {w w' : World} (h : OnlyG G w w') : Keep G w w' := ⟨h.os, h.tape, h.output, Nat.le_of_eq h.size.symm, fun k _ hk => h.block k hk⟩
theorem Keep.of_below {G : Nat} {w w' : World} (h : Below w.heap.size w w') : Keep G w w' := ⟨h.os, h.tape, h.output, h.size, fun k hk _ => h.block k hk⟩
theorem Keep.alloc (G : Nat) (w : World) (o : Obj) : Keep G w (w.alloc o) := Keep.of_below (bal (Below.refl _ _) o)
theorem Keep.below {G B : Nat} {w w' : World} (h : Keep G w w') (hB : B ≤ G) (hw : G ≤ w.heap.size) : Below B w w' := ⟨h.os, h.tape, h.output, h.size, fun k hk => h.block k (by omega) (by omega)⟩
/-- The groups in memory. -/
def GA (w : World) (G n : Nat) (p : Nat → Nat) : Prop := w.heap[G]? = some (.cells (cells n fun i => .int .i64 (p i : Int)) 3 (0, 0))
theorem GA.put {w : World} {G n : Nat} {p : Nat → Nat} (h : GA w G n p) {s : Nat} (hs : s < n) (v : Nat) : GA (w.setCell ⟨G, s, none⟩ (.int .i64 (v : Int))) G n (upd p s v) := by
  unfold GA at h ⊢
  rw [heap_put h, cells_set _ hs]
  congr 2
  refine cells_congr fun i hi => ?_
  unfold upd
  by_cases e : i = s
  · rw [if_pos e, if_pos e]
  · rw [if_neg e, if_neg e]
theorem GA.cell {w : World} {G n : Nat} {p : Nat → Nat} (h : GA w G n p) {s : Nat} (hs : s < n) : w.cell? ⟨G, s, none⟩ = some (.int .i64 (p s : Int)) := cell_of h hs
theorem made_groups (K : Nat) (hK : K ≤ 1000000) (W : World) : (Instr.makeSlice 92 (.int .i64 (K : Int)) (.int .i64 (K : Int))).run Tryd.prog W = .ok (.slice (some ⟨W.heap.size, 0, none⟩) K K) (W.alloc (.cells (cells K fun _ => .int .i64 0) 3)) := by
  obtain ⟨i0, hi, hz0, hz1, hz2⟩ := info_parts info_int6
  have := run_makeSlice (P := Tryd.prog) W 92 3 i0 _ Tryd.underlying92 hi hz0 .i64 .i64 (K : Int) (K : Int) (by omega) (Int.le_refl _) (by rw [hz1]; omega) (by rw [hz2]; omega) (by omega)
  rw [this, hz1, Int.toNat_natCast, Nat.mul_one, ← made_cells]
  rfl
set_option maxHeartbeats 4000000 in
theorem root_any (G n : Nat) (p ρ rk : Nat → Nat) (M s : Nat) (w : World) (hg : GA w G n p) (hu : Uf n p ρ rk M) (hs : s < n) :
    Calls Tryd.prog 80 #[.slice (some ⟨G, 0, none⟩) n n, .int .i64 s] w fun e w' => ∃ p', e = .returned (.int .i64 (ρ s : Int)) ∧ GA w' G n p' ∧ Uf n p' ρ rk M ∧ OnlyG G w w' := by
  have HU0 := Lib.hid hu
  have HG0 := Lib.hid hg
  clear hu hg
  go_enter Tryd.func80, Tryd.ntmps80
  go_wp2
  go_loopw [1] (fun sv wr => ∃ (z : Nat) (p1 : Nat → Nat), z < n ∧ sv = .int .i64 z ∧ Hid (ρ z = ρ s) ∧ Hid (GA wr G n p1) ∧ Hid (Uf n p1 ρ rk M) ∧ Hid (OnlyG G w wr)) (fun sv _ => M - rk (intOf sv).toNat)
  case atStart => exact ⟨s, p, hs, rfl, rfl, HG0, HU0, OnlyG.refl _ _⟩
  case round =>
    obtain ⟨z, p1, hz, rfl, HR, HG, HU, HO⟩ := hrel
    have c1 := HG.out.cell hz
    have hz2 : (z : Int) < (n : Int) := by omega
    by_cases e : p1 z = z
    · rw [e] at c1
      have hr := Lib.hid ((HU.out.rt z hz e).symm.trans HR.out)
      clear e
      go_wp2
      go_ret
      exact ⟨p1, congrArg (fun q : Nat => Ending.returned (.int .i64 (q : Int))) hr.out, HG.out, HU.out, HO.out⟩
    · have hy := HU.out.lt z hz
      have hy2 : (p1 z : Int) < (n : Int) := by omega
      have c2 := HG.out.cell hy
      have hx := HU.out.lt _ hy
      have f1 := free_of HG.out z
      have HN := Lib.hid (HG.out.put hz (p1 (p1 z)))
      have c3 := HN.out.cell hz
      rw [upd_at] at c3
      have hg1 := blk_lt HG.out
      have hne : ((p1 z : Int) != (z : Int)) = true := by rw [bne_iff_ne]; omega
      have HH := Lib.hid (HU.out.half hz e)
      have HP := Lib.hid (show ρ (p1 (p1 z)) = ρ s by rw [HU.out.ro _ hy, HU.out.ro _ hz]; exact HR.out)
      have HL : Hid (M - rk (p1 (p1 z)) < M - rk z) := by
        have h1 := HU.out.up2 hz e
        have h2 := HU.out.le _ hx
        show _ < _
        omega
      clear e
      generalize hyy : p1 z = y at *
      generalize hxx : p1 y = x at *
      clear hyy hxx
      go_wp2
      go_roundw
      case rel => exact ⟨x, _, hx, rfl, HP, HN, HH, HO.out.trans (OnlyG.put _ _ _ _)⟩
      case measure => simpa [intOf] using HL.out
set_option maxHeartbeats 4000000 in
theorem join_any (G n : Nat) (p ρ rk : Nat → Nat) (M s t : Nat) (w : World) (hg : GA w G n p) (hu : Uf n p ρ rk M) (hs : s < n) (ht : t < n) :
    Calls Tryd.prog 66 #[.slice (some ⟨G, 0, none⟩) n n, .agg #[.int .i64 s, .int .i64 t]] w fun e w' => ∃ p' rk' M', e = .returned (.bool (ρ s != ρ t)) ∧ GA w' G n p' ∧ Uf n p' (jo ρ s t) rk' M' ∧ Keep G w w' := by
  have hgw := blk_lt hg
  have hk0 := (Keep.alloc G w (.cells #[.int .i64 s, .int .i64 t] 76)).trans (Keep.of_below (drew_below _))
  have hg0 : GA (w.alloc (.cells #[.int .i64 s, .int .i64 t] 76)).drew G n p := ((drew_below _).block G (by rw [World.size_alloc]; omega)).trans ((Below.heap_alloc w _ G hgw).trans hg)
  have hb0 : (w.alloc (.cells #[.int .i64 s, .int .i64 t] 76)).drew.heap[w.heap.size]? = some (.cells #[.int .i64 s, .int .i64 t] 76 (0, 0)) := ((drew_below _).block w.heap.size (by rw [World.size_alloc]; omega)).trans (World.alloc_heap_new w _)
  have hc0 := cell_two_new w (.int .i64 s) (.int .i64 t) 76
  clear hg
  go_enter Tryd.func66, Tryd.ntmps66
  go_wp2
  refine wp_region_any (by kernel_rfl) ?_
  change wpAny _ _ _ _ _ _ _ (World.drew _)
  generalize (w.alloc (.cells #[.int .i64 s, .int .i64 t] 76)).drew = X0 at *
  have HP := Lib.hid fun (X : World) (h : X.heap[w.heap.size]? = some (.cells #[.int .i64 s, .int .i64 t] 76 (0, 0))) => show (fun X : World => X.cell? ⟨w.heap.size, 0, none⟩ = some (.int .i64 s) ∧ X.cell? ⟨w.heap.size, 1, none⟩ = some (.int .i64 t)) X from by constructor <;> simp [World.cell?, h]
  have hS0 := HP.out _ hb0
  refine wpAny_head 8 8 (fun X : World => X.cell? ⟨w.heap.size, 0, none⟩ = some (.int .i64 s) ∧ X.cell? ⟨w.heap.size, 1, none⟩ = some (.int .i64 t)) rfl rfl (by kernel_rfl) (by kernel_rfl) (by kernel_rfl) (fun hA => ?_)
  refine wpHead_take (i := 0) (v := ?_) (by kernel_rfl) hA (at_drop rfl) (by decide) (by kernel_rfl) (by kernel_rfl) (by kernel_rfl) (fun _ _ _ h => h) (Or.inl ⟨by rfl, ?_⟩) hS0 (fun hA => ?_)
  rotate_left
  · (intro Y hSY; obtain ⟨s0, s1⟩ := hSY; go_simp <;> with_reducible rfl)
  simp only [Act.put, List.setIfInBounds_toArray, List.set_cons_zero, List.set_cons_succ]
  refine wpHead_take (i := 1) (v := ?_) (by kernel_rfl) hA (at_drop rfl) (by decide) (by kernel_rfl) (by kernel_rfl) (by kernel_rfl) (fun _ _ _ h => h) (Or.inl ⟨by rfl, ?_⟩) hS0 (fun hA => ?_)
  rotate_left
  · (intro Y hSY; obtain ⟨s0, s1⟩ := hSY; go_simp <;> with_reducible rfl)
  simp only [Act.put, List.setIfInBounds_toArray, List.set_cons_zero, List.set_cons_succ]
  refine wpHead_take (i := 2) (v := ?_) (by kernel_rfl) hA (at_drop rfl) (by decide) (by kernel_rfl) (by kernel_rfl) (by kernel_rfl) (fun _ _ _ h => h) (Or.inl ⟨by rfl, ?_⟩) hS0 (fun hA => ?_)
  rotate_left
  · (intro Y hSY; obtain ⟨s0, s1⟩ := hSY; go_simp <;> with_reducible rfl)
  simp only [Act.put, List.setIfInBounds_toArray, List.set_cons_zero, List.set_cons_succ]
  refine wpHead_take (i := 4) (v := ?_) (by kernel_rfl) hA (at_drop rfl) (by decide) (by kernel_rfl) (by kernel_rfl) (by kernel_rfl) (fun _ _ _ h => h) (Or.inl ⟨by rfl, ?_⟩) hS0 (fun hA => ?_)
  rotate_left
  · (intro Y hSY; obtain ⟨s0, s1⟩ := hSY; go_simp <;> with_reducible rfl)
  simp only [Act.put, List.setIfInBounds_toArray, List.set_cons_zero, List.set_cons_succ]
  refine wpHead_take (i := 5) (v := ?_) (by kernel_rfl) hA (at_drop rfl) (by decide) (by kernel_rfl) (by kernel_rfl) (by kernel_rfl) (fun _ _ _ h => h) (Or.inl ⟨by rfl, ?_⟩) hS0 (fun hA => ?_)
  rotate_left
  · (intro Y hSY; obtain ⟨s0, s1⟩ := hSY; go_simp <;> with_reducible rfl)
  simp only [Act.put, List.setIfInBounds_toArray, List.set_cons_zero, List.set_cons_succ]
  refine wpHead_take (i := 6) (v := ?_) (by kernel_rfl) hA (at_drop rfl) (by decide) (by kernel_rfl) (by kernel_rfl) (by kernel_rfl) (fun _ _ _ h => h) (Or.inl ⟨by rfl, ?_⟩) hS0 (fun hA => ?_)
  rotate_left
  · (intro Y hSY; obtain ⟨s0, s1⟩ := hSY; go_simp <;> with_reducible rfl)
  simp only [Act.put, List.setIfInBounds_toArray, List.set_cons_zero, List.set_cons_succ]
  have hA3 := hnext hA (rs := [3]) (i := 3) (by kernel_rfl) (by decide) (by decide)
  refine wpHead_ready (rs := [3]) (by kernel_rfl) (by decide) (AllHead.cons (at_drop rfl) (by decide) (fun KK hK => ?_) AllHead.nil)
  replace hA := hA3
  go_simp
  refine (root_any G n p ρ rk M s X0 hg0 hu hs).mono ?_
  rintro e X1 ⟨p1, rfl, hg1, hu1, ho1⟩
  have hb1 := (ho1.block w.heap.size (by omega)).trans hb0
  refine hK _ _ (HP.out _ hb1) ?_
  clear hK KK
  try simp only [Act.put, List.setIfInBounds_toArray, List.set_cons_zero, List.set_cons_succ]
  have hA7 := hnext hA (rs := [7]) (i := 7) (by kernel_rfl) (by decide) (by decide)
  refine wpHead_ready (rs := [7]) (by kernel_rfl) (by decide) (AllHead.cons (at_drop rfl) (by decide) (fun KK hK => ?_) AllHead.nil)
  replace hA := hA7
  go_simp
  refine (root_any G n p1 ρ rk M t X1 hg1 hu1 ht).mono ?_
  rintro e X2 ⟨p2, rfl, hg2, hu2, ho2⟩
  have hb2 := (ho2.block w.heap.size (by omega)).trans hb1
  refine hK _ _ (HP.out _ hb2) ?_
  clear hK KK
  try simp only [Act.put, List.setIfInBounds_toArray, List.set_cons_zero, List.set_cons_succ]
  refine wpHead_end (by kernel_rfl) ?_
  simp only [List.drop_succ_cons, List.drop_zero]
  obtain ⟨a1, _, _⟩ := hu2.rho hs
  have c1 := hg2.cell a1
  have f1 := free_of hg2 (ρ s)
  have l1 := blk_lt hg2
  have a2 : ((ρ s : Nat) : Int) < (n : Int) := by omega
  have HF : Hid (∃ rk' M', GA (X2.setCell ⟨G, ρ s, none⟩ (.int .i64 (ρ t : Int))) G n (upd p2 (ρ s) (ρ t)) ∧ Uf n (upd p2 (ρ s) (ρ t)) (jo ρ s t) rk' M' ∧ Keep G w (X2.setCell ⟨G, ρ s, none⟩ (.int .i64 (ρ t : Int)))) := by
    obtain ⟨rk', M', h⟩ := hu2.join hs ht
    exact ⟨rk', M', hg2.put a1 _, h, hk0.trans (ho1.keep.trans (ho2.keep.trans (OnlyG.put _ _ _ _).keep))⟩
  have HE : Hid ((((ρ s : Nat) : Int) != ((ρ t : Nat) : Int)) = (ρ s != ρ t)) := by
    show _ = _
    by_cases e : ρ s = ρ t
    · rw [e, bne_self_eq_false, bne_self_eq_false]
    · rw [bne_iff_ne.2 e, bne_iff_ne]
      omega
  clear hk0 hg0 hb0 hc0 hS0 hu hu1 hu2 hg1 hg2 ho1 ho2 hb1 hb2
  generalize upd p2 (ρ s) (ρ t) = p3 at *
  generalize hra : ρ s = ra at *
  generalize hrb : ρ t = rb at *
  have HRa := Lib.hid hra
  have HRb := Lib.hid hrb
  clear hra hrb
  go_wp2
  go_ret
  obtain ⟨rk', M', h1, h2, h3⟩ := HF.out
  exact ⟨by show Ending.returned (.bool ((ra : Int) != (rb : Int))) = _; rw [HE.out, HRa.out, HRb.out], p3, h1, ⟨rk', M', h2⟩, h3⟩
set_option maxHeartbeats 4000000 in
theorem singles_any (n : Nat) (hn : n ≤ 1000000) (w : World) :
    Calls Tryd.prog 65 #[.int .i64 n] w fun e w' => e = .returned (.slice (some ⟨w.heap.size, 0, none⟩) n n) ∧ GA w' w.heap.size n (fun s => s) ∧ Below w.heap.size w w' := by
  have hm := made_groups n hn w
  have hz0 : w.heap.size < (w.alloc (.cells (cells n fun _ => .int .i64 0) 3)).heap.size := by simp
  have HG0 : Hid (GA (w.alloc (.cells (cells n fun _ => .int .i64 0) 3)) w.heap.size n (fun i => if i < 0 then i else 0)) := by
    show _ = _
    rw [World.alloc_heap_new]
    rfl
  have HB0 := Lib.hid (bal (Below.refl w.heap.size w) (.cells (cells n fun _ => .int .i64 0) 3))
  go_enter Tryd.func65, Tryd.ntmps65
  go_wp2
  generalize w.alloc (.cells (cells n fun _ => .int .i64 0) 3) = W1 at *
  generalize hgg : w.heap.size = g at *
  go_loopw [9, 4] (fun iv _ wr => ∃ k : Nat, k ≤ n ∧ iv = .int .i64 k ∧ Hid (GA wr g n (fun i => if i < k then i else 0)) ∧ Hid (Below g w wr)) (fun iv _ _ => n - (intOf iv).toNat)
  case atStart => exact ⟨0, by omega, rfl, HG0, HB0⟩
  case round =>
    clear HG0 HB0 hm hz0
    obtain ⟨k, hk, rfl, HG, HB⟩ := hrel
    by_cases hlt : k < n
    · have f1 := free_of HG.out k
      have c1 := HG.out.cell hlt
      have l1 := blk_lt HG.out
      have hlt2 : (k : Int) < (n : Int) := by omega
      have HN : Hid (GA (wr.setCell ⟨g, k, none⟩ (.int .i64 (k : Int))) g n (fun i => if i < k + 1 then i else 0)) := by
        have h := HG.out.put hlt k
        have e : upd (fun i => if i < k then i else 0) k k = (fun i => if i < k + 1 then i else 0) := by
          funext i
          unfold upd
          by_cases e1 : i = k
          · rw [if_pos e1, if_pos (by omega), e1]
          · rw [if_neg e1]
            show (if i < k then i else 0) = _
            by_cases e2 : i < k
            · rw [if_pos e2, if_pos (by omega)]
            · rw [if_neg e2, if_neg (by omega)]
        rwa [e] at h
      have HBN := Lib.hid (HB.out.setCell (p := ⟨g, k, none⟩) (Nat.le_refl _) (.int .i64 (k : Int)))
      go_wp2
      go_roundw
      case rel => exact ⟨k + 1, by omega, by go_num, HN, HBN⟩
      case measure => simp [intOf]; omega
    · obtain rfl : k = n := by omega
      have HF : Hid (GA wr g k (fun i => i)) := by
        show _ = _
        have h : wr.heap[g]? = _ := HG.out
        rw [h]
        congr 2
        exact cells_congr fun i hi => by
          show Value.int .i64 (((if i < k then i else 0 : Nat)) : Int) = _
          rw [if_pos hi]
      go_wp2
      go_ret
      subst hgg
      exact ⟨rfl, HF.out, HB.out⟩
end Go.Proofs.YtkgeihambgbjdaaDoor.Mi
/- The search for the smallest word that tells two states apart: plain mathematics, nothing of the program. -/
namespace Go.Proofs.YtkgeihambgbjdaaDoor.Mi
open Go.Proofs.YtkgeihambgbjdaaDoor Go.Proofs.YtkgeihambgbjdaaDoor.Sb
set_option linter.unusedVariables false
set_option linter.unusedSectionVars false
/-- What follows from R for an equivalence. -/
inductive EqG (R : Nat → Nat → Prop) : Nat → Nat → Prop
  | refl (p : Nat) : EqG R p p
  | of {p q : Nat} (h : R p q) : EqG R p q
  | symm {p q : Nat} (h : EqG R p q) : EqG R q p
  | trans {p q r : Nat} (h : EqG R p q) (k : EqG R q r) : EqG R p r
theorem EqG.same {α : Type} {R : Nat → Nat → Prop} {g : Nat → α} (hg : ∀ a b, R a b → g a = g b) {p q : Nat} (h : EqG R p q) : g p = g q := by
  induction h with
  | refl p => rfl
  | of h => exact hg _ _ h
  | symm _ ih => exact ih.symm
  | trans _ _ ih1 ih2 => exact ih1.trans ih2
theorem EqG.mono {R R' : Nat → Nat → Prop} (hR : ∀ a b, R a b → R' a b) {p q : Nat} (h : EqG R p q) : EqG R' p q := by
  induction h with
  | refl p => exact .refl p
  | of h => exact .of (hR _ _ h)
  | symm _ ih => exact .symm ih
  | trans _ _ ih1 ih2 => exact .trans ih1 ih2
section
variable (L : Nat) (δ : Nat → Nat → Nat) (f : Nat → Bool)
/-- Where a word leads. -/
def runW (s : Nat) (u : List Nat) : Nat := u.foldl δ s
/-- The number of a word, in the order by length and then letter by letter, going on from c. -/
def ext (c : Nat) (u : List Nat) : Nat := u.foldl (fun c x => c * L + x + 1) c
theorem ext_mono {a b : Nat} : ∀ {u : List Nat}, a ≤ b → ext L a u ≤ ext L b u
  | [], h => h
  | x :: u, h => ext_mono (u := u) (Nat.add_le_add_right (Nat.add_le_add_right (Nat.mul_le_mul_right L h) x) 1)
theorem ext_lt (hL : 0 < L) {a b : Nat} : ∀ {u : List Nat}, a < b → ext L a u < ext L b u
  | [], h => h
  | x :: u, h => ext_lt hL (u := u) (Nat.add_lt_add_right (Nat.add_lt_add_right (Nat.mul_lt_mul_of_pos_right h hL) x) 1)
theorem ext_ge (hL : 0 < L) (a : Nat) : ∀ u : List Nat, a ≤ ext L a u
  | [] => Nat.le_refl _
  | x :: u => Nat.le_trans (show a ≤ a * L + x + 1 from by have := Nat.le_mul_of_pos_right a hL; omega) (ext_ge hL _ u)
/-- The pairs of a search: m of them, S k and T k, reached by the word of number C k, which is that of F k and the letter X k. -/
structure Bf (n s0 t0 m : Nat) (S T C F X : Nat → Nat) : Prop where
  pos : 0 < m
  s0 : S 0 = s0
  t0 : T 0 = t0
  c0 : C 0 = 0
  step : ∀ k, 0 < k → k < m → F k < k ∧ X k < L ∧ S k = δ (S (F k)) (X k) ∧ T k = δ (T (F k)) (X k) ∧ C k = C (F k) * L + X k + 1
  mono : ∀ j k, j < k → k < m → C j < C k
  lt : ∀ k, k < m → S k < n ∧ T k < n
/-- The pairs of the search whose number is at most b. -/
def Rb (m : Nat) (S T C : Nat → Nat) (b p q : Nat) : Prop := ∃ k, k < m ∧ C k ≤ b ∧ S k = p ∧ T k = q
/-- All pairs before place i, and those of place i with letters below x, are known. -/
def Clo (m : Nat) (S T C : Nat → Nat) (i x : Nat) : Prop := ∀ j y, j < m → y < L → (j < i ∨ (j = i ∧ y < x)) → EqG (Rb m S T C (C j * L + y + 1)) (δ (S j) y) (δ (T j) y)
/-- The groups hold nothing but what follows. -/
def Grp (n m : Nat) (S T : Nat → Nat) (ρ : Nat → Nat) : Prop := ∀ p q, p < n → q < n → ρ p = ρ q → EqG (fun a b => ∃ k, k < m ∧ S k = a ∧ T k = b) p q
/-- No word of a smaller number than that of place i tells apart. -/
theorem Bf.least {n s0 t0 m : Nat} {S T C F X : Nat → Nat} (hL : 0 < L) (h : Bf L δ n s0 t0 m S T C F X) {i x : Nat} (hi : i < m) (hc : Clo L δ m S T C i x) (hf : ∀ j, j < i → f (S j) = f (T j)) :
    ∀ (u : List Nat), (∀ y ∈ u, y < L) → ∀ j, j < m → ext L (C j) u < C i → f (runW δ (S j) u) = f (runW δ (T j) u)
  | [], _, j, hj, hlt => by
    refine hf j (Nat.lt_of_not_le fun hij => ?_)
    have hlt : C j < C i := hlt
    rcases Nat.lt_or_eq_of_le hij with h1 | h1
    · have := h.mono i j h1 hj; omega
    · subst h1; omega
  | y :: u, hu, j, hj, hlt => by
    have hlt : ext L (C j * L + y + 1) u < C i := hlt
    have h1 := ext_ge L hL (C j * L + y + 1) u
    have h2 : C j ≤ C j * L := Nat.le_mul_of_pos_right _ hL
    have hji : j < i := Nat.lt_of_not_le fun hij => by
      rcases Nat.lt_or_eq_of_le hij with h3 | h3
      · have := h.mono i j h3 hj; omega
      · subst h3; omega
    have hE := hc j y hj (hu y (List.mem_cons_self)) (.inl hji)
    show f (runW δ (δ (S j) y) u) = f (runW δ (δ (T j) y) u)
    exact EqG.same (g := fun a => f (runW δ a u)) (fun a b hab => by
      obtain ⟨k, hk, hck, rfl, rfl⟩ := hab
      exact Bf.least hL h hi hc hf u (fun z hz => hu z (List.mem_cons_of_mem _ hz)) k hk (Nat.lt_of_le_of_lt (ext_mono L hck) hlt)) hE
/-- If all pairs are known and no two are of different kinds, no word tells apart. -/
theorem Bf.none {n s0 t0 m : Nat} {S T C F X : Nat → Nat} (h : Bf L δ n s0 t0 m S T C F X) (hc : Clo L δ m S T C m 0) (hf : ∀ j, j < m → f (S j) = f (T j)) :
    ∀ (u : List Nat), (∀ y ∈ u, y < L) → ∀ j, j < m → f (runW δ (S j) u) = f (runW δ (T j) u)
  | [], _, j, hj => hf j hj
  | y :: u, hu, j, hj => by
    have hE := hc j y hj (hu y (List.mem_cons_self)) (.inl hj)
    show f (runW δ (δ (S j) y) u) = f (runW δ (δ (T j) y) u)
    exact EqG.same (g := fun a => f (runW δ a u)) (fun a b hab => by
      obtain ⟨k, hk, hck, rfl, rfl⟩ := hab
      exact Bf.none h hc hf u (fun z hz => hu z (List.mem_cons_of_mem _ hz)) k hk) hE
/-- The word of place k. -/
def wrd (F X : Nat → Nat) : Nat → Nat → List Nat
  | 0, _ => []
  | d + 1, k => if k = 0 then [] else wrd F X d (F k) ++ [X k]
theorem Bf.word {n s0 t0 m : Nat} {S T C F X : Nat → Nat} (h : Bf L δ n s0 t0 m S T C F X) : ∀ d k, k < m → k ≤ d → ext L 0 (wrd F X d k) = C k ∧ runW δ s0 (wrd F X d k) = S k ∧ runW δ t0 (wrd F X d k) = T k ∧ ∀ y ∈ wrd F X d k, y < L
  | 0, k, hk, hd => by
    obtain rfl : k = 0 := by omega
    exact ⟨h.c0.symm, h.s0.symm, h.t0.symm, fun y hy => by cases hy⟩
  | d + 1, k, hk, hd => by
    by_cases e : k = 0
    · subst e
      unfold wrd
      rw [if_pos rfl]
      exact ⟨h.c0.symm, h.s0.symm, h.t0.symm, fun y hy => by cases hy⟩
    · obtain ⟨h1, h2, h3, h4, h5⟩ := h.step k (by omega) hk
      obtain ⟨i1, i2, i3, i4⟩ := Bf.word h d (F k) (by omega) (by omega)
      unfold wrd
      rw [if_neg e]
      unfold ext at i1
      unfold runW at i2 i3
      unfold ext runW
      rw [List.foldl_append, List.foldl_append, List.foldl_append, i1, i2, i3]
      refine ⟨h5.symm, h3.symm, h4.symm, fun y hy => ?_⟩
      rcases List.mem_append.1 hy with h6 | h6
      · exact i4 y h6
      · rw [List.mem_singleton] at h6; omega
theorem wrd_more (F X : Nat → Nat) {m : Nat} (hF : ∀ k, 0 < k → k < m → F k < k) : ∀ d k, k < m → k ≤ d → wrd F X d k = wrd F X k k
  | 0, k, hk, h => by obtain rfl : k = 0 := by omega
                      rfl
  | d + 1, k, hk, h => by
    by_cases e : k = 0
    · subst e; unfold wrd; rw [if_pos rfl]
    · obtain ⟨k', rfl⟩ : ∃ k', k = k' + 1 := ⟨k - 1, by omega⟩
      have := hF (k' + 1) (by omega) hk
      unfold wrd
      rw [if_neg e, if_neg e, wrd_more F X hF d _ (by omega) (by omega), wrd_more F X hF k' _ (by omega) (by omega)]
theorem wrd_step (F X : Nat → Nat) {m : Nat} (hF : ∀ k, 0 < k → k < m → F k < k) {k : Nat} (h0 : 0 < k) (hk : k < m) : wrd F X k k = wrd F X (F k) (F k) ++ [X k] := by
  obtain ⟨k', rfl⟩ : ∃ k', k = k' + 1 := ⟨k - 1, by omega⟩
  have := hF (k' + 1) (by omega) hk
  show (if k' + 1 = 0 then [] else wrd F X k' (F (k' + 1)) ++ [X (k' + 1)]) = _
  rw [if_neg (by omega), wrd_more F X hF k' _ (by omega) (by omega)]
theorem wrd_len (F X : Nat → Nat) : ∀ d k, (wrd F X d k).length ≤ d
  | 0, k => Nat.le_refl _
  | d + 1, k => by
    unfold wrd
    by_cases e : k = 0
    · rw [if_pos e]; exact Nat.zero_le _
    · rw [if_neg e, List.length_append]
      have := wrd_len F X d (F k)
      simp only [List.length_cons, List.length_nil]
      omega
end
/-- How many states stand for a group. -/
def roots (n : Nat) (ρ : Nat → Nat) : Nat := ((List.range n).filter fun s => ρ s == s).length
theorem filter_len_lt {p q : Nat → Bool} (hpq : ∀ s, p s = true → q s = true) : ∀ (l : List Nat), (∃ a ∈ l, q a = true ∧ p a = false) → (l.filter p).length < (l.filter q).length
  | [], ⟨a, h, _⟩ => by cases h
  | b :: l, ⟨a, ha, hq, hp⟩ => by
    have hle : (l.filter p).length ≤ (l.filter q).length := by
      have : ∀ l : List Nat, (l.filter p).length ≤ (l.filter q).length := fun l => by
        induction l with
        | nil => exact Nat.le_refl _
        | cons c l ih =>
          rw [List.filter_cons, List.filter_cons]
          by_cases e : p c = true
          · rw [if_pos e, if_pos (hpq c e)]; simp only [List.length_cons]; omega
          · rw [if_neg e]
            by_cases e2 : q c = true
            · rw [if_pos e2]; simp only [List.length_cons]; omega
            · rw [if_neg e2]; exact ih
      exact this l
    rw [List.filter_cons, List.filter_cons]
    rcases List.mem_cons.1 ha with rfl | h1
    · rw [if_neg (by rw [hp]; decide), if_pos hq]; simp only [List.length_cons]; omega
    · have ih := filter_len_lt hpq l ⟨a, h1, hq, hp⟩
      by_cases e : p b = true
      · rw [if_pos e, if_pos (hpq b e)]; simp only [List.length_cons]; omega
      · rw [if_neg e]
        by_cases e2 : q b = true
        · rw [if_pos e2]; simp only [List.length_cons]; omega
        · rw [if_neg e2]; exact ih
theorem roots_jo {n : Nat} {p ρ rk : Nat → Nat} {M : Nat} (h : Uf n p ρ rk M) {s t : Nat} (hs : s < n) (ht : t < n) (e : ρ s ≠ ρ t) : roots n (jo ρ s t) < roots n ρ := by
  obtain ⟨a1, a2, a3⟩ := h.rho hs
  obtain ⟨b1, b2, b3⟩ := h.rho ht
  refine filter_len_lt (fun z hz => ?_) _ ⟨ρ s, List.mem_range.2 a1, by rw [beq_iff_eq]; exact a3, ?_⟩
  · rw [beq_iff_eq] at hz ⊢
    unfold jo at hz
    by_cases e1 : ρ z = ρ s
    · rw [if_pos e1] at hz
      rw [← hz, b3] at e1
      exact absurd e1.symm e
    · rwa [if_neg e1] at hz
  · rw [beq_eq_false_iff_ne]
    unfold jo
    rw [a3, if_pos rfl]
    exact fun h => e h.symm
theorem roots_pos {n : Nat} {p ρ rk : Nat → Nat} {M : Nat} (h : Uf n p ρ rk M) {s : Nat} (hs : s < n) : 0 < roots n ρ := by
  obtain ⟨a1, a2, a3⟩ := h.rho hs
  exact List.length_pos_of_mem (List.mem_filter.2 ⟨List.mem_range.2 a1, by rw [beq_iff_eq]; exact a3⟩)
theorem roots_le (n : Nat) (ρ : Nat → Nat) : roots n ρ ≤ n := by
  have := List.length_filter_le (fun s => ρ s == s) (List.range n)
  rwa [List.length_range] at this
theorem jo_same {ρ : Nat → Nat} {s t : Nat} (e : ρ s = ρ t) : jo ρ s t = ρ := by
  funext i
  unfold jo
  by_cases ei : ρ i = ρ s
  · rw [if_pos ei, ei, e]
  · rw [if_neg ei]
/-- Pairs of places below m. -/
def Rp (m : Nat) (S T : Nat → Nat) (a b : Nat) : Prop := ∃ k, k < m ∧ S k = a ∧ T k = b
theorem Grp.join {n m m' : Nat} {S T S' T' ρ : Nat → Nat} (h : Grp n m S T ρ) (hR : ∀ a b, Rp m S T a b → Rp m' S' T' a b) {s t : Nat} (hs : s < n) (ht : t < n) (he : EqG (Rp m' S' T') s t) : Grp n m' S' T' (jo ρ s t) := by
  have hz : ∀ p, p < n → ∃ z, z < n ∧ jo ρ s t p = ρ z ∧ EqG (Rp m' S' T') p z := fun p hp => by
    by_cases e : ρ p = ρ s
    · exact ⟨t, ht, if_pos e, ((h p s hp hs e).mono hR).trans he⟩
    · exact ⟨p, hp, if_neg e, .refl p⟩
  intro p q hp hq hpq
  obtain ⟨z, hz1, hz2, hz3⟩ := hz p hp
  obtain ⟨y, hy1, hy2, hy3⟩ := hz q hq
  exact hz3.trans (((h z y hz1 hy1 (by rw [← hz2, ← hy2]; exact hpq)).mono hR).trans hy3.symm)
/-- A search in the midst: place i, letter x. -/
structure Se (n L : Nat) (δ : Nat → Nat → Nat) (f : Nat → Bool) (s0 t0 : Nat) (ρ : Nat → Nat) (m : Nat) (S T C F X : Nat → Nat) (i x : Nat) : Prop where
  bf : Bf L δ n s0 t0 m S T C F X
  cl : Clo L δ m S T C i x
  gr : Grp n m S T ρ
  tp : i < m → ∀ k, k < m → C k ≤ C i * L + x
  cnt : m + roots n ρ ≤ n + 1
  fs : ∀ j, j < i → f (S j) = f (T j)
  im : i ≤ m
theorem Se.start {n L : Nat} {δ : Nat → Nat → Nat} {f : Nat → Bool} {s0 t0 : Nat} (hs : s0 < n) (ht : t0 < n) : Se n L δ f s0 t0 (jo (fun s => s) s0 t0) 1 (fun _ => s0) (fun _ => t0) (fun _ => 0) (fun _ => 0) (fun _ => 0) 0 0 := by
  refine ⟨⟨by omega, rfl, rfl, rfl, fun k h1 h2 => by omega, fun j k h1 h2 => by omega, fun k _ => ⟨hs, ht⟩⟩, fun j y _ _ h => by omega, ?_, fun _ k _ => Nat.zero_le _, ?_, fun j hj => by omega, by omega⟩
  · have h0 : Grp n 0 (fun _ => s0) (fun _ => t0) (fun s => s) := fun p q _ _ e => by
      have e : p = q := e
      subst e
      exact .refl p
    exact Grp.join (m' := 1) (S' := fun _ => s0) (T' := fun _ => t0) h0 (fun a b ⟨k, hk, _⟩ => by omega) hs ht (.of ⟨0, by omega, rfl, rfl⟩)
  · by_cases e : s0 = t0
    · rw [jo_same (ρ := fun s => s) e]
      have := roots_le n (fun s => s)
      omega
    · have h1 := roots_jo (Uf.single n) hs ht e
      have := roots_le n (fun s => s)
      omega
theorem Se.skip {n L : Nat} {δ : Nat → Nat → Nat} {f : Nat → Bool} {s0 t0 : Nat} {ρ : Nat → Nat} {m : Nat} {S T C F X : Nat → Nat} {i x : Nat} (h : Se n L δ f s0 t0 ρ m S T C F X i x) (hi : i < m) (hx : x < L) (hp : δ (S i) x < n) (hq : δ (T i) x < n) (e : ρ (δ (S i) x) = ρ (δ (T i) x)) :
    Se n L δ f s0 t0 (jo ρ (δ (S i) x) (δ (T i) x)) m S T C F X i (x + 1) := by
  rw [jo_same e]
  refine ⟨h.bf, fun j y hj hy hor => ?_, h.gr, fun _ k hk => by have := h.tp hi k hk; omega, h.cnt, h.fs, h.im⟩
  by_cases e1 : j < i ∨ (j = i ∧ y < x)
  · exact h.cl j y hj hy e1
  · obtain ⟨rfl, rfl⟩ : j = i ∧ y = x := by omega
    exact (h.gr _ _ hp hq e).mono fun a b ⟨k, hk, h1, h2⟩ => ⟨k, hk, by have := h.tp hi k hk; omega, h1, h2⟩
theorem Se.add {n L : Nat} {δ : Nat → Nat → Nat} {f : Nat → Bool} {s0 t0 : Nat} {ρ : Nat → Nat} {m : Nat} {S T C F X : Nat → Nat} {i x : Nat} (h : Se n L δ f s0 t0 ρ m S T C F X i x) (hi : i < m) (hx : x < L) (hp : δ (S i) x < n) (hq : δ (T i) x < n) (hr : roots n (jo ρ (δ (S i) x) (δ (T i) x)) < roots n ρ) :
    Se n L δ f s0 t0 (jo ρ (δ (S i) x) (δ (T i) x)) (m + 1) (upd S m (δ (S i) x)) (upd T m (δ (T i) x)) (upd C m (C i * L + x + 1)) (upd F m i) (upd X m x) i (x + 1) := by
  have hb := h.bf
  have hm := hb.pos
  have hne : ∀ k, k < m → k ≠ m := fun k hk => by omega
  have old : ∀ (g : Nat → Nat) v k, k < m → upd g m v k = g k := fun g v k hk => upd_ne g v (hne k hk)
  have hR : ∀ a b, Rp m S T a b → Rp (m + 1) (upd S m (δ (S i) x)) (upd T m (δ (T i) x)) a b := fun a b ⟨k, hk, h1, h2⟩ => ⟨k, by omega, by rw [old _ _ k hk, h1], by rw [old _ _ k hk, h2]⟩
  have hRb : ∀ c a b, Rb m S T C c a b → Rb (m + 1) (upd S m (δ (S i) x)) (upd T m (δ (T i) x)) (upd C m (C i * L + x + 1)) c a b := fun c a b ⟨k, hk, h0, h1, h2⟩ => ⟨k, by omega, by rw [old _ _ k hk]; exact h0, by rw [old _ _ k hk, h1], by rw [old _ _ k hk, h2]⟩
  refine ⟨⟨by omega, by rw [old _ _ 0 hm, hb.s0], by rw [old _ _ 0 hm, hb.t0], by rw [old _ _ 0 hm, hb.c0], fun k h1 h2 => ?_, fun j k h1 h2 => ?_, fun k hk => ?_⟩, fun j y hj hy hor => ?_, ?_, fun _ k hk => ?_, by have := h.cnt; omega, fun j hj => ?_, by omega⟩
  · by_cases e : k = m
    · subst e
      simp only [upd_at]
      rw [old S _ i hi, old T _ i hi, old C _ i hi]
      exact ⟨hi, hx, rfl, rfl, rfl⟩
    · have hk : k < m := by omega
      obtain ⟨a1, a2, a3, a4, a5⟩ := hb.step k h1 hk
      have hF : F k < m := by omega
      rw [old F _ k hk, old X _ k hk, old S _ k hk, old T _ k hk, old C _ k hk, old S _ _ hF, old T _ _ hF, old C _ _ hF]
      exact ⟨a1, a2, a3, a4, a5⟩
  · by_cases e : k = m
    · subst e
      rw [upd_at, old C _ j h1]
      have := h.tp hi j h1
      omega
    · rw [old C _ j (by omega), old C _ k (by omega)]
      exact hb.mono j k h1 (by omega)
  · by_cases e : k = m
    · subst e; rw [upd_at, upd_at]; exact ⟨hp, hq⟩
    · rw [old S _ k (by omega), old T _ k (by omega)]; exact hb.lt k (by omega)
  · have hjm : j < m := by omega
    rw [old S _ j hjm, old T _ j hjm, old C _ j hjm]
    by_cases e1 : j < i ∨ (j = i ∧ y < x)
    · exact (h.cl j y hjm hy e1).mono (hRb _)
    · obtain ⟨rfl, rfl⟩ : j = i ∧ y = x := by omega
      exact .of ⟨m, by omega, by rw [upd_at]; exact Nat.le_refl _, upd_at _ _ _, upd_at _ _ _⟩
  · exact Grp.join h.gr hR hp hq (.of ⟨m, by omega, upd_at _ _ _, upd_at _ _ _⟩)
  · rw [old C _ i hi]
    by_cases e : k = m
    · subst e; rw [upd_at]; omega
    · rw [old C _ k (by omega)]
      have := h.tp hi k (by omega)
      omega
  · rw [old S _ j (by omega), old T _ j (by omega)]; exact h.fs j hj
theorem Se.next {n L : Nat} {δ : Nat → Nat → Nat} {f : Nat → Bool} {s0 t0 : Nat} {ρ : Nat → Nat} {m : Nat} {S T C F X : Nat → Nat} {i : Nat} (h : Se n L δ f s0 t0 ρ m S T C F X i L) (hi : i < m) (hf : f (S i) = f (T i)) :
    Se n L δ f s0 t0 ρ m S T C F X (i + 1) 0 := by
  refine ⟨h.bf, fun j y hj hy hor => h.cl j y hj hy (by omega), h.gr, fun hi1 k hk => ?_, h.cnt, fun j hj => ?_, by omega⟩
  · have h1 := h.tp hi k hk
    have h2 := h.bf.mono i (i + 1) (by omega) hi1
    have h3 : (C i + 1) * L ≤ C (i + 1) * L := Nat.mul_le_mul_right _ h2
    rw [Nat.add_mul, Nat.one_mul] at h3
    omega
  · by_cases e : j = i
    · subst e; exact hf
    · exact h.fs j (by omega)
end Go.Proofs.YtkgeihambgbjdaaDoor.Mi
/- slices.Reverse of bytes; wordTo (package minimal). -/
namespace Go.Proofs.YtkgeihambgbjdaaDoor.Mi
open Go Go.RowKit Go.Maps Go.Proofs.YtkgeihambgbjdaaDoor Go.Proofs.YtkgeihambgbjdaaDoor.Cb Go.Proofs.YtkgeihambgbjdaaDoor.Sb
open Go.Proofs.YtkgeihambgbjdaaDoor.Nf (zvs zvs_snoc info_int6 ret_int ret_b drew_below hnext)
set_option linter.unusedVariables false
set_option linter.unusedSimpArgs false
set_option maxRecDepth 100000
/-- A row of bytes in the midst of being turned. -/
structure RvW (B G m cG : Nat) (w0 : World) (xs : List Value) (i : Nat) (X : World) (vs : List Value) : Prop where
  o : X.ownsRow B 5 1 (.slice (some ⟨G, 0, none⟩) m cG) m vs
  k : OnlyG G w0 X
  v : ∀ q, q < m → vs[q]? = if q < i ∨ m ≤ q + i then xs[m - 1 - q]? else xs[q]?
theorem OnlyG.drewN {G : Nat} {w X : World} (h : OnlyG G w X) (q : Nat) : OnlyG G w (X.drewN q) := ⟨h.os, h.tape, h.output, h.size, h.block⟩
theorem OnlyG.drew {G : Nat} {w X : World} (h : OnlyG G w X) : OnlyG G w X.drew := ⟨h.os, h.tape, h.output, h.size, h.block⟩
theorem RvW.drew {B G m cG : Nat} {w0 : World} {xs : List Value} {i : Nat} {X : World} {vs : List Value} (h : RvW B G m cG w0 xs i X vs) : RvW B G m cG w0 xs i X.drew vs := ⟨h.o.drew, h.k.drew, h.v⟩
theorem RvW.len {B G m cG : Nat} {w0 : World} {xs : List Value} {i : Nat} {X : World} {vs : List Value} (h : RvW B G m cG w0 xs i X vs) : vs.length = m := by have := h.o.1; omega
/-- Two cells that change places. -/
structure RvC (B G m cG : Nat) (w0 : World) (xs : List Value) (i j : Nat) (X : World) (x y : Value) : Prop where
  c1 : X.cell? ⟨G, i, none⟩ = some x
  c2 : X.cell? ⟨G, j, none⟩ = some y
  f1 : X.frozen? ⟨G, i, none⟩ = false
  f2 : (X.setCell ⟨G, i, none⟩ y).frozen? ⟨G, j, none⟩ = false
  c3 : (X.setCell ⟨G, i, none⟩ y).cell? ⟨G, j, none⟩ = some y
  l : G < X.heap.size
  s : ∃ vs', RvW B G m cG w0 xs (i + 1) ((X.setCell ⟨G, i, none⟩ y).setCell ⟨G, j, none⟩ x) vs'
theorem RvW.swaps {B G m cG : Nat} {w0 : World} {xs : List Value} {i : Nat} {X : World} {vs : List Value} (h : RvW B G m cG w0 xs i X vs) {j : Nat} (hx : xs.length = m) (hij : i < j) (hj : j + i + 1 = m) : ∃ x y, x ∈ xs ∧ y ∈ xs ∧ RvC B G m cG w0 xs i j X x y := by
  have hl := h.len
  have h1 := (h.o.stored i (vs[j]'(by omega))).1
  have e1 : vs[i]'(by omega) = xs[i]'(by omega) := by
    have := h.v i (by omega)
    rw [List.getElem?_eq_getElem (by omega), if_neg (by omega), List.getElem?_eq_getElem (by omega)] at this
    exact Option.some.inj this
  have e2 : vs[j]'(by omega) = xs[j]'(by omega) := by
    have := h.v j (by omega)
    rw [List.getElem?_eq_getElem (by omega), if_neg (by omega), List.getElem?_eq_getElem (by omega)] at this
    exact Option.some.inj this
  refine ⟨vs[i]'(by omega), vs[j]'(by omega), by rw [e1]; exact List.getElem_mem _, by rw [e2]; exact List.getElem_mem _, ?_, ?_, h.o.frozenAt i, h1.frozenAt j, ?_, (h.o.lt G rfl).2, _, (h1.stored j _).1, h.k.trans ((OnlyG.put _ _ _ _).trans (OnlyG.put _ _ _ _)), fun q hq => ?_⟩
  · rw [h.o.cellAt i (by omega), List.getElem?_eq_getElem (by omega)]
  · rw [h.o.cellAt j (by omega), List.getElem?_eq_getElem (by omega)]
  · rw [h1.cellAt j (by omega), List.getElem?_set_ne (by omega), List.getElem?_eq_getElem (by omega)]
  · have hv := h.v q hq
    by_cases ej : q = j
    · subst ej
      rw [List.getElem?_set_self (by rw [List.length_set]; omega), if_pos (by omega), e1, show m - 1 - q = i by omega, List.getElem?_eq_getElem (by omega)]
    · rw [List.getElem?_set_ne (fun e => ej e.symm)]
      by_cases ei : q = i
      · subst ei
        rw [List.getElem?_set_self (by omega), if_pos (by omega), e2, show m - 1 - q = j by omega, List.getElem?_eq_getElem (by omega)]
      · rw [List.getElem?_set_ne (fun e => ei e.symm), hv]
        by_cases e : q < i ∨ m ≤ q + i
        · rw [if_pos e, if_pos (by omega)]
        · rw [if_neg e, if_neg (by omega)]
theorem RvW.done {B G m cG : Nat} {w0 : World} {xs : List Value} {i : Nat} {X : World} {vs : List Value} (h : RvW B G m cG w0 xs i X vs) (hx : xs.length = m) (hi : m ≤ i + i + 1) : vs = xs.reverse := by
  have hl := h.len
  refine List.ext_getElem? fun q => ?_
  by_cases hq : q < m
  · rw [h.v q hq, List.getElem?_reverse (by omega)]
    by_cases e : q < i ∨ m ≤ q + i
    · rw [if_pos e, hx]
    · rw [if_neg e, hx, show m - 1 - q = q by omega]
  · rw [List.getElem?_eq_none (by omega), List.getElem?_eq_none (by rw [List.length_reverse]; omega)]
set_option maxHeartbeats 4000000 in
theorem reverse_any (B G m cG : Nat) (xs : List Value) (w : World) (h : w.ownsRow B 5 1 (.slice (some ⟨G, 0, none⟩) m cG) m xs) (hm : m ≤ 1000000) (hb : ∀ v ∈ xs, ∃ b : Nat, b < 256 ∧ v = .int .u8 b) :
    Calls Tryd.prog 81 #[.slice (some ⟨G, 0, none⟩) m cG] w fun e w' => e = .returned (.tuple #[]) ∧ w'.ownsRow B 5 1 (.slice (some ⟨G, 0, none⟩) m cG) m xs.reverse ∧ OnlyG G w w' := by
  have hx : xs.length = m := by have := h.1; omega
  have H0 : Hid (RvW B G m cG w xs 0 w xs) := ⟨h, OnlyG.refl _ _, fun q hq => by rw [if_neg (by omega)]⟩
  have HB := Lib.hid hb
  have HX := Lib.hid hx
  clear h hb hx
  go_enter Tryd.func81, Tryd.ntmps81
  go_wp2
  go_loopw [2, 3] (fun iv jv wr => ∃ (i : Nat) (vs : List Value), 2 * i ≤ m + 1 ∧ iv = .int .i64 i ∧ jv = .int .i64 ((m : Int) - 1 - (i : Int)) ∧ Hid (RvW B G m cG w xs i wr vs)) (fun iv _ _ => m - (intOf iv).toNat)
  case atStart => exact ⟨0, xs, by omega, rfl, by go_num, H0⟩
  case round =>
    clear H0
    obtain ⟨i, vs, hi, rfl, rfl, HR⟩ := hrel
    by_cases hlt : (i : Int) < (m : Int) - 1 - (i : Int)
    · obtain ⟨j, hj⟩ : ∃ j : Nat, j + i + 1 = m := ⟨m - 1 - i, by omega⟩
      obtain ⟨x, y, hx, hy, hc⟩ := HR.out.swaps HX.out (j := j) (by omega) hj
      obtain ⟨bx, _, rfl⟩ := HB.out x hx
      obtain ⟨by', _, rfl⟩ := HB.out y hy
      obtain ⟨c1, c2, f1, f2, c3, lG, hS⟩ := hc
      have hjz : (m : Int) - 1 - (i : Int) = (j : Int) := by omega
      rw [hjz] at hlt ⊢
      have hS := Lib.hid hS
      have him : (i : Int) < (m : Int) := by omega
      have hjm : (j : Int) < (m : Int) := by omega
      have hj1 : 1 ≤ j := by omega
      clear HR hx hy
      go_wp2_with fail
      go_big_region
      obtain ⟨vq, hS⟩ := hS.out
      have hSd := Lib.hid hS.drew
      clear hS c1 c2 f1 f2 c3 lG
      generalize ((wr.setCell ⟨G, i, none⟩ (Value.int .u8 by')).setCell ⟨G, j, none⟩ (Value.int .u8 bx)).drew = X3 at *
      go_wp2
      go_roundw
      case rel => exact ⟨i + 1, vq, by omega, by go_num, by go_num, hSd⟩
      case measure => simp [intOf]; omega
    · have hd := HR.out.done HX.out (by omega)
      have hF : Hid (wr.ownsRow B 5 1 (.slice (some ⟨G, 0, none⟩) m cG) m xs.reverse ∧ OnlyG G w wr) := ⟨by rw [← hd]; exact HR.out.o, HR.out.k⟩
      have hle : decide ((i : Int) < (m : Int) - 1 - (i : Int)) = false := decide_eq_false hlt
      clear hd HR
      go_wp2
      go_end0
      exact ⟨rfl, hF.out⟩
theorem reverse_own (B : Nat) (v : Value) (m : Nat) (xs : List Value) (w : World) (h : w.ownsRow B 5 1 v m xs) (hm : m ≤ 1000000) (hb : ∀ u ∈ xs, ∃ b : Nat, b < 256 ∧ u = .int .u8 b) :
    Calls Tryd.prog 81 #[v] w fun e w' => e = .returned (.tuple #[]) ∧ w'.ownsRow B 5 1 v m xs.reverse ∧ Below B w w' := by
  rcases h.2 with ⟨rfl, rfl⟩ | ⟨g, cap, cur, rfl, hg, _⟩
  · have hx : xs = [] := List.eq_nil_of_length_eq_zero (by have := h.1; omega)
    subst hx
    go_enter Tryd.func81, Tryd.ntmps81
    have h0 := Lib.hid h
    clear h
    go_wp2
    go_loopw [2, 3] (fun iv jv wr => iv = .int .i64 0 ∧ jv = .int .i64 (-1) ∧ wr = w) (fun iv _ _ => 0)
    case atStart => exact ⟨rfl, by go_num, rfl⟩
    case round =>
      obtain ⟨rfl, rfl, rfl⟩ := hrel
      go_wp2
      go_end0
      exact ⟨rfl, h0.out, Below.refl _ _⟩
  · exact (reverse_any B g m cap xs w h hm hb).mono fun e w' ⟨h1, h2, h3⟩ => ⟨h1, h2, h3.below hg⟩
end Go.Proofs.YtkgeihambgbjdaaDoor.Mi
/- wordTo (package minimal). -/
namespace Go.Proofs.YtkgeihambgbjdaaDoor.Mi
open Go Go.RowKit Go.Maps Go.Proofs.YtkgeihambgbjdaaDoor Go.Proofs.YtkgeihambgbjdaaDoor.Cb Go.Proofs.YtkgeihambgbjdaaDoor.Sb
open Go.Proofs.YtkgeihambgbjdaaDoor.Nf (zvs zvs_snoc info_int6 ret_int ret_b drew_below hnext)
set_option linter.unusedVariables false
set_option linter.unusedSimpArgs false
set_option maxRecDepth 100000
/-- The place from which a visit comes, or -1. -/
def fro (F : Nat → Nat) (k : Nat) : Int := if k = 0 then -1 else (F k : Int)
/-- The four cells of a visit. -/
def viC (S T F X : Nat → Nat) (k : Nat) : List Value := [.int .i64 (S k : Int), .int .i64 (T k : Int), .int .u8 (X k : Int), .int .i64 (fro F k)]
/-- The queue in memory. -/
def QC (w : World) (g m : Nat) (S T F X : Nat → Nat) : Prop := g < w.heap.size ∧ ∀ k, k < m → w.cell? ⟨g, k * 4, none⟩ = some (.int .i64 (S k : Int)) ∧ w.cell? ⟨g, k * 4 + 1, none⟩ = some (.int .i64 (T k : Int)) ∧ w.cell? ⟨g, k * 4 + 2, none⟩ = some (.int .u8 (X k : Int)) ∧ w.cell? ⟨g, k * 4 + 3, none⟩ = some (.int .i64 (fro F k))
theorem QC.below {w w' : World} {g m : Nat} {S T F X : Nat → Nat} (h : QC w g m S T F X) (hb : Below w.heap.size w w') : QC w' g m S T F X :=
  ⟨Nat.lt_of_lt_of_le h.1 hb.size, fun k hk => by
    obtain ⟨h1, h2, h3, h4⟩ := h.2 k hk
    exact ⟨(hb.cell h.1).trans h1, (hb.cell h.1).trans h2, (hb.cell h.1).trans h3, (hb.cell h.1).trans h4⟩⟩
/-- A visit in memory. -/
def Blk4V (w : World) (b : Nat) (v0 v1 v2 v3 : Value) : Prop := w.heap[b]? = some (.cells #[v0, v1, v2, v3] 96 (0, 0))
theorem Blk4V.below {w w' : World} {b : Nat} {v0 v1 v2 v3 : Value} (h : Blk4V w b v0 v1 v2 v3) (hb : Below w.heap.size w w') : Blk4V w' b v0 v1 v2 v3 := (hb.block b (blk_lt h)).trans h
theorem Blk4V.new (w : World) (v0 v1 v2 v3 : Value) : Blk4V (w.alloc (.cells #[v0, v1, v2, v3] 96)) w.heap.size v0 v1 v2 v3 := World.alloc_heap_new _ _
theorem Blk4V.cells {w : World} {b : Nat} {v0 v1 v2 v3 : Value} (h : Blk4V w b v0 v1 v2 v3) : w.cell? ⟨b, 0, none⟩ = some v0 ∧ w.cell? ⟨b, 1, none⟩ = some v1 ∧ w.cell? ⟨b, 2, none⟩ = some v2 ∧ w.cell? ⟨b, 3, none⟩ = some v3 := by
  unfold Blk4V at h
  refine ⟨?_, ?_, ?_, ?_⟩ <;> simp [World.cell?, h]
theorem storeV {Y : World} {b : Nat} {u0 u1 u2 u3 : Value} (h : Blk4V Y b u0 u1 u2 u3) (v0 v1 v2 v3 : Value) :
    (Y.cell? ⟨b, 0, none⟩ = some u0 ∧ Y.frozen? ⟨b, 0, none⟩ = false) ∧ ((Y.setCell ⟨b, 0, none⟩ v0).cell? ⟨b, 1, none⟩ = some u1 ∧ (Y.setCell ⟨b, 0, none⟩ v0).frozen? ⟨b, 1, none⟩ = false) ∧
    (((Y.setCell ⟨b, 0, none⟩ v0).setCell ⟨b, 1, none⟩ v1).cell? ⟨b, 2, none⟩ = some u2 ∧ ((Y.setCell ⟨b, 0, none⟩ v0).setCell ⟨b, 1, none⟩ v1).frozen? ⟨b, 2, none⟩ = false) ∧
    ((((Y.setCell ⟨b, 0, none⟩ v0).setCell ⟨b, 1, none⟩ v1).setCell ⟨b, 2, none⟩ v2).cell? ⟨b, 3, none⟩ = some u3 ∧ (((Y.setCell ⟨b, 0, none⟩ v0).setCell ⟨b, 1, none⟩ v1).setCell ⟨b, 2, none⟩ v2).frozen? ⟨b, 3, none⟩ = false) ∧
    Blk4V (put4 Y b v0 v1 v2 v3) b v0 v1 v2 v3 ∧ ∀ B, B ≤ b → Below B Y (put4 Y b v0 v1 v2 v3) := by
  have h1 : Blk4V (Y.setCell ⟨b, 0, none⟩ v0) b v0 u1 u2 u3 := heap_put h 0 v0
  have h2 : Blk4V ((Y.setCell ⟨b, 0, none⟩ v0).setCell ⟨b, 1, none⟩ v1) b v0 v1 u2 u3 := heap_put h1 1 v1
  have h3 : Blk4V (((Y.setCell ⟨b, 0, none⟩ v0).setCell ⟨b, 1, none⟩ v1).setCell ⟨b, 2, none⟩ v2) b v0 v1 v2 u3 := heap_put h2 2 v2
  exact ⟨⟨h.cells.1, free_of h 0⟩, ⟨h1.cells.2.1, free_of h1 1⟩, ⟨h2.cells.2.2.1, free_of h2 2⟩, ⟨h3.cells.2.2.2, free_of h3 3⟩, heap_put h3 3 v3, fun B hB => ((((Below.refl B Y).setCell (p := ⟨b, 0, none⟩) hB _).setCell (p := ⟨b, 1, none⟩) hB _).setCell (p := ⟨b, 2, none⟩) hB _).setCell (p := ⟨b, 3, none⟩) hB _⟩
theorem wrd_all (F X : Nat → Nat) {m : Nat} (hX : ∀ k, k < m → X k < 256) (hF : ∀ k, 0 < k → k < m → F k < k) : ∀ d k, k < m → ∀ x ∈ wrd F X d k, x < 256
  | 0, k, _, x, h => by cases h
  | d + 1, k, hk, x, h => by
    unfold wrd at h
    by_cases e : k = 0
    · rw [if_pos e] at h; cases h
    · rw [if_neg e] at h
      have := hF k (by omega) hk
      rcases List.mem_append.1 h with h1 | h1
      · exact wrd_all F X hX hF d (F k) (by omega) x h1
      · rw [List.mem_singleton] at h1
        subst h1
        exact hX k hk
/-- A word's bytes. -/
def wvs (l : List Nat) : List Value := l.map fun x : Nat => .int .u8 (x : Int)
def vlen : Value → Nat
  | .slice _ n _ => n
  | _ => 0
theorem wvs_snoc (l : List Nat) (x : Nat) : wvs (l ++ [x]) = wvs l ++ [.int .u8 (x : Int)] := by unfold wvs; rw [List.map_append]; rfl
set_option maxHeartbeats 4000000 in
theorem wordTo_any (g m i c : Nat) (S T F X : Nat → Nat) (w : World) (hq : QC w g m S T F X) (hi : i < m) (hm : m ≤ 100000) (hF : ∀ k, 0 < k → k < m → F k < k) (hX : ∀ k, k < m → X k < 256) :
    Calls Tryd.prog 67 #[.slice (some ⟨g, 0, none⟩) m c, .int .i64 i] w fun e w' => ∃ rv, e = .returned rv ∧ w'.ownsRow w.heap.size 5 1 rv (wrd F X i i).length (wvs (wrd F X i i)) ∧ Below w.heap.size w w' := by
  obtain ⟨i0, hi0, hz0, hz1, hz2⟩ := info_parts info_u8J
  have hi2 : (i : Int) < (m : Int) := by omega
  obtain ⟨q0, q1, q2, q3⟩ := hq.2 i hi
  go_enter Tryd.func67, Tryd.ntmps67
  go_wp2
  have HV0 := Lib.hid (Blk4V.new w (.int .i64 (S i : Int)) (.int .i64 (T i : Int)) (.int .u8 (X i : Int)) (.int .i64 (fro F i)))
  have HB0 := Lib.hid (bal (Below.refl w.heap.size w) (.cells #[.int .i64 (S i : Int), .int .i64 (T i : Int), .int .u8 (X i : Int), .int .i64 (fro F i)] 96))
  have HO0 : Hid ((w.alloc (.cells #[.int .i64 (S i : Int), .int .i64 (T i : Int), .int .u8 (X i : Int), .int .i64 (fro F i)] 96)).ownsRow w.heap.size 5 1 (.slice none 0 0) ([] : List Nat).length (wvs [])) := ⟨rfl, .inl ⟨rfl, rfl⟩⟩
  have HF := Lib.hid hF
  have HX := Lib.hid hX
  have HQ := Lib.hid hq
  clear hF hX hq q0 q1 q2 q3
  generalize w.alloc (.cells #[.int .i64 (S i : Int), .int .i64 (T i : Int), .int .u8 (X i : Int), .int .i64 (fro F i)] 96) = W1 at *
  go_loopw [5, 6] (fun rv pv wr => ∃ (k gv : Nat) (l : List Nat) (v : Value), v = rv ∧ k < m ∧ l.length + k ≤ i + l.length ∧ pv = .pointer (some ⟨gv, 0, none⟩) ∧ w.heap.size ≤ gv ∧ Hid (wrd F X i i = wrd F X k k ++ l.reverse) ∧ Hid (Blk4V wr gv (.int .i64 (S k : Int)) (.int .i64 (T k : Int)) (.int .u8 (X k : Int)) (.int .i64 (fro F k))) ∧ Hid (wr.ownsRow w.heap.size 5 1 v l.length (wvs l)) ∧ Hid (Below w.heap.size w wr)) (fun rv _ _ => i - vlen rv)
  case atStart => exact ⟨i, w.heap.size, [], _, rfl, hi, by omega, rfl, Nat.le_refl _, by show _ = _; simp, HV0, HO0, HB0⟩
  case round =>
    clear HV0 HB0 HO0
    obtain ⟨k, gv, l, v, rfl, hk, hki, rfl, hgv, HW, HV, HO, HB⟩ := hrel
    obtain ⟨z0, z1, z2, z3⟩ := HV.out.cells
    by_cases h0 : k = 0
    · have hfr : fro F k = -1 := if_pos h0
      rw [hfr] at z3
      clear hfr
      have HL : Hid (wrd F X i i = l.reverse) := by
        show _ = _
        rw [HW.out, h0]
        rfl
      have hll : l.length ≤ 100000 := by
        have h1 := congrArg List.length HL.out
        have h2 := wrd_len F X i i
        rw [List.length_reverse] at h1
        omega
      have HY : Hid (∀ u ∈ wvs l, ∃ b : Nat, b < 256 ∧ u = .int .u8 b) := fun u hu => by
        unfold wvs at hu
        obtain ⟨x, hx, rfl⟩ := List.mem_map.1 hu
        refine ⟨x, ?_, rfl⟩
        have hx2 : x ∈ wrd F X i i := by rw [HL.out]; exact List.mem_reverse.2 hx
        exact wrd_all F X (fun k hk => HX.out k hk) HF.out i i hi x hx2
      have hRv := Lib.hid (reverse_own w.heap.size v l.length (wvs l) wr HO.out (by omega) HY.out)
      have HF9 : Hid (∀ w9, w9.ownsRow w.heap.size 5 1 v l.length (wvs l).reverse → Below w.heap.size wr w9 → w9.ownsRow w.heap.size 5 1 v (wrd F X i i).length (wvs (wrd F X i i)) ∧ Below w.heap.size w w9) := fun w9 h1 h2 => by
        refine ⟨?_, HB.out.trans h2⟩
        rw [HL.out, List.length_reverse]
        have e : wvs l.reverse = (wvs l).reverse := by unfold wvs; rw [List.map_reverse]
        rw [e]
        exact h1
      clear HL HY HW HO HV HB
      go_wp2_with (go_at_call 81; ((with_reducible refine hRv.out.mono ?_); rintro e w9 ⟨rfl, ho9, hb9⟩); have HF8 := Lib.hid (HF9.out w9 ho9 hb9); clear ho9 hb9)
      go_ret
      exact ⟨v, rfl, HF8.out.1, HF8.out.2⟩
    · have hfr : fro F k = (F k : Int) := if_neg h0
      have z3' := z3
      rw [hfr] at z3
      have hll : l.length + 1 ≤ i := by
        have h1 := congrArg List.length HW.out
        have h2 := wrd_len F X i i
        rw [wrd_step F X HF.out (by omega) hk] at h1
        simp only [List.length_append, List.length_reverse, List.length_cons, List.length_nil] at h1
        omega
      clear z3'
      have hFk := HF.out k (by omega) hk
      have hFm : ((F k : Nat) : Int) < (m : Int) := by omega
      have hbs := HB.out.size
      have hgl := blk_lt HV.out
      have hgn := own_ne HV.out HO.out (by decide)
      have HK := Lib.hid fun (v' : Value) (w6 : World) (ho : w6.ownsRow w.heap.size 5 1 v' (l.length + 1) (wvs l ++ [.int .u8 (X k : Int)])) (hg : (wr.alloc (.cells #[.int .u8 (X k : Int)] 5)).grownBy w6 v.ownBlock) => show
          (w6.cell? ⟨gv, 0, none⟩ = some (.int .i64 (S k : Int)) ∧ w6.cell? ⟨gv, 1, none⟩ = some (.int .i64 (T k : Int)) ∧ w6.cell? ⟨gv, 2, none⟩ = some (.int .u8 (X k : Int)) ∧ w6.cell? ⟨gv, 3, none⟩ = some (.int .i64 (F k : Int))) ∧
          ((w6.alloc (.cells #[.int .i64 (S k : Int), .int .i64 (T k : Int), .int .u8 (X k : Int), .int .i64 (F k : Int)] 96)).cell? ⟨g, F k * 4, none⟩ = some (.int .i64 (S (F k) : Int)) ∧ (w6.alloc (.cells #[.int .i64 (S k : Int), .int .i64 (T k : Int), .int .u8 (X k : Int), .int .i64 (F k : Int)] 96)).cell? ⟨g, F k * 4 + 1, none⟩ = some (.int .i64 (T (F k) : Int)) ∧ (w6.alloc (.cells #[.int .i64 (S k : Int), .int .i64 (T k : Int), .int .u8 (X k : Int), .int .i64 (F k : Int)] 96)).cell? ⟨g, F k * 4 + 2, none⟩ = some (.int .u8 (X (F k) : Int)) ∧ (w6.alloc (.cells #[.int .i64 (S k : Int), .int .i64 (T k : Int), .int .u8 (X k : Int), .int .i64 (F k : Int)] 96)).cell? ⟨g, F k * 4 + 3, none⟩ = some (.int .i64 (fro F (F k)))) ∧
          Blk4V (w6.alloc (.cells #[.int .i64 (S k : Int), .int .i64 (T k : Int), .int .u8 (X k : Int), .int .i64 (F k : Int)] 96)) w6.heap.size (.int .i64 (S k : Int)) (.int .i64 (T k : Int)) (.int .u8 (X k : Int)) (.int .i64 (F k : Int)) ∧ Below w.heap.size w (w6.alloc (.cells #[.int .i64 (S k : Int), .int .i64 (T k : Int), .int .u8 (X k : Int), .int .i64 (F k : Int)] 96)) ∧ (w6.alloc (.cells #[.int .i64 (S k : Int), .int .i64 (T k : Int), .int .u8 (X k : Int), .int .i64 (F k : Int)] 96)).ownsRow w.heap.size 5 1 v' (l.length + 1) (wvs l ++ [.int .u8 (X k : Int)]) ∧ w.heap.size ≤ w6.heap.size from by
        have hb6 : Below w.heap.size w w6 := (HB.out.alloc (by omega) _).grown hg (by simp; omega) (fun q hq => (own_lt HO.out hq).1)
        have hv6 : Blk4V w6 gv (.int .i64 (S k : Int)) (.int .i64 (T k : Int)) (.int .u8 (X k : Int)) (.int .i64 (fro F k)) := ((hg.block gv (by simp; omega) (fun e => hgn e.symm)).trans (Below.heap_alloc wr _ gv hgl)).trans HV.out
        have hb7 := bal hb6 (.cells #[.int .i64 (S k : Int), .int .i64 (T k : Int), .int .u8 (X k : Int), .int .i64 (F k : Int)] 96)
        refine ⟨?_, (HQ.out.below hb7).2 (F k) (by omega), Blk4V.new _ _ _ _ _, hb7, ho.below (bal (Below.refl _ _) _), hb6.size⟩
        have h3 := hv6.cells
        rw [hfr] at h3
        exact h3
      have HE := Lib.hid fun (v' : Value) (w6 : World) (ho : w6.ownsRow w.heap.size 5 1 v' (l.length + 1) (wvs l ++ [.int .u8 (X k : Int)])) (hg : (wr.alloc (.cells #[.int .u8 (X k : Int)] 5)).grownBy w6 v.ownBlock) => show
          (w6.alloc (.cells #[.int .i64 (S (F k) : Int), .int .i64 (T (F k) : Int), .int .u8 (X (F k) : Int), .int .i64 (fro F (F k))] 96)).ownsRow w.heap.size 5 1 v' (l ++ [X k]).length (wvs (l ++ [X k])) ∧ Below w.heap.size w (w6.alloc (.cells #[.int .i64 (S (F k) : Int), .int .i64 (T (F k) : Int), .int .u8 (X (F k) : Int), .int .i64 (fro F (F k))] 96)) ∧ vlen v' = l.length + 1 from by
        have hb6 : Below w.heap.size w w6 := (HB.out.alloc (by omega) _).grown hg (by simp; omega) (fun q hq => (own_lt HO.out hq).1)
        refine ⟨?_, bal hb6 _, ?_⟩
        · rw [wvs_snoc, List.length_append]
          exact ho.below (bal (Below.refl _ _) _)
        · obtain ⟨A', c', rfl, _⟩ := Ap.own_form ho
          rfl
      have HE0 : Hid (vlen v = l.length) := by
        obtain ⟨A', c', rfl, _⟩ := Ap.own_form HO.out
        rfl
      have HWn : Hid (wrd F X i i = wrd F X (F k) (F k) ++ (l ++ [X k]).reverse) := by
        show _ = _
        rw [HW.out, wrd_step F X HF.out (by omega) hk, List.reverse_append, List.append_assoc]
        rfl
      have HOa := Lib.hid (HO.out.alloc (.cells #[.int .u8 (X k : Int)] 5))
      clear hfr
      go_wp2_with (at_builtin; refine wpList_append_own _ rfl _ _ 42 rfl w.heap.size 5 i0 (.int .u8 0) 1 1 Tryd.underlying42 hi0 hz0 hz1 hz2 rfl (by decide) _ _ _ rfl HOa.out ⟨wr.heap.size, 0, none⟩ 1 1 [.int .u8 (X k : Int)] rfl rfl (cell_one_new _ _ _) (by simp [Value.oneCell']) (by unfold maxLen; omega) (by omega) (by simp; omega) ?_; intro v' w6 hown' hgrow _; obtain ⟨⟨y0, y1, y2, y3⟩, ⟨q0, q1, q2, q3⟩, hb7, hw7, ho7, hs6⟩ := HK.out v' w6 hown' hgrow; have l7 := blk_lt hb7; obtain ⟨c0, c1, c2, c3⟩ := hb7.cells; have HR7 := Lib.hid (Blk4V.new w6 (.int .i64 (S (F k) : Int)) (.int .i64 (T (F k) : Int)) (.int .u8 (X (F k) : Int)) (.int .i64 (fro F (F k)))); have HE7 := Lib.hid (HE.out v' w6 hown' hgrow); clear hown' hgrow HK HOa ho7 hw7 hb7)
      go_roundw
      case rel => exact ⟨F k, w6.heap.size, l ++ [X k], v', rfl, by omega, by omega, rfl, hs6, HWn, HR7, HE7.out.1, HE7.out.2.1⟩
      case measure =>
        have h1 := HE7.out.2.2
        have h2 := HE0.out
        omega
end Go.Proofs.YtkgeihambgbjdaaDoor.Mi
/- The search's world: the groups and the queue (package minimal). -/
namespace Go.Proofs.YtkgeihambgbjdaaDoor.Mi
open Go Go.RowKit Go.Maps Go.Proofs.YtkgeihambgbjdaaDoor Go.Proofs.YtkgeihambgbjdaaDoor.Cb Go.Proofs.YtkgeihambgbjdaaDoor.Sb
open Go.Proofs.YtkgeihambgbjdaaDoor.Nf (zvs zvs_snoc info_int6 ret_int ret_b drew_below hnext)
open Go.Proofs.YtkgeihambgbjdaaDoor.Dg (Tabs tb tb_mem mem_tb info_tab)
set_option linter.unusedVariables false
set_option linter.unusedSimpArgs false
set_option maxRecDepth 100000
/-- The cells of the queue. -/
def qv (S T F X : Nat → Nat) : Nat → List Value
  | 0 => []
  | m + 1 => qv S T F X m ++ viC S T F X m
theorem qv_len (S T F X : Nat → Nat) : ∀ m, (qv S T F X m).length = m * 4
  | 0 => rfl
  | m + 1 => by
    show (qv S T F X m ++ viC S T F X m).length = _
    rw [List.length_append, qv_len S T F X m]
    show m * 4 + 4 = _
    omega
theorem qv_get (S T F X : Nat → Nat) : ∀ m k r, k < m → r < 4 → (qv S T F X m)[k * 4 + r]? = (viC S T F X k)[r]?
  | 0, k, r, h, _ => by omega
  | m + 1, k, r, h, hr => by
    show (qv S T F X m ++ viC S T F X m)[k * 4 + r]? = _
    by_cases e : k < m
    · rw [List.getElem?_append_left (by rw [qv_len]; omega)]
      exact qv_get S T F X m k r e hr
    · obtain rfl : k = m := by omega
      rw [List.getElem?_append_right (by rw [qv_len]; omega), qv_len, show k * 4 + r - k * 4 = r by omega]
theorem qv_congr {S T F X S' T' F' X' : Nat → Nat} : ∀ {m : Nat}, (∀ k, k < m → viC S T F X k = viC S' T' F' X' k) → qv S T F X m = qv S' T' F' X' m
  | 0, _ => rfl
  | m + 1, h => by
    show qv S T F X m ++ viC S T F X m = qv S' T' F' X' m ++ viC S' T' F' X' m
    rw [qv_congr (m := m) fun k hk => h k (by omega), h m (by omega)]
theorem qv_upd (S T F X : Nat → Nat) (m s t f x : Nat) : qv (upd S m s) (upd T m t) (upd F m f) (upd X m x) m = qv S T F X m := qv_congr fun k hk => by
  have e : k ≠ m := by omega
  unfold viC fro
  rw [upd_ne _ _ e, upd_ne _ _ e, upd_ne _ _ e, upd_ne _ _ e]
theorem QC.of_row {w : World} {B g m c : Nat} {S T F X : Nat → Nat} (h : w.ownsRow B 96 4 (.slice (some ⟨g, 0, none⟩) m c) m (qv S T F X m)) : QC w g m S T F X := by
  refine ⟨(own_lt h rfl).2, fun k hk => ?_⟩
  have hc : ∀ r, r < 4 → w.cell? ⟨g, k * 4 + r, none⟩ = (viC S T F X k)[r]? := fun r hr => by
    have h1 := qv_get S T F X m k r hk hr
    obtain ⟨u, hu⟩ : ∃ u, (viC S T F X k)[r]? = some u := ⟨(viC S T F X k)[r]'(by show r < 4; exact hr), List.getElem?_eq_getElem _⟩
    rw [hu] at h1 ⊢
    have h2 := h.cells rfl (k * 4 + r) u h1
    rw [Ap.addr_add] at h2
    simpa using h2
  exact ⟨hc 0 (by omega), hc 1 (by omega), hc 2 (by omega), hc 3 (by omega)⟩
/-- The world of a search: the groups at G, the queue v. -/
structure SeP (W0 : World) (Bq G n : Nat) (ρ : Nat → Nat) (m : Nat) (S T F X : Nat → Nat) (v : Value) (Y : World) : Prop where
  b : Below W0.heap.size W0 Y
  g : ∃ p rk M, GA Y G n p ∧ Uf n p ρ rk M
  q : Y.ownsRow Bq 96 4 v m (qv S T F X m)
  lo : W0.heap.size ≤ G ∧ G < Bq ∧ Bq ≤ Y.heap.size
theorem SeP.below {W0 : World} {Bq G n : Nat} {ρ : Nat → Nat} {m : Nat} {S T F X : Nat → Nat} {v : Value} {Y Z : World} (h : SeP W0 Bq G n ρ m S T F X v Y) (hb : Below Y.heap.size Y Z) : SeP W0 Bq G n ρ m S T F X v Z := by
  obtain ⟨p, rk, M, h1, h2⟩ := h.g
  have := hb.size
  exact ⟨stepB h.b hb, ⟨p, rk, M, (hb.block G (blk_lt h1)).trans h1, h2⟩, h.q.below hb, ⟨h.lo.1, h.lo.2.1, by have := h.lo.2.2; omega⟩⟩
theorem SeP.keep {W0 : World} {Bq G n : Nat} {ρ ρ' p' rk' : Nat → Nat} {M' m : Nat} {S T F X : Nat → Nat} {v : Value} {Y Z : World} (h : SeP W0 Bq G n ρ m S T F X v Y) (hg : GA Z G n p') (hu : Uf n p' ρ' rk' M') (hk : Keep G Y Z) : SeP W0 Bq G n ρ' m S T F X v Z := by
  have hlo := h.lo
  have hs := hk.size
  refine ⟨h.b.trans (hk.below hlo.1 (by omega)), ⟨p', rk', M', hg, hu⟩, ?_, ⟨hlo.1, hlo.2.1, by omega⟩⟩
  exact own_eq h.q fun g hg => hk.block g (own_lt h.q hg).2 (by have := (own_lt h.q hg).1; omega)
/-- A visit more. -/
theorem SeP.push {W0 : World} {Bq G n : Nat} {ρ : Nat → Nat} {m : Nat} {S T F X : Nat → Nat} {v v' : Value} {Y Z : World} (h : SeP W0 Bq G n ρ m S T F X v Y) (hm : 0 < m) (s t f x : Nat) {tmp : Obj} (ho : Z.ownsRow Bq 96 4 v' (m + 1) (qv S T F X m ++ [.int .i64 (s : Int), .int .i64 (t : Int), .int .u8 (x : Int), .int .i64 (f : Int)])) (hg : (Y.alloc tmp).grownBy Z v.ownBlock) :
    SeP W0 Bq G n ρ (m + 1) (upd S m s) (upd T m t) (upd F m f) (upd X m x) v' Z := by
  obtain ⟨p, rk, M, h1, h2⟩ := h.g
  have hlo := h.lo
  have hY := hg.size
  simp at hY
  refine ⟨(h.b.alloc (by omega) tmp).grown hg (by simp; omega) (fun q hq => by have := own_lt h.q hq; omega), ⟨p, rk, M, ?_, h2⟩, ?_, ⟨hlo.1, hlo.2.1, by omega⟩⟩
  · exact ((hg.block G (by simp; have := blk_lt h1; omega) (fun e => by have := own_lt h.q e.symm; omega)).trans (Below.heap_alloc Y tmp G (blk_lt h1))).trans h1
  · show Z.ownsRow _ _ _ _ _ (qv (upd S m s) (upd T m t) (upd F m f) (upd X m x) m ++ viC (upd S m s) (upd T m t) (upd F m f) (upd X m x) m)
    rw [qv_upd]
    unfold viC fro
    rw [upd_at, upd_at, upd_at, upd_at, if_neg (by omega)]
    exact ho
end Go.Proofs.YtkgeihambgbjdaaDoor.Mi
/- search (package minimal). -/
namespace Go.Proofs.YtkgeihambgbjdaaDoor.Mi
open Go Go.RowKit Go.Maps Go.Proofs.YtkgeihambgbjdaaDoor Go.Proofs.YtkgeihambgbjdaaDoor.Cb Go.Proofs.YtkgeihambgbjdaaDoor.Sb
open Go.Proofs.YtkgeihambgbjdaaDoor.Nf (zvs zvs_snoc info_int6 ret_int ret_b drew_below hnext)
open Go.Proofs.YtkgeihambgbjdaaDoor.Dg (Tabs tb tb_mem mem_tb info_tab)
set_option linter.unusedVariables false
set_option linter.unusedSimpArgs false
set_option maxRecDepth 100000
theorem info_visit : (Tryd.prog.info? 96).map (fun i => (i.zero, i.size, i.bytes)) = some (some (.agg #[.int .i64 0, .int .i64 0, .int .u8 0, .int .i64 0]), 4, 32) := by kernel_rfl
theorem cell_four_new (w : World) (a b c d : Value) (t : TypeId) : ∀ j u, [a, b, c, d][j]? = some u → (w.alloc (.cells #[a, b, c, d] t)).cell? ((⟨w.heap.size, 0, none⟩ : Addr).add j) = some u := by
  intro j u h
  have h1 := World.alloc_heap_new w (.cells #[a, b, c, d] t)
  rw [Ap.addr_add]
  simp only [World.cell?, h1]
  simpa using h
/-- The pair at place i. -/
structure ST (S T : Nat → Nat) (i si ti : Nat) : Prop where
  s : S i = si
  t : T i = ti
/-- What search answers. -/
def SrcPost (d : Da) (s t : Nat) (w : World) (e : Ending) (w' : World) : Prop :=
  ((∃ rv u, e = .returned (.tuple #[rv, .bool true]) ∧ w'.ownsRow w.heap.size 5 1 rv u.length (wvs u) ∧ (∀ y ∈ u, y < 2 ^ d.V.toNat) ∧ fiB d (runW (dlt d.nx) s u) ≠ fiB d (runW (dlt d.nx) t u) ∧ ∀ u', (∀ y ∈ u', y < 2 ^ d.V.toNat) → ext (2 ^ d.V.toNat) 0 u' < ext (2 ^ d.V.toNat) 0 u → fiB d (runW (dlt d.nx) s u') = fiB d (runW (dlt d.nx) t u')) ∨
    (e = .returned (.tuple #[.slice none 0 0, .bool false]) ∧ ∀ u', (∀ y ∈ u', y < 2 ^ d.V.toNat) → fiB d (runW (dlt d.nx) s u') = fiB d (runW (dlt d.nx) t u'))) ∧ Below w.heap.size w w'
theorem Se.mn {n L : Nat} {δ : Nat → Nat → Nat} {f : Nat → Bool} {s0 t0 : Nat} {p ρ rk : Nat → Nat} {M m : Nat} {S T C F X : Nat → Nat} {i x : Nat} (h : Se n L δ f s0 t0 ρ m S T C F X i x) (hu : Uf n p ρ rk M) (hn : 0 < n) : m ≤ n := by
  have h1 := roots_pos hu hn
  have h2 := h.cnt
  omega
section
variable (d : Da) (A B : Option Addr) (a b s t : Nat) (w : World)
set_option maxHeartbeats 16000000 in
theorem search_any (hx : DaAt w d A B) (hO : OkD d) (hn : d.nx.length ≤ 4095) (hs : s < d.nx.length) (ht : t < d.nx.length) :
    Calls Tryd.prog 50 #[.agg #[.int .i64 d.V, .int .i64 d.q0, .slice A d.nx.length a, .slice B d.fi.length b], .agg #[.int .i64 s, .int .i64 t]] w (SrcPost d s t w) := by
  have hb0 := bal (bal (Below.refl w.heap.size w) (.cells #[.int .i64 d.V, .int .i64 d.q0, .slice A d.nx.length a, .slice B d.fi.length b] 25)) (.cells #[.int .i64 (s : Int), .int .i64 (t : Int)] 76)
  have hR0 := (Blk4.new w (.int .i64 d.V) (.int .i64 d.q0) (.slice A d.nx.length a) (.slice B d.fi.length b)).below (bal (Below.refl _ _) (.cells #[.int .i64 (s : Int), .int .i64 (t : Int)] 76))
  have hP0 : ((w.alloc (.cells #[.int .i64 d.V, .int .i64 d.q0, .slice A d.nx.length a, .slice B d.fi.length b] 25)).alloc (.cells #[.int .i64 (s : Int), .int .i64 (t : Int)] 76)).heap[w.heap.size + 1]? = some (.cells #[.int .i64 (s : Int), .int .i64 (t : Int)] 76 (0, 0)) := by
    have := World.alloc_heap_new (w.alloc (.cells #[.int .i64 d.V, .int .i64 d.q0, .slice A d.nx.length a, .slice B d.fi.length b] 25)) (.cells #[.int .i64 (s : Int), .int .i64 (t : Int)] 76)
    rwa [World.size_alloc] at this
  have hx0 := hx.below hb0
  have hz0 : w.heap.size + 2 ≤ ((w.alloc (.cells #[.int .i64 d.V, .int .i64 d.q0, .slice A d.nx.length a, .slice B d.fi.length b] 25)).alloc (.cells #[.int .i64 (s : Int), .int .i64 (t : Int)] 76)).heap.size ∧ ((w.alloc (.cells #[.int .i64 d.V, .int .i64 d.q0, .slice A d.nx.length a, .slice B d.fi.length b] 25)).alloc (.cells #[.int .i64 (s : Int), .int .i64 (t : Int)] 76)).heap.size ≤ w.heap.size + 2 := by rw [World.size_alloc, World.size_alloc]; omega
  have hTk := okD_tok hO hn
  have hc0 := cell_two_new (w.alloc (.cells #[.int .i64 d.V, .int .i64 d.q0, .slice A d.nx.length a, .slice B d.fi.length b] 25)) (.int .i64 (s : Int)) (.int .i64 (t : Int)) 76
  obtain ⟨z0, z1, z2, z3⟩ := hR0.cells
  have hfl := Lib.hid hO.fi
  have hn0 := hO.n0
  clear hx hO
  have HSi := Lib.hid (singles_any d.nx.length (by omega) ((w.alloc (.cells #[.int .i64 d.V, .int .i64 d.q0, .slice A d.nx.length a, .slice B d.fi.length b] 25)).alloc (.cells #[.int .i64 (s : Int), .int .i64 (t : Int)] 76)))
  have HS0 := Lib.hid (Se.start (L := 2 ^ d.V.toNat) (δ := dlt d.nx) (f := fiB d) hs ht)
  go_enter Tryd.func50, Tryd.ntmps50
  go_wp2_with (first
    | (go_at_call 65; ((with_reducible refine HSi.out.mono ?_); rintro e w3 ⟨rfl, hg3, hb3⟩); clear hc0 z0 z1 z2 z3; rw [World.size_alloc, World.size_alloc] at hg3; have hP3 := (hb3.block _ (blk_lt hP0)).trans hP0; have h30 : w3.cell? ⟨w.heap.size + 1, 0, none⟩ = some (.int .i64 (s : Int)) := (by simp [World.cell?, hP3]); have h31 : w3.cell? ⟨w.heap.size + 1, 1, none⟩ = some (.int .i64 (t : Int)) := (by simp [World.cell?, hP3]))
    | (go_at_call 66; ((with_reducible refine (join_any (w.heap.size + 1 + 1) d.nx.length _ _ _ _ s t w3 hg3 (Uf.single _) hs ht).mono ?_); rintro e w4 ⟨p4, rk4, M4, rfl, hg4, hu4, hk4⟩); have hP4 := (hk4.block _ (blk_lt hP3) (by omega)).trans hP3; have h40 : w4.cell? ⟨w.heap.size + 1, 0, none⟩ = some (.int .i64 (s : Int)) := (by simp [World.cell?, hP4]); have h41 : w4.cell? ⟨w.heap.size + 1, 1, none⟩ = some (.int .i64 (t : Int)) := (by simp [World.cell?, hP4]); clear h30 h31))
  have HP5 : Hid (SeP ((w.alloc (.cells #[.int .i64 d.V, .int .i64 d.q0, .slice A d.nx.length a, .slice B d.fi.length b] 25)).alloc (.cells #[.int .i64 (s : Int), .int .i64 (t : Int)] 76)) w4.heap.size (w.heap.size + 1 + 1) d.nx.length (jo (fun s => s) s t) 1 (fun _ => s) (fun _ => t) (fun _ => 0) (fun _ => 0) (.slice (some ⟨w4.heap.size, 0, none⟩) 1 1) (w4.alloc (.cells #[.int .i64 (s : Int), .int .i64 (t : Int), .int .u8 0, .int .i64 (-1)] 96))) := by
    have h1 := blk_lt hg3
    have h2 := blk_lt hg4
    refine ⟨bal (hb3.trans (hk4.below (by omega) (by omega))) _, ⟨p4, rk4, M4, (Below.heap_alloc w4 _ _ h2).trans hg4, hu4⟩, ⟨rfl, .inr ⟨w4.heap.size, 1, #[.int .i64 (s : Int), .int .i64 (t : Int), .int .u8 0, .int .i64 (-1)], rfl, Nat.le_refl _, World.alloc_heap_new w4 _, Nat.le_refl 1, by decide, rfl, ?_⟩⟩, ⟨by omega, h2, by rw [World.size_alloc]; omega⟩⟩
    simp [qv, viC, fro]
  have HD := Lib.hid fun (X : World) (hX : Below ((w.alloc (.cells #[.int .i64 d.V, .int .i64 d.q0, .slice A d.nx.length a, .slice B d.fi.length b] 25)).alloc (.cells #[.int .i64 (s : Int), .int .i64 (t : Int)] 76)).heap.size ((w.alloc (.cells #[.int .i64 d.V, .int .i64 d.q0, .slice A d.nx.length a, .slice B d.fi.length b] 25)).alloc (.cells #[.int .i64 (s : Int), .int .i64 (t : Int)] 76)) X) => hR0.below hX
  have HA := Lib.hid fun (X : World) (hX : Below ((w.alloc (.cells #[.int .i64 d.V, .int .i64 d.q0, .slice A d.nx.length a, .slice B d.fi.length b] 25)).alloc (.cells #[.int .i64 (s : Int), .int .i64 (t : Int)] 76)).heap.size ((w.alloc (.cells #[.int .i64 d.V, .int .i64 d.q0, .slice A d.nx.length a, .slice B d.fi.length b] 25)).alloc (.cells #[.int .i64 (s : Int), .int .i64 (t : Int)] 76)) X) => hx0.below hX
  have HB := Lib.hid fun (X : World) (hX : Below ((w.alloc (.cells #[.int .i64 d.V, .int .i64 d.q0, .slice A d.nx.length a, .slice B d.fi.length b] 25)).alloc (.cells #[.int .i64 (s : Int), .int .i64 (t : Int)] 76)).heap.size ((w.alloc (.cells #[.int .i64 d.V, .int .i64 d.q0, .slice A d.nx.length a, .slice B d.fi.length b] 25)).alloc (.cells #[.int .i64 (s : Int), .int .i64 (t : Int)] 76)) X) => hb0.trans (hX.mono (by omega))
  have hg4l := blk_lt hg4
  clear hg3 hb3 hg4 hu4 hk4 hP0 hP3 hP4 h40 h41 hR0 hx0 hb0
  generalize w4.alloc (.cells #[.int .i64 (s : Int), .int .i64 (t : Int), .int .u8 0, .int .i64 (-1)] 96) = W5 at *
  generalize ((w.alloc (.cells #[.int .i64 d.V, .int .i64 d.q0, .slice A d.nx.length a, .slice B d.fi.length b] 25)).alloc (.cells #[.int .i64 (s : Int), .int .i64 (t : Int)] 76)) = Wz at *
  generalize w4.heap.size = Bq at *
  generalize w.heap.size + 1 + 1 = G at *
  obtain ⟨i0, hi0, hy0, hy1, hy2⟩ := info_parts info_visit
  have hl6 := hTk.l6
  have hl1 := hTk.l1
  have HTl := Lib.hid fun s hs => hTk.len (s := s) hs
  have HTa := Lib.hid fun s x hs hx => hTk.at_ (s := s) (x := x) hs hx
  clear hTk
  generalize hL : 2 ^ d.V.toNat = L at *
  generalize hδ : dlt d.nx = δ at *
  have HLL := Lib.hid hL
  have Hδ := Lib.hid hδ
  clear hL hδ
  go_loopw [7, 8, 9, 10, 11, 12] (fun qvv iv _ _ _ _ wr => ∃ (i m : Nat) (ρ S T C F X : Nat → Nat) (v : Value), v = qvv ∧ i ≤ m ∧ m ≤ d.nx.length ∧ iv = .int .i64 i ∧ Hid (SeP Wz Bq G d.nx.length ρ m S T F X v wr) ∧ Hid (Se d.nx.length L δ (fiB d) s t ρ m S T C F X i 0) ∧ Hid (∀ k, k < m → X k < 256)) (fun _ iv _ _ _ _ _ => d.nx.length + 1 - (intOf iv).toNat)
  case atStart => exact ⟨0, 1, _, _, _, _, _, _, _, rfl, by omega, by omega, rfl, HP5, HS0, fun k hk => by omega⟩
  case round =>
    clear HP5 HS0
    obtain ⟨i, m, ρ, S, T, C, F, X, v, rfl, him, hmn, rfl, HP, HS, HXl⟩ := hrel
    have hm0 := HS.out.bf.pos
    rcases HP.out.q.2 with ⟨_, h0⟩ | ⟨gq, cq, cur, rfl, hgq, _⟩
    · omega
    by_cases hlt : i < m
    · have hlt2 : (i : Int) < (m : Int) := by omega
      obtain ⟨q0, q1, q2, q3⟩ := (QC.of_row HP.out.q).2 i hlt
      obtain ⟨hsi, hti⟩ := HS.out.bf.lt i hlt
      have HP1 := Lib.hid (HP.out.below (bal (Below.refl _ _) (.cells #[.int .i64 (S i : Int), .int .i64 (T i : Int), .int .u8 (X i : Int), .int .i64 (fro F i)] 96)))
      have HV1 := Lib.hid (Blk4V.new wr (.int .i64 (S i : Int)) (.int .i64 (T i : Int)) (.int .u8 (X i : Int)) (.int .i64 (fro F i)))
      have hnv : gq ≠ wr.heap.size := by have := own_lt HP.out.q (g := gq) rfl; omega
      obtain ⟨fd, hBe, hfb, hfc⟩ := (HA.out Wz (Below.refl _ _)).fi (S i) (by rw [hfl.out]; exact hsi)
      obtain ⟨fd2, hBe2, _, hgc⟩ := (HA.out Wz (Below.refl _ _)).fi (T i) (by rw [hfl.out]; exact hti)
      obtain ⟨ad, pS, cS, hAe, hab, hac, hai⟩ := (HA.out Wz (Below.refl _ _)).nx (S i) hsi
      obtain ⟨ad2, pT, cT, hAe2, _, hbc, hbi⟩ := (HA.out Wz (Below.refl _ _)).nx (T i) hti
      subst hBe hAe
      cases hBe2
      cases hAe2
      rw [HTl.out _ hsi] at hac
      rw [HTl.out _ hti] at hbc
      obtain ⟨bs, hbs⟩ : ∃ bs, bs = fiB d (S i) := ⟨_, rfl⟩
      obtain ⟨bt, hbt⟩ : ∃ bt, bt = fiB d (T i) := ⟨_, rfl⟩
      replace hfc : Wz.cell? (fd.add (S i)) = some (.bool bs) := by rw [hbs]; exact hfc
      replace hgc : Wz.cell? (fd.add (T i)) = some (.bool bt) := by rw [hbt]; exact hgc
      have HQ : Hid (∀ Y, Below Wz.heap.size Wz Y → (Y.cell? ⟨w.heap.size, 2, none⟩ = some (.slice (some ad) d.nx.length a) ∧ Y.cell? ⟨w.heap.size, 3, none⟩ = some (.slice (some fd) d.fi.length b)) ∧ (Y.cell? (fd.add (S i)) = some (.bool bs) ∧ Y.cell? (fd.add (T i)) = some (.bool bt)) ∧ (Y.cell? (ad.add (S i)) = some (.slice pS L cS) ∧ Y.cell? (ad.add (T i)) = some (.slice pT L cT)) ∧ Ints Y pS (tb d.nx (S i)) ∧ Ints Y pT (tb d.nx (T i))) := fun Y hY =>
        ⟨(HD.out Y hY).cells.2.2, ⟨(hY.cell (by rw [addr_block]; exact hfb)).trans hfc, (hY.cell (by rw [addr_block]; exact hfb)).trans hgc⟩, ⟨(hY.cell (by rw [addr_block]; exact hab)).trans hac, (hY.cell (by rw [addr_block]; exact hab)).trans hbc⟩, hai.below hY, hbi.below hY⟩
      have HBS := Lib.hid hbs
      have HBT := Lib.hid hbt
      clear hbs hbt hfb hfc hgc hab hac hbc hai hbi
      obtain ⟨⟨e2, e3⟩, ⟨e4, e5⟩, _, _, _⟩ := HQ.out _ HP1.out.b
      obtain ⟨v0, v1, v2, v3⟩ := HV1.out.cells
      have hsz1 : (S i : Int) < (d.fi.length : Int) := by rw [hfl.out]; omega
      have htz1 : (T i : Int) < (d.fi.length : Int) := by rw [hfl.out]; omega
      have hBg : G < wr.heap.size ∧ Bq ≤ wr.heap.size := ⟨by have := HP.out.lo; omega, HP.out.lo.2.2⟩
      clear HP
      go_upto_region 8 with fail
      go_quiet (fail)
      have hbq := Ap.drewN_below (wr.alloc (.cells #[.int .i64 (S i : Int), .int .i64 (T i : Int), .int .u8 (X i : Int), .int .i64 (fro F i)] 96)) nq
      have HP2 := Lib.hid (HP1.out.below hbq)
      have HV2 := Lib.hid (HV1.out.below hbq)
      have hs2 : wr.heap.size < ((wr.alloc (.cells #[.int .i64 (S i : Int), .int .i64 (T i : Int), .int .u8 (X i : Int), .int .i64 (fro F i)] 96)).drewN nq).heap.size := blk_lt HV2.out
      clear HP1 HV1 hbq e2 e3 e4 e5 v0 v1 v2 v3 q0 q1 q2 q3
      generalize (wr.alloc (.cells #[.int .i64 (S i : Int), .int .i64 (T i : Int), .int .u8 (X i : Int), .int .i64 (fro F i)] 96)).drewN nq = X1 at *
      by_cases hbb : bs = bt
      · have hbe : (bs == bt) = true := by rw [beq_iff_eq]; exact hbb
        have hni : (S i : Int) < (d.nx.length : Int) := by omega
        have hnt : (T i : Int) < (d.nx.length : Int) := by omega
        obtain ⟨⟨e2, e3⟩, _, ⟨e6, e7⟩, _, _⟩ := HQ.out _ HP2.out.b
        obtain ⟨v0, v1, v2, v3⟩ := HV2.out.cells
        have HBE := Lib.hid hbb
        rw [show (!(bs == bt)) = false from by rw [hbe]; rfl]
        clear hbb hbe
        go_wp2
        have hgv : wr.heap.size < X1.heap.size := hs2
        have HN0 : Hid ((Value.slice (some ⟨gq, 0, none⟩) m cq).ownBlock ≠ some wr.heap.size) := fun e => hnv (Option.some.inj e)
        have HSi : Hid (S i = S i) := rfl
        have HTi : Hid (T i = T i) := rfl
        generalize hsi' : S i = si at HSi HTi HQ HV2 HBS HBT hsi hti hni hnt e6 e7 v0 v1 v2 v3 ⊢
        generalize hti' : T i = ti at HSi HTi HQ HV2 HBS HBT hsi hti hni hnt e6 e7 v0 v1 v2 v3 ⊢
        have HST : Hid (ST S T i si ti) := ⟨hsi', hti'⟩
        clear hsi' hti' HSi HTi
        generalize X i = xi at *
        generalize fro F i = fi at *
        generalize wr.heap.size = gv at *
        clear e2 e3 e6 e7 v0 v1 v2 v3
        go_loopw [7, 59, 10, 11, 12] (fun qvv xv _ _ _ wr2 => ∃ (x m : Nat) (ρ S T C F X : Nat → Nat) (v : Value), v = qvv ∧ x ≤ L ∧ i < m ∧ m ≤ d.nx.length ∧ xv = .int .i64 x ∧ Hid (ST S T i si ti) ∧ Hid (SeP Wz Bq G d.nx.length ρ m S T F X v wr2) ∧ Hid (Se d.nx.length L δ (fiB d) s t ρ m S T C F X i x) ∧ Hid (∀ k, k < m → X k < 256) ∧ Hid (v.ownBlock ≠ some gv) ∧ Hid (Blk4V wr2 gv (.int .i64 (si : Int)) (.int .i64 (ti : Int)) (.int .u8 (xi : Int)) (.int .i64 fi))) (fun _ xv _ _ _ _ => L - (intOf xv).toNat)
        case atStart => exact ⟨0, m, ρ, S, T, C, F, X, _, rfl, by omega, hlt, hmn, rfl, HST, HP2, HS, HXl, HN0, HV2⟩
        case round =>
          clear HST HP2 HS HXl HN0 HV2
          obtain ⟨x, m, ρ, S, T, C, F, X, v, rfl, hxL, him2, hmn2, rfl, HST, HP, HS, HXl, HN, HV⟩ := hrel
          obtain ⟨v0, v1, v2, v3⟩ := HV.out.cells
          obtain ⟨⟨e2, e3⟩, _, ⟨e6, e7⟩, hI1, hI2⟩ := HQ.out _ HP.out.b
          by_cases hx : x < L
          · have hxz : (x : Int) < (L : Int) := by omega
            obtain ⟨ar, hpa, hca⟩ := hI1.at_ (show x < (tb d.nx si).length by rw [HTl.out _ hsi]; exact hx)
            obtain ⟨ar2, hpb, hcb⟩ := hI2.at_ (show x < (tb d.nx ti).length by rw [HTl.out _ hti]; exact hx)
            subst hpa hpb
            obtain ⟨hda, hna⟩ := HTa.out si x hsi hx
            obtain ⟨hdb, hnb⟩ := HTa.out ti x hti hx
            rw [hda] at hca
            rw [hdb] at hcb
            clear hda hdb hI1 hI2
            generalize hna' : δ si x = na at *
            generalize hnb' : δ ti x = nb at *
            have HA' := Lib.hid hna'
            have HB' := Lib.hid hnb'
            clear hna' hnb'
            obtain ⟨p, rk, M, hgp, hup⟩ := HP.out.g
            have hbw := bal (Below.refl wr.heap.size wr) (.cells #[.int .i64 (na : Int), .int .i64 (nb : Int)] 76)
            have hgw : GA (wr.alloc (.cells #[.int .i64 (na : Int), .int .i64 (nb : Int)] 76)) G d.nx.length p := (Below.heap_alloc wr _ G (blk_lt hgp)).trans hgp
            have hvw := HV.out.below hbw
            have hgl := blk_lt HV.out
            have hGl := blk_lt hgp
            have hni2 : (si : Int) < (d.nx.length : Int) := by omega
            have hnt2 : (ti : Int) < (d.nx.length : Int) := by omega
            by_cases e : ρ na = ρ nb
            · have hj : (ρ na != ρ nb) = false := by rw [e, bne_self_eq_false]
              have HJ : Hid (Calls Tryd.prog 66 #[.slice (some ⟨G, 0, none⟩) d.nx.length d.nx.length, .agg #[.int .i64 (na : Int), .int .i64 (nb : Int)]] (wr.alloc (.cells #[.int .i64 (na : Int), .int .i64 (nb : Int)] 76)) fun e' Z => e' = .returned (.bool false) ∧ SeP Wz Bq G d.nx.length (jo ρ na nb) m S T F X v Z ∧ Blk4V Z gv (.int .i64 (si : Int)) (.int .i64 (ti : Int)) (.int .u8 (xi : Int)) (.int .i64 fi) ∧ (Z.cell? ⟨wr.heap.size, 0, none⟩ = some (.int .i64 (na : Int)) ∧ Z.cell? ⟨wr.heap.size, 1, none⟩ = some (.int .i64 (nb : Int))) ∧ gv < Z.heap.size) := (join_any G d.nx.length p ρ rk M na nb _ hgw hup hna hnb).mono fun e' Z ⟨p', rk', M', h1, h2, h3, h4⟩ => by
                have h5 := (h4.block gv (by rw [World.size_alloc]; omega) (by omega)).trans hvw
                have h6 := (h4.block wr.heap.size (by rw [World.size_alloc]; omega) (by omega)).trans (World.alloc_heap_new wr _)
                exact ⟨by rw [h1, hj], (HP.out.below hbw).keep h2 h3 h4, h5, ⟨by simp [World.cell?, h6], by simp [World.cell?, h6]⟩, blk_lt h5⟩
              have HSk : Hid (Se d.nx.length L δ (fiB d) s t (jo ρ na nb) m S T C F X i (x + 1)) := by
                have h := HS.out.skip him2 hx (by rw [HST.out.s, HA'.out]; exact hna) (by rw [HST.out.t, HB'.out]; exact hnb) (by rw [HST.out.s, HST.out.t, HA'.out, HB'.out]; exact e)
                rw [HST.out.s, HST.out.t, HA'.out, HB'.out] at h
                exact h
              clear hj e hgw hvw hbw hgp hup HP HV HS HQ
              go_wp2_with (go_at_call 66; ((with_reducible refine HJ.out.mono ?_); rintro e' Z ⟨rfl, hPZ, hVZ, hZZ, _⟩); have HPZ := Lib.hid hPZ; have HVZ := Lib.hid hVZ; clear hPZ hVZ hZZ)
              go_roundw
              case rel => exact ⟨x + 1, m, _, S, T, C, F, X, v, rfl, by omega, him2, hmn2, by go_num, HST, HPZ, HSk, HXl, HN, HVZ⟩
              case measure => simp [intOf]; omega
            · have hj : (ρ na != ρ nb) = true := by rw [bne_iff_ne]; exact e
              have HJ : Hid (Calls Tryd.prog 66 #[.slice (some ⟨G, 0, none⟩) d.nx.length d.nx.length, .agg #[.int .i64 (na : Int), .int .i64 (nb : Int)]] (wr.alloc (.cells #[.int .i64 (na : Int), .int .i64 (nb : Int)] 76)) fun e' Z => e' = .returned (.bool true) ∧ SeP Wz Bq G d.nx.length (jo ρ na nb) m S T F X v Z ∧ Blk4V Z gv (.int .i64 (si : Int)) (.int .i64 (ti : Int)) (.int .u8 (xi : Int)) (.int .i64 fi) ∧ (Z.cell? ⟨wr.heap.size, 0, none⟩ = some (.int .i64 (na : Int)) ∧ Z.cell? ⟨wr.heap.size, 1, none⟩ = some (.int .i64 (nb : Int))) ∧ gv < Z.heap.size) := (join_any G d.nx.length p ρ rk M na nb _ hgw hup hna hnb).mono fun e' Z ⟨p', rk', M', h1, h2, h3, h4⟩ => by
                have h5 := (h4.block gv (by rw [World.size_alloc]; omega) (by omega)).trans hvw
                have h6 := (h4.block wr.heap.size (by rw [World.size_alloc]; omega) (by omega)).trans (World.alloc_heap_new wr _)
                exact ⟨by rw [h1, hj], (HP.out.below hbw).keep h2 h3 h4, h5, ⟨by simp [World.cell?, h6], by simp [World.cell?, h6]⟩, blk_lt h5⟩
              have HSk : Hid (Se d.nx.length L δ (fiB d) s t (jo ρ na nb) (m + 1) (upd S m na) (upd T m nb) (upd C m (C i * L + x + 1)) (upd F m i) (upd X m x) i (x + 1)) := by
                have h := HS.out.add him2 hx (by rw [HST.out.s, HA'.out]; exact hna) (by rw [HST.out.t, HB'.out]; exact hnb) (by rw [HST.out.s, HST.out.t, HA'.out, HB'.out]; exact roots_jo hup hna hnb e)
                rw [HST.out.s, HST.out.t, HA'.out, HB'.out] at h
                exact h
              have hm1 : m + 1 ≤ d.nx.length := by
                have h1 := roots_jo hup hna hnb e
                have h2 := HS.out.cnt
                have h3 := roots_pos hup hna
                have h4 := HSk.out.cnt
                obtain ⟨rk', M', h5⟩ := hup.join hna hnb
                have h6 := roots_pos h5 hna
                omega
              have hm0' := HS.out.bf.pos
              have HST2 : Hid (ST (upd S m na) (upd T m nb) i si ti) := ⟨(upd_ne _ _ (by omega)).trans HST.out.s, (upd_ne _ _ (by omega)).trans HST.out.t⟩
              have HXn : Hid (∀ k, k < m + 1 → upd X m x k < 256) := fun k hk => by
                by_cases ek : k = m
                · subst ek; rw [upd_at]; omega
                · rw [upd_ne _ _ ek]; exact HXl.out k (by omega)
              have HAp := Lib.hid fun (Z w6 : World) (v' : Value) (hP : SeP Wz Bq G d.nx.length (jo ρ na nb) m S T F X v Z) (hV : Blk4V Z gv (.int .i64 (si : Int)) (.int .i64 (ti : Int)) (.int .u8 (xi : Int)) (.int .i64 fi)) (ho : w6.ownsRow Bq 96 4 v' (m + 1) (qv S T F X m ++ [.int .i64 (na : Int), .int .i64 (nb : Int), .int .u8 (x : Int), .int .i64 (i : Int)])) (hg : (Z.alloc (.cells #[.int .i64 (na : Int), .int .i64 (nb : Int), .int .u8 (x : Int), .int .i64 (i : Int)] 96)).grownBy w6 v.ownBlock) (hob : v'.ownBlock = v.ownBlock ∨ v'.ownBlock = some (Z.alloc (.cells #[.int .i64 (na : Int), .int .i64 (nb : Int), .int .u8 (x : Int), .int .i64 (i : Int)] 96)).heap.size) => show SeP Wz Bq G d.nx.length (jo ρ na nb) (m + 1) (upd S m na) (upd T m nb) (upd F m i) (upd X m x) v' w6 ∧ Blk4V w6 gv (.int .i64 (si : Int)) (.int .i64 (ti : Int)) (.int .u8 (xi : Int)) (.int .i64 fi) ∧ v'.ownBlock ≠ some gv from by
                have hgz := blk_lt hV
                refine ⟨hP.push hm0' na nb i x ho hg, ((hg.block gv (by rw [World.size_alloc]; omega) (fun e => HN.out e.symm)).trans (Below.heap_alloc Z _ gv hgz)).trans hV, ?_⟩
                rcases hob with h | h
                · rw [h]; exact HN.out
                · rw [h, World.size_alloc]
                  intro e
                  have := Option.some.inj e
                  omega
              clear hj e hgw hvw hbw hgp hup HP HV HS HQ
              go_wp2_with (first
                | (go_at_call 66; ((with_reducible refine HJ.out.mono ?_); rintro e' Z ⟨rfl, hPZ, hVZ, ⟨k0, k1⟩, hZl⟩); have HPZ := Lib.hid hPZ; have HVZ := Lib.hid hVZ; have HOZ := Lib.hid (hPZ.q.alloc (.cells #[.int .i64 (na : Int), .int .i64 (nb : Int), .int .u8 (x : Int), .int .i64 (i : Int)] 96)); have hlz := hPZ.lo; clear hPZ hVZ)
                | (at_builtin; refine wpList_append_own_at _ rfl _ _ 97 rfl Bq 96 i0 (.agg #[.int .i64 0, .int .i64 0, .int .u8 0, .int .i64 0]) 4 32 Tryd.underlying97 hi0 hy0 hy1 hy2 rfl (by decide) _ m _ rfl HOZ.out ⟨Z.heap.size, 0, none⟩ 1 1 [.int .i64 (na : Int), .int .i64 (nb : Int), .int .u8 (x : Int), .int .i64 (i : Int)] rfl rfl (cell_four_new _ _ _ _ _ _) (by simp [Value.oneCell']) (by unfold maxLen; omega) (by omega) (by simp; omega) ?_; intro v' w6 hown' hgrow _ hob; obtain ⟨hP6, hV6, hN6⟩ := HAp.out Z w6 v' HPZ.out HVZ.out hown' hgrow hob; have HP6 := Lib.hid hP6; have HV6 := Lib.hid hV6; have HN6 := Lib.hid hN6; clear hown' hgrow hob hP6 hV6 hN6))
              go_roundw
              case rel => exact ⟨x + 1, m + 1, _, _, _, _, _, _, v', rfl, by omega, by omega, hm1, by go_num, HST2, HP6, HSk, HXn, HN6, HV6⟩
              case measure => simp [intOf]; omega
          · obtain rfl : x = L := by omega
            have HSn : Hid (Se d.nx.length x δ (fiB d) s t ρ m S T C F X (i + 1) 0) := HS.out.next him2 (by rw [HST.out.s, HST.out.t, ← HBS.out, ← HBT.out]; exact HBE.out)
            clear HS HQ HV e2 e3 e6 e7 v0 v1 v2 v3 hI1 hI2
            go_wp2
            go_roundw
            case rel => exact ⟨i + 1, m, ρ, S, T, C, F, X, v, rfl, by omega, hmn2, by go_num, HP, HSn, HXl⟩
            case measure => simp [intOf]; omega
      · have hneq : (bs != bt) = true := by rw [bne_iff_ne]; exact hbb
        have HFin : Hid (∀ Y rv, Y.ownsRow X1.heap.size 5 1 rv (wrd F X i i).length (wvs (wrd F X i i)) → Below X1.heap.size X1 Y → SrcPost d s t w (.returned (.tuple #[rv, .bool true])) Y) := fun Y rv ho hb => by
          have h1 := HS.out
          have hbX := HB.out _ HP2.out.b
          obtain ⟨j1, j2, j3, j4⟩ := h1.bf.word L δ i i hlt (Nat.le_refl _)
          unfold SrcPost
          rw [HLL.out, Hδ.out]
          refine ⟨.inl ⟨rv, _, rfl, ownsRow_mono ho hbX.size, j4, ?_, fun u' hu' hlt' => ?_⟩, stepB hbX hb⟩
          · rw [j2, j3, ← HBS.out, ← HBT.out]
            exact hbb
          · have h2 := h1.bf.least L δ (fiB d) (by omega) hlt h1.cl h1.fs u' hu' 0 hm0 (by rw [h1.bf.c0]; rw [j1] at hlt'; exact hlt')
            rw [h1.bf.s0, h1.bf.t0] at h2
            exact h2
        have HWt := Lib.hid (wordTo_any gq m i cq S T F X X1 (QC.of_row HP2.out.q) hlt (by omega) (fun k h1 h2 => (HS.out.bf.step k h1 h2).1) (fun k h1 => HXl.out k h1))
        clear HP2 HV2 HS HQ
        have h2 : (bs = true ∧ bt = false) ∨ (bs = false ∧ bt = true) := by cases bs <;> cases bt <;> first | exact absurd rfl hbb | exact .inl ⟨rfl, rfl⟩ | exact .inr ⟨rfl, rfl⟩
        clear hbb hneq
        rcases h2 with ⟨rfl, rfl⟩ | ⟨rfl, rfl⟩
        all_goals
          go_wp2_with (go_at_call 67; ((with_reducible refine HWt.out.mono ?_); rintro e w9 ⟨rv, rfl, ho9, hb9⟩); have HF9 := Lib.hid (HFin.out w9 rv ho9 hb9); clear ho9 hb9)
          go_ret2
          exact HF9.out
    · obtain rfl : i = m := by omega
      have HFin : Hid (SrcPost d s t w (.returned (.tuple #[.slice none 0 0, .bool false])) wr) := by
        have h1 := HS.out
        show SrcPost _ _ _ _ _ _
        unfold SrcPost
        rw [HLL.out, Hδ.out]
        refine ⟨.inr ⟨rfl, fun u' hu' => ?_⟩, HB.out _ HP.out.b⟩
        have h2 := h1.bf.none L δ (fiB d) h1.cl h1.fs u' hu' 0 hm0
        rw [h1.bf.s0, h1.bf.t0] at h2
        exact h2
      clear HS HP
      go_wp2
      go_ret2
      exact HFin.out
end
end Go.Proofs.YtkgeihambgbjdaaDoor.Mi
/- isState, checkStates, Distinguish, Equivalent (package minimal). -/
namespace Go.Proofs.YtkgeihambgbjdaaDoor.Mi
open Go Go.RowKit Go.Maps Go.Proofs.YtkgeihambgbjdaaDoor Go.Proofs.YtkgeihambgbjdaaDoor.Cb Go.Proofs.YtkgeihambgbjdaaDoor.Sb
open Go.Proofs.YtkgeihambgbjdaaDoor.Nf (zvs zvs_snoc info_int6 ret_int ret_b drew_below hnext)
open Go.Proofs.YtkgeihambgbjdaaDoor.Dg (Tabs tb tb_mem mem_tb info_tab)
set_option linter.unusedVariables false
set_option linter.unusedSimpArgs false
set_option maxRecDepth 100000
/-- Whether s is a state of d. -/
def isSt (d : Da) (s : Int) : Bool := decide (0 ≤ s) && decide (s < (d.nx.length : Int))
/-- What checkStates answers. -/
def chkS (d : Da) (s t : Int) : Int := if chkD d ≠ 0 then chkD d else if isSt d s && isSt d t then 0 else 8
section
variable (d : Da) (A B : Option Addr) (a b : Nat) (w : World)
theorem isState_any (s : Int) :
    Calls Tryd.prog 64 #[.agg #[.int .i64 d.V, .int .i64 d.q0, .slice A d.nx.length a, .slice B d.fi.length b], .int .i64 s] w fun e w' => e = .returned (.bool (isSt d s)) ∧ Below w.heap.size w w' := by
  have hb0 := bal (Below.refl w.heap.size w) (.cells #[.int .i64 d.V, .int .i64 d.q0, .slice A d.nx.length a, .slice B d.fi.length b] 25)
  have hB0 := Blk4.new w (.int .i64 d.V) (.int .i64 d.q0) (.slice A d.nx.length a) (.slice B d.fi.length b)
  obtain ⟨z0, z1, z2, z3⟩ := hB0.cells
  have HI : Hid (isSt d s = (decide (0 ≤ s) && decide (s < (d.nx.length : Int)))) := rfl
  generalize isSt d s = r at *
  by_cases h1 : 0 ≤ s
  · by_cases h2 : s < (d.nx.length : Int)
    · have hr : r = true := by rw [HI.out, decide_eq_true h1, decide_eq_true h2]; rfl
      subst hr
      go_enter Tryd.func64, Tryd.ntmps64
      go_wp2
      go_ret
      exact ⟨rfl, hb0⟩
    · have hr : r = false := by rw [HI.out, decide_eq_false h2, Bool.and_false]
      subst hr
      have h3 := decide_eq_false h2
      go_enter Tryd.func64, Tryd.ntmps64
      go_wp2
      go_ret
      exact ⟨rfl, hb0⟩
  · have hr : r = false := by rw [HI.out, decide_eq_false h1, Bool.false_and]
    subst hr
    have h3 := decide_eq_false h1
    go_enter Tryd.func64, Tryd.ntmps64
    go_wp2
    go_ret
    exact ⟨rfl, hb0⟩
theorem checkStates_any (hx : DaAt w d A B) (hl : DaLen d) (s t : Int) :
    Calls Tryd.prog 49 #[.agg #[.int .i64 d.V, .int .i64 d.q0, .slice A d.nx.length a, .slice B d.fi.length b], .int .i64 s, .int .i64 t] w fun e w' => e = .returned (.int .i64 (chkS d s t)) ∧ Below w.heap.size w w' := by
  have hb0 := bal (Below.refl w.heap.size w) (.cells #[.int .i64 d.V, .int .i64 d.q0, .slice A d.nx.length a, .slice B d.fi.length b] 25)
  have hB0 := Blk4.new w (.int .i64 d.V) (.int .i64 d.q0) (.slice A d.nx.length a) (.slice B d.fi.length b)
  have HC := Lib.hid (CheckD_any d A B a b (w.alloc (.cells #[.int .i64 d.V, .int .i64 d.q0, .slice A d.nx.length a, .slice B d.fi.length b] 25)) (hx.below hb0) hl)
  have HIs := Lib.hid fun X z => isState_any d A B a b X z
  have HK : Hid (chkS d s t = if chkD d ≠ 0 then chkD d else if isSt d s && isSt d t then 0 else 8) := rfl
  generalize chkS d s t = r at *
  generalize chkD d = E at *
  obtain ⟨p, hp⟩ : ∃ p, p = isSt d s := ⟨_, rfl⟩
  obtain ⟨q, hq⟩ : ∃ q, q = isSt d t := ⟨_, rfl⟩
  have HIp : Hid (∀ X, Calls Tryd.prog 64 #[.agg #[.int .i64 d.V, .int .i64 d.q0, .slice A d.nx.length a, .slice B d.fi.length b], .int .i64 s] X fun e w' => e = .returned (.bool p) ∧ Below X.heap.size X w') := fun X => by rw [hp]; exact HIs.out X s
  have HIq : Hid (∀ X, Calls Tryd.prog 64 #[.agg #[.int .i64 d.V, .int .i64 d.q0, .slice A d.nx.length a, .slice B d.fi.length b], .int .i64 t] X fun e w' => e = .returned (.bool q) ∧ Below X.heap.size X w') := fun X => by rw [hq]; exact HIs.out X t
  rw [← hp, ← hq] at HK
  clear hp hq HIs hx hl
  obtain ⟨z0, z1, z2, z3⟩ := hB0.cells
  by_cases hE : E = 0
  · subst hE
    have hk := HK.out
    rw [if_neg (by simp)] at hk
    clear HK
    cases p
    · simp at hk
      subst hk
      go_enter Tryd.func49, Tryd.ntmps49
      go_wp2_with (first
        | (go_at_call 31; ((with_reducible refine HC.out.mono ?_); rintro e w2 ⟨rfl, hb2⟩); replace hB0 := hB0.below hb2; replace hb0 := stepB hb0 hb2; clear z0 z1 z2 z3; obtain ⟨z0, z1, z2, z3⟩ := hB0.cells)
        | (go_at_call 64; ((with_reducible refine (HIp.out _).mono ?_); rintro e w3 ⟨rfl, hb3⟩); replace hB0 := hB0.below hb3; replace hb0 := stepB hb0 hb3; clear z0 z1 z2 z3; obtain ⟨z0, z1, z2, z3⟩ := hB0.cells))
      go_ret
      exact ⟨rfl, hb0⟩
    · cases q
      all_goals
        simp at hk
        subst hk
        go_enter Tryd.func49, Tryd.ntmps49
        go_wp2_with (first
          | (go_at_call 31; ((with_reducible refine HC.out.mono ?_); rintro e w2 ⟨rfl, hb2⟩); replace hB0 := hB0.below hb2; replace hb0 := stepB hb0 hb2; clear z0 z1 z2 z3; obtain ⟨z0, z1, z2, z3⟩ := hB0.cells)
          | (go_at_call 64; (first | (with_reducible refine (HIp.out _).mono ?_) | (with_reducible refine (HIq.out _).mono ?_)); rintro e w3 ⟨rfl, hb3⟩; replace hB0 := hB0.below hb3; replace hb0 := stepB hb0 hb3; clear z0 z1 z2 z3; obtain ⟨z0, z1, z2, z3⟩ := hB0.cells))
        go_ret
        exact ⟨rfl, hb0⟩
  · have hk := HK.out
    rw [if_pos hE] at hk
    subst hk
    have hne : (r != 0) = true := by rw [bne_iff_ne]; exact hE
    clear HK
    go_enter Tryd.func49, Tryd.ntmps49
    go_wp2_with (go_at_call 31; ((with_reducible refine HC.out.mono ?_); rintro e w2 ⟨rfl, hb2⟩))
    go_ret
    exact ⟨rfl, stepB hb0 hb2⟩
theorem chkS_ok {s t : Nat} (hc : chkD d = 0) (hs : s < d.nx.length) (ht : t < d.nx.length) : chkS d s t = 0 := by
  unfold chkS isSt
  rw [if_neg (by rw [hc]; simp), decide_eq_true (by omega : (0 : Int) ≤ (s : Int)), decide_eq_true (by omega : (s : Int) < (d.nx.length : Int)), decide_eq_true (by omega : (0 : Int) ≤ (t : Int)), decide_eq_true (by omega : (t : Int) < (d.nx.length : Int))]
  rfl
theorem chkS_inv {s t : Int} (h : chkS d s t = 0) : chkD d = 0 ∧ (0 ≤ s ∧ s < (d.nx.length : Int)) ∧ 0 ≤ t ∧ t < (d.nx.length : Int) := by
  unfold chkS isSt at h
  by_cases hc : chkD d = 0
  · rw [if_neg (by rw [hc]; simp)] at h
    by_cases hb : (decide (0 ≤ s) && decide (s < (d.nx.length : Int)) && (decide (0 ≤ t) && decide (t < (d.nx.length : Int)))) = true
    · simp only [Bool.and_eq_true, decide_eq_true_eq] at hb
      exact ⟨hc, hb.1, hb.2⟩
    · rw [if_neg hb] at h
      exact absurd h (by decide)
  · rw [if_pos hc] at h
    exact absurd h hc
theorem SrcPost.form {d : Da} {s t : Nat} {w w' : World} {e : Ending} (h : SrcPost d s t w e w') : ∃ rv q, e = .returned (.tuple #[rv, .bool q]) := by
  rcases h.1 with ⟨rv, u, h1, _⟩ | ⟨h1, _⟩
  · exact ⟨rv, true, h1⟩
  · exact ⟨_, false, h1⟩
theorem SrcPost.moved {d : Da} {s t : Nat} {w w1 w' : World} {e : Ending} (h : SrcPost d s t w1 e w') (hb : Below w.heap.size w w1) : SrcPost d s t w e w' := by
  refine ⟨?_, stepB hb h.2⟩
  rcases h.1 with ⟨rv, u, h1, h2, h3⟩ | h1
  · exact .inl ⟨rv, u, h1, ownsRow_mono h2 hb.size, h3⟩
  · exact .inr h1
/-- What Distinguish answers for two states. -/
def DisPost (d : Da) (s t : Nat) (w : World) (e : Ending) (w' : World) : Prop := ∃ rv q, e = .returned (.tuple #[rv, .bool q, .int .i64 0]) ∧ SrcPost d s t w (.returned (.tuple #[rv, .bool q])) w'
theorem Distinguish_bad (hx : DaAt w d A B) (hl : DaLen d) (s t : Int) (h0 : chkS d s t ≠ 0) :
    Calls Tryd.prog 25 #[.agg #[.int .i64 d.V, .int .i64 d.q0, .slice A d.nx.length a, .slice B d.fi.length b], .int .i64 s, .int .i64 t] w fun e w' => e = .returned (.tuple #[.slice none 0 0, .bool false, .int .i64 (chkS d s t)]) ∧ Below w.heap.size w w' := by
  have hb0 := bal (Below.refl w.heap.size w) (.cells #[.int .i64 d.V, .int .i64 d.q0, .slice A d.nx.length a, .slice B d.fi.length b] 25)
  have hB0 := Blk4.new w (.int .i64 d.V) (.int .i64 d.q0) (.slice A d.nx.length a) (.slice B d.fi.length b)
  have HC := Lib.hid (checkStates_any d A B a b (w.alloc (.cells #[.int .i64 d.V, .int .i64 d.q0, .slice A d.nx.length a, .slice B d.fi.length b] 25)) (hx.below hb0) hl s t)
  have hne : (chkS d s t != 0) = true := by rw [bne_iff_ne]; exact h0
  clear hx hl h0
  obtain ⟨z0, z1, z2, z3⟩ := hB0.cells
  generalize chkS d s t = E at *
  go_enter Tryd.func25, Tryd.ntmps25
  go_wp2_with (go_at_call 49; ((with_reducible refine HC.out.mono ?_); rintro e w2 ⟨rfl, hb2⟩))
  go_ret3
  exact ⟨rfl, stepB hb0 hb2⟩
theorem Distinguish_good (hx : DaAt w d A B) (hc : chkD d = 0) (hn : d.nx.length ≤ 4095) (s t : Nat) (hs : s < d.nx.length) (ht : t < d.nx.length) :
    Calls Tryd.prog 25 #[.agg #[.int .i64 d.V, .int .i64 d.q0, .slice A d.nx.length a, .slice B d.fi.length b], .int .i64 s, .int .i64 t] w (DisPost d s t w) := by
  have hb0 := bal (Below.refl w.heap.size w) (.cells #[.int .i64 d.V, .int .i64 d.q0, .slice A d.nx.length a, .slice B d.fi.length b] 25)
  have hB0 := Blk4.new w (.int .i64 d.V) (.int .i64 d.q0) (.slice A d.nx.length a) (.slice B d.fi.length b)
  have hO := okD_of hc
  have HC := checkStates_any d A B a b (w.alloc (.cells #[.int .i64 d.V, .int .i64 d.q0, .slice A d.nx.length a, .slice B d.fi.length b] 25)) (hx.below hb0) hO.len s t
  rw [chkS_ok d hc hs ht] at HC
  have HC := Lib.hid HC
  have HS : Hid (∀ X, Below w.heap.size w X → Calls Tryd.prog 50 #[.agg #[.int .i64 d.V, .int .i64 d.q0, .slice A d.nx.length a, .slice B d.fi.length b], .agg #[.int .i64 s, .int .i64 t]] X fun e w' => ∃ rv q, e = .returned (.tuple #[rv, .bool q]) ∧ SrcPost d s t w (.returned (.tuple #[rv, .bool q])) w') := fun X hX => (search_any d A B a b s t X (hx.below hX) hO hn hs ht).mono fun e w' h => by
    obtain ⟨rv, q, rfl⟩ := h.form
    exact ⟨rv, q, rfl, h.moved hX⟩
  clear hx hc hO
  obtain ⟨z0, z1, z2, z3⟩ := hB0.cells
  go_enter Tryd.func25, Tryd.ntmps25
  go_wp2_with (first
    | (go_at_call 49; ((with_reducible refine HC.out.mono ?_); rintro e w2 ⟨rfl, hb2⟩); replace hB0 := hB0.below hb2; replace hb0 := stepB hb0 hb2; clear z0 z1 z2 z3; obtain ⟨z0, z1, z2, z3⟩ := hB0.cells)
    | (go_at_call 50; ((with_reducible refine (HS.out _ hb0).mono ?_); rintro e w6 ⟨rv, q, rfl, h6⟩); have H6 := Lib.hid h6; clear h6))
  go_ret3
  exact ⟨rv, q, rfl, H6.out⟩
theorem Equivalent_bad (hx : DaAt w d A B) (hl : DaLen d) (s t : Int) (h0 : chkS d s t ≠ 0) :
    Calls Tryd.prog 26 #[.agg #[.int .i64 d.V, .int .i64 d.q0, .slice A d.nx.length a, .slice B d.fi.length b], .int .i64 s, .int .i64 t] w fun e w' => e = .returned (.tuple #[.bool false, .int .i64 (chkS d s t)]) ∧ Below w.heap.size w w' := by
  have hb0 := bal (Below.refl w.heap.size w) (.cells #[.int .i64 d.V, .int .i64 d.q0, .slice A d.nx.length a, .slice B d.fi.length b] 25)
  have hB0 := Blk4.new w (.int .i64 d.V) (.int .i64 d.q0) (.slice A d.nx.length a) (.slice B d.fi.length b)
  obtain ⟨z0, z1, z2, z3⟩ := hB0.cells
  have HC := Lib.hid (Distinguish_bad d A B a b (w.alloc (.cells #[.int .i64 d.V, .int .i64 d.q0, .slice A d.nx.length a, .slice B d.fi.length b] 25)) (hx.below hb0) hl s t h0)
  have hne : (chkS d s t == 0) = false := by rw [beq_eq_false_iff_ne]; exact h0
  clear hx hl h0
  generalize chkS d s t = E at *
  go_enter Tryd.func26, Tryd.ntmps26
  go_wp2_with (go_at_call 25; ((with_reducible refine HC.out.mono ?_); rintro e w2 ⟨rfl, hb2⟩))
  go_ret2
  exact ⟨rfl, stepB hb0 hb2⟩
theorem Equivalent_good (hx : DaAt w d A B) (hc : chkD d = 0) (hn : d.nx.length ≤ 4095) (s t : Nat) (hs : s < d.nx.length) (ht : t < d.nx.length) :
    Calls Tryd.prog 26 #[.agg #[.int .i64 d.V, .int .i64 d.q0, .slice A d.nx.length a, .slice B d.fi.length b], .int .i64 s, .int .i64 t] w fun e w' => ∃ rv q, e = .returned (.tuple #[.bool (!q), .int .i64 0]) ∧ SrcPost d s t w (.returned (.tuple #[rv, .bool q])) w' := by
  have hb0 := bal (Below.refl w.heap.size w) (.cells #[.int .i64 d.V, .int .i64 d.q0, .slice A d.nx.length a, .slice B d.fi.length b] 25)
  have hB0 := Blk4.new w (.int .i64 d.V) (.int .i64 d.q0) (.slice A d.nx.length a) (.slice B d.fi.length b)
  obtain ⟨z0, z1, z2, z3⟩ := hB0.cells
  have HC := Lib.hid (Distinguish_good d A B a b (w.alloc (.cells #[.int .i64 d.V, .int .i64 d.q0, .slice A d.nx.length a, .slice B d.fi.length b] 25)) (hx.below hb0) hc hn s t hs ht)
  clear hx hc
  go_enter Tryd.func26, Tryd.ntmps26
  go_wp2_with (go_at_call 25; ((with_reducible refine HC.out.mono ?_); rintro e w2 ⟨rv, q, rfl, h2⟩); have H2 := Lib.hid (h2.moved hb0); clear h2; obtain rfl | rfl : q = true ∨ q = false := (by cases q; exact .inr rfl; exact .inl rfl))
  all_goals
    go_ret2
    exact ⟨rv, _, rfl, H2.out⟩
end
end Go.Proofs.YtkgeihambgbjdaaDoor.Mi
