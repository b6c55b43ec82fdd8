/- The reference's words and tables (package sentinelref05): words; how a table fills up by the distance of the positions. -/
import Derived.Test.YteckkbjpeckjmaaRM
import Derived.Test.YteckkbjpeckjmaaYZY
namespace Go.Proofs.Yteckkbjpeckjmaa.Rx
open Go Go.RowKit Go.Proofs.Yteckkbjpeckjmaa
set_option linter.unusedVariables false
set_option linter.unusedSimpArgs false
set_option maxRecDepth 100000
set_option maxHeartbeats 4000000 in
theorem refWord5_any (v : Nat) (hv : v ≤ 6) (A : Option Addr) (l : List Nat) (c : Nat) (w : World) (hx : Bys w A l) (h8 : ∀ y ∈ l, y < 256) (hl : l.length ≤ 1000000) :
    Calls Try.prog 69 #[.slice A l.length c, .int .i64 v] w fun r w' => r = .returned (.int .i64 (wordE v l)) ∧ Below w.heap.size w w' := by
  have HL := Lib.hid fun X => Cb.kitLetters_any v X hv
  have hn64 := Nat.pow_le_pow_right (show 0 < 2 by decide) hv
  by_cases h64 : 64 < l.length
  · have HE : Hid (wordE v l = 4) := if_pos h64
    have d1 : decide ((64 : Int) < (l.length : Int)) = true := decide_eq_true (by omega)
    clear hx h64 hn64
    go_enter Try.func69, Try.ntmps69
    go_wp2
    go_ret
    exact ⟨ret_int HE.out.symm, Below.refl _ _⟩
  · have d1 : decide ((64 : Int) < (l.length : Int)) = false := decide_eq_false (by omega)
    have HE1 : Hid ((∀ i, i < l.length → wd l i < 2 ^ v) → wordE v l = 0) := fun h => by
      unfold wordE
      rw [if_neg h64, if_pos]
      rw [List.all_eq_true]
      intro y hy
      obtain ⟨j, hj, rfl⟩ := List.getElem_of_mem hy
      have := h j hj
      unfold wd at this
      rw [List.getD_eq_getElem?_getD, List.getElem?_eq_getElem hj] at this
      exact decide_eq_true this
    have HE2 : Hid (∀ i, i < l.length → ¬ wd l i < 2 ^ v → wordE v l = 1) := fun i hi h => by
      unfold wordE
      rw [if_neg h64, if_neg]
      intro h2
      rw [List.all_eq_true] at h2
      refine h (of_decide_eq_true (h2 (wd l i) ?_))
      unfold wd
      rw [List.getD_eq_getElem?_getD, List.getElem?_eq_getElem hi]
      exact List.getElem_mem hi
    have h8w : ∀ i, i < l.length → wd l i < 256 := fun i hi => h8 _ (by
      unfold wd
      rw [List.getD_eq_getElem?_getD, List.getElem?_eq_getElem hi]
      exact List.getElem_mem hi)
    clear h64 h8
    generalize 2 ^ v = K at *
    go_enter Try.func69, Try.ntmps69
    go_wp2
    go_loopw [5] (fun i wr => ∃ k q : Nat, k ≤ l.length ∧ i = .int .i64 k ∧ Hid (∀ i, i < k → wd l i < K) ∧ wr = w.drewN q) (fun i _ => l.length - (intOf i).toNat)
    case atStart => exact ⟨0, 0, by omega, rfl, fun i hi => absurd hi (by omega), rfl⟩
    case round =>
      obtain ⟨k, q, hk, rfl, H, rfl⟩ := hrel
      by_cases hlt : k < l.length
      · obtain ⟨ad, rfl, hcell⟩ := hx.at_ hlt
        have hkn : (k : Int) < (l.length : Int) := by omega
        have hy8 := h8w k hlt
        by_cases hin : wd l k < K
        · have H' : Hid (∀ i, i < k + 1 → wd l i < K) := fun i hi => by
            rcases Nat.lt_or_eq_of_le (Nat.le_of_lt_succ hi) with h1 | rfl
            · exact H.out i h1
            · exact hin
          have d2 : decide ((K : Int) ≤ (wd l k : Int)) = false := decide_eq_false (by omega)
          have d3 : decide (K ≤ wd l k) = false := decide_eq_false (by omega)
          clear H HE1 HE2
          generalize wd l k = x at *
          go_wp2
          go_quiet (first | (go_at_call 47; exact ((HL.out _).mono (by rintro e w' ⟨rfl, rfl⟩; exact ⟨rfl, _, rfl⟩))))
          go_wp2
          go_roundw
          case rel => exact ⟨k + 1, _, by omega, by go_num, H', rfl⟩
          case measure => simp [intOf]; omega
        · have HE := Lib.hid (HE2.out k hlt hin)
          have d2 : decide ((K : Int) ≤ (wd l k : Int)) = true := decide_eq_true (by omega)
          have d3 : decide (K ≤ wd l k) = true := decide_eq_true (by omega)
          clear H HE1 HE2
          generalize wd l k = x at *
          go_wp2
          go_quiet (first | (go_at_call 47; exact ((HL.out _).mono (by rintro e w' ⟨rfl, rfl⟩; exact ⟨rfl, _, rfl⟩))))
          go_wp2
          go_ret
          exact ⟨ret_int HE.out.symm, stepB (Ap.drewN_below w q) (Ap.drewN_below _ _)⟩
      · have HE := Lib.hid (HE1.out fun i hi => H.out i (by omega))
        obtain rfl : k = l.length := by omega
        clear H HE1 HE2
        go_wp2
        go_ret
        exact ⟨ret_int HE.out.symm, Ap.drewN_below w q⟩
theorem stepV_congr {op p q n : Nat} {word : List Nat} {ma ma' mb mb' mr mr' : Nat → Nat → Bool} {i j : Nat} (hij : i ≤ j) (hj : j ≤ n) (ha : ∀ a b, a ≤ b → b ≤ n → ma a b = ma' a b) (hb : ∀ a b, a ≤ b → b ≤ n → mb a b = mb' a b) (hr : ∀ x, i < x → x ≤ j → mr x j = mr' x j) :
    stepV op p q word n ma mb mr i j = stepV op p q word n ma' mb' mr' i j := by
  unfold stepV
  split
  · rfl
  split
  · rfl
  split
  · rfl
  split
  · exact rg_congr fun k h1 h2 => by rw [ha i k h1 (by omega), hb k j h2 hj]
  split
  · rw [ha i j hij hj, hb i j hij hj]
  split
  · rw [ha i j hij hj, hb i j hij hj]
  split
  · rw [ha i j hij hj]
  split
  · congr 1
    exact rg_congr fun k h1 h2 => by rw [ha i k (by omega) (by omega), hr k (by omega) h2]
  split
  · congr 1
    exact rg_congr fun k h1 h2 => by rw [ha i k h1 h2]
  · congr 1
    exact rg_congr fun k h1 h2 => by rw [ha k i h2 (by omega)]
/-- A table that is known up to the distance d, and at the distance d ahead of i. -/
def gD (n : Nat) (T : Nat → Nat → Bool) (d i : Nat) : Nat → Nat → Bool := fun a b => if a ≤ b ∧ b ≤ n ∧ (b < a + d ∨ (b = a + d ∧ a < i)) then T a b else false
theorem gD_zero (n : Nat) (T : Nat → Nat → Bool) : gD n T 0 0 = fun _ _ => false := by
  funext a b
  unfold gD
  rw [if_neg (by omega)]
theorem gD_put {n : Nat} {T : Nat → Nat → Bool} {d i : Nat} (h : i + d ≤ n) : upd (gD n T d i) i (i + d) (T i (i + d)) = gD n T d (i + 1) := by
  funext a b
  unfold upd gD
  by_cases e : a = i ∧ b = i + d
  · obtain ⟨rfl, rfl⟩ := e
    rw [if_pos ⟨rfl, rfl⟩, if_pos (by omega)]
  · rw [if_neg e]
    by_cases e2 : a ≤ b ∧ b ≤ n ∧ (b < a + d ∨ (b = a + d ∧ a < i))
    · rw [if_pos e2, if_pos (by omega)]
    · rw [if_neg e2, if_neg (by omega)]
theorem gD_next {n : Nat} {T : Nat → Nat → Bool} {d i : Nat} (h : n < i + d) : gD n T d i = gD n T (d + 1) 0 := by
  funext a b
  unfold gD
  by_cases e2 : a ≤ b ∧ b ≤ n ∧ (b < a + d ∨ (b = a + d ∧ a < i))
  · rw [if_pos e2, if_pos (by omega)]
  · rw [if_neg e2, if_neg (by omega)]
theorem gD_all (n : Nat) (T : Nat → Nat → Bool) : gD n T (n + 1) 0 = half n T := by
  funext a b
  unfold gD half
  by_cases e2 : a ≤ b ∧ b ≤ n
  · rw [if_pos (by omega), if_pos e2]
  · rw [if_neg (by omega), if_neg e2]
/-- What the reference enters at the distance d is what the piece matches. -/
theorem step_gD {e : List Pc} {word : List Nat} {n : Nat} {T : Nat → Nat → Nat → Bool} {k : Nat} (hT : stepT e word n T k) {d i : Nat} (h : i + d ≤ n) :
    stepV (pc e k).op (pc e k).p (pc e k).q word n (half n (T (pc e k).a.toNat)) (half n (T (pc e k).b.toNat)) (gD n (T k) d i) i (i + d) = T k i (i + d) := by
  rw [stepV_congr (ma' := T (pc e k).a.toNat) (mb' := T (pc e k).b.toNat) (mr' := T k) (by omega) h (fun a b h1 h2 => half_at h1 h2) (fun a b h1 h2 => half_at h1 h2) fun x h1 h2 => ?_]
  · exact hT (T k) i (i + d) (by omega) h fun a b _ _ _ => rfl
  · unfold gD
    rw [if_pos (by omega)]
theorem info_bools2 : (Try.prog.info? 43).map (fun i => (i.zero, i.size, i.bytes)) = some (some (.slice none 0 0), 1, 24) := by kernel_rfl
theorem made_all (L : Nat) (hL : L ≤ 1000000) (W : World) : (Instr.makeSlice 72 (.int .i64 L) (.int .i64 L)).run Try.prog W = .ok (.slice (some ⟨W.heap.size, 0, none⟩) L L) (W.alloc (.cells (cells L fun _ => .slice none 0 0) 43)) := by
  obtain ⟨i0, hi, hz0, hz1, hz2⟩ := info_parts info_bools2
  have := run_makeSlice (P := Try.prog) W 72 43 i0 _ Try.underlying72 hi hz0 .i64 .i64 (L : Int) (L : Int) (by omega) (Int.le_refl _) (by rw [hz1]; omega) (by rw [hz2]; omega) (by omega)
  rw [this, hz1, show ((L : Int)).toNat = L by omega, Nat.mul_one, ← made_cells]
  rfl
theorem made_tab (n : Nat) (hn : n ≤ 1000) (W : World) : (Instr.makeSlice 43 (.int .i64 ((n : Int) + 1)) (.int .i64 ((n : Int) + 1))).run Try.prog W = .ok (.slice (some ⟨W.heap.size, 0, none⟩) (n + 1) (n + 1)) (W.alloc (.cells (cells (n + 1) fun _ => .slice none 0 0) 49)) := by
  obtain ⟨i0, hi, hz0, hz1, hz2⟩ := info_parts info_bools
  have := run_makeSlice (P := Try.prog) W 43 49 i0 _ Try.underlying43 hi hz0 .i64 .i64 ((n : Int) + 1) ((n : Int) + 1) (by omega) (Int.le_refl _) (by rw [hz1]; omega) (by rw [hz2]; omega) (by omega)
  rw [this, hz1, show ((n : Int) + 1).toNat = n + 1 by omega, Nat.mul_one, ← made_cells]
  rfl
/-- The tables of the first k pieces are known. -/
structure KnownR (w wr : World) (kb n L k : Nat) (T : Nat → Nat → Nat → Bool) (mbs : Nat → Nat) : Prop where
  o : wr.heap[kb]? = some (.cells (cells L fun j => if j < k then matV (mbs j) n else .slice none 0 0) 43 (0, 0))
  m : ∀ j, j < k → kb < mbs j ∧ MatAt wr (mbs j) n (half n (T j))
  b : Below w.heap.size w wr
  k0 : w.heap.size ≤ kb
theorem KnownR.next {w wr W7 : World} {kb n L k mbk : Nat} {T : Nat → Nat → Nat → Bool} {mbs : Nat → Nat} (h : KnownR w wr kb n L k T mbs) (hk : k < L) (hb : Below wr.heap.size wr W7) (hM : MatAt W7 mbk n (half n (T k))) (hge : wr.heap.size ≤ mbk) :
    KnownR w (W7.setCell ⟨kb, k, none⟩ (matV mbk n)) kb n L (k + 1) T fun j => if j = k then mbk else mbs j := by
  have hkb := lt_of_block h.o
  have h1 := (hb.block kb hkb).trans h.o
  have hset : ∀ b, b ≠ kb → (W7.setCell ⟨kb, k, none⟩ (matV mbk n)).heap[b]? = W7.heap[b]? := fun b hb => Below.heap_setCell _ _ _ _ hb
  refine ⟨?_, fun j hj => ?_, (h.b.trans (hb.mono h.b.size)).setCell h.k0 _, h.k0⟩
  · rw [heap_put h1, cells_set _ hk]
    congr 2
    refine cells_congr fun j hj => ?_
    by_cases e : j = k
    · rw [if_pos e, if_pos (by omega), if_pos e]
    · rw [if_neg e]
      by_cases e2 : j < k
      · rw [if_pos e2, if_pos (by omega), if_neg e]
      · rw [if_neg e2, if_neg (by omega)]
  · by_cases e : j = k
    · subst e
      rw [if_pos rfl]
      exact ⟨by omega, hM.block fun b h1 h2 => hset b (by omega)⟩
    · rw [if_neg e]
      obtain ⟨h2, h3⟩ := h.m j (by omega)
      exact ⟨h2, (h3.below hb).block fun b h1 h2 => hset b (by omega)⟩
theorem KnownR.below {w wr W : World} {kb n L k : Nat} {T : Nat → Nat → Nat → Bool} {mbs : Nat → Nat} (h : KnownR w wr kb n L k T mbs) (hb : Below wr.heap.size wr W) : KnownR w W kb n L k T mbs :=
  ⟨(hb.block kb (lt_of_block h.o)).trans h.o, fun j hj => ⟨(h.m j hj).1, (h.m j hj).2.below hb⟩, h.b.trans (hb.mono h.b.size), h.k0⟩
end Go.Proofs.Yteckkbjpeckjmaa.Rx
/- The reference's matches (package sentinelref05): whether a piece matches from a position to another, by the tables of the pieces before it. -/
namespace Go.Proofs.Yteckkbjpeckjmaa.Rx
open Go Go.RowKit Go.Proofs.Yteckkbjpeckjmaa
set_option linter.unusedVariables false
set_option linter.unusedSimpArgs false
set_option linter.unusedSectionVars false
set_option maxRecDepth 100000
theorem kitLetter_any (x p q : Nat) (w : World) (hp : p < 256) (hq : q < 256) (hx : x < 256) :
    Calls Try.prog 73 #[.int .u8 x, .int .u8 p, .int .u8 q] w fun e w' => e = .returned (.bool (cHas p q x)) ∧ w = w' := by
  have e1 := u8_and_nat x p hx hp
  have e2 := u8_and_nat x q hx hq
  by_cases h : x &&& p = p
  · have h1 : (bits .and .u8 (x : Int) (p : Int) == (p : Int)) = true := by rw [e1, h]; simp
    clear e1
    go_enter Try.func73, Try.ntmps73
    go_wp2
    go_ret
    refine ⟨ret_bool ?_, rfl⟩
    unfold cHas
    rw [beq_iff_eq.2 h, Bool.true_and]
    exact cast_beq _ 0
  · have h1 : (bits .and .u8 (x : Int) (p : Int) == (p : Int)) = false := by rw [e1, cast_beq]; exact beq_eq_false_iff_ne.2 h
    clear e1
    go_enter Try.func73, Try.ntmps73
    go_wp2
    go_ret
    refine ⟨ret_bool ?_, rfl⟩
    unfold cHas
    rw [beq_eq_false_iff_ne.2 h, Bool.false_and]
theorem cast_beq2 (x y : Nat) : ((x : Int) == (y : Int)) = (x == y) := by rw [Bool.eq_iff_iff, beq_iff_eq, beq_iff_eq]; omega
/-- The table of a piece that comes ahead of this one. -/
structure TabAt (w : World) (ab a L n : Nat) (ma : Nat) (g : Nat → Nat → Bool) : Prop where
  lt : a < L
  c : w.cell? ⟨ab, a, none⟩ = some (matV ma n)
  m : MatAt w ma n g
theorem TabAt.below {w w' : World} {ab a L n ma : Nat} {g : Nat → Nat → Bool} (h : TabAt w ab a L n ma g) (hb : Below w.heap.size w w') : TabAt w' ab a L n ma g :=
  ⟨h.lt, (hb.cell (World.block_lt_of_cell? w _ h.c)).trans h.c, h.m.below hb⟩
section
variable (op p q a b ab L n c i j mo : Nat) (A : Option Addr) (word : List Nat) (w : World) (hij : i ≤ j) (hj : j ≤ n) (hn : n ≤ 1000)
include hij hj hn
set_option maxHeartbeats 4000000 in
theorem m5_none :
    Calls Try.prog 70 #[.agg #[.int .u8 1, .int .u8 p, .int .u8 q, .int .i64 a, .int .i64 b], .slice (some ⟨ab, 0, none⟩) L L, .slice (some ⟨mo, 0, none⟩) (n + 1) (n + 1), .slice A n c, .int .i64 i, .int .i64 j] w fun e w' => e = .returned (.bool (false)) ∧ Below w.heap.size w w' := by
  have HBx : Hid (Bx5 (w.alloc (.cells #[.int .u8 1, .int .u8 p, .int .u8 q, .int .i64 a, .int .i64 b] 32)) w.heap.size ⟨1, p, q, a, b⟩) := Bx5.new w ⟨1, p, q, a, b⟩
  have HBl : Hid (Below w.heap.size w (w.alloc (.cells #[.int .u8 1, .int .u8 p, .int .u8 q, .int .i64 a, .int .i64 b] 32))) := bal (Below.refl _ _) _
  go_enter Try.func70, Try.ntmps70
  go_upto_region 1 with fail
  generalize w.alloc (.cells #[.int .u8 1, .int .u8 p, .int .u8 q, .int .i64 a, .int .i64 b] 32) = W at *
  obtain ⟨bp, hbp⟩ : ∃ bp, bp = w.heap.size := ⟨_, rfl⟩
  rw [← hbp] at HBx ⊢
  have d0 : W.cell? ⟨bp, 0, none⟩ = some (.int .u8 1) := HBx.out.cells.1
  have d1 : W.cell? ⟨bp, 1, none⟩ = some (.int .u8 p) := HBx.out.cells.2.1
  have d2 : W.cell? ⟨bp, 2, none⟩ = some (.int .u8 q) := HBx.out.cells.2.2.1
  have d3 : W.cell? ⟨bp, 3, none⟩ = some (.int .i64 a) := HBx.out.cells.2.2.2.1
  have d4 : W.cell? ⟨bp, 4, none⟩ = some (.int .i64 b) := HBx.out.cells.2.2.2.2
  have HBP := Lib.hid hbp
  clear hbp
  go_wp2
  go_ret
  exact ⟨rfl, HBl.out⟩
set_option maxHeartbeats 4000000 in
theorem m5_empty :
    Calls Try.prog 70 #[.agg #[.int .u8 2, .int .u8 p, .int .u8 q, .int .i64 a, .int .i64 b], .slice (some ⟨ab, 0, none⟩) L L, .slice (some ⟨mo, 0, none⟩) (n + 1) (n + 1), .slice A n c, .int .i64 i, .int .i64 j] w fun e w' => e = .returned (.bool (i == j)) ∧ Below w.heap.size w w' := by
  have HBx : Hid (Bx5 (w.alloc (.cells #[.int .u8 2, .int .u8 p, .int .u8 q, .int .i64 a, .int .i64 b] 32)) w.heap.size ⟨2, p, q, a, b⟩) := Bx5.new w ⟨2, p, q, a, b⟩
  have HBl : Hid (Below w.heap.size w (w.alloc (.cells #[.int .u8 2, .int .u8 p, .int .u8 q, .int .i64 a, .int .i64 b] 32))) := bal (Below.refl _ _) _
  go_enter Try.func70, Try.ntmps70
  go_upto_region 1 with fail
  generalize w.alloc (.cells #[.int .u8 2, .int .u8 p, .int .u8 q, .int .i64 a, .int .i64 b] 32) = W at *
  obtain ⟨bp, hbp⟩ : ∃ bp, bp = w.heap.size := ⟨_, rfl⟩
  rw [← hbp] at HBx ⊢
  have d0 : W.cell? ⟨bp, 0, none⟩ = some (.int .u8 2) := HBx.out.cells.1
  have d1 : W.cell? ⟨bp, 1, none⟩ = some (.int .u8 p) := HBx.out.cells.2.1
  have d2 : W.cell? ⟨bp, 2, none⟩ = some (.int .u8 q) := HBx.out.cells.2.2.1
  have d3 : W.cell? ⟨bp, 3, none⟩ = some (.int .i64 a) := HBx.out.cells.2.2.2.1
  have d4 : W.cell? ⟨bp, 4, none⟩ = some (.int .i64 b) := HBx.out.cells.2.2.2.2
  have HBP := Lib.hid hbp
  clear hbp
  go_wp2
  go_ret
  exact ⟨ret_bool (cast_beq2 i j), HBl.out⟩
set_option maxHeartbeats 4000000 in
theorem m5_letter (hp : p < 256) (hq : q < 256) (hB : Bys w A word) (hlen : word.length = n) (hw8 : ∀ x ∈ word, x < 256):
    Calls Try.prog 70 #[.agg #[.int .u8 3, .int .u8 p, .int .u8 q, .int .i64 a, .int .i64 b], .slice (some ⟨ab, 0, none⟩) L L, .slice (some ⟨mo, 0, none⟩) (n + 1) (n + 1), .slice A n c, .int .i64 i, .int .i64 j] w fun e w' => e = .returned (.bool (j == i + 1 && cHas p q (word.getD i 0))) ∧ Below w.heap.size w w' := by
  by_cases h : j = i + 1
  · have hi : i < word.length := by omega
    have h8 : wd word i < 256 := hw8 _ (by
      unfold wd
      rw [List.getD_eq_getElem?_getD, List.getElem?_eq_getElem hi]
      exact List.getElem_mem hi)
    have e : (j == i + 1 && cHas p q (word.getD i 0)) = cHas p q (wd word i) := by rw [beq_iff_eq.2 h, Bool.true_and]; rfl
    rw [e]
    have HL := Lib.hid fun X => kitLetter_any (wd word i) p q X hp hq h8
    have hin : (i : Int) < (n : Int) := by omega
    have hd : ((j : Int) == (i : Int) + 1) = true := by rw [beq_iff_eq]; omega
    have HBx : Hid (Bx5 (w.alloc (.cells #[.int .u8 3, .int .u8 p, .int .u8 q, .int .i64 a, .int .i64 b] 32)) w.heap.size ⟨3, p, q, a, b⟩) := Bx5.new w ⟨3, p, q, a, b⟩
    have HBl : Hid (Below w.heap.size w (w.alloc (.cells #[.int .u8 3, .int .u8 p, .int .u8 q, .int .i64 a, .int .i64 b] 32))) := bal (Below.refl _ _) _
    replace hB := hB.below HBl.out
    go_enter Try.func70, Try.ntmps70
    go_upto_region 1 with fail
    generalize w.alloc (.cells #[.int .u8 3, .int .u8 p, .int .u8 q, .int .i64 a, .int .i64 b] 32) = W at *
    obtain ⟨bp, hbp⟩ : ∃ bp, bp = w.heap.size := ⟨_, rfl⟩
    rw [← hbp] at HBx ⊢
    have d0 : W.cell? ⟨bp, 0, none⟩ = some (.int .u8 3) := HBx.out.cells.1
    have d1 : W.cell? ⟨bp, 1, none⟩ = some (.int .u8 p) := HBx.out.cells.2.1
    have d2 : W.cell? ⟨bp, 2, none⟩ = some (.int .u8 q) := HBx.out.cells.2.2.1
    have d3 : W.cell? ⟨bp, 3, none⟩ = some (.int .i64 a) := HBx.out.cells.2.2.2.1
    have d4 : W.cell? ⟨bp, 4, none⟩ = some (.int .i64 b) := HBx.out.cells.2.2.2.2
    have HBP := Lib.hid hbp
    clear hbp
    obtain ⟨ad, rfl, hc⟩ := hB.at_ hi
    clear hB hw8 e h hlen hi
    generalize hcr : cHas p q (wd word i) = r at *
    have HU := Lib.hid hcr
    clear hcr
    generalize hwx : wd word i = x at *
    have HWX := Lib.hid hwx
    clear hwx
    go_wp2
    go_quiet (first | (go_at_call 73; exact ((HL.out _).mono (by rintro e w' ⟨rfl, rfl⟩; exact ⟨rfl, _, rfl⟩))))
    go_wp2
    go_ret
    exact ⟨ret_bool (by rw [HWX.out]; exact HU.out.symm), stepB HBl.out (Ap.drewN_below _ _)⟩
  · have e : (j == i + 1 && cHas p q (word.getD i 0)) = false := by rw [beq_eq_false_iff_ne.2 h, Bool.false_and]
    rw [e]
    have hd : ((j : Int) == (i : Int) + 1) = false := by rw [beq_eq_false_iff_ne]; omega
    clear hB hw8 e
    have HBx : Hid (Bx5 (w.alloc (.cells #[.int .u8 3, .int .u8 p, .int .u8 q, .int .i64 a, .int .i64 b] 32)) w.heap.size ⟨3, p, q, a, b⟩) := Bx5.new w ⟨3, p, q, a, b⟩
    have HBl : Hid (Below w.heap.size w (w.alloc (.cells #[.int .u8 3, .int .u8 p, .int .u8 q, .int .i64 a, .int .i64 b] 32))) := bal (Below.refl _ _) _
    go_enter Try.func70, Try.ntmps70
    go_upto_region 1 with fail
    generalize w.alloc (.cells #[.int .u8 3, .int .u8 p, .int .u8 q, .int .i64 a, .int .i64 b] 32) = W at *
    obtain ⟨bp, hbp⟩ : ∃ bp, bp = w.heap.size := ⟨_, rfl⟩
    rw [← hbp] at HBx ⊢
    have d0 : W.cell? ⟨bp, 0, none⟩ = some (.int .u8 3) := HBx.out.cells.1
    have d1 : W.cell? ⟨bp, 1, none⟩ = some (.int .u8 p) := HBx.out.cells.2.1
    have d2 : W.cell? ⟨bp, 2, none⟩ = some (.int .u8 q) := HBx.out.cells.2.2.1
    have d3 : W.cell? ⟨bp, 3, none⟩ = some (.int .i64 a) := HBx.out.cells.2.2.2.1
    have d4 : W.cell? ⟨bp, 4, none⟩ = some (.int .i64 b) := HBx.out.cells.2.2.2.2
    have HBP := Lib.hid hbp
    clear hbp
    go_wp2
    go_quiet (fail)
    go_wp2
    go_ret
    exact ⟨rfl, stepB HBl.out (Ap.drewN_below _ _)⟩
variable (ma mb : Nat) (ga gb go : Nat → Nat → Bool) (hA : TabAt w ab a L n ma ga)
include hA
set_option maxHeartbeats 4000000 in
theorem m5_not :
    Calls Try.prog 70 #[.agg #[.int .u8 7, .int .u8 p, .int .u8 q, .int .i64 a, .int .i64 b], .slice (some ⟨ab, 0, none⟩) L L, .slice (some ⟨mo, 0, none⟩) (n + 1) (n + 1), .slice A n c, .int .i64 i, .int .i64 j] w fun e w' => e = .returned (.bool (!(ga i j))) ∧ Below w.heap.size w w' := by
  have HBx : Hid (Bx5 (w.alloc (.cells #[.int .u8 7, .int .u8 p, .int .u8 q, .int .i64 a, .int .i64 b] 32)) w.heap.size ⟨7, p, q, a, b⟩) := Bx5.new w ⟨7, p, q, a, b⟩
  have HBl : Hid (Below w.heap.size w (w.alloc (.cells #[.int .u8 7, .int .u8 p, .int .u8 q, .int .i64 a, .int .i64 b] 32))) := bal (Below.refl _ _) _
  replace hA := hA.below HBl.out
  go_enter Try.func70, Try.ntmps70
  go_upto_region 1 with fail
  generalize w.alloc (.cells #[.int .u8 7, .int .u8 p, .int .u8 q, .int .i64 a, .int .i64 b] 32) = W at *
  obtain ⟨bp, hbp⟩ : ∃ bp, bp = w.heap.size := ⟨_, rfl⟩
  rw [← hbp] at HBx ⊢
  have d0 : W.cell? ⟨bp, 0, none⟩ = some (.int .u8 7) := HBx.out.cells.1
  have d1 : W.cell? ⟨bp, 1, none⟩ = some (.int .u8 p) := HBx.out.cells.2.1
  have d2 : W.cell? ⟨bp, 2, none⟩ = some (.int .u8 q) := HBx.out.cells.2.2.1
  have d3 : W.cell? ⟨bp, 3, none⟩ = some (.int .i64 a) := HBx.out.cells.2.2.2.1
  have d4 : W.cell? ⟨bp, 4, none⟩ = some (.int .i64 b) := HBx.out.cells.2.2.2.2
  have HBP := Lib.hid hbp
  clear hbp
  have haL : (a : Int) < (L : Int) := by have := hA.lt; omega
  have a0 := hA.c
  have hM := hA.m
  unfold matV at a0
  clear hA
  have bi : (i : Int) < (n : Int) + 1 := by omega
  have bj : (j : Int) < (n : Int) + 1 := by omega
  have x1 := cell_of hM.o (i := i) (by omega)
  have x2 := cell_of (hM.r i (by omega)) (i := j) (by omega)
  unfold rowV at x1
  unfold boolV at x2
  clear hM
  generalize hu : ga i j = u at *
  have HU := Lib.hid hu
  clear hu
  go_wp2
  go_ret
  exact ⟨ret_bool (by rw [HU.out]), HBl.out⟩
set_option maxHeartbeats 4000000 in
theorem m5_alt (hB : TabAt w ab b L n mb gb):
    Calls Try.prog 70 #[.agg #[.int .u8 5, .int .u8 p, .int .u8 q, .int .i64 a, .int .i64 b], .slice (some ⟨ab, 0, none⟩) L L, .slice (some ⟨mo, 0, none⟩) (n + 1) (n + 1), .slice A n c, .int .i64 i, .int .i64 j] w fun e w' => e = .returned (.bool (ga i j || gb i j)) ∧ Below w.heap.size w w' := by
  have HBx : Hid (Bx5 (w.alloc (.cells #[.int .u8 5, .int .u8 p, .int .u8 q, .int .i64 a, .int .i64 b] 32)) w.heap.size ⟨5, p, q, a, b⟩) := Bx5.new w ⟨5, p, q, a, b⟩
  have HBl : Hid (Below w.heap.size w (w.alloc (.cells #[.int .u8 5, .int .u8 p, .int .u8 q, .int .i64 a, .int .i64 b] 32))) := bal (Below.refl _ _) _
  replace hA := hA.below HBl.out
  replace hB := hB.below HBl.out
  go_enter Try.func70, Try.ntmps70
  go_upto_region 1 with fail
  generalize w.alloc (.cells #[.int .u8 5, .int .u8 p, .int .u8 q, .int .i64 a, .int .i64 b] 32) = W at *
  obtain ⟨bp, hbp⟩ : ∃ bp, bp = w.heap.size := ⟨_, rfl⟩
  rw [← hbp] at HBx ⊢
  have d0 : W.cell? ⟨bp, 0, none⟩ = some (.int .u8 5) := HBx.out.cells.1
  have d1 : W.cell? ⟨bp, 1, none⟩ = some (.int .u8 p) := HBx.out.cells.2.1
  have d2 : W.cell? ⟨bp, 2, none⟩ = some (.int .u8 q) := HBx.out.cells.2.2.1
  have d3 : W.cell? ⟨bp, 3, none⟩ = some (.int .i64 a) := HBx.out.cells.2.2.2.1
  have d4 : W.cell? ⟨bp, 4, none⟩ = some (.int .i64 b) := HBx.out.cells.2.2.2.2
  have HBP := Lib.hid hbp
  clear hbp
  have haL : (a : Int) < (L : Int) := by have := hA.lt; omega
  have a0 := hA.c
  have hM := hA.m
  unfold matV at a0
  clear hA
  have hbL : (b : Int) < (L : Int) := by have := hB.lt; omega
  have b0 := hB.c
  have hN := hB.m
  unfold matV at b0
  clear hB
  have bi : (i : Int) < (n : Int) + 1 := by omega
  have bj : (j : Int) < (n : Int) + 1 := by omega
  have x1 := cell_of hM.o (i := i) (by omega)
  have x2 := cell_of (hM.r i (by omega)) (i := j) (by omega)
  unfold rowV at x1
  unfold boolV at x2
  have y1 := cell_of hN.o (i := i) (by omega)
  have y2 := cell_of (hN.r i (by omega)) (i := j) (by omega)
  unfold rowV at y1
  unfold boolV at y2
  clear hM hN
  generalize hu : ga i j = u at *
  generalize hv : gb i j = v at *
  have HU := Lib.hid hu
  have HV := Lib.hid hv
  clear hu hv
  cases u <;> cases v
  all_goals
    go_wp2
    go_ret
    exact ⟨ret_bool (by rw [HU.out, HV.out]; rfl), HBl.out⟩
set_option maxHeartbeats 4000000 in
theorem m5_and (hB : TabAt w ab b L n mb gb):
    Calls Try.prog 70 #[.agg #[.int .u8 6, .int .u8 p, .int .u8 q, .int .i64 a, .int .i64 b], .slice (some ⟨ab, 0, none⟩) L L, .slice (some ⟨mo, 0, none⟩) (n + 1) (n + 1), .slice A n c, .int .i64 i, .int .i64 j] w fun e w' => e = .returned (.bool (ga i j && gb i j)) ∧ Below w.heap.size w w' := by
  have HBx : Hid (Bx5 (w.alloc (.cells #[.int .u8 6, .int .u8 p, .int .u8 q, .int .i64 a, .int .i64 b] 32)) w.heap.size ⟨6, p, q, a, b⟩) := Bx5.new w ⟨6, p, q, a, b⟩
  have HBl : Hid (Below w.heap.size w (w.alloc (.cells #[.int .u8 6, .int .u8 p, .int .u8 q, .int .i64 a, .int .i64 b] 32))) := bal (Below.refl _ _) _
  replace hA := hA.below HBl.out
  replace hB := hB.below HBl.out
  go_enter Try.func70, Try.ntmps70
  go_upto_region 1 with fail
  generalize w.alloc (.cells #[.int .u8 6, .int .u8 p, .int .u8 q, .int .i64 a, .int .i64 b] 32) = W at *
  obtain ⟨bp, hbp⟩ : ∃ bp, bp = w.heap.size := ⟨_, rfl⟩
  rw [← hbp] at HBx ⊢
  have d0 : W.cell? ⟨bp, 0, none⟩ = some (.int .u8 6) := HBx.out.cells.1
  have d1 : W.cell? ⟨bp, 1, none⟩ = some (.int .u8 p) := HBx.out.cells.2.1
  have d2 : W.cell? ⟨bp, 2, none⟩ = some (.int .u8 q) := HBx.out.cells.2.2.1
  have d3 : W.cell? ⟨bp, 3, none⟩ = some (.int .i64 a) := HBx.out.cells.2.2.2.1
  have d4 : W.cell? ⟨bp, 4, none⟩ = some (.int .i64 b) := HBx.out.cells.2.2.2.2
  have HBP := Lib.hid hbp
  clear hbp
  have haL : (a : Int) < (L : Int) := by have := hA.lt; omega
  have a0 := hA.c
  have hM := hA.m
  unfold matV at a0
  clear hA
  have hbL : (b : Int) < (L : Int) := by have := hB.lt; omega
  have b0 := hB.c
  have hN := hB.m
  unfold matV at b0
  clear hB
  have bi : (i : Int) < (n : Int) + 1 := by omega
  have bj : (j : Int) < (n : Int) + 1 := by omega
  have x1 := cell_of hM.o (i := i) (by omega)
  have x2 := cell_of (hM.r i (by omega)) (i := j) (by omega)
  unfold rowV at x1
  unfold boolV at x2
  have y1 := cell_of hN.o (i := i) (by omega)
  have y2 := cell_of (hN.r i (by omega)) (i := j) (by omega)
  unfold rowV at y1
  unfold boolV at y2
  clear hM hN
  generalize hu : ga i j = u at *
  generalize hv : gb i j = v at *
  have HU := Lib.hid hu
  have HV := Lib.hid hv
  clear hu hv
  cases u <;> cases v
  all_goals
    go_wp2
    go_ret
    exact ⟨ret_bool (by rw [HU.out, HV.out]; rfl), HBl.out⟩
set_option maxHeartbeats 4000000 in
theorem m5_cat (hB : TabAt w ab b L n mb gb):
    Calls Try.prog 70 #[.agg #[.int .u8 4, .int .u8 p, .int .u8 q, .int .i64 a, .int .i64 b], .slice (some ⟨ab, 0, none⟩) L L, .slice (some ⟨mo, 0, none⟩) (n + 1) (n + 1), .slice A n c, .int .i64 i, .int .i64 j] w fun e w' => e = .returned (.bool (rg i j fun k => ga i k && gb k j)) ∧ Below w.heap.size w w' := by
  have HEND : Hid ((∀ y, i ≤ y → y ≤ j → (ga i y && gb y j) = false) → (rg i j fun k => ga i k && gb k j) = (false)) := fun h => by
    rw [← Bool.not_eq_true, rg_iff]
    rintro ⟨y, h1, h2, h3⟩
    rw [h y h1 h2] at h3
    cases h3
  have HBx : Hid (Bx5 (w.alloc (.cells #[.int .u8 4, .int .u8 p, .int .u8 q, .int .i64 a, .int .i64 b] 32)) w.heap.size ⟨4, p, q, a, b⟩) := Bx5.new w ⟨4, p, q, a, b⟩
  have HBl : Hid (Below w.heap.size w (w.alloc (.cells #[.int .u8 4, .int .u8 p, .int .u8 q, .int .i64 a, .int .i64 b] 32))) := bal (Below.refl _ _) _
  replace hA := hA.below HBl.out
  replace hB := hB.below HBl.out
  go_enter Try.func70, Try.ntmps70
  go_upto_region 1 with fail
  generalize w.alloc (.cells #[.int .u8 4, .int .u8 p, .int .u8 q, .int .i64 a, .int .i64 b] 32) = W at *
  obtain ⟨bp, hbp⟩ : ∃ bp, bp = w.heap.size := ⟨_, rfl⟩
  rw [← hbp] at HBx ⊢
  have d0 : W.cell? ⟨bp, 0, none⟩ = some (.int .u8 4) := HBx.out.cells.1
  have d1 : W.cell? ⟨bp, 1, none⟩ = some (.int .u8 p) := HBx.out.cells.2.1
  have d2 : W.cell? ⟨bp, 2, none⟩ = some (.int .u8 q) := HBx.out.cells.2.2.1
  have d3 : W.cell? ⟨bp, 3, none⟩ = some (.int .i64 a) := HBx.out.cells.2.2.2.1
  have d4 : W.cell? ⟨bp, 4, none⟩ = some (.int .i64 b) := HBx.out.cells.2.2.2.2
  have HBP := Lib.hid hbp
  clear hbp
  have haL : (a : Int) < (L : Int) := by have := hA.lt; omega
  have a0 := hA.c
  have hM := hA.m
  unfold matV at a0
  clear hA
  have hbL : (b : Int) < (L : Int) := by have := hB.lt; omega
  have b0 := hB.c
  have hN := hB.m
  unfold matV at b0
  clear hB
  have bi : (i : Int) < (n : Int) + 1 := by omega
  have bj : (j : Int) < (n : Int) + 1 := by omega
  go_wp2
  go_loopw [13] (fun k wr => ∃ x q : Nat, i ≤ x ∧ x ≤ j + 1 ∧ k = .int .i64 x ∧ Hid (∀ y, i ≤ y → y < x → (ga i y && gb y j) = false) ∧ wr = W.drewN q) (fun k _ => j + 1 - (intOf k).toNat)
  case atStart => exact ⟨i, 0, Nat.le_refl _, by omega, by go_num, fun y h1 h2 => absurd h1 (by omega), rfl⟩
  case round =>
    obtain ⟨x, q, hx1, hx2, rfl, H, rfl⟩ := hrel
    by_cases hlt : x ≤ j
    · have hd : decide ((x : Int) ≤ (j : Int)) = true := decide_eq_true (by omega)
      have bx : (x : Int) < (n : Int) + 1 := by omega
      have x1 := cell_of hM.o (i := i) (by omega)
      have x2 := cell_of (hM.r i (by omega)) (i := x) (by omega)
      unfold rowV at x1
      unfold boolV at x2
      have y1 := cell_of hN.o (i := x) (by omega)
      have y2 := cell_of (hN.r x (by omega)) (i := j) (by omega)
      unfold rowV at y1
      unfold boolV at y2
      have HF : Hid ((ga i x && gb x j) = true → (rg i j fun k => ga i k && gb k j) = true) := fun h => by rw [rg_iff]; exact ⟨x, by omega, by omega, h⟩
      have HN : Hid ((ga i x && gb x j) = false → ∀ y, i ≤ y → y < x + 1 → (ga i y && gb y j) = false) := fun h y h1 h2 => by
        rcases Nat.lt_or_eq_of_le (Nat.le_of_lt_succ h2) with h3 | rfl
        · exact H.out y h1 h3
        · exact h
      clear H HEND hM hN
      generalize ga i x = u0 at HF HN x2
      generalize gb x j = u1 at HF HN y2
      cases u0 <;> cases u1
      · have HR := Lib.hid (HN.out rfl)
        clear HN HF
        go_wp2
        go_roundw
        case rel => exact ⟨x + 1, _, by omega, by omega, by go_num, HR, rfl⟩
        case measure => simp [intOf]; omega
      · have HR := Lib.hid (HN.out rfl)
        clear HN HF
        go_wp2
        go_roundw
        case rel => exact ⟨x + 1, _, by omega, by omega, by go_num, HR, rfl⟩
        case measure => simp [intOf]; omega
      · have HR := Lib.hid (HN.out rfl)
        clear HN HF
        go_wp2
        go_roundw
        case rel => exact ⟨x + 1, _, by omega, by omega, by go_num, HR, rfl⟩
        case measure => simp [intOf]; omega
      · have HR := Lib.hid (HF.out rfl)
        clear HN HF
        go_wp2
        go_ret
        exact ⟨ret_bool HR.out.symm, stepB HBl.out (Ap.drewN_below _ _)⟩
    · have hd : decide ((x : Int) ≤ (j : Int)) = false := decide_eq_false (by omega)
      have HR := Lib.hid (HEND.out fun y h1 h2 => H.out y h1 (by omega))
      clear H HEND
      go_wp2
      go_ret
      exact ⟨ret_bool HR.out.symm, stepB HBl.out (Ap.drewN_below _ _)⟩
set_option maxHeartbeats 4000000 in
theorem m5_star (hO : MatAt w mo n go):
    Calls Try.prog 70 #[.agg #[.int .u8 8, .int .u8 p, .int .u8 q, .int .i64 a, .int .i64 b], .slice (some ⟨ab, 0, none⟩) L L, .slice (some ⟨mo, 0, none⟩) (n + 1) (n + 1), .slice A n c, .int .i64 i, .int .i64 j] w fun e w' => e = .returned (.bool (i == j || rg (i + 1) j fun k => ga i k && go k j)) ∧ Below w.heap.size w w' := by
  have HEND : Hid ((∀ y, i + 1 ≤ y → y ≤ j → (ga i y && go y j) = false) → (i == j || rg (i + 1) j fun k => ga i k && go k j) = (i == j)) := fun h => by
    have : (rg (i + 1) j fun k => ga i k && go k j) = false := by
      rw [← Bool.not_eq_true, rg_iff]
      rintro ⟨y, h1, h2, h3⟩
      rw [h y h1 h2] at h3
      cases h3
    rw [this, Bool.or_false]
  have HBx : Hid (Bx5 (w.alloc (.cells #[.int .u8 8, .int .u8 p, .int .u8 q, .int .i64 a, .int .i64 b] 32)) w.heap.size ⟨8, p, q, a, b⟩) := Bx5.new w ⟨8, p, q, a, b⟩
  have HBl : Hid (Below w.heap.size w (w.alloc (.cells #[.int .u8 8, .int .u8 p, .int .u8 q, .int .i64 a, .int .i64 b] 32))) := bal (Below.refl _ _) _
  replace hA := hA.below HBl.out
  replace hO := hO.below HBl.out
  go_enter Try.func70, Try.ntmps70
  go_upto_region 1 with fail
  generalize w.alloc (.cells #[.int .u8 8, .int .u8 p, .int .u8 q, .int .i64 a, .int .i64 b] 32) = W at *
  obtain ⟨bp, hbp⟩ : ∃ bp, bp = w.heap.size := ⟨_, rfl⟩
  rw [← hbp] at HBx ⊢
  have d0 : W.cell? ⟨bp, 0, none⟩ = some (.int .u8 8) := HBx.out.cells.1
  have d1 : W.cell? ⟨bp, 1, none⟩ = some (.int .u8 p) := HBx.out.cells.2.1
  have d2 : W.cell? ⟨bp, 2, none⟩ = some (.int .u8 q) := HBx.out.cells.2.2.1
  have d3 : W.cell? ⟨bp, 3, none⟩ = some (.int .i64 a) := HBx.out.cells.2.2.2.1
  have d4 : W.cell? ⟨bp, 4, none⟩ = some (.int .i64 b) := HBx.out.cells.2.2.2.2
  have HBP := Lib.hid hbp
  clear hbp
  have haL : (a : Int) < (L : Int) := by have := hA.lt; omega
  have a0 := hA.c
  have hM := hA.m
  unfold matV at a0
  clear hA
  have bi : (i : Int) < (n : Int) + 1 := by omega
  have bj : (j : Int) < (n : Int) + 1 := by omega
  go_wp2
  go_loopw [14] (fun k wr => ∃ x q : Nat, i + 1 ≤ x ∧ x ≤ j + 1 ∧ k = .int .i64 x ∧ Hid (∀ y, i + 1 ≤ y → y < x → (ga i y && go y j) = false) ∧ wr = W.drewN q) (fun k _ => j + 1 - (intOf k).toNat)
  case atStart => exact ⟨i + 1, 0, Nat.le_refl _, by omega, by go_num, fun y h1 h2 => absurd h1 (by omega), rfl⟩
  case round =>
    obtain ⟨x, q, hx1, hx2, rfl, H, rfl⟩ := hrel
    by_cases hlt : x ≤ j
    · have hd : decide ((x : Int) ≤ (j : Int)) = true := decide_eq_true (by omega)
      have bx : (x : Int) < (n : Int) + 1 := by omega
      have x1 := cell_of hM.o (i := i) (by omega)
      have x2 := cell_of (hM.r i (by omega)) (i := x) (by omega)
      unfold rowV at x1
      unfold boolV at x2
      have y1 := cell_of hO.o (i := x) (by omega)
      have y2 := cell_of (hO.r x (by omega)) (i := j) (by omega)
      unfold rowV at y1
      unfold boolV at y2
      have HF : Hid ((ga i x && go x j) = true → (i == j || rg (i + 1) j fun k => ga i k && go k j) = true) := fun h => by rw [Bool.or_eq_true, rg_iff]; exact .inr ⟨x, by omega, by omega, h⟩
      have HN : Hid ((ga i x && go x j) = false → ∀ y, i + 1 ≤ y → y < x + 1 → (ga i y && go y j) = false) := fun h y h1 h2 => by
        rcases Nat.lt_or_eq_of_le (Nat.le_of_lt_succ h2) with h3 | rfl
        · exact H.out y h1 h3
        · exact h
      clear H HEND hM hO
      generalize ga i x = u0 at HF HN x2
      generalize go x j = u1 at HF HN y2
      cases u0 <;> cases u1
      · have HR := Lib.hid (HN.out rfl)
        clear HN HF
        go_wp2
        go_roundw
        case rel => exact ⟨x + 1, _, by omega, by omega, by go_num, HR, rfl⟩
        case measure => simp [intOf]; omega
      · have HR := Lib.hid (HN.out rfl)
        clear HN HF
        go_wp2
        go_roundw
        case rel => exact ⟨x + 1, _, by omega, by omega, by go_num, HR, rfl⟩
        case measure => simp [intOf]; omega
      · have HR := Lib.hid (HN.out rfl)
        clear HN HF
        go_wp2
        go_roundw
        case rel => exact ⟨x + 1, _, by omega, by omega, by go_num, HR, rfl⟩
        case measure => simp [intOf]; omega
      · have HR := Lib.hid (HF.out rfl)
        clear HN HF
        go_wp2
        go_ret
        exact ⟨ret_bool HR.out.symm, stepB HBl.out (Ap.drewN_below _ _)⟩
    · have hd : decide ((x : Int) ≤ (j : Int)) = false := decide_eq_false (by omega)
      have HR := Lib.hid (HEND.out fun y h1 h2 => H.out y h1 (by omega))
      clear H HEND
      go_wp2
      go_ret
      exact ⟨ret_bool ((cast_beq2 i j).trans HR.out.symm), stepB HBl.out (Ap.drewN_below _ _)⟩
omit hij hj in
set_option maxHeartbeats 4000000 in
theorem m5_ahead (hi : i ≤ n) :
    Calls Try.prog 70 #[.agg #[.int .u8 9, .int .u8 p, .int .u8 q, .int .i64 a, .int .i64 b], .slice (some ⟨ab, 0, none⟩) L L, .slice (some ⟨mo, 0, none⟩) (n + 1) (n + 1), .slice A n c, .int .i64 i, .int .i64 i] w fun e w' => e = .returned (.bool (rg i n fun k => ga i k)) ∧ Below w.heap.size w w' := by
  have HEND : Hid ((∀ y, i ≤ y → y ≤ n → (ga i y) = false) → (rg i n fun k => ga i k) = (false)) := fun h => by
    rw [← Bool.not_eq_true, rg_iff]
    rintro ⟨y, h1, h2, h3⟩
    rw [h y h1 h2] at h3
    cases h3
  have HBx : Hid (Bx5 (w.alloc (.cells #[.int .u8 9, .int .u8 p, .int .u8 q, .int .i64 a, .int .i64 b] 32)) w.heap.size ⟨9, p, q, a, b⟩) := Bx5.new w ⟨9, p, q, a, b⟩
  have HBl : Hid (Below w.heap.size w (w.alloc (.cells #[.int .u8 9, .int .u8 p, .int .u8 q, .int .i64 a, .int .i64 b] 32))) := bal (Below.refl _ _) _
  replace hA := hA.below HBl.out
  go_enter Try.func70, Try.ntmps70
  go_upto_region 1 with fail
  generalize w.alloc (.cells #[.int .u8 9, .int .u8 p, .int .u8 q, .int .i64 a, .int .i64 b] 32) = W at *
  obtain ⟨bp, hbp⟩ : ∃ bp, bp = w.heap.size := ⟨_, rfl⟩
  rw [← hbp] at HBx ⊢
  have d0 : W.cell? ⟨bp, 0, none⟩ = some (.int .u8 9) := HBx.out.cells.1
  have d1 : W.cell? ⟨bp, 1, none⟩ = some (.int .u8 p) := HBx.out.cells.2.1
  have d2 : W.cell? ⟨bp, 2, none⟩ = some (.int .u8 q) := HBx.out.cells.2.2.1
  have d3 : W.cell? ⟨bp, 3, none⟩ = some (.int .i64 a) := HBx.out.cells.2.2.2.1
  have d4 : W.cell? ⟨bp, 4, none⟩ = some (.int .i64 b) := HBx.out.cells.2.2.2.2
  have HBP := Lib.hid hbp
  clear hbp
  have haL : (a : Int) < (L : Int) := by have := hA.lt; omega
  have a0 := hA.c
  have hM := hA.m
  unfold matV at a0
  clear hA
  have bi : (i : Int) < (n : Int) + 1 := by omega
  go_wp2
  go_loopw [15] (fun k wr => ∃ x q : Nat, i ≤ x ∧ x ≤ n + 1 ∧ k = .int .i64 x ∧ Hid (∀ y, i ≤ y → y < x → (ga i y) = false) ∧ wr = W.drewN q) (fun k _ => n + 1 - (intOf k).toNat)
  case atStart => exact ⟨i, 0, Nat.le_refl _, by omega, by go_num, fun y h1 h2 => absurd h1 (by omega), rfl⟩
  case round =>
    obtain ⟨x, q, hx1, hx2, rfl, H, rfl⟩ := hrel
    by_cases hlt : x ≤ n
    · have hd : decide ((x : Int) ≤ (n : Int)) = true := decide_eq_true (by omega)
      have bx : (x : Int) < (n : Int) + 1 := by omega
      have x1 := cell_of hM.o (i := i) (by omega)
      have x2 := cell_of (hM.r i (by omega)) (i := x) (by omega)
      unfold rowV at x1
      unfold boolV at x2
      have HF : Hid ((ga i x) = true → (rg i n fun k => ga i k) = true) := fun h => by rw [rg_iff]; exact ⟨x, by omega, by omega, h⟩
      have HN : Hid ((ga i x) = false → ∀ y, i ≤ y → y < x + 1 → (ga i y) = false) := fun h y h1 h2 => by
        rcases Nat.lt_or_eq_of_le (Nat.le_of_lt_succ h2) with h3 | rfl
        · exact H.out y h1 h3
        · exact h
      clear H HEND hM
      generalize ga i x = u0 at HF HN x2
      cases u0
      · have HR := Lib.hid (HN.out rfl)
        clear HN HF
        go_wp2
        go_roundw
        case rel => exact ⟨x + 1, _, by omega, by omega, by go_num, HR, rfl⟩
        case measure => simp [intOf]; omega
      · have HR := Lib.hid (HF.out rfl)
        clear HN HF
        go_wp2
        go_ret
        exact ⟨ret_bool HR.out.symm, stepB HBl.out (Ap.drewN_below _ _)⟩
    · have hd : decide ((x : Int) ≤ (n : Int)) = false := decide_eq_false (by omega)
      have HR := Lib.hid (HEND.out fun y h1 h2 => H.out y h1 (by omega))
      clear H HEND
      go_wp2
      go_ret
      exact ⟨ret_bool HR.out.symm, stepB HBl.out (Ap.drewN_below _ _)⟩
omit hij hj in
set_option maxHeartbeats 4000000 in
theorem m5_behind (hi : i ≤ n) :
    Calls Try.prog 70 #[.agg #[.int .u8 10, .int .u8 p, .int .u8 q, .int .i64 a, .int .i64 b], .slice (some ⟨ab, 0, none⟩) L L, .slice (some ⟨mo, 0, none⟩) (n + 1) (n + 1), .slice A n c, .int .i64 i, .int .i64 i] w fun e w' => e = .returned (.bool (rg 0 i fun k => ga k i)) ∧ Below w.heap.size w w' := by
  have HEND : Hid ((∀ y, 0 ≤ y → y ≤ i → (ga y i) = false) → (rg 0 i fun k => ga k i) = (false)) := fun h => by
    rw [← Bool.not_eq_true, rg_iff]
    rintro ⟨y, h1, h2, h3⟩
    rw [h y h1 h2] at h3
    cases h3
  have HBx : Hid (Bx5 (w.alloc (.cells #[.int .u8 10, .int .u8 p, .int .u8 q, .int .i64 a, .int .i64 b] 32)) w.heap.size ⟨10, p, q, a, b⟩) := Bx5.new w ⟨10, p, q, a, b⟩
  have HBl : Hid (Below w.heap.size w (w.alloc (.cells #[.int .u8 10, .int .u8 p, .int .u8 q, .int .i64 a, .int .i64 b] 32))) := bal (Below.refl _ _) _
  replace hA := hA.below HBl.out
  go_enter Try.func70, Try.ntmps70
  go_upto_region 1 with fail
  generalize w.alloc (.cells #[.int .u8 10, .int .u8 p, .int .u8 q, .int .i64 a, .int .i64 b] 32) = W at *
  obtain ⟨bp, hbp⟩ : ∃ bp, bp = w.heap.size := ⟨_, rfl⟩
  rw [← hbp] at HBx ⊢
  have d0 : W.cell? ⟨bp, 0, none⟩ = some (.int .u8 10) := HBx.out.cells.1
  have d1 : W.cell? ⟨bp, 1, none⟩ = some (.int .u8 p) := HBx.out.cells.2.1
  have d2 : W.cell? ⟨bp, 2, none⟩ = some (.int .u8 q) := HBx.out.cells.2.2.1
  have d3 : W.cell? ⟨bp, 3, none⟩ = some (.int .i64 a) := HBx.out.cells.2.2.2.1
  have d4 : W.cell? ⟨bp, 4, none⟩ = some (.int .i64 b) := HBx.out.cells.2.2.2.2
  have HBP := Lib.hid hbp
  clear hbp
  have haL : (a : Int) < (L : Int) := by have := hA.lt; omega
  have a0 := hA.c
  have hM := hA.m
  unfold matV at a0
  clear hA
  have bi : (i : Int) < (n : Int) + 1 := by omega
  go_wp2
  go_loopw [16] (fun k wr => ∃ x q : Nat, 0 ≤ x ∧ x ≤ i + 1 ∧ k = .int .i64 x ∧ Hid (∀ y, 0 ≤ y → y < x → (ga y i) = false) ∧ wr = W.drewN q) (fun k _ => i + 1 - (intOf k).toNat)
  case atStart => exact ⟨0, 0, Nat.le_refl _, by omega, by go_num, fun y h1 h2 => absurd h1 (by omega), rfl⟩
  case round =>
    obtain ⟨x, q, hx1, hx2, rfl, H, rfl⟩ := hrel
    by_cases hlt : x ≤ i
    · have hd : decide ((x : Int) ≤ (i : Int)) = true := decide_eq_true (by omega)
      have bx : (x : Int) < (n : Int) + 1 := by omega
      have x1 := cell_of hM.o (i := x) (by omega)
      have x2 := cell_of (hM.r x (by omega)) (i := i) (by omega)
      unfold rowV at x1
      unfold boolV at x2
      have HF : Hid ((ga x i) = true → (rg 0 i fun k => ga k i) = true) := fun h => by rw [rg_iff]; exact ⟨x, by omega, by omega, h⟩
      have HN : Hid ((ga x i) = false → ∀ y, 0 ≤ y → y < x + 1 → (ga y i) = false) := fun h y h1 h2 => by
        rcases Nat.lt_or_eq_of_le (Nat.le_of_lt_succ h2) with h3 | rfl
        · exact H.out y h1 h3
        · exact h
      clear H HEND hM
      generalize ga x i = u0 at HF HN x2
      cases u0
      · have HR := Lib.hid (HN.out rfl)
        clear HN HF
        go_wp2
        go_roundw
        case rel => exact ⟨x + 1, _, by omega, by omega, by go_num, HR, rfl⟩
        case measure => simp [intOf]; omega
      · have HR := Lib.hid (HF.out rfl)
        clear HN HF
        go_wp2
        go_ret
        exact ⟨ret_bool HR.out.symm, stepB HBl.out (Ap.drewN_below _ _)⟩
    · have hd : decide ((x : Int) ≤ (i : Int)) = false := decide_eq_false (by omega)
      have HR := Lib.hid (HEND.out fun y h1 h2 => H.out y h1 (by omega))
      clear H HEND
      go_wp2
      go_ret
      exact ⟨ret_bool HR.out.symm, stepB HBl.out (Ap.drewN_below _ _)⟩
omit hA in
set_option maxHeartbeats 4000000 in
theorem m5_ahead_off (hne : i ≠ j):
    Calls Try.prog 70 #[.agg #[.int .u8 9, .int .u8 p, .int .u8 q, .int .i64 a, .int .i64 b], .slice (some ⟨ab, 0, none⟩) L L, .slice (some ⟨mo, 0, none⟩) (n + 1) (n + 1), .slice A n c, .int .i64 i, .int .i64 j] w fun e w' => e = .returned (.bool (false)) ∧ Below w.heap.size w w' := by
  have hd : ((i : Int) == (j : Int)) = false := by rw [beq_eq_false_iff_ne]; omega
  have HBx : Hid (Bx5 (w.alloc (.cells #[.int .u8 9, .int .u8 p, .int .u8 q, .int .i64 a, .int .i64 b] 32)) w.heap.size ⟨9, p, q, a, b⟩) := Bx5.new w ⟨9, p, q, a, b⟩
  have HBl : Hid (Below w.heap.size w (w.alloc (.cells #[.int .u8 9, .int .u8 p, .int .u8 q, .int .i64 a, .int .i64 b] 32))) := bal (Below.refl _ _) _
  go_enter Try.func70, Try.ntmps70
  go_upto_region 1 with fail
  generalize w.alloc (.cells #[.int .u8 9, .int .u8 p, .int .u8 q, .int .i64 a, .int .i64 b] 32) = W at *
  obtain ⟨bp, hbp⟩ : ∃ bp, bp = w.heap.size := ⟨_, rfl⟩
  rw [← hbp] at HBx ⊢
  have d0 : W.cell? ⟨bp, 0, none⟩ = some (.int .u8 9) := HBx.out.cells.1
  have d1 : W.cell? ⟨bp, 1, none⟩ = some (.int .u8 p) := HBx.out.cells.2.1
  have d2 : W.cell? ⟨bp, 2, none⟩ = some (.int .u8 q) := HBx.out.cells.2.2.1
  have d3 : W.cell? ⟨bp, 3, none⟩ = some (.int .i64 a) := HBx.out.cells.2.2.2.1
  have d4 : W.cell? ⟨bp, 4, none⟩ = some (.int .i64 b) := HBx.out.cells.2.2.2.2
  have HBP := Lib.hid hbp
  clear hbp
  go_wp2
  go_loopw [15] (fun k wr => ∃ q : Nat, k = .int .i64 (i : Int) ∧ wr = W.drewN q) (fun k _ => 0)
  case atStart => exact ⟨0, by go_num, rfl⟩
  case round =>
    obtain ⟨q, rfl, rfl⟩ := hrel
    have h1 : decide ((i : Int) ≤ (n : Int)) = true := decide_eq_true (by omega)
    go_wp2
    go_ret
    exact ⟨rfl, stepB HBl.out (Ap.drewN_below _ _)⟩
omit hA in
set_option maxHeartbeats 4000000 in
theorem m5_behind_off (hne : i ≠ j):
    Calls Try.prog 70 #[.agg #[.int .u8 10, .int .u8 p, .int .u8 q, .int .i64 a, .int .i64 b], .slice (some ⟨ab, 0, none⟩) L L, .slice (some ⟨mo, 0, none⟩) (n + 1) (n + 1), .slice A n c, .int .i64 i, .int .i64 j] w fun e w' => e = .returned (.bool (false)) ∧ Below w.heap.size w w' := by
  have hd : ((i : Int) == (j : Int)) = false := by rw [beq_eq_false_iff_ne]; omega
  have HBx : Hid (Bx5 (w.alloc (.cells #[.int .u8 10, .int .u8 p, .int .u8 q, .int .i64 a, .int .i64 b] 32)) w.heap.size ⟨10, p, q, a, b⟩) := Bx5.new w ⟨10, p, q, a, b⟩
  have HBl : Hid (Below w.heap.size w (w.alloc (.cells #[.int .u8 10, .int .u8 p, .int .u8 q, .int .i64 a, .int .i64 b] 32))) := bal (Below.refl _ _) _
  go_enter Try.func70, Try.ntmps70
  go_upto_region 1 with fail
  generalize w.alloc (.cells #[.int .u8 10, .int .u8 p, .int .u8 q, .int .i64 a, .int .i64 b] 32) = W at *
  obtain ⟨bp, hbp⟩ : ∃ bp, bp = w.heap.size := ⟨_, rfl⟩
  rw [← hbp] at HBx ⊢
  have d0 : W.cell? ⟨bp, 0, none⟩ = some (.int .u8 10) := HBx.out.cells.1
  have d1 : W.cell? ⟨bp, 1, none⟩ = some (.int .u8 p) := HBx.out.cells.2.1
  have d2 : W.cell? ⟨bp, 2, none⟩ = some (.int .u8 q) := HBx.out.cells.2.2.1
  have d3 : W.cell? ⟨bp, 3, none⟩ = some (.int .i64 a) := HBx.out.cells.2.2.2.1
  have d4 : W.cell? ⟨bp, 4, none⟩ = some (.int .i64 b) := HBx.out.cells.2.2.2.2
  have HBP := Lib.hid hbp
  clear hbp
  go_wp2
  go_loopw [16] (fun k wr => ∃ q : Nat, k = .int .i64 0 ∧ wr = W.drewN q) (fun k _ => 0)
  case atStart => exact ⟨0, by go_num, rfl⟩
  case round =>
    obtain ⟨q, rfl, rfl⟩ := hrel
    have h1 : decide ((0 : Int) ≤ (i : Int)) = true := decide_eq_true (by omega)
    go_wp2
    go_ret
    exact ⟨rfl, stepB HBl.out (Ap.drewN_below _ _)⟩
end
end Go.Proofs.Yteckkbjpeckjmaa.Rx
/- The reference's tables (package sentinelref05): matches at every operator; all tables of a valid expression. -/
namespace Go.Proofs.Yteckkbjpeckjmaa.Rx
open Go Go.RowKit Go.Proofs.Yteckkbjpeckjmaa
set_option linter.unusedVariables false
set_option linter.unusedSimpArgs false
set_option maxRecDepth 100000
theorem matches5_any (op p q a b ab L n c i j mo : Nat) (A : Option Addr) (word : List Nat) (w : World) (ma mb : Nat) (ga gb go : Nat → Nat → Bool) (hij : i ≤ j) (hj : j ≤ n) (hn : n ≤ 1000) (hop : 1 ≤ op ∧ op ≤ 10) (hp : p < 256) (hq : q < 256)
    (hA : 4 ≤ op → TabAt w ab a L n ma ga) (hB : 4 ≤ op → op ≤ 6 → TabAt w ab b L n mb gb) (hO : MatAt w mo n go) (hBy : Bys w A word) (hlen : word.length = n) (hw8 : ∀ x ∈ word, x < 256) :
    Calls Try.prog 70 #[.agg #[.int .u8 op, .int .u8 p, .int .u8 q, .int .i64 a, .int .i64 b], .slice (some ⟨ab, 0, none⟩) L L, .slice (some ⟨mo, 0, none⟩) (n + 1) (n + 1), .slice A n c, .int .i64 i, .int .i64 j] w fun e w' => e = .returned (.bool (stepV op p q word n ga gb go i j)) ∧ Below w.heap.size w w' := by
  rcases (by omega : op = 1 ∨ op = 2 ∨ op = 3 ∨ op = 4 ∨ op = 5 ∨ op = 6 ∨ op = 7 ∨ op = 8 ∨ op = 9 ∨ op = 10) with rfl | rfl | rfl | rfl | rfl | rfl | rfl | rfl | rfl | rfl
  · exact m5_none p q a b ab L n c i j mo A w hij hj hn
  · exact m5_empty p q a b ab L n c i j mo A w hij hj hn
  · exact m5_letter p q a b ab L n c i j mo A word w hij hj hn hp hq hBy hlen hw8
  · exact m5_cat p q a b ab L n c i j mo A w hij hj hn ma mb ga gb (hA (by omega)) (hB (by omega) (by omega))
  · exact m5_alt p q a b ab L n c i j mo A w hij hj hn ma mb ga gb (hA (by omega)) (hB (by omega) (by omega))
  · exact m5_and p q a b ab L n c i j mo A w hij hj hn ma mb ga gb (hA (by omega)) (hB (by omega) (by omega))
  · exact m5_not p q a b ab L n c i j mo A w hij hj hn ma ga (hA (by omega))
  · exact m5_star p q a b ab L n c i j mo A w hij hj hn ma ga go (hA (by omega)) hO
  · by_cases h : i = j
    · subst h
      have e : stepV 9 p q word n ga gb go i i = rg i n fun k => ga i k := by
        show (i == i && rg i n fun k => ga i k) = _
        rw [beq_self_eq_true, Bool.true_and]
      rw [e]
      exact m5_ahead p q a b ab L n c i mo A w hn ma ga (hA (by omega)) hj
    · have e : stepV 9 p q word n ga gb go i j = false := by
        show (i == j && rg i n fun k => ga i k) = _
        rw [beq_eq_false_iff_ne.2 h, Bool.false_and]
      rw [e]
      exact m5_ahead_off p q a b ab L n c i j mo A w hij hj hn h
  · by_cases h : i = j
    · subst h
      have e : stepV 10 p q word n ga gb go i i = rg 0 i fun k => ga k i := by
        show (i == i && rg 0 i fun k => ga k i) = _
        rw [beq_self_eq_true, Bool.true_and]
      rw [e]
      exact m5_behind p q a b ab L n c i mo A w hn ma ga (hA (by omega)) hj
    · have e : stepV 10 p q word n ga gb go i j = false := by
        show (i == j && rg 0 i fun k => ga k i) = _
        rw [beq_eq_false_iff_ne.2 h, Bool.false_and]
      rw [e]
      exact m5_behind_off p q a b ab L n c i j mo A w hij hj hn h
set_option maxHeartbeats 16000000 in
theorem tables5_any (A B : Option Addr) (e : List Pc) (c d : Nat) (word : List Nat) (n : Nat) (T : Nat → Nat → Nat → Bool) (w : World) (hx : PcsAt w A e) (hl : e.length ≤ 1000) (hB : Bys w B word) (hlen : word.length = n) (hn : n ≤ 1000) (hw8 : ∀ x ∈ word, x < 256)
    (hops : ∀ k, k < e.length → (1 ≤ (pc e k).op ∧ (pc e k).op ≤ 10) ∧ 0 ≤ (pc e k).a ∧ 0 ≤ (pc e k).b ∧ (pc e k).a.toNat < e.length ∧ (pc e k).b.toNat < e.length ∧ (4 ≤ (pc e k).op → (pc e k).a.toNat < k) ∧ (4 ≤ (pc e k).op → (pc e k).op ≤ 6 → (pc e k).b.toNat < k))
    (hT : ∀ k, k < e.length → stepT e word n T k) :
    Calls Try.prog 41 #[.slice A e.length c, .slice B n d] w fun r w' => ∃ kb mbs, r = .returned (.slice (some ⟨kb, 0, none⟩) e.length e.length) ∧ KnownR w w' kb n e.length e.length T mbs := by
  have hmk := made_all e.length (by omega)
  have hm1 := made_tab n hn
  have hm2 := made_row n hn
  have HX := Lib.hid fun wr (h : Below w.heap.size w wr) q (hq : q < e.length) => pcs_five hx h hq
  have HStp : Hid (∀ k, k < e.length → ∀ (X : World) (kb : Nat) (mbs : Nat → Nat) (mo dd i : Nat), KnownR w X kb n e.length k T mbs → MatAt X mo n (gD n (T k) dd i) → i + dd ≤ n →
      Calls Try.prog 70 #[.agg #[.int .u8 (pc e k).op, .int .u8 (pc e k).p, .int .u8 (pc e k).q, .int .i64 (pc e k).a, .int .i64 (pc e k).b], .slice (some ⟨kb, 0, none⟩) e.length e.length, .slice (some ⟨mo, 0, none⟩) (n + 1) (n + 1), .slice B n d, .int .i64 i, .int .i64 ((i : Int) + (dd : Int))] X
        fun r w' => r = .returned (.bool (T k i (i + dd))) ∧ Below X.heap.size X w') := by
    intro k hk X kb mbs mo dd i hK hM hid
    obtain ⟨ho, ha0, hb0, haL, hbL, hak, hbk⟩ := hops k hk
    obtain ⟨_, _, _, hok, _⟩ := pcs_five hx (Below.refl _ _) hk
    have hTab : ∀ a, a < e.length → a < k → TabAt X kb a e.length n (mbs a) (half n (T a)) := fun a h1 h2 => ⟨h1, by
      have := cell_of hK.o (i := a) h1
      rwa [if_pos h2] at this, (hK.m a h2).2⟩
    have := matches5_any (pc e k).op (pc e k).p (pc e k).q (pc e k).a.toNat (pc e k).b.toNat kb e.length n d i (i + dd) mo B word X _ _ (half n (T (pc e k).a.toNat)) (half n (T (pc e k).b.toNat)) (gD n (T k) dd i) (by omega) hid hn ho hok.p hok.q
      (fun h4 => hTab _ haL (hak h4)) (fun h4 h6 => hTab _ hbL (hbk h4 h6)) hM (hB.below hK.b) hlen hw8
    rw [step_gD (hT k hk) hid, Int.toNat_of_nonneg ha0, Int.toNat_of_nonneg hb0] at this
    exact this
  obtain ⟨L, hL⟩ : ∃ L, L = e.length := ⟨_, rfl⟩
  have HSt : Hid (KnownR w (w.alloc (.cells (cells L fun _ => .slice none 0 0) 43)) w.heap.size n L 0 T fun _ => 0) :=
    ⟨by rw [World.alloc_heap_new, cells_congr fun i hi => (if_neg (Nat.not_lt_zero i)).symm], fun j hj => absurd hj (by omega), bal (Below.refl _ _) _, Nat.le_refl _⟩
  clear hx hB hops hT
  rw [← hL] at hmk HX HStp hl ⊢
  clear hL hlen hw8
  obtain ⟨kb, hkb⟩ : ∃ kb, kb = w.heap.size := ⟨_, rfl⟩
  rw [← hkb] at HSt
  go_enter Try.func41, Try.ntmps41
  go_wp2
  rw [← hkb]
  have HKB := Lib.hid hkb
  clear hkb
  go_loopw [7, 8, 9, 10, 11] (fun i _ _ _ _ wr => ∃ (k : Nat) (mbs : Nat → Nat), k ≤ L ∧ i = .int .i64 k ∧ KnownR w wr kb n L k T mbs) (fun i _ _ _ _ _ => L - (intOf i).toNat)
  case atStart => exact ⟨0, _, by omega, rfl, HSt.out⟩
  case round =>
    clear HSt
    obtain ⟨k, mbs, hk, rfl, hK⟩ := hrel
    obtain ⟨wq, rfl⟩ : ∃ wq : World, wq = wr := ⟨_, rfl⟩
    by_cases hlt : k < L
    · have HKn := Lib.hid hK
      obtain ⟨ad, rfl, _⟩ := HX.out _ hK.b k hlt
      have hkl : (k : Int) < (L : Int) := by omega
      clear hK
      have HT0 := Lib.hid (MatTo.start wq n)
      obtain ⟨mb, hmb⟩ : ∃ mb, mb = wq.heap.size := ⟨_, rfl⟩
      rw [← hmb] at HT0
      go_upto_region 8 with fail
      rw [← hmb]
      have HMB := Lib.hid hmb
      clear hmb
      go_loopw [9] (fun i X => ∃ r : Nat, r ≤ n + 1 ∧ i = .int .i64 r ∧ MatTo wq X mb n r) (fun i _ => n + 1 - (intOf i).toNat)
      case atStart => exact ⟨0, by omega, rfl, HT0.out⟩
      case round =>
        clear HT0
        obtain ⟨r, hr, rfl, hM⟩ := hrel
        by_cases hrn : r ≤ n
        · have hN := Lib.hid (hM.next hrn)
          have h1 := box_old (o' := .cells (cells (n + 1) fun _ => .bool false) 4) hM.o
          have f1 := free_of h1 r
          have c1 := cell_of h1 (i := r) (by omega)
          have hk2 : (r : Int) < (n : Int) + 1 := by omega
          have hk3 : (r : Int) < ((n + 1 : Nat) : Int) := by omega
          have hmb2 : mb < (wr.alloc (.cells (cells (n + 1) fun _ => .bool false) 4)).heap.size := (Array.getElem?_eq_some_iff.1 h1).1
          clear hM h1
          go_wp2
          go_roundw
          case rel => exact ⟨r + 1, by omega, by go_num, hN.out⟩
          case measure => simp [intOf]; omega
        · obtain rfl : r = n + 1 := by omega
          have hD := hM.done
          have hBl : Hid (Below wq.heap.size wq wr) := by
            have := hM.b
            rwa [HMB.out] at this
          rw [← gD_zero n (T k)] at hD
          have HD := Lib.hid hD
          clear hM hD
          obtain ⟨wz, rfl⟩ : ∃ wz : World, wz = wr := ⟨_, rfl⟩
          go_upto_region 12 with fail
          go_loopw [10, 11] (fun i _ X => ∃ dd : Nat, dd ≤ n + 1 ∧ i = .int .i64 dd ∧ Hid (MatAt X mb n (gD n (T k) dd 0)) ∧ Hid (Below wq.heap.size wq X)) (fun i _ _ => n + 1 - (intOf i).toNat)
          case atStart => exact ⟨0, by omega, rfl, HD, hBl⟩
          case round =>
            clear HD hBl
            obtain ⟨dd, hdd, rfl, HM, HB⟩ := hrel
            obtain ⟨wy, rfl⟩ : ∃ wy : World, wy = wr := ⟨_, rfl⟩
            by_cases hdn : dd ≤ n
            · go_upto_region 15 with fail
              go_loopw [11] (fun i X => ∃ ii : Nat, ii + dd ≤ n + 1 ∧ i = .int .i64 ii ∧ Hid (MatAt X mb n (gD n (T k) dd ii)) ∧ Hid (Below wq.heap.size wq X)) (fun i _ => n + 1 - (intOf i).toNat)
              case atStart => exact ⟨0, by omega, rfl, HM, HB⟩
              case round =>
                clear HM HB
                obtain ⟨ii, hii, rfl, HM, HB⟩ := hrel
                by_cases hin : ii + dd ≤ n
                · obtain ⟨ad2, e2, had, hok, f0, f1, f2, f3, f4⟩ := HX.out _ (stepB HKn.out.b HB.out) k hlt
                  cases e2
                  have c1 := cell_of HM.out.o (i := ii) (by omega)
                  unfold rowV at c1
                  have b1 : (ii : Int) < (n : Int) + 1 := by omega
                  have b2 : (ii : Int) + (dd : Int) < (n : Int) + 1 := by omega
                  have HCl : Hid (∀ X, Below wr.heap.size wr X → _) := fun X (hX : Below wr.heap.size wr X) => HStp.out k hlt X kb mbs mb dd ii (HKn.out.below (stepB HB.out hX)) (HM.out.below hX) hin
                  have HSet : Hid (∀ X, Below wr.heap.size wr X → X.cell? ⟨mb + 1 + ii, ii + dd, none⟩ = some (.bool (gD n (T k) dd ii ii (ii + dd))) ∧ X.frozen? ⟨mb + 1 + ii, ii + dd, none⟩ = false ∧ mb + 1 + ii < X.heap.size ∧ MatAt (X.setCell ⟨mb + 1 + ii, ii + dd, none⟩ (.bool (T k ii (ii + dd)))) mb n (gD n (T k) dd (ii + 1)) ∧ Below wq.heap.size wq (X.setCell ⟨mb + 1 + ii, ii + dd, none⟩ (.bool (T k ii (ii + dd))))) := fun X hX => by
                    have hMX := HM.out.below hX
                    have hr := hMX.r ii (by omega)
                    refine ⟨cell_of hr (i := ii + dd) (by omega), free_of hr _, lt_of_block hr, ?_, (stepB HB.out hX).setCell (by show _ ≤ mb + 1 + ii; have := HMB.out; omega) _⟩
                    have := hMX.set (i := ii) (j := ii + dd) (by omega) hin (T k ii (ii + dd))
                    rwa [gD_put hin] at this
                  clear HM HX HStp
                  have hadr : (ad.add (k * 5)).block < wr.heap.size := by
                    rw [addr_block]
                    have := (stepB HKn.out.b HB.out).size
                    omega
                  have l0 := fun r : Cls (fun X => Below wr.heap.size wr X) => (r.h.cell hadr).trans f0
                  have l1 := fun r : Cls (fun X => Below wr.heap.size wr X) => (r.h.cell (p := ⟨(ad.add (k * 5)).block, (ad.add (k * 5)).off + 1, none⟩) hadr).trans f1
                  have l2 := fun r : Cls (fun X => Below wr.heap.size wr X) => (r.h.cell (p := ⟨(ad.add (k * 5)).block, (ad.add (k * 5)).off + 2, none⟩) hadr).trans f2
                  have l3 := fun r : Cls (fun X => Below wr.heap.size wr X) => (r.h.cell (p := ⟨(ad.add (k * 5)).block, (ad.add (k * 5)).off + 3, none⟩) hadr).trans f3
                  have l4 := fun r : Cls (fun X => Below wr.heap.size wr X) => (r.h.cell (p := ⟨(ad.add (k * 5)).block, (ad.add (k * 5)).off + 4, none⟩) hadr).trans f4
                  have lc := fun r : Cls (fun X => Below wr.heap.size wr X) => (r.h.cell (World.block_lt_of_cell? _ _ c1)).trans c1
                  clear f0 f1 f2 f3 f4 c1
                  generalize pc e k = x at *
                  go_upto_region 17 with fail
                  haveI : Nonempty (Cls fun X => Below wr.heap.size wr X) := ⟨⟨_, Below.refl _ _⟩⟩
                  refine wp_region_cls_tail 20 (fun X => Below wr.heap.size wr X) (by kernel_rfl) (by kernel_rfl) (drew_below wr) ?_
                  simp only [List.take_succ_cons, List.take_zero, List.drop_succ_cons, List.drop_zero]
                  repeat (go_big_quiet_step (first | (go_at_call 70; rename_i r; (with_reducible refine (HCl.out r.w r.h).mono ?_); rintro e w4 ⟨rfl, hb4⟩; exact ⟨rfl, ⟨⟨w4, stepB r.h hb4⟩, rfl⟩⟩)))
                  refine wpQuiet_nil ?_
                  rintro _ ⟨r, rfl⟩
                  obtain ⟨g0, g1, g2, g3, g4⟩ := HSet.out r.w r.h
                  have HM4 := Lib.hid g3
                  have HB4 := Lib.hid g4
                  clear g3 g4 l0 l1 l2 l3 l4 lc HCl HSet
                  generalize r.w = X at *
                  go_wp2
                  go_roundw
                  case rel => exact ⟨ii + 1, by omega, by go_num, HM4, HB4⟩
                  case measure => simp [intOf]; omega
                · have hd : decide ((ii : Int) + (dd : Int) < (n : Int) + 1) = false := decide_eq_false (by omega)
                  have HM2 := HM.out
                  rw [gD_next (show n < ii + dd by omega)] at HM2
                  have HM3 := Lib.hid HM2
                  clear HM HM2
                  go_wp2
                  go_roundw
                  case rel => exact ⟨dd + 1, by omega, by go_num, HM3, HB⟩
                  case measure => simp [intOf]; omega
            · obtain rfl : dd = n + 1 := by omega
              rw [gD_all] at HM
              have hKM := HKn.out.next hlt HB.out HM.out (by have := HMB.out; omega)
              have h1 := (HB.out.block kb (lt_of_block HKn.out.o)).trans HKn.out.o
              have f1 := free_of h1 k
              have c1 := cell_of h1 (i := k) hlt
              have lt1 := lt_of_block h1
              have HKM := Lib.hid hKM
              clear hKM h1 HM HB HKn HX HStp
              unfold matV at HKM
              go_wp2
              go_roundw
              case rel => exact ⟨k + 1, _, by omega, by go_num, HKM.out⟩
              case measure => simp [intOf]; omega
    · obtain rfl : k = L := by omega
      have HD := Lib.hid hK
      clear hK
      go_wp2
      go_ret
      exact ⟨_, _, rfl, HD.out⟩
end Go.Proofs.Yteckkbjpeckjmaa.Rx
/- The reference's Wrong, Table, Accepts and Nullable (package sentinelref05). -/
namespace Go.Proofs.Yteckkbjpeckjmaa.Rx
open Go Go.RowKit Go.Proofs.Yteckkbjpeckjmaa
set_option linter.unusedVariables false
set_option linter.unusedSimpArgs false
set_option maxRecDepth 100000
section
variable (A B : Option Addr) (c d : Nat) (v : Int) (word : List Nat) (w : World)
set_option maxHeartbeats 2000000 in
theorem refWrong5_any (e : List Pc) (hx : PcsAt w A e) (hl : e.length ≤ 1000000) (hB : Bys w B word) (hn : word.length ≤ 1000000) (hw8 : ∀ x ∈ word, x < 256) :
    Calls Try.prog 40 #[.slice A e.length c, .int .i64 v, .slice B word.length d] w fun r w' => r = .returned (.int .i64 (wrongL v e word)) ∧ Below w.heap.size w w' := by
  have HC := Lib.hid (refCheck_L A e c v w hx hl)
  by_cases hE : chkL v e = 0
  · obtain ⟨t, hV, rfl⟩ := chkL_ok hE
    have hv0 := hV.v0
    have hv6 := hV.v6
    rw [wrong_valid hV]
    have HW : Hid (∀ X, Below w.heap.size w X → Calls Try.prog 69 #[.slice B word.length d, .int .i64 v] X fun r w' => r = .returned (.int .i64 (wordE v.toNat word)) ∧ Below X.heap.size X w') := fun X hX => by
      have := refWord5_any v.toNat (by omega) B word d X (hB.below hX) hw8 hn
      rwa [Int.toNat_of_nonneg hv0] at this
    rw [hE] at HC
    clear hx hl hB hn hw8 hE hV hv0 hv6
    generalize wordE v.toNat word = R at *
    generalize (flat t 0).length = L at *
    generalize word.length = n at *
    go_enter Try.func40, Try.ntmps40
    go_wp2_with (first
      | (go_at_call 68; ((with_reducible refine HC.out.mono ?_); rintro r w1 ⟨rfl, hb1⟩))
      | (go_at_call 69; ((with_reducible refine (HW.out _ hb1).mono ?_); rintro r w2 ⟨rfl, hb2⟩)))
    go_ret
    exact ⟨rfl, stepB hb1 hb2⟩
  · rw [wrong_bad hE]
    have h1 := int_ne hE
    have h0 : (chkL v e == 0) = false := by rw [beq_eq_false_iff_ne]; exact hE
    clear hx hl hB hn hw8 hE
    generalize chkL v e = R at *
    generalize e.length = L at *
    generalize word.length = n at *
    go_enter Try.func40, Try.ntmps40
    go_wp2_with (go_at_call 68; ((with_reducible refine HC.out.mono ?_); rintro r w1 ⟨rfl, hb1⟩))
    go_ret
    exact ⟨rfl, hb1⟩
set_option maxHeartbeats 2000000 in
theorem refTable5_bad (e : List Pc) (hx : PcsAt w A e) (hl : e.length ≤ 1000000) (hB : Bys w B word) (hn : word.length ≤ 1000000) (hw8 : ∀ x ∈ word, x < 256) (hE : wrongL v e word ≠ 0) :
    Calls Try.prog 16 #[.slice A e.length c, .int .i64 v, .slice B word.length d] w fun r w' => r = .returned (.tuple #[.slice none 0 0, .int .i64 (wrongL v e word)]) ∧ Below w.heap.size w w' := by
  have HC := Lib.hid (refWrong5_any A B c d v word w e hx hl hB hn hw8)
  have h1 := int_ne hE
  generalize wrongL v e word = R at *
  generalize e.length = L at *
  generalize word.length = n at *
  clear hx hB hw8 hE
  go_enter Try.func16, Try.ntmps16
  go_wp2_with (go_at_call 40; ((with_reducible refine HC.out.mono ?_); rintro r w1 ⟨rfl, hb1⟩))
  go_ret2
  exact ⟨rfl, hb1⟩
set_option maxHeartbeats 2000000 in
theorem refAccepts5_bad (e : List Pc) (hx : PcsAt w A e) (hl : e.length ≤ 1000000) (hB : Bys w B word) (hn : word.length ≤ 1000000) (hw8 : ∀ x ∈ word, x < 256) (hE : wrongL v e word ≠ 0) :
    Calls Try.prog 17 #[.slice A e.length c, .int .i64 v, .slice B word.length d] w fun r w' => r = .returned (.tuple #[.bool false, .int .i64 (wrongL v e word)]) ∧ Below w.heap.size w w' := by
  have HC := Lib.hid (refTable5_bad A B c d v word w e hx hl hB hn hw8 hE)
  have h1 := int_ne hE
  generalize wrongL v e word = R at *
  generalize e.length = L at *
  generalize word.length = n at *
  clear hx hB hw8 hE
  go_enter Try.func17, Try.ntmps17
  go_wp2_with (go_at_call 16; ((with_reducible refine HC.out.mono ?_); rintro r w1 ⟨rfl, hb1⟩))
  go_ret2
  exact ⟨rfl, hb1⟩
variable (t : Ex) (L n : Nat)
set_option maxHeartbeats 4000000 in
theorem refTable5_good (hx : PcsAt w A (flat t 0)) (hV : t.Valid v) (hL : L = t.size) (hB : Bys w B word) (hn : n = word.length) (hw8 : ∀ x ∈ word, x < 256) (hE : wordE v.toNat word = 0) (hn2 : word.length ≤ 1000) :
    Calls Try.prog 16 #[.slice A L c, .int .i64 v, .slice B n d] w fun r w' => ∃ mb, r = .returned (.tuple #[matV mb n, .int .i64 0]) ∧ MatAt w' mb n (half n (mt word t)) ∧ Below w.heap.size w w' ∧ w.heap.size ≤ mb := by
  have hs := hV.size
  have hp := t.pos
  have hlen : (flat t 0).length = t.size := flat_len t 0
  have HC := refWrong5_any A B c d v word w (flat t 0) hx (by rw [flat_len]; omega) hB (by omega) hw8
  rw [wrong_valid hV, hE, flat_len, ← hL, ← hn] at HC
  have HC := Lib.hid HC
  have HTb : Hid (∀ X, Below w.heap.size w X → Calls Try.prog 41 #[.slice A L c, .slice B n d] X fun r w' => ∃ (kb : Nat) (mbs : Nat → Nat), r = .returned (.slice (some ⟨kb, 0, none⟩) L L) ∧ w'.cell? ⟨kb, L - 1, none⟩ = some (matV (mbs (L - 1)) n) ∧ MatAt w' (mbs (L - 1)) n (half n (mt word t)) ∧ Below X.heap.size X w' ∧ X.heap.size ≤ mbs (L - 1) ∧ kb < w'.heap.size) := fun X hX => by
    subst hL hn
    have := tables5_any A B (flat t 0) c d word word.length (fun k => mt word (sub t k)) X (hx.below hX) (by omega) (hB.below hX) rfl hn2 hw8 (fun k hk => by rw [hlen] at hk ⊢; exact (piece_of hV hk).1) (fun k hk => by rw [hlen] at hk; exact (piece_of hV hk).2 word)
    rw [hlen] at this
    refine this.mono fun r w' ⟨kb, mbs, h1, h2⟩ => ⟨kb, mbs, h1, ?_, ?_, h2.b, ?_, lt_of_block h2.o⟩
    · have := cell_of h2.o (i := t.size - 1) (by omega)
      rwa [if_pos (by omega)] at this
    · have := (h2.m (t.size - 1) (by omega)).2
      rwa [sub_last] at this
    · have := (h2.m (t.size - 1) (by omega)).1
      have := h2.k0
      omega
  obtain ⟨K, hK⟩ : ∃ K, L = K + 1 := ⟨L - 1, by omega⟩
  have hK64 : K ≤ 63 := by omega
  have hn1 : n ≤ 1000 := by omega
  clear hx hV hB hlen hL hs hp hw8 hE hn hn2
  subst hK
  rw [Nat.add_sub_cancel] at HTb
  unfold matV at HTb ⊢
  go_enter Try.func16, Try.ntmps16
  go_wp2_with (first
    | (go_at_call 40; ((with_reducible refine HC.out.mono ?_); rintro r w1 ⟨rfl, hb1⟩))
    | (go_at_call 41; ((with_reducible refine (HTb.out _ hb1).mono ?_); rintro r w2 ⟨kb, mbs, rfl, hc1, hM1, hb2, hm1, hk1⟩); have HM1 := Lib.hid hM1; have HB1 := Lib.hid (stepB hb1 hb2); have HMB := Lib.hid (Nat.le_trans hb1.size hm1); clear hM1 hb2 hm1))
  go_ret2
  exact ⟨_, rfl, HM1.out, HB1.out, HMB.out⟩
set_option maxHeartbeats 2000000 in
theorem refAccepts5_good (hx : PcsAt w A (flat t 0)) (hV : t.Valid v) (hL : L = t.size) (hB : Bys w B word) (hn : n = word.length) (hw8 : ∀ x ∈ word, x < 256) (hE : wordE v.toNat word = 0) (hn2 : word.length ≤ 1000) :
    Calls Try.prog 17 #[.slice A L c, .int .i64 v, .slice B n d] w fun r w' => r = .returned (.tuple #[.bool (mt word t 0 n), .int .i64 0]) ∧ Below w.heap.size w w' := by
  have HT := Lib.hid (refTable5_good A B c d v word w t L n hx hV hL hB hn hw8 hE hn2)
  have HAt : Hid (∀ mb X, MatAt X mb n (half n (mt word t)) → X.cell? ⟨mb, 0, none⟩ = some (.slice (some ⟨mb + 1 + 0, 0, none⟩) (n + 1) (n + 1)) ∧ X.cell? ⟨mb + 1 + 0, n, none⟩ = some (.bool (mt word t 0 n))) := fun mb X hM => by
    have h1 := cell_of hM.o (i := 0) (by omega)
    have h2 := cell_of (hM.r 0 (by omega)) (i := n) (by omega)
    unfold rowV at h1
    unfold boolV at h2
    rw [half_at (Nat.zero_le _) (Nat.le_refl _)] at h2
    exact ⟨h1, h2⟩
  have hn1 : n ≤ 1000 := by omega
  clear hx hV hL hB hn hw8 hE hn2
  generalize mt word t 0 n = R at *
  unfold matV at HT
  go_enter Try.func17, Try.ntmps17
  go_wp2_with (go_at_call 16; ((with_reducible refine HT.out.mono ?_); rintro r w1 ⟨mb, rfl, hM, hb1, hm⟩); obtain ⟨c1, c2⟩ := HAt.out _ _ hM; clear hM hm)
  go_ret2
  exact ⟨rfl, hb1⟩
end
section
variable (A : Option Addr) (c : Nat) (v : Int) (w : World)
set_option maxHeartbeats 2000000 in
theorem refNullable5_bad (e : List Pc) (hx : PcsAt w A e) (hl : e.length ≤ 1000000) (hE : chkL v e ≠ 0) :
    Calls Try.prog 25 #[.slice A e.length c, .int .i64 v] w fun r w' => r = .returned (.tuple #[.bool false, .int .i64 (chkL v e)]) ∧ Below w.heap.size w w' := by
  have HC := Lib.hid (refPlain_bad A e c v w hx hl hE)
  have h1 := int_ne hE
  generalize chkL v e = R at *
  generalize e.length = L at *
  clear hx hE
  go_enter Try.func25, Try.ntmps25
  go_wp2_with (go_at_call 46; ((with_reducible refine HC.out.mono ?_); rintro r w1 ⟨rfl, hb1⟩))
  go_ret2
  exact ⟨rfl, hb1⟩
variable (t : Ex) (L : Nat)
set_option maxHeartbeats 2000000 in
theorem refNullable5_good (hx : PcsAt w A (flat t 0)) (hV : t.Valid v) (hL : L = t.size) :
    Calls Try.prog 25 #[.slice A L c, .int .i64 v] w fun r w' => r = .returned (.tuple #[.bool (plainT t && mt [] t 0 0), .int .i64 (if plainT t then 0 else 6)]) ∧ Below w.heap.size w w' := by
  have HC := Lib.hid (refPlain_good A t L c v w hx hV hL)
  have HA := Lib.hid fun X (hX : Below w.heap.size w X) => refAccepts5_good A none c 0 v [] X t L 0 (hx.below hX) hV hL (bys_nil X) rfl (fun x h => by cases h) (by unfold wordE; rfl) (by decide)
  clear hx hV hL
  generalize mt [] t 0 0 = R at *
  cases hp : plainT t with
  | false =>
    rw [hp] at HC
    clear hp
    go_enter Try.func25, Try.ntmps25
    go_wp2_with (go_at_call 46; ((with_reducible refine HC.out.mono ?_); rintro r w1 ⟨rfl, hb1⟩))
    go_ret2
    exact ⟨rfl, hb1⟩
  | true =>
    rw [hp] at HC
    clear hp
    go_enter Try.func25, Try.ntmps25
    go_wp2_with (first
      | (go_at_call 46; ((with_reducible refine HC.out.mono ?_); rintro r w1 ⟨rfl, hb1⟩))
      | (go_at_call 17; ((with_reducible refine (HA.out _ hb1).mono ?_); rintro r w2 ⟨rfl, hb2⟩)))
    go_ret2
    exact ⟨rfl, stepB hb1 hb2⟩
end
end Go.Proofs.Yteckkbjpeckjmaa.Rx
