/- MatchTables: the kit's and the law's small functions at tables; one contract for good and bad arguments. -/
import Derived.Test.YteckkbjpeckjmaaTBE
import Derived.Test.YteckkbjpeckjmaaYZZA
namespace Go.Proofs.Yteckkbjpeckjmaa.Rx
open Go Go.RowKit Go.Proofs.Yteckkbjpeckjmaa Go.Proofs.Yteckkbjpeckjmaa.Ap
set_option linter.unusedVariables false
set_option linter.unusedSimpArgs false
set_option maxRecDepth 100000
theorem info_u8F : (Try.prog.info? 5).map (fun i => (i.zero, i.size, i.bytes)) = some (some (.int .u8 0), 1, 1) := by kernel_rfl
theorem bvs_rangeF (l : List Nat) : (List.range l.length).map (fun j => (Value.int .u8 (wd l j : Nat))) = bvs l := by
  unfold bvs
  refine List.ext_getElem (by simp) fun i h1 h2 => ?_
  simp at h1 h2 ⊢
  simp [wd, h1]
theorem own_bysF {w : World} {base : Nat} {A : Option Addr} {c n : Nat} {l : List Nat} (h : w.ownsRow base 5 1 (.slice A n c) n (bvs l)) (hn : n = l.length) : Bys w A l := by
  subst hn
  exact Vals.of_own h fun j hj => by simp [bvs, wd, hj]
theorem CopyBytes5_any (A : Option Addr) (l : List Nat) (c : Nat) (w : World) (hx : Bys w A l) (hl : l.length ≤ 1000000) :
    Calls Try.prog 15 #[.slice A l.length c] w fun e w' => ∃ A' c', e = .returned (.slice A' l.length c') ∧ Bys w' A' l ∧ Below w.heap.size w w' := by
  obtain ⟨i0, hi, hz0, hz1, hz2⟩ := info_parts info_u8F
  have HM := Lib.hid (bvs_rangeF l)
  have HF : Hid (∀ (X : World) B1 A1 c1, X.ownsRow B1 5 1 (.slice A1 l.length c1) l.length (bvs l) → Bys X A1 l) := fun X B1 A1 c1 h => own_bysF h rfl
  have hx2 : Vals w A l.length fun j => .int .u8 (wd l j : Nat) := hx
  clear hx
  generalize l.length = n at *
  go_enter Try.func15, Try.ntmps15
  go_wp2_with (at_builtin; refine wpList_copy rfl _ _ 39 rfl 5 i0 (.int .u8 0) 1 Try.underlying39 hi hz0 hz1 hz2 rfl rfl A n c _ rfl hx2 (fun j _ => rfl) (by unfold maxLen; omega) (by omega) ?_; intro A' c' w' ho hc hb)
  go_ret
  rw [HM.out] at ho
  exact ⟨A', c', rfl, HF.out _ _ _ _ ho, hb⟩
set_option maxHeartbeats 2000000 in
theorem EqualBytes5_same (A B : Option Addr) (l : List Nat) (c d : Nat) (w : World) (hx : Bys w A l) (hy : Bys w B l) (hl : l.length ≤ 1000000) :
    Calls Try.prog 23 #[.slice A l.length c, .slice B l.length d] w fun e w' => e = .returned (.bool true) ∧ ∃ n, w' = w.drewN n := by
  have hn0 : ((l.length : Int) != (l.length : Int)) = false := by simp
  have hx2 : Vals w A l.length fun j => .int .u8 (wd l j : Nat) := hx
  have hy2 : Vals w B l.length fun j => .int .u8 (wd l j : Nat) := hy
  clear hx hy
  generalize wd l = f at *
  generalize l.length = n at *
  go_enter Try.func23, Try.ntmps23
  go_wp2
  go_loopw [5] (fun i wr => ∃ k q : Nat, k ≤ n ∧ i = .int .i64 k ∧ wr = w.drewN q) (fun i _ => n - (intOf i).toNat)
  case atStart => exact ⟨0, 0, by omega, rfl, rfl⟩
  case round =>
    obtain ⟨k, q, hk, rfl, rfl⟩ := hrel
    by_cases hlt : k < n
    · obtain ⟨ad, rfl, _, hcell⟩ := hx2 k hlt
      obtain ⟨bd, rfl, _, hcell'⟩ := hy2 k hlt
      generalize f k = x at *
      have hne : ((x : Int) != (x : Int)) = false := by simp
      go_wp2
      go_quiet (fail)
      go_wp2
      go_roundw
      case rel => exact ⟨k + 1, _, by omega, by go_num, rfl⟩
      case measure => simp [intOf]; omega
    · obtain rfl : k = n := by omega
      go_wp2
      go_ret
      exact ⟨rfl, _, rfl⟩
set_option maxHeartbeats 2000000 in
theorem EqualBools5_same (A B : Option Addr) (n : Nat) (f : Nat → Bool) (c d : Nat) (w : World) (hx : Vals w A n fun j => .bool (f j)) (hy : Vals w B n fun j => .bool (f j)) (hl : n ≤ 1000000) :
    Calls Try.prog 45 #[.slice A n c, .slice B n d] w fun e w' => e = .returned (.bool true) ∧ ∃ n, w' = w.drewN n := by
  have hn0 : ((n : Int) != (n : Int)) = false := by simp
  go_enter Try.func45, Try.ntmps45
  go_wp2
  go_loopw [5] (fun i wr => ∃ k q : Nat, k ≤ n ∧ i = .int .i64 k ∧ wr = w.drewN q) (fun i _ => n - (intOf i).toNat)
  case atStart => exact ⟨0, 0, by omega, rfl, rfl⟩
  case round =>
    obtain ⟨k, q, hk, rfl, rfl⟩ := hrel
    by_cases hlt : k < n
    · obtain ⟨ad, rfl, hcell⟩ := Vals.at_ hx hlt
      obtain ⟨bd, rfl, hcell'⟩ := Vals.at_ hy hlt
      replace hcell : w.cell? (ad.add k) = some (.bool (f k)) := hcell
      replace hcell' : w.cell? (bd.add k) = some (.bool (f k)) := hcell'
      generalize f k = x at *
      have hne : (x != x) = false := by simp
      have hlt2 : (k : Int) < (n : Int) := by omega
      go_wp2
      go_quiet (fail)
      go_wp2
      go_roundw
      case rel => exact ⟨k + 1, _, by omega, by go_num, rfl⟩
      case measure => simp [intOf]; omega
    · obtain rfl : k = n := by omega
      go_wp2
      go_ret
      exact ⟨rfl, _, rfl⟩
/-- A table of N rows and columns, made behind base; none of N is 0. -/
def TabV (base : Nat) (X : World) (A : Option Addr) (N : Nat) (g : Nat → Nat → Bool) : Prop := N = 0 ∨ ∃ mb n, N = n + 1 ∧ A = some ⟨mb, 0, none⟩ ∧ MatAt X mb n g ∧ base ≤ mb
theorem TabV.below {base : Nat} {X Y : World} {A : Option Addr} {N : Nat} {g : Nat → Nat → Bool} (h : TabV base X A N g) (hb : Below X.heap.size X Y) : TabV base Y A N g := by
  rcases h with h | ⟨mb, n, h1, h2, h3, h4⟩
  · exact .inl h
  · exact .inr ⟨mb, n, h1, h2, h3.below hb, h4⟩
theorem TabV.at_ {base : Nat} {X : World} {A : Option Addr} {N : Nat} {g : Nat → Nat → Bool} (h : TabV base X A N g) {i : Nat} (hi : i < N) : ∃ mb n, N = n + 1 ∧ A = some ⟨mb, 0, none⟩ ∧ MatAt X mb n g ∧ base ≤ mb := by
  rcases h with h | h
  · omega
  · exact h
theorem MatAt.row {w : World} {mb n : Nat} {g : Nat → Nat → Bool} (h : MatAt w mb n g) {i : Nat} (hi : i ≤ n) : Vals w (some ⟨mb + 1 + i, 0, none⟩) (n + 1) fun j => .bool (g i j) := fun j hj =>
  ⟨_, rfl, lt_of_block (h.r i hi), by rw [addr_of]; exact cell_of (h.r i hi) (i := j) hj⟩
set_option maxHeartbeats 4000000 in
theorem same_tab (b1 b2 : Nat) (A B : Option Addr) (N : Nat) (g : Nat → Nat → Bool) (w : World) (hN : N ≤ 1000) (hx : TabV b1 w A N g) (hy : TabV b2 w B N g) :
    Calls Try.prog 21 #[.slice A N N, .slice B N N] w fun e w' => e = .returned (.bool true) ∧ Below w.heap.size w w' := by
  have hn0 : ((N : Int) != (N : Int)) = false := by simp
  have HX := Lib.hid hx
  have HY := Lib.hid hy
  clear hx hy
  go_enter Try.func21, Try.ntmps21
  go_wp2
  go_loopw [5] (fun i wr => ∃ k : Nat, k ≤ N ∧ i = .int .i64 k ∧ Below w.heap.size w wr) (fun i _ => N - (intOf i).toNat)
  case atStart => exact ⟨0, by omega, rfl, Below.refl _ _⟩
  case round =>
    obtain ⟨k, hk, rfl, hb⟩ := hrel
    by_cases hlt : k < N
    · obtain ⟨ma, n, hNn, rfl, hA, _⟩ := (HX.out.below hb).at_ hlt
      obtain ⟨mb, n', hNn', rfl, hB, _⟩ := (HY.out.below hb).at_ hlt
      obtain rfl : n = n' := by omega
      have c1 := cell_of hA.o (i := k) (by omega)
      have c2 := cell_of hB.o (i := k) (by omega)
      unfold rowV at c1 c2
      have HE : Hid (∀ X, Below wr.heap.size wr X → Calls Try.prog 45 #[.slice (some ⟨ma + 1 + k, 0, none⟩) (n + 1) (n + 1), .slice (some ⟨mb + 1 + k, 0, none⟩) (n + 1) (n + 1)] X fun e w' => e = .returned (.bool true) ∧ Below X.heap.size X w') := fun X hX =>
        (EqualBools5_same (some ⟨ma + 1 + k, 0, none⟩) (some ⟨mb + 1 + k, 0, none⟩) (n + 1) (g k) (n + 1) (n + 1) X ((hA.below hX).row (i := k) (by omega)) ((hB.below hX).row (i := k) (by omega)) (by omega)).mono fun e w' ⟨h1, q, h2⟩ => ⟨h1, by rw [h2]; exact Ap.drewN_below _ _⟩
      have hlt2 : (k : Int) < (N : Int) := by omega
      rw [← hNn] at c1 c2 HE
      have l1 := fun r : Cls (fun X => Below wr.heap.size wr X) => (r.h.cell (World.block_lt_of_cell? _ _ c1)).trans c1
      have l2 := fun r : Cls (fun X => Below wr.heap.size wr X) => (r.h.cell (World.block_lt_of_cell? _ _ c2)).trans c2
      clear hA hB hNn hNn' c1 c2 HX HY
      go_wp2
      haveI : Nonempty (Cls fun X => Below wr.heap.size wr X) := ⟨⟨_, Below.refl _ _⟩⟩
      refine wp_region_cls (fun X => Below wr.heap.size wr X) (by kernel_rfl) (by kernel_rfl) (drew_below wr) ?_
      repeat (go_big_quiet_step (first | (go_at_call 45; rename_i r; (with_reducible refine (HE.out r.w r.h).mono ?_); rintro e w4 ⟨rfl, hb4⟩; exact ⟨rfl, ⟨⟨w4, stepB r.h hb4⟩, rfl⟩⟩)))
      refine wpQuiet_nil ?_
      rintro _ ⟨r, rfl⟩
      have hX := r.h
      generalize r.w = X at hX ⊢
      clear l1 l2 HE
      go_wp2
      go_roundw
      case rel => exact ⟨k + 1, by omega, by go_num, stepB hb hX⟩
      case measure => simp [intOf]; omega
    · obtain rfl : k = N := by omega
      go_wp2
      go_ret
      exact ⟨rfl, hb⟩
set_option maxHeartbeats 2000000 in
theorem OverBools_row (mb n B i : Nat) (hi : i ≤ n) (hB : B ≤ mb) (hn : n ≤ 1000) (w : World) (hM : ∃ g, MatAt w mb n g) :
    Calls Try.prog 24 #[.slice (some ⟨mb + 1 + i, 0, none⟩) (n + 1) (n + 1)] w fun e w' => e = .returned (.tuple #[]) ∧ (∃ g, MatAt w' mb n g) ∧ Below B w w' := by
  have HM := Lib.hid hM
  clear hM
  go_enter Try.func24, Try.ntmps24
  go_wp2
  go_loopw [2] (fun j wr => ∃ k : Nat, k ≤ n + 1 ∧ j = .int .i64 k ∧ Hid (∃ g, MatAt wr mb n g) ∧ Hid (Below B w wr)) (fun j _ => n + 1 - (intOf j).toNat)
  case atStart => exact ⟨0, by omega, rfl, HM, Below.refl _ _⟩
  case round =>
    clear HM
    obtain ⟨k, hk, rfl, HM, HB⟩ := hrel
    by_cases hlt : k < n + 1
    · obtain ⟨g, hM⟩ := HM.out
      have hr := hM.r i hi
      have c1 := cell_of hr (i := k) hlt
      unfold boolV at c1
      have f1 := free_of hr k
      have l1 := lt_of_block hr
      have hkn : (k : Int) < (n : Int) + 1 := by omega
      have HM2 : Hid (∃ g2, MatAt (wr.setCell ⟨mb + 1 + i, k, none⟩ (.bool !(g i k))) mb n g2) := ⟨_, hM.set (i := i) (j := k) hi (by omega) _⟩
      have HB2 := Lib.hid (HB.out.setCell (p := ⟨mb + 1 + i, k, none⟩) (by show B ≤ mb + 1 + i; omega) (.bool !(g i k)))
      clear HM HB hM hr
      generalize g i k = x at *
      go_wp2
      go_roundw
      case rel => exact ⟨k + 1, by omega, by go_num, HM2, HB2⟩
      case measure => simp [intOf]; omega
    · obtain rfl : k = n + 1 := by omega
      go_wp2
      go_end0
      exact ⟨rfl, HM.out, HB.out⟩
theorem own_nilP (w : World) : w.ownsRow w.heap.size 50 2 (.slice none 0 0) ([] : List (Nat × Nat)).length (pairV []) := ⟨rfl, .inl ⟨rfl, rfl⟩⟩
/-- What the reference and the program answer, as one: an error, a table, a truth value, and the pairs. -/
theorem tab_res (A B : Option Addr) (c d : Nat) (v : Int) (e : List Pc) (word : List Nat) (w : World) (hx : PcsAt w A e) (hl : e.length ≤ 1000) (hB : Bys w B word) (hn : word.length ≤ 100) (hw8 : ∀ x ∈ word, x < 256) :
    ∃ (E : Int) (N : Nat) (g : Nat → Nat → Bool) (R : Bool), N ≤ 101 ∧ (spansTo g N N).length ≤ 20000 ∧
    (∀ X, Below w.heap.size w X → Calls Try.prog 16 #[.slice A e.length c, .int .i64 v, .slice B word.length d] X fun r w' => ∃ At, r = .returned (.tuple #[.slice At N N, .int .i64 E]) ∧ TabV X.heap.size w' At N g ∧ Below X.heap.size X w') ∧
    (∀ X, Below w.heap.size w X → Calls Try.prog 17 #[.slice A e.length c, .int .i64 v, .slice B word.length d] X fun r w' => r = .returned (.tuple #[.bool R, .int .i64 E]) ∧ Below X.heap.size X w') ∧
    (∀ X A' B' c' d', PcsAt X A' e → Bys X B' word → Calls Try.prog 18 #[.slice A' e.length c', .int .i64 v, .slice B' word.length d'] X fun r w' => ∃ At, r = .returned (.tuple #[.slice At N N, .int .i64 E]) ∧ TabV X.heap.size w' At N g ∧ Below X.heap.size X w') ∧
    (∀ X A' B' c' d', PcsAt X A' e → Bys X B' word → Calls Try.prog 19 #[.slice A' e.length c', .int .i64 v, .slice B' word.length d'] X fun r w' => r = .returned (.tuple #[.bool R, .int .i64 E]) ∧ Below X.heap.size X w') ∧
    (∀ X A' B' c' d', PcsAt X A' e → Bys X B' word → Calls Try.prog 20 #[.slice A' e.length c', .int .i64 v, .slice B' word.length d'] X fun r w' => ∃ As cs, r = .returned (.tuple #[.slice As (spansTo g N N).length cs, .int .i64 E]) ∧ w'.ownsRow X.heap.size 50 2 (.slice As (spansTo g N N).length cs) (spansTo g N N).length (pairV (spansTo g N N)) ∧ Below X.heap.size X w') := by
  by_cases hE : wrongL v e word = 0
  · obtain ⟨⟨t, hV, rfl⟩, _⟩ := wrong_none hE
    have hW : wordE v.toNat word = 0 := by rwa [wrong_valid hV] at hE
    have hlen := flat_len t 0
    refine ⟨0, word.length + 1, half word.length (mt word t), mt word t 0 word.length, by omega, ?_, fun X hX => ?_, fun X hX => ?_, fun X A' B' c' d' h1 h2 => ?_, fun X A' B' c' d' h1 h2 => ?_, fun X A' B' c' d' h1 h2 => ?_⟩
    · have := spansTo_len (half word.length (mt word t)) (word.length + 1) (word.length + 1)
      have h2 : (word.length + 1) * (word.length + 1) ≤ 101 * 101 := Nat.mul_le_mul (by omega) (by omega)
      omega
    · refine (refTable5_good A B c d v word X t _ _ (hx.below hX) hV hlen (hB.below hX) rfl hw8 hW (by omega)).mono ?_
      rintro r w' ⟨mb, h1, h2, h3, h4⟩
      exact ⟨_, h1, .inr ⟨mb, _, rfl, rfl, h2, h4⟩, h3⟩
    · exact refAccepts5_good A B c d v word X t _ _ (hx.below hX) hV hlen (hB.below hX) rfl hw8 hW (by omega)
    · refine (Table_good A' B' c' d' v word X t _ _ h1 hV hlen h2 rfl hw8 hW (by omega)).mono ?_
      rintro r w' ⟨mb, h1, h2, h3, h4⟩
      exact ⟨_, h1, .inr ⟨mb, _, rfl, rfl, h2, h4⟩, h3⟩
    · exact Accepts_good A' B' c' d' v word X t _ _ h1 hV hlen h2 rfl hw8 hW (by omega)
    · exact Spans_good A' B' c' d' v word X t _ _ h1 hV hlen h2 rfl hw8 hW (by omega)
  · refine ⟨wrongL v e word, 0, fun _ _ => false, false, by omega, by simp [spansTo], fun X hX => ?_, fun X hX => ?_, fun X A' B' c' d' h1 h2 => ?_, fun X A' B' c' d' h1 h2 => ?_, fun X A' B' c' d' h1 h2 => ?_⟩
    · exact (refTable5_bad A B c d v word X e (hx.below hX) (by omega) (hB.below hX) (by omega) hw8 hE).mono fun r w' h => ⟨none, h.1, .inl rfl, h.2⟩
    · exact refAccepts5_bad A B c d v word X e (hx.below hX) (by omega) (hB.below hX) (by omega) hw8 hE
    · exact (Table_bad A' B' c' d' v word X e h1 (by omega) h2 (by omega) hw8 hE).mono fun r w' h => ⟨none, h.1, .inl rfl, h.2⟩
    · exact Accepts_bad A' B' c' d' v word X e h1 (by omega) h2 (by omega) hw8 hE
    · refine (Spans_bad A' B' c' d' v word X e h1 (by omega) h2 (by omega) hw8 hE).mono fun r w' h => ⟨none, 0, h.1, ?_, h.2⟩
      have := Ap.own_bel (own_nilP X) h.2
      exact this
end Go.Proofs.Yteckkbjpeckjmaa.Rx
/- The walk of MatchTables. -/
namespace Go.Proofs.Yteckkbjpeckjmaa.Rx
open Go Go.RowKit Go.Proofs.Yteckkbjpeckjmaa Go.Proofs.Yteckkbjpeckjmaa.Ap
set_option linter.unusedVariables false
set_option linter.unusedSimpArgs false
set_option maxRecDepth 100000
theorem eq_arr (d : Nat) (x y : Int) (w : World) : (Op.equalIn (d + 1 + 1) 50 (.agg #[.int .i64 x, .int .i64 y]) (.agg #[.int .i64 x, .int .i64 y])).run Try.prog w = .ok true w := by
  have hi : ∀ (a : Int) (w : World), (Op.equalIn (d + 1) 3 (.int .i64 a) (.int .i64 a)).run Try.prog w = .ok true w := fun a w => by
    rw [run_equalIn_int (P := Try.prog) w d 3 .i64 .i64 a a Try.underlying3, beq_self_eq_true]
  rw [Op.equalIn]
  generalize Op.equalIn (d + 1) = F at *
  simp only [Sem.run_bind, run_underlying Try.underlying50, Result.andThen_ok]
  have hs : ∀ w : World, (sizeOf 3).run Try.prog w = .ok 1 w := fun w => by kernel_rfl
  have p0 : ∀ w : World, (part 3 #[Value.int IntKind.i64 x, Value.int IntKind.i64 y] 0).run Try.prog w = .ok (.int .i64 x) w := fun w => by kernel_rfl
  have p1 : ∀ w : World, (part 3 #[Value.int IntKind.i64 x, Value.int IntKind.i64 y] 1).run Try.prog w = .ok (.int .i64 y) w := fun w => by kernel_rfl
  simp [hs, Std.Legacy.Range.forIn_eq_forIn_range', List.range', Std.Legacy.Range.size, hi, p0, p1]
theorem neq_pair (x y : Int) (w : World) : (binOp BinOp.neq 50 (.agg #[.int .i64 x, .int .i64 y]) (.agg #[.int .i64 x, .int .i64 y])).run Try.prog w = .ok (.bool false) w := by
  rw [run_neq_struct]
  have h := eq_arr 9998 x y w
  have h2 : (Op.equalIn 10000 50 (.agg #[.int .i64 x, .int .i64 y]) (.agg #[.int .i64 x, .int .i64 y])).run Try.prog w = .ok true w := h
  rw [h2]
  rfl
def pr (l : List (Nat × Nat)) (j : Nat) : Nat × Nat := l.getD j (0, 0)
theorem pairV_at : ∀ (l : List (Nat × Nat)) (j : Nat), j < l.length → (pairV l)[j * 2]? = some (.int .i64 ((pr l j).1 : Nat)) ∧ (pairV l)[j * 2 + 1]? = some (.int .i64 ((pr l j).2 : Nat))
  | [], j, h => absurd h (Nat.not_lt_zero j)
  | x :: l, 0, h => ⟨rfl, rfl⟩
  | x :: l, j + 1, h => by
    have := pairV_at l j (by simpa using h)
    have e : pairV (x :: l) = .int .i64 (x.1 : Nat) :: .int .i64 (x.2 : Nat) :: pairV l := rfl
    rw [e, show (j + 1) * 2 = j * 2 + 1 + 1 by omega, List.getElem?_cons_succ, List.getElem?_cons_succ, List.getElem?_cons_succ, List.getElem?_cons_succ]
    exact this
/-- The pairs from number k on stand at A, and may be overwritten. -/
def PrsAt (base : Nat) (X : World) (A : Option Addr) (l : List (Nat × Nat)) (k : Nat) : Prop :=
  ∀ j, k ≤ j → j < l.length → ∃ g, A = some ⟨g, 0, none⟩ ∧ base ≤ g ∧ g < X.heap.size ∧ X.cell? ⟨g, j * 2, none⟩ = some (.int .i64 ((pr l j).1 : Nat)) ∧ X.cell? ⟨g, j * 2 + 1, none⟩ = some (.int .i64 ((pr l j).2 : Nat)) ∧ X.frozen? ⟨g, j * 2, none⟩ = false ∧ X.frozen? ⟨g, j * 2 + 1, none⟩ = false
theorem PrsAt.own {base : Nat} {X : World} {A : Option Addr} {c : Nat} {l : List (Nat × Nat)} (h : X.ownsRow base 50 2 (.slice A l.length c) l.length (pairV l)) : PrsAt base X A l 0 := by
  intro j _ hj
  rcases h.2 with ⟨_, h0⟩ | ⟨g, cap, cur, hv, hb, hh, _⟩
  · omega
  · injection hv with hA _ hc
    subst hA hc
    obtain ⟨h1, h2⟩ := pairV_at l j hj
    exact ⟨g, rfl, hb, lt_of_block hh, (h.cellAt (j * 2) (by omega)).trans h1, (h.cellAt (j * 2 + 1) (by omega)).trans h2, h.frozenAt _, h.frozenAt _⟩
theorem PrsAt.below {base : Nat} {X Y : World} {A : Option Addr} {l : List (Nat × Nat)} {k : Nat} (h : PrsAt base X A l k) (hb : Below X.heap.size X Y) : PrsAt base Y A l k := by
  intro j h1 h2
  obtain ⟨g, e, h0, h3, h4, h5, h6, h7⟩ := h j h1 h2
  exact ⟨g, e, h0, Nat.lt_of_lt_of_le h3 hb.size, (hb.cell (p := ⟨g, j * 2, none⟩) h3).trans h4, (hb.cell (p := ⟨g, j * 2 + 1, none⟩) h3).trans h5, (hb.frozen (p := ⟨g, j * 2, none⟩) h3).trans h6, (hb.frozen (p := ⟨g, j * 2 + 1, none⟩) h3).trans h7⟩
theorem PrsAt.next {base : Nat} {X : World} {A : Option Addr} {l : List (Nat × Nat)} {k g : Nat} (h : PrsAt base X A l k) (e : A = some ⟨g, 0, none⟩) (u v : Value) :
    PrsAt base ((X.setCell ⟨g, k * 2, none⟩ u).setCell ⟨g, k * 2 + 1, none⟩ v) A l (k + 1) := by
  intro j h1 h2
  obtain ⟨g', e', h0, h3, h4, h5, h6, h7⟩ := h j (by omega) h2
  rw [e] at e'
  obtain rfl : g = g' := by
    have := Option.some.inj e'
    exact congrArg Addr.block this
  refine ⟨g, e, h0, by simp [h3], ?_, ?_, ?_, ?_⟩
  · rw [World.cell?_setCell_other _ _ _ _ (fun e => by injection e; omega), World.cell?_setCell_other _ _ _ _ (fun e => by injection e; omega)]
    exact h4
  · rw [World.cell?_setCell_other _ _ _ _ (fun e => by injection e; omega), World.cell?_setCell_other _ _ _ _ (fun e => by injection e; omega)]
    exact h5
  · rw [World.frozen?_setCell, World.frozen?_setCell]
    exact h6
  · rw [World.frozen?_setCell, World.frozen?_setCell]
    exact h7
set_option maxHeartbeats 16000000 in
theorem matchTables_walk (A : Option Addr) (l : List Pc) (c : Nat) (v : Int) (B : Option Addr) (word : List Nat) (d : Nat) (w : World) (hx : PcsAt w A l) (hl : l.length ≤ maxLen) (hv : -9223372036854775808 ≤ v ∧ v ≤ 9223372036854775807) (hB : Bys w B word) (hw8 : ∀ x ∈ word, x < 256) (hm : word.length ≤ maxLen) (hd : word.length ≤ d) :
    Calls Try.prog 4 #[.slice A l.length c, .int .i64 v, .slice B word.length d] w fun e w' => e = .returned (.bool true) ∧ Below w.heap.size w w' := by
  have HAw := Lib.hid fun X => awake5_any X
  by_cases hL : longP l.length word.length
  · have HL := Lib.hid (long_yes A B l.length c word.length d w hL)
    clear hx hl hv hB hw8 hm hd hL
    generalize l.length = n at *
    generalize word.length = m at *
    go_enter Try.func4, Try.ntmps4
    go_wp2_with (first
      | (go_at_call 12; ((with_reducible refine HL.out.mono ?_); rintro r w1 ⟨rfl, rfl⟩))
      | (go_at_call 13; ((with_reducible refine (HAw.out _).mono ?_); rintro r w2 ⟨rfl, hb2⟩)))
    go_ret
    exact ⟨rfl, hb2⟩
  have HL := Lib.hid (long_no A B l.length c word.length d w hL)
  have hl40 : l.length ≤ 40 := by unfold longP at hL; omega
  have hm100 : word.length ≤ 100 := by unfold longP at hL; omega
  clear hL
  obtain ⟨E, N, g, R, hN, hS, t1, t2, t3, t4, t5⟩ := tab_res A B c d v l word w hx (by omega) hB hm100 hw8
  have HT1 := Lib.hid t1
  have HT2 := Lib.hid t2
  have HT3 := Lib.hid t3
  have HT4 := Lib.hid t4
  have HT5 := Lib.hid t5
  clear t1 t2 t3 t4 t5
  have hpc : ∀ x ∈ l, PcOk x := fun x hx2 => by
    obtain ⟨j, hj, rfl⟩ := List.getElem_of_mem hx2
    have := (hx j hj).1
    unfold pc at this
    rwa [List.getD_eq_getElem?_getD, List.getElem?_eq_getElem hj] at this
  have HC1 : Hid (Calls Try.prog 14 #[.slice A l.length c] w fun e w' => ∃ A' c', e = .returned (.slice A' l.length c') ∧ PcsAt w' A' l ∧ Below w.heap.size w w') :=
    (CopyRegex_any A l c w hx (by omega)).mono fun e w' ⟨A', c', h1, h2, h3⟩ => ⟨A', c', h1, pcs_of_own h2 hpc, h3⟩
  have HC2 := Lib.hid fun X (hX : Below w.heap.size w X) => CopyBytes5_any B word d X (hB.below hX) (by omega)
  have HQ1 : Hid (∀ X A' c', Below w.heap.size w X → PcsAt X A' l → Calls Try.prog 22 #[.slice A' l.length c', .slice A l.length c] X fun e w' => e = .returned (.bool true) ∧ Below X.heap.size X w') := fun X A' c' hX h => by
    have := EqualRegex_any A' A l l c' c X h (hx.below hX) (by omega)
    rw [decide_eq_true rfl] at this
    exact this.mono fun e w' ⟨h1, q, h2⟩ => ⟨h1, by rw [h2]; exact Ap.drewN_below _ _⟩
  have HQ2 : Hid (∀ X A' c', Below w.heap.size w X → Bys X A' word → Calls Try.prog 23 #[.slice A' word.length c', .slice B word.length d] X fun e w' => e = .returned (.bool true) ∧ Below X.heap.size X w') := fun X A' c' hX h =>
    (EqualBytes5_same A' B word c' d X h (hB.below hX) (by omega)).mono fun e w' ⟨h1, q, h2⟩ => ⟨h1, by rw [h2]; exact Ap.drewN_below _ _⟩
  have HSm := Lib.hid fun b1 b2 A' B' X h1 h2 => same_tab b1 b2 A' B' N g X (by omega) h1 h2
  have HLen := Lib.hid (spansTo_len g N)
  have HRow := Lib.hid (rowS_len g)
  have HPin : Hid (∀ X Y A', PcsAt X A' l → Below X.heap.size X Y → PcsAt Y A' l) := fun X Y A' h hb => h.below hb
  have HBin : Hid (∀ X Y A', Bys X A' word → Below X.heap.size X Y → Bys Y A' word) := fun X Y A' h hb => h.below hb
  clear hx hl hv hB hw8 hm hd hpc hl40 hm100
  generalize l.length = nl at *
  generalize word.length = nm at *
  obtain ⟨i0, hi, hz0, hz1, hz2⟩ := info_parts info_pair
  go_enter Try.func4, Try.ntmps4
  go_wp2_with (first
    | (go_at_call 12; ((with_reducible refine HL.out.mono ?_); rintro r w1 ⟨rfl, rfl⟩))
    | (go_at_call 14; ((with_reducible refine HC1.out.mono ?_); rintro r w3 ⟨A3, c3, rfl, hP, hb⟩); have P3 := Lib.hid hP; have K3 := Lib.hid hb; clear hP hb)
    | (go_at_call 15; ((with_reducible refine (HC2.out _ K3.out).mono ?_); rintro r w4 ⟨A4, c4, rfl, hB, hb⟩); have P4 := Lib.hid (HPin.out _ _ _ P3.out hb); have B4 := Lib.hid hB; have K4 := Lib.hid (stepB K3.out hb); clear hB hb P3)
    | (go_at_call 16; ((with_reducible refine (HT1.out _ K4.out).mono ?_); rintro r w5 ⟨A5, rfl, hT, hb⟩); have P5 := Lib.hid (HPin.out _ _ _ P4.out hb); have B5 := Lib.hid (HBin.out _ _ _ B4.out hb); have K5 := Lib.hid (stepB K4.out hb); have T5 := Lib.hid hT; clear hT hb P4 B4)
    | (go_at_call 17; ((with_reducible refine (HT2.out _ K5.out).mono ?_); rintro r w6 ⟨rfl, hb⟩); have P6 := Lib.hid (HPin.out _ _ _ P5.out hb); have B6 := Lib.hid (HBin.out _ _ _ B5.out hb); have K6 := Lib.hid (stepB K5.out hb); have T6 := Lib.hid (T5.out.below hb); clear hb P5 B5 T5))
  clear HL HC1 HC2 HT1 HT2 K3 K4 K5
  go_loopw [14, 13, 15] (fun i u _ wr => ∃ k : Nat, k ≤ N ∧ i = .int .i64 k ∧ OwnP w6.heap.size wr u (spansTo g N k) ∧ Below w6.heap.size w6 wr) (fun i _ _ _ => N - (intOf i).toNat)
  case atStart => exact ⟨0, by omega, rfl, ⟨rfl, .inl ⟨rfl, rfl⟩⟩, Below.refl _ _⟩
  case round =>
    obtain ⟨k, hk, rfl, hown, hb⟩ := hrel
    by_cases hlt : k < N
    · obtain ⟨mb, n, hNn, rfl, hM6, _⟩ := T6.out.at_ hlt
      have HM6 := Lib.hid hM6
      have hkn : (k : Int) < (N : Int) := by omega
      have HLk : Hid ((spansTo g N k).length ≤ 20000) := by
        show _ ≤ _
        have := HLen.out k
        have h2 : k * N ≤ 101 * 101 := Nat.mul_le_mul (by omega) (by omega)
        omega
      have HStep : Hid (spansTo g N (k + 1) = spansTo g N k ++ rowS g k N) := rfl
      obtain ⟨S0, hS0⟩ : ∃ S0, S0 = spansTo g N k := ⟨_, rfl⟩
      rw [← hS0] at hown HLk HStep
      have HOw := Lib.hid hown
      have HB0 := Lib.hid hb
      have HNn := Lib.hid hNn
      clear hown hb hM6 hS0 HT3 HT4 HT5 HSm HQ1 HQ2 HAw hNn
      obtain ⟨wq, rfl⟩ : ∃ wq : World, wq = wr := ⟨_, rfl⟩
      go_wp2
      go_loopw [15, 13] (fun i u wx => ∃ j : Nat, j ≤ N ∧ i = .int .i64 j ∧ OwnP w6.heap.size wx u (S0 ++ rowS g k j) ∧ Below w6.heap.size w6 wx) (fun i _ _ => N - (intOf i).toNat)
      case atStart => exact ⟨0, by omega, rfl, by rw [rowS_zero, List.append_nil]; exact HOw.out, HB0.out⟩
      case round =>
        clear HOw HB0
        obtain ⟨j, hj, rfl, hown, hb⟩ := hrel
        have hMx := HM6.out.below hb
        have q1 := cell_of hMx.o (i := k) (by have := HNn.out; omega)
        unfold rowV at q1
        rw [← HNn.out] at q1
        by_cases hlj : j < N
        · have hjn : (j : Int) < (N : Int) := by omega
          have q2 := cell_of (hMx.r k (by have := HNn.out; omega)) (i := j) (by have := HNn.out; omega)
          unfold boolV at q2
          obtain ⟨P, hP⟩ : ∃ P, P = S0 ++ rowS g k j := ⟨_, rfl⟩
          have hY : Hid (g k j = true → S0 ++ rowS g k (j + 1) = P ++ [(k, j)]) := fun h => by rw [hP, rowS_yes h, List.append_assoc]
          have hNo : Hid (g k j = false → S0 ++ rowS g k (j + 1) = P) := fun h => by rw [hP, rowS_no h]
          obtain ⟨m2, hm2⟩ : ∃ m2, m2 = P.length := ⟨_, rfl⟩
          have hPl : m2 ≤ 30000 := by
            have h1 := HLk.out
            have h2 := HRow.out k j
            rw [hm2, hP, List.length_append]
            omega
          unfold OwnP at hown
          rw [← hP, ← hm2] at hown
          obtain ⟨A', c', rfl, _⟩ := Ap.own_form hown
          have HM2 := Lib.hid hm2
          clear hP hm2 hMx
          have hsz := hb.size
          generalize g k j = y at *
          cases y with
          | true =>
            go_wp2_with (at_builtin; refine wpList_append_own _ rfl _ _ 48 rfl w6.heap.size 50 i0 _ 2 16 Try.underlying48 hi hz0 hz1 hz2 rfl (by decide) _ _ _ rfl (Ap.own_bel hown (Cb.bal (Below.refl _ _) _)) ⟨wr.heap.size, 0, none⟩ 1 1 [.int .i64 k, .int .i64 j] rfl rfl (cells_two _ _ _ _) (by simp [Value.oneCell']) (by unfold maxLen; omega) (by omega) (by simp; omega) ?_; intro v' w7 hown' hgrow _)
            have hb7 : Below w6.heap.size w6 w7 := (hb.alloc hsz _).grown hgrow (by simp; omega) (fun q hq => (hown.lt q hq).1)
            go_roundw
            case rel =>
              refine ⟨j + 1, by omega, by go_num, ?_, hb7⟩
              rw [hY.out rfl]
              unfold OwnP
              rw [pairV_snoc, List.length_append, ← HM2.out]
              exact hown'
            case measure => simp [intOf]; omega
          | false =>
            go_wp2
            go_roundw
            case rel =>
              refine ⟨j + 1, by omega, by go_num, ?_, hb⟩
              rw [hNo.out rfl]
              unfold OwnP
              rw [← HM2.out]
              exact hown
            case measure => simp [intOf]; omega
        · obtain rfl : j = N := by omega
          have HO := Lib.hid hown
          clear hown hMx
          go_wp2
          go_roundw
          case rel => exact ⟨k + 1, by omega, by go_num, by rw [HStep.out]; exact HO.out, hb⟩
          case measure => simp [intOf]; omega
    · obtain rfl : N = k := by omega
      unfold OwnP at hown
      generalize spansTo g N N = LL at *
      obtain ⟨m, hm⟩ : ∃ m, m = LL.length := ⟨_, rfl⟩
      have HPr0 : Hid (∀ A' c', wr.ownsRow w6.heap.size 50 2 (.slice A' LL.length c') LL.length (pairV LL) → PrsAt w6.heap.size wr A' LL 0) := fun A' c' h => PrsAt.own h
      have HPr1 : Hid (∀ X b A' c', X.ownsRow b 50 2 (.slice A' LL.length c') LL.length (pairV LL) → PrsAt b X A' LL 0) := fun X b A' c' h => PrsAt.own h
      have HPx : Hid (∀ b X A' k, PrsAt b X A' LL k → ∀ j, k ≤ j → j < m → _) := fun b X A' k (h : PrsAt b X A' LL k) j h1 (h2 : j < m) => h j h1 (by rw [← hm]; exact h2)
      rw [← hm] at hown HPr0 HPr1 HT5 hS
      obtain ⟨A7, c7, rfl, _⟩ := Ap.own_form hown
      have HPr := Lib.hid (HPr0.out _ _ hown)
      have KZ := Lib.hid (stepB K6.out hb)
      have PZ := Lib.hid (HPin.out _ _ _ P6.out hb)
      have BZ := Lib.hid (HBin.out _ _ _ B6.out hb)
      have TZ := Lib.hid (T6.out.below hb)
      clear hown hb HPr0 P6 B6 T6 K6 hlt hk HLen HRow hm hi hz0 hz1 hz2
      obtain ⟨wz, rfl⟩ : ∃ wz : World, wz = wr := ⟨_, rfl⟩
      have e1 : (E != E) = false := by simp
      have e2 : (R != R) = false := by cases R <;> rfl
      have e3 : ((m : Int) != (m : Int)) = false := by simp
      have hne := fun x y w => neq_pair x y w
      go_wp2
      go_loopw [16, 17, 18, 19, 20, 21, 22, 23, 24] (fun i _ _ _ _ _ _ _ _ wr => ∃ k : Nat, k ≤ 2 ∧ i = .int .i64 k ∧ Hid (Below wz.heap.size wz wr)) (fun i _ _ _ _ _ _ _ _ _ => 2 - (intOf i).toNat)
      case atStart => exact ⟨0, by omega, rfl, Below.refl _ _⟩
      case round =>
        obtain ⟨k, hk, rfl, KR⟩ := hrel
        by_cases hk2 : k = 2
        · subst hk2
          go_wp2_with (go_at_call 13; ((with_reducible refine (HAw.out _).mono ?_); rintro r w2 ⟨rfl, hb2⟩))
          go_ret
          exact ⟨rfl, stepB (stepB KZ.out KR.out) hb2⟩
        · have hk3 : k < 2 := by omega
          have P0 := Lib.hid (HPin.out _ _ _ PZ.out KR.out)
          have B0 := Lib.hid (HBin.out _ _ _ BZ.out KR.out)
          have T0 := Lib.hid (TZ.out.below KR.out)
          have K0 := Lib.hid (stepB KZ.out KR.out)
          obtain ⟨wy, rfl⟩ : ∃ wy : World, wy = wr := ⟨_, rfl⟩
          go_upto_region 21 with (first
            | (go_at_call 18; ((with_reducible refine (HT3.out _ _ _ _ _ P0.out B0.out).mono ?_); rintro r w7 ⟨A8, rfl, hT, hb⟩); have P1 := Lib.hid (HPin.out _ _ _ P0.out hb); have B1 := Lib.hid (HBin.out _ _ _ B0.out hb); have T1 := Lib.hid (T0.out.below hb); have Y1 := Lib.hid hT; have J1 := Lib.hid hb; clear hT hb P0 B0 T0)
            | (go_at_call 19; ((with_reducible refine (HT4.out _ _ _ _ _ P1.out B1.out).mono ?_); rintro r w8 ⟨rfl, hb⟩); have P2 := Lib.hid (HPin.out _ _ _ P1.out hb); have B2 := Lib.hid (HBin.out _ _ _ B1.out hb); have T2 := Lib.hid (T1.out.below hb); have Y2 := Lib.hid (Y1.out.below hb); have J2 := Lib.hid (stepB J1.out hb); clear hb P1 B1 T1 Y1 J1)
            | (go_at_call 20; ((with_reducible refine (HT5.out _ _ _ _ _ P2.out B2.out).mono ?_); rintro r w9 ⟨A9, c9, rfl, hO, hb⟩); have P3 := Lib.hid (HPin.out _ _ _ P2.out hb); have B3 := Lib.hid (HBin.out _ _ _ B2.out hb); have T3 := Lib.hid (T2.out.below hb); have Y3 := Lib.hid (Y2.out.below hb); have O3 := Lib.hid hO; have J3 := Lib.hid (stepB J2.out hb); have Z3 := Lib.hid (J2.out.size); have S3 := Lib.hid hb; clear hO hb P2 B2 T2 J2))
          clear HT3 HT4 HT5
          go_upto_region 23 with (first
            | (go_at_call 21; ((with_reducible refine (HSm.out _ _ _ _ _ Y3.out T3.out).mono ?_); rintro r w10 ⟨rfl, hb⟩); have G4 := Lib.hid hb; clear hb)
            | (go_at_call 22; ((with_reducible refine (HQ1.out _ _ _ (stepB (stepB K0.out J3.out) G4.out) (HPin.out _ _ _ P3.out G4.out)).mono ?_); rintro r w11 ⟨rfl, hb⟩); have G5 := Lib.hid (stepB G4.out hb); clear hb G4)
            | (go_at_call 23; ((with_reducible refine (HQ2.out _ _ _ (stepB (stepB K0.out J3.out) G5.out) (HBin.out _ _ _ B3.out G5.out)).mono ?_); rintro r w12 ⟨rfl, hb⟩); have G6 := Lib.hid (stepB G5.out hb); clear hb G5))
          have Pr6 := Lib.hid ((HPr1.out _ _ _ _ O3.out).below G6.out)
          have Q6 := Lib.hid (stepB (stepB KR.out J3.out) G6.out)
          have R6 := Lib.hid (stepB S3.out G6.out)
          have V6 := Lib.hid (stepB J3.out G6.out)
          clear HSm HQ1 HQ2 O3 P3 B3 T3 Y3 G6 J3 S3 HPr1 HAw
          have hzy := KR.out.size
          have hz8 : wz.heap.size ≤ w8.heap.size := Nat.le_trans hzy Z3.out
          have HZ8 := Lib.hid hz8
          clear hzy hz8
          go_wp2
          go_loopw [23] (fun i wr => ∃ q : Nat, q ≤ m ∧ i = .int .i64 q ∧ Hid (PrsAt w8.heap.size wr A9 LL q) ∧ Hid (Below w8.heap.size w12 wr)) (fun i _ => m - (intOf i).toNat)
          case atStart => exact ⟨0, by omega, rfl, Pr6, Below.refl _ _⟩
          case round =>
            clear Pr6
            obtain ⟨q, hq, rfl, HL, HB⟩ := hrel
            by_cases hqm : q < m
            · obtain ⟨gl, rfl, hgl, l0, l1, l2, l3, l4⟩ := HPx.out _ _ _ _ HL.out q (Nat.le_refl _) hqm
              have hpr := HPr.out.below (Q6.out.trans (HB.out.mono HZ8.out))
              obtain ⟨gp, e7, _, r0, r1, r2, _, _⟩ := HPx.out _ _ _ _ hpr q (Nat.zero_le _) hqm
              subst e7
              have hqi : (q : Int) < (m : Int) := by omega
              have HL2 := Lib.hid fun nq => (HL.out.below (Ap.drewN_below wr nq)).next rfl (.int .i64 9) (.int .i64 9)
              have HB2 := Lib.hid fun nq => ((HB.out.trans ((Ap.drewN_below wr nq).mono (Nat.le_trans R6.out.size HB.out.size))).setCell (p := ⟨gl, q * 2, none⟩) hgl (.int .i64 9)).setCell (p := ⟨gl, q * 2 + 1, none⟩) hgl (.int .i64 9)
              clear HL HB hpr hgl
              generalize pr LL q = xy at *
              obtain ⟨x, y⟩ := xy
              simp only at l1 l2 r1 r2
              go_wp2
              go_quiet (fail)
              go_wp2
              go_roundw
              case rel => exact ⟨q + 1, by omega, by go_num, HL2.out _, HB2.out _⟩
              case measure => simp [intOf]; omega
            · obtain rfl : m = q := by omega
              have HY5 : Hid (∃ g', TabV wy.heap.size wr A8 N g') := ⟨g, Y2.out.below (R6.out.trans HB.out)⟩
              have HW5 : Hid (Below wy.heap.size wy wr) := V6.out.trans (HB.out.mono Z3.out)
              clear HL HB Y2 R6 V6 Z3 Q6 HPr HPx
              obtain ⟨wx, rfl⟩ : ∃ wx : World, wx = wr := ⟨_, rfl⟩
              go_wp2
              go_loopw [24] (fun i wr => ∃ q : Nat, q ≤ N ∧ i = .int .i64 q ∧ Hid (∃ g', TabV wy.heap.size wr A8 N g') ∧ Hid (Below wy.heap.size wy wr)) (fun i _ => N - (intOf i).toNat)
              case atStart => exact ⟨0, by omega, rfl, HY5, HW5⟩
              case round =>
                clear HY5 HW5
                obtain ⟨q, hq, rfl, HY, HW⟩ := hrel
                by_cases hqn : q < N
                · obtain ⟨g5, hY⟩ := HY.out
                  obtain ⟨mb, n, hNn, rfl, hM, hge⟩ := hY.at_ hqn
                  have c1 := cell_of hM.o (i := q) (by omega)
                  unfold rowV at c1
                  have HO := Lib.hid (OverBools_row mb n wy.heap.size q (by omega) hge (by omega) wr ⟨g5, hM⟩)
                  rw [← hNn] at c1 HO
                  have HRe : Hid (∀ X, (∃ g, MatAt X mb n g) → ∃ g, TabV wy.heap.size X (some ⟨mb, 0, none⟩) N g) := fun X ⟨g, h⟩ => ⟨g, .inr ⟨mb, n, hNn, rfl, h, hge⟩⟩
                  have hqi : (q : Int) < (N : Int) := by omega
                  clear hY hM HY hNn hge
                  go_wp2_with (go_at_call 24; ((with_reducible refine HO.out.mono ?_); rintro r w14 ⟨rfl, hg, hb⟩); have HY2 := Lib.hid (HRe.out _ hg); have HW2 := Lib.hid (HW.out.trans hb); clear hg hb)
                  go_roundw
                  case rel => exact ⟨q + 1, by omega, by go_num, HY2, HW2⟩
                  case measure => simp [intOf]; omega
                · obtain rfl : N = q := by omega
                  go_wp2
                  go_roundw
                  case rel => exact ⟨k + 1, by omega, by go_num, stepB KR.out HW.out⟩
                  case measure => simp [intOf]; omega
end Go.Proofs.Yteckkbjpeckjmaa.Rx
