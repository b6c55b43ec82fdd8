/- The reference's Distinguish. -/
import Derived.Test.YtkgeihambgbjdaaDoorSO
import Derived.Test.YtkgeihambgbjdaaDoorKE
namespace Go.Proofs.YtkgeihambgbjdaaDoor.Mi
open Go Go.RowKit Go.Proofs.YtkgeihambgbjdaaDoor Go.Proofs.YtkgeihambgbjdaaDoor.Cb Go.Proofs.YtkgeihambgbjdaaDoor.Sb
open Go.Proofs.YtkgeihambgbjdaaDoor.Nf (Bys zvs bvs ret_int ret_b drew_below hnext)
open Go.Proofs.YtkgeihambgbjdaaDoor.Dg (Tabs tb tb_mem)
set_option linter.unusedVariables false
set_option linter.unusedSimpArgs false
set_option linter.unusedSectionVars false
set_option maxRecDepth 100000
theorem ext_shift (L : Nat) : ∀ (u : List Nat) (c : Nat), ext L c u = c * L ^ u.length + ext L 0 u
  | [], c => by show c = c * L ^ 0 + 0; rw [Nat.pow_zero, Nat.mul_one, Nat.add_zero]
  | x :: u, c => by
    show ext L (c * L + x + 1) u = c * L ^ (u.length + 1) + ext L (0 * L + x + 1) u
    rw [ext_shift L u (c * L + x + 1), ext_shift L u (0 * L + x + 1), Nat.pow_succ]
    have e1 : (c * L + x + 1) * L ^ u.length = c * (L ^ u.length * L) + (x + 1) * L ^ u.length := by
      rw [Nat.add_assoc, Nat.add_mul]
      congr 1
      rw [Nat.mul_assoc, Nat.mul_comm L]
    have e2 : (0 * L + x + 1) * L ^ u.length = (x + 1) * L ^ u.length := by rw [Nat.zero_mul, Nat.zero_add]
    rw [e1, e2]
    omega
/-- The smallest word's first letter, and what is behind it. -/
theorem Least.head {d : Da} {s t x : Nat} {v : List Nat} (h : Least d s t (x :: v) true) : (∀ y, y < x → te (2 ^ d.V.toNat) (dlt d.nx) (fiB d) v.length (dlt d.nx s y) (dlt d.nx t y) = false) ∧ te (2 ^ d.V.toNat) (dlt d.nx) (fiB d) v.length (dlt d.nx s x) (dlt d.nx t x) = true ∧ Least d (dlt d.nx s x) (dlt d.nx t x) v true ∧ x < 2 ^ d.V.toNat := by
  have hL : 0 < 2 ^ d.V.toNat := Nat.one_le_two_pow
  have hx : x < 2 ^ d.V.toNat := h.lt x List.mem_cons_self
  have hv : ∀ y ∈ v, y < 2 ^ d.V.toNat := fun y hy => h.lt y (List.mem_cons_of_mem _ hy)
  obtain ⟨h1, h2⟩ := h.yes rfl
  refine ⟨fun y hy => ?_, (te_word _ _ _ _ _ _).2 ⟨v, Nat.le_refl _, hv, h1⟩, ⟨hv, fun _ => ⟨h1, fun u' hu' hlt => ?_⟩, fun e => (by cases e)⟩, hx⟩
  · cases hc : te (2 ^ d.V.toNat) (dlt d.nx) (fiB d) v.length (dlt d.nx s y) (dlt d.nx t y) with
    | false => rfl
    | true =>
      obtain ⟨v', h3, h4, h5⟩ := (te_word _ _ _ _ _ _).1 hc
      have hyv : ∀ z ∈ y :: v', z < 2 ^ d.V.toNat := fun z hz => by
        rcases List.mem_cons.1 hz with rfl | hz
        · omega
        · exact h4 z hz
      refine absurd (h2 (y :: v') hyv ?_) h5
      by_cases h6 : v'.length < v.length
      · exact ext_short _ hL hyv (by simp; omega)
      · have := ext_lex (2 ^ d.V.toNat) hy h4 (b := v) (by omega) [] 0
        exact this
  · refine h2 (x :: u') (fun z hz => ?_) ?_
    · rcases List.mem_cons.1 hz with rfl | hz
      · exact hx
      · exact hu' z hz
    · show ext _ (0 * _ + x + 1) u' < ext _ (0 * _ + x + 1) v
      rw [ext_shift _ u', ext_shift _ v]
      have hle : u'.length ≤ v.length := by
        apply Decidable.byContradiction
        intro hc
        have := ext_short _ hL hv (show v.length < u'.length by omega)
        omega
      have := Nat.mul_le_mul_left (0 * 2 ^ d.V.toNat + x + 1) (Nat.pow_le_pow_right hL hle)
      omega
theorem cell_lt {w : World} {ad : Addr} {v : Value} (h : w.cell? ad = some v) : ad.block < w.heap.size := World.block_lt_of_cell? w _ h
section
variable (d : Da) (A B : Option Addr) (a b : Nat) (w : World)
theorem differ_at (hx : DaAt w d A B) (hO : OkD d) (hn : d.nx.length ≤ 1000) (k : Nat) (hk : k ≤ d.nx.length) :
    Calls Tryd.prog 41 #[.agg #[.int .i64 d.V, .int .i64 d.q0, .slice A d.nx.length a, .slice B d.fi.length b], .int .i64 k] w fun e w' => ∃ mb, e = .returned (.slice (some ⟨mb, 0, none⟩) d.nx.length d.nx.length) ∧ (∀ i j, i < d.nx.length → j < d.nx.length → w'.cell? ⟨mb, i, none⟩ = some (.slice (some ⟨mb + 1 + i, 0, none⟩) d.nx.length d.nx.length) ∧ w'.cell? ⟨mb + 1 + i, j, none⟩ = some (.bool (te (2 ^ d.V.toNat) (dlt d.nx) (fiB d) k i j))) ∧ Below w.heap.size w w' :=
  (differ_any d A B a b w hx hO hn k (by omega) (by omega)).mono fun e w' ⟨mb, f, h1, h2, h3, h4⟩ => ⟨mb, h1, fun i j hi hj => by
    have := h2.cell hi hj
    rwa [h3 i j hi hj, Int.toNat_natCast, Nat.min_eq_left hk] at this, h4⟩
set_option maxHeartbeats 16000000 in
theorem refDistinguish_bad (hx : DaAt w d A B) (hl : DaLen d) (s t : Int) (h0 : chkS d s t ≠ 0) :
    Calls Tryd.prog 24 #[.agg #[.int .i64 d.V, .int .i64 d.q0, .slice A d.nx.length a, .slice B d.fi.length b], .int .i64 s, .int .i64 t] w fun e w' => e = .returned (.tuple #[.slice none 0 0, .bool false, .int .i64 (chkS d s t)]) ∧ Below w.heap.size w w' := by
  have hb0 := bal (Below.refl w.heap.size w) (.cells #[.int .i64 d.V, .int .i64 d.q0, .slice A d.nx.length a, .slice B d.fi.length b] 25)
  have hB0 := Blk4.new w (.int .i64 d.V) (.int .i64 d.q0) (.slice A d.nx.length a) (.slice B d.fi.length b)
  obtain ⟨z0, z1, z2, z3⟩ := hB0.cells
  have HC := Lib.hid (refCheck7_any d A B a b (w.alloc (.cells #[.int .i64 d.V, .int .i64 d.q0, .slice A d.nx.length a, .slice B d.fi.length b] 25)) (hx.below hb0) hl)
  by_cases hc : chkD d = 0
  · have h8 : chkS d s t = 8 := by
      unfold chkS at h0 ⊢
      rw [if_neg (by simpa using hc)] at h0 ⊢
      split at h0
      · exact absurd rfl h0
      · rename_i h9; rw [if_neg h9]
    have hor : (s < 0 ∨ (0 ≤ s ∧ (d.nx.length : Int) ≤ s) ∨ (0 ≤ s ∧ s < (d.nx.length : Int) ∧ t < 0) ∨ (0 ≤ s ∧ s < (d.nx.length : Int) ∧ 0 ≤ t ∧ (d.nx.length : Int) ≤ t)) := by
      have h1 : ¬ ((0 ≤ s ∧ s < (d.nx.length : Int)) ∧ 0 ≤ t ∧ t < (d.nx.length : Int)) := fun ⟨⟨e1, e2⟩, e3, e4⟩ => by
        unfold chkS isSt at h0
        rw [if_neg (by simpa using hc), decide_eq_true e1, decide_eq_true e2, decide_eq_true e3, decide_eq_true e4] at h0
        exact h0 rfl
      omega
    rw [h8]
    rw [hc] at HC
    clear hx hl h0 hc h8
    generalize d.nx.length = nn at *
    generalize d.fi.length = nf at *
    have hnn : (0 : Int) ≤ (nn : Int) := by omega
    rcases hor with h1 | ⟨h1, h2⟩ | ⟨h1, h2, h3⟩ | ⟨h1, h2, h3, h4⟩
    · have e1 : decide (s < 0) = true := decide_eq_true h1
      go_enter Tryd.func24, Tryd.ntmps24
      go_wp2_with (go_at_call 11; ((with_reducible refine HC.out.mono ?_); rintro e w2 ⟨rfl, hb2⟩); replace hB0 := hB0.below hb2; replace hb0 := stepB hb0 hb2; clear z0 z1 z2 z3; obtain ⟨z0, z1, z2, z3⟩ := hB0.cells)
      go_ret3
      exact ⟨rfl, hb0⟩
    · have e1 : decide (s < 0) = false := decide_eq_false (by omega)
      have e2 : decide ((nn : Int) ≤ s) = true := decide_eq_true h2
      go_enter Tryd.func24, Tryd.ntmps24
      go_wp2_with (go_at_call 11; ((with_reducible refine HC.out.mono ?_); rintro e w2 ⟨rfl, hb2⟩); replace hB0 := hB0.below hb2; replace hb0 := stepB hb0 hb2; clear z0 z1 z2 z3; obtain ⟨z0, z1, z2, z3⟩ := hB0.cells)
      go_ret3
      exact ⟨rfl, hb0⟩
    · have e1 : decide (s < 0) = false := decide_eq_false (by omega)
      have e2 : decide ((nn : Int) ≤ s) = false := decide_eq_false (by omega)
      have e3 : decide (t < 0) = true := decide_eq_true h3
      go_enter Tryd.func24, Tryd.ntmps24
      go_wp2_with (go_at_call 11; ((with_reducible refine HC.out.mono ?_); rintro e w2 ⟨rfl, hb2⟩); replace hB0 := hB0.below hb2; replace hb0 := stepB hb0 hb2; clear z0 z1 z2 z3; obtain ⟨z0, z1, z2, z3⟩ := hB0.cells)
      go_ret3
      exact ⟨rfl, hb0⟩
    · have e1 : decide (s < 0) = false := decide_eq_false (by omega)
      have e2 : decide ((nn : Int) ≤ s) = false := decide_eq_false (by omega)
      have e3 : decide (t < 0) = false := decide_eq_false (by omega)
      have e4 : decide ((nn : Int) ≤ t) = true := decide_eq_true h4
      go_enter Tryd.func24, Tryd.ntmps24
      go_wp2_with (go_at_call 11; ((with_reducible refine HC.out.mono ?_); rintro e w2 ⟨rfl, hb2⟩); replace hB0 := hB0.below hb2; replace hb0 := stepB hb0 hb2; clear z0 z1 z2 z3; obtain ⟨z0, z1, z2, z3⟩ := hB0.cells)
      go_ret3
      exact ⟨rfl, hb0⟩
  · have h8 : chkS d s t = chkD d := by unfold chkS; rw [if_pos hc]
    rw [h8]
    have hne : (chkD d != 0) = true := by rw [bne_iff_ne]; exact hc
    clear hx hl h0 hc h8
    generalize chkD d = E at *
    generalize d.nx.length = nn at *
    generalize d.fi.length = nf at *
    go_enter Tryd.func24, Tryd.ntmps24
    go_wp2_with (go_at_call 11; ((with_reducible refine HC.out.mono ?_); rintro e w2 ⟨rfl, hb2⟩); replace hb0 := stepB hb0 hb2; clear z0 z1 z2 z3)
    go_ret3
    exact ⟨rfl, hb0⟩
/-- What the reference's Distinguish answers. -/
def RdPost (w : World) (u : List Nat) (q : Bool) (e : Ending) (w' : World) : Prop := ∃ D c, e = .returned (.tuple #[.slice D u.length c, .bool q, .int .i64 0]) ∧ Bys w' D u ∧ Below w.heap.size w w'
/-- A search in the midst: the letters found, the two states, the rest of the word. -/
structure Rst (w : World) (d : Da) (u dn v : List Nat) (s t : Nat) (rv : Value) (X : World) : Prop where
  b : Below w.heap.size w X
  o : X.ownsRow w.heap.size 5 1 rv dn.length (wvs dn)
  l : Least d s t v true
  e : dn ++ v = u
  s : s < d.nx.length
  t : t < d.nx.length
set_option maxHeartbeats 32000000 in
theorem refDistinguish_good (hx : DaAt w d A B) (h0 : chkD d = 0) (hn : d.nx.length ≤ 1000) (s t : Nat) (hs : s < d.nx.length) (ht : t < d.nx.length) {u : List Nat} {q : Bool} (hu : Least d s t u q) :
    Calls Tryd.prog 24 #[.agg #[.int .i64 d.V, .int .i64 d.q0, .slice A d.nx.length a, .slice B d.fi.length b], .int .i64 s, .int .i64 t] w (RdPost w u q) := by
  have hO := okD_of h0
  have hb0 := bal (Below.refl w.heap.size w) (.cells #[.int .i64 d.V, .int .i64 d.q0, .slice A d.nx.length a, .slice B d.fi.length b] 25)
  have hB0 := Blk4.new w (.int .i64 d.V) (.int .i64 d.q0) (.slice A d.nx.length a) (.slice B d.fi.length b)
  have HC := refCheck7_any d A B a b (w.alloc (.cells #[.int .i64 d.V, .int .i64 d.q0, .slice A d.nx.length a, .slice B d.fi.length b] 25)) (hx.below hb0) hO.len
  rw [h0] at HC
  have HC := Lib.hid HC
  have HDf : Hid (∀ X, Below w.heap.size w X → ∀ k : Nat, k ≤ d.nx.length → Calls Tryd.prog 41 #[.agg #[.int .i64 d.V, .int .i64 d.q0, .slice A d.nx.length a, .slice B d.fi.length b], .int .i64 k] X fun e w' => ∃ mb, e = .returned (.slice (some ⟨mb, 0, none⟩) d.nx.length d.nx.length) ∧ (∀ i j, i < d.nx.length → j < d.nx.length → w'.cell? ⟨mb, i, none⟩ = some (.slice (some ⟨mb + 1 + i, 0, none⟩) d.nx.length d.nx.length) ∧ w'.cell? ⟨mb + 1 + i, j, none⟩ = some (.bool (te (2 ^ d.V.toNat) (dlt d.nx) (fiB d) k i j))) ∧ Below X.heap.size X w') := fun X hX k hk => differ_at d A B a b X (hx.below hX) hO hn k hk
  have HRow : Hid (∀ s, s < d.nx.length → ∃ ad p c, A = some ad ∧ (∀ X, Below w.heap.size w X → X.cell? (ad.add s) = some (.slice p (2 ^ d.V.toNat) c)) ∧ ∀ x, x < 2 ^ d.V.toNat → ∃ pd, p = some pd ∧ ∀ X, Below w.heap.size w X → X.cell? (pd.add x) = some (.int .i64 (dlt d.nx s x : Nat))) := fun s hs => by
    obtain ⟨ad, p, c, h1, hl1, h2, h3⟩ := hx.nx s hs
    have hl := (hO.row _ (tb_mem hs)).1
    rw [hl] at h2
    refine ⟨ad, p, c, h1, fun X hX => (hX.cell (by rw [addr_block]; exact hl1)).trans h2, fun x hx1 => ?_⟩
    obtain ⟨pd, h4, hl2, h5⟩ := h3 x (by rw [hl]; exact hx1)
    replace h5 : w.cell? (pd.add x) = some (.int .i64 (nd (tb d.nx s) x)) := h5
    rw [(okD_dl hO hs hx1).1] at h5
    exact ⟨pd, h4, fun X hX => (hX.cell (by rw [addr_block]; exact hl2)).trans h5⟩
  have HDl := Lib.hid fun s x hs hx1 => (okD_dl hO (s := s) (x := x) hs hx1).2
  have hus := hu.short hO hs ht
  have HT := Lib.hid fun k => hu.tek k
  have hL6 : 2 ^ d.V.toNat ≤ 64 := Dg.pow7 (by have := hO.v6; omega)
  have HLs := Lib.hid hu
  have HNo : Hid (q = false → u = []) := fun h => (hu.no h).1
  obtain ⟨i0, hi0, hz0, hz1, hz2⟩ := info_parts info_u8E
  obtain ⟨z0, z1, z2, z3⟩ := hB0.cells
  have hsn : (s : Int) < (d.nx.length : Int) := by omega
  have htn : (t : Int) < (d.nx.length : Int) := by omega
  have e1 : decide ((s : Int) < 0) = false := decide_eq_false (by omega)
  have e2 : decide ((d.nx.length : Int) ≤ (s : Int)) = false := decide_eq_false (by omega)
  have e3 : decide ((t : Int) < 0) = false := decide_eq_false (by omega)
  have e4 : decide ((d.nx.length : Int) ≤ (t : Int)) = false := decide_eq_false (by omega)
  have e5 : decide (d.nx.length ≤ s) = false := decide_eq_false (by omega)
  have e6 : decide (d.nx.length ≤ t) = false := decide_eq_false (by omega)
  clear hx hO hu h0
  generalize hnn : d.nx.length = n at *
  generalize d.fi.length = nf at *
  have HNN := Lib.hid hnn
  clear hnn
  cases q with
  | false =>
    have hun := HNo.out rfl
    subst hun
    go_enter Tryd.func24, Tryd.ntmps24
    go_wp2_with (go_at_call 11; ((with_reducible refine HC.out.mono ?_); rintro e w2 ⟨rfl, hb2⟩); replace hB0 := hB0.below hb2; replace hb0 := stepB hb0 hb2; clear z0 z1 z2 z3; obtain ⟨z0, z1, z2, z3⟩ := hB0.cells)
    have HB := Lib.hid (And.intro hb0 hB0)
    clear z0 z1 z2 z3 hb0 hB0
    go_loopw [10] (fun kv wr => ∃ k : Nat, k ≤ n + 1 ∧ kv = .int .i64 k ∧ Hid (Below w.heap.size w wr ∧ Blk4 wr w.heap.size (.int .i64 d.V) (.int .i64 d.q0) (.slice A n a) (.slice B nf b))) (fun kv _ => n + 1 - (intOf kv).toNat)
    case atStart => exact ⟨0, by omega, rfl, HB⟩
    case round =>
      clear HB
      obtain ⟨k, hk, rfl, HB⟩ := hrel
      obtain ⟨hb0, hB0⟩ := HB.out
      obtain ⟨z0, z1, z2, z3⟩ := hB0.cells
      by_cases hk2 : k ≤ n
      · have hd1 : decide ((k : Int) ≤ (n : Int)) = true := decide_eq_true (by omega)
        have hd2 : decide (k ≤ n) = true := decide_eq_true hk2
        have hte : te (2 ^ d.V.toNat) (dlt d.nx) (fiB d) k s t = false := HT.out k
        go_wp2_with (go_at_call 41; ((with_reducible refine (HDf.out _ hb0 k hk2).mono ?_); rintro e w4 ⟨mb, rfl, hm, hb4⟩); obtain ⟨m1, m2⟩ := hm s t hs ht; rw [hte] at m2; have HB2 := Lib.hid (And.intro (stepB hb0 hb4) (hB0.below hb4)); clear hm)
        go_roundw
        case rel => exact ⟨k + 1, by omega, by go_num, HB2⟩
        case measure => simp [intOf]; omega
      · obtain rfl : k = n + 1 := by omega
        have hd1 : decide (((n + 1 : Nat) : Int) ≤ (n : Int)) = false := decide_eq_false (by omega)
        have hd2 : decide (n + 1 ≤ n) = false := decide_eq_false (by omega)
        have hd3 : decide ((n : Int) < ((n + 1 : Nat) : Int)) = true := decide_eq_true (by omega)
        have hd4 : decide (n < n + 1) = true := decide_eq_true (by omega)
        go_wp2
        go_ret3
        exact ⟨none, 0, rfl, (fun j hj => absurd hj (Nat.not_lt_zero _)), hb0⟩
  | true =>
    clear HNo
    go_enter Tryd.func24, Tryd.ntmps24
    go_wp2_with (go_at_call 11; ((with_reducible refine HC.out.mono ?_); rintro e w2 ⟨rfl, hb2⟩); replace hB0 := hB0.below hb2; replace hb0 := stepB hb0 hb2; clear z0 z1 z2 z3; obtain ⟨z0, z1, z2, z3⟩ := hB0.cells)
    have HB := Lib.hid (And.intro hb0 hB0)
    clear z0 z1 z2 z3 hb0 hB0
    have hun : u.length < n := by have := HNN.out; omega
    go_loopw [10] (fun kv wr => ∃ k : Nat, k ≤ u.length ∧ kv = .int .i64 k ∧ Hid (Below w.heap.size w wr ∧ Blk4 wr w.heap.size (.int .i64 d.V) (.int .i64 d.q0) (.slice A n a) (.slice B nf b))) (fun kv _ => u.length - (intOf kv).toNat)
    case atStart => exact ⟨0, by omega, rfl, HB⟩
    case round =>
      clear HB
      obtain ⟨k, hk, rfl, HB⟩ := hrel
      obtain ⟨hb0, hB0⟩ := HB.out
      obtain ⟨z0, z1, z2, z3⟩ := hB0.cells
      have hkn : k ≤ n := by omega
      have hd1 : decide ((k : Int) ≤ (n : Int)) = true := decide_eq_true (by omega)
      have hd2 : decide (k ≤ n) = true := decide_eq_true (by omega)
      by_cases hk2 : k < u.length
      · have hte : te (2 ^ d.V.toNat) (dlt d.nx) (fiB d) k s t = false := by rw [HT.out k, decide_eq_false (by omega)]; rfl
        go_wp2_with (go_at_call 41; ((with_reducible refine (HDf.out _ hb0 k hkn).mono ?_); rintro e w4 ⟨mb, rfl, hm, hb4⟩); obtain ⟨m1, m2⟩ := hm s t hs ht; rw [hte] at m2; have HB2 := Lib.hid (And.intro (stepB hb0 hb4) (hB0.below hb4)); clear hm)
        go_roundw
        case rel => exact ⟨k + 1, by omega, by go_num, HB2⟩
        case measure => simp [intOf]; omega
      · obtain rfl : k = u.length := by omega
        have hte : te (2 ^ d.V.toNat) (dlt d.nx) (fiB d) u.length s t = true := by rw [HT.out u.length, decide_eq_true (Nat.le_refl _)]; rfl
        have hd3 : decide ((n : Int) < (u.length : Int)) = false := decide_eq_false (by omega)
        have hd4 : decide (n < u.length) = false := decide_eq_false (by omega)
        go_wp2_with (go_at_call 41; ((with_reducible refine (HDf.out _ hb0 u.length hkn).mono ?_); rintro e w4 ⟨mb, rfl, hm, hb4⟩); obtain ⟨m1, m2⟩ := hm s t hs ht; rw [hte] at m2; have HB2 := Lib.hid (And.intro (stepB hb0 hb4) (hB0.below hb4)); clear hm z0 z1 z2 z3; obtain ⟨z0, z1, z2, z3⟩ := (hB0.below hb4).cells)
        clear z0 z1 z2 z3 m1 m2 hte hd1 hd2 hd3 hd4 e1 e2 e3 e4 e5 e6 hsn htn hb0 hB0 HB hk hkn HT HC
        have HSt : Hid (Rst w d u [] u s t (.slice none 0 0) w4) := ⟨HB2.out.1, own_nil _ _ _, HLs.out, rfl, by rw [HNN.out]; exact hs, by rw [HNN.out]; exact ht⟩
        have HN : Hid (Blk4 w4 w.heap.size (.int .i64 d.V) (.int .i64 d.q0) (.slice A n a) (.slice B nf b)) := HB2.out.2
        clear HB2 HLs hk2
        have hul : u.length ≤ 1000 := by omega
        go_loopw [1, 2, 10, 11, 12] (fun sv tv kv rv _ wr => ∃ (s t : Nat) (dn v : List Nat) (r : Value), r = rv ∧ sv = .int .i64 s ∧ tv = .int .i64 t ∧ kv = .int .i64 v.length ∧ Hid (Rst w d u dn v s t r wr) ∧ Hid (Blk4 wr w.heap.size (.int .i64 d.V) (.int .i64 d.q0) (.slice A n a) (.slice B nf b))) (fun _ _ kv _ _ _ => (intOf kv).toNat)
        case atStart => exact ⟨s, t, [], u, _, rfl, rfl, rfl, rfl, HSt, HN⟩
        case round =>
          clear HSt HN hs ht
          obtain ⟨s, t, dn, v, r, rfl, rfl, rfl, rfl, HSt, HN⟩ := hrel
          cases v with
          | nil =>
            have hdn : dn = u := by have := HSt.out.e; rwa [List.append_nil] at this
            subst hdn
            obtain ⟨D, c, rfl, _⟩ := Ap.own_form HSt.out.o
            have HF : Hid (Bys wr D dn) := bys_wvs HSt.out.o rfl
            have HB := Lib.hid HSt.out.b
            clear HSt HN
            go_wp2
            go_ret3
            exact ⟨D, c, rfl, HF.out, HB.out⟩
          | cons x v =>
            obtain ⟨hlo, hat, hLn, hxL⟩ := HSt.out.l.head
            have hs : s < n := by rw [← HNN.out]; exact HSt.out.s
            have ht : t < n := by rw [← HNN.out]; exact HSt.out.t
            have hvu : dn.length + (v.length + 1) = u.length := by have := congrArg List.length HSt.out.e; rw [List.length_append, List.length_cons] at this; exact this
            have HLo := Lib.hid hlo
            have HAt := Lib.hid hat
            have HLn := Lib.hid hLn
            clear hlo hat hLn
            have hvl : (x :: v).length = v.length + 1 := rfl
            rw [hvl]
            have hgt : decide ((0 : Int) < ((v.length + 1 : Nat) : Int)) = true := decide_eq_true (by omega)
            have hgt2 : decide (0 < v.length + 1) = true := decide_eq_true (by omega)
            clear hvl
            generalize hvn : v.length = nv at *
            have HVN := Lib.hid hvn
            clear hvn
            rw [show ((nv + 1 : Nat) : Int) = (nv : Int) + 1 by omega]
            have hgt3 : decide ((0 : Int) < (nv : Int) + 1) = true := decide_eq_true (by omega)
            have hnvn : nv ≤ n := by omega
            have hnv1 : IntKind.i64.wrap ((nv : Int) + 1 - 1) = (nv : Int) := by rw [IntKind.wrap_i64]; omega
            have hnv2 : IntKind.i64.wrap (((nv + 1 : Nat) : Int) - 1) = (nv : Int) := by rw [IntKind.wrap_i64]; omega
            have hnv3 : IntKind.i64.wrap (nv : Int) = (nv : Int) := by rw [IntKind.wrap_i64]; omega
            have hsm : (s : Int) < (n : Int) := by omega
            have htm : (t : Int) < (n : Int) := by omega
            go_wp2
            obtain ⟨wi, rfl⟩ : ∃ wi : World, wi = wr := ⟨_, rfl⟩
            go_loopw [12] (fun yv wr => ∃ y : Nat, y ≤ x ∧ yv = .int .i64 y ∧ Hid (Below wi.heap.size wi wr)) (fun yv _ => x - (intOf yv).toNat)
            case atStart => exact ⟨0, by omega, rfl, Below.refl _ _⟩
            case round =>
              obtain ⟨y, hy, rfl, HBi⟩ := hrel
              have hbw := stepB HSt.out.b HBi.out
              have hNw := HN.out.below HBi.out
              have hyL : y < 2 ^ d.V.toNat := by omega
              obtain ⟨ad, p, c, hA1, c1, hc1⟩ := HRow.out s hs
              obtain ⟨ad', p', c', hA2, c2, hc2⟩ := HRow.out t ht
              subst hA1
              cases hA2
              obtain ⟨pd, hp1, c3⟩ := hc1 y hyL
              obtain ⟨pd', hp2, c4⟩ := hc2 y hyL
              subst hp1
              subst hp2
              have hdi := HDl.out s y hs hyL
              have hdj := HDl.out t y ht hyL
              clear hc1 hc2
              have hLo1 := HLo.out y
              have hAt1 := HAt.out
              generalize hLL : 2 ^ d.V.toNat = L at *
              by_cases hyx : y < x
              · have hTe := hLo1 hyx
                clear hLo1 hAt1
                generalize hdi2 : dlt d.nx s y = di at *
                generalize hdj2 : dlt d.nx t y = dj at *
                clear hdi2 hdj2
                have hym : (y : Int) < (L : Int) := by omega
                have hdim : (di : Int) < (n : Int) := by omega
                have hdjm : (dj : Int) < (n : Int) := by omega
                have hx64 : x ≤ 64 := by omega
                have HSl : Hid (∀ X, Below wr.heap.size wr X → (fun X : World => X.cell? ⟨w.heap.size, 0, none⟩ = some (.int .i64 d.V) ∧ X.cell? ⟨w.heap.size, 1, none⟩ = some (.int .i64 d.q0) ∧ X.cell? ⟨w.heap.size, 2, none⟩ = some (.slice (some ad) n a) ∧ X.cell? ⟨w.heap.size, 3, none⟩ = some (.slice B nf b) ∧ X.cell? (ad.add s) = some (.slice (some pd) L c) ∧ X.cell? (ad.add t) = some (.slice (some pd') L c') ∧ X.cell? (pd.add y) = some (.int .i64 (di : Nat)) ∧ X.cell? (pd'.add y) = some (.int .i64 (dj : Nat))) X) := fun X hX => by
                  obtain ⟨q0, q1, q2, q3⟩ := (hNw.below hX).cells
                  exact ⟨q0, q1, q2, q3, c1 _ (stepB hbw hX), c2 _ (stepB hbw hX), c3 _ (stepB hbw hX), c4 _ (stepB hbw hX)⟩
                obtain ⟨z0, z1, z2, z3⟩ := hNw.cells
                go_wp2
                clear z0 z1 z2 z3
                refine wp_region_any (by kernel_rfl) ?_
                change wpAny _ _ _ _ _ _ _ (World.drew _)
                have KE := drew_below wr
                generalize wr.drew = X0 at *
                have hS0 := HSl.out _ KE
                refine wpAny_head 24 24 (fun X : World => X.cell? ⟨w.heap.size, 0, none⟩ = some (.int .i64 d.V) ∧ X.cell? ⟨w.heap.size, 1, none⟩ = some (.int .i64 d.q0) ∧ X.cell? ⟨w.heap.size, 2, none⟩ = some (.slice (some ad) n a) ∧ X.cell? ⟨w.heap.size, 3, none⟩ = some (.slice B nf b) ∧ X.cell? (ad.add s) = some (.slice (some pd) L c) ∧ X.cell? (ad.add t) = some (.slice (some pd') L c') ∧ X.cell? (pd.add y) = some (.int .i64 (di : Nat)) ∧ X.cell? (pd'.add y) = some (.int .i64 (dj : Nat))) rfl rfl (by kernel_rfl) (by kernel_rfl) (by kernel_rfl) (fun hA => ?_)
                refine wpHead_take (i := 0) (v := ?_) (by kernel_rfl) hA (at_drop rfl) (by decide) (by kernel_rfl) (by kernel_rfl) (by kernel_rfl) (fun _ _ _ h => h) (Or.inl ⟨by rfl, ?_⟩) hS0 (fun hA => ?_)
                rotate_left
                · (intro Y hSY; obtain ⟨s0, s1, s2, s3, s4, s5, s6, s7⟩ := hSY; go_simp <;> with_reducible rfl)
                simp only [Act.put, List.setIfInBounds_toArray, List.set_cons_zero, List.set_cons_succ]
                refine wpHead_take (i := 1) (v := ?_) (by kernel_rfl) hA (at_drop rfl) (by decide) (by kernel_rfl) (by kernel_rfl) (by kernel_rfl) (fun _ _ _ h => h) (Or.inl ⟨by rfl, ?_⟩) hS0 (fun hA => ?_)
                rotate_left
                · (intro Y hSY; obtain ⟨s0, s1, s2, s3, s4, s5, s6, s7⟩ := hSY; go_simp <;> with_reducible rfl)
                simp only [Act.put, List.setIfInBounds_toArray, List.set_cons_zero, List.set_cons_succ]
                refine wpHead_take (i := 2) (v := ?_) (by kernel_rfl) hA (at_drop rfl) (by decide) (by kernel_rfl) (by kernel_rfl) (by kernel_rfl) (fun _ _ _ h => h) (Or.inl ⟨by rfl, ?_⟩) hS0 (fun hA => ?_)
                rotate_left
                · (intro Y hSY; obtain ⟨s0, s1, s2, s3, s4, s5, s6, s7⟩ := hSY; go_simp <;> with_reducible rfl)
                simp only [Act.put, List.setIfInBounds_toArray, List.set_cons_zero, List.set_cons_succ]
                refine wpHead_take (i := 4) (v := ?_) (by kernel_rfl) hA (at_drop rfl) (by decide) (by kernel_rfl) (by kernel_rfl) (by kernel_rfl) (fun _ _ _ h => h) (Or.inl ⟨by rfl, ?_⟩) hS0 (fun hA => ?_)
                rotate_left
                · (intro Y hSY; obtain ⟨s0, s1, s2, s3, s4, s5, s6, s7⟩ := hSY; go_simp <;> with_reducible rfl)
                simp only [Act.put, List.setIfInBounds_toArray, List.set_cons_zero, List.set_cons_succ]
                refine wpHead_take (i := 5) (v := ?_) (by kernel_rfl) hA (at_drop rfl) (by decide) (by kernel_rfl) (by kernel_rfl) (by kernel_rfl) (fun _ _ _ h => h) (Or.inl ⟨by rfl, ?_⟩) hS0 (fun hA => ?_)
                rotate_left
                · (intro Y hSY; obtain ⟨s0, s1, s2, s3, s4, s5, s6, s7⟩ := hSY; go_simp <;> with_reducible rfl)
                simp only [Act.put, List.setIfInBounds_toArray, List.set_cons_zero, List.set_cons_succ]
                refine wpHead_take (i := 6) (v := ?_) (by kernel_rfl) hA (at_drop rfl) (by decide) (by kernel_rfl) (by kernel_rfl) (by kernel_rfl) (fun _ _ _ h => h) (Or.inl ⟨by rfl, ?_⟩) hS0 (fun hA => ?_)
                rotate_left
                · (intro Y hSY; obtain ⟨s0, s1, s2, s3, s4, s5, s6, s7⟩ := hSY; go_simp <;> with_reducible rfl)
                simp only [Act.put, List.setIfInBounds_toArray, List.set_cons_zero, List.set_cons_succ]
                refine wpHead_take (i := 7) (v := ?_) (by kernel_rfl) hA (at_drop rfl) (by decide) (by kernel_rfl) (by kernel_rfl) (by kernel_rfl) (fun _ _ _ h => h) (Or.inl ⟨by rfl, ?_⟩) hS0 (fun hA => ?_)
                rotate_left
                · (intro Y hSY; obtain ⟨s0, s1, s2, s3, s4, s5, s6, s7⟩ := hSY; go_simp <;> with_reducible rfl)
                simp only [Act.put, List.setIfInBounds_toArray, List.set_cons_zero, List.set_cons_succ]
                refine wpHead_take (i := 8) (v := ?_) (by kernel_rfl) hA (at_drop rfl) (by decide) (by kernel_rfl) (by kernel_rfl) (by kernel_rfl) (fun _ _ _ h => h) (Or.inl ⟨by rfl, ?_⟩) hS0 (fun hA => ?_)
                rotate_left
                · (intro Y hSY; obtain ⟨s0, s1, s2, s3, s4, s5, s6, s7⟩ := hSY; go_simp <;> with_reducible rfl)
                simp only [Act.put, List.setIfInBounds_toArray, List.set_cons_zero, List.set_cons_succ]
                refine wpHead_take (i := 9) (v := ?_) (by kernel_rfl) hA (at_drop rfl) (by decide) (by kernel_rfl) (by kernel_rfl) (by kernel_rfl) (fun _ _ _ h => h) (Or.inl ⟨by rfl, ?_⟩) hS0 (fun hA => ?_)
                rotate_left
                · (intro Y hSY; obtain ⟨s0, s1, s2, s3, s4, s5, s6, s7⟩ := hSY; go_simp <;> with_reducible rfl)
                simp only [Act.put, List.setIfInBounds_toArray, List.set_cons_zero, List.set_cons_succ]
                refine wpHead_take (i := 10) (v := ?_) (by kernel_rfl) hA (at_drop rfl) (by decide) (by kernel_rfl) (by kernel_rfl) (by kernel_rfl) (fun _ _ _ h => h) (Or.inl ⟨by rfl, ?_⟩) hS0 (fun hA => ?_)
                rotate_left
                · (intro Y hSY; obtain ⟨s0, s1, s2, s3, s4, s5, s6, s7⟩ := hSY; go_simp <;> with_reducible rfl)
                simp only [Act.put, List.setIfInBounds_toArray, List.set_cons_zero, List.set_cons_succ]
                refine wpHead_take (i := 11) (v := ?_) (by kernel_rfl) hA (at_drop rfl) (by decide) (by kernel_rfl) (by kernel_rfl) (by kernel_rfl) (fun _ _ _ h => h) (Or.inl ⟨by rfl, ?_⟩) hS0 (fun hA => ?_)
                rotate_left
                · (intro Y hSY; obtain ⟨s0, s1, s2, s3, s4, s5, s6, s7⟩ := hSY; go_simp <;> with_reducible rfl)
                simp only [Act.put, List.setIfInBounds_toArray, List.set_cons_zero, List.set_cons_succ]
                refine wpHead_take (i := 14) (v := ?_) (by kernel_rfl) hA (at_drop rfl) (by decide) (by kernel_rfl) (by kernel_rfl) (by kernel_rfl) (fun _ _ _ h => h) (Or.inl ⟨by rfl, ?_⟩) hS0 (fun hA => ?_)
                rotate_left
                · (intro Y hSY; obtain ⟨s0, s1, s2, s3, s4, s5, s6, s7⟩ := hSY; go_simp <;> with_reducible rfl)
                simp only [Act.put, List.setIfInBounds_toArray, List.set_cons_zero, List.set_cons_succ]
                refine wpHead_take (i := 15) (v := ?_) (by kernel_rfl) hA (at_drop rfl) (by decide) (by kernel_rfl) (by kernel_rfl) (by kernel_rfl) (fun _ _ _ h => h) (Or.inl ⟨by rfl, ?_⟩) hS0 (fun hA => ?_)
                rotate_left
                · (intro Y hSY; obtain ⟨s0, s1, s2, s3, s4, s5, s6, s7⟩ := hSY; go_simp <;> with_reducible rfl)
                simp only [Act.put, List.setIfInBounds_toArray, List.set_cons_zero, List.set_cons_succ]
                refine wpHead_take (i := 16) (v := ?_) (by kernel_rfl) hA (at_drop rfl) (by decide) (by kernel_rfl) (by kernel_rfl) (by kernel_rfl) (fun _ _ _ h => h) (Or.inl ⟨by rfl, ?_⟩) hS0 (fun hA => ?_)
                rotate_left
                · (intro Y hSY; obtain ⟨s0, s1, s2, s3, s4, s5, s6, s7⟩ := hSY; go_simp <;> with_reducible rfl)
                simp only [Act.put, List.setIfInBounds_toArray, List.set_cons_zero, List.set_cons_succ]
                refine wpHead_take (i := 17) (v := ?_) (by kernel_rfl) hA (at_drop rfl) (by decide) (by kernel_rfl) (by kernel_rfl) (by kernel_rfl) (fun _ _ _ h => h) (Or.inl ⟨by rfl, ?_⟩) hS0 (fun hA => ?_)
                rotate_left
                · (intro Y hSY; obtain ⟨s0, s1, s2, s3, s4, s5, s6, s7⟩ := hSY; go_simp <;> with_reducible rfl)
                simp only [Act.put, List.setIfInBounds_toArray, List.set_cons_zero, List.set_cons_succ]
                refine wpHead_take (i := 18) (v := ?_) (by kernel_rfl) hA (at_drop rfl) (by decide) (by kernel_rfl) (by kernel_rfl) (by kernel_rfl) (fun _ _ _ h => h) (Or.inl ⟨by rfl, ?_⟩) hS0 (fun hA => ?_)
                rotate_left
                · (intro Y hSY; obtain ⟨s0, s1, s2, s3, s4, s5, s6, s7⟩ := hSY; go_simp <;> with_reducible rfl)
                simp only [Act.put, List.setIfInBounds_toArray, List.set_cons_zero, List.set_cons_succ]
                refine wpHead_take (i := 19) (v := ?_) (by kernel_rfl) hA (at_drop rfl) (by decide) (by kernel_rfl) (by kernel_rfl) (by kernel_rfl) (fun _ _ _ h => h) (Or.inl ⟨by rfl, ?_⟩) hS0 (fun hA => ?_)
                rotate_left
                · (intro Y hSY; obtain ⟨s0, s1, s2, s3, s4, s5, s6, s7⟩ := hSY; go_simp <;> with_reducible rfl)
                simp only [Act.put, List.setIfInBounds_toArray, List.set_cons_zero, List.set_cons_succ]
                refine wpHead_take (i := 20) (v := ?_) (by kernel_rfl) hA (at_drop rfl) (by decide) (by kernel_rfl) (by kernel_rfl) (by kernel_rfl) (fun _ _ _ h => h) (Or.inl ⟨by rfl, ?_⟩) hS0 (fun hA => ?_)
                rotate_left
                · (intro Y hSY; obtain ⟨s0, s1, s2, s3, s4, s5, s6, s7⟩ := hSY; go_simp <;> with_reducible rfl)
                simp only [Act.put, List.setIfInBounds_toArray, List.set_cons_zero, List.set_cons_succ]
                refine wpHead_take (i := 21) (v := ?_) (by kernel_rfl) hA (at_drop rfl) (by decide) (by kernel_rfl) (by kernel_rfl) (by kernel_rfl) (fun _ _ _ h => h) (Or.inl ⟨by rfl, ?_⟩) hS0 (fun hA => ?_)
                rotate_left
                · (intro Y hSY; obtain ⟨s0, s1, s2, s3, s4, s5, s6, s7⟩ := hSY; go_simp <;> with_reducible rfl)
                simp only [Act.put, List.setIfInBounds_toArray, List.set_cons_zero, List.set_cons_succ]
                have hA3 := hnext hA (rs := [3]) (i := 3) (by kernel_rfl) (by decide) (by decide)
                refine wpHead_ready (rs := [3]) (by kernel_rfl) (by decide) (AllHead.cons (at_drop rfl) (by decide) (fun KK hK => ?_) AllHead.nil)
                replace hA := hA3
                go_simp
                refine (HDf.out X0 (stepB hbw KE) nv hnvn).mono ?_
                rintro e w5 ⟨mb, rfl, hm, hb5⟩
                obtain ⟨m1, m2⟩ := hm di dj hdi hdj
                rw [hTe] at m2
                have K5 := stepB KE hb5
                have hS5 := HSl.out _ K5
                refine hK _ _ hS5 ?_
                clear hK KK hm
                try simp only [Act.put, List.setIfInBounds_toArray, List.set_cons_zero, List.set_cons_succ]
                have hA12 := hnext hA (rs := [12]) (i := 12) (by kernel_rfl) (by decide) (by decide)
                refine wpHead_ready (rs := [12]) (by kernel_rfl) (by decide) (AllHead.cons (at_drop rfl) (by decide) (fun KK hK => ?_) AllHead.nil)
                replace hA := hA12
                go_simp
                refine hK _ _ hS5 ?_
                clear hK KK
                try simp only [Act.put, List.setIfInBounds_toArray, List.set_cons_zero, List.set_cons_succ]
                have hA13 := hnext hA (rs := [13]) (i := 13) (by kernel_rfl) (by decide) (by decide)
                refine wpHead_ready (rs := [13]) (by kernel_rfl) (by decide) (AllHead.cons (at_drop rfl) (by decide) (fun KK hK => ?_) AllHead.nil)
                replace hA := hA13
                go_simp
                refine hK _ _ hS5 ?_
                clear hK KK
                try simp only [Act.put, List.setIfInBounds_toArray, List.set_cons_zero, List.set_cons_succ]
                have hA22 := hnext hA (rs := [22]) (i := 22) (by kernel_rfl) (by decide) (by decide)
                refine wpHead_ready (rs := [22]) (by kernel_rfl) (by decide) (AllHead.cons (at_drop rfl) (by decide) (fun KK hK => ?_) AllHead.nil)
                replace hA := hA22
                go_simp
                refine hK _ _ hS5 ?_
                clear hK KK
                try simp only [Act.put, List.setIfInBounds_toArray, List.set_cons_zero, List.set_cons_succ]
                have hA23 := hnext hA (rs := [23]) (i := 23) (by kernel_rfl) (by decide) (by decide)
                refine wpHead_ready (rs := [23]) (by kernel_rfl) (by decide) (AllHead.cons (at_drop rfl) (by decide) (fun KK hK => ?_) AllHead.nil)
                replace hA := hA23
                go_simp
                refine hK _ _ hS5 ?_
                clear hK KK
                try simp only [Act.put, List.setIfInBounds_toArray, List.set_cons_zero, List.set_cons_succ]
                refine wpHead_end (by kernel_rfl) ?_
                simp only [List.drop_succ_cons, List.drop_zero]
                have K := K5
                clear hS0 hS5 m1 m2 hb5 KE K5 hA
                clear HSl
                go_wp2
                go_roundw
                case rel => exact ⟨y + 1, by omega, by go_num, stepB HBi.out K⟩
                case measure => simp [intOf]; omega
              · obtain rfl : y = x := by omega
                have hTe := hAt1
                clear hLo1 hAt1 HLo HAt
                have HLn2 := Lib.hid (And.intro HLn.out (And.intro hdi hdj))
                clear HLn
                generalize hdi2 : dlt d.nx s y = di at *
                generalize hdj2 : dlt d.nx t y = dj at *
                clear hdi2 hdj2
                have hym : (y : Int) < (L : Int) := by omega
                have hdim : (di : Int) < (n : Int) := by omega
                have hdjm : (dj : Int) < (n : Int) := by omega
                have hyw : IntKind.u8.wrap (y : Int) = (y : Int) := by rw [IntKind.wrap_u8]; omega
                have HSl : Hid (∀ X, Below wr.heap.size wr X → (fun X : World => X.cell? ⟨w.heap.size, 0, none⟩ = some (.int .i64 d.V) ∧ X.cell? ⟨w.heap.size, 1, none⟩ = some (.int .i64 d.q0) ∧ X.cell? ⟨w.heap.size, 2, none⟩ = some (.slice (some ad) n a) ∧ X.cell? ⟨w.heap.size, 3, none⟩ = some (.slice B nf b) ∧ X.cell? (ad.add s) = some (.slice (some pd) L c) ∧ X.cell? (ad.add t) = some (.slice (some pd') L c') ∧ X.cell? (pd.add y) = some (.int .i64 (di : Nat)) ∧ X.cell? (pd'.add y) = some (.int .i64 (dj : Nat))) X) := fun X hX => by
                  obtain ⟨q0, q1, q2, q3⟩ := (hNw.below hX).cells
                  exact ⟨q0, q1, q2, q3, c1 _ (stepB hbw hX), c2 _ (stepB hbw hX), c3 _ (stepB hbw hX), c4 _ (stepB hbw hX)⟩
                obtain ⟨z0, z1, z2, z3⟩ := hNw.cells
                go_wp2
                clear z0 z1 z2 z3
                refine wp_region_any (by kernel_rfl) ?_
                change wpAny _ _ _ _ _ _ _ (World.drew _)
                have KE := drew_below wr
                generalize wr.drew = X0 at *
                have hS0 := HSl.out _ KE
                refine wpAny_head 24 24 (fun X : World => X.cell? ⟨w.heap.size, 0, none⟩ = some (.int .i64 d.V) ∧ X.cell? ⟨w.heap.size, 1, none⟩ = some (.int .i64 d.q0) ∧ X.cell? ⟨w.heap.size, 2, none⟩ = some (.slice (some ad) n a) ∧ X.cell? ⟨w.heap.size, 3, none⟩ = some (.slice B nf b) ∧ X.cell? (ad.add s) = some (.slice (some pd) L c) ∧ X.cell? (ad.add t) = some (.slice (some pd') L c') ∧ X.cell? (pd.add y) = some (.int .i64 (di : Nat)) ∧ X.cell? (pd'.add y) = some (.int .i64 (dj : Nat))) rfl rfl (by kernel_rfl) (by kernel_rfl) (by kernel_rfl) (fun hA => ?_)
                refine wpHead_take (i := 0) (v := ?_) (by kernel_rfl) hA (at_drop rfl) (by decide) (by kernel_rfl) (by kernel_rfl) (by kernel_rfl) (fun _ _ _ h => h) (Or.inl ⟨by rfl, ?_⟩) hS0 (fun hA => ?_)
                rotate_left
                · (intro Y hSY; obtain ⟨s0, s1, s2, s3, s4, s5, s6, s7⟩ := hSY; go_simp <;> with_reducible rfl)
                simp only [Act.put, List.setIfInBounds_toArray, List.set_cons_zero, List.set_cons_succ]
                refine wpHead_take (i := 1) (v := ?_) (by kernel_rfl) hA (at_drop rfl) (by decide) (by kernel_rfl) (by kernel_rfl) (by kernel_rfl) (fun _ _ _ h => h) (Or.inl ⟨by rfl, ?_⟩) hS0 (fun hA => ?_)
                rotate_left
                · (intro Y hSY; obtain ⟨s0, s1, s2, s3, s4, s5, s6, s7⟩ := hSY; go_simp <;> with_reducible rfl)
                simp only [Act.put, List.setIfInBounds_toArray, List.set_cons_zero, List.set_cons_succ]
                refine wpHead_take (i := 2) (v := ?_) (by kernel_rfl) hA (at_drop rfl) (by decide) (by kernel_rfl) (by kernel_rfl) (by kernel_rfl) (fun _ _ _ h => h) (Or.inl ⟨by rfl, ?_⟩) hS0 (fun hA => ?_)
                rotate_left
                · (intro Y hSY; obtain ⟨s0, s1, s2, s3, s4, s5, s6, s7⟩ := hSY; go_simp <;> with_reducible rfl)
                simp only [Act.put, List.setIfInBounds_toArray, List.set_cons_zero, List.set_cons_succ]
                refine wpHead_take (i := 4) (v := ?_) (by kernel_rfl) hA (at_drop rfl) (by decide) (by kernel_rfl) (by kernel_rfl) (by kernel_rfl) (fun _ _ _ h => h) (Or.inl ⟨by rfl, ?_⟩) hS0 (fun hA => ?_)
                rotate_left
                · (intro Y hSY; obtain ⟨s0, s1, s2, s3, s4, s5, s6, s7⟩ := hSY; go_simp <;> with_reducible rfl)
                simp only [Act.put, List.setIfInBounds_toArray, List.set_cons_zero, List.set_cons_succ]
                refine wpHead_take (i := 5) (v := ?_) (by kernel_rfl) hA (at_drop rfl) (by decide) (by kernel_rfl) (by kernel_rfl) (by kernel_rfl) (fun _ _ _ h => h) (Or.inl ⟨by rfl, ?_⟩) hS0 (fun hA => ?_)
                rotate_left
                · (intro Y hSY; obtain ⟨s0, s1, s2, s3, s4, s5, s6, s7⟩ := hSY; go_simp <;> with_reducible rfl)
                simp only [Act.put, List.setIfInBounds_toArray, List.set_cons_zero, List.set_cons_succ]
                refine wpHead_take (i := 6) (v := ?_) (by kernel_rfl) hA (at_drop rfl) (by decide) (by kernel_rfl) (by kernel_rfl) (by kernel_rfl) (fun _ _ _ h => h) (Or.inl ⟨by rfl, ?_⟩) hS0 (fun hA => ?_)
                rotate_left
                · (intro Y hSY; obtain ⟨s0, s1, s2, s3, s4, s5, s6, s7⟩ := hSY; go_simp <;> with_reducible rfl)
                simp only [Act.put, List.setIfInBounds_toArray, List.set_cons_zero, List.set_cons_succ]
                refine wpHead_take (i := 7) (v := ?_) (by kernel_rfl) hA (at_drop rfl) (by decide) (by kernel_rfl) (by kernel_rfl) (by kernel_rfl) (fun _ _ _ h => h) (Or.inl ⟨by rfl, ?_⟩) hS0 (fun hA => ?_)
                rotate_left
                · (intro Y hSY; obtain ⟨s0, s1, s2, s3, s4, s5, s6, s7⟩ := hSY; go_simp <;> with_reducible rfl)
                simp only [Act.put, List.setIfInBounds_toArray, List.set_cons_zero, List.set_cons_succ]
                refine wpHead_take (i := 8) (v := ?_) (by kernel_rfl) hA (at_drop rfl) (by decide) (by kernel_rfl) (by kernel_rfl) (by kernel_rfl) (fun _ _ _ h => h) (Or.inl ⟨by rfl, ?_⟩) hS0 (fun hA => ?_)
                rotate_left
                · (intro Y hSY; obtain ⟨s0, s1, s2, s3, s4, s5, s6, s7⟩ := hSY; go_simp <;> with_reducible rfl)
                simp only [Act.put, List.setIfInBounds_toArray, List.set_cons_zero, List.set_cons_succ]
                refine wpHead_take (i := 9) (v := ?_) (by kernel_rfl) hA (at_drop rfl) (by decide) (by kernel_rfl) (by kernel_rfl) (by kernel_rfl) (fun _ _ _ h => h) (Or.inl ⟨by rfl, ?_⟩) hS0 (fun hA => ?_)
                rotate_left
                · (intro Y hSY; obtain ⟨s0, s1, s2, s3, s4, s5, s6, s7⟩ := hSY; go_simp <;> with_reducible rfl)
                simp only [Act.put, List.setIfInBounds_toArray, List.set_cons_zero, List.set_cons_succ]
                refine wpHead_take (i := 10) (v := ?_) (by kernel_rfl) hA (at_drop rfl) (by decide) (by kernel_rfl) (by kernel_rfl) (by kernel_rfl) (fun _ _ _ h => h) (Or.inl ⟨by rfl, ?_⟩) hS0 (fun hA => ?_)
                rotate_left
                · (intro Y hSY; obtain ⟨s0, s1, s2, s3, s4, s5, s6, s7⟩ := hSY; go_simp <;> with_reducible rfl)
                simp only [Act.put, List.setIfInBounds_toArray, List.set_cons_zero, List.set_cons_succ]
                refine wpHead_take (i := 11) (v := ?_) (by kernel_rfl) hA (at_drop rfl) (by decide) (by kernel_rfl) (by kernel_rfl) (by kernel_rfl) (fun _ _ _ h => h) (Or.inl ⟨by rfl, ?_⟩) hS0 (fun hA => ?_)
                rotate_left
                · (intro Y hSY; obtain ⟨s0, s1, s2, s3, s4, s5, s6, s7⟩ := hSY; go_simp <;> with_reducible rfl)
                simp only [Act.put, List.setIfInBounds_toArray, List.set_cons_zero, List.set_cons_succ]
                refine wpHead_take (i := 14) (v := ?_) (by kernel_rfl) hA (at_drop rfl) (by decide) (by kernel_rfl) (by kernel_rfl) (by kernel_rfl) (fun _ _ _ h => h) (Or.inl ⟨by rfl, ?_⟩) hS0 (fun hA => ?_)
                rotate_left
                · (intro Y hSY; obtain ⟨s0, s1, s2, s3, s4, s5, s6, s7⟩ := hSY; go_simp <;> with_reducible rfl)
                simp only [Act.put, List.setIfInBounds_toArray, List.set_cons_zero, List.set_cons_succ]
                refine wpHead_take (i := 15) (v := ?_) (by kernel_rfl) hA (at_drop rfl) (by decide) (by kernel_rfl) (by kernel_rfl) (by kernel_rfl) (fun _ _ _ h => h) (Or.inl ⟨by rfl, ?_⟩) hS0 (fun hA => ?_)
                rotate_left
                · (intro Y hSY; obtain ⟨s0, s1, s2, s3, s4, s5, s6, s7⟩ := hSY; go_simp <;> with_reducible rfl)
                simp only [Act.put, List.setIfInBounds_toArray, List.set_cons_zero, List.set_cons_succ]
                refine wpHead_take (i := 16) (v := ?_) (by kernel_rfl) hA (at_drop rfl) (by decide) (by kernel_rfl) (by kernel_rfl) (by kernel_rfl) (fun _ _ _ h => h) (Or.inl ⟨by rfl, ?_⟩) hS0 (fun hA => ?_)
                rotate_left
                · (intro Y hSY; obtain ⟨s0, s1, s2, s3, s4, s5, s6, s7⟩ := hSY; go_simp <;> with_reducible rfl)
                simp only [Act.put, List.setIfInBounds_toArray, List.set_cons_zero, List.set_cons_succ]
                refine wpHead_take (i := 17) (v := ?_) (by kernel_rfl) hA (at_drop rfl) (by decide) (by kernel_rfl) (by kernel_rfl) (by kernel_rfl) (fun _ _ _ h => h) (Or.inl ⟨by rfl, ?_⟩) hS0 (fun hA => ?_)
                rotate_left
                · (intro Y hSY; obtain ⟨s0, s1, s2, s3, s4, s5, s6, s7⟩ := hSY; go_simp <;> with_reducible rfl)
                simp only [Act.put, List.setIfInBounds_toArray, List.set_cons_zero, List.set_cons_succ]
                refine wpHead_take (i := 18) (v := ?_) (by kernel_rfl) hA (at_drop rfl) (by decide) (by kernel_rfl) (by kernel_rfl) (by kernel_rfl) (fun _ _ _ h => h) (Or.inl ⟨by rfl, ?_⟩) hS0 (fun hA => ?_)
                rotate_left
                · (intro Y hSY; obtain ⟨s0, s1, s2, s3, s4, s5, s6, s7⟩ := hSY; go_simp <;> with_reducible rfl)
                simp only [Act.put, List.setIfInBounds_toArray, List.set_cons_zero, List.set_cons_succ]
                refine wpHead_take (i := 19) (v := ?_) (by kernel_rfl) hA (at_drop rfl) (by decide) (by kernel_rfl) (by kernel_rfl) (by kernel_rfl) (fun _ _ _ h => h) (Or.inl ⟨by rfl, ?_⟩) hS0 (fun hA => ?_)
                rotate_left
                · (intro Y hSY; obtain ⟨s0, s1, s2, s3, s4, s5, s6, s7⟩ := hSY; go_simp <;> with_reducible rfl)
                simp only [Act.put, List.setIfInBounds_toArray, List.set_cons_zero, List.set_cons_succ]
                refine wpHead_take (i := 20) (v := ?_) (by kernel_rfl) hA (at_drop rfl) (by decide) (by kernel_rfl) (by kernel_rfl) (by kernel_rfl) (fun _ _ _ h => h) (Or.inl ⟨by rfl, ?_⟩) hS0 (fun hA => ?_)
                rotate_left
                · (intro Y hSY; obtain ⟨s0, s1, s2, s3, s4, s5, s6, s7⟩ := hSY; go_simp <;> with_reducible rfl)
                simp only [Act.put, List.setIfInBounds_toArray, List.set_cons_zero, List.set_cons_succ]
                refine wpHead_take (i := 21) (v := ?_) (by kernel_rfl) hA (at_drop rfl) (by decide) (by kernel_rfl) (by kernel_rfl) (by kernel_rfl) (fun _ _ _ h => h) (Or.inl ⟨by rfl, ?_⟩) hS0 (fun hA => ?_)
                rotate_left
                · (intro Y hSY; obtain ⟨s0, s1, s2, s3, s4, s5, s6, s7⟩ := hSY; go_simp <;> with_reducible rfl)
                simp only [Act.put, List.setIfInBounds_toArray, List.set_cons_zero, List.set_cons_succ]
                have hA3 := hnext hA (rs := [3]) (i := 3) (by kernel_rfl) (by decide) (by decide)
                refine wpHead_ready (rs := [3]) (by kernel_rfl) (by decide) (AllHead.cons (at_drop rfl) (by decide) (fun KK hK => ?_) AllHead.nil)
                replace hA := hA3
                go_simp
                refine (HDf.out X0 (stepB hbw KE) nv hnvn).mono ?_
                rintro e w5 ⟨mb, rfl, hm, hb5⟩
                obtain ⟨m1, m2⟩ := hm di dj hdi hdj
                rw [hTe] at m2
                have K5 := stepB KE hb5
                have hS5 := HSl.out _ K5
                refine hK _ _ hS5 ?_
                clear hK KK hm
                try simp only [Act.put, List.setIfInBounds_toArray, List.set_cons_zero, List.set_cons_succ]
                have hA12 := hnext hA (rs := [12]) (i := 12) (by kernel_rfl) (by decide) (by decide)
                refine wpHead_ready (rs := [12]) (by kernel_rfl) (by decide) (AllHead.cons (at_drop rfl) (by decide) (fun KK hK => ?_) AllHead.nil)
                replace hA := hA12
                go_simp
                refine hK _ _ hS5 ?_
                clear hK KK
                try simp only [Act.put, List.setIfInBounds_toArray, List.set_cons_zero, List.set_cons_succ]
                have hA13 := hnext hA (rs := [13]) (i := 13) (by kernel_rfl) (by decide) (by decide)
                refine wpHead_ready (rs := [13]) (by kernel_rfl) (by decide) (AllHead.cons (at_drop rfl) (by decide) (fun KK hK => ?_) AllHead.nil)
                replace hA := hA13
                go_simp
                refine hK _ _ hS5 ?_
                clear hK KK
                try simp only [Act.put, List.setIfInBounds_toArray, List.set_cons_zero, List.set_cons_succ]
                have hA22 := hnext hA (rs := [22]) (i := 22) (by kernel_rfl) (by decide) (by decide)
                refine wpHead_ready (rs := [22]) (by kernel_rfl) (by decide) (AllHead.cons (at_drop rfl) (by decide) (fun KK hK => ?_) AllHead.nil)
                replace hA := hA22
                go_simp
                refine hK _ _ hS5 ?_
                clear hK KK
                try simp only [Act.put, List.setIfInBounds_toArray, List.set_cons_zero, List.set_cons_succ]
                have hA23 := hnext hA (rs := [23]) (i := 23) (by kernel_rfl) (by decide) (by decide)
                refine wpHead_ready (rs := [23]) (by kernel_rfl) (by decide) (AllHead.cons (at_drop rfl) (by decide) (fun KK hK => ?_) AllHead.nil)
                replace hA := hA23
                go_simp
                refine hK _ _ hS5 ?_
                clear hK KK
                try simp only [Act.put, List.setIfInBounds_toArray, List.set_cons_zero, List.set_cons_succ]
                refine wpHead_end (by kernel_rfl) ?_
                simp only [List.drop_succ_cons, List.drop_zero]
                have K := K5
                clear hS0 hS5 m1 m2 hb5 KE K5 hA
                obtain ⟨sv1, sv2, sv3, sv4, sv5, sv6⟩ := HSt.out
                have hKi := stepB HBi.out K
                have ho5 := sv2.below hKi
                have hN5 := HN.out.below hKi
                have hb5 := stepB hbw K
                have hdnl : dn.length ≤ 1000 := by omega
                have hsz5 := hb5.size
                have HC := Lib.hid (And.intro c1 (And.intro c2 (And.intro c3 c4)))
                have HE : Hid ((dn ++ [y]) ++ v = u) := by show _ = _; rw [List.append_assoc]; exact sv4
                clear HSl c1 c2 c3 c4 sv1 sv2 sv3 sv4 hNw hbw HSt HBi HN hTe
                go_wp2_with (first
                  | (at_builtin; refine wpList_append_own_at _ rfl _ _ 42 rfl w.heap.size 5 i0 (.int .u8 0) 1 1 Tryd.underlying42 hi0 hz0 hz1 hz2 rfl (by decide) _ dn.length _ rfl (ho5.alloc _) ⟨w5.heap.size, 0, none⟩ 1 1 [.int .u8 (y : Int)] rfl rfl (cell_one_new _ _ _) (by simp [Value.oneCell']) (by unfold maxLen; omega) (by omega) (by simp; omega) ?_; intro v6 w6 hown6 hgrow6 _ hb6x;
                      have hb6 := ((hb5.alloc (by omega) (.cells #[.int .u8 (y : Int)] 5)).grown hgrow6 (by simp; omega) (fun q hq => (own_lt ho5 hq).1));
                      have hN6 : Blk4 w6 w.heap.size (.int .i64 d.V) (.int .i64 d.q0) (.slice (some ad) n a) (.slice B nf b) := ((hgrow6.block _ (by have := blk_lt hN5; simp; omega) (fun e => own_ne hN5 ho5 (by decide) e.symm)).trans (Below.heap_alloc _ _ _ (blk_lt hN5))).trans hN5;
                      obtain ⟨z0, z1, z2, z3⟩ := hN6.cells;
                      obtain ⟨c1, c2, c3, c4⟩ := HC.out;
                      have k1 := c1 _ hb6;
                      have k2 := c2 _ hb6;
                      have k3 := c3 _ hb6;
                      have k4 := c4 _ hb6;
                      clear c1 c2 c3 c4 hb6x))
                have HN6 := Lib.hid hN6
                have HSt6 : Hid (Rst w d u (dn ++ [y]) v di dj v6 w6) := ⟨hb6, by rw [List.length_append, List.length_singleton, wvs_snoc]; exact hown6, HLn2.out.1, HE.out, by rw [HNN.out]; exact hdi, by rw [HNN.out]; exact hdj⟩
                clear hN6 hown6 hgrow6 hb6 HE HLn2 ho5 hN5 hb5 HC hsz5 K hKi
                go_quiet (fail)
                have HN7 := Lib.hid (HN6.out.below (Ap.drewN_below w6 nq))
                have HSt7 : Hid (Rst w d u (dn ++ [y]) v di dj v6 (w6.drewN nq)) := ⟨stepB HSt6.out.b (Ap.drewN_below w6 nq), HSt6.out.o.below (Ap.drewN_below w6 nq), HSt6.out.l, HSt6.out.e, HSt6.out.s, HSt6.out.t⟩
                clear HN6 HSt6 z0 z1 z2 z3 k1 k2 k3 k4
                generalize w6.drewN nq = w7 at *
                go_wp2
                go_roundw
                case rel => exact ⟨di, dj, dn ++ [y], v, v6, rfl, rfl, rfl, by rw [HVN.out], HSt7, HN7⟩
                case measure => first | (simp [intOf]; done) | (simp [intOf]; omega)
end
end Go.Proofs.YtkgeihambgbjdaaDoor.Mi
