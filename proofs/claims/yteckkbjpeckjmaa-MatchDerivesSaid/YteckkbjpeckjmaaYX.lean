/- Texts of expressions (package regex): leaves. -/
import Derived.Test.YteckkbjpeckjmaaYW
namespace Go.Proofs.Yteckkbjpeckjmaa.Rx
open Go Go.RowKit Go.Proofs.Yteckkbjpeckjmaa
set_option linter.unusedVariables false
set_option maxRecDepth 100000
theorem BK.alloc {b : Nat} {w w1 : World} (h : BK b w w1) (hb : b ≤ w1.heap.size) (o : Obj) : BK b w (w1.alloc o) := h.trans (.of_below (bal (Below.refl _ _) _) hb)
theorem fmt_cubeOf (p q v : Nat) (w : World) (hC : Cube p q v) :
    Calls Try.prog 86 #[.agg #[.int .u8 p, .int .u8 q], .int .i64 v] w fun e w' => e = .returned (.tuple #[.string ⟨(fmtT p q).toArray⟩, .int .i64 0]) ∧ Below w.heap.size w w' := Format_ok p q v w hC
set_option maxHeartbeats 4000000 in
theorem writeLeaf_one (b op c : Nat) (p q : Nat) (a' b' : Int) (n : Nat) (pf : Bool) (v : Int) (l : List UInt8) (w : World) (h : Bld w b l) (hb : b < w.heap.size) (hl : l.length ≤ 100000) (hop : ((op : Int) == 3) = false) (hc : c < 256) :
    Calls Try.prog 56 #[.pointer (some ⟨b, 0, none⟩), .agg #[.int .u8 op, .int .u8 p, .int .u8 q, .int .i64 a', .int .i64 b'], .agg #[.int .u8 c, .int .i64 n, .bool pf], .int .i64 v] w fun e w' =>
      e = .returned (.tuple #[]) ∧ Bld w' b (l ++ [UInt8.ofNat c]) ∧ BK b w w' := by
  have HB0 := Lib.hid ((bal (Below.refl w.heap.size w) (.cells #[.int .u8 op, .int .u8 p, .int .u8 q, .int .i64 a', .int .i64 b'] 32)))
  have HB := Lib.hid (bal HB0.out (.cells #[.int .u8 c, .int .i64 n, .bool pf] 90))
  have HW := Lib.hid (write_byte b c l _ (h.below HB.out) hc (by omega) (by have := HB.out.size; omega))
  have hx := five_new w ⟨op, p, q, a', b'⟩ 32
  obtain ⟨x0, _⟩ := hx
  have HX : Hid (∀ w1, BK b ((w.alloc (.cells #[.int .u8 op, .int .u8 p, .int .u8 q, .int .i64 a', .int .i64 b'] 32)).alloc (.cells #[.int .u8 c, .int .i64 n, .bool pf] 90)) w1 → w1.cell? ⟨w.heap.size, 0, none⟩ = some (.int .u8 op)) := fun w1 hk => by
    have h1 : (w.alloc (.cells #[.int .u8 op, .int .u8 p, .int .u8 q, .int .i64 a', .int .i64 b'] 32)).heap[w.heap.size]? = some (.cells #[.int .u8 op, .int .u8 p, .int .u8 q, .int .i64 a', .int .i64 b'] 32 (0, 0)) := World.alloc_heap_new w _
    have h2 := (Below.heap_alloc (w.alloc (.cells #[.int .u8 op, .int .u8 p, .int .u8 q, .int .i64 a', .int .i64 b'] 32)) (.cells #[.int .u8 c, .int .i64 n, .bool pf] 90) w.heap.size (by simp)).trans h1
    have h3 := hk.block h2 (by omega) (by decide)
    simp [World.cell?, h3]
  clear h x0
  go_enter Try.func56, Try.ntmps56
  go_wp2_with (go_at_call 57; ((with_reducible refine HW.out.mono ?_); rintro r w1 ⟨rfl, hB1, hk1⟩); have x0 := HX.out _ hk1)
  go_end0
  exact ⟨rfl, hB1, (BK.of_below HB.out (by omega)).trans hk1⟩
set_option maxHeartbeats 4000000 in
theorem writeLeaf_cube (b p q v : Nat) (n : Nat) (pf : Bool) (a' b' : Int) (l : List UInt8) (w : World) (h : Bld w b l) (hb : b < w.heap.size) (hl : l.length ≤ 100000) (hC : Cube p q v) :
    Calls Try.prog 56 #[.pointer (some ⟨b, 0, none⟩), .agg #[.int .u8 3, .int .u8 p, .int .u8 q, .int .i64 a', .int .i64 b'], .agg #[.int .u8 91, .int .i64 n, .bool pf], .int .i64 v] w fun e w' =>
      e = .returned (.tuple #[]) ∧ Bld w' b (l ++ 91 :: (fmtT p q ++ [93])) ∧ BK b w w' := by
  have HB0 := Lib.hid ((bal (Below.refl w.heap.size w) (.cells #[.int .u8 3, .int .u8 p, .int .u8 q, .int .i64 a', .int .i64 b'] 32)))
  have HB := Lib.hid (bal HB0.out (.cells #[.int .u8 91, .int .i64 n, .bool pf] 90))
  have HW := Lib.hid (write_lit b 91 91 rfl l _ (h.below HB.out) (by decide) (by omega) (by have := HB.out.size; omega))
  have HX : Hid (∀ w1, BK b ((w.alloc (.cells #[.int .u8 3, .int .u8 p, .int .u8 q, .int .i64 a', .int .i64 b'] 32)).alloc (.cells #[.int .u8 91, .int .i64 n, .bool pf] 90)) w1 → w1.heap[w.heap.size]? = some (.cells #[.int .u8 3, .int .u8 p, .int .u8 q, .int .i64 a', .int .i64 b'] 32 (0, 0))) := fun w1 hk => by
    have h1 : (w.alloc (.cells #[.int .u8 3, .int .u8 p, .int .u8 q, .int .i64 a', .int .i64 b'] 32)).heap[w.heap.size]? = some (.cells #[.int .u8 3, .int .u8 p, .int .u8 q, .int .i64 a', .int .i64 b'] 32 (0, 0)) := World.alloc_heap_new w _
    have h2 := (Below.heap_alloc (w.alloc (.cells #[.int .u8 3, .int .u8 p, .int .u8 q, .int .i64 a', .int .i64 b'] 32)) (.cells #[.int .u8 91, .int .i64 n, .bool pf] 90) w.heap.size (by simp)).trans h1
    exact hk.block h2 (by omega) (by decide)
  have HCu : Hid (∀ X, Calls Try.prog 63 #[.agg #[.int .u8 3, .int .u8 p, .int .u8 q, .int .i64 a', .int .i64 b']] X fun e w' => e = .returned (.agg #[.int .u8 p, .int .u8 q]) ∧ Below X.heap.size X w') := fun X => cubeOf_any ⟨3, p, q, a', b'⟩ X
  have HFm := Lib.hid fun X => fmt_cubeOf p q v X hC
  have hfl := fmtT_len p q
  have HWS := Lib.hid fun X (hX : Bld X b (l ++ [91])) (hbX : b ≤ X.heap.size) => write_string b (fmtT p q) (l ++ [91]) X hX (by simp; omega) (by omega) hbX
  have HWE := Lib.hid fun X (hX : Bld X b (l ++ [91] ++ fmtT p q)) (hbX : b ≤ X.heap.size) => write_lit b 93 93 rfl (l ++ [91] ++ fmtT p q) X hX (by decide) (by simp; omega) hbX
  have hbs : b ≤ ((w.alloc (.cells #[.int .u8 3, .int .u8 p, .int .u8 q, .int .i64 a', .int .i64 b'] 32)).alloc (.cells #[.int .u8 91, .int .i64 n, .bool pf] 90)).heap.size := by have := HB.out.size; omega
  have HS := Lib.hid hbs
  generalize fmtT p q = F at *
  clear h hC hbs hfl
  have tok1 : True := trivial
  go_enter Try.func56, Try.ntmps56
  go_wp2_with (first
    | (go_at_call 57; have _t := tok1; ((with_reducible refine HW.out.mono ?_); rintro r w1 ⟨rfl, hB1, hk1⟩); clear tok1; have hbl := HX.out _ hk1; obtain ⟨x0, x1, x2, x3, x4⟩ : w1.cell? ⟨w.heap.size, 0, none⟩ = some (.int .u8 3) ∧ w1.cell? ⟨w.heap.size, 1, none⟩ = some (.int .u8 p) ∧ w1.cell? ⟨w.heap.size, 2, none⟩ = some (.int .u8 q) ∧ w1.cell? ⟨w.heap.size, 3, none⟩ = some (.int .i64 a') ∧ w1.cell? ⟨w.heap.size, 4, none⟩ = some (.int .i64 b') := (by refine ⟨?_, ?_, ?_, ?_, ?_⟩ <;> simp [World.cell?, hbl]); clear hbl)
    | (go_at_call 63; ((with_reducible refine (HCu.out _).mono ?_); rintro r w2 ⟨rfl, hb2⟩))
    | (go_at_call 86; ((with_reducible refine (HFm.out _).mono ?_); rintro r w3 ⟨rfl, hb3⟩))
    | (go_at_call 87; ((with_reducible refine (HWS.out _ ((hB1.below hb2).below hb3) (by have := HS.out; have := hk1.bel.size; have := hb2.size; have := hb3.size; omega)).mono ?_); rintro r w4 ⟨rfl, hB4, hk4⟩))
    | (go_at_call 57; ((with_reducible refine (HWE.out _ hB4 (by have := HS.out; have := hk1.bel.size; have := hb2.size; have := hb3.size; have := hk4.bel.size; omega)).mono ?_); rintro r w5 ⟨rfl, hB5, hk5⟩)))
  go_end0
  refine ⟨rfl, ?_, (BK.of_below HB.out (by omega)).trans (hk1.trans ((BK.of_below (stepB hb2 hb3) (by have := HS.out; have := hk1.bel.size; omega)).trans (hk4.trans hk5)))⟩
  have : l ++ 91 :: (F ++ [93]) = l ++ [91] ++ F ++ [UInt8.ofNat 93] := by simp
  rw [this]
  exact hB5
end Go.Proofs.Yteckkbjpeckjmaa.Rx
