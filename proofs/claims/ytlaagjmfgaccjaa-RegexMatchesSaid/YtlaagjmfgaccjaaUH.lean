/- The walk of RegexMatches. -/
import Derived.Test.YtlaagjmfgaccjaaUG
namespace Go.Proofs.Ytlaagjmfgaccjaa.Rx
open Go Go.RowKit Go.Shelf Go.Proofs.Ytlaagjmfgaccjaa
set_option linter.unusedVariables false
set_option maxRecDepth 100000
set_option maxHeartbeats 4000000 in
theorem OverRegex_keep (K : World → Prop) (hK : ∀ W p u, K W → K (World.setCell W p u)) (B : Nat) (A : Option Addr) (n c : Nat) (w : World) (hn : n ≤ 1000000) (hw : CanP B w A n) (hKw : K w) :
    Calls Try.prog 21 #[.slice A n c] w fun e w' => e = .returned (.tuple #[]) ∧ Below B w w' ∧ K w' := by
  have HK := Lib.hid hK
  clear hK
  go_enter Try.func21, Try.ntmps21
  go_wp2
  go_loopw [2] (fun i wr => ∃ k : Nat, k ≤ n ∧ i = .int .i64 k ∧ CanP B wr A n ∧ Below B w wr ∧ Hid (K wr)) (fun i _ => n - (intOf i).toNat)
  case atStart => exact ⟨0, by omega, rfl, hw, Below.refl _ _, hKw⟩
  case round =>
    clear hw hKw
    obtain ⟨k, hk, rfl, hw, hb, hk0⟩ := hrel
    by_cases hlt : k < n
    · obtain ⟨ad, e0, g1, _⟩ := hw k hlt
      subst e0
      have k0 : wr.frozen? (ad.add (k * 5)) = false ∧ ∃ u, wr.cell? (ad.add (k * 5)) = some u := by obtain ⟨a2, e2, _, g⟩ := hw k hlt; cases e2; exact g 0 (by omega)
      obtain ⟨z0, v0, c0⟩ := k0
      have hw0 := hw.set (ad.add (k * 5)) (.int .u8 99)
      have hb0 := hb.setCell (p := (ad.add (k * 5))) (by rw [addr_block]; exact g1) (.int .u8 99)
      have k1 : (wr.setCell (ad.add (k * 5)) (.int .u8 99)).frozen? ⟨(ad.add (k * 5)).block, (ad.add (k * 5)).off + 1, none⟩ = false ∧ ∃ u, (wr.setCell (ad.add (k * 5)) (.int .u8 99)).cell? ⟨(ad.add (k * 5)).block, (ad.add (k * 5)).off + 1, none⟩ = some u := by obtain ⟨a2, e2, _, g⟩ := hw0 k hlt; cases e2; exact g 1 (by omega)
      obtain ⟨z1, v1, c1⟩ := k1
      have hw1 := hw0.set ⟨(ad.add (k * 5)).block, (ad.add (k * 5)).off + 1, none⟩ (.int .u8 0)
      have hb1 := hb0.setCell (p := ⟨(ad.add (k * 5)).block, (ad.add (k * 5)).off + 1, none⟩) (by show B ≤ (ad.add (k * 5)).block; rw [addr_block]; exact g1) (.int .u8 0)
      have k2 : ((wr.setCell (ad.add (k * 5)) (.int .u8 99)).setCell ⟨(ad.add (k * 5)).block, (ad.add (k * 5)).off + 1, none⟩ (.int .u8 0)).frozen? ⟨(ad.add (k * 5)).block, (ad.add (k * 5)).off + 2, none⟩ = false ∧ ∃ u, ((wr.setCell (ad.add (k * 5)) (.int .u8 99)).setCell ⟨(ad.add (k * 5)).block, (ad.add (k * 5)).off + 1, none⟩ (.int .u8 0)).cell? ⟨(ad.add (k * 5)).block, (ad.add (k * 5)).off + 2, none⟩ = some u := by obtain ⟨a2, e2, _, g⟩ := hw1 k hlt; cases e2; exact g 2 (by omega)
      obtain ⟨z2, v2, c2⟩ := k2
      have hw2 := hw1.set ⟨(ad.add (k * 5)).block, (ad.add (k * 5)).off + 2, none⟩ (.int .u8 0)
      have hb2 := hb1.setCell (p := ⟨(ad.add (k * 5)).block, (ad.add (k * 5)).off + 2, none⟩) (by show B ≤ (ad.add (k * 5)).block; rw [addr_block]; exact g1) (.int .u8 0)
      have k3 : (((wr.setCell (ad.add (k * 5)) (.int .u8 99)).setCell ⟨(ad.add (k * 5)).block, (ad.add (k * 5)).off + 1, none⟩ (.int .u8 0)).setCell ⟨(ad.add (k * 5)).block, (ad.add (k * 5)).off + 2, none⟩ (.int .u8 0)).frozen? ⟨(ad.add (k * 5)).block, (ad.add (k * 5)).off + 3, none⟩ = false ∧ ∃ u, (((wr.setCell (ad.add (k * 5)) (.int .u8 99)).setCell ⟨(ad.add (k * 5)).block, (ad.add (k * 5)).off + 1, none⟩ (.int .u8 0)).setCell ⟨(ad.add (k * 5)).block, (ad.add (k * 5)).off + 2, none⟩ (.int .u8 0)).cell? ⟨(ad.add (k * 5)).block, (ad.add (k * 5)).off + 3, none⟩ = some u := by obtain ⟨a2, e2, _, g⟩ := hw2 k hlt; cases e2; exact g 3 (by omega)
      obtain ⟨z3, v3, c3⟩ := k3
      have hw3 := hw2.set ⟨(ad.add (k * 5)).block, (ad.add (k * 5)).off + 3, none⟩ (.int .i64 0)
      have hb3 := hb2.setCell (p := ⟨(ad.add (k * 5)).block, (ad.add (k * 5)).off + 3, none⟩) (by show B ≤ (ad.add (k * 5)).block; rw [addr_block]; exact g1) (.int .i64 0)
      have k4 : ((((wr.setCell (ad.add (k * 5)) (.int .u8 99)).setCell ⟨(ad.add (k * 5)).block, (ad.add (k * 5)).off + 1, none⟩ (.int .u8 0)).setCell ⟨(ad.add (k * 5)).block, (ad.add (k * 5)).off + 2, none⟩ (.int .u8 0)).setCell ⟨(ad.add (k * 5)).block, (ad.add (k * 5)).off + 3, none⟩ (.int .i64 0)).frozen? ⟨(ad.add (k * 5)).block, (ad.add (k * 5)).off + 4, none⟩ = false ∧ ∃ u, ((((wr.setCell (ad.add (k * 5)) (.int .u8 99)).setCell ⟨(ad.add (k * 5)).block, (ad.add (k * 5)).off + 1, none⟩ (.int .u8 0)).setCell ⟨(ad.add (k * 5)).block, (ad.add (k * 5)).off + 2, none⟩ (.int .u8 0)).setCell ⟨(ad.add (k * 5)).block, (ad.add (k * 5)).off + 3, none⟩ (.int .i64 0)).cell? ⟨(ad.add (k * 5)).block, (ad.add (k * 5)).off + 4, none⟩ = some u := by obtain ⟨a2, e2, _, g⟩ := hw3 k hlt; cases e2; exact g 4 (by omega)
      obtain ⟨z4, v4, c4⟩ := k4
      have hw4 := hw3.set ⟨(ad.add (k * 5)).block, (ad.add (k * 5)).off + 4, none⟩ (.int .i64 0)
      have hb4 := hb3.setCell (p := ⟨(ad.add (k * 5)).block, (ad.add (k * 5)).off + 4, none⟩) (by show B ≤ (ad.add (k * 5)).block; rw [addr_block]; exact g1) (.int .i64 0)
      have HW := Lib.hid hw4
      have HK4 := Lib.hid (HK.out _ ⟨(ad.add (k * 5)).block, (ad.add (k * 5)).off + 4, none⟩ (.int .i64 0) (HK.out _ ⟨(ad.add (k * 5)).block, (ad.add (k * 5)).off + 3, none⟩ (.int .i64 0) (HK.out _ ⟨(ad.add (k * 5)).block, (ad.add (k * 5)).off + 2, none⟩ (.int .u8 0) (HK.out _ ⟨(ad.add (k * 5)).block, (ad.add (k * 5)).off + 1, none⟩ (.int .u8 0) (HK.out _ (ad.add (k * 5)) (.int .u8 99) hk0.out)))))
      have HB := Lib.hid hb4
      clear hw hb hw0 hw1 hw2 hw3 hw4 hb0 hb1 hb2 hb3 hb4 g1 hk0
      go_wp2
      go_roundw
      case rel => exact ⟨k + 1, by omega, by go_num, HW.out, HB.out, HK4.out⟩
      case measure => simp [intOf]; omega
    · obtain rfl : k = n := by omega
      go_wp2
      go_end0
      exact ⟨rfl, hb, hk0.out⟩
theorem pcs_can {B : Nat} {w : World} {A : Option Addr} {n c : Nat} {l : List Pc} (h : w.ownsRow B 43 5 (.slice A n c) n (pvs l)) : CanP B w A n := CanP.own h
theorem own_nil (w : World) (B : Nat) : w.ownsRow B 43 5 (.slice none 0 0) ([] : List Pc).length (pvs []) := ⟨rfl, .inl ⟨rfl, rfl⟩⟩
section
variable (l : List Pc) (v i : Int) (hl : l.length ≤ 1000000)
include hl
/-- What both sides answer: one contract for good and for bad expressions. -/
theorem all_res (hv : -9223372036854775808 ≤ v ∧ v ≤ 9223372036854775807) (hi : -9223372036854775808 ≤ i ∧ i ≤ 9223372036854775807) : ∃ (T : ByteArray) (PL : Bool) (E EB : Int) (LB LR : List Pc), LB.length ≤ 1000 ∧ LR.length ≤ 1000 ∧ (∀ x ∈ LB, PcOk x) ∧ (∀ x ∈ LR, PcOk x) ∧
    (∀ (X : World) A c, PcsAt X A l → Calls Try.prog 18 #[.slice A l.length c, .int .i64 v] X fun r X' => r = .returned (.int .i64 E) ∧ Below X.heap.size X X') ∧
    (∀ (X : World) A c, PcsAt X A l → Calls Try.prog 19 #[.slice A l.length c, .int .i64 v] X fun r X' => r = .returned (.int .i64 E) ∧ Below X.heap.size X X') ∧
    (∀ (X : World) A c, PcsAt X A l → Calls Try.prog 14 #[.slice A l.length c, .int .i64 v] X fun r X' => r = .returned (.tuple #[.string T, .int .i64 E]) ∧ Below X.heap.size X X') ∧
    (∀ (X : World) A c, PcsAt X A l → Calls Try.prog 10 #[.slice A l.length c, .int .i64 v] X fun r X' => r = .returned (.tuple #[.string T, .int .i64 E]) ∧ Below X.heap.size X X') ∧
    (∀ (X : World) A c, PcsAt X A l → Calls Try.prog 15 #[.slice A l.length c, .int .i64 v] X fun r X' => r = .returned (.tuple #[.bool PL, .int .i64 E]) ∧ Below X.heap.size X X') ∧
    (∀ (X : World) A c, PcsAt X A l → Calls Try.prog 11 #[.slice A l.length c, .int .i64 v] X fun r X' => r = .returned (.tuple #[.bool PL, .int .i64 E]) ∧ Below X.heap.size X X') ∧
    (∀ (X : World) A c, PcsAt X A l → Calls Try.prog 16 #[.slice A l.length c, .int .i64 v, .int .i64 i] X fun r X' => ∃ A' c', r = .returned (.tuple #[.slice A' LB.length c', .int .i64 EB]) ∧ X'.ownsRow X.heap.size 43 5 (.slice A' LB.length c') LB.length (pvs LB) ∧ Below X.heap.size X X') ∧
    (∀ (X : World) A c, PcsAt X A l → Calls Try.prog 12 #[.slice A l.length c, .int .i64 v, .int .i64 i] X fun r X' => ∃ A' c', r = .returned (.tuple #[.slice A' LB.length c', .int .i64 EB]) ∧ PcsAt X' A' LB ∧ Below X.heap.size X X') ∧
    (∀ (X : World) A c, PcsAt X A l → Calls Try.prog 17 #[.slice A l.length c, .int .i64 v] X fun r X' => ∃ A' c', r = .returned (.tuple #[.slice A' LR.length c', .int .i64 E]) ∧ X'.ownsRow X.heap.size 43 5 (.slice A' LR.length c') LR.length (pvs LR) ∧ Below X.heap.size X X') ∧
    (∀ (X : World) A c, PcsAt X A l → Calls Try.prog 13 #[.slice A l.length c, .int .i64 v] X fun r X' => ∃ A' c', r = .returned (.tuple #[.slice A' LR.length c', .int .i64 E]) ∧ PcsAt X' A' LR ∧ Below X.heap.size X X') := by
  by_cases hE : chkL v l = 0
  · obtain ⟨t, hV, rfl⟩ := chkL_ok hE
    have hs := hV.size
    have hlen : (flat t 0).length = t.size := flat_len t 0
    have hrl : (flat (rev t) 0).length = t.size := by rw [flat_len, rev_size]
    have hVr := rev_valid hV
    have hb : ∃ (EB : Int) (LB : List Pc), LB.length ≤ 1000 ∧ (∀ x ∈ LB, PcOk x) ∧
        (∀ (X : World) A c, PcsAt X A (flat t 0) → Calls Try.prog 16 #[.slice A (flat t 0).length c, .int .i64 v, .int .i64 i] X fun r X' => ∃ A' c', r = .returned (.tuple #[.slice A' LB.length c', .int .i64 EB]) ∧ X'.ownsRow X.heap.size 43 5 (.slice A' LB.length c') LB.length (pvs LB) ∧ Below X.heap.size X X') ∧
        (∀ (X : World) A c, PcsAt X A (flat t 0) → Calls Try.prog 12 #[.slice A (flat t 0).length c, .int .i64 v, .int .i64 i] X fun r X' => ∃ A' c', r = .returned (.tuple #[.slice A' LB.length c', .int .i64 EB]) ∧ PcsAt X' A' LB ∧ Below X.heap.size X X') := by
      by_cases hin : 0 ≤ i ∧ i < t.size
      · obtain ⟨k, rfl⟩ : ∃ k : Nat, i = k := ⟨i.toNat, by omega⟩
        have hk : k < t.size := by omega
        obtain ⟨so, sc, ss, _, _⟩ := sub_ok v t k hk hV.ok hV.cubes
        have hf : ∀ x ∈ flat (sub t k) 0, PcOk x := flat_fine _ 0 so (p8_cubes _ so sc) (by omega)
        have hfl := flat_len (sub t k) 0
        refine ⟨0, flat (sub t k) 0, by omega, hf, fun X A c hX => ?_, fun X A c hX => ?_⟩
        · rw [hfl]
          exact Block_good A t _ c v X k hX hV hlen hk
        · rw [hfl]
          exact (refBlock_good A t _ c v X k hX hV hlen hk).mono fun r X' ⟨A', c', h1, h2, h3⟩ => ⟨A', c', h1, pcs_of_own h2 hf, h3⟩
      · have ho : i < 0 ∨ (t.size : Int) ≤ i := by omega
        refine ⟨8, [], by decide, fun x hx => (by cases hx), fun X A c hX => ?_, fun X A c hX => ?_⟩
        · exact (Block_out A t _ c v X i hX hV hlen ho).mono fun r X' ⟨h1, h2⟩ => ⟨none, 0, h1, own_nil _ _, h2⟩
        · exact (refBlock_out A t _ c v X i hX hV hlen ho).mono fun r X' ⟨h1, h2⟩ => ⟨none, 0, h1, fun j hj => absurd hj (Nat.not_lt_zero j), h2⟩
    obtain ⟨EB, LB, b1, b2, b3, b4⟩ := hb
    refine ⟨⟨(txt t).toArray⟩, plainT t, 0, EB, LB, flat (rev t) 0, b1, by omega, b2, valid_fine hVr, fun X A c hX => ?_, fun X A c hX => ?_, fun X A c hX => ?_, fun X A c hX => ?_, fun X A c hX => ?_, fun X A c hX => ?_, b3, b4, fun X A c hX => ?_, fun X A c hX => ?_⟩
    · have := Check_any A (flat t 0) c v X hX hl
      rwa [hE] at this
    · have := refCheck_L A (flat t 0) c v X hX hl
      rwa [hE] at this
    · exact Format_good A t _ c v X hX hV hlen
    · exact refFormat_good A t _ c v X hX hV hlen
    · exact Plain_good A t _ c v X hX hV hlen
    · exact refPlain_good A t _ c v X hX hV hlen
    · rw [hrl]
      have := Reverse_good A t (flat t 0).length c v X hX hV hlen
      rwa [hlen] at this ⊢
    · rw [hrl]
      have := refReverse_good A t (flat t 0).length c v X hX hV hlen
      rwa [hlen] at this ⊢
  · refine ⟨⟨#[]⟩, false, chkL v l, chkL v l, [], [], by decide, by decide, fun x hx => (by cases hx), fun x hx => (by cases hx), fun X A c hX => Check_any A l c v X hX hl, fun X A c hX => refCheck_L A l c v X hX hl, fun X A c hX => Format_bad A l c v X hX hl hE, fun X A c hX => refFormat_bad A l c v X hX hl hE, fun X A c hX => Plain_bad A l c v X hX hl hE, fun X A c hX => refPlain_bad A l c v X hX hl hE, fun X A c hX => ?_, fun X A c hX => ?_, fun X A c hX => ?_, fun X A c hX => ?_⟩
    · exact (Block_bad A l c v X i hX hl hE).mono fun r X' ⟨h1, h2⟩ => ⟨none, 0, h1, own_nil _ _, h2⟩
    · exact (refBlock_bad A l c v X i hX hl hE).mono fun r X' ⟨h1, h2⟩ => ⟨none, 0, h1, fun j hj => absurd hj (Nat.not_lt_zero j), h2⟩
    · exact (Reverse_bad A l c v X hX hl hE).mono fun r X' ⟨h1, h2⟩ => ⟨none, 0, h1, own_nil _ _, h2⟩
    · exact (refReverse_bad A l c v X hX hl hE).mono fun r X' ⟨h1, h2⟩ => ⟨none, 0, h1, fun j hj => absurd hj (Nat.not_lt_zero j), h2⟩
end
theorem CanP_below_own {B : Nat} {w w' : World} {A : Option Addr} {n c : Nat} {xs : List Value} (h : w.ownsRow B 43 5 (.slice A n c) n xs) (hb : Below w.heap.size w w') : CanP B w' A n := CanP.own (Ap.own_bel h hb)
set_option maxHeartbeats 8000000 in
theorem regexMatches_walk (A : Option Addr) (l : List Pc) (c : Nat) (v i : Int) (w : World) (hx : PcsAt w A l) (hl : l.length ≤ maxLen) (hv : -9223372036854775808 ≤ v ∧ v ≤ 9223372036854775807) (hi : -9223372036854775808 ≤ i ∧ i ≤ 9223372036854775807) :
    Calls Try.prog 3 #[.slice A l.length c, .int .i64 v, .int .i64 i] w fun e w' => e = .returned (.bool true) ∧ Below w.heap.size w w' := by
  have HAw := Lib.hid fun X => awake_any X
  by_cases h100 : 100 < l.length
  · have d1 : decide ((100 : Int) < (l.length : Int)) = true := decide_eq_true (by omega)
    have h101 : (100 : Int) < (l.length : Int) := by omega
    clear hx hv hl hi
    generalize l.length = n at *
    go_enter Try.func3, Try.ntmps3
    go_wp2_with (go_at_call 8; ((with_reducible refine (HAw.out _).mono ?_); rintro r w2 ⟨rfl, hb2⟩))
    go_ret
    exact ⟨rfl, hb2⟩
  have d1 : decide ((100 : Int) < (l.length : Int)) = false := decide_eq_false (by omega)
  have hl6 : l.length ≤ 1000000 := by omega
  obtain ⟨T, PL, E, EB, LB, LR, lb, lr, fb, fr, g1, g2, g3, g4, g5, g6, g7, g8, g9, g10⟩ := all_res l v i hl6 hv hi
  have G1 := Lib.hid g1
  have G2 := Lib.hid g2
  have G3 := Lib.hid g3
  have G4 := Lib.hid g4
  have G5 := Lib.hid g5
  have G6 := Lib.hid g6
  have G7 := Lib.hid g7
  have G8 := Lib.hid g8
  have G9 := Lib.hid g9
  have G10 := Lib.hid g10
  clear g1 g2 g3 g4 g5 g6 g7 g8 g9 g10
  have HCp := Lib.hid (CopyRegex_any A l c w hx (by omega))
  have hf : ∀ x ∈ l, PcOk x := fun x h => by
    obtain ⟨j, hj, rfl⟩ := List.mem_iff_getElem.1 h
    have := (hx j hj).1
    unfold pc at this
    rwa [List.getD_eq_getElem?_getD, List.getElem?_eq_getElem hj] at this
  have HPl : Hid (∀ (X : World) b A c, X.ownsRow b 43 5 (.slice A l.length c) l.length (pvs l) → PcsAt X A l) := fun X b A c h => pcs_of_own h hf
  have HPb : Hid (∀ (X : World) b A c, X.ownsRow b 43 5 (.slice A LB.length c) LB.length (pvs LB) → PcsAt X A LB) := fun X b A c h => pcs_of_own h fb
  have HPr : Hid (∀ (X : World) b A c, X.ownsRow b 43 5 (.slice A LR.length c) LR.length (pvs LR) → PcsAt X A LR) := fun X b A c h => pcs_of_own h fr
  have HX := Lib.hid fun X (h : Below w.heap.size w X) => hx.below h
  have eq1 : ∀ (L : List Pc) (hL : L.length ≤ 1000000) (X : World) A B c d, PcsAt X A L → PcsAt X B L → Calls Try.prog 20 #[.slice A L.length c, .slice B L.length d] X fun r X' => r = .returned (.bool true) ∧ Below X.heap.size X X' := fun L hL X A B c d hA hB => by
    have := EqualRegex_any A B L L c d X hA hB hL
    rw [decide_eq_true rfl] at this
    exact this.mono fun e w' ⟨h1, n, h2⟩ => ⟨h1, h2 ▸ Ap.drewN_below X n⟩
  have HEl := Lib.hid (eq1 l hl6)
  have HEb := Lib.hid (eq1 LB (by omega))
  have HEr := Lib.hid (eq1 LR (by omega))
  have HOx : Hid (∀ (X : World) b A c b' A', CanP b X A LB.length → CanP b' X A' LR.length → Calls Try.prog 21 #[.slice A LB.length c] X fun r X' => r = .returned (.tuple #[]) ∧ Below b X X' ∧ CanP b' X' A' LR.length) := fun X b A c b' A' h1 h2 =>
    OverRegex_keep (fun W => CanP b' W A' LR.length) (fun W p u h => h.set p u) b A LB.length c X (by omega) h1 h2
  have HOy : Hid (∀ (X : World) b A c, CanP b X A LR.length → Calls Try.prog 21 #[.slice A LR.length c] X fun r X' => r = .returned (.tuple #[]) ∧ Below b X X') := fun X b A c h => OverRegex_any b A LR.length c X (by omega) h
  have q1 : (E != E) = false := by simp
  have q2 : (EB != EB) = false := by simp
  have q3 : (PL != PL) = false := by simp
  clear eq1 hf hx hl hv hi fb fr
  generalize l.length = n at *
  generalize LB.length = nb at *
  generalize LR.length = nr at *
  go_enter Try.func3, Try.ntmps3
  go_wp2_with (first
    | (go_at_call 9; ((with_reducible refine HCp.out.mono ?_); rintro r w1 ⟨A1, c1, rfl, hO1, hb⟩); have P1 := Lib.hid (HPl.out _ _ _ _ hO1); have K1 := Lib.hid hb; clear hO1 hb HCp)
    | (go_at_call 10; ((with_reducible refine (G4.out _ _ _ (HX.out _ K1.out)).mono ?_); rintro r w2 ⟨rfl, hb⟩); have K2 := Lib.hid (stepB K1.out hb); have P2 := Lib.hid (P1.out.below hb); clear hb P1 K1 G4)
    | (go_at_call 11; ((with_reducible refine (G6.out _ _ _ (HX.out _ K2.out)).mono ?_); rintro r w3 ⟨rfl, hb⟩); have K3 := Lib.hid (stepB K2.out hb); have P3 := Lib.hid (P2.out.below hb); clear hb P2 K2 G6)
    | (go_at_call 12; ((with_reducible refine (G8.out _ _ _ (HX.out _ K3.out)).mono ?_); rintro r w4 ⟨A4, c4, rfl, hB4, hb⟩); have K4 := Lib.hid (stepB K3.out hb); have P4 := Lib.hid (P3.out.below hb); have B4 := Lib.hid hB4; clear hB4 hb P3 K3 G8)
    | (go_at_call 13; ((with_reducible refine (G10.out _ _ _ (HX.out _ K4.out)).mono ?_); rintro r w5 ⟨A5, c5, rfl, hR5, hb⟩); have K5 := Lib.hid (stepB K4.out hb); have P5 := Lib.hid (P4.out.below hb); have B5 := Lib.hid (B4.out.below hb); have R5 := Lib.hid hR5; clear hR5 hb P4 K4 B4 G10))
  go_loopw [16, 17, 18, 19, 20, 21, 22, 23, 24] (fun i _ _ _ _ _ _ _ _ wr => ∃ k : Nat, k ≤ 2 ∧ i = .int .i64 k ∧ Hid (Below w5.heap.size w5 wr)) (fun i _ _ _ _ _ _ _ _ _ => 2 - (intOf i).toNat)
  case atStart => exact ⟨0, by decide, rfl, Below.refl _ _⟩
  case round =>
    obtain ⟨m, hm, rfl, hb0⟩ := hrel
    by_cases hm2 : m = 2
    · subst hm2
      go_wp2_with (go_at_call 8; ((with_reducible refine (HAw.out _).mono ?_); rintro r w2 ⟨rfl, hb2⟩))
      go_ret
      exact ⟨rfl, stepB (stepB K5.out hb0.out) hb2⟩
    · have hm1 : m < 2 := by omega
      go_upto_region 15 with (first
        | (go_at_call 14; ((with_reducible refine (G3.out _ _ _ (P5.out.below hb0.out)).mono ?_); rintro r w6 ⟨rfl, hb⟩); have K6 := Lib.hid (stepB hb0.out hb); clear hb)
        | (go_at_call 15; ((with_reducible refine (G5.out _ _ _ (P5.out.below K6.out)).mono ?_); rintro r w7 ⟨rfl, hb⟩); have K7 := Lib.hid (stepB K6.out hb); clear hb)
        | (go_at_call 16; ((with_reducible refine (G7.out _ _ _ (P5.out.below K7.out)).mono ?_); rintro r w8 ⟨A8, c8, rfl, hO, hb⟩); have K8 := Lib.hid (stepB K7.out hb); have O8 := Lib.hid hO; have S8 := Lib.hid K7.out.size; clear hb hO)
        | (go_at_call 17; ((with_reducible refine (G9.out _ _ _ (P5.out.below K8.out)).mono ?_); rintro r w9 ⟨A9, c9, rfl, hO, hb⟩); have K9 := Lib.hid (stepB K8.out hb); have O9 := Lib.hid hO; have O8' := Lib.hid (Ap.own_bel O8.out hb); have S9 := Lib.hid K8.out.size; clear hb hO))
      have C1 := Lib.hid fun X (hX : Below w9.heap.size w9 X) => G1.out X A1 c1 (P5.out.below (stepB K9.out hX))
      have C2 := Lib.hid fun X (hX : Below w9.heap.size w9 X) => G2.out X A c (HX.out X (stepB K5.out (stepB K9.out hX)))
      have C3 := Lib.hid fun X (hX : Below w9.heap.size w9 X) => HEb.out X A8 A4 c8 c4 (HPb.out X _ A8 c8 (Ap.own_bel O8'.out hX)) (B5.out.below (stepB K9.out hX))
      have C4 := Lib.hid fun X (hX : Below w9.heap.size w9 X) => HEr.out X A9 A5 c9 c5 (HPr.out X _ A9 c9 (Ap.own_bel O9.out hX)) (R5.out.below (stepB K9.out hX))
      have C5 := Lib.hid fun X (hX : Below w9.heap.size w9 X) => HEl.out X A1 A c1 c (P5.out.below (stepB K9.out hX)) (HX.out X (stepB K5.out (stepB K9.out hX)))
      clear K6 K7 K8 O8
      go_wp2_with (first
        | (go_at_call 18; ((with_reducible refine (C1.out _ (Below.refl _ _)).mono ?_); rintro e wa ⟨rfl, hb⟩); have Ka := Lib.hid hb; clear hb C1)
        | (go_at_call 19; ((with_reducible refine (C2.out _ Ka.out).mono ?_); rintro e wb ⟨rfl, hb⟩); have Kb := Lib.hid (stepB Ka.out hb); clear hb C2 Ka)
        | (go_at_call 20; ((with_reducible refine (C3.out _ Kb.out).mono ?_); rintro e wc ⟨rfl, hb⟩); have Kc := Lib.hid (stepB Kb.out hb); clear hb C3 Kb)
        | (go_at_call 20; ((with_reducible refine (C4.out _ Kc.out).mono ?_); rintro e wd ⟨rfl, hb⟩); have Kd := Lib.hid (stepB Kc.out hb); clear hb C4 Kc)
        | (go_at_call 20; ((with_reducible refine (C5.out _ Kd.out).mono ?_); rintro e we ⟨rfl, hb⟩); have HKX := Lib.hid (stepB Kd.out hb); have Z8 := Lib.hid (CanP.own (Ap.own_bel O8'.out HKX.out)); have Z9 := Lib.hid (CanP.own (Ap.own_bel O9.out HKX.out)); clear hb C5 Kd)
        | (go_at_call 21; ((with_reducible refine (HOx.out _ _ _ _ _ _ Z8.out Z9.out).mono ?_); rintro r wA ⟨rfl, hbA, hcA⟩); have KA := Lib.hid ((stepB K9.out HKX.out).trans (hbA.mono S8.out)); have ZA := Lib.hid hcA; clear hbA hcA Z8 Z9)
        | (go_at_call 21; ((with_reducible refine (HOy.out _ _ _ _ ZA.out).mono ?_); rintro r wB ⟨rfl, hbB⟩); have KB := Lib.hid (KA.out.trans (hbB.mono S9.out)); clear hbB))
      go_roundw
      case rel => exact ⟨m + 1, by omega, by go_num, KB⟩
      case measure => simp [intOf]; omega
end Go.Proofs.Ytlaagjmfgaccjaa.Rx
