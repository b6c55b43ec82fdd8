/- The reference's Letters; overwriting a slice of bytes. -/
import Derived.Test.YtjjdhegkcilaiaaDoorDF
import Derived.Test.YtjjdhegkcilaiaaDoorCX
namespace Go.Proofs.YtjjdhegkcilaiaaDoor
open Go Go.RowKit Go.Shelf
set_option maxRecDepth 100000
set_option maxHeartbeats 2000000 in
theorem refLetters_ok (p q v : Nat) (w : World) (hC : Cube p q v) :
    Calls Tryd.prog 31 #[.agg #[.int .u8 p, .int .u8 q], .int .i64 v] w fun e w' =>
      ∃ u, e = .returned u ∧ w'.ownsRow w.heap.size 5 1 u (letTo p q (2 ^ v)).length (bvs (letTo p q (2 ^ v))) ∧ Below w.heap.size w w' := by
  obtain ⟨i0, hi, hz0, hz1, hz2⟩ := info_parts info_u8
  have hlt := hC.lt
  have hp : p < 256 := by omega
  have hq : q < 256 := by omega
  have hv := hC.1
  have h64 := pow6 hv
  have HL := Lib.hid fun w => kitLetters_any v w hv
  obtain ⟨N, hN⟩ : ∃ N, N = 2 ^ v := ⟨_, rfl⟩
  rw [← hN] at HL h64 ⊢
  clear hC hlt hN
  go_enter Tryd.func31, Tryd.ntmps31
  have bC := Box2.new w 42 (.int .u8 (p : Nat)) (.int .u8 (q : Nat))
  have k0 := bal (Below.refl _ w) (.cells #[.int .u8 (p : Nat), .int .u8 (q : Nat)] 42)
  go_wp2
  go_loopw [5, 6] (fun u i wr => ∃ k n : Nat, k ≤ N ∧ i = .int .i64 k ∧ Hid (n = (letTo p q k).length) ∧ wr.ownsRow (w.heap.size + 1) 5 1 u n (bvs (letTo p q k)) ∧ Box2 wr w.heap.size 42 (.int .u8 p) (.int .u8 q) ∧ Below w.heap.size w wr) (fun _ i _ => N - (intOf i).toNat)
  case atStart => exact ⟨0, 0, by omega, rfl, rfl, ⟨rfl, .inl ⟨rfl, rfl⟩⟩, bC, k0⟩
  case round =>
    clear bC k0
    obtain ⟨k, n, hk, rfl, HM, ho, bC, hb⟩ := hrel
    obtain ⟨vA, vc, rfl, hvc⟩ := own_form ho
    have a0 := bC.c0
    have a1 := bC.c1
    by_cases hkN : k < N
    · have hn64 : n ≤ 64 := by have := letTo_len p q k; rw [← HM.out] at this; omega
      have HH := Lib.hid fun w => refHas_any p q k w hp hq (by omega)
      cases hh : cHas p q k with
      | true =>
        rw [hh] at HH
        have HE := Lib.hid (letTo_succ hh)
        clear hh
        go_wp2_with (first
          | (go_at_call 51; ((with_reducible refine (HL.out _).mono ?_); rintro e w2 ⟨rfl, rfl⟩))
          | (go_at_call 37; ((with_reducible refine (HH.out _).mono ?_); rintro e w2 ⟨rfl, hb2⟩); replace ho := ho.below hb2; replace bC := bC.below hb2; replace hb := stepB hb hb2; clear hb2 a0 a1)
          | (at_builtin; refine wpList_append_own _ rfl _ _ 45 rfl (w.heap.size + 1) 5 i0 (.int .u8 0) 1 1 Tryd.underlying45 hi hz0 hz1 hz2 rfl (by decide) _ _ _ rfl (ho.alloc _) ⟨w2.heap.size, 0, none⟩ 1 1 [.int .u8 (k : Nat)] rfl rfl (cell_one_new _ _ _) (by simp [Value.oneCell']) (by unfold maxLen; omega) (by omega) (by have := hb.size; simp; omega) ?_; intro v' w3 hown' hgrow _))
        have hs2 : w.heap.size + 1 ≤ w2.heap.size := by have := bC.lt; omega
        have hb3 : Below (w.heap.size + 1) w2 w3 := ((Below.refl _ _).alloc hs2 _).grown hgrow (by simp; omega) (fun q hq => (ho.lt q hq).1)
        obtain ⟨g', cap', rfl⟩ := ownsRow_succ hown'
        have hown2 : w3.ownsRow (w.heap.size + 1) 5 1 (.slice (some ⟨g', 0, none⟩) (n + 1) cap') (n + 1) (bvs (letTo p q (k + 1))) := by
          rw [HE.out, bvs_snoc]
          exact hown'
        have HM2 : Hid (n + 1 = (letTo p q (k + 1)).length) := by
          show _ = _
          rw [HE.out, List.length_append, ← HM.out]; rfl
        go_roundw
        case rel => exact ⟨k + 1, n + 1, by omega, by go_num, HM2, hown2, (hb3.block _ (by omega)).trans bC, hb.trans (hb3.mono (by omega))⟩
        case measure => simp [intOf]; omega
      | false =>
        rw [hh] at HH
        have HE := Lib.hid (letTo_same hh)
        clear hh
        go_wp2_with (first
          | (go_at_call 51; ((with_reducible refine (HL.out _).mono ?_); rintro e w2 ⟨rfl, rfl⟩))
          | (go_at_call 37; ((with_reducible refine (HH.out _).mono ?_); rintro e w2 ⟨rfl, hb2⟩); replace ho := ho.below hb2; replace bC := bC.below hb2; replace hb := stepB hb hb2; clear hb2 a0 a1))
        go_roundw
        case rel => exact ⟨k + 1, n, by omega, by go_num, by show _ = _; rw [HE.out]; exact HM.out, by rw [HE.out]; exact ho, bC, hb⟩
        case measure => simp [intOf]; omega
    · obtain rfl : k = N := by omega
      go_wp2_with (go_at_call 51; ((with_reducible refine (HL.out _).mono ?_); rintro e w2 ⟨rfl, rfl⟩))
      go_ret
      exact ⟨_, rfl, by rw [← HM.out]; exact ownsRow_mono ho (by omega), hb⟩
/-- Each of the n bytes at A may be overwritten; they lie in no block below B. -/
def CanB (B : Nat) (w : World) (A : Option Addr) (n : Nat) : Prop :=
  ∀ j, j < n → ∃ ad, A = some ad ∧ B ≤ ad.block ∧ w.frozen? (ad.add j) = false ∧ ∃ u, w.cell? (ad.add j) = some u
theorem CanB.set {B : Nat} {w : World} {A : Option Addr} {n : Nat} (h : CanB B w A n) (p : Addr) (v : Value) : CanB B (w.setCell p v) A n := by
  intro j hj
  obtain ⟨ad, e, h1, h2, u, h4⟩ := h j hj
  refine ⟨ad, e, h1, by rw [World.frozen?_setCell]; exact h2, ?_⟩
  by_cases hp : p = ad.add j
  · subst hp
    exact ⟨v, World.cell?_setCell_same _ _ _ h4⟩
  · exact ⟨u, by rw [World.cell?_setCell_other _ _ _ _ hp]; exact h4⟩
theorem own_some' {w : World} {base e size n : Nat} {v : Value} {xs : List Value} (h : w.ownsRow base e size v n xs) (hn : 0 < n) : ∃ g c, v = .slice (some ⟨g, 0, none⟩) n c ∧ base ≤ g := by
  rcases h.2 with ⟨h1, _⟩ | ⟨g, cap, cur, rfl, h2, _⟩
  · omega
  · exact ⟨_, _, rfl, h2⟩
theorem CanB.own {B : Nat} {w : World} {e n c : Nat} {A : Option Addr} {xs : List Value} (h : w.ownsRow B e 1 (.slice A n c) n xs) : CanB B w A n := by
  intro j hj
  obtain ⟨g, c', hv, hg⟩ := own_some' h (by omega)
  injection hv with hA _ hc
  subst hA hc
  have hx : j < xs.length := by have := h.1; omega
  refine ⟨_, rfl, hg, ?_, xs[j], ?_⟩
  · rw [addr_add]; exact h.frozenAt j
  · rw [addr_add, h.cellAt j (by omega), List.getElem?_eq_getElem hx]
theorem OverBytes_any (B : Nat) (A : Option Addr) (n c : Nat) (w : World) (hn : n ≤ 1000000) (hw : CanB B w A n) :
    Calls Tryd.prog 39 #[.slice A n c] w fun e w' => e = .returned (.tuple #[]) ∧ Below B w w' := by
  go_enter Tryd.func39, Tryd.ntmps39
  go_wp2
  go_loopw [2] (fun i wr => ∃ k : Nat, k ≤ n ∧ i = .int .i64 k ∧ CanB B wr A n ∧ Below B w wr) (fun i _ => n - (intOf i).toNat)
  case atStart => exact ⟨0, by omega, rfl, hw, Below.refl _ _⟩
  case round =>
    clear hw
    obtain ⟨k, hk, rfl, hw, hb⟩ := hrel
    by_cases hlt : k < n
    · obtain ⟨ad, rfl, g1, g2, u, g3⟩ := hw k hlt
      have hb2 := hb.setCell (p := ad.add k) (by rw [addr_block]; exact g1) (.int .u8 201)
      have hw2 := hw.set (ad.add k) (.int .u8 201)
      clear hb hw g1
      go_wp2
      go_roundw
      case rel => exact ⟨k + 1, by omega, by go_num, hw2, hb2⟩
      case measure => simp [intOf]; omega
    · obtain rfl : k = n := by omega
      go_wp2
      go_end0
      exact ⟨rfl, hb⟩
end Go.Proofs.YtjjdhegkcilaiaaDoor
