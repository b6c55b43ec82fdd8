/- The walk of the law BitsetOrder. -/
import Derived.Test.YtaijjokcddcgiaaDoorUO1
namespace Go.Proofs.YtaijjokcddcgiaaDoor
open Go Go.RowKit
set_option maxRecDepth 100000
set_option maxHeartbeats 20000000 in
theorem bitsetOrder_walk (A : Option Addr) (xs : List Nat) (c : Nat) (B : Option Addr) (ys : List Nat) (d : Nat) (C : Option Addr) (zs : List Nat) (f : Nat) (w : World) (hx : Words w A xs) (ux : U64 xs) (lx : xs.length ≤ c) (mx : c ≤ maxLen) (hy : Words w B ys) (uy : U64 ys) (ly : ys.length ≤ d) (my : d ≤ maxLen) (hz : Words w C zs) (uz : U64 zs) (lz : zs.length ≤ f) (mz : f ≤ maxLen) (hT : Tab w) :
    Calls Tryd.prog 10 #[.slice A xs.length c, .slice B ys.length d, .slice C zs.length f] w fun e w' => e = .returned (.bool true) ∧ Below w.heap.size w w' := by
  have E00 : Env w w [] := ⟨Below.refl _ _, hT, (fun q hq => by cases hq)⟩
  have E0 : Env w w [(A, c, xs), (B, d, ys), (C, f, zs)] := ((E00.push hz uz lz).push hy uy ly).push hx ux lx
  clear E00
  have hm : ∀ q ∈ [(A, xs.length, c), (B, ys.length, d), (C, zs.length, f)], q.2.1 ≤ maxLen := by
    intro q hq
    simp only [List.mem_cons, List.not_mem_nil, or_false] at hq
    rcases hq with rfl | rfl | rfl <;> simp only <;> omega
  by_cases hl : (!([(A, xs.length, c), (B, ys.length, d), (C, zs.length, f)] : List (Option Addr × Nat × Nat)).all fun q => decide (q.2.1 ≤ 80)) = true
  · have HL := Lib.hid (Long_env E0 [(A, xs.length, c), (B, ys.length, d), (C, zs.length, f)] 23 3 (by simp) hm hl)
    clear hl hm hx hy hz
    go_enter Tryd.func10, Tryd.ntmps10
    go_wp2_with (first
      | (go_at_call 11; refine HL.out.mono ?_; rintro e w1 ⟨rfl, E⟩)
      | (go_at_call 12; refine (awake_env E).mono ?_; rintro e w2 ⟨rfl, E2⟩))
    go_ret
    exact ⟨rfl, E2.1⟩
  · have hl' : (!([(A, xs.length, c), (B, ys.length, d), (C, zs.length, f)] : List (Option Addr × Nat × Nat)).all fun q => decide (q.2.1 ≤ 80)) = false := by simpa using hl
    have HL := Lib.hid (Long_env E0 [(A, xs.length, c), (B, ys.length, d), (C, zs.length, f)] 23 3 (by simp) hm hl')
    clear hl hl' hm hx hy hz
    have q1 := els_le xs
    have KN := cmpS_neg (xs := xs) (ys := ys)
    have KE := cmpS_eq ux uy
    have KT := cmpS_trans (xs := xs) (ys := ys) (zs := zs)
    have hh := cmpS_heads (xs := xs) (ys := ys)
    have hx3 := cmpS_range (xs := xs) (ys := ys)
    have hy3 := cmpS_range (xs := ys) (ys := zs)
    obtain ⟨v, hv⟩ : ∃ v, cmpS xs zs = v := ⟨_, rfl⟩
    have two : ∀ {x y : Int}, cmpS xs ys = x → cmpS ys zs = y → x ≤ 0 → y ≤ 0 → cmpS xs zs = min x y := fun h h' a b => by
      rw [h, h'] at KT; exact KT a b
    have fin : ∀ {x : Int}, cmpS xs ys = x → cmpS ys xs = -x ∧ eqB xs ys = decide (x = 0) := fun h => by
      rw [h] at KN KE; exact ⟨KN, KE⟩
    rcases hh with ⟨e1, e2, hx⟩ | ⟨e1, ⟨b, t, e2⟩, hx⟩ | ⟨⟨a, s, e1⟩, e2, hx⟩ | ⟨a, s, b, t, e1, e2, h⟩
    · rcases hy3 with hy | hy | hy
      · exact order_nnl 0 0 E0 HL hx hy (fin hx).1 (two hx hy (by decide) (by decide)) (fin hx).2 (by show minOf _ = _; rw [e1]; rfl) (by show minOf _ = _; rw [e2]; rfl) (by show List.length _ = _; first | (rw [e1]; done) | (rw [e1]; rfl))
      · exact order_nne 0 0 E0 HL hx hy (fin hx).1 (two hx hy (by decide) (by decide)) (fin hx).2 (by show minOf _ = _; rw [e1]; rfl) (by show minOf _ = _; rw [e2]; rfl) (by show List.length _ = _; first | (rw [e1]; done) | (rw [e1]; rfl))
      · exact order_nng 0 0 v E0 HL hx hy (fin hx).1 hv (fin hx).2 (by show minOf _ = _; rw [e1]; rfl) (by show minOf _ = _; rw [e2]; rfl) (by show List.length _ = _; first | (rw [e1]; done) | (rw [e1]; rfl))
    · rcases hy3 with hy | hy | hy
      · exact order_ncl 0 b E0 HL hx hy (fin hx).1 (two hx hy (by decide) (by decide)) (fin hx).2 (by show minOf _ = _; rw [e1]; rfl) (by show minOf _ = _; rw [e2]; rfl) (by show List.length _ = _; first | (rw [e1]; done) | (rw [e1]; rfl))
      · exact order_nce 0 b E0 HL hx hy (fin hx).1 (two hx hy (by decide) (by decide)) (fin hx).2 (by show minOf _ = _; rw [e1]; rfl) (by show minOf _ = _; rw [e2]; rfl) (by show List.length _ = _; first | (rw [e1]; done) | (rw [e1]; rfl))
      · exact order_ncg 0 b v E0 HL hx hy (fin hx).1 hv (fin hx).2 (by show minOf _ = _; rw [e1]; rfl) (by show minOf _ = _; rw [e2]; rfl) (by show List.length _ = _; first | (rw [e1]; done) | (rw [e1]; rfl))
    · rcases hy3 with hy | hy | hy
      · exact order_cnl a 0 _ v E0 HL hx hy (fin hx).1 hv (fin hx).2 (by show minOf _ = _; rw [e1]; rfl) (by show minOf _ = _; rw [e2]; rfl) (by show List.length _ = _; first | (rw [e1]; done) | (rw [e1]; rfl)) (by simp) (by rw [e1] at q1; exact q1)
      · exact order_cne a 0 _ v E0 HL hx hy (fin hx).1 hv (fin hx).2 (by show minOf _ = _; rw [e1]; rfl) (by show minOf _ = _; rw [e2]; rfl) (by show List.length _ = _; first | (rw [e1]; done) | (rw [e1]; rfl)) (by simp) (by rw [e1] at q1; exact q1)
      · exact order_cng a 0 _ v E0 HL hx hy (fin hx).1 hv (fin hx).2 (by show minOf _ = _; rw [e1]; rfl) (by show minOf _ = _; rw [e2]; rfl) (by show List.length _ = _; first | (rw [e1]; done) | (rw [e1]; rfl)) (by simp) (by rw [e1] at q1; exact q1)
    · rcases h with ⟨hlt, hx⟩ | ⟨hlt, hx⟩ | heq
      · rcases hy3 with hy | hy | hy
        · exact order_ltl a b _ E0 HL hx hy (fin hx).1 (two hx hy (by decide) (by decide)) (fin hx).2 (by show minOf _ = _; rw [e1]; rfl) (by show minOf _ = _; rw [e2]; rfl) (by show List.length _ = _; first | (rw [e1]; done) | (rw [e1]; rfl)) (by simp) (by rw [e1] at q1; exact q1) (by omega)
        · exact order_lte a b _ E0 HL hx hy (fin hx).1 (two hx hy (by decide) (by decide)) (fin hx).2 (by show minOf _ = _; rw [e1]; rfl) (by show minOf _ = _; rw [e2]; rfl) (by show List.length _ = _; first | (rw [e1]; done) | (rw [e1]; rfl)) (by simp) (by rw [e1] at q1; exact q1) (by omega)
        · exact order_ltg a b _ v E0 HL hx hy (fin hx).1 hv (fin hx).2 (by show minOf _ = _; rw [e1]; rfl) (by show minOf _ = _; rw [e2]; rfl) (by show List.length _ = _; first | (rw [e1]; done) | (rw [e1]; rfl)) (by simp) (by rw [e1] at q1; exact q1) (by omega)
      · rcases hy3 with hy | hy | hy
        · exact order_gtl a b _ v E0 HL hx hy (fin hx).1 hv (fin hx).2 (by show minOf _ = _; rw [e1]; rfl) (by show minOf _ = _; rw [e2]; rfl) (by show List.length _ = _; first | (rw [e1]; done) | (rw [e1]; rfl)) (by simp) (by rw [e1] at q1; exact q1) (by omega)
        · exact order_gte a b _ v E0 HL hx hy (fin hx).1 hv (fin hx).2 (by show minOf _ = _; rw [e1]; rfl) (by show minOf _ = _; rw [e2]; rfl) (by show List.length _ = _; first | (rw [e1]; done) | (rw [e1]; rfl)) (by simp) (by rw [e1] at q1; exact q1) (by omega)
        · exact order_gtg a b _ v E0 HL hx hy (fin hx).1 hv (fin hx).2 (by show minOf _ = _; rw [e1]; rfl) (by show minOf _ = _; rw [e2]; rfl) (by show List.length _ = _; first | (rw [e1]; done) | (rw [e1]; rfl)) (by simp) (by rw [e1] at q1; exact q1) (by omega)
      · rcases hx3 with hx | hx | hx
        · rcases hy3 with hy | hy | hy
          · exact order_ell a b _ E0 HL hx hy (fin hx).1 (two hx hy (by decide) (by decide)) (fin hx).2 (by show minOf _ = _; rw [e1]; rfl) (by show minOf _ = _; rw [e2]; rfl) (by show List.length _ = _; first | (rw [e1]; done) | (rw [e1]; rfl)) (by simp) (by rw [e1] at q1; exact q1) heq
          · exact order_ele a b _ E0 HL hx hy (fin hx).1 (two hx hy (by decide) (by decide)) (fin hx).2 (by show minOf _ = _; rw [e1]; rfl) (by show minOf _ = _; rw [e2]; rfl) (by show List.length _ = _; first | (rw [e1]; done) | (rw [e1]; rfl)) (by simp) (by rw [e1] at q1; exact q1) heq
          · exact order_elg a b _ v E0 HL hx hy (fin hx).1 hv (fin hx).2 (by show minOf _ = _; rw [e1]; rfl) (by show minOf _ = _; rw [e2]; rfl) (by show List.length _ = _; first | (rw [e1]; done) | (rw [e1]; rfl)) (by simp) (by rw [e1] at q1; exact q1) heq
        · rcases hy3 with hy | hy | hy
          · exact order_eel a b _ E0 HL hx hy (fin hx).1 (two hx hy (by decide) (by decide)) (fin hx).2 (by show minOf _ = _; rw [e1]; rfl) (by show minOf _ = _; rw [e2]; rfl) (by show List.length _ = _; first | (rw [e1]; done) | (rw [e1]; rfl)) (by simp) (by rw [e1] at q1; exact q1) heq
          · exact order_eee a b _ E0 HL hx hy (fin hx).1 (two hx hy (by decide) (by decide)) (fin hx).2 (by show minOf _ = _; rw [e1]; rfl) (by show minOf _ = _; rw [e2]; rfl) (by show List.length _ = _; first | (rw [e1]; done) | (rw [e1]; rfl)) (by simp) (by rw [e1] at q1; exact q1) heq
          · exact order_eeg a b _ v E0 HL hx hy (fin hx).1 hv (fin hx).2 (by show minOf _ = _; rw [e1]; rfl) (by show minOf _ = _; rw [e2]; rfl) (by show List.length _ = _; first | (rw [e1]; done) | (rw [e1]; rfl)) (by simp) (by rw [e1] at q1; exact q1) heq
        · rcases hy3 with hy | hy | hy
          · exact order_egl a b _ v E0 HL hx hy (fin hx).1 hv (fin hx).2 (by show minOf _ = _; rw [e1]; rfl) (by show minOf _ = _; rw [e2]; rfl) (by show List.length _ = _; first | (rw [e1]; done) | (rw [e1]; rfl)) (by simp) (by rw [e1] at q1; exact q1) heq
          · exact order_ege a b _ v E0 HL hx hy (fin hx).1 hv (fin hx).2 (by show minOf _ = _; rw [e1]; rfl) (by show minOf _ = _; rw [e2]; rfl) (by show List.length _ = _; first | (rw [e1]; done) | (rw [e1]; rfl)) (by simp) (by rw [e1] at q1; exact q1) heq
          · exact order_egg a b _ v E0 HL hx hy (fin hx).1 hv (fin hx).2 (by show minOf _ = _; rw [e1]; rfl) (by show minOf _ = _; rw [e2]; rfl) (by show List.length _ = _; first | (rw [e1]; done) | (rw [e1]; rfl)) (by simp) (by rw [e1] at q1; exact q1) heq
end Go.Proofs.YtaijjokcddcgiaaDoor
