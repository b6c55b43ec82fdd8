/- The reference's Ints, Same and Has; Compare and Has of bitset. -/
import Derived.Test.YtnjagdocgmbmiaaDoorJ
namespace Go.Proofs.YtnjagdocgmbmiaaDoor
open Go Go.RowKit
set_option maxRecDepth 100000
theorem below_drewN_k {B : Nat} {a w : World} (h : Below B a w) (n : Nat) : Below B a (w.drewN n) := ⟨h.os, h.tape, h.output, h.size, h.block⟩
set_option maxHeartbeats 1000000 in
theorem Ints_any (A B : Option Addr) (l m : List Int) (c d : Nat) (w : World) (hx : Ints w A l) (hy : Ints w B m) (hl : l.length ≤ maxLen) (hm : m.length ≤ maxLen) :
    Calls Tryd.prog 24 #[.slice A l.length c, .slice B m.length d] w fun e w' => e = .returned (.int .i64 (cmpL l m)) ∧ ∃ n, w' = w.drewN n := by
  unfold maxLen at hl hm
  go_enter Tryd.func24, Tryd.ntmps24
  go_wp2
  go_loopw [5] (fun i wr => ∃ k q : Nat, k ≤ l.length ∧ k ≤ m.length ∧ i = .int .i64 k ∧ Hid (cmpL l m = cmpL (l.drop k) (m.drop k)) ∧ wr = w.drewN q) (fun i _ => l.length - (intOf i).toNat)
  case atStart => exact ⟨0, 0, by omega, by omega, rfl, rfl, rfl⟩
  case round =>
    obtain ⟨k, q, hk, hk', rfl, H, rfl⟩ := hrel
    by_cases hlt : k < l.length
    · by_cases hlt' : k < m.length
      · obtain ⟨ad, rfl, hcell⟩ := hx.at_ hlt
        obtain ⟨bd, rfl, hcell'⟩ := hy.at_ hlt'
        have hs := cmpL_step hlt hlt'
        have HN : Hid (cmpL l m = if nd l k < nd m k then -1 else if nd m k < nd l k then 1 else cmpL (l.drop (k + 1)) (m.drop (k + 1))) := H.out.trans hs
        clear hs H
        generalize nd l k = a at *
        generalize nd m k = b at *
        by_cases h : a < b
        · have H' : Hid (cmpL l m = -1) := by
            have := HN.out
            rwa [if_pos h] at this
          clear HN
          go_wp2
          go_quiet (fail)
          go_wp2
          go_ret
          exact ⟨ret_of H'.out.symm, q + nq, by simp⟩
        · by_cases h2 : b < a
          · have H' : Hid (cmpL l m = 1) := by
              have := HN.out
              rwa [if_neg (by omega), if_pos h2] at this
            clear HN
            go_wp2
            go_quiet (fail)
            go_wp2
            go_quiet (fail)
            go_wp2
            go_ret
            exact ⟨ret_of H'.out.symm, _, by rw [World.drewN_drewN, World.drewN_drewN]⟩
          · have H' : Hid (cmpL l m = cmpL (l.drop (k + 1)) (m.drop (k + 1))) := by
              have := HN.out
              rwa [if_neg (by omega), if_neg (by omega)] at this
            clear HN
            go_wp2
            go_quiet (fail)
            go_wp2
            go_quiet (fail)
            go_wp2
            go_roundw
            case rel => exact ⟨k + 1, _, by omega, by omega, by go_num, H', rfl⟩
            case measure => simp [intOf]; omega
      · have H' : Hid (cmpL l m = 1) := by
          show _ = _
          rw [H.out, cmpL_end hk hk' (.inr (by omega)), if_neg (by omega), if_pos (by omega)]
        clear H
        go_wp2
        go_ret
        exact ⟨ret_of H'.out.symm, _, rfl⟩
    · by_cases hlm : l.length < m.length
      · have H' : Hid (cmpL l m = -1) := by
          show _ = _
          rw [H.out, cmpL_end hk hk' (.inl (by omega)), if_pos hlm]
        clear H
        go_wp2
        go_ret
        exact ⟨ret_of H'.out.symm, _, rfl⟩
      · have H' : Hid (cmpL l m = 0) := by
          show _ = _
          rw [H.out, cmpL_end hk hk' (.inl (by omega)), if_neg hlm, if_neg (by omega)]
        clear H
        go_wp2
        go_ret
        exact ⟨ret_of H'.out.symm, _, rfl⟩
theorem wd_ext {xs ys : List Nat} (h : xs.length = ys.length) (hk : ∀ i, i < xs.length → wd xs i = wd ys i) : xs = ys := by
  apply List.ext_getElem h
  intro i h1 h2
  have := hk i h1
  simpa [wd, h1, h2] using this
set_option maxHeartbeats 1000000 in
theorem Same_any (A B : Option Addr) (xs ys : List Nat) (c d : Nat) (w : World) (hx : Words w A xs) (hy : Words w B ys) (hl : xs.length ≤ maxLen) :
    Calls Tryd.prog 22 #[.slice A xs.length c, .slice B ys.length d] w fun e w' => e = .returned (.bool (decide (xs = ys))) ∧ ∃ n, w' = w.drewN n := by
  unfold maxLen at hl
  by_cases hlen : xs.length = ys.length
  · have HE := Lib.hid hlen
    have hle : xs.length ≤ ys.length := by omega
    have hge : ys.length ≤ xs.length := by omega
    clear hlen
    go_enter Tryd.func22, Tryd.ntmps22
    go_wp2
    go_loopw [5] (fun i wr => ∃ k q : Nat, k ≤ xs.length ∧ i = .int .i64 k ∧ Hid (∀ i, i < k → wd xs i = wd ys i) ∧ wr = w.drewN q) (fun i _ => xs.length - (intOf i).toNat)
    case atStart => exact ⟨0, 0, by omega, rfl, fun i hi => absurd hi (by omega), rfl⟩
    case round =>
      obtain ⟨k, q, hk, rfl, H, rfl⟩ := hrel
      by_cases hlt : k < xs.length
      · obtain ⟨ad, rfl, hcell⟩ := hx.at_ hlt
        obtain ⟨bd, rfl, hcell'⟩ := hy.at_ (j := k) (by omega)
        by_cases h : wd xs k = wd ys k
        · have H' : Hid (∀ i, i < k + 1 → wd xs i = wd ys i) := fun i hi => by
            rcases Nat.lt_or_eq_of_le (Nat.le_of_lt_succ hi) with h1 | rfl
            · exact H.out i h1
            · exact h
          rw [← h] at hcell'
          clear h H
          go_wp2
          go_quiet (fail)
          go_wp2
          go_roundw
          case rel => exact ⟨k + 1, _, by omega, by go_num, H', rfl⟩
          case measure => simp [intOf]; omega
        · have H' : Hid (decide (xs = ys) = false) := by
            show _ = _
            rw [decide_eq_false_iff_not]
            rintro rfl
            exact h rfl
          have hne : (((wd xs k : Nat) : Int) != ((wd ys k : Nat) : Int)) = true := by rw [bne_iff_ne]; exact_mod_cast h
          clear h H
          go_wp2
          go_quiet (fail)
          go_wp2
          go_ret
          exact ⟨ret_bool H'.out.symm, _, by rw [World.drewN_drewN]⟩
      · have H' : Hid (decide (xs = ys) = true) := by
          show _ = _
          rw [decide_eq_true_iff]
          exact wd_ext HE.out fun i hi => H.out i (by omega)
        clear H
        go_wp2
        go_ret
        exact ⟨ret_bool H'.out.symm, _, rfl⟩
  · have H' : Hid (decide (xs = ys) = false) := by
      show _ = _
      rw [decide_eq_false_iff_not]
      rintro rfl
      exact hlen rfl
    have hne : (((xs.length : Nat) : Int) != ((ys.length : Nat) : Int)) = true := by rw [bne_iff_ne]; exact_mod_cast hlen
    clear hlen
    go_enter Tryd.func22, Tryd.ntmps22
    go_wp2
    go_ret
    exact ⟨ret_bool H'.out.symm, 0, rfl⟩
/-- The elements as ints. -/
def elsI (xs : List Nat) : List Int := (els xs).map fun x : Nat => (x : Int)
theorem own_ints {w : World} {base : Nat} {A : Option Addr} {c n : Nat} {l : List Nat} (h : w.ownsRow base 3 1 (.slice A n c) n (ivs l)) (hn : n = l.length) : Ints w A (l.map fun x : Nat => (x : Int)) := by
  subst hn
  unfold Ints
  rw [List.length_map]
  exact Vals.of_own h fun j hj => by simp [ivs, nd, hj]
/-- A slice that the call made owns numbers: written out. -/
theorem own_form {w : World} {base e n : Nat} {v : Value} {xs : List Value} (h : w.ownsRow base e 1 v n xs) : ∃ A c, v = .slice A n c ∧ n ≤ c := by
  rcases h.2 with ⟨rfl, rfl⟩ | ⟨g, cap, cur, rfl, _, _, h1, _⟩
  · exact ⟨none, 0, rfl, Nat.le_refl _⟩
  · exact ⟨_, _, rfl, h1⟩
/-- The order of two sets. -/
def cmpS (xs ys : List Nat) : Int := cmpL (elsI xs) (elsI ys)
theorem elsI_len (xs : List Nat) : (elsI xs).length = (els xs).length := by simp [elsI]
theorem els_le (xs : List Nat) : (els xs).length ≤ 4096 := elsTo_len xs 4096
theorem Compare_any (A B : Option Addr) (xs ys : List Nat) (c d : Nat) (w : World) (hx : Words w A xs) (ux : U64 xs) (hc : xs.length ≤ c) (hy : Words w B ys) (uy : U64 ys) (hd : ys.length ≤ d) (hT : Tab w) :
    Calls Tryd.prog 37 #[.slice A xs.length c, .slice B ys.length d] w fun e w' => e = .returned (.int .i64 (cmpS xs ys)) ∧ Below w.heap.size w w' := by
  have H1 := Lib.hid (List_any A xs c w hx ux hc hT)
  go_enter Tryd.func37, Tryd.ntmps37
  go_wp2_with (first
    | (go_at_call 52; fail)
    | (go_at_call 19; refine H1.out.mono ?_; rintro e w1 ⟨v1, rfl, ho1, hb1⟩; obtain ⟨A1, c1, rfl, hc1⟩ := own_form ho1; have H2 := Lib.hid (List_any B ys d w1 (hy.below hb1) uy hd (hT.below hb1)); clear H1)
    | (go_at_call 19; refine H2.out.mono ?_; rintro e w2 ⟨v2, rfl, ho2, hb2⟩; obtain ⟨A2, c2, rfl, hc2⟩ := own_form ho2))
  have hi1 : Ints w2 A1 (elsI xs) := (own_ints ho1 rfl).below hb2
  have hi2 : Ints w2 A2 (elsI ys) := own_ints ho2 rfl
  have l1 := els_le xs
  have l2 := els_le ys
  have hs := sliceCmp_any A1 A2 (elsI xs) (elsI ys) c1 c2 w2 hi1 hi2 (by rw [elsI_len]; unfold maxLen; omega) (by rw [elsI_len]; unfold maxLen; omega)
  rw [elsI_len, elsI_len] at hs
  have HS := Lib.hid hs
  clear hs hi1 hi2
  go_wp2_with (go_at_call 52; refine HS.out.mono ?_; rintro e w' ⟨rfl, rfl⟩)
  go_ret
  exact ⟨rfl, hb1.trans (hb2.mono hb1.size)⟩
end Go.Proofs.YtnjagdocgmbmiaaDoor
