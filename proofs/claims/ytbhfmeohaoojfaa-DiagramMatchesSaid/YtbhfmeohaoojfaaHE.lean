/- The reference's nodes. -/
import Derived.Test.YtbhfmeohaoojfaaHD
namespace Go.Proofs.Ytbhfmeohaoojfaa.Dg
open Go Go.RowKit Go.Proofs.Ytbhfmeohaoojfaa.Ap
set_option maxRecDepth 100000
set_option maxHeartbeats 4000000 in
theorem nodes_any (A : Option Addr) (L : List (List Int)) (c v : Nat) (w : World) (hx : Tabs w A L) (hv : v ≤ 6) (hL : AllLen (2 ^ v) L) (hl : L.length ≤ 5000) :
    Calls Try.prog 45 #[.slice A L.length c, .int .i64 v] w fun e w' =>
      ∃ u, e = .returned u ∧ OwnT w.heap.size w' u (nodesL L v) ∧ Below w.heap.size w w' := by
  obtain ⟨i0, hi, hz0, hz1, hz2⟩ := info_parts info_tab
  have h64 := pow7 hv
  have HXL := Lib.hid hL
  clear hL
  go_enter Try.func45, Try.ntmps45
  go_wp2
  go_loopw [5, 6] (fun u i wr => ∃ m : Nat, m ≤ L.length ∧ i = .int .i64 m ∧ OwnT w.heap.size wr u (allN L v m) ∧ Below w.heap.size w wr) (fun _ i _ => L.length - (intOf i).toNat)
  case atStart => exact ⟨0, by omega, rfl, by rw [allN_zero]; exact OwnT.nil _ _, Below.refl _ _⟩
  case round =>
    obtain ⟨m, hm, rfl, ho, hb⟩ := hrel
    by_cases hmL : m < L.length
    · have HAn := Lib.hid (allN_succ L v m hmL)
      have hal := allN_len L v m hm
      have HA := Lib.hid (allN_all (v := v) HXL.out m hm)
      have HTl := Lib.hid (HXL.out _ (tb_mem hmL))
      have HT0 := Lib.hid hx
      have hlb : m * 2 ^ (v + 1) ≤ 5000 * 128 := Nat.mul_le_mul (by omega) (Nat.pow_le_pow_right (n := 2) (by decide) (by omega) : 2 ^ (v + 1) ≤ 2 ^ 7)
      have hO1 : (allN L v m).length ≤ 640000 := by omega
      have HTb : Hid (∀ X, Below w.heap.size w X → ∃ ad p c', A = some ad ∧ ad.block < X.heap.size ∧ X.cell? (ad.add m) = some (.slice p (tb L m).length c') ∧ Ints X p (tb L m)) := fun X h => (hx.below h) m hmL
      generalize allN L v m = O1 at *
      generalize tb L m = t at *
      have hmi : (m : Int) < (L.length : Int) := by omega
      clear hal hlb
      go_wp2
      obtain ⟨wq, rfl⟩ : ∃ wq : World, wq = wr := ⟨_, rfl⟩
      go_loopw [5, 7] (fun u i wr => ∃ k : Nat, k ≤ v + 1 ∧ i = .int .i64 k ∧ OwnT w.heap.size wr u (colK O1 t k) ∧ Below w.heap.size w wr) (fun _ i _ => v + 1 - (intOf i).toNat)
      case atStart => exact ⟨0, by omega, rfl, by rw [colK_zero]; exact ho, hb⟩
      case round =>
        clear ho hb
        obtain ⟨k, hk, rfl, ho, hb⟩ := hrel
        by_cases hkv : k ≤ v
        · have HK := Lib.hid (colK_succ O1 t k)
          have hcl := colK_len O1 t k
          have HA2 := Lib.hid (colK_all HA.out HTl.out k)
          have hk7 := pow7 (v := k) (by omega)
          have hs1 := shl_i64 (v := k) (by omega)
          generalize colK O1 t k = O2 at *
          have hO2 : O2.length ≤ 640064 := by omega
          clear hcl
          obtain ⟨K, hKK⟩ : ∃ K, K = 2 ^ k := ⟨_, rfl⟩
          rw [← hKK] at hs1 hk7 HK
          have HKK := Lib.hid hKK
          have HS1 := Lib.hid hs1
          clear hKK hs1
          go_wp2
          obtain ⟨wq2, rfl⟩ : ∃ wq : World, wq = wr := ⟨_, rfl⟩
          go_loopw [5, 8] (fun u i wr => ∃ x : Nat, x ≤ K ∧ i = .int .i64 x ∧ OwnT w.heap.size wr u (rowX O2 t k x) ∧ Below w.heap.size w wr) (fun _ i _ => K - (intOf i).toNat)
          case atStart => exact ⟨0, by omega, rfl, by rw [rowX_zero]; exact ho, hb⟩
          case round =>
            clear ho hb
            obtain ⟨x, hxK, rfl, ho, hb⟩ := hrel
            by_cases hxl : x < K
            · have HR := Lib.hid (rowX_succ O2 t k x)
              have hrl := rowX_len O2 t k x
              have HA3 := Lib.hid (rowX_all HA2.out HTl.out k x)
              generalize rowX O2 t k x = O3 at *
              have hO3 : O3.length ≤ 640200 := by omega
              have HFx := Lib.hid fun p c' X (h : Ints X p t) => fixed_any p t c' k x v X h hv HTl.out hkv (by omega)
              have HLn := Lib.hid (fixL_len t k x t.length)
              generalize fixL t k x t.length = T at *
              obtain ⟨ad, p, c', rfl, hbk, hcell, hti⟩ := HTb.out _ hb
              obtain ⟨vA, vc, rfl, hvc⟩ := ho.row
              have hT1 : T.length ≤ 1000000 := by have := HLn.out; have := HTl.out; omega
              have HSl : Hid (∀ u ∈ O3, u.length ≤ 1000000) := fun u hu => by have := HA3.out u hu; omega
              have hlow : ∀ g, (Value.slice vA O3.length vc).ownBlock = some g → g < wr.heap.size := fun g hg => by
                obtain ⟨Q, _, hro, _⟩ := ho
                exact (hro.lt g hg).2
              have HLow := Lib.hid hlow
              clear hrl hlow
              by_cases hmem : T ∈ O3
              · have HFi : Hid (∀ w2 A' d', Tabs w2 vA O3 → Ints w2 A' T → Calls Try.prog 65 #[.slice vA O3.length vc, .slice A' T.length d'] w2 fun e w' => ∃ r : Nat, e = .returned (.int .i64 r) ∧ Below w2.heap.size w2 w') := fun w2 A' d' h1 h2 => by
                  refine (find_any vA A' O3 T vc d' w2 h1 h2 (by omega) HSl.out).mono ?_
                  rintro e w' ⟨r, rfl, hr | ⟨_, hr⟩, hb⟩
                  · exact ⟨r.toNat, ret_of (by omega), hb⟩
                  · exact absurd hmem hr
                have HE : Hid (addN O3 T = O3) := if_pos hmem
                have hs1 := HS1.out
                clear hmem
                go_wp2_with (first
                  | (go_at_call 66; ((with_reducible refine (HFx.out p c' wr hti).mono ?_); rintro e w2 ⟨A', d', rfl, hoT, hb2⟩); have ho2 := ho.below hb2; have hb3 := stepB hb hb2; have hTi := ints_row hoT rfl; clear hs1)
                  | (go_at_call 65; ((with_reducible refine (HFi.out w2 A' d' (ho2.tabs rfl) hTi).mono ?_); rintro e w3 ⟨r, rfl, hb4⟩)))
                go_roundw
                case rel => exact ⟨x + 1, by omega, by go_num, by rw [HR.out, HE.out]; exact ho2.below hb4, stepB hb3 hb4⟩
                case measure => simp [intOf]; omega
              · have HFi : Hid (∀ w2 A' d', Tabs w2 vA O3 → Ints w2 A' T → Calls Try.prog 65 #[.slice vA O3.length vc, .slice A' T.length d'] w2 fun e w' => e = .returned (.int .i64 (-1)) ∧ Below w2.heap.size w2 w') := fun w2 A' d' h1 h2 => by
                  refine (find_any vA A' O3 T vc d' w2 h1 h2 (by omega) HSl.out).mono ?_
                  rintro e w' ⟨r, rfl, hr | ⟨hr, _⟩, hb⟩
                  · refine absurd ?_ hmem
                    rw [← hr.2.2]
                    exact tb_mem (by omega)
                  · subst hr; exact ⟨rfl, hb⟩
                have HE : Hid (addN O3 T = O3 ++ [T]) := if_neg hmem
                have hs1 := HS1.out
                clear hmem
                go_wp2_with (first
                  | (go_at_call 66; ((with_reducible refine (HFx.out p c' wr hti).mono ?_); rintro e w2 ⟨A', d', rfl, hoT, hb2⟩); have ho2 := ho.below hb2; have hb3 := stepB hb hb2; have hTi := ints_row hoT rfl; clear hs1)
                  | (go_at_call 65; ((with_reducible refine (HFi.out w2 A' d' (ho2.tabs rfl) hTi).mono ?_); rintro e w3 ⟨rfl, hb4⟩); obtain ⟨Q, hQ, hro, hQi⟩ := ho2.below hb4; have hb5 := stepB hb3 hb4; have HQ := Lib.hid hQ; have HQi := Lib.hid hQi; clear hQ hQi ho2)
                  | (at_builtin; refine wpList_append_own_at _ rfl _ _ 39 rfl w.heap.size 29 i0 (.slice none 0 0) 1 24 Try.underlying39 hi hz0 hz1 hz2 rfl (by decide) _ _ _ rfl (hro.alloc _) ⟨w3.heap.size, 0, none⟩ 1 1 [.slice A' T.length d'] rfl rfl (cell_one _ _ _) (by simp [Value.oneCell']) (by unfold maxLen; omega) (by omega) (by have := hb5.size; simp; omega) ?_; intro v' w4 hown' hgrow _ hob; have HOB := Lib.hid hob; clear hob))
                have hs3 : w.heap.size ≤ w3.heap.size := hb5.size
                have hb6 : Below w.heap.size w w4 := (hb5.alloc hs3 _).grown hgrow (by simp; omega) (fun q hq => (hro.lt q hq).1)
                have hp : ∀ ad, A' = some ad → ad.block < w3.heap.size ∧ (Value.slice vA O3.length vc).ownBlock ≠ some ad.block := fun ad had => by
                  obtain ⟨q1, q2⟩ := hoT.lt ad.block (by rw [had]; rfl)
                  have := hb4.size
                  refine ⟨by omega, fun h => ?_⟩
                  have := HLow.out _ h
                  omega
                have hpush := own_push (c := d') HQ.out HQi.out (Vals.below hTi hb4) hp hown' hgrow HOB.out
                go_roundw
                case rel => exact ⟨x + 1, by omega, by go_num, by rw [HR.out, HE.out]; exact hpush, hb6⟩
                case measure => simp [intOf]; omega
            · obtain rfl : x = K := by omega
              have hs1 := HS1.out
              go_wp2
              clear hs1
              go_roundw
              case rel => exact ⟨k + 1, by omega, by go_num, by rw [HK.out]; exact ho, hb⟩
              case measure => simp [intOf]; omega
        · obtain rfl : k = v + 1 := by omega
          go_wp2
          go_roundw
          case rel => exact ⟨m + 1, by omega, by go_num, by rw [HAn.out]; exact ho, hb⟩
          case measure => simp [intOf]; omega
    · obtain rfl : m = L.length := by omega
      go_wp2
      go_ret
      exact ⟨_, rfl, ho, hb⟩
end Go.Proofs.Ytbhfmeohaoojfaa.Dg
