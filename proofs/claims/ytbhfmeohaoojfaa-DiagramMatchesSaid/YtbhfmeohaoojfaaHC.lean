/- The reference's fixed and nodes. -/
import Derived.Test.YtbhfmeohaoojfaaHB
namespace Go.Proofs.Ytbhfmeohaoojfaa.Dg
open Go Go.RowKit Go.Proofs.Ytbhfmeohaoojfaa.Ap
set_option maxRecDepth 100000
theorem pow7 {v : Nat} (h : v ≤ 6) : 2 ^ v ≤ 64 := Nat.pow_le_pow_right (n := 2) (by decide) h
theorem shl_i64 {v : Nat} (h : v ≤ 6) : wrap64 ((2 : Int) ^ v) = ((2 ^ v : Nat) : Int) := by
  have h1 := pow7 h
  have h2 : ((2 ^ v : Nat) : Int) = (2 : Int) ^ v := by exact_mod_cast rfl
  rw [← h2]
  generalize 2 ^ v = m at h1
  unfold wrap64
  omega
theorem cell_one (W : World) (t : TypeId) (v : Value) : ∀ j u, [v][j]? = some u → (W.alloc (.cells #[v] t)).cell? ((⟨W.heap.size, 0, none⟩ : Addr).add j) = some u := by
  intro j u hu
  rw [addr_add, World.cell?_alloc_at _ _ _ _ rfl]
  simpa using hu
theorem ownsRow_form {w : World} {base : Nat} {e : TypeId} {size : Nat} {v : Value} {n : Nat} {xs : List Value} (h : w.ownsRow base e size v n xs) (hn : 0 < n) : ∃ g c, v = .slice (some ⟨g, 0, none⟩) n c := by
  obtain ⟨g, c, e, _⟩ := own_somev h hn
  exact ⟨g, c, e⟩
set_option maxHeartbeats 2000000 in
theorem fixed_any (A : Option Addr) (t : List Int) (c k x v : Nat) (w : World) (hx : Ints w A t) (hv : v ≤ 6) (ht : t.length = 2 ^ v) (hk : k ≤ v) (hx6 : x < 64) :
    Calls Try.prog 66 #[.slice A t.length c, .int .i64 k, .int .i64 x] w fun e w' =>
      ∃ A' c', e = .returned (.slice A' (fixL t k x t.length).length c') ∧ w'.ownsRow w.heap.size 3 1 (.slice A' (fixL t k x t.length).length c') (fixL t k x t.length).length ((fixL t k x t.length).map (Value.int .i64)) ∧ Below w.heap.size w w' := by
  obtain ⟨i0, hi, hz0, hz1, hz2⟩ := info_parts info_int
  have h64 := pow7 hv
  have HB := Lib.hid fun y (hy : y < 64) => fix_bit (k := k) (x := x) (y := y) (by omega) hy hx6
  have HL := Lib.hid fun y (hy : y < t.length) => fix_lt (x := x) hk (by rw [← ht]; exact hy)
  have hs1 := shl_i64 (v := k) (by omega)
  have hk64 := pow7 (v := k) (by omega)
  have hkp : 0 < 2 ^ k := Nat.pow_pos (by decide)
  rw [← ht] at h64
  have HLt : Hid (∀ y, y < t.length → y / 2 ^ k * 2 ^ k + x % 2 ^ k < t.length) := fun y hy => by rw [ht]; exact HL.out y hy
  have HS := Lib.hid fun m => fixL_succ t k x m
  have HN := Lib.hid fun m => fixL_len t k x m
  have hk6 : k ≤ 6 := by omega
  clear ht HL hv
  obtain ⟨n, hn⟩ : ∃ n, n = t.length := ⟨_, rfl⟩
  have hx2 : Vals w A n fun j => .int .i64 (nd t j) := by rw [hn]; exact hx
  rw [← hn] at HLt h64 ⊢
  clear hn hx
  generalize 2 ^ k = K at *
  go_enter Try.func66, Try.ntmps66
  go_wp2
  clear hs1
  go_loopw [7, 9] (fun u i wr => ∃ y : Nat, y ≤ n ∧ i = .int .i64 y ∧ wr.ownsRow w.heap.size 3 1 u y ((fixL t k x y).map (Value.int .i64)) ∧ Below w.heap.size w wr) (fun _ i _ => n - (intOf i).toNat)
  case atStart => exact ⟨0, by omega, rfl, ⟨rfl, .inl ⟨rfl, rfl⟩⟩, Below.refl _ _⟩
  case round =>
    obtain ⟨y, hy, rfl, ho, hb⟩ := hrel
    obtain ⟨vA, vc, rfl, hvc⟩ := own_form ho
    by_cases hyn : y < n
    · have hbit := HB.out y (by omega)
      have hj := HLt.out y hyn
      have HE := Lib.hid (HS.out y)
      generalize hJ : y / K * K + x % K = j at *
      obtain ⟨ad, rfl, hcell⟩ := (hx2.below hb).at_ hj
      have hji : (j : Int) < (n : Int) := by omega
      clear hJ
      generalize nd t j = z at *
      go_wp2_with (at_builtin; refine wpList_append_own _ rfl _ _ 29 rfl w.heap.size 3 i0 (.int .i64 0) 1 8 Try.underlying29 hi hz0 hz1 hz2 rfl (by decide) _ _ _ rfl (ho.alloc _) ⟨wr.heap.size, 0, none⟩ 1 1 [.int .i64 z] rfl rfl (cell_one _ _ _) (by simp [Value.oneCell']) (by unfold maxLen; omega) (by omega) (by have := hb.size; simp; omega) ?_; intro v' w4 hown' hgrow _)
      have hb4 : Below w.heap.size w w4 := (hb.alloc hb.size _).grown hgrow (by have := hb.size; simp; omega) (fun q hq => (ho.lt q hq).1)
      have hown2 : w4.ownsRow w.heap.size 3 1 v' (y + 1) ((fixL t k x (y + 1)).map (Value.int .i64)) := by
        rw [HE.out, List.map_append]; exact hown'
      go_roundw
      case rel => exact ⟨y + 1, by omega, by go_num, hown2, hb4⟩
      case measure => simp [intOf]; omega
    · obtain rfl : y = n := by omega
      go_wp2
      go_ret
      exact ⟨vA, vc, ret_slice (HN.out y).symm, by rw [HN.out]; exact ho, hb⟩
end Go.Proofs.Ytbhfmeohaoojfaa.Dg
