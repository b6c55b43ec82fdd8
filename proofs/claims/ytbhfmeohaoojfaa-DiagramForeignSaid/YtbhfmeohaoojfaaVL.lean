/- foreign. -/
import Derived.Test.YtbhfmeohaoojfaaVI
namespace Go.Proofs.Ytbhfmeohaoojfaa.Dn
open Go Go.RowKit Go.Proofs.Ytbhfmeohaoojfaa.Ap
open Go.Proofs.Ytbhfmeohaoojfaa.Dg
set_option linter.unusedVariables false
set_option maxRecDepth 100000
/-- Is x among the first j? -/
def fnd (rs : List Nat) (x : Int) (j : Nat) : Bool := (rs.take j).any fun r => ((r : Nat) : Int) == x
theorem fnd_succ {rs : List Nat} {x : Int} {j : Nat} (h : j < rs.length) : fnd rs x (j + 1) = (fnd rs x j || (((rs.getD j 0 : Nat) : Int) == x)) := by
  unfold fnd
  rw [List.take_add_one, List.any_append, List.getD_eq_getElem?_getD, List.getElem?_eq_getElem h]
  simp
theorem fnd_no {rs : List Nat} {x : Int} (h : fnd rs x rs.length = false) : ∀ r ∈ rs, ((r : Nat) : Int) ≠ x := fun r hr e => by
  unfold fnd at h
  rw [List.take_length, List.any_eq_false] at h
  exact h r hr (by rw [e]; simp)
theorem fnd_yes {rs : List Nat} {x : Int} (h : fnd rs x rs.length = true) : ∃ r ∈ rs, ((r : Nat) : Int) = x := by
  unfold fnd at h
  rw [List.take_length, List.any_eq_true] at h
  obtain ⟨r, hr, e⟩ := h
  exact ⟨r, hr, by simpa using e⟩
theorem wrap_inj {k : Int} {i j : Nat} (hi : i ≤ 2000) (hj : j ≤ 2000) (h : wrap64 (k + i) = wrap64 (k + j)) : i = j := by
  unfold wrap64 at h
  omega
/-- So many different numbers are not among so few. -/
theorem fnd_end {rs : List Nat} {k : Int} (hs : rs.length ≤ 1000) (h : ∀ m, m < rs.length + 1 → ∃ r ∈ rs, ((r : Nat) : Int) = wrap64 (k + m)) : False := by
  have hn : ((List.range (rs.length + 1)).map fun m : Nat => wrap64 (k + m)).Nodup := nodup_map_on List.nodup_range fun x hx y hy e => by
    have hx := List.mem_range.1 hx
    have hy := List.mem_range.1 hy
    exact wrap_inj (by omega) (by omega) e
  have := nodup_le _ (rs.map fun r : Nat => (r : Int)) hn fun u hu => by
    obtain ⟨m, hm, rfl⟩ := List.mem_map.1 hu
    obtain ⟨r, hr, e⟩ := h m (List.mem_range.1 hm)
    exact List.mem_map.2 ⟨r, hr, e⟩
  simp at this
  omega
theorem wrap_ok (x : Int) : IntOk (wrap64 x) := by
  unfold IntOk wrap64
  omega
theorem wrap_next (k : Int) (n : Nat) : wrap64 (wrap64 (k + n) + 1) = wrap64 (k + (n + 1 : Nat)) := by
  unfold wrap64
  omega
section
variable {X : World} {lo qb sb mb v cap c : Nat} {A : Option Addr} {Q : List (Option Addr × Nat × List Int)} {rv : Value} {rs : List Nat} {tv : Value} {T : List (Option Addr × Nat × List Int)}
set_option maxHeartbeats 2000000 in
theorem foreign_any (k : Int) (h : LawM X lo qb sb mb v cap A c Q rv rs tv T) (hk : IntOk k) (hs : rs.length ≤ 1000) :
    Calls Try.prog 24 #[.pointer (some ⟨qb, 0, none⟩), .int .i64 k] X fun e w' => ∃ x : Int, e = .returned (.int .i64 x) ∧ IntOk x ∧ (∀ r ∈ rs, ((r : Nat) : Int) ≠ x) ∧ ∃ n, w' = X.drewN n := by
  obtain ⟨_, _, h2, _⟩ := h.cells
  obtain ⟨A1, c1, e1, _⟩ := own_form h.rr
  have hv1 := Vals.of_own (f := fun j => .int .i64 ((rs.getD j 0 : Nat) : Int)) (e1 ▸ h.rr) fun j hj => by
    rw [List.getElem?_map, List.getD_eq_getElem?_getD, List.getElem?_eq_getElem hj]; rfl
  rw [e1] at h2
  have HS := Lib.hid hs
  have hw0 : k = wrap64 (k + (0 : Nat)) := by
    rw [IntWalk.wrap64_in _ ⟨by have := hk.1; omega, by have := hk.2; omega⟩]; simp
  have HW := Lib.hid hw0
  clear h e1 hw0
  go_enter Try.func24, Try.ntmps24
  go_wp2
  go_loopw [5, 6] (fun x i wr => ∃ n q : Nat, ∃ y : Int, n ≤ rs.length + 1 ∧ x = .int .i64 y ∧ Hid (y = wrap64 (k + n)) ∧ i = .int .i64 n ∧ Hid (∀ m, m < n → ∃ r ∈ rs, ((r : Nat) : Int) = wrap64 (k + m)) ∧ wr = X.drewN q) (fun _ i _ => rs.length + 1 - (intOf i).toNat)
  case atStart => exact ⟨0, 0, k, by omega, rfl, HW, rfl, fun m hm => absurd hm (by omega), rfl⟩
  case round =>
    obtain ⟨n, q, y, hn, rfl, HY, rfl, H, rfl⟩ := hrel
    by_cases hlt : n < rs.length + 1
    · have hn' : (n : Int) ≤ rs.length := by omega
      go_wp2
      go_loopw [7, 8] (fun f j wr => ∃ m q : Nat, ∃ b : Bool, m ≤ rs.length ∧ f = .bool b ∧ Hid (b = fnd rs y m) ∧ j = .int .i64 m ∧ wr = X.drewN q) (fun _ j _ => rs.length - (intOf j).toNat)
      case atStart => exact ⟨0, q, false, by omega, rfl, rfl, rfl, rfl⟩
      case round =>
        obtain ⟨m, q, b, hm, rfl, HB, rfl, rfl⟩ := hrel
        by_cases hlm : m < rs.length
        · obtain ⟨ad, rfl, hcell0⟩ := hv1.at_ hlm
          have hcell : X.cell? (ad.add m) = some (.int .i64 ((rs.getD m 0 : Nat) : Int)) := hcell0
          have HS := Lib.hid (fnd_succ (x := y) hlm)
          rcases b with _ | _
          · have HN : Hid ((((rs.getD m 0 : Nat) : Int) == y) = fnd rs y (m + 1)) := by
              show _ = _
              rw [HS.out, ← HB.out, Bool.false_or]
            clear HS HB hcell0
            generalize rs.getD m 0 = r at *
            go_wp2
            go_roundw
            case rel => exact ⟨m + 1, _, _, by omega, rfl, HN, by go_num, rfl⟩
            case measure => simp [intOf]; omega
          · have HN : Hid (true = fnd rs y (m + 1)) := by
              show _ = _
              rw [HS.out, ← HB.out, Bool.true_or]
            clear HS HB hcell0
            generalize rs.getD m 0 = r at *
            go_wp2
            go_roundw
            case rel => exact ⟨m + 1, _, _, by omega, rfl, HN, by go_num, rfl⟩
            case measure => simp [intOf]; omega
        · obtain rfl : m = rs.length := by omega
          rcases b with _ | _
          · have HN := Lib.hid (fnd_no HB.out.symm)
            have HI : Hid (IntOk y) := by rw [HY.out]; exact wrap_ok _
            clear HB
            go_wp2
            go_ret
            exact ⟨y, rfl, HI.out, HN.out, _, rfl⟩
          · have HN : Hid (∀ m, m < n + 1 → ∃ r ∈ rs, ((r : Nat) : Int) = wrap64 (k + m)) := fun m hm => by
              rcases Nat.lt_or_eq_of_le (Nat.le_of_lt_succ hm) with h1 | rfl
              · exact H.out m h1
              · rw [← HY.out]; exact fnd_yes HB.out.symm
            have HY' : Hid (wrap64 (y + 1) = wrap64 (k + (n + 1 : Nat))) := by
              show _ = _
              rw [HY.out]; exact wrap_next k n
            clear HB H HY
            go_wp2
            go_roundw
            case rel => exact ⟨n + 1, _, _, by omega, rfl, HY', by go_num, HN, rfl⟩
            case measure => simp [intOf]; omega
    · exfalso
      obtain rfl : n = rs.length + 1 := by omega
      exact fnd_end HS.out H.out
end
end Go.Proofs.Ytbhfmeohaoojfaa.Dn
