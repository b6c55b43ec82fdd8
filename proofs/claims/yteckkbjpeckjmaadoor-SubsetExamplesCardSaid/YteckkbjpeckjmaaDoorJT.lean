/- The kit's EqualRows, EqualBools, CopyBools, CopyRows, CopyDFA; the law's second. -/
import Derived.Test.YteckkbjpeckjmaaDoorJR
import Derived.Test.YteckkbjpeckjmaaDoorFN
namespace Go.Proofs.YteckkbjpeckjmaaDoor.Sb
open Go Go.RowKit Go.Proofs.YteckkbjpeckjmaaDoor Go.Proofs.YteckkbjpeckjmaaDoor.Cb
open Go.Proofs.YteckkbjpeckjmaaDoor.Nf (Ed ed Na NaAt NaLen Blk Blk.new Blk.below Blk.cells zvs ret_int ret_b hnext drew_below exN exCells ex_cells ex_fine eds_new)
open Go.Proofs.YteckkbjpeckjmaaDoor.Dg (Tabs tb tb_mem)
set_option linter.unusedVariables false
set_option linter.unusedSimpArgs false
set_option maxRecDepth 100000
set_option maxHeartbeats 2000000 in
theorem second_any7 (w : World) : Calls Tryd.prog 26 #[] w fun e w' => ∃ A B C, e = .returned (.agg #[.int .i64 1, .int .i64 3, .slice A 1 1, .slice B 1 1, .slice C 3 3]) ∧ NaAt w' exN A B C ∧ Below w.heap.size w w' := by
  go_enter Tryd.func26, Tryd.ntmps26
  go_wp2
  have hst : Ints ((((w.alloc (.cells #[.int .i64 1, .int .i64 3, .slice (some ⟨w.heap.size + 1, 0, none⟩) 1 1, .slice (some ⟨w.heap.size + 1 + 1, 0, none⟩) 1 1, .slice (some ⟨w.heap.size + 1 + 1 + 1, 0, none⟩) 3 3] 26)).alloc (.cells #[.int .i64 0] 3)).alloc (.cells #[.int .i64 2] 3)).alloc (.cells exCells 30)) (some ⟨w.heap.size + 1, 0, none⟩) [0] := by
    have h1 := Dg.ints_new (w.alloc (.cells #[.int .i64 1, .int .i64 3, .slice (some ⟨w.heap.size + 1, 0, none⟩) 1 1, .slice (some ⟨w.heap.size + 1 + 1, 0, none⟩) 1 1, .slice (some ⟨w.heap.size + 1 + 1 + 1, 0, none⟩) 3 3] 26)) 3 [0]
    rw [World.size_alloc] at h1
    exact (h1.below (bal (Below.refl _ _) _)).below (bal (Below.refl _ _) _)
  have hfi : Ints ((((w.alloc (.cells #[.int .i64 1, .int .i64 3, .slice (some ⟨w.heap.size + 1, 0, none⟩) 1 1, .slice (some ⟨w.heap.size + 1 + 1, 0, none⟩) 1 1, .slice (some ⟨w.heap.size + 1 + 1 + 1, 0, none⟩) 3 3] 26)).alloc (.cells #[.int .i64 0] 3)).alloc (.cells #[.int .i64 2] 3)).alloc (.cells exCells 30)) (some ⟨w.heap.size + 1 + 1, 0, none⟩) [2] := by
    have h1 := Dg.ints_new ((w.alloc (.cells #[.int .i64 1, .int .i64 3, .slice (some ⟨w.heap.size + 1, 0, none⟩) 1 1, .slice (some ⟨w.heap.size + 1 + 1, 0, none⟩) 1 1, .slice (some ⟨w.heap.size + 1 + 1 + 1, 0, none⟩) 3 3] 26)).alloc (.cells #[.int .i64 0] 3)) 3 [2]
    rw [World.size_alloc, World.size_alloc] at h1
    exact h1.below (bal (Below.refl _ _) _)
  have hes := eds_new (((w.alloc (.cells #[.int .i64 1, .int .i64 3, .slice (some ⟨w.heap.size + 1, 0, none⟩) 1 1, .slice (some ⟨w.heap.size + 1 + 1, 0, none⟩) 1 1, .slice (some ⟨w.heap.size + 1 + 1 + 1, 0, none⟩) 3 3] 26)).alloc (.cells #[.int .i64 0] 3)).alloc (.cells #[.int .i64 2] 3)) exN.es (by decide) ex_fine
  rw [ex_cells, World.size_alloc, World.size_alloc, World.size_alloc] at hes
  refine bodyPost_ret (v := .agg #[.int .i64 1, .int .i64 3, .slice (some ⟨w.heap.size + 1, 0, none⟩) 1 1, .slice (some ⟨w.heap.size + 1 + 1, 0, none⟩) 1 1, .slice (some ⟨w.heap.size + 1 + 1 + 1, 0, none⟩) 3 3]) (by simp [results, Tryd.results26, go_sem]) rfl ?_
  exact ⟨_, _, _, rfl, ⟨by unfold Nf.InJ; decide, by unfold Nf.InJ; decide, hst, hfi, hes⟩, bal (bal (bal (bal (Below.refl _ _) _) _) _) _⟩
set_option maxHeartbeats 4000000 in
theorem EqualRows_same (A B : Option Addr) (L : List (List Int)) (c d : Nat) (w : World) (hx : Tabs w A L) (hy : Tabs w B L) (hl : L.length ≤ 1000000) (hs : ∀ u ∈ L, u.length ≤ 1000000) :
    Calls Tryd.prog 53 #[.slice A L.length c, .slice B L.length d] w fun e w' => e = .returned (.bool true) ∧ Below w.heap.size w w' := by
  have HE : Hid (∀ j, j < L.length → ∀ X p q c' d', Ints X p (tb L j) → Ints X q (tb L j) → Calls Tryd.prog 30 #[.slice p (tb L j).length c', .slice q (tb L j).length d'] X fun e w' => e = .returned (.bool true) ∧ Below X.heap.size X w') := fun j hj X p q c' d' h1 h2 => by
    have := Dg.EqualInts_any p q (tb L j) (tb L j) c' d' X h1 h2 (by have := hs _ (tb_mem hj); unfold maxLen; omega)
    rw [decide_eq_true rfl] at this
    exact this
  have HX := Lib.hid hx
  have HY := Lib.hid hy
  have hn0 : ((L.length : Int) != (L.length : Int)) = false := by simp
  clear hs hx hy
  go_enter Tryd.func53, Tryd.ntmps53
  go_wp2
  go_loopw [5] (fun i wr => ∃ k : Nat, k ≤ L.length ∧ i = .int .i64 k ∧ Below w.heap.size w wr) (fun i _ => L.length - (intOf i).toNat)
  case atStart => exact ⟨0, by omega, rfl, Below.refl _ _⟩
  case round =>
    obtain ⟨k, hk, rfl, hb⟩ := hrel
    by_cases hlt : k < L.length
    · obtain ⟨ad, p, c', rfl, hbk, hcell, hi⟩ := (HX.out.below hb) k hlt
      obtain ⟨bd, p', d', rfl, hbk', hcell', hi'⟩ := (HY.out.below hb) k hlt
      have HEk := Lib.hid fun X hX => HE.out k hlt X p p' c' d' (Vals.below hi hX) (Vals.below hi' hX)
      have hlt2 : (k : Int) < (L.length : Int) := by omega
      clear HE hi hi' HX HY
      generalize (tb L k).length = nk at *
      go_wp2
      have KE : Below wr.heap.size wr wr.drew := drew_below wr
      have hS : wr.drew.cell? (ad.add k) = some (.slice p nk c') ∧ wr.drew.cell? (bd.add k) = some (.slice p' nk d') ∧ Below wr.heap.size wr wr.drew := ⟨(KE.cell (by rw [addr_block]; exact hbk)).trans hcell, (KE.cell (by rw [addr_block]; exact hbk')).trans hcell', KE⟩
      go_region_held3 (fun w' => w'.cell? (ad.add k) = some (.slice p nk c') ∧ w'.cell? (bd.add k) = some (.slice p' nk d') ∧ Below wr.heap.size wr w')
        (first | assumption)
        ((go_at_call 30; ((with_reducible refine (HEk.out wr.drew KE).mono ?_); rintro e w2 ⟨rfl, hb2⟩); have K2 := stepB KE hb2; have hS2 : w2.cell? (ad.add k) = some (.slice p nk c') ∧ w2.cell? (bd.add k) = some (.slice p' nk d') ∧ Below wr.heap.size wr w2 := ⟨(K2.cell (by rw [addr_block]; exact hbk)).trans hcell, (K2.cell (by rw [addr_block]; exact hbk')).trans hcell', K2⟩))
      have K := hS2.2.2
      clear hS hS2 KE K2 hb2 HEk hcell hcell'
      go_wp2
      go_roundw
      case rel => exact ⟨k + 1, by omega, by go_num, stepB hb K⟩
      case measure => simp [intOf]; omega
    · obtain rfl : k = L.length := by omega
      clear HX HY HE
      go_wp2
      go_ret
      exact ⟨rfl, hb⟩
set_option maxHeartbeats 2000000 in
theorem EqualBools_same (A B : Option Addr) (l : List Bool) (c d : Nat) (w : World) (hx : Bools w A l) (hy : Bools w B l) (hl : l.length ≤ 1000000) :
    Calls Tryd.prog 54 #[.slice A l.length c, .slice B l.length d] w fun e w' => e = .returned (.bool true) ∧ ∃ n, w' = w.drewN n := by
  have hn0 : ((l.length : Int) != (l.length : Int)) = false := by simp
  go_enter Tryd.func54, Tryd.ntmps54
  go_wp2
  go_loopw [5] (fun i wr => ∃ k q : Nat, k ≤ l.length ∧ i = .int .i64 k ∧ wr = w.drewN q) (fun i _ => l.length - (intOf i).toNat)
  case atStart => exact ⟨0, 0, by omega, rfl, rfl⟩
  case round =>
    obtain ⟨k, q, hk, rfl, rfl⟩ := hrel
    by_cases hlt : k < l.length
    · obtain ⟨ad, rfl, hcell⟩ := Vals.at_ hx hlt
      obtain ⟨bd, rfl, hcell'⟩ := Vals.at_ hy hlt
      generalize l.getD k false = x at *
      have hne : (x != x) = false := by simp
      have hlt2 : (k : Int) < (l.length : Int) := by omega
      go_wp2
      go_quiet (fail)
      go_wp2
      go_roundw
      case rel => exact ⟨k + 1, _, by omega, by go_num, rfl⟩
      case measure => simp [intOf]; omega
    · obtain rfl : k = l.length := by omega
      go_wp2
      go_ret
      exact ⟨rfl, _, rfl⟩
theorem bools_list (l : List Bool) : (List.range l.length).map (fun j => Value.bool (l.getD j false)) = l.map Value.bool := by
  apply List.ext_getElem
  · simp
  · intro j h1 h2
    have : j < l.length := by simpa using h1
    simp [this]
theorem bools_own {w : World} {B n c : Nat} {A : Option Addr} {l : List Bool} (h : w.ownsRow B 4 1 (.slice A n c) n (l.map Value.bool)) (hn : n = l.length) : Bools w A l := by
  subst hn
  exact Vals.of_own h fun j hj => by simp [hj]
end Go.Proofs.YteckkbjpeckjmaaDoor.Sb
