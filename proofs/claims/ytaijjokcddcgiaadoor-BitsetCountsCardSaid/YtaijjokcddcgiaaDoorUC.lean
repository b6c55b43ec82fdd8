/- The walk of the law BitsetCounts. -/
import Derived.Test.YtaijjokcddcgiaaDoorY
namespace Go.Proofs.YtaijjokcddcgiaaDoor
open Go Go.RowKit
set_option maxRecDepth 100000
set_option maxHeartbeats 20000000 in
theorem bitsetCounts_walk (A : Option Addr) (xs : List Nat) (c : Nat) (B : Option Addr) (ys : List Nat) (d : Nat) (w : World) (hx : Words w A xs) (ux : U64 xs) (lx : xs.length ≤ c) (mx : c ≤ maxLen) (hy : Words w B ys) (uy : U64 ys) (ly : ys.length ≤ d) (my : d ≤ maxLen) (hT : Tab w) :
    Calls Tryd.prog 7 #[.slice A xs.length c, .slice B ys.length d] w fun e w' => e = .returned (.bool true) ∧ Below w.heap.size w w' := by
  have E00 : Env w w [] := ⟨Below.refl _ _, hT, (fun q hq => by cases hq)⟩
  have E0 : Env w w [(A, c, xs), (B, d, ys)] := (E00.push hy uy ly).push hx ux lx
  clear E00
  have hm : ∀ q ∈ [(A, xs.length, c), (B, ys.length, d)], q.2.1 ≤ maxLen := by
    intro q hq
    simp only [List.mem_cons, List.not_mem_nil, or_false] at hq
    rcases hq with rfl | rfl <;> simp only <;> omega
  by_cases hl : (!([(A, xs.length, c), (B, ys.length, d)] : List (Option Addr × Nat × Nat)).all fun q => decide (q.2.1 ≤ 80)) = true
  · have HL := Lib.hid (Long_env E0 [(A, xs.length, c), (B, ys.length, d)] 23 2 (by simp) hm hl)
    clear hl hm hx hy
    go_enter Tryd.func7, Tryd.ntmps7
    go_wp2_with (first
      | (go_at_call 11; refine HL.out.mono ?_; rintro e w1 ⟨rfl, E⟩)
      | (go_at_call 12; refine (awake_env E).mono ?_; rintro e w2 ⟨rfl, E2⟩))
    go_ret
    exact ⟨rfl, E2.1⟩
  · have hl' : (!([(A, xs.length, c), (B, ys.length, d)] : List (Option Addr × Nat × Nat)).all fun q => decide (q.2.1 ≤ 80)) = false := by simpa using hl
    have HL := Lib.hid (Long_env E0 [(A, xs.length, c), (B, ys.length, d)] 23 2 (by simp) hm hl')
    clear hl hl' hm hx hy
    have q1 := els_le xs
    have q2 := els_le ys
    have q3 := els_le (canon (zipW (· ||| ·) xs ys))
    have q4 := els_le (canon (zipW (· &&& ·) xs ys))
    have hc := els_counts (xs := xs) (ys := ys)
    have hq : (((els (canon (zipW (· ||| ·) xs ys))).length : Int) == ((els xs).length : Int) + ((els ys).length : Int) - ((els (canon (zipW (· &&& ·) xs ys))).length : Int)) = true := by
      rw [beq_iff_eq]; omega
    have hmeet := meetB_pos (xs := xs) (ys := ys) ux
    obtain ⟨sb, hsb⟩ : ∃ sb, subB xs ys = sb := ⟨_, rfl⟩
    have g1 := sub_or ux uy
    have g2 := sub_and ux uy
    rw [hsb] at g1 g2
    have G1 := Lib.hid g1
    have G2 := Lib.hid g2
    have G3 := Lib.hid hsb
    have G4 := Lib.hid hmeet
    clear g1 g2 hsb hmeet hc
    have hgt : ∀ n : Nat, decide ((0 : Int) < (n : Int)) = decide (0 < n) := fun n => by simp
    go_enter Tryd.func7, Tryd.ntmps7
    go_wp2_with (first
      | (go_at_call 11; refine HL.out.mono ?_; rintro e w1 ⟨rfl, E⟩)
      | (go_at_call 12; refine (awake_env E).mono ?_; rintro e w2 ⟨rfl, E⟩)
      | (go_at_call 30; refine (Union_env E (by repeat (first | with_reducible exact List.mem_cons_self | apply List.mem_cons_of_mem)) (by repeat (first | with_reducible exact List.mem_cons_self | apply List.mem_cons_of_mem))).mono ?_; rintro e w2 ⟨A', c', rfl, E⟩)
      | (go_at_call 31; refine (Intersect_env E (by repeat (first | with_reducible exact List.mem_cons_self | apply List.mem_cons_of_mem)) (by repeat (first | with_reducible exact List.mem_cons_self | apply List.mem_cons_of_mem))).mono ?_; rintro e w2 ⟨A', c', rfl, E⟩)
      | (go_at_call 20; refine (Len_env E (by repeat (first | with_reducible exact List.mem_cons_self | apply List.mem_cons_of_mem))).mono ?_; rintro e w2 ⟨rfl, rfl⟩)
      | (go_at_call 34; refine (Subset_env E (by repeat (first | with_reducible exact List.mem_cons_self | apply List.mem_cons_of_mem)) (by repeat (first | with_reducible exact List.mem_cons_self | apply List.mem_cons_of_mem)) (b := _) (by first | with_reducible exact G3.out | with_reducible exact sub_of_and ux uy | with_reducible exact sub_to_or ux uy)).mono ?_; rintro e w2 ⟨rfl, rfl⟩)
      | (go_at_call 35; refine (Equal_env E (by repeat (first | with_reducible exact List.mem_cons_self | apply List.mem_cons_of_mem)) (by repeat (first | with_reducible exact List.mem_cons_self | apply List.mem_cons_of_mem)) (b := sb) (by first | with_reducible exact G1.out | with_reducible exact G2.out)).mono ?_; rintro e w2 ⟨rfl, rfl⟩)
      | (go_at_call 36; refine (Intersects_env E (by repeat (first | with_reducible exact List.mem_cons_self | apply List.mem_cons_of_mem)) (by repeat (first | with_reducible exact List.mem_cons_self | apply List.mem_cons_of_mem)) (b := _) (by with_reducible exact G4.out)).mono ?_; rintro e w2 ⟨rfl, rfl⟩))
    go_ret
    first | exact ⟨rfl, E.1⟩ | (refine ⟨ret_bool ?_, E.1⟩; simp)
end Go.Proofs.YtaijjokcddcgiaaDoor
