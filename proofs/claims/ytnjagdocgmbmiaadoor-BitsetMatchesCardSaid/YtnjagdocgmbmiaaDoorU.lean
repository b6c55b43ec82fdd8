/- The walk of the law BitsetAlgebra. -/
import Derived.Test.YtnjagdocgmbmiaaDoorV
namespace Go.Proofs.YtnjagdocgmbmiaaDoor
open Go Go.RowKit
set_option maxRecDepth 100000
section
variable {xs ys zs : List Nat}
theorem alg1 : eqB (canon (zipW (· ||| ·) xs ys)) (canon (zipW (· ||| ·) ys xs)) = true := by
  rw [eqB_iff]; intro i hi; rw [wd_or _ _ i hi, wd_or _ _ i hi, Nat.or_comm]
theorem alg2 : eqB (canon (zipW (· &&& ·) xs ys)) (canon (zipW (· &&& ·) ys xs)) = true := by
  rw [eqB_iff]; intro i hi; rw [wd_and _ _ i hi, wd_and _ _ i hi, Nat.and_comm]
theorem alg3 : eqB (canon (zipW (· ||| ·) (canon (zipW (· ||| ·) xs ys)) zs)) (canon (zipW (· ||| ·) xs (canon (zipW (· ||| ·) ys zs)))) = true := by
  rw [eqB_iff]; intro i hi; rw [wd_or _ _ i hi, wd_or _ _ i hi, wd_or _ _ i hi, wd_or _ _ i hi, Nat.or_assoc]
theorem alg4 : eqB (canon (zipW (· &&& ·) (canon (zipW (· &&& ·) xs ys)) zs)) (canon (zipW (· &&& ·) xs (canon (zipW (· &&& ·) ys zs)))) = true := by
  rw [eqB_iff]; intro i hi; rw [wd_and _ _ i hi, wd_and _ _ i hi, wd_and _ _ i hi, wd_and _ _ i hi, Nat.and_assoc]
theorem alg5 : eqB (canon (zipW (· &&& ·) xs (canon (zipW (· ||| ·) ys zs)))) (canon (zipW (· ||| ·) (canon (zipW (· &&& ·) xs ys)) (canon (zipW (· &&& ·) xs zs)))) = true := by
  rw [eqB_iff]; intro i hi; rw [wd_and _ _ i hi, wd_or _ _ i hi, wd_or _ _ i hi, wd_and _ _ i hi, wd_and _ _ i hi]
  apply bits_ext; intro b; simp only [Nat.testBit_and, Nat.testBit_or]
  cases (wd xs i).testBit b <;> cases (wd ys i).testBit b <;> cases (wd zs i).testBit b <;> rfl
theorem alg6 : eqB (canon (zipW (· ||| ·) xs (canon (zipW (· &&& ·) ys zs)))) (canon (zipW (· &&& ·) (canon (zipW (· ||| ·) xs ys)) (canon (zipW (· ||| ·) xs zs)))) = true := by
  rw [eqB_iff]; intro i hi; rw [wd_or _ _ i hi, wd_and _ _ i hi, wd_and _ _ i hi, wd_or _ _ i hi, wd_or _ _ i hi]
  apply bits_ext; intro b; simp only [Nat.testBit_and, Nat.testBit_or]
  cases (wd xs i).testBit b <;> cases (wd ys i).testBit b <;> cases (wd zs i).testBit b <;> rfl
theorem alg7 (ux : U64 xs) (uy : U64 ys) : meetB (canon (zipW andNot xs ys)) ys = false := by
  rw [meetB_iff]; intro i hi; rw [wd_minus _ _ i hi]
  apply bits_ext; intro b; rw [Nat.testBit_and, bit_andNot _ _ _ (ux.at_ i) (uy.at_ i), Nat.zero_testBit]
  cases (wd xs i).testBit b <;> cases (wd ys i).testBit b <;> rfl
theorem alg8 (ux : U64 xs) (uy : U64 ys) : eqB (canon (zipW (· ||| ·) (canon (zipW andNot xs ys)) (canon (zipW (· &&& ·) xs ys)))) xs = true := by
  rw [eqB_iff]; intro i hi; rw [wd_or _ _ i hi, wd_minus _ _ i hi, wd_and _ _ i hi]
  apply bits_ext; intro b; rw [Nat.testBit_or, bit_andNot _ _ _ (ux.at_ i) (uy.at_ i), Nat.testBit_and]
  cases (wd xs i).testBit b <;> cases (wd ys i).testBit b <;> rfl
theorem alg9 : eqB (canon (zipW (· ||| ·) xs xs)) xs = true := by
  rw [eqB_iff]; intro i hi; rw [wd_or _ _ i hi, Nat.or_self]
theorem alg10 : eqB (canon (zipW (· &&& ·) xs xs)) xs = true := by
  rw [eqB_iff]; intro i hi; rw [wd_and _ _ i hi, Nat.and_self]
end
set_option maxHeartbeats 2000000 in
theorem bitsetAlgebra_walk (A : Option Addr) (xs : List Nat) (c : Nat) (B : Option Addr) (ys : List Nat) (d : Nat) (C : Option Addr) (zs : List Nat) (f : Nat) (w : World) (hx : Words w A xs) (ux : U64 xs) (lx : xs.length ≤ c) (mx : c ≤ maxLen)
    (hy : Words w B ys) (uy : U64 ys) (ly : ys.length ≤ d) (my : d ≤ maxLen) (hz : Words w C zs) (uz : U64 zs) (lz : zs.length ≤ f) (mz : f ≤ maxLen) (hT : Tab w) :
    Calls Tryd.prog 6 #[.slice A xs.length c, .slice B ys.length d, .slice C zs.length f] w fun e w' => e = .returned (.bool true) ∧ Below w.heap.size w w' := by
  have E00 : Env w w [] := ⟨Below.refl _ _, hT, (fun q hq => by cases hq)⟩
  have E0 : Env w w [(A, c, xs), (B, d, ys), (C, f, zs)] := ((E00.push hz uz lz).push hy uy ly).push hx ux lx
  clear E00
  have hm : ∀ q ∈ [(A, xs.length, c), (B, ys.length, d), (C, zs.length, f)], q.2.1 ≤ maxLen := by
    intro q hq
    simp only [List.mem_cons, List.not_mem_nil, or_false] at hq
    rcases hq with rfl | rfl | rfl <;> simp only <;> omega
  by_cases hl : (!([(A, xs.length, c), (B, ys.length, d), (C, zs.length, f)] : List (Option Addr × Nat × Nat)).all fun q => decide (q.2.1 ≤ 80)) = true
  · have HL := Lib.hid (Long_env E0 [(A, xs.length, c), (B, ys.length, d), (C, zs.length, f)] 23 3 (by simp) hm hl)
    clear hl hm hx hy hz
    go_enter Tryd.func6, Tryd.ntmps6
    go_wp2_with (first
      | (go_at_call 11; refine HL.out.mono ?_; rintro e w1 ⟨rfl, E⟩)
      | (go_at_call 12; refine (awake_env E).mono ?_; rintro e w2 ⟨rfl, E2⟩))
    go_ret
    exact ⟨rfl, E2.1⟩
  · have hl' : (!([(A, xs.length, c), (B, ys.length, d), (C, zs.length, f)] : List (Option Addr × Nat × Nat)).all fun q => decide (q.2.1 ≤ 80)) = false := by simpa using hl
    have HL := Lib.hid (Long_env E0 [(A, xs.length, c), (B, ys.length, d), (C, zs.length, f)] 23 3 (by simp) hm hl')
    clear hl hl' hm hx hy hz
    go_enter Tryd.func6, Tryd.ntmps6
    go_wp2_with (first
      | (go_at_call 11; refine HL.out.mono ?_; rintro e w1 ⟨rfl, E⟩)
      | (go_at_call 12; refine (awake_env E).mono ?_; rintro e w2 ⟨rfl, E⟩)
      | (go_at_call 30; refine (Union_env E (by repeat (first | with_reducible exact List.mem_cons_self | apply List.mem_cons_of_mem)) (by repeat (first | with_reducible exact List.mem_cons_self | apply List.mem_cons_of_mem))).mono ?_; rintro e w2 ⟨A', c', rfl, E⟩)
      | (go_at_call 31; refine (Intersect_env E (by repeat (first | with_reducible exact List.mem_cons_self | apply List.mem_cons_of_mem)) (by repeat (first | with_reducible exact List.mem_cons_self | apply List.mem_cons_of_mem))).mono ?_; rintro e w2 ⟨A', c', rfl, E⟩)
      | (go_at_call 32; refine (Minus_env E (by repeat (first | with_reducible exact List.mem_cons_self | apply List.mem_cons_of_mem)) (by repeat (first | with_reducible exact List.mem_cons_self | apply List.mem_cons_of_mem))).mono ?_; rintro e w2 ⟨A', c', rfl, E⟩)
      | (go_at_call 16; refine (Canonical_env E (by repeat (first | with_reducible exact List.mem_cons_self | apply List.mem_cons_of_mem))).mono ?_; rintro e w2 ⟨A', c', rfl, E⟩)
      | (go_at_call 35; refine (Equal_env E (by repeat (first | with_reducible exact List.mem_cons_self | apply List.mem_cons_of_mem)) (by repeat (first | with_reducible exact List.mem_cons_self | apply List.mem_cons_of_mem)) (b := true) (by first | with_reducible exact alg1 | with_reducible exact alg2 | with_reducible exact alg3 | with_reducible exact alg4 | with_reducible exact alg5 | with_reducible exact alg6 | with_reducible exact alg8 ux uy | with_reducible exact alg9 | with_reducible exact alg10)).mono ?_; rintro e w2 ⟨rfl, rfl⟩)
      | (go_at_call 36; refine (Intersects_env E (by repeat (first | with_reducible exact List.mem_cons_self | apply List.mem_cons_of_mem)) (by repeat (first | with_reducible exact List.mem_cons_self | apply List.mem_cons_of_mem)) (b := false) (alg7 ux uy)).mono ?_; rintro e w2 ⟨rfl, rfl⟩)
      | (go_at_call 22; refine (Same_env E (by repeat (first | with_reducible exact List.mem_cons_self | apply List.mem_cons_of_mem)) (by repeat (first | with_reducible exact List.mem_cons_self | apply List.mem_cons_of_mem)) (canon_canon _).symm (by rw [canon_len]; have := ulen_le64; unfold maxLen; exact Nat.le_trans (this _) (by decide))).mono ?_; rintro e w2 ⟨rfl, E⟩))
    go_ret
    exact ⟨rfl, E.1⟩
end Go.Proofs.YtnjagdocgmbmiaaDoor
