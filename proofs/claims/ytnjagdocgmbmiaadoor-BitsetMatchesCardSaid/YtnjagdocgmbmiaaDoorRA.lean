/- The reference's results, and the layer's, in words. -/
import Derived.Test.YtnjagdocgmbmiaaDoorRI
import Derived.Test.YtnjagdocgmbmiaaDoorU
namespace Go.Proofs.YtnjagdocgmbmiaaDoor
open Go Go.RowKit
set_option maxRecDepth 100000
set_option linter.unusedVariables false
section
variable {xs ys zs : List Nat}
theorem ofL_is (uz : U64 zs) (hz : canon zs = zs) (l : List Int) (h : ∀ k : Nat, k < 4096 → decide ((k : Int) ∈ l) = mem zs k) : ofL l = zs := by
  rw [← ofL_canon, ← hz]
  exact canon_ext ((eqB_iff _ _).1 ((eqB_mem (u64_of _) uz).2 fun k hk => (mem_ofL _ hk).trans (h k hk)))
theorem elsI_at {k : Nat} (hk : k < 4096) : decide ((k : Int) ∈ elsI xs) = mem xs k := by
  rw [Bool.eq_iff_iff, decide_eq_true_iff, elsI_mem]
  unfold hasB
  rw [decide_eq_true (by omega), Bool.true_and, Int.toNat_natCast]
theorem union_is (uz : U64 (canon (zipW (· ||| ·) xs ys))) : ofL (elsI xs ++ elsI ys) = canon (zipW (· ||| ·) xs ys) := by
  refine ofL_is uz (canon_canon _) _ fun k hk => ?_
  rw [mem_or hk, ← elsI_at (xs := xs) hk, ← elsI_at (xs := ys) hk]
  simp [List.mem_append]
theorem meet_is (uz : U64 (canon (zipW (· &&& ·) xs ys))) : ofL (meetTo (elsI xs) (elsI ys) (elsI xs).length) = canon (zipW (· &&& ·) xs ys) := by
  refine ofL_is uz (canon_canon _) _ fun k hk => ?_
  rw [mem_and hk, ← elsI_at (xs := xs) hk, ← elsI_at (xs := ys) hk, meetTo, List.take_length, Bool.eq_iff_iff]
  simp [List.mem_filter]
theorem less_is (ux : U64 xs) (uy : U64 ys) (uz : U64 (canon (zipW andNot xs ys))) : ofL (lessTo (elsI xs) (elsI ys) (elsI xs).length) = canon (zipW andNot xs ys) := by
  refine ofL_is uz (canon_canon _) _ fun k hk => ?_
  rw [mem_minus ux uy hk, ← elsI_at (xs := xs) hk, ← elsI_at (xs := ys) hk, lessTo, List.take_length, Bool.eq_iff_iff]
  simp [List.mem_filter]
end
section
variable {w0 w : World} {S : List (Option Addr × Nat × List Nat)} {A B : Option Addr} {c d : Nat} {xs ys : List Nat}
theorem refUnion_env (E : Env w0 w S) (ha : (A, c, xs) ∈ S) (hb : (B, d, ys) ∈ S) (hl : xs.length ≤ 80) (hm : ys.length ≤ 80) :
    Calls Tryd.prog 33 #[.slice A xs.length c, .slice B ys.length d] w fun e w' =>
      ∃ A' c', e = .returned (.slice A' (canon (zipW (· ||| ·) xs ys)).length c') ∧ Env w0 w' ((A', c', canon (zipW (· ||| ·) xs ys)) :: S) := by
  obtain ⟨a1, a2, a3⟩ := E.2.2 _ ha
  obtain ⟨b1, b2, b3⟩ := E.2.2 _ hb
  refine (refUnion_any A B xs ys c d w a1 a2 hl b1 b2 hm).mono ?_
  rw [union_is (u64_canon (u64_zip a2 b2 _ fun _ _ h h' => Nat.or_lt_two_pow h h'))]
  rintro e w' ⟨A', c', he, ho, hb⟩
  exact ⟨A', c', he, (E.step hb).push ho.words ho.2.1 ho.2.2⟩
theorem refIntersect_env (E : Env w0 w S) (ha : (A, c, xs) ∈ S) (hb : (B, d, ys) ∈ S) (hl : xs.length ≤ 80) (hm : ys.length ≤ 80) :
    Calls Tryd.prog 29 #[.slice A xs.length c, .slice B ys.length d] w fun e w' =>
      ∃ A' c', e = .returned (.slice A' (canon (zipW (· &&& ·) xs ys)).length c') ∧ Env w0 w' ((A', c', canon (zipW (· &&& ·) xs ys)) :: S) := by
  obtain ⟨a1, a2, a3⟩ := E.2.2 _ ha
  obtain ⟨b1, b2, b3⟩ := E.2.2 _ hb
  refine (refIntersect_any A B xs ys c d w a1 a2 hl b1 b2 hm).mono ?_
  rw [meet_is (u64_canon (u64_zip a2 b2 _ fun _ _ h _ => Nat.lt_of_le_of_lt Nat.and_le_left h))]
  rintro e w' ⟨A', c', he, ho, hb⟩
  exact ⟨A', c', he, (E.step hb).push ho.words ho.2.1 ho.2.2⟩
theorem refMinus_env (E : Env w0 w S) (ha : (A, c, xs) ∈ S) (hb : (B, d, ys) ∈ S) (hl : xs.length ≤ 80) (hm : ys.length ≤ 80) :
    Calls Tryd.prog 28 #[.slice A xs.length c, .slice B ys.length d] w fun e w' =>
      ∃ A' c', e = .returned (.slice A' (canon (zipW andNot xs ys)).length c') ∧ Env w0 w' ((A', c', canon (zipW andNot xs ys)) :: S) := by
  obtain ⟨a1, a2, a3⟩ := E.2.2 _ ha
  obtain ⟨b1, b2, b3⟩ := E.2.2 _ hb
  refine (refMinus_any A B xs ys c d w a1 a2 hl b1 b2 hm).mono ?_
  rw [less_is a2 b2 (u64_canon (u64_zip a2 b2 _ fun _ _ h _ => Nat.lt_of_le_of_lt Nat.and_le_left h))]
  rintro e w' ⟨A', c', he, ho, hb⟩
  exact ⟨A', c', he, (E.step hb).push ho.words ho.2.1 ho.2.2⟩
theorem Own_env (E : Env w0 w S) (ha : (A, c, xs) ∈ S) (hl : xs.length ≤ 80) :
    Calls Tryd.prog 13 #[.slice A xs.length c] w fun e w' =>
      ∃ A' c', e = .returned (.slice A' xs.length c') ∧ Env w0 w' ((A', c', xs) :: S) := by
  obtain ⟨a1, a2, a3⟩ := E.2.2 _ ha
  refine (Own_any A xs c w a1 a2 hl).mono ?_
  rintro e w' ⟨A', c', he, ho, hb⟩
  exact ⟨A', c', he, (E.step hb).push ho.words ho.2.1 ho.2.2⟩
theorem refList_env (E : Env w0 w S) (ha : (A, c, xs) ∈ S) (hl : xs.length ≤ 80) {n : Nat} (hn : n = (els xs).length) :
    Calls Tryd.prog 14 #[.slice A xs.length c] w fun e w' =>
      ∃ A' c', e = .returned (.slice A' n c') ∧ Vals w' A' n (fun j => .int .i64 (nd (elsI xs) j)) ∧ n ≤ c' ∧ Below w.heap.size w w' ∧ Env w0 w' S := by
  obtain ⟨a1, a2, a3⟩ := E.2.2 _ ha
  refine (refList_n A xs c n w a1 a2 hl hn).mono ?_
  rintro e w' ⟨A', c', he, h1, h2, hb⟩
  exact ⟨A', c', he, h1, h2, hb, E.step hb⟩
end
end Go.Proofs.YtnjagdocgmbmiaaDoor
