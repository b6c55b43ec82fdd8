/- Contracts over a stock of sets that are readable in the world at hand. -/
import Derived.Test.YtnjagdocgmbmiaaDoorQ
import Derived.Test.YtnjagdocgmbmiaaDoorL
namespace Go.Proofs.YtnjagdocgmbmiaaDoor
open Go Go.RowKit
set_option maxRecDepth 100000
/-- The sets of S are readable in w, and nothing that lay in w0 has turned. -/
def Env (w0 w : World) (S : List (Option Addr × Nat × List Nat)) : Prop :=
  Below w0.heap.size w0 w ∧ Tab w ∧ ∀ q ∈ S, Words w q.1 q.2.2 ∧ U64 q.2.2 ∧ q.2.2.length ≤ q.2.1
namespace Env
variable {w0 w w' : World} {S : List (Option Addr × Nat × List Nat)}
theorem step (E : Env w0 w S) (h : Below w.heap.size w w') : Env w0 w' S :=
  ⟨stepB E.1 h, E.2.1.below h, fun q hq => ⟨(E.2.2 q hq).1.below h, (E.2.2 q hq).2⟩⟩
theorem push (E : Env w0 w S) {A : Option Addr} {c : Nat} {xs : List Nat} (h1 : Words w A xs) (h2 : U64 xs) (h3 : xs.length ≤ c) : Env w0 w ((A, c, xs) :: S) :=
  ⟨E.1, E.2.1, fun q hq => by
    rcases List.mem_cons.1 hq with rfl | h
    · exact ⟨h1, h2, h3⟩
    · exact E.2.2 q h⟩
theorem alloc (E : Env w0 w S) (o : Obj) : Env w0 (w.alloc o) S := E.step (alloc_below w o)
end Env
section
variable {w0 w : World} {S : List (Option Addr × Nat × List Nat)} {A B : Option Addr} {c d : Nat} {xs ys : List Nat}
theorem Union_env (E : Env w0 w S) (ha : (A, c, xs) ∈ S) (hb : (B, d, ys) ∈ S) :
    Calls Tryd.prog 30 #[.slice A xs.length c, .slice B ys.length d] w fun e w' =>
      ∃ A' c', e = .returned (.slice A' (canon (zipW (· ||| ·) xs ys)).length c') ∧ Env w0 w' ((A', c', canon (zipW (· ||| ·) xs ys)) :: S) := by
  obtain ⟨a1, a2, a3⟩ := E.2.2 _ ha
  obtain ⟨b1, b2, b3⟩ := E.2.2 _ hb
  refine (Union_any A B xs ys c d w a1 a2 a3 b1 b2 b3).mono ?_
  rintro e w' ⟨A', c', he, ho, hb⟩
  exact ⟨A', c', he, (E.step hb).push ho.words ho.2.1 ho.2.2⟩
theorem Intersect_env (E : Env w0 w S) (ha : (A, c, xs) ∈ S) (hb : (B, d, ys) ∈ S) :
    Calls Tryd.prog 31 #[.slice A xs.length c, .slice B ys.length d] w fun e w' =>
      ∃ A' c', e = .returned (.slice A' (canon (zipW (· &&& ·) xs ys)).length c') ∧ Env w0 w' ((A', c', canon (zipW (· &&& ·) xs ys)) :: S) := by
  obtain ⟨a1, a2, a3⟩ := E.2.2 _ ha
  obtain ⟨b1, b2, b3⟩ := E.2.2 _ hb
  refine (Intersect_any A B xs ys c d w a1 a2 a3 b1 b2 b3).mono ?_
  rintro e w' ⟨A', c', he, ho, hb⟩
  exact ⟨A', c', he, (E.step hb).push ho.words ho.2.1 ho.2.2⟩
theorem Minus_env (E : Env w0 w S) (ha : (A, c, xs) ∈ S) (hb : (B, d, ys) ∈ S) :
    Calls Tryd.prog 32 #[.slice A xs.length c, .slice B ys.length d] w fun e w' =>
      ∃ A' c', e = .returned (.slice A' (canon (zipW andNot xs ys)).length c') ∧ Env w0 w' ((A', c', canon (zipW andNot xs ys)) :: S) := by
  obtain ⟨a1, a2, a3⟩ := E.2.2 _ ha
  obtain ⟨b1, b2, b3⟩ := E.2.2 _ hb
  refine (Minus_any A B xs ys c d w a1 a2 a3 b1 b2 b3).mono ?_
  rintro e w' ⟨A', c', he, ho, hb⟩
  exact ⟨A', c', he, (E.step hb).push ho.words ho.2.1 ho.2.2⟩
theorem Canonical_env (E : Env w0 w S) (ha : (A, c, xs) ∈ S) :
    Calls Tryd.prog 16 #[.slice A xs.length c] w fun e w' =>
      ∃ A' c', e = .returned (.slice A' (canon xs).length c') ∧ Env w0 w' ((A', c', canon xs) :: S) := by
  obtain ⟨a1, a2, a3⟩ := E.2.2 _ ha
  refine (Canonical_any A xs c w a1 a2 a3).mono ?_
  rw [canon_or_nil]
  rintro e w' ⟨A', c', he, ho, hb⟩
  exact ⟨A', c', he, (E.step hb).push ho.words ho.2.1 ho.2.2⟩
theorem Equal_env (E : Env w0 w S) (ha : (A, c, xs) ∈ S) (hb : (B, d, ys) ∈ S) {b : Bool} (h : eqB xs ys = b) :
    Calls Tryd.prog 35 #[.slice A xs.length c, .slice B ys.length d] w fun e w' => e = .returned (.bool b) ∧ w = w' := by
  obtain ⟨a1, a2, a3⟩ := E.2.2 _ ha
  obtain ⟨b1, b2, b3⟩ := E.2.2 _ hb
  subst h
  exact Equal_any A B xs ys c d w a1 a2 a3 b1 b2 b3
theorem Subset_env (E : Env w0 w S) (ha : (A, c, xs) ∈ S) (hb : (B, d, ys) ∈ S) {b : Bool} (h : subB xs ys = b) :
    Calls Tryd.prog 34 #[.slice A xs.length c, .slice B ys.length d] w fun e w' => e = .returned (.bool b) ∧ w = w' := by
  obtain ⟨a1, a2, a3⟩ := E.2.2 _ ha
  obtain ⟨b1, b2, b3⟩ := E.2.2 _ hb
  subst h
  exact Subset_any A B xs ys c d w a1 a2 a3 b1 b2 b3
theorem Intersects_env (E : Env w0 w S) (ha : (A, c, xs) ∈ S) (hb : (B, d, ys) ∈ S) {b : Bool} (h : meetB xs ys = b) :
    Calls Tryd.prog 36 #[.slice A xs.length c, .slice B ys.length d] w fun e w' => e = .returned (.bool b) ∧ w = w' := by
  obtain ⟨a1, a2, a3⟩ := E.2.2 _ ha
  obtain ⟨b1, b2, b3⟩ := E.2.2 _ hb
  subst h
  exact Intersects_any A B xs ys c d w a1 a2 a3 b1 b2 b3
theorem Same_env (E : Env w0 w S) (ha : (A, c, xs) ∈ S) (hb : (B, d, ys) ∈ S) (h : xs = ys) (hl : xs.length ≤ maxLen) :
    Calls Tryd.prog 22 #[.slice A xs.length c, .slice B ys.length d] w fun e w' => e = .returned (.bool true) ∧ Env w0 w' S := by
  obtain ⟨a1, a2, a3⟩ := E.2.2 _ ha
  obtain ⟨b1, b2, b3⟩ := E.2.2 _ hb
  refine (Same_any A B xs ys c d w a1 b1 hl).mono ?_
  rw [decide_eq_true h]
  rintro e w' ⟨he, n, rfl⟩
  exact ⟨he, E.step (drewN_below w n)⟩
theorem Len_env (E : Env w0 w S) (ha : (A, c, xs) ∈ S) :
    Calls Tryd.prog 20 #[.slice A xs.length c] w fun e w' => e = .returned (.int .i64 ((els xs).length : Nat)) ∧ w = w' := by
  obtain ⟨a1, a2, a3⟩ := E.2.2 _ ha
  exact Len_any A xs c w a1 a2 a3
theorem Min_env (E : Env w0 w S) (ha : (A, c, xs) ∈ S) :
    Calls Tryd.prog 21 #[.slice A xs.length c] w fun e w' => e = .returned (.tuple #[.int .i64 ((minOf (els xs)).1 : Nat), .bool (minOf (els xs)).2]) ∧ Env w0 w' S := by
  obtain ⟨a1, a2, a3⟩ := E.2.2 _ ha
  exact (Min_any A xs c w a1 a2 a3 E.2.1).mono fun _ _ ⟨he, hb⟩ => ⟨he, E.step hb⟩
theorem Compare_env (E : Env w0 w S) (ha : (A, c, xs) ∈ S) (hb : (B, d, ys) ∈ S) :
    Calls Tryd.prog 37 #[.slice A xs.length c, .slice B ys.length d] w fun e w' => e = .returned (.int .i64 (cmpS xs ys)) ∧ Env w0 w' S := by
  obtain ⟨a1, a2, a3⟩ := E.2.2 _ ha
  obtain ⟨b1, b2, b3⟩ := E.2.2 _ hb
  exact (Compare_any A B xs ys c d w a1 a2 a3 b1 b2 b3 E.2.1).mono fun _ _ ⟨he, hb⟩ => ⟨he, E.step hb⟩
theorem awake_env (E : Env w0 w S) :
    Calls Tryd.prog 12 #[] w fun e w' => e = .returned (.bool true) ∧ Env w0 w' S :=
  (awake_any w E.2.1).mono fun _ _ ⟨he, hb⟩ => ⟨he, E.step hb⟩
/-- The slices that are handed to Long. -/
def slices (L : List (Option Addr × Nat × Nat)) : Array Value := (L.map fun q => Value.slice q.1 q.2.1 q.2.2).toArray
theorem Long_env (E : Env w0 w S) (L : List (Option Addr × Nat × Nat)) (t : TypeId) (m : Nat) (hn : L.length ≤ 1000) (hl : ∀ q ∈ L, q.2.1 ≤ maxLen) {b : Bool} (h : (!L.all fun q => decide (q.2.1 ≤ 80)) = b) :
    Calls Tryd.prog 11 #[.slice (some ⟨w.heap.size, 0, none⟩) L.length m] (w.alloc (.cells (slices L) t)) fun e w' => e = .returned (.bool b) ∧ Env w0 w' S := by
  have hs : Sets (w.alloc (.cells (slices L) t)) (some ⟨w.heap.size, 0, none⟩) L.length (fun j => (L.getD j default).1) (fun j => (L.getD j default).2.1) (fun j => (L.getD j default).2.2) := by
    intro j hj
    refine ⟨_, rfl, by simp, ?_⟩
    rw [addr_add, World.cell?_alloc_at _ _ _ _ rfl]
    simp [slices, hj]
  refine (Long_any _ L.length m _ _ _ _ hs hn ?_).mono ?_
  · intro j hj
    refine hl _ ?_
    rw [List.getD_eq_getElem?_getD, List.getElem?_eq_getElem hj]
    exact List.getElem_mem hj
  · rintro e w' ⟨rfl, rfl⟩
    refine ⟨?_, E.alloc _⟩
    rw [← h]
    refine ret_bool (congrArg _ ?_)
    rw [Bool.eq_iff_iff, allB_iff, List.all_eq_true]
    constructor
    · intro h1 q hq
      obtain ⟨j, hj, rfl⟩ := List.getElem_of_mem hq
      have := h1 j hj
      simpa [hj] using this
    · intro h1 j hj
      have := h1 _ (List.getElem_mem hj)
      simpa [hj] using this
end
end Go.Proofs.YtnjagdocgmbmiaaDoor
