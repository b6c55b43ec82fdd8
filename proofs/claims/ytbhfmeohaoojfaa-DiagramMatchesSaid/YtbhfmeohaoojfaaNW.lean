/- The reference's store: New, Nodes, Size, Add. -/
import Derived.Test.YtbhfmeohaoojfaaNV
import Derived.Test.YtbhfmeohaoojfaaNR
import Derived.Deep.RegionHeld3
namespace Go.Proofs.Ytbhfmeohaoojfaa.Dn
open Go Go.RowKit Go.Proofs.Ytbhfmeohaoojfaa.Ap
open Go.Proofs.Ytbhfmeohaoojfaa.Dg
set_option linter.unusedVariables false
set_option maxRecDepth 100000
/-- The reference's store lies in block q. -/
def RefSt (X : World) (q v cap : Nat) (A : Option Addr) (n c : Nat) : Prop := X.heap[q]? = some (.cells #[.int .i64 v, .int .i64 cap, .slice A n c] 77 (0, 0))
theorem RefSt.lt {X : World} {q v cap n c : Nat} {A : Option Addr} (h : RefSt X q v cap A n c) : q < X.heap.size := lt_of_block h
theorem RefSt.c0 {X : World} {q v cap n c : Nat} {A : Option Addr} (h : RefSt X q v cap A n c) : X.cell? ⟨q, 0, none⟩ = some (.int .i64 v) := by unfold RefSt at h; simp [World.cell?, h]
theorem RefSt.c1 {X : World} {q v cap n c : Nat} {A : Option Addr} (h : RefSt X q v cap A n c) : X.cell? ⟨q, 1, none⟩ = some (.int .i64 cap) := by unfold RefSt at h; simp [World.cell?, h]
theorem RefSt.c2 {X : World} {q v cap n c : Nat} {A : Option Addr} (h : RefSt X q v cap A n c) : X.cell? ⟨q, 2, none⟩ = some (.slice A n c) := by unfold RefSt at h; simp [World.cell?, h]
theorem RefSt.below {X Y : World} {q v cap n c : Nat} {A : Option Addr} (h : RefSt X q v cap A n c) (hb : Below X.heap.size X Y) : RefSt Y q v cap A n c := (hb.block _ h.lt).trans h
theorem kitVars_any (v : Int) (w : World) :
    Calls Try.prog 62 #[.int .i64 v] w fun e w' => e = .returned (.bool (decide (0 ≤ v ∧ v ≤ 6))) ∧ w = w' := by
  by_cases h1 : 0 ≤ v
  · by_cases h2 : v ≤ 6
    · have d1 : decide (0 ≤ v) = true := decide_eq_true h1
      have d2 : decide (v ≤ 6) = true := decide_eq_true h2
      rw [decide_eq_true ⟨h1, h2⟩]
      go_enter Try.func62, Try.ntmps62
      go_wp2
      go_ret
      exact ⟨rfl, rfl⟩
    · have d1 : decide (0 ≤ v) = true := decide_eq_true h1
      have d2 : decide (v ≤ 6) = false := decide_eq_false h2
      rw [decide_eq_false (p := 0 ≤ v ∧ v ≤ 6) (fun h => h2 h.2)]
      go_enter Try.func62, Try.ntmps62
      go_wp2
      go_ret
      exact ⟨rfl, rfl⟩
  · have d1 : decide (0 ≤ v) = false := decide_eq_false h1
    rw [decide_eq_false (p := 0 ≤ v ∧ v ≤ 6) (fun h => h1 h.1)]
    go_enter Try.func62, Try.ntmps62
    go_wp2
    go_ret
    exact ⟨rfl, rfl⟩
set_option maxHeartbeats 2000000 in
theorem refNew_no (v cap : Int) (w : World) (h : newE v cap ≠ 0) :
    Calls Try.prog 35 #[.int .i64 v, .int .i64 cap] w fun e w' => e = .returned (.tuple #[.pointer none, .int .i64 (newE v cap)]) ∧ Below w.heap.size w w' := by
  have HV := Lib.hid fun X => kitVars_any v X
  unfold newE at h ⊢
  by_cases h1 : v < 0 ∨ 6 < v
  · rw [if_pos h1]
    rw [decide_eq_false (by omega)] at HV
    clear h h1
    go_enter Try.func35, Try.ntmps35
    go_wp2_with (go_at_call 62; ((with_reducible refine (HV.out _).mono ?_); rintro e w2 ⟨rfl, rfl⟩))
    go_ret2
    exact ⟨rfl, Below.refl _ _⟩
  · rw [if_neg h1] at h ⊢
    rw [decide_eq_true (by omega)] at HV
    by_cases h3 : cap < 1
    · rw [if_pos (.inl h3)]
      clear h h1
      go_enter Try.func35, Try.ntmps35
      go_wp2_with (go_at_call 62; ((with_reducible refine (HV.out _).mono ?_); rintro e w2 ⟨rfl, rfl⟩))
      go_ret2
      exact ⟨rfl, Below.refl _ _⟩
    · have d3 : decide (cap < 1) = false := decide_eq_false h3
      by_cases h4 : 4096 < cap
      · rw [if_pos (.inr h4)]
        clear h h1
        go_enter Try.func35, Try.ntmps35
        go_wp2_with (go_at_call 62; ((with_reducible refine (HV.out _).mono ?_); rintro e w2 ⟨rfl, rfl⟩))
        go_ret2
        exact ⟨rfl, Below.refl _ _⟩
      · rw [if_neg (by omega)] at h
        exact absurd rfl h
set_option maxHeartbeats 2000000 in
theorem refNew_yes (v cap : Nat) (w : World) (hv : v ≤ 6) (hc1 : 1 ≤ cap) (hc2 : cap ≤ 4096) :
    Calls Try.prog 35 #[.int .i64 v, .int .i64 cap] w fun e w' => e = .returned (.tuple #[.pointer (some ⟨w.heap.size, 0, none⟩), .int .i64 0]) ∧ RefSt w' w.heap.size v cap none 0 0 ∧ Below w.heap.size w w' := by
  have HV := Lib.hid fun X => kitVars_any v X
  rw [decide_eq_true (by omega)] at HV
  have d3 : decide ((cap : Int) < 1) = false := decide_eq_false (by omega)
  have d4 : decide ((4096 : Int) < (cap : Int)) = false := decide_eq_false (by omega)
  go_enter Try.func35, Try.ntmps35
  go_wp2_with (go_at_call 62; ((with_reducible refine (HV.out _).mono ?_); rintro e w2 ⟨rfl, rfl⟩))
  go_ret2
  exact ⟨rfl, (MapKept.heap_alloc w _).1, bal (Below.refl _ _) _⟩
/-- The number of the nodes, as a contract that any later world may use. -/
theorem nodes_len (A : Option Addr) (L : List (List Int)) (c v : Nat) (w : World) (hx : Tabs w A L) (hv : v ≤ 6) (hL : AllLen (2 ^ v) L) (hl : L.length ≤ 5000) (X : World) (hX : Below w.heap.size w X) :
    Calls Try.prog 45 #[.slice A L.length c, .int .i64 v] X fun e w' => ∃ A' c', e = .returned (.slice A' (nodesL L v).length c') ∧ Below X.heap.size X w' :=
  (nodes_any A L c v X (hx.below hX) hv hL hl).mono fun e w' ⟨u, he, ho, hb⟩ => by
    obtain ⟨A', c', rfl, _⟩ := ho.row
    exact ⟨A', c', he, hb⟩
set_option maxHeartbeats 2000000 in
theorem refNodes_any (q v cap c : Nat) (A : Option Addr) (L : List (List Int)) (w : World) (hs : RefSt w q v cap A L.length c) (hx : Tabs w A L) (hv : v ≤ 6) (hL : AllLen (2 ^ v) L) (hl : L.length ≤ 5000) :
    Calls Try.prog 14 #[.pointer (some ⟨q, 0, none⟩)] w fun e w' => e = .returned (.int .i64 (nodesL L v).length) ∧ Below w.heap.size w w' := by
  have HN := Lib.hid fun X (hX : Below w.heap.size w X) => nodes_len A L c v w hx hv hL hl X hX
  have h0 := hs.c0
  have h2 := hs.c2
  have hql := hs.lt
  generalize L.length = n at *
  generalize (nodesL L v).length = m at *
  clear hx hL hs hl
  go_enter Try.func14, Try.ntmps14
  go_wp2_with fail
  go_region_held3 (fun w' => w'.cell? ⟨q, 0, none⟩ = some (.int .i64 v) ∧ w'.cell? ⟨q, 2, none⟩ = some (.slice A n c) ∧ Below w.heap.size w w')
    (first | exact ⟨h0, h2, (Below.refl _ _).drew⟩ | assumption)
    (first
      | (go_at_call 45; ((with_reducible refine (HN.out w.drew (Below.refl _ _).drew).mono ?_); rintro e w3 ⟨A3, c3, rfl, hb3⟩; have hS3 : w3.cell? ⟨q, 0, none⟩ = some (.int .i64 v) ∧ w3.cell? ⟨q, 2, none⟩ = some (.slice A n c) ∧ Below w.heap.size w w3 := ⟨(Below.cell hb3 hql).trans h0, (Below.cell hb3 hql).trans h2, Below.trans ((Below.refl _ _).drew) hb3⟩)))
  obtain ⟨_, _, hb⟩ := hS3
  go_wp2
  go_ret
  exact ⟨rfl, hb⟩
set_option maxHeartbeats 2000000 in
theorem refSize_any (q v cap c n' d : Nat) (A B : Option Addr) (t : List Int) (w : World) (hs : RefSt w q v cap A n' c) (hx : Ints w B t) (hB : ∀ ad, B = some ad → ad.block < w.heap.size) (hv : v ≤ 6) (ht : t.length = 2 ^ v) :
    Calls Try.prog 21 #[.pointer (some ⟨q, 0, none⟩), .slice B t.length d] w fun e w' => e = .returned (.int .i64 (nodesL [t] v).length) ∧ Below w.heap.size w w' := by
  have hT : Tabs (w.alloc (.cells #[.slice B t.length d] 29)) (some ⟨w.heap.size, 0, none⟩) [t] := fun j hj => by
    have : j = 0 := by simp at hj; omega
    subst this
    refine ⟨_, B, d, rfl, by simp, ?_, Vals.below hx (bal (Below.refl _ _) _)⟩
    rw [addr_add]
    exact cell_of_one (MapKept.heap_alloc w _).1
  have hN := fun X hX => nodes_len (some ⟨w.heap.size, 0, none⟩) [t] 1 v _ hT hv (fun u hu => by rw [List.mem_singleton] at hu; rw [hu]; exact ht) (by simp) X hX
  simp only [List.length_singleton] at hN
  have HN := Lib.hid hN
  clear hN
  have h0 : (w.alloc (.cells #[.slice B t.length d] 29)).cell? ⟨q, 0, none⟩ = some (.int .i64 v) := (Below.cell (bal (Below.refl w.heap.size w) _) hs.lt).trans hs.c0
  generalize (nodesL [t] v).length = m at *
  clear hT hx ht
  go_enter Try.func21, Try.ntmps21
  go_wp2_with (go_at_call 45; ((with_reducible refine (HN.out _ (Below.refl _ _)).mono ?_); rintro e w3 ⟨A3, c3, rfl, hb3⟩))
  go_ret
  exact ⟨rfl, stepB (bal (Below.refl _ _) _) hb3⟩
end Go.Proofs.Ytbhfmeohaoojfaa.Dn
