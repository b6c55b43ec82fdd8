/- The law's pick and begin. -/
import Derived.Test.YtbhfmeohaoojfaaVF
import Derived.Outline
namespace Go.Proofs.Ytbhfmeohaoojfaa.Dn
open Go Go.RowKit Go.Proofs.Ytbhfmeohaoojfaa.Ap
open Go.Proofs.Ytbhfmeohaoojfaa.Dg
set_option linter.unusedVariables false
set_option maxRecDepth 100000
theorem own_cell {w : World} {B e n : Nat} {v : Value} {xs : List Value} (h : w.ownsRow B e 1 v n xs) (hn : 0 < n) : ∃ g c, v = .slice (some ⟨g, 0, none⟩) n c := by
  obtain ⟨g, c, e, _⟩ := own_somev h hn
  exact ⟨g, c, e⟩
section
variable {X : World} {lo qb sb mb v cap c : Nat} {A : Option Addr} {Q : List (Option Addr × Nat × List Int)} {rv : Value} {rs : List Nat} {tv : Value} {T : List (Option Addr × Nat × List Int)}
set_option maxHeartbeats 2000000 in
theorem pick_none (k : Int) (h : LawM X lo qb sb mb v cap A c Q rv rs tv T) (hr : rs.length = 0) :
    Calls Try.prog 28 #[.pointer (some ⟨qb, 0, none⟩), .int .i64 k] X fun e w' => e = .returned (.tuple #[.int .i64 0, .slice none 0 0, .bool false]) ∧ X = w' := by
  obtain ⟨_, _, h2, _⟩ := h.cells
  obtain ⟨A1, c1, e1, _⟩ := own_form h.rr
  rw [e1, hr] at h2
  clear h e1
  go_enter Try.func28, Try.ntmps28
  go_wp2
  go_ret3
  exact ⟨rfl, rfl⟩
theorem rem_in (k : Int) {n : Nat} (hn : 0 < n) : ∃ i : Nat, ((k.tmod n) + n).tmod n = (i : Int) ∧ i < n := by
  have h1 := Int.lt_tmod_of_pos k (b := (n : Int)) (by omega)
  have h2 : 0 ≤ k.tmod n + n := by omega
  have h3 := Int.tmod_nonneg (n : Int) h2
  have h4 := Int.tmod_lt_of_pos (k.tmod n + n) (b := (n : Int)) (by omega)
  exact ⟨((k.tmod n + n).tmod n).toNat, by omega, by omega⟩
set_option maxHeartbeats 2000000 in
theorem pick_some (k : Int) (h : LawM X lo qb sb mb v cap A c Q rv rs tv T) (hk : IntOk k) (hr : 0 < rs.length) (hl : rs.length = T.length) (hs : rs.length ≤ 1000) :
    Calls Try.prog 28 #[.pointer (some ⟨qb, 0, none⟩), .int .i64 k] X fun e w' => ∃ i q, i < rs.length ∧ T[i]? = some q ∧ e = .returned (.tuple #[.int .i64 (rs.getD i 0 : Nat), .slice q.1 q.2.2.length q.2.1, .bool true]) ∧ Below X.heap.size X w' := by
  obtain ⟨_, _, h2, h3⟩ := h.cells
  obtain ⟨g1, c1, e1⟩ := own_cell h.rr hr
  obtain ⟨g2, c2, e2⟩ := own_cell h.tr (by omega : 0 < T.length)
  obtain ⟨i, hi, hin⟩ := rem_in k hr
  have hv1 := Vals.of_own (f := fun j => .int .i64 ((rs.getD j 0 : Nat) : Int)) (e1 ▸ h.rr) fun j hj => by
    rw [List.getElem?_map, List.getD_eq_getElem?_getD, List.getElem?_eq_getElem hj]; rfl
  have hv2 := RowQ.of_own (e2 ▸ h.tr) fun q hq => (h.ttab q hq).1
  obtain ⟨ad1, ea1, _, hc1⟩ := hv1 i hin
  obtain ⟨ad2, ea2, _, hc2⟩ := hv2.row i (by omega)
  cases ea1
  cases ea2
  have hT : T[i]? = some T[i] := List.getElem?_eq_getElem (by omega)
  rw [slf_at (by omega)] at hc2
  generalize T[i] = q at *
  rw [e1] at h2
  rw [e2, ← hl] at h3
  rw [addr_add] at hc1 hc2
  have hcc : X.cell? ⟨g1, i, none⟩ = some (.int .i64 ((rs.getD i 0 : Nat) : Int)) := hc1
  clear hc1
  refine Calls.mono (R := fun e w' => e = .returned (.tuple #[.int .i64 (rs.getD i 0 : Nat), .slice q.1 q.2.2.length q.2.1, .bool true]) ∧ Below X.heap.size X w') ?_ fun e w' ⟨he, hb⟩ => ⟨i, q, hin, hT, he, hb⟩
  obtain ⟨r, hrr⟩ : ∃ r, r = rs.getD i 0 := ⟨_, rfl⟩
  rw [← hrr] at hcc ⊢
  clear hrr
  generalize rs.length = n at *
  clear hl
  have hb1 := Int.lt_tmod_of_pos k (b := (n : Int)) (by omega)
  have hb2 := Int.tmod_lt_of_pos k (b := (n : Int)) (by omega)
  have hi2 : (wrap64 (k.tmod n + n)).tmod n = i := by
    rw [IntWalk.wrap64_in _ ⟨by omega, by omega⟩]; exact hi
  clear hi hb1 hb2
  have hni : ((n : Int) == 0) = false := by rw [beq_eq_false_iff_ne]; omega
  have hn0 : ¬ (n : Int) = 0 := by omega
  have hin' : (i : Int) < (n : Int) := by omega
  have hlt := h.lt.1
  clear h hv1 hv2 e1 e2 hT
  go_enter Try.func28, Try.ntmps28
  go_wp2
  go_big_quiet (fail)
  clear hi2
  go_wp2
  go_big_quiet (fail)
  go_wp2
  go_ret3
  exact ⟨rfl, bdN (bdN (Below.refl _ _) _) _⟩
end
set_option maxHeartbeats 2000000 in
theorem begin_no (v cap : Int) (w : World) (h : newE v cap ≠ 0) :
    Calls Try.prog 11 #[.int .i64 v, .int .i64 cap] w fun e w' => ∃ b, e = .returned (.tuple #[.pointer (some b), .bool false, .bool true]) ∧ Below w.heap.size w w' := by
  have HP := Lib.hid fun X => New_no v cap X h
  have HR := Lib.hid fun X => refNew_no v cap X h
  have h0 : (newE v cap == 0) = false := by rw [beq_eq_false_iff_ne]; exact h
  have h1 : (newE v cap != 0) = true := by rw [bne_iff_ne]; exact h
  have h2 : ¬ newE v cap = 0 := h
  clear h
  generalize newE v cap = E at *
  go_enter Try.func11, Try.ntmps11
  go_wp2_with (first
    | (go_at_call 30; ((with_reducible refine (HP.out _).mono ?_); rintro e w1 ⟨rfl, hb1⟩))
    | (go_at_call 35; ((with_reducible refine (HR.out _).mono ?_); rintro e w2 ⟨rfl, hb2⟩)))
  go_ret3
  exact ⟨_, rfl, bal (stepB hb1 hb2) _⟩
set_option maxHeartbeats 2000000 in
theorem begin_yes (v cap : Nat) (w : World) (hv : v ≤ 6) (hc1 : 1 ≤ cap) (hc2 : cap ≤ 4096) :
    Calls Try.prog 11 #[.int .i64 v, .int .i64 cap] w fun e w' => ∃ qb sb cb rb tb mb, e = .returned (.tuple #[.pointer (some ⟨qb, 0, none⟩), .bool true, .bool true]) ∧ Run w w' qb sb cb rb tb mb v cap (.slice none 0 0) [] [] none 0 [] (.slice none 0 0) [] (.slice none 0 0) [] := by
  have HP := Lib.hid fun X => New_yes v cap X hv hc1 hc2
  have HR := Lib.hid fun X => refNew_yes v cap X hv hc1 hc2
  go_enter Try.func11, Try.ntmps11
  go_wp2_with (first
    | (go_at_call 30; ((with_reducible refine (HP.out _).mono ?_); rintro e w1 ⟨sb, cb, rb, tb, rfl, hi, h1, h2, h3, h4, hb1⟩))
    | (go_at_call 35; ((with_reducible refine (HR.out _).mono ?_); rintro e w2 ⟨rfl, hm, hb2⟩)))
  go_ret3
  have hb3 := bal (Below.refl w2.heap.size w2) (.cells #[.pointer (some ⟨sb, 0, none⟩), .pointer (some ⟨w1.heap.size, 0, none⟩), .slice none 0 0, .slice none 0 0] 41)
  have hsz1 := hb1.size
  have hsz := (stepB hb1 hb2).size
  refine ⟨w2.heap.size, sb, cb, rb, tb, w1.heap.size, rfl, ⟨⟨(hi.below hb2).below hb3, h1, h2, h3, h4, (fun k hk => by cases hk), stepB (stepB hb1 hb2) hb3⟩, ⟨(MapKept.heap_alloc w2 _).1, hm.below hb3, (fun j hj => by simp at hj), (fun ad e => by cases e), (fun q hq => by cases hq), ⟨rfl, .inl ⟨rfl, rfl⟩⟩, ⟨rfl, .inl ⟨rfl, rfl⟩⟩, (fun q hq => by cases hq), (fun ad e => by cases e), hsz, hsz1⟩, Tie.nil v hv, rfl, (fun i hi => by simp at hi), (fun r hr => by cases hr), Nat.le_refl _⟩⟩
end Go.Proofs.Ytbhfmeohaoojfaa.Dn
