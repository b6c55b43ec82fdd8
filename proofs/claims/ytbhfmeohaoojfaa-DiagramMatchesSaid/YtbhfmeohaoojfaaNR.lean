/- Size; New. -/
import Derived.Test.YtbhfmeohaoojfaaNQ
import Derived.Outline
namespace Go.Proofs.Ytbhfmeohaoojfaa.Dn
open Go Go.RowKit Go.Proofs.Ytbhfmeohaoojfaa.Ap
open Go.Proofs.Ytbhfmeohaoojfaa.Dg (shl_i64 pow7 cell_one info_int ints_row nd_ext)
set_option linter.unusedVariables false
set_option maxRecDepth 100000
theorem vbox_new (X : World) (mb cb b2 : Nat) (h2 : X.heap[b2]? = some (.cells #[.pointer (some ⟨cb, 0, none⟩)] 84 (0, 0))) :
    VBox ((X.alloc (.cells #[.map (some mb)] 89)).alloc (.cells #[.func (.func 69) #[] #[.pointer (some ⟨X.heap.size, 0, none⟩), .pointer (some ⟨b2, 0, none⟩), .pointer (some ⟨X.heap.size + 1, 0, none⟩)]] 116)) X.heap.size b2 (X.heap.size + 1) cb mb := by
  have k1 : ∀ (X : World) (o : Obj) (k : Nat) (p : Obj), X.heap[k]? = some p → (X.alloc o).heap[k]? = some p := fun X o k p hp => (Below.heap_alloc X o k (lt_of_block hp)).trans hp
  have k2 : ∀ (X : World) (o : Obj) (k : Nat), k = X.heap.size → (X.alloc o).heap[k]? = some o := fun X o k e => by subst e; exact (MapKept.heap_alloc X o).1
  exact ⟨k1 _ _ _ _ (k2 _ _ _ rfl), k1 _ _ _ _ (k1 _ _ _ _ h2), k2 _ _ _ (by simp)⟩
theorem size_world (w : World) (cb : Nat) : ∀ X, X = (((w.alloc (.cells #[.pointer (some ⟨cb, 0, none⟩)] 84)).alloc (.map #[] 0)).alloc (.cells #[.map (some (w.heap.size + 1))] 89)).alloc (.cells #[.func (.func 69) #[] #[.pointer (some ⟨w.heap.size + 1 + 1, 0, none⟩), .pointer (some ⟨w.heap.size, 0, none⟩), .pointer (some ⟨w.heap.size + 1 + 1 + 1, 0, none⟩)]] 116) →
    Below w.heap.size w X ∧ RetM X (w.heap.size + 1) [] ∧ VBox X (w.heap.size + 1 + 1) w.heap.size (w.heap.size + 1 + 1 + 1) cb (w.heap.size + 1) := by
  intro X hX
  have k1 : ∀ (X : World) (o : Obj) (k : Nat) (p : Obj), X.heap[k]? = some p → (X.alloc o).heap[k]? = some p := fun X o k p hp => (Below.heap_alloc X o k (lt_of_block hp)).trans hp
  have r1 : RetM ((w.alloc (.cells #[.pointer (some ⟨cb, 0, none⟩)] 84)).alloc (.map #[] 0)) (w.heap.size + 1) [] := by
    have := RetM.made (w.alloc (.cells #[.pointer (some ⟨cb, 0, none⟩)] 84))
    rw [World.size_alloc] at this
    exact this
  have e2 : ((w.alloc (.cells #[.pointer (some ⟨cb, 0, none⟩)] 84)).alloc (.map #[] 0)).heap.size = w.heap.size + 1 + 1 := by simp
  have v1 := vbox_new ((w.alloc (.cells #[.pointer (some ⟨cb, 0, none⟩)] 84)).alloc (.map #[] 0)) (w.heap.size + 1) cb w.heap.size (k1 _ _ _ _ (MapKept.heap_alloc w _).1)
  rw [e2] at v1
  subst hX
  refine ⟨bal (bal (bal (bal (Below.refl _ _) _) _) _) _, ?_, v1⟩
  obtain ⟨_, _, ho⟩ := r1.obj
  exact r1.block ((k1 _ _ _ _ (k1 _ _ _ _ ho)).trans ho.symm)
theorem wpList_len_run {P : Program} {ops : Array Oper} {Q : Exit → Act → World → Prop} {rest : List Oper} {o : Oper} {a : Act} {w : World} (hgd : o.guard = none) (m : Operand) (t : TypeId)
    (ho : o.op = .call { callee := .builtin .len, args := #[m], argTypes := #[t] }) (mv z : Value) (hm : a.eval m = mv)
    (hr : (Builtin.len_ #[t] o.type #[mv]).run P w = .ok z w) (h : wpList P ops Q rest (a.put o.dst z) w) : wpList P ops Q (o :: rest) a w := by
  refine wpList_plain hgd fun K hK => ?_
  unfold Oper.wp execOp
  simp only [ho, resolve, invoke, builtin, Sem.run_bind, Sem.run_pure, Result.andThen_ok, List.map_toArray, List.map_cons, List.map_nil, hm, hr]
  exact hK _ _ h
section
variable {sb cb rb tb v cap : Nat} {nv : Value} {N : List Nd} {R : List Nat}
set_option maxHeartbeats 4000000 in
theorem size_any (w : World) (h : Inv w sb cb rb tb v cap nv N R) (q : Nat) (hq : q ∈ R) :
    Calls Try.prog 48 #[.pointer (some ⟨cb, 0, none⟩), .int .i64 q] w fun e w' => e = .returned (.int .i64 ((vis v N v [] q).length : Nat)) ∧ Below w.heap.size w w' := by
  have hin := h.ref q hq
  have HV := Lib.hid fun b5 b2 b6 mb (hmb : w.heap.size ≤ mb) X hX hR hB => visit_any w h b5 b2 b6 mb hmb v q [] X hin (by omega) ⟨List.nodup_nil, by simp⟩ hX hR hB
  have hmm := @run_makeMap Try.prog
  clear h hq
  go_enter Try.func48, Try.ntmps48
  go_wp2_with (first
    | (go_at_call 69; obtain ⟨x1, x2, x3⟩ := size_world w cb _ rfl; ((with_reducible refine (HV.out _ _ _ _ (Nat.le_succ _) _ x1 x2 x3).mono ?_); rintro e w5 ⟨rfl, hR5, hf5⟩); obtain ⟨p5, p2, p6⟩ := (x3.fr x2 hf5).cells; have hlen := hR5.len 0; have hb5 := fr_below x1 hf5 (Nat.le_succ _) x1.size)
    | (at_len; refine wpList_len_run rfl _ 89 rfl (.map (some (w.heap.size + 1))) _ rfl hlen ?_))
  go_ret
  exact ⟨rfl, hb5⟩
set_option maxHeartbeats 1000000 in
theorem Size_yes (w : World) (h : Inv w sb cb rb tb v cap nv N R) (q : Nat) (hq : q ∈ R) :
    Calls Try.prog 19 #[.pointer (some ⟨sb, 0, none⟩), .int .i64 q] w fun e w' => e = .returned (.tuple #[.int .i64 ((vis v N v [] q).length : Nat), .int .i64 0]) ∧ Below w.heap.size w w' := by
  have hin := h.ref q hq
  have hq4 : q ≤ 4096 := by have := hin.2; have := h.len; have := h.cap4; omega
  have HO := Lib.hid fun X hX b hc => open1 h (r := (q : Int)) ⟨by omega, by omega⟩ X hX b hc (inR_iff.2 ⟨q, hq, rfl⟩)
  have HS := Lib.hid fun X hX => size_any X (h.below hX) q hq
  generalize (vis v N v [] q).length = z at *
  clear h hin hq
  go_enter Try.func19, Try.ntmps19
  go_wp2_with (first
    | (go_at_call 44; ((with_reducible refine (HO.out _ (bal (Below.refl _ _) _) _ (cell_of_one (MapKept.heap_alloc w _).1)).mono ?_); rintro e w1 ⟨rfl, hb⟩); have hb1 := stepB (bal (Below.refl _ _) _) hb; clear hb)
    | (go_at_call 48; ((with_reducible refine (HS.out w1 hb1).mono ?_); rintro e w2 ⟨rfl, hb2⟩)))
  go_ret2
  exact ⟨rfl, stepB hb1 hb2⟩
end
/-- New: what is wrong with the numbers. -/
def newE (v cap : Int) : Int := if v < 0 ∨ 6 < v then 7 else if cap < 1 ∨ 4096 < cap then 1 else 0
set_option maxHeartbeats 2000000 in
theorem New_no (v cap : Int) (w : World) (h : newE v cap ≠ 0) :
    Calls Try.prog 30 #[.int .i64 v, .int .i64 cap] w fun e w' => e = .returned (.tuple #[.pointer none, .int .i64 (newE v cap)]) ∧ Below w.heap.size w w' := by
  unfold newE at h ⊢
  by_cases h1 : v < 0
  · rw [if_pos (.inl h1)]
    clear h
    go_enter Try.func30, Try.ntmps30
    go_wp2
    go_ret2
    exact ⟨rfl, Below.refl _ _⟩
  · have d1 : decide (v < 0) = false := decide_eq_false h1
    by_cases h2 : 6 < v
    · rw [if_pos (.inr h2)]
      clear h
      go_enter Try.func30, Try.ntmps30
      go_wp2
      go_ret2
      exact ⟨rfl, Below.refl _ _⟩
    · have d2 : decide (6 < v) = false := decide_eq_false h2
      have hv : ¬ (v < 0 ∨ 6 < v) := by omega
      rw [if_neg hv] at h ⊢
      by_cases h3 : cap < 1
      · rw [if_pos (.inl h3)]
        clear h hv
        go_enter Try.func30, Try.ntmps30
        go_wp2
        go_ret2
        exact ⟨rfl, Below.refl _ _⟩
      · have d3 : decide (cap < 1) = false := decide_eq_false h3
        by_cases h4 : 4096 < cap
        · rw [if_pos (.inr h4)]
          clear h hv
          go_enter Try.func30, Try.ntmps30
          go_wp2
          go_ret2
          exact ⟨rfl, Below.refl _ _⟩
        · rw [if_neg (by omega)] at h
          exact absurd rfl h
theorem new_inv (w : World) (v cap : Nat) (hv : v ≤ 6) (hc2 : cap ≤ 4096) :
    Inv ((((w.alloc (.cells #[.pointer (some ⟨w.heap.size + 1 + 1 + 1, 0, none⟩)] 106)).alloc (.map #[] 0)).alloc (.map #[] 0)).alloc (.cells #[.pointer (some ⟨w.heap.size, 0, none⟩), .int .i64 v, .int .i64 cap, .slice none 0 0, .map (some (w.heap.size + 1)), .map (some (w.heap.size + 1 + 1))] 91))
      w.heap.size (w.heap.size + 1 + 1 + 1) (w.heap.size + 1) (w.heap.size + 1 + 1) v cap (.slice none 0 0) [] [] := by
  have k1 : ∀ (X : World) (o : Obj) (k : Nat) (p : Obj), X.heap[k]? = some p → (X.alloc o).heap[k]? = some p := fun X o k p hp => (Below.heap_alloc X o k (lt_of_block hp)).trans hp
  have k2 : ∀ (X : World) (o : Obj) (k : Nat), k = X.heap.size → (X.alloc o).heap[k]? = some o := fun X o k e => by subst e; exact (MapKept.heap_alloc X o).1
  obtain ⟨w1, hw1⟩ : ∃ w1, w1 = w.alloc (.cells #[.pointer (some ⟨w.heap.size + 1 + 1 + 1, 0, none⟩)] 106) := ⟨_, rfl⟩
  have s1 : w1.heap.size = w.heap.size + 1 := by rw [hw1]; simp
  have r1 : RefsM (w1.alloc (.map #[] 0)) (w.heap.size + 1) [] := by have := RefsM.made w1; rwa [s1] at this
  obtain ⟨w2, hw2⟩ : ∃ w2, w2 = w1.alloc (.map #[] 0) := ⟨_, rfl⟩
  have s2 : w2.heap.size = w.heap.size + 1 + 1 := by rw [hw2, World.size_alloc, s1]
  have t1 : RetM (w2.alloc (.map #[] 0)) (w.heap.size + 1 + 1) [] := by have := RetM.made w2; rwa [s2] at this
  obtain ⟨w3, hw3⟩ : ∃ w3, w3 = w2.alloc (.map #[] 0) := ⟨_, rfl⟩
  have s3 : w3.heap.size = w.heap.size + 1 + 1 + 1 := by rw [hw3, World.size_alloc, s2]
  rw [← hw1, ← hw2, ← hw3]
  rw [← hw2] at r1
  rw [← hw3] at t1
  obtain ⟨_, _, ro⟩ := r1.obj
  obtain ⟨_, _, to⟩ := t1.obj
  have ro3 := k1 w2 (.map #[] 0) _ _ ro
  rw [← hw3] at ro3
  refine ⟨⟨?_, k2 _ _ _ s3.symm, ⟨rfl, .inl ⟨rfl, rfl⟩⟩, r1.block ((k1 _ _ _ _ ro3).trans ro.symm), t1.block ((k1 _ _ _ _ to).trans to.symm), by omega⟩, Wf.nil v, fun m hm => by simp at hm, Nat.zero_le _, hc2, hv, fun r hr => by simp at hr, List.nodup_nil⟩
  refine k1 _ _ _ _ ?_
  rw [hw3]
  refine k1 _ _ _ _ ?_
  rw [hw2]
  refine k1 _ _ _ _ ?_
  rw [hw1]
  exact k2 _ _ _ rfl
set_option maxHeartbeats 2000000 in
theorem New_yes (v cap : Nat) (w : World) (hv : v ≤ 6) (hc1 : 1 ≤ cap) (hc2 : cap ≤ 4096) :
    Calls Try.prog 30 #[.int .i64 v, .int .i64 cap] w fun e w' => ∃ sb cb rb tb, e = .returned (.tuple #[.pointer (some ⟨sb, 0, none⟩), .int .i64 0]) ∧ Inv w' sb cb rb tb v cap (.slice none 0 0) [] [] ∧ w.heap.size ≤ sb ∧ w.heap.size ≤ cb ∧ w.heap.size ≤ rb ∧ w.heap.size ≤ tb ∧ Below w.heap.size w w' := by
  have d1 : decide ((v : Int) < 0) = false := decide_eq_false (by omega)
  have d2 : decide ((6 : Int) < (v : Int)) = false := decide_eq_false (by omega)
  have d3 : decide ((cap : Int) < 1) = false := decide_eq_false (by omega)
  have d4 : decide ((4096 : Int) < (cap : Int)) = false := decide_eq_false (by omega)
  have hmm := @run_makeMap Try.prog
  go_enter Try.func30, Try.ntmps30
  go_wp2
  go_ret2
  exact ⟨w.heap.size, w.heap.size + 1 + 1 + 1, w.heap.size + 1, w.heap.size + 1 + 1, rfl, new_inv w v cap hv hc2, Nat.le_refl _, by omega, by omega, by omega, bal (bal (bal (bal (Below.refl _ _) _) _) _) _⟩
end Go.Proofs.Ytbhfmeohaoojfaa.Dn
