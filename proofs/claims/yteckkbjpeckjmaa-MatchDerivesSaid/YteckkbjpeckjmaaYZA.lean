/- Format, Block, Reverse and Plain of package regex. -/
import Derived.Test.YteckkbjpeckjmaaYZ
namespace Go.Proofs.Yteckkbjpeckjmaa.Rx
open Go Go.RowKit Go.Proofs.Yteckkbjpeckjmaa
set_option linter.unusedVariables false
set_option maxRecDepth 100000
/-- The letters' bits are bytes. -/
def Ex.P8 : Ex → Prop
  | .leaf _ p q => p < 256 ∧ q < 256
  | .one _ a => a.P8
  | .two _ a b => a.P8 ∧ b.P8
theorem p8_cubes {v : Int} : ∀ t : Ex, t.Ok → t.Cubes v → t.P8
  | .leaf op p q, ho, hc => by
    by_cases h : op = 3
    · obtain ⟨n, _, hC⟩ := chk_ok (hc h)
      have := hC.lt
      show p < 256 ∧ q < 256
      omega
    · obtain ⟨rfl, rfl⟩ := ho.2 h
      exact ⟨by decide, by decide⟩
  | .one _ a, ho, hc => p8_cubes a ho.2 hc
  | .two _ a b, ho, hc => ⟨p8_cubes a ho.2.1 hc.1, p8_cubes b ho.2.2 hc.2⟩
theorem p8_six : ∀ t : Ex, t.Ok → t.Six → t.P8
  | .leaf op p q, ho, hc => by
    by_cases h : op = 3
    · have := hc h
      show p < 256 ∧ q < 256
      omega
    · obtain ⟨rfl, rfl⟩ := ho.2 h
      exact ⟨by decide, by decide⟩
  | .one _ a, ho, hc => p8_six a ho.2 hc
  | .two _ a b, ho, hc => ⟨p8_six a ho.2.1 hc.1, p8_six b ho.2.2 hc.2⟩
theorem flat_fine : ∀ (t : Ex) (k : Nat), t.Ok → t.P8 → k + t.size ≤ 1000000 → ∀ x ∈ flat t k, PcOk x
  | .leaf op p q, k, ho, hp, hs => fun x hx => by
    simp only [flat, List.mem_singleton] at hx
    subst hx
    have := ho.1
    exact ⟨by show op < 256; omega, hp.1, hp.2, by show InJ 0; unfold InJ; omega, by show InJ 0; unfold InJ; omega⟩
  | .one op a, k, ho, hp, hs => fun x hx => by
    have hs' : k + (a.size + 1) ≤ 1000000 := hs
    simp only [flat, List.mem_append, List.mem_singleton] at hx
    rcases hx with hx | rfl
    · exact flat_fine a k ho.2 hp (by omega) x hx
    · have := ho.1
      exact ⟨by show op < 256; omega, by show 0 < 256; omega, by show 0 < 256; omega, by show InJ (((k + a.size : Nat) : Int) - 1); unfold InJ; omega, by show InJ 0; unfold InJ; omega⟩
  | .two op a b, k, ho, hp, hs => fun x hx => by
    have hs' : k + (a.size + b.size + 1) ≤ 1000000 := hs
    simp only [flat, List.mem_append, List.mem_singleton] at hx
    rcases hx with hx | hx | rfl
    · exact flat_fine a k ho.2.1 hp.1 (by omega) x hx
    · exact flat_fine b (k + a.size) ho.2.2 hp.2 (by omega) x hx
    · have := ho.1
      exact ⟨by show op < 256; omega, by show 0 < 256; omega, by show 0 < 256; omega, by show InJ (((k + a.size : Nat) : Int) - 1); unfold InJ; omega, by show InJ (((k + a.size + b.size : Nat) : Int) - 1); unfold InJ; omega⟩
theorem pvs_len (l : List Pc) : (pvs l).length = l.length * 5 := by
  induction l with
  | nil => rfl
  | cons x l ih =>
    show (pv x ++ pvs l).length = _
    rw [List.length_append, ih, List.length_cons]
    show 5 + _ = _
    omega
theorem pvs_at : ∀ (l : List Pc) (j i : Nat) (v : Value), j < l.length → (pv (pc l j))[i]? = some v → (pvs l)[j * 5 + i]? = some v
  | [], j, i, v, hj, h => absurd hj (by simp)
  | x :: l, j, i, v, hj, h => by
    have hi : i < 5 := (List.getElem?_eq_some_iff.1 h).1
    show (pv x ++ pvs l)[j * 5 + i]? = _
    cases j with
    | zero =>
      rw [List.getElem?_append_left (by show _ < 5; omega), Nat.zero_mul, Nat.zero_add]
      exact h
    | succ j =>
      rw [List.getElem?_append_right (by show 5 ≤ _; omega)]
      have := pvs_at l j i v (by simpa using hj) h
      rw [← this]
      congr 1
      show (j + 1) * 5 + i - 5 = _
      omega
/-- A row of one's own that holds the pieces l reads so. -/
theorem pcs_of_own {w : World} {B : Nat} {A : Option Addr} {n c : Nat} {l : List Pc} (h : w.ownsRow B 32 5 (.slice A n c) n (pvs l)) (hl : ∀ x ∈ l, PcOk x) : PcsAt w A l := by
  intro j hj
  have hm : pc l j ∈ l := by
    unfold pc
    rw [List.getD_eq_getElem?_getD, List.getElem?_eq_getElem hj]
    exact List.getElem_mem hj
  have hn := h.1
  rw [pvs_len] at hn
  refine ⟨hl _ hm, ?_⟩
  rcases h.2 with ⟨_, h0⟩ | ⟨g, cap, cur, hv, _, hb, _, _, _, ht⟩
  · omega
  · cases hv
    refine ⟨⟨g, 0, none⟩, rfl, (Array.getElem?_eq_some_iff.1 hb).1, fun i v hi => ?_⟩
    have hv := pvs_at l j i v hj hi
    rw [Ap.addr_add, show ((⟨g, j * 5, none⟩ : Addr).add i) = ⟨g, j * 5 + i, none⟩ by unfold Addr.add; split; simp; rfl]
    rw [← ht, List.getElem?_take] at hv
    split at hv
    · simp only [World.cell?, hb]
      simpa using hv
    · cases hv
theorem four_new (w : World) (u0 u1 u2 u3 : Value) (t0 t1 t2 t3 : TypeId) :
    Boxed ((((w.alloc (.cells #[u0] t0)).alloc (.cells #[u1] t1)).alloc (.cells #[u2] t2)).alloc (.cells #[u3] t3)) w.heap.size t0 u0 ∧
    Boxed ((((w.alloc (.cells #[u0] t0)).alloc (.cells #[u1] t1)).alloc (.cells #[u2] t2)).alloc (.cells #[u3] t3)) (w.heap.size + 1) t1 u1 ∧
    Boxed ((((w.alloc (.cells #[u0] t0)).alloc (.cells #[u1] t1)).alloc (.cells #[u2] t2)).alloc (.cells #[u3] t3)) (w.heap.size + 2) t2 u2 ∧
    Boxed ((((w.alloc (.cells #[u0] t0)).alloc (.cells #[u1] t1)).alloc (.cells #[u2] t2)).alloc (.cells #[u3] t3)) (w.heap.size + 3) t3 u3 := by
  have h0 := Boxed.new w t0 u0
  have h1 := Boxed.new (w.alloc (.cells #[u0] t0)) t1 u1
  have h2 := Boxed.new ((w.alloc (.cells #[u0] t0)).alloc (.cells #[u1] t1)) t2 u2
  have h3 := Boxed.new (((w.alloc (.cells #[u0] t0)).alloc (.cells #[u1] t1)).alloc (.cells #[u2] t2)) t3 u3
  simp only [World.size_alloc] at h1 h2 h3
  exact ⟨((h0.alloc _).alloc _).alloc _, (h1.alloc _).alloc _, h2.alloc _, h3⟩
set_option maxHeartbeats 4000000 in
theorem copied_any (A : Option Addr) (e : List Pc) (c : Nat) (hl : e.length ≤ 1000000) (m : Bool) (t : Ex) (s j : Nat) (w : World) (hx : PcsAt w A e) (ho : t.Ok) (hb : Bl e s j t) (hs : t.size ≤ 1000) :
    Calls Try.prog 33 #[.slice A e.length c, .int .i64 j, repF m] w fun r w' => ∃ A' c', r = .returned (.slice A' t.size c') ∧ w'.ownsRow w.heap.size 32 5 (.slice A' t.size c') t.size (pvs (flat (Tp m t) 0)) ∧ Below w.heap.size w w' := by
  have hmf : ∀ (fn : Fn) (first cap : Array Value) (w : World), (Instr.makeFunc fn first cap).run Try.prog w = .ok (.func fn first cap) w := fun _ _ _ _ => rfl
  have HC := Lib.hid (cop_any w (w.heap.size + 1) w.heap.size (w.heap.size + 3) (w.heap.size + 2) m A e c hl hx t s j ho hb)
  have HS : Hid ((flat (Tp m t) 0).length = t.size) := by
    show _ = _
    rw [flat_len]
    cases m
    · rfl
    · exact rev_size t
  obtain ⟨f0, f1, f2, f3⟩ := four_new w (.slice A e.length c) (repF m) (.slice none 0 0) (copF (w.heap.size + 1) w.heap.size (w.heap.size + 3) (w.heap.size + 2)) 27 66 27 78
  have hW : Below w.heap.size w ((((w.alloc (.cells #[.slice A e.length c] 27)).alloc (.cells #[repF m] 66)).alloc (.cells #[.slice none 0 0] 27)).alloc (.cells #[copF (w.heap.size + 1) w.heap.size (w.heap.size + 3) (w.heap.size + 2)] 78)) := bal (bal (bal (bal (Below.refl _ _) _) _) _) _
  have HK := Lib.hid (HC.out _ (.slice none 0 0) [] hW ⟨f1, f0, f3, f2, ⟨rfl, .inl ⟨rfl, rfl⟩⟩, by omega, by omega, hW.size⟩ (by simp; omega))
  have HW := Lib.hid hW
  clear hW f0 f1 f2 f3 HC hb ho hx
  unfold repF copF at HK HW
  unfold repF
  generalize e.length = n at *
  have hfin : ∀ v' w', CopAt w' w.heap.size (w.heap.size + 1) w.heap.size (w.heap.size + 3) (w.heap.size + 2) m A n c v' ([] ++ flat (Tp m t) 0) → ∃ A' c', v' = .slice A' t.size c' ∧ w'.ownsRow w.heap.size 32 5 (.slice A' t.size c') t.size (pvs (flat (Tp m t) 0)) := fun v' w' h => by
    have ho := h.o
    rw [List.nil_append, HS.out] at ho
    obtain ⟨A', c', rfl, _⟩ := Ap.own_form ho
    exact ⟨A', c', rfl, ho⟩
  have HF := Lib.hid hfin
  clear hfin
  cases m
  all_goals
    simp only [Bool.false_eq_true, if_false, if_true] at HK HW
    simp only [Bool.false_eq_true, if_false, if_true]
    go_enter Try.func33, Try.ntmps33
    go_wp2_with (go_at_call 59; ((with_reducible refine HK.out.mono ?_); rintro r w3 ⟨rfl, v', hC, hF⟩); have cb := hC.b.cell; obtain ⟨A', c', rfl, hO⟩ := HF.out _ _ hC; have HO := Lib.hid hO; have HFr := Lib.hid hF; clear hC hF hO)
    go_ret
    exact ⟨A', c', rfl, HO.out, HW.out.trans (HFr.out.below HW.out.size (by omega) (fun g hg => by cases hg))⟩
end Go.Proofs.Yteckkbjpeckjmaa.Rx
