/- read and Parse of package regex. -/
import Derived.Test.YteckkbjpeckjmaaYZL
import Derived.Defers
import Derived.Recover
namespace Go.Proofs.Yteckkbjpeckjmaa.Rx
open Go Go.RowKit Go.Shelf Go.Proofs.Yteckkbjpeckjmaa
set_option linter.unusedVariables false
set_option maxRecDepth 100000
theorem rep9 : Array.replicate 9 undef = #[undef, undef, undef, undef, undef, undef, undef, undef, undef] := rfl
theorem catch_err (p : Addr) (x k : Int) (w : World) (hc : w.cell? p = some (.int .i64 x)) (hz : w.frozen? p = false) :
    CallsD Try.prog 52 #[.pointer (some p)] (.panicking (errV k)) w fun e u' w' =>
      e = .returned (.tuple #[]) ∧ u' = .panicking [{ v := .iface 23 (.int .i64 k), recovered := true }] ∧ w' = w.setCell p (.int .i64 k) := by
  have hta : ∀ w, (Instr.typeAssert (.iface 23 (.int .i64 k)) 20 23 true).run Try.prog w = .ok (.tuple #[.int .i64 k, .bool true]) w := fun _ => by kernel_rfl
  unfold errV
  refine callsD_of_wpS Try.func52 rfl fun c₀ cs hu => ?_
  apply wpS_seq
  apply wpS_region
  simp [wpOpsS, go_sem, recoverD, hu, Try.ntmps52, Exit.thenS, rep9, hta]
  apply wpS_seq
  apply wpS_region
  simp [wpOpsS, go_sem, Exit.thenS]
  refine wpS_cond (t := true) (by simp [Act.eval]) ?_
  simp only [if_true]
  apply wpS_region
  simp [wpOpsS, go_sem, hc, hz, bodyPostS, results, Try.results52]
theorem catch_none (p : Addr) (w : World) :
    CallsD Try.prog 52 #[.pointer (some p)] .returning w fun e u' w' => e = .returned (.tuple #[]) ∧ u' = .returning ∧ w' = w := by
  have hta : ∀ w, (Instr.typeAssert .nilIface 20 23 true).run Try.prog w = .ok (.tuple #[.int .i64 0, .bool false]) w := fun _ => by kernel_rfl
  refine callsD_of_wpS Try.func52 rfl fun c₀ cs hu => ?_
  apply wpS_seq
  apply wpS_region
  simp [wpOpsS, go_sem, recoverD, hu, Try.ntmps52, Exit.thenS, rep9, hta]
  apply wpS_seq
  apply wpS_region
  simp [wpOpsS, go_sem, Exit.thenS]
  refine wpS_cond (t := false) (by simp [Act.eval]) ?_
  simp only [Bool.false_eq_true, if_false]
  refine wpS_of_wp (wp_skip ?_)
  cases c₀
  simp_all [bodyPostS, results, Try.results52]
/-- What read answers. -/
def RdOutP (s : ByteArray) (w : World) (r : Ending) (w' : World) : Prop :=
  match pex s.size (Dl s 0) with
  | .error k => r = .returned (.tuple #[.slice none 0 0, .int .i64 k]) ∧ Below w.heap.size w w'
  | .ok (t, []) => ∃ A' c', r = .returned (.tuple #[.slice A' t.size c', .int .i64 0]) ∧ w'.ownsRow w.heap.size 32 5 (.slice A' t.size c') t.size (pvs (flat t 0)) ∧ Below w.heap.size w w'
  | .ok (_, _ :: _) => r = .returned (.tuple #[.slice none 0 0, .int .i64 5]) ∧ Below w.heap.size w w'
set_option maxHeartbeats 8000000 in
theorem read_any (s : ByteArray) (w : World) (hs : s.size ≤ 4095) : Calls Try.prog 31 #[.string s] w (RdOutP s w) := by
  have hmf : ∀ (fn : Fn) (first cap : Array Value) (w : World), (Instr.makeFunc fn first cap).run Try.prog w = .ok (.func fn first cap) w := fun _ _ _ _ => rfl
  have h0 := Boxed.new w 23 (.int .i64 0)
  have hW : Below (w.heap.size + 1) (w.alloc (.cells #[.int .i64 0] 23)) ((w.alloc (.cells #[.int .i64 0] 23)).alloc (.cells #[.string s, .int .i64 0, .slice none 0 0] 84)) := by
    have := bal (Below.refl (w.alloc (.cells #[.int .i64 0] 23)).heap.size (w.alloc (.cells #[.int .i64 0] 23))) (.cells #[.string s, .int .i64 0, .slice none 0 0] 84)
    simpa using this
  have hP : PsAt ((w.alloc (.cells #[.int .i64 0] 23)).alloc (.cells #[.string s, .int .i64 0, .slice none 0 0] 84)) (w.heap.size + 1) (w.heap.size + 1) s 0 (.slice none 0 0) [] := by
    refine ⟨?_, ⟨rfl, .inl ⟨rfl, rfl⟩⟩, Nat.le_refl _, by simp⟩
    have := World.alloc_heap_new (w.alloc (.cells #[.int .i64 0] 23)) (.cells #[.string s, .int .i64 0, .slice none 0 0] 84)
    simpa using this
  have HE0 := expr_all (w.heap.size + 1) (w.heap.size + 1) s hs s.size 0 _ [] _ hP (Nat.zero_le _) (by omega) (by simp; omega)
  have HW := Lib.hid hW
  have H0 := Lib.hid h0
  have HP := Lib.hid hP
  clear hW h0 hP
  unfold RdOutP
  cases hx : pex s.size (Dl s 0) with
  | error k =>
    rw [hx] at HE0
    have HE : Hid (Calls Try.prog 53 #[.pointer (some ⟨w.heap.size + 1, 0, none⟩)] ((w.alloc (.cells #[.int .i64 0] 23)).alloc (.cells #[.string s, .int .i64 0, .slice none 0 0] 84)) fun e w' => e = .panicked (errV k) ∧ Below (w.heap.size + 1) ((w.alloc (.cells #[.int .i64 0] 23)).alloc (.cells #[.string s, .int .i64 0, .slice none 0 0] 84)) w') := HE0
    clear HE0 hx
    go_enter_defers Try.func31, Try.ntmps31
    go_wp2_with (go_at_call 53; ((with_reducible refine HE.out.mono ?_); rintro r w3 ⟨rfl, hb3⟩); have hc3 : Boxed w3 w.heap.size 23 (.int .i64 0) := (((HW.out.trans hb3).block w.heap.size (by omega)).trans H0.out))
    have hset := (hc3.set (.int .i64 k)).cell
    refine leaves_cons (f := 52) (args := #[.pointer (some ⟨w.heap.size, 0, none⟩)]) (by simp) (by simp [go_sem]) ?_
    refine (catch_err ⟨w.heap.size, 0, none⟩ 0 k _ hc3.cell hc3.frozen).mono ?_
    rintro e u' w'' ⟨rfl, rfl, rfl⟩
    have hbl : Below w.heap.size w (w3.setCell ⟨w.heap.size, 0, none⟩ (.int .i64 k)) := ((bal (Below.refl w.heap.size w) _).trans ((HW.out.trans hb3).mono (by omega))).setCell (Nat.le_refl _) _
    simp [Leaves, settle, results, Try.results31, go_sem, hset, hbl]
  | ok x =>
    obtain ⟨t, r⟩ := x
    rw [hx] at HE0
    have HE : Hid (Calls Try.prog 53 #[.pointer (some ⟨w.heap.size + 1, 0, none⟩)] ((w.alloc (.cells #[.int .i64 0] 23)).alloc (.cells #[.string s, .int .i64 0, .slice none 0 0] 84)) fun e w' => e = .returned (.tuple #[]) ∧ ∃ v', PsAt w' (w.heap.size + 1) (w.heap.size + 1) s (s.size - r.length) v' (flat t 0) ∧ Fr (w.heap.size + 1) (.slice none 0 0) v' ((w.alloc (.cells #[.int .i64 0] 23)).alloc (.cells #[.string s, .int .i64 0, .slice none 0 0] 84)) w') := HE0
    obtain ⟨hr, hsz, hrl⟩ := pex_left hx (Nat.zero_le _)
    have hcs : (r = [] ∧ s.size - r.length = s.size) ∨ (∃ c r', r = c :: r' ∧ s.size - r.length < s.size) := by
      cases r with
      | nil => exact .inl ⟨rfl, rfl⟩
      | cons c r' => exact .inr ⟨c, r', rfl, by simp only [List.length_cons] at hrl ⊢; omega⟩
    generalize s.size - r.length = k at *
    clear HE0 hx hr hsz hrl
    rcases hcs with ⟨rfl, rfl⟩ | ⟨c, r', rfl, hk⟩
    · have hlt : decide ((s.size : Int) < (s.size : Int)) = false := decide_eq_false (by omega)
      have hlt2 : decide (s.size < s.size) = false := decide_eq_false (by omega)
      show Calls _ _ _ _ (fun r w' => ∃ A' c', r = .returned (.tuple #[.slice A' t.size c', .int .i64 0]) ∧ w'.ownsRow w.heap.size 32 5 (.slice A' t.size c') t.size (pvs (flat t 0)) ∧ Below w.heap.size w w')
      go_enter_defers Try.func31, Try.ntmps31
      go_wp2_with (go_at_call 53; ((with_reducible refine HE.out.mono ?_); rintro r w3 ⟨rfl, v2, hP3, hF3⟩); obtain ⟨c0, c1, c2⟩ := hP3.cells; have hc3 : Boxed w3 w.heap.size 23 (.int .i64 0) := (((hF3.block w.heap.size (by simp; omega) (by omega) (by intro e; cases e)).trans (HW.out.block w.heap.size (by omega))).trans H0.out); have x0 := hc3.cell; have z0 := hc3.frozen; have HP3 := Lib.hid hP3; have HF3 := Lib.hid hF3; have HC3 := Lib.hid hc3; clear hP3 hF3 hc3)
      go_quiet (fail)
      go_wp2
      have hC4 : Boxed (w3.drewN nq) w.heap.size 23 (.int .i64 0) := HC3.out
      have hset := (hC4.set (.int .i64 0)).cell
      have hbl : Below w.heap.size w ((w3.drewN nq).setCell ⟨w.heap.size, 0, none⟩ (.int .i64 0)) := ((bal (Below.refl w.heap.size w) _).trans ((HW.out.trans (HP.out.bel HF3.out)).mono (by omega))).trans ((Ap.drewN_below w3 nq).mono (by have := HC3.out.lt; omega)) |>.setCell (Nat.le_refl _) _
      refine leaves_cons (f := 52) (args := #[.pointer (some ⟨w.heap.size, 0, none⟩)]) (by simp) (by simp [go_sem]) ?_
      refine (catch_none ⟨w.heap.size, 0, none⟩ _).mono ?_
      rintro e u' w'' ⟨rfl, rfl, rfl⟩
      have hO := HP3.out.o
      rw [flat_len] at hO
      obtain ⟨A', c', rfl, _⟩ := Ap.own_form hO
      have hOO : ((w3.drewN nq).setCell ⟨w.heap.size, 0, none⟩ (.int .i64 0)).ownsRow w.heap.size 32 5 (.slice A' t.size c') t.size (pvs (flat t 0)) := by
        have h1 := Ap.own_low (Ap.own_bel hO (Ap.drewN_below w3 nq)) (show w.heap.size ≤ w.heap.size + 1 by omega)
        refine ⟨h1.1, ?_⟩
        rcases hO.2 with ⟨h2, h3⟩ | ⟨g, cap, cur, hv, hg, hc, rest⟩
        · exact .inl ⟨h2, h3⟩
        · refine .inr ⟨g, cap, cur, hv, by omega, ?_, rest⟩
          rw [Below.heap_setCell _ _ _ _ (show g ≠ w.heap.size by omega)]
          exact hc
      simp [Leaves, settle, results, Try.results31, go_sem, hset, hbl]
      exact ⟨A', c', ⟨rfl, rfl⟩, hOO⟩
    · have hlt : decide ((k : Int) < (s.size : Int)) = true := decide_eq_true (by omega)
      have hlt2 : decide (k < s.size) = true := decide_eq_true (by omega)
      show Calls _ _ _ _ (fun r w' => r = .returned (.tuple #[.slice none 0 0, .int .i64 5]) ∧ Below w.heap.size w w')
      go_enter_defers Try.func31, Try.ntmps31
      go_wp2_with (go_at_call 53; ((with_reducible refine HE.out.mono ?_); rintro r w3 ⟨rfl, v2, hP3, hF3⟩); obtain ⟨c0, c1, c2⟩ := hP3.cells; have hc3 : Boxed w3 w.heap.size 23 (.int .i64 0) := (((hF3.block w.heap.size (by simp; omega) (by omega) (by intro e; cases e)).trans (HW.out.block w.heap.size (by omega))).trans H0.out); have x0 := hc3.cell; have z0 := hc3.frozen; have HP3 := Lib.hid hP3; have HF3 := Lib.hid hF3; have HC3 := Lib.hid hc3; clear hP3 hF3 hc3)
      go_quiet (fail)
      go_wp2
      have hC4 : Boxed (w3.drewN nq) w.heap.size 23 (.int .i64 0) := HC3.out
      have hset := (hC4.set (.int .i64 5)).cell
      have hbl : Below w.heap.size w ((w3.drewN nq).setCell ⟨w.heap.size, 0, none⟩ (.int .i64 5)) := ((bal (Below.refl w.heap.size w) _).trans ((HW.out.trans (HP.out.bel HF3.out)).mono (by omega))).trans ((Ap.drewN_below w3 nq).mono (by have := HC3.out.lt; omega)) |>.setCell (Nat.le_refl _) _
      refine leaves_cons (f := 52) (args := #[.pointer (some ⟨w.heap.size, 0, none⟩)]) (by simp) (by simp [go_sem]) ?_
      refine (catch_none ⟨w.heap.size, 0, none⟩ _).mono ?_
      rintro e u' w'' ⟨rfl, rfl, rfl⟩
      simp [Leaves, settle, results, Try.results31, go_sem, hset, hbl]
end Go.Proofs.Yteckkbjpeckjmaa.Rx
