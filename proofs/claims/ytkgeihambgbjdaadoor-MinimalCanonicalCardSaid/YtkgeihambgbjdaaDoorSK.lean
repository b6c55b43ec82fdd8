/- The law's Long with two automata; two automata side by side; what is appended to an automaton of one's own. -/
import Derived.Test.YtkgeihambgbjdaaDoorSI
namespace Go.Proofs.YtkgeihambgbjdaaDoor.Mi
open Go Go.RowKit Go.Proofs.YtkgeihambgbjdaaDoor Go.Proofs.YtkgeihambgbjdaaDoor.Cb Go.Proofs.YtkgeihambgbjdaaDoor.Sb
open Go.Proofs.YtkgeihambgbjdaaDoor.Nf (Bys zvs bvs ret_int ret_b drew_below wordE)
open Go.Proofs.YtkgeihambgbjdaaDoor.Dg (Tabs tb tb_mem)
set_option linter.unusedVariables false
set_option linter.unusedSimpArgs false
set_option linter.unusedSectionVars false
set_option maxRecDepth 100000
theorem longT_iff {T : List (List Int)} : (∀ k, k < T.length → 100 < (tb T k).length → longT T = true) ∧ ((∀ k, k < T.length → ¬ 100 < (tb T k).length) → longT T = false) := by
  constructor
  · intro k hk h
    unfold longT
    rw [List.any_eq_true]
    exact ⟨_, tb_mem hk, decide_eq_true h⟩
  · intro h
    unfold longT
    rw [List.any_eq_false]
    intro r hr
    obtain ⟨j, hj, rfl⟩ := Dg.mem_tb hr
    have := h j hj
    simpa using this
theorem cell_made (w : World) (cs : Array Value) (t : TypeId) (j : Nat) (v : Value) (h : cs[j]? = some v) : (w.alloc (.cells cs t)).cell? ⟨w.heap.size, j, none⟩ = some v := by
  have hn := World.alloc_heap_new w (.cells cs t)
  simp only [World.cell?, hn]
  simpa using h
set_option maxHeartbeats 8000000 in
theorem Long72_any (d e : Da) (A B A' B' : Option Addr) (a b a' b' : Nat) (w : World) (hx : DaAt w d A B) (hy : DaAt w e A' B') (h1 : d.nx.length ≤ maxLen) (h2 : d.fi.length ≤ maxLen) (h3 : ∀ r ∈ d.nx, r.length ≤ maxLen) (k1 : e.nx.length ≤ maxLen) (k2 : e.fi.length ≤ maxLen) (k3 : ∀ r ∈ e.nx, r.length ≤ maxLen) (g : Nat) (hg : g = w.heap.size) :
    Calls Tryd.prog 10 #[.slice (some ⟨g, 0, none⟩) 2 2] (w.alloc (.cells #[.int .i64 d.V, .int .i64 d.q0, .slice A d.nx.length a, .slice B d.fi.length b, .int .i64 e.V, .int .i64 e.q0, .slice A' e.nx.length a', .slice B' e.fi.length b'] 25)) fun r w' => r = .returned (.bool (longD d || longD e)) ∧ Below w.heap.size w w' := by
  subst hg
  have hb0 := bal (Below.refl w.heap.size w) (.cells #[.int .i64 d.V, .int .i64 d.q0, .slice A d.nx.length a, .slice B d.fi.length b, .int .i64 e.V, .int .i64 e.q0, .slice A' e.nx.length a', .slice B' e.fi.length b'] 25)
  have z0 : (w.alloc (.cells #[.int .i64 d.V, .int .i64 d.q0, .slice A d.nx.length a, .slice B d.fi.length b, .int .i64 e.V, .int .i64 e.q0, .slice A' e.nx.length a', .slice B' e.fi.length b'] 25)).cell? ⟨w.heap.size, 0, none⟩ = some (.int .i64 d.V) := cell_made _ _ _ _ _ rfl
  have z1 : (w.alloc (.cells #[.int .i64 d.V, .int .i64 d.q0, .slice A d.nx.length a, .slice B d.fi.length b, .int .i64 e.V, .int .i64 e.q0, .slice A' e.nx.length a', .slice B' e.fi.length b'] 25)).cell? ⟨w.heap.size, 1, none⟩ = some (.int .i64 d.q0) := cell_made _ _ _ _ _ rfl
  have z2 : (w.alloc (.cells #[.int .i64 d.V, .int .i64 d.q0, .slice A d.nx.length a, .slice B d.fi.length b, .int .i64 e.V, .int .i64 e.q0, .slice A' e.nx.length a', .slice B' e.fi.length b'] 25)).cell? ⟨w.heap.size, 2, none⟩ = some (.slice A d.nx.length a) := cell_made _ _ _ _ _ rfl
  have z3 : (w.alloc (.cells #[.int .i64 d.V, .int .i64 d.q0, .slice A d.nx.length a, .slice B d.fi.length b, .int .i64 e.V, .int .i64 e.q0, .slice A' e.nx.length a', .slice B' e.fi.length b'] 25)).cell? ⟨w.heap.size, 3, none⟩ = some (.slice B d.fi.length b) := cell_made _ _ _ _ _ rfl
  have z4 : (w.alloc (.cells #[.int .i64 d.V, .int .i64 d.q0, .slice A d.nx.length a, .slice B d.fi.length b, .int .i64 e.V, .int .i64 e.q0, .slice A' e.nx.length a', .slice B' e.fi.length b'] 25)).cell? ⟨w.heap.size, 4, none⟩ = some (.int .i64 e.V) := cell_made _ _ _ _ _ rfl
  have z5 : (w.alloc (.cells #[.int .i64 d.V, .int .i64 d.q0, .slice A d.nx.length a, .slice B d.fi.length b, .int .i64 e.V, .int .i64 e.q0, .slice A' e.nx.length a', .slice B' e.fi.length b'] 25)).cell? ⟨w.heap.size, 5, none⟩ = some (.int .i64 e.q0) := cell_made _ _ _ _ _ rfl
  have z6 : (w.alloc (.cells #[.int .i64 d.V, .int .i64 d.q0, .slice A d.nx.length a, .slice B d.fi.length b, .int .i64 e.V, .int .i64 e.q0, .slice A' e.nx.length a', .slice B' e.fi.length b'] 25)).cell? ⟨w.heap.size, 6, none⟩ = some (.slice A' e.nx.length a') := cell_made _ _ _ _ _ rfl
  have z7 : (w.alloc (.cells #[.int .i64 d.V, .int .i64 d.q0, .slice A d.nx.length a, .slice B d.fi.length b, .int .i64 e.V, .int .i64 e.q0, .slice A' e.nx.length a', .slice B' e.fi.length b'] 25)).cell? ⟨w.heap.size, 7, none⟩ = some (.slice B' e.fi.length b') := cell_made _ _ _ _ _ rfl
  have HX := Lib.hid fun k (hk : k < d.nx.length) => (hx.nx.below hb0) k hk
  have HY := Lib.hid fun k (hk : k < e.nx.length) => (hy.nx.below hb0) k hk
  have HL : Hid (longD d = (decide (40 < d.nx.length) || decide (40 < d.fi.length) || longT d.nx)) := rfl
  have HK : Hid (longD e = (decide (40 < e.nx.length) || decide (40 < e.fi.length) || longT e.nx)) := rfl
  have HT := Lib.hid (longT_iff (T := d.nx))
  have HU := Lib.hid (longT_iff (T := e.nx))
  have HM : Hid (∀ k, k < d.nx.length → (tb d.nx k).length ≤ maxLen) := fun k hk => h3 _ (tb_mem hk)
  have HN : Hid (∀ k, k < e.nx.length → (tb e.nx k).length ≤ maxLen) := fun k hk => k3 _ (tb_mem hk)
  clear hx h3 hy k3
  unfold maxLen at h1 h2 k1 k2
  generalize longD d = L at *
  generalize longD e = R at *
  generalize longT d.nx = T at *
  generalize longT e.nx = U at *
  obtain ⟨V, q0, nx, fi⟩ := d
  obtain ⟨V', q0', mx, fi'⟩ := e
  dsimp only at *
  generalize nx.length = nn at *
  generalize fi.length = nf at *
  generalize mx.length = mn at *
  generalize fi'.length = mf at *
  generalize World.alloc w (.cells #[.int .i64 V, .int .i64 q0, .slice A nn a, .slice B nf b, .int .i64 V', .int .i64 q0', .slice A' mn a', .slice B' mf b'] 25) = W at *
  obtain ⟨Z, hZ⟩ : ∃ Z, Z = (L || R) := ⟨_, rfl⟩
  rw [← hZ]
  have HZ := Lib.hid hZ
  clear hZ
  generalize w.heap.size = g at *
  go_enter Tryd.func10, Tryd.ntmps10
  go_wp2
  go_loopw [3] (fun i wr => (i = .int .i64 0 ∨ (i = .int .i64 1 ∧ Hid (L = false)) ∨ (i = .int .i64 2 ∧ Hid (L = false) ∧ Hid (R = false))) ∧ wr = W) (fun i _ => 2 - (intOf i).toNat)
  case atStart => exact ⟨.inl rfl, rfl⟩
  case round =>
    obtain ⟨rfl | ⟨rfl, hF0⟩ | ⟨rfl, hF0, hG0⟩, rfl⟩ := hrel
    · by_cases g1 : 40 < nn
      · have hT : Hid (Z = true) := by show _ = _; rw [HZ.out, show (L || R) = (R || L) from Bool.or_comm _ _, HL.out, decide_eq_true g1]; simp
        have d1 : decide ((40 : Int) < (nn : Int)) = true := decide_eq_true (by omega)
        clear HL HK HX HY HT HU HM HN HZ
        go_wp2
        go_ret
        exact ⟨ret_b hT.out.symm, hb0⟩
      · have d1 : decide ((40 : Int) < (nn : Int)) = false := decide_eq_false (by omega)
        by_cases g2 : 40 < nf
        · have hT : Hid (Z = true) := by show _ = _; rw [HZ.out, show (L || R) = (R || L) from Bool.or_comm _ _, HL.out, decide_eq_true g2]; simp
          have d2 : decide ((40 : Int) < (nf : Int)) = true := decide_eq_true (by omega)
          clear HL HK HX HY HT HU HM HN HZ
          go_wp2
          go_ret
          exact ⟨ret_b hT.out.symm, hb0⟩
        · have d2 : decide ((40 : Int) < (nf : Int)) = false := decide_eq_false (by omega)
          have HL2 : Hid (L = T) := by show _ = _; rw [HL.out, decide_eq_false g1, decide_eq_false g2]; rfl
          clear HL
          go_wp2
          go_loopw [4] (fun s wx => ∃ k : Nat, k ≤ nn ∧ s = .int .i64 k ∧ Hid (∀ j, j < k → ¬ 100 < (tb nx j).length) ∧ wx = wr) (fun s _ => nn - (intOf s).toNat)
          case atStart => exact ⟨0, by omega, rfl, fun j hj => absurd hj (by omega), rfl⟩
          case round =>
            obtain ⟨k, hk, rfl, H, rfl⟩ := hrel
            by_cases hlt : k < nn
            · obtain ⟨ad, p, c', rfl, hbk, hcell, hi⟩ := HX.out k hlt
              have hm := HM.out k hlt
              unfold maxLen at hm
              have hlt2 : (k : Int) < (nn : Int) := by omega
              by_cases hb1 : 100 < (tb nx k).length
              · have hT : Hid (Z = true) := by show _ = _; rw [HZ.out, show (L || R) = (R || L) from Bool.or_comm _ _, HL2.out, HT.out.1 k hlt hb1]; simp
                have d3 : decide ((100 : Int) < ((tb nx k).length : Int)) = true := decide_eq_true (by omega)
                clear HL2 HX HY HT HU HM HN H hi HZ HK
                generalize (tb nx k).length = nk at *
                go_wp2
                go_ret
                exact ⟨ret_b hT.out.symm, hb0⟩
              · have d3 : decide ((100 : Int) < ((tb nx k).length : Int)) = false := decide_eq_false (by omega)
                have H' : Hid (∀ j, j < k + 1 → ¬ 100 < (tb nx j).length) := fun j hj => by
                  rcases Nat.lt_or_eq_of_le (Nat.le_of_lt_succ hj) with h1 | rfl
                  · exact H.out j h1
                  · exact hb1
                clear HL2 HX HY HT HU HM HN H hi hb1 HZ HK
                generalize (tb nx k).length = nk at *
                go_wp2
                go_roundw
                case rel => exact ⟨k + 1, by omega, by go_num, H', trivial⟩
                case measure => simp [intOf]; omega
            · obtain rfl : k = nn := by omega
              have hF : Hid (L = false) := by show _ = _; rw [HL2.out]; exact HT.out.2 H.out
              clear HL2 HX HY HT HU HM HN H HZ HK
              go_wp2
              go_roundw
              case rel => exact ⟨.inr (.inl ⟨rfl, hF⟩), trivial⟩
              case measure => simp [intOf]
    · by_cases g1 : 40 < mn
      · have hT : Hid (Z = true) := by show _ = _; rw [HZ.out, show (L || R) = (L || R) from rfl, HK.out, decide_eq_true g1]; simp
        have d1 : decide ((40 : Int) < (mn : Int)) = true := decide_eq_true (by omega)
        clear HL HK HX HY HT HU HM HN HZ
        go_wp2
        go_ret
        exact ⟨ret_b hT.out.symm, hb0⟩
      · have d1 : decide ((40 : Int) < (mn : Int)) = false := decide_eq_false (by omega)
        by_cases g2 : 40 < mf
        · have hT : Hid (Z = true) := by show _ = _; rw [HZ.out, show (L || R) = (L || R) from rfl, HK.out, decide_eq_true g2]; simp
          have d2 : decide ((40 : Int) < (mf : Int)) = true := decide_eq_true (by omega)
          clear HL HK HX HY HT HU HM HN HZ
          go_wp2
          go_ret
          exact ⟨ret_b hT.out.symm, hb0⟩
        · have d2 : decide ((40 : Int) < (mf : Int)) = false := decide_eq_false (by omega)
          have HL2 : Hid (R = U) := by show _ = _; rw [HK.out, decide_eq_false g1, decide_eq_false g2]; rfl
          clear HK
          go_wp2
          go_loopw [4] (fun s wx => ∃ k : Nat, k ≤ mn ∧ s = .int .i64 k ∧ Hid (∀ j, j < k → ¬ 100 < (tb mx j).length) ∧ wx = wr) (fun s _ => mn - (intOf s).toNat)
          case atStart => exact ⟨0, by omega, rfl, fun j hj => absurd hj (by omega), rfl⟩
          case round =>
            obtain ⟨k, hk, rfl, H, rfl⟩ := hrel
            by_cases hlt : k < mn
            · obtain ⟨ad, p, c', rfl, hbk, hcell, hi⟩ := HY.out k hlt
              have hm := HN.out k hlt
              unfold maxLen at hm
              have hlt2 : (k : Int) < (mn : Int) := by omega
              by_cases hb1 : 100 < (tb mx k).length
              · have hT : Hid (Z = true) := by show _ = _; rw [HZ.out, show (L || R) = (L || R) from rfl, HL2.out, HU.out.1 k hlt hb1]; simp
                have d3 : decide ((100 : Int) < ((tb mx k).length : Int)) = true := decide_eq_true (by omega)
                clear HL2 HX HY HT HU HM HN H hi HZ HL
                generalize (tb mx k).length = nk at *
                go_wp2
                go_ret
                exact ⟨ret_b hT.out.symm, hb0⟩
              · have d3 : decide ((100 : Int) < ((tb mx k).length : Int)) = false := decide_eq_false (by omega)
                have H' : Hid (∀ j, j < k + 1 → ¬ 100 < (tb mx j).length) := fun j hj => by
                  rcases Nat.lt_or_eq_of_le (Nat.le_of_lt_succ hj) with h1 | rfl
                  · exact H.out j h1
                  · exact hb1
                clear HL2 HX HY HT HU HM HN H hi hb1 HZ HL
                generalize (tb mx k).length = nk at *
                go_wp2
                go_roundw
                case rel => exact ⟨k + 1, by omega, by go_num, H', trivial⟩
                case measure => simp [intOf]; omega
            · obtain rfl : k = mn := by omega
              have hF : Hid (R = false) := by show _ = _; rw [HL2.out]; exact HU.out.2 H.out
              clear HL2 HX HY HT HU HM HN H HZ HL
              go_wp2
              go_roundw
              case rel => exact ⟨.inr (.inr ⟨rfl, hF0, hF⟩), trivial⟩
              case measure => simp [intOf]
    · have hT : Hid (Z = false) := by show _ = _; rw [HZ.out, hF0.out, hG0.out]; rfl
      clear HL HK HX HY HT HU HM HN HZ
      go_wp2
      go_ret
      exact ⟨ret_b hT.out.symm, hb0⟩
end Go.Proofs.YtkgeihambgbjdaaDoor.Mi
