/- The kit's EqualRegex. -/
import Derived.Test.YtbimfndkmolcdaaYZN
namespace Go.Proofs.Ytbimfndkmolcdaa.Rx
open Go Go.RowKit Go.Shelf Go.Proofs.Ytbimfndkmolcdaa
set_option linter.unusedVariables false
set_option maxRecDepth 100000
theorem pc_ext {xs ys : List Pc} (h : xs.length = ys.length) (hk : ∀ i, i < xs.length → pc xs i = pc ys i) : xs = ys := by
  apply List.ext_getElem h
  intro i h1 h2
  have := hk i h1
  simpa [pc, h1, h2] using this
set_option maxHeartbeats 8000000 in
theorem EqualRegex_any (A B : Option Addr) (xs ys : List Pc) (c d : Nat) (w : World) (hx : PcsAt w A xs) (hy : PcsAt w B ys) (hl : xs.length ≤ 1000000) :
    Calls Try.prog 25 #[.slice A xs.length c, .slice B ys.length d] w fun e w' => e = .returned (.bool (decide (xs = ys))) ∧ ∃ n, w' = w.drewN n := by
  by_cases hlen : xs.length = ys.length
  · have HE := Lib.hid hlen
    have HX := Lib.hid fun (q : Nat) j (hj : j < xs.length) => pcs_five (w := w) (wr := w) hx (Below.refl _ _) hj
    have HY := Lib.hid fun (q : Nat) j (hj : j < ys.length) => pcs_five (w := w) (wr := w) hy (Below.refl _ _) hj
    obtain ⟨n, hn⟩ : ∃ n, n = xs.length := ⟨_, rfl⟩
    have HN := Lib.hid hn
    rw [← hlen, ← hn] at HY ⊢
    rw [← hn] at HX hl
    have hn2 : n = ys.length := by omega
    have HN2 := Lib.hid hn2
    clear hlen hx hy hn hn2
    go_enter Try.func25, Try.ntmps25
    go_wp2
    go_loopw [5] (fun i wr => ∃ k q : Nat, k ≤ n ∧ i = .int .i64 k ∧ Hid (∀ i, i < k → pc xs i = pc ys i) ∧ wr = w.drewN q) (fun i _ => n - (intOf i).toNat)
    case atStart => exact ⟨0, 0, by omega, rfl, fun i hi => absurd hi (by omega), rfl⟩
    case round =>
      obtain ⟨k, q, hk, rfl, H, rfl⟩ := hrel
      by_cases hlt : k < n
      · obtain ⟨ad, rfl, _, _, f0, f1, f2, f3, f4⟩ := HX.out q k hlt
        obtain ⟨bd, rfl, _, _, g0, g1, g2, g3, g4⟩ := HY.out q k hlt
        have hlt2 : (k : Int) < n := by omega
        by_cases h : pc xs k = pc ys k
        · have H' : Hid (∀ i, i < k + 1 → pc xs i = pc ys i) := fun i hi => by
            rcases Nat.lt_or_eq_of_le (Nat.le_of_lt_succ hi) with h1 | rfl
            · exact H.out i h1
            · exact h
          rw [← h] at g0 g1 g2 g3 g4
          clear h H HX HY
          generalize pc xs k = x at *
          go_wp2
          go_quiet (fail)
          go_wp2
          go_roundw
          case rel => exact ⟨k + 1, _, by omega, by go_num, H', rfl⟩
          case measure => simp [intOf]; omega
        · have H' : Hid (decide (xs = ys) = false) := by
            show _ = _
            rw [decide_eq_false_iff_not]
            rintro rfl
            exact h rfl
          generalize pc xs k = x at *
          generalize pc ys k = y at *
          obtain ⟨o1, p1, q1, a1, b1⟩ := x
          obtain ⟨o2, p2, q2, a2, b2⟩ := y
          simp only at f0 f1 f2 f3 f4 g0 g1 g2 g3 g4
          have hcs : ((o1 : Int) == (o2 : Int)) = false ∨ (((o1 : Int) == (o2 : Int)) = true ∧ ((p1 : Int) == (p2 : Int)) = false) ∨ (((o1 : Int) == (o2 : Int)) = true ∧ ((p1 : Int) == (p2 : Int)) = true ∧ ((q1 : Int) == (q2 : Int)) = false) ∨
              (((o1 : Int) == (o2 : Int)) = true ∧ ((p1 : Int) == (p2 : Int)) = true ∧ ((q1 : Int) == (q2 : Int)) = true ∧ (a1 == a2) = false) ∨ (((o1 : Int) == (o2 : Int)) = true ∧ ((p1 : Int) == (p2 : Int)) = true ∧ ((q1 : Int) == (q2 : Int)) = true ∧ (a1 == a2) = true ∧ (b1 == b2) = false) := by
            by_cases h1 : o1 = o2
            · have e1 := nat_eq0 (n := o1) (k := (o2 : Int)) (by omega)
              by_cases h2 : p1 = p2
              · have e2 := nat_eq0 (n := p1) (k := (p2 : Int)) (by omega)
                by_cases h3 : q1 = q2
                · have e3 := nat_eq0 (n := q1) (k := (q2 : Int)) (by omega)
                  by_cases h4 : a1 = a2
                  · have e4 := int_eq0 h4
                    by_cases h5 : b1 = b2
                    · exact absurd (by rw [h1, h2, h3, h4, h5]) h
                    · exact .inr (.inr (.inr (.inr ⟨e1, e2, e3, e4, int_ne0 h5⟩)))
                  · exact .inr (.inr (.inr (.inl ⟨e1, e2, e3, int_ne0 h4⟩)))
                · exact .inr (.inr (.inl ⟨e1, e2, nat_ne0 (by omega)⟩))
              · exact .inr (.inl ⟨e1, nat_ne0 (by omega)⟩)
            · exact .inl (nat_ne0 (by omega))
          clear h H HX HY
          rcases hcs with e1 | ⟨e1, e2⟩ | ⟨e1, e2, e3⟩ | ⟨e1, e2, e3, e4⟩ | ⟨e1, e2, e3, e4, e5⟩
          all_goals
            go_wp2
            go_quiet (fail)
            go_wp2
            go_ret
            exact ⟨ret_bf H'.out, _, by rw [World.drewN_drewN]⟩
      · have H' : Hid (decide (xs = ys) = true) := by
          show _ = _
          rw [decide_eq_true_iff]
          exact pc_ext HE.out fun i hi => H.out i (by have := HN.out; omega)
        clear H HX HY
        obtain rfl : k = n := by omega
        go_wp2
        go_ret
        exact ⟨ret_bt H'.out, _, rfl⟩
  · have H' : Hid (decide (xs = ys) = false) := by
      show _ = _
      rw [decide_eq_false_iff_not]
      rintro rfl
      exact hlen rfl
    have hne : (((xs.length : Nat) : Int) != ((ys.length : Nat) : Int)) = true := by rw [bne_iff_ne]; exact_mod_cast hlen
    clear hlen hx hy
    generalize xs.length = n at *
    generalize ys.length = m at *
    go_enter Try.func25, Try.ntmps25
    go_wp2
    go_ret
    exact ⟨ret_bf H'.out, 0, rfl⟩
end Go.Proofs.Ytbimfndkmolcdaa.Rx
