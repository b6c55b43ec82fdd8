/- Lists of ints: comparison, copies, overwriting. -/
import Derived.Test.YteckkbjpeckjmaaDoorAP
import Derived.Test.YteckkbjpeckjmaaDoorProg
import Derived.Deep.QuietTactic
import Derived.BigQuiet
namespace Go.Proofs.YteckkbjpeckjmaaDoor.Dg
open Go Go.RowKit Go.Proofs.YteckkbjpeckjmaaDoor.Ap
set_option maxRecDepth 100000
theorem info_int : (Tryd.prog.info? 3).map (fun i => (i.zero, i.size, i.bytes)) = some (some (.int .i64 0), 1, 8) := by kernel_rfl
theorem nd_ext {xs ys : List Int} (h : xs.length = ys.length) (hk : ∀ i, i < xs.length → nd xs i = nd ys i) : xs = ys := by
  apply List.ext_getElem h
  intro i h1 h2
  have := hk i h1
  simpa [nd, h1, h2] using this
theorem ivs_nd (l : List Int) : (List.range l.length).map (fun j => Value.int .i64 (nd l j)) = l.map (Value.int .i64) := by
  apply List.ext_getElem
  · simp
  · intro j h1 h2
    have : j < l.length := by simpa using h1
    simp [nd, this]
theorem ints_row {w : World} {base : Nat} {A : Option Addr} {n c : Nat} {l : List Int} (h : w.ownsRow base 3 1 (.slice A n c) n (l.map (Value.int .i64))) (hn : n = l.length) : Ints w A l := by
  subst hn
  exact Vals.of_own h fun j hj => by simp [nd, hj]
theorem ints_new (W : World) (t : TypeId) (l : List Int) : Ints (W.alloc (.cells (l.map (Value.int .i64)).toArray t)) (some ⟨W.heap.size, 0, none⟩) l :=
  vals_new_ W t _ _ _ fun j hj => by simp [nd, hj]
set_option maxHeartbeats 1000000 in
theorem EqualInts_any (A B : Option Addr) (xs ys : List Int) (c d : Nat) (w : World) (hx : Ints w A xs) (hy : Ints w B ys) (hl : xs.length ≤ maxLen) :
    Calls Tryd.prog 30 #[.slice A xs.length c, .slice B ys.length d] w fun e w' => e = .returned (.bool (decide (xs = ys))) ∧ Below w.heap.size w w' := by
  unfold maxLen at hl
  by_cases hlen : xs.length = ys.length
  · have HE := Lib.hid hlen
    have hle : xs.length ≤ ys.length := by omega
    have hge : ys.length ≤ xs.length := by omega
    clear hlen
    go_enter Tryd.func30, Tryd.ntmps30
    go_wp2
    go_loopw [5] (fun i wr => ∃ k q : Nat, k ≤ xs.length ∧ i = .int .i64 k ∧ Hid (∀ i, i < k → nd xs i = nd ys i) ∧ wr = w.drewN q) (fun i _ => xs.length - (intOf i).toNat)
    case atStart => exact ⟨0, 0, by omega, rfl, fun i hi => absurd hi (by omega), rfl⟩
    case round =>
      obtain ⟨k, q, hk, rfl, H, rfl⟩ := hrel
      by_cases hlt : k < xs.length
      · obtain ⟨ad, rfl, hcell⟩ := hx.at_ hlt
        obtain ⟨bd, rfl, hcell'⟩ := hy.at_ (j := k) (by omega)
        by_cases h : nd xs k = nd ys k
        · have H' : Hid (∀ i, i < k + 1 → nd xs i = nd ys i) := fun i hi => by
            rcases Nat.lt_or_eq_of_le (Nat.le_of_lt_succ hi) with h1 | rfl
            · exact H.out i h1
            · exact h
          rw [← h] at hcell'
          clear h H
          go_wp2
          go_quiet (fail)
          go_wp2
          go_roundw
          case rel => exact ⟨k + 1, q + nq, by omega, by go_num, H', by simp⟩
          case measure => simp [intOf]; omega
        · have HF : Hid (decide (xs = ys) = false) := by
            show _ = _
            rw [decide_eq_false_iff_not]
            rintro rfl
            exact h rfl
          have hne : (nd xs k != nd ys k) = true := by rw [bne_iff_ne]; exact h
          clear h H HE
          generalize nd ys k = y at *
          go_wp2
          go_quiet (fail)
          go_wp2
          go_ret
          exact ⟨ret_bool HF.out.symm, by rw [World.drewN_drewN]; exact drewN_below _ _⟩
      · obtain rfl : k = xs.length := by omega
        have HT : Hid (decide (xs = ys) = true) := by
          show _ = _
          rw [decide_eq_true_iff]
          exact nd_ext HE.out H.out
        go_wp2
        go_ret
        exact ⟨ret_bool HT.out.symm, drewN_below _ _⟩
  · have H' : Hid (decide (xs = ys) = false) := by
      show _ = _
      rw [decide_eq_false_iff_not]
      rintro rfl
      exact hlen rfl
    have hne : (((xs.length : Nat) : Int) != ((ys.length : Nat) : Int)) = true := by rw [bne_iff_ne]; exact_mod_cast hlen
    clear hlen
    go_enter Tryd.func30, Tryd.ntmps30
    go_wp2
    go_ret
    exact ⟨ret_bool H'.out.symm, Below.refl _ _⟩
/-- Each of the n ints at A may be overwritten; they lie in no block below B. -/
def CanI (B : Nat) (w : World) (A : Option Addr) (n : Nat) : Prop :=
  ∀ j, j < n → ∃ ad, A = some ad ∧ B ≤ ad.block ∧ w.frozen? (ad.add j) = false ∧ ∃ u, w.cell? (ad.add j) = some u
theorem CanI.set {B : Nat} {w : World} {A : Option Addr} {n : Nat} (h : CanI B w A n) (p : Addr) (v : Value) : CanI B (w.setCell p v) A n := by
  intro j hj
  obtain ⟨ad, e, h1, h2, u, h4⟩ := h j hj
  refine ⟨ad, e, h1, by rw [World.frozen?_setCell]; exact h2, ?_⟩
  by_cases hp : p = ad.add j
  · subst hp
    exact ⟨v, World.cell?_setCell_same _ _ _ h4⟩
  · exact ⟨u, by rw [World.cell?_setCell_other _ _ _ _ hp]; exact h4⟩
theorem own_somev {w : World} {base e size n : Nat} {v : Value} {xs : List Value} (h : w.ownsRow base e size v n xs) (hn : 0 < n) : ∃ g c, v = .slice (some ⟨g, 0, none⟩) n c ∧ base ≤ g := by
  rcases h.2 with ⟨h1, _⟩ | ⟨g, cap, cur, rfl, h2, _⟩
  · omega
  · exact ⟨_, _, rfl, h2⟩
theorem CanI.own {B : Nat} {w : World} {e n c : Nat} {A : Option Addr} {xs : List Value} (h : w.ownsRow B e 1 (.slice A n c) n xs) : CanI B w A n := by
  intro j hj
  obtain ⟨g, c', hv, hg⟩ := own_somev h (by omega)
  injection hv with hA _ hc
  subst hA hc
  have hx : j < xs.length := by have := h.1; omega
  refine ⟨_, rfl, hg, ?_, xs[j], ?_⟩
  · rw [addr_add]; exact h.frozenAt j
  · rw [addr_add, h.cellAt j (by omega), List.getElem?_eq_getElem hx]
end Go.Proofs.YteckkbjpeckjmaaDoor.Dg
