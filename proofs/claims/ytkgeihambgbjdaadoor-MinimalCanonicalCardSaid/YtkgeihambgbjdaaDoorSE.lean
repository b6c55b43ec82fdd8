/- The kit's EqualRows, EqualBools and EqualDFA, whatever is compared. -/
import Derived.Test.YtkgeihambgbjdaaDoorPJ
namespace Go.Proofs.YtkgeihambgbjdaaDoor.Mi
open Go Go.RowKit Go.Proofs.YtkgeihambgbjdaaDoor Go.Proofs.YtkgeihambgbjdaaDoor.Cb Go.Proofs.YtkgeihambgbjdaaDoor.Sb
open Go.Proofs.YtkgeihambgbjdaaDoor.Nf (Bys zvs bvs ret_int ret_b drew_below)
open Go.Proofs.YtkgeihambgbjdaaDoor.Dg (Tabs tb tb_mem)
set_option linter.unusedVariables false
set_option linter.unusedSimpArgs false
set_option linter.unusedSectionVars false
set_option maxRecDepth 100000
/-- The first k entries agree. -/
def sameI (l m : List Int) : Prop := l = m
theorem bools_eq {l m : List Bool} (h : l.length = m.length) : l = m ↔ ∀ j, j < l.length → l.getD j false = m.getD j false := by
  constructor
  · intro e j _; rw [e]
  · intro hj
    apply List.ext_getElem h
    intro j h1 h2
    have := hj j h1
    rw [List.getD_eq_getElem?_getD, List.getD_eq_getElem?_getD, List.getElem?_eq_getElem h1, List.getElem?_eq_getElem h2] at this
    exact this
theorem rows_eq {L M : List (List Int)} (h : L.length = M.length) : L = M ↔ ∀ j, j < L.length → tb L j = tb M j := by
  constructor
  · intro e j _; rw [e]
  · intro hj
    apply List.ext_getElem h
    intro j h1 h2
    have := hj j h1
    unfold tb at this
    rw [List.getD_eq_getElem?_getD, List.getD_eq_getElem?_getD, List.getElem?_eq_getElem h1, List.getElem?_eq_getElem h2] at this
    exact this
set_option maxHeartbeats 4000000 in
theorem EqualBools_dec (A B : Option Addr) (l m : List Bool) (c d : Nat) (w : World) (hx : Bools w A l) (hy : Bools w B m) (hl : l.length ≤ 1000000) (hm : m.length ≤ 1000000) :
    Calls Tryd.prog 46 #[.slice A l.length c, .slice B m.length d] w fun e w' => e = .returned (.bool (decide (l = m))) ∧ ∃ n, w' = w.drewN n := by
  by_cases hlen : l.length = m.length
  · have hn0 : ((l.length : Int) != (m.length : Int)) = false := by simp [hlen]
    rw [← hlen]
    have hn1 : ((l.length : Int) != (l.length : Int)) = false := by simp
    have hE := Lib.hid (bools_eq hlen)
    have hLL := Lib.hid hlen
    obtain ⟨R, hR0⟩ : ∃ R, R = decide (l = m) := ⟨_, rfl⟩
    rw [← hR0]
    have hRR := Lib.hid hR0
    clear hn0 hlen hR0
    go_enter Tryd.func46, Tryd.ntmps46
    go_wp2
    go_loopw [5] (fun i wr => ∃ k q : Nat, k ≤ l.length ∧ i = .int .i64 k ∧ wr = w.drewN q ∧ Hid (∀ j, j < k → l.getD j false = m.getD j false)) (fun i _ => l.length - (intOf i).toNat)
    case atStart => exact ⟨0, 0, by omega, rfl, rfl, fun j hj => by omega⟩
    case round =>
      obtain ⟨k, q, hk, rfl, rfl, hA⟩ := hrel
      by_cases hlt : k < l.length
      · obtain ⟨ad, rfl, hcell⟩ := Vals.at_ hx hlt
        obtain ⟨bd, rfl, hcell'⟩ := Vals.at_ hy (by have := hLL.out; omega : k < m.length)
        have hlt2 : (k : Int) < (l.length : Int) := by omega
        by_cases he : l.getD k false = m.getD k false
        · have hA2 : Hid (∀ j, j < k + 1 → l.getD j false = m.getD j false) := fun j hj => by
            by_cases h1 : j < k
            · exact hA.out j h1
            · rw [show j = k by omega]; exact he
          rw [← he] at hcell'
          clear he hA hE
          generalize l.getD k false = x at *
          have hne : (x != x) = false := by simp
          go_wp2
          go_quiet (fail)
          go_wp2
          go_roundw
          case rel => exact ⟨k + 1, _, by omega, by go_num, rfl, hA2⟩
          case measure => simp [intOf]; omega
        · have hR : Hid (false = R) := (hRR.out.trans (decide_eq_false fun e => he (by rw [e]))).symm
          have hxy : (l.getD k false != m.getD k false) = true := by rw [bne_iff_ne]; exact he
          have hxy2 : (!(l.getD k false == m.getD k false)) = true := hxy
          clear hA hE hRR he
          generalize l.getD k false = x at *
          generalize m.getD k false = y at *
          go_wp2
          go_quiet (fail)
          go_wp2
          go_ret
          exact ⟨ret_b hR.out, _, by first | rfl | exact World.drewN_drewN ..⟩
      · obtain rfl : k = l.length := by omega
        have hR : Hid (true = R) := (hRR.out.trans (decide_eq_true (hE.out.2 hA.out))).symm
        clear hA hE hRR
        go_wp2
        go_ret
        exact ⟨ret_b hR.out, _, by first | rfl | exact World.drewN_drewN ..⟩
  · have hn0 : ((l.length : Int) != (m.length : Int)) = true := by rw [bne_iff_ne]; omega
    have hR : decide (l = m) = false := decide_eq_false fun e => hlen (by rw [e])
    rw [hR]
    clear hR hlen hx hy
    generalize l.length = nl at *
    generalize m.length = nm at *
    go_enter Tryd.func46, Tryd.ntmps46
    go_wp2
    go_ret
    exact ⟨rfl, 0, rfl⟩
set_option maxHeartbeats 4000000 in
theorem EqualRows_dec (A B : Option Addr) (L M : List (List Int)) (c d : Nat) (w : World) (hx : Tabs w A L) (hy : Tabs w B M) (hl : L.length ≤ 1000000) (hm : M.length ≤ 1000000) (hs : ∀ u ∈ L, u.length ≤ 1000000) (hs' : ∀ u ∈ M, u.length ≤ 1000000) :
    Calls Tryd.prog 45 #[.slice A L.length c, .slice B M.length d] w fun e w' => e = .returned (.bool (decide (L = M))) ∧ Below w.heap.size w w' := by
  by_cases hlen : L.length = M.length
  · have HE : Hid (∀ j, j < L.length → ∀ X p q c' d', Ints X p (tb L j) → Ints X q (tb M j) → Calls Tryd.prog 21 #[.slice p (tb L j).length c', .slice q (tb M j).length d'] X fun e w' => e = .returned (.bool (decide (tb L j = tb M j))) ∧ Below X.heap.size X w') := fun j hj X p q c' d' h1 h2 =>
      Dg.EqualInts_any p q (tb L j) (tb M j) c' d' X h1 h2 (by have := hs _ (tb_mem hj); unfold maxLen; omega)
    have HX := Lib.hid hx
    have HY := Lib.hid hy
    have hQ := Lib.hid (rows_eq hlen)
    have hLL := Lib.hid hlen
    obtain ⟨R, hR0⟩ : ∃ R, R = decide (L = M) := ⟨_, rfl⟩
    rw [← hR0]
    have hRR := Lib.hid hR0
    clear hR0
    rw [← hlen]
    have hn0 : ((L.length : Int) != (L.length : Int)) = false := by simp
    clear hs hs' hx hy hlen hm
    go_enter Tryd.func45, Tryd.ntmps45
    go_wp2
    go_loopw [5] (fun i wr => ∃ k : Nat, k ≤ L.length ∧ i = .int .i64 k ∧ Below w.heap.size w wr ∧ Hid (∀ j, j < k → tb L j = tb M j)) (fun i _ => L.length - (intOf i).toNat)
    case atStart => exact ⟨0, by omega, rfl, Below.refl _ _, fun j hj => by omega⟩
    case round =>
      obtain ⟨k, hk, rfl, hb, hA⟩ := hrel
      by_cases hlt : k < L.length
      · obtain ⟨ad, p, c', rfl, hbk, hcell, hi⟩ := (HX.out.below hb) k hlt
        obtain ⟨bd, p', d', rfl, hbk', hcell', hi'⟩ := (HY.out.below hb) k (by have := hLL.out; omega)
        have HEk := Lib.hid fun X hX => HE.out k hlt X p p' c' d' (Vals.below hi hX) (Vals.below hi' hX)
        have hlt2 : (k : Int) < (L.length : Int) := by omega
        have hA2 : Hid (tb L k = tb M k → ∀ j, j < k + 1 → tb L j = tb M j) := fun he j hj => by
          by_cases h1 : j < k
          · exact hA.out j h1
          · rw [show j = k by omega]; exact he
        have hR : Hid (¬ tb L k = tb M k → false = R) := fun he => (hRR.out.trans (decide_eq_false fun e => he (by rw [e]))).symm
        clear HE hi hi' HX HY hA hQ hRR
        obtain ⟨P, hP⟩ : ∃ P, P = decide (tb L k = tb M k) := ⟨_, rfl⟩
        rw [← hP] at HEk
        have hP1 : Hid (P = true → tb L k = tb M k) := fun h => of_decide_eq_true (hP ▸ h)
        have hP2 : Hid (P = false → ¬ tb L k = tb M k) := fun h => of_decide_eq_false (hP ▸ h)
        clear hP
        generalize hnk : (tb L k).length = nk at *
        generalize hmk : (tb M k).length = mk at *
        clear hnk hmk
        go_wp2
        have KE : Below wr.heap.size wr wr.drew := drew_below wr
        have hS : wr.drew.cell? (ad.add k) = some (.slice p nk c') ∧ wr.drew.cell? (bd.add k) = some (.slice p' mk d') ∧ Below wr.heap.size wr wr.drew := ⟨(KE.cell (by rw [addr_block]; exact hbk)).trans hcell, (KE.cell (by rw [addr_block]; exact hbk')).trans hcell', KE⟩
        go_region_held3 (fun w' => w'.cell? (ad.add k) = some (.slice p nk c') ∧ w'.cell? (bd.add k) = some (.slice p' mk d') ∧ Below wr.heap.size wr w')
          (first | assumption)
          ((go_at_call 21; ((with_reducible refine (HEk.out wr.drew KE).mono ?_); rintro e w2 ⟨rfl, hb2⟩); have K2 := stepB KE hb2; have hS2 : w2.cell? (ad.add k) = some (.slice p nk c') ∧ w2.cell? (bd.add k) = some (.slice p' mk d') ∧ Below wr.heap.size wr w2 := ⟨(K2.cell (by rw [addr_block]; exact hbk)).trans hcell, (K2.cell (by rw [addr_block]; exact hbk')).trans hcell', K2⟩))
        have K := hS2.2.2
        clear hS hS2 KE K2 hb2 HEk hcell hcell'
        cases P with
        | true =>
          have hA3 := Lib.hid (hA2.out (hP1.out rfl))
          clear hA2 hP1 hP2 hR
          go_wp2
          go_roundw
          case rel => exact ⟨k + 1, by omega, by go_num, stepB hb K, hA3⟩
          case measure => simp [intOf]; omega
        | false =>
          have hR2 := Lib.hid (hR.out (hP2.out rfl))
          clear hA2 hP1 hP2 hR
          go_wp2
          go_ret
          exact ⟨ret_b hR2.out, stepB hb K⟩
      · obtain rfl : k = L.length := by omega
        have hR : Hid (true = R) := (hRR.out.trans (decide_eq_true (hQ.out.2 hA.out))).symm
        clear HX HY HE hA hQ hRR
        go_wp2
        go_ret
        exact ⟨ret_b hR.out, hb⟩
  · have hn0 : ((L.length : Int) != (M.length : Int)) = true := by rw [bne_iff_ne]; omega
    have hR : decide (L = M) = false := decide_eq_false fun e => hlen (by rw [e])
    rw [hR]
    clear hR hlen hx hy hs hs'
    generalize L.length = nl at *
    generalize M.length = nm at *
    go_enter Tryd.func45, Tryd.ntmps45
    go_wp2
    go_ret
    exact ⟨rfl, Below.refl _ _⟩
theorem da_eq {d e : Da} : d = e ↔ d.V = e.V ∧ d.q0 = e.q0 ∧ d.nx = e.nx ∧ d.fi = e.fi := by
  obtain ⟨a1, a2, a3, a4⟩ := d
  obtain ⟨b1, b2, b3, b4⟩ := e
  simp
/-- Whether two automata are the same. -/
def eqD (d e : Da) : Bool := (d.V == e.V) && (d.q0 == e.q0) && decide (d.nx = e.nx) && decide (d.fi = e.fi)
theorem eqD_iff {d e : Da} : eqD d e = true ↔ d = e := by
  unfold eqD
  rw [da_eq]
  simp [and_assoc]
set_option maxHeartbeats 4000000 in
theorem EqualDFA_dec (d e : Da) (A B A' B' : Option Addr) (a b a' b' : Nat) (w : World) (hx : DaAt w d A B) (hy : DaAt w e A' B') (hl : DaLen d) (hl' : DaLen e) :
    Calls Tryd.prog 20 #[.agg #[.int .i64 d.V, .int .i64 d.q0, .slice A d.nx.length a, .slice B d.fi.length b], .agg #[.int .i64 e.V, .int .i64 e.q0, .slice A' e.nx.length a', .slice B' e.fi.length b']] w fun r w' => r = .returned (.bool (eqD d e)) ∧ Below w.heap.size w w' := by
  have hb0 := bal (bal (Below.refl w.heap.size w) (.cells #[.int .i64 d.V, .int .i64 d.q0, .slice A d.nx.length a, .slice B d.fi.length b] 25)) (.cells #[.int .i64 e.V, .int .i64 e.q0, .slice A' e.nx.length a', .slice B' e.fi.length b'] 25)
  have hB1 := (Blk4.new w (.int .i64 d.V) (.int .i64 d.q0) (.slice A d.nx.length a) (.slice B d.fi.length b)).below (bal (Below.refl _ _) (.cells #[.int .i64 e.V, .int .i64 e.q0, .slice A' e.nx.length a', .slice B' e.fi.length b'] 25))
  have hB2 := Blk4.new (w.alloc (.cells #[.int .i64 d.V, .int .i64 d.q0, .slice A d.nx.length a, .slice B d.fi.length b] 25)) (.int .i64 e.V) (.int .i64 e.q0) (.slice A' e.nx.length a') (.slice B' e.fi.length b')
  rw [World.size_alloc] at hB2
  have H1 := Lib.hid fun X (hX : Below w.heap.size w X) => EqualRows_dec A A' d.nx e.nx a a' X (hx.nx.below hX) (hy.nx.below hX) hl.nx hl'.nx hl.row hl'.row
  have H2 := Lib.hid fun X (hX : Below w.heap.size w X) => EqualBools_dec B B' d.fi e.fi b b' X (hx.fi.below hX) (hy.fi.below hX) hl.fi hl'.fi
  unfold eqD
  obtain ⟨V, q0, nx, fi⟩ := d
  obtain ⟨V', q0', nx', fi'⟩ := e
  dsimp only at *
  clear hx hy hl hl'
  generalize decide (nx = nx') = P at *
  generalize decide (fi = fi') = Q at *
  obtain ⟨R1, hR1⟩ : ∃ R, R = (V == V') := ⟨_, rfl⟩
  obtain ⟨R2, hR2⟩ : ∃ R, R = (q0 == q0') := ⟨_, rfl⟩
  rw [← hR1, ← hR2]
  generalize nx.length = nn at *
  generalize fi.length = nf at *
  generalize nx'.length = nn' at *
  generalize fi'.length = nf' at *
  obtain ⟨z0, z1, z2, z3⟩ := hB1.cells
  obtain ⟨y0, y1, y2, y3⟩ := hB2.cells
  cases R1 <;> cases R2 <;> cases P <;> cases Q
  all_goals
    replace hR1 := hR1.symm
    replace hR2 := hR2.symm
    go_enter Tryd.func20, Tryd.ntmps20
    go_wp2_with (first
      | (go_at_call 45; ((with_reducible refine (H1.out _ hb0).mono ?_); rintro e w2 ⟨rfl, hb2⟩); clear z0 z1 z2 z3 y0 y1 y2 y3; replace hB1 := hB1.below hb2; replace hB2 := hB2.below hb2; replace hb0 := stepB hb0 hb2; clear H1; obtain ⟨z0, z1, z2, z3⟩ := hB1.cells; obtain ⟨y0, y1, y2, y3⟩ := hB2.cells)
      | (go_at_call 46; ((with_reducible refine (H2.out _ hb0).mono ?_); rintro e w3 ⟨rfl, nq, rfl⟩); replace hb0 := stepB hb0 (Ap.drewN_below _ nq)))
    go_ret
    exact ⟨rfl, hb0⟩
end Go.Proofs.YtkgeihambgbjdaaDoor.Mi
