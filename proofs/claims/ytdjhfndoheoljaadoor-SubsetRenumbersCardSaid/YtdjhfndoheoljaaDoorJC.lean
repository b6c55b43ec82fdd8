/- Words through a deterministic automaton: step, follow, end, checkWord, Run, Accepts (package subset). -/
import Derived.Test.YtdjhfndoheoljaaDoorJB
import Derived.Test.YtdjhfndoheoljaaDoorFH
import Derived.Deep.RegionHeld3
namespace Go.Proofs.YtdjhfndoheoljaaDoor.Sb
open Go Go.RowKit Go.Proofs.YtdjhfndoheoljaaDoor Go.Proofs.YtdjhfndoheoljaaDoor.Cb
open Go.Proofs.YtdjhfndoheoljaaDoor.Nf (ret_int ret_b inS Boxed4 Boxed4.new Boxed4.below Boxed4.cells Boxed5 bys_new Bys Bys.below wordE)
open Go.Proofs.YtdjhfndoheoljaaDoor.Dg (Tabs tb tb_mem mem_tb)
set_option linter.unusedVariables false
set_option linter.unusedSimpArgs false
set_option maxRecDepth 100000
/-- Every entry is a row number, every row has L entries. -/
structure Sq (T : List (List Int)) (L : Nat) : Prop where
  row : ∀ r ∈ T, r.length = L ∧ ∀ z ∈ r, 0 ≤ z ∧ z < (T.length : Int)
theorem OkD.sq {d : Da} (h : OkD d) : Sq d.nx (2 ^ d.V.toNat) := ⟨fun r hr => h.row r hr⟩
theorem Sq.at_ {T : List (List Int)} {L : Nat} (h : Sq T L) {q x : Nat} (hq : q < T.length) (hx : x < L) : 0 ≤ nd (tb T q) x ∧ nd (tb T q) x < (T.length : Int) := by
  obtain ⟨h1, h2⟩ := h.row _ (tb_mem hq)
  refine h2 _ ?_
  unfold nd
  rw [List.getD_eq_getElem?_getD, List.getElem?_eq_getElem (by omega)]
  exact List.getElem_mem _
theorem stepT_nat (T : List (List Int)) (q x : Nat) : stepT T (q : Int) x = nd (tb T q) x := by
  unfold stepT
  rw [Int.toNat_natCast]
  rfl
theorem Sq.step {T : List (List Int)} {L : Nat} (h : Sq T L) {q : Int} {x : Nat} (hq : 0 ≤ q ∧ q < (T.length : Int)) (hx : x < L) : 0 ≤ stepT T q x ∧ stepT T q x < (T.length : Int) := by
  obtain ⟨k, rfl⟩ : ∃ k : Nat, q = k := ⟨q.toNat, by omega⟩
  rw [stepT_nat]
  exact h.at_ (by omega) hx
theorem Sq.run {T : List (List Int)} {L : Nat} (h : Sq T L) : ∀ {w : List Nat} {q : Int}, (0 ≤ q ∧ q < (T.length : Int)) → (∀ x ∈ w, x < L) → 0 ≤ runT T q w ∧ runT T q w < (T.length : Int)
  | [], _, hq, _ => hq
  | x :: w, q, hq, hx => h.run (w := w) (h.step hq (hx x (by simp))) fun y hy => hx y (by simp [hy])
theorem runT_snoc (T : List (List Int)) (q : Int) {l : List Nat} {k : Nat} (h : k < l.length) : runT T q (l.take (k + 1)) = stepT T (runT T q (l.take k)) (wd l k) := by
  unfold runT
  rw [List.take_add_one, List.getElem?_eq_getElem h, List.foldl_append]
  unfold wd
  rw [List.getD_eq_getElem?_getD, List.getElem?_eq_getElem h]
  rfl
theorem stepD_any (A : Option Addr) (T : List (List Int)) (a q x : Nat) (w : World) (hx : Tabs w A T) (hq : q < T.length) (hxl : x < (tb T q).length) :
    Calls Tryd.prog 111 #[.slice A T.length a, .int .i64 q, .int .u8 x] w fun e w' => e = .returned (.int .i64 (stepT T q x)) ∧ w = w' := by
  rw [stepT_nat]
  obtain ⟨ad, p, c, rfl, hbk, hcell, hi⟩ := hx q hq
  obtain ⟨ad2, rfl, hc2⟩ := hi.at_ hxl
  have h1 : (q : Int) < (T.length : Int) := by omega
  have h2 : (x : Int) < ((tb T q).length : Int) := by omega
  clear hi hx
  generalize nd (tb T q) x = z at *
  generalize (tb T q).length = m at *
  generalize T.length = n at *
  go_enter Tryd.func111, Tryd.ntmps111
  go_wp2
  go_ret
  exact ⟨rfl, rfl⟩
theorem enters_step : ∀ args w, (callFunc 111 args).run Tryd.prog w = .ok (.enter 111 args) w := enters_of Tryd.func111 (by kernel_rfl) rfl
set_option maxHeartbeats 1000000 in
theorem follow_any (A : Option Addr) (T : List (List Int)) (a : Nat) (q : Nat) (D : Option Addr) (l : List Nat) (c : Nat) (L : Nat) (w : World) (hx : Tabs w A T) (hS : Sq T L) (hq : q < T.length) (hw : Bys w D l) (hlt : ∀ x ∈ l, x < L) (hll : l.length ≤ 1000000) :
    Calls Tryd.prog 110 #[.func (.func 111) #[.slice A T.length a] #[], .int .i64 q, .slice D l.length c] w fun e w' => e = .returned (.int .i64 (runT T q l)) ∧ Below w.heap.size w w' := by
  have HS := Lib.hid fun X (hX : Below w.heap.size w X) (j x : Nat) (hj : j < T.length) (hxL : x < L) => stepD_any A T a j x X (hx.below hX) hj (by rw [(hS.row _ (tb_mem hj)).1]; exact hxL)
  have HB := Lib.hid fun (j x : Nat) (hj : j < T.length) (hxL : x < L) => hS.step (q := (j : Int)) (by omega) hxL
  have HT := Lib.hid fun k (hk : k < l.length) => runT_snoc T q hk
  have HL := Lib.hid fun k (hk : k < l.length) => (hlt (wd l k) (by unfold wd; rw [List.getD_eq_getElem?_getD, List.getElem?_eq_getElem hk]; exact List.getElem_mem hk))
  have HZ : Hid (runT T q (l.take 0) = (q : Int)) := rfl
  have HE : Hid (runT T q (l.take l.length) = runT T q l) := by show _ = _; rw [List.take_length]
  generalize hR : (fun k => runT T (q : Int) (l.take k)) = R at *
  have HT' : Hid (∀ k, k < l.length → R (k + 1) = stepT T (R k) (wd l k)) := fun k hk => by rw [← hR]; exact HT.out k hk
  have HZ' : Hid (R 0 = (q : Int)) := by rw [← hR]; exact HZ.out
  have HE' : Hid (R l.length = runT T q l) := by rw [← hR]; exact HE.out
  clear HT HZ HE hR hlt hS
  generalize runT T q l = res at *
  go_enter Tryd.func110, Tryd.ntmps110
  go_wp2
  go_loopw [1, 11] (fun s i wr => ∃ (k j : Nat), k ≤ l.length ∧ i = .int .i64 k ∧ j < T.length ∧ s = .int .i64 j ∧ Hid (R k = (j : Int)) ∧ Below w.heap.size w wr) (fun _ i _ => l.length - (intOf i).toNat)
  case atStart => exact ⟨0, q, by omega, rfl, hq, rfl, HZ', Below.refl _ _⟩
  case round =>
    obtain ⟨k, j, hk, rfl, hj, rfl, HR, hb⟩ := hrel
    by_cases hlt : k < l.length
    · obtain ⟨ad, rfl, hcell⟩ := (hw.below hb).at_ hlt
      have hxL := HL.out k hlt
      have hbd := HB.out j (wd l k) hj hxL
      have HK := HT'.out k hlt
      rw [HR.out] at HK
      have HC := Lib.hid (HS.out wr hb j (wd l k) hj hxL)
      obtain ⟨j', hj'⟩ : ∃ j' : Nat, stepT T j (wd l k) = j' := ⟨(stepT T j (wd l k)).toNat, by omega⟩
      rw [hj'] at HC HK
      have HK := Lib.hid HK
      have hjl : j' < T.length := by omega
      clear hj' hbd hxL
      generalize wd l k = x at *
      go_wp2_with (go_at_call 111; ((with_reducible refine HC.out.mono ?_); rintro e w2 ⟨rfl, rfl⟩))
      go_roundw
      case rel => exact ⟨k + 1, j', by omega, by go_num, hjl, rfl, HK, hb⟩
      case measure => simp [intOf]; omega
    · obtain rfl : k = l.length := by omega
      have HF : Hid (res = (j : Int)) := HE'.out.symm.trans HR.out
      clear HR HE' HZ' HT'
      go_wp2
      go_ret
      exact ⟨ret_int HF.out.symm, hb⟩
/-- What is wrong with a word for an automaton. -/
def wrongD (d : Da) (l : List Nat) : Int := if chkD d ≠ 0 then chkD d else wordE d.V l
section
variable (d : Da) (A B : Option Addr) (a b : Nat) (w : World) (hx : DaAt w d A B)
include hx
theorem end_any (hO : OkD d) (D : Option Addr) (l : List Nat) (c : Nat) (hw : Bys w D l) (hlt : ∀ x ∈ l, x < 2 ^ d.V.toNat) (hll : l.length ≤ 1000000) :
    Calls Tryd.prog 62 #[.agg #[.int .i64 d.V, .int .i64 d.q0, .slice A d.nx.length a, .slice B d.fi.length b], .slice D l.length c] w fun e w' => e = .returned (.int .i64 (runT d.nx d.q0 l)) ∧ Below w.heap.size w w' := by
  have hb0 := bal (Below.refl w.heap.size w) (.cells #[.int .i64 d.V, .int .i64 d.q0, .slice A d.nx.length a, .slice B d.fi.length b] 25)
  have hB0 := Boxed4.new w 25 (.int .i64 d.V) (.int .i64 d.q0) (.slice A d.nx.length a) (.slice B d.fi.length b)
  obtain ⟨q, hq⟩ : ∃ q : Nat, d.q0 = q := ⟨d.q0.toNat, by have := hO.q0; omega⟩
  have hql : q < d.nx.length := by have := hO.q0; omega
  have HF := Lib.hid fun X (hX : Below w.heap.size w X) => follow_any A d.nx a q D l c (2 ^ d.V.toNat) X (hx.nx.below hX) hO.sq hql (hw.below hX) hlt hll
  rw [hq] at hb0 hB0 ⊢
  obtain ⟨z0, z1, z2, z3⟩ := hB0.cells
  clear hx hO hw hlt hq
  generalize runT d.nx (q : Int) l = R at *
  generalize d.nx.length = n at *
  generalize d.fi.length = m at *
  generalize d.V = V at *
  go_enter Tryd.func62, Tryd.ntmps62
  go_wp2_with (go_at_call 110; ((with_reducible refine (HF.out _ hb0).mono ?_); rintro e w2 ⟨rfl, hb2⟩))
  go_ret
  exact ⟨rfl, stepB hb0 hb2⟩
variable (hl : DaLen d) (D : Option Addr) (l : List Nat) (c : Nat) (hw : Bys w D l) (h8 : ∀ y ∈ l, y < 256) (hll : l.length ≤ 1000000)
include hl hw h8 hll
set_option maxHeartbeats 2000000 in
theorem checkWordD_any :
    Calls Tryd.prog 61 #[.agg #[.int .i64 d.V, .int .i64 d.q0, .slice A d.nx.length a, .slice B d.fi.length b], .slice D l.length c] w fun e w' => e = .returned (.int .i64 (wrongD d l)) ∧ Below w.heap.size w w' := by
  have hB0 := Boxed4.new w 25 (.int .i64 d.V) (.int .i64 d.q0) (.slice A d.nx.length a) (.slice B d.fi.length b)
  have hb0 := bal (Below.refl w.heap.size w) (.cells #[.int .i64 d.V, .int .i64 d.q0, .slice A d.nx.length a, .slice B d.fi.length b] 25)
  have HC := CheckD_any d A B a b _ (hx.below hb0) hl
  by_cases h0 : chkD d = 0
  · have hO := okD_of h0
    have HW : Hid (wrongD d l = wordE d.V l) := by show _ = _; unfold wrongD; rw [h0]; rfl
    obtain ⟨v, hv⟩ : ∃ v : Nat, d.V = v := ⟨d.V.toNat, by have := hO.v0; omega⟩
    have hv6 : v ≤ 6 := by have := hO.v6; omega
    rw [h0] at HC
    rw [hv] at HC hB0 hb0 HW ⊢
    have HC := Lib.hid HC
    have HL := Lib.hid fun X => lettersOver_any v X hv6
    clear hO h0 hv hx hl
    generalize d.q0 = q0 at *
    generalize d.nx.length = n at *
    generalize d.fi.length = m at *
    generalize wrongD d l = E at *
    obtain ⟨z0, z1, z2, z3⟩ := hB0.cells
    by_cases h64 : 64 < l.length
    · have HE : Hid (E = 4) := by show _ = _; rw [HW.out]; unfold wordE; rw [if_pos h64]
      have hd : decide ((64 : Int) < (l.length : Int)) = true := decide_eq_true (by omega)
      clear HW hw h8
      generalize l.length = k at *
      go_enter Tryd.func61, Tryd.ntmps61
      go_wp2_with (go_at_call 23; ((with_reducible refine HC.out.mono ?_); rintro e w2 ⟨rfl, hb2⟩))
      go_ret
      exact ⟨ret_int HE.out.symm, stepB hb0 hb2⟩
    · have hd : decide ((64 : Int) < (l.length : Int)) = false := decide_eq_false (by omega)
      have HW2 : Hid (E = if l.all (fun x => decide (x < 2 ^ v)) then 0 else 1) := by
        show _ = _
        rw [HW.out]
        unfold wordE
        rw [if_neg h64, Int.toNat_natCast]
      clear HW
      have hKp : Hid (2 ^ v ≤ 64) := Dg.pow7 hv6
      generalize 2 ^ v = K at *
      have hK := hKp.out
      go_enter Tryd.func61, Tryd.ntmps61
      go_wp2_with (go_at_call 23; ((with_reducible refine HC.out.mono ?_); rintro e w2 ⟨rfl, hb2⟩))
      have hB2 := hB0.below hb2
      have hb3 := stepB hb0 hb2
      clear HC hB0 hb0 hb2 z0 z1 z2 z3
      go_loopw [18] (fun i wr => ∃ (k : Nat), k ≤ l.length ∧ i = .int .i64 k ∧ Hid (∀ j, j < k → wd l j < K) ∧ Boxed4 wr w.heap.size (.int .i64 v) (.int .i64 q0) (.slice A n a) (.slice B m b) ∧ Below w.heap.size w wr) (fun i _ => l.length - (intOf i).toNat)
      case atStart => exact ⟨0, by omega, rfl, fun j hj => absurd hj (by omega), hB2, hb3⟩
      case round =>
        clear hB2 hb3
        obtain ⟨k, hk, rfl, H, hB, hb⟩ := hrel
        obtain ⟨z0, z1, z2, z3⟩ := hB.cells
        by_cases hlt : k < l.length
        · obtain ⟨ad, rfl, hcell⟩ := (hw.below hb).at_ hlt
          have hm : wd l k ∈ l := by unfold wd; rw [List.getD_eq_getElem?_getD, List.getElem?_eq_getElem hlt]; exact List.getElem_mem hlt
          have hx8 := h8 _ hm
          by_cases hy : wd l k < K
          · have H' : Hid (∀ j, j < k + 1 → wd l j < K) := fun j hj => by
              rcases Nat.lt_or_eq_of_le (Nat.le_of_lt_succ hj) with h1 | rfl
              · exact H.out j h1
              · exact hy
            have hd1 : decide (K ≤ wd l k) = false := decide_eq_false (by omega)
            have hd2 : decide ((K : Int) ≤ (wd l k : Int)) = false := decide_eq_false (by omega)
            clear H hy hm HW2
            generalize wd l k = x at *
            go_wp2_with (go_at_call 72; ((with_reducible refine (HL.out _).mono ?_); rintro e w3 ⟨rfl, rfl⟩))
            go_roundw
            case rel => exact ⟨k + 1, by omega, by go_num, H', hB, hb⟩
            case measure => simp [intOf]; omega
          · have HE : Hid (E = 1) := by
              show _ = _
              rw [HW2.out, if_neg]
              rw [List.all_eq_true]
              intro h
              exact hy (of_decide_eq_true (h _ hm))
            have hd1 : decide (K ≤ wd l k) = true := decide_eq_true (by omega)
            have hd2 : decide ((K : Int) ≤ (wd l k : Int)) = true := decide_eq_true (by omega)
            clear H hy hm HW2
            generalize wd l k = x at *
            go_wp2_with (go_at_call 72; ((with_reducible refine (HL.out _).mono ?_); rintro e w3 ⟨rfl, rfl⟩))
            go_ret
            exact ⟨ret_int HE.out.symm, hb⟩
        · obtain rfl : k = l.length := by omega
          have HE : Hid (E = 0) := by
            show _ = _
            rw [HW2.out, if_pos]
            rw [List.all_eq_true]
            intro y hy
            obtain ⟨j, hj, rfl⟩ := List.mem_iff_getElem.1 hy
            have := H.out j hj
            unfold wd at this
            rw [List.getD_eq_getElem?_getD, List.getElem?_eq_getElem hj] at this
            exact decide_eq_true this
          clear H HW2
          go_wp2
          go_ret
          exact ⟨ret_int HE.out.symm, hb⟩
  · have HE : Hid (wrongD d l = chkD d) := by show _ = _; unfold wrongD; rw [if_pos h0]
    have hne : (chkD d != 0) = true := by rw [bne_iff_ne]; exact h0
    have HC := Lib.hid HC
    obtain ⟨z0, z1, z2, z3⟩ := hB0.cells
    clear h0 hx hl hw h8
    generalize chkD d = E at *
    generalize l.length = k at *
    go_enter Tryd.func61, Tryd.ntmps61
    go_wp2_with (go_at_call 23; ((with_reducible refine HC.out.mono ?_); rintro e w2 ⟨rfl, hb2⟩))
    go_ret
    exact ⟨ret_int HE.out.symm, stepB hb0 hb2⟩
omit hl hw h8 hll in
omit hx in
theorem wrongD_zero {d : Da} {l : List Nat} (h : wrongD d l = 0) : OkD d ∧ l.length ≤ 64 ∧ ∀ y ∈ l, y < 2 ^ d.V.toNat := by
  unfold wrongD at h
  by_cases h0 : chkD d = 0
  · rw [if_neg (by omega)] at h
    unfold wordE at h
    split at h
    · cases h
    · split at h
      · rename_i h1 h2
        exact ⟨okD_of h0, by omega, fun y hy => of_decide_eq_true (List.all_eq_true.1 h2 y hy)⟩
      · cases h
  · rw [if_pos h0] at h
    exact absurd h h0
/-- What Run answers. -/
def runD (d : Da) (l : List Nat) : Int := if wrongD d l = 0 then runT d.nx d.q0 l else 0
def accD (d : Da) (l : List Nat) : Bool := if wrongD d l = 0 then d.fi.getD (runT d.nx d.q0 l).toNat false else false
set_option maxHeartbeats 2000000 in
theorem RunD_any :
    Calls Tryd.prog 21 #[.agg #[.int .i64 d.V, .int .i64 d.q0, .slice A d.nx.length a, .slice B d.fi.length b], .slice D l.length c] w fun e w' => e = .returned (.tuple #[.int .i64 (runD d l), .int .i64 (wrongD d l)]) ∧ Below w.heap.size w w' := by
  have hB0 := Boxed4.new w 25 (.int .i64 d.V) (.int .i64 d.q0) (.slice A d.nx.length a) (.slice B d.fi.length b)
  have hb0 := bal (Below.refl w.heap.size w) (.cells #[.int .i64 d.V, .int .i64 d.q0, .slice A d.nx.length a, .slice B d.fi.length b] 25)
  have HC := checkWordD_any d A B a b _ (hx.below hb0) hl D l c (hw.below hb0) h8 hll
  obtain ⟨z0, z1, z2, z3⟩ := hB0.cells
  by_cases h0 : wrongD d l = 0
  · obtain ⟨hO, _, hlt⟩ := wrongD_zero h0
    have HE := Lib.hid fun X (hX : Below w.heap.size w X) => end_any d A B a b X (hx.below hX) hO D l c (hw.below hX) hlt hll
    have HR : Hid (runD d l = runT d.nx d.q0 l) := by show _ = _; unfold runD; rw [if_pos h0]
    rw [h0] at HC ⊢
    have HC := Lib.hid HC
    clear hx hl hw h8 h0 hO hlt
    rw [HR.out]
    clear HR
    generalize runT d.nx d.q0 l = R at *
    generalize l.length = k at *
    go_enter Tryd.func21, Tryd.ntmps21
    go_wp2_with (first
      | (go_at_call 61; ((with_reducible refine HC.out.mono ?_); rintro e w2 ⟨rfl, hb2⟩); clear z0 z1 z2 z3; replace hB0 := hB0.below hb2; replace hb0 := stepB hb0 hb2; obtain ⟨z0, z1, z2, z3⟩ := hB0.cells)
      | (go_at_call 62; ((with_reducible refine (HE.out _ hb0).mono ?_); rintro e w3 ⟨rfl, hb3⟩)))
    go_ret2
    exact ⟨rfl, stepB hb0 hb3⟩
  · have HR : Hid (runD d l = 0) := by show _ = _; unfold runD; rw [if_neg h0]
    have hne : (wrongD d l != 0) = true := by rw [bne_iff_ne]; exact h0
    have HC := Lib.hid HC
    clear hx hl hw h8 h0
    rw [HR.out]
    clear HR
    generalize wrongD d l = E at *
    generalize l.length = k at *
    go_enter Tryd.func21, Tryd.ntmps21
    go_wp2_with (go_at_call 61; ((with_reducible refine HC.out.mono ?_); rintro e w2 ⟨rfl, hb2⟩))
    go_ret2
    exact ⟨rfl, stepB hb0 hb2⟩
set_option maxHeartbeats 4000000 in
theorem AcceptsD_any :
    Calls Tryd.prog 22 #[.agg #[.int .i64 d.V, .int .i64 d.q0, .slice A d.nx.length a, .slice B d.fi.length b], .slice D l.length c] w fun e w' => e = .returned (.tuple #[.bool (accD d l), .int .i64 (wrongD d l)]) ∧ Below w.heap.size w w' := by
  have hB0 := Boxed4.new w 25 (.int .i64 d.V) (.int .i64 d.q0) (.slice A d.nx.length a) (.slice B d.fi.length b)
  have hb0 := bal (Below.refl w.heap.size w) (.cells #[.int .i64 d.V, .int .i64 d.q0, .slice A d.nx.length a, .slice B d.fi.length b] 25)
  have HC := checkWordD_any d A B a b _ (hx.below hb0) hl D l c (hw.below hb0) h8 hll
  obtain ⟨z0, z1, z2, z3⟩ := hB0.cells
  by_cases h0 : wrongD d l = 0
  · obtain ⟨hO, _, hlt⟩ := wrongD_zero h0
    have hrb := hO.sq.run (w := l) hO.q0 hlt
    have HE := fun X (hX : Below w.heap.size w X) => end_any d A B a b X (hx.below hX) hO D l c (hw.below hX) hlt hll
    have HR : Hid (accD d l = d.fi.getD (runT d.nx d.q0 l).toNat false) := by show _ = _; unfold accD; rw [if_pos h0]
    rw [h0] at HC ⊢
    have HC := Lib.hid HC
    obtain ⟨r, hr⟩ : ∃ r : Nat, runT d.nx d.q0 l = r := ⟨(runT d.nx d.q0 l).toNat, by omega⟩
    rw [hr, Int.toNat_natCast] at HR
    have hrl : r < d.fi.length := by have := hO.fi; omega
    simp only [hr] at HE
    have HE := Lib.hid HE
    obtain ⟨ad, rfl, hbk, hcl⟩ := hx.fi r hrl
    have HCell : Hid (∀ X, Below w.heap.size w X → X.cell? (ad.add r) = some (.bool (d.fi.getD r false))) := fun X hX => (hX.cell (by rw [addr_block]; exact hbk)).trans hcl
    rw [HR.out]
    clear HR hcl hx hl hw h8 h0 hO hlt hrb hr
    generalize d.fi.getD r false = R at *
    generalize l.length = k at *
    generalize d.fi.length = m at *
    generalize d.nx.length = n at *
    generalize d.V = V at *
    generalize d.q0 = q0 at *
    have hri : (r : Int) < (m : Int) := by omega
    go_enter Tryd.func22, Tryd.ntmps22
    go_wp2_with (go_at_call 61; ((with_reducible refine HC.out.mono ?_); rintro e w2 ⟨rfl, hb2⟩))
    have hB2 := hB0.below hb2
    have K2 := stepB hb0 hb2
    clear z0 z1 z2 z3 hB0 hb0 hb2 HC
    have hS2 : (fun X : World => Boxed4 X w.heap.size (.int .i64 V) (.int .i64 q0) (.slice A n a) (.slice (some ad) m b) ∧ Below w.heap.size w X) w2.drew := ⟨hB2.below (Ap.drewN_below w2 1), stepB K2 (Ap.drewN_below w2 1)⟩
    have c0 : ∀ r : Cls (fun X : World => Boxed4 X w.heap.size (.int .i64 V) (.int .i64 q0) (.slice A n a) (.slice (some ad) m b) ∧ Below w.heap.size w X), r.w.cell? ⟨w.heap.size, 0, none⟩ = some (.int .i64 V) := fun r => r.h.1.c0
    have c1 : ∀ r : Cls (fun X : World => Boxed4 X w.heap.size (.int .i64 V) (.int .i64 q0) (.slice A n a) (.slice (some ad) m b) ∧ Below w.heap.size w X), r.w.cell? ⟨w.heap.size, 1, none⟩ = some (.int .i64 q0) := fun r => r.h.1.c1
    have c2 : ∀ r : Cls (fun X : World => Boxed4 X w.heap.size (.int .i64 V) (.int .i64 q0) (.slice A n a) (.slice (some ad) m b) ∧ Below w.heap.size w X), r.w.cell? ⟨w.heap.size, 2, none⟩ = some (.slice A n a) := fun r => r.h.1.c2
    have c3 : ∀ r : Cls (fun X : World => Boxed4 X w.heap.size (.int .i64 V) (.int .i64 q0) (.slice A n a) (.slice (some ad) m b) ∧ Below w.heap.size w X), r.w.cell? ⟨w.heap.size, 3, none⟩ = some (.slice (some ad) m b) := fun r => r.h.1.c3
    have c4 : ∀ r' : Cls (fun X : World => Boxed4 X w.heap.size (.int .i64 V) (.int .i64 q0) (.slice A n a) (.slice (some ad) m b) ∧ Below w.heap.size w X), r'.w.cell? (ad.add r) = some (.bool R) := fun r' => HCell.out _ r'.h.2
    haveI : Nonempty (Cls (fun X : World => Boxed4 X w.heap.size (.int .i64 V) (.int .i64 q0) (.slice A n a) (.slice (some ad) m b) ∧ Below w.heap.size w X)) := ⟨⟨w2.drew, hS2⟩⟩
    refine wp_region_cls (fun X : World => Boxed4 X w.heap.size (.int .i64 V) (.int .i64 q0) (.slice A n a) (.slice (some ad) m b) ∧ Below w.heap.size w X) (by kernel_rfl) (by kernel_rfl) hS2 ?_
    repeat (go_big_quiet_step (first
      | (go_at_call 62; rename_i r'; refine (HE.out r'.w r'.h.2).mono ?_; rintro e w4 ⟨rfl, hb4⟩; exact ⟨rfl, ⟨⟨w4, r'.h.1.below hb4, stepB r'.h.2 hb4⟩, rfl⟩⟩)))
    refine wpQuiet_nil ?_
    rintro _ ⟨⟨X, hX⟩, rfl⟩
    clear c0 c1 c2 c3 c4
    go_wp2
    go_ret2
    exact ⟨rfl, hX.2⟩
  · have HR : Hid (accD d l = false) := by show _ = _; unfold accD; rw [if_neg h0]
    have hne : (wrongD d l != 0) = true := by rw [bne_iff_ne]; exact h0
    have HC := Lib.hid HC
    clear hx hl hw h8 h0
    rw [HR.out]
    clear HR
    generalize wrongD d l = E at *
    generalize l.length = k at *
    go_enter Tryd.func22, Tryd.ntmps22
    go_wp2_with (go_at_call 61; ((with_reducible refine HC.out.mono ?_); rintro e w2 ⟨rfl, hb2⟩))
    go_ret2
    exact ⟨rfl, stepB hb0 hb2⟩
end
end Go.Proofs.YtdjhfndoheoljaaDoor.Sb
