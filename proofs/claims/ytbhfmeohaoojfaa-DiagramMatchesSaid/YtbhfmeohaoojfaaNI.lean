/- A function joins the store: add. -/
import Derived.Test.YtbhfmeohaoojfaaNG
import Derived.Outline
namespace Go.Proofs.Ytbhfmeohaoojfaa.Dn
open Go Go.RowKit Go.Proofs.Ytbhfmeohaoojfaa.Ap
open Go.Proofs.Ytbhfmeohaoojfaa.Dg (shl_i64 pow7 cell_one info_int ints_row nd_ext)
set_option linter.unusedVariables false
set_option maxRecDepth 100000
/-- The nodes, the references, the reference and the error behind add. -/
structure Added where
  N : List Nd
  R : List Nat
  ref : Nat
  err : Nat
def addM (v cap : Nat) (val : Nat → Int) (N : List Nd) (R : List Nat) : Added :=
  if cap < (sub v val v N 0).1.length then ⟨N, R, 0, 10⟩ else ⟨(sub v val v N 0).1, addR R (sub v val v N 0).2, (sub v val v N 0).2, 0⟩
theorem ret_pair (a b : Nat) : Ending.returned (.tuple #[.int .i64 (a : Int), .int .i64 (b : Int)]) = .returned (.tuple #[.int .i64 ((a : Nat) : Int), .int .i64 ((b : Nat) : Int)]) := rfl
theorem mapUpdate_below {w w' : World} {b : Nat} (h : w.mapTurned w' b) : w.grownBy w' (some b) := h.grown
theorem Mem.returned {w w' : World} {sb cb rb tb v cap : Nat} {nv : Value} {N : List Nd} {R R' : List Nat} (h : Mem w sb cb rb tb v cap nv N R) (ht : w.mapTurned w' tb) (hR : RetM w' tb R') : Mem w' sb cb rb tb v cap nv N R' ∧ Step cb rb tb nv nv w w' := by
  obtain ⟨_, _, h1⟩ := h.t.obj
  obtain ⟨_, _, h0⟩ := h.r.obj
  have hs : sb ≠ tb := fun e => by have := h.s; rw [e, h1] at this; cases this
  have hc : cb ≠ tb := fun e => by have := h.c; rw [e, h1] at this; cases this
  refine ⟨⟨(turned_other ht hs).trans h.s, (turned_other ht hc).trans h.c, ?_, h.r.block (turned_other ht h.rt), hR, h.rt⟩, ⟨.of_grown ht.grown fun b e => by cases e; exact .inr (.inr (.inl rfl)), fun _ h => .inl h⟩⟩
  refine ⟨h.n.1, ?_⟩
  rcases h.n.2 with h2 | ⟨g, cp, cur, rfl, h2, h3, h4⟩
  · exact .inl h2
  · exact .inr ⟨g, cp, cur, rfl, h2, (turned_other ht fun e => by rw [e, h1] at h3; cases h3).trans h3, h4⟩
section
variable {sb cb rb tb v cap : Nat} {nv : Value} {N : List Nd} {R : List Nat}
set_option maxHeartbeats 4000000 in
theorem add_any (f : FuncId) (caps : Array Value) (val : Nat → Int) (w : World) (eg : ∀ args w, (callFunc f args).run Try.prog w = .ok (.enter f args) w)
    (hval : ∀ x, x < 2 ^ v → -9223372036854775808 ≤ val x ∧ val x ≤ 9223372036854775807) (HV : ValOk w f caps val sb cb rb tb v cap N R) (hv : v ≤ 6)
    (h : Mem w sb cb rb tb v cap nv N R) (hW : Wf v N) (hF : FitV N) (hN : N.length ≤ cap) (hcap : cap ≤ 4096) (hR : R.length ≤ 1000000) :
    Calls Try.prog 51 #[.pointer (some ⟨cb, 0, none⟩), .func (.func f) #[] caps] w fun e w' =>
      e = .returned (.tuple #[.int .i64 ((addM v cap val N R).ref : Nat), .int .i64 ((addM v cap val N R).err : Nat)]) ∧ ∃ nv', Mem w' sb cb rb tb v cap nv' (addM v cap val N R).N (addM v cap val N R).R ∧ Step cb rb tb nv nv' w w' := by
  have HBd := Lib.hid (build_any f caps val w eg hval HV hv h hW hF (by omega))
  have B := sub_built val hv v (Nat.le_refl _) N 0 hW (Nat.two_pow_pos v)
  have F1 := sub_fitV hv hval v (Nat.le_refl _) N 0 (Nat.two_pow_pos v) hF
  obtain ⟨A, cA, rfl, _⟩ := h.form
  obtain ⟨c0, c1, c2, c3, c4, c5⟩ := h.cells
  have hcb := h.lt.2
  obtain ⟨M, hM⟩ := B.ext
  have hl := B.len
  have hp7 : 2 ^ (v - (v - v) + 1) ≤ 2 ^ 7 := Nat.pow_le_pow_right (n := 2) (by decide) (by omega)
  have hpl : (sub v val v N 0).1.length ≤ 1000000 := by omega
  have hr2 := B.ref.2
  have hr1 := B.ref.1
  have hWp := Lib.hid B.wf
  obtain ⟨res, hres⟩ : ∃ res, res = addM v cap val N R := ⟨_, rfl⟩
  rw [← hres]
  unfold addM at hres
  have HRS := Lib.hid hres
  clear hres
  obtain ⟨p, hp⟩ : ∃ p, p = sub v val v N 0 := ⟨_, rfl⟩
  rw [← hp] at HRS HBd F1 hM hpl hr2 hr1 hWp
  have HM := Lib.hid hM
  have HF1 := Lib.hid F1
  clear hM F1 B hp hl hp7 HV hval hF hW h
  have hgt : (cap : Int) < (p.1.length : Int) ∨ ¬ (cap : Int) < (p.1.length : Int) := Decidable.em _
  rcases hgt with hgt | hgt
  · have HE : Hid (res = ⟨N, R, 0, 10⟩) := by show _ = _; rw [HRS.out, if_pos (by omega)]
    have hdec : decide ((cap : Int) < (p.1.length : Int)) = true := decide_eq_true hgt
    clear HRS
    go_enter Try.func51, Try.ntmps51
    go_wp2_with (go_at_call 74; ((with_reducible refine HBd.out.mono ?_); rintro e w1 ⟨rfl, nv1, hm1, hs1⟩); obtain ⟨A1, cA1, rfl, _⟩ := hm1.form; obtain ⟨d0, d1, d2, d3, d4, d5⟩ := hm1.cells)
    have hcb1 := hm1.lt.2
    go_quiet (fail)
    have hmq := hm1.below (bdN (Below.refl _ _) nq)
    have hsq : Step cb rb tb (.slice A N.length cA) (.slice A1 p.1.length cA1) w (w1.drewN nq) := hs1.trans (.of_below (bdN (Below.refl _ _) nq))
    generalize w1.drewN nq = W at *
    have HFg := Lib.hid (forget_any N.length W hmq hWp.out HF1.out hv (by omega) hpl)
    clear d0 d1 d2 d3 d4 d5 hcb1 hmq hm1 hs1
    go_wp2_with (go_at_call 75; ((with_reducible refine HFg.out.mono ?_); rintro e w2 ⟨rfl, hpost⟩))
    obtain ⟨nv2, hm2, hs2⟩ := hpost
    rw [HM.out, List.take_left] at hm2
    go_ret2
    rw [HE.out]
    exact ⟨rfl, nv2, hm2, hsq.trans hs2⟩
  · have HE : Hid (res = ⟨p.1, addR R p.2, p.2, 0⟩) := by show _ = _; rw [HRS.out, if_neg (by omega)]
    have hdec : decide ((cap : Int) < (p.1.length : Int)) = false := decide_eq_false hgt
    clear HRS
    go_enter Try.func51, Try.ntmps51
    go_wp2_with (go_at_call 74; ((with_reducible refine HBd.out.mono ?_); rintro e w1 ⟨rfl, nv1, hm1, hs1⟩); obtain ⟨A1, cA1, rfl, _⟩ := hm1.form; obtain ⟨d0, d1, d2, d3, d4, d5⟩ := hm1.cells)
    have hcb1 := hm1.lt.2
    go_quiet (fail)
    have hmq := hm1.below (bdN (Below.refl _ _) nq)
    have hsq : Step cb rb tb (.slice A N.length cA) (.slice A1 p.1.length cA1) w (w1.drewN nq) := hs1.trans (.of_below (bdN (Below.refl _ _) nq))
    clear hm1 hs1
    generalize w1.drewN nq = W at *
    obtain ⟨c0, c1, c2, c3, c4, c5⟩ := hmq.cells
    obtain ⟨w3, hrun, hR3, ht3⟩ := hmq.t.store (q := p.2) (by omega) (by omega)
    have HR3 := Lib.hid hR3
    have HT3 := Lib.hid ht3
    clear hR3 ht3
    go_wp2
    obtain ⟨hm3, hs3⟩ := hmq.returned HT3.out HR3.out
    go_ret2
    rw [HE.out]
    exact ⟨rfl, _, hm3, hsq.trans hs3⟩
end
end Go.Proofs.Ytbhfmeohaoojfaa.Dn
