/- Automata as lists: validity, the states to which words lead, reversed and united automata. Plain mathematics, nothing of the program. -/
import Derived.Test.YteckkbjpeckjmaaDoorBS
import Derived.Test.YteckkbjpeckjmaaDoorCA
import Derived.Test.YteckkbjpeckjmaaDoorNH
import Derived.Test.YteckkbjpeckjmaaDoorHA
import Derived.Test.YteckkbjpeckjmaaDoorQC
import Derived.Laws.EntriesVeiled
import Derived.Test.YteckkbjpeckjmaaDoorQT
import Derived.Shelf.RegionOpen
import Derived.RangeFuncCalls
import Derived.Test.YteckkbjpeckjmaaDoorProg
import Derived.RangeFuncKeeps
import Derived.RangeFuncLeaves
import Derived.Shelf.Abstract
import Derived.OwnWalkIn
import Derived.TacticsInMore
import Derived.LoopNIn
import Derived.LoopIn
import Derived.Test.YteckkbjpeckjmaaDoorCE
import Derived.RangeFuncBox
import Derived.RangeFuncWrites
import Derived.RangeFuncNested
import Derived.Maps.AppendAt
import Derived.Deep.RegionHeld3
import Derived.Lib.SliceRun
namespace Go.Proofs.YteckkbjpeckjmaaDoor.Nf
open Go Go.RowKit Go.Proofs.YteckkbjpeckjmaaDoor
set_option linter.unusedVariables false
/-- An edge. -/
structure Ed where
  fr : Int
  to : Int
  p : Nat
  q : Nat
  deriving DecidableEq
instance : Inhabited Ed := ⟨⟨0, 0, 0, 0⟩⟩
def ed (l : List Ed) (j : Nat) : Ed := l.getD j default
/-- An automaton. -/
structure Na where
  V : Int
  S : Int
  st : List Int
  fi : List Int
  es : List Ed
  deriving DecidableEq
def inS (S z : Int) : Bool := decide (0 ≤ z ∧ z < S)
/-- Number i of a list of states is one, and greater than the one before. -/
def ascP (S : Int) (l : List Int) (i : Nat) : Bool := inS S (nd l i) && (decide (i = 0) || decide (nd l (i - 1) < nd l i))
def asc (S : Int) (l : List Int) : Bool := allB (ascP S l) l.length
def edE (V S : Int) (e : Ed) : Int := if inS S e.fr && inS S e.to then chk e.p e.q V else 8
/-- The first error of the first k edges. -/
def edsE (V S : Int) (l : List Ed) : Nat → Int
  | 0 => 0
  | k + 1 => if edsE V S l k = 0 then edE V S (ed l k) else edsE V S l k
def chkN (n : Na) : Int :=
  if ¬ (0 ≤ n.V ∧ n.V ≤ 6) then 7 else if n.S < 0 then 1 else if ¬ (n.S ≤ 64 ∧ n.es.length ≤ 512) then 4 else if asc n.S n.st = false then 8 else if asc n.S n.fi = false then 8 else edsE n.V n.S n.es n.es.length
theorem edsE_stop {V S : Int} {l : List Ed} {k : Nat} (h : edsE V S l k ≠ 0) : ∀ d, edsE V S l (k + d) = edsE V S l k
  | 0 => rfl
  | d + 1 => by
    have ih := edsE_stop h d
    show (if edsE V S l (k + d) = 0 then _ else edsE V S l (k + d)) = _
    rw [ih, if_neg h]
theorem edsE_err {V S : Int} {l : List Ed} {k : Nat} (h : edsE V S l k = 0) (hk : k < l.length) (he : edE V S (ed l k) ≠ 0) : edsE V S l l.length = edE V S (ed l k) := by
  have h1 : edsE V S l (k + 1) = edE V S (ed l k) := by show (if _ then _ else _) = _; rw [if_pos h]
  have := edsE_stop (V := V) (S := S) (l := l) (k := k + 1) (by rw [h1]; exact he) (l.length - (k + 1))
  rw [show k + 1 + (l.length - (k + 1)) = l.length by omega, h1] at this
  exact this
theorem edsE_all {V S : Int} {l : List Ed} : ∀ {k : Nat}, edsE V S l k = 0 → ∀ j, j < k → edE V S (ed l j) = 0
  | 0, _, j, hj => absurd hj (by omega)
  | k + 1, h, j, hj => by
    have h' : (if edsE V S l k = 0 then edE V S (ed l k) else edsE V S l k) = 0 := h
    by_cases h0 : edsE V S l k = 0
    · rw [if_pos h0] at h'
      rcases Nat.lt_or_eq_of_le (Nat.le_of_lt_succ hj) with h1 | rfl
      · exact edsE_all h0 j h1
      · exact h'
    · rw [if_neg h0] at h'
      exact absurd h' h0
theorem edsE_none {V S : Int} {l : List Ed} : ∀ {k : Nat}, (∀ j, j < k → edE V S (ed l j) = 0) → edsE V S l k = 0
  | 0, _ => rfl
  | k + 1, h => by
    show (if edsE V S l k = 0 then edE V S (ed l k) else edsE V S l k) = 0
    rw [if_pos (edsE_none fun j hj => h j (by omega))]
    exact h k (by omega)
theorem ed_mem {l : List Ed} {j : Nat} (h : j < l.length) : ed l j ∈ l := by
  unfold ed
  rw [List.getD_eq_getElem?_getD, List.getElem?_eq_getElem h]
  exact List.getElem_mem h
theorem mem_ed {l : List Ed} {e : Ed} (h : e ∈ l) : ∃ j, j < l.length ∧ ed l j = e := by
  obtain ⟨j, hj, rfl⟩ := List.getElem_of_mem h
  exact ⟨j, hj, by unfold ed; rw [List.getD_eq_getElem?_getD, List.getElem?_eq_getElem hj]; rfl⟩
theorem mem_nd {l : List Int} {z : Int} (h : z ∈ l) : ∃ j, j < l.length ∧ nd l j = z := by
  obtain ⟨j, hj, rfl⟩ := List.getElem_of_mem h
  exact ⟨j, hj, by unfold nd; rw [List.getD_eq_getElem?_getD, List.getElem?_eq_getElem hj]; rfl⟩
/-- A valid automaton. -/
structure Ok (n : Na) : Prop where
  v0 : 0 ≤ n.V
  v6 : n.V ≤ 6
  s0 : 0 ≤ n.S
  s64 : n.S ≤ 64
  es : n.es.length ≤ 512
  st : asc n.S n.st = true
  fi : asc n.S n.fi = true
  ed : ∀ e ∈ n.es, edE n.V n.S e = 0
theorem ok_of {n : Na} (h : chkN n = 0) : Ok n := by
  unfold chkN at h
  by_cases h1 : 0 ≤ n.V ∧ n.V ≤ 6
  · rw [if_neg (by simp [h1])] at h
    by_cases h2 : n.S < 0
    · rw [if_pos h2] at h; cases h
    · rw [if_neg h2] at h
      by_cases h3 : n.S ≤ 64 ∧ n.es.length ≤ 512
      · rw [if_neg (by simp [h3])] at h
        cases h4 : asc n.S n.st with
        | false => rw [h4, if_pos rfl] at h; cases h
        | true =>
          cases h5 : asc n.S n.fi with
          | false => rw [h4, h5, if_neg (by simp), if_pos rfl] at h; cases h
          | true =>
            rw [h4, h5, if_neg (by simp), if_neg (by simp)] at h
            refine ⟨h1.1, h1.2, by omega, h3.1, h3.2, h4, h5, fun e he => ?_⟩
            obtain ⟨j, hj, rfl⟩ := mem_ed he
            exact edsE_all h j hj
      · rw [if_pos (by simpa using h3)] at h; cases h
  · rw [if_pos h1] at h; cases h
theorem ok_chk {n : Na} (h : Ok n) : chkN n = 0 := by
  unfold chkN
  rw [if_neg (by simp [h.v0, h.v6]), if_neg (by have := h.s0; omega), if_neg (by simp [h.s64, h.es]), h.st, h.fi, if_neg (by simp), if_neg (by simp)]
  exact edsE_none fun j hj => h.ed _ (ed_mem hj)
theorem inS_iff {S z : Int} : inS S z = true ↔ 0 ≤ z ∧ z < S := by unfold inS; rw [decide_eq_true_iff]
theorem asc_in {S : Int} {l : List Int} (h : asc S l = true) {z : Int} (hz : z ∈ l) : 0 ≤ z ∧ z < S := by
  obtain ⟨j, hj, rfl⟩ := mem_nd hz
  have := (allB_iff _ _).1 h j hj
  unfold ascP at this
  rw [Bool.and_eq_true] at this
  exact inS_iff.1 this.1
theorem edE_in {V S : Int} {e : Ed} (h : edE V S e = 0) : (0 ≤ e.fr ∧ e.fr < S) ∧ (0 ≤ e.to ∧ e.to < S) ∧ chk e.p e.q V = 0 := by
  unfold edE at h
  by_cases h1 : (inS S e.fr && inS S e.to) = true
  · rw [if_pos h1] at h
    rw [Bool.and_eq_true, inS_iff, inS_iff] at h1
    exact ⟨h1.1, h1.2, h⟩
  · rw [if_neg h1] at h; cases h
/-- What edges that match x and begin where P says lead to. -/
def tg (l : List Ed) (P : Int → Bool) (x : Nat) : List Int := (l.filter fun e => cHas e.p e.q x && P e.fr).map Ed.to
def stepW (l : List Ed) (xs : List Nat) (x : Nat) : List Nat := ofL (tg l (hasB xs) x)
/-- The set that the first k letters of a word lead to. -/
def runTo (n : Na) (w : List Nat) (k : Nat) : List Nat := (w.take k).foldl (stepW n.es) (ofL n.st)
def runW (n : Na) (w : List Nat) : List Nat := w.foldl (stepW n.es) (ofL n.st)
theorem runTo_zero (n : Na) (w : List Nat) : runTo n w 0 = ofL n.st := rfl
theorem runTo_all (n : Na) (w : List Nat) : runTo n w w.length = runW n w := by unfold runTo runW; rw [List.take_length]
theorem runTo_succ (n : Na) {w : List Nat} {k : Nat} (h : k < w.length) : runTo n w (k + 1) = stepW n.es (runTo n w k) (wd w k) := by
  unfold runTo
  have e : w.take (k + 1) = w.take k ++ [wd w k] := by
    rw [List.take_succ_eq_append_getElem h]
    simp [wd, h]
  rw [e, List.foldl_append]
  rfl
def accW (n : Na) (w : List Nat) : Bool := meetB (runW n w) (ofL n.fi)
/-- A word leads from p to q. -/
def Path (l : List Ed) : List Nat → Int → Int → Prop
  | [], p, q => p = q
  | x :: w, p, q => ∃ e ∈ l, cHas e.p e.q x = true ∧ e.fr = p ∧ Path l w e.to q
theorem mem_tg {l : List Ed} {P : Int → Bool} {x : Nat} {z : Int} : z ∈ tg l P x ↔ ∃ e ∈ l, cHas e.p e.q x = true ∧ P e.fr = true ∧ e.to = z := by
  unfold tg
  rw [List.mem_map]
  constructor
  · rintro ⟨e, he, rfl⟩
    obtain ⟨h1, h2⟩ := List.mem_filter.1 he
    rw [Bool.and_eq_true] at h2
    exact ⟨e, h1, h2.1, h2.2, rfl⟩
  · rintro ⟨e, he, h1, h2, rfl⟩
    exact ⟨e, List.mem_filter.2 ⟨he, by rw [Bool.and_eq_true]; exact ⟨h1, h2⟩⟩, rfl⟩
theorem has_ofL {l : List Int} {z : Int} : hasB (ofL l) z = true ↔ (0 ≤ z ∧ z ≤ 4095) ∧ z ∈ l := by
  unfold hasB
  rw [Bool.and_eq_true, decide_eq_true_iff]
  constructor
  · rintro ⟨h1, h2⟩
    rw [mem_ofL _ (by omega), decide_eq_true_iff, Int.toNat_of_nonneg h1.1] at h2
    exact ⟨h1, h2⟩
  · rintro ⟨h1, h2⟩
    refine ⟨h1, ?_⟩
    rw [mem_ofL _ (by omega), decide_eq_true_iff, Int.toNat_of_nonneg h1.1]
    exact h2
section
variable {n : Na}
theorem has_step (h : ∀ e ∈ n.es, edE n.V n.S e = 0) (hS : n.S ≤ 64) {xs : List Nat} {x : Nat} {z : Int} : hasB (stepW n.es xs x) z = true ↔ ∃ e ∈ n.es, cHas e.p e.q x = true ∧ hasB xs e.fr = true ∧ e.to = z := by
  unfold stepW
  rw [has_ofL, mem_tg]
  constructor
  · exact fun h => h.2
  · rintro ⟨e, he, h1, h2, rfl⟩
    have := (edE_in (h e he)).2.1
    exact ⟨by omega, e, he, h1, h2, rfl⟩
theorem has_run (h : ∀ e ∈ n.es, edE n.V n.S e = 0) (hS : n.S ≤ 64) : ∀ (w : List Nat) (xs : List Nat) (z : Int), hasB (w.foldl (stepW n.es) xs) z = true ↔ ∃ p, hasB xs p = true ∧ Path n.es w p z
  | [], xs, z => by
    show hasB xs z = true ↔ ∃ p, hasB xs p = true ∧ p = z
    exact ⟨fun h => ⟨z, h, rfl⟩, fun ⟨p, h, e⟩ => e ▸ h⟩
  | x :: w, xs, z => by
    rw [List.foldl_cons, has_run h hS w]
    constructor
    · rintro ⟨p, hp, hP⟩
      obtain ⟨e, he, h1, h2, rfl⟩ := (has_step h hS).1 hp
      exact ⟨e.fr, h2, e, he, h1, rfl, hP⟩
    · rintro ⟨p, hp, e, he, h1, rfl, hP⟩
      exact ⟨e.to, (has_step h hS).2 ⟨e, he, h1, hp, rfl⟩, hP⟩
theorem has_st (hS : n.S ≤ 64) {l : List Int} (h : asc n.S l = true) {z : Int} : hasB (ofL l) z = true ↔ z ∈ l := by
  rw [has_ofL]
  exact ⟨fun h => h.2, fun hz => ⟨by have := asc_in h hz; omega, hz⟩⟩
theorem has_runW (h : Ok n) (w : List Nat) (z : Int) : hasB (runW n w) z = true ↔ ∃ p ∈ n.st, Path n.es w p z := by
  unfold runW
  rw [has_run h.ed h.s64]
  constructor
  · rintro ⟨p, hp, hP⟩; exact ⟨p, (has_st h.s64 h.st).1 hp, hP⟩
  · rintro ⟨p, hp, hP⟩; exact ⟨p, (has_st h.s64 h.st).2 hp, hP⟩
theorem meetB_has {xs ys : List Nat} (ux : U64 xs) : meetB xs ys = true ↔ ∃ z, hasB xs z = true ∧ hasB ys z = true := by
  have hm := meetB_mem (ys := ys) ux
  constructor
  · intro h
    refine Classical.byContradiction fun hn => ?_
    have : meetB xs ys = false := by
      rw [hm]
      intro k hk
      cases h1 : mem xs k <;> cases h2 : mem ys k <;> try rfl
      refine absurd ⟨(k : Int), ?_, ?_⟩ hn <;> unfold hasB <;> rw [decide_eq_true (by omega), Int.toNat_natCast, Bool.true_and] <;> assumption
    rw [this] at h
    cases h
  · rintro ⟨z, h1, h2⟩
    cases hc : meetB xs ys with
    | true => rfl
    | false =>
      unfold hasB at h1 h2
      rw [Bool.and_eq_true, decide_eq_true_iff] at h1 h2
      have := hm.1 hc z.toNat (by omega)
      rw [h1.2, h2.2] at this
      cases this
theorem u64_step (l : List Ed) (xs : List Nat) (x : Nat) : U64 (stepW l xs x) := u64_of _
theorem u64_fold (l : List Ed) : ∀ (w : List Nat) (xs : List Nat), U64 xs → U64 (w.foldl (stepW l) xs)
  | [], _, h => h
  | x :: w, _, _ => u64_fold l w _ (u64_step _ _ _)
theorem u64_run (n : Na) (w : List Nat) : U64 (runW n w) := u64_fold _ _ _ (u64_of _)
theorem u64_runTo (n : Na) (w : List Nat) (k : Nat) : U64 (runTo n w k) := u64_fold _ _ _ (u64_of _)
theorem acc_iff (h : Ok n) (w : List Nat) : accW n w = true ↔ ∃ p ∈ n.st, ∃ q ∈ n.fi, Path n.es w p q := by
  unfold accW
  rw [meetB_has (u64_run _ _)]
  constructor
  · rintro ⟨z, h1, h2⟩
    obtain ⟨p, hp, hP⟩ := (has_runW h w z).1 h1
    exact ⟨p, hp, z, (has_st h.s64 h.fi).1 h2, hP⟩
  · rintro ⟨p, hp, q, hq, hP⟩
    exact ⟨q, (has_runW h w q).2 ⟨p, hp, hP⟩, (has_st h.s64 h.fi).2 hq⟩
theorem path_app {l : List Ed} {v : List Nat} : ∀ {u : List Nat} {p q : Int}, Path l (u ++ v) p q ↔ ∃ r, Path l u p r ∧ Path l v r q
  | [], p, q => ⟨fun h => ⟨p, rfl, h⟩, fun ⟨r, e, h⟩ => by cases e; exact h⟩
  | x :: u, p, q => by
    show (∃ e ∈ l, _ ∧ _ ∧ Path l (u ++ v) e.to q) ↔ _
    constructor
    · rintro ⟨e, he, h1, h2, h3⟩
      obtain ⟨r, h4, h5⟩ := path_app.1 h3
      exact ⟨r, ⟨e, he, h1, h2, h4⟩, h5⟩
    · rintro ⟨r, ⟨e, he, h1, h2, h4⟩, h5⟩
      exact ⟨e, he, h1, h2, path_app.2 ⟨r, h4, h5⟩⟩
end
/-- An edge the other way. -/
def flipE (e : Ed) : Ed := ⟨e.to, e.fr, e.p, e.q⟩
def revN (n : Na) : Na := ⟨n.V, n.S, n.fi, n.st, n.es.map flipE⟩
theorem flip_flip (l : List Ed) : (l.map flipE).map flipE = l := by
  rw [List.map_map]
  have : flipE ∘ flipE = id := rfl
  rw [this, List.map_id]
theorem rev_rev (n : Na) : revN (revN n) = n := by
  show (⟨n.V, n.S, n.st, n.fi, (n.es.map flipE).map flipE⟩ : Na) = n
  rw [flip_flip]
theorem edE_flip {V S : Int} (e : Ed) : edE V S (flipE e) = edE V S e := by
  unfold edE flipE
  simp only
  rw [Bool.and_comm]
theorem rev_ok {n : Na} (h : Ok n) : Ok (revN n) := ⟨h.v0, h.v6, h.s0, h.s64, by show (n.es.map flipE).length ≤ 512; rw [List.length_map]; exact h.es, h.fi, h.st, fun e he => by
  obtain ⟨d, hd, rfl⟩ := List.mem_map.1 he
  rw [edE_flip]
  exact h.ed d hd⟩
theorem path_one {l : List Ed} {x : Nat} {p q : Int} : Path l [x] p q ↔ ∃ e ∈ l, cHas e.p e.q x = true ∧ e.fr = p ∧ e.to = q := Iff.rfl
theorem path_flip {l : List Ed} : ∀ {w : List Nat} {p q : Int}, Path l w p q → Path (l.map flipE) w.reverse q p
  | [], p, q, h => Eq.symm h
  | x :: w, p, q, ⟨e, he, h1, h2, h3⟩ => by
    rw [List.reverse_cons, path_app]
    exact ⟨e.to, path_flip h3, flipE e, List.mem_map_of_mem he, h1, rfl, h2⟩
theorem acc_rev {n : Na} (h : Ok n) (w : List Nat) : accW (revN n) w.reverse = accW n w := by
  rw [Bool.eq_iff_iff, acc_iff (rev_ok h), acc_iff h]
  constructor
  · rintro ⟨p, hp, q, hq, hP⟩
    have := path_flip hP
    rw [List.reverse_reverse] at this
    change Path ((n.es.map flipE).map flipE) w q p at this
    rw [flip_flip] at this
    exact ⟨q, hq, p, hp, this⟩
  · rintro ⟨p, hp, q, hq, hP⟩
    exact ⟨q, hq, p, hp, path_flip hP⟩
/-- What is wrong with a word. -/
def wordE (V : Int) (w : List Nat) : Int := if 64 < w.length then 4 else if w.all (fun x => decide (x < 2 ^ V.toNat)) then 0 else 1
def wrongN (n : Na) (w : List Nat) : Int := if chkN n ≠ 0 then chkN n else wordE n.V w
theorem wordE_rev (V : Int) (w : List Nat) : wordE V w.reverse = wordE V w := by
  unfold wordE
  rw [List.length_reverse, List.all_reverse]
/-- The automaton with the states of a followed by those of b. -/
def shiftE (k : Int) (e : Ed) : Ed := ⟨e.fr + k, e.to + k, e.p, e.q⟩
def uniN (a b : Na) : Na := ⟨a.V, a.S + b.S, a.st ++ b.st.map (· + a.S), a.fi ++ b.fi.map (· + a.S), a.es ++ b.es.map (shiftE a.S)⟩
def uniE (a b : Na) : Int := if chkN a ≠ 0 then chkN a else if chkN b ≠ 0 then chkN b else if a.V ≠ b.V then 7 else if ¬ (a.S + b.S ≤ 64 ∧ a.es.length + b.es.length ≤ 512) then 4 else 0
theorem nd_app_l {l m : List Int} {j : Nat} (h : j < l.length) : nd (l ++ m) j = nd l j := by
  unfold nd
  rw [List.getD_eq_getElem?_getD, List.getElem?_append_left h, ← List.getD_eq_getElem?_getD]
theorem nd_app_r {l m : List Int} {j : Nat} (h : l.length ≤ j) : nd (l ++ m) j = nd m (j - l.length) := by
  unfold nd
  rw [List.getD_eq_getElem?_getD, List.getElem?_append_right h, ← List.getD_eq_getElem?_getD]
theorem nd_map {l : List Int} {f : Int → Int} {j : Nat} (h : j < l.length) : nd (l.map f) j = f (nd l j) := by
  unfold nd
  simp [h]
theorem asc_app {S T : Int} {l m : List Int} (hS : 0 ≤ S) (hT : 0 ≤ T) (hl : asc S l = true) (hm : asc T m = true) : asc (S + T) (l ++ m.map (· + S)) = true := by
  unfold asc at *
  rw [allB_iff] at *
  intro i hi
  rw [List.length_append, List.length_map] at hi
  unfold ascP
  rw [Bool.and_eq_true, inS_iff]
  rcases Nat.lt_or_ge i l.length with h | h
  · have h1 := hl i h
    unfold ascP at h1
    rw [Bool.and_eq_true, inS_iff] at h1
    rw [nd_app_l h, nd_app_l (by omega)]
    exact ⟨by omega, h1.2⟩
  · have h1 := hm (i - l.length) (by omega)
    unfold ascP at h1
    rw [Bool.and_eq_true, inS_iff] at h1
    rw [nd_app_r h, nd_map (by omega)]
    refine ⟨by omega, ?_⟩
    rw [Bool.or_eq_true, decide_eq_true_iff, decide_eq_true_iff]
    by_cases h0 : i = 0
    · exact .inl h0
    · right
      rcases Nat.lt_or_ge (i - 1) l.length with h2 | h2
      · have h3 := hl (i - 1) h2
        unfold ascP at h3
        rw [Bool.and_eq_true, inS_iff] at h3
        rw [nd_app_l h2]
        omega
      · rw [nd_app_r h2, nd_map (by omega)]
        have h4 := h1.2
        rw [Bool.or_eq_true, decide_eq_true_iff, decide_eq_true_iff] at h4
        rw [show i - 1 - l.length = i - l.length - 1 by omega]
        omega
theorem edE_shift {V S T : Int} {e : Ed} (hS : 0 ≤ S) (h : edE V T e = 0) : edE V (S + T) (shiftE S e) = 0 := by
  obtain ⟨h1, h2, h3⟩ := edE_in h
  unfold edE shiftE
  simp only
  rw [if_pos (by rw [Bool.and_eq_true, inS_iff, inS_iff]; omega)]
  exact h3
theorem edE_more {V S T : Int} {e : Ed} (hT : 0 ≤ T) (h : edE V S e = 0) : edE V (S + T) e = 0 := by
  obtain ⟨h1, h2, h3⟩ := edE_in h
  unfold edE
  rw [if_pos (by rw [Bool.and_eq_true, inS_iff, inS_iff]; omega)]
  exact h3
theorem uni_ok {a b : Na} (ha : Ok a) (hb : Ok b) (hv : a.V = b.V) (hs : a.S + b.S ≤ 64) (he : a.es.length + b.es.length ≤ 512) : Ok (uniN a b) where
  v0 := ha.v0
  v6 := ha.v6
  s0 := by have := ha.s0; have := hb.s0; show 0 ≤ a.S + b.S; omega
  s64 := hs
  es := by show (a.es ++ b.es.map (shiftE a.S)).length ≤ 512; rw [List.length_append, List.length_map]; exact he
  st := asc_app ha.s0 hb.s0 ha.st hb.st
  fi := asc_app ha.s0 hb.s0 ha.fi hb.fi
  ed := fun e h => by
    rcases List.mem_append.1 h with h | h
    · exact edE_more hb.s0 (ha.ed e h)
    · obtain ⟨d, hd, rfl⟩ := List.mem_map.1 h
      refine edE_shift ha.s0 ?_
      show edE a.V b.S d = 0
      rw [hv]
      exact hb.ed d hd
theorem path_left {a b : Na} (ha : Ok a) (hb : Ok b) : ∀ {w : List Nat} {p q : Int}, p < a.S → (Path (uniN a b).es w p q ↔ q < a.S ∧ Path a.es w p q)
  | [], p, q, hp => ⟨fun h => ⟨by cases h; exact hp, h⟩, fun h => h.2⟩
  | x :: w, p, q, hp => by
    constructor
    · rintro ⟨e, he, h1, h2, h3⟩
      rcases List.mem_append.1 he with h | h
      · have := (edE_in (ha.ed e h)).2.1
        obtain ⟨h4, h5⟩ := (path_left ha hb this.2).1 h3
        exact ⟨h4, e, h, h1, h2, h5⟩
      · obtain ⟨d, hd, rfl⟩ := List.mem_map.1 h
        have := (edE_in (hb.ed d hd)).1
        have h2' : d.fr + a.S = p := h2
        omega
    · rintro ⟨h0, e, he, h1, h2, h3⟩
      have := (edE_in (ha.ed e he)).2.1
      exact ⟨e, List.mem_append_left _ he, h1, h2, (path_left ha hb this.2).2 ⟨h0, h3⟩⟩
theorem path_right {a b : Na} (ha : Ok a) (hb : Ok b) : ∀ {w : List Nat} {p q : Int}, 0 ≤ p → (Path (uniN a b).es w (p + a.S) (q + a.S) ↔ Path b.es w p q)
  | [], p, q, hp => ⟨fun h => by have h' : p + a.S = q + a.S := h; show p = q; omega, fun h => by have h' : p = q := h; show p + a.S = q + a.S; omega⟩
  | x :: w, p, q, hp => by
    constructor
    · rintro ⟨e, he, h1, h2, h3⟩
      rcases List.mem_append.1 he with h | h
      · have := (edE_in (ha.ed e h)).1
        omega
      · obtain ⟨d, hd, rfl⟩ := List.mem_map.1 h
        have := (edE_in (hb.ed d hd)).2.1
        have h2' : d.fr + a.S = p + a.S := h2
        exact ⟨d, hd, h1, by omega, (path_right ha hb this.1).1 h3⟩
    · rintro ⟨e, he, h1, h2, h3⟩
      have := (edE_in (hb.ed e he)).2.1
      exact ⟨shiftE a.S e, List.mem_append_right _ (List.mem_map_of_mem he), h1, by show e.fr + a.S = _; rw [h2], (path_right ha hb this.1).2 h3⟩
theorem path_to {n : Na} (h : Ok n) : ∀ {w : List Nat} {p q : Int}, 0 ≤ p → Path n.es w p q → 0 ≤ q
  | [], p, q, hp, hP => by cases hP; exact hp
  | x :: w, p, q, hp, ⟨e, he, _, _, h3⟩ => path_to h (edE_in (h.ed e he)).2.1.1 h3
theorem acc_uni {a b : Na} (ha : Ok a) (hb : Ok b) (hv : a.V = b.V) (hs : a.S + b.S ≤ 64) (he : a.es.length + b.es.length ≤ 512) (w : List Nat) : accW (uniN a b) w = (accW a w || accW b w) := by
  have hu := uni_ok ha hb hv hs he
  rw [Bool.eq_iff_iff, Bool.or_eq_true, acc_iff hu, acc_iff ha, acc_iff hb]
  constructor
  · rintro ⟨p, hp, q, hq, hP⟩
    rcases List.mem_append.1 hp with h1 | h1
    · obtain ⟨h2, h3⟩ := (path_left ha hb (asc_in ha.st h1).2).1 hP
      rcases List.mem_append.1 hq with h4 | h4
      · exact .inl ⟨p, h1, q, h4, h3⟩
      · obtain ⟨r, hr, rfl⟩ := List.mem_map.1 h4
        have := (asc_in hb.fi hr).1
        omega
    · obtain ⟨p, hp1, rfl⟩ := List.mem_map.1 h1
      have p0 := (asc_in hb.st hp1).1
      rcases List.mem_append.1 hq with h4 | h4
      · have q1 := (asc_in ha.fi h4).2
        have h5 : Path (uniN a b).es w (p + a.S) ((q - a.S) + a.S) := by rw [show q - a.S + a.S = q by omega]; exact hP
        have := path_to hb p0 ((path_right ha hb p0).1 h5)
        omega
      · obtain ⟨r, hr, rfl⟩ := List.mem_map.1 h4
        exact .inr ⟨p, hp1, r, hr, (path_right ha hb p0).1 hP⟩
  · rintro (⟨p, hp, q, hq, hP⟩ | ⟨p, hp, q, hq, hP⟩)
    · exact ⟨p, List.mem_append_left _ hp, q, List.mem_append_left _ hq, (path_left ha hb (asc_in ha.st hp).2).2 ⟨(asc_in ha.fi hq).2, hP⟩⟩
    · exact ⟨p + a.S, List.mem_append_right _ (List.mem_map.2 ⟨p, hp, rfl⟩), q + a.S, List.mem_append_right _ (List.mem_map.2 ⟨q, hq, rfl⟩), (path_right ha hb (asc_in hb.st hp).1).2 hP⟩
end Go.Proofs.YteckkbjpeckjmaaDoor.Nf
/- Sets of states that edges close; trimmed automata. Plain mathematics, nothing of the program. -/
namespace Go.Proofs.YteckkbjpeckjmaaDoor.Nf
open Go Go.RowKit Go.Proofs.YteckkbjpeckjmaaDoor
set_option linter.unusedVariables false
/-- The states that edges lead to from those of st. -/
inductive Rc (l : List Ed) (st : List Int) : Int → Prop
  | base {z : Int} (h : z ∈ st) : Rc l st z
  | step {e : Ed} (h : e ∈ l) (hr : Rc l st e.fr) : Rc l st e.to
/-- The canonical words of a set of numbers. -/
def IsSet (xs : List Nat) (P : Int → Prop) : Prop := canon xs = xs ∧ U64 xs ∧ ∀ z, hasB xs z = true ↔ P z
theorem has_nat {xs : List Nat} {k : Nat} (h : k < 4096) : hasB xs (k : Int) = mem xs k := by
  unfold hasB
  rw [decide_eq_true (by omega), Int.toNat_natCast, Bool.true_and]
theorem IsSet.unique {xs ys : List Nat} {P : Int → Prop} (hx : IsSet xs P) (hy : IsSet ys P) : xs = ys := by
  rw [← hx.1, ← hy.1]
  refine canon_ext ((eqB_iff _ _).1 ((eqB_mem hx.2.1 hy.2.1).2 fun k hk => ?_))
  rw [← has_nat hk, ← has_nat hk, Bool.eq_iff_iff, hx.2.2, hy.2.2]
theorem IsSet.congr {xs : List Nat} {P Q : Int → Prop} (hx : IsSet xs P) (h : ∀ z, P z ↔ Q z) : IsSet xs Q := ⟨hx.1, hx.2.1, fun z => (hx.2.2 z).trans (h z)⟩
theorem IsSet.len {xs : List Nat} {P : Int → Prop} (hx : IsSet xs P) : xs.length ≤ 64 := by
  have h := canon_len xs
  rw [hx.1] at h
  have := ulen_le64 xs
  omega
theorem eqB_has {xs ys : List Nat} (ux : U64 xs) (uy : U64 ys) : eqB xs ys = true ↔ ∀ z, hasB xs z = true ↔ hasB ys z = true := by
  rw [eqB_mem ux uy]
  constructor
  · intro h z
    unfold hasB
    rw [Bool.and_eq_true, Bool.and_eq_true, decide_eq_true_iff]
    constructor
    · rintro ⟨h1, h2⟩; exact ⟨h1, by rw [← h _ (by omega)]; exact h2⟩
    · rintro ⟨h1, h2⟩; exact ⟨h1, by rw [h _ (by omega)]; exact h2⟩
  · intro h k hk
    have := h (k : Int)
    rw [has_nat hk, has_nat hk] at this
    rw [Bool.eq_iff_iff]
    exact this
theorem has_or {xs ys : List Nat} (z : Int) : hasB (canon (zipW (· ||| ·) xs ys)) z = (hasB xs z || hasB ys z) := by
  unfold hasB
  by_cases h : 0 ≤ z ∧ z ≤ 4095
  · rw [mem_or (by omega), decide_eq_true h]; simp
  · rw [decide_eq_false h]; rfl
theorem has_and {xs ys : List Nat} (z : Int) : hasB (canon (zipW (· &&& ·) xs ys)) z = (hasB xs z && hasB ys z) := by
  unfold hasB
  by_cases h : 0 ≤ z ∧ z ≤ 4095
  · rw [mem_and (by omega), decide_eq_true h]; simp
  · rw [decide_eq_false h]; simp
theorem u64_or {xs ys : List Nat} (ux : U64 xs) (uy : U64 ys) : U64 (canon (zipW (· ||| ·) xs ys)) := u64_canon (u64_zip ux uy _ fun _ _ h h' => Nat.or_lt_two_pow h h')
theorem u64_and {xs ys : List Nat} (ux : U64 xs) (uy : U64 ys) : U64 (canon (zipW (· &&& ·) xs ys)) := u64_canon (u64_zip ux uy _ fun _ _ h h' => Nat.lt_of_le_of_lt Nat.and_le_left h)
section
variable {n : Na}
theorem rc_in (h : Ok n) {z : Int} (hz : Rc n.es n.st z) : 0 ≤ z ∧ z < n.S := by
  cases hz with
  | base h1 => exact asc_in h.st h1
  | step h1 _ => exact (edE_in (h.ed _ h1)).2.1
/-- A set that holds Start and is closed, and whose elements are all reached, is the set of what is reached. -/
theorem rc_set (h : Ok n) {xs : List Nat} (hc : canon xs = xs) (ux : U64 xs) (h1 : ∀ z, hasB xs z = true → Rc n.es n.st z) (h2 : ∀ z ∈ n.st, hasB xs z = true) (h3 : ∀ e ∈ n.es, hasB xs e.fr = true → hasB xs e.to = true) : IsSet xs (Rc n.es n.st) := by
  refine ⟨hc, ux, fun z => ⟨h1 z, fun hz => ?_⟩⟩
  induction hz with
  | base h4 => exact h2 _ h4
  | step h4 _ ih => exact h3 _ h4 ih
/-- The number of states that are not in a set. -/
def miss (n : Na) (xs : List Nat) : Nat := ((List.range n.S.toNat).filter fun (k : Nat) => !hasB xs (k : Int)).length
theorem filter_lt {p q : Nat → Bool} : ∀ {l : List Nat}, (∀ x ∈ l, p x = true → q x = true) → (∃ x ∈ l, q x = true ∧ p x = false) → (l.filter p).length < (l.filter q).length
  | [], _, ⟨_, h, _⟩ => by cases h
  | a :: l, h, ⟨x, hx, h1, h2⟩ => by
    have hle : (l.filter p).length ≤ (l.filter q).length := by
      clear hx h1 h2
      have h' : ∀ x ∈ l, p x = true → q x = true := fun y hy => h y (List.mem_cons_of_mem _ hy)
      clear h
      induction l with
      | nil => exact Nat.le_refl _
      | cons b l ih =>
        have ih' := ih fun y hy => h' y (List.mem_cons_of_mem _ hy)
        have hb := h' b List.mem_cons_self
        rw [List.filter_cons, List.filter_cons]
        cases hp : p b <;> cases hq : q b
        · simpa using ih'
        · simp; omega
        · rw [hq] at hb; exact absurd (hb hp) (by simp)
        · simpa using ih'
    have ha := h a List.mem_cons_self
    rw [List.filter_cons, List.filter_cons]
    rcases List.mem_cons.1 hx with rfl | hx
    · rw [if_neg (by rw [h2]; simp), if_pos h1]
      simp; omega
    · have ih := filter_lt (fun y hy => h y (List.mem_cons_of_mem _ hy)) ⟨x, hx, h1, h2⟩
      cases hp : p a <;> cases hq : q a
      · simpa using ih
      · simp; omega
      · rw [hq] at ha; exact absurd (ha hp) (by simp)
      · simpa using ih
theorem miss_lt {xs ys : List Nat} (h1 : ∀ z, hasB xs z = true → hasB ys z = true) {z : Int} (hz : 0 ≤ z ∧ z < n.S) (h2 : hasB xs z = false) (h3 : hasB ys z = true) : miss n ys < miss n xs := by
  unfold miss
  refine filter_lt (fun k _ hk => ?_) ⟨z.toNat, List.mem_range.2 (by omega), ?_, ?_⟩
  · cases hx : hasB xs (k : Int) with
    | false => rfl
    | true => rw [h1 _ hx] at hk; cases hk
  · rw [Int.toNat_of_nonneg hz.1, h2]; rfl
  · rw [Int.toNat_of_nonneg hz.1, h3]; rfl
/-- The set without repeats that a list of states is. -/
theorem ofL_set (hS : n.S ≤ 64) {l : List Int} (h : asc n.S l = true) : IsSet (ofL l) (· ∈ l) := ⟨ofL_canon l, u64_of l, fun z => has_st hS h⟩
/-- What is reached in one step more. -/
theorem rc_next {z : Int} : Rc n.es n.st z ↔ z ∈ n.st ∨ ∃ e ∈ n.es, Rc n.es n.st e.fr ∧ e.to = z := by
  constructor
  · intro h
    cases h with
    | base h => exact .inl h
    | step h h1 => exact .inr ⟨_, h, h1, rfl⟩
  · rintro (h | ⟨e, he, h, rfl⟩)
    · exact .base h
    · exact .step he h
/-- Every valid edge has a letter. -/
theorem edge_letter (h : Ok n) {e : Ed} (he : e ∈ n.es) : e.p < 2 ^ n.V.toNat ∧ cHas e.p e.q e.p = true := by
  have hc := (edE_in (h.ed e he)).2.2
  obtain ⟨v, hv, hC⟩ := chk_ok hc
  rw [hv] at hc
  rw [chk_in v (by have := h.v6; omega)] at hc
  by_cases h1 : 2 ^ v ≤ e.p ∨ 2 ^ v ≤ e.q
  · rw [if_pos h1] at hc; cases hc
  · rw [if_neg h1] at hc
    by_cases h2 : e.p &&& e.q = 0
    · rw [hv, Int.toNat_natCast]
      refine ⟨by omega, ?_⟩
      unfold cHas
      rw [Nat.and_self, h2]
      simp
    · rw [if_neg h2] at hc; cases hc
/-- The set that letters below X lead to from r, together with Start. -/
def upTo (n : Na) (r : List Nat) : Nat → List Nat
  | 0 => ofL n.st
  | k + 1 => canon (zipW (· ||| ·) (upTo n r k) (stepW n.es r k))
theorem u64_upTo (n : Na) (r : List Nat) : ∀ k, U64 (upTo n r k)
  | 0 => u64_of _
  | k + 1 => u64_or (u64_upTo n r k) (u64_step _ _ _)
theorem has_upTo (h : Ok n) {r : List Nat} : ∀ {k : Nat} {z : Int}, hasB (upTo n r k) z = true ↔ z ∈ n.st ∨ ∃ x, x < k ∧ hasB (stepW n.es r x) z = true
  | 0, z => by
    show hasB (ofL n.st) z = true ↔ _
    rw [has_st h.s64 h.st]
    exact ⟨.inl, fun h => h.elim id fun ⟨x, hx, _⟩ => absurd hx (by omega)⟩
  | k + 1, z => by
    show hasB (canon (zipW (· ||| ·) (upTo n r k) (stepW n.es r k))) z = true ↔ _
    rw [has_or, Bool.or_eq_true, has_upTo h]
    constructor
    · rintro ((h1 | ⟨x, hx, h1⟩) | h1)
      · exact .inl h1
      · exact .inr ⟨x, by omega, h1⟩
      · exact .inr ⟨k, by omega, h1⟩
    · rintro (h1 | ⟨x, hx, h1⟩)
      · exact .inl (.inl h1)
      · rcases Nat.lt_or_eq_of_le (Nat.le_of_lt_succ hx) with h2 | rfl
        · exact .inl (.inr ⟨x, h2, h1⟩)
        · exact .inr h1
theorem upTo_rc (h : Ok n) {r : List Nat} (hr : IsSet r (Rc n.es n.st)) : eqB (upTo n r (2 ^ n.V.toNat)) r = true := by
  rw [eqB_has (u64_upTo _ _ _) hr.2.1]
  intro z
  rw [has_upTo h, hr.2.2, rc_next]
  constructor
  · rintro (h1 | ⟨x, hx, h1⟩)
    · exact .inl h1
    · obtain ⟨e, he, _, h2, h3⟩ := (has_step h.ed h.s64).1 h1
      exact .inr ⟨e, he, (hr.2.2 _).1 h2, h3⟩
  · rintro (h1 | ⟨e, he, h1, h2⟩)
    · exact .inl h1
    · obtain ⟨h3, h4⟩ := edge_letter h he
      exact .inr ⟨e.p, h3, (has_step h.ed h.s64).2 ⟨e, he, h4, (hr.2.2 _).2 h1, h2⟩⟩
theorem pcs_rc (h : Ok n) {z : Int} : Rc n.es n.st z ↔ ∃ w, ∃ p ∈ n.st, Path n.es w p z := by
  constructor
  · intro hz
    induction hz with
    | base h1 => exact ⟨[], _, h1, rfl⟩
    | @step e h1 _ ih =>
      obtain ⟨w, p, hp, hP⟩ := ih
      exact ⟨w ++ [e.p], p, hp, path_app.2 ⟨e.fr, hP, e, h1, (edge_letter h h1).2, rfl, rfl⟩⟩
  · rintro ⟨w, p, hp, hP⟩
    have gen : ∀ (w : List Nat) (p : Int), Rc n.es n.st p → Path n.es w p z → Rc n.es n.st z := by
      intro w
      induction w with
      | nil => intro p hp hP; cases hP; exact hp
      | cons x w ih =>
        rintro p hp ⟨e, he, h1, rfl, h3⟩
        exact ih e.to (.step he hp) h3
    exact gen w p (.base hp) hP
end
end Go.Proofs.YteckkbjpeckjmaaDoor.Nf
/- Automata in memory: slices of ints, of bytes and of edges. -/
namespace Go.Proofs.YteckkbjpeckjmaaDoor.Nf
open Go Go.RowKit Go.Proofs.YteckkbjpeckjmaaDoor Go.Proofs.YteckkbjpeckjmaaDoor.Dg
set_option linter.unusedVariables false
set_option maxRecDepth 100000
def ev (e : Ed) : List Value := [.int .i64 e.fr, .int .i64 e.to, .int .u8 e.p, .int .u8 e.q]
def evs (l : List Ed) : List Value := l.flatMap ev
def InJ (n : Int) : Prop := -9223372036854775808 ≤ n ∧ n ≤ 9223372036854775807
structure EdOk (e : Ed) : Prop where
  fr : InJ e.fr
  to : InJ e.to
  p : e.p < 256
  q : e.q < 256
/-- The edges l lie in a row that begins at A. -/
def EdsAt (w : World) (A : Option Addr) (l : List Ed) : Prop := ∀ j, j < l.length → EdOk (ed l j) ∧ ∃ ad, A = some ad ∧ ad.block < w.heap.size ∧ ∀ i v, (ev (ed l j))[i]? = some v → w.cell? ((ad.add (j * 4)).add i) = some v
theorem addr_block2 (a : Addr) (i j : Nat) : ((a.add i).add j).block = a.block := by rw [addr_block, addr_block]
theorem EdsAt.below {w w' : World} {A : Option Addr} {l : List Ed} (h : EdsAt w A l) (hb : Below w.heap.size w w') : EdsAt w' A l := fun j hj => by
  obtain ⟨h1, ad, e, h4, h5⟩ := h j hj
  exact ⟨h1, ad, e, Nat.lt_of_lt_of_le h4 hb.size, fun i v hv => (Below.cell hb (by rw [addr_block2]; exact h4)).trans (h5 i v hv)⟩
/-- The four cells of an edge. -/
theorem four_at {Y : World} {ad : Addr} {k : Nat} {x : Ed} (h : ∀ i v, (ev x)[i]? = some v → Y.cell? ((ad.add (k * 4)).add i) = some v) :
    Y.cell? (ad.add (k * 4)) = some (.int .i64 x.fr) ∧ Y.cell? ⟨(ad.add (k * 4)).block, (ad.add (k * 4)).off + 1, none⟩ = some (.int .i64 x.to) ∧ Y.cell? ⟨(ad.add (k * 4)).block, (ad.add (k * 4)).off + 2, none⟩ = some (.int .u8 x.p) ∧
    Y.cell? ⟨(ad.add (k * 4)).block, (ad.add (k * 4)).off + 3, none⟩ = some (.int .u8 x.q) :=
  ⟨h 0 _ rfl, h 1 _ rfl, h 2 _ rfl, h 3 _ rfl⟩
theorem ret_int {x y : Int} (h : x = y) : Ending.returned (.int .i64 x) = .returned (.int .i64 y) := by rw [h]
theorem ret_b {x y : Bool} (h : x = y) : Ending.returned (.bool x) = .returned (.bool y) := by rw [h]
theorem evs_snoc (l : List Ed) (x : Ed) : evs (l ++ [x]) = evs l ++ ev x := by simp [evs]
theorem evs_len (l : List Ed) : (evs l).length = l.length * 4 := by
  induction l with
  | nil => rfl
  | cons x l ih =>
    show (ev x ++ evs l).length = _
    rw [List.length_append, ih, List.length_cons]
    show 4 + _ = _
    omega
theorem evs_at : ∀ (l : List Ed) (j i : Nat) (v : Value), j < l.length → (ev (ed l j))[i]? = some v → (evs l)[j * 4 + i]? = some v
  | [], j, i, v, hj, h => absurd hj (by simp)
  | x :: l, j, i, v, hj, h => by
    have hi : i < 4 := (List.getElem?_eq_some_iff.1 h).1
    show (ev x ++ evs l)[j * 4 + i]? = _
    cases j with
    | zero =>
      rw [List.getElem?_append_left (by show _ < 4; omega), Nat.zero_mul, Nat.zero_add]
      exact h
    | succ j =>
      rw [List.getElem?_append_right (by show 4 ≤ _; omega)]
      have := evs_at l j i v (by simpa using hj) h
      rw [← this]
      congr 1
      show (j + 1) * 4 + i - 4 = _
      omega
/-- A row of one's own that holds the edges l reads so. -/
theorem eds_of_own {w : World} {B : Nat} {A : Option Addr} {n c : Nat} {l : List Ed} (h : w.ownsRow B 30 4 (.slice A n c) n (evs l)) (hl : ∀ x ∈ l, EdOk x) : EdsAt w A l := by
  intro j hj
  have hm : ed l j ∈ l := ed_mem hj
  have hn := h.1
  rw [evs_len] at hn
  refine ⟨hl _ hm, ?_⟩
  rcases h.2 with ⟨_, h0⟩ | ⟨g, cap, cur, hv, _, hb, _, _, _, ht⟩
  · omega
  · cases hv
    refine ⟨⟨g, 0, none⟩, rfl, (Array.getElem?_eq_some_iff.1 hb).1, fun i v hi => ?_⟩
    have hv := evs_at l j i v hj hi
    rw [Ap.addr_add, show ((⟨g, j * 4, none⟩ : Addr).add i) = ⟨g, j * 4 + i, none⟩ by unfold Addr.add; split; simp; rfl]
    rw [← ht, List.getElem?_take] at hv
    split at hv
    · simp only [World.cell?, hb]
      simpa using hv
    · cases hv
theorem add_add (ad : Addr) (i j : Nat) : (ad.add i).add j = ad.add (i + j) := by
  unfold Addr.add
  by_cases hi : i = 0
  · subst hi; simp
  · by_cases hj : j = 0
    · subst hj; simp [hi]
    · simp [hi, hj, Nat.add_assoc]
theorem eds_cells {w : World} {ad : Addr} {l : List Ed} (hx : EdsAt w (some ad) l) : ∀ j u, (evs l)[j]? = some u → w.cell? (ad.add j) = some u := fun j u hu => by
  have hj := (List.getElem?_eq_some_iff.1 hu).1
  rw [evs_len] at hj
  obtain ⟨_, ad', e, _, hc⟩ := hx (j / 4) (by omega)
  cases e
  have hr : j % 4 < (ev (ed l (j / 4))).length := Nat.mod_lt _ (by decide)
  have h1 : (ev (ed l (j / 4)))[j % 4]? = some (ev (ed l (j / 4)))[j % 4] := List.getElem?_eq_getElem hr
  have h2 := evs_at l (j / 4) (j % 4) _ (by omega) h1
  have h3 := hc _ _ h1
  rw [add_add] at h3
  rw [show j / 4 * 4 + j % 4 = j by omega] at h2 h3
  rw [h2] at hu
  cases hu
  exact h3
theorem evs_one {l : List Ed} : ∀ x ∈ evs l, x.oneCell' = true := by
  intro x hx
  simp only [evs, List.mem_flatMap, ev] at hx
  obtain ⟨y, _, hy⟩ := hx
  simp at hy
  rcases hy with rfl | rfl | rfl | rfl <;> rfl
theorem eds_mem {w : World} {A : Option Addr} {l : List Ed} (h : EdsAt w A l) : ∀ x ∈ l, EdOk x := fun x hx => by
  obtain ⟨j, hj, rfl⟩ := mem_ed hx
  exact (h j hj).1
theorem info_edge : (Tryd.prog.info? 30).map (fun i => (i.zero, i.size, i.bytes)) = some (some (.agg #[.int .i64 0, .int .i64 0, .int .u8 0, .int .u8 0]), 4, 24) := by kernel_rfl
/-- The slice that begins at A holds the bytes l. -/
def Bys (w : World) (A : Option Addr) (l : List Nat) : Prop := Vals w A l.length fun j => .int .u8 (wd l j : Nat)
theorem Bys.below {w w' : World} {A : Option Addr} {l : List Nat} (h : Bys w A l) (hb : Below w.heap.size w w') : Bys w' A l := Vals.below h hb
def bvs (l : List Nat) : List Value := l.map fun x : Nat => .int .u8 (x : Int)
theorem bvs_snoc (l : List Nat) (x : Nat) : bvs (l ++ [x]) = bvs l ++ [.int .u8 (x : Int)] := by simp [bvs]
theorem own_bys {w : World} {base : Nat} {A : Option Addr} {c n : Nat} {l : List Nat} (h : w.ownsRow base 5 1 (.slice A n c) n (bvs l)) (hn : n = l.length) : Bys w A l := by
  subst hn
  exact Vals.of_own h fun j hj => by simp [bvs, wd, hj]
/-- An automaton in memory: the value of the struct, and what its slices hold. -/
structure NaAt (w : World) (n : Na) (A B C : Option Addr) : Prop where
  v : InJ n.V
  s : InJ n.S
  st : Ints w A n.st
  fi : Ints w B n.fi
  es : EdsAt w C n.es
theorem NaAt.below {w w' : World} {n : Na} {A B C : Option Addr} (h : NaAt w n A B C) (hb : Below w.heap.size w w') : NaAt w' n A B C := ⟨h.v, h.s, h.st.below hb, h.fi.below hb, h.es.below hb⟩
/-- No slice is longer than the machine allows. -/
structure NaLen (n : Na) : Prop where
  st : n.st.length ≤ 1000000
  fi : n.fi.length ≤ 1000000
  es : n.es.length ≤ 1000000
end Go.Proofs.YteckkbjpeckjmaaDoor.Nf
/- Small functions of package nfa; areAscendingStates, checkEdge, letters. -/
namespace Go.Proofs.YteckkbjpeckjmaaDoor.Nf
open Go Go.RowKit Go.Proofs.YteckkbjpeckjmaaDoor Go.Proofs.YteckkbjpeckjmaaDoor.Cb
set_option linter.unusedVariables false
set_option maxRecDepth 100000
/-- A block of five cells. -/
structure Boxed5 (w : World) (b : Nat) (u0 u1 s2 s3 s4 : Value) : Prop where
  lt : b < w.heap.size
  c0 : w.cell? ⟨b, 0, none⟩ = some u0
  c1 : w.cell? ⟨b, 1, none⟩ = some u1
  c2 : w.cell? ⟨b, 2, none⟩ = some s2
  c3 : w.cell? ⟨b, 3, none⟩ = some s3
  c4 : w.cell? ⟨b, 4, none⟩ = some s4
theorem Boxed5.new (w : World) (t : TypeId) (u0 u1 s2 s3 s4 : Value) : Boxed5 (w.alloc (.cells #[u0, u1, s2, s3, s4] t)) w.heap.size u0 u1 s2 s3 s4 := by
  refine ⟨by simp, ?_, ?_, ?_, ?_, ?_⟩ <;> rw [World.cell?_alloc_at _ _ _ _ rfl] <;> rfl
theorem Boxed5.cells {w : World} {b : Nat} {u0 u1 s2 s3 s4 : Value} (h : Boxed5 w b u0 u1 s2 s3 s4) : w.cell? ⟨b, 0, none⟩ = some u0 ∧ w.cell? ⟨b, 1, none⟩ = some u1 ∧ w.cell? ⟨b, 2, none⟩ = some s2 ∧ w.cell? ⟨b, 3, none⟩ = some s3 ∧ w.cell? ⟨b, 4, none⟩ = some s4 := ⟨h.c0, h.c1, h.c2, h.c3, h.c4⟩
theorem Boxed5.below {w w' : World} {b : Nat} {u0 u1 s2 s3 s4 : Value} (h : Boxed5 w b u0 u1 s2 s3 s4) (hb : Below w.heap.size w w') : Boxed5 w' b u0 u1 s2 s3 s4 :=
  ⟨Nat.lt_of_lt_of_le h.lt hb.size, (hb.cell (p := ⟨b, 0, none⟩) h.lt).trans h.c0, (hb.cell (p := ⟨b, 1, none⟩) h.lt).trans h.c1, (hb.cell (p := ⟨b, 2, none⟩) h.lt).trans h.c2, (hb.cell (p := ⟨b, 3, none⟩) h.lt).trans h.c3, (hb.cell (p := ⟨b, 4, none⟩) h.lt).trans h.c4⟩
/-- A block of four cells. -/
structure Boxed4 (w : World) (b : Nat) (s0 s1 s2 s3 : Value) : Prop where
  lt : b < w.heap.size
  c0 : w.cell? ⟨b, 0, none⟩ = some s0
  c1 : w.cell? ⟨b, 1, none⟩ = some s1
  c2 : w.cell? ⟨b, 2, none⟩ = some s2
  c3 : w.cell? ⟨b, 3, none⟩ = some s3
theorem Boxed4.new (w : World) (t : TypeId) (s0 s1 s2 s3 : Value) : Boxed4 (w.alloc (.cells #[s0, s1, s2, s3] t)) w.heap.size s0 s1 s2 s3 := by
  refine ⟨by simp, ?_, ?_, ?_, ?_⟩ <;> rw [World.cell?_alloc_at _ _ _ _ rfl] <;> rfl
theorem Boxed4.below {w w' : World} {b : Nat} {s0 s1 s2 s3 : Value} (h : Boxed4 w b s0 s1 s2 s3) (hb : Below w.heap.size w w') : Boxed4 w' b s0 s1 s2 s3 :=
  ⟨Nat.lt_of_lt_of_le h.lt hb.size, (hb.cell (p := ⟨b, 0, none⟩) h.lt).trans h.c0, (hb.cell (p := ⟨b, 1, none⟩) h.lt).trans h.c1, (hb.cell (p := ⟨b, 2, none⟩) h.lt).trans h.c2, (hb.cell (p := ⟨b, 3, none⟩) h.lt).trans h.c3⟩
/-- The blocks of checkEdge, in whatever world behind w. -/
def EdS (w : World) (b c : Nat) (V S : Int) (s2 s3 s4 : Value) (f t : Int) (p q : Nat) (X : World) : Prop :=
  Boxed5 X b (.int .i64 V) (.int .i64 S) s2 s3 s4 ∧ Boxed4 X c (.int .i64 f) (.int .i64 t) (.int .u8 p) (.int .u8 q) ∧ Below w.heap.size w X
theorem EdS.step {w : World} {b c : Nat} {V S : Int} {s2 s3 s4 : Value} {f t : Int} {p q : Nat} {X Y : World} (h : EdS w b c V S s2 s3 s4 f t p q X) (hb : Below X.heap.size X Y) : EdS w b c V S s2 s3 s4 f t p q Y := ⟨h.1.below hb, h.2.1.below hb, stepB h.2.2 hb⟩
theorem isLetter6_any (x v : Nat) (w : World) (hx : x < 256) (hv : v ≤ 6) :
    Calls Tryd.prog 48 #[.int .u8 x, .int .i64 v] w fun e w' => e = .returned (.bool (decide (x < 2 ^ v))) ∧ w = w' := by
  go_enter Tryd.func48, Tryd.ntmps48
  go_wp2
  go_ret
  refine ⟨ret_b ?_, rfl⟩
  rw [shl64 hv, Bool.eq_iff_iff, decide_eq_true_iff, decide_eq_true_iff]
  exact Int.ofNat_lt
theorem isSmall_any (s e : Int) (w : World) :
    Calls Tryd.prog 81 #[.int .i64 s, .int .i64 e] w fun r w' => r = .returned (.bool (decide (s ≤ 64 ∧ e ≤ 512))) ∧ w = w' := by
  by_cases h1 : s ≤ 64
  · by_cases h2 : e ≤ 512
    · go_enter Tryd.func81, Tryd.ntmps81
      go_wp2
      go_ret
      exact ⟨ret_b (by simp [h1, h2]), rfl⟩
    · go_enter Tryd.func81, Tryd.ntmps81
      go_wp2
      go_ret
      exact ⟨ret_b (by simp [h2]), rfl⟩
  · go_enter Tryd.func81, Tryd.ntmps81
    go_wp2
    go_ret
    exact ⟨ret_b (by simp; omega), rfl⟩
theorem isState_any (V S z : Int) (s2 s3 s4 : Value) (w : World) :
    Calls Tryd.prog 90 #[.agg #[.int .i64 V, .int .i64 S, s2, s3, s4], .int .i64 z] w fun r w' => r = .returned (.bool (inS S z)) ∧ Below w.heap.size w w' := by
  by_cases h1 : 0 ≤ z
  · by_cases h2 : z < S
    · go_enter Tryd.func90, Tryd.ntmps90
      go_wp2
      go_ret
      exact ⟨ret_b (by simp [inS, h1, h2]), bal (Below.refl _ _) _⟩
    · go_enter Tryd.func90, Tryd.ntmps90
      go_wp2
      go_ret
      exact ⟨ret_b (by simp [inS, h2]), bal (Below.refl _ _) _⟩
  · go_enter Tryd.func90, Tryd.ntmps90
    go_wp2
    go_ret
    exact ⟨ret_b (by simp [inS]; omega), bal (Below.refl _ _) _⟩
theorem isState_is {b : Bool} {V S z : Int} {s2 s3 s4 : Value} (h : inS S z = b) (w : World) :
    Calls Tryd.prog 90 #[.agg #[.int .i64 V, .int .i64 S, s2, s3, s4], .int .i64 z] w fun r w' => r = .returned (.bool b) ∧ Below w.heap.size w w' := by
  subst h; exact isState_any V S z s2 s3 s4 w
theorem letters_any (f t : Int) (p q : Nat) (w : World) :
    Calls Tryd.prog 92 #[.agg #[.int .i64 f, .int .i64 t, .int .u8 p, .int .u8 q]] w fun r w' => r = .returned (.agg #[.int .u8 p, .int .u8 q]) ∧ Below w.heap.size w w' := by
  go_enter Tryd.func92, Tryd.ntmps92
  go_wp2
  exact bodyPost_ret (v := .agg #[.int .u8 p, .int .u8 q]) (by simp [results, Tryd.results92, go_sem]) rfl ⟨rfl, bal (bal (Below.refl _ _) _) _⟩
set_option maxHeartbeats 2000000 in
theorem asc_any (V S : Int) (s2 s3 s4 : Value) (A : Option Addr) (l : List Int) (c : Nat) (w : World) (hx : Ints w A l) (hl : l.length ≤ 1000000) :
    Calls Tryd.prog 88 #[.agg #[.int .i64 V, .int .i64 S, s2, s3, s4], .slice A l.length c] w fun r w' => r = .returned (.bool (asc S l)) ∧ Below w.heap.size w w' := by
  go_enter Tryd.func88, Tryd.ntmps88
  go_wp2
  have hb0 := bal (Below.refl w.heap.size w) (.cells #[.int .i64 V, .int .i64 S, s2, s3, s4] 26)
  have hB0 := Boxed5.new w 26 (.int .i64 V) (.int .i64 S) s2 s3 s4
  go_loopw [9] (fun i wr => ∃ k : Nat, k ≤ l.length ∧ i = .int .i64 k ∧ Hid (∀ i, i < k → ascP S l i = true) ∧ Boxed5 wr w.heap.size (.int .i64 V) (.int .i64 S) s2 s3 s4 ∧ Below w.heap.size w wr) (fun i _ => l.length - (intOf i).toNat)
  case atStart => exact ⟨0, by omega, rfl, fun i hi => absurd hi (by omega), hB0, hb0⟩
  case round =>
    clear hB0 hb0
    obtain ⟨k, hk, rfl, H, hB, hb⟩ := hrel
    obtain ⟨b0, b1, b2, b3, b4⟩ := hB.cells
    by_cases hlt : k < l.length
    · obtain ⟨ad, rfl, hcell⟩ := (hx.below hb).at_ hlt
      have hstep : Hid (ascP S l k = true → ∀ i, i < k + 1 → ascP S l i = true) := fun hok i hi => by
        rcases Nat.lt_or_eq_of_le (Nat.le_of_lt_succ hi) with h1 | rfl
        · exact H.out i h1
        · exact hok
      have hfail : Hid (ascP S l k = false → asc S l = false) := fun hno => allB_false hlt hno
      cases hL : inS S (nd l k) with
      | true =>
        have L1 := Lib.hid fun w => isState_is (V := V) (s2 := s2) (s3 := s3) (s4 := s4) hL w
        by_cases h0 : k = 0
        · have hok : Hid (∀ i, i < k + 1 → ascP S l i = true) := hstep.out (by unfold ascP; rw [hL, decide_eq_true h0]; rfl)
          have hk0 : decide (0 < k) = false := by rw [decide_eq_false_iff_not]; omega
          have hk1 : decide ((0 : Int) < (k : Int)) = false := by rw [decide_eq_false_iff_not]; omega
          clear hL hstep hfail H h0
          generalize nd l k = x at *
          go_wp2_with (go_at_call 90; ((with_reducible refine (L1.out _).mono ?_); rintro e w2 ⟨rfl, hb2⟩))
          go_roundw
          case rel => exact ⟨k + 1, by omega, by go_num, hok, hB.below hb2, stepB hb hb2⟩
          case measure => simp [intOf]; omega
        · have hk0 : 0 < k := by omega
          obtain ⟨j, hj⟩ : ∃ j, k = j + 1 := ⟨k - 1, by omega⟩
          have hokd : ascP S l k = decide (nd l j < nd l k) := by
            unfold ascP
            rw [hL, decide_eq_false h0, show k - 1 = j by omega]; simp
          obtain ⟨ad', e', hbk, hc2⟩ := hx j (by omega)
          cases e'
          have HC2 : Hid (∀ X, Below w.heap.size w X → X.cell? (ad.add j) = some (.int .i64 (nd l j))) := fun X hX => (hX.cell (by rw [addr_block]; exact hbk)).trans hc2
          have hkj : (k : Int) - 1 = (j : Int) := by omega
          have hjl : j < l.length := by omega
          clear hc2
          by_cases hlt2 : nd l j < nd l k
          · have hok : Hid (∀ i, i < k + 1 → ascP S l i = true) := hstep.out (by rw [hokd, decide_eq_true hlt2])
            clear hL hstep hfail H h0 hokd hj
            generalize nd l k = x at *
            generalize nd l j = y at *
            have hd : decide ((x : Int) ≤ (y : Int)) = false := by rw [decide_eq_false_iff_not]; omega
            go_wp2_with (go_at_call 90; ((with_reducible refine (L1.out _).mono ?_); rintro e w2 ⟨rfl, hb2⟩); have b6 := HC2.out _ (stepB hb hb2))
            go_roundw
            case rel => exact ⟨k + 1, by omega, by go_num, hok, hB.below hb2, stepB hb hb2⟩
            case measure => simp [intOf]; omega
          · have hno : Hid (asc S l = false) := hfail.out (by rw [hokd, decide_eq_false hlt2])
            clear hL hstep hfail H h0 hokd hj
            generalize nd l k = x at *
            generalize nd l j = y at *
            have hd : decide ((x : Int) ≤ (y : Int)) = true := by rw [decide_eq_true_iff]; omega
            go_wp2_with (go_at_call 90; ((with_reducible refine (L1.out _).mono ?_); rintro e w2 ⟨rfl, hb2⟩); have b6 := HC2.out _ (stepB hb hb2))
            go_ret
            exact ⟨ret_b hno.out.symm, stepB hb hb2⟩
      | false =>
        have L1 := Lib.hid fun w => isState_is (V := V) (s2 := s2) (s3 := s3) (s4 := s4) hL w
        have hno : Hid (asc S l = false) := hfail.out (by unfold ascP; rw [hL]; rfl)
        clear hL hstep hfail H
        generalize nd l k = x at *
        go_wp2_with (go_at_call 90; ((with_reducible refine (L1.out _).mono ?_); rintro e w2 ⟨rfl, hb2⟩))
        go_ret
        exact ⟨ret_b hno.out.symm, stepB hb hb2⟩
    · have hyes : Hid (asc S l = true) := (allB_iff _ _).2 fun i hi => H.out i (by omega)
      clear H
      go_wp2
      go_ret
      exact ⟨ret_b hyes.out.symm, hb⟩
set_option maxHeartbeats 2000000 in
theorem checkEdge_any (V S f t : Int) (s2 s3 s4 : Value) (p q : Nat) (w : World) (hp : p < 256) (hq : q < 256) :
    Calls Tryd.prog 47 #[.agg #[.int .i64 V, .int .i64 S, s2, s3, s4], .agg #[.int .i64 f, .int .i64 t, .int .u8 p, .int .u8 q]] w fun r w' => r = .returned (.int .i64 (edE V S ⟨f, t, p, q⟩)) ∧ Below w.heap.size w w' := by
  cases h1 : inS S f with
  | false =>
    have HE : Hid (edE V S ⟨f, t, p, q⟩ = 8) := by show _ = _; unfold edE; simp only [h1]; rfl
    have L1 := Lib.hid fun w => isState_is (V := V) (s2 := s2) (s3 := s3) (s4 := s4) h1 w
    clear h1
    go_enter Tryd.func47, Tryd.ntmps47
    go_wp2_with (go_at_call 90; ((with_reducible refine (L1.out _).mono ?_); rintro e w2 ⟨rfl, hb2⟩))
    go_ret
    exact ⟨ret_int HE.out.symm, stepB (bal (bal (Below.refl _ _) _) _) hb2⟩
  | true =>
    have L1 := Lib.hid fun w => isState_is (V := V) (s2 := s2) (s3 := s3) (s4 := s4) h1 w
    cases h2 : inS S t with
    | false =>
      have HE : Hid (edE V S ⟨f, t, p, q⟩ = 8) := by show _ = _; unfold edE; simp only [h1, h2]; rfl
      have L2 := Lib.hid fun w => isState_is (V := V) (s2 := s2) (s3 := s3) (s4 := s4) h2 w
      have B5 := (Boxed5.new w 26 (.int .i64 V) (.int .i64 S) s2 s3 s4).below (bal (Below.refl _ _) (.cells #[.int .i64 f, .int .i64 t, .int .u8 p, .int .u8 q] 30))
      have B4 := Boxed4.new (w.alloc (.cells #[.int .i64 V, .int .i64 S, s2, s3, s4] 26)) 30 (.int .i64 f) (.int .i64 t) (.int .u8 p) (.int .u8 q)
      have K := bal (bal (Below.refl w.heap.size w) (.cells #[.int .i64 V, .int .i64 S, s2, s3, s4] 26)) (.cells #[.int .i64 f, .int .i64 t, .int .u8 p, .int .u8 q] 30)
      simp only [World.size_alloc] at B4
      clear h1 h2
      go_enter Tryd.func47, Tryd.ntmps47
      go_wp2_with (first
        | (go_at_call 90; ((with_reducible refine (L1.out _).mono ?_); rintro e w2 ⟨rfl, hb2⟩); replace B5 := B5.below hb2; replace B4 := B4.below hb2; replace K := stepB K hb2; have b0 := B5.c0; have b1 := B5.c1; have b2 := B5.c2; have b3 := B5.c3; have b4 := B5.c4; have d0 := B4.c0; have d1 := B4.c1; have d2 := B4.c2; have d3 := B4.c3; clear L1)
        | (go_at_call 90; ((with_reducible refine (L2.out _).mono ?_); rintro e w3 ⟨rfl, hb3⟩)))
      go_ret
      exact ⟨ret_int HE.out.symm, stepB K hb3⟩
    | true =>
      have HE : Hid (edE V S ⟨f, t, p, q⟩ = chk p q V) := by show _ = _; unfold edE; simp only [h1, h2]; rfl
      have L2 := Lib.hid fun w => isState_is (V := V) (s2 := s2) (s3 := s3) (s4 := s4) h2 w
      have B5 := (Boxed5.new w 26 (.int .i64 V) (.int .i64 S) s2 s3 s4).below (bal (Below.refl _ _) (.cells #[.int .i64 f, .int .i64 t, .int .u8 p, .int .u8 q] 30))
      have B4 := Boxed4.new (w.alloc (.cells #[.int .i64 V, .int .i64 S, s2, s3, s4] 26)) 30 (.int .i64 f) (.int .i64 t) (.int .u8 p) (.int .u8 q)
      have K := bal (bal (Below.refl w.heap.size w) (.cells #[.int .i64 V, .int .i64 S, s2, s3, s4] 26)) (.cells #[.int .i64 f, .int .i64 t, .int .u8 p, .int .u8 q] 30)
      simp only [World.size_alloc] at B4
      clear h1 h2
      go_enter Tryd.func47, Tryd.ntmps47
      go_wp2_with (first
        | (go_at_call 90; ((with_reducible refine (L1.out _).mono ?_); rintro e w2 ⟨rfl, hb2⟩); replace B5 := B5.below hb2; replace B4 := B4.below hb2; replace K := stepB K hb2; have b0 := B5.c0; have b1 := B5.c1; have b2 := B5.c2; have b3 := B5.c3; have b4 := B5.c4; have d0 := B4.c0; have d1 := B4.c1; have d2 := B4.c2; have d3 := B4.c3; clear L1)
        | (go_at_call 90; ((with_reducible refine (L2.out _).mono ?_); rintro e w3 ⟨rfl, hb3⟩); replace B5 := B5.below hb3; replace B4 := B4.below hb3; replace K := stepB K hb3; clear b0 b1 b2 b3 b4 d0 d1 d2 d3))
      have hS0 : EdS w w.heap.size (w.heap.size + 1) V S s2 s3 s4 f t p q w3 := ⟨B5, B4, K⟩
      have c0 : ∀ r : Cls (EdS w w.heap.size (w.heap.size + 1) V S s2 s3 s4 f t p q), r.w.cell? ⟨w.heap.size, 0, none⟩ = some (.int .i64 V) := fun r => r.h.1.c0
      have d0 : ∀ r : Cls (EdS w w.heap.size (w.heap.size + 1) V S s2 s3 s4 f t p q), r.w.cell? ⟨w.heap.size + 1, 0, none⟩ = some (.int .i64 f) := fun r => r.h.2.1.c0
      have d1 : ∀ r : Cls (EdS w w.heap.size (w.heap.size + 1) V S s2 s3 s4 f t p q), r.w.cell? ⟨w.heap.size + 1, 1, none⟩ = some (.int .i64 t) := fun r => r.h.2.1.c1
      have d2 : ∀ r : Cls (EdS w w.heap.size (w.heap.size + 1) V S s2 s3 s4 f t p q), r.w.cell? ⟨w.heap.size + 1, 2, none⟩ = some (.int .u8 p) := fun r => r.h.2.1.c2
      have d3 : ∀ r : Cls (EdS w w.heap.size (w.heap.size + 1) V S s2 s3 s4 f t p q), r.w.cell? ⟨w.heap.size + 1, 3, none⟩ = some (.int .u8 q) := fun r => r.h.2.1.c3
      haveI : Nonempty (Cls (EdS w w.heap.size (w.heap.size + 1) V S s2 s3 s4 f t p q)) := ⟨⟨w3, hS0⟩⟩
      refine wp_region_cls (EdS w w.heap.size (w.heap.size + 1) V S s2 s3 s4 f t p q) (by kernel_rfl) (by kernel_rfl) (hS0.step (Ap.drewN_below w3 1)) ?_
      repeat (go_big_quiet_step (first
        | (go_at_call 92; rename_i r; refine (letters_any f t p q r.w).mono ?_; rintro e w4 ⟨rfl, hb4⟩; exact ⟨rfl, ⟨⟨w4, r.h.step hb4⟩, rfl⟩⟩)
        | (go_at_call 91; rename_i r; refine (Check_any p q V r.w hp hq).mono ?_; rintro e w4 ⟨rfl, hb4⟩; exact ⟨rfl, ⟨⟨w4, r.h.step hb4⟩, rfl⟩⟩)))
      refine wpQuiet_nil ?_
      rintro _ ⟨⟨X, hX⟩, rfl⟩
      clear c0 d0 d1 d2 d3
      go_wp2
      go_ret
      exact ⟨ret_int HE.out.symm, hX.2.2⟩
end Go.Proofs.YteckkbjpeckjmaaDoor.Nf
/- Check (package nfa): the conditions, which are function fields, and the loops over them and over the edges. -/
namespace Go.Proofs.YteckkbjpeckjmaaDoor.Nf
open Go Go.RowKit Go.Proofs.YteckkbjpeckjmaaDoor Go.Proofs.YteckkbjpeckjmaaDoor.Cb
set_option linter.unusedVariables false
set_option maxRecDepth 100000
section
variable (V S : Int) (A B C : Option Addr) (st fi : List Int) (es : List Ed) (a b c : Nat) (w : World)
theorem cond1_any (s2 s3 s4 : Value) : Calls Tryd.prog 84 #[.agg #[.int .i64 V, .int .i64 S, s2, s3, s4]] w fun r w' => r = .returned (.bool (decide (0 ≤ V ∧ V ≤ 6))) ∧ Below w.heap.size w w' := by
  by_cases h1 : 0 ≤ V
  · by_cases h2 : V ≤ 6
    · go_enter Tryd.func84, Tryd.ntmps84
      go_wp2
      go_ret
      exact ⟨ret_b (by simp [h1, h2]), bal (Below.refl _ _) _⟩
    · go_enter Tryd.func84, Tryd.ntmps84
      go_wp2
      go_ret
      exact ⟨ret_b (by simp [h2]), bal (Below.refl _ _) _⟩
  · go_enter Tryd.func84, Tryd.ntmps84
    go_wp2
    go_ret
    exact ⟨ret_b (by simp; omega), bal (Below.refl _ _) _⟩
theorem cond2_any (s2 s3 s4 : Value) : Calls Tryd.prog 85 #[.agg #[.int .i64 V, .int .i64 S, s2, s3, s4]] w fun r w' => r = .returned (.bool (decide (0 ≤ S))) ∧ Below w.heap.size w w' := by
  go_enter Tryd.func85, Tryd.ntmps85
  go_wp2
  go_ret
  exact ⟨rfl, bal (Below.refl _ _) _⟩
theorem cond3_any (s2 s3 : Value) (n : Nat) : Calls Tryd.prog 86 #[.agg #[.int .i64 V, .int .i64 S, s2, s3, .slice C n c]] w fun r w' => r = .returned (.bool (decide (S ≤ 64 ∧ (n : Int) ≤ 512))) ∧ Below w.heap.size w w' := by
  go_enter Tryd.func86, Tryd.ntmps86
  go_wp2_with (go_at_call 81; refine (isSmall_any S n _).mono ?_; rintro e w2 ⟨rfl, rfl⟩)
  go_ret
  exact ⟨ret_b (by simp), bal (Below.refl _ _) _⟩
theorem cond4_any (s3 s4 : Value) (hx : Ints w A st) (hl : st.length ≤ 1000000) : Calls Tryd.prog 87 #[.agg #[.int .i64 V, .int .i64 S, .slice A st.length a, s3, s4]] w fun r w' => r = .returned (.bool (asc S st)) ∧ Below w.heap.size w w' := by
  have h1 := Lib.hid (asc_any V S (.slice A st.length a) s3 s4 A st a _ (hx.below (bal (Below.refl _ _) (.cells #[.int .i64 V, .int .i64 S, .slice A st.length a, s3, s4] 26))) hl)
  go_enter Tryd.func87, Tryd.ntmps87
  go_wp2_with (go_at_call 88; (with_reducible refine h1.out.mono ?_); rintro e w2 ⟨rfl, hb⟩)
  go_ret
  exact ⟨rfl, stepB (bal (Below.refl _ _) _) hb⟩
theorem cond5_any (s2 s4 : Value) (hx : Ints w B fi) (hl : fi.length ≤ 1000000) : Calls Tryd.prog 89 #[.agg #[.int .i64 V, .int .i64 S, s2, .slice B fi.length b, s4]] w fun r w' => r = .returned (.bool (asc S fi)) ∧ Below w.heap.size w w' := by
  have h1 := Lib.hid (asc_any V S s2 (.slice B fi.length b) s4 B fi b _ (hx.below (bal (Below.refl _ _) (.cells #[.int .i64 V, .int .i64 S, s2, .slice B fi.length b, s4] 26))) hl)
  go_enter Tryd.func89, Tryd.ntmps89
  go_wp2_with (go_at_call 88; (with_reducible refine h1.out.mono ?_); rintro e w2 ⟨rfl, hb⟩)
  go_ret
  exact ⟨rfl, stepB (bal (Below.refl _ _) _) hb⟩
end
def fv (k : Nat) : Value := .func (.func k) #[] #[]
def condCells : Array Value := #[fv 84, .int .i64 7, fv 85, .int .i64 1, fv 86, .int .i64 4, fv 87, .int .i64 8, fv 89, .int .i64 8]
theorem conditions_any (w : World) : Calls Tryd.prog 46 #[] w fun r w' => r = .returned (.slice (some ⟨w.heap.size, 0, none⟩) 5 5) ∧ w' = w.alloc (.cells condCells 85) := by
  go_enter Tryd.func46, Tryd.ntmps46
  go_wp2
  go_ret
  exact ⟨rfl, rfl⟩
/-- Whether condition k holds, and the fault if it does not. -/
def holdN (n : Na) : Nat → Bool
  | 0 => decide (0 ≤ n.V ∧ n.V ≤ 6)
  | 1 => decide (0 ≤ n.S)
  | 2 => decide (n.S ≤ 64 ∧ (n.es.length : Int) ≤ 512)
  | 3 => asc n.S n.st
  | _ => asc n.S n.fi
def faultN : Nat → Int
  | 0 => 7
  | 1 => 1
  | 2 => 4
  | _ => 8
theorem chk_cond {n : Na} {k : Nat} (hk : k < 5) (h : ∀ j, j < k → holdN n j = true) (hf : holdN n k = false) : chkN n = faultN k := by
  have hk' : k = 0 ∨ k = 1 ∨ k = 2 ∨ k = 3 ∨ k = 4 := by omega
  unfold chkN
  rcases hk' with rfl | rfl | rfl | rfl | rfl
  · have h0 : ¬ (0 ≤ n.V ∧ n.V ≤ 6) := of_decide_eq_false hf
    rw [if_pos h0]; rfl
  · have h0 : 0 ≤ n.V ∧ n.V ≤ 6 := of_decide_eq_true (h 0 (by omega))
    have h1 : ¬ 0 ≤ n.S := of_decide_eq_false hf
    rw [if_neg (by simp [h0]), if_pos (by omega)]; rfl
  · have h0 : 0 ≤ n.V ∧ n.V ≤ 6 := of_decide_eq_true (h 0 (by omega))
    have h1 : 0 ≤ n.S := of_decide_eq_true (h 1 (by omega))
    have h2 : ¬ (n.S ≤ 64 ∧ (n.es.length : Int) ≤ 512) := of_decide_eq_false hf
    rw [if_neg (by simp [h0]), if_neg (by omega), if_pos (by omega)]; rfl
  · have h0 : 0 ≤ n.V ∧ n.V ≤ 6 := of_decide_eq_true (h 0 (by omega))
    have h1 : 0 ≤ n.S := of_decide_eq_true (h 1 (by omega))
    have h2 : n.S ≤ 64 ∧ (n.es.length : Int) ≤ 512 := of_decide_eq_true (h 2 (by omega))
    have h3 : asc n.S n.st = false := hf
    rw [if_neg (by simp [h0]), if_neg (by omega), if_neg (by omega), h3, if_pos rfl]; rfl
  · have h0 : 0 ≤ n.V ∧ n.V ≤ 6 := of_decide_eq_true (h 0 (by omega))
    have h1 : 0 ≤ n.S := of_decide_eq_true (h 1 (by omega))
    have h2 : n.S ≤ 64 ∧ (n.es.length : Int) ≤ 512 := of_decide_eq_true (h 2 (by omega))
    have h3 : asc n.S n.st = true := h 3 (by omega)
    have h4 : asc n.S n.fi = false := hf
    rw [if_neg (by simp [h0]), if_neg (by omega), if_neg (by omega), h3, h4, if_neg (by simp), if_pos rfl]; rfl
theorem chk_conds {n : Na} (h : ∀ j, j < 5 → holdN n j = true) : chkN n = edsE n.V n.S n.es n.es.length := by
  unfold chkN
  have h0 : 0 ≤ n.V ∧ n.V ≤ 6 := of_decide_eq_true (h 0 (by omega))
  have h1 : 0 ≤ n.S := of_decide_eq_true (h 1 (by omega))
  have h2 : n.S ≤ 64 ∧ (n.es.length : Int) ≤ 512 := of_decide_eq_true (h 2 (by omega))
  have h3 : asc n.S n.st = true := h 3 (by omega)
  have h4 : asc n.S n.fi = true := h 4 (by omega)
  rw [if_neg (by simp [h0]), if_neg (by omega), if_neg (by omega), h3, h4, if_neg (by simp), if_neg (by simp)]
/-- A block of two cells. -/
structure Boxed2 (w : World) (b : Nat) (s0 s1 : Value) : Prop where
  lt : b < w.heap.size
  c0 : w.cell? ⟨b, 0, none⟩ = some s0
  c1 : w.cell? ⟨b, 1, none⟩ = some s1
theorem Boxed2.new (w : World) (t : TypeId) (s0 s1 : Value) : Boxed2 (w.alloc (.cells #[s0, s1] t)) w.heap.size s0 s1 := by
  refine ⟨by simp, ?_, ?_⟩ <;> rw [World.cell?_alloc_at _ _ _ _ rfl] <;> rfl
theorem Boxed2.below {w w' : World} {b : Nat} {s0 s1 : Value} (h : Boxed2 w b s0 s1) (hb : Below w.heap.size w w') : Boxed2 w' b s0 s1 :=
  ⟨Nat.lt_of_lt_of_le h.lt hb.size, (hb.cell (p := ⟨b, 0, none⟩) h.lt).trans h.c0, (hb.cell (p := ⟨b, 1, none⟩) h.lt).trans h.c1⟩
theorem Boxed4.cells {w : World} {b : Nat} {s0 s1 s2 s3 : Value} (h : Boxed4 w b s0 s1 s2 s3) : w.cell? ⟨b, 0, none⟩ = some s0 ∧ w.cell? ⟨b, 1, none⟩ = some s1 ∧ w.cell? ⟨b, 2, none⟩ = some s2 ∧ w.cell? ⟨b, 3, none⟩ = some s3 := ⟨h.c0, h.c1, h.c2, h.c3⟩
/-- What lies in the blocks of Check. -/
def ChkS (w : World) (n : Na) (A B C : Option Addr) (a b c : Nat) (X : World) : Prop :=
  Boxed5 X w.heap.size (.int .i64 n.V) (.int .i64 n.S) (.slice A n.st.length a) (.slice B n.fi.length b) (.slice C n.es.length c) ∧ (w.heap.size + 1 < X.heap.size ∧ ∀ j v, condCells[j]? = some v → X.cell? ⟨w.heap.size + 1, j, none⟩ = some v) ∧ Below w.heap.size w X
theorem ChkS.step {w : World} {n : Na} {A B C : Option Addr} {a b c : Nat} {X Y : World} (h : ChkS w n A B C a b c X) (hb : Below X.heap.size X Y) : ChkS w n A B C a b c Y :=
  ⟨h.1.below hb, ⟨Nat.lt_of_lt_of_le h.2.1.1 hb.size, fun j v hv => (hb.cell (p := ⟨w.heap.size + 1, j, none⟩) h.2.1.1).trans (h.2.1.2 j v hv)⟩, stepB h.2.2 hb⟩
theorem ChkS.new (w : World) (n : Na) (A B C : Option Addr) (a b c : Nat) (t t' : TypeId) : ChkS w n A B C a b c ((w.alloc (.cells #[.int .i64 n.V, .int .i64 n.S, .slice A n.st.length a, .slice B n.fi.length b, .slice C n.es.length c] t)).alloc (.cells condCells t')) := by
  refine ⟨(Boxed5.new w t _ _ _ _ _).below (bal (Below.refl _ _) _), ⟨by simp, fun j v hv => ?_⟩, bal (bal (Below.refl _ _) _) _⟩
  rw [World.cell?_alloc_at _ _ _ _ (by simp)]
  simpa using hv
set_option maxHeartbeats 4000000 in
theorem Check6_any (n : Na) (A B C : Option Addr) (a b c : Nat) (w : World) (hx : NaAt w n A B C) (hl : NaLen n) :
    Calls Tryd.prog 10 #[.agg #[.int .i64 n.V, .int .i64 n.S, .slice A n.st.length a, .slice B n.fi.length b, .slice C n.es.length c]] w fun r w' => r = .returned (.int .i64 (chkN n)) ∧ Below w.heap.size w w' := by
  have hS0 := ChkS.new w n A B C a b c 26 85
  go_enter Tryd.func10, Tryd.ntmps10
  go_wp2_with (go_at_call 46; refine (conditions_any _).mono ?_; rintro e w2 ⟨rfl, rfl⟩)
  go_loopw [10] (fun i wr => ∃ k : Nat, k ≤ 5 ∧ i = .int .i64 k ∧ Hid (∀ j, j < k → holdN n j = true) ∧ ChkS w n A B C a b c wr) (fun i _ => 5 - (intOf i).toNat)
  case atStart => exact ⟨0, by omega, rfl, fun i hi => absurd hi (by omega), hS0⟩
  case round =>
    clear hS0
    obtain ⟨k, hk, rfl, H, hS⟩ := hrel
    obtain ⟨b0, b1, b2, b3, b4⟩ := hS.1.cells
    by_cases hlt : k < 5
    · have hk' : k = 0 ∨ k = 1 ∨ k = 2 ∨ k = 3 ∨ k = 4 := by omega
      rcases hk' with rfl | rfl | rfl | rfl | rfl
      · have q0 : wr.cell? ⟨w.heap.size + 1, 0, none⟩ = some (.func (.func 84) #[] #[]) := hS.2.1.2 0 _ rfl
        have q1 : wr.cell? ⟨w.heap.size + 1, 1, none⟩ = some (.int .i64 7) := hS.2.1.2 1 _ rfl
        cases hh : holdN n 0 with
        | true =>
          have H' : Hid (∀ j, j < 0 + 1 → holdN n j = true) := fun j hj => by
            rcases Nat.lt_or_eq_of_le (Nat.le_of_lt_succ hj) with h1 | rfl
            · exact H.out j h1
            · exact hh
          have HC : Hid (∀ X, ChkS w n A B C a b c X → Calls Tryd.prog 84 #[.agg #[.int .i64 n.V, .int .i64 n.S, .slice A n.st.length a, .slice B n.fi.length b, .slice C n.es.length c]] X fun r w' => r = .returned (.bool true) ∧ Below X.heap.size X w') := fun X hX => by
            have := cond1_any n.V n.S X (.slice A n.st.length a) (.slice B n.fi.length b) (.slice C n.es.length c)
            exact this.mono fun r w' h => ⟨h.1.trans (congrArg (fun t => Ending.returned (.bool t)) hh), h.2⟩
          have hS1 := hS.step (bal (Below.refl wr.heap.size wr) (.cells #[.func (.func 84) #[] #[], .int .i64 7] 85))
          obtain ⟨z0, z1, z2, z3, z4⟩ := hS1.1.cells
          clear H hh
          go_wp2_with (go_at_call 84; ((with_reducible refine (HC.out _ hS1).mono ?_); rintro e w2 ⟨rfl, hb2⟩))
          go_roundw
          case rel => exact ⟨0 + 1, by omega, by go_num, H', hS1.step hb2⟩
          case measure => simp [intOf]
        | false =>
          have HE : Hid (chkN n = 7) := chk_cond (k := 0) (by omega) H.out hh
          have HC : Hid (∀ X, ChkS w n A B C a b c X → Calls Tryd.prog 84 #[.agg #[.int .i64 n.V, .int .i64 n.S, .slice A n.st.length a, .slice B n.fi.length b, .slice C n.es.length c]] X fun r w' => r = .returned (.bool false) ∧ Below X.heap.size X w') := fun X hX => by
            have := cond1_any n.V n.S X (.slice A n.st.length a) (.slice B n.fi.length b) (.slice C n.es.length c)
            exact this.mono fun r w' h => ⟨h.1.trans (congrArg (fun t => Ending.returned (.bool t)) hh), h.2⟩
          have hS1 := hS.step (bal (Below.refl wr.heap.size wr) (.cells #[.func (.func 84) #[] #[], .int .i64 7] 85))
          obtain ⟨z0, z1, z2, z3, z4⟩ := hS1.1.cells
          have B2 := Boxed2.new wr 85 (.func (.func 84) #[] #[]) (.int .i64 7)
          clear H hh
          go_wp2_with (go_at_call 84; ((with_reducible refine (HC.out _ hS1).mono ?_); rintro e w2 ⟨rfl, hb2⟩); replace B2 := B2.below hb2; have g0 := B2.c0; have g1 := B2.c1)
          go_ret
          exact ⟨ret_int HE.out.symm, (hS1.step hb2).2.2⟩
      · have q0 : wr.cell? ⟨w.heap.size + 1, 2, none⟩ = some (.func (.func 85) #[] #[]) := hS.2.1.2 2 _ rfl
        have q1 : wr.cell? ⟨w.heap.size + 1, 3, none⟩ = some (.int .i64 1) := hS.2.1.2 3 _ rfl
        cases hh : holdN n 1 with
        | true =>
          have H' : Hid (∀ j, j < 1 + 1 → holdN n j = true) := fun j hj => by
            rcases Nat.lt_or_eq_of_le (Nat.le_of_lt_succ hj) with h1 | rfl
            · exact H.out j h1
            · exact hh
          have HC : Hid (∀ X, ChkS w n A B C a b c X → Calls Tryd.prog 85 #[.agg #[.int .i64 n.V, .int .i64 n.S, .slice A n.st.length a, .slice B n.fi.length b, .slice C n.es.length c]] X fun r w' => r = .returned (.bool true) ∧ Below X.heap.size X w') := fun X hX => by
            have := cond2_any n.V n.S X (.slice A n.st.length a) (.slice B n.fi.length b) (.slice C n.es.length c)
            exact this.mono fun r w' h => ⟨h.1.trans (congrArg (fun t => Ending.returned (.bool t)) hh), h.2⟩
          have hS1 := hS.step (bal (Below.refl wr.heap.size wr) (.cells #[.func (.func 85) #[] #[], .int .i64 1] 85))
          obtain ⟨z0, z1, z2, z3, z4⟩ := hS1.1.cells
          clear H hh
          go_wp2_with (go_at_call 85; ((with_reducible refine (HC.out _ hS1).mono ?_); rintro e w2 ⟨rfl, hb2⟩))
          go_roundw
          case rel => exact ⟨1 + 1, by omega, by go_num, H', hS1.step hb2⟩
          case measure => simp [intOf]
        | false =>
          have HE : Hid (chkN n = 1) := chk_cond (k := 1) (by omega) H.out hh
          have HC : Hid (∀ X, ChkS w n A B C a b c X → Calls Tryd.prog 85 #[.agg #[.int .i64 n.V, .int .i64 n.S, .slice A n.st.length a, .slice B n.fi.length b, .slice C n.es.length c]] X fun r w' => r = .returned (.bool false) ∧ Below X.heap.size X w') := fun X hX => by
            have := cond2_any n.V n.S X (.slice A n.st.length a) (.slice B n.fi.length b) (.slice C n.es.length c)
            exact this.mono fun r w' h => ⟨h.1.trans (congrArg (fun t => Ending.returned (.bool t)) hh), h.2⟩
          have hS1 := hS.step (bal (Below.refl wr.heap.size wr) (.cells #[.func (.func 85) #[] #[], .int .i64 1] 85))
          obtain ⟨z0, z1, z2, z3, z4⟩ := hS1.1.cells
          have B2 := Boxed2.new wr 85 (.func (.func 85) #[] #[]) (.int .i64 1)
          clear H hh
          go_wp2_with (go_at_call 85; ((with_reducible refine (HC.out _ hS1).mono ?_); rintro e w2 ⟨rfl, hb2⟩); replace B2 := B2.below hb2; have g0 := B2.c0; have g1 := B2.c1)
          go_ret
          exact ⟨ret_int HE.out.symm, (hS1.step hb2).2.2⟩
      · have q0 : wr.cell? ⟨w.heap.size + 1, 4, none⟩ = some (.func (.func 86) #[] #[]) := hS.2.1.2 4 _ rfl
        have q1 : wr.cell? ⟨w.heap.size + 1, 5, none⟩ = some (.int .i64 4) := hS.2.1.2 5 _ rfl
        cases hh : holdN n 2 with
        | true =>
          have H' : Hid (∀ j, j < 2 + 1 → holdN n j = true) := fun j hj => by
            rcases Nat.lt_or_eq_of_le (Nat.le_of_lt_succ hj) with h1 | rfl
            · exact H.out j h1
            · exact hh
          have HC : Hid (∀ X, ChkS w n A B C a b c X → Calls Tryd.prog 86 #[.agg #[.int .i64 n.V, .int .i64 n.S, .slice A n.st.length a, .slice B n.fi.length b, .slice C n.es.length c]] X fun r w' => r = .returned (.bool true) ∧ Below X.heap.size X w') := fun X hX => by
            have := cond3_any n.V n.S C c X (.slice A n.st.length a) (.slice B n.fi.length b) n.es.length
            exact this.mono fun r w' h => ⟨h.1.trans (congrArg (fun t => Ending.returned (.bool t)) hh), h.2⟩
          have hS1 := hS.step (bal (Below.refl wr.heap.size wr) (.cells #[.func (.func 86) #[] #[], .int .i64 4] 85))
          obtain ⟨z0, z1, z2, z3, z4⟩ := hS1.1.cells
          clear H hh
          go_wp2_with (go_at_call 86; ((with_reducible refine (HC.out _ hS1).mono ?_); rintro e w2 ⟨rfl, hb2⟩))
          go_roundw
          case rel => exact ⟨2 + 1, by omega, by go_num, H', hS1.step hb2⟩
          case measure => simp [intOf]
        | false =>
          have HE : Hid (chkN n = 4) := chk_cond (k := 2) (by omega) H.out hh
          have HC : Hid (∀ X, ChkS w n A B C a b c X → Calls Tryd.prog 86 #[.agg #[.int .i64 n.V, .int .i64 n.S, .slice A n.st.length a, .slice B n.fi.length b, .slice C n.es.length c]] X fun r w' => r = .returned (.bool false) ∧ Below X.heap.size X w') := fun X hX => by
            have := cond3_any n.V n.S C c X (.slice A n.st.length a) (.slice B n.fi.length b) n.es.length
            exact this.mono fun r w' h => ⟨h.1.trans (congrArg (fun t => Ending.returned (.bool t)) hh), h.2⟩
          have hS1 := hS.step (bal (Below.refl wr.heap.size wr) (.cells #[.func (.func 86) #[] #[], .int .i64 4] 85))
          obtain ⟨z0, z1, z2, z3, z4⟩ := hS1.1.cells
          have B2 := Boxed2.new wr 85 (.func (.func 86) #[] #[]) (.int .i64 4)
          clear H hh
          go_wp2_with (go_at_call 86; ((with_reducible refine (HC.out _ hS1).mono ?_); rintro e w2 ⟨rfl, hb2⟩); replace B2 := B2.below hb2; have g0 := B2.c0; have g1 := B2.c1)
          go_ret
          exact ⟨ret_int HE.out.symm, (hS1.step hb2).2.2⟩
      · have q0 : wr.cell? ⟨w.heap.size + 1, 6, none⟩ = some (.func (.func 87) #[] #[]) := hS.2.1.2 6 _ rfl
        have q1 : wr.cell? ⟨w.heap.size + 1, 7, none⟩ = some (.int .i64 8) := hS.2.1.2 7 _ rfl
        cases hh : holdN n 3 with
        | true =>
          have H' : Hid (∀ j, j < 3 + 1 → holdN n j = true) := fun j hj => by
            rcases Nat.lt_or_eq_of_le (Nat.le_of_lt_succ hj) with h1 | rfl
            · exact H.out j h1
            · exact hh
          have HC : Hid (∀ X, ChkS w n A B C a b c X → Calls Tryd.prog 87 #[.agg #[.int .i64 n.V, .int .i64 n.S, .slice A n.st.length a, .slice B n.fi.length b, .slice C n.es.length c]] X fun r w' => r = .returned (.bool true) ∧ Below X.heap.size X w') := fun X hX => by
            have := cond4_any n.V n.S A n.st a X (.slice B n.fi.length b) (.slice C n.es.length c) (hx.st.below hX.2.2) hl.st
            exact this.mono fun r w' h => ⟨h.1.trans (congrArg (fun t => Ending.returned (.bool t)) hh), h.2⟩
          have hS1 := hS.step (bal (Below.refl wr.heap.size wr) (.cells #[.func (.func 87) #[] #[], .int .i64 8] 85))
          obtain ⟨z0, z1, z2, z3, z4⟩ := hS1.1.cells
          clear H hh
          go_wp2_with (go_at_call 87; ((with_reducible refine (HC.out _ hS1).mono ?_); rintro e w2 ⟨rfl, hb2⟩))
          go_roundw
          case rel => exact ⟨3 + 1, by omega, by go_num, H', hS1.step hb2⟩
          case measure => simp [intOf]
        | false =>
          have HE : Hid (chkN n = 8) := chk_cond (k := 3) (by omega) H.out hh
          have HC : Hid (∀ X, ChkS w n A B C a b c X → Calls Tryd.prog 87 #[.agg #[.int .i64 n.V, .int .i64 n.S, .slice A n.st.length a, .slice B n.fi.length b, .slice C n.es.length c]] X fun r w' => r = .returned (.bool false) ∧ Below X.heap.size X w') := fun X hX => by
            have := cond4_any n.V n.S A n.st a X (.slice B n.fi.length b) (.slice C n.es.length c) (hx.st.below hX.2.2) hl.st
            exact this.mono fun r w' h => ⟨h.1.trans (congrArg (fun t => Ending.returned (.bool t)) hh), h.2⟩
          have hS1 := hS.step (bal (Below.refl wr.heap.size wr) (.cells #[.func (.func 87) #[] #[], .int .i64 8] 85))
          obtain ⟨z0, z1, z2, z3, z4⟩ := hS1.1.cells
          have B2 := Boxed2.new wr 85 (.func (.func 87) #[] #[]) (.int .i64 8)
          clear H hh
          go_wp2_with (go_at_call 87; ((with_reducible refine (HC.out _ hS1).mono ?_); rintro e w2 ⟨rfl, hb2⟩); replace B2 := B2.below hb2; have g0 := B2.c0; have g1 := B2.c1)
          go_ret
          exact ⟨ret_int HE.out.symm, (hS1.step hb2).2.2⟩
      · have q0 : wr.cell? ⟨w.heap.size + 1, 8, none⟩ = some (.func (.func 89) #[] #[]) := hS.2.1.2 8 _ rfl
        have q1 : wr.cell? ⟨w.heap.size + 1, 9, none⟩ = some (.int .i64 8) := hS.2.1.2 9 _ rfl
        cases hh : holdN n 4 with
        | true =>
          have H' : Hid (∀ j, j < 4 + 1 → holdN n j = true) := fun j hj => by
            rcases Nat.lt_or_eq_of_le (Nat.le_of_lt_succ hj) with h1 | rfl
            · exact H.out j h1
            · exact hh
          have HC : Hid (∀ X, ChkS w n A B C a b c X → Calls Tryd.prog 89 #[.agg #[.int .i64 n.V, .int .i64 n.S, .slice A n.st.length a, .slice B n.fi.length b, .slice C n.es.length c]] X fun r w' => r = .returned (.bool true) ∧ Below X.heap.size X w') := fun X hX => by
            have := cond5_any n.V n.S B n.fi b X (.slice A n.st.length a) (.slice C n.es.length c) (hx.fi.below hX.2.2) hl.fi
            exact this.mono fun r w' h => ⟨h.1.trans (congrArg (fun t => Ending.returned (.bool t)) hh), h.2⟩
          have hS1 := hS.step (bal (Below.refl wr.heap.size wr) (.cells #[.func (.func 89) #[] #[], .int .i64 8] 85))
          obtain ⟨z0, z1, z2, z3, z4⟩ := hS1.1.cells
          clear H hh
          go_wp2_with (go_at_call 89; ((with_reducible refine (HC.out _ hS1).mono ?_); rintro e w2 ⟨rfl, hb2⟩))
          go_roundw
          case rel => exact ⟨4 + 1, by omega, by go_num, H', hS1.step hb2⟩
          case measure => simp [intOf]
        | false =>
          have HE : Hid (chkN n = 8) := chk_cond (k := 4) (by omega) H.out hh
          have HC : Hid (∀ X, ChkS w n A B C a b c X → Calls Tryd.prog 89 #[.agg #[.int .i64 n.V, .int .i64 n.S, .slice A n.st.length a, .slice B n.fi.length b, .slice C n.es.length c]] X fun r w' => r = .returned (.bool false) ∧ Below X.heap.size X w') := fun X hX => by
            have := cond5_any n.V n.S B n.fi b X (.slice A n.st.length a) (.slice C n.es.length c) (hx.fi.below hX.2.2) hl.fi
            exact this.mono fun r w' h => ⟨h.1.trans (congrArg (fun t => Ending.returned (.bool t)) hh), h.2⟩
          have hS1 := hS.step (bal (Below.refl wr.heap.size wr) (.cells #[.func (.func 89) #[] #[], .int .i64 8] 85))
          obtain ⟨z0, z1, z2, z3, z4⟩ := hS1.1.cells
          have B2 := Boxed2.new wr 85 (.func (.func 89) #[] #[]) (.int .i64 8)
          clear H hh
          go_wp2_with (go_at_call 89; ((with_reducible refine (HC.out _ hS1).mono ?_); rintro e w2 ⟨rfl, hb2⟩); replace B2 := B2.below hb2; have g0 := B2.c0; have g1 := B2.c1)
          go_ret
          exact ⟨ret_int HE.out.symm, (hS1.step hb2).2.2⟩
    · have HE := Lib.hid (chk_conds (n := n) fun j hj => H.out j (by omega))
      have hd5 : decide ((k : Int) < 5) = false := by rw [decide_eq_false_iff_not]; omega
      clear H hk hlt b0 b1 b2 b3
      have hle := hl.es
      go_wp2
      have hS' := hS
      clear hS b4
      go_loopw [25] (fun i wr => ∃ m : Nat, m ≤ n.es.length ∧ i = .int .i64 m ∧ Hid (edsE n.V n.S n.es m = 0) ∧ ChkS w n A B C a b c wr) (fun i _ => n.es.length - (intOf i).toNat)
      case atStart => exact ⟨0, by omega, rfl, rfl, hS'⟩
      case round =>
        clear hS'
        obtain ⟨m, hk, rfl, H, hS⟩ := hrel
        by_cases hlt : m < n.es.length
        · obtain ⟨hok, ad, rfl, had, hc⟩ := (hx.es.below hS.2.2) m hlt
          obtain ⟨q0, q1, q2, q3⟩ := four_at hc
          have hS1 := hS.step (bal (Below.refl wr.heap.size wr) (.cells #[.int .i64 (ed n.es m).fr, .int .i64 (ed n.es m).to, .int .u8 (ed n.es m).p, .int .u8 (ed n.es m).q] 30))
          have B4 := Boxed4.new wr 30 (.int .i64 (ed n.es m).fr) (.int .i64 (ed n.es m).to) (.int .u8 (ed n.es m).p) (.int .u8 (ed n.es m).q)
          obtain ⟨g0, g1, g2, g3⟩ := B4.cells
          obtain ⟨z0, z1, z2, z3, z4⟩ := hS1.1.cells
          have HC := Lib.hid fun X => checkEdge_any n.V n.S (ed n.es m).fr (ed n.es m).to (.slice A n.st.length a) (.slice B n.fi.length b) (.slice (some ad) n.es.length c) (ed n.es m).p (ed n.es m).q X hok.p hok.q
          have HE2 : Hid (edsE n.V n.S n.es (m + 1) = edE n.V n.S (ed n.es m)) := by
            show _ = _
            show (if edsE n.V n.S n.es m = 0 then edE n.V n.S (ed n.es m) else edsE n.V n.S n.es m) = _
            rw [if_pos H.out]
          clear hc B4
          by_cases he : edE n.V n.S (ed n.es m) = 0
          · have H' : Hid (edsE n.V n.S n.es (m + 1) = 0) := HE2.out.trans he
            have HC : Hid (∀ X, Calls Tryd.prog 47 #[.agg #[.int .i64 n.V, .int .i64 n.S, .slice A n.st.length a, .slice B n.fi.length b, .slice (some ad) n.es.length c], .agg #[.int .i64 (ed n.es m).fr, .int .i64 (ed n.es m).to, .int .u8 (ed n.es m).p, .int .u8 (ed n.es m).q]] X fun r w' => r = .returned (.int .i64 0) ∧ Below X.heap.size X w') := fun X => by
              have := HC.out X
              rw [show edE n.V n.S ⟨(ed n.es m).fr, (ed n.es m).to, (ed n.es m).p, (ed n.es m).q⟩ = 0 from he] at this
              exact this
            clear he HE2 H HE
            generalize ed n.es m = x at *
            go_wp2_with (go_at_call 47; ((with_reducible refine (HC.out _).mono ?_); rintro e w2 ⟨rfl, hb2⟩))
            go_roundw
            case rel => exact ⟨m + 1, by omega, by go_num, H', hS1.step hb2⟩
            case measure => simp [intOf]; omega
          · have H' : Hid (chkN n = edE n.V n.S (ed n.es m)) := HE.out.trans (edsE_err H.out hlt he)
            have HC : Hid (∀ X, Calls Tryd.prog 47 #[.agg #[.int .i64 n.V, .int .i64 n.S, .slice A n.st.length a, .slice B n.fi.length b, .slice (some ad) n.es.length c], .agg #[.int .i64 (ed n.es m).fr, .int .i64 (ed n.es m).to, .int .u8 (ed n.es m).p, .int .u8 (ed n.es m).q]] X fun r w' => r = .returned (.int .i64 (edE n.V n.S (ed n.es m))) ∧ Below X.heap.size X w') := fun X => HC.out X
            have hne : (edE n.V n.S (ed n.es m) != 0) = true := by rw [bne_iff_ne]; exact he
            clear he HE2 H HE
            generalize edE n.V n.S (ed n.es m) = E at *
            generalize ed n.es m = x at *
            go_wp2_with (go_at_call 47; ((with_reducible refine (HC.out _).mono ?_); rintro e w2 ⟨rfl, hb2⟩))
            go_ret
            exact ⟨ret_int H'.out.symm, (hS1.step hb2).2.2⟩
        · obtain rfl : m = n.es.length := by omega
          have H' : Hid (chkN n = 0) := HE.out.trans H.out
          clear H HE
          go_wp2
          go_ret
          exact ⟨ret_int H'.out.symm, hS.2.2⟩
end Go.Proofs.YteckkbjpeckjmaaDoor.Nf
/- A region that draws its order, in an iterator's own body: reads and calls that keep a class of worlds, ahead of a tail in one forced order that may call the loop's body. Plain lemmas over any program. -/
namespace Go.Proofs.YteckkbjpeckjmaaDoor.Nf
open Go Go.RowKit Go.Proofs.YteckkbjpeckjmaaDoor
section
variable {P : Program} {ops : Array Oper} {md : Region.Mode} {C : World → Prop} {Q : Exit → Act → World → Prop}
theorem rowsIn_wide {n : Nat} {row : String} {args : Array Value} {w : World} {R : Value → World → Prop} (h : Rows P row args w R) : RowsIn Fence.wide n P row args w R :=
  fun c cs _ => let ⟨v, w', r, s⟩ := h c cs; ⟨v, w', r, stepsIn_wide.2 s⟩
theorem oper_wide (n : Nat) {o : Oper} {a : Act} {w : World} {K : Act → World → Prop} (h : o.wp P a w K (fun _ _ _ => False)) : o.wpIn Fence.wide n P a w K Q := by
  refine ⟨fun f _ => trivial, ?_⟩
  have hn : Fence.wide.round = none := rfl
  rw [hn, Oper.semAt_none]
  unfold Oper.wp at h
  cases hr : (execOp a.eval o).run P w with
  | ok x w' =>
    rw [hr] at h
    cases x with
    | value v => exact h
    | skip => exact h
    | defer d => exact h
    | enter f args =>
      refine ⟨fun h => (by cases h), callsIn_wide.2 (Calls.mono h fun e w2 he => ?_)⟩
      cases e with
      | returned v => exact he
      | panicked c => exact he.elim
      | outgrown => obtain ⟨_, _, h⟩ := he; exact h.elim
    | row r args => exact ⟨fun h => (by cases h), rowsIn_wide h⟩
    | _ => exact h.elim
  | halt x w' =>
    rw [hr] at h
    cases x with
    | panic u => exact h.elim
    | _ => exact h.elim
theorem no_out : ¬ LetsOut (fun _ _ _ => False) := fun ⟨_, _, h⟩ => h
theorem wpOp_wide (n : Nat) {i : Nat} {a : Act} {w : World} {K : Act → World → Prop} (h : wpOp P ops (fun _ _ _ => False) i K a w) : wpOpIn Fence.wide n P ops Q i K a w := by
  unfold wpOp at h
  unfold wpOpIn
  cases ho : ops[i]? with
  | none => rw [ho] at h; exact h
  | some o =>
    rw [ho] at h
    simp only at h ⊢
    split
    · rename_i hw
      rw [if_pos hw] at h
      rcases h with h | h
      · exact oper_wide n h
      · exact absurd h.2 no_out
    · rename_i hw
      rw [if_neg hw] at h
      exact ⟨fun f _ => trivial, h⟩
theorem wpAnyIn_of_headQ {m n g : Nat} {L : Array Bool → Act → Prop} (hL : ∀ listed a w, C w → L listed a → wpAnyIn Fence.wide m P md ops Q g listed a w) :
    ∀ (f : Nat) (listed : Array Bool) (a : Act) (w : World), C w → wpAnyLQ P md ops C n L f listed a → wpAnyIn Fence.wide m P md ops Q (f + g) listed a w
  | 0, listed, a, w, hw, h => by rw [Nat.zero_add]; exact hL _ _ _ hw h
  | f + 1, listed, a, w, hw, h => by
    rw [show f + 1 + g = (f + g) + 1 by omega]
    exact ⟨fun h0 => absurd h0 h.1, fun i hi => wpOp_wide m (wpOp_of_qOp hw (fun a' w' hw' h' => wpAnyIn_of_headQ hL f _ a' w' hw' h') (h.2 i hi).2)⟩
theorem wpAnyIn_of_seq {m : Nat} : ∀ (l : List Oper) (k : Nat) (listed : Array Bool) (a : Act) (w : World), (∀ j, l[j]? = ops[k + j]?) →
    Region.seqB md ops l.length k listed = true → wpListIn Fence.wide m P ops Q l a w → wpAnyIn Fence.wide m P md ops Q l.length listed a w
  | [], _, _, _, _, _, hB, h => ⟨by simpa [Region.seqB] using hB, h⟩
  | o :: l, k, listed, a, w, hl, hB, h => by
    have h0 : ops[k]? = some o := by simpa using (hl 0).symm
    simp only [List.length_cons, Region.seqB, Bool.and_eq_true, decide_eq_true_eq] at hB
    refine ⟨fun h1 => (by rw [hB.1] at h1; cases h1), fun i hi => ?_⟩
    rw [hB.1] at hi
    have hik : i = k := by simpa using hi
    subst hik
    have hw : wpOpIn Fence.wide m P ops Q i (wpListIn Fence.wide m P ops Q l) a w := by unfold wpOpIn; simp only [h0]; exact h
    exact wpOpIn_mono (fun a' w' h' => wpAnyIn_of_seq l (i + 1) _ a' w' (fun j => by have := hl (j + 1); simpa [Nat.add_assoc, Nat.add_comm 1 j] using this) hB.2 h') hw
/-- A region of reads and calls that keep a class of worlds, ahead of a tail in one forced order. -/
theorem wpIn_region_cls_tailW {m id : Nat} {a : Act} {w : World} {l : List Oper} (n : Nat) (S : World → Prop) (hm : P.follows .mixedOrders = true) (hB : Region.lexTailB .any l.toArray n = true) (h0 : S w.drew)
    (h : wpQuiet P l.toArray (fun w' => ∃ r : Cls S, w' = r.w) (fun a' => ∀ w', (∃ r : Cls S, w' = r.w) → wpListIn Fence.wide m P l.toArray Q (l.drop n) a' w') (l.take n) a) : (Code.region id l.toArray true).wpIn Fence.wide m P Q a w := by
  refine wpIn_region_any hm ?_
  simp only [Region.lexTailB, Bool.and_eq_true, decide_eq_true_eq] at hB
  obtain ⟨⟨⟨⟨hsel, hn⟩, hs⟩, hc⟩, hlex⟩ := hB
  have hn' : n < l.length := by simpa using hn
  have htl : (l.take n).length = n := by simp; omega
  have hdl : (l.drop n).length = l.toArray.size - n := by simp
  have inv0 : HeadInv .any l.toArray n (Array.replicate l.toArray.size false) :=
    ⟨by simp, fun j oj _ hl => (by rw [getD_replicate_false] at hl; cases hl), fun t _ ht => getD_in (by simpa using ht) (getD_replicate_false _ _)⟩
  have H := wpAnyLQ_lex (C := fun w' => ∃ r : Cls S, w' = r.w) (md := .any) (g := l.toArray.size - n) hsel hs hc hn (l.take n) 0 _ a (fun j hj => by
    have hj' : j < n := by rw [htl] at hj; exact hj
    simp [hj']) (by simpa using htl) inv0 (by rw [htl]; exact hlex) h
  have := wpAnyIn_of_headQ (m := m) (Q := Q) (g := l.toArray.size - n) (fun listed a' w' hw' hL => by
    have := wpAnyIn_of_seq (md := .any) (m := m) (Q := Q) (l.drop n) n listed a' w' (fun j => by simp [List.getElem?_drop]) (by rw [hdl]; exact hL.1) (hL.2 w' hw')
    rwa [hdl] at this) _ _ _ _ ⟨⟨w.drew, h0⟩, rfl⟩ H
  rw [htl, show n + (l.toArray.size - n) = l.toArray.size by omega] at this
  exact this
end
end Go.Proofs.YteckkbjpeckjmaaDoor.Nf
/- The iterator over the edges that match a letter (package nfa). -/
namespace Go.Proofs.YteckkbjpeckjmaaDoor.Nf
open Go Go.RowKit Go.Shelf Go.Proofs.YteckkbjpeckjmaaDoor Go.Proofs.YteckkbjpeckjmaaDoor.Cb
set_option linter.unusedVariables false
set_option linter.unusedSimpArgs false
set_option maxRecDepth 100000
attribute [local go_sem] Oper.semAt_some
/-- The edges that match x. -/
def mat (l : List Ed) (x : Nat) : List Ed := l.filter fun e => cHas e.p e.q x
theorem mat_yes {l : List Ed} {x k : Nat} (hk : k < l.length) (h : cHas (ed l k).p (ed l k).q x = true) : mat (l.take (k + 1)) x = mat (l.take k) x ++ [ed l k] := by
  unfold mat
  rw [List.take_succ_eq_append_getElem hk, List.filter_append]
  have : ed l k = l[k] := by unfold ed; rw [List.getD_eq_getElem?_getD, List.getElem?_eq_getElem hk]; rfl
  rw [this] at h ⊢
  simp [h]
theorem mat_no {l : List Ed} {x k : Nat} (hk : k < l.length) (h : cHas (ed l k).p (ed l k).q x = false) : mat (l.take (k + 1)) x = mat (l.take k) x := by
  unfold mat
  rw [List.take_succ_eq_append_getElem hk, List.filter_append]
  have : ed l k = l[k] := by unfold ed; rw [List.getD_eq_getElem?_getD, List.getElem?_eq_getElem hk]; rfl
  rw [this] at h
  simp [h]
theorem mat_pre (l : List Ed) (x k : Nat) : mat (l.take k) x <+: mat l x := by
  unfold mat
  exact (List.take_prefix k l).filter _
def edV (e : Ed) : Value := .agg #[.int .i64 e.fr, .int .i64 e.to, .int .u8 e.p, .int .u8 e.q]
theorem matching_any (V S : Int) (s2 s3 s4 : Value) (x : Nat) (w : World) :
    Calls Tryd.prog 93 #[.agg #[.int .i64 V, .int .i64 S, s2, s3, s4], .int .u8 x] w fun r w' => r = .returned (.func (.func 112) #[] #[.pointer (some ⟨w.heap.size, 0, none⟩), .pointer (some ⟨w.heap.size + 1, 0, none⟩)]) ∧
      w' = (w.alloc (.cells #[.int .i64 V, .int .i64 S, s2, s3, s4] 26)).alloc (.cells #[.int .u8 x] 5) := by
  go_enter Tryd.func93, Tryd.ntmps93
  go_wp2
  go_ret
  exact ⟨rfl, rfl⟩
theorem block_lt {A B : World} {k : Nat} (h : B.heap[k]? = A.heap[k]?) (hk : k < A.heap.size) : k < B.heap.size := by
  rcases Nat.lt_or_ge k B.heap.size with h1 | h1
  · exact h1
  · rw [Array.getElem?_eq_none h1, Array.getElem?_eq_getElem hk] at h; cases h
/-- What the iterator's round leaves as it is. -/
def MatS (J : List Ed → World → Prop) (pre : List Ed) (w0 : World) (b : Nat) (e : Ed) (Bx x : Nat) (X : World) : Prop :=
  J pre X ∧ Below w0.heap.size w0 X ∧ Boxed4 X b (.int .i64 e.fr) (.int .i64 e.to) (.int .u8 e.p) (.int .u8 e.q) ∧ Bx < X.heap.size ∧ X.cell? ⟨Bx, 0, none⟩ = some (.int .u8 x)
set_option maxHeartbeats 4000000 in
theorem match_in (m : Nat) (hm : 1 ≤ m) (l Bn Bx : Nat) (C : Option Addr) (es : List Ed) (c x : Nat) (hx : x < 256) (w0 : World) (hes : EdsAt w0 C es) (hl : es.length ≤ 1000000)
    (Kp : World → World → Prop) (hK : ∀ {A B : World}, Kp A B → Below w0.heap.size A B ∧ B.heap[Bx]? = A.heap[Bx]?)
    (J Jx : List Ed → World → Prop) (hJB : ∀ pre W W', J pre W → Below W.heap.size W W' → J pre W')
    (hY : ∀ pre y W, J pre W → pre.length < (mat es x).length → YieldAt Fence.wide (m - 1) Tryd.prog l #[edV y] W fun e W' =>
      (e = .returned (.bool true) ∧ J (pre ++ [y]) W' ∧ Kp W W') ∨ (e = .returned (.bool false) ∧ Jx (pre ++ [y]) W'))
    (W : World) (hb : Below w0.heap.size w0 W) (hc4 : W.cell? ⟨Bn, 4, none⟩ = some (.slice C es.length c)) (hbx : Bx < W.heap.size) (hcx : W.cell? ⟨Bx, 0, none⟩ = some (.int .u8 x)) (h0 : J [] W) :
    CallsIn Fence.wide m Tryd.prog 112 #[.func (.yield l) #[] #[], .pointer (some ⟨Bn, 0, none⟩), .pointer (some ⟨Bx, 0, none⟩)] W fun e W' => (∃ v, e = .returned v) ∧
      ((∃ ys, ys = mat es x ∧ J ys W') ∨ (∃ pre, pre <+: mat es x ∧ Jx pre W')) := by
  have HY := Lib.hid hY
  clear hY
  have hfn : ∀ f, Fence.wide.fn f := fun _ => trivial
  have HM : Hid (Tryd.prog.follows .mixedOrders = true) := (by kernel_rfl : Tryd.prog.follows .mixedOrders = true)
  refine callsIn_of_wp Tryd.func112 rfl trivial ?_ rfl
  simp only [Tryd.ntmps112, List.size_toArray, List.length_cons, List.length_nil, Nat.reduceAdd, Nat.reduceSub, Array.replicate_succ, Array.replicate_zero, List.push_toArray, List.append_toArray, List.nil_append, List.cons_append]
  gi_wp2
  clear hc4
  gi_loopw [9] (fun i wr => ∃ (k : Nat) (pre : List Ed), k ≤ es.length ∧ i = .int .i64 k ∧ Hid (pre = mat (es.take k) x) ∧ J pre wr ∧ Below w0.heap.size w0 wr ∧ Bx < wr.heap.size ∧ wr.cell? ⟨Bx, 0, none⟩ = some (.int .u8 x)) (fun i _ => es.length - (intOf i).toNat)
  case atStart => exact ⟨0, [], by omega, rfl, rfl, h0, hb, hbx, hcx⟩
  case round =>
    clear h0 hb hbx hcx
    obtain ⟨k, pre, hk, rfl, hpre, hJ, hb, hbx, hcx⟩ := hrel
    by_cases hlt : k < es.length
    · obtain ⟨hok, ad, rfl, had, hc⟩ := (hes.below hb) k hlt
      obtain ⟨q0, q1, q2, q3⟩ := four_at hc
      have hyes := mat_yes (x := x) hlt
      have hno := mat_no (x := x) hlt
      have hB4 := Boxed4.new wr 30 (.int .i64 (ed es k).fr) (.int .i64 (ed es k).to) (.int .u8 (ed es k).p) (.int .u8 (ed es k).q)
      have hp := hok.p
      have hq := hok.q
      have hpm : mat (es.take (k + 1)) x <+: mat es x := mat_pre es x (k + 1)
      clear hc hok
      obtain ⟨y, hy⟩ : ∃ y, y = ed es k := ⟨_, rfl⟩
      rw [← hy] at q0 q1 q2 q3 hyes hno hB4 hp hq
      clear hy
      have hS0 : MatS J pre w0 wr.heap.size y Bx x (wr.alloc (.cells #[.int .i64 y.fr, .int .i64 y.to, .int .u8 y.p, .int .u8 y.q] 30)) :=
        ⟨hJB _ _ _ hJ (bal (Below.refl _ _) _), hb.trans ((bal (Below.refl _ _) _).mono hb.size), hB4, by simp; omega, ((bal (Below.refl wr.heap.size wr) _).cell (p := ⟨Bx, 0, none⟩) hbx).trans hcx⟩
      have hSs : ∀ {X Y : World}, MatS J pre w0 wr.heap.size y Bx x X → Below X.heap.size X Y → MatS J pre w0 wr.heap.size y Bx x Y := fun h hxy => ⟨hJB _ _ _ h.1 hxy, stepB h.2.1 hxy, h.2.2.1.below hxy, Nat.lt_of_lt_of_le h.2.2.2.1 hxy.size, (hxy.cell (p := ⟨Bx, 0, none⟩) h.2.2.2.1).trans h.2.2.2.2⟩
      have d0 : ∀ r : Cls (MatS J pre w0 wr.heap.size y Bx x), r.w.cell? ⟨wr.heap.size, 0, none⟩ = some (.int .i64 y.fr) := fun r => r.h.2.2.1.c0
      have d1 : ∀ r : Cls (MatS J pre w0 wr.heap.size y Bx x), r.w.cell? ⟨wr.heap.size, 1, none⟩ = some (.int .i64 y.to) := fun r => r.h.2.2.1.c1
      have d2 : ∀ r : Cls (MatS J pre w0 wr.heap.size y Bx x), r.w.cell? ⟨wr.heap.size, 2, none⟩ = some (.int .u8 y.p) := fun r => r.h.2.2.1.c2
      have d3 : ∀ r : Cls (MatS J pre w0 wr.heap.size y Bx x), r.w.cell? ⟨wr.heap.size, 3, none⟩ = some (.int .u8 y.q) := fun r => r.h.2.2.1.c3
      have d4 : ∀ r : Cls (MatS J pre w0 wr.heap.size y Bx x), r.w.cell? ⟨Bx, 0, none⟩ = some (.int .u8 x) := fun r => r.h.2.2.2.2
      haveI : Nonempty (Cls (MatS J pre w0 wr.heap.size y Bx x)) := ⟨⟨_, hS0⟩⟩
      have HH := Lib.hid fun X => Cb.Has_any y.p y.q x X hp hq hx
      have HL := Lib.hid fun X => letters_any y.fr y.to y.p y.q X
      clear hJ hB4 hb hbx hcx
      cases hh : cHas y.p y.q x with
      | false =>
        have hpre' : Hid (pre = mat (es.take (k + 1)) x) := hpre.out.trans (hno hh).symm
        rw [hh] at HH
        clear hyes hno hpre hh
        gi_wp2
        refine wpIn_region_cls_tailW 7 (MatS J pre w0 wr.heap.size y Bx x) HM.out (by kernel_rfl) (hSs hS0 (Ap.drewN_below _ 1)) ?_
        simp only [List.take_succ_cons, List.take_zero, List.drop_succ_cons, List.drop_zero]
        repeat (go_big_quiet_step (first
          | (go_at_call 92; rename_i r; refine (HL.out r.w).mono ?_; rintro e w4 ⟨rfl, hb4⟩; exact ⟨rfl, ⟨⟨w4, hSs r.h hb4⟩, rfl⟩⟩)
          | (go_at_call 113; rename_i r; refine (HH.out r.w).mono ?_; rintro e w4 ⟨rfl, hb4⟩; exact ⟨rfl, ⟨⟨w4, hSs r.h hb4⟩, rfl⟩⟩)))
        refine wpQuiet_nil ?_
        rintro _ ⟨r, rfl⟩
        have hX := r.h
        generalize r.w = X at hX ⊢
        clear d0 d1 d2 d3 d4
        obtain ⟨hJ2, hb2, _, hbx2, hcx2⟩ := hX
        gi_wp2
        go_roundw
        case rel => exact ⟨k + 1, pre, by omega, by go_num, hpre', hJ2, hb2, hbx2, hcx2⟩
        case measure => simp [intOf]; omega
      | true =>
        have hpre' : Hid (pre ++ [y] = mat (es.take (k + 1)) x) := by show _ = _; rw [hyes hh, hpre.out]
        have hlen : pre.length < (mat es x).length := by
          have h1 := hpm.length_le
          rw [← hpre'.out, List.length_append, List.length_singleton] at h1
          omega
        have HPm := Lib.hid hpm
        rw [hh] at HH
        clear hyes hno hpre hh hpm
        gi_wp2
        refine wpIn_region_cls_tailW 7 (MatS J pre w0 wr.heap.size y Bx x) HM.out (by kernel_rfl) (hSs hS0 (Ap.drewN_below _ 1)) ?_
        simp only [List.take_succ_cons, List.take_zero, List.drop_succ_cons, List.drop_zero]
        repeat (go_big_quiet_step (first
          | (go_at_call 92; rename_i r; refine (HL.out r.w).mono ?_; rintro e w4 ⟨rfl, hb4⟩; exact ⟨rfl, ⟨⟨w4, hSs r.h hb4⟩, rfl⟩⟩)
          | (go_at_call 113; rename_i r; refine (HH.out r.w).mono ?_; rintro e w4 ⟨rfl, hb4⟩; exact ⟨rfl, ⟨⟨w4, hSs r.h hb4⟩, rfl⟩⟩)))
        refine wpQuiet_nil ?_
        rintro _ ⟨r, rfl⟩
        have hX := r.h
        generalize r.w = X at hX ⊢
        clear d0 d1 d2 d3 d4
        obtain ⟨hJ2, hb2, _, hbx2, hcx2⟩ := hX
        obtain ⟨fn, tmps, assign, body, hy, hR⟩ := HY.out pre y X hJ2 hlen
        dsimp only [edV] at hy
        gi_wp2
        refine hR.mono ?_
        rintro e W3 (⟨rfl, hJ3, hk3⟩ | ⟨rfl, hJx3⟩)
        · gi_wp2
          go_roundw
          case rel => exact ⟨k + 1, pre ++ [y], by omega, by go_num, hpre', hJ3, hb2.trans (hK hk3).1, block_lt (hK hk3).2 hbx2, (World.cell?_of_block (a := ⟨Bx, 0, none⟩) (hK hk3).2).trans hcx2⟩
          case measure => simp [intOf]; omega
        · gi_wp2
          refine bodyPost_ret (results_none rfl _ _ _) rfl ?_
          refine ⟨⟨_, rfl⟩, .inr ⟨_, ?_, hJx3⟩⟩
          rw [hpre'.out]
          exact HPm.out
    · obtain rfl : k = es.length := by omega
      have hpre' : Hid (pre = mat es x) := by show _ = _; rw [hpre.out, List.take_length]
      clear hpre
      gi_wp2
      go_end0
      exact ⟨⟨_, rfl⟩, .inl ⟨_, hpre'.out, hJ⟩⟩
theorem match_stops (m : Nat) (hm : 1 ≤ m) (Bn Bx : Nat) (C : Option Addr) (es : List Ed) (c x : Nat) (hx : x < 256) (w0 w1 : World) (hes : EdsAt w0 C es) (hl : es.length ≤ 1000000) (hb : Below w0.heap.size w0 w1)
    (Kp : World → World → Prop) (hK : ∀ {A B : World}, Kp A B → Below w0.heap.size A B ∧ B.heap[Bx]? = A.heap[Bx]?)
    (hbn : Bn < w1.heap.size) (hc4 : w1.cell? ⟨Bn, 4, none⟩ = some (.slice C es.length c)) (hbx : Bx < w1.heap.size) (hcx : w1.cell? ⟨Bx, 0, none⟩ = some (.int .u8 x)) :
    SeqStopsK Fence.wide m Tryd.prog 112 #[.pointer (some ⟨Bn, 0, none⟩), .pointer (some ⟨Bx, 0, none⟩)] (fun y : Ed => #[edV y]) Kp (fun ys => ys = mat es x) (fun pre => pre <+: mat es x) (mat es x).length w1 :=
  fun l J Jx W hW hJ _ hY h0 => match_in m hm l Bn Bx C es c x hx w0 hes hl Kp hK J Jx (fun pre X Y h hb => hJ pre X Y none h ⟨hb.os, hb.tape, hb.output, hb.size, fun k hk _ => hb.block k hk⟩ (fun r e => by cases e)) hY W (hb.trans (hW.mono hb.size))
    ((hW.cell (p := ⟨Bn, 4, none⟩) hbn).trans hc4) (Nat.lt_of_lt_of_le hbx hW.size) ((hW.cell (p := ⟨Bx, 0, none⟩) hbx).trans hcx) h0
end Go.Proofs.YteckkbjpeckjmaaDoor.Nf
/- successors (package nfa). -/
namespace Go.Proofs.YteckkbjpeckjmaaDoor.Nf
open Go Go.RowKit Go.Shelf Go.Proofs.YteckkbjpeckjmaaDoor Go.Proofs.YteckkbjpeckjmaaDoor.Cb
set_option linter.unusedVariables false
set_option linter.unusedSimpArgs false
set_option maxRecDepth 100000
attribute [local go_sem] Oper.semAt_some
theorem info_int6 : (Tryd.prog.info? 3).map (fun i => (i.zero, i.size, i.bytes)) = some (some (.int .i64 0), 1, 8) := by kernel_rfl
/-- Numbers as cells. -/
def zvs (l : List Int) : List Value := l.map (Value.int .i64)
theorem zvs_snoc (l : List Int) (x : Int) : zvs (l ++ [x]) = zvs l ++ [.int .i64 x] := by simp [zvs]
def tgs (xs : List Nat) (l : List Ed) : List Int := (l.filter fun e => hasB xs e.fr).map Ed.to
theorem tgs_all (xs : List Nat) (es : List Ed) (x : Nat) : tgs xs (mat es x) = tg es (hasB xs) x := by
  unfold tgs mat tg
  rw [List.filter_filter]
  congr 2
  funext e
  rw [Bool.and_comm]
theorem tgs_yes {xs : List Nat} {l : List Ed} {e : Ed} (h : hasB xs e.fr = true) : tgs xs (l ++ [e]) = tgs xs l ++ [e.to] := by unfold tgs; simp [List.filter_append, h]
theorem tgs_no {xs : List Nat} {l : List Ed} {e : Ed} (h : hasB xs e.fr = false) : tgs xs (l ++ [e]) = tgs xs l := by unfold tgs; simp [List.filter_append, h]
theorem tgs_len (xs : List Nat) (l : List Ed) : (tgs xs l).length ≤ l.length := by unfold tgs; rw [List.length_map]; exact List.length_filter_le _ _
theorem Boxed4.grown {w w' : World} {b : Nat} {s0 s1 s2 s3 : Value} {row : Option Nat} (h : Boxed4 w b s0 s1 s2 s3) (hg : w.grownBy w' row) (hr : ∀ r, row = some r → ∃ o : Obj, w.heap[r]? = some o ∧ o.isCells = false) : Boxed4 w' b s0 s1 s2 s3 := by
  have hne : some b ≠ row := fun e => by
    obtain ⟨o, ho, hc⟩ := hr b e.symm
    have := h.c0
    unfold World.cell? at this
    simp only [ho] at this
    revert this hc
    cases o <;> simp [Obj.isCells]
  have hbk := hg.block b h.lt hne
  exact ⟨Nat.lt_of_lt_of_le h.lt hg.size, (World.cell?_of_block (a := ⟨b, 0, none⟩) hbk).trans h.c0, (World.cell?_of_block (a := ⟨b, 1, none⟩) hbk).trans h.c1, (World.cell?_of_block (a := ⟨b, 2, none⟩) hbk).trans h.c2, (World.cell?_of_block (a := ⟨b, 3, none⟩) hbk).trans h.c3⟩
set_option maxHeartbeats 4000000 in
theorem succ_in (m : Nat) (hm : 4 ≤ m) (V S : Int) (s2 s3 : Value) (C : Option Addr) (es : List Ed) (c x : Nat) (hx : x < 256) (A : Option Addr) (xs : List Nat) (cs : Nat) (w : World) (hes : EdsAt w C es) (hl : es.length ≤ 1000000) (hxs : Words w A xs) (ux : U64 xs) :
    CallsIn Fence.wide m Tryd.prog 49 #[.agg #[.int .i64 V, .int .i64 S, s2, s3, .slice C es.length c], .slice A xs.length cs, .int .u8 x] w fun e w' =>
      ∃ A' c', e = .returned (.slice A' (stepW es xs x).length c') ∧ OwnW w.heap.size w' A' c' (stepW es xs x) ∧ Below w.heap.size w w' := by
  obtain ⟨i0, hi, hz0, hz1, hz2⟩ := info_parts info_int6
  have hfn : ∀ f, Fence.wide.fn f := fun _ => trivial
  have h1 : 1 ≤ m := by omega
  refine callsIn_of_wp_marks Tryd.func49 rfl trivial ?_ rfl
  simp only [Tryd.ntmps49, List.size_toArray, List.length_cons, List.length_nil, Nat.reduceAdd, Nat.reduceSub, Array.replicate_succ, Array.replicate_zero, List.push_toArray, List.append_toArray, List.nil_append, List.cons_append]
  gi_wp2_with (gi_at_call 93; refine (callsIn_wide.2 (matching_any _ _ _ _ _ _ _)).mono ?_; rintro e w' ⟨rfl, rfl⟩)
  have b1 := ((((Boxed.new (w.alloc (.cells #[.int .i64 V, .int .i64 S, s2, s3, .slice C es.length c] 26)) 41 (.slice A xs.length cs)).alloc (.cells #[.slice none 0 0] 23)).alloc (.cells #[.int .i64 V, .int .i64 S, s2, s3, .slice C es.length c] 26)).alloc (.cells #[.int .u8 x] 5))
  have b2 := ((Boxed.new ((w.alloc (.cells #[.int .i64 V, .int .i64 S, s2, s3, .slice C es.length c] 26)).alloc (.cells #[.slice A xs.length cs] 41)) 23 (.slice none 0 0)).alloc (.cells #[.int .i64 V, .int .i64 S, s2, s3, .slice C es.length c] 26)).alloc (.cells #[.int .u8 x] 5)
  have b3 := (Boxed5.new (((w.alloc (.cells #[.int .i64 V, .int .i64 S, s2, s3, .slice C es.length c] 26)).alloc (.cells #[.slice A xs.length cs] 41)).alloc (.cells #[.slice none 0 0] 23)) 26 (.int .i64 V) (.int .i64 S) s2 s3 (.slice C es.length c)).below (bal (Below.refl _ _) (.cells #[.int .u8 x] 5))
  have b4 := Boxed.new ((((w.alloc (.cells #[.int .i64 V, .int .i64 S, s2, s3, .slice C es.length c] 26)).alloc (.cells #[.slice A xs.length cs] 41)).alloc (.cells #[.slice none 0 0] 23)).alloc (.cells #[.int .i64 V, .int .i64 S, s2, s3, .slice C es.length c] 26)) 5 (.int .u8 x)
  have hB0 := bal (bal (bal (bal (bal (Below.refl w.heap.size w) (.cells #[.int .i64 V, .int .i64 S, s2, s3, .slice C es.length c] 26)) (.cells #[.slice A xs.length cs] 41)) (.cells #[.slice none 0 0] 23)) (.cells #[.int .i64 V, .int .i64 S, s2, s3, .slice C es.length c] 26)) (.cells #[.int .u8 x] 5)
  simp only [World.size_alloc] at b1 b2 b3 b4
  have hsz : (((((w.alloc (.cells #[.int .i64 V, .int .i64 S, s2, s3, .slice C es.length c] 26)).alloc (.cells #[.slice A xs.length cs] 41)).alloc (.cells #[.slice none 0 0] 23)).alloc (.cells #[.int .i64 V, .int .i64 S, s2, s3, .slice C es.length c] 26)).alloc (.cells #[.int .u8 x] 5)).heap.size = w.heap.size + 1 + 1 + 1 + 1 + 1 := by simp
  generalize (((((w.alloc (.cells #[.int .i64 V, .int .i64 S, s2, s3, .slice C es.length c] 26)).alloc (.cells #[.slice A xs.length cs] 41)).alloc (.cells #[.slice none 0 0] 23)).alloc (.cells #[.int .i64 V, .int .i64 S, s2, s3, .slice C es.length c] 26)).alloc (.cells #[.int .u8 x] 5)) = W0 at *
  have h4 := b3.c4
  have b3l := b3.lt
  have h4x := b4.cell
  have b4l := b4.lt
  clear b3 b4
  refine wpIn_rangeFunc_ownH rfl h1 (gf := 112) (lb := #[.pointer (some ⟨w.heap.size + 1 + 1 + 1, 0, none⟩), .pointer (some ⟨w.heap.size + 1 + 1 + 1 + 1, 0, none⟩)]) rfl trivial (enters_of Tryd.func112 (by kernel_rfl) rfl)
    (match_stops (m - 1) (by omega) (w.heap.size + 1 + 1 + 1) (w.heap.size + 1 + 1 + 1 + 1) C es c x hx w W0 hes hl hB0 (Exc [w.heap.size + 1 + 1] W0.heap.size) (fun h => ⟨h.below (by omega) (fun k hk => by have := List.mem_singleton.1 hk; omega), h.block _ (by omega) (fun hm => by have := List.mem_singleton.1 hm; omega)⟩) b3l h4 b4l h4x)
    (fun h k => h.trans k) (excK_b (Nat.le_refl _)) (Below.refl _ _) (fun _ => rfl)
    (fun pre W => (∃ v, Boxed W (w.heap.size + 1 + 1) 23 v ∧ W.ownsRow W0.heap.size 3 1 v (tgs xs pre).length (zvs (tgs xs pre)) ∧ True) ∧ Exc [w.heap.size + 1 + 1] W0.heap.size W0 W)
    (fun _ _ _ => False)
    (OwnFrom.and (Own.from (holdsRow_own W0.heap.size (w.heap.size + 1 + 1) 23 3 1 (fun pre : List Ed => (tgs xs pre).length) (fun pre : List Ed => zvs (tgs xs pre)) (fun _ _ => True)) _) (ownFrom_exc (Nat.le_refl _) (Nat.le_refl _)))
    (fun _ _ _ _ _ hs _ _ => hs)
    ⟨⟨_, b2, ⟨rfl, .inl ⟨rfl, rfl⟩⟩, trivial⟩, Exc.refl _ _ _⟩
    (fun y a' Wr => ∃ Bx, W0.heap.size ≤ Bx ∧ Boxed4 Wr Bx (.int .i64 y.fr) (.int .i64 y.to) (.int .u8 y.p) (.int .u8 y.q) ∧ a' = { tmps := #[.agg #[.int .i64 V, .int .i64 S, s2, s3, .slice C es.length c], .slice A xs.length cs, .int .u8 x, .pointer (some ⟨w.heap.size, 0, none⟩), .pointer (some ⟨w.heap.size + 1, 0, none⟩), undef, .slice none 0 0, .pointer (some ⟨w.heap.size + 1 + 1, 0, none⟩), .pointer (some ⟨Bx, 0, none⟩), .agg #[.int .i64 V, .int .i64 S, s2, s3, .slice C es.length c], .int .u8 x, .func (.func 112) #[] #[.pointer (some ⟨w.heap.size + 1 + 1 + 1, 0, none⟩), .pointer (some ⟨w.heap.size + 1 + 1 + 1 + 1, 0, none⟩)], edV y, undef, undef, undef, undef, undef, undef, undef, undef, undef, undef, undef], defers := [] })
    (fun y a' u X Y row hs hg hr => by
      obtain ⟨Bx, e1, e2, e3⟩ := hs
      exact ⟨Bx, e1, e2.grown hg (fun r e => (hr r e).2), e3⟩)
    ?assign ?body ?done ?stop
  case assign =>
    rintro l1 pre y Wr K hI hK
    dsimp only [edV]
    gi_wp2
    have hI2 := (OwnFrom.and (Own.from (holdsRow_own W0.heap.size (w.heap.size + 1 + 1) 23 3 1 (fun pre : List Ed => (tgs xs pre).length) (fun pre : List Ed => zvs (tgs xs pre)) (fun _ _ => True)) W0.heap.size) (ownFrom_exc (S := [w.heap.size + 1 + 1]) (Nat.le_refl W0.heap.size) (Nat.le_refl _))).alloc (s := pre) (.cells #[.int .i64 y.fr, .int .i64 y.to, .int .u8 y.p, .int .u8 y.q] 30) hI
    exact hK _ _ ((KeepsOthers.alloc _ _).from _) ((Exc.refl _ _ _).alloc hI.2.size _) hI2 ⟨Wr.heap.size, hI.2.size, Boxed4.new Wr 30 _ _ _ _, rfl⟩
  case body =>
    rintro l1 pre y a' Wb hl1 ⟨r, hr⟩ ⟨⟨v, hv, hrow, _⟩, hE⟩ ⟨Bx, hBx, bE, rfl⟩ hlen
    have hbB : Below w.heap.size w Wb := hB0.trans (hE.below (by omega) (fun k hk => by have := List.mem_singleton.1 hk; omega))
    have hlt1 : w.heap.size + 1 < W0.heap.size := by omega
    have hne1 : w.heap.size + 1 ∉ [w.heap.size + 1 + 1] := fun hm => by have := List.mem_singleton.1 hm; omega
    have hc1 := (hE.cell (p := ⟨w.heap.size + 1, 0, none⟩) hlt1 hne1).trans b1.cell
    have hcv := hv.cell
    have hfv := hv.frozen
    have e0 := bE.c0
    have e1 := bE.c1
    have hpl : (tgs xs pre).length < 1000000 := by
      have h2 := tgs_len xs pre
      have h3 : (mat es x).length ≤ es.length := List.length_filter_le _ _
      omega
    have hN4 : W0.heap.size ≤ Wb.heap.size := hE.size
    have h1' : 1 ≤ m - 1 - 1 := by omega
    have HH := Lib.hid fun X (hX : Below w.heap.size w X) => callsIn_wide (n := m - 1 - 1 - 1).2 (Go.Proofs.YteckkbjpeckjmaaDoor.Has_any A xs cs y.fr X (hxs.below hX) ux)
    clear hlen b1 b2 h4 h4x
    cases hb : hasB xs y.fr with
    | false =>
      have HT := Lib.hid (tgs_no (l := pre) hb)
      rw [hb] at HH
      clear hb
      gi_wp2_with (gi_at_call 76; refine (CallsIn.inRound l1 (HH.out _ hbB)).mono ?_; rintro e w3 ⟨rfl, nq, rfl⟩)
      have hbq := Ap.drewN_below Wb nq
      refine ⟨(others_of_below hbq).from _, exc_of_call hbq hN4, ?_, hE.trans (exc_of_call hbq hN4)⟩
      rw [HT.out]
      exact ⟨v, hv.below hbq, hrow.below hbq, trivial⟩
    | true =>
      have HT := Lib.hid (tgs_yes (l := pre) hb)
      rw [hb] at HH
      clear hb
      gi_wp2_with (first
        | (gi_at_call 76; refine (CallsIn.inRound l1 (HH.out _ hbB)).mono ?_; rintro e w3 ⟨rfl, nq, rfl⟩; have hbq := Ap.drewN_below Wb nq; replace hv := hv.below hbq; replace hrow := hrow.below hbq; replace hE := hE.trans (exc_of_call hbq hN4); replace bE := bE.below hbq; clear hcv hfv e0 e1; have hcv := hv.cell; have hfv := hv.frozen; have e1 := bE.c1; have hkq := others_of_below hbq; have hEq := exc_of_call (S := [w.heap.size + 1 + 1]) hbq hN4; clear hbq hbB hc1; generalize Wb.drewN nq = Wc at *)
        | (gi_at_builtin; refine wpListIn_append_own _ rfl _ _ 23 rfl W0.heap.size 3 i0 (.int .i64 0) 1 8 Tryd.underlying23 hi hz0 hz1 hz2 rfl (by decide) _ _ _ rfl (hrow.alloc _) ⟨Wc.heap.size, 0, none⟩ 1 1 [.int .i64 y.to] rfl rfl (cell_one_new _ _ _) (by simp [Value.oneCell']) (by unfold maxLen; omega) (by omega) (by have := hE.size; simp; omega) ?_; intro v' w2 hown' hgrow _; obtain ⟨g', cap', rfl⟩ := ownsRow_succ hown'; obtain ⟨hv1, hv3, hr3, hk5, hE5⟩ := appendedE hv (by decide) hrow hE.size List.mem_cons_self hown' hgrow; have hc5 := hv1.cell; have hf5 := hv1.frozen))
      refine ⟨(hkq.trans hk5).from _, hEq.trans hE5, ?_, hE.trans hE5⟩
      rw [HT.out, zvs_snoc, List.length_append]
      exact ⟨_, hv3, hr3, trivial⟩
  case done =>
    rintro D ys W hD rfl ⟨⟨v, hv, hrow, _⟩, hE⟩ hK
    rw [tgs_all] at hrow
    have hcv := hv.cell
    have hll : (tg es (hasB xs) x).length ≤ maxLen := by
      have h2 := tgs_len xs (mat es x)
      have h3 : (mat es x).length ≤ es.length := List.length_filter_le _ _
      rw [tgs_all] at h2
      unfold maxLen
      omega
    obtain ⟨A2, c2, rfl, _⟩ := Ap.own_form hrow
    have HO := Lib.hid (callsIn_wide (n := m - 1).2 (Of_own A2 _ c2 W (Dg.ints_row hrow rfl) hll))
    have hbB : Below w.heap.size w W := hB0.trans (hE.below (by omega) (fun k hk => by have := List.mem_singleton.1 hk; omega))
    have hDlt := (Array.getElem?_eq_some_iff.1 hK).1
    have hD2 : W0.heap.size ≤ D := hD
    gi_wp2_with (gi_at_call 34; refine HO.out.mono ?_; rintro e w5 ⟨A5, c5, rfl, ho5, hb5⟩)
    have hK5 := (hb5.block D hDlt).trans hK
    refine ⟨by simp, .inl ⟨_, _, rfl, run_takeDeferred hK5, ?_⟩⟩
    have hbs := hbB.size
    exact ⟨_, results_tmp rfl _ _ _, _, _, rfl, ⟨ownsRow_mono (ownsRow_putObj ho5.1 _ hK5 rfl) hbs, ho5.2.1, ho5.2.2⟩, (hbB.trans (hb5.mono hbs)).trans (belowK_b (w := w) (Nat.le_refl _) w5 D _ _ (by omega) hK5 rfl rfl)⟩
  case stop =>
    rintro D c pre W _ _ h _
    exact h.elim
theorem succ_any (V S : Int) (s2 s3 : Value) (C : Option Addr) (es : List Ed) (c x : Nat) (hx : x < 256) (A : Option Addr) (xs : List Nat) (cs : Nat) (w : World) (hes : EdsAt w C es) (hl : es.length ≤ 1000000) (hxs : Words w A xs) (ux : U64 xs) :
    Calls Tryd.prog 49 #[.agg #[.int .i64 V, .int .i64 S, s2, s3, .slice C es.length c], .slice A xs.length cs, .int .u8 x] w fun e w' =>
      ∃ A' c', e = .returned (.slice A' (stepW es xs x).length c') ∧ OwnW w.heap.size w' A' c' (stepW es xs x) ∧ Below w.heap.size w w' :=
  callsIn_wide.1 (succ_in 4 (by omega) V S s2 s3 C es c x hx A xs cs w hes hl hxs ux)
end Go.Proofs.YteckkbjpeckjmaaDoor.Nf
/- ends, checkWord, Run, Accepts, After (package nfa). -/
namespace Go.Proofs.YteckkbjpeckjmaaDoor.Nf
open Go Go.RowKit Go.Proofs.YteckkbjpeckjmaaDoor Go.Proofs.YteckkbjpeckjmaaDoor.Cb
set_option linter.unusedVariables false
set_option maxRecDepth 100000
theorem OwnW.low {B B' : Nat} {w : World} {A : Option Addr} {c : Nat} {xs : List Nat} (h : OwnW B w A c xs) (hb : B' ≤ B) : OwnW B' w A c xs := ⟨ownsRow_mono h.1 hb, h.2.1, h.2.2⟩
theorem OwnW.bel {B : Nat} {w w' : World} {A : Option Addr} {c : Nat} {xs : List Nat} (h : OwnW B w A c xs) (hb : Below w.heap.size w w') : OwnW B w' A c xs := ⟨h.1.below hb, h.2.1, h.2.2⟩
theorem Boxed5.mk0 (w : World) (n : Na) (A B C : Option Addr) (a b c : Nat) : Boxed5 (w.alloc (.cells #[.int .i64 n.V, .int .i64 n.S, .slice A n.st.length a, .slice B n.fi.length b, .slice C n.es.length c] 26)) w.heap.size (.int .i64 n.V) (.int .i64 n.S) (.slice A n.st.length a) (.slice B n.fi.length b) (.slice C n.es.length c) := Boxed5.new _ _ _ _ _ _ _
section
variable (n : Na) (A B C : Option Addr) (a b c : Nat) (w : World) (hx : NaAt w n A B C) (hl : NaLen n)
include hx hl
set_option maxHeartbeats 2000000 in
theorem ends_any (D : Option Addr) (l : List Nat) (d : Nat) (hw : Bys w D l) (h8 : ∀ y ∈ l, y < 256) (hll : l.length ≤ 1000000) :
    Calls Tryd.prog 33 #[.agg #[.int .i64 n.V, .int .i64 n.S, .slice A n.st.length a, .slice B n.fi.length b, .slice C n.es.length c], .slice D l.length d] w fun e w' =>
      ∃ A' c', e = .returned (.slice A' (runW n l).length c') ∧ OwnW w.heap.size w' A' c' (runW n l) ∧ Below w.heap.size w w' := by
  have hB0 := Boxed5.mk0 w n A B C a b c
  have hb0 := bal (Below.refl w.heap.size w) (.cells #[.int .i64 n.V, .int .i64 n.S, .slice A n.st.length a, .slice B n.fi.length b, .slice C n.es.length c] 26)
  have HO := Lib.hid (Of_own A n.st a _ (hx.st.below hb0) (by have := hl.st; unfold maxLen; omega))
  have HS := Lib.hid fun X (hX : Below w.heap.size w X) y (hy : y < 256) E xs e (hE : Words X E xs) (ux : U64 xs) => succ_any n.V n.S (.slice A n.st.length a) (.slice B n.fi.length b) C n.es c y hy E xs e X (hx.es.below hX) hl.es hE ux
  have hs0 := hb0.size
  go_enter Tryd.func33, Tryd.ntmps33
  go_wp2_with (go_at_call 34; ((with_reducible refine HO.out.mono ?_); rintro e w2 ⟨A2, c2, rfl, ho2, hb2⟩))
  have hb3 := stepB hb0 hb2
  have hB3 := hB0.below hb2
  have ho3 := OwnW.low ho2 hs0
  obtain ⟨xs0, hxs0⟩ : ∃ xs0, xs0 = ofL n.st := ⟨_, rfl⟩
  rw [← hxs0] at ho3 ⊢
  have H0 : Hid (xs0 = runTo n l 0) := hxs0
  clear hxs0 ho2 hb0 hB0 hb2 HO hs0
  go_loopw [5, 13] (fun s i wr => ∃ (k : Nat) (xs : List Nat) (E : Option Addr) (e : Nat), k ≤ l.length ∧ i = .int .i64 k ∧ Hid (xs = runTo n l k) ∧ s = .slice E xs.length e ∧ OwnW w.heap.size wr E e xs ∧ Boxed5 wr w.heap.size (.int .i64 n.V) (.int .i64 n.S) (.slice A n.st.length a) (.slice B n.fi.length b) (.slice C n.es.length c) ∧ Below w.heap.size w wr) (fun _ i _ => l.length - (intOf i).toNat)
  case atStart => exact ⟨0, xs0, A2, c2, by omega, rfl, H0, rfl, ho3, hB3, hb3⟩
  case round =>
    clear ho3 hB3 hb3 H0
    obtain ⟨k, xs, E, e, hk, rfl, H, rfl, ho, hB, hb⟩ := hrel
    obtain ⟨z0, z1, z2, z3, z4⟩ := hB.cells
    by_cases hlt : k < l.length
    · obtain ⟨ad, rfl, hcell⟩ := (hw.below hb).at_ hlt
      have hy := h8 (wd l k) (by unfold wd; rw [List.getD_eq_getElem?_getD, List.getElem?_eq_getElem hlt]; exact List.getElem_mem hlt)
      have H' : Hid (stepW n.es xs (wd l k) = runTo n l (k + 1)) := by show _ = _; rw [runTo_succ n hlt, H.out]
      have HS2 := Lib.hid (HS.out wr hb (wd l k) hy E xs e ho.words ho.2.1)
      clear H HS hy
      obtain ⟨ys, hys⟩ : ∃ ys, ys = stepW n.es xs (wd l k) := ⟨_, rfl⟩
      rw [← hys] at H' HS2
      clear hys
      generalize wd l k = x at *
      go_wp2_with (go_at_call 49; ((with_reducible refine HS2.out.mono ?_); rintro e3 w3 ⟨A3, c3, rfl, ho3, hb3⟩))
      go_roundw
      case rel => exact ⟨k + 1, ys, A3, c3, by omega, by go_num, H'.out, rfl, OwnW.low ho3 hb.size, hB.below hb3, stepB hb hb3⟩
      case measure => simp [intOf]; omega
    · obtain rfl : k = l.length := by omega
      have H' : Hid (xs = runW n l) := by show _ = _; rw [H.out, runTo_all]
      clear H HS
      go_wp2
      go_ret
      have hR := H'.out
      subst hR
      exact ⟨E, e, rfl, ho, hb⟩
set_option maxHeartbeats 2000000 in
theorem checkWord_any (D : Option Addr) (l : List Nat) (d : Nat) (hw : Bys w D l) (h8 : ∀ y ∈ l, y < 256) (hll : l.length ≤ 1000000) :
    Calls Tryd.prog 31 #[.agg #[.int .i64 n.V, .int .i64 n.S, .slice A n.st.length a, .slice B n.fi.length b, .slice C n.es.length c], .slice D l.length d] w fun e w' =>
      e = .returned (.int .i64 (wrongN n l)) ∧ Below w.heap.size w w' := by
  have hB0 := Boxed5.mk0 w n A B C a b c
  have hb0 := bal (Below.refl w.heap.size w) (.cells #[.int .i64 n.V, .int .i64 n.S, .slice A n.st.length a, .slice B n.fi.length b, .slice C n.es.length c] 26)
  have HC := Lib.hid (Check6_any n A B C a b c _ (hx.below hb0) hl)
  by_cases h0 : chkN n = 0
  · have hO := ok_of h0
    have HW : Hid (wrongN n l = wordE n.V l) := by show _ = _; unfold wrongN; rw [h0]; rfl
    obtain ⟨v, hv⟩ : ∃ v : Nat, n.V = v := ⟨n.V.toNat, by have := hO.v0; omega⟩
    have hv6 : v ≤ 6 := by have := hO.v6; omega
    have HV := Lib.hid hv
    rw [h0] at HC
    rw [hv] at HC hB0 hb0
    clear hO h0
    by_cases h64 : 64 < l.length
    · have HE : Hid (wrongN n l = 4) := by show _ = _; rw [HW.out]; unfold wordE; rw [if_pos h64]
      have hd : decide ((64 : Int) < (l.length : Int)) = true := decide_eq_true (by omega)
      clear HW hw h8
      generalize l.length = k at *
      rw [hv]
      clear hv
      go_enter Tryd.func31, Tryd.ntmps31
      go_wp2_with (go_at_call 10; ((with_reducible refine HC.out.mono ?_); rintro e w2 ⟨rfl, hb2⟩))
      go_ret
      exact ⟨ret_int HE.out.symm, stepB hb0 hb2⟩
    · have hd : decide ((64 : Int) < (l.length : Int)) = false := decide_eq_false (by omega)
      have HW2 : Hid (wrongN n l = if l.all (fun x => decide (x < 2 ^ v)) then 0 else 1) := by
        show _ = _
        rw [HW.out]
        unfold wordE
        rw [if_neg h64, HV.out, Int.toNat_natCast]
      clear HW
      rw [hv]
      clear hv
      go_enter Tryd.func31, Tryd.ntmps31
      go_wp2_with (go_at_call 10; ((with_reducible refine HC.out.mono ?_); rintro e w2 ⟨rfl, hb2⟩))
      have hB2 := hB0.below hb2
      have hb3 := stepB hb0 hb2
      clear HC hB0 hb0 hb2
      go_loopw [18] (fun i wr => ∃ (k : Nat), k ≤ l.length ∧ i = .int .i64 k ∧ Hid (∀ j, j < k → wd l j < 2 ^ v) ∧ Boxed5 wr w.heap.size (.int .i64 v) (.int .i64 n.S) (.slice A n.st.length a) (.slice B n.fi.length b) (.slice C n.es.length c) ∧ Below w.heap.size w wr) (fun i _ => l.length - (intOf i).toNat)
      case atStart => exact ⟨0, by omega, rfl, fun j hj => absurd hj (by omega), hB2, hb3⟩
      case round =>
        clear hB2 hb3
        obtain ⟨k, hk, rfl, H, hB, hb⟩ := hrel
        obtain ⟨z0, z1, z2, z3, z4⟩ := hB.cells
        by_cases hlt : k < l.length
        · obtain ⟨ad, rfl, hcell⟩ := (hw.below hb).at_ hlt
          have hm : wd l k ∈ l := by unfold wd; rw [List.getD_eq_getElem?_getD, List.getElem?_eq_getElem hlt]; exact List.getElem_mem hlt
          have HL := Lib.hid fun X => isLetter6_any (wd l k) v X (h8 _ hm) hv6
          by_cases hy : wd l k < 2 ^ v
          · have H' : Hid (∀ j, j < k + 1 → wd l j < 2 ^ v) := fun j hj => by
              rcases Nat.lt_or_eq_of_le (Nat.le_of_lt_succ hj) with h1 | rfl
              · exact H.out j h1
              · exact hy
            rw [decide_eq_true hy] at HL
            clear H hy hm HW2
            generalize wd l k = x at *
            go_wp2_with (go_at_call 48; ((with_reducible refine (HL.out _).mono ?_); rintro e w3 ⟨rfl, rfl⟩))
            go_roundw
            case rel => exact ⟨k + 1, by omega, by go_num, H', hB, hb⟩
            case measure => simp [intOf]; omega
          · have HE : Hid (wrongN n l = 1) := by
              show _ = _
              rw [HW2.out, if_neg]
              rw [List.all_eq_true]
              intro h
              exact hy (of_decide_eq_true (h _ hm))
            rw [decide_eq_false hy] at HL
            clear H hy hm HW2
            generalize wd l k = x at *
            go_wp2_with (go_at_call 48; ((with_reducible refine (HL.out _).mono ?_); rintro e w3 ⟨rfl, rfl⟩))
            go_ret
            exact ⟨ret_int HE.out.symm, hb⟩
        · obtain rfl : k = l.length := by omega
          have HE : Hid (wrongN n l = 0) := by
            show _ = _
            rw [HW2.out, if_pos]
            rw [List.all_eq_true]
            intro x hxl
            obtain ⟨j, hj, rfl⟩ := List.getElem_of_mem hxl
            have := H.out j hj
            unfold wd at this
            rw [List.getD_eq_getElem?_getD, List.getElem?_eq_getElem hj] at this
            exact decide_eq_true this
          clear H HW2
          go_wp2
          go_ret
          exact ⟨ret_int HE.out.symm, hb⟩
  · have HE : Hid (wrongN n l = chkN n) := by show _ = _; unfold wrongN; rw [if_pos h0]
    have hne : (chkN n != 0) = true := by rw [bne_iff_ne]; exact h0
    clear h0
    generalize chkN n = E at *
    generalize l.length = k at *
    go_enter Tryd.func31, Tryd.ntmps31
    go_wp2_with (go_at_call 10; ((with_reducible refine HC.out.mono ?_); rintro e w2 ⟨rfl, hb2⟩))
    go_ret
    exact ⟨ret_int HE.out.symm, stepB hb0 hb2⟩
end
end Go.Proofs.YteckkbjpeckjmaaDoor.Nf
/- Run, Accepts, After (package nfa). -/
namespace Go.Proofs.YteckkbjpeckjmaaDoor.Nf
open Go Go.RowKit Go.Proofs.YteckkbjpeckjmaaDoor Go.Proofs.YteckkbjpeckjmaaDoor.Cb
set_option linter.unusedVariables false
set_option maxRecDepth 100000
theorem OwnW.u64 {B : Nat} {w : World} {A : Option Addr} {c : Nat} {xs : List Nat} (h : OwnW B w A c xs) : U64 xs := h.2.1
theorem OwnW.cap {B : Nat} {w : World} {A : Option Addr} {c : Nat} {xs : List Nat} (h : OwnW B w A c xs) : xs.length ≤ c := h.2.2
section
variable (n : Na) (A B C : Option Addr) (a b c : Nat) (w : World) (hx : NaAt w n A B C) (hl : NaLen n)
include hx hl
section
variable (D : Option Addr) (l : List Nat) (d : Nat) (hw : Bys w D l) (h8 : ∀ y ∈ l, y < 256) (hll : l.length ≤ 1000000)
include hw h8 hll
theorem Run_good (h0 : wrongN n l = 0) :
    Calls Tryd.prog 28 #[.agg #[.int .i64 n.V, .int .i64 n.S, .slice A n.st.length a, .slice B n.fi.length b, .slice C n.es.length c], .slice D l.length d] w fun e w' =>
      ∃ A' c', e = .returned (.tuple #[.slice A' (runW n l).length c', .int .i64 0]) ∧ OwnW w.heap.size w' A' c' (runW n l) ∧ Below w.heap.size w w' := by
  have hB0 := Boxed5.mk0 w n A B C a b c
  have hb0 := bal (Below.refl w.heap.size w) (.cells #[.int .i64 n.V, .int .i64 n.S, .slice A n.st.length a, .slice B n.fi.length b, .slice C n.es.length c] 26)
  have HW := checkWord_any n A B C a b c _ (hx.below hb0) hl D l d (hw.below hb0) h8 hll
  rw [h0] at HW
  have HW := Lib.hid HW
  have HE := Lib.hid fun X (hX : Below w.heap.size w X) => ends_any n A B C a b c X (hx.below hX) hl D l d (hw.below hX) h8 hll
  have hs := hb0.size
  clear hx hl hw h8 h0
  generalize runW n l = R at *
  go_enter Tryd.func28, Tryd.ntmps28
  go_wp2_with (first
    | (go_at_call 31; ((with_reducible refine HW.out.mono ?_); rintro e w2 ⟨rfl, hb2⟩); obtain ⟨z0, z1, z2, z3, z4⟩ := (hB0.below hb2).cells; have K2 := stepB hb0 hb2)
    | (go_at_call 33; ((with_reducible refine (HE.out _ K2).mono ?_); rintro e w3 ⟨A3, c3, rfl, ho3, hb3⟩)))
  go_ret2
  exact ⟨A3, c3, rfl, OwnW.low ho3 K2.size, stepB K2 hb3⟩
theorem Run_bad (h0 : wrongN n l ≠ 0) :
    Calls Tryd.prog 28 #[.agg #[.int .i64 n.V, .int .i64 n.S, .slice A n.st.length a, .slice B n.fi.length b, .slice C n.es.length c], .slice D l.length d] w fun e w' =>
      e = .returned (.tuple #[.slice none 0 0, .int .i64 (wrongN n l)]) ∧ Below w.heap.size w w' := by
  have hB0 := Boxed5.mk0 w n A B C a b c
  have hb0 := bal (Below.refl w.heap.size w) (.cells #[.int .i64 n.V, .int .i64 n.S, .slice A n.st.length a, .slice B n.fi.length b, .slice C n.es.length c] 26)
  have HW := Lib.hid (checkWord_any n A B C a b c _ (hx.below hb0) hl D l d (hw.below hb0) h8 hll)
  have hne : (wrongN n l != 0) = true := by rw [bne_iff_ne]; exact h0
  clear hx hl hw h8 h0
  generalize wrongN n l = E at *
  go_enter Tryd.func28, Tryd.ntmps28
  go_wp2_with (go_at_call 31; ((with_reducible refine HW.out.mono ?_); rintro e w2 ⟨rfl, hb2⟩))
  go_ret2
  exact ⟨rfl, stepB hb0 hb2⟩
set_option maxHeartbeats 2000000 in
theorem Accepts_good (h0 : wrongN n l = 0) :
    Calls Tryd.prog 7 #[.agg #[.int .i64 n.V, .int .i64 n.S, .slice A n.st.length a, .slice B n.fi.length b, .slice C n.es.length c], .slice D l.length d] w fun e w' =>
      e = .returned (.tuple #[.bool (accW n l), .int .i64 0]) ∧ Below w.heap.size w w' := by
  have hB0 := Boxed5.mk0 w n A B C a b c
  have hb0 := bal (Below.refl w.heap.size w) (.cells #[.int .i64 n.V, .int .i64 n.S, .slice A n.st.length a, .slice B n.fi.length b, .slice C n.es.length c] 26)
  have HW := checkWord_any n A B C a b c _ (hx.below hb0) hl D l d (hw.below hb0) h8 hll
  rw [h0] at HW
  have HW := Lib.hid HW
  have HE := Lib.hid fun X (hX : Below w.heap.size w X) => ends_any n A B C a b c X (hx.below hX) hl D l d (hw.below hX) h8 hll
  have HO := Lib.hid fun X (hX : Below w.heap.size w X) => Of_own B n.fi b X (hx.fi.below hX) (by have := hl.fi; unfold maxLen; omega)
  have HA : Hid (accW n l = meetB (runW n l) (ofL n.fi)) := rfl
  have hs := hb0.size
  clear hx hl hw h8 h0
  generalize runW n l = R at *
  generalize ofL n.fi = F at *
  generalize accW n l = b0 at *
  go_enter Tryd.func7, Tryd.ntmps7
  go_wp2_with (go_at_call 31; ((with_reducible refine HW.out.mono ?_); rintro e w2 ⟨rfl, hb2⟩))
  have hB2 := hB0.below hb2
  obtain ⟨z0, z1, z2, z3, z4⟩ := hB2.cells
  have K2 := stepB hb0 hb2
  have hlt2 := hB2.lt
  have KD : Below w.heap.size w w2.drew := stepB K2 (Ap.drewN_below w2 1)
  have KE : Below w2.heap.size w2 w2.drew := Ap.drewN_below w2 1
  have hS2 : w2.drew.cell? ⟨w.heap.size, 0, none⟩ = some (.int .i64 n.V) ∧ w2.drew.cell? ⟨w.heap.size, 1, none⟩ = some (.int .i64 n.S) ∧ w2.drew.cell? ⟨w.heap.size, 2, none⟩ = some (.slice A n.st.length a) ∧ w2.drew.cell? ⟨w.heap.size, 3, none⟩ = some (.slice B n.fi.length b) ∧ w2.drew.cell? ⟨w.heap.size, 4, none⟩ = some (.slice C n.es.length c) ∧ Below w2.heap.size w2 w2.drew := ⟨z0, z1, z2, z3, z4, Ap.drewN_below w2 1⟩
  go_region_held3 (fun w' => w'.cell? ⟨w.heap.size, 0, none⟩ = some (.int .i64 n.V) ∧ w'.cell? ⟨w.heap.size, 1, none⟩ = some (.int .i64 n.S) ∧ w'.cell? ⟨w.heap.size, 2, none⟩ = some (.slice A n.st.length a) ∧ w'.cell? ⟨w.heap.size, 3, none⟩ = some (.slice B n.fi.length b) ∧ w'.cell? ⟨w.heap.size, 4, none⟩ = some (.slice C n.es.length c) ∧ Below w2.heap.size w2 w')
    (first | assumption)
    (first
      | (go_at_call 33; ((with_reducible refine (HE.out w2.drew KD).mono ?_); rintro e w3 ⟨A3, c3, rfl, ho3, hb3⟩); have hB3 := hB2.below (stepB KE hb3); have hS3 : w3.cell? ⟨w.heap.size, 0, none⟩ = some (.int .i64 n.V) ∧ w3.cell? ⟨w.heap.size, 1, none⟩ = some (.int .i64 n.S) ∧ w3.cell? ⟨w.heap.size, 2, none⟩ = some (.slice A n.st.length a) ∧ w3.cell? ⟨w.heap.size, 3, none⟩ = some (.slice B n.fi.length b) ∧ w3.cell? ⟨w.heap.size, 4, none⟩ = some (.slice C n.es.length c) ∧ Below w2.heap.size w2 w3 := ⟨hB3.c0, hB3.c1, hB3.c2, hB3.c3, hB3.c4, stepB KE hb3⟩; have K3 := stepB K2 hS3.2.2.2.2.2)
      | (go_at_call 34; ((with_reducible refine (HO.out w3 K3).mono ?_); rintro e w4 ⟨A4, c4, rfl, ho4, hb4⟩); have hB4 := hB3.below hb4; have hS4 : w4.cell? ⟨w.heap.size, 0, none⟩ = some (.int .i64 n.V) ∧ w4.cell? ⟨w.heap.size, 1, none⟩ = some (.int .i64 n.S) ∧ w4.cell? ⟨w.heap.size, 2, none⟩ = some (.slice A n.st.length a) ∧ w4.cell? ⟨w.heap.size, 3, none⟩ = some (.slice B n.fi.length b) ∧ w4.cell? ⟨w.heap.size, 4, none⟩ = some (.slice C n.es.length c) ∧ Below w2.heap.size w2 w4 := ⟨hB4.c0, hB4.c1, hB4.c2, hB4.c3, hB4.c4, stepB hS3.2.2.2.2.2 hb4⟩)
      | (go_at_call 32; ((with_reducible refine (Intersects_any A3 A4 R F c3 c4 w4 (ho3.words.below hb4) (OwnW.u64 ho3) (OwnW.cap ho3) ho4.words (OwnW.u64 ho4) (OwnW.cap ho4)).mono ?_); rintro e w5 ⟨rfl, rfl⟩)))
  go_wp2
  go_ret2
  rw [HA.out]
  exact ⟨rfl, stepB K2 hS4.2.2.2.2.2⟩
theorem Accepts_bad (h0 : wrongN n l ≠ 0) :
    Calls Tryd.prog 7 #[.agg #[.int .i64 n.V, .int .i64 n.S, .slice A n.st.length a, .slice B n.fi.length b, .slice C n.es.length c], .slice D l.length d] w fun e w' =>
      e = .returned (.tuple #[.bool false, .int .i64 (wrongN n l)]) ∧ Below w.heap.size w w' := by
  have hB0 := Boxed5.mk0 w n A B C a b c
  have hb0 := bal (Below.refl w.heap.size w) (.cells #[.int .i64 n.V, .int .i64 n.S, .slice A n.st.length a, .slice B n.fi.length b, .slice C n.es.length c] 26)
  have HW := Lib.hid (checkWord_any n A B C a b c _ (hx.below hb0) hl D l d (hw.below hb0) h8 hll)
  have hne : (wrongN n l != 0) = true := by rw [bne_iff_ne]; exact h0
  clear hx hl hw h8 h0
  generalize wrongN n l = E at *
  go_enter Tryd.func7, Tryd.ntmps7
  go_wp2_with (go_at_call 31; ((with_reducible refine HW.out.mono ?_); rintro e w2 ⟨rfl, hb2⟩))
  go_ret2
  exact ⟨rfl, stepB hb0 hb2⟩
end
section
variable (E : Option Addr) (xs : List Nat) (d : Nat) (x : Nat)
theorem After_good (hx8 : x < 256) (hE : Words w E xs) (ux : U64 xs) (h0 : chkN n = 0) (h1 : x < 2 ^ n.V.toNat) :
    Calls Tryd.prog 12 #[.agg #[.int .i64 n.V, .int .i64 n.S, .slice A n.st.length a, .slice B n.fi.length b, .slice C n.es.length c], .slice E xs.length d, .int .u8 x] w fun e w' =>
      ∃ A' c', e = .returned (.tuple #[.slice A' (stepW n.es xs x).length c', .int .i64 0]) ∧ OwnW w.heap.size w' A' c' (stepW n.es xs x) ∧ Below w.heap.size w w' := by
  have hB0 := Boxed5.mk0 w n A B C a b c
  have hb0 := bal (Below.refl w.heap.size w) (.cells #[.int .i64 n.V, .int .i64 n.S, .slice A n.st.length a, .slice B n.fi.length b, .slice C n.es.length c] 26)
  have HC := Check6_any n A B C a b c _ (hx.below hb0) hl
  rw [h0] at HC
  have hO := ok_of h0
  have HS := Lib.hid fun X (hX : Below w.heap.size w X) => succ_any n.V n.S (.slice A n.st.length a) (.slice B n.fi.length b) C n.es c x hx8 E xs d X (hx.es.below hX) hl.es (hE.below hX) ux
  obtain ⟨v, hv⟩ : ∃ v : Nat, n.V = v := ⟨n.V.toNat, by have := hO.v0; omega⟩
  have HL := Lib.hid fun X => isLetter6_any x v X hx8 (by have := hO.v6; omega)
  rw [hv, Int.toNat_natCast] at h1
  rw [decide_eq_true h1] at HL
  rw [hv] at HC hB0 hb0 HS ⊢
  have HC := Lib.hid HC
  clear hx hl hE h0 hO h1 hv
  generalize stepW n.es xs x = R at *
  go_enter Tryd.func12, Tryd.ntmps12
  go_wp2_with (first
    | (go_at_call 10; ((with_reducible refine HC.out.mono ?_); rintro e w2 ⟨rfl, hb2⟩); obtain ⟨z0, z1, z2, z3, z4⟩ := (hB0.below hb2).cells; have K2 := stepB hb0 hb2)
    | (go_at_call 48; ((with_reducible refine (HL.out _).mono ?_); rintro e w3 ⟨rfl, rfl⟩))
    | (go_at_call 49; ((with_reducible refine (HS.out _ K2).mono ?_); rintro e w4 ⟨A4, c4, rfl, ho4, hb4⟩)))
  go_ret2
  exact ⟨A4, c4, rfl, OwnW.low ho4 K2.size, stepB K2 hb4⟩
theorem After_letter (hx8 : x < 256) (h0 : chkN n = 0) (h1 : ¬ x < 2 ^ n.V.toNat) :
    Calls Tryd.prog 12 #[.agg #[.int .i64 n.V, .int .i64 n.S, .slice A n.st.length a, .slice B n.fi.length b, .slice C n.es.length c], .slice E xs.length d, .int .u8 x] w fun e w' =>
      e = .returned (.tuple #[.slice none 0 0, .int .i64 1]) ∧ Below w.heap.size w w' := by
  have hB0 := Boxed5.mk0 w n A B C a b c
  have hb0 := bal (Below.refl w.heap.size w) (.cells #[.int .i64 n.V, .int .i64 n.S, .slice A n.st.length a, .slice B n.fi.length b, .slice C n.es.length c] 26)
  have HC := Check6_any n A B C a b c _ (hx.below hb0) hl
  rw [h0] at HC
  have hO := ok_of h0
  obtain ⟨v, hv⟩ : ∃ v : Nat, n.V = v := ⟨n.V.toNat, by have := hO.v0; omega⟩
  have HL := Lib.hid fun X => isLetter6_any x v X hx8 (by have := hO.v6; omega)
  rw [hv, Int.toNat_natCast] at h1
  rw [decide_eq_false h1] at HL
  rw [hv] at HC hB0 hb0 ⊢
  have HC := Lib.hid HC
  clear hx hl h0 hO h1 hv
  go_enter Tryd.func12, Tryd.ntmps12
  go_wp2_with (first
    | (go_at_call 10; ((with_reducible refine HC.out.mono ?_); rintro e w2 ⟨rfl, hb2⟩); obtain ⟨z0, z1, z2, z3, z4⟩ := (hB0.below hb2).cells; have K2 := stepB hb0 hb2)
    | (go_at_call 48; ((with_reducible refine (HL.out _).mono ?_); rintro e w3 ⟨rfl, rfl⟩)))
  go_ret2
  exact ⟨rfl, K2⟩
theorem After_bad (h0 : chkN n ≠ 0) :
    Calls Tryd.prog 12 #[.agg #[.int .i64 n.V, .int .i64 n.S, .slice A n.st.length a, .slice B n.fi.length b, .slice C n.es.length c], .slice E xs.length d, .int .u8 x] w fun e w' =>
      e = .returned (.tuple #[.slice none 0 0, .int .i64 (chkN n)]) ∧ Below w.heap.size w w' := by
  have hB0 := Boxed5.mk0 w n A B C a b c
  have hb0 := bal (Below.refl w.heap.size w) (.cells #[.int .i64 n.V, .int .i64 n.S, .slice A n.st.length a, .slice B n.fi.length b, .slice C n.es.length c] 26)
  have HC := Lib.hid (Check6_any n A B C a b c _ (hx.below hb0) hl)
  have hne : (chkN n != 0) = true := by rw [bne_iff_ne]; exact h0
  clear hx hl h0
  generalize chkN n = E at *
  go_enter Tryd.func12, Tryd.ntmps12
  go_wp2_with (go_at_call 10; ((with_reducible refine HC.out.mono ?_); rintro e w2 ⟨rfl, hb2⟩))
  go_ret2
  exact ⟨rfl, stepB hb0 hb2⟩
end
end
end Go.Proofs.YteckkbjpeckjmaaDoor.Nf
/- slices.Clone of ints and of edges; reversed, Reverse (package nfa). -/
namespace Go.Proofs.YteckkbjpeckjmaaDoor.Nf
open Go Go.RowKit Go.Proofs.YteckkbjpeckjmaaDoor Go.Proofs.YteckkbjpeckjmaaDoor.Cb
set_option linter.unusedVariables false
set_option maxRecDepth 100000
theorem ints_cells {w : World} {ad : Addr} {l : List Int} (hx : Ints w (some ad) l) : ∀ j u, (zvs l)[j]? = some u → w.cell? (ad.add j) = some u := fun j u hu => by
  have hj := (List.getElem?_eq_some_iff.1 hu).1
  rw [zvs, List.length_map] at hj
  obtain ⟨_, e, _, hc⟩ := hx j hj
  cases e
  rw [hc, ← hu]
  simp [zvs, nd, hj]
theorem zvs_one {l : List Int} : ∀ x ∈ zvs l, x.oneCell' = true := by
  intro x hx
  obtain ⟨y, _, rfl⟩ := List.mem_map.1 hx
  rfl
set_option maxHeartbeats 2000000 in
theorem CloneInts_any (A : Option Addr) (l : List Int) (c : Nat) (w : World) (hx : Ints w A l) (hl : l.length ≤ 1000000) :
    Calls Tryd.prog 102 #[.slice A l.length c] w fun e w' => ∃ A' c', e = .returned (.slice A' l.length c') ∧ w'.ownsRow w.heap.size 3 1 (.slice A' l.length c') l.length (zvs l) ∧ Below w.heap.size w w' := by
  obtain ⟨i0, hi, hz0, hz1, hz2⟩ := info_parts info_int6
  have q22 : ∀ (w : World) (a : Option Addr) (n c n' c' : Nat), (binOp .eql 23 (.slice a n c) (.slice none n' c')).run Tryd.prog w = .ok (.bool a.isNone) w := fun w a n c n' c' => Lib.run_eql_slice_nil w _ _ a n c n' c' Tryd.underlying23
  rcases A with _ | ad
  · have hl0 : l = [] := by
      cases l with
      | nil => rfl
      | cons x r => obtain ⟨ad, e, _⟩ := hx 0 (by simp); cases e
    subst hl0
    clear hx
    show Calls Tryd.prog 102 #[.slice none 0 c] w _
    go_enter Tryd.func102, Tryd.ntmps102
    go_wp2
    go_ret
    exact ⟨none, 0, rfl, ⟨rfl, .inl ⟨rfl, rfl⟩⟩, Below.refl _ _⟩
  · have hc := Lib.hid (ints_cells hx)
    have HL : Hid ((zvs l).length = l.length) := List.length_map _
    have h1 := Lib.hid (zvs_one (l := l))
    clear hx
    generalize zvs l = F at *
    generalize l.length = n at *
    go_enter Tryd.func102, Tryd.ntmps102
    go_wp2_with (at_builtin; refine wpList_append_own _ rfl _ _ 23 rfl w.heap.size 3 i0 _ 1 8 Tryd.underlying23 hi hz0 hz1 hz2 rfl (by decide) _ _ _ rfl (World.ownsRow_made w #[] 0 (Nat.le_refl _) (Nat.zero_le _) (by simp)) ad n c F rfl (by have := HL.out; omega) (fun j u hj => Lib.cell?_alloc_some _ (hc.out j u hj)) h1.out (by unfold maxLen; omega) (by omega) (by simp) ?_; intro v' w5 hown' hgrow _)
    go_ret
    rw [Nat.zero_add, List.nil_append] at hown'
    obtain ⟨A', c', rfl, _⟩ := Ap.own_form hown'
    exact ⟨A', c', rfl, hown', ((Below.refl _ w).alloc (Nat.le_refl _) _).grown hgrow (by simp) (fun k hk => by cases hk; exact Nat.le_refl _)⟩
set_option maxHeartbeats 2000000 in
theorem CloneEdges_any (A : Option Addr) (l : List Ed) (c : Nat) (w : World) (hx : EdsAt w A l) (hl : l.length ≤ 1000000) :
    Calls Tryd.prog 103 #[.slice A l.length c] w fun e w' => ∃ A' c', e = .returned (.slice A' l.length c') ∧ w'.ownsRow w.heap.size 30 4 (.slice A' l.length c') l.length (evs l) ∧ Below w.heap.size w w' := by
  obtain ⟨i0, hi, hz0, hz1, hz2⟩ := info_parts info_edge
  have q22 : ∀ (w : World) (a : Option Addr) (n c n' c' : Nat), (binOp .eql 24 (.slice a n c) (.slice none n' c')).run Tryd.prog w = .ok (.bool a.isNone) w := fun w a n c n' c' => Lib.run_eql_slice_nil w _ _ a n c n' c' Tryd.underlying24
  rcases A with _ | ad
  · have hl0 : l = [] := by
      cases l with
      | nil => rfl
      | cons x r => obtain ⟨_, ad, e, _⟩ := hx 0 (by simp); cases e
    subst hl0
    clear hx
    show Calls Tryd.prog 103 #[.slice none 0 c] w _
    go_enter Tryd.func103, Tryd.ntmps103
    go_wp2
    go_ret
    exact ⟨none, 0, rfl, ⟨rfl, .inl ⟨rfl, rfl⟩⟩, Below.refl _ _⟩
  · have hc := Lib.hid (eds_cells hx)
    have HL := Lib.hid (evs_len l)
    have h1 := Lib.hid (evs_one (l := l))
    clear hx
    generalize evs l = F at *
    generalize l.length = n at *
    go_enter Tryd.func103, Tryd.ntmps103
    go_wp2_with (at_builtin; refine wpList_append_own _ rfl _ _ 24 rfl w.heap.size 30 i0 _ 4 24 Tryd.underlying24 hi hz0 hz1 hz2 rfl (by decide) _ _ _ rfl (World.ownsRow_made w #[] 0 (Nat.le_refl _) (Nat.zero_le _) (by simp)) ad n c F rfl (by have := HL.out; omega) (fun j u hj => Lib.cell?_alloc_some _ (hc.out j u hj)) h1.out (by unfold maxLen; omega) (by omega) (by simp) ?_; intro v' w5 hown' hgrow _)
    go_ret
    rw [Nat.zero_add, List.nil_append] at hown'
    obtain ⟨A', c', rfl, _⟩ := Ap.own_form hown'
    exact ⟨A', c', rfl, hown', ((Below.refl _ w).alloc (Nat.le_refl _) _).grown hgrow (by simp) (fun k hk => by cases hk; exact Nat.le_refl _)⟩
end Go.Proofs.YteckkbjpeckjmaaDoor.Nf
