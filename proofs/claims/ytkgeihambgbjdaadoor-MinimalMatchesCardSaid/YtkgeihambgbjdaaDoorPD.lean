/- Automata as lists: validity, the states to which words lead, reversed and united automata. Plain mathematics, nothing of the program. -/
import Derived.Test.YtkgeihambgbjdaaDoorBS
import Derived.Test.YtkgeihambgbjdaaDoorPK
import Derived.Test.YtkgeihambgbjdaaDoorPB
import Derived.Test.YtkgeihambgbjdaaDoorPA
import Derived.Laws.EntriesVeiled
import Derived.Shelf.RegionOpen
import Derived.RangeFuncCalls
import Derived.Test.YtkgeihambgbjdaaDoorProg
import Derived.RangeFuncKeeps
import Derived.RangeFuncLeaves
import Derived.Shelf.Abstract
import Derived.OwnWalkIn
import Derived.TacticsInMore
import Derived.LoopNIn
import Derived.LoopIn
import Derived.RangeFuncBox
import Derived.RangeFuncWrites
import Derived.RangeFuncNested
import Derived.Maps.AppendAt
import Derived.Deep.RegionHeld3
import Derived.Lib.SliceRun
import Derived.BigQuiet
import Derived.Deep.QuietTactic
namespace Go.Proofs.YtkgeihambgbjdaaDoor.Nf
open Go Go.RowKit Go.Proofs.YtkgeihambgbjdaaDoor
set_option linter.unusedVariables false
/-- An edge. -/
structure Ed where
  fr : Int
  to : Int
  p : Nat
  q : Nat
  deriving DecidableEq
instance : Inhabited Ed := ⟨⟨0, 0, 0, 0⟩⟩
def ed (l : List Ed) (j : Nat) : Ed := l.getD j default
/-- An automaton. -/
structure Na where
  V : Int
  S : Int
  st : List Int
  fi : List Int
  es : List Ed
  deriving DecidableEq
def inS (S z : Int) : Bool := decide (0 ≤ z ∧ z < S)
/-- Number i of a list of states is one, and greater than the one before. -/
def ascP (S : Int) (l : List Int) (i : Nat) : Bool := inS S (nd l i) && (decide (i = 0) || decide (nd l (i - 1) < nd l i))
def asc (S : Int) (l : List Int) : Bool := allB (ascP S l) l.length
def edE (V S : Int) (e : Ed) : Int := if inS S e.fr && inS S e.to then chk e.p e.q V else 8
/-- The first error of the first k edges. -/
def edsE (V S : Int) (l : List Ed) : Nat → Int
  | 0 => 0
  | k + 1 => if edsE V S l k = 0 then edE V S (ed l k) else edsE V S l k
def chkN (n : Na) : Int :=
  if ¬ (0 ≤ n.V ∧ n.V ≤ 6) then 7 else if n.S < 0 then 1 else if ¬ (n.S ≤ 64 ∧ n.es.length ≤ 512) then 4 else if asc n.S n.st = false then 8 else if asc n.S n.fi = false then 8 else edsE n.V n.S n.es n.es.length
theorem edsE_stop {V S : Int} {l : List Ed} {k : Nat} (h : edsE V S l k ≠ 0) : ∀ d, edsE V S l (k + d) = edsE V S l k
  | 0 => rfl
  | d + 1 => by
    have ih := edsE_stop h d
    show (if edsE V S l (k + d) = 0 then _ else edsE V S l (k + d)) = _
    rw [ih, if_neg h]
theorem edsE_err {V S : Int} {l : List Ed} {k : Nat} (h : edsE V S l k = 0) (hk : k < l.length) (he : edE V S (ed l k) ≠ 0) : edsE V S l l.length = edE V S (ed l k) := by
  have h1 : edsE V S l (k + 1) = edE V S (ed l k) := by show (if _ then _ else _) = _; rw [if_pos h]
  have := edsE_stop (V := V) (S := S) (l := l) (k := k + 1) (by rw [h1]; exact he) (l.length - (k + 1))
  rw [show k + 1 + (l.length - (k + 1)) = l.length by omega, h1] at this
  exact this
theorem edsE_all {V S : Int} {l : List Ed} : ∀ {k : Nat}, edsE V S l k = 0 → ∀ j, j < k → edE V S (ed l j) = 0
  | 0, _, j, hj => absurd hj (by omega)
  | k + 1, h, j, hj => by
    have h' : (if edsE V S l k = 0 then edE V S (ed l k) else edsE V S l k) = 0 := h
    by_cases h0 : edsE V S l k = 0
    · rw [if_pos h0] at h'
      rcases Nat.lt_or_eq_of_le (Nat.le_of_lt_succ hj) with h1 | rfl
      · exact edsE_all h0 j h1
      · exact h'
    · rw [if_neg h0] at h'
      exact absurd h' h0
theorem edsE_none {V S : Int} {l : List Ed} : ∀ {k : Nat}, (∀ j, j < k → edE V S (ed l j) = 0) → edsE V S l k = 0
  | 0, _ => rfl
  | k + 1, h => by
    show (if edsE V S l k = 0 then edE V S (ed l k) else edsE V S l k) = 0
    rw [if_pos (edsE_none fun j hj => h j (by omega))]
    exact h k (by omega)
theorem ed_mem {l : List Ed} {j : Nat} (h : j < l.length) : ed l j ∈ l := by
  unfold ed
  rw [List.getD_eq_getElem?_getD, List.getElem?_eq_getElem h]
  exact List.getElem_mem h
theorem mem_ed {l : List Ed} {e : Ed} (h : e ∈ l) : ∃ j, j < l.length ∧ ed l j = e := by
  obtain ⟨j, hj, rfl⟩ := List.getElem_of_mem h
  exact ⟨j, hj, by unfold ed; rw [List.getD_eq_getElem?_getD, List.getElem?_eq_getElem hj]; rfl⟩
theorem mem_nd {l : List Int} {z : Int} (h : z ∈ l) : ∃ j, j < l.length ∧ nd l j = z := by
  obtain ⟨j, hj, rfl⟩ := List.getElem_of_mem h
  exact ⟨j, hj, by unfold nd; rw [List.getD_eq_getElem?_getD, List.getElem?_eq_getElem hj]; rfl⟩
/-- A valid automaton. -/
structure Ok (n : Na) : Prop where
  v0 : 0 ≤ n.V
  v6 : n.V ≤ 6
  s0 : 0 ≤ n.S
  s64 : n.S ≤ 64
  es : n.es.length ≤ 512
  st : asc n.S n.st = true
  fi : asc n.S n.fi = true
  ed : ∀ e ∈ n.es, edE n.V n.S e = 0
theorem ok_of {n : Na} (h : chkN n = 0) : Ok n := by
  unfold chkN at h
  by_cases h1 : 0 ≤ n.V ∧ n.V ≤ 6
  · rw [if_neg (by simp [h1])] at h
    by_cases h2 : n.S < 0
    · rw [if_pos h2] at h; cases h
    · rw [if_neg h2] at h
      by_cases h3 : n.S ≤ 64 ∧ n.es.length ≤ 512
      · rw [if_neg (by simp [h3])] at h
        cases h4 : asc n.S n.st with
        | false => rw [h4, if_pos rfl] at h; cases h
        | true =>
          cases h5 : asc n.S n.fi with
          | false => rw [h4, h5, if_neg (by simp), if_pos rfl] at h; cases h
          | true =>
            rw [h4, h5, if_neg (by simp), if_neg (by simp)] at h
            refine ⟨h1.1, h1.2, by omega, h3.1, h3.2, h4, h5, fun e he => ?_⟩
            obtain ⟨j, hj, rfl⟩ := mem_ed he
            exact edsE_all h j hj
      · rw [if_pos (by simpa using h3)] at h; cases h
  · rw [if_pos h1] at h; cases h
theorem ok_chk {n : Na} (h : Ok n) : chkN n = 0 := by
  unfold chkN
  rw [if_neg (by simp [h.v0, h.v6]), if_neg (by have := h.s0; omega), if_neg (by simp [h.s64, h.es]), h.st, h.fi, if_neg (by simp), if_neg (by simp)]
  exact edsE_none fun j hj => h.ed _ (ed_mem hj)
theorem inS_iff {S z : Int} : inS S z = true ↔ 0 ≤ z ∧ z < S := by unfold inS; rw [decide_eq_true_iff]
theorem asc_in {S : Int} {l : List Int} (h : asc S l = true) {z : Int} (hz : z ∈ l) : 0 ≤ z ∧ z < S := by
  obtain ⟨j, hj, rfl⟩ := mem_nd hz
  have := (allB_iff _ _).1 h j hj
  unfold ascP at this
  rw [Bool.and_eq_true] at this
  exact inS_iff.1 this.1
theorem edE_in {V S : Int} {e : Ed} (h : edE V S e = 0) : (0 ≤ e.fr ∧ e.fr < S) ∧ (0 ≤ e.to ∧ e.to < S) ∧ chk e.p e.q V = 0 := by
  unfold edE at h
  by_cases h1 : (inS S e.fr && inS S e.to) = true
  · rw [if_pos h1] at h
    rw [Bool.and_eq_true, inS_iff, inS_iff] at h1
    exact ⟨h1.1, h1.2, h⟩
  · rw [if_neg h1] at h; cases h
/-- What edges that match x and begin where P says lead to. -/
def tg (l : List Ed) (P : Int → Bool) (x : Nat) : List Int := (l.filter fun e => cHas e.p e.q x && P e.fr).map Ed.to
def stepW (l : List Ed) (xs : List Nat) (x : Nat) : List Nat := ofL (tg l (hasB xs) x)
/-- The set that the first k letters of a word lead to. -/
def runTo (n : Na) (w : List Nat) (k : Nat) : List Nat := (w.take k).foldl (stepW n.es) (ofL n.st)
def runW (n : Na) (w : List Nat) : List Nat := w.foldl (stepW n.es) (ofL n.st)
theorem runTo_zero (n : Na) (w : List Nat) : runTo n w 0 = ofL n.st := rfl
theorem runTo_all (n : Na) (w : List Nat) : runTo n w w.length = runW n w := by unfold runTo runW; rw [List.take_length]
theorem runTo_succ (n : Na) {w : List Nat} {k : Nat} (h : k < w.length) : runTo n w (k + 1) = stepW n.es (runTo n w k) (wd w k) := by
  unfold runTo
  have e : w.take (k + 1) = w.take k ++ [wd w k] := by
    rw [List.take_succ_eq_append_getElem h]
    simp [wd, h]
  rw [e, List.foldl_append]
  rfl
def accW (n : Na) (w : List Nat) : Bool := meetB (runW n w) (ofL n.fi)
/-- A word leads from p to q. -/
def Path (l : List Ed) : List Nat → Int → Int → Prop
  | [], p, q => p = q
  | x :: w, p, q => ∃ e ∈ l, cHas e.p e.q x = true ∧ e.fr = p ∧ Path l w e.to q
theorem mem_tg {l : List Ed} {P : Int → Bool} {x : Nat} {z : Int} : z ∈ tg l P x ↔ ∃ e ∈ l, cHas e.p e.q x = true ∧ P e.fr = true ∧ e.to = z := by
  unfold tg
  rw [List.mem_map]
  constructor
  · rintro ⟨e, he, rfl⟩
    obtain ⟨h1, h2⟩ := List.mem_filter.1 he
    rw [Bool.and_eq_true] at h2
    exact ⟨e, h1, h2.1, h2.2, rfl⟩
  · rintro ⟨e, he, h1, h2, rfl⟩
    exact ⟨e, List.mem_filter.2 ⟨he, by rw [Bool.and_eq_true]; exact ⟨h1, h2⟩⟩, rfl⟩
theorem has_ofL {l : List Int} {z : Int} : hasB (ofL l) z = true ↔ (0 ≤ z ∧ z ≤ 4095) ∧ z ∈ l := by
  unfold hasB
  rw [Bool.and_eq_true, decide_eq_true_iff]
  constructor
  · rintro ⟨h1, h2⟩
    rw [mem_ofL _ (by omega), decide_eq_true_iff, Int.toNat_of_nonneg h1.1] at h2
    exact ⟨h1, h2⟩
  · rintro ⟨h1, h2⟩
    refine ⟨h1, ?_⟩
    rw [mem_ofL _ (by omega), decide_eq_true_iff, Int.toNat_of_nonneg h1.1]
    exact h2
section
variable {n : Na}
theorem has_step (h : ∀ e ∈ n.es, edE n.V n.S e = 0) (hS : n.S ≤ 64) {xs : List Nat} {x : Nat} {z : Int} : hasB (stepW n.es xs x) z = true ↔ ∃ e ∈ n.es, cHas e.p e.q x = true ∧ hasB xs e.fr = true ∧ e.to = z := by
  unfold stepW
  rw [has_ofL, mem_tg]
  constructor
  · exact fun h => h.2
  · rintro ⟨e, he, h1, h2, rfl⟩
    have := (edE_in (h e he)).2.1
    exact ⟨by omega, e, he, h1, h2, rfl⟩
theorem has_run (h : ∀ e ∈ n.es, edE n.V n.S e = 0) (hS : n.S ≤ 64) : ∀ (w : List Nat) (xs : List Nat) (z : Int), hasB (w.foldl (stepW n.es) xs) z = true ↔ ∃ p, hasB xs p = true ∧ Path n.es w p z
  | [], xs, z => by
    show hasB xs z = true ↔ ∃ p, hasB xs p = true ∧ p = z
    exact ⟨fun h => ⟨z, h, rfl⟩, fun ⟨p, h, e⟩ => e ▸ h⟩
  | x :: w, xs, z => by
    rw [List.foldl_cons, has_run h hS w]
    constructor
    · rintro ⟨p, hp, hP⟩
      obtain ⟨e, he, h1, h2, rfl⟩ := (has_step h hS).1 hp
      exact ⟨e.fr, h2, e, he, h1, rfl, hP⟩
    · rintro ⟨p, hp, e, he, h1, rfl, hP⟩
      exact ⟨e.to, (has_step h hS).2 ⟨e, he, h1, hp, rfl⟩, hP⟩
theorem has_st (hS : n.S ≤ 64) {l : List Int} (h : asc n.S l = true) {z : Int} : hasB (ofL l) z = true ↔ z ∈ l := by
  rw [has_ofL]
  exact ⟨fun h => h.2, fun hz => ⟨by have := asc_in h hz; omega, hz⟩⟩
theorem has_runW (h : Ok n) (w : List Nat) (z : Int) : hasB (runW n w) z = true ↔ ∃ p ∈ n.st, Path n.es w p z := by
  unfold runW
  rw [has_run h.ed h.s64]
  constructor
  · rintro ⟨p, hp, hP⟩; exact ⟨p, (has_st h.s64 h.st).1 hp, hP⟩
  · rintro ⟨p, hp, hP⟩; exact ⟨p, (has_st h.s64 h.st).2 hp, hP⟩
theorem meetB_has {xs ys : List Nat} (ux : U64 xs) : meetB xs ys = true ↔ ∃ z, hasB xs z = true ∧ hasB ys z = true := by
  have hm := meetB_mem (ys := ys) ux
  constructor
  · intro h
    refine Classical.byContradiction fun hn => ?_
    have : meetB xs ys = false := by
      rw [hm]
      intro k hk
      cases h1 : mem xs k <;> cases h2 : mem ys k <;> try rfl
      refine absurd ⟨(k : Int), ?_, ?_⟩ hn <;> unfold hasB <;> rw [decide_eq_true (by omega), Int.toNat_natCast, Bool.true_and] <;> assumption
    rw [this] at h
    cases h
  · rintro ⟨z, h1, h2⟩
    cases hc : meetB xs ys with
    | true => rfl
    | false =>
      unfold hasB at h1 h2
      rw [Bool.and_eq_true, decide_eq_true_iff] at h1 h2
      have := hm.1 hc z.toNat (by omega)
      rw [h1.2, h2.2] at this
      cases this
theorem u64_step (l : List Ed) (xs : List Nat) (x : Nat) : U64 (stepW l xs x) := u64_of _
theorem u64_fold (l : List Ed) : ∀ (w : List Nat) (xs : List Nat), U64 xs → U64 (w.foldl (stepW l) xs)
  | [], _, h => h
  | x :: w, _, _ => u64_fold l w _ (u64_step _ _ _)
theorem u64_run (n : Na) (w : List Nat) : U64 (runW n w) := u64_fold _ _ _ (u64_of _)
theorem u64_runTo (n : Na) (w : List Nat) (k : Nat) : U64 (runTo n w k) := u64_fold _ _ _ (u64_of _)
theorem acc_iff (h : Ok n) (w : List Nat) : accW n w = true ↔ ∃ p ∈ n.st, ∃ q ∈ n.fi, Path n.es w p q := by
  unfold accW
  rw [meetB_has (u64_run _ _)]
  constructor
  · rintro ⟨z, h1, h2⟩
    obtain ⟨p, hp, hP⟩ := (has_runW h w z).1 h1
    exact ⟨p, hp, z, (has_st h.s64 h.fi).1 h2, hP⟩
  · rintro ⟨p, hp, q, hq, hP⟩
    exact ⟨q, (has_runW h w q).2 ⟨p, hp, hP⟩, (has_st h.s64 h.fi).2 hq⟩
theorem path_app {l : List Ed} {v : List Nat} : ∀ {u : List Nat} {p q : Int}, Path l (u ++ v) p q ↔ ∃ r, Path l u p r ∧ Path l v r q
  | [], p, q => ⟨fun h => ⟨p, rfl, h⟩, fun ⟨r, e, h⟩ => by cases e; exact h⟩
  | x :: u, p, q => by
    show (∃ e ∈ l, _ ∧ _ ∧ Path l (u ++ v) e.to q) ↔ _
    constructor
    · rintro ⟨e, he, h1, h2, h3⟩
      obtain ⟨r, h4, h5⟩ := path_app.1 h3
      exact ⟨r, ⟨e, he, h1, h2, h4⟩, h5⟩
    · rintro ⟨r, ⟨e, he, h1, h2, h4⟩, h5⟩
      exact ⟨e, he, h1, h2, path_app.2 ⟨r, h4, h5⟩⟩
end
/-- An edge the other way. -/
def flipE (e : Ed) : Ed := ⟨e.to, e.fr, e.p, e.q⟩
def revN (n : Na) : Na := ⟨n.V, n.S, n.fi, n.st, n.es.map flipE⟩
theorem flip_flip (l : List Ed) : (l.map flipE).map flipE = l := by
  rw [List.map_map]
  have : flipE ∘ flipE = id := rfl
  rw [this, List.map_id]
theorem rev_rev (n : Na) : revN (revN n) = n := by
  show (⟨n.V, n.S, n.st, n.fi, (n.es.map flipE).map flipE⟩ : Na) = n
  rw [flip_flip]
theorem edE_flip {V S : Int} (e : Ed) : edE V S (flipE e) = edE V S e := by
  unfold edE flipE
  simp only
  rw [Bool.and_comm]
theorem rev_ok {n : Na} (h : Ok n) : Ok (revN n) := ⟨h.v0, h.v6, h.s0, h.s64, by show (n.es.map flipE).length ≤ 512; rw [List.length_map]; exact h.es, h.fi, h.st, fun e he => by
  obtain ⟨d, hd, rfl⟩ := List.mem_map.1 he
  rw [edE_flip]
  exact h.ed d hd⟩
theorem path_one {l : List Ed} {x : Nat} {p q : Int} : Path l [x] p q ↔ ∃ e ∈ l, cHas e.p e.q x = true ∧ e.fr = p ∧ e.to = q := Iff.rfl
theorem path_flip {l : List Ed} : ∀ {w : List Nat} {p q : Int}, Path l w p q → Path (l.map flipE) w.reverse q p
  | [], p, q, h => Eq.symm h
  | x :: w, p, q, ⟨e, he, h1, h2, h3⟩ => by
    rw [List.reverse_cons, path_app]
    exact ⟨e.to, path_flip h3, flipE e, List.mem_map_of_mem he, h1, rfl, h2⟩
theorem acc_rev {n : Na} (h : Ok n) (w : List Nat) : accW (revN n) w.reverse = accW n w := by
  rw [Bool.eq_iff_iff, acc_iff (rev_ok h), acc_iff h]
  constructor
  · rintro ⟨p, hp, q, hq, hP⟩
    have := path_flip hP
    rw [List.reverse_reverse] at this
    change Path ((n.es.map flipE).map flipE) w q p at this
    rw [flip_flip] at this
    exact ⟨q, hq, p, hp, this⟩
  · rintro ⟨p, hp, q, hq, hP⟩
    exact ⟨q, hq, p, hp, path_flip hP⟩
/-- What is wrong with a word. -/
def wordE (V : Int) (w : List Nat) : Int := if 64 < w.length then 4 else if w.all (fun x => decide (x < 2 ^ V.toNat)) then 0 else 1
def wrongN (n : Na) (w : List Nat) : Int := if chkN n ≠ 0 then chkN n else wordE n.V w
theorem wordE_rev (V : Int) (w : List Nat) : wordE V w.reverse = wordE V w := by
  unfold wordE
  rw [List.length_reverse, List.all_reverse]
/-- The automaton with the states of a followed by those of b. -/
def shiftE (k : Int) (e : Ed) : Ed := ⟨e.fr + k, e.to + k, e.p, e.q⟩
def uniN (a b : Na) : Na := ⟨a.V, a.S + b.S, a.st ++ b.st.map (· + a.S), a.fi ++ b.fi.map (· + a.S), a.es ++ b.es.map (shiftE a.S)⟩
def uniE (a b : Na) : Int := if chkN a ≠ 0 then chkN a else if chkN b ≠ 0 then chkN b else if a.V ≠ b.V then 7 else if ¬ (a.S + b.S ≤ 64 ∧ a.es.length + b.es.length ≤ 512) then 4 else 0
theorem nd_app_l {l m : List Int} {j : Nat} (h : j < l.length) : nd (l ++ m) j = nd l j := by
  unfold nd
  rw [List.getD_eq_getElem?_getD, List.getElem?_append_left h, ← List.getD_eq_getElem?_getD]
theorem nd_app_r {l m : List Int} {j : Nat} (h : l.length ≤ j) : nd (l ++ m) j = nd m (j - l.length) := by
  unfold nd
  rw [List.getD_eq_getElem?_getD, List.getElem?_append_right h, ← List.getD_eq_getElem?_getD]
theorem nd_map {l : List Int} {f : Int → Int} {j : Nat} (h : j < l.length) : nd (l.map f) j = f (nd l j) := by
  unfold nd
  simp [h]
theorem asc_app {S T : Int} {l m : List Int} (hS : 0 ≤ S) (hT : 0 ≤ T) (hl : asc S l = true) (hm : asc T m = true) : asc (S + T) (l ++ m.map (· + S)) = true := by
  unfold asc at *
  rw [allB_iff] at *
  intro i hi
  rw [List.length_append, List.length_map] at hi
  unfold ascP
  rw [Bool.and_eq_true, inS_iff]
  rcases Nat.lt_or_ge i l.length with h | h
  · have h1 := hl i h
    unfold ascP at h1
    rw [Bool.and_eq_true, inS_iff] at h1
    rw [nd_app_l h, nd_app_l (by omega)]
    exact ⟨by omega, h1.2⟩
  · have h1 := hm (i - l.length) (by omega)
    unfold ascP at h1
    rw [Bool.and_eq_true, inS_iff] at h1
    rw [nd_app_r h, nd_map (by omega)]
    refine ⟨by omega, ?_⟩
    rw [Bool.or_eq_true, decide_eq_true_iff, decide_eq_true_iff]
    by_cases h0 : i = 0
    · exact .inl h0
    · right
      rcases Nat.lt_or_ge (i - 1) l.length with h2 | h2
      · have h3 := hl (i - 1) h2
        unfold ascP at h3
        rw [Bool.and_eq_true, inS_iff] at h3
        rw [nd_app_l h2]
        omega
      · rw [nd_app_r h2, nd_map (by omega)]
        have h4 := h1.2
        rw [Bool.or_eq_true, decide_eq_true_iff, decide_eq_true_iff] at h4
        rw [show i - 1 - l.length = i - l.length - 1 by omega]
        omega
theorem edE_shift {V S T : Int} {e : Ed} (hS : 0 ≤ S) (h : edE V T e = 0) : edE V (S + T) (shiftE S e) = 0 := by
  obtain ⟨h1, h2, h3⟩ := edE_in h
  unfold edE shiftE
  simp only
  rw [if_pos (by rw [Bool.and_eq_true, inS_iff, inS_iff]; omega)]
  exact h3
theorem edE_more {V S T : Int} {e : Ed} (hT : 0 ≤ T) (h : edE V S e = 0) : edE V (S + T) e = 0 := by
  obtain ⟨h1, h2, h3⟩ := edE_in h
  unfold edE
  rw [if_pos (by rw [Bool.and_eq_true, inS_iff, inS_iff]; omega)]
  exact h3
theorem uni_ok {a b : Na} (ha : Ok a) (hb : Ok b) (hv : a.V = b.V) (hs : a.S + b.S ≤ 64) (he : a.es.length + b.es.length ≤ 512) : Ok (uniN a b) where
  v0 := ha.v0
  v6 := ha.v6
  s0 := by have := ha.s0; have := hb.s0; show 0 ≤ a.S + b.S; omega
  s64 := hs
  es := by show (a.es ++ b.es.map (shiftE a.S)).length ≤ 512; rw [List.length_append, List.length_map]; exact he
  st := asc_app ha.s0 hb.s0 ha.st hb.st
  fi := asc_app ha.s0 hb.s0 ha.fi hb.fi
  ed := fun e h => by
    rcases List.mem_append.1 h with h | h
    · exact edE_more hb.s0 (ha.ed e h)
    · obtain ⟨d, hd, rfl⟩ := List.mem_map.1 h
      refine edE_shift ha.s0 ?_
      show edE a.V b.S d = 0
      rw [hv]
      exact hb.ed d hd
theorem path_left {a b : Na} (ha : Ok a) (hb : Ok b) : ∀ {w : List Nat} {p q : Int}, p < a.S → (Path (uniN a b).es w p q ↔ q < a.S ∧ Path a.es w p q)
  | [], p, q, hp => ⟨fun h => ⟨by cases h; exact hp, h⟩, fun h => h.2⟩
  | x :: w, p, q, hp => by
    constructor
    · rintro ⟨e, he, h1, h2, h3⟩
      rcases List.mem_append.1 he with h | h
      · have := (edE_in (ha.ed e h)).2.1
        obtain ⟨h4, h5⟩ := (path_left ha hb this.2).1 h3
        exact ⟨h4, e, h, h1, h2, h5⟩
      · obtain ⟨d, hd, rfl⟩ := List.mem_map.1 h
        have := (edE_in (hb.ed d hd)).1
        have h2' : d.fr + a.S = p := h2
        omega
    · rintro ⟨h0, e, he, h1, h2, h3⟩
      have := (edE_in (ha.ed e he)).2.1
      exact ⟨e, List.mem_append_left _ he, h1, h2, (path_left ha hb this.2).2 ⟨h0, h3⟩⟩
theorem path_right {a b : Na} (ha : Ok a) (hb : Ok b) : ∀ {w : List Nat} {p q : Int}, 0 ≤ p → (Path (uniN a b).es w (p + a.S) (q + a.S) ↔ Path b.es w p q)
  | [], p, q, hp => ⟨fun h => by have h' : p + a.S = q + a.S := h; show p = q; omega, fun h => by have h' : p = q := h; show p + a.S = q + a.S; omega⟩
  | x :: w, p, q, hp => by
    constructor
    · rintro ⟨e, he, h1, h2, h3⟩
      rcases List.mem_append.1 he with h | h
      · have := (edE_in (ha.ed e h)).1
        omega
      · obtain ⟨d, hd, rfl⟩ := List.mem_map.1 h
        have := (edE_in (hb.ed d hd)).2.1
        have h2' : d.fr + a.S = p + a.S := h2
        exact ⟨d, hd, h1, by omega, (path_right ha hb this.1).1 h3⟩
    · rintro ⟨e, he, h1, h2, h3⟩
      have := (edE_in (hb.ed e he)).2.1
      exact ⟨shiftE a.S e, List.mem_append_right _ (List.mem_map_of_mem he), h1, by show e.fr + a.S = _; rw [h2], (path_right ha hb this.1).2 h3⟩
theorem path_to {n : Na} (h : Ok n) : ∀ {w : List Nat} {p q : Int}, 0 ≤ p → Path n.es w p q → 0 ≤ q
  | [], p, q, hp, hP => by cases hP; exact hp
  | x :: w, p, q, hp, ⟨e, he, _, _, h3⟩ => path_to h (edE_in (h.ed e he)).2.1.1 h3
theorem acc_uni {a b : Na} (ha : Ok a) (hb : Ok b) (hv : a.V = b.V) (hs : a.S + b.S ≤ 64) (he : a.es.length + b.es.length ≤ 512) (w : List Nat) : accW (uniN a b) w = (accW a w || accW b w) := by
  have hu := uni_ok ha hb hv hs he
  rw [Bool.eq_iff_iff, Bool.or_eq_true, acc_iff hu, acc_iff ha, acc_iff hb]
  constructor
  · rintro ⟨p, hp, q, hq, hP⟩
    rcases List.mem_append.1 hp with h1 | h1
    · obtain ⟨h2, h3⟩ := (path_left ha hb (asc_in ha.st h1).2).1 hP
      rcases List.mem_append.1 hq with h4 | h4
      · exact .inl ⟨p, h1, q, h4, h3⟩
      · obtain ⟨r, hr, rfl⟩ := List.mem_map.1 h4
        have := (asc_in hb.fi hr).1
        omega
    · obtain ⟨p, hp1, rfl⟩ := List.mem_map.1 h1
      have p0 := (asc_in hb.st hp1).1
      rcases List.mem_append.1 hq with h4 | h4
      · have q1 := (asc_in ha.fi h4).2
        have h5 : Path (uniN a b).es w (p + a.S) ((q - a.S) + a.S) := by rw [show q - a.S + a.S = q by omega]; exact hP
        have := path_to hb p0 ((path_right ha hb p0).1 h5)
        omega
      · obtain ⟨r, hr, rfl⟩ := List.mem_map.1 h4
        exact .inr ⟨p, hp1, r, hr, (path_right ha hb p0).1 hP⟩
  · rintro (⟨p, hp, q, hq, hP⟩ | ⟨p, hp, q, hq, hP⟩)
    · exact ⟨p, List.mem_append_left _ hp, q, List.mem_append_left _ hq, (path_left ha hb (asc_in ha.st hp).2).2 ⟨(asc_in ha.fi hq).2, hP⟩⟩
    · exact ⟨p + a.S, List.mem_append_right _ (List.mem_map.2 ⟨p, hp, rfl⟩), q + a.S, List.mem_append_right _ (List.mem_map.2 ⟨q, hq, rfl⟩), (path_right ha hb (asc_in hb.st hp).1).2 hP⟩
end Go.Proofs.YtkgeihambgbjdaaDoor.Nf
/- Sets of states that edges close; trimmed automata. Plain mathematics, nothing of the program. -/
namespace Go.Proofs.YtkgeihambgbjdaaDoor.Nf
open Go Go.RowKit Go.Proofs.YtkgeihambgbjdaaDoor
set_option linter.unusedVariables false
/-- The states that edges lead to from those of st. -/
inductive Rc (l : List Ed) (st : List Int) : Int → Prop
  | base {z : Int} (h : z ∈ st) : Rc l st z
  | step {e : Ed} (h : e ∈ l) (hr : Rc l st e.fr) : Rc l st e.to
/-- The canonical words of a set of numbers. -/
def IsSet (xs : List Nat) (P : Int → Prop) : Prop := canon xs = xs ∧ U64 xs ∧ ∀ z, hasB xs z = true ↔ P z
theorem has_nat {xs : List Nat} {k : Nat} (h : k < 4096) : hasB xs (k : Int) = mem xs k := by
  unfold hasB
  rw [decide_eq_true (by omega), Int.toNat_natCast, Bool.true_and]
theorem IsSet.unique {xs ys : List Nat} {P : Int → Prop} (hx : IsSet xs P) (hy : IsSet ys P) : xs = ys := by
  rw [← hx.1, ← hy.1]
  refine canon_ext ((eqB_iff _ _).1 ((eqB_mem hx.2.1 hy.2.1).2 fun k hk => ?_))
  rw [← has_nat hk, ← has_nat hk, Bool.eq_iff_iff, hx.2.2, hy.2.2]
theorem IsSet.congr {xs : List Nat} {P Q : Int → Prop} (hx : IsSet xs P) (h : ∀ z, P z ↔ Q z) : IsSet xs Q := ⟨hx.1, hx.2.1, fun z => (hx.2.2 z).trans (h z)⟩
theorem IsSet.len {xs : List Nat} {P : Int → Prop} (hx : IsSet xs P) : xs.length ≤ 64 := by
  have h := canon_len xs
  rw [hx.1] at h
  have := ulen_le64 xs
  omega
theorem eqB_has {xs ys : List Nat} (ux : U64 xs) (uy : U64 ys) : eqB xs ys = true ↔ ∀ z, hasB xs z = true ↔ hasB ys z = true := by
  rw [eqB_mem ux uy]
  constructor
  · intro h z
    unfold hasB
    rw [Bool.and_eq_true, Bool.and_eq_true, decide_eq_true_iff]
    constructor
    · rintro ⟨h1, h2⟩; exact ⟨h1, by rw [← h _ (by omega)]; exact h2⟩
    · rintro ⟨h1, h2⟩; exact ⟨h1, by rw [h _ (by omega)]; exact h2⟩
  · intro h k hk
    have := h (k : Int)
    rw [has_nat hk, has_nat hk] at this
    rw [Bool.eq_iff_iff]
    exact this
theorem has_or {xs ys : List Nat} (z : Int) : hasB (canon (zipW (· ||| ·) xs ys)) z = (hasB xs z || hasB ys z) := by
  unfold hasB
  by_cases h : 0 ≤ z ∧ z ≤ 4095
  · rw [mem_or (by omega), decide_eq_true h]; simp
  · rw [decide_eq_false h]; rfl
theorem has_and {xs ys : List Nat} (z : Int) : hasB (canon (zipW (· &&& ·) xs ys)) z = (hasB xs z && hasB ys z) := by
  unfold hasB
  by_cases h : 0 ≤ z ∧ z ≤ 4095
  · rw [mem_and (by omega), decide_eq_true h]; simp
  · rw [decide_eq_false h]; simp
theorem u64_or {xs ys : List Nat} (ux : U64 xs) (uy : U64 ys) : U64 (canon (zipW (· ||| ·) xs ys)) := u64_canon (u64_zip ux uy _ fun _ _ h h' => Nat.or_lt_two_pow h h')
theorem u64_and {xs ys : List Nat} (ux : U64 xs) (uy : U64 ys) : U64 (canon (zipW (· &&& ·) xs ys)) := u64_canon (u64_zip ux uy _ fun _ _ h h' => Nat.lt_of_le_of_lt Nat.and_le_left h)
section
variable {n : Na}
theorem rc_in (h : Ok n) {z : Int} (hz : Rc n.es n.st z) : 0 ≤ z ∧ z < n.S := by
  cases hz with
  | base h1 => exact asc_in h.st h1
  | step h1 _ => exact (edE_in (h.ed _ h1)).2.1
/-- A set that holds Start and is closed, and whose elements are all reached, is the set of what is reached. -/
theorem rc_set (h : Ok n) {xs : List Nat} (hc : canon xs = xs) (ux : U64 xs) (h1 : ∀ z, hasB xs z = true → Rc n.es n.st z) (h2 : ∀ z ∈ n.st, hasB xs z = true) (h3 : ∀ e ∈ n.es, hasB xs e.fr = true → hasB xs e.to = true) : IsSet xs (Rc n.es n.st) := by
  refine ⟨hc, ux, fun z => ⟨h1 z, fun hz => ?_⟩⟩
  induction hz with
  | base h4 => exact h2 _ h4
  | step h4 _ ih => exact h3 _ h4 ih
/-- The number of states that are not in a set. -/
def miss (n : Na) (xs : List Nat) : Nat := ((List.range n.S.toNat).filter fun (k : Nat) => !hasB xs (k : Int)).length
theorem filter_lt {p q : Nat → Bool} : ∀ {l : List Nat}, (∀ x ∈ l, p x = true → q x = true) → (∃ x ∈ l, q x = true ∧ p x = false) → (l.filter p).length < (l.filter q).length
  | [], _, ⟨_, h, _⟩ => by cases h
  | a :: l, h, ⟨x, hx, h1, h2⟩ => by
    have hle : (l.filter p).length ≤ (l.filter q).length := by
      clear hx h1 h2
      have h' : ∀ x ∈ l, p x = true → q x = true := fun y hy => h y (List.mem_cons_of_mem _ hy)
      clear h
      induction l with
      | nil => exact Nat.le_refl _
      | cons b l ih =>
        have ih' := ih fun y hy => h' y (List.mem_cons_of_mem _ hy)
        have hb := h' b List.mem_cons_self
        rw [List.filter_cons, List.filter_cons]
        cases hp : p b <;> cases hq : q b
        · simpa using ih'
        · simp; omega
        · rw [hq] at hb; exact absurd (hb hp) (by simp)
        · simpa using ih'
    have ha := h a List.mem_cons_self
    rw [List.filter_cons, List.filter_cons]
    rcases List.mem_cons.1 hx with rfl | hx
    · rw [if_neg (by rw [h2]; simp), if_pos h1]
      simp; omega
    · have ih := filter_lt (fun y hy => h y (List.mem_cons_of_mem _ hy)) ⟨x, hx, h1, h2⟩
      cases hp : p a <;> cases hq : q a
      · simpa using ih
      · simp; omega
      · rw [hq] at ha; exact absurd (ha hp) (by simp)
      · simpa using ih
theorem miss_lt {xs ys : List Nat} (h1 : ∀ z, hasB xs z = true → hasB ys z = true) {z : Int} (hz : 0 ≤ z ∧ z < n.S) (h2 : hasB xs z = false) (h3 : hasB ys z = true) : miss n ys < miss n xs := by
  unfold miss
  refine filter_lt (fun k _ hk => ?_) ⟨z.toNat, List.mem_range.2 (by omega), ?_, ?_⟩
  · cases hx : hasB xs (k : Int) with
    | false => rfl
    | true => rw [h1 _ hx] at hk; cases hk
  · rw [Int.toNat_of_nonneg hz.1, h2]; rfl
  · rw [Int.toNat_of_nonneg hz.1, h3]; rfl
/-- The set without repeats that a list of states is. -/
theorem ofL_set (hS : n.S ≤ 64) {l : List Int} (h : asc n.S l = true) : IsSet (ofL l) (· ∈ l) := ⟨ofL_canon l, u64_of l, fun z => has_st hS h⟩
/-- What is reached in one step more. -/
theorem rc_next {z : Int} : Rc n.es n.st z ↔ z ∈ n.st ∨ ∃ e ∈ n.es, Rc n.es n.st e.fr ∧ e.to = z := by
  constructor
  · intro h
    cases h with
    | base h => exact .inl h
    | step h h1 => exact .inr ⟨_, h, h1, rfl⟩
  · rintro (h | ⟨e, he, h, rfl⟩)
    · exact .base h
    · exact .step he h
/-- Every valid edge has a letter. -/
theorem edge_letter (h : Ok n) {e : Ed} (he : e ∈ n.es) : e.p < 2 ^ n.V.toNat ∧ cHas e.p e.q e.p = true := by
  have hc := (edE_in (h.ed e he)).2.2
  obtain ⟨v, hv, hC⟩ := chk_ok hc
  rw [hv] at hc
  rw [chk_in v (by have := h.v6; omega)] at hc
  by_cases h1 : 2 ^ v ≤ e.p ∨ 2 ^ v ≤ e.q
  · rw [if_pos h1] at hc; cases hc
  · rw [if_neg h1] at hc
    by_cases h2 : e.p &&& e.q = 0
    · rw [hv, Int.toNat_natCast]
      refine ⟨by omega, ?_⟩
      unfold cHas
      rw [Nat.and_self, h2]
      simp
    · rw [if_neg h2] at hc; cases hc
/-- The set that letters below X lead to from r, together with Start. -/
def upTo (n : Na) (r : List Nat) : Nat → List Nat
  | 0 => ofL n.st
  | k + 1 => canon (zipW (· ||| ·) (upTo n r k) (stepW n.es r k))
theorem u64_upTo (n : Na) (r : List Nat) : ∀ k, U64 (upTo n r k)
  | 0 => u64_of _
  | k + 1 => u64_or (u64_upTo n r k) (u64_step _ _ _)
theorem has_upTo (h : Ok n) {r : List Nat} : ∀ {k : Nat} {z : Int}, hasB (upTo n r k) z = true ↔ z ∈ n.st ∨ ∃ x, x < k ∧ hasB (stepW n.es r x) z = true
  | 0, z => by
    show hasB (ofL n.st) z = true ↔ _
    rw [has_st h.s64 h.st]
    exact ⟨.inl, fun h => h.elim id fun ⟨x, hx, _⟩ => absurd hx (by omega)⟩
  | k + 1, z => by
    show hasB (canon (zipW (· ||| ·) (upTo n r k) (stepW n.es r k))) z = true ↔ _
    rw [has_or, Bool.or_eq_true, has_upTo h]
    constructor
    · rintro ((h1 | ⟨x, hx, h1⟩) | h1)
      · exact .inl h1
      · exact .inr ⟨x, by omega, h1⟩
      · exact .inr ⟨k, by omega, h1⟩
    · rintro (h1 | ⟨x, hx, h1⟩)
      · exact .inl (.inl h1)
      · rcases Nat.lt_or_eq_of_le (Nat.le_of_lt_succ hx) with h2 | rfl
        · exact .inl (.inr ⟨x, h2, h1⟩)
        · exact .inr h1
theorem upTo_rc (h : Ok n) {r : List Nat} (hr : IsSet r (Rc n.es n.st)) : eqB (upTo n r (2 ^ n.V.toNat)) r = true := by
  rw [eqB_has (u64_upTo _ _ _) hr.2.1]
  intro z
  rw [has_upTo h, hr.2.2, rc_next]
  constructor
  · rintro (h1 | ⟨x, hx, h1⟩)
    · exact .inl h1
    · obtain ⟨e, he, _, h2, h3⟩ := (has_step h.ed h.s64).1 h1
      exact .inr ⟨e, he, (hr.2.2 _).1 h2, h3⟩
  · rintro (h1 | ⟨e, he, h1, h2⟩)
    · exact .inl h1
    · obtain ⟨h3, h4⟩ := edge_letter h he
      exact .inr ⟨e.p, h3, (has_step h.ed h.s64).2 ⟨e, he, h4, (hr.2.2 _).2 h1, h2⟩⟩
theorem pcs_rc (h : Ok n) {z : Int} : Rc n.es n.st z ↔ ∃ w, ∃ p ∈ n.st, Path n.es w p z := by
  constructor
  · intro hz
    induction hz with
    | base h1 => exact ⟨[], _, h1, rfl⟩
    | @step e h1 _ ih =>
      obtain ⟨w, p, hp, hP⟩ := ih
      exact ⟨w ++ [e.p], p, hp, path_app.2 ⟨e.fr, hP, e, h1, (edge_letter h h1).2, rfl, rfl⟩⟩
  · rintro ⟨w, p, hp, hP⟩
    have gen : ∀ (w : List Nat) (p : Int), Rc n.es n.st p → Path n.es w p z → Rc n.es n.st z := by
      intro w
      induction w with
      | nil => intro p hp hP; cases hP; exact hp
      | cons x w ih =>
        rintro p hp ⟨e, he, h1, rfl, h3⟩
        exact ih e.to (.step he hp) h3
    exact gen w p (.base hp) hP
end
end Go.Proofs.YtkgeihambgbjdaaDoor.Nf
/- Automata in memory: slices of ints, of bytes and of edges. -/
namespace Go.Proofs.YtkgeihambgbjdaaDoor.Nf
open Go Go.RowKit Go.Proofs.YtkgeihambgbjdaaDoor Go.Proofs.YtkgeihambgbjdaaDoor.Dg
set_option linter.unusedVariables false
set_option maxRecDepth 100000
def ev (e : Ed) : List Value := [.int .i64 e.fr, .int .i64 e.to, .int .u8 e.p, .int .u8 e.q]
def evs (l : List Ed) : List Value := l.flatMap ev
def InJ (n : Int) : Prop := -9223372036854775808 ≤ n ∧ n ≤ 9223372036854775807
structure EdOk (e : Ed) : Prop where
  fr : InJ e.fr
  to : InJ e.to
  p : e.p < 256
  q : e.q < 256
/-- The edges l lie in a row that begins at A. -/
def EdsAt (w : World) (A : Option Addr) (l : List Ed) : Prop := ∀ j, j < l.length → EdOk (ed l j) ∧ ∃ ad, A = some ad ∧ ad.block < w.heap.size ∧ ∀ i v, (ev (ed l j))[i]? = some v → w.cell? ((ad.add (j * 4)).add i) = some v
theorem addr_block2 (a : Addr) (i j : Nat) : ((a.add i).add j).block = a.block := by rw [addr_block, addr_block]
theorem EdsAt.below {w w' : World} {A : Option Addr} {l : List Ed} (h : EdsAt w A l) (hb : Below w.heap.size w w') : EdsAt w' A l := fun j hj => by
  obtain ⟨h1, ad, e, h4, h5⟩ := h j hj
  exact ⟨h1, ad, e, Nat.lt_of_lt_of_le h4 hb.size, fun i v hv => (Below.cell hb (by rw [addr_block2]; exact h4)).trans (h5 i v hv)⟩
/-- The four cells of an edge. -/
theorem four_at {Y : World} {ad : Addr} {k : Nat} {x : Ed} (h : ∀ i v, (ev x)[i]? = some v → Y.cell? ((ad.add (k * 4)).add i) = some v) :
    Y.cell? (ad.add (k * 4)) = some (.int .i64 x.fr) ∧ Y.cell? ⟨(ad.add (k * 4)).block, (ad.add (k * 4)).off + 1, none⟩ = some (.int .i64 x.to) ∧ Y.cell? ⟨(ad.add (k * 4)).block, (ad.add (k * 4)).off + 2, none⟩ = some (.int .u8 x.p) ∧
    Y.cell? ⟨(ad.add (k * 4)).block, (ad.add (k * 4)).off + 3, none⟩ = some (.int .u8 x.q) :=
  ⟨h 0 _ rfl, h 1 _ rfl, h 2 _ rfl, h 3 _ rfl⟩
theorem ret_int {x y : Int} (h : x = y) : Ending.returned (.int .i64 x) = .returned (.int .i64 y) := by rw [h]
theorem ret_b {x y : Bool} (h : x = y) : Ending.returned (.bool x) = .returned (.bool y) := by rw [h]
theorem evs_snoc (l : List Ed) (x : Ed) : evs (l ++ [x]) = evs l ++ ev x := by simp [evs]
theorem evs_len (l : List Ed) : (evs l).length = l.length * 4 := by
  induction l with
  | nil => rfl
  | cons x l ih =>
    show (ev x ++ evs l).length = _
    rw [List.length_append, ih, List.length_cons]
    show 4 + _ = _
    omega
theorem evs_at : ∀ (l : List Ed) (j i : Nat) (v : Value), j < l.length → (ev (ed l j))[i]? = some v → (evs l)[j * 4 + i]? = some v
  | [], j, i, v, hj, h => absurd hj (by simp)
  | x :: l, j, i, v, hj, h => by
    have hi : i < 4 := (List.getElem?_eq_some_iff.1 h).1
    show (ev x ++ evs l)[j * 4 + i]? = _
    cases j with
    | zero =>
      rw [List.getElem?_append_left (by show _ < 4; omega), Nat.zero_mul, Nat.zero_add]
      exact h
    | succ j =>
      rw [List.getElem?_append_right (by show 4 ≤ _; omega)]
      have := evs_at l j i v (by simpa using hj) h
      rw [← this]
      congr 1
      show (j + 1) * 4 + i - 4 = _
      omega
theorem add_add (ad : Addr) (i j : Nat) : (ad.add i).add j = ad.add (i + j) := by
  unfold Addr.add
  by_cases hi : i = 0
  · subst hi; simp
  · by_cases hj : j = 0
    · subst hj; simp [hi]
    · simp [hi, hj, Nat.add_assoc]
theorem eds_cells {w : World} {ad : Addr} {l : List Ed} (hx : EdsAt w (some ad) l) : ∀ j u, (evs l)[j]? = some u → w.cell? (ad.add j) = some u := fun j u hu => by
  have hj := (List.getElem?_eq_some_iff.1 hu).1
  rw [evs_len] at hj
  obtain ⟨_, ad', e, _, hc⟩ := hx (j / 4) (by omega)
  cases e
  have hr : j % 4 < (ev (ed l (j / 4))).length := Nat.mod_lt _ (by decide)
  have h1 : (ev (ed l (j / 4)))[j % 4]? = some (ev (ed l (j / 4)))[j % 4] := List.getElem?_eq_getElem hr
  have h2 := evs_at l (j / 4) (j % 4) _ (by omega) h1
  have h3 := hc _ _ h1
  rw [add_add] at h3
  rw [show j / 4 * 4 + j % 4 = j by omega] at h2 h3
  rw [h2] at hu
  cases hu
  exact h3
theorem evs_one {l : List Ed} : ∀ x ∈ evs l, x.oneCell' = true := by
  intro x hx
  simp only [evs, List.mem_flatMap, ev] at hx
  obtain ⟨y, _, hy⟩ := hx
  simp at hy
  rcases hy with rfl | rfl | rfl | rfl <;> rfl
theorem eds_mem {w : World} {A : Option Addr} {l : List Ed} (h : EdsAt w A l) : ∀ x ∈ l, EdOk x := fun x hx => by
  obtain ⟨j, hj, rfl⟩ := mem_ed hx
  exact (h j hj).1
/-- The slice that begins at A holds the bytes l. -/
def Bys (w : World) (A : Option Addr) (l : List Nat) : Prop := Vals w A l.length fun j => .int .u8 (wd l j : Nat)
theorem Bys.below {w w' : World} {A : Option Addr} {l : List Nat} (h : Bys w A l) (hb : Below w.heap.size w w') : Bys w' A l := Vals.below h hb
def bvs (l : List Nat) : List Value := l.map fun x : Nat => .int .u8 (x : Int)
theorem bvs_snoc (l : List Nat) (x : Nat) : bvs (l ++ [x]) = bvs l ++ [.int .u8 (x : Int)] := by simp [bvs]
theorem own_bys {w : World} {base : Nat} {A : Option Addr} {c n : Nat} {l : List Nat} (h : w.ownsRow base 5 1 (.slice A n c) n (bvs l)) (hn : n = l.length) : Bys w A l := by
  subst hn
  exact Vals.of_own h fun j hj => by simp [bvs, wd, hj]
/-- An automaton in memory: the value of the struct, and what its slices hold. -/
structure NaAt (w : World) (n : Na) (A B C : Option Addr) : Prop where
  v : InJ n.V
  s : InJ n.S
  st : Ints w A n.st
  fi : Ints w B n.fi
  es : EdsAt w C n.es
theorem NaAt.below {w w' : World} {n : Na} {A B C : Option Addr} (h : NaAt w n A B C) (hb : Below w.heap.size w w') : NaAt w' n A B C := ⟨h.v, h.s, h.st.below hb, h.fi.below hb, h.es.below hb⟩
/-- No slice is longer than the machine allows. -/
structure NaLen (n : Na) : Prop where
  st : n.st.length ≤ 1000000
  fi : n.fi.length ≤ 1000000
  es : n.es.length ≤ 1000000
end Go.Proofs.YtkgeihambgbjdaaDoor.Nf
/- Small functions of package nfa; areAscendingStates, checkEdge, letters. -/
namespace Go.Proofs.YtkgeihambgbjdaaDoor.Nf
open Go Go.RowKit Go.Proofs.YtkgeihambgbjdaaDoor Go.Proofs.YtkgeihambgbjdaaDoor.Cb
set_option linter.unusedVariables false
set_option maxRecDepth 100000
/-- A block of five cells. -/
structure Boxed5 (w : World) (b : Nat) (u0 u1 s2 s3 s4 : Value) : Prop where
  lt : b < w.heap.size
  c0 : w.cell? ⟨b, 0, none⟩ = some u0
  c1 : w.cell? ⟨b, 1, none⟩ = some u1
  c2 : w.cell? ⟨b, 2, none⟩ = some s2
  c3 : w.cell? ⟨b, 3, none⟩ = some s3
  c4 : w.cell? ⟨b, 4, none⟩ = some s4
theorem Boxed5.new (w : World) (t : TypeId) (u0 u1 s2 s3 s4 : Value) : Boxed5 (w.alloc (.cells #[u0, u1, s2, s3, s4] t)) w.heap.size u0 u1 s2 s3 s4 := by
  refine ⟨by simp, ?_, ?_, ?_, ?_, ?_⟩ <;> rw [World.cell?_alloc_at _ _ _ _ rfl] <;> rfl
theorem Boxed5.cells {w : World} {b : Nat} {u0 u1 s2 s3 s4 : Value} (h : Boxed5 w b u0 u1 s2 s3 s4) : w.cell? ⟨b, 0, none⟩ = some u0 ∧ w.cell? ⟨b, 1, none⟩ = some u1 ∧ w.cell? ⟨b, 2, none⟩ = some s2 ∧ w.cell? ⟨b, 3, none⟩ = some s3 ∧ w.cell? ⟨b, 4, none⟩ = some s4 := ⟨h.c0, h.c1, h.c2, h.c3, h.c4⟩
theorem Boxed5.below {w w' : World} {b : Nat} {u0 u1 s2 s3 s4 : Value} (h : Boxed5 w b u0 u1 s2 s3 s4) (hb : Below w.heap.size w w') : Boxed5 w' b u0 u1 s2 s3 s4 :=
  ⟨Nat.lt_of_lt_of_le h.lt hb.size, (hb.cell (p := ⟨b, 0, none⟩) h.lt).trans h.c0, (hb.cell (p := ⟨b, 1, none⟩) h.lt).trans h.c1, (hb.cell (p := ⟨b, 2, none⟩) h.lt).trans h.c2, (hb.cell (p := ⟨b, 3, none⟩) h.lt).trans h.c3, (hb.cell (p := ⟨b, 4, none⟩) h.lt).trans h.c4⟩
/-- A block of four cells. -/
structure Boxed4 (w : World) (b : Nat) (s0 s1 s2 s3 : Value) : Prop where
  lt : b < w.heap.size
  c0 : w.cell? ⟨b, 0, none⟩ = some s0
  c1 : w.cell? ⟨b, 1, none⟩ = some s1
  c2 : w.cell? ⟨b, 2, none⟩ = some s2
  c3 : w.cell? ⟨b, 3, none⟩ = some s3
theorem Boxed4.new (w : World) (t : TypeId) (s0 s1 s2 s3 : Value) : Boxed4 (w.alloc (.cells #[s0, s1, s2, s3] t)) w.heap.size s0 s1 s2 s3 := by
  refine ⟨by simp, ?_, ?_, ?_, ?_⟩ <;> rw [World.cell?_alloc_at _ _ _ _ rfl] <;> rfl
theorem Boxed4.below {w w' : World} {b : Nat} {s0 s1 s2 s3 : Value} (h : Boxed4 w b s0 s1 s2 s3) (hb : Below w.heap.size w w') : Boxed4 w' b s0 s1 s2 s3 :=
  ⟨Nat.lt_of_lt_of_le h.lt hb.size, (hb.cell (p := ⟨b, 0, none⟩) h.lt).trans h.c0, (hb.cell (p := ⟨b, 1, none⟩) h.lt).trans h.c1, (hb.cell (p := ⟨b, 2, none⟩) h.lt).trans h.c2, (hb.cell (p := ⟨b, 3, none⟩) h.lt).trans h.c3⟩
/-- The blocks of checkEdge, in whatever world behind w. -/
def EdS (w : World) (b c : Nat) (V S : Int) (s2 s3 s4 : Value) (f t : Int) (p q : Nat) (X : World) : Prop :=
  Boxed5 X b (.int .i64 V) (.int .i64 S) s2 s3 s4 ∧ Boxed4 X c (.int .i64 f) (.int .i64 t) (.int .u8 p) (.int .u8 q) ∧ Below w.heap.size w X
theorem EdS.step {w : World} {b c : Nat} {V S : Int} {s2 s3 s4 : Value} {f t : Int} {p q : Nat} {X Y : World} (h : EdS w b c V S s2 s3 s4 f t p q X) (hb : Below X.heap.size X Y) : EdS w b c V S s2 s3 s4 f t p q Y := ⟨h.1.below hb, h.2.1.below hb, stepB h.2.2 hb⟩
end Go.Proofs.YtkgeihambgbjdaaDoor.Nf
/- Check (package nfa): the conditions, which are function fields, and the loops over them and over the edges. -/
namespace Go.Proofs.YtkgeihambgbjdaaDoor.Nf
open Go Go.RowKit Go.Proofs.YtkgeihambgbjdaaDoor Go.Proofs.YtkgeihambgbjdaaDoor.Cb
set_option linter.unusedVariables false
set_option maxRecDepth 100000
section
variable (V S : Int) (A B C : Option Addr) (st fi : List Int) (es : List Ed) (a b c : Nat) (w : World)
end
def fv (k : Nat) : Value := .func (.func k) #[] #[]
/-- Whether condition k holds, and the fault if it does not. -/
def holdN (n : Na) : Nat → Bool
  | 0 => decide (0 ≤ n.V ∧ n.V ≤ 6)
  | 1 => decide (0 ≤ n.S)
  | 2 => decide (n.S ≤ 64 ∧ (n.es.length : Int) ≤ 512)
  | 3 => asc n.S n.st
  | _ => asc n.S n.fi
def faultN : Nat → Int
  | 0 => 7
  | 1 => 1
  | 2 => 4
  | _ => 8
theorem chk_cond {n : Na} {k : Nat} (hk : k < 5) (h : ∀ j, j < k → holdN n j = true) (hf : holdN n k = false) : chkN n = faultN k := by
  have hk' : k = 0 ∨ k = 1 ∨ k = 2 ∨ k = 3 ∨ k = 4 := by omega
  unfold chkN
  rcases hk' with rfl | rfl | rfl | rfl | rfl
  · have h0 : ¬ (0 ≤ n.V ∧ n.V ≤ 6) := of_decide_eq_false hf
    rw [if_pos h0]; rfl
  · have h0 : 0 ≤ n.V ∧ n.V ≤ 6 := of_decide_eq_true (h 0 (by omega))
    have h1 : ¬ 0 ≤ n.S := of_decide_eq_false hf
    rw [if_neg (by simp [h0]), if_pos (by omega)]; rfl
  · have h0 : 0 ≤ n.V ∧ n.V ≤ 6 := of_decide_eq_true (h 0 (by omega))
    have h1 : 0 ≤ n.S := of_decide_eq_true (h 1 (by omega))
    have h2 : ¬ (n.S ≤ 64 ∧ (n.es.length : Int) ≤ 512) := of_decide_eq_false hf
    rw [if_neg (by simp [h0]), if_neg (by omega), if_pos (by omega)]; rfl
  · have h0 : 0 ≤ n.V ∧ n.V ≤ 6 := of_decide_eq_true (h 0 (by omega))
    have h1 : 0 ≤ n.S := of_decide_eq_true (h 1 (by omega))
    have h2 : n.S ≤ 64 ∧ (n.es.length : Int) ≤ 512 := of_decide_eq_true (h 2 (by omega))
    have h3 : asc n.S n.st = false := hf
    rw [if_neg (by simp [h0]), if_neg (by omega), if_neg (by omega), h3, if_pos rfl]; rfl
  · have h0 : 0 ≤ n.V ∧ n.V ≤ 6 := of_decide_eq_true (h 0 (by omega))
    have h1 : 0 ≤ n.S := of_decide_eq_true (h 1 (by omega))
    have h2 : n.S ≤ 64 ∧ (n.es.length : Int) ≤ 512 := of_decide_eq_true (h 2 (by omega))
    have h3 : asc n.S n.st = true := h 3 (by omega)
    have h4 : asc n.S n.fi = false := hf
    rw [if_neg (by simp [h0]), if_neg (by omega), if_neg (by omega), h3, h4, if_neg (by simp), if_pos rfl]; rfl
theorem chk_conds {n : Na} (h : ∀ j, j < 5 → holdN n j = true) : chkN n = edsE n.V n.S n.es n.es.length := by
  unfold chkN
  have h0 : 0 ≤ n.V ∧ n.V ≤ 6 := of_decide_eq_true (h 0 (by omega))
  have h1 : 0 ≤ n.S := of_decide_eq_true (h 1 (by omega))
  have h2 : n.S ≤ 64 ∧ (n.es.length : Int) ≤ 512 := of_decide_eq_true (h 2 (by omega))
  have h3 : asc n.S n.st = true := h 3 (by omega)
  have h4 : asc n.S n.fi = true := h 4 (by omega)
  rw [if_neg (by simp [h0]), if_neg (by omega), if_neg (by omega), h3, h4, if_neg (by simp), if_neg (by simp)]
/-- A block of two cells. -/
structure Boxed2 (w : World) (b : Nat) (s0 s1 : Value) : Prop where
  lt : b < w.heap.size
  c0 : w.cell? ⟨b, 0, none⟩ = some s0
  c1 : w.cell? ⟨b, 1, none⟩ = some s1
theorem Boxed2.new (w : World) (t : TypeId) (s0 s1 : Value) : Boxed2 (w.alloc (.cells #[s0, s1] t)) w.heap.size s0 s1 := by
  refine ⟨by simp, ?_, ?_⟩ <;> rw [World.cell?_alloc_at _ _ _ _ rfl] <;> rfl
theorem Boxed2.below {w w' : World} {b : Nat} {s0 s1 : Value} (h : Boxed2 w b s0 s1) (hb : Below w.heap.size w w') : Boxed2 w' b s0 s1 :=
  ⟨Nat.lt_of_lt_of_le h.lt hb.size, (hb.cell (p := ⟨b, 0, none⟩) h.lt).trans h.c0, (hb.cell (p := ⟨b, 1, none⟩) h.lt).trans h.c1⟩
theorem Boxed4.cells {w : World} {b : Nat} {s0 s1 s2 s3 : Value} (h : Boxed4 w b s0 s1 s2 s3) : w.cell? ⟨b, 0, none⟩ = some s0 ∧ w.cell? ⟨b, 1, none⟩ = some s1 ∧ w.cell? ⟨b, 2, none⟩ = some s2 ∧ w.cell? ⟨b, 3, none⟩ = some s3 := ⟨h.c0, h.c1, h.c2, h.c3⟩
end Go.Proofs.YtkgeihambgbjdaaDoor.Nf
/- A region that draws its order, in an iterator's own body: reads and calls that keep a class of worlds, ahead of a tail in one forced order that may call the loop's body. Plain lemmas over any program. -/
namespace Go.Proofs.YtkgeihambgbjdaaDoor.Nf
open Go Go.RowKit Go.Proofs.YtkgeihambgbjdaaDoor
section
variable {P : Program} {ops : Array Oper} {md : Region.Mode} {C : World → Prop} {Q : Exit → Act → World → Prop}
theorem rowsIn_wide {n : Nat} {row : String} {args : Array Value} {w : World} {R : Value → World → Prop} (h : Rows P row args w R) : RowsIn Fence.wide n P row args w R :=
  fun c cs _ => let ⟨v, w', r, s⟩ := h c cs; ⟨v, w', r, stepsIn_wide.2 s⟩
theorem oper_wide (n : Nat) {o : Oper} {a : Act} {w : World} {K : Act → World → Prop} (h : o.wp P a w K (fun _ _ _ => False)) : o.wpIn Fence.wide n P a w K Q := by
  refine ⟨fun f _ => trivial, ?_⟩
  have hn : Fence.wide.round = none := rfl
  rw [hn, Oper.semAt_none]
  unfold Oper.wp at h
  cases hr : (execOp a.eval o).run P w with
  | ok x w' =>
    rw [hr] at h
    cases x with
    | value v => exact h
    | skip => exact h
    | defer d => exact h
    | enter f args =>
      refine ⟨fun h => (by cases h), callsIn_wide.2 (Calls.mono h fun e w2 he => ?_)⟩
      cases e with
      | returned v => exact he
      | panicked c => exact he.elim
      | outgrown => obtain ⟨_, _, h⟩ := he; exact h.elim
    | row r args => exact ⟨fun h => (by cases h), rowsIn_wide h⟩
    | _ => exact h.elim
  | halt x w' =>
    rw [hr] at h
    cases x with
    | panic u => exact h.elim
    | _ => exact h.elim
theorem no_out : ¬ LetsOut (fun _ _ _ => False) := fun ⟨_, _, h⟩ => h
theorem wpOp_wide (n : Nat) {i : Nat} {a : Act} {w : World} {K : Act → World → Prop} (h : wpOp P ops (fun _ _ _ => False) i K a w) : wpOpIn Fence.wide n P ops Q i K a w := by
  unfold wpOp at h
  unfold wpOpIn
  cases ho : ops[i]? with
  | none => rw [ho] at h; exact h
  | some o =>
    rw [ho] at h
    simp only at h ⊢
    split
    · rename_i hw
      rw [if_pos hw] at h
      rcases h with h | h
      · exact oper_wide n h
      · exact absurd h.2 no_out
    · rename_i hw
      rw [if_neg hw] at h
      exact ⟨fun f _ => trivial, h⟩
theorem wpAnyIn_of_headQ {m n g : Nat} {L : Array Bool → Act → Prop} (hL : ∀ listed a w, C w → L listed a → wpAnyIn Fence.wide m P md ops Q g listed a w) :
    ∀ (f : Nat) (listed : Array Bool) (a : Act) (w : World), C w → wpAnyLQ P md ops C n L f listed a → wpAnyIn Fence.wide m P md ops Q (f + g) listed a w
  | 0, listed, a, w, hw, h => by rw [Nat.zero_add]; exact hL _ _ _ hw h
  | f + 1, listed, a, w, hw, h => by
    rw [show f + 1 + g = (f + g) + 1 by omega]
    exact ⟨fun h0 => absurd h0 h.1, fun i hi => wpOp_wide m (wpOp_of_qOp hw (fun a' w' hw' h' => wpAnyIn_of_headQ hL f _ a' w' hw' h') (h.2 i hi).2)⟩
theorem wpAnyIn_of_seq {m : Nat} : ∀ (l : List Oper) (k : Nat) (listed : Array Bool) (a : Act) (w : World), (∀ j, l[j]? = ops[k + j]?) →
    Region.seqB md ops l.length k listed = true → wpListIn Fence.wide m P ops Q l a w → wpAnyIn Fence.wide m P md ops Q l.length listed a w
  | [], _, _, _, _, _, hB, h => ⟨by simpa [Region.seqB] using hB, h⟩
  | o :: l, k, listed, a, w, hl, hB, h => by
    have h0 : ops[k]? = some o := by simpa using (hl 0).symm
    simp only [List.length_cons, Region.seqB, Bool.and_eq_true, decide_eq_true_eq] at hB
    refine ⟨fun h1 => (by rw [hB.1] at h1; cases h1), fun i hi => ?_⟩
    rw [hB.1] at hi
    have hik : i = k := by simpa using hi
    subst hik
    have hw : wpOpIn Fence.wide m P ops Q i (wpListIn Fence.wide m P ops Q l) a w := by unfold wpOpIn; simp only [h0]; exact h
    exact wpOpIn_mono (fun a' w' h' => wpAnyIn_of_seq l (i + 1) _ a' w' (fun j => by have := hl (j + 1); simpa [Nat.add_assoc, Nat.add_comm 1 j] using this) hB.2 h') hw
/-- A region of reads and calls that keep a class of worlds, ahead of a tail in one forced order. -/
theorem wpIn_region_cls_tailW {m id : Nat} {a : Act} {w : World} {l : List Oper} (n : Nat) (S : World → Prop) (hm : P.follows .mixedOrders = true) (hB : Region.lexTailB .any l.toArray n = true) (h0 : S w.drew)
    (h : wpQuiet P l.toArray (fun w' => ∃ r : Cls S, w' = r.w) (fun a' => ∀ w', (∃ r : Cls S, w' = r.w) → wpListIn Fence.wide m P l.toArray Q (l.drop n) a' w') (l.take n) a) : (Code.region id l.toArray true).wpIn Fence.wide m P Q a w := by
  refine wpIn_region_any hm ?_
  simp only [Region.lexTailB, Bool.and_eq_true, decide_eq_true_eq] at hB
  obtain ⟨⟨⟨⟨hsel, hn⟩, hs⟩, hc⟩, hlex⟩ := hB
  have hn' : n < l.length := by simpa using hn
  have htl : (l.take n).length = n := by simp; omega
  have hdl : (l.drop n).length = l.toArray.size - n := by simp
  have inv0 : HeadInv .any l.toArray n (Array.replicate l.toArray.size false) :=
    ⟨by simp, fun j oj _ hl => (by rw [getD_replicate_false] at hl; cases hl), fun t _ ht => getD_in (by simpa using ht) (getD_replicate_false _ _)⟩
  have H := wpAnyLQ_lex (C := fun w' => ∃ r : Cls S, w' = r.w) (md := .any) (g := l.toArray.size - n) hsel hs hc hn (l.take n) 0 _ a (fun j hj => by
    have hj' : j < n := by rw [htl] at hj; exact hj
    simp [hj']) (by simpa using htl) inv0 (by rw [htl]; exact hlex) h
  have := wpAnyIn_of_headQ (m := m) (Q := Q) (g := l.toArray.size - n) (fun listed a' w' hw' hL => by
    have := wpAnyIn_of_seq (md := .any) (m := m) (Q := Q) (l.drop n) n listed a' w' (fun j => by simp [List.getElem?_drop]) (by rw [hdl]; exact hL.1) (hL.2 w' hw')
    rwa [hdl] at this) _ _ _ _ ⟨⟨w.drew, h0⟩, rfl⟩ H
  rw [htl, show n + (l.toArray.size - n) = l.toArray.size by omega] at this
  exact this
end
end Go.Proofs.YtkgeihambgbjdaaDoor.Nf
/- The iterator over the edges that match a letter (package nfa). -/
namespace Go.Proofs.YtkgeihambgbjdaaDoor.Nf
open Go Go.RowKit Go.Shelf Go.Proofs.YtkgeihambgbjdaaDoor Go.Proofs.YtkgeihambgbjdaaDoor.Cb
set_option linter.unusedVariables false
set_option linter.unusedSimpArgs false
set_option maxRecDepth 100000
attribute [local go_sem] Oper.semAt_some
/-- The edges that match x. -/
def mat (l : List Ed) (x : Nat) : List Ed := l.filter fun e => cHas e.p e.q x
theorem mat_yes {l : List Ed} {x k : Nat} (hk : k < l.length) (h : cHas (ed l k).p (ed l k).q x = true) : mat (l.take (k + 1)) x = mat (l.take k) x ++ [ed l k] := by
  unfold mat
  rw [List.take_succ_eq_append_getElem hk, List.filter_append]
  have : ed l k = l[k] := by unfold ed; rw [List.getD_eq_getElem?_getD, List.getElem?_eq_getElem hk]; rfl
  rw [this] at h ⊢
  simp [h]
theorem mat_no {l : List Ed} {x k : Nat} (hk : k < l.length) (h : cHas (ed l k).p (ed l k).q x = false) : mat (l.take (k + 1)) x = mat (l.take k) x := by
  unfold mat
  rw [List.take_succ_eq_append_getElem hk, List.filter_append]
  have : ed l k = l[k] := by unfold ed; rw [List.getD_eq_getElem?_getD, List.getElem?_eq_getElem hk]; rfl
  rw [this] at h
  simp [h]
theorem mat_pre (l : List Ed) (x k : Nat) : mat (l.take k) x <+: mat l x := by
  unfold mat
  exact (List.take_prefix k l).filter _
def edV (e : Ed) : Value := .agg #[.int .i64 e.fr, .int .i64 e.to, .int .u8 e.p, .int .u8 e.q]
theorem block_lt {A B : World} {k : Nat} (h : B.heap[k]? = A.heap[k]?) (hk : k < A.heap.size) : k < B.heap.size := by
  rcases Nat.lt_or_ge k B.heap.size with h1 | h1
  · exact h1
  · rw [Array.getElem?_eq_none h1, Array.getElem?_eq_getElem hk] at h; cases h
/-- What the iterator's round leaves as it is. -/
def MatS (J : List Ed → World → Prop) (pre : List Ed) (w0 : World) (b : Nat) (e : Ed) (Bx x : Nat) (X : World) : Prop :=
  J pre X ∧ Below w0.heap.size w0 X ∧ Boxed4 X b (.int .i64 e.fr) (.int .i64 e.to) (.int .u8 e.p) (.int .u8 e.q) ∧ Bx < X.heap.size ∧ X.cell? ⟨Bx, 0, none⟩ = some (.int .u8 x)
end Go.Proofs.YtkgeihambgbjdaaDoor.Nf
/- successors (package nfa). -/
namespace Go.Proofs.YtkgeihambgbjdaaDoor.Nf
open Go Go.RowKit Go.Shelf Go.Proofs.YtkgeihambgbjdaaDoor Go.Proofs.YtkgeihambgbjdaaDoor.Cb
set_option linter.unusedVariables false
set_option linter.unusedSimpArgs false
set_option maxRecDepth 100000
attribute [local go_sem] Oper.semAt_some
theorem info_int6 : (Tryd.prog.info? 3).map (fun i => (i.zero, i.size, i.bytes)) = some (some (.int .i64 0), 1, 8) := by kernel_rfl
/-- Numbers as cells. -/
def zvs (l : List Int) : List Value := l.map (Value.int .i64)
theorem zvs_snoc (l : List Int) (x : Int) : zvs (l ++ [x]) = zvs l ++ [.int .i64 x] := by simp [zvs]
def tgs (xs : List Nat) (l : List Ed) : List Int := (l.filter fun e => hasB xs e.fr).map Ed.to
theorem tgs_all (xs : List Nat) (es : List Ed) (x : Nat) : tgs xs (mat es x) = tg es (hasB xs) x := by
  unfold tgs mat tg
  rw [List.filter_filter]
  congr 2
  funext e
  rw [Bool.and_comm]
theorem tgs_yes {xs : List Nat} {l : List Ed} {e : Ed} (h : hasB xs e.fr = true) : tgs xs (l ++ [e]) = tgs xs l ++ [e.to] := by unfold tgs; simp [List.filter_append, h]
theorem tgs_no {xs : List Nat} {l : List Ed} {e : Ed} (h : hasB xs e.fr = false) : tgs xs (l ++ [e]) = tgs xs l := by unfold tgs; simp [List.filter_append, h]
theorem tgs_len (xs : List Nat) (l : List Ed) : (tgs xs l).length ≤ l.length := by unfold tgs; rw [List.length_map]; exact List.length_filter_le _ _
theorem Boxed4.grown {w w' : World} {b : Nat} {s0 s1 s2 s3 : Value} {row : Option Nat} (h : Boxed4 w b s0 s1 s2 s3) (hg : w.grownBy w' row) (hr : ∀ r, row = some r → ∃ o : Obj, w.heap[r]? = some o ∧ o.isCells = false) : Boxed4 w' b s0 s1 s2 s3 := by
  have hne : some b ≠ row := fun e => by
    obtain ⟨o, ho, hc⟩ := hr b e.symm
    have := h.c0
    unfold World.cell? at this
    simp only [ho] at this
    revert this hc
    cases o <;> simp [Obj.isCells]
  have hbk := hg.block b h.lt hne
  exact ⟨Nat.lt_of_lt_of_le h.lt hg.size, (World.cell?_of_block (a := ⟨b, 0, none⟩) hbk).trans h.c0, (World.cell?_of_block (a := ⟨b, 1, none⟩) hbk).trans h.c1, (World.cell?_of_block (a := ⟨b, 2, none⟩) hbk).trans h.c2, (World.cell?_of_block (a := ⟨b, 3, none⟩) hbk).trans h.c3⟩
end Go.Proofs.YtkgeihambgbjdaaDoor.Nf
/- ends, checkWord, Run, Accepts, After (package nfa). -/
namespace Go.Proofs.YtkgeihambgbjdaaDoor.Nf
open Go Go.RowKit Go.Proofs.YtkgeihambgbjdaaDoor Go.Proofs.YtkgeihambgbjdaaDoor.Cb
set_option linter.unusedVariables false
set_option maxRecDepth 100000
theorem OwnW.low {B B' : Nat} {w : World} {A : Option Addr} {c : Nat} {xs : List Nat} (h : OwnW B w A c xs) (hb : B' ≤ B) : OwnW B' w A c xs := ⟨ownsRow_mono h.1 hb, h.2.1, h.2.2⟩
theorem OwnW.bel {B : Nat} {w w' : World} {A : Option Addr} {c : Nat} {xs : List Nat} (h : OwnW B w A c xs) (hb : Below w.heap.size w w') : OwnW B w' A c xs := ⟨h.1.below hb, h.2.1, h.2.2⟩
section
variable (n : Na) (A B C : Option Addr) (a b c : Nat) (w : World) (hx : NaAt w n A B C) (hl : NaLen n)
include hx hl
end
end Go.Proofs.YtkgeihambgbjdaaDoor.Nf
/- Run, Accepts, After (package nfa). -/
namespace Go.Proofs.YtkgeihambgbjdaaDoor.Nf
open Go Go.RowKit Go.Proofs.YtkgeihambgbjdaaDoor Go.Proofs.YtkgeihambgbjdaaDoor.Cb
set_option linter.unusedVariables false
set_option maxRecDepth 100000
theorem OwnW.u64 {B : Nat} {w : World} {A : Option Addr} {c : Nat} {xs : List Nat} (h : OwnW B w A c xs) : U64 xs := h.2.1
theorem OwnW.cap {B : Nat} {w : World} {A : Option Addr} {c : Nat} {xs : List Nat} (h : OwnW B w A c xs) : xs.length ≤ c := h.2.2
section
variable (n : Na) (A B C : Option Addr) (a b c : Nat) (w : World) (hx : NaAt w n A B C) (hl : NaLen n)
include hx hl
section
variable (D : Option Addr) (l : List Nat) (d : Nat) (hw : Bys w D l) (h8 : ∀ y ∈ l, y < 256) (hll : l.length ≤ 1000000)
include hw h8 hll
end
section
variable (E : Option Addr) (xs : List Nat) (d : Nat) (x : Nat)
end
end
end Go.Proofs.YtkgeihambgbjdaaDoor.Nf
/- slices.Clone of ints and of edges; reversed, Reverse (package nfa). -/
namespace Go.Proofs.YtkgeihambgbjdaaDoor.Nf
open Go Go.RowKit Go.Proofs.YtkgeihambgbjdaaDoor Go.Proofs.YtkgeihambgbjdaaDoor.Cb
set_option linter.unusedVariables false
set_option maxRecDepth 100000
theorem ints_cells {w : World} {ad : Addr} {l : List Int} (hx : Ints w (some ad) l) : ∀ j u, (zvs l)[j]? = some u → w.cell? (ad.add j) = some u := fun j u hu => by
  have hj := (List.getElem?_eq_some_iff.1 hu).1
  rw [zvs, List.length_map] at hj
  obtain ⟨_, e, _, hc⟩ := hx j hj
  cases e
  rw [hc, ← hu]
  simp [zvs, nd, hj]
theorem zvs_one {l : List Int} : ∀ x ∈ zvs l, x.oneCell' = true := by
  intro x hx
  obtain ⟨y, _, rfl⟩ := List.mem_map.1 hx
  rfl
end Go.Proofs.YtkgeihambgbjdaaDoor.Nf
/- reversed (package nfa). -/
namespace Go.Proofs.YtkgeihambgbjdaaDoor.Nf
open Go Go.RowKit Go.Proofs.YtkgeihambgbjdaaDoor Go.Proofs.YtkgeihambgbjdaaDoor.Cb
set_option linter.unusedVariables false
set_option linter.unusedSimpArgs false
set_option maxRecDepth 100000
theorem drew_below (w : World) : Below w.heap.size w w.drew := ⟨rfl, rfl, rfl, Nat.le_refl _, fun _ _ => rfl⟩
theorem Boxed4.other {w : World} {b : Nat} {s0 s1 s2 s3 : Value} (h : Boxed4 w b s0 s1 s2 s3) {p : Addr} (hp : p.block ≠ b) (u : Value) : Boxed4 (w.setCell p u) b s0 s1 s2 s3 := by
  have hk := Below.heap_setCell w p u b (fun e => hp e.symm)
  refine ⟨block_lt hk h.lt, (World.cell?_of_block (a := ⟨b, 0, none⟩) hk).trans h.c0, (World.cell?_of_block (a := ⟨b, 1, none⟩) hk).trans h.c1, (World.cell?_of_block (a := ⟨b, 2, none⟩) hk).trans h.c2, (World.cell?_of_block (a := ⟨b, 3, none⟩) hk).trans h.c3⟩
namespace Blk
variable {w w' : World} {b : Nat} {u0 u1 u2 u3 u4 : Value}
end Blk
theorem row_set {w : World} {B e size n : Nat} {v : Value} {xs : List Value} (ho : w.ownsRow B e size v n xs) {b : Nat} (h : v.ownBlock ≠ some b) (j : Nat) (u : Value) : (w.setCell ⟨b, j, none⟩ u).ownsRow B e size v n xs :=
  ho.kept (⟨rfl, rfl, rfl, by show _ ≤ (w.heap.modify _ _).size; rw [Array.size_modify]; exact Nat.le_refl _, fun k _ hk => Below.heap_setCell _ _ _ k (fun e => hk (by rw [e]))⟩) (.inr h)
/-- The edges, the first k of them flipped. -/
def mixE (l : List Ed) (k : Nat) : List Ed := (l.take k).map flipE ++ l.drop k
theorem mix_zero (l : List Ed) : mixE l 0 = l := by simp [mixE]
theorem mix_all (l : List Ed) : mixE l l.length = l.map flipE := by simp [mixE]
theorem evs_app (l m : List Ed) : evs (l ++ m) = evs l ++ evs m := by simp [evs]
theorem mix_set {l : List Ed} {k : Nat} (hk : k < l.length) : ((evs (mixE l k)).set (k * 4) (.int .i64 (ed l k).to)).set (k * 4 + 1) (.int .i64 (ed l k).fr) = evs (mixE l (k + 1)) := by
  have hx : ed l k = l[k] := by unfold ed; rw [List.getD_eq_getElem?_getD, List.getElem?_eq_getElem hk]; rfl
  have hd : l.drop k = ed l k :: l.drop (k + 1) := by rw [hx]; exact List.drop_eq_getElem_cons hk
  have ht : l.take (k + 1) = l.take k ++ [ed l k] := by rw [hx]; exact List.take_succ_eq_append_getElem hk
  unfold mixE
  rw [ht, List.map_append, hd, evs_app, evs_app, evs_app]
  have hl : (evs ((l.take k).map flipE)).length = k * 4 := by rw [evs_len, List.length_map, List.length_take, Nat.min_eq_left (by omega)]
  generalize evs ((l.take k).map flipE) = F at hl ⊢
  rw [List.set_append_right _ _ (by omega), List.set_append_right _ _ (by omega), List.append_assoc, hl]
  congr 1
  rw [Nat.sub_self, show k * 4 + 1 - k * 4 = 1 by omega]
  rfl
theorem hnext {md : Region.Mode} {ops : Array Oper} {n i : Nat} {L0 listed : Array Bool} {rs : List Nat} (hA : HeadAt md ops n L0 listed) (hr : Region.ready md ops listed = rs) (hi : i ∈ rs) (hin : i < n) : HeadAt md ops n L0 (listed.setIfInBounds i true) := hA.set (hr ▸ hi) hin
theorem row_ne_row {w : World} {B B' e e' sz sz' n n' g c : Nat} {v : Value} {xs ys : List Value} (h : w.ownsRow B e sz (.slice (some ⟨g, 0, none⟩) n c) n xs) (h' : w.ownsRow B' e' sz' v n' ys) (he : e ≠ e') : v.ownBlock ≠ some g := fun hv => by
  rcases h.2 with ⟨h1, _⟩ | ⟨g1, cap, cur, h1, _, hg, _⟩
  · cases h1
  · cases h1
    rcases h'.2 with ⟨rfl, _⟩ | ⟨g2, cap2, cur2, rfl, _, hg2, _⟩
    · simp [Value.ownBlock] at hv
    · obtain rfl : g2 = _ := by simpa [Value.ownBlock] using hv
      rw [hg] at hg2
      cases hg2
      exact he rfl
end Go.Proofs.YtkgeihambgbjdaaDoor.Nf
/- Reverse (package nfa). -/
namespace Go.Proofs.YtkgeihambgbjdaaDoor.Nf
open Go Go.RowKit Go.Proofs.YtkgeihambgbjdaaDoor Go.Proofs.YtkgeihambgbjdaaDoor.Cb
set_option linter.unusedVariables false
set_option linter.unusedSimpArgs false
set_option maxRecDepth 100000
/-- Five stores into a block. -/
def put5 (Y : World) (b : Nat) (v0 v1 v2 v3 v4 : Value) : World := (((((Y.setCell ⟨b, 0, none⟩ v0).setCell ⟨b, 1, none⟩ v1).setCell ⟨b, 2, none⟩ v2).setCell ⟨b, 3, none⟩ v3).setCell ⟨b, 4, none⟩ v4)
end Go.Proofs.YtkgeihambgbjdaaDoor.Nf
/- The kit's EqualEdges, EqualNFA, EqualSet; Long; the chapter's example. -/
namespace Go.Proofs.YtkgeihambgbjdaaDoor.Nf
open Go Go.RowKit Go.Proofs.YtkgeihambgbjdaaDoor Go.Proofs.YtkgeihambgbjdaaDoor.Cb
set_option linter.unusedVariables false
set_option linter.unusedSimpArgs false
set_option maxRecDepth 100000
theorem eds_four {w wr : World} {A : Option Addr} {l : List Ed} (h : EdsAt w A l) (hb : Below w.heap.size w wr) {k : Nat} (hk : k < l.length) : ∃ ad, A = some ad ∧ (wr.cell? (ad.add (k * 4)) = some (.int .i64 (ed l k).fr) ∧ wr.cell? ⟨(ad.add (k * 4)).block, (ad.add (k * 4)).off + 1, none⟩ = some (.int .i64 (ed l k).to) ∧ wr.cell? ⟨(ad.add (k * 4)).block, (ad.add (k * 4)).off + 2, none⟩ = some (.int .u8 (ed l k).p) ∧
    wr.cell? ⟨(ad.add (k * 4)).block, (ad.add (k * 4)).off + 3, none⟩ = some (.int .u8 (ed l k).q)) := by
  obtain ⟨_, ad, e, _, hc⟩ := (h.below hb) k hk
  exact ⟨ad, e, four_at hc⟩
/-- Whether an automaton has more elements than the statements examine. -/
def longB (n : Na) : Bool := decide (100 < n.st.length) || decide (100 < n.fi.length) || decide (520 < n.es.length)
theorem long_no {n : Na} (h : longB n = false) : n.st.length ≤ 100 ∧ n.fi.length ≤ 100 ∧ n.es.length ≤ 520 := by
  unfold longB at h
  simp only [Bool.or_eq_false_iff, decide_eq_false_iff_not] at h
  omega
theorem long_len {n : Na} (h : longB n = false) : NaLen n := by
  have := long_no h
  exact ⟨by omega, by omega, by omega⟩
/-- The chapter's automaton. -/
def exN : Na := ⟨1, 3, [0], [2], [⟨0, 0, 0, 0⟩, ⟨0, 1, 1, 0⟩, ⟨1, 2, 0, 0⟩]⟩
theorem ex_ok : chkN exN = 0 := by kernel_rfl
theorem ex_len : NaLen exN := ⟨by decide, by decide, by decide⟩
def exCells : Array Value := #[.int .i64 0, .int .i64 0, .int .u8 0, .int .u8 0, .int .i64 0, .int .i64 1, .int .u8 1, .int .u8 0, .int .i64 1, .int .i64 2, .int .u8 0, .int .u8 0]
theorem ex_cells : (evs exN.es).toArray = exCells := by kernel_rfl
theorem ex_fine : ∀ x ∈ exN.es, EdOk x := by
  intro x hx
  simp [exN] at hx
  rcases hx with rfl | rfl | rfl <;> exact ⟨by unfold InJ; decide, by unfold InJ; decide, by decide, by decide⟩
theorem bys_new (W : World) (l : List Nat) : Bys (W.alloc (.cells (bvs l).toArray 5)) (some ⟨W.heap.size, 0, none⟩) l :=
  Ap.vals_new_ W _ _ _ _ fun j hj => by simp [bvs, wd, hj]
end Go.Proofs.YtkgeihambgbjdaaDoor.Nf
