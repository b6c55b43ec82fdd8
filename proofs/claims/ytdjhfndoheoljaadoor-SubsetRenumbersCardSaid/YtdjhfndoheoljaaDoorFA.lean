/- Automata as lists: validity, the states to which words lead, reversed and united automata. Plain mathematics, nothing of the program. -/
import Derived.Test.YtdjhfndoheoljaaDoorBS
import Derived.Test.YtdjhfndoheoljaaDoorCA
namespace Go.Proofs.YtdjhfndoheoljaaDoor.Nf
open Go Go.RowKit Go.Proofs.YtdjhfndoheoljaaDoor
set_option linter.unusedVariables false
/-- An edge. -/
structure Ed where
  fr : Int
  to : Int
  p : Nat
  q : Nat
  deriving DecidableEq
instance : Inhabited Ed := ⟨⟨0, 0, 0, 0⟩⟩
def ed (l : List Ed) (j : Nat) : Ed := l.getD j default
/-- An automaton. -/
structure Na where
  V : Int
  S : Int
  st : List Int
  fi : List Int
  es : List Ed
  deriving DecidableEq
def inS (S z : Int) : Bool := decide (0 ≤ z ∧ z < S)
/-- Number i of a list of states is one, and greater than the one before. -/
def ascP (S : Int) (l : List Int) (i : Nat) : Bool := inS S (nd l i) && (decide (i = 0) || decide (nd l (i - 1) < nd l i))
def asc (S : Int) (l : List Int) : Bool := allB (ascP S l) l.length
def edE (V S : Int) (e : Ed) : Int := if inS S e.fr && inS S e.to then chk e.p e.q V else 8
/-- The first error of the first k edges. -/
def edsE (V S : Int) (l : List Ed) : Nat → Int
  | 0 => 0
  | k + 1 => if edsE V S l k = 0 then edE V S (ed l k) else edsE V S l k
def chkN (n : Na) : Int :=
  if ¬ (0 ≤ n.V ∧ n.V ≤ 6) then 7 else if n.S < 0 then 1 else if ¬ (n.S ≤ 64 ∧ n.es.length ≤ 512) then 4 else if asc n.S n.st = false then 8 else if asc n.S n.fi = false then 8 else edsE n.V n.S n.es n.es.length
theorem edsE_stop {V S : Int} {l : List Ed} {k : Nat} (h : edsE V S l k ≠ 0) : ∀ d, edsE V S l (k + d) = edsE V S l k
  | 0 => rfl
  | d + 1 => by
    have ih := edsE_stop h d
    show (if edsE V S l (k + d) = 0 then _ else edsE V S l (k + d)) = _
    rw [ih, if_neg h]
theorem edsE_err {V S : Int} {l : List Ed} {k : Nat} (h : edsE V S l k = 0) (hk : k < l.length) (he : edE V S (ed l k) ≠ 0) : edsE V S l l.length = edE V S (ed l k) := by
  have h1 : edsE V S l (k + 1) = edE V S (ed l k) := by show (if _ then _ else _) = _; rw [if_pos h]
  have := edsE_stop (V := V) (S := S) (l := l) (k := k + 1) (by rw [h1]; exact he) (l.length - (k + 1))
  rw [show k + 1 + (l.length - (k + 1)) = l.length by omega, h1] at this
  exact this
theorem edsE_all {V S : Int} {l : List Ed} : ∀ {k : Nat}, edsE V S l k = 0 → ∀ j, j < k → edE V S (ed l j) = 0
  | 0, _, j, hj => absurd hj (by omega)
  | k + 1, h, j, hj => by
    have h' : (if edsE V S l k = 0 then edE V S (ed l k) else edsE V S l k) = 0 := h
    by_cases h0 : edsE V S l k = 0
    · rw [if_pos h0] at h'
      rcases Nat.lt_or_eq_of_le (Nat.le_of_lt_succ hj) with h1 | rfl
      · exact edsE_all h0 j h1
      · exact h'
    · rw [if_neg h0] at h'
      exact absurd h' h0
theorem edsE_none {V S : Int} {l : List Ed} : ∀ {k : Nat}, (∀ j, j < k → edE V S (ed l j) = 0) → edsE V S l k = 0
  | 0, _ => rfl
  | k + 1, h => by
    show (if edsE V S l k = 0 then edE V S (ed l k) else edsE V S l k) = 0
    rw [if_pos (edsE_none fun j hj => h j (by omega))]
    exact h k (by omega)
theorem ed_mem {l : List Ed} {j : Nat} (h : j < l.length) : ed l j ∈ l := by
  unfold ed
  rw [List.getD_eq_getElem?_getD, List.getElem?_eq_getElem h]
  exact List.getElem_mem h
theorem mem_ed {l : List Ed} {e : Ed} (h : e ∈ l) : ∃ j, j < l.length ∧ ed l j = e := by
  obtain ⟨j, hj, rfl⟩ := List.getElem_of_mem h
  exact ⟨j, hj, by unfold ed; rw [List.getD_eq_getElem?_getD, List.getElem?_eq_getElem hj]; rfl⟩
theorem mem_nd {l : List Int} {z : Int} (h : z ∈ l) : ∃ j, j < l.length ∧ nd l j = z := by
  obtain ⟨j, hj, rfl⟩ := List.getElem_of_mem h
  exact ⟨j, hj, by unfold nd; rw [List.getD_eq_getElem?_getD, List.getElem?_eq_getElem hj]; rfl⟩
/-- A valid automaton. -/
structure Ok (n : Na) : Prop where
  v0 : 0 ≤ n.V
  v6 : n.V ≤ 6
  s0 : 0 ≤ n.S
  s64 : n.S ≤ 64
  es : n.es.length ≤ 512
  st : asc n.S n.st = true
  fi : asc n.S n.fi = true
  ed : ∀ e ∈ n.es, edE n.V n.S e = 0
theorem ok_of {n : Na} (h : chkN n = 0) : Ok n := by
  unfold chkN at h
  by_cases h1 : 0 ≤ n.V ∧ n.V ≤ 6
  · rw [if_neg (by simp [h1])] at h
    by_cases h2 : n.S < 0
    · rw [if_pos h2] at h; cases h
    · rw [if_neg h2] at h
      by_cases h3 : n.S ≤ 64 ∧ n.es.length ≤ 512
      · rw [if_neg (by simp [h3])] at h
        cases h4 : asc n.S n.st with
        | false => rw [h4, if_pos rfl] at h; cases h
        | true =>
          cases h5 : asc n.S n.fi with
          | false => rw [h4, h5, if_neg (by simp), if_pos rfl] at h; cases h
          | true =>
            rw [h4, h5, if_neg (by simp), if_neg (by simp)] at h
            refine ⟨h1.1, h1.2, by omega, h3.1, h3.2, h4, h5, fun e he => ?_⟩
            obtain ⟨j, hj, rfl⟩ := mem_ed he
            exact edsE_all h j hj
      · rw [if_pos (by simpa using h3)] at h; cases h
  · rw [if_pos h1] at h; cases h
theorem ok_chk {n : Na} (h : Ok n) : chkN n = 0 := by
  unfold chkN
  rw [if_neg (by simp [h.v0, h.v6]), if_neg (by have := h.s0; omega), if_neg (by simp [h.s64, h.es]), h.st, h.fi, if_neg (by simp), if_neg (by simp)]
  exact edsE_none fun j hj => h.ed _ (ed_mem hj)
theorem inS_iff {S z : Int} : inS S z = true ↔ 0 ≤ z ∧ z < S := by unfold inS; rw [decide_eq_true_iff]
theorem asc_in {S : Int} {l : List Int} (h : asc S l = true) {z : Int} (hz : z ∈ l) : 0 ≤ z ∧ z < S := by
  obtain ⟨j, hj, rfl⟩ := mem_nd hz
  have := (allB_iff _ _).1 h j hj
  unfold ascP at this
  rw [Bool.and_eq_true] at this
  exact inS_iff.1 this.1
theorem edE_in {V S : Int} {e : Ed} (h : edE V S e = 0) : (0 ≤ e.fr ∧ e.fr < S) ∧ (0 ≤ e.to ∧ e.to < S) ∧ chk e.p e.q V = 0 := by
  unfold edE at h
  by_cases h1 : (inS S e.fr && inS S e.to) = true
  · rw [if_pos h1] at h
    rw [Bool.and_eq_true, inS_iff, inS_iff] at h1
    exact ⟨h1.1, h1.2, h⟩
  · rw [if_neg h1] at h; cases h
/-- What edges that match x and begin where P says lead to. -/
def tg (l : List Ed) (P : Int → Bool) (x : Nat) : List Int := (l.filter fun e => cHas e.p e.q x && P e.fr).map Ed.to
def stepW (l : List Ed) (xs : List Nat) (x : Nat) : List Nat := ofL (tg l (hasB xs) x)
/-- The set that the first k letters of a word lead to. -/
def runTo (n : Na) (w : List Nat) (k : Nat) : List Nat := (w.take k).foldl (stepW n.es) (ofL n.st)
def runW (n : Na) (w : List Nat) : List Nat := w.foldl (stepW n.es) (ofL n.st)
theorem runTo_zero (n : Na) (w : List Nat) : runTo n w 0 = ofL n.st := rfl
theorem runTo_all (n : Na) (w : List Nat) : runTo n w w.length = runW n w := by unfold runTo runW; rw [List.take_length]
theorem runTo_succ (n : Na) {w : List Nat} {k : Nat} (h : k < w.length) : runTo n w (k + 1) = stepW n.es (runTo n w k) (wd w k) := by
  unfold runTo
  have e : w.take (k + 1) = w.take k ++ [wd w k] := by
    rw [List.take_succ_eq_append_getElem h]
    simp [wd, h]
  rw [e, List.foldl_append]
  rfl
def accW (n : Na) (w : List Nat) : Bool := meetB (runW n w) (ofL n.fi)
/-- A word leads from p to q. -/
def Path (l : List Ed) : List Nat → Int → Int → Prop
  | [], p, q => p = q
  | x :: w, p, q => ∃ e ∈ l, cHas e.p e.q x = true ∧ e.fr = p ∧ Path l w e.to q
theorem mem_tg {l : List Ed} {P : Int → Bool} {x : Nat} {z : Int} : z ∈ tg l P x ↔ ∃ e ∈ l, cHas e.p e.q x = true ∧ P e.fr = true ∧ e.to = z := by
  unfold tg
  rw [List.mem_map]
  constructor
  · rintro ⟨e, he, rfl⟩
    obtain ⟨h1, h2⟩ := List.mem_filter.1 he
    rw [Bool.and_eq_true] at h2
    exact ⟨e, h1, h2.1, h2.2, rfl⟩
  · rintro ⟨e, he, h1, h2, rfl⟩
    exact ⟨e, List.mem_filter.2 ⟨he, by rw [Bool.and_eq_true]; exact ⟨h1, h2⟩⟩, rfl⟩
theorem has_ofL {l : List Int} {z : Int} : hasB (ofL l) z = true ↔ (0 ≤ z ∧ z ≤ 4095) ∧ z ∈ l := by
  unfold hasB
  rw [Bool.and_eq_true, decide_eq_true_iff]
  constructor
  · rintro ⟨h1, h2⟩
    rw [mem_ofL _ (by omega), decide_eq_true_iff, Int.toNat_of_nonneg h1.1] at h2
    exact ⟨h1, h2⟩
  · rintro ⟨h1, h2⟩
    refine ⟨h1, ?_⟩
    rw [mem_ofL _ (by omega), decide_eq_true_iff, Int.toNat_of_nonneg h1.1]
    exact h2
section
variable {n : Na}
theorem has_step (h : ∀ e ∈ n.es, edE n.V n.S e = 0) (hS : n.S ≤ 64) {xs : List Nat} {x : Nat} {z : Int} : hasB (stepW n.es xs x) z = true ↔ ∃ e ∈ n.es, cHas e.p e.q x = true ∧ hasB xs e.fr = true ∧ e.to = z := by
  unfold stepW
  rw [has_ofL, mem_tg]
  constructor
  · exact fun h => h.2
  · rintro ⟨e, he, h1, h2, rfl⟩
    have := (edE_in (h e he)).2.1
    exact ⟨by omega, e, he, h1, h2, rfl⟩
theorem has_run (h : ∀ e ∈ n.es, edE n.V n.S e = 0) (hS : n.S ≤ 64) : ∀ (w : List Nat) (xs : List Nat) (z : Int), hasB (w.foldl (stepW n.es) xs) z = true ↔ ∃ p, hasB xs p = true ∧ Path n.es w p z
  | [], xs, z => by
    show hasB xs z = true ↔ ∃ p, hasB xs p = true ∧ p = z
    exact ⟨fun h => ⟨z, h, rfl⟩, fun ⟨p, h, e⟩ => e ▸ h⟩
  | x :: w, xs, z => by
    rw [List.foldl_cons, has_run h hS w]
    constructor
    · rintro ⟨p, hp, hP⟩
      obtain ⟨e, he, h1, h2, rfl⟩ := (has_step h hS).1 hp
      exact ⟨e.fr, h2, e, he, h1, rfl, hP⟩
    · rintro ⟨p, hp, e, he, h1, rfl, hP⟩
      exact ⟨e.to, (has_step h hS).2 ⟨e, he, h1, hp, rfl⟩, hP⟩
theorem has_st (hS : n.S ≤ 64) {l : List Int} (h : asc n.S l = true) {z : Int} : hasB (ofL l) z = true ↔ z ∈ l := by
  rw [has_ofL]
  exact ⟨fun h => h.2, fun hz => ⟨by have := asc_in h hz; omega, hz⟩⟩
theorem has_runW (h : Ok n) (w : List Nat) (z : Int) : hasB (runW n w) z = true ↔ ∃ p ∈ n.st, Path n.es w p z := by
  unfold runW
  rw [has_run h.ed h.s64]
  constructor
  · rintro ⟨p, hp, hP⟩; exact ⟨p, (has_st h.s64 h.st).1 hp, hP⟩
  · rintro ⟨p, hp, hP⟩; exact ⟨p, (has_st h.s64 h.st).2 hp, hP⟩
theorem meetB_has {xs ys : List Nat} (ux : U64 xs) : meetB xs ys = true ↔ ∃ z, hasB xs z = true ∧ hasB ys z = true := by
  have hm := meetB_mem (ys := ys) ux
  constructor
  · intro h
    refine Classical.byContradiction fun hn => ?_
    have : meetB xs ys = false := by
      rw [hm]
      intro k hk
      cases h1 : mem xs k <;> cases h2 : mem ys k <;> try rfl
      refine absurd ⟨(k : Int), ?_, ?_⟩ hn <;> unfold hasB <;> rw [decide_eq_true (by omega), Int.toNat_natCast, Bool.true_and] <;> assumption
    rw [this] at h
    cases h
  · rintro ⟨z, h1, h2⟩
    cases hc : meetB xs ys with
    | true => rfl
    | false =>
      unfold hasB at h1 h2
      rw [Bool.and_eq_true, decide_eq_true_iff] at h1 h2
      have := hm.1 hc z.toNat (by omega)
      rw [h1.2, h2.2] at this
      cases this
theorem u64_step (l : List Ed) (xs : List Nat) (x : Nat) : U64 (stepW l xs x) := u64_of _
theorem u64_fold (l : List Ed) : ∀ (w : List Nat) (xs : List Nat), U64 xs → U64 (w.foldl (stepW l) xs)
  | [], _, h => h
  | x :: w, _, _ => u64_fold l w _ (u64_step _ _ _)
theorem u64_run (n : Na) (w : List Nat) : U64 (runW n w) := u64_fold _ _ _ (u64_of _)
theorem u64_runTo (n : Na) (w : List Nat) (k : Nat) : U64 (runTo n w k) := u64_fold _ _ _ (u64_of _)
theorem acc_iff (h : Ok n) (w : List Nat) : accW n w = true ↔ ∃ p ∈ n.st, ∃ q ∈ n.fi, Path n.es w p q := by
  unfold accW
  rw [meetB_has (u64_run _ _)]
  constructor
  · rintro ⟨z, h1, h2⟩
    obtain ⟨p, hp, hP⟩ := (has_runW h w z).1 h1
    exact ⟨p, hp, z, (has_st h.s64 h.fi).1 h2, hP⟩
  · rintro ⟨p, hp, q, hq, hP⟩
    exact ⟨q, (has_runW h w q).2 ⟨p, hp, hP⟩, (has_st h.s64 h.fi).2 hq⟩
theorem path_app {l : List Ed} {v : List Nat} : ∀ {u : List Nat} {p q : Int}, Path l (u ++ v) p q ↔ ∃ r, Path l u p r ∧ Path l v r q
  | [], p, q => ⟨fun h => ⟨p, rfl, h⟩, fun ⟨r, e, h⟩ => by cases e; exact h⟩
  | x :: u, p, q => by
    show (∃ e ∈ l, _ ∧ _ ∧ Path l (u ++ v) e.to q) ↔ _
    constructor
    · rintro ⟨e, he, h1, h2, h3⟩
      obtain ⟨r, h4, h5⟩ := path_app.1 h3
      exact ⟨r, ⟨e, he, h1, h2, h4⟩, h5⟩
    · rintro ⟨r, ⟨e, he, h1, h2, h4⟩, h5⟩
      exact ⟨e, he, h1, h2, path_app.2 ⟨r, h4, h5⟩⟩
end
/-- An edge the other way. -/
def flipE (e : Ed) : Ed := ⟨e.to, e.fr, e.p, e.q⟩
def revN (n : Na) : Na := ⟨n.V, n.S, n.fi, n.st, n.es.map flipE⟩
theorem flip_flip (l : List Ed) : (l.map flipE).map flipE = l := by
  rw [List.map_map]
  have : flipE ∘ flipE = id := rfl
  rw [this, List.map_id]
theorem rev_rev (n : Na) : revN (revN n) = n := by
  show (⟨n.V, n.S, n.st, n.fi, (n.es.map flipE).map flipE⟩ : Na) = n
  rw [flip_flip]
theorem edE_flip {V S : Int} (e : Ed) : edE V S (flipE e) = edE V S e := by
  unfold edE flipE
  simp only
  rw [Bool.and_comm]
theorem rev_ok {n : Na} (h : Ok n) : Ok (revN n) := ⟨h.v0, h.v6, h.s0, h.s64, by show (n.es.map flipE).length ≤ 512; rw [List.length_map]; exact h.es, h.fi, h.st, fun e he => by
  obtain ⟨d, hd, rfl⟩ := List.mem_map.1 he
  rw [edE_flip]
  exact h.ed d hd⟩
theorem path_one {l : List Ed} {x : Nat} {p q : Int} : Path l [x] p q ↔ ∃ e ∈ l, cHas e.p e.q x = true ∧ e.fr = p ∧ e.to = q := Iff.rfl
theorem path_flip {l : List Ed} : ∀ {w : List Nat} {p q : Int}, Path l w p q → Path (l.map flipE) w.reverse q p
  | [], p, q, h => Eq.symm h
  | x :: w, p, q, ⟨e, he, h1, h2, h3⟩ => by
    rw [List.reverse_cons, path_app]
    exact ⟨e.to, path_flip h3, flipE e, List.mem_map_of_mem he, h1, rfl, h2⟩
theorem acc_rev {n : Na} (h : Ok n) (w : List Nat) : accW (revN n) w.reverse = accW n w := by
  rw [Bool.eq_iff_iff, acc_iff (rev_ok h), acc_iff h]
  constructor
  · rintro ⟨p, hp, q, hq, hP⟩
    have := path_flip hP
    rw [List.reverse_reverse] at this
    change Path ((n.es.map flipE).map flipE) w q p at this
    rw [flip_flip] at this
    exact ⟨q, hq, p, hp, this⟩
  · rintro ⟨p, hp, q, hq, hP⟩
    exact ⟨q, hq, p, hp, path_flip hP⟩
/-- What is wrong with a word. -/
def wordE (V : Int) (w : List Nat) : Int := if 64 < w.length then 4 else if w.all (fun x => decide (x < 2 ^ V.toNat)) then 0 else 1
def wrongN (n : Na) (w : List Nat) : Int := if chkN n ≠ 0 then chkN n else wordE n.V w
theorem wordE_rev (V : Int) (w : List Nat) : wordE V w.reverse = wordE V w := by
  unfold wordE
  rw [List.length_reverse, List.all_reverse]
/-- The automaton with the states of a followed by those of b. -/
def shiftE (k : Int) (e : Ed) : Ed := ⟨e.fr + k, e.to + k, e.p, e.q⟩
def uniN (a b : Na) : Na := ⟨a.V, a.S + b.S, a.st ++ b.st.map (· + a.S), a.fi ++ b.fi.map (· + a.S), a.es ++ b.es.map (shiftE a.S)⟩
def uniE (a b : Na) : Int := if chkN a ≠ 0 then chkN a else if chkN b ≠ 0 then chkN b else if a.V ≠ b.V then 7 else if ¬ (a.S + b.S ≤ 64 ∧ a.es.length + b.es.length ≤ 512) then 4 else 0
theorem nd_app_l {l m : List Int} {j : Nat} (h : j < l.length) : nd (l ++ m) j = nd l j := by
  unfold nd
  rw [List.getD_eq_getElem?_getD, List.getElem?_append_left h, ← List.getD_eq_getElem?_getD]
theorem nd_app_r {l m : List Int} {j : Nat} (h : l.length ≤ j) : nd (l ++ m) j = nd m (j - l.length) := by
  unfold nd
  rw [List.getD_eq_getElem?_getD, List.getElem?_append_right h, ← List.getD_eq_getElem?_getD]
theorem nd_map {l : List Int} {f : Int → Int} {j : Nat} (h : j < l.length) : nd (l.map f) j = f (nd l j) := by
  unfold nd
  simp [h]
theorem asc_app {S T : Int} {l m : List Int} (hS : 0 ≤ S) (hT : 0 ≤ T) (hl : asc S l = true) (hm : asc T m = true) : asc (S + T) (l ++ m.map (· + S)) = true := by
  unfold asc at *
  rw [allB_iff] at *
  intro i hi
  rw [List.length_append, List.length_map] at hi
  unfold ascP
  rw [Bool.and_eq_true, inS_iff]
  rcases Nat.lt_or_ge i l.length with h | h
  · have h1 := hl i h
    unfold ascP at h1
    rw [Bool.and_eq_true, inS_iff] at h1
    rw [nd_app_l h, nd_app_l (by omega)]
    exact ⟨by omega, h1.2⟩
  · have h1 := hm (i - l.length) (by omega)
    unfold ascP at h1
    rw [Bool.and_eq_true, inS_iff] at h1
    rw [nd_app_r h, nd_map (by omega)]
    refine ⟨by omega, ?_⟩
    rw [Bool.or_eq_true, decide_eq_true_iff, decide_eq_true_iff]
    by_cases h0 : i = 0
    · exact .inl h0
    · right
      rcases Nat.lt_or_ge (i - 1) l.length with h2 | h2
      · have h3 := hl (i - 1) h2
        unfold ascP at h3
        rw [Bool.and_eq_true, inS_iff] at h3
        rw [nd_app_l h2]
        omega
      · rw [nd_app_r h2, nd_map (by omega)]
        have h4 := h1.2
        rw [Bool.or_eq_true, decide_eq_true_iff, decide_eq_true_iff] at h4
        rw [show i - 1 - l.length = i - l.length - 1 by omega]
        omega
theorem edE_shift {V S T : Int} {e : Ed} (hS : 0 ≤ S) (h : edE V T e = 0) : edE V (S + T) (shiftE S e) = 0 := by
  obtain ⟨h1, h2, h3⟩ := edE_in h
  unfold edE shiftE
  simp only
  rw [if_pos (by rw [Bool.and_eq_true, inS_iff, inS_iff]; omega)]
  exact h3
theorem edE_more {V S T : Int} {e : Ed} (hT : 0 ≤ T) (h : edE V S e = 0) : edE V (S + T) e = 0 := by
  obtain ⟨h1, h2, h3⟩ := edE_in h
  unfold edE
  rw [if_pos (by rw [Bool.and_eq_true, inS_iff, inS_iff]; omega)]
  exact h3
theorem uni_ok {a b : Na} (ha : Ok a) (hb : Ok b) (hv : a.V = b.V) (hs : a.S + b.S ≤ 64) (he : a.es.length + b.es.length ≤ 512) : Ok (uniN a b) where
  v0 := ha.v0
  v6 := ha.v6
  s0 := by have := ha.s0; have := hb.s0; show 0 ≤ a.S + b.S; omega
  s64 := hs
  es := by show (a.es ++ b.es.map (shiftE a.S)).length ≤ 512; rw [List.length_append, List.length_map]; exact he
  st := asc_app ha.s0 hb.s0 ha.st hb.st
  fi := asc_app ha.s0 hb.s0 ha.fi hb.fi
  ed := fun e h => by
    rcases List.mem_append.1 h with h | h
    · exact edE_more hb.s0 (ha.ed e h)
    · obtain ⟨d, hd, rfl⟩ := List.mem_map.1 h
      refine edE_shift ha.s0 ?_
      show edE a.V b.S d = 0
      rw [hv]
      exact hb.ed d hd
theorem path_left {a b : Na} (ha : Ok a) (hb : Ok b) : ∀ {w : List Nat} {p q : Int}, p < a.S → (Path (uniN a b).es w p q ↔ q < a.S ∧ Path a.es w p q)
  | [], p, q, hp => ⟨fun h => ⟨by cases h; exact hp, h⟩, fun h => h.2⟩
  | x :: w, p, q, hp => by
    constructor
    · rintro ⟨e, he, h1, h2, h3⟩
      rcases List.mem_append.1 he with h | h
      · have := (edE_in (ha.ed e h)).2.1
        obtain ⟨h4, h5⟩ := (path_left ha hb this.2).1 h3
        exact ⟨h4, e, h, h1, h2, h5⟩
      · obtain ⟨d, hd, rfl⟩ := List.mem_map.1 h
        have := (edE_in (hb.ed d hd)).1
        have h2' : d.fr + a.S = p := h2
        omega
    · rintro ⟨h0, e, he, h1, h2, h3⟩
      have := (edE_in (ha.ed e he)).2.1
      exact ⟨e, List.mem_append_left _ he, h1, h2, (path_left ha hb this.2).2 ⟨h0, h3⟩⟩
theorem path_right {a b : Na} (ha : Ok a) (hb : Ok b) : ∀ {w : List Nat} {p q : Int}, 0 ≤ p → (Path (uniN a b).es w (p + a.S) (q + a.S) ↔ Path b.es w p q)
  | [], p, q, hp => ⟨fun h => by have h' : p + a.S = q + a.S := h; show p = q; omega, fun h => by have h' : p = q := h; show p + a.S = q + a.S; omega⟩
  | x :: w, p, q, hp => by
    constructor
    · rintro ⟨e, he, h1, h2, h3⟩
      rcases List.mem_append.1 he with h | h
      · have := (edE_in (ha.ed e h)).1
        omega
      · obtain ⟨d, hd, rfl⟩ := List.mem_map.1 h
        have := (edE_in (hb.ed d hd)).2.1
        have h2' : d.fr + a.S = p + a.S := h2
        exact ⟨d, hd, h1, by omega, (path_right ha hb this.1).1 h3⟩
    · rintro ⟨e, he, h1, h2, h3⟩
      have := (edE_in (hb.ed e he)).2.1
      exact ⟨shiftE a.S e, List.mem_append_right _ (List.mem_map_of_mem he), h1, by show e.fr + a.S = _; rw [h2], (path_right ha hb this.1).2 h3⟩
theorem path_to {n : Na} (h : Ok n) : ∀ {w : List Nat} {p q : Int}, 0 ≤ p → Path n.es w p q → 0 ≤ q
  | [], p, q, hp, hP => by cases hP; exact hp
  | x :: w, p, q, hp, ⟨e, he, _, _, h3⟩ => path_to h (edE_in (h.ed e he)).2.1.1 h3
theorem acc_uni {a b : Na} (ha : Ok a) (hb : Ok b) (hv : a.V = b.V) (hs : a.S + b.S ≤ 64) (he : a.es.length + b.es.length ≤ 512) (w : List Nat) : accW (uniN a b) w = (accW a w || accW b w) := by
  have hu := uni_ok ha hb hv hs he
  rw [Bool.eq_iff_iff, Bool.or_eq_true, acc_iff hu, acc_iff ha, acc_iff hb]
  constructor
  · rintro ⟨p, hp, q, hq, hP⟩
    rcases List.mem_append.1 hp with h1 | h1
    · obtain ⟨h2, h3⟩ := (path_left ha hb (asc_in ha.st h1).2).1 hP
      rcases List.mem_append.1 hq with h4 | h4
      · exact .inl ⟨p, h1, q, h4, h3⟩
      · obtain ⟨r, hr, rfl⟩ := List.mem_map.1 h4
        have := (asc_in hb.fi hr).1
        omega
    · obtain ⟨p, hp1, rfl⟩ := List.mem_map.1 h1
      have p0 := (asc_in hb.st hp1).1
      rcases List.mem_append.1 hq with h4 | h4
      · have q1 := (asc_in ha.fi h4).2
        have h5 : Path (uniN a b).es w (p + a.S) ((q - a.S) + a.S) := by rw [show q - a.S + a.S = q by omega]; exact hP
        have := path_to hb p0 ((path_right ha hb p0).1 h5)
        omega
      · obtain ⟨r, hr, rfl⟩ := List.mem_map.1 h4
        exact .inr ⟨p, hp1, r, hr, (path_right ha hb p0).1 hP⟩
  · rintro (⟨p, hp, q, hq, hP⟩ | ⟨p, hp, q, hq, hP⟩)
    · exact ⟨p, List.mem_append_left _ hp, q, List.mem_append_left _ hq, (path_left ha hb (asc_in ha.st hp).2).2 ⟨(asc_in ha.fi hq).2, hP⟩⟩
    · exact ⟨p + a.S, List.mem_append_right _ (List.mem_map.2 ⟨p, hp, rfl⟩), q + a.S, List.mem_append_right _ (List.mem_map.2 ⟨q, hq, rfl⟩), (path_right ha hb (asc_in hb.st hp).1).2 hP⟩
end Go.Proofs.YtdjhfndoheoljaaDoor.Nf
