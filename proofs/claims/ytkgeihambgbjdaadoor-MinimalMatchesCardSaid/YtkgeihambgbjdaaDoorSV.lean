/- The walk of MinimalMatches. -/
import Derived.Test.YtkgeihambgbjdaaDoorSU
import Derived.Test.YtkgeihambgbjdaaDoorSR
import Derived.Test.YtkgeihambgbjdaaDoorKP
namespace Go.Proofs.YtkgeihambgbjdaaDoor.Mi
open Go Go.RowKit Go.Proofs.YtkgeihambgbjdaaDoor Go.Proofs.YtkgeihambgbjdaaDoor.Cb Go.Proofs.YtkgeihambgbjdaaDoor.Sb
open Go.Proofs.YtkgeihambgbjdaaDoor.Nf (zvs zvs_snoc drew_below info_int6 hnext)
open Go.Proofs.YtkgeihambgbjdaaDoor.Dg (Tabs tb tb_mem CanI)
set_option linter.unusedVariables false
set_option linter.unusedSimpArgs false
set_option linter.unusedSectionVars false
set_option maxRecDepth 100000
theorem clsD_big2 {d : Da} (hO : OkD d) {k m : Nat} (hk : d.nx.length ≤ k + 1) (hm : d.nx.length ≤ m + 1) : clsD d k = clsD d m :=
  clsD_same hO fun s t hs ht => (te_full hO hs ht hk).trans (te_full hO hs ht hm).symm
/-- An automaton of one's own. -/
structure OwM (B : Nat) (w : World) (d : Da) (A' B' : Option Addr) (a' b' : Nat) : Prop where
  nx : SetsO B w (.slice A' d.nx.length a') d.nx
  fi : w.ownsRow B 4 1 (.slice B' d.fi.length b') d.fi.length (d.fi.map Value.bool)
theorem OwM.below {B : Nat} {w Y : World} {d : Da} {A' B' : Option Addr} {a' b' : Nat} (h : OwM B w d A' B' a' b') (hb : Below w.heap.size w Y) : OwM B Y d A' B' a' b' := ⟨h.nx.below hb, h.fi.below hb⟩
theorem OwM.low {B B2 : Nat} {w : World} {d : Da} {A' B' : Option Addr} {a' b' : Nat} (h : OwM B w d A' B' a' b') (hb : B2 ≤ B) : OwM B2 w d A' B' a' b' := ⟨h.nx.low hb, ownsRow_mono h.fi hb⟩
theorem OwM.at_ {B : Nat} {w : World} {d : Da} {A' B' : Option Addr} {a' b' : Nat} (h : OwM B w d A' B' a' b') : DaAt w d A' B' := ⟨h.nx.tabs rfl, bools_own h.fi rfl⟩
def zeroM : Da := ⟨0, 0, [], []⟩
theorem OwM.zero (B : Nat) (w : World) : OwM B w zeroM none none 0 0 := ⟨SetsO.nil _ _, ⟨rfl, .inl ⟨rfl, rfl⟩⟩⟩
theorem over_owm (K : World → Prop) (B : Nat) (d : Da) (A' B' : Option Addr) (a' b' : Nat) (w : World) (h : OwM B w d A' B' a' b') (hl : DaLen d) (hB : B ≤ w.heap.size) (h0 : K w) (hKb : ∀ X Y, Below X.heap.size X Y → K X → K Y) (hK : ∀ X (p : Addr) v, K X → K (X.setCell p v)) :
    Calls Tryd.prog 22 #[.agg #[.int .i64 d.V, .int .i64 d.q0, .slice A' d.nx.length a', .slice B' d.fi.length b']] w fun e w' => e = .returned (.tuple #[]) ∧ Below B w w' ∧ K w' :=
  OverDFA_keep K (TyB w 3) B d.V d.q0 A' B' d.nx.length d.fi.length a' b' w hl.nx hl.fi hB (h.nx.can rfl hl.row) (CanT.own h.fi) (fun a e hm => by
    subst e
    exact (TyB.of_own h.fi rfl).other (by decide)) (fun b ⟨_, _, hb⟩ => blk_lt hb) h0 hKb (fun X p v hp hX => hK X p v hX) (fun X ad j v e _ hX => hK X _ v hX)
theorem canI_blk {w : World} {B g : Nat} {l : List Int} {t : TypeId} (h : w.heap[g]? = some (.cells (zvs l).toArray t (0, 0))) (hB : B ≤ g) : CanI B w (some ⟨g, 0, none⟩) l.length := fun j hj => by
  refine ⟨⟨g, 0, none⟩, rfl, hB, ?_, .int .i64 (nd l j), ?_⟩
  · rw [Ap.addr_add]; simp [World.frozen?, h]
  · have := (ints_blk (t := t) (fz := (0, 0)) h) j hj
    obtain ⟨ad, e, _, h2⟩ := this
    cases e
    exact h2
/-- What the three functions and the reference give on d. -/
def MinP (d : Da) (m : Da) (w : World) (e : Ending) (w' : World) : Prop := ∃ A' a' B' b', e = .returned (.tuple #[.agg #[.int .i64 m.V, .int .i64 m.q0, .slice A' m.nx.length a', .slice B' m.fi.length b'], .int .i64 (chkD d)]) ∧ OwM w.heap.size w' m A' B' a' b' ∧ Below w.heap.size w w'
def MinQ (d : Da) (m : Da) (w : World) (e : Ending) (w' : World) : Prop := ∃ A' a' B' b', e = .returned (.tuple #[.agg #[.int .i64 m.V, .int .i64 m.q0, .slice A' m.nx.length a', .slice B' m.fi.length b'], .int .i64 (chkD d)]) ∧ DaAt w' m A' B' ∧ Below w.heap.size w w'
def ClsP (d : Da) (cl : List Int) (w : World) (e : Ending) (w' : World) : Prop := ∃ A' c', e = .returned (.tuple #[.slice A' cl.length c', .int .i64 (chkD d)]) ∧ Ints w' A' cl ∧ CanI w.heap.size w' A' cl.length ∧ Below w.heap.size w w'
def ClsQ (d : Da) (cl : List Int) (w : World) (e : Ending) (w' : World) : Prop := ∃ A' c', e = .returned (.tuple #[.slice A' cl.length c', .int .i64 (chkD d)]) ∧ Ints w' A' cl ∧ Below w.heap.size w w'
theorem mat_res (d : Da) (hl : DaLen d) (hn : d.nx.length ≤ 40) (k : Int) (hk : -9223372036854775808 ≤ k ∧ k ≤ 9223372036854775807) : ∃ (m : Da) (cl rl : List Int), DaLen m ∧ cl.length ≤ 100 ∧ rl.length ≤ 100 ∧ ∀ A B a b w, DaAt w d A B → Tabs2 w →
    Calls Tryd.prog 14 #[.agg #[.int .i64 d.V, .int .i64 d.q0, .slice A d.nx.length a, .slice B d.fi.length b]] w (MinQ d m w) ∧
    Calls Tryd.prog 15 #[.agg #[.int .i64 d.V, .int .i64 d.q0, .slice A d.nx.length a, .slice B d.fi.length b]] w (ClsQ d cl w) ∧
    Calls Tryd.prog 16 #[.agg #[.int .i64 d.V, .int .i64 d.q0, .slice A d.nx.length a, .slice B d.fi.length b], .int .i64 k] w (ClsQ d rl w) ∧
    Calls Tryd.prog 17 #[.agg #[.int .i64 d.V, .int .i64 d.q0, .slice A d.nx.length a, .slice B d.fi.length b]] w (MinP d m w) ∧
    Calls Tryd.prog 18 #[.agg #[.int .i64 d.V, .int .i64 d.q0, .slice A d.nx.length a, .slice B d.fi.length b]] w (ClsP d cl w) ∧
    Calls Tryd.prog 19 #[.agg #[.int .i64 d.V, .int .i64 d.q0, .slice A d.nx.length a, .slice B d.fi.length b], .int .i64 k] w (ClsP d rl w) := by
  by_cases h0 : chkD d = 0
  · have hO := okD_of h0
    obtain ⟨F, hF, hFp⟩ := ren_some hO
    have hm := min_ok hO hF hFp
    have hc1 : (clsD d d.nx.length).length = d.nx.length := clsD_len hO _
    have hc2 : (clsD d k.toNat).length = d.nx.length := clsD_len hO _
    have hmn : clsD d (min k.toNat d.nx.length) = clsD d k.toNat := by
      by_cases h : k.toNat ≤ d.nx.length
      · rw [Nat.min_eq_left h]
      · exact clsD_big2 hO (by omega) (by omega)
    refine ⟨minR (renD d F), clsD d d.nx.length, clsD d k.toNat, hm.len, by omega, by omega, fun A B a b w hx hT => ⟨?_, ?_, ?_, ?_, ?_, ?_⟩⟩
    · refine (refMinimize_good d A B a b w hx h0 (by omega) F hF hFp).mono fun e w' h => ?_
      unfold MinQ; rw [h0]; exact h
    · refine refClasses_any d A B a b w _ hx (by omega) ((refRounds_good d A B a b _ (hx.below (bal (Below.refl _ _) _)) h0 (by omega) (d.nx.length : Int) (by omega) (by omega) (clsD d d.nx.length) (by rw [Int.toNat_natCast, Nat.min_self])).mono fun e w' ⟨A', c', h1, h2, h3⟩ => ⟨⟨_, _, h1⟩, A', c', ?_, h2, stepB (bal (Below.refl _ _) _) h3⟩)
      rw [h1, hc1, h0]
    · refine (refRounds_good d A B a b w hx h0 (by omega) k hk.1 hk.2 (clsD d k.toNat) hmn.symm).mono fun e w' ⟨A', c', h1, h2, h3⟩ => ⟨A', c', ?_, h2, h3⟩
      rw [h1, hc2, h0]
    · refine (min_good d A B a b w hx hT h0 (by omega) F hF hFp rfl).mono fun e w' ⟨A', a', B', b', h1, h2, h3, h4, h5⟩ => ⟨A', a', B', b', ?_, ⟨h4.sets hm.len.row, h5⟩, h3⟩
      rw [h1, h0]; rfl
    · refine (Classes_good d A B a b w hx hT.tz h0 (by omega) (srt_all _)).mono fun e w' ⟨g, h1, h2, h3, h4⟩ => ⟨_, d.nx.length, ?_, ints_blk h3, canI_blk h3 h2, h4⟩
      rw [h1, hc1, h0]
    · refine (Rounds_good d A B a b w hx hT.tz h0 (by omega) (srt_all _) k hk.2).mono fun e w' ⟨g, h1, h2, h3, h4⟩ => ⟨_, d.nx.length, ?_, ints_blk h3, canI_blk h3 h2, h4⟩
      rw [h1, hc2, h0]
  · refine ⟨zeroM, [], [], ⟨by decide, by decide, fun r hr => (by cases hr)⟩, by decide, by decide, fun A B a b w hx hT => ⟨?_, ?_, ?_, ?_, ?_, ?_⟩⟩
    · exact (refMinimize_bad d A B a b w hx hl (by omega) h0).mono fun e w' ⟨h1, h2⟩ => ⟨none, 0, none, 0, h1, (OwM.zero 0 w').at_, h2⟩
    · exact refClasses_any d A B a b w _ hx (by omega) ((refRounds_bad d A B a b _ (hx.below (bal (Below.refl _ _) _)) hl _ h0).mono fun e w' ⟨h1, h2⟩ => ⟨⟨_, _, h1⟩, none, 0, h1, (fun j hj => absurd hj (Nat.not_lt_zero _)), stepB (bal (Below.refl _ _) _) h2⟩)
    · exact (refRounds_bad d A B a b w hx hl k h0).mono fun e w' ⟨h1, h2⟩ => ⟨none, 0, h1, (fun j hj => absurd hj (Nat.not_lt_zero _)), h2⟩
    · exact (Minimize_bad d A B a b w hx hl h0).mono fun e w' ⟨h1, h2⟩ => ⟨none, 0, none, 0, h1, OwM.zero _ _, h2⟩
    · exact (Classes_bad d A B a b w hx hl h0).mono fun e w' ⟨h1, h2⟩ => ⟨none, 0, h1, (fun j hj => absurd hj (Nat.not_lt_zero _)), (fun j hj => absurd hj (Nat.not_lt_zero _)), h2⟩
    · exact (Rounds_bad d A B a b w hx hl h0 k).mono fun e w' ⟨h1, h2⟩ => ⟨none, 0, h1, (fun j hj => absurd hj (Nat.not_lt_zero _)), (fun j hj => absurd hj (Nat.not_lt_zero _)), h2⟩
theorem canI_low {B B2 : Nat} {w : World} {A : Option Addr} {n : Nat} (h : CanI B w A n) (hb : B2 ≤ B) : CanI B2 w A n := fun j hj => by
  obtain ⟨ad, e, h1, h2⟩ := h j hj
  exact ⟨ad, e, Nat.le_trans hb h1, h2⟩
section
variable (d : Da) (A B : Option Addr) (a b : Nat) (k : Int) (w : World)
set_option maxHeartbeats 16000000 in
theorem minimalMatches_walk (hx : DaAt w d A B) (m1 : d.nx.length ≤ maxLen) (m2 : d.fi.length ≤ maxLen) (m3 : ∀ r ∈ d.nx, r.length ≤ maxLen) (hs : -9223372036854775808 ≤ k ∧ k ≤ 9223372036854775807) (hT : Tabs2 w) :
    Calls Tryd.prog 3 #[.agg #[.int .i64 d.V, .int .i64 d.q0, .slice A d.nx.length a, .slice B d.fi.length b], .int .i64 k] w fun e w' => e = .returned (.bool true) ∧ Below w.heap.size w w' := by
  have HAw := Lib.hid fun X (hX : Below w.heap.size w X) => awake_any8 X (hT.below hX)
  have HLo : Hid (∀ X (hX : Below w.heap.size w X) g, g = X.heap.size → Calls Tryd.prog 10 #[.slice (some ⟨g, 0, none⟩) 1 1] (X.alloc (.cells #[.int .i64 d.V, .int .i64 d.q0, .slice A d.nx.length a, .slice B d.fi.length b] 25)) fun e w' => e = .returned (.bool (longD d)) ∧ Below X.heap.size X w') := fun X hX g hg => by
    subst hg
    exact Long7_any d A B a b X (hx.below hX) m1 m2 m3
  have hB0 := Blk4.new w (.int .i64 d.V) (.int .i64 d.q0) (.slice A d.nx.length a) (.slice B d.fi.length b)
  have hb0 := bal (Below.refl w.heap.size w) (.cells #[.int .i64 d.V, .int .i64 d.q0, .slice A d.nx.length a, .slice B d.fi.length b] 25)
  by_cases hlong : longD d = true
  · rw [hlong] at HLo
    clear hlong hx m1 m2 m3
    obtain ⟨z0, z1, z2, z3⟩ := hB0.cells
    go_enter Tryd.func3, Tryd.ntmps3
    go_wp2_with (first
      | (go_at_call 10; ((with_reducible refine (HLo.out _ hb0 _ (by simp)).mono ?_); rintro e w2 ⟨rfl, hb2⟩); replace hb0 := stepB hb0 hb2)
      | (go_at_call 12; ((with_reducible refine (HAw.out _ hb0).mono ?_); rintro e w3 ⟨rfl, hb3⟩)))
    go_ret
    exact ⟨rfl, stepB hb0 hb3⟩
  have hL : longD d = false := Bool.eq_false_iff.2 hlong
  have hlen := longD_len hL
  have h40 := (longD_no hL).1
  rw [hL] at HLo
  clear hlong hL m1 m2 m3
  have HCk := Lib.hid fun X (hX : Below w.heap.size w X) => refCheck7_any d A B a b X (hx.below hX) hlen
  by_cases hear : 12 < d.nx.length ∧ chkD d = 0
  · have hd1 : decide ((12 : Int) < (d.nx.length : Int)) = true := decide_eq_true (by omega)
    rw [hear.2] at HCk
    clear hx hlen
    have hd2 : decide (12 < d.nx.length) = true := decide_eq_true hear.1
    clear hear
    generalize d.nx.length = nn at *
    generalize d.fi.length = nf at *
    obtain ⟨z0, z1, z2, z3⟩ := hB0.cells
    go_enter Tryd.func3, Tryd.ntmps3
    go_wp2_with (first
      | (go_at_call 10; ((with_reducible refine (HLo.out _ hb0 _ (by simp)).mono ?_); rintro e w2 ⟨rfl, hb2⟩); replace hb0 := stepB hb0 hb2; replace hB0 := hB0.below hb2; clear z0 z1 z2 z3; obtain ⟨z0, z1, z2, z3⟩ := hB0.cells)
      | (go_at_call 11; ((with_reducible refine (HCk.out _ hb0).mono ?_); rintro e w3 ⟨rfl, hb3⟩); replace hb0 := stepB hb0 hb3; clear z0 z1 z2 z3)
      | (go_at_call 12; ((with_reducible refine (HAw.out _ hb0).mono ?_); rintro e w4 ⟨rfl, hb4⟩)))
    go_ret
    exact ⟨rfl, stepB hb0 hb4⟩
  obtain ⟨m, cl, rl, hml, hcl, hrl, hR⟩ := mat_res d hlen h40 k hs
  have HCp := Lib.hid fun X (hX : Below w.heap.size w X) => CopyDFA_any d A B a b X (hx.below hX) hlen
  have HMr := Lib.hid fun X (hX : Below w.heap.size w X) => (hR A B a b X (hx.below hX) (hT.below hX)).1
  have HCr := Lib.hid fun X (hX : Below w.heap.size w X) => (hR A B a b X (hx.below hX) (hT.below hX)).2.1
  have HRr := Lib.hid fun X (hX : Below w.heap.size w X) => (hR A B a b X (hx.below hX) (hT.below hX)).2.2.1
  have HMm := Lib.hid fun X (hX : Below w.heap.size w X) Ai Bi ai bi (hi : DaAt X d Ai Bi) => (hR Ai Bi ai bi X hi (hT.below hX)).2.2.2.1
  have HCm := Lib.hid fun X (hX : Below w.heap.size w X) Ai Bi ai bi (hi : DaAt X d Ai Bi) => (hR Ai Bi ai bi X hi (hT.below hX)).2.2.2.2.1
  have HRm := Lib.hid fun X (hX : Below w.heap.size w X) Ai Bi ai bi (hi : DaAt X d Ai Bi) => (hR Ai Bi ai bi X hi (hT.below hX)).2.2.2.2.2
  have HEr := Lib.hid fun X A1 B1 A2 B2 a1 b1 a2 b2 (h1 : DaAt X m A1 B1) (h2 : DaAt X m A2 B2) => EqualDFA_same m A1 B1 A2 B2 a1 b1 a2 b2 X h1 h2 hml
  have HEd := Lib.hid fun X (hX : Below w.heap.size w X) A1 B1 a1 b1 (h1 : DaAt X d A1 B1) => EqualDFA_same d A1 B1 A B a1 b1 a b X h1 (hx.below hX) hlen
  have HEc : Hid (∀ X (P Q : Option Addr) c c', Ints X P cl → Ints X Q cl → Calls Tryd.prog 21 #[.slice P cl.length c, .slice Q cl.length c'] X fun e w' => e = .returned (.bool true) ∧ Below X.heap.size X w') := fun X P Q c c' h1 h2 => by
    have h := Dg.EqualInts_any P Q cl cl c c' X h1 h2 (by unfold maxLen; omega)
    rwa [decide_eq_true rfl] at h
  have HEl : Hid (∀ X (P Q : Option Addr) c c', Ints X P rl → Ints X Q rl → Calls Tryd.prog 21 #[.slice P rl.length c, .slice Q rl.length c'] X fun e w' => e = .returned (.bool true) ∧ Below X.heap.size X w') := fun X P Q c c' h1 h2 => by
    have h := Dg.EqualInts_any P Q rl rl c c' X h1 h2 (by unfold maxLen; omega)
    rwa [decide_eq_true rfl] at h
  have HOd := Lib.hid fun (Bs : Nat) X A1 B1 a1 b1 (h : OwM Bs X m A1 B1 a1 b1) (hB : Bs ≤ X.heap.size) A2 A3 (h2 : CanI Bs X A2 cl.length) (h3 : CanI Bs X A3 rl.length) => over_owm (fun Y => CanI Bs Y A2 cl.length ∧ CanI Bs Y A3 rl.length) Bs m A1 B1 a1 b1 X h hml hB ⟨h2, h3⟩ (fun X Y hb h => ⟨canI_below h.1 hb, canI_below h.2 hb⟩) (fun Y p v h => ⟨h.1.set p v, h.2.set p v⟩)
  have HOc := Lib.hid fun (Bs : Nat) X A2 c2 A3 (h2 : CanI Bs X A2 cl.length) (h3 : CanI Bs X A3 rl.length) => OverInts_keep (fun Y => CanI Bs Y A3 rl.length) Bs A2 cl.length c2 X (by omega) h2 h3 (fun Y ad j v _ _ h => h.set _ v)
  have HOl := Lib.hid fun (Bs : Nat) X A3 c3 (h3 : CanI Bs X A3 rl.length) => OverInts_keep (fun _ => True) Bs A3 rl.length c3 X (by omega) h3 trivial (fun _ _ _ _ _ _ _ => trivial)
  have hee : (chkD d != chkD d) = false := by simp
  obtain ⟨P1, hP1⟩ : ∃ P, P = decide ((12 : Int) < (d.nx.length : Int)) := ⟨_, rfl⟩
  have hP2 : decide (12 < d.nx.length) = P1 := by rw [hP1]; exact decide_eq_decide.2 (by omega)
  have hP3 : P1 = true → (chkD d == 0) = false := fun h => by
    rw [beq_eq_false_iff_ne]
    intro h2
    exact hear ⟨by have := of_decide_eq_true (hP1 ▸ h); omega, h2⟩
  have hP1s := hP1.symm
  clear hx hlen hR hear hP1 hml hT
  generalize d.nx.length = nn at *
  generalize d.fi.length = nf at *
  obtain ⟨z0, z1, z2, z3⟩ := hB0.cells
  cases P1
  all_goals
    try replace hP3 := hP3 rfl
    go_enter Tryd.func3, Tryd.ntmps3
    go_upto_region 7 with (first
      | (go_at_call 10; ((with_reducible refine (HLo.out _ hb0 _ (by simp)).mono ?_); rintro e w2 ⟨rfl, hb2⟩); replace hb0 := stepB hb0 hb2; replace hB0 := hB0.below hb2; clear HLo; clear z0 z1 z2 z3; obtain ⟨z0, z1, z2, z3⟩ := hB0.cells)
      | (go_at_call 11; ((with_reducible refine (HCk.out _ hb0).mono ?_); rintro e w2' ⟨rfl, hb2'⟩); replace hb0 := stepB hb0 hb2'; replace hB0 := hB0.below hb2'; clear z0 z1 z2 z3; obtain ⟨z0, z1, z2, z3⟩ := hB0.cells)
      | (go_at_call 13; ((with_reducible refine (HCp.out _ hb0).mono ?_); rintro e w3 ⟨A3, B3, a3, b3, rfl, hin, hb3⟩); clear HCp;
          have K3 := bal (Below.refl w3.heap.size w3) (.cells #[.int .i64 d.V, .int .i64 d.q0, .slice A3 nn a3, .slice B3 nf b3] 25);
          have hB3 := Blk4.new w3 (.int .i64 d.V) (.int .i64 d.q0) (.slice A3 nn a3) (.slice B3 nf b3);
          replace hb0 := stepB (stepB hb0 hb3) K3; replace hB0 := (hB0.below hb3).below K3; replace hin := hin.below K3; clear z0 z1 z2 z3; obtain ⟨z0, z1, z2, z3⟩ := hB0.cells)
      | (go_at_call 14; ((with_reducible refine (HMr.out _ hb0).mono ?_); rintro e w4 ⟨A4, a4, B4, b4, rfl, hwa, hb4⟩); clear HMr;
          have K4 := bal (Below.refl w4.heap.size w4) (.cells #[.int .i64 m.V, .int .i64 m.q0, .slice A4 m.nx.length a4, .slice B4 m.fi.length b4] 25);
          have hB4 := Blk4.new w4 (.int .i64 m.V) (.int .i64 m.q0) (.slice A4 m.nx.length a4) (.slice B4 m.fi.length b4);
          replace hb0 := stepB (stepB hb0 hb4) K4; replace hB0 := (hB0.below hb4).below K4; replace hB3 := (hB3.below hb4).below K4; replace hin := (hin.below hb4).below K4; replace hwa := hwa.below K4; clear z0 z1 z2 z3; obtain ⟨z0, z1, z2, z3⟩ := hB0.cells)
      | (go_at_call 15; ((with_reducible refine (HCr.out _ hb0).mono ?_); rintro e w5 ⟨A5, c5, rfl, hi5, hb5⟩); clear HCr;
          replace hb0 := stepB hb0 hb5; replace hB0 := hB0.below hb5; replace hB3 := hB3.below hb5; replace hB4 := hB4.below hb5; replace hin := hin.below hb5; replace hwa := hwa.below hb5; clear z0 z1 z2 z3; obtain ⟨z0, z1, z2, z3⟩ := hB0.cells)
      | (go_at_call 16; ((with_reducible refine (HRr.out _ hb0).mono ?_); rintro e wb ⟨A6, c6, rfl, hi6, hb6⟩); clear HRr;
          replace hb0 := stepB hb0 hb6; replace hB0 := hB0.below hb6; replace hB3 := hB3.below hb6; replace hB4 := hB4.below hb6; replace hin := hin.below hb6; replace hwa := hwa.below hb6; replace hi5 := Vals.below hi5 hb6; clear z0 z1 z2 z3))
    generalize w4.heap.size = g4 at *
    generalize w3.heap.size = g3 at *
    have HBk : Hid (∀ X, Below wb.heap.size wb X → Blk4 X w.heap.size (.int .i64 d.V) (.int .i64 d.q0) (.slice A nn a) (.slice B nf b) ∧ Blk4 X g3 (.int .i64 d.V) (.int .i64 d.q0) (.slice A3 nn a3) (.slice B3 nf b3) ∧ Blk4 X g4 (.int .i64 m.V) (.int .i64 m.q0) (.slice A4 m.nx.length a4) (.slice B4 m.fi.length b4) ∧ DaAt X d A3 B3 ∧ DaAt X m A4 B4 ∧ Ints X A5 cl ∧ Ints X A6 rl ∧ Below w.heap.size w X) := fun X hX => ⟨hB0.below hX, hB3.below hX, hB4.below hX, hin.below hX, hwa.below hX, Vals.below hi5 hX, Vals.below hi6 hX, stepB hb0 hX⟩
    clear hB0 hB3 hB4 hin hwa hi5 hi6 hb0 K3 K4 HCk
    go_wp2
    go_loopw [12] (fun i wr => ∃ k : Nat, k ≤ 2 ∧ i = .int .i64 k ∧ Hid (Below wb.heap.size wb wr)) (fun i _ => 2 - (intOf i).toNat)
    case atStart => exact ⟨0, by omega, rfl, Below.refl _ _⟩
    case round =>
      obtain ⟨r, hr, rfl, HY⟩ := hrel
      have hY := HY.out
      clear HY
      by_cases hk2 : r = 2
      · subst hk2
        have hb0 := (HBk.out _ hY).2.2.2.2.2.2.2
        clear hY
        go_wp2_with (go_at_call 12; ((with_reducible refine (HAw.out _ hb0).mono ?_); rintro e w30 ⟨rfl, hb30⟩))
        go_ret
        exact ⟨rfl, stepB hb0 hb30⟩
      · have hk3 : r < 2 := by omega
        have hk4 : decide ((r : Int) < 2) = true := decide_eq_true (by omega)
        obtain ⟨z0, z1, z2, z3⟩ := (HBk.out _ hY).2.1.cells
        go_wp2_with (first
          | (go_at_call 17; ((with_reducible refine (HMm.out _ (HBk.out _ hY).2.2.2.2.2.2.2 A3 B3 a3 b3 (HBk.out _ hY).2.2.2.1).mono ?_); rintro e w10 ⟨A10, a10, B10, b10, rfl, ho10, hb10⟩); clear z0 z1 z2 z3; replace ho10 := OwM.low ho10 hY.size;
              have K10 := bal (Below.refl w10.heap.size w10) (.cells #[.int .i64 m.V, .int .i64 m.q0, .slice A10 m.nx.length a10, .slice B10 m.fi.length b10] 25);
              have hG := Blk4.new w10 (.int .i64 m.V) (.int .i64 m.q0) (.slice A10 m.nx.length a10) (.slice B10 m.fi.length b10);
              replace ho10 := OwM.below ho10 K10; replace hY := stepB hY (stepB hb10 K10); clear hb10 K10; obtain ⟨z0, z1, z2, z3⟩ := (HBk.out _ hY).2.1.cells)
          | (go_at_call 18; ((with_reducible refine (HCm.out _ (HBk.out _ hY).2.2.2.2.2.2.2 A3 B3 a3 b3 (HBk.out _ hY).2.2.2.1).mono ?_); rintro e w11 ⟨A11, c11, rfl, hi11, hn11, hb11⟩); clear z0 z1 z2 z3; replace hn11 := canI_low hn11 hY.size; replace hG := hG.below hb11; replace ho10 := OwM.below ho10 hb11; replace hY := stepB hY hb11; clear hb11; obtain ⟨z0, z1, z2, z3⟩ := (HBk.out _ hY).2.1.cells)
          | (go_at_call 19; ((with_reducible refine (HRm.out _ (HBk.out _ hY).2.2.2.2.2.2.2 A3 B3 a3 b3 (HBk.out _ hY).2.2.2.1).mono ?_); rintro e w12 ⟨A12, c12, rfl, hi12, hn12, hb12⟩); clear z0 z1 z2 z3; replace hn12 := canI_low hn12 hY.size; replace hG := hG.below hb12; replace ho10 := OwM.below ho10 hb12; replace hi11 : Ints _ A11 cl := Vals.below hi11 hb12; replace hn11 := canI_below hn11 hb12; replace hY := stepB hY hb12; clear hb12; obtain ⟨z0, z1, z2, z3⟩ := (HBk.out _ hY).2.1.cells; obtain ⟨y0, y1, y2, y3⟩ := (HBk.out _ hY).1.cells; obtain ⟨x0, x1, x2, x3⟩ := (HBk.out _ hY).2.2.1.cells; obtain ⟨v0, v1, v2, v3⟩ := hG.cells)
          | (go_at_call 20; ((with_reducible refine (HEr.out _ A10 B10 A4 B4 a10 b10 a4 b4 (OwM.at_ ho10) (HBk.out _ hY).2.2.2.2.1).mono ?_); rintro e w13 ⟨rfl, hb13⟩); clear z0 z1 z2 z3 y0 y1 y2 y3 x0 x1 x2 x3 v0 v1 v2 v3; replace hG := hG.below hb13; replace ho10 := OwM.below ho10 hb13; replace hi11 : Ints _ A11 cl := Vals.below hi11 hb13; replace hn11 := canI_below hn11 hb13; replace hi12 : Ints _ A12 rl := Vals.below hi12 hb13; replace hn12 := canI_below hn12 hb13; replace hY := stepB hY hb13; clear hb13; obtain ⟨z0, z1, z2, z3⟩ := (HBk.out _ hY).2.1.cells; obtain ⟨y0, y1, y2, y3⟩ := (HBk.out _ hY).1.cells; obtain ⟨x0, x1, x2, x3⟩ := (HBk.out _ hY).2.2.1.cells; obtain ⟨v0, v1, v2, v3⟩ := hG.cells)
          | (go_at_call 21; ((with_reducible refine (HEc.out _ _ _ _ _ hi11 (HBk.out _ hY).2.2.2.2.2.1).mono ?_); rintro e w14 ⟨rfl, hb14⟩); clear z0 z1 z2 z3 y0 y1 y2 y3 x0 x1 x2 x3 v0 v1 v2 v3; replace hG := hG.below hb14; replace ho10 := OwM.below ho10 hb14; clear hi11; replace hn11 := canI_below hn11 hb14; replace hi12 : Ints _ A12 rl := Vals.below hi12 hb14; replace hn12 := canI_below hn12 hb14; replace hY := stepB hY hb14; clear hb14; obtain ⟨z0, z1, z2, z3⟩ := (HBk.out _ hY).2.1.cells; obtain ⟨y0, y1, y2, y3⟩ := (HBk.out _ hY).1.cells; obtain ⟨x0, x1, x2, x3⟩ := (HBk.out _ hY).2.2.1.cells; obtain ⟨v0, v1, v2, v3⟩ := hG.cells)
          | (go_at_call 21; ((with_reducible refine (HEl.out _ _ _ _ _ hi12 (HBk.out _ hY).2.2.2.2.2.2.1).mono ?_); rintro e w15 ⟨rfl, hb15⟩); clear z0 z1 z2 z3 y0 y1 y2 y3 x0 x1 x2 x3 v0 v1 v2 v3; replace hG := hG.below hb15; replace ho10 := OwM.below ho10 hb15; clear hi12; replace hn11 := canI_below hn11 hb15; replace hn12 := canI_below hn12 hb15; replace hY := stepB hY hb15; clear hb15; obtain ⟨z0, z1, z2, z3⟩ := (HBk.out _ hY).2.1.cells; obtain ⟨y0, y1, y2, y3⟩ := (HBk.out _ hY).1.cells; obtain ⟨x0, x1, x2, x3⟩ := (HBk.out _ hY).2.2.1.cells; obtain ⟨v0, v1, v2, v3⟩ := hG.cells)
          | (go_at_call 20; ((with_reducible refine (HEd.out _ (HBk.out _ hY).2.2.2.2.2.2.2 A3 B3 a3 b3 (HBk.out _ hY).2.2.2.1).mono ?_); rintro e w16 ⟨rfl, hb16⟩); clear z0 z1 z2 z3 y0 y1 y2 y3 x0 x1 x2 x3 v0 v1 v2 v3; replace hG := hG.below hb16; replace ho10 := OwM.below ho10 hb16; replace hn11 := canI_below hn11 hb16; replace hn12 := canI_below hn12 hb16; replace hY := stepB hY hb16; clear hb16; obtain ⟨v0, v1, v2, v3⟩ := hG.cells)
          | (go_at_call 22; ((with_reducible refine (HOd.out wb.heap.size _ A10 B10 a10 b10 ho10 hY.size _ _ hn11 hn12).mono ?_); rintro e w17 ⟨rfl, hb17, hc17, hd17⟩); clear v0 v1 v2 v3 hG ho10 hn11 hn12; replace hY := hY.trans hb17)
          | (go_at_call 23; ((with_reducible refine (HOc.out wb.heap.size _ A11 _ A12 hc17 hd17).mono ?_); rintro e w18 ⟨rfl, hb18, hd18, _⟩); clear hc17 hd17; replace hY := hY.trans hb18)
          | (go_at_call 23; ((with_reducible refine (HOl.out wb.heap.size _ A12 _ hd18).mono ?_); rintro e w19 ⟨rfl, hb19, _, _⟩); clear hd18; replace hY := hY.trans hb19))
        go_roundw
        case rel => exact ⟨r + 1, by omega, by go_num, hY⟩
        case measure => simp [intOf]; omega
end
end Go.Proofs.YtkgeihambgbjdaaDoor.Mi
