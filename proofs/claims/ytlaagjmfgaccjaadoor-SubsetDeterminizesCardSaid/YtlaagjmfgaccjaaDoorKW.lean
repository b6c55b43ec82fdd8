/- The walk of SubsetConverts. -/
import Derived.Test.YtlaagjmfgaccjaaDoorKU
import Derived.Test.YtlaagjmfgaccjaaDoorKV
namespace Go.Proofs.YtlaagjmfgaccjaaDoor.Sb
open Go Go.RowKit Go.Proofs.YtlaagjmfgaccjaaDoor Go.Proofs.YtlaagjmfgaccjaaDoor.Cb
open Go.Proofs.YtlaagjmfgaccjaaDoor.Nf (Na Ed ed NaAt NaLen Blk Blk.new Blk.below Blk.cells OwnN chkN zvs evs EqualNFA_same InJ EdsAt)
open Go.Proofs.YtlaagjmfgaccjaaDoor.Dg (Tabs tb tb_mem CanI)
set_option linter.unusedVariables false
set_option linter.unusedSimpArgs false
set_option maxRecDepth 100000
/-- An automaton of one's own. -/
structure OwnD (B : Nat) (w : World) (d : Da) (A' B' : Option Addr) (a' b' : Nat) : Prop where
  nx : SetsO B w (.slice A' d.nx.length a') d.nx
  fi : w.ownsRow B 4 1 (.slice B' d.fi.length b') d.fi.length (d.fi.map Value.bool)
theorem OwnD.below {B : Nat} {w Y : World} {d : Da} {A' B' : Option Addr} {a' b' : Nat} (h : OwnD B w d A' B' a' b') (hb : Below w.heap.size w Y) : OwnD B Y d A' B' a' b' := ⟨h.nx.below hb, h.fi.below hb⟩
theorem OwnD.low {B B2 : Nat} {w : World} {d : Da} {A' B' : Option Addr} {a' b' : Nat} (h : OwnD B w d A' B' a' b') (hb : B2 ≤ B) : OwnD B2 w d A' B' a' b' := ⟨h.nx.low hb, ownsRow_mono h.fi hb⟩
theorem OwnD.at_ {B : Nat} {w : World} {d : Da} {A' B' : Option Addr} {a' b' : Nat} (h : OwnD B w d A' B' a' b') : DaAt w d A' B' := ⟨h.nx.tabs rfl, bools_own h.fi rfl⟩
def zeroD : Da := ⟨0, 0, [], []⟩
def zeroN : Na := ⟨0, 0, [], [], []⟩
theorem OwnD.zero (B : Nat) (w : World) : OwnD B w zeroD none none 0 0 := ⟨SetsO.nil _ _, ⟨rfl, .inl ⟨rfl, rfl⟩⟩⟩
theorem OwnN.zero (B : Nat) (w : World) : OwnN B w zeroN none none none 0 0 0 := ⟨⟨rfl, .inl ⟨rfl, rfl⟩⟩, ⟨rfl, .inl ⟨rfl, rfl⟩⟩, ⟨rfl, .inl ⟨rfl, rfl⟩⟩⟩
theorem DaAt.zero (w : World) : DaAt w zeroD none none := (OwnD.zero 0 w).at_
theorem zeroN_at {B : Nat} {X : World} {A' B' C' : Option Addr} {a' b' c' : Nat} (h : OwnN B X zeroN A' B' C' a' b' c') : NaAt X zeroN A' B' C' :=
  h.at_ (by unfold zeroN InJ; decide) (by unfold zeroN InJ; decide) (fun x hx => by cases hx)
/-- Overwriting an automaton of one's own. -/
theorem over_own (K : World → Prop) (B : Nat) (d : Da) (A' B' : Option Addr) (a' b' : Nat) (w : World) (h : OwnD B w d A' B' a' b') (hl : DaLen d) (hB : B ≤ w.heap.size) (h0 : K w) (hKb : ∀ X Y, Below X.heap.size X Y → K X → K Y) (hK : ∀ X (p : Addr) v, (TyB w 3 p.block ∨ TyB w 4 p.block) → K X → K (X.setCell p v)) :
    Calls Tryd.prog 30 #[.agg #[.int .i64 d.V, .int .i64 d.q0, .slice A' d.nx.length a', .slice B' d.fi.length b']] w fun e w' => e = .returned (.tuple #[]) ∧ Below B w w' ∧ K w' :=
  OverDFA_keep K (TyB w 3) B d.V d.q0 A' B' d.nx.length d.fi.length a' b' w hl.nx hl.fi hB (h.nx.can rfl hl.row) (CanT.own h.fi) (fun a e hm => by
    subst e
    exact (TyB.of_own h.fi rfl).other (by decide)) (fun b ⟨_, _, hb⟩ => blk_lt hb) h0 hKb (fun X p v hp hX => hK X p v (.inl hp) hX) (fun X ad j v e _ hX => hK X _ v (.inr (by
    subst e
    rw [addr_block]
    exact TyB.of_own h.fi rfl)) hX)
/-- What Renumber returns, on any automaton. -/
theorem ren_res (d : Da) : ∃ rD : Da, DaLen rD ∧ ∀ (A B : Option Addr) (a b : Nat) (w : World), DaAt w d A B → DaLen d → Tabs2 w →
    (Calls Tryd.prog 27 #[.agg #[.int .i64 d.V, .int .i64 d.q0, .slice A d.nx.length a, .slice B d.fi.length b]] w fun e w' => ∃ A' a' B' b', e = .returned (.tuple #[.agg #[.int .i64 rD.V, .int .i64 rD.q0, .slice A' rD.nx.length a', .slice B' rD.fi.length b'], .int .i64 (chkD d)]) ∧ OwnD w.heap.size w' rD A' B' a' b' ∧ Below w.heap.size w w') ∧
    (Calls Tryd.prog 25 #[.agg #[.int .i64 d.V, .int .i64 d.q0, .slice A d.nx.length a, .slice B d.fi.length b]] w fun e w' => ∃ A' a' B' b', e = .returned (.tuple #[.agg #[.int .i64 rD.V, .int .i64 rD.q0, .slice A' rD.nx.length a', .slice B' rD.fi.length b'], .int .i64 (chkD d)]) ∧ DaAt w' rD A' B' ∧ Below w.heap.size w w') := by
  by_cases h0 : chkD d = 0
  · have hO := okD_of h0
    obtain ⟨F, hF, hFp⟩ := ren_some hO
    have hM := ren_ok hO hF hFp
    refine ⟨renD d F, hM.len, fun A B a b w hx hl hT => ⟨?_, ?_⟩⟩
    · rw [h0]
      refine (Renumber_good d A B a b w hx hT h0 F hF hFp).mono fun e w' ⟨rv, fv, h1, h2, h3⟩ => ?_
      have hrows : ∀ l ∈ nums (succT d) F F.length, l.length ≤ 1000000 := hM.len.row
      have hs := h2.nx.sets hrows
      have hnl : (nums (succT d) F F.length).length = F.length := nums_len _ _ _ (Nat.le_refl _)
      obtain ⟨A', a', e1, _⟩ := hs.form
      obtain ⟨B', b', e2, _⟩ := Ap.own_form h2.fi
      have hfi := h2.fi
      rw [show F.map (fiV d) = (F.map fun s => d.fi.getD s.toNat false).map Value.bool by rw [List.map_map]; rfl] at hfi
      subst e1 e2
      refine ⟨A', a', B', b', ?_, ⟨hs, ?_⟩, h3⟩
      · rw [h1]
        show _ = Ending.returned (Value.tuple #[Value.agg #[.int .i64 d.V, .int .i64 0, .slice A' (nums (succT d) F F.length).length a', .slice B' (F.map fun s => d.fi.getD s.toNat false).length b'], .int .i64 0])
        rw [List.length_map]
      · show w'.ownsRow w.heap.size 4 1 (.slice B' (F.map fun s => d.fi.getD s.toNat false).length b') (F.map fun s => d.fi.getD s.toNat false).length _
        rw [List.length_map]
        exact hfi
    · rw [h0]
      refine (refRenumber_good d A B a b w hx hl h0 F hF hFp).mono fun e w' ⟨A', a', B', b', h1, h2, h3⟩ => ⟨A', a', B', b', ?_, h2, h3⟩
      rw [ren_nx, ren_fi]
      exact h1
  · refine ⟨zeroD, ⟨by decide, by decide, fun r hr => by cases hr⟩, fun A B a b w hx hl hT => ⟨?_, ?_⟩⟩
    · exact (Renumber_bad d A B a b w hx hl h0).mono fun e w' ⟨h1, h2⟩ => ⟨none, 0, none, 0, h1, OwnD.zero _ _, h2⟩
    · exact (refRenumber_bad d A B a b w hx hl h0).mono fun e w' ⟨h1, h2⟩ => ⟨none, 0, none, 0, h1, DaAt.zero _, h2⟩
/-- What ToNFA returns, on any automaton. -/
theorem to_res (d : Da) : ∃ (rN : Na) (E : Int), NaLen rN ∧ ∀ (A B : Option Addr) (a b : Nat) (w : World), DaAt w d A B → DaLen d →
    (Calls Tryd.prog 28 #[.agg #[.int .i64 d.V, .int .i64 d.q0, .slice A d.nx.length a, .slice B d.fi.length b]] w fun e w' => ∃ A' B' C' a' b' c', e = .returned (.tuple #[.agg #[.int .i64 rN.V, .int .i64 rN.S, .slice A' rN.st.length a', .slice B' rN.fi.length b', .slice C' rN.es.length c'], .int .i64 E]) ∧ OwnN w.heap.size w' rN A' B' C' a' b' c' ∧ NaAt w' rN A' B' C' ∧ Below w.heap.size w w') ∧
    (Calls Tryd.prog 26 #[.agg #[.int .i64 d.V, .int .i64 d.q0, .slice A d.nx.length a, .slice B d.fi.length b]] w fun e w' => ∃ A' B' C' a' b' c', e = .returned (.tuple #[.agg #[.int .i64 rN.V, .int .i64 rN.S, .slice A' rN.st.length a', .slice B' rN.fi.length b', .slice C' rN.es.length c'], .int .i64 E]) ∧ NaAt w' rN A' B' C' ∧ Below w.heap.size w w') := by
  by_cases h0 : chkD d = 0
  · have hO := okD_of h0
    by_cases hbig : 64 < d.nx.length ∨ 512 < d.nx.length * 2 ^ d.V.toNat
    · refine ⟨zeroN, 4, ⟨by decide, by decide, by decide⟩, fun A B a b w hx hl => ⟨?_, ?_⟩⟩
      · exact (ToNFA_long d A B a b w hx hl h0 hbig).mono fun e w' ⟨h1, h2⟩ => ⟨none, none, none, 0, 0, 0, h1, OwnN.zero _ _, zeroN_at (OwnN.zero 0 _), h2⟩
      · exact (refToNFA_long d A B a b w hx hl h0 hbig).mono fun e w' ⟨h1, h2⟩ => ⟨none, none, none, 0, 0, 0, h1, zeroN_at (OwnN.zero 0 _), h2⟩
    · have h64 : d.nx.length ≤ 64 := by omega
      have h512 : d.nx.length * 2 ^ d.V.toNat ≤ 512 := by omega
      have hNl : NaLen (toN d) := ⟨by show 1 ≤ 1000000; decide, by have := finT_len d d.nx.length; have := hO.n4; show (finT d d.nx.length).length ≤ _; omega, by show (edsT d d.nx.length).length ≤ _; rw [edsT_len hO _ (Nat.le_refl _)]; omega⟩
      refine ⟨toN d, 0, hNl, fun A B a b w hx hl => ⟨?_, ?_⟩⟩
      · exact (ToNFA_good d A B a b w hx hl h0 h64 h512).mono fun e w' ⟨A', B', C', a', b', c', h1, h2, h3⟩ => ⟨A', B', C', a', b', c', h1, h2, toN_at hO h64 h512 h2, h3⟩
      · exact (refToNFA_good d A B a b w hx hl h0 h64 h512).mono fun e w' ⟨A', B', C', a', b', c', h1, h2, h3⟩ => ⟨A', B', C', a', b', c', h1, toN_at hO h64 h512 h2, h3⟩
  · refine ⟨zeroN, chkD d, ⟨by decide, by decide, by decide⟩, fun A B a b w hx hl => ⟨?_, ?_⟩⟩
    · exact (ToNFA_bad d A B a b w hx hl h0).mono fun e w' ⟨h1, h2⟩ => ⟨none, none, none, 0, 0, 0, h1, OwnN.zero _ _, zeroN_at (OwnN.zero 0 _), h2⟩
    · exact (refToNFA_bad d A B a b w hx hl h0).mono fun e w' ⟨h1, h2⟩ => ⟨none, none, none, 0, 0, 0, h1, zeroN_at (OwnN.zero 0 _), h2⟩
section
variable (d : Da) (A B : Option Addr) (a b : Nat) (w : World)
set_option maxHeartbeats 8000000 in
theorem subsetConverts_walk (hx : DaAt w d A B) (m1 : d.nx.length ≤ maxLen) (m2 : d.fi.length ≤ maxLen) (m3 : ∀ r ∈ d.nx, r.length ≤ maxLen) (hT : Tabs2 w) :
    Calls Tryd.prog 5 #[.agg #[.int .i64 d.V, .int .i64 d.q0, .slice A d.nx.length a, .slice B d.fi.length b]] w fun e w' => e = .returned (.bool true) ∧ Below w.heap.size w w' := by
  have HAw := Lib.hid fun X (hX : Below w.heap.size w X) => awake_any7 X (hT.below hX)
  have HLo : Hid (∀ X (hX : Below w.heap.size w X) g, g = X.heap.size → Calls Tryd.prog 22 #[.slice (some ⟨g, 0, none⟩) 1 1] (X.alloc (.cells #[.int .i64 d.V, .int .i64 d.q0, .slice A d.nx.length a, .slice B d.fi.length b] 54)) fun e w' => e = .returned (.bool (longD d)) ∧ Below X.heap.size X w') := fun X hX g hg => by
    subst hg
    exact Long7_any d A B a b X (hx.below hX) m1 m2 m3
  have hB0 := Blk4.new w (.int .i64 d.V) (.int .i64 d.q0) (.slice A d.nx.length a) (.slice B d.fi.length b)
  have hb0 := bal (Below.refl w.heap.size w) (.cells #[.int .i64 d.V, .int .i64 d.q0, .slice A d.nx.length a, .slice B d.fi.length b] 54)
  cases hL : longD d with
  | true =>
    rw [hL] at HLo
    clear hx m1 m2 m3
    obtain ⟨z0, z1, z2, z3⟩ := hB0.cells
    go_enter Tryd.func5, Tryd.ntmps5
    go_wp2_with (first
      | (go_at_call 22; ((with_reducible refine (HLo.out _ hb0 _ (by simp)).mono ?_); rintro e w2 ⟨rfl, hb2⟩); replace hb0 := stepB hb0 hb2)
      | (go_at_call 23; ((with_reducible refine (HAw.out _ hb0).mono ?_); rintro e w3 ⟨rfl, hb3⟩)))
    go_ret
    exact ⟨rfl, stepB hb0 hb3⟩
  | false =>
    rw [hL] at HLo
    have hlen := longD_len hL
    obtain ⟨rD, hrl, hR⟩ := ren_res d
    obtain ⟨rN, E, hnl, hN⟩ := to_res d
    have HCp := Lib.hid fun X (hX : Below w.heap.size w X) => CopyDFA_any d A B a b X (hx.below hX) hlen
    have HRr := Lib.hid fun X (hX : Below w.heap.size w X) => (hR A B a b X (hx.below hX) hlen (hT.below hX)).2
    have HNr := Lib.hid fun X (hX : Below w.heap.size w X) => (hN A B a b X (hx.below hX) hlen).2
    have HRm := Lib.hid fun X (hX : Below w.heap.size w X) Ai Bi ai bi (hi : DaAt X d Ai Bi) => (hR Ai Bi ai bi X hi hlen (hT.below hX)).1
    have HNm := Lib.hid fun X Ai Bi ai bi (hi : DaAt X d Ai Bi) => (hN Ai Bi ai bi X hi hlen).1
    have HEr := Lib.hid fun X A1 B1 A2 B2 a1 b1 a2 b2 (h1 : DaAt X rD A1 B1) (h2 : DaAt X rD A2 B2) => EqualDFA_same rD A1 B1 A2 B2 a1 b1 a2 b2 X h1 h2 hrl
    have HEn := Lib.hid fun X A1 B1 C1 A2 B2 C2 a1 b1 c1 a2 b2 c2 (h1 : NaAt X rN A1 B1 C1) (h2 : NaAt X rN A2 B2 C2) => EqualNFA_same rN A1 B1 C1 A2 B2 C2 a1 b1 c1 a2 b2 c2 X h1 h2 hnl
    have HEd := Lib.hid fun X (hX : Below w.heap.size w X) A1 B1 a1 b1 (h1 : DaAt X d A1 B1) => EqualDFA_same d A1 B1 A B a1 b1 a b X h1 (hx.below hX) hlen
    have HOd := Lib.hid fun (Bs : Nat) X A1 B1 a1 b1 (h : OwnD Bs X rD A1 B1 a1 b1) (hB : Bs ≤ X.heap.size) g A2 B2 C2 a2 b2 c2 (h2 : CanN Bs X A2 B2 C2 rN.st.length rN.fi.length rN.es.length) (hG : Blk X g (.int .i64 rN.V) (.int .i64 rN.S) (.slice A2 rN.st.length a2) (.slice B2 rN.fi.length b2) (.slice C2 rN.es.length c2)) => over_own (fun Y => CanN Bs Y A2 B2 C2 rN.st.length rN.fi.length rN.es.length ∧ Blk Y g (.int .i64 rN.V) (.int .i64 rN.S) (.slice A2 rN.st.length a2) (.slice B2 rN.fi.length b2) (.slice C2 rN.es.length c2)) Bs rD A1 B1 a1 b1 X h hrl hB ⟨h2, hG⟩ (fun X Y hb h => ⟨h.1.below hb, Blk.below h.2 hb⟩) (fun Y p v hp h => ⟨h.1.set p v, (Below.heap_setCell _ _ _ _ (fun e => by
      rcases hp with hp | hp
      · exact TyB.other ⟨_, _, hG⟩ (t' := 3) (by decide) (by rw [e]; exact hp)
      · exact TyB.other ⟨_, _, hG⟩ (t' := 4) (by decide) (by rw [e]; exact hp))).trans h.2⟩)
    have HOn := Lib.hid fun (Bs : Nat) X A2 B2 C2 a2 b2 c2 (hB : Bs ≤ X.heap.size) (h2 : CanN Bs X A2 B2 C2 rN.st.length rN.fi.length rN.es.length) => OverNFA_keep (fun _ => True) Bs rN.V rN.S A2 B2 C2 rN.st.length rN.fi.length rN.es.length a2 b2 c2 X hnl.st hnl.fi hnl.es hB h2 trivial (fun _ _ _ _ => trivial) (fun _ _ _ _ => trivial)
    have HCan := Lib.hid fun (Bs : Nat) X A2 B2 C2 a2 b2 c2 (h : OwnN Bs X rN A2 B2 C2 a2 b2 c2) => CanN.own h
    have hee : (chkD d != chkD d) = false := by simp
    have hEE : (E != E) = false := by simp
    clear hx m1 m2 m3 hlen hR hN hT hL
    generalize chkD d = E7 at *
    generalize d.nx.length = nn at *
    generalize d.fi.length = nf at *
    generalize hrn : rD.nx.length = rn at *
    generalize hrf : rD.fi.length = rf at *
    generalize hm1 : rN.st.length = n1 at *
    generalize hm2 : rN.fi.length = n2 at *
    generalize hm3 : rN.es.length = n3 at *
    clear hrn hrf hm1 hm2 hm3 hrl hnl
    obtain ⟨z0, z1, z2, z3⟩ := hB0.cells
    go_enter Tryd.func5, Tryd.ntmps5
    go_upto_region 6 with (first
      | (go_at_call 22; ((with_reducible refine (HLo.out _ hb0 _ (by simp)).mono ?_); rintro e w2 ⟨rfl, hb2⟩); replace hb0 := stepB hb0 hb2; replace hB0 := hB0.below hb2; clear HLo; clear z0 z1 z2 z3; obtain ⟨z0, z1, z2, z3⟩ := hB0.cells)
      | (go_at_call 24; ((with_reducible refine (HCp.out _ hb0).mono ?_); rintro e w3 ⟨A3, B3, a3, b3, rfl, hin, hb3⟩); clear HCp;
          have K3 := bal (Below.refl w3.heap.size w3) (.cells #[.int .i64 d.V, .int .i64 d.q0, .slice A3 nn a3, .slice B3 nf b3] 54);
          have hB3 := Blk4.new w3 (.int .i64 d.V) (.int .i64 d.q0) (.slice A3 nn a3) (.slice B3 nf b3);
          replace hb0 := stepB (stepB hb0 hb3) K3; replace hB0 := (hB0.below hb3).below K3; replace hin := hin.below K3; clear z0 z1 z2 z3; obtain ⟨z0, z1, z2, z3⟩ := hB0.cells)
      | (go_at_call 25; ((with_reducible refine (HRr.out _ hb0).mono ?_); rintro e w4 ⟨A4, a4, B4, b4, rfl, hwa, hb4⟩); clear HRr;
          have K4 := bal (Below.refl w4.heap.size w4) (.cells #[.int .i64 rD.V, .int .i64 rD.q0, .slice A4 rn a4, .slice B4 rf b4] 54);
          have hB4 := Blk4.new w4 (.int .i64 rD.V) (.int .i64 rD.q0) (.slice A4 rn a4) (.slice B4 rf b4);
          replace hb0 := stepB (stepB hb0 hb4) K4; replace hB0 := (hB0.below hb4).below K4; replace hB3 := (hB3.below hb4).below K4; replace hin := (hin.below hb4).below K4; replace hwa := hwa.below K4; clear z0 z1 z2 z3; obtain ⟨z0, z1, z2, z3⟩ := hB0.cells)
      | (go_at_call 26; ((with_reducible refine (HNr.out _ hb0).mono ?_); rintro e w5 ⟨A5, B5, C5, a5, b5, c5, rfl, hma, hb5⟩); clear HNr;
          have K5 := bal (Below.refl w5.heap.size w5) (.cells #[.int .i64 rN.V, .int .i64 rN.S, .slice A5 n1 a5, .slice B5 n2 b5, .slice C5 n3 c5] 26);
          have hB5 := Blk.new w5 (.int .i64 rN.V) (.int .i64 rN.S) (.slice A5 n1 a5) (.slice B5 n2 b5) (.slice C5 n3 c5);
          replace hb0 := stepB (stepB hb0 hb5) K5; replace hB0 := (hB0.below hb5).below K5; replace hB3 := (hB3.below hb5).below K5; replace hB4 := (hB4.below hb5).below K5; replace hin := (hin.below hb5).below K5; replace hwa := (hwa.below hb5).below K5; replace hma := hma.below K5; clear z0 z1 z2 z3))
    generalize (w5.alloc (.cells #[.int .i64 rN.V, .int .i64 rN.S, .slice A5 n1 a5, .slice B5 n2 b5, .slice C5 n3 c5] 26)) = wb at *
    generalize w5.heap.size = g5 at *
    generalize w4.heap.size = g4 at *
    generalize w3.heap.size = g3 at *
    have HB := Lib.hid (And.intro hB0 (And.intro hB3 (And.intro hB4 (And.intro hB5 (And.intro hin (And.intro hwa (And.intro hma hb0)))))))
    clear hB0 hB3 hB4 hB5 hin hwa hma hb0 K3 K4 K5
    go_wp2
    go_loopw [8] (fun i wr => ∃ k : Nat, k ≤ 2 ∧ i = .int .i64 k ∧ Hid (Below wb.heap.size wb wr)) (fun i _ => 2 - (intOf i).toNat)
    case atStart => exact ⟨0, by omega, rfl, Below.refl _ _⟩
    case round =>
      obtain ⟨k, hk, rfl, HY⟩ := hrel
      have hY := HY.out
      obtain ⟨hB0, hB3, hB4, hB5, hin, hwa, hma, hb0⟩ := HB.out
      have hsz := hY.size
      replace hb0 := stepB hb0 hY
      replace hB0 := hB0.below hY
      replace hB3 := hB3.below hY
      replace hB4 := hB4.below hY
      replace hB5 := hB5.below hY
      replace hin := hin.below hY
      replace hwa := hwa.below hY
      replace hma := hma.below hY
      clear HY
      by_cases hk2 : k = 2
      · subst hk2
        clear hB0 hB3 hB4 hB5 hin hwa hma hY
        go_wp2_with (go_at_call 23; ((with_reducible refine (HAw.out _ hb0).mono ?_); rintro e w30 ⟨rfl, hb30⟩))
        go_ret
        exact ⟨rfl, stepB hb0 hb30⟩
      · have hk3 : k < 2 := by omega
        have hk4 : decide ((k : Int) < 2) = true := decide_eq_true (by omega)
        obtain ⟨z0, z1, z2, z3⟩ := hB3.cells
        obtain ⟨y0, y1, y2, y3⟩ := hB0.cells
        obtain ⟨x0, x1, x2, x3⟩ := hB4.cells
        obtain ⟨u0, u1, u2, u3, u4⟩ := hB5.cells
        go_wp2_with (first
          | (go_at_call 27; ((with_reducible refine (HRm.out _ hb0 A3 B3 a3 b3 hin).mono ?_); rintro e w10 ⟨A10, a10, B10, b10, rfl, ho10, hb10⟩); clear z0 z1 z2 z3 y0 y1 y2 y3 x0 x1 x2 x3 u0 u1 u2 u3 u4; replace ho10 := OwnD.low ho10 hY.size;
              have K10 := bal (Below.refl w10.heap.size w10) (.cells #[.int .i64 rD.V, .int .i64 rD.q0, .slice A10 rn a10, .slice B10 rf b10] 54);
              have hG := Blk4.new w10 (.int .i64 rD.V) (.int .i64 rD.q0) (.slice A10 rn a10) (.slice B10 rf b10);
              replace ho10 := OwnD.below ho10 K10; have hbq := stepB hb10 K10; replace hB0 := hB0.below hbq; replace hB3 := hB3.below hbq; replace hB4 := hB4.below hbq; replace hB5 := hB5.below hbq; replace hin := hin.below hbq; replace hwa := hwa.below hbq; replace hma := hma.below hbq; replace hb0 := stepB hb0 hbq; replace hY := stepB hY hbq; clear hbq; obtain ⟨z0, z1, z2, z3⟩ := hB3.cells)
          | (go_at_call 28; ((with_reducible refine (HNm.out _ A3 B3 a3 b3 hin).mono ?_); rintro e w11 ⟨A11, B11, C11, a11, b11, c11, rfl, ho11, hn11, hb11⟩); clear z0 z1 z2 z3; replace ho11 := OwnN.low ho11 hY.size;
              have K11 := bal (Below.refl w11.heap.size w11) (.cells #[.int .i64 rN.V, .int .i64 rN.S, .slice A11 n1 a11, .slice B11 n2 b11, .slice C11 n3 c11] 26);
              have hH := Blk.new w11 (.int .i64 rN.V) (.int .i64 rN.S) (.slice A11 n1 a11) (.slice B11 n2 b11) (.slice C11 n3 c11);
              replace ho11 := OwnN.below ho11 K11; replace hn11 := hn11.below K11; replace hG := (hG.below hb11).below K11; replace ho10 := OwnD.below (OwnD.below ho10 hb11) K11; have hbq := stepB hb11 K11; replace hB0 := hB0.below hbq; replace hB3 := hB3.below hbq; replace hB4 := hB4.below hbq; replace hB5 := hB5.below hbq; replace hin := hin.below hbq; replace hwa := hwa.below hbq; replace hma := hma.below hbq; replace hb0 := stepB hb0 hbq; replace hY := stepB hY hbq; clear hbq;
              obtain ⟨z0, z1, z2, z3⟩ := hB3.cells; obtain ⟨y0, y1, y2, y3⟩ := hB0.cells; obtain ⟨x0, x1, x2, x3⟩ := hB4.cells; obtain ⟨u0, u1, u2, u3, u4⟩ := hB5.cells; obtain ⟨v0, v1, v2, v3⟩ := hG.cells; obtain ⟨t0, t1, t2, t3, t4⟩ := hH.cells)
          | (go_at_call 29; ((with_reducible refine (HEr.out _ A10 B10 A4 B4 a10 b10 a4 b4 (OwnD.at_ ho10) hwa).mono ?_); rintro e w12 ⟨rfl, hb12⟩); clear HEr z0 z1 z2 z3 y0 y1 y2 y3 x0 x1 x2 x3 u0 u1 u2 u3 u4 v0 v1 v2 v3 t0 t1 t2 t3 t4; replace ho10 := OwnD.below ho10 hb12; replace ho11 := OwnN.below ho11 hb12; replace hn11 := hn11.below hb12; replace hG := hG.below hb12; replace hH := hH.below hb12; have hbq := hb12; replace hB0 := hB0.below hbq; replace hB3 := hB3.below hbq; replace hB4 := hB4.below hbq; replace hB5 := hB5.below hbq; replace hin := hin.below hbq; replace hwa := hwa.below hbq; replace hma := hma.below hbq; replace hb0 := stepB hb0 hbq; replace hY := stepB hY hbq; clear hbq;
              obtain ⟨z0, z1, z2, z3⟩ := hB3.cells; obtain ⟨y0, y1, y2, y3⟩ := hB0.cells; obtain ⟨u0, u1, u2, u3, u4⟩ := hB5.cells; obtain ⟨v0, v1, v2, v3⟩ := hG.cells; obtain ⟨t0, t1, t2, t3, t4⟩ := hH.cells)
          | (go_at_call 20; ((with_reducible refine (HEn.out _ A11 B11 C11 A5 B5 C5 a11 b11 c11 a5 b5 c5 hn11 hma).mono ?_); rintro e w13 ⟨rfl, hb13⟩); clear HEn z0 z1 z2 z3 y0 y1 y2 y3 u0 u1 u2 u3 u4 v0 v1 v2 v3 t0 t1 t2 t3 t4; replace ho10 := OwnD.below ho10 hb13; replace ho11 := OwnN.below ho11 hb13; replace hG := hG.below hb13; replace hH := hH.below hb13; have hbq := hb13; replace hB0 := hB0.below hbq; replace hB3 := hB3.below hbq; replace hB4 := hB4.below hbq; replace hB5 := hB5.below hbq; replace hin := hin.below hbq; replace hwa := hwa.below hbq; replace hma := hma.below hbq; replace hb0 := stepB hb0 hbq; replace hY := stepB hY hbq; clear hbq;
              obtain ⟨z0, z1, z2, z3⟩ := hB3.cells; obtain ⟨y0, y1, y2, y3⟩ := hB0.cells; obtain ⟨v0, v1, v2, v3⟩ := hG.cells; obtain ⟨t0, t1, t2, t3, t4⟩ := hH.cells)
          | (go_at_call 29; ((with_reducible refine (HEd.out _ hb0 A3 B3 a3 b3 hin).mono ?_); rintro e w14 ⟨rfl, hb14⟩); clear z0 z1 z2 z3 y0 y1 y2 y3 v0 v1 v2 v3 t0 t1 t2 t3 t4; replace ho10 := OwnD.below ho10 hb14; replace ho11 := OwnN.below ho11 hb14; replace hG := hG.below hb14; replace hH := hH.below hb14; have hbq := hb14; replace hB0 := hB0.below hbq; replace hB3 := hB3.below hbq; replace hB4 := hB4.below hbq; replace hB5 := hB5.below hbq; replace hin := hin.below hbq; replace hwa := hwa.below hbq; replace hma := hma.below hbq; replace hb0 := stepB hb0 hbq; replace hY := stepB hY hbq; clear hbq;
              obtain ⟨v0, v1, v2, v3⟩ := hG.cells; obtain ⟨t0, t1, t2, t3, t4⟩ := hH.cells)
          | (go_at_call 30; ((with_reducible refine (HOd.out wb.heap.size _ A10 B10 a10 b10 ho10 hY.size _ A11 B11 C11 a11 b11 c11 (HCan.out _ _ _ _ _ _ _ _ ho11) hH).mono ?_); rintro e w15 ⟨rfl, hb15, hc15, hH15⟩); clear v0 v1 v2 v3 t0 t1 t2 t3 t4 hB0 hB3 hB4 hB5 hin hwa hma hb0 ho10 ho11 hG hH; replace hY := hY.trans hb15; obtain ⟨t0, t1, t2, t3, t4⟩ := Blk.cells hH15)
          | (go_at_call 31; ((with_reducible refine (HOn.out wb.heap.size _ A11 B11 C11 a11 b11 c11 hY.size hc15).mono ?_); rintro e w16 ⟨rfl, hb16, _⟩); clear t0 t1 t2 t3 t4; replace hY := hY.trans hb16))
        go_roundw
        case rel => exact ⟨k + 1, by omega, by go_num, hY⟩
        case measure => simp [intOf]; omega
end
end Go.Proofs.YtlaagjmfgaccjaaDoor.Sb
