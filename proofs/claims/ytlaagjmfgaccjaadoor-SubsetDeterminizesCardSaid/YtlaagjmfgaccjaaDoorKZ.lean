/- The reference's Determinize. -/
import Derived.Test.YtlaagjmfgaccjaaDoorKY
namespace Go.Proofs.YtlaagjmfgaccjaaDoor.Sb
open Go Go.RowKit Go.Proofs.YtlaagjmfgaccjaaDoor Go.Proofs.YtlaagjmfgaccjaaDoor.Cb
open Go.Proofs.YtlaagjmfgaccjaaDoor.Nf (Na Ed ed NaAt NaLen Ok ok_of ok_chk chkN aftL refAfter_any refCheck6_any Blk Blk.new Blk.below Blk.cells zvs drew_below hnext info_int6)
open Go.Proofs.YtlaagjmfgaccjaaDoor.Dg (Tabs tb tb_mem)
set_option linter.unusedVariables false
set_option linter.unusedSimpArgs false
set_option maxRecDepth 100000
/-- Two rows do not share their block. -/
def Dj (v u : Value) : Prop := v.ownBlock = none ∨ v.ownBlock ≠ u.ownBlock
theorem Dj.flip {v u : Value} (h : Dj v u) : Dj u v := by
  unfold Dj at *
  cases hv : v.ownBlock with
  | none =>
    cases hu : u.ownBlock with
    | none => exact .inl rfl
    | some g => exact .inr (by simp)
  | some g =>
    right
    rcases h with h | h
    · rw [hv] at h; cases h
    · rw [hv] at h; exact fun e => h e.symm
/-- Inside the loop over the letters: the sets L in sv, the row R; wi is the world where the loop began. -/
structure SR (w wL wi : World) (sv0 : Value) (L : List (List Int)) (sv : Value) (R : List Int) (row : Value) (X : World) : Prop where
  s : ∃ Q : List (Value × List Int), Q.map (fun q => q.2) = L ∧ X.ownsRow wL.heap.size 23 1 sv L.length (Q.map fun q => q.1) ∧ ∀ q ∈ Q, X.ownsRow wL.heap.size 3 1 q.1 q.2.length (zvs q.2) ∧ Dj q.1 row
  r : X.ownsRow wi.heap.size 3 1 row R.length (zvs R)
  fr : wi.heap.size ≤ X.heap.size ∧ ∀ b, b < wi.heap.size → sv0.ownBlock ≠ some b → X.heap[b]? = wi.heap[b]?
  b : Below w.heap.size w X
  d : sv.ownBlock = sv0.ownBlock ∨ ∃ g, sv.ownBlock = some g ∧ wi.heap.size ≤ g
  lo : w.heap.size ≤ wL.heap.size ∧ wL.heap.size ≤ wi.heap.size
section
variable {w wL wi : World} {sv0 : Value} {L : List (List Int)} {sv : Value} {R : List Int} {row : Value} {X : World}
theorem SR.start (hs : SetsO wL.heap.size wi sv L) (hb : Below w.heap.size w wi) (h1 : w.heap.size ≤ wL.heap.size) (h2 : wL.heap.size ≤ wi.heap.size) : SR w wL wi sv L sv [] (.slice none 0 0) wi := by
  obtain ⟨Q, e, ho, hq⟩ := hs
  refine ⟨⟨Q, e, ho, fun q h => ⟨hq q h, ?_⟩⟩, ⟨rfl, .inl ⟨rfl, rfl⟩⟩, ⟨Nat.le_refl _, fun _ _ _ => rfl⟩, hb, .inl rfl, ⟨h1, h2⟩⟩
  exact Dj.flip (.inl rfl)
theorem SR.below (h : SR w wL wi sv0 L sv R row X) {Y : World} (hb : Below X.heap.size X Y) : SR w wL wi sv0 L sv R row Y := by
  obtain ⟨Q, e, ho, hq⟩ := h.s
  exact ⟨⟨Q, e, ho.below hb, fun q h1 => ⟨(hq q h1).1.below hb, (hq q h1).2⟩⟩, h.r.below hb, ⟨Nat.le_trans h.fr.1 hb.size, fun b h1 h2 => (hb.block b (by have := h.fr.1; omega)).trans (h.fr.2 b h1 h2)⟩, stepB h.b hb, h.d, h.lo⟩
theorem SR.sets (h : SR w wL wi sv0 L sv R row X) : SetsO wL.heap.size X sv L := by
  obtain ⟨Q, e, ho, hq⟩ := h.s
  exact ⟨Q, e, ho, fun q h1 => (hq q h1).1⟩
theorem SR.form (h : SR w wL wi sv0 L sv R row X) : ∃ A c, sv = .slice A L.length c := by
  obtain ⟨A, c, e, _⟩ := h.sets.form
  exact ⟨A, c, e⟩
theorem SR.more (h : SR w wL wi sv0 L sv R row X) {nv : Value} {l : List Int} (hn : X.ownsRow wi.heap.size 3 1 nv l.length (zvs l)) (hd : Dj nv row) :
    ∃ Q : List (Value × List Int), X.ownsRow wL.heap.size 23 1 sv L.length (Q.map fun q => q.1) ∧ ∀ (tmp : Obj) (Z : World) (sv' : Value), Z.ownsRow wL.heap.size 23 1 sv' (L.length + 1) ((Q.map fun q => q.1) ++ [nv]) → (X.alloc tmp).grownBy Z sv.ownBlock → (sv'.ownBlock = sv.ownBlock ∨ sv'.ownBlock = some (X.alloc tmp).heap.size) → SR w wL wi sv0 (L ++ [l]) sv' R row Z ∧ Z.ownsRow wi.heap.size 3 1 nv l.length (zvs l) := by
  obtain ⟨Q, e, hoQ, hq⟩ := h.s
  refine ⟨Q, hoQ, fun tmp Z sv' ho hg hob => ⟨?_, (hn.alloc tmp).kept hg (row_ne (hn.alloc tmp) (hoQ.alloc tmp) (by decide))⟩⟩
  have hX := hg.size
  have hlo := h.lo
  have hfr := h.fr
  simp at hX
  refine ⟨⟨Q ++ [(nv, l)], by rw [List.map_append, e]; rfl, ?_, fun q h1 => ?_⟩, (h.r.alloc tmp).kept hg (row_ne (h.r.alloc tmp) (hoQ.alloc tmp) (by decide)), ⟨by omega, fun b h1 h2 => ?_⟩, ?_, ?_, hlo⟩
  · rw [List.length_append, List.map_append]
    exact ho
  · rcases List.mem_append.1 h1 with h2 | h2
    · exact ⟨((hq q h2).1.alloc tmp).kept hg (row_ne ((hq q h2).1.alloc tmp) (hoQ.alloc tmp) (by decide)), (hq q h2).2⟩
    · rw [List.mem_singleton] at h2
      subst h2
      exact ⟨((ownsRow_mono hn hlo.2).alloc tmp).kept hg (row_ne (hn.alloc tmp) (hoQ.alloc tmp) (by decide)), hd⟩
  · refine ((hg.block b (by simp; omega) (fun e2 => ?_)).trans (Below.heap_alloc X tmp b (by omega))).trans (hfr.2 b h1 h2)
    rcases h.d with h3 | ⟨g, h3, h4⟩
    · exact h2 (h3 ▸ e2.symm)
    · rw [h3] at e2
      cases e2
      omega
  · exact (h.b.alloc (by omega) tmp).grown hg (by simp; omega) (fun q hq => by have := own_lt hoQ hq; omega)
  · rcases hob with h1 | h1
    · rw [h1]; exact h.d
    · right; exact ⟨_, h1, by simp; omega⟩
theorem SR.grow (h : SR w wL wi sv0 L sv R row X) {tmp : Obj} {Z : World} {row' : Value} {z : Int} (ho : Z.ownsRow wi.heap.size 3 1 row' (R.length + 1) (zvs R ++ [.int .i64 z])) (hg : (X.alloc tmp).grownBy Z row.ownBlock) (hob : row'.ownBlock = row.ownBlock ∨ row'.ownBlock = some (X.alloc tmp).heap.size) : SR w wL wi sv0 L sv (R ++ [z]) row' Z := by
  obtain ⟨Q, e, hoQ, hq⟩ := h.s
  have hX := hg.size
  have hlo := h.lo
  have hfr := h.fr
  simp at hX
  refine ⟨⟨Q, e, (hoQ.alloc tmp).kept hg (row_ne (hoQ.alloc tmp) (h.r.alloc tmp) (by decide)), fun q h1 => ⟨((hq q h1).1.alloc tmp).kept hg (hq q h1).2, ?_⟩⟩, ?_, ⟨by omega, fun b h1 h2 => ?_⟩, ?_, h.d, hlo⟩
  · rcases hob with h2 | h2
    · unfold Dj; rw [h2]; exact (hq q h1).2
    · unfold Dj
      rw [h2]
      cases hv : q.1.ownBlock with
      | none => exact .inl rfl
      | some g =>
        right
        have := own_lt (hq q h1).1 hv
        intro e2
        cases e2
        simp at this; omega
  · rw [List.length_append, zvs_snoc7]
    exact ho
  · exact ((hg.block b (by simp; omega) (fun e2 => by have := own_lt h.r e2.symm; omega)).trans (Below.heap_alloc X tmp b (by omega))).trans (hfr.2 b h1 h2)
  · exact (h.b.alloc (by omega) tmp).grown hg (by simp; omega) (fun q hq => by have := own_lt h.r hq; omega)
/-- The result so far is carried over. -/
theorem SR.move (h : SR w wL wi sv0 L sv R row X) {g3 : Nat} {V : Int} {rows : List (List Int)} {fs : List Bool} {rv : Value} {A3 : Option Addr} {c3 : Nat} (hm : RefL w wL g3 V rows fs rv A3 c3 wi) {n0 : Nat} {xs : List Value} (ho : wi.ownsRow wL.heap.size 23 1 sv0 n0 xs) (hd : Dj rv sv0) :
    RefL w wL g3 V rows fs rv A3 c3 X ∧ Dj rv sv := by
  have hfr := h.fr
  have hlo := h.lo
  have hK : ∀ {B e size n : Nat} {v : Value} {ys : List Value}, wi.ownsRow B e size v n ys → Dj v sv0 → X.ownsRow B e size v n ys := fun {B e size n v ys} hv hvd => own_eq hv fun g hg => hfr.2 g (own_lt hv hg).2 fun e2 => by
    rcases hvd with h1 | h1
    · rw [hg] at h1; cases h1
    · exact h1 (by rw [hg, e2])
  obtain ⟨Q, e, hoQ, hq⟩ := hm.r
  refine ⟨⟨(hfr.2 g3 (blk_lt hm.n) (own_ne hm.n ho (by decide))).trans hm.n, ⟨Q, e, hK hoQ hd, fun q h1 => hK (hq q h1) (row_ne (hq q h1) ho (by decide))⟩, hK hm.f (row_ne hm.f ho (by decide)), ⟨Nat.le_trans hm.fr.1 hfr.1, fun b h1 h2 => (hfr.2 b (by omega) (fun e2 => by have := own_lt ho e2; omega)).trans (hm.fr.2 b h1 h2)⟩, h.b, hm.lo⟩, ?_⟩
  rcases h.d with h3 | ⟨g, h3, h4⟩
  · unfold Dj; rw [h3]; exact hd
  · unfold Dj
    cases hv : rv.ownBlock with
    | none => exact .inl rfl
    | some g' =>
      right
      have := own_lt hoQ hv
      rw [h3]
      intro e2
      cases e2
      omega
end
/-- The sets are kept where the result's rows grow, and where its block changes. -/
theorem sets_row {w wL : World} {L : List (List Int)} {sv rv rv' : Value} {X Z : World} {tmp : Obj} {g3 : Nat} {v0 v1 v2 v3 : Value} {n0 : Nat} {xs : List Value} (hs : SetsO wL.heap.size X sv L) (ho : X.ownsRow wL.heap.size 23 1 rv n0 xs) (hd : Dj rv sv) (hg : (X.alloc tmp).grownBy Z rv.ownBlock) (hZ : Blk4 Z g3 v0 v1 v2 v3) (u : Value) (hob : rv'.ownBlock = rv.ownBlock ∨ rv'.ownBlock = some (X.alloc tmp).heap.size) : SetsO wL.heap.size (Z.setCell ⟨g3, 2, none⟩ u) sv L ∧ Dj rv' sv := by
  obtain ⟨Q, e, hoQ, hq⟩ := hs
  refine ⟨SetsO.put ⟨Q, e, (hoQ.alloc tmp).kept hg hd.flip, fun q h1 => ((hq q h1).alloc tmp).kept hg (row_ne ((hq q h1).alloc tmp) (ho.alloc tmp) (by decide))⟩ hZ (by decide) (by decide) _ _, ?_⟩
  rcases hob with h2 | h2
  · unfold Dj; rw [h2]; exact hd
  · refine Dj.flip ?_
    unfold Dj
    rw [h2]
    cases hv : sv.ownBlock with
    | none => exact .inl rfl
    | some g =>
      right
      have := own_lt hoQ hv
      intro e2
      cases e2
      simp at this
      omega
theorem sets_fin {wL : World} {L : List (List Int)} {sv : Value} {X Z : World} {tmp : Obj} {g3 : Nat} {v0 v1 v2 v3 v : Value} {n0 : Nat} {xs : List Value} (hs : SetsO wL.heap.size X sv L) (ho : X.ownsRow wL.heap.size 4 1 v n0 xs) (hg : (X.alloc tmp).grownBy Z v.ownBlock) (hZ : Blk4 Z g3 v0 v1 v2 v3) (u : Value) : SetsO wL.heap.size (Z.setCell ⟨g3, 3, none⟩ u) sv L :=
  ((hs.below (bal (Below.refl _ _) tmp)).other (ho.alloc tmp) (by decide) (by decide) hg).put hZ (by decide) (by decide) _ _
theorem rowF_app {S : Type} [DecidableEq S] : ∀ (l m F : List S), rowF F (l ++ m) = rowF (rowF F l) m
  | [], _, _ => rfl
  | _ :: l, m, F => rowF_app l m _
theorem rowF_takes {S : Type} [DecidableEq S] (l F : List S) (x : Nat) : rowF F (l.take x) <+: rowF F l := by
  conv => rhs; rw [← List.take_append_drop x l, rowF_app]
  exact rowF_pre _ _
theorem rowF_len {S : Type} [DecidableEq S] : ∀ (l F : List S), (rowF F l).length ≤ F.length + l.length
  | [], F => by simp [rowF]
  | s :: l, F => by
    have h1 := rowF_len l (add F s)
    have h2 : (add F s).length ≤ F.length + 1 := by
      unfold add
      split <;> simp
    show (rowF (add F s) l).length ≤ _
    simp only [List.length_cons]
    omega
/-- Whether a set has a final state. -/
def flagR (n : Na) (s : List Int) : Bool := n.fi.any fun z => decide (z ∈ s)
def RefPost (w : World) (n : Na) : Option (List (List Int)) → Ending → World → Prop
  | none, e, w' => e = .returned (.tuple #[.agg #[.int .i64 0, .int .i64 0, .slice none 0 0, .slice none 0 0], .slice none 0 0, .int .i64 10]) ∧ Below w.heap.size w w'
  | some L, e, w' => ∃ A' a' B' b' C' c', e = .returned (.tuple #[.agg #[.int .i64 n.V, .int .i64 0, .slice A' L.length a', .slice B' L.length b'], .slice C' L.length c', .int .i64 0]) ∧ DaAt w' ⟨n.V, 0, nums (succR n) L L.length, L.map (flagR n)⟩ A' B' ∧ Tabs w' C' L ∧ Below w.heap.size w w'
section
variable (n : Na) (A B C : Option Addr) (a b c : Nat) (w : World) (hx : NaAt w n A B C) (hl : NaLen n)
include hx hl
theorem refDet_bad (bud : Int) (h0 : chkN n ≠ 0) :
    Calls Tryd.prog 34 #[.agg #[.int .i64 n.V, .int .i64 n.S, .slice A n.st.length a, .slice B n.fi.length b, .slice C n.es.length c], .int .i64 bud] w fun e w' => e = .returned (.tuple #[.agg #[.int .i64 0, .int .i64 0, .slice none 0 0, .slice none 0 0], .slice none 0 0, .int .i64 (chkN n)]) ∧ Below w.heap.size w w' := by
  have hb0 := bal (bal (Below.refl w.heap.size w) (.cells #[.int .i64 n.V, .int .i64 n.S, .slice A n.st.length a, .slice B n.fi.length b, .slice C n.es.length c] 26)) (.cells #[.int .i64 0, .int .i64 0, .slice none 0 0, .slice none 0 0] 54)
  have hN0 := (Blk.new w (.int .i64 n.V) (.int .i64 n.S) (.slice A n.st.length a) (.slice B n.fi.length b) (.slice C n.es.length c)).below (bal (Below.refl _ _) (.cells #[.int .i64 0, .int .i64 0, .slice none 0 0, .slice none 0 0] 54))
  have hR0 := Blk4.new (w.alloc (.cells #[.int .i64 n.V, .int .i64 n.S, .slice A n.st.length a, .slice B n.fi.length b, .slice C n.es.length c] 26)) (.int .i64 0) (.int .i64 0) (.slice none 0 0) (.slice none 0 0)
  rw [World.size_alloc] at hR0
  have HC := Lib.hid fun X (hX : Below w.heap.size w X) => refCheck6_any n A B C a b c X (hx.below hX) hl
  have hne : (chkN n != 0) = true := by rw [bne_iff_ne]; exact h0
  clear hx hl h0
  obtain ⟨z0, z1, z2, z3, z4⟩ := Blk.cells hN0
  generalize chkN n = E at *
  go_enter Tryd.func34, Tryd.ntmps34
  go_wp2_with (go_at_call 32; ((with_reducible refine (HC.out _ hb0).mono ?_); rintro e w2 ⟨rfl, hb2⟩); clear z0 z1 z2 z3 z4; replace hR0 := hR0.below hb2; replace hb0 := stepB hb0 hb2; obtain ⟨⟨p0, f0⟩, ⟨p1, f1⟩, ⟨p2, f2⟩, ⟨p3, f3⟩, hR5, hB5⟩ := store4 hR0 (.int .i64 0) (.int .i64 0) (.slice none 0 0) (.slice none 0 0); have HF := Lib.hid (And.intro hR5.cells (hB5 w.heap.size (by omega))); clear hR5 hB5)
  obtain ⟨⟨y0, y1, y2, y3⟩, hb5'⟩ := HF.out
  have hb5 := hb0.trans hb5'
  unfold put4 at y0 y1 y2 y3 hb5
  refine bodyPost_ret (v := .tuple #[.agg #[.int .i64 0, .int .i64 0, .slice none 0 0, .slice none 0 0], .slice none 0 0, .int .i64 E]) (by simp [results, Tryd.results34, go_sem, y0, y1, y2, y3]) rfl ?_
  exact ⟨rfl, hb5⟩
theorem refDet_arg (bud : Int) (h0 : chkN n = 0) (hb : ¬ (1 ≤ bud ∧ bud ≤ 4096)) :
    Calls Tryd.prog 34 #[.agg #[.int .i64 n.V, .int .i64 n.S, .slice A n.st.length a, .slice B n.fi.length b, .slice C n.es.length c], .int .i64 bud] w fun e w' => e = .returned (.tuple #[.agg #[.int .i64 0, .int .i64 0, .slice none 0 0, .slice none 0 0], .slice none 0 0, .int .i64 1]) ∧ Below w.heap.size w w' := by
  have hb0 := bal (bal (Below.refl w.heap.size w) (.cells #[.int .i64 n.V, .int .i64 n.S, .slice A n.st.length a, .slice B n.fi.length b, .slice C n.es.length c] 26)) (.cells #[.int .i64 0, .int .i64 0, .slice none 0 0, .slice none 0 0] 54)
  have hN0 := (Blk.new w (.int .i64 n.V) (.int .i64 n.S) (.slice A n.st.length a) (.slice B n.fi.length b) (.slice C n.es.length c)).below (bal (Below.refl _ _) (.cells #[.int .i64 0, .int .i64 0, .slice none 0 0, .slice none 0 0] 54))
  have hR0 := Blk4.new (w.alloc (.cells #[.int .i64 n.V, .int .i64 n.S, .slice A n.st.length a, .slice B n.fi.length b, .slice C n.es.length c] 26)) (.int .i64 0) (.int .i64 0) (.slice none 0 0) (.slice none 0 0)
  rw [World.size_alloc] at hR0
  have HC := Lib.hid fun X (hX : Below w.heap.size w X) => refCheck6_any n A B C a b c X (hx.below hX) hl
  rw [h0] at HC
  have hor : decide (bud < 1) = true ∨ (decide (bud < 1) = false ∧ decide (4096 < bud) = true) := by
    by_cases h : bud < 1
    · exact .inl (decide_eq_true h)
    · exact .inr ⟨decide_eq_false h, decide_eq_true (by omega)⟩
  clear hx hl h0 hb
  obtain ⟨z0, z1, z2, z3, z4⟩ := Blk.cells hN0
  rcases hor with c1 | ⟨c1, c2⟩
  all_goals
    go_enter Tryd.func34, Tryd.ntmps34
    go_wp2_with (go_at_call 32; ((with_reducible refine (HC.out _ hb0).mono ?_); rintro e w2 ⟨rfl, hb2⟩); clear z0 z1 z2 z3 z4; replace hR0 := hR0.below hb2; replace hb0 := stepB hb0 hb2; obtain ⟨⟨p0, f0⟩, ⟨p1, f1⟩, ⟨p2, f2⟩, ⟨p3, f3⟩, hR5, hB5⟩ := store4 hR0 (.int .i64 0) (.int .i64 0) (.slice none 0 0) (.slice none 0 0); have HF := Lib.hid (And.intro hR5.cells (hB5 w.heap.size (by omega))); clear hR5 hB5)
    obtain ⟨⟨y0, y1, y2, y3⟩, hb5'⟩ := HF.out
    have hb5 := hb0.trans hb5'
    unfold put4 at y0 y1 y2 y3 hb5
    refine bodyPost_ret (v := .tuple #[.agg #[.int .i64 0, .int .i64 0, .slice none 0 0, .slice none 0 0], .slice none 0 0, .int .i64 1]) (by simp [results, Tryd.results34, go_sem, y0, y1, y2, y3]) rfl ?_
    exact ⟨rfl, hb5⟩
set_option maxHeartbeats 16000000 in
theorem refDet_ok (h0 : chkN n = 0) (bud : Nat) (hb1 : 1 ≤ bud) (hb2 : bud ≤ 4096) :
    Calls Tryd.prog 34 #[.agg #[.int .i64 n.V, .int .i64 n.S, .slice A n.st.length a, .slice B n.fi.length b, .slice C n.es.length c], .int .i64 bud] w (RefPost w n (found (succR n) bud n.st)) := by
  have hO := ok_of h0
  obtain ⟨v, hv⟩ := Int.eq_ofNat_of_zero_le hO.v0
  have hv6 := hO.v6
  have hS64 := hO.s64
  have hKp : (2 : Nat) ^ v ≤ 64 := (show 2 ^ v ≤ 2 ^ 6 from Nat.pow_le_pow_right (by decide) (by omega))
  have hb0 := bal (bal (Below.refl w.heap.size w) (.cells #[.int .i64 n.V, .int .i64 n.S, .slice A n.st.length a, .slice B n.fi.length b, .slice C n.es.length c] 26)) (.cells #[.int .i64 0, .int .i64 0, .slice none 0 0, .slice none 0 0] 54)
  have hN0 := (Blk.new w (.int .i64 n.V) (.int .i64 n.S) (.slice A n.st.length a) (.slice B n.fi.length b) (.slice C n.es.length c)).below (bal (Below.refl _ _) (.cells #[.int .i64 0, .int .i64 0, .slice none 0 0, .slice none 0 0] 54))
  have hR0 := Blk4.new (w.alloc (.cells #[.int .i64 n.V, .int .i64 n.S, .slice A n.st.length a, .slice B n.fi.length b, .slice C n.es.length c] 26)) (.int .i64 0) (.int .i64 0) (.slice none 0 0) (.slice none 0 0)
  rw [World.size_alloc] at hR0
  have HC := Lib.hid fun X (hX : Below w.heap.size w X) => refCheck6_any n A B C a b c X (hx.below hX) hl
  rw [h0] at HC
  have HAf := Lib.hid fun X (hX : Below w.heap.size w X) (P : Option Addr) (s : List Int) (cs : Nat) (hs : Ints X P s) (hsl : s.length ≤ 1000000) (x : Nat) (hx8 : x < 256) => refAfter_any n A B C a b c X (hx.below hX) hl hO P s cs hs hsl x hx8
  have HLt := Lib.hid fun X => kitLetters_any v X (by omega)
  have HCi := Lib.hid fun X (hX : Below w.heap.size w X) => Dg.CopyInts_any A n.st a X (hx.st.below hX) (by have := hl.st; omega)
  have hst64 : n.st.length ≤ 1000000 := hl.st
  have hfi6 : n.fi.length ≤ 1000000 := hl.fi
  have HFi := Lib.hid hx.fi
  have hsc : Hid (succR n = fun s => (List.range (2 ^ v)).map (aftL n s)) := by
    show succR n = _
    funext s
    unfold succR
    rw [hv, Int.toNat_natCast]
  have HAl : Hid (∀ s x, (aftL n s x).length ≤ 64) := fun s x => aftL_len hO.s64 s x
  have hd1 : decide ((bud : Int) < 1) = false := decide_eq_false (by omega)
  have hd2 : decide ((4096 : Int) < (bud : Int)) = false := decide_eq_false (by omega)
  have hd3 : decide (bud < 1) = false := decide_eq_false (by omega)
  have hd4 : decide (4096 < bud) = false := decide_eq_false (by omega)
  have hb11 : (1 : Int) ≤ (bud : Int) := by omega
  have HV := Lib.hid hv
  rw [hv] at hb0 hN0 hR0 HC HAf
  clear hx hl h0 hO hv
  generalize hRR : found (succR n) bud n.st = R
  have hI0 : DetI (succR n) bud R [n.st] 0 := hRR ▸ DetI.start n.st
  clear hRR
  obtain ⟨z0, z1, z2, z3, z4⟩ := Blk.cells hN0
  rw [HV.out]
  go_enter Tryd.func34, Tryd.ntmps34
  go_upto_region 6 with (go_at_call 32; ((with_reducible refine (HC.out _ hb0).mono ?_); rintro e w2 ⟨rfl, hbq2⟩); clear z0 z1 z2 z3 z4; replace hR0 := hR0.below hbq2; replace hN0 := Blk.below hN0 hbq2; replace hb0 := stepB hb0 hbq2; obtain ⟨z0, z1, z2, z3, z4⟩ := Blk.cells hN0)
  have hG := Blk4.new w2 (.int .i64 v) (.int .i64 0) (.slice none 0 0) (.slice none 0 0)
  have K4 := bal (Below.refl w2.heap.size w2) (.cells #[.int .i64 v, .int .i64 0, .slice none 0 0, .slice none 0 0] 54)
  have hs4 : (w2.alloc (.cells #[.int .i64 v, .int .i64 0, .slice none 0 0, .slice none 0 0] 54)).heap.size = w2.heap.size + 1 := World.size_alloc ..
  go_upto_region 7 with fail
  clear z0 z1 z2 z3 z4 HC hbq2
  have hsb := hb0.size
  have hR4 := hR0.below K4
  have hN4 := Blk.below hN0 K4
  have hlR := blk_lt hR0
  have hlN := blk_lt hN0
  have hb4 := stepB hb0 K4
  have hL0 : RefL w (w2.alloc (.cells #[.int .i64 v, .int .i64 0, .slice none 0 0, .slice none 0 0] 54)) w2.heap.size v (nums (succR n) [n.st] 0) (([n.st].take 0).map (flagR n)) (.slice none 0 0) none 0 (w2.alloc (.cells #[.int .i64 v, .int .i64 0, .slice none 0 0, .slice none 0 0] 54)) := ⟨hG, SetsO.nil _ _, ⟨rfl, .inl ⟨rfl, rfl⟩⟩, ⟨Nat.le_refl _, fun b _ _ => rfl⟩, hb4, ⟨hsb, by omega, by omega⟩⟩
  clear hN0 hR0 hG K4 hb0
  generalize (w2.alloc (.cells #[.int .i64 v, .int .i64 0, .slice none 0 0, .slice none 0 0] 54)) = wL at *
  generalize w2.heap.size = g3 at *
  have HN := Lib.hid fun (X : World) (hf : wL.heap.size ≤ X.heap.size ∧ ∀ b, b < wL.heap.size → b ≠ g3 → X.heap[b]? = wL.heap[b]?) => show Blk X w.heap.size (.int .i64 v) (.int .i64 n.S) (.slice A n.st.length a) (.slice B n.fi.length b) (.slice C n.es.length c) from (hf.2 _ (by omega) (by omega)).trans hN4
  have HRb := Lib.hid fun (X : World) (hf : wL.heap.size ≤ X.heap.size ∧ ∀ b, b < wL.heap.size → b ≠ g3 → X.heap[b]? = wL.heap[b]?) => show Blk4 X (w.heap.size + 1) (.int .i64 0) (.int .i64 0) (.slice none 0 0) (.slice none 0 0) from (hf.2 _ (by omega) (by omega)).trans hR4
  obtain ⟨i0, hi0, hz0, hz1, hz2⟩ := info_parts info_int6
  obtain ⟨i1, hi1, hy0, hy1, hy2⟩ := info_parts Dg.info_tab
  obtain ⟨i2, hi2, hx0, hx1, hx2⟩ := info_parts info_boolJ
  obtain ⟨z0, z1, z2, z3, z4⟩ := Blk.cells hN4
  go_upto_region 8 with (go_at_call 84; ((with_reducible refine (HCi.out _ hb4).mono ?_); rintro e w3 ⟨A3, a3, rfl, ho3, _, hb3⟩))
  have K8 := bal (Below.refl w3.heap.size w3) (.cells #[.slice A3 n.st.length a3] 23)
  have hsL := hb3.size
  have hD0 : Dj (.slice none 0 0) (.slice (some ⟨w3.heap.size, 0, none⟩) 1 1) := .inl rfl
  have hS0 : SetsO wL.heap.size (w3.alloc (.cells #[.slice A3 n.st.length a3] 23)) (.slice (some ⟨w3.heap.size, 0, none⟩) 1 1) [n.st] := by
    refine ⟨[(.slice A3 n.st.length a3, n.st)], rfl, ⟨rfl, .inr ⟨w3.heap.size, 1, _, rfl, hsL, World.alloc_heap_new w3 _, Nat.le_refl _, by unfold maxLen; omega, rfl, rfl⟩⟩, fun q h => ?_⟩
    rw [List.mem_singleton] at h
    subst h
    exact ho3.below K8
  have hM0 := (hL0.below hb3).below K8
  have HS0 := Lib.hid hS0
  have HM0 := Lib.hid hM0
  have HD0 := Lib.hid hD0
  have HSh0 : Hid (Shut (succR n) [n.st] 0) := fun s hs => by simp at hs
  have HI0 := Lib.hid hI0
  have HLe0 : Hid (∀ l ∈ [n.st], l.length ≤ 1000000) := fun l h => by rw [List.mem_singleton] at h; subst h; exact hst64
  clear z0 z1 z2 z3 z4 hb3 ho3 hS0 hM0 hD0 hL0 hI0 K8 hb4 hN4 hR4
  generalize w3.alloc (.cells #[.slice A3 n.st.length a3] 23) = w8 at *
  generalize w3.heap.size = g8 at *
  go_wp2
  go_loopw [9, 10] (fun lv iv wr => ∃ (k : Nat) (L : List (List Int)) (sv rv : Value) (A5 : Option Addr) (c5 : Nat), sv = lv ∧ k ≤ L.length ∧ iv = .int .i64 k ∧ L.length ≤ bud ∧ Hid (DetI (succR n) bud R L k) ∧ Hid (Shut (succR n) L k) ∧ Hid (∀ l ∈ L, l.length ≤ 1000000) ∧ Hid (RefL w wL g3 v (nums (succR n) L k) ((L.take k).map (flagR n)) rv A5 c5 wr) ∧ Hid (SetsO wL.heap.size wr sv L) ∧ Hid (Dj rv sv)) (fun _ iv _ => bud - (intOf iv).toNat)
  case atStart => exact ⟨0, [n.st], _, _, none, 0, rfl, Nat.zero_le _, rfl, hb1, HI0, HSh0, HLe0, HM0, HS0, HD0⟩
  case round =>
    clear HI0 HSh0 HLe0 HM0 HS0 HD0
    obtain ⟨k, L, sv, rv, A5, c5, rfl, hk, rfl, hLb, HI, HSh, HLe, HM, HS, HDj⟩ := hrel
    obtain ⟨As, cs, rfl, _⟩ := HS.out.form
    by_cases hlt : k < L.length
    · have hlt2 : (k : Int) < (L.length : Int) := by omega
      have hLk : L[k] = tb L k := by unfold tb; rw [List.getD_eq_getElem?_getD, List.getElem?_eq_getElem hlt]; rfl
      have hSl : (succR n (tb L k)).length = 2 ^ v := by rw [hsc.out, List.length_map, List.length_range]
      have HSx : Hid (∀ x (hx : x < (succR n (tb L k)).length), (succR n (tb L k))[x] = aftL n (tb L k) x) := fun x hx => by
        have e := hsc.out
        simp only [e, List.getElem_map, List.getElem_range]
      have HTk : Hid (∀ x, x < 2 ^ v → rowF L ((succR n (tb L k)).take (x + 1)) = add (rowF L ((succR n (tb L k)).take x)) (aftL n (tb L k) x)) := fun x hx => by
        rw [rowF_take (by rw [hSl]; exact hx), HSx.out x (by rw [hSl]; exact hx)]
      have HTm : Hid (∀ x, x < 2 ^ v → ∀ f : List Int → Int, ((succR n (tb L k)).take (x + 1)).map f = ((succR n (tb L k)).take x).map f ++ [f (aftL n (tb L k) x)]) := fun x hx f => by
        rw [List.take_add_one, List.getElem?_eq_getElem (by rw [hSl]; exact hx), List.map_append, HSx.out x (by rw [hSl]; exact hx)]
        rfl
      have HPos : Hid (∀ x, x < 2 ^ v → pos (rowF L ((succR n (tb L k)).take (x + 1))) (aftL n (tb L k) x) = pos (rowF L (succR n (tb L k))) (aftL n (tb L k) x)) := fun x hx =>
        (idx_pre (rowF_takes _ _ _) (by rw [HTk.out x hx]; exact mem_add.2 (.inr rfl))).symm
      have HLen : Hid (∀ x, (rowF L ((succR n (tb L k)).take x)).length ≤ 4200) := fun x => by
        have h1 := rowF_len ((succR n (tb L k)).take x) L
        have h2 : ((succR n (tb L k)).take x).length ≤ (succR n (tb L k)).length := by rw [List.length_take]; omega
        omega
      have HEls : Hid (∀ x, ∀ l ∈ rowF L ((succR n (tb L k)).take x), l.length ≤ 1000000) := fun x l hl => by
        rcases mem_rowF.1 hl with h | h
        · exact HLe.out l h
        · have h1 := List.mem_of_mem_take h
          rw [hsc.out] at h1
          obtain ⟨y, _, rfl⟩ := List.mem_map.1 h1
          have := HAl.out (tb L k) y
          omega
      have HAt : Hid (∀ x, tb (rowF L ((succR n (tb L k)).take x)) k = tb L k) := fun x => by
        unfold tb
        exact getD_pre (rowF_pre _ _) hlt
      have HLx : Hid (∀ x, L.length ≤ (rowF L ((succR n (tb L k)).take x)).length) := fun x => (rowF_pre _ _).length_le
      have hsl6 : (tb L k).length ≤ 1000000 := HLe.out _ (tb_mem hlt)
      have hwiL : wL.heap.size ≤ wr.heap.size := HM.out.fr.1
      have hwwL := HM.out.lo.2.2
      have HSR0 : Hid (SR w wL wr (.slice As L.length cs) (rowF L ((succR n (tb L k)).take 0)) (.slice As L.length cs) (((succR n (tb L k)).take 0).map fun t => (pos (rowF L (succR n (tb L k))) t : Int)) (.slice none 0 0) wr) := SR.start HS.out HM.out.b hwwL hwiL
      have HSl := Lib.hid hSl
      have HLk := Lib.hid hLk
      have HNs := Lib.hid (nums_step (succR n) HSh.out hlt)
      have HIo : Hid (bud < (rowF L (succR n (tb L k))).length → R = none) := fun h => HI.out.over hlt hLb (by rw [hLk]; exact h)
      have HIm : Hid ((rowF L (succR n (tb L k))).length ≤ bud → DetI (succR n) bud R (rowF L (succR n (tb L k))) (k + 1)) := fun h => by
        have := HI.out.more hlt hLb (by rw [hLk]; exact h)
        rw [hLk] at this
        exact this
      have HShm : Hid (Shut (succR n) (rowF L (succR n (tb L k))) (k + 1)) := by
        have := HSh.out.step (succR n) hlt
        rw [hLk] at this
        exact this
      have HFl : Hid ((((rowF L (succR n (tb L k))).take (k + 1)).map (flagR n)) = (L.take k).map (flagR n) ++ [flagR n (tb L k)]) := by
        show _ = _
        rw [take_pre (rowF_pre _ _) (by omega), List.take_add_one, List.getElem?_eq_getElem hlt, List.map_append, hLk]
        rfl
      have hKkf : k + 1 ≤ (rowF L (succR n (tb L k))).length := by have := (rowF_pre (succR n (tb L k)) L).length_le; omega
      have hrowsl : (nums (succR n) L k).length ≤ 4096 := by rw [nums_len _ _ _ hk]; omega
      have hflagl : ((L.take k).map (flagR n)).length ≤ 4096 := by rw [List.length_map, List.length_take]; omega
      clear hSl HSx hLk
      obtain ⟨wi, rfl⟩ : ∃ wi : World, wi = wr := ⟨_, rfl⟩
      generalize hKK : 2 ^ v = K at *
      have HKK := Lib.hid hKK
      clear hKK
      go_wp2
      go_loopw [9, 11, 12] (fun lv ru xu X => ∃ (x : Nat) (sv row : Value), sv = lv ∧ row = ru ∧ x ≤ K ∧ xu = .int .i64 x ∧ Hid (SR w wL wi (.slice As L.length cs) (rowF L ((succR n (tb L k)).take x)) sv (((succR n (tb L k)).take x).map fun t => (pos (rowF L (succR n (tb L k))) t : Int)) row X)) (fun _ _ xu _ => K - (intOf xu).toNat)
      case atStart => exact ⟨0, _, _, rfl, rfl, Nat.zero_le _, rfl, HSR0⟩
      case round =>
        clear HSR0
        obtain ⟨x, sv, row, rfl, rfl, hxK, rfl, HR⟩ := hrel
        have hM := (HR.out.move HM.out (HS.out.choose_spec.2.1) HDj.out).1
        obtain ⟨z0, z1, z2, z3, z4⟩ := Blk.cells (HN.out _ hM.fr)
        by_cases hxt : x < K
        · have hxt2 : (x : Int) < (K : Int) := by omega
          obtain ⟨A7, c7, rfl⟩ := HR.out.form
          have hTb := HR.out.sets.tabs rfl
          obtain ⟨ad, p, c', hA7, hbk, hcell, hi⟩ := hTb k (by have := HLx.out x; omega)
          subst hA7
          have hLx := HLx.out x
          have hL42 := HLen.out x
          have hBk : Blk wr w.heap.size (.int .i64 v) (.int .i64 n.S) (.slice A n.st.length a) (.slice B n.fi.length b) (.slice C n.es.length c) := HN.out _ hM.fr
          have HAtx := HAt.out x
          rw [HAtx] at hcell hi
          have hTk1 := HTk.out x hxt
          have hTm1 := HTm.out x hxt fun t => (pos (rowF L (succR n (tb L k))) t : Int)
          have hPos1 := HPos.out x hxt
          have hEl1 := HEls.out x
          have hal := HAl.out (tb L k) x
          rw [hTk1] at hPos1
          have HL1 : Hid (rowF L ((succR n (tb L k)).take (x + 1)) = add (rowF L ((succR n (tb L k)).take x)) (aftL n (tb L k) x)) := hTk1
          have HL2 : Hid (((succR n (tb L k)).take (x + 1)).map (fun t => (pos (rowF L (succR n (tb L k))) t : Int)) = ((succR n (tb L k)).take x).map (fun t => (pos (rowF L (succR n (tb L k))) t : Int)) ++ [((pos (rowF L (succR n (tb L k))) (aftL n (tb L k) x) : Nat) : Int)]) := hTm1
          have hrl : (((succR n (tb L k)).take x).map fun t => (pos (rowF L (succR n (tb L k))) t : Int)).length ≤ 64 := by rw [List.length_map, List.length_take]; omega
          have hbw := HR.out.b
          have hfr1 := HR.out.fr.1
          have HAf1 := Lib.hid fun X hX hs => HAf.out X hX p (tb L k) c' hs hsl6 x (by omega)
          clear hTk1 hTm1 hTb hM
          generalize rowF L (succR n (tb L k)) = Lf at *
          generalize hL1 : rowF L ((succR n (tb L k)).take x) = L1 at *
          generalize hrl1 : ((succR n (tb L k)).take x).map (fun t => (pos Lf t : Int)) = rl at *
          generalize ht1 : aftL n (tb L k) x = t at *
          have HL1' := Lib.hid hL1
          have Hrl' := Lib.hid hrl1
          have Ht' := Lib.hid ht1
          clear hL1 hrl1 ht1
          obtain ⟨A8, c8, rfl, _⟩ := Ap.own_form HR.out.r
          have hkL1 : (k : Int) < (L1.length : Int) := by omega
          go_upto_region 15 with (go_at_call 73; ((with_reducible refine (HLt.out _).mono ?_); rintro e w3 ⟨rfl, rfl⟩))
          refine wp_region_any (by kernel_rfl) ?_
          change wpAny _ _ _ _ _ _ _ (World.drew _)
          have hdw := drew_below wr
          have HSb : Hid (∀ Y, Below wr.heap.size wr Y → (fun X : World => Blk X w.heap.size (.int .i64 v) (.int .i64 n.S) (.slice A n.st.length a) (.slice B n.fi.length b) (.slice C n.es.length c) ∧ X.cell? (ad.add k) = some (.slice p (tb L k).length c')) Y) := fun Y hY => ⟨Blk.below hBk hY, (hY.cell (by rw [addr_block]; exact hbk)).trans hcell⟩
          have hS0 := HSb.out _ hdw
          have q3 : IntKind.u8.wrap (x : Int) = (x : Int) := by simp [IntKind.wrap, IntKind.bits]; omega
          have hi0' := Vals.below hi hdw
          have hb0' := stepB hbw hdw
          have hRd := HR.out.below hdw
          clear z0 z1 z2 z3 z4 hcell hi hBk HR
          have HdW := Lib.hid hdw
          clear hdw
          generalize hXX : wr.drew = X0 at *
          clear hXX
          refine wpAny_head 8 8 (fun X : World => Blk X w.heap.size (.int .i64 v) (.int .i64 n.S) (.slice A n.st.length a) (.slice B n.fi.length b) (.slice C n.es.length c) ∧ X.cell? (ad.add k) = some (.slice p (tb L k).length c')) rfl rfl (by kernel_rfl) (by kernel_rfl) (by kernel_rfl) (fun hA => ?_)
          refine wpHead_take (i := 0) (v := ?_) (by kernel_rfl) hA (at_drop rfl) (by decide) (by kernel_rfl) (by kernel_rfl) (by kernel_rfl) (fun _ _ _ h => h) (Or.inl ⟨by rfl, ?_⟩) hS0 (fun hA => ?_)
          rotate_left
          · (intro Y hSY; obtain ⟨hBq, s5⟩ := hSY; obtain ⟨s0, s1, s2, s3, s4⟩ := Blk.cells hBq; go_simp <;> with_reducible rfl)
          simp only [Act.put, List.setIfInBounds_toArray, List.set_cons_zero, List.set_cons_succ]
          refine wpHead_take (i := 1) (v := ?_) (by kernel_rfl) hA (at_drop rfl) (by decide) (by kernel_rfl) (by kernel_rfl) (by kernel_rfl) (fun _ _ _ h => h) (Or.inl ⟨by rfl, ?_⟩) hS0 (fun hA => ?_)
          rotate_left
          · (intro Y hSY; obtain ⟨hBq, s5⟩ := hSY; obtain ⟨s0, s1, s2, s3, s4⟩ := Blk.cells hBq; go_simp <;> with_reducible rfl)
          simp only [Act.put, List.setIfInBounds_toArray, List.set_cons_zero, List.set_cons_succ]
          refine wpHead_take (i := 2) (v := ?_) (by kernel_rfl) hA (at_drop rfl) (by decide) (by kernel_rfl) (by kernel_rfl) (by kernel_rfl) (fun _ _ _ h => h) (Or.inl ⟨by rfl, ?_⟩) hS0 (fun hA => ?_)
          rotate_left
          · (intro Y hSY; obtain ⟨hBq, s5⟩ := hSY; obtain ⟨s0, s1, s2, s3, s4⟩ := Blk.cells hBq; go_simp <;> with_reducible rfl)
          simp only [Act.put, List.setIfInBounds_toArray, List.set_cons_zero, List.set_cons_succ]
          refine wpHead_take (i := 3) (v := ?_) (by kernel_rfl) hA (at_drop rfl) (by decide) (by kernel_rfl) (by kernel_rfl) (by kernel_rfl) (fun _ _ _ h => h) (Or.inl ⟨by rfl, ?_⟩) hS0 (fun hA => ?_)
          rotate_left
          · (intro Y hSY; obtain ⟨hBq, s5⟩ := hSY; obtain ⟨s0, s1, s2, s3, s4⟩ := Blk.cells hBq; go_simp <;> with_reducible rfl)
          simp only [Act.put, List.setIfInBounds_toArray, List.set_cons_zero, List.set_cons_succ]
          refine wpHead_take (i := 4) (v := ?_) (by kernel_rfl) hA (at_drop rfl) (by decide) (by kernel_rfl) (by kernel_rfl) (by kernel_rfl) (fun _ _ _ h => h) (Or.inl ⟨by rfl, ?_⟩) hS0 (fun hA => ?_)
          rotate_left
          · (intro Y hSY; obtain ⟨hBq, s5⟩ := hSY; obtain ⟨s0, s1, s2, s3, s4⟩ := Blk.cells hBq; go_simp <;> with_reducible rfl)
          simp only [Act.put, List.setIfInBounds_toArray, List.set_cons_zero, List.set_cons_succ]
          refine wpHead_take (i := 5) (v := ?_) (by kernel_rfl) hA (at_drop rfl) (by decide) (by kernel_rfl) (by kernel_rfl) (by kernel_rfl) (fun _ _ _ h => h) (Or.inl ⟨by rfl, ?_⟩) hS0 (fun hA => ?_)
          rotate_left
          · (intro Y hSY; obtain ⟨hBq, s5⟩ := hSY; obtain ⟨s0, s1, s2, s3, s4⟩ := Blk.cells hBq; go_simp <;> with_reducible rfl)
          simp only [Act.put, List.setIfInBounds_toArray, List.set_cons_zero, List.set_cons_succ]
          refine wpHead_take (i := 6) (v := ?_) (by kernel_rfl) hA (at_drop rfl) (by decide) (by kernel_rfl) (by kernel_rfl) (by kernel_rfl) (fun _ _ _ h => h) (Or.inl ⟨by rfl, ?_⟩) hS0 (fun hA => ?_)
          rotate_left
          · (intro Y hSY; obtain ⟨hBq, s5⟩ := hSY; obtain ⟨s0, s1, s2, s3, s4⟩ := Blk.cells hBq; go_simp <;> with_reducible rfl)
          simp only [Act.put, List.setIfInBounds_toArray, List.set_cons_zero, List.set_cons_succ]
          have hA7 := hnext hA (rs := [7]) (i := 7) (by kernel_rfl) (by decide) (by decide)
          refine wpHead_ready (rs := [7]) (by kernel_rfl) (by decide) (AllHead.cons (at_drop rfl) (by decide) (fun KK hK => ?_) AllHead.nil)
          replace hA := hA7
          go_simp
          refine (HAf1.out X0 hb0' hi0').mono ?_
          rintro e X3 ⟨A9, c9, rfl, ho9, hb9⟩
          have hS3 := HSb.out X3 (stepB HdW.out hb9)
          refine hK _ _ hS3 ?_
          clear hK KK hS3 hS0
          try simp only [Act.put, List.setIfInBounds_toArray, List.set_cons_zero, List.set_cons_succ]
          refine wpHead_end (by kernel_rfl) ?_
          simp only [List.drop_succ_cons, List.drop_zero]
          have hszd := HdW.out.size
          have hszX := hRd.fr.1
          have hDn : Dj (.slice A9 t.length c9) (.slice A8 rl.length c8) := by
            unfold Dj
            cases hv : (Value.slice A9 t.length c9).ownBlock with
            | none => exact .inl rfl
            | some g =>
              right
              intro e2
              have h1 := own_lt ho9 hv
              have h2 := own_lt hRd.r e2.symm
              omega
          have HRd := Lib.hid (hRd.below hb9)
          have Ho9 := Lib.hid (ownsRow_mono ho9 hszX)
          clear hRd ho9 hA HSb q3 hi0' hb0' HdW HAf1 hbk
          have hF := fun X (Ls : List (List Int)) (svv : Value) A' c' (hR : SR w wL wi (.slice As L.length cs) Ls svv rl (.slice A8 rl.length c8) X) (hsv : svv = .slice A' Ls.length c') (hl : Ls.length ≤ 1000000) (hel : ∀ u ∈ Ls, u.length ≤ 1000000) (ht : Ints X A9 t) => find7_any A' Ls c' A9 t c9 X ((hsv ▸ hR.sets).tabs rfl) ht hl hel
          by_cases hm : t ∈ L1
          · have hadd : add L1 t = L1 := if_pos hm
            rw [hadd] at hPos1 HL1
            have HF1 : Hid (∀ X, SR w wL wi (.slice As L.length cs) L1 (.slice (some ad) L1.length c7) rl (.slice A8 rl.length c8) X → X.ownsRow wi.heap.size 3 1 (.slice A9 t.length c9) t.length (zvs t) → Calls Tryd.prog 87 #[.slice (some ad) L1.length c7, .slice A9 t.length c9] X fun e w' => e = .returned (.int .i64 (pos Lf t : Nat)) ∧ Below X.heap.size X w') := fun X hR ho => by
              have := hF X L1 _ (some ad) c7 hR rfl (by omega) hEl1 (Dg.ints_row ho rfl)
              rw [findI_in hm, hPos1] at this
              exact this
            have HF2 := Lib.hid fun X (hR : SR w wL wi (.slice As L.length cs) L1 (.slice (some ad) L1.length c7) rl (.slice A8 rl.length c8) X ∧ X.ownsRow wi.heap.size 3 1 (.slice A9 t.length c9) t.length (zvs t)) => HF1.out X hR.1 hR.2
            have hdec : decide ((((pos Lf t : Nat) : Int)) < 0) = false := decide_eq_false (by omega)
            clear hF hm hadd hPos1 hDn
            generalize hpt : pos Lf t = pt at *
            have Hpt := Lib.hid hpt
            clear hpt
            have SRH := Lib.hid (And.intro HRd.out Ho9.out)
            clear HRd
            go_wp2_with (first
              | (go_at_call 87; ((with_reducible refine (HF1.out _ SRH.out.1 SRH.out.2).mono ?_); rintro e w4 ⟨rfl, hb4⟩); clear HF1; replace SRH := Lib.hid (And.intro (SRH.out.1.below hb4) (SRH.out.2.below hb4)); clear hb4)
              | (go_at_call 87; ((with_reducible refine (HF2.out _ SRH.out).mono ?_); rintro e w8 ⟨rfl, hb8⟩); clear HF2; have HR8 := Lib.hid (SRH.out.1.below hb8); have hs8 := HR8.out.fr.1)
              | (at_builtin; refine wpList_append_own_at _ rfl _ _ 23 rfl wi.heap.size 3 i0 (.int .i64 0) 1 8 Tryd.underlying23 hi0 hz0 hz1 hz2 rfl (by decide) _ rl.length _ rfl (HR8.out.r.alloc _) ⟨w8.heap.size, 0, none⟩ 1 1 [.int .i64 (pt : Nat)] rfl rfl (cell_one_new _ _ _) (by simp [Value.oneCell']) (by unfold maxLen; omega) (by omega) (by simp; omega) ?_; intro v' w9 hown' hgrow _ hob; have HR9 := Lib.hid (HR8.out.grow hown' hgrow hob); clear hown' hgrow hob))
            go_roundw
            case rel => exact ⟨x + 1, _, _, rfl, rfl, by omega, by go_num, by show SR _ _ _ _ _ _ _ _ _; rw [HL1.out, HL2.out]; exact HR9.out⟩
            case measure => simp [intOf]; omega
          · have hadd : add L1 t = L1 ++ [t] := if_neg hm
            rw [hadd] at hPos1 HL1
            have hEl2 : ∀ u ∈ L1 ++ [t], u.length ≤ 1000000 := fun u hu => by
              rcases List.mem_append.1 hu with h | h
              · exact hEl1 u h
              · rw [List.mem_singleton] at h; subst h; omega
            have HF1 : Hid (∀ X, SR w wL wi (.slice As L.length cs) L1 (.slice (some ad) L1.length c7) rl (.slice A8 rl.length c8) X → X.ownsRow wi.heap.size 3 1 (.slice A9 t.length c9) t.length (zvs t) → Calls Tryd.prog 87 #[.slice (some ad) L1.length c7, .slice A9 t.length c9] X fun e w' => e = .returned (.int .i64 (-1)) ∧ Below X.heap.size X w') := fun X hR ho => by
              have := hF X L1 _ (some ad) c7 hR rfl (by omega) hEl1 (Dg.ints_row ho rfl)
              rw [findI_out hm] at this
              exact this
            have HF2 : Hid (∀ X A6 c6, SR w wL wi (.slice As L.length cs) (L1 ++ [t]) (.slice A6 (L1.length + 1) c6) rl (.slice A8 rl.length c8) X → X.ownsRow wi.heap.size 3 1 (.slice A9 t.length c9) t.length (zvs t) → Calls Tryd.prog 87 #[.slice A6 (L1.length + 1) c6, .slice A9 t.length c9] X fun e w' => e = .returned (.int .i64 (pos Lf t : Nat)) ∧ Below X.heap.size X w') := fun X A6 c6 hR ho => by
              have h1 : (L1 ++ [t]).length = L1.length + 1 := by simp
              have := hF X (L1 ++ [t]) _ A6 c6 hR (by rw [h1]) (by rw [h1]; omega) hEl2 (Dg.ints_row ho rfl)
              rw [findI_in (by simp), hPos1, h1] at this
              exact this
            have HMo := Lib.hid fun X (hR : SR w wL wi (.slice As L.length cs) L1 (.slice (some ad) L1.length c7) rl (.slice A8 rl.length c8) X) (ho : X.ownsRow wi.heap.size 3 1 (.slice A9 t.length c9) t.length (zvs t)) => hR.more ho hDn
            clear hF hm hadd hPos1 hDn hEl1 hEl2
            generalize hpt : pos Lf t = pt at *
            have Hpt := Lib.hid hpt
            clear hpt
            have SRH := Lib.hid (And.intro HRd.out Ho9.out)
            clear HRd
            generalize hl1 : L1.length = l1 at *
            have Hl1 := Lib.hid hl1
            clear hl1
            have hwLs := SRH.out.1.lo.2
            go_wp2_with (first
              | (go_at_call 87; ((with_reducible refine (HF1.out _ SRH.out.1 SRH.out.2).mono ?_); rintro e w4 ⟨rfl, hb4⟩); clear HF1; replace SRH := Lib.hid (And.intro (SRH.out.1.below hb4) (SRH.out.2.below hb4)); clear hb4; obtain ⟨Q, hoQ, hNx⟩ := HMo.out w4 SRH.out.1 SRH.out.2; have HOQ := Lib.hid hoQ; have HNx := Lib.hid hNx; have hs4q := SRH.out.1.fr.1; clear hoQ hNx HMo)
              | (go_at_call 87; ((with_reducible refine (HF2.out _ A6 c6 SRH.out.1 SRH.out.2).mono ?_); rintro e w8 ⟨rfl, hb8⟩); clear HF2; have HR8 := Lib.hid (SRH.out.1.below hb8); have hs8 := HR8.out.fr.1)
              | (at_builtin; refine wpList_append_own_at _ rfl _ _ 51 rfl wL.heap.size 23 i1 (.slice none 0 0) 1 24 Tryd.underlying51 hi1 hy0 hy1 hy2 rfl (by decide) _ l1 _ rfl (HOQ.out.alloc _) ⟨w4.heap.size, 0, none⟩ 1 1 [.slice A9 t.length c9] rfl rfl (cell_one_new _ _ _) (by simp [Value.oneCell']) (by unfold maxLen; omega) (by omega) (by simp; omega) ?_; intro v' w6 hown' hgrow _ hob; obtain ⟨A6, c6, rfl, _⟩ := Ap.own_form hown'; have hn6 := HNx.out _ _ _ hown' hgrow hob; replace SRH := Lib.hid hn6; clear hown' hgrow hob hn6)
              | (at_builtin; refine wpList_append_own_at _ rfl _ _ 23 rfl wi.heap.size 3 i0 (.int .i64 0) 1 8 Tryd.underlying23 hi0 hz0 hz1 hz2 rfl (by decide) _ rl.length _ rfl (HR8.out.r.alloc _) ⟨w8.heap.size, 0, none⟩ 1 1 [.int .i64 (pt : Nat)] rfl rfl (cell_one_new _ _ _) (by simp [Value.oneCell']) (by unfold maxLen; omega) (by omega) (by simp; omega) ?_; intro v' w9 hown' hgrow _ hob; have HR9 := Lib.hid (HR8.out.grow hown' hgrow hob); clear hown' hgrow hob))
            go_roundw
            case rel => exact ⟨x + 1, _, _, rfl, rfl, by omega, by go_num, by show SR _ _ _ _ _ _ _ _ _; rw [HL1.out, HL2.out]; exact HR9.out⟩
            case measure => simp [intOf]; omega
        · obtain rfl : x = K := by omega
          have hTa : (succR n (tb L k)).take x = succR n (tb L k) := List.take_of_length_le (by rw [HSl.out]; exact Nat.le_refl _)
          rw [hTa] at HR
          have hLx := HLx.out x
          have hL42 := HLen.out x
          have HElx : Hid (∀ l ∈ rowF L (succR n (tb L k)), l.length ≤ 1000000) := by
            have := HEls.out x
            rw [hTa] at this
            exact this
          have hAtx := HAt.out x
          rw [hTa] at hLx hL42 hAtx
          obtain ⟨hM, hDj2⟩ := HR.out.move HM.out (HS.out.choose_spec.2.1) HDj.out
          have HNs' : Hid (nums (succR n) (rowF L (succR n (tb L k))) (k + 1) = nums (succR n) L k ++ [(succR n (tb L k)).map fun t => (pos (rowF L (succR n (tb L k))) t : Int)]) := by
            have e := HNs.out
            rw [HLk.out] at e
            exact e
          obtain ⟨A7, c7, rfl⟩ := HR.out.form
          obtain ⟨A8, c8, rfl, _⟩ := Ap.own_form HR.out.r
          have hRw := HRb.out _ hM.fr
          have hSS := HR.out.sets
          have hRo := ownsRow_mono HR.out.r hwiL
          have hrl8 : ((succR n (tb L k)).map fun t => (pos (rowF L (succR n (tb L k))) t : Int)).length ≤ 64 := by rw [List.length_map, HSl.out]; exact hKp
          have hbM := hM.b
          clear HEls HTk HTm HPos HLen HAt HLx HSl HNs HI HSh HLe HM HS HDj hTa HLk
          generalize rowF L (succR n (tb L k)) = Lf at *
          generalize (succR n (tb L k)).map (fun t => (pos Lf t : Int)) = rl at *
          by_cases hov : bud < Lf.length
          · have hRn := Lib.hid (HIo.out hov)
            have hov2 : decide ((bud : Int) < (Lf.length : Int)) = true := decide_eq_true (by omega)
            have hov3 : decide (bud < Lf.length) = true := decide_eq_true hov
            obtain ⟨⟨p0, f0⟩, ⟨p1, f1⟩, ⟨p2, f2⟩, ⟨p3, f3⟩, hR5, hB5⟩ := store4 hRw (.int .i64 0) (.int .i64 0) (.slice none 0 0) (.slice none 0 0)
            have HF := Lib.hid (And.intro hR5.cells (hbM.trans (hB5 w.heap.size (by omega))))
            clear hR5 hB5 hM hDj2 hSS hRo HR HRb HN hov HIo HIm HShm HFl hRw HAf HCi HFi
            go_wp2_with (go_at_call 73; ((with_reducible refine (HLt.out _).mono ?_); rintro e w3 ⟨rfl, rfl⟩))
            obtain ⟨⟨u0, u1, u2, u3⟩, hb5⟩ := HF.out
            unfold put4 at u0 u1 u2 u3 hb5
            refine bodyPost_ret (v := .tuple #[.agg #[.int .i64 0, .int .i64 0, .slice none 0 0, .slice none 0 0], .slice none 0 0, .int .i64 10]) (by simp [results, Tryd.results34, go_sem, u0, u1, u2, u3]) rfl ?_
            rw [hRn.out]
            exact ⟨rfl, hb5⟩
          · have hle : Lf.length ≤ bud := by omega
            have hov2 : decide ((bud : Int) < (Lf.length : Int)) = false := decide_eq_false (by omega)
            have hov3 : decide (bud < Lf.length) = false := decide_eq_false hov
            have HIm' := Lib.hid (HIm.out hle)
            obtain ⟨ad, p, c', hA7, hbk, hcell, hi⟩ := (hSS.tabs rfl) k (by omega)
            subst hA7
            rw [hAtx] at hcell hi
            have HM2 := Lib.hid hM
            have HS2 := Lib.hid hSS
            have HD2 := Lib.hid hDj2
            have HR2 := Lib.hid hRo
            have HBk := Lib.hid (HN.out _ hM.fr)
            have Hcell := Lib.hid hcell
            have Hi2 := Lib.hid hi
            have hkLf : (k : Int) < (Lf.length : Int) := by omega
            have hflw : Hid (flagR n (tb L k) = (n.fi.take n.fi.length).any fun z => decide (z ∈ tb L k)) := by show _ = _; rw [List.take_length]; rfl
            have HTf : Hid (∀ j, j < n.fi.length → (n.fi.take (j + 1)).any (fun z => decide (z ∈ tb L k)) = ((n.fi.take j).any (fun z => decide (z ∈ tb L k)) || decide (nd n.fi j ∈ tb L k))) := fun j hj => by
              rw [List.take_add_one, List.getElem?_eq_getElem hj, List.any_append]
              have : nd n.fi j = n.fi[j] := by unfold nd; rw [List.getD_eq_getElem?_getD, List.getElem?_eq_getElem hj]; rfl
              rw [this]
              simp
            have HHi := Lib.hid fun X (z : Int) (hX : Ints X p (tb L k)) => Nf.HasInt_any p (tb L k) c' z X hX hsl6
            clear hM hDj2 hSS hRo HR hov HIo HIm hRw HAf HCi hcell hi hAtx
            generalize hsk : tb L k = sk at *
            clear hsk
            obtain ⟨z0, z1, z2, z3, z4⟩ := Blk.cells HBk.out
            go_upto_region 22 with (go_at_call 73; ((with_reducible refine (HLt.out _).mono ?_); rintro e w3 ⟨rfl, rfl⟩))
            clear z0 z1 z2 z3 z4
            obtain ⟨wf, rfl⟩ : ∃ wf : World, wf = wr := ⟨_, rfl⟩
            go_wp2
            go_loopw [14, 15] (fun fu ju X => ∃ (j : Nat) (q : Bool), fu = .bool q ∧ j ≤ n.fi.length ∧ ju = .int .i64 j ∧ Hid (q = (n.fi.take j).any fun z => decide (z ∈ sk)) ∧ Hid (Below wf.heap.size wf X)) (fun _ ju _ => n.fi.length - (intOf ju).toNat)
            case atStart => exact ⟨0, false, rfl, Nat.zero_le _, rfl, rfl, Below.refl _ _⟩
            case round =>
              obtain ⟨j, q, rfl, hj, rfl, Hq, HbX⟩ := hrel
              obtain ⟨z0, z1, z2, z3, z4⟩ := Blk.cells (Blk.below HBk.out HbX.out)
              by_cases hjt : j < n.fi.length
              · have hjt2 : (j : Int) < (n.fi.length : Int) := by omega
                have hT1 := HTf.out j hjt
                rw [← Hq.out] at hT1
                cases q with
                | true =>
                  have HT1 : Hid (true = (n.fi.take (j + 1)).any fun z => decide (z ∈ sk)) := by show _ = _; rw [hT1]; rfl
                  clear hT1 Hq HHi HTf
                  go_upto_region 25 with fail
                  go_quiet (fail)
                  go_wp2
                  go_roundw
                  case rel => exact ⟨j + 1, true, rfl, by omega, by go_num, HT1, stepB HbX.out (Ap.drewN_below _ _)⟩
                  case measure => simp [intOf]; omega
                | false =>
                  have hbwX := stepB hbM HbX.out
                  obtain ⟨bd, rfl, hc2⟩ := Vals.at_ (HFi.out.below hbwX) hjt
                  have hc1 := (HbX.out.cell (p := ad.add k) (by rw [addr_block]; exact hbk)).trans Hcell.out
                  have HT1 : Hid (decide (nd n.fi j ∈ sk) = (n.fi.take (j + 1)).any fun z => decide (z ∈ sk)) := by show _ = _; rw [hT1]; rfl
                  have HH := Lib.hid fun X (hX : Below wr.heap.size wr X) => HHi.out X (nd n.fi j) (Vals.below Hi2.out (stepB HbX.out hX))
                  clear hT1 Hq HHi HTf
                  generalize decide (nd n.fi j ∈ sk) = dz at *
                  generalize nd n.fi j = fz at *
                  go_upto_region 25 with fail
                  go_quiet (first | (go_at_call 88; exact ((HH.out _ (by first | exact Ap.drewN_below _ _ | exact stepB (Ap.drewN_below _ _) (Ap.drewN_below _ _))).mono (by rintro e w' ⟨rfl, rfl⟩; exact ⟨rfl, _, rfl⟩))))
                  go_wp2
                  go_roundw
                  case rel => exact ⟨j + 1, dz, rfl, by omega, by go_num, HT1, stepB HbX.out (Ap.drewN_below _ _)⟩
                  case measure => simp [intOf]; omega
              · obtain rfl : j = n.fi.length := by omega
                have hMr := HM2.out.below HbX.out
                have hSr := HS2.out.below HbX.out
                have hRr := HR2.out.below HbX.out
                have HFg : Hid (((Lf.take (k + 1)).map (flagR n)) = (L.take k).map (flagR n) ++ [q]) := by
                  have e := HFl.out
                  rw [hflw.out, ← Hq.out] at e
                  exact e
                obtain ⟨x0, x1, x2, x3⟩ := hMr.n.cells
                have hszq := hMr.fr.1
                obtain ⟨Q, eQ, hoQ, hqQ⟩ := hMr.r
                have HOQ := Lib.hid hoQ
                have HRow := Lib.hid fun v' Z (tmp : Obj) ho hg => hMr.row (v := .slice A8 rl.length c8) (l := rl) (rv' := v') (Z := Z) (tmp := tmp) eQ hoQ hqQ hRr ho hg
                have HSet := Lib.hid fun Z (tmp : Obj) rv' u hg hblk hob => sets_row (w := w) (rv' := rv') (X := wr) (Z := Z) (tmp := tmp) (g3 := g3) (v0 := .int .i64 v) (v1 := .int .i64 0) (v2 := rv) (v3 := .slice A5 ((L.take k).map (flagR n)).length c5) hSr hoQ HD2.out hg hblk u hob
                clear eQ hoQ hqQ hSr hRr hMr HFl hflw Hq HHi HTf
                generalize hrw : nums (succR n) L k = rows at *
                generalize hfw : (L.take k).map (flagR n) = fs at *
                have Hrw := Lib.hid hrw
                have Hfw := Lib.hid hfw
                clear hrw hfw
                go_upto_region 27 with (at_builtin; refine wpList_append_own_at _ rfl _ _ 51 rfl wL.heap.size 23 i1 (.slice none 0 0) 1 24 Tryd.underlying51 hi1 hy0 hy1 hy2 rfl (by decide) _ rows.length _ rfl (HOQ.out.alloc _) ⟨wr.heap.size, 0, none⟩ 1 1 [.slice A8 rl.length c8] rfl rfl (cell_one_new _ _ _) (by simp [Value.oneCell']) (by unfold maxLen; omega) (by omega) (by simp; omega) ?_; intro v' w6 hown' hgrow _ hob; obtain ⟨A6, c6, rfl, _⟩ := Ap.own_form hown'; obtain ⟨hblk, hT6⟩ := HRow.out _ w6 _ hown' hgrow; obtain ⟨hS6, hD6⟩ := HSet.out w6 _ (.slice A6 (rows.length + 1) c6) (.slice A6 (rows.length + 1) c6) hgrow hblk hob; have HT6 := Lib.hid hT6; have HS6 := Lib.hid hS6; have HD6 := Lib.hid hD6; have y3 := hblk.cells.2.2.1; have f3 := free_of hblk 2; clear hT6 hS6 hD6 hown' hgrow hob hblk)
                clear x0 x1 x2 x3 y3 f3 HRow HSet HOQ hszq z0 z1 z2 z3 z4
                generalize w6.setCell ⟨g3, 2, none⟩ (.slice A6 (rows.length + 1) c6) = w7 at *
                obtain ⟨x0, x1, x2, x3⟩ := HT6.out.n.cells
                have hsz7 := HT6.out.fr.1
                go_wp2_with (at_builtin; refine wpList_append_own_at _ rfl _ _ 52 rfl wL.heap.size 4 i2 (.bool false) 1 1 Tryd.underlying52 hi2 hx0 hx1 hx2 rfl (by decide) _ fs.length _ rfl (HT6.out.f.alloc _) ⟨w7.heap.size, 0, none⟩ 1 1 [.bool q] rfl rfl (cell_one_new _ _ _) (by simp [Value.oneCell']) (by unfold maxLen; omega) (by omega) (by simp; omega) ?_; intro v' w9 hown' hgrow _ hob; obtain ⟨A9, c9, rfl, _⟩ := Ap.own_form hown'; obtain ⟨hblk, hT9⟩ := HT6.out.fin hown' hgrow; have hS9 := sets_fin HS6.out HT6.out.f hgrow hblk (.slice A9 (fs.length + 1) c9); have HT9 := Lib.hid hT9; have HS9 := Lib.hid hS9; have y4 := hblk.cells.2.2.2; have f4 := free_of hblk 3; clear hT9 hS9 hown' hgrow hob hblk)
                go_roundw
                case rel => exact ⟨k + 1, Lf, _, _, A9, c9, rfl, hKkf, by go_num, hle, HIm', HShm, HElx, by show RefL _ _ _ _ _ _ _ _ _ _; rw [HNs'.out, HFg.out]; exact HT9.out, HS9, HD6⟩
                case measure => simp [intOf]; omega
    · obtain rfl : k = L.length := by omega
      have hRs := HI.out.done (Nat.le_refl _) hLb hLb
      have hM := HM.out
      have hRw := HRb.out _ hM.fr
      have htk : L.take L.length = L := List.take_length
      have hnf2 : ((L.take L.length).map (flagR n)).length = L.length := by rw [htk, List.length_map]
      have hnr2 : (nums (succR n) L L.length).length = L.length := nums_len _ _ _ (Nat.le_refl _)
      obtain ⟨Ar, cr, hrv, _⟩ := hM.r.form
      rw [hnr2] at hrv
      subst hrv
      obtain ⟨y0, y1, y2, y3⟩ := hM.n.cells
      rw [hnf2] at y3
      obtain ⟨⟨p0, f0⟩, ⟨p1, f1⟩, ⟨p2, f2⟩, ⟨p3, f3⟩, hR5, hB5⟩ := store4 hRw (.int .i64 v) (.int .i64 0) (.slice Ar L.length cr) (.slice A5 L.length c5)
      have hO : DaAt (put4 wr (w.heap.size + 1) (.int .i64 v) (.int .i64 0) (.slice Ar L.length cr) (.slice A5 L.length c5)) ⟨n.V, 0, nums (succR n) L L.length, L.map (flagR n)⟩ Ar A5 := by
        refine ⟨?_, ?_⟩
        · exact (hM.r.keep (w' := put4 wr (w.heap.size + 1) (.int .i64 v) (.int .i64 0) (.slice Ar L.length cr) (.slice A5 L.length c5)) hRw (by decide) (by decide) fun b hb => put4_other _ _ _ _ hb).tabs hnr2.symm
        · have hf := hM.f
          rw [hnf2] at hf
          have hf2 := own_eq (w' := put4 wr (w.heap.size + 1) (.int .i64 v) (.int .i64 0) (.slice Ar L.length cr) (.slice A5 L.length c5)) hf fun g hg => put4_other _ _ _ _ (fun e => own_ne hRw hf (by decide) (e ▸ hg))
          rw [htk] at hf2
          exact bools_own hf2 (show L.length = (L.map _).length by rw [List.length_map])
      have hSt := (HS.out.keep (w' := put4 wr (w.heap.size + 1) (.int .i64 v) (.int .i64 0) (.slice Ar L.length cr) (.slice A5 L.length c5)) hRw (by decide) (by decide) fun b hb => put4_other _ _ _ _ hb).tabs rfl
      have HF := Lib.hid (And.intro hR5.cells (And.intro hO (And.intro hSt (hM.b.trans (hB5 w.heap.size (by omega))))))
      have HRs := Lib.hid hRs
      clear hR5 hB5 hO hSt hM HN HRb hRw HFi hnf2 hnr2 htk HM HS HDj HI HSh HLe hRs HAf HLt HCi
      go_wp2
      obtain ⟨⟨u0, u1, u2, u3⟩, hO, hSt, hb5⟩ := HF.out
      unfold put4 at u0 u1 u2 u3 hO hSt hb5
      refine bodyPost_ret (v := .tuple #[.agg #[.int .i64 v, .int .i64 0, .slice Ar L.length cr, .slice A5 L.length c5], .slice As L.length cs, .int .i64 0]) (by simp [results, Tryd.results34, go_sem, u0, u1, u2, u3]) rfl ?_
      rw [HRs.out]
      exact ⟨_, _, _, _, _, _, by rw [HV.out], hO, hSt, hb5⟩
end
end Go.Proofs.YtlaagjmfgaccjaaDoor.Sb
