/- The kit's OverInts, OverBools, OverRows, OverDFA, OverEdges, OverNFA: they write their own rows alone. -/
import Derived.Test.YtkgeihambgbjdaaDoorPF
namespace Go.Proofs.YtkgeihambgbjdaaDoor.Sb
open Go Go.RowKit Go.Proofs.YtkgeihambgbjdaaDoor Go.Proofs.YtkgeihambgbjdaaDoor.Cb
open Go.Proofs.YtkgeihambgbjdaaDoor.Nf (zvs)
open Go.Proofs.YtkgeihambgbjdaaDoor.Dg (Tabs tb tb_mem CanI)
set_option linter.unusedVariables false
set_option linter.unusedSimpArgs false
set_option maxRecDepth 100000
theorem OverInts_keep (K : World → Prop) (B : Nat) (A : Option Addr) (n c : Nat) (w : World) (hn : n ≤ 1000000) (hw : CanI B w A n) (h0 : K w) (hK : ∀ X (ad : Addr) j v, A = some ad → j < n → K X → K (X.setCell (ad.add j) v)) :
    Calls Tryd.prog 23 #[.slice A n c] w fun e w' => e = .returned (.tuple #[]) ∧ Below B w w' ∧ K w' ∧ w'.heap.size = w.heap.size := by
  have HK := Lib.hid hK
  have H0 : Hid (K w) := h0
  clear hK h0
  go_enter Tryd.func23, Tryd.ntmps23
  go_wp2
  go_loopw [2] (fun i wr => ∃ k : Nat, k ≤ n ∧ i = .int .i64 k ∧ CanI B wr A n ∧ Below B w wr ∧ Hid (K wr) ∧ Hid (wr.heap.size = w.heap.size)) (fun i _ => n - (intOf i).toNat)
  case atStart => exact ⟨0, by omega, rfl, hw, Below.refl _ _, H0, rfl⟩
  case round =>
    clear hw H0
    obtain ⟨k, hk, rfl, hw, hb, hKw, hsz⟩ := hrel
    by_cases hlt : k < n
    · obtain ⟨ad, rfl, g1, g2, u, g3⟩ := hw k hlt
      have hb2 := hb.setCell (p := ad.add k) (by rw [addr_block]; exact g1) (.int .i64 (-77))
      have hw2 := hw.set (ad.add k) (.int .i64 (-77))
      have hK2 : Hid (K (wr.setCell (ad.add k) (.int .i64 (-77)))) := HK.out wr ad k _ rfl hlt hKw.out
      have hs2 : Hid ((wr.setCell (ad.add k) (.int .i64 (-77))).heap.size = w.heap.size) := by show _ = _; rw [size_put]; exact hsz.out
      clear hb hw g1 hKw HK hsz
      go_wp2
      go_roundw
      case rel => exact ⟨k + 1, by omega, by go_num, hw2, hb2, hK2, hs2⟩
      case measure => simp [intOf]; omega
    · obtain rfl : k = n := by omega
      go_wp2
      go_end0
      exact ⟨rfl, hb, hKw.out, hsz.out⟩
/-- Each of the n bools at A may be overwritten; they lie in no block below B. -/
def CanT (B : Nat) (w : World) (A : Option Addr) (n : Nat) : Prop :=
  ∀ j, j < n → ∃ ad, A = some ad ∧ B ≤ ad.block ∧ w.frozen? (ad.add j) = false ∧ ∃ u, w.cell? (ad.add j) = some (.bool u)
theorem CanT.set {B : Nat} {w : World} {A : Option Addr} {n : Nat} (h : CanT B w A n) (p : Addr) (v : Bool) : CanT B (w.setCell p (.bool v)) A n := by
  intro j hj
  obtain ⟨ad, e, h1, h2, u, h4⟩ := h j hj
  refine ⟨ad, e, h1, by rw [World.frozen?_setCell]; exact h2, ?_⟩
  by_cases hp : p = ad.add j
  · subst hp
    exact ⟨v, World.cell?_setCell_same _ _ _ h4⟩
  · exact ⟨u, by rw [World.cell?_setCell_other _ _ _ _ hp]; exact h4⟩
theorem CanT.put {B : Nat} {w : World} {A : Option Addr} {n : Nat} (h : CanT B w A n) (p : Addr) (v : Value) (hp : ∀ ad, A = some ad → p.block ≠ ad.block) : CanT B (w.setCell p v) A n := by
  intro j hj
  obtain ⟨ad, e, h1, h2, u, h4⟩ := h j hj
  refine ⟨ad, e, h1, by rw [World.frozen?_setCell]; exact h2, u, ?_⟩
  rw [World.cell?_setCell_other _ _ _ _ (fun e2 => hp ad e (by rw [e2, addr_block]))]
  exact h4
theorem CanT.own {B : Nat} {w : World} {e n c : Nat} {A : Option Addr} {l : List Bool} (h : w.ownsRow B e 1 (.slice A n c) n (l.map Value.bool)) : CanT B w A n := by
  intro j hj
  obtain ⟨g, c', hv, hg⟩ := Dg.own_somev h (by omega)
  injection hv with hA _ hc
  subst hA hc
  have hx : j < (l.map Value.bool).length := by have := h.1; omega
  have hx2 : j < l.length := by simpa using hx
  refine ⟨_, rfl, hg, ?_, l[j], ?_⟩
  · rw [addr_add]; exact h.frozenAt j
  · rw [addr_add, h.cellAt j (by omega), List.getElem?_eq_getElem hx, List.getElem_map]
theorem OverBools_keep (K : World → Prop) (B : Nat) (A : Option Addr) (n c : Nat) (w : World) (hn : n ≤ 1000000) (hw : CanT B w A n) (h0 : K w) (hK : ∀ X (ad : Addr) j v, A = some ad → j < n → K X → K (X.setCell (ad.add j) v)) :
    Calls Tryd.prog 48 #[.slice A n c] w fun e w' => e = .returned (.tuple #[]) ∧ Below B w w' ∧ K w' := by
  have HK := Lib.hid hK
  have H0 : Hid (K w) := h0
  clear hK h0
  go_enter Tryd.func48, Tryd.ntmps48
  go_wp2
  go_loopw [2] (fun i wr => ∃ k : Nat, k ≤ n ∧ i = .int .i64 k ∧ CanT B wr A n ∧ Below B w wr ∧ Hid (K wr)) (fun i _ => n - (intOf i).toNat)
  case atStart => exact ⟨0, by omega, rfl, hw, Below.refl _ _, H0⟩
  case round =>
    clear hw H0
    obtain ⟨k, hk, rfl, hw, hb, hKw⟩ := hrel
    by_cases hlt : k < n
    · obtain ⟨ad, rfl, g1, g2, u, g3⟩ := hw k hlt
      have hb2 := hb.setCell (p := ad.add k) (by rw [addr_block]; exact g1) (.bool !u)
      have hw2 := hw.set (ad.add k) (!u)
      have hK2 : Hid (K (wr.setCell (ad.add k) (.bool !u))) := HK.out wr ad k _ rfl hlt hKw.out
      clear hb hw g1 hKw HK
      go_wp2
      go_roundw
      case rel => exact ⟨k + 1, by omega, by go_num, hw2, hb2, hK2⟩
      case measure => simp [intOf]; omega
    · obtain rfl : k = n := by omega
      go_wp2
      go_end0
      exact ⟨rfl, hb, hKw.out⟩
/-- Each of the n rows at A may be overwritten; they lie in blocks of I, which has not that of A. -/
def CanR (I : Nat → Prop) (B : Nat) (w : World) (A : Option Addr) (n : Nat) : Prop :=
  ∀ k, k < n → ∃ ad p m c, A = some ad ∧ ¬ I ad.block ∧ w.cell? (ad.add k) = some (.slice p m c) ∧ m ≤ 1000000 ∧ CanI B w p m ∧ ∀ a, p = some a → 0 < m → I a.block
theorem CanR.set {I : Nat → Prop} {B : Nat} {w : World} {A : Option Addr} {n : Nat} (h : CanR I B w A n) (p : Addr) (v : Value) (hp : ∀ ad, A = some ad → p.block ≠ ad.block) : CanR I B (w.setCell p v) A n := by
  intro k hk
  obtain ⟨ad, q, m, c, e, h0, h1, h2, h3, h4⟩ := h k hk
  refine ⟨ad, q, m, c, e, h0, ?_, h2, h3.set p v, h4⟩
  rw [World.cell?_setCell_other _ _ _ _ (fun e2 => hp ad e (by rw [e2, addr_block]))]
  exact h1
theorem CanR.out {I : Nat → Prop} {B : Nat} {w : World} {A : Option Addr} {n : Nat} (h : CanR I B w A n) (hn : 0 < n) {ad : Addr} (e : A = some ad) : ¬ I ad.block := by
  obtain ⟨ad', _, _, _, e', h0, _⟩ := h 0 hn
  rw [e] at e'
  cases e'
  exact h0
/-- The blocks that hold cells of a type. -/
def TyB (w : World) (t : TypeId) (b : Nat) : Prop := ∃ cs fz, w.heap[b]? = some (.cells cs t fz)
theorem TyB.of_own {w : World} {B e size n : Nat} {v : Value} {xs : List Value} (h : w.ownsRow B e size v n xs) {g : Nat} (hg : v.ownBlock = some g) : TyB w e g := by
  rcases h.2 with ⟨rfl, _⟩ | ⟨g', cap, cur, rfl, h2, h3, _⟩
  · cases hg
  · cases hg
    exact ⟨_, _, h3⟩
theorem TyB.other {w : World} {t t' : TypeId} {b : Nat} (h : TyB w t b) (ht : t ≠ t') : ¬ TyB w t' b := by
  rintro ⟨cs, fz, h2⟩
  obtain ⟨cs', fz', h1⟩ := h
  rw [h1] at h2
  cases h2
  exact ht rfl
theorem SetsO.can {B : Nat} {w : World} {A : Option Addr} {n c : Nat} {L : List (List Int)} (h : SetsO B w (.slice A n c) L) (hn : n = L.length) (hL : ∀ l ∈ L, l.length ≤ 1000000) : CanR (TyB w 3) B w A n := by
  subst hn
  obtain ⟨Q, e, ho, hq⟩ := h
  have hl : Q.length = L.length := by rw [← e, List.length_map]
  intro k hk
  have hkQ : k < Q.length := by omega
  have hx : (Q.map fun q => q.1)[k]? = some Q[k].1 := by rw [List.getElem?_map, List.getElem?_eq_getElem hkQ]; rfl
  obtain ⟨ad, hA, hlt, hc, hown⟩ := row_at ho hk hx
  have h3 := hq Q[k] (List.getElem_mem hkQ)
  obtain ⟨p, cp, ep, _⟩ := Ap.own_form h3
  refine ⟨ad, p, Q[k].2.length, cp, hA, (TyB.of_own ho hown).other (by decide), by rw [hc, ep], ?_, ?_, fun a ha hm => ?_⟩
  · exact hL _ (by rw [← e]; exact List.mem_map.2 ⟨_, List.getElem_mem hkQ, rfl⟩)
  · rw [ep] at h3
    exact CanI.own h3
  · rw [ep] at h3
    refine TyB.of_own h3 ?_
    rw [ha]; rfl
theorem RowsO.sets {B : Nat} {w : World} {rv : Value} {L : List (List Int)} {C : Nat → Prop} (h : RowsO B w rv L C) (hL : ∀ l ∈ L, l.length ≤ 1000000) : SetsO B w rv L := by
  obtain ⟨Q, e, ho, hq⟩ := h
  refine ⟨Q.map fun q => (.slice (some ⟨q.1, 0, none⟩) q.2.length q.2.length, q.2), by rw [List.map_map]; exact e, ?_, fun q h1 => ?_⟩
  · rw [List.map_map]; exact ho
  · obtain ⟨r, hr, rfl⟩ := List.mem_map.1 h1
    obtain ⟨h2, _, h3⟩ := hq r hr
    have hr2 : r.2.length ≤ 1000000 := hL _ (by rw [← e]; exact List.mem_map.2 ⟨_, hr, rfl⟩)
    have hz : (zvs r.2).length = r.2.length := by simp [zvs]
    refine ⟨by rw [hz, Nat.mul_one], .inr ⟨r.1, r.2.length, _, rfl, h2, h3, Nat.le_refl _, by unfold maxLen; omega, by simp [hz], ?_⟩⟩
    show (zvs r.2).take (r.2.length * 1) = zvs r.2
    rw [List.take_of_length_le (by rw [hz]; omega)]
set_option maxHeartbeats 2000000 in
theorem OverRows_keep (K : World → Prop) (I : Nat → Prop) (B : Nat) (A : Option Addr) (n c : Nat) (w : World) (hn : n ≤ 1000000) (hw : CanR I B w A n) (h0 : K w) (hK : ∀ X p v, I p.block → K X → K (X.setCell p v)) :
    Calls Tryd.prog 47 #[.slice A n c] w fun e w' => e = .returned (.tuple #[]) ∧ Below B w w' ∧ K w' := by
  have HK := Lib.hid hK
  have H0 : Hid (K w) := h0
  have HW := Lib.hid hw
  clear hK h0 hw
  go_enter Tryd.func47, Tryd.ntmps47
  go_wp2
  go_loopw [2] (fun i wr => ∃ k : Nat, k ≤ n ∧ i = .int .i64 k ∧ Hid (CanR I B wr A n) ∧ Below B w wr ∧ Hid (K wr)) (fun i _ => n - (intOf i).toNat)
  case atStart => exact ⟨0, by omega, rfl, HW, Below.refl _ _, H0⟩
  case round =>
    clear HW H0
    obtain ⟨k, hk, rfl, hw, hb, hKw⟩ := hrel
    by_cases hlt : k < n
    · obtain ⟨ad, p, m, c', rfl, g0, g1, g2, g3, g4⟩ := hw.out k hlt
      have HO := Lib.hid (OverInts_keep (fun X => K X ∧ CanR I B X (some ad) n) B p m c' wr g2 g3 ⟨hKw.out, hw.out⟩ (fun X a j v ha hj hX => by
        have hI := g4 a ha (by omega)
        refine ⟨HK.out X _ v (by rw [addr_block]; exact hI) hX.1, hX.2.set _ v fun ad' e => ?_⟩
        cases e
        rw [addr_block]
        exact fun e2 => g0 (e2 ▸ hI)))
      clear hKw hw HK g0 g2 g3 g4
      go_wp2_with (go_at_call 23; ((with_reducible refine HO.out.mono ?_); rintro e w5 ⟨rfl, hb5, hK5, _⟩))
      go_roundw
      case rel => exact ⟨k + 1, by omega, by go_num, hK5.2, hb.trans hb5, hK5.1⟩
      case measure => simp [intOf]; omega
    · obtain rfl : k = n := by omega
      go_wp2
      go_end0
      exact ⟨rfl, hb, hKw.out⟩
theorem cell_at {w : World} {p : Addr} {u : Value} (h : w.cell? p = some u) : p.block < w.heap.size := World.block_lt_of_cell? w _ h
theorem froz_below {w Y : World} (hb : Below w.heap.size w Y) {p : Addr} (hp : p.block < w.heap.size) : Y.frozen? p = w.frozen? p := by
  unfold World.frozen?
  rw [hb.block p.block hp]
theorem canI_below {B : Nat} {w Y : World} {A : Option Addr} {n : Nat} (h : CanI B w A n) (hb : Below w.heap.size w Y) : CanI B Y A n := fun j hj => by
  obtain ⟨ad, e, h1, h2, u, h3⟩ := h j hj
  exact ⟨ad, e, h1, by rw [froz_below hb (cell_at h3)]; exact h2, u, (hb.cell (cell_at h3)).trans h3⟩
theorem CanT.below {B : Nat} {w Y : World} {A : Option Addr} {n : Nat} (h : CanT B w A n) (hb : Below w.heap.size w Y) : CanT B Y A n := fun j hj => by
  obtain ⟨ad, e, h1, h2, u, h3⟩ := h j hj
  exact ⟨ad, e, h1, by rw [froz_below hb (cell_at h3)]; exact h2, u, (hb.cell (cell_at h3)).trans h3⟩
theorem CanR.below {I : Nat → Prop} {B : Nat} {w Y : World} {A : Option Addr} {n : Nat} (h : CanR I B w A n) (hb : Below w.heap.size w Y) : CanR I B Y A n := fun k hk => by
  obtain ⟨ad, q, m, c, e, h0, h1, h2, h3, h4⟩ := h k hk
  exact ⟨ad, q, m, c, e, h0, (hb.cell (cell_at h1)).trans h1, h2, canI_below h3 hb, h4⟩
set_option maxHeartbeats 2000000 in
theorem OverDFA_keep (K : World → Prop) (I : Nat → Prop) (B : Nat) (V q0 : Int) (A A' : Option Addr) (n m a b : Nat) (w : World) (hn : n ≤ 1000000) (hm : m ≤ 1000000) (hB : B ≤ w.heap.size) (hr : CanR I B w A n) (hf : CanT B w A' m) (hI : ∀ a, A' = some a → 0 < m → ¬ I a.block) (hIl : ∀ b, I b → b < w.heap.size) (h0 : K w) (hKb : ∀ X Y, Below X.heap.size X Y → K X → K Y) (hK : ∀ X p v, I p.block → K X → K (X.setCell p v)) (hK' : ∀ X (ad : Addr) j v, A' = some ad → j < m → K X → K (X.setCell (ad.add j) v)) :
    Calls Tryd.prog 22 #[.agg #[.int .i64 V, .int .i64 q0, .slice A n a, .slice A' m b]] w fun e w' => e = .returned (.tuple #[]) ∧ Below B w w' ∧ K w' := by
  have hb0 := bal (Below.refl w.heap.size w) (.cells #[.int .i64 V, .int .i64 q0, .slice A n a, .slice A' m b] 25)
  have hG0 := Blk4.new w (.int .i64 V) (.int .i64 q0) (.slice A n a) (.slice A' m b)
  have hr1 := hr.below hb0
  have hf1 := hf.below hb0
  have hK1 := hKb _ _ hb0 h0
  have HR := Lib.hid fun X (hrX : CanR I B X A n) (hfX : CanT B X A' m) (hKX : K X) (hGX : Blk4 X w.heap.size (.int .i64 V) (.int .i64 q0) (.slice A n a) (.slice A' m b)) => OverRows_keep (fun Y => K Y ∧ CanT B Y A' m ∧ Blk4 Y w.heap.size (.int .i64 V) (.int .i64 q0) (.slice A n a) (.slice A' m b)) I B A n a X hn hrX ⟨hKX, hfX, hGX⟩ (fun Y p v hp hY => ⟨hK Y p v hp hY.1, (by
    by_cases h : 0 < m
    · exact hY.2.1.put p v fun ad e e2 => hI ad e h (e2 ▸ hp)
    · intro j hj; omega), (Below.heap_setCell _ _ _ _ (fun e => by have := hIl _ hp; omega)).trans hY.2.2⟩)
  have HF := Lib.hid fun X (hfX : CanT B X A' m) (hKX : K X) => OverBools_keep K B A' m b X hm hfX hKX hK'
  have hbB : Below B w (w.alloc (.cells #[.int .i64 V, .int .i64 q0, .slice A n a, .slice A' m b] 25)) := Below.mono hb0 hB
  clear hr hf h0 hb0 hKb hK hK' hI hIl
  obtain ⟨z0, z1, z2, z3⟩ := hG0.cells
  go_enter Tryd.func22, Tryd.ntmps22
  go_wp2_with (first
    | (go_at_call 47; ((with_reducible refine (HR.out _ hr1 hf1 hK1 hG0).mono ?_); rintro e w2 ⟨rfl, hb2, hK2, hf2, hG2⟩); clear z0 z1 z2 z3; obtain ⟨z0, z1, z2, z3⟩ := hG2.cells)
    | (go_at_call 48; ((with_reducible refine (HF.out _ hf2 hK2).mono ?_); rintro e w3 ⟨rfl, hb3, hK3⟩)))
  go_end0
  exact ⟨rfl, (hbB.trans hb2).trans hb3, hK3⟩
end Go.Proofs.YtkgeihambgbjdaaDoor.Sb
