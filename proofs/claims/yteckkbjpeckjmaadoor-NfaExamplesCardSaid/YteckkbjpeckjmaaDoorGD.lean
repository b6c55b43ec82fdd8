/- renumbered (package nfa), with Union's numbering. -/
import Derived.Test.YteckkbjpeckjmaaDoorGC
import Derived.Deep.DeepCutAuto
namespace Go.Proofs.YteckkbjpeckjmaaDoor.Nf
open Go Go.RowKit Go.Proofs.YteckkbjpeckjmaaDoor Go.Proofs.YteckkbjpeckjmaaDoor.Cb
set_option linter.unusedVariables false
set_option linter.unusedSimpArgs false
set_option maxRecDepth 100000
/-- Behind the first statement of renumbered. -/
structure RenP (w : World) (n : Na) (A B C : Option Addr) (a b c : Nat) (S T : Int) (ba b3 : Nat) (A1 B1 : Option Addr) (a1 b1 : Nat) (Y : World) : Prop where
  bel : Below w.heap.size w Y
  nb : Blk Y w.heap.size (.int .i64 n.V) (.int .i64 n.S) (.slice A n.st.length a) (.slice B n.fi.length b) (.slice C n.es.length c)
  fb : Boxed Y (w.heap.size + 1) 76 (.func (.func 43) #[] #[.pointer (some ⟨ba, 0, none⟩)])
  rb : Blk Y (w.heap.size + 2) (.int .i64 0) (.int .i64 0) (.slice none 0 0) (.slice none 0 0) (.slice none 0 0)
  r8 : Blk Y b3 (.int .i64 n.V) (.int .i64 T) (.slice A1 n.st.length a1) (.slice B1 n.fi.length b1) (.slice none 0 0)
  lt3 : w.heap.size + 2 < b3
  o1 : Y.ownsRow w.heap.size 3 1 (.slice A1 n.st.length a1) n.st.length (zvs (n.st.map (· + S)))
  o2 : Y.ownsRow w.heap.size 3 1 (.slice B1 n.fi.length b1) n.fi.length (zvs (n.fi.map (· + S)))
/-- The first k edges are renumbered. -/
structure RenQ (w : World) (n : Na) (A B C : Option Addr) (a b c : Nat) (S T : Int) (ba b3 : Nat) (A1 B1 : Option Addr) (a1 b1 : Nat) (C1 : Option Addr) (c1 k : Nat) (Y : World) : Prop where
  bel : Below w.heap.size w Y
  nb : Blk Y w.heap.size (.int .i64 n.V) (.int .i64 n.S) (.slice A n.st.length a) (.slice B n.fi.length b) (.slice C n.es.length c)
  fb : Boxed Y (w.heap.size + 1) 76 (.func (.func 43) #[] #[.pointer (some ⟨ba, 0, none⟩)])
  rb : Blk Y (w.heap.size + 2) (.int .i64 0) (.int .i64 0) (.slice none 0 0) (.slice none 0 0) (.slice none 0 0)
  r8 : Blk Y b3 (.int .i64 n.V) (.int .i64 T) (.slice A1 n.st.length a1) (.slice B1 n.fi.length b1) (.slice C1 k c1)
  lt3 : w.heap.size + 2 < b3
  o1 : Y.ownsRow w.heap.size 3 1 (.slice A1 n.st.length a1) n.st.length (zvs (n.st.map (· + S)))
  o2 : Y.ownsRow w.heap.size 3 1 (.slice B1 n.fi.length b1) n.fi.length (zvs (n.fi.map (· + S)))
  o3 : Y.ownsRow w.heap.size 30 4 (.slice C1 k c1) k (evs ((n.es.take k).map (shiftE S)))
theorem RenP.start {w : World} {n : Na} {A B C : Option Addr} {a b c : Nat} {S T : Int} {ba b3 : Nat} {A1 B1 : Option Addr} {a1 b1 : Nat} {Y : World} (h : RenP w n A B C a b c S T ba b3 A1 B1 a1 b1 Y) : RenQ w n A B C a b c S T ba b3 A1 B1 a1 b1 none 0 0 Y :=
  ⟨h.bel, h.nb, h.fb, h.rb, h.r8, h.lt3, h.o1, h.o2, ⟨rfl, .inl ⟨rfl, rfl⟩⟩⟩
theorem row_ne {w : World} {B B' e e' size size' n n' : Nat} {v v' : Value} {xs xs' : List Value} (h : w.ownsRow B e size v n xs) (h' : w.ownsRow B' e' size' v' n' xs') (he : e ≠ e') : v.ownBlock = none ∨ v.ownBlock ≠ v'.ownBlock := by
  rcases h.2 with ⟨rfl, _⟩ | ⟨g, cap, cur, rfl, _, hg, _⟩
  · exact .inl rfl
  · right
    intro hv
    rcases h'.2 with ⟨rfl, _⟩ | ⟨g', cap', cur', rfl, _, hg', _⟩
    · simp [Value.ownBlock] at hv
    · obtain rfl : g = g' := by simpa [Value.ownBlock] using hv
      rw [hg] at hg'
      cases hg'
      exact he rfl
theorem RenQ.below {w : World} {n : Na} {A B C : Option Addr} {a b c : Nat} {S T : Int} {ba b3 : Nat} {A1 B1 : Option Addr} {a1 b1 : Nat} {C1 : Option Addr} {c1 k : Nat} {Y Z : World} (h : RenQ w n A B C a b c S T ba b3 A1 B1 a1 b1 C1 c1 k Y) (hb : Below Y.heap.size Y Z) : RenQ w n A B C a b c S T ba b3 A1 B1 a1 b1 C1 c1 k Z :=
  ⟨stepB h.bel hb, h.nb.below hb, h.fb.below hb, h.rb.below hb, h.r8.below hb, h.lt3, h.o1.below hb, h.o2.below hb, h.o3.below hb⟩
theorem RenQ.more {w : World} {n : Na} {A B C : Option Addr} {a b c : Nat} {S T : Int} {ba b3 : Nat} {A1 B1 : Option Addr} {a1 b1 : Nat} {C1 C2 : Option Addr} {c1 c2 k : Nat} {Y Z : World} (h : RenQ w n A B C a b c S T ba b3 A1 B1 a1 b1 C1 c1 k Y)
    (hg : Y.grownBy Z (Value.slice C1 k c1).ownBlock) (hk : k < n.es.length) (ho : Z.ownsRow w.heap.size 30 4 (.slice C2 (k + 1) c2) (k + 1) (evs ((n.es.take k).map (shiftE S)) ++ ev (shiftE S (ed n.es k)))) :
    Blk Z b3 (.int .i64 n.V) (.int .i64 T) (.slice A1 n.st.length a1) (.slice B1 n.fi.length b1) (.slice C1 k c1) ∧ RenQ w n A B C a b c S T ba b3 A1 B1 a1 b1 C2 c2 (k + 1) (Z.setCell ⟨b3, 4, none⟩ (.slice C2 (k + 1) c2)) := by
  have hb : ∀ {g : Nat} {u0 u1 u2 u3 u4 : Value}, Blk Y g u0 u1 u2 u3 u4 → Blk Z g u0 u1 u2 u3 u4 := fun {g u0 u1 u2 u3 u4} hB => (hg.block g hB.lt (fun e => hB.ne_row h.o3 (by decide) e.symm)).trans hB
  have hB3 := hb h.r8
  have hne : ∀ g, g ≠ b3 → (Z.setCell ⟨b3, 4, none⟩ (.slice C2 (k + 1) c2)).heap[g]? = Z.heap[g]? := fun g hgb => Below.heap_setCell _ _ _ g hgb
  have hlt := h.lt3
  have hbel : Below w.heap.size w Z := h.bel.grown hg h.bel.size (fun q hq => (h.o3.lt q hq).1)
  refine ⟨hB3, hbel.setCell (p := ⟨b3, 4, none⟩) (by show w.heap.size ≤ b3; omega) _, (hne _ (by omega)).trans (hb h.nb), ?_, (hne _ (by omega)).trans (hb h.rb), hB3.set4 _, h.lt3, ?_, ?_, ?_⟩
  · refine (hne _ (by omega)).trans ((hg.block _ h.fb.lt (fun e => ?_)).trans h.fb)
    rcases h.o3.2 with ⟨h0, _⟩ | ⟨g, cap, cur, hv, _, hgc, _⟩
    · cases h0
      simp [Value.ownBlock] at e
    · rw [hv] at e
      obtain rfl : w.heap.size + 1 = g := by simpa [Value.ownBlock] using e
      have := h.fb
      unfold Boxed at this
      rw [hgc] at this
      cases this
  · exact row_set (h.o1.kept hg (row_ne h.o1 h.o3 (by decide))) (hB3.ne_row (h.o1.kept hg (row_ne h.o1 h.o3 (by decide))) (by decide)) 4 _
  · exact row_set (h.o2.kept hg (row_ne h.o2 h.o3 (by decide))) (hB3.ne_row (h.o2.kept hg (row_ne h.o2 h.o3 (by decide))) (by decide)) 4 _
  · have ht : (n.es.take (k + 1)).map (shiftE S) = (n.es.take k).map (shiftE S) ++ [shiftE S (ed n.es k)] := by
      have hx : ed n.es k = n.es[k] := by unfold ed; rw [List.getD_eq_getElem?_getD, List.getElem?_eq_getElem hk]; rfl
      rw [List.take_succ_eq_append_getElem hk, List.map_append, hx]
      rfl
    rw [ht, evs_snoc]
    exact row_set ho (hB3.ne_row ho (by decide)) 4 _
set_option maxHeartbeats 8000000 in
theorem renumbered_any (n : Na) (A B C : Option Addr) (a b c : Nat) (S T : Int) (ba : Nat) (w : World) (hx : NaAt w n A B C) (hl : NaLen n) (hO : Ok n) (h2 : 0 ≤ S ∧ S ≤ 1000) (hba : ba < w.heap.size) (hS : w.cell? ⟨ba, 1, none⟩ = some (.int .i64 S)) :
    Calls Tryd.prog 41 #[.agg #[.int .i64 n.V, .int .i64 n.S, .slice A n.st.length a, .slice B n.fi.length b, .slice C n.es.length c], .int .i64 T, .func (.func 43) #[] #[.pointer (some ⟨ba, 0, none⟩)]] w fun e w' =>
      ∃ A' B' C' a' b' c', e = .returned (.agg #[.int .i64 n.V, .int .i64 T, .slice A' n.st.length a', .slice B' n.fi.length b', .slice C' n.es.length c']) ∧ Below w.heap.size w w' ∧
        w'.ownsRow w.heap.size 3 1 (.slice A' n.st.length a') n.st.length (zvs (n.st.map (· + S))) ∧ w'.ownsRow w.heap.size 3 1 (.slice B' n.fi.length b') n.fi.length (zvs (n.fi.map (· + S))) ∧ w'.ownsRow w.heap.size 30 4 (.slice C' n.es.length c') n.es.length (evs (n.es.map (shiftE S))) := by
  have hba0 := hba
  have HL := Lib.hid fun z (hz : z ∈ n.st) => asc_in hO.st hz
  have HL2 := Lib.hid fun z (hz : z ∈ n.fi) => asc_in hO.fi hz
  have hs64 := hO.s64
  have hB0 := bal (bal (bal (Below.refl w.heap.size w) (.cells #[.int .i64 n.V, .int .i64 n.S, .slice A n.st.length a, .slice B n.fi.length b, .slice C n.es.length c] 26)) (.cells #[.func (.func 43) #[] #[.pointer (some ⟨ba, 0, none⟩)]] 76)) (.cells #[.int .i64 0, .int .i64 0, .slice none 0 0, .slice none 0 0, .slice none 0 0] 26)
  have hN0 := ((Blk.new w (.int .i64 n.V) (.int .i64 n.S) (.slice A n.st.length a) (.slice B n.fi.length b) (.slice C n.es.length c)).below (bal (Below.refl _ _) (.cells #[.func (.func 43) #[] #[.pointer (some ⟨ba, 0, none⟩)]] 76))).below (bal (Below.refl _ _) (.cells #[.int .i64 0, .int .i64 0, .slice none 0 0, .slice none 0 0, .slice none 0 0] 26))
  have hF0 := (Boxed.new (w.alloc (.cells #[.int .i64 n.V, .int .i64 n.S, .slice A n.st.length a, .slice B n.fi.length b, .slice C n.es.length c] 26)) 76 (.func (.func 43) #[] #[.pointer (some ⟨ba, 0, none⟩)])).below (bal (Below.refl _ _) (.cells #[.int .i64 0, .int .i64 0, .slice none 0 0, .slice none 0 0, .slice none 0 0] 26))
  have hR0 := Blk.new ((w.alloc (.cells #[.int .i64 n.V, .int .i64 n.S, .slice A n.st.length a, .slice B n.fi.length b, .slice C n.es.length c] 26)).alloc (.cells #[.func (.func 43) #[] #[.pointer (some ⟨ba, 0, none⟩)]] 76)) (.int .i64 0) (.int .i64 0) (.slice none 0 0) (.slice none 0 0) (.slice none 0 0)
  simp only [World.size_alloc] at hF0 hR0
  have hsz : (((w.alloc (.cells #[.int .i64 n.V, .int .i64 n.S, .slice A n.st.length a, .slice B n.fi.length b, .slice C n.es.length c] 26)).alloc (.cells #[.func (.func 43) #[] #[.pointer (some ⟨ba, 0, none⟩)]] 76)).alloc (.cells #[.int .i64 0, .int .i64 0, .slice none 0 0, .slice none 0 0, .slice none 0 0] 26)).heap.size = w.heap.size + 1 + 1 + 1 := by simp
  have H1 := Lib.hid fun X (hX : Below w.heap.size w X) hf => list_any A n.st a S ba (w.heap.size + 1) X (hx.st.below hX) hl.st (fun z hz => by have := HL.out z hz; omega) h2 (Nat.lt_of_lt_of_le hba hX.size) (World.block_lt_of_cell? X _ hf) ((hX.cell (p := ⟨ba, 1, none⟩) hba).trans hS) hf
  have H2 := Lib.hid fun X (hX : Below w.heap.size w X) hf => list_any B n.fi b S ba (w.heap.size + 1) X (hx.fi.below hX) hl.fi (fun z hz => by have := HL2.out z hz; omega) h2 (Nat.lt_of_lt_of_le hba hX.size) (World.block_lt_of_cell? X _ hf) ((hX.cell (p := ⟨ba, 1, none⟩) hba).trans hS) hf
  have hba0 := hba
  have HL := Lib.hid fun z (hz : z ∈ n.st) => asc_in hO.st hz
  have HL2 := Lib.hid fun z (hz : z ∈ n.fi) => asc_in hO.fi hz
  have hs64 := hO.s64
  have hB0 := bal (bal (bal (Below.refl w.heap.size w) (.cells #[.int .i64 n.V, .int .i64 n.S, .slice A n.st.length a, .slice B n.fi.length b, .slice C n.es.length c] 26)) (.cells #[.func (.func 43) #[] #[.pointer (some ⟨ba, 0, none⟩)]] 76)) (.cells #[.int .i64 0, .int .i64 0, .slice none 0 0, .slice none 0 0, .slice none 0 0] 26)
  have hN0 := ((Blk.new w (.int .i64 n.V) (.int .i64 n.S) (.slice A n.st.length a) (.slice B n.fi.length b) (.slice C n.es.length c)).below (bal (Below.refl _ _) (.cells #[.func (.func 43) #[] #[.pointer (some ⟨ba, 0, none⟩)]] 76))).below (bal (Below.refl _ _) (.cells #[.int .i64 0, .int .i64 0, .slice none 0 0, .slice none 0 0, .slice none 0 0] 26))
  have hF0 := (Boxed.new (w.alloc (.cells #[.int .i64 n.V, .int .i64 n.S, .slice A n.st.length a, .slice B n.fi.length b, .slice C n.es.length c] 26)) 76 (.func (.func 43) #[] #[.pointer (some ⟨ba, 0, none⟩)])).below (bal (Below.refl _ _) (.cells #[.int .i64 0, .int .i64 0, .slice none 0 0, .slice none 0 0, .slice none 0 0] 26))
  have hR0 := Blk.new ((w.alloc (.cells #[.int .i64 n.V, .int .i64 n.S, .slice A n.st.length a, .slice B n.fi.length b, .slice C n.es.length c] 26)).alloc (.cells #[.func (.func 43) #[] #[.pointer (some ⟨ba, 0, none⟩)]] 76)) (.int .i64 0) (.int .i64 0) (.slice none 0 0) (.slice none 0 0) (.slice none 0 0)
  simp only [World.size_alloc] at hF0 hR0
  have hsz : (((w.alloc (.cells #[.int .i64 n.V, .int .i64 n.S, .slice A n.st.length a, .slice B n.fi.length b, .slice C n.es.length c] 26)).alloc (.cells #[.func (.func 43) #[] #[.pointer (some ⟨ba, 0, none⟩)]] 76)).alloc (.cells #[.int .i64 0, .int .i64 0, .slice none 0 0, .slice none 0 0, .slice none 0 0] 26)).heap.size = w.heap.size + 1 + 1 + 1 := by simp
  have H1 := Lib.hid fun X (hX : Below w.heap.size w X) hf => list_any A n.st a S ba (w.heap.size + 1) X (hx.st.below hX) hl.st (fun z hz => by have := HL.out z hz; omega) h2 (Nat.lt_of_lt_of_le hba hX.size) (World.block_lt_of_cell? X _ hf) ((hX.cell (p := ⟨ba, 1, none⟩) hba).trans hS) hf
  have H2 := Lib.hid fun X (hX : Below w.heap.size w X) hf => list_any B n.fi b S ba (w.heap.size + 1) X (hx.fi.below hX) hl.fi (fun z hz => by have := HL2.out z hz; omega) h2 (Nat.lt_of_lt_of_le hba hX.size) (World.block_lt_of_cell? X _ hf) ((hX.cell (p := ⟨ba, 1, none⟩) hba).trans hS) hf
  have hba0 := hba
  have HL := Lib.hid fun z (hz : z ∈ n.st) => asc_in hO.st hz
  have HL2 := Lib.hid fun z (hz : z ∈ n.fi) => asc_in hO.fi hz
  have hs64 := hO.s64
  have hB0 := bal (bal (bal (Below.refl w.heap.size w) (.cells #[.int .i64 n.V, .int .i64 n.S, .slice A n.st.length a, .slice B n.fi.length b, .slice C n.es.length c] 26)) (.cells #[.func (.func 43) #[] #[.pointer (some ⟨ba, 0, none⟩)]] 76)) (.cells #[.int .i64 0, .int .i64 0, .slice none 0 0, .slice none 0 0, .slice none 0 0] 26)
  have hN0 := ((Blk.new w (.int .i64 n.V) (.int .i64 n.S) (.slice A n.st.length a) (.slice B n.fi.length b) (.slice C n.es.length c)).below (bal (Below.refl _ _) (.cells #[.func (.func 43) #[] #[.pointer (some ⟨ba, 0, none⟩)]] 76))).below (bal (Below.refl _ _) (.cells #[.int .i64 0, .int .i64 0, .slice none 0 0, .slice none 0 0, .slice none 0 0] 26))
  have hF0 := (Boxed.new (w.alloc (.cells #[.int .i64 n.V, .int .i64 n.S, .slice A n.st.length a, .slice B n.fi.length b, .slice C n.es.length c] 26)) 76 (.func (.func 43) #[] #[.pointer (some ⟨ba, 0, none⟩)])).below (bal (Below.refl _ _) (.cells #[.int .i64 0, .int .i64 0, .slice none 0 0, .slice none 0 0, .slice none 0 0] 26))
  have hR0 := Blk.new ((w.alloc (.cells #[.int .i64 n.V, .int .i64 n.S, .slice A n.st.length a, .slice B n.fi.length b, .slice C n.es.length c] 26)).alloc (.cells #[.func (.func 43) #[] #[.pointer (some ⟨ba, 0, none⟩)]] 76)) (.int .i64 0) (.int .i64 0) (.slice none 0 0) (.slice none 0 0) (.slice none 0 0)
  simp only [World.size_alloc] at hF0 hR0
  have hsz : (((w.alloc (.cells #[.int .i64 n.V, .int .i64 n.S, .slice A n.st.length a, .slice B n.fi.length b, .slice C n.es.length c] 26)).alloc (.cells #[.func (.func 43) #[] #[.pointer (some ⟨ba, 0, none⟩)]] 76)).alloc (.cells #[.int .i64 0, .int .i64 0, .slice none 0 0, .slice none 0 0, .slice none 0 0] 26)).heap.size = w.heap.size + 1 + 1 + 1 := by simp
  have H1 := Lib.hid fun X (hX : Below w.heap.size w X) hf => list_any A n.st a S ba (w.heap.size + 1) X (hx.st.below hX) hl.st (fun z hz => by have := HL.out z hz; omega) h2 (Nat.lt_of_lt_of_le hba hX.size) (World.block_lt_of_cell? X _ hf) ((hX.cell (p := ⟨ba, 1, none⟩) hba).trans hS) hf
  have H2 := Lib.hid fun X (hX : Below w.heap.size w X) hf => list_any B n.fi b S ba (w.heap.size + 1) X (hx.fi.below hX) hl.fi (fun z hz => by have := HL2.out z hz; omega) h2 (Nat.lt_of_lt_of_le hba hX.size) (World.block_lt_of_cell? X _ hf) ((hX.cell (p := ⟨ba, 1, none⟩) hba).trans hS) hf
  have hba0 := hba
  have HL := Lib.hid fun z (hz : z ∈ n.st) => asc_in hO.st hz
  have HL2 := Lib.hid fun z (hz : z ∈ n.fi) => asc_in hO.fi hz
  have hs64 := hO.s64
  have hB0 := bal (bal (bal (Below.refl w.heap.size w) (.cells #[.int .i64 n.V, .int .i64 n.S, .slice A n.st.length a, .slice B n.fi.length b, .slice C n.es.length c] 26)) (.cells #[.func (.func 43) #[] #[.pointer (some ⟨ba, 0, none⟩)]] 76)) (.cells #[.int .i64 0, .int .i64 0, .slice none 0 0, .slice none 0 0, .slice none 0 0] 26)
  have hN0 := ((Blk.new w (.int .i64 n.V) (.int .i64 n.S) (.slice A n.st.length a) (.slice B n.fi.length b) (.slice C n.es.length c)).below (bal (Below.refl _ _) (.cells #[.func (.func 43) #[] #[.pointer (some ⟨ba, 0, none⟩)]] 76))).below (bal (Below.refl _ _) (.cells #[.int .i64 0, .int .i64 0, .slice none 0 0, .slice none 0 0, .slice none 0 0] 26))
  have hF0 := (Boxed.new (w.alloc (.cells #[.int .i64 n.V, .int .i64 n.S, .slice A n.st.length a, .slice B n.fi.length b, .slice C n.es.length c] 26)) 76 (.func (.func 43) #[] #[.pointer (some ⟨ba, 0, none⟩)])).below (bal (Below.refl _ _) (.cells #[.int .i64 0, .int .i64 0, .slice none 0 0, .slice none 0 0, .slice none 0 0] 26))
  have hR0 := Blk.new ((w.alloc (.cells #[.int .i64 n.V, .int .i64 n.S, .slice A n.st.length a, .slice B n.fi.length b, .slice C n.es.length c] 26)).alloc (.cells #[.func (.func 43) #[] #[.pointer (some ⟨ba, 0, none⟩)]] 76)) (.int .i64 0) (.int .i64 0) (.slice none 0 0) (.slice none 0 0) (.slice none 0 0)
  simp only [World.size_alloc] at hF0 hR0
  have hsz : (((w.alloc (.cells #[.int .i64 n.V, .int .i64 n.S, .slice A n.st.length a, .slice B n.fi.length b, .slice C n.es.length c] 26)).alloc (.cells #[.func (.func 43) #[] #[.pointer (some ⟨ba, 0, none⟩)]] 76)).alloc (.cells #[.int .i64 0, .int .i64 0, .slice none 0 0, .slice none 0 0, .slice none 0 0] 26)).heap.size = w.heap.size + 1 + 1 + 1 := by simp
  have H1 := Lib.hid fun X (hX : Below w.heap.size w X) hf => list_any A n.st a S ba (w.heap.size + 1) X (hx.st.below hX) hl.st (fun z hz => by have := HL.out z hz; omega) h2 (Nat.lt_of_lt_of_le hba hX.size) (World.block_lt_of_cell? X _ hf) ((hX.cell (p := ⟨ba, 1, none⟩) hba).trans hS) hf
  have H2 := Lib.hid fun X (hX : Below w.heap.size w X) hf => list_any B n.fi b S ba (w.heap.size + 1) X (hx.fi.below hX) hl.fi (fun z hz => by have := HL2.out z hz; omega) h2 (Nat.lt_of_lt_of_le hba hX.size) (World.block_lt_of_cell? X _ hf) ((hX.cell (p := ⟨ba, 1, none⟩) hba).trans hS) hf
  go_enter Tryd.func41, Tryd.ntmps41
  go_upto_region 2 with fail
  generalize (((w.alloc (.cells #[.int .i64 n.V, .int .i64 n.S, .slice A n.st.length a, .slice B n.fi.length b, .slice C n.es.length c] 26)).alloc (.cells #[.func (.func 43) #[] #[.pointer (some ⟨ba, 0, none⟩)]] 76)).alloc (.cells #[.int .i64 0, .int .i64 0, .slice none 0 0, .slice none 0 0, .slice none 0 0] 26)) = w1 at *
  go_cut [8] from 16 to 27 (fun t wx => ∃ b3 A1 B1 a1 b1, t = .pointer (some ⟨b3, 0, none⟩) ∧ Hid (RenP w n A B C a b c S T ba b3 A1 B1 a1 b1 wx))
  case first =>
    refine wp_region_any (by kernel_rfl) ?_
    change wpAny _ _ _ _ _ _ _ (World.drew _)
    have hS0 : (fun X : World => Blk X w.heap.size (.int .i64 n.V) (.int .i64 n.S) (.slice A n.st.length a) (.slice B n.fi.length b) (.slice C n.es.length c)) w1.drew := hN0
    have hlY : ∀ Y : World, Below w1.heap.size w1 Y → (fun X : World => Blk X w.heap.size (.int .i64 n.V) (.int .i64 n.S) (.slice A n.st.length a) (.slice B n.fi.length b) (.slice C n.es.length c)) Y := fun Y hY => hN0.below hY
    have hD : Below w1.heap.size w1 w1.drew := drew_below w1
    generalize w1.drew = X0 at *
    refine wpAny_head 13 13 (fun X : World => Blk X w.heap.size (.int .i64 n.V) (.int .i64 n.S) (.slice A n.st.length a) (.slice B n.fi.length b) (.slice C n.es.length c)) rfl rfl (by kernel_rfl) (by kernel_rfl) (by kernel_rfl) (fun hA => ?_)
    refine wpHead_take (i := 0) (v := ?_) (by kernel_rfl) hA (at_drop rfl) (by decide) (by kernel_rfl) (by kernel_rfl) (by kernel_rfl) (fun _ _ _ h => h) (Or.inl ⟨by rfl, ?_⟩) hS0 (fun hA => ?_)
    rotate_left
    · (intro w hSw; obtain ⟨s0, s1, s2, s3, s4⟩ := hSw.cells; go_simp <;> with_reducible rfl)
    simp only [Act.put, List.setIfInBounds_toArray, List.set_cons_zero, List.set_cons_succ]
    refine wpHead_take (i := 1) (v := ?_) (by kernel_rfl) hA (at_drop rfl) (by decide) (by kernel_rfl) (by kernel_rfl) (by kernel_rfl) (fun _ _ _ h => h) (Or.inl ⟨by rfl, ?_⟩) hS0 (fun hA => ?_)
    rotate_left
    · (intro w hSw; obtain ⟨s0, s1, s2, s3, s4⟩ := hSw.cells; go_simp <;> with_reducible rfl)
    simp only [Act.put, List.setIfInBounds_toArray, List.set_cons_zero, List.set_cons_succ]
    refine wpHead_take (i := 2) (v := ?_) (by kernel_rfl) hA (at_drop rfl) (by decide) (by kernel_rfl) (by kernel_rfl) (by kernel_rfl) (fun _ _ _ h => h) (Or.inl ⟨by rfl, ?_⟩) hS0 (fun hA => ?_)
    rotate_left
    · (intro w hSw; obtain ⟨s0, s1, s2, s3, s4⟩ := hSw.cells; go_simp <;> with_reducible rfl)
    simp only [Act.put, List.setIfInBounds_toArray, List.set_cons_zero, List.set_cons_succ]
    refine wpHead_take (i := 3) (v := ?_) (by kernel_rfl) hA (at_drop rfl) (by decide) (by kernel_rfl) (by kernel_rfl) (by kernel_rfl) (fun _ _ _ h => h) (Or.inl ⟨by rfl, ?_⟩) hS0 (fun hA => ?_)
    rotate_left
    · (intro w hSw; obtain ⟨s0, s1, s2, s3, s4⟩ := hSw.cells; go_simp <;> with_reducible rfl)
    simp only [Act.put, List.setIfInBounds_toArray, List.set_cons_zero, List.set_cons_succ]
    refine wpHead_take (i := 4) (v := ?_) (by kernel_rfl) hA (at_drop rfl) (by decide) (by kernel_rfl) (by kernel_rfl) (by kernel_rfl) (fun _ _ _ h => h) (Or.inl ⟨by rfl, ?_⟩) hS0 (fun hA => ?_)
    rotate_left
    · (intro w hSw; obtain ⟨s0, s1, s2, s3, s4⟩ := hSw.cells; go_simp <;> with_reducible rfl)
    simp only [Act.put, List.setIfInBounds_toArray, List.set_cons_zero, List.set_cons_succ]
    refine wpHead_take (i := 5) (v := ?_) (by kernel_rfl) hA (at_drop rfl) (by decide) (by kernel_rfl) (by kernel_rfl) (by kernel_rfl) (fun _ _ _ h => h) (Or.inl ⟨by rfl, ?_⟩) hS0 (fun hA => ?_)
    rotate_left
    · (intro w hSw; obtain ⟨s0, s1, s2, s3, s4⟩ := hSw.cells; go_simp <;> with_reducible rfl)
    simp only [Act.put, List.setIfInBounds_toArray, List.set_cons_zero, List.set_cons_succ]
    refine wpHead_take (i := 7) (v := ?_) (by kernel_rfl) hA (at_drop rfl) (by decide) (by kernel_rfl) (by kernel_rfl) (by kernel_rfl) (fun _ _ _ h => h) (Or.inl ⟨by rfl, ?_⟩) hS0 (fun hA => ?_)
    rotate_left
    · (intro w hSw; obtain ⟨s0, s1, s2, s3, s4⟩ := hSw.cells; go_simp <;> with_reducible rfl)
    simp only [Act.put, List.setIfInBounds_toArray, List.set_cons_zero, List.set_cons_succ]
    refine wpHead_take (i := 8) (v := ?_) (by kernel_rfl) hA (at_drop rfl) (by decide) (by kernel_rfl) (by kernel_rfl) (by kernel_rfl) (fun _ _ _ h => h) (Or.inl ⟨by rfl, ?_⟩) hS0 (fun hA => ?_)
    rotate_left
    · (intro w hSw; obtain ⟨s0, s1, s2, s3, s4⟩ := hSw.cells; go_simp <;> with_reducible rfl)
    simp only [Act.put, List.setIfInBounds_toArray, List.set_cons_zero, List.set_cons_succ]
    refine wpHead_take (i := 9) (v := ?_) (by kernel_rfl) hA (at_drop rfl) (by decide) (by kernel_rfl) (by kernel_rfl) (by kernel_rfl) (fun _ _ _ h => h) (Or.inl ⟨by rfl, ?_⟩) hS0 (fun hA => ?_)
    rotate_left
    · (intro w hSw; obtain ⟨s0, s1, s2, s3, s4⟩ := hSw.cells; go_simp <;> with_reducible rfl)
    simp only [Act.put, List.setIfInBounds_toArray, List.set_cons_zero, List.set_cons_succ]
    have hA6 := hnext hA (rs := [6, 12]) (i := 6) (by kernel_rfl) (by decide) (by decide)
    have hA12 := hnext hA (rs := [6, 12]) (i := 12) (by kernel_rfl) (by decide) (by decide)
    refine wpHead_ready (rs := [6, 12]) (by kernel_rfl) (by decide) (AllHead.cons (at_drop rfl) (by decide) (fun KK hK => ?_) (AllHead.cons (at_drop rfl) (by decide) (fun KK hK => ?_) AllHead.nil))
    · replace hA := hA6
      go_simp
      refine (H1.out X0 (stepB hB0 hD) (hF0.below hD).cell).mono ?_
      rintro e X1 ⟨A1, a1, rfl, o1, d1⟩
      have HX1 := stepB hD d1
      refine hK _ _ (hlY _ HX1) ?_
      clear hK KK
      try simp only [Act.put, List.setIfInBounds_toArray, List.set_cons_zero, List.set_cons_succ]
      have hA10 := hnext hA (rs := [10, 12]) (i := 10) (by kernel_rfl) (by decide) (by decide)
      have hA12 := hnext hA (rs := [10, 12]) (i := 12) (by kernel_rfl) (by decide) (by decide)
      refine wpHead_ready (rs := [10, 12]) (by kernel_rfl) (by decide) (AllHead.cons (at_drop rfl) (by decide) (fun KK hK => ?_) (AllHead.cons (at_drop rfl) (by decide) (fun KK hK => ?_) AllHead.nil))
      · replace hA := hA10
        go_simp
        refine (H2.out X1 (stepB hB0 HX1) (hF0.below HX1).cell).mono ?_
        rintro e X2 ⟨B1, b1, rfl, o2, d2⟩
        have HX2 := stepB HX1 d2
        refine hK _ _ (hlY _ HX2) ?_
        clear hK KK
        try simp only [Act.put, List.setIfInBounds_toArray, List.set_cons_zero, List.set_cons_succ]
        refine wpHead_take (i := 11) (v := ?_) (by kernel_rfl) hA (at_drop rfl) (by decide) (by kernel_rfl) (by kernel_rfl) (by kernel_rfl) (fun _ _ _ h => h) (Or.inl ⟨by rfl, ?_⟩) (hlY _ HX2) (fun hA => ?_)
        rotate_left
        · (intro w hSw; obtain ⟨s0, s1, s2, s3, s4⟩ := hSw.cells; go_simp <;> with_reducible rfl)
        simp only [Act.put, List.setIfInBounds_toArray, List.set_cons_zero, List.set_cons_succ]
        have hA12 := hnext hA (rs := [12]) (i := 12) (by kernel_rfl) (by decide) (by decide)
        refine wpHead_ready (rs := [12]) (by kernel_rfl) (by decide) (AllHead.cons (at_drop rfl) (by decide) (fun KK hK => ?_) AllHead.nil)
        replace hA := hA12
        go_simp
        have d3 := bal (Below.refl X2.heap.size X2) (.cells #[.int .i64 0, .int .i64 0, .slice none 0 0, .slice none 0 0, .slice none 0 0] 26)
        have r3 := Blk.new X2 (.int .i64 0) (.int .i64 0) (.slice none 0 0) (.slice none 0 0) (.slice none 0 0)
        generalize (World.alloc X2 (.cells #[.int .i64 0, .int .i64 0, .slice none 0 0, .slice none 0 0, .slice none 0 0] 26)) = X3 at *
        have HX3 := stepB HX2 d3
        refine hK _ _ (hlY _ HX3) ?_
        clear hK KK
        obtain ⟨⟨q0, f0⟩, ⟨q1, f1⟩, ⟨q2, f2⟩, ⟨q3, f3⟩, ⟨q4, f4⟩, hR5, hB5, hO5⟩ := store5 r3 (.int .i64 n.V) (.int .i64 T) (.slice A1 n.st.length a1) (.slice B1 n.fi.length b1) (.slice none 0 0)
        have hlt : w.heap.size + 2 < X2.heap.size := by have := HX2.size; omega
        have hK := hB5 _ (Nat.le_refl _)
        have HP := Lib.hid (show RenP w n A B C a b c S T ba X2.heap.size A1 B1 a1 b1 (put5 _ _ _ _ _ _ _) from ⟨(stepB hB0 HX3).trans (hB5 w.heap.size (by omega)), (hK.block _ (by omega)).trans (hlY _ HX3), (hK.block _ (by omega)).trans (hF0.below HX3), (hK.block _ (by omega)).trans (hR0.below HX3), hR5, hlt, hO5 _ _ _ _ _ _ (ownsRow_mono ((o1.below d2).below d3) (stepB hB0 hD).size) (by decide), hO5 _ _ _ _ _ _ (ownsRow_mono (o2.below d3) (stepB hB0 HX1).size) (by decide)⟩)
        unfold put5 at HP
        clear hR5 hB5 hO5 hK hlY hN0 hR0 hF0 H1 H2 hB0 o1 o2 hA r3
        refine wpHead_end (by kernel_rfl) ?_
        simp only [List.drop_succ_cons, List.drop_zero]
        generalize X2.heap.size = b3 at *
        go_wp2_with fail
        go_meet
        exact ⟨b3, A1, B1, a1, b1, rfl, HP⟩
      · replace hA := hA12
        go_simp
        have d2 := bal (Below.refl X1.heap.size X1) (.cells #[.int .i64 0, .int .i64 0, .slice none 0 0, .slice none 0 0, .slice none 0 0] 26)
        have r3 := Blk.new X1 (.int .i64 0) (.int .i64 0) (.slice none 0 0) (.slice none 0 0) (.slice none 0 0)
        generalize (World.alloc X1 (.cells #[.int .i64 0, .int .i64 0, .slice none 0 0, .slice none 0 0, .slice none 0 0] 26)) = X2 at *
        have HX2 := stepB HX1 d2
        refine hK _ _ (hlY _ HX2) ?_
        clear hK KK
        have hA10 := hnext hA (rs := [10]) (i := 10) (by kernel_rfl) (by decide) (by decide)
        refine wpHead_ready (rs := [10]) (by kernel_rfl) (by decide) (AllHead.cons (at_drop rfl) (by decide) (fun KK hK => ?_) AllHead.nil)
        replace hA := hA10
        go_simp
        refine (H2.out X2 (stepB hB0 HX2) (hF0.below HX2).cell).mono ?_
        rintro e X3 ⟨B1, b1, rfl, o2, d3⟩
        have HX3 := stepB HX2 d3
        refine hK _ _ (hlY _ HX3) ?_
        clear hK KK
        try simp only [Act.put, List.setIfInBounds_toArray, List.set_cons_zero, List.set_cons_succ]
        refine wpHead_take (i := 11) (v := ?_) (by kernel_rfl) hA (at_drop rfl) (by decide) (by kernel_rfl) (by kernel_rfl) (by kernel_rfl) (fun _ _ _ h => h) (Or.inl ⟨by rfl, ?_⟩) (hlY _ HX3) (fun hA => ?_)
        rotate_left
        · (intro w hSw; obtain ⟨s0, s1, s2, s3, s4⟩ := hSw.cells; go_simp <;> with_reducible rfl)
        simp only [Act.put, List.setIfInBounds_toArray, List.set_cons_zero, List.set_cons_succ]
        obtain ⟨⟨q0, f0⟩, ⟨q1, f1⟩, ⟨q2, f2⟩, ⟨q3, f3⟩, ⟨q4, f4⟩, hR5, hB5, hO5⟩ := store5 (r3.below d3) (.int .i64 n.V) (.int .i64 T) (.slice A1 n.st.length a1) (.slice B1 n.fi.length b1) (.slice none 0 0)
        have hlt : w.heap.size + 2 < X1.heap.size := by have := HX1.size; omega
        have hK := hB5 _ (Nat.le_refl _)
        have HP := Lib.hid (show RenP w n A B C a b c S T ba X1.heap.size A1 B1 a1 b1 (put5 _ _ _ _ _ _ _) from ⟨(stepB hB0 HX3).trans (hB5 w.heap.size (by omega)), (hK.block _ (by omega)).trans (hlY _ HX3), (hK.block _ (by omega)).trans (hF0.below HX3), (hK.block _ (by omega)).trans (hR0.below HX3), hR5, hlt, hO5 _ _ _ _ _ _ (ownsRow_mono ((o1.below d2).below d3) (stepB hB0 hD).size) (by decide), hO5 _ _ _ _ _ _ (ownsRow_mono o2 (stepB hB0 HX2).size) (by decide)⟩)
        unfold put5 at HP
        clear hR5 hB5 hO5 hK hlY hN0 hR0 hF0 H1 H2 hB0 o1 o2 hA r3
        refine wpHead_end (by kernel_rfl) ?_
        simp only [List.drop_succ_cons, List.drop_zero]
        generalize X1.heap.size = b3 at *
        go_wp2_with fail
        go_meet
        exact ⟨b3, A1, B1, a1, b1, rfl, HP⟩
    · replace hA := hA12
      go_simp
      have d1 := bal (Below.refl X0.heap.size X0) (.cells #[.int .i64 0, .int .i64 0, .slice none 0 0, .slice none 0 0, .slice none 0 0] 26)
      have r3 := Blk.new X0 (.int .i64 0) (.int .i64 0) (.slice none 0 0) (.slice none 0 0) (.slice none 0 0)
      generalize (World.alloc X0 (.cells #[.int .i64 0, .int .i64 0, .slice none 0 0, .slice none 0 0, .slice none 0 0] 26)) = X1 at *
      have HX1 := stepB hD d1
      refine hK _ _ (hlY _ HX1) ?_
      clear hK KK
      have hA6 := hnext hA (rs := [6]) (i := 6) (by kernel_rfl) (by decide) (by decide)
      refine wpHead_ready (rs := [6]) (by kernel_rfl) (by decide) (AllHead.cons (at_drop rfl) (by decide) (fun KK hK => ?_) AllHead.nil)
      replace hA := hA6
      go_simp
      refine (H1.out X1 (stepB hB0 HX1) (hF0.below HX1).cell).mono ?_
      rintro e X2 ⟨A1, a1, rfl, o1, d2⟩
      have HX2 := stepB HX1 d2
      refine hK _ _ (hlY _ HX2) ?_
      clear hK KK
      try simp only [Act.put, List.setIfInBounds_toArray, List.set_cons_zero, List.set_cons_succ]
      have hA10 := hnext hA (rs := [10]) (i := 10) (by kernel_rfl) (by decide) (by decide)
      refine wpHead_ready (rs := [10]) (by kernel_rfl) (by decide) (AllHead.cons (at_drop rfl) (by decide) (fun KK hK => ?_) AllHead.nil)
      replace hA := hA10
      go_simp
      refine (H2.out X2 (stepB hB0 HX2) (hF0.below HX2).cell).mono ?_
      rintro e X3 ⟨B1, b1, rfl, o2, d3⟩
      have HX3 := stepB HX2 d3
      refine hK _ _ (hlY _ HX3) ?_
      clear hK KK
      try simp only [Act.put, List.setIfInBounds_toArray, List.set_cons_zero, List.set_cons_succ]
      refine wpHead_take (i := 11) (v := ?_) (by kernel_rfl) hA (at_drop rfl) (by decide) (by kernel_rfl) (by kernel_rfl) (by kernel_rfl) (fun _ _ _ h => h) (Or.inl ⟨by rfl, ?_⟩) (hlY _ HX3) (fun hA => ?_)
      rotate_left
      · (intro w hSw; obtain ⟨s0, s1, s2, s3, s4⟩ := hSw.cells; go_simp <;> with_reducible rfl)
      simp only [Act.put, List.setIfInBounds_toArray, List.set_cons_zero, List.set_cons_succ]
      obtain ⟨⟨q0, f0⟩, ⟨q1, f1⟩, ⟨q2, f2⟩, ⟨q3, f3⟩, ⟨q4, f4⟩, hR5, hB5, hO5⟩ := store5 ((r3.below d2).below d3) (.int .i64 n.V) (.int .i64 T) (.slice A1 n.st.length a1) (.slice B1 n.fi.length b1) (.slice none 0 0)
      have hlt : w.heap.size + 2 < X0.heap.size := by have := hD.size; omega
      have hK := hB5 _ (Nat.le_refl _)
      have HP := Lib.hid (show RenP w n A B C a b c S T ba X0.heap.size A1 B1 a1 b1 (put5 _ _ _ _ _ _ _) from ⟨(stepB hB0 HX3).trans (hB5 w.heap.size (by omega)), (hK.block _ (by omega)).trans (hlY _ HX3), (hK.block _ (by omega)).trans (hF0.below HX3), (hK.block _ (by omega)).trans (hR0.below HX3), hR5, hlt, hO5 _ _ _ _ _ _ (ownsRow_mono (o1.below d3) (stepB hB0 HX1).size) (by decide), hO5 _ _ _ _ _ _ (ownsRow_mono o2 (stepB hB0 HX2).size) (by decide)⟩)
      unfold put5 at HP
      clear hR5 hB5 hO5 hK hlY hN0 hR0 hF0 H1 H2 hB0 o1 o2 hA r3
      refine wpHead_end (by kernel_rfl) ?_
      simp only [List.drop_succ_cons, List.drop_zero]
      generalize X0.heap.size = b3 at *
      go_wp2_with fail
      go_meet
      exact ⟨b3, A1, B1, a1, b1, rfl, HP⟩
  case rest =>
    obtain ⟨b3, A1, B1, a1, b1, rfl, HP⟩ := hcut
    have hQ0 := HP.out.start
    clear HP hB0 hN0 hF0 hR0 hsz H1 H2 HL HL2
    have hHU := Lib.hid fun z X (hX : Below w.heap.size w X) (hz : 0 ≤ z ∧ z ≤ 1000) => union1_any z S ba X ((hX.cell (p := ⟨ba, 1, none⟩) hba).trans hS) hz h2
    have hes := hx.es
    have hle := hl.es
    have hin : ∀ k, k < n.es.length → (0 ≤ (ed n.es k).fr ∧ (ed n.es k).fr ≤ 1000) ∧ (0 ≤ (ed n.es k).to ∧ (ed n.es k).to ≤ 1000) := fun k hk => by
      have hm : ed n.es k ∈ n.es := by unfold ed; rw [List.getD_eq_getElem?_getD, List.getElem?_eq_getElem hk]; exact List.getElem_mem hk
      have := edE_in (hO.ed _ hm)
      omega
    obtain ⟨i0, hi0, hz0, hz1, hz2⟩ := info_parts info_edge
    have HRes : Hid (n.es.take n.es.length = n.es) := List.take_length
    clear hx hl hO hS
    obtain ⟨z0, z1, z2, z3, z4⟩ := hQ0.nb.cells
    go_wp2
    clear z0 z1 z2 z3 z4
    go_loopw [31] (fun iv wr => ∃ (k : Nat) (C1 : Option Addr) (c1 : Nat), k ≤ n.es.length ∧ iv = .int .i64 k ∧ RenQ w n A B C a b c S T ba b3 A1 B1 a1 b1 C1 c1 k wr) (fun i _ => n.es.length - (intOf i).toNat)
    case atStart => exact ⟨0, none, 0, Nat.zero_le _, rfl, hQ0⟩
    case round =>
      clear hQ0
      obtain ⟨k, C1, c1, hk, rfl, hQ⟩ := hrel
      by_cases hlt : k < n.es.length
      · obtain ⟨hok, ad, rfl, had, hc⟩ := (hes.below hQ.bel) k hlt
        obtain ⟨q0, q1, q2, q3⟩ := four_at hc
        obtain ⟨hi1, hi2⟩ := hin k hlt
        have hba4 := bal (Below.refl wr.heap.size wr) (.cells #[.int .i64 (ed n.es k).fr, .int .i64 (ed n.es k).to, .int .u8 (ed n.es k).p, .int .u8 (ed n.es k).q] 30)
        have hB4 := Boxed4.new wr 30 (.int .i64 (ed n.es k).fr) (.int .i64 (ed n.es k).to) (.int .u8 (ed n.es k).p) (.int .u8 (ed n.es k).q)
        have hQ1 := hQ.below hba4
        have HMo := Lib.hid fun Z C2 c2 hg ho => hQ1.more (Z := Z) (C2 := C2) (c2 := c2) hg hlt ho
        have hF := Lib.hid fun X (hX : Below w.heap.size w X) => hHU.out (ed n.es k).fr X hX hi1
        have hT := Lib.hid fun X (hX : Below w.heap.size w X) => hHU.out (ed n.es k).to X hX hi2
        clear hHU hc hok had hi1 hi2 hQ
        go_upto_region 6 with fail
        generalize World.alloc wr (.cells #[.int .i64 (ed n.es k).fr, .int .i64 (ed n.es k).to, .int .u8 (ed n.es k).p, .int .u8 (ed n.es k).q] 30) = W1 at *
        clear hba4 q0 q1 q2 q3
        generalize wr.heap.size = g4 at *
        obtain ⟨e0, e1, e2, e3⟩ := hB4.cells
        have hfc := hQ1.fb.cell
        obtain ⟨r0, r1, r2, r3, r4⟩ := hQ1.r8.cells
        have ho3 := hQ1.o3
        have hbel := hQ1.bel
        have hsz1 := hbel.size
        clear hB4 hQ1
        generalize hxe : ed n.es k = x at *
        go_wp2_with (first
          | (go_at_call 43; ((with_reducible refine (hF.out _ hbel).mono ?_); rintro e w4 ⟨rfl, rfl⟩); clear hF)
          | (go_at_call 43; ((with_reducible refine (hT.out _ hbel).mono ?_); rintro e w5 ⟨rfl, rfl⟩); clear hT)
          | (at_builtin; refine wpList_append_own _ rfl _ _ 24 rfl w.heap.size 30 i0 _ 4 24 Tryd.underlying24 hi0 hz0 hz1 hz2 rfl (by decide) _ k _ rfl (ho3.alloc _) ⟨W1.heap.size, 0, none⟩ 1 1 [.int .i64 (x.fr + S), .int .i64 (x.to + S), .int .u8 x.p, .int .u8 x.q] rfl rfl (fun j u hu => by rw [addr_add, World.cell?_alloc_at _ _ _ _ rfl]; simpa using hu) (by simp [Value.oneCell']) (by unfold maxLen; omega) (by omega) (by simp; omega) ?_; intro v' w6 hown' hgrow _; obtain ⟨C2, c2, rfl, _⟩ := Ap.own_form hown'; have hg1 : W1.grownBy w6 (Value.slice C1 k c1).ownBlock := ⟨hgrow.os, hgrow.tape, hgrow.output, (by have := hgrow.size; simp at this; omega), fun q hq hne => (hgrow.block q (by simp; omega) hne).trans (Below.heap_alloc W1 _ q hq)⟩; obtain ⟨hr8, hQ6⟩ := HMo.out w6 C2 c2 hg1 hown'; have HQ6 := Lib.hid hQ6; have x4 := hr8.cells.2.2.2.2; have f4 := hr8.frozen 4; clear hown' hgrow hg1 hQ6 r0 r1 r2 r3 r4))
        go_roundw
        case rel => exact ⟨k + 1, C2, c2, by omega, by go_num, HQ6.out⟩
        case measure => simp [intOf]; omega
      · obtain rfl : k = n.es.length := by omega
        obtain ⟨r0, r1, r2, r3, r4⟩ := hQ.r8.cells
        obtain ⟨⟨p0, f0⟩, ⟨p1, f1⟩, ⟨p2, f2⟩, ⟨p3, f3⟩, ⟨p4, f4⟩, hR5, hB5, hO5⟩ := store5 hQ.rb (.int .i64 n.V) (.int .i64 T) (.slice A1 n.st.length a1) (.slice B1 n.fi.length b1) (.slice C1 n.es.length c1)
        have ho3 := hQ.o3
        rw [HRes.out] at ho3
        have HF := Lib.hid (And.intro hR5.cells (And.intro (hQ.bel.trans (hB5 w.heap.size (by omega))) (And.intro (hO5 _ _ _ _ _ _ hQ.o1 (by decide)) (And.intro (hO5 _ _ _ _ _ _ hQ.o2 (by decide)) (hO5 _ _ _ _ _ _ ho3 (by decide))))))
        clear hR5 hB5 hO5 ho3 hQ HRes hHU hes hin
        go_wp2
        obtain ⟨⟨y0, y1, y2, y3, y4⟩, hb5, o1, o2, o3⟩ := HF.out
        unfold put5 at y0 y1 y2 y3 y4 hb5 o1 o2 o3
        refine bodyPost_ret (v := .agg #[.int .i64 n.V, .int .i64 T, .slice A1 n.st.length a1, .slice B1 n.fi.length b1, .slice C1 n.es.length c1]) (by simp [results, Tryd.results41, go_sem, y0, y1, y2, y3, y4]) rfl ?_
        exact ⟨_, _, _, _, _, _, rfl, hb5, o1, o2, o3⟩
end Go.Proofs.YteckkbjpeckjmaaDoor.Nf
