/- explore (package subset) over sets: numbering by first visit. -/
import Derived.Test.YteckkbjpeckjmaaDoorJH
namespace Go.Proofs.YteckkbjpeckjmaaDoor.Sb.Xs
open Go Go.RowKit Go.Maps Go.Proofs.YteckkbjpeckjmaaDoor Go.Proofs.YteckkbjpeckjmaaDoor.Cb Go.Proofs.YteckkbjpeckjmaaDoor.Sb
open Go.Proofs.YteckkbjpeckjmaaDoor.Nf (zvs zvs_snoc info_int6 ret_int ret_b drew_below)
open Go.Proofs.YteckkbjpeckjmaaDoor.Dg (OwnT OwnT.nil own_push Tabs)
set_option linter.unusedVariables false
set_option linter.unusedSimpArgs false
set_option maxRecDepth 100000
abbrev R (w : World) (v : Value) (s : List Nat) : Prop := SetR w v s
/-- One word at most. -/
def P (s : List Nat) : Prop := U64 s ∧ s.length ≤ 64
def key (s : List Nat) : List UInt8 := txtS s
theorem key_inj : ∀ s t, P s → P t → key s = key t → s = t := fun _ _ _ _ h => txtS_inj h
theorem key_len {s : List Nat} (h : P s) : (key s).length ≤ maxLen := by
  have h1 := txtS_len h.1
  have h2 := h.2
  unfold key maxLen
  omega
theorem R_below {w w' : World} {v : Value} {s : List Nat} (h : R w v s) (hb : Below w.heap.size w w') : R w' v s := SetR.below h hb
theorem R_keep {w w' : World} {v : Value} {s : List Nat} (h : R w v s) (hs : w.heap.size ≤ w'.heap.size) (hk : ∀ (b : Nat) (cs : Array Value) (fz : Nat × Nat), w.heap[b]? = some (Obj.cells cs 44 fz) → w'.heap[b]? = some (Obj.cells cs 44 fz)) : R w' v s := SetR.keep h hs hk
theorem text_any (u : Value) (s : List Nat) (w : World) (hR : R w u s) (hs : P s) (hT : Tabs2 w) : Calls Tryd.prog 66 #[u] w fun e w' => e = .returned (.string ⟨(key s).toArray⟩) ∧ Below w.heap.size w w' := by
  obtain ⟨p, c, rfl, h1, h2, h3, _⟩ := hR
  exact setText_any p s c w h1 h2 (by have := hs.2; omega) hT
theorem info_S : (Tryd.prog.info? 41).map (fun i => (i.zero, i.size, i.bytes)) = some (some (.slice none 0 0), 1, 24) := by kernel_rfl
/-- What exploring has so far: the text of a state, the numbers, the states found. -/
structure ExpS (B : Nat) (w : World) (bt bn bf rb : Nat) (fv : Value) (F : List (List Nat)) : Prop where
  t : w.heap[bt]? = some (.cells #[.func (.func 66) #[] #[]] 111 (0, 0))
  n : w.heap[bn]? = some (.cells #[.map (some rb)] 142 (0, 0))
  f : w.heap[bf]? = some (.cells #[fv] 104 (0, 0))
  m : NumM w rb (F.map key)
  o : ∃ vs : List Value, w.ownsRow B 41 1 fv F.length vs ∧ ∀ (i : Nat) (s : (List Nat)), F[i]? = some s → ∃ u : Value, vs[i]? = some u ∧ R w u s
  lo : B ≤ bf ∧ B ≤ rb ∧ B ≤ bt ∧ B ≤ bn
  ne : bf ≠ bt ∧ bf ≠ bn
theorem ExpS.below {B : Nat} {w w' : World} {bt bn bf rb : Nat} {fv : Value} {F : List (List Nat)} (h : ExpS B w bt bn bf rb fv F) (hb : Below w.heap.size w w') : ExpS B w' bt bn bf rb fv F := by
  obtain ⟨es, clock, hrb⟩ := h.m.obj
  obtain ⟨vs, ho, hv⟩ := h.o
  exact ⟨(hb.block _ (blk_lt h.t)).trans h.t, (hb.block _ (blk_lt h.n)).trans h.n, (hb.block _ (blk_lt h.f)).trans h.f, h.m.block (hb.block _ (blk_lt hrb)), ⟨vs, ho.below hb, fun i s hs => by
    obtain ⟨u, h1, h2⟩ := hv i s hs
    exact ⟨u, h1, R_below h2 hb⟩⟩, h.lo, h.ne⟩
/-- What numbering a state leaves. -/
def NumPost (B : Nat) (w : World) (bt bn bf rb : Nat) (fv : Value) (F : List (List Nat)) (s : (List Nat)) (e : Ending) (w' : World) : Prop :=
  ∃ fv', e = .returned (.int .i64 (pos (add F s) s : Nat)) ∧ ExpS B w' bt bn bf rb fv' (add F s) ∧ Below B w w' ∧ (∀ b, b < w.heap.size → b ≠ bf → b ≠ rb → fv.ownBlock ≠ some b → w'.heap[b]? = w.heap[b]?) ∧ (fv'.ownBlock = fv.ownBlock ∨ ∃ g, fv'.ownBlock = some g ∧ w.heap.size ≤ g)
theorem grown_frame {B : Nat} {w w' : World} {fv : Value} {n : Nat} {xs : List Value} {e : TypeId} (ho : w.ownsRow B e 1 fv n xs) (hg : w.grownBy w' fv.ownBlock) (hB : B ≤ w.heap.size) : Below B w w' :=
  (Below.refl _ _).grown hg hB (fun q hq => (ho.lt q hq).1)
set_option maxHeartbeats 4000000 in
theorem number_any (B : Nat) (w : World) (bt bn bf rb : Nat) (fv : Value) (F : List (List Nat)) (u : Value) (s : (List Nat)) (h : ExpS B w bt bn bf rb fv F) (hB : B ≤ w.heap.size) (hR : R w u s) (hs : P s) (hF : ∀ t ∈ F, P t) (hl : F.length ≤ 100000) (hT : Tabs2 w) :
    Calls Tryd.prog 99 #[u, .pointer (some ⟨bt, 0, none⟩), .pointer (some ⟨bn, 0, none⟩), .pointer (some ⟨bf, 0, none⟩)] w (NumPost B w bt bn bf rb fv F s) := by
  obtain ⟨pu, cu, hu, _⟩ := id hR
  subst hu
  have HTx := Lib.hid (text_any _ s w hR hs hT)
  have ct : w.cell? ⟨bt, 0, none⟩ = some (.func (.func 66) #[] #[]) := by simp [World.cell?, h.t]
  have HN : Hid (∀ X, Below w.heap.size w X → X.cell? ⟨bn, 0, none⟩ = some (.map (some rb)) ∧ X.cell? ⟨bf, 0, none⟩ = some fv) := fun X hX => by
    have h2 := h.below hX
    exact ⟨by simp [World.cell?, h2.n], by simp [World.cell?, h2.f]⟩
  have hkl := key_len hs
  by_cases hm : s ∈ F
  · have hk : key s ∈ F.map key := List.mem_map.2 ⟨s, hm, rfl⟩
    have hid : pos (F.map key) (key s) = pos F s := idx_map key P key_inj hF hs
    have hadd : add F s = F := if_pos hm
    have HL : Hid (∀ X, Below w.heap.size w X → (Instr.lookup 142 (.map (some rb)) (.string ⟨(key s).toArray⟩) true).run Tryd.prog X = .ok (.tuple #[.int .i64 (pos F s : Nat), .bool true]) X) := fun X hX => by
      rw [← hid]
      exact (h.below hX).m.old hk hkl
    have HP : Hid (∀ X, Below w.heap.size w X → NumPost B w bt bn bf rb fv F s (.returned (.int .i64 (pos F s : Nat))) X) := fun X hX => by
      unfold NumPost
      rw [hadd]
      exact ⟨fv, rfl, h.below hX, hX.mono hB, fun b hb _ _ _ => hX.block b hb, .inl rfl⟩
    clear h hR hs hT hm hk hid hadd hF
    generalize (pos F s : Nat) = ix at *
    generalize key s = ks at *
    go_enter Tryd.func99, Tryd.ntmps99
    go_wp2_with (go_at_call 66; ((with_reducible refine HTx.out.mono ?_); rintro e w2 ⟨rfl, hb2⟩); obtain ⟨cn, cf⟩ := HN.out _ hb2; have hlk := HL.out _ hb2)
    go_ret
    exact HP.out _ hb2
  · have hk : key s ∉ F.map key := fun hk => hm ((mem_map_inj key P key_inj hF hs).1 hk)
    have hadd : add F s = F ++ [s] := if_neg hm
    have hix : pos (add F s) s = F.length := idx_add_new hm
    have hfm : (F.map key).length = F.length := List.length_map _
    obtain ⟨vs, hov, hvs⟩ := h.o
    obtain ⟨Af, cf0, rfl, _⟩ := Ap.own_form hov
    obtain ⟨es0, clk0, hrb⟩ := h.m.obj
    have hne1 : bf ≠ rb := fun e => by have := h.f; rw [e, hrb] at this; cases this
    have hne2 : bt ≠ rb := fun e => by have := h.t; rw [e, hrb] at this; cases this
    have hne3 : bn ≠ rb := fun e => by have := h.n; rw [e, hrb] at this; cases this
    have HL : Hid (∀ X, Below w.heap.size w X → (Instr.lookup 142 (.map (some rb)) (.string ⟨(key s).toArray⟩) true).run Tryd.prog X = .ok (.tuple #[.int .i64 0, .bool false]) X) := fun X hX => (h.below hX).m.new hk hkl
    have HS : Hid (∀ X, Below w.heap.size w X → ∃ w3, (Instr.mapUpdate 142 (.map (some rb)) (.string ⟨(key s).toArray⟩) (.int .i64 (F.length : Nat))).run Tryd.prog X = .ok () w3 ∧ X.mapTurned w3 rb ∧ w3.cell? ⟨bf, 0, none⟩ = some (.slice Af F.length cf0) ∧ w3.heap[bf]? = some (.cells #[.slice Af F.length cf0] 104 (0, 0)) ∧ w3.ownsRow B 41 1 (.slice Af F.length cf0) F.length vs ∧ B ≤ w3.heap.size ∧ X.heap.size ≤ w3.heap.size ∧ NumM w3 rb (F.map key ++ [key s])) := fun X hX => by
      have h2 := h.below hX
      obtain ⟨w3, h3, h4, h5⟩ := h2.m.store hk hkl (by rw [hfm]; omega)
      rw [hfm] at h3
      have hbf : w3.heap[bf]? = some (.cells #[.slice Af F.length cf0] 104 (0, 0)) := (turned_otherJ h5 hne1).trans h2.f
      have hg : X.grownBy w3 (some rb) := h5.grown
      refine ⟨w3, h3, h5, by simp [World.cell?, hbf], hbf, (hov.below hX).kept hg (.inr fun e => ?_), by have := hX.size; have := hg.size; omega, hg.size, h4⟩
      have h6 := (hov.below hX)
      rcases h6.2 with ⟨h7, _⟩ | ⟨g, cap, cur, h7, _, h8, _⟩
      · rw [h7] at e; simp [Value.ownBlock] at e
      · rw [h7] at e
        obtain rfl : g = rb := by simpa [Value.ownBlock] using e
        obtain ⟨es1, clk1, hrb1⟩ := h2.m.obj
        rw [hrb1] at h8
        cases h8
    have HP : Hid (∀ X w3 w6 A2 c2, Below w.heap.size w X → X.mapTurned w3 rb → w3.heap[bf]? = some (.cells #[.slice Af F.length cf0] 104 (0, 0)) → w3.ownsRow B 41 1 (.slice Af F.length cf0) F.length vs → NumM w3 rb (F.map key ++ [key s]) →
        w6.ownsRow B 41 1 (.slice A2 (F.length + 1) c2) (F.length + 1) (vs ++ [(.slice pu s.length cu)]) → (w3.alloc (.cells #[(.slice pu s.length cu)] 41)).grownBy w6 (Value.slice Af F.length cf0).ownBlock → ((Value.slice A2 (F.length + 1) c2).ownBlock = (Value.slice Af F.length cf0).ownBlock ∨ (Value.slice A2 (F.length + 1) c2).ownBlock = some (w3.alloc (.cells #[(.slice pu s.length cu)] 41)).heap.size) →
        w6.heap[bf]? = some (.cells #[.slice Af F.length cf0] 104 (0, 0)) ∧ bf < w6.heap.size ∧ NumPost B w bt bn bf rb (.slice Af F.length cf0) F s (.returned (.int .i64 (F.length : Nat))) (w6.setCell ⟨bf, 0, none⟩ (.slice A2 (F.length + 1) c2))) := fun X w3 w6 A2 c2 hX ht hbf ho3 hm3 ho6 hg6 hob => by
      have h2 := h.below hX
      have hg3 : X.grownBy w3 (some rb) := ht.grown
      have hsz := hX.size
      have hs3 := hg3.size
      have hs6 : w3.heap.size + 1 ≤ w6.heap.size := by have := hg6.size; simpa using this
      -- blocks that stay from X to w6
      have hstay : ∀ b, b < X.heap.size → b ≠ rb → (Value.slice Af F.length cf0).ownBlock ≠ some b → w6.heap[b]? = X.heap[b]? := fun b hb hbr hbo =>
        (hg6.block b (by simp; omega) (fun e => hbo e.symm)).trans ((Below.heap_alloc w3 _ b (by omega)).trans (turned_otherJ ht hbr))
      have hnf : (Value.slice Af F.length cf0).ownBlock ≠ some bf := own_ne hbf ho3 (by decide)
      have hnt : (Value.slice Af F.length cf0).ownBlock ≠ some bt := own_ne ((turned_otherJ ht hne2).trans h2.t) ho3 (by decide)
      have hnn : (Value.slice Af F.length cf0).ownBlock ≠ some bn := own_ne ((turned_otherJ ht hne3).trans h2.n) ho3 (by decide)
      have hnr : (Value.slice Af F.length cf0).ownBlock ≠ some rb := fun e => by
        rcases ho3.2 with ⟨h7, _⟩ | ⟨g, cap, cur, h7, _, h8, _⟩
        · rw [h7] at e; simp [Value.ownBlock] at e
        · rw [h7] at e
          obtain rfl : g = rb := by simpa [Value.ownBlock] using e
          obtain ⟨es1, clk1, hrb1⟩ := hm3.obj
          rw [hrb1] at h8
          cases h8
      have hbf6 := (hstay bf (blk_lt h2.f) hne1 hnf).trans h2.f
      have hput : ∀ b, b ≠ bf → (w6.setCell ⟨bf, 0, none⟩ (.slice A2 (F.length + 1) c2)).heap[b]? = w6.heap[b]? := fun b hb => Below.heap_setCell _ _ _ b hb
      obtain ⟨es1, clk1, hrb1⟩ := hm3.obj
      have hrb6 : w6.heap[rb]? = w3.heap[rb]? := (hg6.block rb (by have := blk_lt hrb1; simp; omega) (fun e => hnr e.symm)).trans (Below.heap_alloc w3 _ rb (blk_lt hrb1))
      have hsize : (w6.setCell ⟨bf, 0, none⟩ (.slice A2 (F.length + 1) c2)).heap.size = w6.heap.size := by show (Array.modify _ _ _).size = _; rw [Array.size_modify]
      refine ⟨hbf6, blk_lt hbf6, ?_⟩
      unfold NumPost
      rw [hix, hadd]
      refine ⟨.slice A2 (F.length + 1) c2, rfl, ⟨?_, ?_, ?_, ?_, ⟨vs ++ [(.slice pu s.length cu)], ?_, fun i t ht' => ?_⟩, h.lo, h.ne⟩, ?_, fun b hb hb1 hb2 hb3 => ?_, ?_⟩
      · exact (hput bt (fun e => h.ne.1 e.symm)).trans ((hstay bt (blk_lt h2.t) hne2 hnt).trans h2.t)
      · exact (hput bn (fun e => h.ne.2 e.symm)).trans ((hstay bn (blk_lt h2.n) hne3 hnn).trans h2.n)
      · rw [heap_put hbf6]; rfl
      · rw [List.map_append]
        exact hm3.block ((hput rb (fun e => hne1 e.symm)).trans hrb6)
      · rw [List.length_append]
        exact row_put ho6 (own_ne hbf6 ho6 (by decide)) _ _
      · have hkeep : ∀ {v t}, R w v t → R (w6.setCell ⟨bf, 0, none⟩ (.slice A2 (F.length + 1) c2)) v t := fun {v t} hr => by
          refine R_keep hr (by omega) fun b cs fz hb => ?_
          have hbx := (hX.block b (blk_lt hb)).trans hb
          have hb1 : b ≠ bf := fun e => by rw [e, h2.f] at hbx; exact absurd hbx (by simp)
          have hb2 : b ≠ rb := fun e => by obtain ⟨es2, clk2, hrb2⟩ := h2.m.obj; rw [e, hrb2] at hbx; cases hbx
          have hb3 : (Value.slice Af F.length cf0).ownBlock ≠ some b := own_ne ((turned_otherJ ht hb2).trans hbx) ho3 (by decide)
          exact (hput b hb1).trans ((hstay b (blk_lt hbx) hb2 hb3).trans hbx)
        have hvl : vs.length = F.length := by have := ho3.1; simpa using this
        by_cases hi : i < F.length
        · rw [List.getElem?_append_left hi] at ht'
          obtain ⟨u', h5, h6⟩ := hvs i t ht'
          exact ⟨u', by rw [List.getElem?_append_left (by omega)]; exact h5, hkeep h6⟩
        · have hi2 : i = F.length := by
            have := (List.getElem?_eq_some_iff.1 ht').1
            rw [List.length_append, List.length_singleton] at this
            omega
          subst hi2
          rw [List.getElem?_append_right (Nat.le_refl _)] at ht'
          simp at ht'
          subst ht'
          refine ⟨(.slice pu s.length cu), ?_, hkeep hR⟩
          rw [← hvl, List.getElem?_append_right (Nat.le_refl _)]
          simp
      · have hlo := h.lo
        have b1 : Below B w X := hX.mono hB
        have b2 : Below B X w3 := (Below.refl _ _).grown hg3 (by omega) (fun q hq => by cases hq; exact hlo.2.1)
        have b3 : Below B w3 w6 := ((Below.refl B w3).alloc (by omega) _).grown hg6 (by simp; omega) (fun q hq => (ho3.lt q hq).1)
        exact ((b1.trans b2).trans b3).setCell (p := ⟨bf, 0, none⟩) hlo.1 _
      · rw [hput b hb1, hstay b (by omega) hb2 hb3]
        exact hX.block b hb
      · rcases hob with hob | hob
        · exact .inl hob
        · exact .inr ⟨_, hob, by simp; omega⟩
    clear h hR hs hT hm hk hadd hix hfm hov hvs hrb hF hne1 hne2 hne3
    generalize key s = ks at *
    obtain ⟨i0, hi0, hz0, hz1, hz2⟩ := info_parts info_S
    have hfl : Hid (F.length ≤ 100000) := hl
    generalize F.length = fl at *
    have hnn0 : decide ((fl : Int) < 0) = false := decide_eq_false (by omega)
    go_enter Tryd.func99, Tryd.ntmps99
    go_wp2_with (first
      | (go_at_call 66; ((with_reducible refine HTx.out.mono ?_); rintro e w2 ⟨rfl, hb2⟩); obtain ⟨cn, cf⟩ := HN.out _ hb2; have hlk := HL.out _ hb2; obtain ⟨w3, hrun3, ht3, cf3, hbf3, ho3, hB3, hs3, hm3⟩ := HS.out _ hb2; have HT3 := Lib.hid ht3; have HM3 := Lib.hid hm3; have HO3 := Lib.hid ho3; have HB3 := Lib.hid hbf3; clear ht3 hm3 ho3 hbf3)
      | (at_builtin; refine wpList_append_own_at _ rfl _ _ 104 rfl B 41 i0 (.slice none 0 0) 1 24 Tryd.underlying104 hi0 hz0 hz1 hz2 rfl (by decide) _ fl vs rfl (HO3.out.alloc _) ⟨w3.heap.size, 0, none⟩ 1 1 [(.slice pu s.length cu)] rfl rfl (cell_one_new _ _ _) (by simp [Value.oneCell']) (by unfold maxLen; omega) (by omega) (by simp; omega) ?_; intro v' w6 hown' hgrow _ hob; obtain ⟨A2, c2, rfl, _⟩ := Ap.own_form hown'; obtain ⟨hbf6, hlt6, hpost⟩ := HP.out w2 w3 w6 A2 c2 hb2 HT3.out HB3.out HO3.out HM3.out hown' hgrow hob; have f6 := free_of hbf6 0; have c6 : w6.cell? ⟨bf, 0, none⟩ = some (.slice Af fl cf0) := (by simp [World.cell?, hbf6]); have HPost := Lib.hid hpost; clear hpost hbf6 hown' hgrow hob))
    go_ret
    exact HPost.out
end Go.Proofs.YteckkbjpeckjmaaDoor.Sb.Xs
