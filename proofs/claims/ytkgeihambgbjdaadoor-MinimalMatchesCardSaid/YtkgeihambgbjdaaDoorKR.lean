/- explore (package subset) over states: numbering by first visit. -/
import Derived.Test.YtkgeihambgbjdaaDoorPF
import Derived.Lib.ItoaLen
import Derived.Deep.DeepCutAuto
import Derived.Deep.LoopGhost
import Derived.WalkMore
namespace Go.Proofs.YtkgeihambgbjdaaDoor.Sb.Xi
open Go Go.RowKit Go.Maps Go.Proofs.YtkgeihambgbjdaaDoor Go.Proofs.YtkgeihambgbjdaaDoor.Cb Go.Proofs.YtkgeihambgbjdaaDoor.Sb
open Go.Proofs.YtkgeihambgbjdaaDoor.Nf (zvs zvs_snoc info_int6 ret_int ret_b drew_below)
open Go.Proofs.YtkgeihambgbjdaaDoor.Dg (OwnT OwnT.nil own_push Tabs)
set_option linter.unusedVariables false
set_option linter.unusedSimpArgs false
set_option maxRecDepth 100000
abbrev R (w : World) (v : Value) (s : Int) : Prop := v = .int .i64 s
/-- A number of a state. -/
def P (s : Int) : Prop := 0 ≤ s ∧ s ≤ 1000000
def key (s : Int) : List UInt8 := Lib.itoa s
theorem key_inj : ∀ s t, P s → P t → key s = key t → s = t := fun s t hs ht h => by
  unfold key Lib.itoa at h
  rw [if_neg (by have := hs.1; omega), if_neg (by have := ht.1; omega)] at h
  have := dec_inj h
  have := hs.1
  have := ht.1
  omega
theorem key_len {s : Int} (h : P s) : (key s).length ≤ maxLen := by
  have := Lib.itoa_length_le s (by have := h.1; omega) (by have := h.2; omega)
  unfold key maxLen
  omega
theorem R_below {w w' : World} {v : Value} {s : Int} (h : R w v s) (hb : Below w.heap.size w w') : R w' v s := h
theorem R_keep {w w' : World} {v : Value} {s : Int} (h : R w v s) (hs : w.heap.size ≤ w'.heap.size) (hk : ∀ (b : Nat) (cs : Array Value) (fz : Nat × Nat), w.heap[b]? = some (Obj.cells cs 116 fz) → w'.heap[b]? = some (Obj.cells cs 116 fz)) : R w' v s := h
theorem grow_belowJ (w : World) (os : Array Obj) : Below w.heap.size w (Go.Sort.grow w os) := ⟨rfl, rfl, rfl, by show _ ≤ (w.heap ++ os).size; rw [Array.size_append]; omega, fun k hk => by show (w.heap ++ os)[k]? = _; rw [Array.getElem?_append_left hk]⟩
theorem text_any (u : Value) (s : Int) (w : World) (hR : R w u s) (hs : P s) (hT : Tabs2 w) : Calls Tryd.prog 57 #[u] w fun e w' => e = .returned (.string ⟨(key s).toArray⟩) ∧ Below w.heap.size w w' := by
  have hR' : u = .int .i64 s := hR
  subst hR'
  refine (Tryd.strconv_Itoa s (by have := hs.1; omega) (by have := hs.2; omega) w hT.pw).mono fun e w' ⟨h1, k, os, h2⟩ => ⟨h1, ?_⟩
  subst h2
  exact stepB (Ap.drewN_below w k) (grow_belowJ _ _)
theorem info_S : (Tryd.prog.info? 3).map (fun i => (i.zero, i.size, i.bytes)) = some (some (.int .i64 0), 1, 8) := by kernel_rfl
/-- What exploring has so far: the text of a state, the numbers, the states found. -/
structure ExpS (B : Nat) (w : World) (bt bn bf rb : Nat) (fv : Value) (F : List Int) : Prop where
  t : w.heap[bt]? = some (.cells #[.func (.func 57) #[] #[]] 84 (0, 0))
  n : w.heap[bn]? = some (.cells #[.map (some rb)] 101 (0, 0))
  f : w.heap[bf]? = some (.cells #[fv] 33 (0, 0))
  m : NumM w rb (F.map key)
  o : ∃ vs : List Value, w.ownsRow B 3 1 fv F.length vs ∧ ∀ (i : Nat) (s : Int), F[i]? = some s → ∃ u : Value, vs[i]? = some u ∧ R w u s
  lo : B ≤ bf ∧ B ≤ rb ∧ B ≤ bt ∧ B ≤ bn
  ne : bf ≠ bt ∧ bf ≠ bn
theorem ExpS.below {B : Nat} {w w' : World} {bt bn bf rb : Nat} {fv : Value} {F : List Int} (h : ExpS B w bt bn bf rb fv F) (hb : Below w.heap.size w w') : ExpS B w' bt bn bf rb fv F := by
  obtain ⟨es, clock, hrb⟩ := h.m.obj
  obtain ⟨vs, ho, hv⟩ := h.o
  exact ⟨(hb.block _ (blk_lt h.t)).trans h.t, (hb.block _ (blk_lt h.n)).trans h.n, (hb.block _ (blk_lt h.f)).trans h.f, h.m.block (hb.block _ (blk_lt hrb)), ⟨vs, ho.below hb, fun i s hs => by
    obtain ⟨u, h1, h2⟩ := hv i s hs
    exact ⟨u, h1, R_below h2 hb⟩⟩, h.lo, h.ne⟩
/-- What numbering a state leaves. -/
def NumPost (B : Nat) (w : World) (bt bn bf rb : Nat) (fv : Value) (F : List Int) (s : Int) (e : Ending) (w' : World) : Prop :=
  ∃ fv', e = .returned (.int .i64 (pos (add F s) s : Nat)) ∧ ExpS B w' bt bn bf rb fv' (add F s) ∧ Below B w w' ∧ (∀ b, b < w.heap.size → b ≠ bf → b ≠ rb → fv.ownBlock ≠ some b → w'.heap[b]? = w.heap[b]?) ∧ (fv'.ownBlock = fv.ownBlock ∨ ∃ g, fv'.ownBlock = some g ∧ w.heap.size ≤ g)
theorem grown_frame {B : Nat} {w w' : World} {fv : Value} {n : Nat} {xs : List Value} {e : TypeId} (ho : w.ownsRow B e 1 fv n xs) (hg : w.grownBy w' fv.ownBlock) (hB : B ≤ w.heap.size) : Below B w w' :=
  (Below.refl _ _).grown hg hB (fun q hq => (ho.lt q hq).1)
set_option maxHeartbeats 4000000 in
theorem number_any (B : Nat) (w : World) (bt bn bf rb : Nat) (fv : Value) (F : List Int) (u : Value) (s : Int) (h : ExpS B w bt bn bf rb fv F) (hB : B ≤ w.heap.size) (hR : R w u s) (hs : P s) (hF : ∀ t ∈ F, P t) (hl : F.length ≤ 100000) (hT : Tabs2 w) :
    Calls Tryd.prog 72 #[u, .pointer (some ⟨bt, 0, none⟩), .pointer (some ⟨bn, 0, none⟩), .pointer (some ⟨bf, 0, none⟩)] w (NumPost B w bt bn bf rb fv F s) := by
  have hu : u = .int .i64 s := hR
  subst hu
  have HTx := Lib.hid (text_any _ s w hR hs hT)
  have ct : w.cell? ⟨bt, 0, none⟩ = some (.func (.func 57) #[] #[]) := by simp [World.cell?, h.t]
  have HN : Hid (∀ X, Below w.heap.size w X → X.cell? ⟨bn, 0, none⟩ = some (.map (some rb)) ∧ X.cell? ⟨bf, 0, none⟩ = some fv) := fun X hX => by
    have h2 := h.below hX
    exact ⟨by simp [World.cell?, h2.n], by simp [World.cell?, h2.f]⟩
  have hkl := key_len hs
  by_cases hm : s ∈ F
  · have hk : key s ∈ F.map key := List.mem_map.2 ⟨s, hm, rfl⟩
    have hid : pos (F.map key) (key s) = pos F s := idx_map key P key_inj hF hs
    have hadd : add F s = F := if_pos hm
    have HL : Hid (∀ X, Below w.heap.size w X → (Instr.lookup 101 (.map (some rb)) (.string ⟨(key s).toArray⟩) true).run Tryd.prog X = .ok (.tuple #[.int .i64 (pos F s : Nat), .bool true]) X) := fun X hX => by
      rw [← hid]
      exact (h.below hX).m.old hk hkl
    have HP : Hid (∀ X, Below w.heap.size w X → NumPost B w bt bn bf rb fv F s (.returned (.int .i64 (pos F s : Nat))) X) := fun X hX => by
      unfold NumPost
      rw [hadd]
      exact ⟨fv, rfl, h.below hX, hX.mono hB, fun b hb _ _ _ => hX.block b hb, .inl rfl⟩
    clear h hR hs hT hm hk hid hadd hF
    generalize (pos F s : Nat) = ix at *
    generalize key s = ks at *
    go_enter Tryd.func72, Tryd.ntmps72
    go_wp2_with (go_at_call 57; ((with_reducible refine HTx.out.mono ?_); rintro e w2 ⟨rfl, hb2⟩); obtain ⟨cn, cf⟩ := HN.out _ hb2; have hlk := HL.out _ hb2)
    go_ret
    exact HP.out _ hb2
  · have hk : key s ∉ F.map key := fun hk => hm ((mem_map_inj key P key_inj hF hs).1 hk)
    have hadd : add F s = F ++ [s] := if_neg hm
    have hix : pos (add F s) s = F.length := idx_add_new hm
    have hfm : (F.map key).length = F.length := List.length_map _
    obtain ⟨vs, hov, hvs⟩ := h.o
    obtain ⟨Af, cf0, rfl, _⟩ := Ap.own_form hov
    obtain ⟨es0, clk0, hrb⟩ := h.m.obj
    have hne1 : bf ≠ rb := fun e => by have := h.f; rw [e, hrb] at this; cases this
    have hne2 : bt ≠ rb := fun e => by have := h.t; rw [e, hrb] at this; cases this
    have hne3 : bn ≠ rb := fun e => by have := h.n; rw [e, hrb] at this; cases this
    have HL : Hid (∀ X, Below w.heap.size w X → (Instr.lookup 101 (.map (some rb)) (.string ⟨(key s).toArray⟩) true).run Tryd.prog X = .ok (.tuple #[.int .i64 0, .bool false]) X) := fun X hX => (h.below hX).m.new hk hkl
    have HS : Hid (∀ X, Below w.heap.size w X → ∃ w3, (Instr.mapUpdate 101 (.map (some rb)) (.string ⟨(key s).toArray⟩) (.int .i64 (F.length : Nat))).run Tryd.prog X = .ok () w3 ∧ X.mapTurned w3 rb ∧ w3.cell? ⟨bf, 0, none⟩ = some (.slice Af F.length cf0) ∧ w3.heap[bf]? = some (.cells #[.slice Af F.length cf0] 33 (0, 0)) ∧ w3.ownsRow B 3 1 (.slice Af F.length cf0) F.length vs ∧ B ≤ w3.heap.size ∧ X.heap.size ≤ w3.heap.size ∧ NumM w3 rb (F.map key ++ [key s])) := fun X hX => by
      have h2 := h.below hX
      obtain ⟨w3, h3, h4, h5⟩ := h2.m.store hk hkl (by rw [hfm]; omega)
      rw [hfm] at h3
      have hbf : w3.heap[bf]? = some (.cells #[.slice Af F.length cf0] 33 (0, 0)) := (turned_otherJ h5 hne1).trans h2.f
      have hg : X.grownBy w3 (some rb) := h5.grown
      refine ⟨w3, h3, h5, by simp [World.cell?, hbf], hbf, (hov.below hX).kept hg (.inr fun e => ?_), by have := hX.size; have := hg.size; omega, hg.size, h4⟩
      have h6 := (hov.below hX)
      rcases h6.2 with ⟨h7, _⟩ | ⟨g, cap, cur, h7, _, h8, _⟩
      · rw [h7] at e; simp [Value.ownBlock] at e
      · rw [h7] at e
        obtain rfl : g = rb := by simpa [Value.ownBlock] using e
        obtain ⟨es1, clk1, hrb1⟩ := h2.m.obj
        rw [hrb1] at h8
        cases h8
    have HP : Hid (∀ X w3 w6 A2 c2, Below w.heap.size w X → X.mapTurned w3 rb → w3.heap[bf]? = some (.cells #[.slice Af F.length cf0] 33 (0, 0)) → w3.ownsRow B 3 1 (.slice Af F.length cf0) F.length vs → NumM w3 rb (F.map key ++ [key s]) →
        w6.ownsRow B 3 1 (.slice A2 (F.length + 1) c2) (F.length + 1) (vs ++ [(.int .i64 s)]) → (w3.alloc (.cells #[(.int .i64 s)] 3)).grownBy w6 (Value.slice Af F.length cf0).ownBlock → ((Value.slice A2 (F.length + 1) c2).ownBlock = (Value.slice Af F.length cf0).ownBlock ∨ (Value.slice A2 (F.length + 1) c2).ownBlock = some (w3.alloc (.cells #[(.int .i64 s)] 3)).heap.size) →
        w6.heap[bf]? = some (.cells #[.slice Af F.length cf0] 33 (0, 0)) ∧ bf < w6.heap.size ∧ NumPost B w bt bn bf rb (.slice Af F.length cf0) F s (.returned (.int .i64 (F.length : Nat))) (w6.setCell ⟨bf, 0, none⟩ (.slice A2 (F.length + 1) c2))) := fun X w3 w6 A2 c2 hX ht hbf ho3 hm3 ho6 hg6 hob => by
      have h2 := h.below hX
      have hg3 : X.grownBy w3 (some rb) := ht.grown
      have hsz := hX.size
      have hs3 := hg3.size
      have hs6 : w3.heap.size + 1 ≤ w6.heap.size := by have := hg6.size; simpa using this
      -- blocks that stay from X to w6
      have hstay : ∀ b, b < X.heap.size → b ≠ rb → (Value.slice Af F.length cf0).ownBlock ≠ some b → w6.heap[b]? = X.heap[b]? := fun b hb hbr hbo =>
        (hg6.block b (by simp; omega) (fun e => hbo e.symm)).trans ((Below.heap_alloc w3 _ b (by omega)).trans (turned_otherJ ht hbr))
      have hnf : (Value.slice Af F.length cf0).ownBlock ≠ some bf := own_ne hbf ho3 (by decide)
      have hnt : (Value.slice Af F.length cf0).ownBlock ≠ some bt := own_ne ((turned_otherJ ht hne2).trans h2.t) ho3 (by decide)
      have hnn : (Value.slice Af F.length cf0).ownBlock ≠ some bn := own_ne ((turned_otherJ ht hne3).trans h2.n) ho3 (by decide)
      have hnr : (Value.slice Af F.length cf0).ownBlock ≠ some rb := fun e => by
        rcases ho3.2 with ⟨h7, _⟩ | ⟨g, cap, cur, h7, _, h8, _⟩
        · rw [h7] at e; simp [Value.ownBlock] at e
        · rw [h7] at e
          obtain rfl : g = rb := by simpa [Value.ownBlock] using e
          obtain ⟨es1, clk1, hrb1⟩ := hm3.obj
          rw [hrb1] at h8
          cases h8
      have hbf6 := (hstay bf (blk_lt h2.f) hne1 hnf).trans h2.f
      have hput : ∀ b, b ≠ bf → (w6.setCell ⟨bf, 0, none⟩ (.slice A2 (F.length + 1) c2)).heap[b]? = w6.heap[b]? := fun b hb => Below.heap_setCell _ _ _ b hb
      obtain ⟨es1, clk1, hrb1⟩ := hm3.obj
      have hrb6 : w6.heap[rb]? = w3.heap[rb]? := (hg6.block rb (by have := blk_lt hrb1; simp; omega) (fun e => hnr e.symm)).trans (Below.heap_alloc w3 _ rb (blk_lt hrb1))
      have hsize : (w6.setCell ⟨bf, 0, none⟩ (.slice A2 (F.length + 1) c2)).heap.size = w6.heap.size := by show (Array.modify _ _ _).size = _; rw [Array.size_modify]
      refine ⟨hbf6, blk_lt hbf6, ?_⟩
      unfold NumPost
      rw [hix, hadd]
      refine ⟨.slice A2 (F.length + 1) c2, rfl, ⟨?_, ?_, ?_, ?_, ⟨vs ++ [(.int .i64 s)], ?_, fun i t ht' => ?_⟩, h.lo, h.ne⟩, ?_, fun b hb hb1 hb2 hb3 => ?_, ?_⟩
      · exact (hput bt (fun e => h.ne.1 e.symm)).trans ((hstay bt (blk_lt h2.t) hne2 hnt).trans h2.t)
      · exact (hput bn (fun e => h.ne.2 e.symm)).trans ((hstay bn (blk_lt h2.n) hne3 hnn).trans h2.n)
      · rw [heap_put hbf6]; rfl
      · rw [List.map_append]
        exact hm3.block ((hput rb (fun e => hne1 e.symm)).trans hrb6)
      · rw [List.length_append]
        exact row_put ho6 (own_ne hbf6 ho6 (by decide)) _ _
      · have hkeep : ∀ {v t}, R w v t → R (w6.setCell ⟨bf, 0, none⟩ (.slice A2 (F.length + 1) c2)) v t := fun {v t} hr => by
          refine R_keep hr (by omega) fun b cs fz hb => ?_
          have hbx := (hX.block b (blk_lt hb)).trans hb
          have hb1 : b ≠ bf := fun e => by rw [e, h2.f] at hbx; exact absurd hbx (by simp)
          have hb2 : b ≠ rb := fun e => by obtain ⟨es2, clk2, hrb2⟩ := h2.m.obj; rw [e, hrb2] at hbx; cases hbx
          have hb3 : (Value.slice Af F.length cf0).ownBlock ≠ some b := own_ne ((turned_otherJ ht hb2).trans hbx) ho3 (by decide)
          exact (hput b hb1).trans ((hstay b (blk_lt hbx) hb2 hb3).trans hbx)
        have hvl : vs.length = F.length := by have := ho3.1; simpa using this
        by_cases hi : i < F.length
        · rw [List.getElem?_append_left hi] at ht'
          obtain ⟨u', h5, h6⟩ := hvs i t ht'
          exact ⟨u', by rw [List.getElem?_append_left (by omega)]; exact h5, hkeep h6⟩
        · have hi2 : i = F.length := by
            have := (List.getElem?_eq_some_iff.1 ht').1
            rw [List.length_append, List.length_singleton] at this
            omega
          subst hi2
          rw [List.getElem?_append_right (Nat.le_refl _)] at ht'
          simp at ht'
          subst ht'
          refine ⟨(.int .i64 s), ?_, hkeep hR⟩
          rw [← hvl, List.getElem?_append_right (Nat.le_refl _)]
          simp
      · have hlo := h.lo
        have b1 : Below B w X := hX.mono hB
        have b2 : Below B X w3 := (Below.refl _ _).grown hg3 (by omega) (fun q hq => by cases hq; exact hlo.2.1)
        have b3 : Below B w3 w6 := ((Below.refl B w3).alloc (by omega) _).grown hg6 (by simp; omega) (fun q hq => (ho3.lt q hq).1)
        exact ((b1.trans b2).trans b3).setCell (p := ⟨bf, 0, none⟩) hlo.1 _
      · rw [hput b hb1, hstay b (by omega) hb2 hb3]
        exact hX.block b hb
      · rcases hob with hob | hob
        · exact .inl hob
        · exact .inr ⟨_, hob, by simp; omega⟩
    clear h hR hs hT hm hk hadd hix hfm hov hvs hrb hF hne1 hne2 hne3
    generalize key s = ks at *
    obtain ⟨i0, hi0, hz0, hz1, hz2⟩ := info_parts info_S
    have hfl : Hid (F.length ≤ 100000) := hl
    generalize F.length = fl at *
    have hnn0 : decide ((fl : Int) < 0) = false := decide_eq_false (by omega)
    go_enter Tryd.func72, Tryd.ntmps72
    go_wp2_with (first
      | (go_at_call 57; ((with_reducible refine HTx.out.mono ?_); rintro e w2 ⟨rfl, hb2⟩); obtain ⟨cn, cf⟩ := HN.out _ hb2; have hlk := HL.out _ hb2; obtain ⟨w3, hrun3, ht3, cf3, hbf3, ho3, hB3, hs3, hm3⟩ := HS.out _ hb2; have HT3 := Lib.hid ht3; have HM3 := Lib.hid hm3; have HO3 := Lib.hid ho3; have HB3 := Lib.hid hbf3; clear ht3 hm3 ho3 hbf3)
      | (at_builtin; refine wpList_append_own_at _ rfl _ _ 33 rfl B 3 i0 (.int .i64 0) 1 8 Tryd.underlying33 hi0 hz0 hz1 hz2 rfl (by decide) _ fl vs rfl (HO3.out.alloc _) ⟨w3.heap.size, 0, none⟩ 1 1 [(.int .i64 s)] rfl rfl (cell_one_new _ _ _) (by simp [Value.oneCell']) (by unfold maxLen; omega) (by omega) (by simp; omega) ?_; intro v' w6 hown' hgrow _ hob; obtain ⟨A2, c2, rfl, _⟩ := Ap.own_form hown'; obtain ⟨hbf6, hlt6, hpost⟩ := HP.out w2 w3 w6 A2 c2 hb2 HT3.out HB3.out HO3.out HM3.out hown' hgrow hob; have f6 := free_of hbf6 0; have c6 : w6.cell? ⟨bf, 0, none⟩ = some (.slice Af fl cf0) := (by simp [World.cell?, hbf6]); have HPost := Lib.hid hpost; clear hpost hbf6 hown' hgrow hob))
    go_ret
    exact HPost.out
end Go.Proofs.YtkgeihambgbjdaaDoor.Sb.Xi
/- explore (package subset) over states. -/
namespace Go.Proofs.YtkgeihambgbjdaaDoor.Sb.Xi
open Go Go.RowKit Go.Maps Go.Proofs.YtkgeihambgbjdaaDoor Go.Proofs.YtkgeihambgbjdaaDoor.Cb Go.Proofs.YtkgeihambgbjdaaDoor.Sb
open Go.Proofs.YtkgeihambgbjdaaDoor.Nf (zvs zvs_snoc info_int6 ret_int ret_b drew_below)
set_option linter.unusedVariables false
set_option linter.unusedSimpArgs false
set_option maxRecDepth 100000
/-- A change that leaves exploring's own blocks and all words. -/
theorem ExpS.frame {B : Nat} {w w' : World} {bt bn bf rb : Nat} {fv : Value} {F : List Int} (h : ExpS B w bt bn bf rb fv F) (hs : w.heap.size ≤ w'.heap.size) (gr : Nat) (hk : ∀ b, b < w.heap.size → b ≠ gr → w'.heap[b]? = w.heap[b]?)
    (h1 : bt ≠ gr ∧ bn ≠ gr ∧ bf ≠ gr ∧ rb ≠ gr) (h2 : fv.ownBlock ≠ some gr) {cs : Array Value} {fz : Nat × Nat} (h3 : w.heap[gr]? = some (Obj.cells cs 3 fz)) : ExpS B w' bt bn bf rb fv F := by
  obtain ⟨es, clock, hrb⟩ := h.m.obj
  obtain ⟨vs, ho, hv⟩ := h.o
  refine ⟨(hk _ (blk_lt h.t) h1.1).trans h.t, (hk _ (blk_lt h.n) h1.2.1).trans h.n, (hk _ (blk_lt h.f) h1.2.2.1).trans h.f, h.m.block (hk _ (blk_lt hrb) h1.2.2.2), ⟨vs, own_eq ho fun g hg => hk g (own_lt ho hg).2 (fun e => h2 (e ▸ hg)), fun i s hs' => ?_⟩, h.lo, h.ne⟩
  obtain ⟨u, h4, h5⟩ := hv i s hs'
  exact ⟨u, h4, R_keep h5 hs fun b cs' fz' hb => (hk b (blk_lt hb) (fun e => by rw [e, h3] at hb; exact absurd hb (by simp))).trans hb⟩
/-- One row so far: the numbers of the first j successors. -/
def rowC (F : List Int) (l : List Int) (j i : Nat) : Value := if i < j then (match l[i]? with | some s => .int .i64 (pos F s : Nat) | none => .int .i64 0) else .int .i64 0
/-- Inside a row. -/
structure InS (w0 : World) (B : Nat) (w : World) (fv rv : Value) (F l : List Int) (RL : List (List Int)) (A1 : Option Addr) (gr j : Nat) : Prop where
  e : ExpS B w B (B + 1 + 1 + 1) (B + 1) (B + 1 + 1) fv F
  r : RowsO (B + 4) w rv RL fun g => fv.ownBlock ≠ some g ∧ g ≠ gr
  q : w.heap[gr]? = some (.cells (cells l.length (rowC F l j)) 3 (0, 0))
  g : B + 4 ≤ gr ∧ fv.ownBlock ≠ some gr ∧ rv.ownBlock ≠ some gr
  x : RowsR R w A1 l ∧ ∀ ad, A1 = some ad → l ≠ [] → ad.block ≠ B + 1 ∧ ad.block ≠ B + 1 + 1 ∧ fv.ownBlock ≠ some ad.block ∧ ad.block ≠ gr
  i : ∀ i s, i < j → l[i]? = some s → s ∈ F
  b : Below B w0 w
theorem InS.step {w0 : World} {B : Nat} {w w2 : World} {fv rv : Value} {F l : List Int} {RL : List (List Int)} {A1 : Option Addr} {gr j : Nat} {s : Int} {e : Ending} (h : InS w0 B w fv rv F l RL A1 gr j) (hj : j < l.length) (hs : l[j] = s) (hn : NumPost B w B (B + 1 + 1 + 1) (B + 1) (B + 1 + 1) fv F s e w2) :
    e = .returned (.int .i64 (pos (add F s) s : Nat)) ∧ w2.heap[gr]? = some (.cells (cells l.length (rowC F l j)) 3 (0, 0)) ∧ ∃ fv', InS w0 B (w2.setCell ⟨gr, j, none⟩ (.int .i64 (pos (add F s) s : Nat))) fv' rv (add F s) l RL A1 gr (j + 1) := by
  obtain ⟨fv', he, hE, hb, hk, hob⟩ := hn
  have hsz := hb.size
  have hg := h.g
  have hgl := blk_lt h.q
  have hq2 : w2.heap[gr]? = some (.cells (cells l.length (rowC F l j)) 3 (0, 0)) := (hk gr hgl (by omega) (by omega) hg.2.1).trans h.q
  have hput : ∀ b, b ≠ gr → (w2.setCell ⟨gr, j, none⟩ (.int .i64 (pos (add F s) s : Nat))).heap[b]? = w2.heap[b]? := fun b hb => Below.heap_setCell _ _ _ b hb
  have hsize : (w2.setCell ⟨gr, j, none⟩ (.int .i64 (pos (add F s) s : Nat))).heap.size = w2.heap.size := by show (Array.modify _ _ _).size = _; rw [Array.size_modify]
  have hfg : ∀ b, b < w.heap.size → fv.ownBlock ≠ some b → fv'.ownBlock ≠ some b := fun b hb hne => by
    rcases hob with h1 | ⟨g, h1, h2⟩
    · rw [h1]; exact hne
    · rw [h1]; intro h3; injection h3 with h3; omega
  have hfr := hfg gr hgl hg.2.1
  have hpre := add_pre F s
  have hsm : s ∈ add F s := mem_add.2 (.inr rfl)
  refine ⟨he, hq2, fv', hE.frame (by omega) gr (fun b _ hb => hput b hb) ⟨by omega, by omega, by omega, by omega⟩ hfr hq2, ?_, ?_, ⟨hg.1, hfr, hg.2.2⟩, ⟨?_, fun ad ha hl0 => ?_⟩, fun i t hi ht => ?_, ?_⟩
  · refine h.r.frame (fun b hbl hB hcb => ?_) (fun b hbl _ hc => ⟨hfg b hbl hc.1, hc.2⟩)
    rcases hcb with hc | hr
    · exact (hput b hc.2).trans (hk b hbl (by omega) (by omega) hc.1)
    · have hbg : b ≠ gr := fun e => hg.2.2 (e ▸ hr)
      have hfb : fv.ownBlock ≠ some b := fun hf => by
        obtain ⟨_, _, cs, fz, hcs⟩ := h.r.own_ge hr
        obtain ⟨vs, ho, _⟩ := h.e.o
        exact own_ne hcs ho (by decide) hf
      exact (hput b hbg).trans (hk b hbl (by omega) (by omega) hfb)
  · rw [heap_put hq2, cells_set _ hj]
    congr 2
    exact cells_congr fun i hi => by
      unfold rowC
      by_cases e1 : i = j
      · subst e1
        rw [if_pos rfl, if_pos (by omega), List.getElem?_eq_getElem hj, hs]
      · rw [if_neg e1]
        by_cases e2 : i < j
        · rw [if_pos e2, if_pos (by omega), List.getElem?_eq_getElem hi]
          show Value.int .i64 _ = Value.int .i64 _
          rw [idx_pre hpre (h.i i _ e2 (List.getElem?_eq_getElem hi))]
        · rw [if_neg e2, if_neg (by omega)]
  · intro i t ht
    obtain ⟨ad, u, ha, hlt, hc, hr⟩ := h.x.1 i t ht
    have hl0 : l ≠ [] := fun e => by rw [e] at hj; exact absurd hj (by simp)
    obtain ⟨n1, n2, n3, n4⟩ := h.x.2 ad ha hl0
    refine ⟨ad, u, ha, by omega, ?_, R_keep hr (by omega) fun b cs fz hbb => ?_⟩
    · rw [← hc]
      exact World.cell?_of_block (by rw [addr_block]; exact (hput _ n4).trans (hk _ hlt n1 n2 n3))
    · have h1 : b ≠ B + 1 := fun e => by have := h.e.f; rw [← e, hbb] at this; exact absurd this (by simp)
      have h2 : b ≠ B + 1 + 1 := fun e => by obtain ⟨es, clk, hrb⟩ := h.e.m.obj; rw [← e, hbb] at hrb; cases hrb
      have h3 : fv.ownBlock ≠ some b := by obtain ⟨vs, ho, _⟩ := h.e.o; exact own_ne hbb ho (by decide)
      have h4 : b ≠ gr := fun e => by rw [e, h.q] at hbb; exact absurd hbb (by simp)
      exact (hput b h4).trans ((hk b (blk_lt hbb) h1 h2 h3).trans hbb)
  · obtain ⟨n1, n2, n3, n4⟩ := h.x.2 ad ha hl0
    have hlt : ad.block < w.heap.size := by
      cases l with
      | nil => exact absurd rfl hl0
      | cons t l =>
        obtain ⟨ad', u, ha', hlt, _⟩ := h.x.1 0 t rfl
        rw [ha] at ha'
        cases ha'
        exact hlt
    exact ⟨n1, n2, hfg _ hlt n3, n4⟩
  · by_cases e1 : i = j
    · subst e1
      rw [List.getElem?_eq_getElem hj, hs] at ht
      cases ht
      exact hsm
    · exact hpre.subset (h.i i t (by omega) ht)
  · exact ((h.b.trans hb)).setCell (p := ⟨gr, j, none⟩) (by show B ≤ gr; omega) _
/-- What a state's successors are, as a slice. -/
def SucR (B : Nat) (X : World) (L : List Int) (e : Ending) (w' : World) : Prop :=
  ∃ A c, e = .returned (.slice A L.length c) ∧ RowsR R w' A L ∧ Below X.heap.size X w' ∧ ∀ ad, A = some ad → L ≠ [] → ad.block < B ∨ X.heap.size ≤ ad.block
/-- At the head of the queue. -/
structure HdS (w0 : World) (B : Nat) (succ : Int → List Int) (bud : Nat) (RES : Option (List Int)) (Pv : Int → Prop) (w : World) (rv fv : Value) (F : List Int) (r : Nat) : Prop where
  e : ExpS B w B (B + 1 + 1 + 1) (B + 1) (B + 1 + 1) fv F
  ro : RowsO (B + 4) w rv (nums succ F r) fun g => fv.ownBlock ≠ some g
  h : r ≤ F.length ∧ F.length ≤ bud
  s : Shut succ F r
  x : expl succ bud (bud + 1 - r) r F = RES
  p : ∀ s ∈ F, Pv s
  b : Below B w0 w
/-- What exploring leaves. -/
def ExplPost (w0 : World) (succ : Int → List Int) (bud : Nat) (RES : Option (List Int)) (e : Ending) (w' : World) : Prop :=
  (RES = none ∧ e = .returned (.tuple #[.slice none 0 0, .slice none 0 0, .bool false]) ∧ Below w0.heap.size w0 w') ∨
  ∃ F fv rv, RES = some F ∧ e = .returned (.tuple #[fv, rv, .bool true]) ∧ (∃ vs : List Value, w'.ownsRow w0.heap.size 3 1 fv F.length vs ∧ ∀ (i : Nat) (s : Int), F[i]? = some s → ∃ u : Value, vs[i]? = some u ∧ R w' u s) ∧ RowsO (w0.heap.size + 4) w' rv (nums succ F F.length) (fun g => fv.ownBlock ≠ some g) ∧ Below w0.heap.size w0 w'
theorem HdS.inner {w0 : World} {B : Nat} {succ : Int → List Int} {bud : Nat} {RES : Option (List Int)} {Pv : Int → Prop} {w w1 : World} {rv fv : Value} {F : List Int} {r : Nat} (h : HdS w0 B succ bud RES Pv w rv fv F r) {A1 : Option Addr} {l : List Int} (hx : RowsR R w1 A1 l) (hb : Below w.heap.size w w1) (ha : ∀ ad, A1 = some ad → l ≠ [] → ad.block < B ∨ w.heap.size ≤ ad.block) :
    InS w0 B (w1.alloc (.cells (cells l.length fun _ => .int .i64 0) 3)) fv rv F l (nums succ F r) A1 w1.heap.size 0 := by
  have hE := h.e.below hb
  have hE2 := hE.below (bal (Below.refl _ _) (.cells (cells l.length fun _ => .int .i64 0) 3))
  have hsz := hb.size
  have hlo := h.e.lo
  obtain ⟨es, clk, hrb⟩ := h.e.m.obj
  have hl2 := blk_lt hrb
  have hln := blk_lt h.e.n
  obtain ⟨vs, ho, _⟩ := h.e.o
  refine ⟨hE2, ?_, ?_, ⟨by omega, fun e => ?_, fun e => ?_⟩, ⟨RowsR.below (R := R) (fun w w' v s h1 h2 => R_below h1 h2) hx (bal (Below.refl _ _) _), fun ad h1 h2 => ?_⟩, fun i s hi => absurd hi (by omega), ?_⟩
  · refine (h.ro.frame (w' := w1) (C' := fun g => fv.ownBlock ≠ some g ∧ g ≠ w1.heap.size) (fun b hbl _ _ => hb.block b hbl) (fun b hbl _ hc => ⟨hc, by omega⟩)).frame (fun b hbl _ _ => Below.heap_alloc w1 _ b hbl) (fun b _ _ hc => hc)
  · rw [World.alloc_heap_new]
    congr 2
  · have := (own_lt ho e).2; omega
  · have := (h.ro.own_ge e).2.1; omega
  · have hlt : ad.block < w1.heap.size := by
      cases l with
      | nil => exact absurd rfl h2
      | cons t l =>
        obtain ⟨ad', u, ha', hlt, _⟩ := hx 0 t rfl
        rw [h1] at ha'
        cases ha'
        exact hlt
    have hne : fv.ownBlock ≠ some ad.block := fun e => by
      have h3 := own_lt ho e
      rcases ha ad h1 h2 with h4 | h4 <;> omega
    rcases ha ad h1 h2 with h4 | h4
    · exact ⟨by omega, by omega, hne, by omega⟩
    · exact ⟨by omega, by omega, hne, by omega⟩
  · exact (h.b.trans (hb.mono (by omega))).alloc (by omega) _
theorem ExpS.at_ {B : Nat} {w : World} {bt bn bf rb : Nat} {fv : Value} {F : List Int} (h : ExpS B w bt bn bf rb fv F) {r : Nat} (hr : r < F.length) : ∃ ad c u, fv = .slice (some ad) F.length c ∧ w.cell? (ad.add r) = some u ∧ R w u F[r] := by
  obtain ⟨vs, ho, hv⟩ := h.o
  obtain ⟨u, hu, hR⟩ := hv r _ (List.getElem?_eq_getElem hr)
  obtain ⟨A, c, e, _⟩ := Ap.own_form ho
  subst e
  have hvals := Vals.of_own (f := fun j => (vs.getD j (.int .i64 0))) ho fun j hj => by
    have : j < vs.length := by have := ho.1; simp at this; omega
    rw [List.getD_eq_getElem?_getD, List.getElem?_eq_getElem this]; rfl
  obtain ⟨ad, e, hc⟩ := hvals.at_ hr
  subst e
  refine ⟨ad, c, u, rfl, ?_, hR⟩
  rw [hc, List.getD_eq_getElem?_getD, hu]
  rfl
theorem ExpS.grown {B : Nat} {w Z : World} {fv rv : Value} {F : List Int} {L : List (List Int)} {C : Nat → Prop} (h : ExpS B w B (B + 1 + 1 + 1) (B + 1) (B + 1 + 1) fv F) (hr : RowsO (B + 4) w rv L C) {tmp : Obj} (hg : (w.alloc tmp).grownBy Z rv.ownBlock) : ExpS B Z B (B + 1 + 1 + 1) (B + 1) (B + 1 + 1) fv F := by
  obtain ⟨es, clock, hrb⟩ := h.m.obj
  obtain ⟨vs, ho, hv⟩ := h.o
  have hk : ∀ b, b < w.heap.size → rv.ownBlock ≠ some b → Z.heap[b]? = w.heap[b]? := fun b hb hn => (hg.block b (by simp; omega) (fun e => hn e.symm)).trans (Below.heap_alloc w tmp b hb)
  have hlow : ∀ b, b < B + 4 → rv.ownBlock ≠ some b := fun b hb e => by have := (hr.own_ge e).1; omega
  have hsz : w.heap.size ≤ Z.heap.size := by have := hg.size; simp at this; omega
  refine ⟨(hk _ (blk_lt h.t) (hlow _ (by omega))).trans h.t, (hk _ (blk_lt h.n) (hlow _ (by omega))).trans h.n, (hk _ (blk_lt h.f) (hlow _ (by omega))).trans h.f, h.m.block (hk _ (blk_lt hrb) (hlow _ (by omega))), ⟨vs, own_eq ho fun g hg' => hk g (own_lt ho hg').2 (fun e => ?_), fun i s hs' => ?_⟩, h.lo, h.ne⟩
  · obtain ⟨_, _, cs, fz, hcs⟩ := hr.own_ge e
    exact own_ne hcs ho (by decide) hg'
  · obtain ⟨u, h4, h5⟩ := hv i s hs'
    exact ⟨u, h4, R_keep h5 hsz fun b cs' fz' hb => (hk b (blk_lt hb) (fun e => by obtain ⟨_, _, cs, fz, hcs⟩ := hr.own_ge e; rw [hcs] at hb; exact absurd hb (by simp))).trans hb⟩
theorem rowC_all (F l : List Int) : cells l.length (rowC F l l.length) = (zvs (l.map fun s => (pos F s : Int))).toArray := by
  unfold cells zvs
  congr 1
  refine List.ext_getElem (by simp) fun i h1 h2 => ?_
  simp at h1 h2 ⊢
  unfold rowC
  rw [if_pos h1, List.getElem?_eq_getElem h1]
theorem InS.next {w0 : World} {B : Nat} {w Z : World} {fv rv rv' : Value} {F l : List Int} {RL : List (List Int)} {A1 : Option Addr} {gr : Nat} (h : InS w0 B w fv rv F l RL A1 gr l.length) {Q : List (Nat × List Int)} {tmp : Obj} (e : Q.map (fun q => q.2) = RL) (hq : ∀ q ∈ Q, B + 4 ≤ q.1 ∧ (fv.ownBlock ≠ some q.1 ∧ q.1 ≠ gr) ∧ w.heap[q.1]? = some (Obj.cells (zvs q.2).toArray 3 (0, 0))) (hr : w.ownsRow (B + 4) 33 1 rv RL.length (rov Q))
    (hown : Z.ownsRow (B + 4) 33 1 rv' (RL.length + 1) (rov Q ++ [.slice (some ⟨gr, 0, none⟩) l.length l.length])) (hg : (w.alloc tmp).grownBy Z rv.ownBlock) :
    ExpS B Z B (B + 1 + 1 + 1) (B + 1) (B + 1 + 1) fv F ∧ RowsO (B + 4) Z rv' (RL ++ [l.map fun s => (pos F s : Int)]) (fun g => fv.ownBlock ≠ some g) ∧ Below B w0 Z := by
  have hlen : (l.map fun s => (pos F s : Int)).length = l.length := List.length_map _
  refine ⟨h.e.grown h.r hg, RowsO.push (C := fun g => fv.ownBlock ≠ some g ∧ g ≠ gr) (gr := gr) e hq hr h.g.1 (by rw [h.q, rowC_all]) (by rw [hlen]; exact hown) hg (fun b _ hc => hc.1) h.g.2.1, ?_⟩
  have hlo := h.e.lo
  have hs := blk_lt h.e.f
  refine (h.b.alloc (by omega) tmp).grown hg (by simp; omega) (fun q hq' => ?_)
  have := (own_lt hr hq').1
  omega
def lenV : Value → Nat
  | .slice _ n _ => n
  | _ => 0
theorem HdS.fin {w0 : World} {succ : Int → List Int} {bud : Nat} {RES : Option (List Int)} {Pv : Int → Prop} {w : World} {rv fv : Value} {F : List Int} {r : Nat} (h : HdS w0 w0.heap.size succ bud RES Pv w rv fv F r) (hr : ¬ r < F.length) : ExplPost w0 succ bud RES (.returned (.tuple #[fv, rv, .bool true])) (w.setCell ⟨w0.heap.size + 1, 0, none⟩ fv) := by
  have hrF : r = F.length := by have := h.h; omega
  subst hrF
  have hres : RES = some F := by
    rw [← h.x, show bud + 1 - F.length = (bud - F.length) + 1 by have := h.h; omega]
    exact expl_end succ bud (Nat.le_refl _)
  obtain ⟨vs, ho, hv⟩ := h.e.o
  have hput : ∀ b, b ≠ w0.heap.size + 1 → (w.setCell ⟨w0.heap.size + 1, 0, none⟩ fv).heap[b]? = w.heap[b]? := fun b hb => Below.heap_setCell _ _ _ b hb
  have hsize : (w.setCell ⟨w0.heap.size + 1, 0, none⟩ fv).heap.size = w.heap.size := by show (Array.modify _ _ _).size = _; rw [Array.size_modify]
  refine .inr ⟨F, fv, rv, hres, rfl, ⟨vs, row_put ho (own_ne h.e.f ho (by decide)) _ _, fun i s hs => ?_⟩, h.ro.frame (fun b _ hB _ => hput b (by omega)) (fun b _ _ hc => hc), h.b.setCell (p := ⟨w0.heap.size + 1, 0, none⟩) (by show w0.heap.size ≤ w0.heap.size + 1; omega) _⟩
  obtain ⟨u, h4, h5⟩ := hv i s hs
  exact ⟨u, h4, R_keep h5 (by omega) fun b cs fz hb => (hput b (fun e => by rw [e, h.e.f] at hb; exact absurd hb (by simp))).trans hb⟩
theorem HdS.over {w0 : World} {B : Nat} {succ : Int → List Int} {bud : Nat} {RES : Option (List Int)} {Pv : Int → Prop} {w : World} {rv fv : Value} {F : List Int} {r : Nat} (h : HdS w0 B succ bud RES Pv w rv fv F r) (hr : r < F.length) {j : Nat} (ho : bud < (rowF F ((succ F[r]).take j)).length) : RES = none := by
  rw [← h.x, show bud + 1 - r = (bud - r) + 1 by have := h.h; omega]
  refine expl_over succ bud hr (Nat.lt_of_lt_of_le ho ?_)
  have := rowF_len_mono (l := succ F[r]) (F := F) (Nat.min_le_right j (succ F[r]).length)
  rw [List.take_length] at this
  rcases Nat.le_total j (succ F[r]).length with h1 | h1
  · rwa [Nat.min_eq_left h1] at this
  · rw [List.take_of_length_le h1]; exact Nat.le_refl _
theorem HdS.next {w0 : World} {B : Nat} {succ : Int → List Int} {bud : Nat} {RES : Option (List Int)} {Pv : Int → Prop} {w Z : World} {rv rv' fv fv' : Value} {F : List Int} {r : Nat} (h : HdS w0 B succ bud RES Pv w rv fv F r) (hr : r < F.length) (hP : ∀ s, Pv s → ∀ t ∈ succ s, Pv t) (ho : (rowF F (succ F[r])).length ≤ bud)
    (hE : ExpS B Z B (B + 1 + 1 + 1) (B + 1) (B + 1 + 1) fv' (rowF F (succ F[r]))) (hR : RowsO (B + 4) Z rv' (nums succ F r ++ [(succ F[r]).map fun s => (pos (rowF F (succ F[r])) s : Int)]) (fun g => fv'.ownBlock ≠ some g)) (hb : Below B w0 Z) : HdS w0 B succ bud RES Pv Z rv' fv' (rowF F (succ F[r])) (r + 1) := by
  have hle := (rowF_pre (succ F[r]) F).length_le
  refine ⟨hE, ?_, ⟨by omega, ho⟩, h.s.step succ hr, ?_, fun s hs => ?_, hb⟩
  · rw [nums_step succ h.s hr]
    exact hR
  · rw [← h.x, show bud + 1 - r = (bud + 1 - (r + 1)) + 1 by have := h.h; omega]
    exact (expl_step succ bud hr ho).symm
  · rcases mem_rowF.1 hs with h1 | h1
    · exact h.p s h1
    · exact hP _ (h.p _ (List.getElem_mem hr)) s h1
set_option maxHeartbeats 16000000 in
theorem explore_any (w : World) (u0 : Value) (s0 : Int) (succ : Int → List Int) (bv : Value) (bud : Nat) (Pv : Int → Prop) (hv : ∀ s, Pv s → P s) (hR : R w u0 s0) (h0 : Pv s0) (hP : ∀ s, Pv s → ∀ t ∈ succ s, Pv t) (hL : ∀ s, Pv s → (succ s).length ≤ 1000) (hb1 : 1 ≤ bud) (hb2 : bud ≤ 10000) (hT : Tabs2 w)
    (HSu : ∀ X, Below w.heap.size w X → ∀ u s, R X u s → Pv s → Calls Tryd.prog 56 #[bv, u] X (SucR w.heap.size X (succ s))) :
    Calls Tryd.prog 55 #[u0, .func (.func 56) #[bv] #[], .func (.func 57) #[] #[], .int .i64 bud] w (ExplPost w succ bud (found succ bud s0)) := by
  obtain ⟨RES, hRES⟩ : ∃ RES, RES = found succ bud s0 := ⟨_, rfl⟩
  have HRES := Lib.hid hRES
  rw [← hRES]
  clear hRES
  have HNm := Lib.hid fun X (hX : Below w.heap.size w X) fv F u s (h : ExpS w.heap.size X w.heap.size (w.heap.size + 1 + 1 + 1) (w.heap.size + 1) (w.heap.size + 1 + 1) fv F) (hr : R X u s) (hs : P s) (hF : ∀ t ∈ F, P t) (hl : F.length ≤ 100000) => number_any w.heap.size X w.heap.size (w.heap.size + 1 + 1 + 1) (w.heap.size + 1) (w.heap.size + 1 + 1) fv F u s h hX.size hr hs hF hl (hT.below hX)
  have HSu' := Lib.hid HSu
  clear HSu hT
  have hmm := @run_makeMap Tryd.prog
  go_enter Tryd.func55, Tryd.ntmps55
  go_wp2
  go_step3
  go_upto_region 3 with fail
  have hE0 : ExpS w.heap.size ((((w.alloc (.cells #[.func (.func 57) #[] #[]] 84)).alloc (.cells #[.slice none 0 0] 33)).alloc (.map #[] 0)).alloc (.cells #[.map (some (w.heap.size + 1 + 1))] 101)) w.heap.size (w.heap.size + 1 + 1 + 1) (w.heap.size + 1) (w.heap.size + 1 + 1) (.slice none 0 0) [] := by
    refine ⟨?_, ?_, ?_, ?_, ⟨[], ⟨rfl, .inl ⟨rfl, rfl⟩⟩, fun i s h => by simp at h⟩, ⟨by omega, by omega, by omega, by omega⟩, ⟨by omega, by omega⟩⟩
    · exact box_old (box_old (box_old (World.alloc_heap_new w _)))
    · have := World.alloc_heap_new (((w.alloc (.cells #[.func (.func 57) #[] #[]] 84)).alloc (.cells #[.slice none 0 0] 33)).alloc (.map #[] 0)) (.cells #[.map (some (w.heap.size + 1 + 1))] 101)
      simpa using this
    · have := World.alloc_heap_new (w.alloc (.cells #[.func (.func 57) #[] #[]] 84)) (.cells #[.slice none 0 0] 33)
      rw [World.size_alloc] at this
      exact box_old (box_old this)
    · have := NumM.made ((w.alloc (.cells #[.func (.func 57) #[] #[]] 84)).alloc (.cells #[.slice none 0 0] 33))
      simp only [World.size_alloc] at this
      exact this.block (Below.heap_alloc _ _ _ (by simp))
  have hb0 : Below w.heap.size w ((((w.alloc (.cells #[.func (.func 57) #[] #[]] 84)).alloc (.cells #[.slice none 0 0] 33)).alloc (.map #[] 0)).alloc (.cells #[.map (some (w.heap.size + 1 + 1))] 101)) := bal (bal (bal (bal (Below.refl _ _) _) _) _) _
  have hR0 := R_below hR hb0
  generalize ((((w.alloc (.cells #[.func (.func 57) #[] #[]] 84)).alloc (.cells #[.slice none 0 0] 33)).alloc (.map #[] 0)).alloc (.cells #[.map (some (w.heap.size + 1 + 1))] 101)) = W0 at *
  have HN0 := Lib.hid (HNm.out W0 hb0 _ _ _ _ hE0 hR0 (hv _ h0) (fun t ht => by cases ht) (by simp))
  clear hE0 hR hR0
  have HB0 := Lib.hid hb0
  clear hb0
  go_wp2_with (go_at_call 72; ((with_reducible refine HN0.out.mono ?_); rintro e w2 ⟨fv, rfl, hE1, hb1', _, _⟩); have HE1 := Lib.hid hE1; have HB1 := Lib.hid hb1'; clear hE1 hb1')
  go_step3
  have hH0 : HdS w w.heap.size succ bud RES Pv w2 (.slice none 0 0) fv (add [] s0) 0 := by
    have hadd : add [] s0 = [s0] := if_neg (by simp)
    refine ⟨HE1.out, RowsO.nil _ _ _, ⟨Nat.zero_le _, by rw [hadd]; exact hb1⟩, fun s hs => absurd hs (by simp), ?_, fun s hs => ?_, HB0.out.trans HB1.out⟩
    · rw [HRES.out, hadd]; rfl
    · rw [hadd, List.mem_singleton] at hs
      rw [hs]; exact h0
  clear HE1 HB1 HB0 HN0
  go_wp2
  go_loopw [9] (fun rs wr => ∃ (F : List Int) (fv rv : Value) (r : Nat), rv = rs ∧ HdS w w.heap.size succ bud RES Pv wr rv fv F r) (fun rs _ => bud + 1 - lenV rs)
  case atStart => exact ⟨_, fv, _, 0, rfl, hH0⟩
  case round =>
    clear hH0
    obtain ⟨F, fv, rv, r, rfl, hH⟩ := hrel
    have hrn := nums_len succ F r hH.h.1
    obtain ⟨Ar, cr, hrv, _⟩ := hH.ro.form
    rw [hrn] at hrv
    subst hrv
    obtain ⟨vs0, hvo, _⟩ := hH.e.o
    obtain ⟨Af, cf, hfv, _⟩ := Ap.own_form hvo
    subst hfv
    have cF : wr.cell? ⟨w.heap.size + 1, 0, none⟩ = some (.slice Af F.length cf) := by simp [World.cell?, hH.e.f]
    have hFb := hH.h.2
    clear hvo
    by_cases hlt : r < F.length
    · obtain ⟨ad, cA, u, hA, hcu, hRu⟩ := hH.e.at_ hlt
      injection hA with hA1 hA2 hA3
      subst hA1 hA3
      have hPs := hH.p _ (List.getElem_mem hlt)
      have HCall := Lib.hid (HSu'.out wr hH.b _ _ hRu hPs)
      have hlt2 : (r : Int) < (F.length : Int) := by omega
      have hlk := hL _ hPs
      have hmi := made_ints (succ F[r]).length (by omega)
      have HH := Lib.hid hH
      have hOver := Lib.hid fun j (ho : bud < (rowF F ((succ F[r]).take j)).length) => hH.over hlt ho
      have hFP := Lib.hid fun j t (ht : t ∈ rowF F ((succ F[r]).take j)) => show Pv t by
        rcases mem_rowF.1 ht with h1 | h1
        · exact hH.p t h1
        · exact hP _ hPs t (List.mem_of_mem_take h1)
      have hLP := Lib.hid fun t (ht : t ∈ succ F[r]) => hP _ hPs t ht
      clear hRu hH hrn
      obtain ⟨l, hl⟩ : ∃ l, l = succ F[r] := ⟨_, rfl⟩
      have HL := Lib.hid hl
      rw [← hl] at HCall hlk hmi hOver hFP hLP
      clear hl hPs
      go_wp2_with (first
        | (go_at_call 56; ((with_reducible refine HCall.out.mono ?_); rintro e w1 ⟨A1, c1, rfl, hx1, hbx1, hax1⟩); have HIn := Lib.hid (HH.out.inner hx1 hbx1 hax1); clear hx1 hbx1 hax1))
      have hIn := HIn.out
      clear HIn hmi cF hcu HCall
      generalize w1.alloc (.cells (cells l.length fun _ => .int .i64 0) 3) = W2 at *
      generalize w1.heap.size = gr at *
      obtain ⟨rv, hrv⟩ : ∃ rv, rv = Value.slice Ar r cr := ⟨_, rfl⟩
      rw [← hrv] at hIn
      have hHH := HH.out
      rw [← hrv] at hHH
      have HH2 := Lib.hid hHH
      have HRV := Lib.hid hrv
      clear HH hHH hrv
      obtain ⟨fv1, hfv1⟩ : ∃ fv1, fv1 = Value.slice (some ad) F.length cf := ⟨_, rfl⟩
      rw [← hfv1] at hIn HH2
      clear hfv1
      have hPl := HL.out
      go_loopw [39] (fun iv wj => ∃ (j : Nat) (fj : Value), j ≤ l.length ∧ iv = .int .i64 j ∧ (rowF F (l.take j)).length ≤ bud ∧ InS w w.heap.size wj fj rv (rowF F (l.take j)) l (nums succ F r) A1 gr j) (fun iv _ => l.length - (intOf iv).toNat)
      case atStart => exact ⟨0, fv1, Nat.zero_le _, rfl, by simpa [rowF] using hFb, by simpa [rowF] using hIn⟩
      case round =>
        clear hIn hPl
        obtain ⟨j, fj, hj, rfl, hjb, hI⟩ := hrel
        by_cases hjl : j < l.length
        · obtain ⟨ad1, uj, hA1, hadl, hcj, hRj⟩ := hI.x.1 j l[j] (List.getElem?_eq_getElem hjl)
          subst hA1
          have hPj := hLP.out _ (List.getElem_mem hjl)
          have HN := Lib.hid (HNm.out wr hI.b fj _ uj l[j] hI.e hRj (hv _ hPj) (fun t ht => hv _ (hFP.out j t ht)) (by omega))
          have hIe := Lib.hid fun e w2 (hn : NumPost w.heap.size wr w.heap.size (w.heap.size + 1 + 1 + 1) (w.heap.size + 1) (w.heap.size + 1 + 1) fj (rowF F (l.take j)) l[j] e w2) => hI.step hjl rfl hn
          rw [← rowF_take hjl] at hIe
          have hjl2 : (j : Int) < (l.length : Int) := by omega
          have hcell := hcj
          have huj : uj = .int .i64 l[j] := hRj
          subst huj
          clear hI hRj hPj
          by_cases hov : bud < (rowF F (l.take (j + 1))).length
          · have hnone := hOver.out (j + 1) hov
            have hdb : decide ((bud : Int) < ((rowF F (l.take (j + 1))).length : Int)) = true := decide_eq_true (by omega)
            have hnb : 0 < bud := by omega
            go_wp2_with (go_at_call 72; ((with_reducible refine HN.out.mono ?_); rintro e w3 hn3); obtain ⟨rfl, hq3, fv3, hI3⟩ := hIe.out _ _ hn3; clear hn3; obtain ⟨vs3, hvo3, _⟩ := hI3.e.o; obtain ⟨A3, c3', hfv3, _⟩ := Ap.own_form hvo3; subst hfv3; clear hvo3; have f3 := free_of hq3 j; have c3 := cell_of hq3 (i := j) hjl; have hl3 := blk_lt hq3; have HI3 := Lib.hid hI3; have cf3 : (w3.setCell ⟨gr, j, none⟩ (.int .i64 (pos (rowF F (l.take (j + 1))) l[j] : Nat))).cell? ⟨w.heap.size + 1, 0, none⟩ = some (.slice A3 (rowF F (l.take (j + 1))).length c3') := (by simp [World.cell?, hI3.e.f]); have ff3 := free_of hI3.e.f 0; have lf3 := blk_lt hI3.e.f; clear hI3 hq3)
            rw [Exit.noGoto_ret]
            have y0 := Lib.hid (show ((w3.setCell ⟨gr, j, none⟩ (.int .i64 (pos (rowF F (l.take (j + 1))) l[j] : Nat))).setCell ⟨w.heap.size + 1, 0, none⟩ (.slice none 0 0)).cell? ⟨w.heap.size + 1, 0, none⟩ = some (.slice none 0 0) by simp [World.cell?, heap_put HI3.out.e.f 0 _])
            have y1 := y0.out
            refine bodyPost_ret (v := .tuple #[.slice none 0 0, .slice none 0 0, .bool false]) (by simp [results, Tryd.results55, go_sem, y1]) rfl (.inl ⟨hnone, rfl, ?_⟩)
            exact HI3.out.b.setCell (p := ⟨w.heap.size + 1, 0, none⟩) (by show w.heap.size ≤ w.heap.size + 1; omega) _
          · have hdb : decide ((bud : Int) < ((rowF F (l.take (j + 1))).length : Int)) = false := decide_eq_false (by omega)
            go_wp2_with (go_at_call 72; ((with_reducible refine HN.out.mono ?_); rintro e w3 hn3); obtain ⟨rfl, hq3, fv3, hI3⟩ := hIe.out _ _ hn3; clear hn3; obtain ⟨vs3, hvo3, _⟩ := hI3.e.o; obtain ⟨A3, c3', hfv3, _⟩ := Ap.own_form hvo3; subst hfv3; clear hvo3; have f3 := free_of hq3 j; have c3 := cell_of hq3 (i := j) hjl; have hl3 := blk_lt hq3; have HI3 := Lib.hid hI3; have cf3 : (w3.setCell ⟨gr, j, none⟩ (.int .i64 (pos (rowF F (l.take (j + 1))) l[j] : Nat))).cell? ⟨w.heap.size + 1, 0, none⟩ = some (.slice A3 (rowF F (l.take (j + 1))).length c3') := (by simp [World.cell?, hI3.e.f]); have ff3 := free_of hI3.e.f 0; have lf3 := blk_lt hI3.e.f; clear hI3 hq3)
            go_roundw
            case rel => exact ⟨j + 1, _, by omega, by go_num, by omega, HI3.out⟩
            case measure => simp [intOf]; omega
        · obtain rfl : j = l.length := by omega
          rw [List.take_length] at hI hjb
          have hrv := HRV.out
          subst hrv
          have hrn := nums_len succ F r HH2.out.h.1
          obtain ⟨Q, eQ, hoQ, hqQ⟩ := hI.r
          have hNx := Lib.hid fun v' w6 hown' tmp hgrow => hI.next (rv' := v') (Z := w6) (tmp := tmp) eQ hqQ hoQ hown' hgrow
          rw [hrn] at hNx hoQ
          have hNH := Lib.hid fun Z rv' (hb : (rowF F (succ F[r])).length ≤ bud) => HH2.out.next (Z := Z) (rv' := rv') (fv' := fj) hlt hP hb
          rw [← HL.out] at hNH
          have hsz4 : w.heap.size + 4 ≤ wr.heap.size := by have := blk_lt hI.q; have := hI.g.1; omega
          have HOQ := Lib.hid hoQ
          have hr1 : r ≤ 10000 := by have := HH2.out.h; omega
          obtain ⟨i1, hi1, hy0, hy1, hy2⟩ := info_parts Dg.info_tab
          clear hI eQ hqQ hoQ hrn
          go_wp2_with (at_builtin; refine wpList_append_own_at _ rfl _ _ 22 rfl (w.heap.size + 4) 33 i1 (.slice none 0 0) 1 24 Tryd.underlying22 hi1 hy0 hy1 hy2 rfl (by decide) _ r (rov Q) rfl (HOQ.out.alloc _) ⟨wr.heap.size, 0, none⟩ 1 1 [.slice (some ⟨gr, 0, none⟩) l.length l.length] rfl rfl (cell_one_new _ _ _) (by simp [Value.oneCell']) (by unfold maxLen; omega) (by omega) (by simp; omega) ?_; intro v' w6 hown' hgrow _ _; obtain ⟨A2, c2, rfl, _⟩ := Ap.own_form hown'; have hn6 := hNx.out _ _ hown' _ hgrow; have HN6 := Lib.hid hn6; clear hn6 hown' hgrow)
          go_roundw
          case rel =>
            obtain ⟨h1, h2, h3⟩ := HN6.out
            exact ⟨_, fj, _, r + 1, rfl, hNH.out _ _ hjb h1 h2 h3⟩
          case measure => simp [lenV]; omega
    · have hfin := hH.fin hlt
      have hdf : decide ((r : Int) < (F.length : Int)) = false := decide_eq_false (by omega)
      have hdb : decide ((bud : Int) < (F.length : Int)) = false := decide_eq_false (by omega)
      have f0 := free_of hH.e.f 0
      have hl0 := blk_lt hH.e.f
      have HF := Lib.hid hfin
      have HY := Lib.hid (show (wr.setCell ⟨w.heap.size + 1, 0, none⟩ (.slice Af F.length cf)).cell? ⟨w.heap.size + 1, 0, none⟩ = some (.slice Af F.length cf) by simp [World.cell?, heap_put hH.e.f 0 _])
      clear hfin hH hrn
      go_wp2
      rw [Exit.noGoto_ret]
      have y0 := HY.out
      exact bodyPost_ret (v := .tuple #[.slice Af F.length cf, .slice Ar r cr, .bool true]) (by simp [results, Tryd.results55, go_sem, y0]) rfl HF.out
end Go.Proofs.YtkgeihambgbjdaaDoor.Sb.Xi
/- Renumber (package subset): what it finds; its successors; a bad automaton. -/
namespace Go.Proofs.YtkgeihambgbjdaaDoor.Sb
open Go Go.RowKit Go.Proofs.YtkgeihambgbjdaaDoor Go.Proofs.YtkgeihambgbjdaaDoor.Cb
open Go.Proofs.YtkgeihambgbjdaaDoor.Nf (drew_below hnext zvs)
open Go.Proofs.YtkgeihambgbjdaaDoor.Dg (Tabs tb tb_mem)
set_option linter.unusedVariables false
set_option linter.unusedSimpArgs false
set_option maxRecDepth 100000
/-- The states to which the letters lead. -/
def succT (d : Da) (s : Int) : List Int := tb d.nx s.toNat
def Pd (d : Da) (s : Int) : Prop := 0 ≤ s ∧ s < (d.nx.length : Int)
theorem pd_succ {d : Da} (hO : OkD d) {s : Int} (hs : Pd d s) : ∀ t ∈ succT d s, Pd d t := fun t ht => (hO.row _ (tb_mem (by have := hs.1; have := hs.2; omega))).2 t ht
theorem pd_len {d : Da} (hO : OkD d) {s : Int} (hs : Pd d s) : (succT d s).length ≤ 64 := by
  have h1 := (hO.row _ (tb_mem (j := s.toNat) (by have := hs.1; have := hs.2; omega))).1
  have h2 : 2 ^ d.V.toNat ≤ 2 ^ 6 := Nat.pow_le_pow_right (by decide) (by have := hO.v6; omega)
  unfold succT
  omega
/-- The renumbered automaton of the states F. -/
def renD (d : Da) (F : List Int) : Da := ⟨d.V, 0, nums (succT d) F F.length, F.map fun s => d.fi.getD s.toNat false⟩
theorem ren_some {d : Da} (hO : OkD d) : ∃ F, found (succT d) d.nx.length d.q0 = some F ∧ ∀ s ∈ F, Pd d s := by
  have hm : ∀ s, Pd d s → s ∈ (List.range d.nx.length).map (fun k : Nat => (k : Int)) := fun s hs => List.mem_map.2 ⟨s.toNat, List.mem_range.2 (by have := hs.1; have := hs.2; omega), Int.toNat_of_nonneg hs.1⟩
  have hp : ∀ s ∈ (List.range d.nx.length).map (fun k : Nat => (k : Int)), Pd d s := fun s hs => by
    obtain ⟨k, hk, rfl⟩ := List.mem_map.1 hs
    have := List.mem_range.1 hk
    exact ⟨by omega, by omega⟩
  obtain ⟨G, hG, hGm⟩ := found_some (succT d) d.nx.length (T := (List.range d.nx.length).map fun k : Nat => (k : Int)) (s0 := d.q0) (fun s hs t ht => hm t (pd_succ hO (hp s hs) t ht)) (hm _ hO.q0) (by simp)
  exact ⟨G, hG, fun s hs => hp s (hGm s hs)⟩
theorem row_any (ad : Addr) (n a k : Nat) (p : Option Addr) (m c : Nat) (w : World) (hc : w.cell? (ad.add k) = some (.slice p m c)) (hk : k < n) :
    Calls Tryd.prog 56 #[.slice (some ad) n a, .int .i64 k] w fun e w' => e = .returned (.slice p m c) ∧ w = w' := by
  have hk2 : (k : Int) < (n : Int) := by omega
  go_enter Tryd.func56, Tryd.ntmps56
  go_wp2
  go_ret
  exact ⟨rfl, rfl⟩
section
variable (d : Da) (A B : Option Addr) (a b : Nat) (w : World) (hx : DaAt w d A B)
include hx
theorem explD (hO : OkD d) (hT : Tabs2 w) (X : World) (hX : Below w.heap.size w X) :
    Calls Tryd.prog 55 #[.int .i64 d.q0, .func (.func 56) #[.slice A d.nx.length a] #[], .func (.func 57) #[] #[], .int .i64 d.nx.length] X (Xi.ExplPost X (succT d) d.nx.length (found (succT d) d.nx.length d.q0)) := by
  have hn4 := hO.n4
  have hn0 := hO.n0
  refine Xi.explore_any X _ d.q0 (succT d) _ d.nx.length (Pd d) (fun s hs => ⟨hs.1, by have := hs.2; omega⟩) rfl hO.q0 (fun s hs t ht => pd_succ hO hs t ht) (fun s hs => by have := pd_len hO hs; omega) hn0 (by omega) (hT.below hX) (fun Y hY u s hR hP => ?_)
  obtain rfl : u = .int .i64 s := hR
  obtain ⟨k, rfl⟩ := Int.eq_ofNat_of_zero_le hP.1
  have hk : k < d.nx.length := by have := hP.2; omega
  obtain ⟨ad, p, c, rfl, hb, hc, hi⟩ := hx.nx k hk
  have hXY := stepB hX hY
  refine (row_any ad d.nx.length a k p (tb d.nx k).length c Y ((Below.cell hXY (by rw [addr_block]; exact hb)).trans hc) hk).mono ?_
  rintro e Z ⟨rfl, rfl⟩
  have hiY := Vals.below hi hXY
  refine ⟨p, c, rfl, fun j s hj => ?_, Below.refl _ _, fun pd hp hne => ?_⟩
  · have hj2 : j < (tb d.nx k).length := (List.getElem?_eq_some_iff.1 hj).1
    obtain ⟨pd, h1, h2, h3⟩ := hiY j hj2
    refine ⟨pd, _, h1, h2, h3, ?_⟩
    have hj3 : (tb d.nx k)[j]? = some s := hj
    show Value.int .i64 (nd (tb d.nx k) j) = .int .i64 s
    unfold nd
    rw [List.getD_eq_getElem?_getD, hj3]; rfl
  · have hl0 : 0 < (tb d.nx k).length := List.length_pos_iff.2 hne
    obtain ⟨pd', h1, h2, _⟩ := hi 0 hl0
    rw [hp] at h1
    cases h1
    exact .inl (Nat.lt_of_lt_of_le h2 hX.size)
variable (hl : DaLen d)
include hl
theorem Renumber_bad (h0 : chkD d ≠ 0) :
    Calls Tryd.prog 33 #[.agg #[.int .i64 d.V, .int .i64 d.q0, .slice A d.nx.length a, .slice B d.fi.length b]] w fun e w' => e = .returned (.tuple #[.agg #[.int .i64 0, .int .i64 0, .slice none 0 0, .slice none 0 0], .int .i64 (chkD d)]) ∧ Below w.heap.size w w' := by
  have hb0 := bal (bal (Below.refl w.heap.size w) (.cells #[.int .i64 d.V, .int .i64 d.q0, .slice A d.nx.length a, .slice B d.fi.length b] 25)) (.cells #[.int .i64 0, .int .i64 0, .slice none 0 0, .slice none 0 0] 25)
  have hN0 := (Blk4.new w (.int .i64 d.V) (.int .i64 d.q0) (.slice A d.nx.length a) (.slice B d.fi.length b)).below (bal (Below.refl _ _) (.cells #[.int .i64 0, .int .i64 0, .slice none 0 0, .slice none 0 0] 25))
  have hR0 := Blk4.new (w.alloc (.cells #[.int .i64 d.V, .int .i64 d.q0, .slice A d.nx.length a, .slice B d.fi.length b] 25)) (.int .i64 0) (.int .i64 0) (.slice none 0 0) (.slice none 0 0)
  rw [World.size_alloc] at hR0
  have HC := Lib.hid fun X (hX : Below w.heap.size w X) => CheckD_any d A B a b X (hx.below hX) hl
  have hne : (chkD d != 0) = true := by rw [bne_iff_ne]; exact h0
  clear hx hl h0
  obtain ⟨z0, z1, z2, z3⟩ := hN0.cells
  generalize chkD d = E at *
  generalize d.nx.length = nn at *
  generalize d.fi.length = nf at *
  go_enter Tryd.func33, Tryd.ntmps33
  go_wp2_with (go_at_call 31; ((with_reducible refine (HC.out _ hb0).mono ?_); rintro e w2 ⟨rfl, hb2⟩); clear z0 z1 z2 z3; replace hR0 := hR0.below hb2; replace hb0 := stepB hb0 hb2; obtain ⟨⟨p0, f0⟩, ⟨p1, f1⟩, ⟨p2, f2⟩, ⟨p3, f3⟩, hR5, hB5⟩ := store4 hR0 (.int .i64 0) (.int .i64 0) (.slice none 0 0) (.slice none 0 0); have HF := Lib.hid (And.intro hR5.cells (hB5 w.heap.size (by omega))); clear hR5 hB5)
  obtain ⟨⟨y0, y1, y2, y3⟩, hb5'⟩ := HF.out
  have hb5 := hb0.trans hb5'
  unfold put4 at y0 y1 y2 y3 hb5
  refine bodyPost_ret (v := .tuple #[.agg #[.int .i64 0, .int .i64 0, .slice none 0 0, .slice none 0 0], .int .i64 E]) (by simp [results, Tryd.results33, go_sem, y0, y1, y2, y3]) rfl ?_
  exact ⟨rfl, hb5⟩
end
end Go.Proofs.YtkgeihambgbjdaaDoor.Sb
/- Sets of states are found within two to the number of states; what Determinize finds; the kit's EqualDFA. -/
namespace Go.Proofs.YtkgeihambgbjdaaDoor.Sb
open Go Go.RowKit Go.Proofs.YtkgeihambgbjdaaDoor Go.Proofs.YtkgeihambgbjdaaDoor.Cb
open Go.Proofs.YtkgeihambgbjdaaDoor.Nf (Na NaAt NaLen Ok ok_of chkN stepW runW accW wrongN longB long_len)
open Go.Proofs.YtkgeihambgbjdaaDoor.Dg (Tabs tb tb_mem)
set_option linter.unusedVariables false
set_option linter.unusedSimpArgs false
set_option maxRecDepth 100000
/-- The lists of numbers below n, ascending. -/
def subs : Nat → List (List Nat)
  | 0 => [[]]
  | n + 1 => subs n ++ (subs n).map (· ++ [n])
theorem subs_len : ∀ n, (subs n).length = 2 ^ n
  | 0 => rfl
  | n + 1 => by
    show (subs n ++ _).length = _
    rw [List.length_append, List.length_map, subs_len n, Nat.pow_succ]
    omega
theorem filter_subs (p : Nat → Bool) : ∀ n, (List.range n).filter p ∈ subs n
  | 0 => by simp [subs]
  | n + 1 => by
    rw [List.range_succ, List.filter_append]
    show _ ∈ subs n ++ _
    have h := filter_subs p n
    by_cases hp : p n = true
    · rw [List.filter_cons_of_pos hp, List.filter_nil]
      exact List.mem_append_right _ (List.mem_map.2 ⟨_, h, rfl⟩)
    · rw [List.filter_cons_of_neg hp, List.filter_nil, List.append_nil]
      exact List.mem_append_left _ h
def allS (S : Nat) : List (List Nat) := (subs S).map fun l => ofL (l.map fun x : Nat => (x : Int))
theorem els_below {s : List Nat} {S : Nat} (hS : S ≤ 4096) (h : ∀ k ∈ els s, k < S) : els s = (List.range S).filter (mem s) := by
  have h0 : els s = (List.range 4096).filter (mem s) := rfl
  obtain ⟨r, hr⟩ : ∃ r, 4096 = S + r := ⟨4096 - S, by omega⟩
  have h2 : ((List.range r).map (S + ·)).filter (mem s) = [] := by
    rw [List.filter_eq_nil_iff]
    intro k hk hm
    obtain ⟨j, hj, rfl⟩ := List.mem_map.1 hk
    have hj' := List.mem_range.1 hj
    have := h (S + j) (els_mem.2 ⟨by omega, hm⟩)
    omega
  rw [h0, hr, List.range_add, List.filter_append, h2, List.append_nil]
theorem pn_all {n : Na} {s : List Nat} (hO : Ok n) (h : PN n s) : s ∈ allS n.S.toNat := by
  obtain ⟨h1, h2, _, h4⟩ := h
  have := hO.s64
  have h5 := els_below (s := s) (S := n.S.toNat) (by omega) h4
  refine List.mem_map.2 ⟨els s, by rw [h5]; exact filter_subs _ _, ?_⟩
  exact (ofL_els h2).trans h1
theorem all_pn {n : Na} (hO : Ok n) (s : List Nat) : ∀ t ∈ succN n s, t ∈ allS n.S.toNat := fun t ht => pn_all hO (pn_succ hO s t ht)
theorem det_some {n : Na} (hO : Ok n) {b : Nat} (hb : 2 ^ n.S.toNat ≤ b) : ∃ F, detN n b = some F ∧ F.length ≤ 2 ^ n.S.toNat := by
  have hp : 1 ≤ 2 ^ n.S.toNat := Nat.pow_pos (by decide)
  obtain ⟨G, hG, _⟩ := found_some (succN n) (2 ^ n.S.toNat) (T := allS n.S.toNat) (s0 := ofL n.st) (fun s _ t ht => all_pn hO s t ht) (pn_all hO (pn_start hO)) (by unfold allS; rw [List.length_map, subs_len]; exact Nat.le_refl _)
  exact ⟨G, expl_mono (succN n) hb _ _ _ _ (by omega) _ hG, (found_is (succN n) _ hp hG).len⟩
theorem det_budget {n : Na} {b c : Nat} {F : List (List Nat)} (h : detN n c = some F) (hb : 1 ≤ b) (hc : b ≤ c) : detN n b = if b < F.length then none else some F := by
  by_cases hl : b < F.length
  · rw [if_pos hl]
    cases hd : detN n b with
    | none => rfl
    | some G =>
      have h1 : detN n c = some G := expl_mono (succN n) hc _ _ _ _ (by omega) _ hd
      rw [h] at h1
      injection h1 with h2
      subst h2
      have := (found_is (succN n) b hb hd).len
      omega
  · rw [if_neg hl]
    exact expl_less (succN n) _ _ _ _ (by omega) (Nat.zero_le _) _ h (by omega)
theorem det_found {n : Na} {b : Nat} {F : List (List Nat)} (hb : 1 ≤ b) (hd : detN n b = some F) : Found (succN n) b (ofL n.st) F := found_is (succN n) b hb hd
theorem det_nx (n : Na) (F : List (List Nat)) : (detD n F).nx.length = F.length := nums_len _ _ _ (Nat.le_refl _)
theorem det_fi (n : Na) (F : List (List Nat)) : (detD n F).fi.length = F.length := List.length_map _
theorem det_ok {n : Na} {b : Nat} {F : List (List Nat)} (hO : Ok n) (hb : 1 ≤ b) (hb2 : b ≤ 4096) (hd : detN n b = some F) : OkD (detD n F) := by
  have hF := det_found hb hd
  have h0 : 0 < F.length := by
    have := hF.head
    rcases F with _ | ⟨x, F⟩
    · cases this
    · exact Nat.succ_pos _
  have hl := hF.len
  refine ⟨hO.v0, hO.v6, by rw [det_nx]; exact h0, by rw [det_nx]; omega, by rw [det_nx, det_fi], ?_, fun r hr => ⟨?_, ?_⟩⟩
  · rw [det_nx]; show 0 ≤ (0 : Int) ∧ (0 : Int) < _; omega
  · obtain ⟨s, _, rfl⟩ := List.mem_map.1 hr
    show ((succN n s).map _).length = _
    rw [List.length_map]
    unfold succN rowS
    rw [List.length_map, List.length_range]; rfl
  · rw [det_nx]; exact nums_ok (succN n) hF.shut r hr
theorem elsI_small (s : List Nat) : (elsI s).length ≤ 4096 := by
  unfold elsI
  rw [List.length_map]
  exact Nat.le_trans (List.length_filter_le _ _) (by rw [List.length_range]; exact Nat.le_refl _)
section
variable (n : Na) (A B C : Option Addr) (a b c : Nat) (w : World) (hx : NaAt w n A B C) (hl : NaLen n)
include hx hl
end
set_option maxHeartbeats 4000000 in
theorem EqualDFA_same (d : Da) (A B A' B' : Option Addr) (a b a' b' : Nat) (w : World) (hx : DaAt w d A B) (hy : DaAt w d A' B') (hl : DaLen d) :
    Calls Tryd.prog 20 #[.agg #[.int .i64 d.V, .int .i64 d.q0, .slice A d.nx.length a, .slice B d.fi.length b], .agg #[.int .i64 d.V, .int .i64 d.q0, .slice A' d.nx.length a', .slice B' d.fi.length b']] w fun e w' => e = .returned (.bool true) ∧ Below w.heap.size w w' := by
  have hb0 := bal (bal (Below.refl w.heap.size w) (.cells #[.int .i64 d.V, .int .i64 d.q0, .slice A d.nx.length a, .slice B d.fi.length b] 25)) (.cells #[.int .i64 d.V, .int .i64 d.q0, .slice A' d.nx.length a', .slice B' d.fi.length b'] 25)
  have hB1 := (Blk4.new w (.int .i64 d.V) (.int .i64 d.q0) (.slice A d.nx.length a) (.slice B d.fi.length b)).below (bal (Below.refl _ _) (.cells #[.int .i64 d.V, .int .i64 d.q0, .slice A' d.nx.length a', .slice B' d.fi.length b'] 25))
  have hB2 := Blk4.new (w.alloc (.cells #[.int .i64 d.V, .int .i64 d.q0, .slice A d.nx.length a, .slice B d.fi.length b] 25)) (.int .i64 d.V) (.int .i64 d.q0) (.slice A' d.nx.length a') (.slice B' d.fi.length b')
  rw [World.size_alloc] at hB2
  have H1 := Lib.hid fun X (hX : Below w.heap.size w X) => EqualRows_same A A' d.nx a a' X (hx.nx.below hX) (hy.nx.below hX) hl.nx hl.row
  have H2 := Lib.hid fun X (hX : Below w.heap.size w X) => EqualBools_same B B' d.fi b b' X (hx.fi.below hX) (hy.fi.below hX) hl.fi
  obtain ⟨V, q0, nx, fi⟩ := d
  dsimp only at *
  clear hx hy hl
  generalize nx.length = nn at *
  generalize fi.length = nf at *
  have hV : (V == V) = true := beq_self_eq_true V
  have hS : (q0 == q0) = true := beq_self_eq_true q0
  obtain ⟨z0, z1, z2, z3⟩ := hB1.cells
  obtain ⟨y0, y1, y2, y3⟩ := hB2.cells
  go_enter Tryd.func20, Tryd.ntmps20
  go_wp2_with (first
    | (go_at_call 45; ((with_reducible refine (H1.out _ hb0).mono ?_); rintro e w2 ⟨rfl, hb2⟩); clear z0 z1 z2 z3 y0 y1 y2 y3; replace hB1 := hB1.below hb2; replace hB2 := hB2.below hb2; replace hb0 := stepB hb0 hb2; clear H1; obtain ⟨z0, z1, z2, z3⟩ := hB1.cells; obtain ⟨y0, y1, y2, y3⟩ := hB2.cells)
    | (go_at_call 46; ((with_reducible refine (H2.out _ hb0).mono ?_); rintro e w3 ⟨rfl, nq, rfl⟩)))
  go_ret
  exact ⟨rfl, stepB hb0 (Ap.drewN_below _ _)⟩
/-- The lengths of an automaton that came in. -/
structure NaMax7 (n : Na) : Prop where
  st : n.st.length ≤ maxLen
  fi : n.fi.length ≤ maxLen
  es : n.es.length ≤ maxLen
end Go.Proofs.YtkgeihambgbjdaaDoor.Sb
/- Renumber (package subset) of a valid automaton. -/
namespace Go.Proofs.YtkgeihambgbjdaaDoor.Sb
open Go Go.RowKit Go.Proofs.YtkgeihambgbjdaaDoor Go.Proofs.YtkgeihambgbjdaaDoor.Cb
open Go.Proofs.YtkgeihambgbjdaaDoor.Nf (drew_below hnext zvs)
open Go.Proofs.YtkgeihambgbjdaaDoor.Dg (Tabs tb tb_mem)
set_option linter.unusedVariables false
set_option linter.unusedSimpArgs false
set_option maxRecDepth 100000
def fiV (d : Da) (s : Int) : Value := .bool (d.fi.getD s.toNat false)
/-- Behind k finals. -/
structure RenL (w w4 : World) (d : Da) (F : List Int) (g1 : Nat) (rv : Value) (k : Nat) (A3 : Option Addr) (c3 : Nat) (X : World) : Prop where
  dd : Blk4 X g1 (.int .i64 d.V) (.int .i64 0) rv (.slice A3 k c3)
  f : X.ownsRow w4.heap.size 4 1 (.slice A3 k c3) k ((F.take k).map (fiV d))
  fr : w4.heap.size ≤ X.heap.size ∧ ∀ b, b < w4.heap.size → b ≠ g1 → X.heap[b]? = w4.heap[b]?
  b : Below w.heap.size w X
  lo : w.heap.size ≤ g1 ∧ w.heap.size ≤ w4.heap.size
theorem RenL.below {w w4 : World} {d : Da} {F : List Int} {g1 : Nat} {rv : Value} {k : Nat} {A3 : Option Addr} {c3 : Nat} {X Y : World} (h : RenL w w4 d F g1 rv k A3 c3 X) (hb : Below X.heap.size X Y) : RenL w w4 d F g1 rv k A3 c3 Y :=
  ⟨h.dd.below hb, h.f.below hb, ⟨Nat.le_trans h.fr.1 hb.size, fun b h1 h2 => (hb.block b (by have := h.fr.1; omega)).trans (h.fr.2 b h1 h2)⟩, stepB h.b hb, h.lo⟩
theorem RenL.fin {w w4 : World} {d : Da} {F : List Int} {g1 : Nat} {rv : Value} {k : Nat} {A3 A4 : Option Addr} {c3 c4 : Nat} {X Z : World} {tmp : Obj} (h : RenL w w4 d F g1 rv k A3 c3 X) (hk : k < F.length)
    (ho : Z.ownsRow w4.heap.size 4 1 (.slice A4 (k + 1) c4) (k + 1) (((F.take k).map (fiV d)) ++ [fiV d (F.getD k 0)])) (hg : (X.alloc tmp).grownBy Z (Value.slice A3 k c3).ownBlock) :
    Blk4 Z g1 (.int .i64 d.V) (.int .i64 0) rv (.slice A3 k c3) ∧ RenL w w4 d F g1 rv (k + 1) A4 c4 (Z.setCell ⟨g1, 3, none⟩ (.slice A4 (k + 1) c4)) := by
  have hd := h.dd
  have hlt := blk_lt hd
  have hfr := h.fr
  have hlo := h.lo
  have hX := hg.size
  simp at hX
  have hZ : Blk4 Z g1 (.int .i64 d.V) (.int .i64 0) rv (.slice A3 k c3) := ((hg.block g1 (by simp; omega) (fun e => own_ne hd h.f (by decide) e.symm)).trans (Below.heap_alloc X tmp _ hlt)).trans hd
  have e1 : (F.take (k + 1)).map (fiV d) = (F.take k).map (fiV d) ++ [fiV d (F.getD k 0)] := by
    rw [List.take_add_one, List.getElem?_eq_getElem hk, List.map_append, List.getD_eq_getElem?_getD, List.getElem?_eq_getElem hk]
    rfl
  refine ⟨hZ, hZ.set3 _, ?_, ⟨by rw [size_put]; omega, fun b hb hb1 => ?_⟩, ?_, hlo⟩
  · rw [e1]
    exact row_put ho (own_ne hZ ho (by decide)) _ _
  · rw [Below.heap_setCell _ _ _ _ hb1]
    exact ((hg.block b (by simp; omega) (fun e => by have := own_lt h.f e.symm; omega)).trans (Below.heap_alloc X tmp b (by omega))).trans (hfr.2 b hb hb1)
  · exact ((h.b.alloc (by omega) tmp).grown hg (by simp; omega) (fun q hq => by have := own_lt h.f hq; omega)).setCell (p := ⟨g1, 3, none⟩) hlo.1 _
/-- What Renumber leaves. -/
structure RenO (B : Nat) (w : World) (d : Da) (F : List Int) (rv fv : Value) : Prop where
  nx : RowsO B w rv (nums (succT d) F F.length) fun _ => True
  fi : w.ownsRow B 4 1 fv F.length (F.map (fiV d))
section
variable (d : Da) (A B : Option Addr) (a b : Nat) (w : World) (hx : DaAt w d A B)
include hx
set_option maxHeartbeats 8000000 in
theorem Renumber_good (hT : Tabs2 w) (hc : chkD d = 0) (F : List Int) (hF : found (succT d) d.nx.length d.q0 = some F) (hFp : ∀ s ∈ F, Pd d s) :
    Calls Tryd.prog 33 #[.agg #[.int .i64 d.V, .int .i64 d.q0, .slice A d.nx.length a, .slice B d.fi.length b]] w fun e w' => ∃ rv fv, e = .returned (.tuple #[.agg #[.int .i64 d.V, .int .i64 0, rv, fv], .int .i64 0]) ∧ RenO w.heap.size w' d F rv fv ∧ Below w.heap.size w w' := by
  have hb0 := bal (bal (Below.refl w.heap.size w) (.cells #[.int .i64 d.V, .int .i64 d.q0, .slice A d.nx.length a, .slice B d.fi.length b] 25)) (.cells #[.int .i64 0, .int .i64 0, .slice none 0 0, .slice none 0 0] 25)
  have hN0 := (Blk4.new w (.int .i64 d.V) (.int .i64 d.q0) (.slice A d.nx.length a) (.slice B d.fi.length b)).below (bal (Below.refl _ _) (.cells #[.int .i64 0, .int .i64 0, .slice none 0 0, .slice none 0 0] 25))
  have hR0 := Blk4.new (w.alloc (.cells #[.int .i64 d.V, .int .i64 d.q0, .slice A d.nx.length a, .slice B d.fi.length b] 25)) (.int .i64 0) (.int .i64 0) (.slice none 0 0) (.slice none 0 0)
  rw [World.size_alloc] at hR0
  have hO := okD_of hc
  have hsz0 : w.heap.size + 2 ≤ ((w.alloc (.cells #[.int .i64 d.V, .int .i64 d.q0, .slice A d.nx.length a, .slice B d.fi.length b] 25)).alloc (.cells #[.int .i64 0, .int .i64 0, .slice none 0 0, .slice none 0 0] 25)).heap.size := by rw [World.size_alloc, World.size_alloc]; exact Nat.le_refl _
  have HC : Hid (∀ X, Below w.heap.size w X → Calls Tryd.prog 31 #[.agg #[.int .i64 d.V, .int .i64 d.q0, .slice A d.nx.length a, .slice B d.fi.length b]] X fun e w' => e = .returned (.int .i64 0) ∧ Below X.heap.size X w') := fun X hX => by
    have := CheckD_any d A B a b X (hx.below hX) hO.len
    rwa [hc] at this
  have HEx : Hid (∀ X, Below w.heap.size w X → Calls Tryd.prog 55 #[.int .i64 d.q0, .func (.func 56) #[.slice A d.nx.length a] #[], .func (.func 57) #[] #[], .int .i64 d.nx.length] X fun e w' => ∃ fv rv, e = .returned (.tuple #[fv, rv, .bool true]) ∧ (∃ vs : List Value, w'.ownsRow X.heap.size 3 1 fv F.length vs ∧ ∀ (i : Nat) (s : Int), F[i]? = some s → vs[i]? = some (.int .i64 s)) ∧ RowsO (X.heap.size + 4) w' rv (nums (succT d) F F.length) (fun g => fv.ownBlock ≠ some g) ∧ Below X.heap.size X w') := fun X hX =>
    (explD d A B a w hx hO hT X hX).mono fun e w' h => by
      rcases h with ⟨h1, _⟩ | ⟨F', fv, rv, h1, h2, ⟨vs, h3, h4⟩, h5, h6⟩
      · rw [hF] at h1; cases h1
      · rw [hF] at h1
        cases h1
        exact ⟨fv, rv, h2, ⟨vs, h3, fun i s hi => by obtain ⟨u, h7, h8⟩ := h4 i s hi; rw [h7, show u = .int .i64 s from h8]⟩, h5, h6⟩
  have hFl : F.length ≤ 4096 := by
    have := (found_is (succT d) d.nx.length hO.n0 hF).len
    have := hO.n4
    omega
  have HFi := Lib.hid fun (s : Nat) (hs : s < d.fi.length) => hx.fi s hs
  have HFk : Hid (∀ k, k < F.length → ∃ s : Nat, F[k]? = some (s : Int) ∧ s < d.fi.length) := fun k hk => by
    have h1 := hFp F[k] (List.getElem_mem hk)
    refine ⟨F[k].toNat, by rw [List.getElem?_eq_getElem hk, Int.toNat_of_nonneg h1.1], ?_⟩
    rw [hO.fi]
    have := h1.1
    have := h1.2
    omega
  clear hx hc hO hF hFp hT
  obtain ⟨z0, z1, z2, z3⟩ := hN0.cells
  go_enter Tryd.func33, Tryd.ntmps33
  go_wp2_with (first
    | (go_at_call 31; ((with_reducible refine (HC.out _ hb0).mono ?_); rintro e w2 ⟨rfl, hb2⟩); clear z0 z1 z2 z3; replace hR0 := hR0.below hb2; replace hN0 := hN0.below hb2; replace hb0 := stepB hb0 hb2; have hsz2 := hb2.size; obtain ⟨z0, z1, z2, z3⟩ := hN0.cells)
    | (go_at_call 55; ((with_reducible refine (HEx.out _ hb0).mono ?_); rintro e w3 ⟨fv, rv, rfl, ⟨vs, hfo, hfR⟩, hro, hb3⟩); clear z0 z1 z2 z3 HEx HC; replace hR0 := hR0.below hb3; replace hN0 := hN0.below hb3; replace hb0 := stepB hb0 hb3; obtain ⟨z0, z1, z2, z3⟩ := hN0.cells; obtain ⟨Ar, cr, hrv, _⟩ := hro.form; obtain ⟨Af, cf, hfv, _⟩ := Ap.own_form hfo; subst hfv; rw [nums_len _ _ _ (Nat.le_refl _)] at hrv; subst hrv))
  have hg8 := Blk4.new w3 (.int .i64 d.V) (.int .i64 0) (.slice Ar F.length cr) (.slice none 0 0)
  have K4 := bal (Below.refl w3.heap.size w3) (.cells #[.int .i64 d.V, .int .i64 0, .slice Ar F.length cr, .slice none 0 0] 25)
  have hs4 : (w3.alloc (.cells #[.int .i64 d.V, .int .i64 0, .slice Ar F.length cr, .slice none 0 0] 25)).heap.size = w3.heap.size + 1 := World.size_alloc ..
  have hsz3 := hb3.size
  have hsb := hb0.size
  have hL0 : RenL w (w3.alloc (.cells #[.int .i64 d.V, .int .i64 0, .slice Ar F.length cr, .slice none 0 0] 25)) d F w3.heap.size (.slice Ar F.length cr) 0 none 0 (w3.alloc (.cells #[.int .i64 d.V, .int .i64 0, .slice Ar F.length cr, .slice none 0 0] 25)) := ⟨hg8, ⟨rfl, .inl ⟨rfl, rfl⟩⟩, ⟨Nat.le_refl _, fun b _ _ => rfl⟩, stepB hb0 K4, ⟨hsb, by omega⟩⟩
  have hN4 := hN0.below K4
  have hR4 := hR0.below K4
  generalize (w3.alloc (.cells #[.int .i64 d.V, .int .i64 0, .slice Ar F.length cr, .slice none 0 0] 25)) = w4 at *
  have HN := Lib.hid fun (X : World) (hf : w4.heap.size ≤ X.heap.size ∧ ∀ b, b < w4.heap.size → b ≠ w3.heap.size → X.heap[b]? = w4.heap[b]?) => show Blk4 X w.heap.size (.int .i64 d.V) (.int .i64 d.q0) (.slice A d.nx.length a) (.slice B d.fi.length b) from (hf.2 _ (blk_lt hN4) (by omega)).trans hN4
  have HRb := Lib.hid fun (X : World) (hf : w4.heap.size ≤ X.heap.size ∧ ∀ b, b < w4.heap.size → b ≠ w3.heap.size → X.heap[b]? = w4.heap[b]?) => show Blk4 X (w.heap.size + 1) (.int .i64 0) (.int .i64 0) (.slice none 0 0) (.slice none 0 0) from (hf.2 _ (blk_lt hR4) (by omega)).trans hR4
  have HEl := Lib.hid fun (k : Nat) (hk : k < F.length) => show ∃ (ad : Addr) (s : Nat), Af = some ad ∧ F.getD k 0 = (s : Int) ∧ s < d.fi.length ∧ ∀ X : World, (w4.heap.size ≤ X.heap.size ∧ ∀ b, b < w4.heap.size → b ≠ w3.heap.size → X.heap[b]? = w4.heap[b]?) → X.cell? (ad.add k) = some (.int .i64 (s : Int)) by
    obtain ⟨s, h1, h2⟩ := HFk.out k hk
    obtain ⟨ad, e, hlt, hcl, _⟩ := row_at hfo hk (hfR k s h1)
    refine ⟨ad, s, e, by rw [List.getD_eq_getElem?_getD, h1]; rfl, h2, fun X hf => ?_⟩
    rw [← hcl]
    exact World.cell?_of_block (by rw [addr_block]; exact (hf.2 _ (by omega) (by omega)).trans (K4.block _ hlt))
  have HRO := Lib.hid fun (X : World) (hf : w4.heap.size ≤ X.heap.size ∧ ∀ b, b < w4.heap.size → b ≠ w3.heap.size → X.heap[b]? = w4.heap[b]?) => hro.frame (w' := X) (C' := fun _ => True) (fun b hb _ _ => (hf.2 b (by omega) (by omega)).trans (K4.block b hb)) (fun _ _ _ _ => trivial)
  have HL0 := Lib.hid hL0
  obtain ⟨i0, hi0, hz0, hz1, hz2⟩ := info_parts info_boolJ
  generalize hfl : F.length = fl at *
  have HFl := Lib.hid hfl
  clear hfl
  clear hL0 hN4 hR4 hg8 K4 hfo hfR hro hb3 HFk hN0 hR0 z0 z1 z2 z3
  have hb4 := HL0.out.b
  clear hb0
  go_wp2
  go_loopw [36] (fun iv wr => ∃ (k : Nat) (A3 : Option Addr) (c3 : Nat), k ≤ fl ∧ iv = .int .i64 k ∧ RenL w w4 d F w3.heap.size (.slice Ar fl cr) k A3 c3 wr) (fun iv _ => fl - (intOf iv).toNat)
  case atStart => exact ⟨0, none, 0, Nat.zero_le _, rfl, HL0.out⟩
  case round =>
    clear HL0
    obtain ⟨k, A3, c3, hk, rfl, hD⟩ := hrel
    by_cases hlt : k < fl
    · obtain ⟨ad, s, hA, hFs, hsf, hcu⟩ := HEl.out k hlt
      subst hA
      have hcell := hcu wr hD.fr
      obtain ⟨fd, hBf, hfdl, hfc⟩ := HFi.out s hsf
      subst hBf
      replace hfc : w.cell? (fd.add s) = some (.bool (d.fi.getD s false)) := hfc
      have HFc := Lib.hid fun X (hX : Below w.heap.size w X) => (Below.cell hX (by rw [addr_block]; exact hfdl)).trans hfc
      have hFin := Lib.hid fun X A4 c4 Z (tmp : Obj) (h : RenL w w4 d F w3.heap.size (.slice Ar fl cr) k A3 c3 X) ho hg => h.fin (A4 := A4) (c4 := c4) (Z := Z) (tmp := tmp) (by rw [HFl.out]; exact hlt) ho hg
      have hbv : Hid (fiV d (F.getD k 0) = .bool (d.fi.getD s false)) := by show _ = _; rw [hFs]; rfl
      have HLL := Lib.hid hD
      have hlt2 : (k : Int) < (fl : Int) := by omega
      have hsf2 : (s : Int) < (d.fi.length : Int) := by omega
      clear hcu hD hfc hFs HEl HRO
      generalize d.fi.getD s false = bv at *
      generalize d.fi.length = nf at *
      go_upto_region 9 with fail
      clear hcell
      refine wp_region_any (by kernel_rfl) ?_
      change wpAny _ _ _ _ _ _ _ (World.drew _)
      have hLd := HLL.out.below (drew_below wr)
      have hS0 : (fun X : World => X.cell? ⟨w3.heap.size, 3, none⟩ = some (.slice A3 k c3) ∧ X.cell? ⟨w.heap.size, 3, none⟩ = some (.slice (some fd) nf b) ∧ X.cell? (fd.add s) = some (.bool bv)) wr.drew := ⟨hLd.dd.cells.2.2.2, (HN.out _ hLd.fr).cells.2.2.2, HFc.out _ hLd.b⟩
      have HSb : Hid (∀ Y, Below wr.drew.heap.size wr.drew Y → (fun X : World => X.cell? ⟨w3.heap.size, 3, none⟩ = some (.slice A3 k c3) ∧ X.cell? ⟨w.heap.size, 3, none⟩ = some (.slice (some fd) nf b) ∧ X.cell? (fd.add s) = some (.bool bv)) Y) := fun Y hY => ⟨(hLd.below hY).dd.cells.2.2.2, (HN.out _ (hLd.below hY).fr).cells.2.2.2, HFc.out _ (hLd.below hY).b⟩
      clear HLL
      generalize wr.drew = X0 at *
      refine wpAny_head 9 9 (fun X : World => X.cell? ⟨w3.heap.size, 3, none⟩ = some (.slice A3 k c3) ∧ X.cell? ⟨w.heap.size, 3, none⟩ = some (.slice (some fd) nf b) ∧ X.cell? (fd.add s) = some (.bool bv)) rfl rfl (by kernel_rfl) (by kernel_rfl) (by kernel_rfl) (fun hA => ?_)
      refine wpHead_take (i := 0) (v := ?_) (by kernel_rfl) hA (at_drop rfl) (by decide) (by kernel_rfl) (by kernel_rfl) (by kernel_rfl) (fun _ _ _ h => h) (Or.inl ⟨by rfl, ?_⟩) hS0 (fun hA => ?_)
      rotate_left
      · (intro Y hSY; obtain ⟨s0, s1, s2⟩ := hSY; go_simp <;> with_reducible rfl)
      simp only [Act.put, List.setIfInBounds_toArray, List.set_cons_zero, List.set_cons_succ]
      refine wpHead_take (i := 1) (v := ?_) (by kernel_rfl) hA (at_drop rfl) (by decide) (by kernel_rfl) (by kernel_rfl) (by kernel_rfl) (fun _ _ _ h => h) (Or.inl ⟨by rfl, ?_⟩) hS0 (fun hA => ?_)
      rotate_left
      · (intro Y hSY; obtain ⟨s0, s1, s2⟩ := hSY; go_simp <;> with_reducible rfl)
      simp only [Act.put, List.setIfInBounds_toArray, List.set_cons_zero, List.set_cons_succ]
      refine wpHead_take (i := 2) (v := ?_) (by kernel_rfl) hA (at_drop rfl) (by decide) (by kernel_rfl) (by kernel_rfl) (by kernel_rfl) (fun _ _ _ h => h) (Or.inl ⟨by rfl, ?_⟩) hS0 (fun hA => ?_)
      rotate_left
      · (intro Y hSY; obtain ⟨s0, s1, s2⟩ := hSY; go_simp <;> with_reducible rfl)
      simp only [Act.put, List.setIfInBounds_toArray, List.set_cons_zero, List.set_cons_succ]
      refine wpHead_take (i := 3) (v := ?_) (by kernel_rfl) hA (at_drop rfl) (by decide) (by kernel_rfl) (by kernel_rfl) (by kernel_rfl) (fun _ _ _ h => h) (Or.inl ⟨by rfl, ?_⟩) hS0 (fun hA => ?_)
      rotate_left
      · (intro Y hSY; obtain ⟨s0, s1, s2⟩ := hSY; go_simp <;> with_reducible rfl)
      simp only [Act.put, List.setIfInBounds_toArray, List.set_cons_zero, List.set_cons_succ]
      refine wpHead_take (i := 4) (v := ?_) (by kernel_rfl) hA (at_drop rfl) (by decide) (by kernel_rfl) (by kernel_rfl) (by kernel_rfl) (fun _ _ _ h => h) (Or.inl ⟨by rfl, ?_⟩) hS0 (fun hA => ?_)
      rotate_left
      · (intro Y hSY; obtain ⟨s0, s1, s2⟩ := hSY; go_simp <;> with_reducible rfl)
      simp only [Act.put, List.setIfInBounds_toArray, List.set_cons_zero, List.set_cons_succ]
      refine wpHead_take (i := 5) (v := ?_) (by kernel_rfl) hA (at_drop rfl) (by decide) (by kernel_rfl) (by kernel_rfl) (by kernel_rfl) (fun _ _ _ h => h) (Or.inl ⟨by rfl, ?_⟩) hS0 (fun hA => ?_)
      rotate_left
      · (intro Y hSY; obtain ⟨s0, s1, s2⟩ := hSY; go_simp <;> with_reducible rfl)
      simp only [Act.put, List.setIfInBounds_toArray, List.set_cons_zero, List.set_cons_succ]
      refine wpHead_take (i := 6) (v := ?_) (by kernel_rfl) hA (at_drop rfl) (by decide) (by kernel_rfl) (by kernel_rfl) (by kernel_rfl) (fun _ _ _ h => h) (Or.inl ⟨by rfl, ?_⟩) hS0 (fun hA => ?_)
      rotate_left
      · (intro Y hSY; obtain ⟨s0, s1, s2⟩ := hSY; go_simp <;> with_reducible rfl)
      simp only [Act.put, List.setIfInBounds_toArray, List.set_cons_zero, List.set_cons_succ]
      have hA7 := hnext hA (rs := [7]) (i := 7) (by kernel_rfl) (by decide) (by decide)
      refine wpHead_ready (rs := [7]) (by kernel_rfl) (by decide) (AllHead.cons (at_drop rfl) (by decide) (fun KK hK => ?_) AllHead.nil)
      replace hA := hA7
      go_simp
      have hb1 := bal (Below.refl X0.heap.size X0) (.cells #[.bool bv] 4)
      have hL1 := hLd.below hb1
      have hS1 := HSb.out _ hb1
      have hn1 := cell_one_new X0 (.bool bv) 4
      have hfr0 := hLd.fr.1
      refine hK _ _ hS1 ?_
      clear hK KK
      try simp only [Act.put, List.setIfInBounds_toArray, List.set_cons_zero, List.set_cons_succ]
      have hA8 := hnext hA (rs := [8]) (i := 8) (by kernel_rfl) (by decide) (by decide)
      refine wpHead_ready (rs := [8]) (by kernel_rfl) (by decide) (AllHead.cons (at_drop rfl) (by decide) (fun KK hK => ?_) AllHead.nil)
      replace hA := hA8
      refine step_append rfl (.tmp 41) (.tmp 47) 23 rfl w4.heap.size 4 i0 (.bool false) 1 1 Tryd.underlying23 hi0 hz0 hz1 hz2 rfl (by decide) (.slice A3 k c3) k _ (by simp [Act.eval]) hL1.f ⟨X0.heap.size, 0, none⟩ 1 1 [.bool bv] (by simp [Act.eval]) rfl hn1 (by simp [Value.oneCell']) (by unfold maxLen; omega) (by omega) (by simp; omega) ?_
      intro A4 c4 Z ho2 hg2 hob2
      obtain ⟨hdZ, hLZ⟩ := hFin.out X0 A4 c4 Z _ hLd (by rw [hbv.out]; exact ho2) hg2
      have hfrZ : w4.heap.size ≤ Z.heap.size ∧ ∀ b, b < w4.heap.size → b ≠ w3.heap.size → Z.heap[b]? = w4.heap[b]? := ⟨by have := hLZ.fr.1; rwa [size_put] at this, fun b h1 h2 => by have := hLZ.fr.2 b h1 h2; rwa [Below.heap_setCell _ _ _ _ h2] at this⟩
      have hbZ : Below w.heap.size w Z := ((hLd.b.alloc (by have := hLd.lo.2; omega) _).grown hg2 (by simp; have := hLd.lo.2; omega) (fun q hq => by have := own_lt hL1.f hq; have := hLd.lo.2; omega))
      have hSZ : (fun X : World => X.cell? ⟨w3.heap.size, 3, none⟩ = some (.slice A3 k c3) ∧ X.cell? ⟨w.heap.size, 3, none⟩ = some (.slice (some fd) nf b) ∧ X.cell? (fd.add s) = some (.bool bv)) Z := ⟨hdZ.cells.2.2.2, (HN.out _ hfrZ).cells.2.2.2, HFc.out _ hbZ⟩
      have HLZ := Lib.hid hLZ
      have f3 := free_of hdZ 3
      have c3z := hdZ.cells.2.2.2
      have l3z := blk_lt hdZ
      refine hK _ _ hSZ ?_
      clear hK KK hLZ hdZ ho2 hg2 hob2 hL1 hS1 hn1 hLd hS0 HSb
      try simp only [Act.put, List.setIfInBounds_toArray, List.set_cons_zero, List.set_cons_succ]
      refine wpHead_end (by kernel_rfl) ?_
      simp only [List.drop_succ_cons, List.drop_zero]
      clear hFin HFc
      go_wp2
      go_roundw
      case rel => exact ⟨k + 1, A4, c4, by omega, by go_num, HLZ.out⟩
      case measure => simp [intOf]; omega
    · obtain rfl : k = fl := by omega
      have hro4 := HRO.out _ hD.fr
      have hRw := HRb.out _ hD.fr
      obtain ⟨y0, y1, y2, y3⟩ := hD.dd.cells
      obtain ⟨⟨p0, f0⟩, ⟨p1, f1⟩, ⟨p2, f2⟩, ⟨p3, f3⟩, hR5, hB5⟩ := store4 hRw (.int .i64 d.V) (.int .i64 0) (.slice Ar k cr) (.slice A3 k c3)
      have hO : RenO w.heap.size (put4 wr (w.heap.size + 1) (.int .i64 d.V) (.int .i64 0) (.slice Ar k cr) (.slice A3 k c3)) d F (.slice Ar k cr) (.slice A3 k c3) := by
        have htk : F.take k = F := List.take_of_length_le (by have := HFl.out; omega)
        refine ⟨?_, ?_⟩
        · rw [HFl.out]
          obtain ⟨Q, e, ho, hq⟩ := hro4.mono (B' := w.heap.size) (by omega)
          refine ⟨Q, e, own_eq ho fun g hg => put4_other _ _ _ _ (fun e => own_ne hRw ho (by decide) (e ▸ hg)), fun q h1 => ?_⟩
          obtain ⟨h2, h4, h3⟩ := hq q h1
          exact ⟨h2, h4, (put4_other _ _ _ _ (fun e => by rw [e] at h3; unfold Blk4 at hRw; rw [hRw] at h3; exact absurd h3 (by simp))).trans h3⟩
        · rw [HFl.out]
          have hf := hD.f
          rw [htk] at hf
          exact own_eq (ownsRow_mono hf hD.lo.2) fun g hg => put4_other _ _ _ _ (fun e => own_ne hRw hf (by decide) (e ▸ hg))
      have HF := Lib.hid (And.intro hR5.cells (And.intro hO (hD.b.trans (hB5 w.heap.size (by omega)))))
      clear hR5 hB5 hO hD HEl HRO HN HRb hro4 hRw HFi
      go_wp2
      obtain ⟨⟨u0, u1, u2, u3⟩, hO, hb5⟩ := HF.out
      unfold put4 at u0 u1 u2 u3 hO hb5
      refine bodyPost_ret (v := .tuple #[.agg #[.int .i64 d.V, .int .i64 0, .slice Ar k cr, .slice A3 k c3], .int .i64 0]) (by simp [results, Tryd.results33, go_sem, u0, u1, u2, u3]) rfl ?_
      exact ⟨_, _, rfl, hO, hb5⟩
end
end Go.Proofs.YtkgeihambgbjdaaDoor.Sb
/- Renumbering keeps the words, and renumbering anew changes nothing. -/
namespace Go.Proofs.YtkgeihambgbjdaaDoor.Sb
open Go Go.RowKit Go.Proofs.YtkgeihambgbjdaaDoor Go.Proofs.YtkgeihambgbjdaaDoor.Cb
open Go.Proofs.YtkgeihambgbjdaaDoor.Nf (wordE)
open Go.Proofs.YtkgeihambgbjdaaDoor.Dg (Tabs tb tb_mem)
set_option linter.unusedVariables false
set_option linter.unusedSimpArgs false
set_option maxRecDepth 100000
theorem posI_at {S : Type} [DecidableEq S] {s : S} {F : List S} (h : s ∈ F) : pos F s < F.length ∧ F[pos F s]? = some s := by
  have h1 : pos F s < F.length := List.idxOf_lt_length_of_mem h
  refine ⟨h1, ?_⟩
  rw [List.getElem?_eq_getElem h1]
  exact congrArg some (List.getElem_idxOf h1)
theorem posI_head {S : Type} [DecidableEq S] {s : S} {F : List S} (h : F[0]? = some s) : pos F s = 0 := by
  rcases F with _ | ⟨x, F⟩
  · cases h
  · have h2 : x = s := by simpa using h
    subst h2
    exact List.idxOf_cons_self
theorem succT_row {d : Da} (hO : OkD d) {s : Int} (hs : Pd d s) : succT d s = rowS (stepT d.nx) (2 ^ d.V.toNat) s := by
  have h1 := (hO.row _ (tb_mem (j := s.toNat) (by have := hs.1; have := hs.2; omega))).1
  unfold succT rowS
  apply List.ext_getElem
  · rw [h1, List.length_map, List.length_range]
  · intro j h2 h3
    rw [List.getElem_map, List.getElem_range]
    show _ = (tb d.nx s.toNat).getD j 0
    rw [List.getD_eq_getElem?_getD, List.getElem?_eq_getElem h2]
    rfl
theorem nums_row_eq {d : Da} (hO : OkD d) {F : List Int} (hFp : ∀ s ∈ F, Pd d s) (r : Nat) : nums (succT d) F r = nums (rowS (stepT d.nx) (2 ^ d.V.toNat)) F r := by
  unfold nums
  apply List.map_congr_left
  intro s hs
  rw [succT_row hO (hFp s (List.mem_of_mem_take hs))]
theorem ren_nx (d : Da) (F : List Int) : (renD d F).nx.length = F.length := nums_len _ _ _ (Nat.le_refl _)
theorem ren_fi (d : Da) (F : List Int) : (renD d F).fi.length = F.length := List.length_map _
section
variable {d : Da} {F : List Int} (hO : OkD d) (hF : found (succT d) d.nx.length d.q0 = some F) (hFp : ∀ s ∈ F, Pd d s)
include hO hF
theorem ren_found : Found (succT d) d.nx.length d.q0 F := found_is (succT d) _ hO.n0 hF
theorem ren_pos : 0 < F.length := by
  have := (ren_found hO hF).head
  rcases F with _ | ⟨x, F⟩
  · cases this
  · exact Nat.succ_pos _
theorem ren_le : F.length ≤ d.nx.length := (ren_found hO hF).len
include hFp
theorem ren_ok : OkD (renD d F) := by
  have hF1 := ren_found hO hF
  have h0 := ren_pos hO hF
  have hl := hF1.len
  have h4 := hO.n4
  refine ⟨hO.v0, hO.v6, by rw [ren_nx]; exact h0, by rw [ren_nx]; omega, by rw [ren_nx, ren_fi], ?_, fun r hr => ⟨?_, ?_⟩⟩
  · rw [ren_nx]; show 0 ≤ (0 : Int) ∧ (0 : Int) < _; omega
  · obtain ⟨s, hs, rfl⟩ := List.mem_map.1 hr
    have hp := hFp s (List.mem_of_mem_take hs)
    show ((succT d s).map _).length = _
    rw [List.length_map]
    exact (hO.row _ (tb_mem (j := s.toNat) (by have := hp.1; have := hp.2; omega))).1
  · rw [ren_nx]; exact nums_ok (succT d) hF1.shut r hr
theorem ren_wrong (l : List Nat) : wrongD (renD d F) l = wrongD d l := by
  unfold wrongD
  rw [okD_chk hO, okD_chk (ren_ok hO hF hFp)]
  rfl
theorem ren_acc (l : List Nat) : accD (renD d F) l = accD d l := by
  unfold accD
  rw [ren_wrong hO hF hFp]
  by_cases h : wrongD d l = 0
  · rw [if_pos h, if_pos h]
    obtain ⟨_, _, hlt⟩ := wrongD_zero h
    have hF1 := ren_found hO hF
    have hsh : ∀ s ∈ F, ∀ t ∈ rowS (stepT d.nx) (2 ^ d.V.toNat) s, t ∈ F := fun s hs t ht => hF1.shut s hs t (by rw [succT_row hO (hFp s hs)]; exact ht)
    obtain ⟨h1, h2⟩ := runT_nums (stepT d.nx) (2 ^ d.V.toNat) hsh l d.q0 (List.mem_of_getElem? hF1.head) hlt
    rw [posI_head hF1.head, ← nums_row_eq hO hFp] at h1
    change runT (renD d F).nx (renD d F).q0 l = (pos F (runT d.nx d.q0 l) : Int) at h1
    change runT d.nx d.q0 l ∈ F at h2
    rw [h1]
    show (F.map fun s => d.fi.getD s.toNat false).getD (pos F (runT d.nx d.q0 l)) false = _
    rw [List.getD_eq_getElem?_getD, List.getElem?_map, (posI_at h2).2]
    rfl
  · rw [if_neg h, if_neg h]
omit hFp in
theorem ren_idem : ∃ F', found (succT (renD d F)) (renD d F).nx.length (renD d F).q0 = some F' ∧ renD (renD d F) F' = renD d F ∧ ∀ s ∈ F', Pd (renD d F) s := by
  have hF1 := ren_found hO hF
  have h0 := ren_pos hO hF
  have hs : ∀ s, s ∈ F → succT (renD d F) (pos F s : Int) = (succT d s).map fun t => (pos F t : Int) := fun s hs => by
    obtain ⟨h1, h2⟩ := posI_at hs
    have h3 := nums_row h1 (succT d)
    have h4 : F[pos F s] = s := by rw [List.getElem?_eq_getElem h1] at h2; exact Option.some.inj h2
    rw [h4] at h3
    exact h3
  have hinj : ∀ s t : Int, s ∈ F → t ∈ F → (pos F s : Int) = (pos F t : Int) → s = t := fun s t h1 h2 h => by
    have e : pos F s = pos F t := by exact_mod_cast h
    have h3 := (posI_at h1).2
    rw [e, (posI_at h2).2] at h3
    exact (Option.some.inj h3).symm
  have hfd : found (succT d) F.length d.q0 = some F := expl_less (succT d) _ _ _ _ (by omega) (Nat.zero_le _) _ hF (Nat.le_refl _)
  have hm := expl_map (fun s => (pos F s : Int)) (· ∈ F) hinj (succT d) (succT (renD d F)) hs hF1.shut F.length (F.length + 1) 0 [d.q0] (by simpa using List.mem_of_getElem? hF1.head)
  refine ⟨F.map fun s => (pos F s : Int), ?_, ?_, fun s hsm => ?_⟩
  · rw [ren_nx]
    have e : ([d.q0].map fun s => (pos F s : Int)) = [(renD d F).q0] := by
      show [(pos F d.q0 : Int)] = [0]
      rw [posI_head hF1.head]; rfl
    rw [e] at hm
    unfold found at hfd ⊢
    rw [hm, hfd]
    rfl
  · have e1 := nums_map (fun s => (pos F s : Int)) (· ∈ F) hinj (succT d) (succT (renD d F)) hs hF1.shut (F := F) (fun t ht => ht) F.length
    unfold renD at e1 ⊢
    rw [List.length_map]
    congr 1
    rw [List.map_map]
    apply List.map_congr_left
    intro s hsF
    show (F.map fun s => d.fi.getD s.toNat false).getD ((pos F s : Int)).toNat false = _
    rw [Int.toNat_natCast, List.getD_eq_getElem?_getD, List.getElem?_map, (posI_at hsF).2]
    rfl
  · obtain ⟨t, ht, rfl⟩ := List.mem_map.1 hsm
    have := (posI_at ht).1
    refine ⟨by omega, ?_⟩
    rw [ren_nx]
    omega
end
end Go.Proofs.YtkgeihambgbjdaaDoor.Sb
/- The walk of SubsetRenumbers. -/
namespace Go.Proofs.YtkgeihambgbjdaaDoor.Sb
open Go Go.RowKit Go.Proofs.YtkgeihambgbjdaaDoor Go.Proofs.YtkgeihambgbjdaaDoor.Cb
open Go.Proofs.YtkgeihambgbjdaaDoor.Nf (Bys drew_below)
open Go.Proofs.YtkgeihambgbjdaaDoor.Dg (Tabs tb tb_mem)
set_option linter.unusedVariables false
set_option linter.unusedSimpArgs false
set_option maxRecDepth 100000
theorem RenO.at_ {B : Nat} {w : World} {d : Da} {F : List Int} {rv fv : Value} (h : RenO B w d F rv fv) : ∃ A a B' b, rv = .slice A F.length a ∧ fv = .slice B' F.length b ∧ DaAt w (renD d F) A B' := by
  have hnl : (nums (succT d) F F.length).length = F.length := nums_len _ _ _ (Nat.le_refl _)
  obtain ⟨A, a, rfl, _⟩ := h.nx.form
  obtain ⟨B', b, rfl, _⟩ := Ap.own_form h.fi
  refine ⟨A, a, B', b, by rw [hnl], rfl, ⟨h.nx.tabs rfl, ?_⟩⟩
  have hfi := h.fi
  rw [show F.map (fiV d) = (F.map fun s => d.fi.getD s.toNat false).map Value.bool by rw [List.map_map]; rfl] at hfi
  exact bools_own hfi (show F.length = (F.map _).length by rw [List.length_map])
theorem ren_good (d : Da) (A B : Option Addr) (a b : Nat) (w : World) (hx : DaAt w d A B) (hT : Tabs2 w) (hc : chkD d = 0) (F : List Int) (hF : found (succT d) d.nx.length d.q0 = some F) (hFp : ∀ s ∈ F, Pd d s) :
    Calls Tryd.prog 33 #[.agg #[.int .i64 d.V, .int .i64 d.q0, .slice A d.nx.length a, .slice B d.fi.length b]] w fun e w' => ∃ A' a' B' b', e = .returned (.tuple #[.agg #[.int .i64 d.V, .int .i64 0, .slice A' F.length a', .slice B' F.length b'], .int .i64 0]) ∧ DaAt w' (renD d F) A' B' ∧ Below w.heap.size w w' :=
  (Renumber_good d A B a b w hx hT hc F hF hFp).mono fun e w' ⟨rv, fv, h1, h2, h3⟩ => by
    obtain ⟨A', a', B', b', rfl, rfl, h4⟩ := h2.at_
    exact ⟨A', a', B', b', h1, h4, h3⟩
section
variable (d : Da) (A B : Option Addr) (a b : Nat) (D : Option Addr) (l : List Nat) (dl : Nat) (w : World)
end
end Go.Proofs.YtkgeihambgbjdaaDoor.Sb
