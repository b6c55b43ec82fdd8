/- byFinal (package minimal): the partition into final and other states. -/
import Derived.Test.YtkgeihambgbjdaaDoorPG
import Derived.Test.YtkgeihambgbjdaaDoorKR
namespace Go.Proofs.YtkgeihambgbjdaaDoor.Mi
open Go Go.RowKit Go.Maps Go.Proofs.YtkgeihambgbjdaaDoor Go.Proofs.YtkgeihambgbjdaaDoor.Cb Go.Proofs.YtkgeihambgbjdaaDoor.Sb
open Go.Proofs.YtkgeihambgbjdaaDoor.Nf (zvs zvs_snoc info_int6 ret_int ret_b drew_below hnext)
open Go.Proofs.YtkgeihambgbjdaaDoor.Dg (Tabs tb tb_mem mem_tb info_tab)
set_option linter.unusedVariables false
set_option linter.unusedSimpArgs false
set_option maxRecDepth 100000
def zeros (n : Nat) : List Int := List.replicate n 0
theorem zeros_cells (n : Nat) : cells n (fun _ => .int .i64 0) = (zvs (zeros n)).toArray := cells_zvs n (fun _ => 0) _ (by simp [zeros]) fun i hi => by rw [nd_eq (by simpa [zeros] using hi)]; simp [zeros]
theorem made_row1 (W : World) : (Instr.makeSlice 22 (.int .i64 1) (.int .i64 1)).run Tryd.prog W = .ok (.slice (some ⟨W.heap.size, 0, none⟩) 1 1) (W.alloc (.cells #[.slice none 0 0] 33)) := by
  obtain ⟨i0, hi, hz0, hz1, hz2⟩ := info_parts info_tab
  have := run_makeSlice (P := Tryd.prog) W 22 33 i0 _ Tryd.underlying22 hi hz0 .i64 .i64 1 1 (by omega) (Int.le_refl _) (by rw [hz1]; decide) (by rw [hz2]; decide) (by decide)
  rw [this, hz1, show (Value.slice none 0 0).cells = #[.slice none 0 0] from rfl, made_cells]
  rfl
/-- The states for which f is b, among the first k. -/
def pick (f : Nat → Bool) (b : Bool) (k : Nat) : List Int := ((List.range k).filter fun s => f s == b).map fun s : Nat => (s : Int)
theorem mem_pick {f : Nat → Bool} {b : Bool} {k : Nat} {z : Int} : z ∈ pick f b k ↔ ∃ s : Nat, s < k ∧ z = (s : Int) ∧ f s = b := by
  unfold pick
  rw [List.mem_map]
  constructor
  · rintro ⟨s, hs, rfl⟩
    obtain ⟨h1, h2⟩ := List.mem_filter.1 hs
    exact ⟨s, List.mem_range.1 h1, rfl, by simpa using h2⟩
  · rintro ⟨s, hs, rfl, e⟩
    exact ⟨s, List.mem_filter.2 ⟨List.mem_range.2 hs, by simp [e]⟩, rfl⟩
theorem pick_yes {f : Nat → Bool} {b : Bool} {k : Nat} (h : f k = b) : pick f b (k + 1) = pick f b k ++ [(k : Int)] := by
  unfold pick
  rw [List.range_succ, List.filter_append, List.map_append]
  simp [h]
theorem pick_no {f : Nat → Bool} {b : Bool} {k : Nat} (h : f k ≠ b) : pick f b (k + 1) = pick f b k := by
  unfold pick
  rw [List.range_succ, List.filter_append, List.map_append]
  simp [h]
theorem pick_len (f : Nat → Bool) (b : Bool) (k : Nat) : (pick f b k).length ≤ k := by
  unfold pick
  rw [List.length_map]
  have := List.length_filter_le (fun s => f s == b) (List.range k)
  rwa [List.length_range] at this
theorem pick_nodup (f : Nat → Bool) (b : Bool) (k : Nat) : (pick f b k).Nodup := by
  unfold pick
  refine List.Pairwise.map _ (fun x y h => ?_) (List.Pairwise.filter _ (List.nodup_range (n := k)))
  intro e
  exact h (by omega)
/-- The first partition, whichever kind keeps the number 0. -/
theorem inv_zero {n L : Nat} {δ : Nat → Nat → Nat} {f : Nat → Bool} (b : Bool) (hn : 0 < n) : Inv n L δ f 0 (splitC (zeros n) 1 [pick f (!b) n]) ([pick f b n] ++ [pick f (!b) n]) ([] ++ [pick f (!b) n].flatten) := by
  have hnd : ∀ s, s < n → nd (splitC (zeros n) 1 [pick f (!b) n]) s = if f s = b then 0 else 1 := fun s hs => by
    show nd (setAll (zeros n) (pick f (!b) n) ((1 : Nat) : Int)) s = _
    rw [nd_setAll (fun z hz => by obtain ⟨t, _, rfl, _⟩ := mem_pick.1 hz; omega) (by simpa [zeros] using hs)]
    by_cases e : f s = b
    · rw [if_neg (fun h => by
        obtain ⟨t, _, e1, e2⟩ := mem_pick.1 h
        obtain rfl : s = t := by omega
        rw [e] at e2
        cases b <;> cases e2), if_pos e, nd_eq (by simpa [zeros] using hs)]
      simp [zeros]
    · rw [if_pos (mem_pick.2 ⟨s, hs, rfl, by cases h : f s <;> cases b <;> simp_all⟩), if_neg e]
      rfl
  have hfl : [pick f (!b) n].flatten = pick f (!b) n := by simp
  have hlen : (splitC (zeros n) 1 [pick f (!b) n]).length = n := by rw [splitC_len]; simp [zeros]
  refine ⟨⟨hlen, fun s hs => ?_, fun c hc z => ?_, fun c hc => ?_⟩, fun s t hs ht => ?_, ⟨fun _ => 0, fun s t _ _ => ⟨fun _ => rfl, fun _ => rfl⟩, fun s hs h => ?_, fun s t hs ht h => ?_⟩, fun z hz => ?_, ?_, ?_⟩
  · rw [hnd s hs]
    show _ ∧ _ < ((2 : Nat) : Int)
    split <;> omega
  · have hc2 : c = 0 ∨ c = 1 := by simp at hc; omega
    rcases hc2 with rfl | rfl
    · show z ∈ pick f b n ↔ _
      rw [mem_pick]
      constructor
      · rintro ⟨s, hs, rfl, e⟩
        exact ⟨by omega, by omega, by rw [Int.toNat_natCast, hnd s hs, if_pos e]; rfl⟩
      · rintro ⟨h1, h2, h3⟩
        rw [hnd _ (by omega)] at h3
        refine ⟨z.toNat, by omega, by omega, ?_⟩
        apply Decidable.byContradiction
        intro h4
        rw [if_neg h4] at h3
        simp at h3
    · show z ∈ pick f (!b) n ↔ _
      rw [mem_pick]
      constructor
      · rintro ⟨s, hs, rfl, e⟩
        exact ⟨by omega, by omega, by rw [Int.toNat_natCast, hnd s hs, if_neg (fun e' => by rw [e'] at e; cases b <;> cases e)]; rfl⟩
      · rintro ⟨h1, h2, h3⟩
        rw [hnd _ (by omega)] at h3
        refine ⟨z.toNat, by omega, by omega, ?_⟩
        by_cases h4 : f z.toNat = b
        · rw [if_pos h4] at h3; simp at h3
        · cases h : f z.toNat <;> cases b <;> simp_all
  · have hc2 : c = 0 ∨ c = 1 := by simp at hc; omega
    rcases hc2 with rfl | rfl
    · exact pick_nodup f b n
    · exact pick_nodup f (!b) n
  · rw [hnd s hs, hnd t ht]
    show _ ↔ (f s != f t) = false
    rw [bne_eq_false_iff_eq]
    by_cases h1 : f s = b
    · rw [if_pos h1]
      by_cases h2 : f t = b
      · rw [if_pos h2, h1, h2]; simp
      · rw [if_neg h2, h1]
        exact ⟨fun h => absurd h (by decide), fun h => absurd h.symm h2⟩
    · rw [if_neg h1]
      by_cases h2 : f t = b
      · rw [if_pos h2, h2]
        exact ⟨fun h => absurd h (by decide), fun h => absurd h h1⟩
      · rw [if_neg h2]
        refine ⟨fun _ => ?_, fun _ => rfl⟩
        cases h3 : f s <;> cases h4 : f t <;> cases b <;> simp_all
  · rw [hnd s hs]
    apply Decidable.byContradiction
    intro h2
    apply h
    rw [List.nil_append, hfl]
    refine mem_pick.2 ⟨s, hs, rfl, ?_⟩
    by_cases h4 : f s = b
    · rw [if_pos h4] at h2; exact absurd rfl h2
    · cases h5 : f s <;> cases b <;> simp_all
  · rw [List.nil_append, hfl] at h
    obtain ⟨s', _, e, h2⟩ := mem_pick.1 h
    obtain rfl : s = s' := by omega
    rw [hnd s hs, if_neg (fun e' => by rw [e'] at h2; cases b <;> cases h2)]
    show (1 : Int) ≠ 0
    decide
  · rw [List.nil_append, hfl] at hz
    obtain ⟨s, hs, rfl, _⟩ := mem_pick.1 hz
    omega
  · rw [List.nil_append, hfl]
    exact pick_nodup f (!b) n
  · by_cases h0 : pick f b n = []
    · refine ⟨0, fun c hc hne => ?_⟩
      have hc1 : c = 1 := by simp at hc; omega
      subst hc1
      show pick f (!b) n ≠ []
      intro h1
      cases h2 : f 0 == b with
      | true =>
        have : (0 : Int) ∈ pick f b n := mem_pick.2 ⟨0, hn, rfl, by simpa using h2⟩
        rw [h0] at this; cases this
      | false =>
        have : (0 : Int) ∈ pick f (!b) n := mem_pick.2 ⟨0, hn, rfl, by cases h5 : f 0 <;> cases b <;> simp_all⟩
        rw [h1] at this; cases this
    · refine ⟨1, fun c hc hne => ?_⟩
      have hc1 : c = 0 := by simp at hc; omega
      subst hc1
      exact h0
section
variable {w0 : World} {B Pb C Ms0 S1 Sm gB : Nat} {nxA : Option Addr} {nxc : Nat} {T : List (List Int)} {vB : Nat → Value} {cl : List Int} {ms : List (List Int)} {mv : List Int} {msv mvv : Value} {vs : List Value} {w w' : World}
theorem PAt.raise (h : PAt w0 B Pb C Ms0 S1 Sm gB nxA nxc T vB cl ms mv msv (.slice none 0 0) vs w) {Sm' : Nat} (hS : Sm ≤ Sm' ∧ Sm' ≤ w.heap.size) : PAt w0 B Pb C Ms0 S1 Sm' gB nxA nxc T vB cl ms mv msv (.slice none 0 0) vs w := by
  have hlo := h.lo
  exact ⟨h.pb, h.cb, h.mo, fun i v hv => ⟨(h.mr i v hv).1, fun g hg => ⟨Nat.lt_of_lt_of_le ((h.mr i v hv).2 g hg).1 hS.1, ((h.mr i v hv).2 g hg).2⟩⟩, h.vo, fun g hg => by simp [Value.ownBlock] at hg, h.tg, fun k hk => ⟨(h.tr k hk).1, fun g hg => ⟨Nat.lt_of_lt_of_le ((h.tr k hk).2 g hg).1 hS.1, ((h.tr k hk).2 g hg).2⟩⟩, h.tl, h.sb, ⟨hlo.1, hlo.2.1, by omega, by omega, hS.2⟩, h.b⟩
end
theorem perm_two {α : Type} {x y q : α} {Q : List α} (h : (q :: Q).Perm [x, y]) : (q = x ∧ Q = [y]) ∨ (q = y ∧ Q = [x]) := by
  have hl := h.length_eq
  obtain ⟨r, rfl⟩ : ∃ r, Q = [r] := by
    cases Q with
    | nil => simp at hl
    | cons r Q =>
      cases Q with
      | nil => exact ⟨r, rfl⟩
      | cons s Q => simp at hl
  have hq : q = x ∨ q = y := by
    have := h.mem_iff.1 (List.mem_cons_self (a := q) (l := [r]))
    simpa using this
  rcases hq with rfl | rfl
  · left
    have := (List.perm_cons q).1 h
    exact ⟨rfl, this.eq_singleton⟩
  · right
    have := (List.perm_cons q).1 (h.trans (List.Perm.swap q x []))
    exact ⟨rfl, this.eq_singleton⟩
/-- The partition as it is made. -/
theorem by_made {w X : World} {C Mb gB Bc : Nat} {A : Option Addr} {a : Nat} {T : List (List Int)} {vB : Nat → Value} (hb : Below w.heap.size w X) (hC : X.heap[C]? = some (.cells (cells T.length fun _ => .int .i64 0) 3 (0, 0))) (hM : X.heap[Mb]? = some (.cells #[.slice none 0 0] 33 (0, 0)))
    (hP : X.heap[gB]? = some (.cells (cells T.length vB) 33 (0, 0))) (hR : ∀ k, k < T.length → X.ownsRow Bc 3 1 (vB k) (preF T T.length k).length (zvs (preF T T.length k))) (hl : w.heap.size ≤ C ∧ w.heap.size ≤ Mb ∧ w.heap.size ≤ gB ∧ w.heap.size ≤ Bc) (hne : gB ≠ Mb) (hc : ∀ k, k < T.length → ∀ g, (vB k).ownBlock = some g → g ≠ C) :
    PAt w w.heap.size X.heap.size C Mb (X.heap.size + 1) (X.heap.size + 1) gB A a T vB (zeros T.length) [[]] [] (.slice (some ⟨Mb, 0, none⟩) 1 1) (.slice none 0 0) [.slice none 0 0] (X.alloc (.cells #[.slice A T.length a, .slice (some ⟨gB, 0, none⟩) T.length T.length, .slice (some ⟨C, 0, none⟩) T.length T.length, .slice (some ⟨Mb, 0, none⟩) 1 1, .slice none 0 0] 91)) := by
  have hsz := hb.size
  have k := bal (Below.refl X.heap.size X) (.cells #[.slice A T.length a, .slice (some ⟨gB, 0, none⟩) T.length T.length, .slice (some ⟨C, 0, none⟩) T.length T.length, .slice (some ⟨Mb, 0, none⟩) 1 1, .slice none 0 0] 91)
  have lC := blk_lt hC
  have lM := blk_lt hM
  have lg := blk_lt hP
  have hzl : (zeros T.length).length = T.length := by simp [zeros]
  refine ⟨by rw [hzl]; exact World.alloc_heap_new X _, by rw [← zeros_cells]; exact (k.block C lC).trans hC, ?_, fun i v hv => ?_, ⟨rfl, .inl ⟨rfl, rfl⟩⟩, fun g hg => by simp [Value.ownBlock] at hg, (k.block gB lg).trans hP, fun j hj => ⟨ownsRow_mono ((hR j hj).below k) hl.2.2.2, fun g hg => ⟨by have := (own_lt (hR j hj) hg).2; omega, hc j hj g hg⟩⟩, ⟨by omega, hne⟩, fun g hg => .inl (by simp [Value.ownBlock] at hg; exact hg.symm), ⟨by omega, hl.1, by omega, Nat.le_refl _, by rw [World.size_alloc]; exact Nat.le_refl _⟩, stepB hb k⟩
  · exact ⟨rfl, .inr ⟨Mb, 1, #[.slice none 0 0], rfl, hl.2.1, (k.block Mb lM).trans hM, by simp, by unfold maxLen; omega, by simp, rfl⟩⟩
  · have : i = 0 := by have := (List.getElem?_eq_some_iff.1 hv).1; simp at this; omega
    subst this
    simp at hv
    subst hv
    exact ⟨⟨rfl, .inl ⟨rfl, rfl⟩⟩, fun g hg => by simp [Value.ownBlock] at hg⟩
def fiB (d : Da) (s : Nat) : Bool := d.fi.getD s false
theorem okD_tok {d : Da} (h : OkD d) (hn : d.nx.length ≤ 4095) : TOk d.nx (2 ^ d.V.toNat) :=
  ⟨h.row, Nat.one_le_two_pow, Dg.pow7 (by have := h.v6; omega), hn⟩
set_option maxHeartbeats 16000000 in
theorem byFinal_any (d : Da) (A Bf : Option Addr) (a b : Nat) (w : World) (hx : DaAt w d A Bf) (hO : OkD d) (hn : d.nx.length ≤ 4095) :
    Calls Tryd.prog 61 #[.agg #[.int .i64 d.V, .int .i64 d.q0, .slice A d.nx.length a, .slice Bf d.fi.length b]] w fun e w' => ∃ Pb C Ms0 S1 Sm gB vB cl ms mv msv mvv vs, e = .returned (.pointer (some ⟨Pb, 0, none⟩)) ∧ PAt w w.heap.size Pb C Ms0 S1 Sm gB A a d.nx vB cl ms mv msv mvv vs w' ∧ Inv d.nx.length (2 ^ d.V.toNat) (dlt d.nx) (fiB d) 0 cl ms mv := by
  have hTk := okD_tok hO hn
  have HPre := Lib.hid fun X (hX : Below w.heap.size w X) => predecessors_any A d.nx a (2 ^ d.V.toNat) X (hx.nx.below hX) (fun r hr => ⟨by have := (hTk.row r hr).1; omega, (hTk.row r hr).2⟩) (by omega) hTk.l6
  have HM1 := Lib.hid fun X => made_ints d.nx.length (by omega) X
  have HM2 := Lib.hid fun X => made_row1 X
  have HFi := Lib.hid fun X (hX : Below w.heap.size w X) (s : Nat) (hs : s < d.nx.length) => show ∃ ad, Bf = some ad ∧ X.cell? (ad.add s) = some (.bool (fiB d s)) by
    obtain ⟨ad, e, _, hc⟩ := (hx.fi.below hX) s (by rw [hO.fi]; exact hs)
    exact ⟨ad, e, hc⟩
  have hfl := hO.fi
  have hn0 := hO.n0
  have hb0 := bal (Below.refl w.heap.size w) (.cells #[.int .i64 d.V, .int .i64 d.q0, .slice A d.nx.length a, .slice Bf d.fi.length b] 25)
  have hB0 := Blk4.new w (.int .i64 d.V) (.int .i64 d.q0) (.slice A d.nx.length a) (.slice Bf d.fi.length b)
  have hBm := Lib.hid fun (X : World) (C Mb gB Bc : Nat) (vB : Nat → Value) (h1 : Below w.heap.size w X) h2 h3 h4 h5 h6 h7 h8 => by_made (X := X) (A := A) (a := a) (C := C) (Mb := Mb) (gB := gB) (Bc := Bc) (vB := vB) (T := d.nx) h1 h2 h3 h4 h5 h6 h7 h8
  have HInv := Lib.hid fun bb => inv_zero (n := d.nx.length) (L := 2 ^ d.V.toNat) (δ := dlt d.nx) (f := fiB d) bb hn0
  clear hx hTk hO
  generalize hff : fiB d = f at *
  have HFF := Lib.hid hff
  clear hff
  generalize hTT : d.nx = T at *
  have HTT := Lib.hid hTT
  clear hTT
  generalize 2 ^ d.V.toNat = L at *
  rw [hfl] at hb0 hB0 ⊢
  generalize T.length = n at *
  generalize d.V = V at *
  generalize d.q0 = q0 at *
  clear hfl
  obtain ⟨i1, hi1, hy0, hy1, hy2⟩ := info_parts info_int6
  go_enter Tryd.func61, Tryd.ntmps61
  go_upto_region 1 with fail
  generalize hW0 : w.alloc (.cells #[.int .i64 V, .int .i64 q0, .slice A n a, .slice Bf n b] 25) = W0 at *
  have hb0 : Below w.heap.size w W0 := hb0
  go_cut [3] from 8 to 19 (fun t3 wx => ∃ (Pb gB C Mb S : Nat) (vB : Nat → Value), t3 = .pointer (some ⟨Pb, 0, none⟩) ∧ Hid (PAt w w.heap.size Pb C Mb S S gB A a T vB (zeros n) [[]] [] (.slice (some ⟨Mb, 0, none⟩) 1 1) (.slice none 0 0) [.slice none 0 0] wx) ∧ Hid (Blk4 wx w.heap.size (.int .i64 V) (.int .i64 q0) (.slice A n a) (.slice Bf n b)))
  case first =>
    refine wp_region_any (by kernel_rfl) ?_
    change wpAny _ _ _ _ _ _ _ (World.drew _)
    have hB1 := hB0.below (drew_below W0)
    have hb1 := stepB hb0 (drew_below W0)
    clear hB0 hb0
    generalize W0.drew = X0 at *
    have hS0 : (fun X : World => X.cell? ⟨w.heap.size, 2, none⟩ = some (.slice A n a)) X0 := hB1.cells.2.2.1
    have HSB := Lib.hid fun (X : World) (hX : Below X0.heap.size X0 X) => (hB1.below hX).cells.2.2.1
    refine wpAny_head 10 10 (fun X : World => X.cell? ⟨w.heap.size, 2, none⟩ = some (.slice A n a)) rfl rfl (by kernel_rfl) (by kernel_rfl) (by kernel_rfl) (fun hA => ?_)
    refine wpHead_take (i := 0) (v := ?_) (by kernel_rfl) hA (at_drop rfl) (by decide) (by kernel_rfl) (by kernel_rfl) (by kernel_rfl) (fun _ _ _ h => h) (Or.inl ⟨by rfl, ?_⟩) hS0 (fun hA => ?_)
    rotate_left
    · (intro Y hSY; go_simp <;> with_reducible rfl)
    simp only [Act.put, List.setIfInBounds_toArray, List.set_cons_zero, List.set_cons_succ]
    refine wpHead_take (i := 1) (v := ?_) (by kernel_rfl) hA (at_drop rfl) (by decide) (by kernel_rfl) (by kernel_rfl) (by kernel_rfl) (fun _ _ _ h => h) (Or.inl ⟨by rfl, ?_⟩) hS0 (fun hA => ?_)
    rotate_left
    · (intro Y hSY; go_simp <;> with_reducible rfl)
    simp only [Act.put, List.setIfInBounds_toArray, List.set_cons_zero, List.set_cons_succ]
    refine wpHead_take (i := 2) (v := ?_) (by kernel_rfl) hA (at_drop rfl) (by decide) (by kernel_rfl) (by kernel_rfl) (by kernel_rfl) (fun _ _ _ h => h) (Or.inl ⟨by rfl, ?_⟩) hS0 (fun hA => ?_)
    rotate_left
    · (intro Y hSY; go_simp <;> with_reducible rfl)
    simp only [Act.put, List.setIfInBounds_toArray, List.set_cons_zero, List.set_cons_succ]
    refine wpHead_take (i := 3) (v := ?_) (by kernel_rfl) hA (at_drop rfl) (by decide) (by kernel_rfl) (by kernel_rfl) (by kernel_rfl) (fun _ _ _ h => h) (Or.inl ⟨by rfl, ?_⟩) hS0 (fun hA => ?_)
    rotate_left
    · (intro Y hSY; go_simp <;> with_reducible rfl)
    simp only [Act.put, List.setIfInBounds_toArray, List.set_cons_zero, List.set_cons_succ]
    refine wpHead_take (i := 5) (v := ?_) (by kernel_rfl) hA (at_drop rfl) (by decide) (by kernel_rfl) (by kernel_rfl) (by kernel_rfl) (fun _ _ _ h => h) (Or.inl ⟨by rfl, ?_⟩) hS0 (fun hA => ?_)
    rotate_left
    · (intro Y hSY; go_simp <;> with_reducible rfl)
    simp only [Act.put, List.setIfInBounds_toArray, List.set_cons_zero, List.set_cons_succ]
    refine wpHead_take (i := 6) (v := ?_) (by kernel_rfl) hA (at_drop rfl) (by decide) (by kernel_rfl) (by kernel_rfl) (by kernel_rfl) (fun _ _ _ h => h) (Or.inl ⟨by rfl, ?_⟩) hS0 (fun hA => ?_)
    rotate_left
    · (intro Y hSY; go_simp <;> with_reducible rfl)
    simp only [Act.put, List.setIfInBounds_toArray, List.set_cons_zero, List.set_cons_succ]
    refine wpHead_take (i := 7) (v := ?_) (by kernel_rfl) hA (at_drop rfl) (by decide) (by kernel_rfl) (by kernel_rfl) (by kernel_rfl) (fun _ _ _ h => h) (Or.inl ⟨by rfl, ?_⟩) hS0 (fun hA => ?_)
    rotate_left
    · (intro Y hSY; go_simp <;> with_reducible rfl)
    simp only [Act.put, List.setIfInBounds_toArray, List.set_cons_zero, List.set_cons_succ]
    have hA0_4 := hnext hA (rs := [4, 8, 9]) (i := 4) (by kernel_rfl) (by decide) (by decide)
    have hA0_8 := hnext hA (rs := [4, 8, 9]) (i := 8) (by kernel_rfl) (by decide) (by decide)
    have hA0_9 := hnext hA (rs := [4, 8, 9]) (i := 9) (by kernel_rfl) (by decide) (by decide)
    refine wpHead_ready (rs := [4, 8, 9]) (by kernel_rfl) (by decide) (AllHead.cons (at_drop rfl) (by decide) (fun KK hK => ?_) (AllHead.cons (at_drop rfl) (by decide) (fun KK hK => ?_) (AllHead.cons (at_drop rfl) (by decide) (fun KK hK => ?_) AllHead.nil)))
    · replace hA := hA0_4
      go_simp
      refine (HPre.out X0 (hb1)).mono ?_
      rintro e X1 ⟨rfl, ⟨vB, hPt, _, hPr⟩, kk0⟩
      refine hK _ _ (HSB.out _ kk0) ?_
      clear hK KK
      try simp only [Act.put, List.setIfInBounds_toArray, List.set_cons_zero, List.set_cons_succ]
      have hA1_8 := hnext hA (rs := [8, 9]) (i := 8) (by kernel_rfl) (by decide) (by decide)
      have hA1_9 := hnext hA (rs := [8, 9]) (i := 9) (by kernel_rfl) (by decide) (by decide)
      refine wpHead_ready (rs := [8, 9]) (by kernel_rfl) (by decide) (AllHead.cons (at_drop rfl) (by decide) (fun KK hK => ?_) (AllHead.cons (at_drop rfl) (by decide) (fun KK hK => ?_) AllHead.nil))
      · replace hA := hA1_8
        have hm := HM1.out X1
        go_simp
        clear hm
        have kk1 := bal (Below.refl X1.heap.size X1) (.cells (cells n fun _ => .int .i64 0) 3)
        have hC := World.alloc_heap_new X1 (.cells (cells n fun _ => .int .i64 0) 3)
        obtain ⟨X2, hX2⟩ : ∃ Y, Y = X1.alloc (.cells (cells n fun _ => .int .i64 0) 3) := ⟨_, rfl⟩
        rw [← hX2] at kk1 hC ⊢
        clear hX2
        refine hK _ _ (HSB.out _ (stepB kk0 kk1)) ?_
        clear hK KK
        try simp only [Act.put, List.setIfInBounds_toArray, List.set_cons_zero, List.set_cons_succ]
        have hA2_9 := hnext hA (rs := [9]) (i := 9) (by kernel_rfl) (by decide) (by decide)
        refine wpHead_ready (rs := [9]) (by kernel_rfl) (by decide) (AllHead.cons (at_drop rfl) (by decide) (fun KK hK => ?_) AllHead.nil)
        replace hA := hA2_9
        have hm := HM2.out X2
        go_simp
        clear hm
        have kk2 := bal (Below.refl X2.heap.size X2) (.cells #[.slice none 0 0] 33)
        have hM := World.alloc_heap_new X2 (.cells #[.slice none 0 0] 33)
        obtain ⟨X3, hX3⟩ : ∃ Y, Y = X2.alloc (.cells #[.slice none 0 0] 33) := ⟨_, rfl⟩
        rw [← hX3] at kk2 hM ⊢
        clear hX3
        refine hK _ _ (HSB.out _ (stepB (stepB kk0 kk1) kk2)) ?_
        clear hK KK
        try simp only [Act.put, List.setIfInBounds_toArray, List.set_cons_zero, List.set_cons_succ]
        refine wpHead_end (by kernel_rfl) ?_
        simp only [List.drop_succ_cons, List.drop_zero]
        have kb4 : Below X1.heap.size X1 X3 := (stepB kk1 kk2)
        have kb8 : Below X2.heap.size X2 X3 := kk2
        have kb9 : Below X3.heap.size X3 X3 := (Below.refl _ _)
        have fC := (kb8.block X1.heap.size (blk_lt hC)).trans hC
        have fM := (kb9.block X2.heap.size (blk_lt hM)).trans hM
        have fP := (kb4.block X0.heap.size (blk_lt hPt)).trans hPt
        have sz0 := kk0.size
        have sz1 := kk1.size
        have sz2 := kk2.size
        have lC := blk_lt hC
        have lM := blk_lt hM
        have lP := blk_lt hPt
        have szw := hb1.size
        have hAll := hBm.out X3 X1.heap.size X2.heap.size X0.heap.size X0.heap.size vB (stepB hb1 (stepB (stepB kk0 kk1) kk2)) fC fM fP (fun k hk => (hPr k hk).below kb4) ⟨by omega, by omega, by omega, by omega⟩ (by omega) (fun k hk g hg => by have := own_lt (hPr k hk) hg; omega)
        have hBl := (hB1.below (stepB (stepB kk0 kk1) kk2)).below (bal (Below.refl _ _) (.cells #[.slice A n a, .slice (some ⟨X0.heap.size, 0, none⟩) n n, .slice (some ⟨X1.heap.size, 0, none⟩) n n, .slice (some ⟨X2.heap.size, 0, none⟩) 1 1, .slice none 0 0] 91))
        have hAll := Lib.hid hAll
        have hBl := Lib.hid hBl
        clear hBm fC fM fP hPr hPt hC hM kb4 kb8 kb9 kk0 kk1 kk2 hS0 HSB hB1 hb1 HPre
        go_wp2_with fail
        go_meet
        exact ⟨X3.heap.size, X0.heap.size, X1.heap.size, X2.heap.size, X3.heap.size + 1, vB, rfl, hAll, hBl⟩
      · replace hA := hA1_9
        have hm := HM2.out X1
        go_simp
        clear hm
        have kk1 := bal (Below.refl X1.heap.size X1) (.cells #[.slice none 0 0] 33)
        have hM := World.alloc_heap_new X1 (.cells #[.slice none 0 0] 33)
        obtain ⟨X2, hX2⟩ : ∃ Y, Y = X1.alloc (.cells #[.slice none 0 0] 33) := ⟨_, rfl⟩
        rw [← hX2] at kk1 hM ⊢
        clear hX2
        refine hK _ _ (HSB.out _ (stepB kk0 kk1)) ?_
        clear hK KK
        try simp only [Act.put, List.setIfInBounds_toArray, List.set_cons_zero, List.set_cons_succ]
        have hA2_8 := hnext hA (rs := [8]) (i := 8) (by kernel_rfl) (by decide) (by decide)
        refine wpHead_ready (rs := [8]) (by kernel_rfl) (by decide) (AllHead.cons (at_drop rfl) (by decide) (fun KK hK => ?_) AllHead.nil)
        replace hA := hA2_8
        have hm := HM1.out X2
        go_simp
        clear hm
        have kk2 := bal (Below.refl X2.heap.size X2) (.cells (cells n fun _ => .int .i64 0) 3)
        have hC := World.alloc_heap_new X2 (.cells (cells n fun _ => .int .i64 0) 3)
        obtain ⟨X3, hX3⟩ : ∃ Y, Y = X2.alloc (.cells (cells n fun _ => .int .i64 0) 3) := ⟨_, rfl⟩
        rw [← hX3] at kk2 hC ⊢
        clear hX3
        refine hK _ _ (HSB.out _ (stepB (stepB kk0 kk1) kk2)) ?_
        clear hK KK
        try simp only [Act.put, List.setIfInBounds_toArray, List.set_cons_zero, List.set_cons_succ]
        refine wpHead_end (by kernel_rfl) ?_
        simp only [List.drop_succ_cons, List.drop_zero]
        have kb4 : Below X1.heap.size X1 X3 := (stepB kk1 kk2)
        have kb8 : Below X3.heap.size X3 X3 := (Below.refl _ _)
        have kb9 : Below X2.heap.size X2 X3 := kk2
        have fC := (kb8.block X2.heap.size (blk_lt hC)).trans hC
        have fM := (kb9.block X1.heap.size (blk_lt hM)).trans hM
        have fP := (kb4.block X0.heap.size (blk_lt hPt)).trans hPt
        have sz0 := kk0.size
        have sz1 := kk1.size
        have sz2 := kk2.size
        have lC := blk_lt hC
        have lM := blk_lt hM
        have lP := blk_lt hPt
        have szw := hb1.size
        have hAll := hBm.out X3 X2.heap.size X1.heap.size X0.heap.size X0.heap.size vB (stepB hb1 (stepB (stepB kk0 kk1) kk2)) fC fM fP (fun k hk => (hPr k hk).below kb4) ⟨by omega, by omega, by omega, by omega⟩ (by omega) (fun k hk g hg => by have := own_lt (hPr k hk) hg; omega)
        have hBl := (hB1.below (stepB (stepB kk0 kk1) kk2)).below (bal (Below.refl _ _) (.cells #[.slice A n a, .slice (some ⟨X0.heap.size, 0, none⟩) n n, .slice (some ⟨X2.heap.size, 0, none⟩) n n, .slice (some ⟨X1.heap.size, 0, none⟩) 1 1, .slice none 0 0] 91))
        have hAll := Lib.hid hAll
        have hBl := Lib.hid hBl
        clear hBm fC fM fP hPr hPt hC hM kb4 kb8 kb9 kk0 kk1 kk2 hS0 HSB hB1 hb1 HPre
        go_wp2_with fail
        go_meet
        exact ⟨X3.heap.size, X0.heap.size, X2.heap.size, X1.heap.size, X3.heap.size + 1, vB, rfl, hAll, hBl⟩
    · replace hA := hA0_8
      have hm := HM1.out X0
      go_simp
      clear hm
      have kk0 := bal (Below.refl X0.heap.size X0) (.cells (cells n fun _ => .int .i64 0) 3)
      have hC := World.alloc_heap_new X0 (.cells (cells n fun _ => .int .i64 0) 3)
      obtain ⟨X1, hX1⟩ : ∃ Y, Y = X0.alloc (.cells (cells n fun _ => .int .i64 0) 3) := ⟨_, rfl⟩
      rw [← hX1] at kk0 hC ⊢
      clear hX1
      refine hK _ _ (HSB.out _ kk0) ?_
      clear hK KK
      try simp only [Act.put, List.setIfInBounds_toArray, List.set_cons_zero, List.set_cons_succ]
      have hA1_4 := hnext hA (rs := [4, 9]) (i := 4) (by kernel_rfl) (by decide) (by decide)
      have hA1_9 := hnext hA (rs := [4, 9]) (i := 9) (by kernel_rfl) (by decide) (by decide)
      refine wpHead_ready (rs := [4, 9]) (by kernel_rfl) (by decide) (AllHead.cons (at_drop rfl) (by decide) (fun KK hK => ?_) (AllHead.cons (at_drop rfl) (by decide) (fun KK hK => ?_) AllHead.nil))
      · replace hA := hA1_4
        go_simp
        refine (HPre.out X1 (stepB hb1 kk0)).mono ?_
        rintro e X2 ⟨rfl, ⟨vB, hPt, _, hPr⟩, kk1⟩
        refine hK _ _ (HSB.out _ (stepB kk0 kk1)) ?_
        clear hK KK
        try simp only [Act.put, List.setIfInBounds_toArray, List.set_cons_zero, List.set_cons_succ]
        have hA2_9 := hnext hA (rs := [9]) (i := 9) (by kernel_rfl) (by decide) (by decide)
        refine wpHead_ready (rs := [9]) (by kernel_rfl) (by decide) (AllHead.cons (at_drop rfl) (by decide) (fun KK hK => ?_) AllHead.nil)
        replace hA := hA2_9
        have hm := HM2.out X2
        go_simp
        clear hm
        have kk2 := bal (Below.refl X2.heap.size X2) (.cells #[.slice none 0 0] 33)
        have hM := World.alloc_heap_new X2 (.cells #[.slice none 0 0] 33)
        obtain ⟨X3, hX3⟩ : ∃ Y, Y = X2.alloc (.cells #[.slice none 0 0] 33) := ⟨_, rfl⟩
        rw [← hX3] at kk2 hM ⊢
        clear hX3
        refine hK _ _ (HSB.out _ (stepB (stepB kk0 kk1) kk2)) ?_
        clear hK KK
        try simp only [Act.put, List.setIfInBounds_toArray, List.set_cons_zero, List.set_cons_succ]
        refine wpHead_end (by kernel_rfl) ?_
        simp only [List.drop_succ_cons, List.drop_zero]
        have kb4 : Below X2.heap.size X2 X3 := kk2
        have kb8 : Below X1.heap.size X1 X3 := (stepB kk1 kk2)
        have kb9 : Below X3.heap.size X3 X3 := (Below.refl _ _)
        have fC := (kb8.block X0.heap.size (blk_lt hC)).trans hC
        have fM := (kb9.block X2.heap.size (blk_lt hM)).trans hM
        have fP := (kb4.block X1.heap.size (blk_lt hPt)).trans hPt
        have sz0 := kk0.size
        have sz1 := kk1.size
        have sz2 := kk2.size
        have lC := blk_lt hC
        have lM := blk_lt hM
        have lP := blk_lt hPt
        have szw := hb1.size
        have hAll := hBm.out X3 X0.heap.size X2.heap.size X1.heap.size X1.heap.size vB (stepB hb1 (stepB (stepB kk0 kk1) kk2)) fC fM fP (fun k hk => (hPr k hk).below kb4) ⟨by omega, by omega, by omega, by omega⟩ (by omega) (fun k hk g hg => by have := own_lt (hPr k hk) hg; omega)
        have hBl := (hB1.below (stepB (stepB kk0 kk1) kk2)).below (bal (Below.refl _ _) (.cells #[.slice A n a, .slice (some ⟨X1.heap.size, 0, none⟩) n n, .slice (some ⟨X0.heap.size, 0, none⟩) n n, .slice (some ⟨X2.heap.size, 0, none⟩) 1 1, .slice none 0 0] 91))
        have hAll := Lib.hid hAll
        have hBl := Lib.hid hBl
        clear hBm fC fM fP hPr hPt hC hM kb4 kb8 kb9 kk0 kk1 kk2 hS0 HSB hB1 hb1 HPre
        go_wp2_with fail
        go_meet
        exact ⟨X3.heap.size, X1.heap.size, X0.heap.size, X2.heap.size, X3.heap.size + 1, vB, rfl, hAll, hBl⟩
      · replace hA := hA1_9
        have hm := HM2.out X1
        go_simp
        clear hm
        have kk1 := bal (Below.refl X1.heap.size X1) (.cells #[.slice none 0 0] 33)
        have hM := World.alloc_heap_new X1 (.cells #[.slice none 0 0] 33)
        obtain ⟨X2, hX2⟩ : ∃ Y, Y = X1.alloc (.cells #[.slice none 0 0] 33) := ⟨_, rfl⟩
        rw [← hX2] at kk1 hM ⊢
        clear hX2
        refine hK _ _ (HSB.out _ (stepB kk0 kk1)) ?_
        clear hK KK
        try simp only [Act.put, List.setIfInBounds_toArray, List.set_cons_zero, List.set_cons_succ]
        have hA2_4 := hnext hA (rs := [4]) (i := 4) (by kernel_rfl) (by decide) (by decide)
        refine wpHead_ready (rs := [4]) (by kernel_rfl) (by decide) (AllHead.cons (at_drop rfl) (by decide) (fun KK hK => ?_) AllHead.nil)
        replace hA := hA2_4
        go_simp
        refine (HPre.out X2 (stepB hb1 (stepB kk0 kk1))).mono ?_
        rintro e X3 ⟨rfl, ⟨vB, hPt, _, hPr⟩, kk2⟩
        refine hK _ _ (HSB.out _ (stepB (stepB kk0 kk1) kk2)) ?_
        clear hK KK
        try simp only [Act.put, List.setIfInBounds_toArray, List.set_cons_zero, List.set_cons_succ]
        refine wpHead_end (by kernel_rfl) ?_
        simp only [List.drop_succ_cons, List.drop_zero]
        have kb4 : Below X3.heap.size X3 X3 := (Below.refl _ _)
        have kb8 : Below X1.heap.size X1 X3 := (stepB kk1 kk2)
        have kb9 : Below X2.heap.size X2 X3 := kk2
        have fC := (kb8.block X0.heap.size (blk_lt hC)).trans hC
        have fM := (kb9.block X1.heap.size (blk_lt hM)).trans hM
        have fP := (kb4.block X2.heap.size (blk_lt hPt)).trans hPt
        have sz0 := kk0.size
        have sz1 := kk1.size
        have sz2 := kk2.size
        have lC := blk_lt hC
        have lM := blk_lt hM
        have lP := blk_lt hPt
        have szw := hb1.size
        have hAll := hBm.out X3 X0.heap.size X1.heap.size X2.heap.size X2.heap.size vB (stepB hb1 (stepB (stepB kk0 kk1) kk2)) fC fM fP (fun k hk => (hPr k hk).below kb4) ⟨by omega, by omega, by omega, by omega⟩ (by omega) (fun k hk g hg => by have := own_lt (hPr k hk) hg; omega)
        have hBl := (hB1.below (stepB (stepB kk0 kk1) kk2)).below (bal (Below.refl _ _) (.cells #[.slice A n a, .slice (some ⟨X2.heap.size, 0, none⟩) n n, .slice (some ⟨X0.heap.size, 0, none⟩) n n, .slice (some ⟨X1.heap.size, 0, none⟩) 1 1, .slice none 0 0] 91))
        have hAll := Lib.hid hAll
        have hBl := Lib.hid hBl
        clear hBm fC fM fP hPr hPt hC hM kb4 kb8 kb9 kk0 kk1 kk2 hS0 HSB hB1 hb1 HPre
        go_wp2_with fail
        go_meet
        exact ⟨X3.heap.size, X2.heap.size, X0.heap.size, X1.heap.size, X3.heap.size + 1, vB, rfl, hAll, hBl⟩
    · replace hA := hA0_9
      have hm := HM2.out X0
      go_simp
      clear hm
      have kk0 := bal (Below.refl X0.heap.size X0) (.cells #[.slice none 0 0] 33)
      have hM := World.alloc_heap_new X0 (.cells #[.slice none 0 0] 33)
      obtain ⟨X1, hX1⟩ : ∃ Y, Y = X0.alloc (.cells #[.slice none 0 0] 33) := ⟨_, rfl⟩
      rw [← hX1] at kk0 hM ⊢
      clear hX1
      refine hK _ _ (HSB.out _ kk0) ?_
      clear hK KK
      try simp only [Act.put, List.setIfInBounds_toArray, List.set_cons_zero, List.set_cons_succ]
      have hA1_4 := hnext hA (rs := [4, 8]) (i := 4) (by kernel_rfl) (by decide) (by decide)
      have hA1_8 := hnext hA (rs := [4, 8]) (i := 8) (by kernel_rfl) (by decide) (by decide)
      refine wpHead_ready (rs := [4, 8]) (by kernel_rfl) (by decide) (AllHead.cons (at_drop rfl) (by decide) (fun KK hK => ?_) (AllHead.cons (at_drop rfl) (by decide) (fun KK hK => ?_) AllHead.nil))
      · replace hA := hA1_4
        go_simp
        refine (HPre.out X1 (stepB hb1 kk0)).mono ?_
        rintro e X2 ⟨rfl, ⟨vB, hPt, _, hPr⟩, kk1⟩
        refine hK _ _ (HSB.out _ (stepB kk0 kk1)) ?_
        clear hK KK
        try simp only [Act.put, List.setIfInBounds_toArray, List.set_cons_zero, List.set_cons_succ]
        have hA2_8 := hnext hA (rs := [8]) (i := 8) (by kernel_rfl) (by decide) (by decide)
        refine wpHead_ready (rs := [8]) (by kernel_rfl) (by decide) (AllHead.cons (at_drop rfl) (by decide) (fun KK hK => ?_) AllHead.nil)
        replace hA := hA2_8
        have hm := HM1.out X2
        go_simp
        clear hm
        have kk2 := bal (Below.refl X2.heap.size X2) (.cells (cells n fun _ => .int .i64 0) 3)
        have hC := World.alloc_heap_new X2 (.cells (cells n fun _ => .int .i64 0) 3)
        obtain ⟨X3, hX3⟩ : ∃ Y, Y = X2.alloc (.cells (cells n fun _ => .int .i64 0) 3) := ⟨_, rfl⟩
        rw [← hX3] at kk2 hC ⊢
        clear hX3
        refine hK _ _ (HSB.out _ (stepB (stepB kk0 kk1) kk2)) ?_
        clear hK KK
        try simp only [Act.put, List.setIfInBounds_toArray, List.set_cons_zero, List.set_cons_succ]
        refine wpHead_end (by kernel_rfl) ?_
        simp only [List.drop_succ_cons, List.drop_zero]
        have kb4 : Below X2.heap.size X2 X3 := kk2
        have kb8 : Below X3.heap.size X3 X3 := (Below.refl _ _)
        have kb9 : Below X1.heap.size X1 X3 := (stepB kk1 kk2)
        have fC := (kb8.block X2.heap.size (blk_lt hC)).trans hC
        have fM := (kb9.block X0.heap.size (blk_lt hM)).trans hM
        have fP := (kb4.block X1.heap.size (blk_lt hPt)).trans hPt
        have sz0 := kk0.size
        have sz1 := kk1.size
        have sz2 := kk2.size
        have lC := blk_lt hC
        have lM := blk_lt hM
        have lP := blk_lt hPt
        have szw := hb1.size
        have hAll := hBm.out X3 X2.heap.size X0.heap.size X1.heap.size X1.heap.size vB (stepB hb1 (stepB (stepB kk0 kk1) kk2)) fC fM fP (fun k hk => (hPr k hk).below kb4) ⟨by omega, by omega, by omega, by omega⟩ (by omega) (fun k hk g hg => by have := own_lt (hPr k hk) hg; omega)
        have hBl := (hB1.below (stepB (stepB kk0 kk1) kk2)).below (bal (Below.refl _ _) (.cells #[.slice A n a, .slice (some ⟨X1.heap.size, 0, none⟩) n n, .slice (some ⟨X2.heap.size, 0, none⟩) n n, .slice (some ⟨X0.heap.size, 0, none⟩) 1 1, .slice none 0 0] 91))
        have hAll := Lib.hid hAll
        have hBl := Lib.hid hBl
        clear hBm fC fM fP hPr hPt hC hM kb4 kb8 kb9 kk0 kk1 kk2 hS0 HSB hB1 hb1 HPre
        go_wp2_with fail
        go_meet
        exact ⟨X3.heap.size, X1.heap.size, X2.heap.size, X0.heap.size, X3.heap.size + 1, vB, rfl, hAll, hBl⟩
      · replace hA := hA1_8
        have hm := HM1.out X1
        go_simp
        clear hm
        have kk1 := bal (Below.refl X1.heap.size X1) (.cells (cells n fun _ => .int .i64 0) 3)
        have hC := World.alloc_heap_new X1 (.cells (cells n fun _ => .int .i64 0) 3)
        obtain ⟨X2, hX2⟩ : ∃ Y, Y = X1.alloc (.cells (cells n fun _ => .int .i64 0) 3) := ⟨_, rfl⟩
        rw [← hX2] at kk1 hC ⊢
        clear hX2
        refine hK _ _ (HSB.out _ (stepB kk0 kk1)) ?_
        clear hK KK
        try simp only [Act.put, List.setIfInBounds_toArray, List.set_cons_zero, List.set_cons_succ]
        have hA2_4 := hnext hA (rs := [4]) (i := 4) (by kernel_rfl) (by decide) (by decide)
        refine wpHead_ready (rs := [4]) (by kernel_rfl) (by decide) (AllHead.cons (at_drop rfl) (by decide) (fun KK hK => ?_) AllHead.nil)
        replace hA := hA2_4
        go_simp
        refine (HPre.out X2 (stepB hb1 (stepB kk0 kk1))).mono ?_
        rintro e X3 ⟨rfl, ⟨vB, hPt, _, hPr⟩, kk2⟩
        refine hK _ _ (HSB.out _ (stepB (stepB kk0 kk1) kk2)) ?_
        clear hK KK
        try simp only [Act.put, List.setIfInBounds_toArray, List.set_cons_zero, List.set_cons_succ]
        refine wpHead_end (by kernel_rfl) ?_
        simp only [List.drop_succ_cons, List.drop_zero]
        have kb4 : Below X3.heap.size X3 X3 := (Below.refl _ _)
        have kb8 : Below X2.heap.size X2 X3 := kk2
        have kb9 : Below X1.heap.size X1 X3 := (stepB kk1 kk2)
        have fC := (kb8.block X1.heap.size (blk_lt hC)).trans hC
        have fM := (kb9.block X0.heap.size (blk_lt hM)).trans hM
        have fP := (kb4.block X2.heap.size (blk_lt hPt)).trans hPt
        have sz0 := kk0.size
        have sz1 := kk1.size
        have sz2 := kk2.size
        have lC := blk_lt hC
        have lM := blk_lt hM
        have lP := blk_lt hPt
        have szw := hb1.size
        have hAll := hBm.out X3 X1.heap.size X0.heap.size X2.heap.size X2.heap.size vB (stepB hb1 (stepB (stepB kk0 kk1) kk2)) fC fM fP (fun k hk => (hPr k hk).below kb4) ⟨by omega, by omega, by omega, by omega⟩ (by omega) (fun k hk g hg => by have := own_lt (hPr k hk) hg; omega)
        have hBl := (hB1.below (stepB (stepB kk0 kk1) kk2)).below (bal (Below.refl _ _) (.cells #[.slice A n a, .slice (some ⟨X2.heap.size, 0, none⟩) n n, .slice (some ⟨X1.heap.size, 0, none⟩) n n, .slice (some ⟨X0.heap.size, 0, none⟩) 1 1, .slice none 0 0] 91))
        have hAll := Lib.hid hAll
        have hBl := Lib.hid hBl
        clear hBm fC fM fP hPr hPt hC hM kb4 kb8 kb9 kk0 kk1 kk2 hS0 HSB hB1 hb1 HPre
        go_wp2_with fail
        go_meet
        exact ⟨X3.heap.size, X2.heap.size, X1.heap.size, X0.heap.size, X3.heap.size + 1, vB, rfl, hAll, hBl⟩
  case rest =>
    obtain ⟨Pb, gB, C, Mb, S, vB, rfl, HP, HB⟩ := hcut
    clear hb0 hB0 hBm HPre HM1 HM2
    have HPX := Lib.hid fun X (hX : Below wc.heap.size wc X) => HP.out.below hX
    have HBX := Lib.hid fun X (hX : Below wc.heap.size wc X) => (show Blk4 X w.heap.size (.int .i64 V) (.int .i64 q0) (.slice A n a) (.slice Bf n b) from HB.out.below hX).cells
    have HbX := Lib.hid HP.out.b
    have hws := HP.out.b.size
    have hlt0 := blk_lt HB.out
    obtain ⟨z0, z1, z2, z3⟩ := (show Blk4 wc w.heap.size (.int .i64 V) (.int .i64 q0) (.slice A n a) (.slice Bf n b) from HB.out).cells
    clear HB
    go_wp2
    clear z0 z1 z2 z3
    go_loopw [23, 4, 5, 6, 7] (fun iv fv ov _ _ wr => ∃ (k : Nat) (v4 v5 : Value), k ≤ n ∧ iv = .int .i64 k ∧ v4 = fv ∧ v5 = ov ∧ Hid (Below wc.heap.size wc wr) ∧ Hid (wr.ownsRow wc.heap.size 3 1 v4 (pick f true k).length (zvs (pick f true k))) ∧ Hid (wr.ownsRow wc.heap.size 3 1 v5 (pick f false k).length (zvs (pick f false k))) ∧ Hid (∀ g, v4.ownBlock = some g → v5.ownBlock ≠ some g)) (fun iv _ _ _ _ _ => n - (intOf iv).toNat)
    case atStart => exact ⟨0, _, _, by omega, rfl, rfl, rfl, Below.refl _ _, ⟨rfl, .inl ⟨rfl, rfl⟩⟩, ⟨rfl, .inl ⟨rfl, rfl⟩⟩, fun g hg => by simp [Value.ownBlock] at hg⟩
    case round =>
      obtain ⟨k, v4, v5, hk, rfl, rfl, rfl, HBe, H4, H5, HD⟩ := hrel
      by_cases hlt : k < n
      · obtain ⟨ad, hBf, hcell⟩ := HFi.out wr (HbX.out.trans (HBe.out.mono hws)) k hlt
        subst hBf
        have hkn : (k : Int) < (n : Int) := by omega
        have hl4 := pick_len f true k
        have hl5 := pick_len f false k
        have hwb := HBe.out.size
        have hsnoc : ∀ l : List Int, zvs (l ++ [(k : Int)]) = zvs l ++ [.int .i64 k] := fun l => zvs_snoc l _
        cases hf : f k with
        | true =>
          have e1 : pick f true (k + 1) = pick f true k ++ [(k : Int)] := pick_yes hf
          have e2 : pick f false (k + 1) = pick f false k := pick_no (by rw [hf]; simp)
          have HN : Hid (∀ (w6 : World) A' c', w6.ownsRow wc.heap.size 3 1 (.slice A' ((pick f true k).length + 1) c') ((pick f true k).length + 1) (zvs (pick f true k) ++ [.int .i64 k]) → (wr.alloc (.cells #[.int .i64 k] 3)).grownBy w6 v4.ownBlock → ((Value.slice A' ((pick f true k).length + 1) c').ownBlock = v4.ownBlock ∨ (Value.slice A' ((pick f true k).length + 1) c').ownBlock = some (wr.alloc (.cells #[.int .i64 k] 3)).heap.size) →
              Hid (Below wc.heap.size wc w6) ∧ Hid (w6.ownsRow wc.heap.size 3 1 (.slice A' ((pick f true k).length + 1) c') (pick f true (k + 1)).length (zvs (pick f true (k + 1)))) ∧ Hid (w6.ownsRow wc.heap.size 3 1 v5 (pick f false (k + 1)).length (zvs (pick f false (k + 1)))) ∧ Hid (∀ g, (Value.slice A' ((pick f true k).length + 1) c').ownBlock = some g → v5.ownBlock ≠ some g)) := fun w6 A' c' ho hg hob => by
            refine ⟨(HBe.out.alloc hwb _).grown hg (by simp; omega) (fun q hq => (own_lt H4.out hq).1), by rw [e1, List.length_append, hsnoc]; exact ho, ?_, fun g hgg => ?_⟩
            · rw [e2]
              exact (H5.out.alloc _).kept hg (by
                cases h5 : v5.ownBlock with
                | none => exact .inl rfl
                | some g => exact .inr fun e => HD.out g e.symm h5)
            · rcases hob with h1 | h1
              · rw [h1] at hgg; exact HD.out g hgg
              · rw [h1] at hgg
                intro h2
                have := (own_lt H5.out h2).2
                simp at hgg
                omega
          rw [hf] at hcell
          have HO := H4
          clear H4 H5 HD hf e1 e2
          generalize (pick f true k).length = tn at *
          generalize zvs (pick f true k) = TT at *
          go_wp2_with (at_builtin; refine wpList_append_own_at _ rfl _ _ 33 rfl wc.heap.size 3 i1 (.int .i64 0) 1 8 Tryd.underlying33 hi1 hy0 hy1 hy2 rfl (by decide) _ _ _ rfl (HO.out.alloc _) ⟨wr.heap.size, 0, none⟩ 1 1 [.int .i64 k] rfl rfl (cell_one_new _ _ _) (by simp [Value.oneCell']) (by unfold maxLen; omega) (by omega) (by simp; omega) ?_; intro v' w6 hown' hgrow _ hob; obtain ⟨A2, c2, rfl, _⟩ := Ap.own_form hown'; obtain ⟨n1, n2, n3, n4⟩ := HN.out w6 A2 c2 hown' hgrow hob; clear hown' hgrow hob)
          go_roundw
          case rel => exact ⟨k + 1, _, _, by omega, by go_num, rfl, rfl, n1, n2, n3, n4⟩
          case measure => simp [intOf]; omega
        | false =>
          have e1 : pick f false (k + 1) = pick f false k ++ [(k : Int)] := pick_yes hf
          have e2 : pick f true (k + 1) = pick f true k := pick_no (by rw [hf]; simp)
          have HN : Hid (∀ (w6 : World) A' c', w6.ownsRow wc.heap.size 3 1 (.slice A' ((pick f false k).length + 1) c') ((pick f false k).length + 1) (zvs (pick f false k) ++ [.int .i64 k]) → (wr.alloc (.cells #[.int .i64 k] 3)).grownBy w6 v5.ownBlock → ((Value.slice A' ((pick f false k).length + 1) c').ownBlock = v5.ownBlock ∨ (Value.slice A' ((pick f false k).length + 1) c').ownBlock = some (wr.alloc (.cells #[.int .i64 k] 3)).heap.size) →
              Hid (Below wc.heap.size wc w6) ∧ Hid (w6.ownsRow wc.heap.size 3 1 v4 (pick f true (k + 1)).length (zvs (pick f true (k + 1)))) ∧ Hid (w6.ownsRow wc.heap.size 3 1 (.slice A' ((pick f false k).length + 1) c') (pick f false (k + 1)).length (zvs (pick f false (k + 1)))) ∧ Hid (∀ g, v4.ownBlock = some g → (Value.slice A' ((pick f false k).length + 1) c').ownBlock ≠ some g)) := fun w6 A' c' ho hg hob => by
            refine ⟨(HBe.out.alloc hwb _).grown hg (by simp; omega) (fun q hq => (own_lt H5.out hq).1), ?_, by rw [e1, List.length_append, hsnoc]; exact ho, fun g hgg => ?_⟩
            · rw [e2]
              exact (H4.out.alloc _).kept hg (by
                cases h4 : v4.ownBlock with
                | none => exact .inl rfl
                | some g => exact .inr fun e => HD.out g h4 e.symm)
            · rcases hob with h1 | h1
              · rw [h1]; exact HD.out g hgg
              · rw [h1]
                intro h2
                have := (own_lt H4.out hgg).2
                simp at h2
                omega
          rw [hf] at hcell
          have HO := H5
          clear H4 H5 HD hf e1 e2
          generalize (pick f false k).length = tn at *
          generalize zvs (pick f false k) = TT at *
          go_wp2_with (at_builtin; refine wpList_append_own_at _ rfl _ _ 33 rfl wc.heap.size 3 i1 (.int .i64 0) 1 8 Tryd.underlying33 hi1 hy0 hy1 hy2 rfl (by decide) _ _ _ rfl (HO.out.alloc _) ⟨wr.heap.size, 0, none⟩ 1 1 [.int .i64 k] rfl rfl (cell_one_new _ _ _) (by simp [Value.oneCell']) (by unfold maxLen; omega) (by omega) (by simp; omega) ?_; intro v' w6 hown' hgrow _ hob; obtain ⟨A2, c2, rfl, _⟩ := Ap.own_form hown'; obtain ⟨n1, n2, n3, n4⟩ := HN.out w6 A2 c2 hown' hgrow hob; clear hown' hgrow hob)
          go_roundw
          case rel => exact ⟨k + 1, _, _, by omega, by go_num, rfl, rfl, n1, n2, n3, n4⟩
          case measure => simp [intOf]; omega
      · obtain rfl : k = n := by omega
        obtain ⟨A4, c4, rfl, _⟩ := Ap.own_form H4.out
        obtain ⟨A5, c5, rfl, _⟩ := Ap.own_form H5.out
        have hl4 := pick_len f true k
        have hl5 := pick_len f false k
        have kb := bal (Below.refl wr.heap.size wr) (.cells #[.slice A4 (pick f true k).length c4, .slice A5 (pick f false k).length c5] 33)
        have hbg := stepB HBe.out kb
        have hP0 := (HPX.out _ hbg).raise (Sm' := (wr.alloc (.cells #[.slice A4 (pick f true k).length c4, .slice A5 (pick f false k).length c5] 33)).heap.size) ⟨(HPX.out _ hbg).lo.2.2.2.2, Nat.le_refl _⟩
        have hG := World.alloc_heap_new wr (.cells #[.slice A4 (pick f true k).length c4, .slice A5 (pick f false k).length c5] 33)
        have hwb := HBe.out.size
        have hCl : C < wc.heap.size := blk_lt HP.out.cb
        have hgl : gB < wc.heap.size := blk_lt HP.out.tg
        have hMl := (own_lt HP.out.mo (g := Mb) rfl).2
        have hgo : (wr.alloc (.cells #[.slice A4 (pick f true k).length c4, .slice A5 (pick f false k).length c5] 33)).ownsRow w.heap.size 33 1 (.slice (some ⟨wr.heap.size, 0, none⟩) 2 2) 2 (vls [(.slice A4 (pick f true k).length c4, pick f true k), (.slice A5 (pick f false k).length c5, pick f false k)]) :=
          ⟨rfl, .inr ⟨wr.heap.size, 2, _, rfl, by omega, hG, Nat.le_refl _, by unfold maxLen; omega, rfl, rfl⟩⟩
        have hSp := Lib.hid (split_any hP0 0 (by simp) wr.heap.size 2 [(.slice A4 (pick f true k).length c4, pick f true k), (.slice A5 (pick f false k).length c5, pick f false k)] (by simp) hgo (fun q hq => by
            rcases List.mem_cons.1 hq with rfl | hq
            · exact ⟨ownsRow_mono (H4.out.below kb) hws, fun g hg => by have := own_lt (H4.out.below kb) hg; omega⟩
            · rw [List.mem_singleton] at hq
              subst hq
              exact ⟨ownsRow_mono (H5.out.below kb) hws, fun g hg => by have := own_lt (H5.out.below kb) hg; omega⟩)
          ⟨fun e => by simp [Value.ownBlock] at e; omega, by omega⟩
          (fun q hq z hz => by
            have hzl : (zeros k).length = k := by simp [zeros]
            rw [hzl]
            rcases List.mem_cons.1 hq with rfl | hq
            · obtain ⟨s, hs, rfl, _⟩ := mem_pick.1 hz; omega
            · rw [List.mem_singleton] at hq
              subst hq
              obtain ⟨s, hs, rfl, _⟩ := mem_pick.1 hz; omega)
          ⟨by simp [zeros]; omega, by simp, by simp, by simp, fun Q' hp i => by
            have h1 := flat_take_le (rws Q') i
            have h2 := flat_perm_len (show (rws Q').Perm (rws [(.slice A4 (pick f true k).length c4, pick f true k), (.slice A5 (pick f false k).length c5, pick f false k)]) from hp.map _)
            have h3 : (rws [(Value.slice A4 (pick f true k).length c4, pick f true k), (Value.slice A5 (pick f false k).length c5, pick f false k)]).flatten.length = (pick f true k).length + (pick f false k).length := by
              show (pick f true k ++ (pick f false k ++ [])).length = _
              rw [List.length_append, List.append_nil]
            omega⟩ (fun h => by simp at h))
        have HFin : Hid (∀ q0 Q', (q0 :: Q').Perm [(Value.slice A4 (pick f true k).length c4, pick f true k), (Value.slice A5 (pick f false k).length c5, pick f false k)] → Inv k L (dlt T) f 0 (splitC (zeros k) ([[]] : List (List Int)).length (rws Q')) (([[]] : List (List Int)).set 0 q0.2 ++ rws Q') ([] ++ (rws Q').flatten)) := fun q0 Q' hp => by
          rcases perm_two hp with ⟨rfl, rfl⟩ | ⟨rfl, rfl⟩
          · exact HInv.out true
          · exact HInv.out false
        clear hP0 hG hgo H4 H5 HD HBe HP HPX HBX kb hbg
        go_wp2_with (go_at_call 76; ((refine hSp.out.mono ?_); rintro e w6 ⟨rfl, q0, Q', msv', mvv', vs', hperm, hP, hS⟩); have hL6 := Lib.hid hP; have hI6 := Lib.hid (HFin.out q0 Q' hperm); clear hP hS)
        go_ret
        exact ⟨Pb, C, Mb, S, _, gB, vB, _, _, _, _, _, _, rfl, hL6.out, hI6.out⟩
end Go.Proofs.YtkgeihambgbjdaaDoor.Mi
/- refined, stable, Classes, Rounds (package minimal). -/
namespace Go.Proofs.YtkgeihambgbjdaaDoor.Mi
open Go Go.RowKit Go.Maps Go.Proofs.YtkgeihambgbjdaaDoor Go.Proofs.YtkgeihambgbjdaaDoor.Cb Go.Proofs.YtkgeihambgbjdaaDoor.Sb
open Go.Proofs.YtkgeihambgbjdaaDoor.Nf (zvs zvs_snoc info_int6 ret_int ret_b drew_below hnext)
open Go.Proofs.YtkgeihambgbjdaaDoor.Dg (Tabs tb tb_mem mem_tb info_tab)
set_option linter.unusedVariables false
set_option linter.unusedSimpArgs false
set_option maxRecDepth 100000
/-- The classes of an automaton's states after k rounds. -/
def clsD (d : Da) (k : Nat) : List Int := clsL d.nx.length (2 ^ d.V.toNat) (dlt d.nx) (fiB d) (k + 1)
/-- Sorting more than 20 parts. -/
def SrtOk (n : Nat) : Prop := ∀ (B G m cG : Nat) (X : World) (vs0 : List Value), 20 < m → m ≤ n → SymOk B G m cG X vs0
theorem srt_small {n : Nat} (h : n ≤ 20) : SrtOk n := fun _ _ _ _ _ _ h1 h2 => by omega
/-- What refining leaves. -/
def ClsPost (d : Da) (k : Nat) (w : World) (e : Ending) (w' : World) : Prop := ∃ g, e = .returned (.slice (some ⟨g, 0, none⟩) d.nx.length d.nx.length) ∧ w.heap.size ≤ g ∧ w'.heap[g]? = some (.cells (zvs (clsD d k)).toArray 3 (0, 0)) ∧ Below w.heap.size w w'
theorem ret_gen {v v' : Value} (h : v = v') : Ending.returned v = Ending.returned v' := by rw [h]
set_option maxHeartbeats 8000000 in
theorem refined_any (d : Da) (A B : Option Addr) (a b : Nat) (w : World) (hx : DaAt w d A B) (hO : OkD d) (hn : d.nx.length ≤ 4095) (hT : Tab w) (hs : SrtOk d.nx.length) (r : Int) (hr : r ≤ 9223372036854775807) :
    Calls Tryd.prog 44 #[.agg #[.int .i64 d.V, .int .i64 d.q0, .slice A d.nx.length a, .slice B d.fi.length b], .int .i64 r] w (ClsPost d r.toNat w) := by
  have hb0 := bal (Below.refl w.heap.size w) (.cells #[.int .i64 d.V, .int .i64 d.q0, .slice A d.nx.length a, .slice B d.fi.length b] 25)
  have hB0 := Blk4.new w (.int .i64 d.V) (.int .i64 d.q0) (.slice A d.nx.length a) (.slice B d.fi.length b)
  have hBy := Lib.hid (byFinal_any d A B a b (w.alloc (.cells #[.int .i64 d.V, .int .i64 d.q0, .slice A d.nx.length a, .slice B d.fi.length b] 25)) (hx.below hb0) hO hn)
  have hTk := okD_tok hO hn
  have hsz : (w.alloc (.cells #[.int .i64 d.V, .int .i64 d.q0, .slice A d.nx.length a, .slice B d.fi.length b] 25)).heap.size = w.heap.size + 1 := World.size_alloc ..
  have hRd : Hid (∀ {Pb C Ms0 S1 Sm gB : Nat} {vB : Nat → Value} {cl : List Int} {ms : List (List Int)} {mv : List Int} {msv mvv : Value} {vs : List Value} {X : World} {j : Nat}, PAt (w.alloc (.cells #[.int .i64 d.V, .int .i64 d.q0, .slice A d.nx.length a, .slice B d.fi.length b] 25)) (w.alloc (.cells #[.int .i64 d.V, .int .i64 d.q0, .slice A d.nx.length a, .slice B d.fi.length b] 25)).heap.size Pb C Ms0 S1 Sm gB A a d.nx vB cl ms mv msv mvv vs X → Inv d.nx.length (2 ^ d.V.toNat) (dlt d.nx) (fiB d) j cl ms mv →
      Calls Tryd.prog 62 #[.pointer (some ⟨Pb, 0, none⟩)] X (RoundPost (w.alloc (.cells #[.int .i64 d.V, .int .i64 d.q0, .slice A d.nx.length a, .slice B d.fi.length b] 25)) (w.alloc (.cells #[.int .i64 d.V, .int .i64 d.q0, .slice A d.nx.length a, .slice B d.fi.length b] 25)).heap.size Pb C Ms0 S1 gB A a d.nx (2 ^ d.V.toNat) (fiB d) (j + 1) vB)) := fun h hI =>
    round_any h hTk (fun Y hY => hT.below (hb0.trans (hY.mono (by omega)))) (fun Y hY => (hx.nx.below (hb0.trans (hY.mono (by omega))))) hI (fun G m cG X vs0 h1 h2 => hs _ G m cG X vs0 h1 h2)
  have hFin : Hid (∀ {Pb C Ms0 S1 Sm gB : Nat} {vB : Nat → Value} {cl : List Int} {ms : List (List Int)} {mv : List Int} {msv mvv : Value} {vs : List Value} {X : World} {k : Nat}, PAt (w.alloc (.cells #[.int .i64 d.V, .int .i64 d.q0, .slice A d.nx.length a, .slice B d.fi.length b] 25)) (w.alloc (.cells #[.int .i64 d.V, .int .i64 d.q0, .slice A d.nx.length a, .slice B d.fi.length b] 25)).heap.size Pb C Ms0 S1 Sm gB A a d.nx vB cl ms mv msv mvv vs X → Inv d.nx.length (2 ^ d.V.toNat) (dlt d.nx) (fiB d) k cl ms mv → k ≤ r.toNat → (k = r.toNat ∨ mv = []) → Calls Tryd.prog 63 #[.slice (some ⟨C, 0, none⟩) cl.length cl.length] X (ClsPost d r.toNat w)) := fun {Pb C Ms0 S1 Sm gB vB cl ms mv msv mvv vs X k} h hI hk hor => by
    have hIr : Inv d.nx.length (2 ^ d.V.toNat) (dlt d.nx) (fiB d) r.toNat cl ms mv := by
      rcases hor with rfl | rfl
      · exact hI
      · have := hI.still hTk.dl (r.toNat - k)
        rwa [show k + (r.toNat - k) = r.toNat by omega] at this
    have hcl := hI.p.len
    have hml := classes_le hI.p hI.ne
    refine (inOrder_any (some ⟨C, 0, none⟩) cl cl.length X (ints_blk h.cb) (fun z hz => ?_) (by omega)).mono ?_
    · obtain ⟨s, hs, e⟩ := List.mem_iff_getElem.1 hz
      have := hI.p.rng s (by omega)
      rw [nd_eq hs, e] at this
      omega
    · rintro e w' ⟨g, rfl, hg, hc, hb⟩
      have hXs := h.b.size
      refine ⟨g, by rw [hcl], by omega, ?_, (hb0.trans (h.b.mono (by omega))).trans (hb.mono (by omega))⟩
      rw [hc, hIr.cls]
      rfl
  clear hx hO hn hT hs hTk hb0 hsz
  obtain ⟨z0, z1, z2, z3⟩ := hB0.cells
  go_enter Tryd.func44, Tryd.ntmps44
  go_upto_region 1 with fail
  generalize w.alloc (.cells #[.int .i64 d.V, .int .i64 d.q0, .slice A d.nx.length a, .slice B d.fi.length b] 25) = w1 at *
  generalize d.fi.length = nf at *
  go_wp2_with (go_at_call 61; ((with_reducible refine hBy.out.mono ?_); rintro e w2 ⟨Pb, C, Ms0, S1, Sm, gB, vB, cl, ms, mv, msv, mvv, vs, rfl, hP, hI⟩); have hP0 := Lib.hid hP; have hI0 := Lib.hid hI; clear hP hI)
  clear z0 z1 z2 z3 hBy hB0
  go_loopw [6] (fun kv wr => ∃ (k Sm : Nat) (cl : List Int) (ms : List (List Int)) (mv : List Int) (msv mvv : Value) (vs : List Value), k ≤ r.toNat ∧ kv = .int .i64 k ∧ Hid (PAt w1 w1.heap.size Pb C Ms0 S1 Sm gB A a d.nx vB cl ms mv msv mvv vs wr) ∧ Hid (Inv d.nx.length (2 ^ d.V.toNat) (dlt d.nx) (fiB d) k cl ms mv)) (fun kv _ => r.toNat - (intOf kv).toNat)
  case atStart => exact ⟨0, _, _, _, _, _, _, _, by omega, rfl, hP0, hI0⟩
  case round =>
    clear hP0 hI0
    obtain ⟨k, Sm1, cl1, ms1, mv1, msv1, mvv1, vs1, hk, rfl, HP, HI⟩ := hrel
    obtain ⟨z0, z1, z2, z3, z4, zP, _⟩ := HP.out.cells
    obtain ⟨Av, cv, hve, _⟩ := Ap.own_form HP.out.vo
    rw [hve] at z4
    by_cases hlt : (k : Int) < r
    · by_cases hm0 : mv1 = []
      · have hFk := Lib.hid (hFin.out HP.out HI.out hk (.inr hm0))
        rw [hm0] at z4
        simp only [List.length_nil] at z4
        clear hve HP HI hm0 hFin hRd
        go_wp2_with (go_at_call 63; ((with_reducible refine hFk.out.mono ?_); rintro e w6 ⟨g, rfl, hg, hc, hb⟩))
        go_ret
        exact ⟨g, rfl, hg, hc, hb⟩
      · obtain ⟨nm, hnm⟩ : ∃ q, mv1.length = q + 1 := ⟨mv1.length - 1, by have := List.length_pos_iff.2 hm0; omega⟩
        rw [hnm] at z4
        have HR := Lib.hid (hRd.out HP.out HI.out)
        clear hve HP HI hm0 hnm
        go_wp2_with (go_at_call 62; ((with_reducible refine HR.out.mono ?_); rintro e w6 ⟨rfl, Sm2, cl2, ms2, mv2, msv2, mvv2, vs2, hP2, hI2⟩); have hP2 := Lib.hid hP2; have hI2 := Lib.hid hI2)
        go_roundw
        case rel => exact ⟨k + 1, _, _, _, _, _, _, _, by omega, by go_num, hP2, hI2⟩
        case measure => simp [intOf]; omega
    · have hFk := Lib.hid (hFin.out HP.out HI.out hk (.inl (by omega)))
      have hd0 : decide ((k : Int) < r) = false := decide_eq_false hlt
      clear hve HP HI hFin hRd
      go_wp2_with (go_at_call 63; ((with_reducible refine hFk.out.mono ?_); rintro e w6 ⟨g, rfl, hg, hc, hb⟩))
      go_ret
      exact ⟨g, rfl, hg, hc, hb⟩
theorem stable_st (d : Da) (A B : Option Addr) (a b : Nat) (w : World) (hx : DaAt w d A B) (hO : OkD d) (hn : d.nx.length ≤ 4095) (hT : Tab w) (hs : SrtOk d.nx.length) :
    Calls Tryd.prog 42 #[.agg #[.int .i64 d.V, .int .i64 d.q0, .slice A d.nx.length a, .slice B d.fi.length b]] w (ClsPost d d.nx.length w) := by
  have hb0 := bal (Below.refl w.heap.size w) (.cells #[.int .i64 d.V, .int .i64 d.q0, .slice A d.nx.length a, .slice B d.fi.length b] 25)
  have hB0 := Blk4.new w (.int .i64 d.V) (.int .i64 d.q0) (.slice A d.nx.length a) (.slice B d.fi.length b)
  have hsz : (w.alloc (.cells #[.int .i64 d.V, .int .i64 d.q0, .slice A d.nx.length a, .slice B d.fi.length b] 25)).heap.size = w.heap.size + 1 := World.size_alloc ..
  have HR := Lib.hid (refined_any d A B a b (w.alloc (.cells #[.int .i64 d.V, .int .i64 d.q0, .slice A d.nx.length a, .slice B d.fi.length b] 25)) (hx.below hb0) hO hn (hT.below hb0) hs (d.nx.length : Int) (by omega))
  rw [Int.toNat_natCast] at HR
  have hFin : Hid (∀ e w', ClsPost d d.nx.length (w.alloc (.cells #[.int .i64 d.V, .int .i64 d.q0, .slice A d.nx.length a, .slice B d.fi.length b] 25)) e w' → ClsPost d d.nx.length w e w') := fun e w' ⟨g, h1, h2, h3, h4⟩ => ⟨g, h1, by omega, h3, hb0.trans (h4.mono (by omega))⟩
  clear hx hO hn hT hs hb0 hsz
  obtain ⟨z0, z1, z2, z3⟩ := hB0.cells
  go_enter Tryd.func42, Tryd.ntmps42
  go_wp2_with (go_at_call 44; ((with_reducible refine HR.out.mono ?_); intro e w6 h6; obtain ⟨g, rfl, hg, hc, hb⟩ := hFin.out _ _ h6))
  go_ret
  exact ⟨g, rfl, hg, hc, hb⟩
section
variable (d : Da) (A B : Option Addr) (a b : Nat) (w : World) (hx : DaAt w d A B)
include hx
theorem Classes_bad (hl : DaLen d) (h0 : chkD d ≠ 0) :
    Calls Tryd.prog 18 #[.agg #[.int .i64 d.V, .int .i64 d.q0, .slice A d.nx.length a, .slice B d.fi.length b]] w fun e w' => e = .returned (.tuple #[.slice none 0 0, .int .i64 (chkD d)]) ∧ Below w.heap.size w w' := by
  have hb0 := bal (Below.refl w.heap.size w) (.cells #[.int .i64 d.V, .int .i64 d.q0, .slice A d.nx.length a, .slice B d.fi.length b] 25)
  have hB0 := Blk4.new w (.int .i64 d.V) (.int .i64 d.q0) (.slice A d.nx.length a) (.slice B d.fi.length b)
  have HC := Lib.hid (CheckD_any d A B a b (w.alloc (.cells #[.int .i64 d.V, .int .i64 d.q0, .slice A d.nx.length a, .slice B d.fi.length b] 25)) (hx.below hb0) hl)
  have hne : (chkD d != 0) = true := by rw [bne_iff_ne]; exact h0
  clear hx hl h0
  obtain ⟨z0, z1, z2, z3⟩ := hB0.cells
  generalize chkD d = E at *
  go_enter Tryd.func18, Tryd.ntmps18
  go_wp2_with (go_at_call 31; ((with_reducible refine HC.out.mono ?_); rintro e w2 ⟨rfl, hb2⟩))
  go_ret2
  exact ⟨rfl, stepB hb0 hb2⟩
theorem Rounds_bad (hl : DaLen d) (h0 : chkD d ≠ 0) (k : Int) :
    Calls Tryd.prog 19 #[.agg #[.int .i64 d.V, .int .i64 d.q0, .slice A d.nx.length a, .slice B d.fi.length b], .int .i64 k] w fun e w' => e = .returned (.tuple #[.slice none 0 0, .int .i64 (chkD d)]) ∧ Below w.heap.size w w' := by
  have hb0 := bal (Below.refl w.heap.size w) (.cells #[.int .i64 d.V, .int .i64 d.q0, .slice A d.nx.length a, .slice B d.fi.length b] 25)
  have hB0 := Blk4.new w (.int .i64 d.V) (.int .i64 d.q0) (.slice A d.nx.length a) (.slice B d.fi.length b)
  have HC := Lib.hid (CheckD_any d A B a b (w.alloc (.cells #[.int .i64 d.V, .int .i64 d.q0, .slice A d.nx.length a, .slice B d.fi.length b] 25)) (hx.below hb0) hl)
  have hne : (chkD d != 0) = true := by rw [bne_iff_ne]; exact h0
  clear hx hl h0
  obtain ⟨z0, z1, z2, z3⟩ := hB0.cells
  generalize chkD d = E at *
  go_enter Tryd.func19, Tryd.ntmps19
  go_wp2_with (go_at_call 31; ((with_reducible refine HC.out.mono ?_); rintro e w2 ⟨rfl, hb2⟩))
  go_ret2
  exact ⟨rfl, stepB hb0 hb2⟩
/-- What Classes and Rounds leave for a valid automaton. -/
theorem Classes_good (hT : Tab w) (hc : chkD d = 0) (hn : d.nx.length ≤ 4095) (hs : SrtOk d.nx.length) :
    Calls Tryd.prog 18 #[.agg #[.int .i64 d.V, .int .i64 d.q0, .slice A d.nx.length a, .slice B d.fi.length b]] w fun e w' => ∃ g, e = .returned (.tuple #[.slice (some ⟨g, 0, none⟩) d.nx.length d.nx.length, .int .i64 0]) ∧ w.heap.size ≤ g ∧ w'.heap[g]? = some (.cells (zvs (clsD d d.nx.length)).toArray 3 (0, 0)) ∧ Below w.heap.size w w' := by
  have hb0 := bal (Below.refl w.heap.size w) (.cells #[.int .i64 d.V, .int .i64 d.q0, .slice A d.nx.length a, .slice B d.fi.length b] 25)
  have hB0 := Blk4.new w (.int .i64 d.V) (.int .i64 d.q0) (.slice A d.nx.length a) (.slice B d.fi.length b)
  have hsz : (w.alloc (.cells #[.int .i64 d.V, .int .i64 d.q0, .slice A d.nx.length a, .slice B d.fi.length b] 25)).heap.size = w.heap.size + 1 := World.size_alloc ..
  have hO := okD_of hc
  have HC := CheckD_any d A B a b (w.alloc (.cells #[.int .i64 d.V, .int .i64 d.q0, .slice A d.nx.length a, .slice B d.fi.length b] 25)) (hx.below hb0) hO.len
  rw [hc] at HC
  have HC := Lib.hid HC
  have HS : Hid (∀ X, Below w.heap.size w X → Calls Tryd.prog 42 #[.agg #[.int .i64 d.V, .int .i64 d.q0, .slice A d.nx.length a, .slice B d.fi.length b]] X (ClsPost d d.nx.length X)) := fun X hX => stable_st d A B a b X (hx.below hX) hO hn (hT.below hX) hs
  clear hx hO hn hT hs hc
  obtain ⟨z0, z1, z2, z3⟩ := hB0.cells
  go_enter Tryd.func18, Tryd.ntmps18
  go_wp2_with (first
    | (go_at_call 31; ((with_reducible refine HC.out.mono ?_); rintro e w2 ⟨rfl, hb2⟩); replace hB0 := hB0.below hb2; clear z0 z1 z2 z3; obtain ⟨z0, z1, z2, z3⟩ := hB0.cells; have hb3 := stepB hb0 hb2)
    | (go_at_call 42; ((with_reducible refine (HS.out _ hb3).mono ?_); rintro e w6 ⟨g, rfl, hg, hc, hb⟩)))
  go_ret2
  exact ⟨g, rfl, by have := hb3.size; omega, hc, stepB hb3 hb⟩
theorem Rounds_good (hT : Tab w) (hc : chkD d = 0) (hn : d.nx.length ≤ 4095) (hs : SrtOk d.nx.length) (k : Int) (hk : k ≤ 9223372036854775807) :
    Calls Tryd.prog 19 #[.agg #[.int .i64 d.V, .int .i64 d.q0, .slice A d.nx.length a, .slice B d.fi.length b], .int .i64 k] w fun e w' => ∃ g, e = .returned (.tuple #[.slice (some ⟨g, 0, none⟩) d.nx.length d.nx.length, .int .i64 0]) ∧ w.heap.size ≤ g ∧ w'.heap[g]? = some (.cells (zvs (clsD d k.toNat)).toArray 3 (0, 0)) ∧ Below w.heap.size w w' := by
  have hb0 := bal (Below.refl w.heap.size w) (.cells #[.int .i64 d.V, .int .i64 d.q0, .slice A d.nx.length a, .slice B d.fi.length b] 25)
  have hB0 := Blk4.new w (.int .i64 d.V) (.int .i64 d.q0) (.slice A d.nx.length a) (.slice B d.fi.length b)
  have hsz : (w.alloc (.cells #[.int .i64 d.V, .int .i64 d.q0, .slice A d.nx.length a, .slice B d.fi.length b] 25)).heap.size = w.heap.size + 1 := World.size_alloc ..
  have hO := okD_of hc
  have HC := CheckD_any d A B a b (w.alloc (.cells #[.int .i64 d.V, .int .i64 d.q0, .slice A d.nx.length a, .slice B d.fi.length b] 25)) (hx.below hb0) hO.len
  rw [hc] at HC
  have HC := Lib.hid HC
  have HS : Hid (∀ X, Below w.heap.size w X → Calls Tryd.prog 44 #[.agg #[.int .i64 d.V, .int .i64 d.q0, .slice A d.nx.length a, .slice B d.fi.length b], .int .i64 k] X (ClsPost d k.toNat X)) := fun X hX => refined_any d A B a b X (hx.below hX) hO hn (hT.below hX) hs k hk
  clear hx hO hn hT hs hc
  obtain ⟨z0, z1, z2, z3⟩ := hB0.cells
  go_enter Tryd.func19, Tryd.ntmps19
  go_wp2_with (first
    | (go_at_call 31; ((with_reducible refine HC.out.mono ?_); rintro e w2 ⟨rfl, hb2⟩); replace hB0 := hB0.below hb2; clear z0 z1 z2 z3; obtain ⟨z0, z1, z2, z3⟩ := hB0.cells; have hb3 := stepB hb0 hb2)
    | (go_at_call 44; ((with_reducible refine (HS.out _ hb3).mono ?_); rintro e w6 ⟨g, rfl, hg, hc, hb⟩)))
  go_ret2
  exact ⟨g, rfl, by have := hb3.size; omega, hc, stepB hb3 hb⟩
end
end Go.Proofs.YtkgeihambgbjdaaDoor.Mi
/- Minimize (package minimal). -/
namespace Go.Proofs.YtkgeihambgbjdaaDoor.Mi
open Go Go.RowKit Go.Maps Go.Proofs.YtkgeihambgbjdaaDoor Go.Proofs.YtkgeihambgbjdaaDoor.Cb Go.Proofs.YtkgeihambgbjdaaDoor.Sb
open Go.Proofs.YtkgeihambgbjdaaDoor.Nf (zvs zvs_snoc info_int6 ret_int ret_b drew_below hnext)
open Go.Proofs.YtkgeihambgbjdaaDoor.Dg (Tabs tb tb_mem mem_tb info_tab)
set_option linter.unusedVariables false
set_option linter.unusedSimpArgs false
set_option maxRecDepth 100000
/-- The first states of the classes, among the first k. -/
def fst (cl : List Int) : Nat → List Nat
  | 0 => []
  | k + 1 => if nd cl k = ((fst cl k).length : Int) then fst cl k ++ [k] else fst cl k
theorem fst_yes {cl : List Int} {k : Nat} (h : nd cl k = ((fst cl k).length : Int)) : fst cl (k + 1) = fst cl k ++ [k] := if_pos h
theorem fst_no {cl : List Int} {k : Nat} (h : ¬ nd cl k = ((fst cl k).length : Int)) : fst cl (k + 1) = fst cl k := if_neg h
theorem fst_len (cl : List Int) : ∀ k, (fst cl k).length ≤ k
  | 0 => Nat.le_refl _
  | k + 1 => by
    have := fst_len cl k
    by_cases h : nd cl k = ((fst cl k).length : Int)
    · rw [fst_yes h, List.length_append]; simp; omega
    · rw [fst_no h]; omega
theorem fst_lt (cl : List Int) : ∀ k, ∀ s ∈ fst cl k, s < k
  | 0, s, h => by cases h
  | k + 1, s, h => by
    by_cases e : nd cl k = ((fst cl k).length : Int)
    · rw [fst_yes e] at h
      rcases List.mem_append.1 h with h1 | h1
      · have := fst_lt cl k s h1; omega
      · rw [List.mem_singleton] at h1; omega
    · rw [fst_no e] at h
      have := fst_lt cl k s h; omega
def nxM (cl : List Int) (T : List (List Int)) (l : List Nat) : List (List Int) := l.map fun s => eachL cl (tb T s)
def fiM (f : Nat → Bool) (l : List Nat) : List Value := l.map fun s => .bool (f s)
/-- The automaton of the classes of r. -/
def minR (r : Da) : Da := ⟨r.V, 0, nxM (clsD r r.nx.length) r.nx (fst (clsD r r.nx.length) r.nx.length), (fst (clsD r r.nx.length) r.nx.length).map (fiB r)⟩
/-- The states of the result so far. -/
structure MinW (w W7 : World) (g7 : Nat) (V : Int) (cl : List Int) (T : List (List Int)) (f : Nat → Bool) (l : List Nat) (nv fv : Value) (X : World) : Prop where
  d : Blk4 X g7 (.int .i64 V) (.int .i64 0) nv fv
  r : RowsO W7.heap.size X nv (nxM cl T l) fun _ => True
  f : X.ownsRow W7.heap.size 4 1 fv l.length (fiM f l)
  b : Below w.heap.size w X
  fr : W7.heap.size ≤ X.heap.size ∧ ∀ b, b < W7.heap.size → b ≠ g7 → X.heap[b]? = W7.heap[b]?
  lo : w.heap.size ≤ g7 ∧ w.heap.size ≤ W7.heap.size ∧ g7 < W7.heap.size
theorem MinW.below {w W7 : World} {g7 : Nat} {V : Int} {cl : List Int} {T : List (List Int)} {f : Nat → Bool} {l : List Nat} {nv fv : Value} {X Y : World} (h : MinW w W7 g7 V cl T f l nv fv X) (hb : Below X.heap.size X Y) : MinW w W7 g7 V cl T f l nv fv Y :=
  ⟨h.d.below hb, h.r.frame (fun b hb1 _ _ => hb.block b hb1) (fun _ _ _ _ => trivial), h.f.below hb, stepB h.b hb, ⟨Nat.le_trans h.fr.1 hb.size, fun b h1 h2 => (hb.block b (by have := h.fr.1; omega)).trans (h.fr.2 b h1 h2)⟩, h.lo⟩
/-- A row more than truth values. -/
def MidW (w W7 : World) (g7 : Nat) (V : Int) (cl : List Int) (T : List (List Int)) (f : Nat → Bool) (l : List Nat) (s : Nat) (nv fv : Value) (X : World) : Prop :=
  Blk4 X g7 (.int .i64 V) (.int .i64 0) nv fv ∧ RowsO W7.heap.size X nv (nxM cl T (l ++ [s])) (fun _ => True) ∧ X.ownsRow W7.heap.size 4 1 fv l.length (fiM f l) ∧ Below w.heap.size w X ∧ (W7.heap.size ≤ X.heap.size ∧ ∀ b, b < W7.heap.size → b ≠ g7 → X.heap[b]? = W7.heap[b]?)
theorem MidW.below {w W7 : World} {g7 : Nat} {V : Int} {cl : List Int} {T : List (List Int)} {f : Nat → Bool} {l : List Nat} {s : Nat} {nv fv : Value} {X Y : World} (h : MidW w W7 g7 V cl T f l s nv fv X) (hb : Below X.heap.size X Y) : MidW w W7 g7 V cl T f l s nv fv Y :=
  ⟨h.1.below hb, h.2.1.frame (fun b hb1 _ _ => hb.block b hb1) (fun _ _ _ _ => trivial), h.2.2.1.below hb, stepB h.2.2.2.1 hb, ⟨Nat.le_trans h.2.2.2.2.1 hb.size, fun b h1 h2 => (hb.block b (by have := h.2.2.2.2.1; omega)).trans (h.2.2.2.2.2 b h1 h2)⟩⟩
/-- One row more. -/
theorem MinW.row {w W7 : World} {g7 : Nat} {V : Int} {cl : List Int} {T : List (List Int)} {f : Nat → Bool} {l : List Nat} {nv fv : Value} {X Z : World} (h : MinW w W7 g7 V cl T f l nv fv X) {s gr : Nat} {tmp : Obj} {A4 : Option Addr} {c4 : Nat} {Q : List (Nat × List Int)} (e : Q.map (fun q => q.2) = nxM cl T l) (hr : X.ownsRow W7.heap.size 33 1 nv l.length (rov Q)) (hq : ∀ q ∈ Q, W7.heap.size ≤ q.1 ∧ True ∧ X.heap[q.1]? = some (Obj.cells (zvs q.2).toArray 3 (0, 0))) (hgB : W7.heap.size ≤ gr) (hgl : X.heap[gr]? = some (.cells (zvs (eachL cl (tb T s))).toArray 3 (0, 0)))
    (hoQ : Z.ownsRow W7.heap.size 33 1 (.slice A4 (l.length + 1) c4) (l.length + 1) (rov Q ++ [.slice (some ⟨gr, 0, none⟩) (eachL cl (tb T s)).length (eachL cl (tb T s)).length])) (hg : (X.alloc tmp).grownBy Z nv.ownBlock) :
    Z.heap[g7]? = some (.cells #[.int .i64 V, .int .i64 0, nv, fv] 25 (0, 0)) ∧ MidW w W7 g7 V cl T f l s (.slice A4 (l.length + 1) c4) fv (Z.setCell ⟨g7, 2, none⟩ (.slice A4 (l.length + 1) c4)) := by
  have hnl : (nxM cl T l).length = l.length := List.length_map _
  have hlo := h.lo
  have hfr := h.fr
  have hX := hg.size
  simp at hX
  have hlt := blk_lt h.d
  have hdn := own_ne h.d hr (by decide)
  have hst : ∀ b, b < X.heap.size → nv.ownBlock ≠ some b → Z.heap[b]? = X.heap[b]? := fun b hb hn => (hg.block b (by simp; omega) (fun e => hn e.symm)).trans (Below.heap_alloc X tmp b hb)
  have hZ : Z.heap[g7]? = some (.cells #[.int .i64 V, .int .i64 0, nv, fv] 25 (0, 0)) := (hst g7 hlt hdn).trans h.d
  have hput : ∀ b, b ≠ g7 → (Z.setCell ⟨g7, 2, none⟩ (.slice A4 (l.length + 1) c4)).heap[b]? = Z.heap[b]? := fun b hb => Below.heap_setCell _ _ _ b hb
  refine ⟨hZ, heap_put hZ 2 _, ?_, ?_, ?_, by rw [Sb.size_put]; omega, fun b hb hb1 => ?_⟩
  · have hR : RowsO W7.heap.size Z (.slice A4 (l.length + 1) c4) (nxM cl T l ++ [eachL cl (tb T s)]) (fun _ => True) := by
      refine RowsO.push (rv := nv) (w := X) (Q := Q) (tmp := tmp) (gr := gr) (C := fun _ => True) e hq (by rw [hnl]; exact hr) hgB hgl (by rw [hnl]; exact hoQ) hg (fun _ _ _ => trivial) trivial
    have e2 : nxM cl T (l ++ [s]) = nxM cl T l ++ [eachL cl (tb T s)] := by unfold nxM; rw [List.map_append]; rfl
    rw [e2]
    obtain ⟨Q2, e3, ho3, hq3⟩ := hR
    refine ⟨Q2, e3, row_put ho3 (own_ne hZ ho3 (by decide)) _ _, fun q h1 => ?_⟩
    obtain ⟨h2, h4, h3⟩ := hq3 q h1
    exact ⟨h2, h4, (hput _ (fun e => by rw [e, hZ] at h3; exact absurd h3 (by simp))).trans h3⟩
  · have h1 := (h.f.alloc tmp).kept hg (row_ne h.f hr (by decide))
    exact row_put h1 (own_ne hZ h1 (by decide)) _ _
  · exact ((h.b.alloc (by omega) tmp).grown hg (by simp; omega) (fun q hq => by have := own_lt hr hq; omega)).setCell (p := ⟨g7, 2, none⟩) hlo.1 _
  · rw [hput b hb1]
    exact (hst b (by omega) (fun e => by have := own_lt hr e; omega)).trans (hfr.2 b hb hb1)
/-- One truth value more. -/
theorem MinW.fin {w W7 : World} {g7 : Nat} {V : Int} {cl : List Int} {T : List (List Int)} {f : Nat → Bool} {l : List Nat} {nv fv : Value} {X Z : World} {s : Nat} (hmid : MidW w W7 g7 V cl T f l s nv fv X) (hlo : w.heap.size ≤ g7 ∧ w.heap.size ≤ W7.heap.size ∧ g7 < W7.heap.size) {tmp : Obj} {A4 : Option Addr} {c4 : Nat} (ho : Z.ownsRow W7.heap.size 4 1 (.slice A4 (l.length + 1) c4) (l.length + 1) (fiM f l ++ [.bool (f s)])) (hg : (X.alloc tmp).grownBy Z fv.ownBlock) :
    Z.heap[g7]? = some (.cells #[.int .i64 V, .int .i64 0, nv, fv] 25 (0, 0)) ∧ MinW w W7 g7 V cl T f (l ++ [s]) nv (.slice A4 (l.length + 1) c4) (Z.setCell ⟨g7, 3, none⟩ (.slice A4 (l.length + 1) c4)) := by
  obtain ⟨hd, hr, hf, hb, hfr⟩ := hmid
  have hlt := blk_lt hd
  have hX := hg.size
  simp at hX
  have hdn := own_ne hd hf (by decide)
  have hst : ∀ b, b < X.heap.size → fv.ownBlock ≠ some b → Z.heap[b]? = X.heap[b]? := fun b hb hn => (hg.block b (by simp; omega) (fun e => hn e.symm)).trans (Below.heap_alloc X tmp b hb)
  have hZ : Z.heap[g7]? = some (.cells #[.int .i64 V, .int .i64 0, nv, fv] 25 (0, 0)) := (hst g7 hlt hdn).trans hd
  have hput : ∀ b, b ≠ g7 → (Z.setCell ⟨g7, 3, none⟩ (.slice A4 (l.length + 1) c4)).heap[b]? = Z.heap[b]? := fun b hb => Below.heap_setCell _ _ _ b hb
  refine ⟨hZ, heap_put hZ 3 _, ?_, ?_, ?_, ⟨by rw [Sb.size_put]; omega, fun b hb hb1 => ?_⟩, hlo⟩
  · obtain ⟨Q, e, hor, hq⟩ := hr
    refine ⟨Q, e, ?_, fun q h1 => ?_⟩
    · have h1 := (hor.alloc tmp).kept hg (row_ne hor hf (by decide))
      exact row_put h1 (own_ne hZ h1 (by decide)) _ _
    · obtain ⟨h2, h4, h3⟩ := hq q h1
      exact ⟨h2, h4, (hput _ (fun e => by rw [e] at h3; unfold Blk4 at hd; rw [hd] at h3; exact absurd h3 (by simp))).trans ((hst _ (blk_lt h3) (own_ne h3 hf (by decide))).trans h3)⟩
  · rw [List.length_append]
    have e2 : fiM f (l ++ [s]) = fiM f l ++ [.bool (f s)] := by unfold fiM; rw [List.map_append]; rfl
    rw [e2]
    exact row_put ho (own_ne hZ ho (by decide)) _ _
  · exact ((hb.alloc (by omega) tmp).grown hg (by simp; omega) (fun q hq => by have := own_lt hf hq; omega)).setCell (p := ⟨g7, 3, none⟩) hlo.1 _
  · rw [hput b hb1]
    exact (hst b (by omega) (fun e => by have := own_lt hf e; omega)).trans (hfr.2 b hb hb1)
section
variable (d : Da) (A B : Option Addr) (a b : Nat) (w : World) (hx : DaAt w d A B)
include hx
set_option maxHeartbeats 4000000 in
theorem Minimize_bad (hl : DaLen d) (h0 : chkD d ≠ 0) :
    Calls Tryd.prog 17 #[.agg #[.int .i64 d.V, .int .i64 d.q0, .slice A d.nx.length a, .slice B d.fi.length b]] w fun e w' => e = .returned (.tuple #[.agg #[.int .i64 0, .int .i64 0, .slice none 0 0, .slice none 0 0], .int .i64 (chkD d)]) ∧ Below w.heap.size w w' := by
  have hb0 := bal (bal (Below.refl w.heap.size w) (.cells #[.int .i64 d.V, .int .i64 d.q0, .slice A d.nx.length a, .slice B d.fi.length b] 25)) (.cells #[.int .i64 0, .int .i64 0, .slice none 0 0, .slice none 0 0] 25)
  have hN0 := (Blk4.new w (.int .i64 d.V) (.int .i64 d.q0) (.slice A d.nx.length a) (.slice B d.fi.length b)).below (bal (Below.refl _ _) (.cells #[.int .i64 0, .int .i64 0, .slice none 0 0, .slice none 0 0] 25))
  have hR0 := Blk4.new (w.alloc (.cells #[.int .i64 d.V, .int .i64 d.q0, .slice A d.nx.length a, .slice B d.fi.length b] 25)) (.int .i64 0) (.int .i64 0) (.slice none 0 0) (.slice none 0 0)
  rw [World.size_alloc] at hR0
  have HC := Lib.hid fun X (hX : Below w.heap.size w X) => Renumber_bad d A B a b X (hx.below hX) hl h0
  have hne : (chkD d != 0) = true := by rw [bne_iff_ne]; exact h0
  clear hx hl h0
  obtain ⟨z0, z1, z2, z3⟩ := hN0.cells
  generalize chkD d = E at *
  generalize d.nx.length = nn at *
  generalize d.fi.length = nf at *
  go_enter Tryd.func17, Tryd.ntmps17
  go_wp2_with (go_at_call 33; ((with_reducible refine (HC.out _ hb0).mono ?_); rintro e w2 ⟨rfl, hb2⟩); clear z0 z1 z2 z3; replace hR0 := (hR0.below hb2).below (bal (Below.refl _ _) (.cells #[.int .i64 0, .int .i64 0, .slice none 0 0, .slice none 0 0] 25)); replace hb0 := bal (stepB hb0 hb2) (.cells #[.int .i64 0, .int .i64 0, .slice none 0 0, .slice none 0 0] 25); obtain ⟨⟨p0, f0⟩, ⟨p1, f1⟩, ⟨p2, f2⟩, ⟨p3, f3⟩, hR5, hB5⟩ := store4 hR0 (.int .i64 0) (.int .i64 0) (.slice none 0 0) (.slice none 0 0); have HF := Lib.hid (And.intro hR5.cells (hB5 w.heap.size (by omega))); have lR := blk_lt hR0; clear hR5 hB5)
  obtain ⟨⟨y0, y1, y2, y3⟩, hb5'⟩ := HF.out
  have hb5 := hb0.trans hb5'
  unfold put4 at y0 y1 y2 y3 hb5
  refine bodyPost_ret (v := .tuple #[.agg #[.int .i64 0, .int .i64 0, .slice none 0 0, .slice none 0 0], .int .i64 E]) (by simp [results, Tryd.results17, go_sem, y0, y1, y2, y3]) rfl ?_
  exact ⟨rfl, hb5⟩
set_option maxHeartbeats 16000000 in
theorem Minimize_good (hT : Tabs2 w) (hc : chkD d = 0) (hn : d.nx.length ≤ 4095) (hs : SrtOk d.nx.length) (F : List Int) (hF : found (succT d) d.nx.length d.q0 = some F) (hFp : ∀ s ∈ F, Pd d s) :
    Calls Tryd.prog 17 #[.agg #[.int .i64 d.V, .int .i64 d.q0, .slice A d.nx.length a, .slice B d.fi.length b]] w fun e w' => ∃ rv fv, e = .returned (.tuple #[.agg #[.int .i64 d.V, .int .i64 0, rv, fv], .int .i64 0]) ∧ RowsO w.heap.size w' rv (minR (renD d F)).nx (fun _ => True) ∧ w'.ownsRow w.heap.size 4 1 fv (minR (renD d F)).fi.length ((minR (renD d F)).fi.map Value.bool) ∧ Below w.heap.size w w' := by
  have hb0 := bal (bal (Below.refl w.heap.size w) (.cells #[.int .i64 d.V, .int .i64 d.q0, .slice A d.nx.length a, .slice B d.fi.length b] 25)) (.cells #[.int .i64 0, .int .i64 0, .slice none 0 0, .slice none 0 0] 25)
  have hN0 := (Blk4.new w (.int .i64 d.V) (.int .i64 d.q0) (.slice A d.nx.length a) (.slice B d.fi.length b)).below (bal (Below.refl _ _) (.cells #[.int .i64 0, .int .i64 0, .slice none 0 0, .slice none 0 0] 25))
  have hR0 := Blk4.new (w.alloc (.cells #[.int .i64 d.V, .int .i64 d.q0, .slice A d.nx.length a, .slice B d.fi.length b] 25)) (.int .i64 0) (.int .i64 0) (.slice none 0 0) (.slice none 0 0)
  rw [World.size_alloc] at hR0
  have hO := okD_of hc
  have hOr := ren_ok hO hF hFp
  have hFl : F.length ≤ 4095 := by have := (found_is (succT d) d.nx.length hO.n0 hF).len; omega
  have hrn : (renD d F).nx.length = F.length := ren_nx d F
  have hrf : (renD d F).fi.length = F.length := ren_fi d F
  have hle : F.length ≤ d.nx.length := (found_is (succT d) d.nx.length hO.n0 hF).len
  have HRn : Hid (∀ X, Below w.heap.size w X → Calls Tryd.prog 33 #[.agg #[.int .i64 d.V, .int .i64 d.q0, .slice A d.nx.length a, .slice B d.fi.length b]] X fun e w' => ∃ A1 a1 B1 b1, e = .returned (.tuple #[.agg #[.int .i64 d.V, .int .i64 0, .slice A1 F.length a1, .slice B1 F.length b1], .int .i64 0]) ∧ DaAt w' (renD d F) A1 B1 ∧ Below X.heap.size X w') := fun X hX =>
    (Renumber_good d A B a b X (hx.below hX) (hT.below hX) hc F hF hFp).mono fun e w' ⟨rv, fv, h1, h2, h3⟩ => by
      obtain ⟨A1, a1, hrv, _⟩ := h2.nx.form
      obtain ⟨B1, b1, hfv, _⟩ := Ap.own_form h2.fi
      have hnl : (nums (succT d) F F.length).length = F.length := nums_len _ _ _ (Nat.le_refl _)
      rw [hnl] at hrv
      subst hrv
      subst hfv
      refine ⟨A1, a1, B1, b1, h1, ⟨?_, ?_⟩, h3⟩
      · have h4 := h2.nx.tabs hnl.symm
        exact h4
      · show Vals w' B1 (renD d F).fi.length _
        rw [hrf]
        refine Vals.of_own h2.fi fun j hj => ?_
        rw [List.getElem?_map, List.getElem?_eq_getElem hj]
        show some (fiV d F[j]) = some (.bool ((renD d F).fi.getD j false))
        unfold fiV renD
        rw [List.getD_eq_getElem?_getD, List.getD_eq_getElem?_getD, List.getElem?_map, List.getElem?_eq_getElem hj]
        simp
  have hs' : SrtOk (renD d F).nx.length := fun B G m cG X vs0 h1 h2 => hs B G m cG X vs0 h1 (by rw [hrn] at h2; omega)
  have HSt : Hid (∀ X A1 a1 B1 b1, Below w.heap.size w X → DaAt X (renD d F) A1 B1 → Calls Tryd.prog 42 #[.agg #[.int .i64 d.V, .int .i64 0, .slice A1 F.length a1, .slice B1 F.length b1]] X fun e w' => ∃ g, e = .returned (.slice (some ⟨g, 0, none⟩) F.length F.length) ∧ X.heap.size ≤ g ∧ w'.heap[g]? = some (.cells (zvs (clsD (renD d F) F.length)).toArray 3 (0, 0)) ∧ Below X.heap.size X w') := fun X A1 a1 B1 b1 hX hd => by
    have := stable_st (renD d F) A1 B1 a1 b1 X hd hOr (by rw [hrn]; omega) (hT.tz.below hX) hs'
    rw [hrn, hrf] at this
    exact this.mono fun e w' ⟨g, h1, h2, h3, h4⟩ => ⟨g, by rw [h1, hrn], h2, h3, h4⟩
  have hTk := okD_tok hOr (by rw [hrn]; omega)
  have HCl : Hid ((clsD (renD d F) F.length).length = F.length) := (cls_len _ _ _ _ _).trans hrn
  have HMr : Hid (minR (renD d F) = ⟨d.V, 0, nxM (clsD (renD d F) F.length) (renD d F).nx (fst (clsD (renD d F) F.length) F.length), (fst (clsD (renD d F) F.length) F.length).map (fiB (renD d F))⟩) := by
    show _ = _
    unfold minR
    rw [hrn]
    rfl
  have HTr := Lib.hid fun s (hs : s < F.length) => show (tb (renD d F).nx s).length ≤ 64 ∧ ∀ z ∈ tb (renD d F).nx s, 0 ≤ z ∧ z < (F.length : Int) by
    have h1 := hTk.row _ (tb_mem (by rw [hrn]; exact hs))
    have h2 := hTk.l6
    rw [hrn] at h1
    exact ⟨by omega, h1.2⟩
  clear hx hc hO hF hFp hT hs hOr hTk hs' hle
  generalize hrD : renD d F = r at *
  generalize hfl : F.length = n at *
  have HRNF := Lib.hid (And.intro hrn hrf)
  clear hrD hfl hrn hrf hn
  generalize hcl : clsD r n = cl at *
  have HCLS := Lib.hid hcl
  clear hcl
  obtain ⟨z0, z1, z2, z3⟩ := hN0.cells
  generalize d.nx.length = nn at *
  generalize d.fi.length = nf at *
  go_enter Tryd.func17, Tryd.ntmps17
  go_wp2_with (first
    | (go_at_call 33; ((with_reducible refine (HRn.out _ hb0).mono ?_); rintro e w2 ⟨A1, a1, B1, b1, rfl, hd2, hb2⟩); clear z0 z1 z2 z3; replace hR0 := hR0.below hb2; replace hb0 := stepB hb0 hb2; have hb3 := bal hb0 (.cells #[.int .i64 d.V, .int .i64 0, .slice A1 n a1, .slice B1 n b1] 25); have hd3 := hd2.below (bal (Below.refl w2.heap.size w2) (.cells #[.int .i64 d.V, .int .i64 0, .slice A1 n a1, .slice B1 n b1] 25)); have hg4 := Blk4.new w2 (.int .i64 d.V) (.int .i64 0) (.slice A1 n a1) (.slice B1 n b1); replace hR0 := hR0.below (bal (Below.refl w2.heap.size w2) (.cells #[.int .i64 d.V, .int .i64 0, .slice A1 n a1, .slice B1 n b1] 25)); have hs2 := hb0.size; have hs3 : (w2.alloc (.cells #[.int .i64 d.V, .int .i64 0, .slice A1 n a1, .slice B1 n b1] 25)).heap.size = w2.heap.size + 1 := World.size_alloc ..; obtain ⟨z0, z1, z2, z3⟩ := hg4.cells)
    | (go_at_call 42; ((with_reducible refine (HSt.out _ A1 a1 B1 b1 hb3 hd3).mono ?_); rintro e w4 ⟨gC, rfl, hgC, hcC, hb4⟩); clear z0 z1 z2 z3; replace hR0 := hR0.below hb4; replace hg4 := hg4.below hb4; replace hd3 := hd3.below hb4; replace hb0 := stepB hb3 hb4; have hs4 := hb4.size; obtain ⟨z0, z1, z2, z3⟩ := hg4.cells))
  have hg7 := Blk4.new w4 (.int .i64 d.V) (.int .i64 0) (.slice none 0 0) (.slice none 0 0)
  have K7 := bal (Below.refl w4.heap.size w4) (.cells #[.int .i64 d.V, .int .i64 0, .slice none 0 0, .slice none 0 0] 25)
  have hs7 : (w4.alloc (.cells #[.int .i64 d.V, .int .i64 0, .slice none 0 0, .slice none 0 0] 25)).heap.size = w4.heap.size + 1 := World.size_alloc ..
  have hsw := hb0.size
  have HM0 : Hid (MinW w (w4.alloc (.cells #[.int .i64 d.V, .int .i64 0, .slice none 0 0, .slice none 0 0] 25)) w4.heap.size d.V cl r.nx (fiB r) (fst cl 0) (.slice none 0 0) (.slice none 0 0) (w4.alloc (.cells #[.int .i64 d.V, .int .i64 0, .slice none 0 0, .slice none 0 0] 25))) := ⟨hg7, RowsO.nil _ _ _, ⟨rfl, .inl ⟨rfl, rfl⟩⟩, stepB hb0 K7, ⟨Nat.le_refl _, fun b _ _ => rfl⟩, ⟨by omega, by omega, by omega⟩⟩
  clear z0 z1 z2 z3 hg7 hb3 hb2 hb4 hd2 hN0 HRn HSt
  generalize (w4.alloc (.cells #[.int .i64 d.V, .int .i64 0, .slice none 0 0, .slice none 0 0] 25)) = W7 at *
  have HB4 := Lib.hid fun (X : World) (hw : Below w.heap.size w X) (hf : W7.heap.size ≤ X.heap.size ∧ ∀ b, b < W7.heap.size → b ≠ w4.heap.size → X.heap[b]? = W7.heap[b]?) => show Below w4.heap.size w4 X from ⟨hw.os.trans hb0.os.symm, hw.tape.trans hb0.tape.symm, hw.output.trans hb0.output.symm, by have := hf.1; omega, fun b hb => (hf.2 b (by omega) (by omega)).trans (K7.block b hb)⟩
  have HC := Lib.hid fun (X : World) (hX : Below w4.heap.size w4 X) => ints_blk ((hX.block _ (blk_lt hcC)).trans hcC)
  have HG := Lib.hid fun (X : World) (hX : Below w4.heap.size w4 X) => hg4.below hX
  have HRt := Lib.hid fun (X : World) (hX : Below w4.heap.size w4 X) => hR0.below hX
  have HD := Lib.hid hd3
  obtain ⟨i0, hi0, hz0, hz1, hz2⟩ := info_parts info_boolJ
  obtain ⟨i1, hi1, hy0, hy1, hy2⟩ := info_parts info_tab
  have HW7 := Lib.hid hs7
  clear hR0 hg4 hd3 hcC hb0 K7
  go_loopw [26, 8, 9] (fun iv _ _ wr => ∃ (k : Nat) (A3 : Option Addr) (c3 : Nat) (A4 : Option Addr) (c4 : Nat), k ≤ n ∧ iv = .int .i64 k ∧ Hid (MinW w W7 w4.heap.size d.V cl r.nx (fiB r) (fst cl k) (.slice A3 (fst cl k).length c3) (.slice A4 (fst cl k).length c4) wr)) (fun iv _ _ _ => n - (intOf iv).toNat)
  case atStart => exact ⟨0, none, 0, none, 0, Nat.zero_le _, rfl, HM0⟩
  case round =>
    clear HM0
    obtain ⟨k, A3, c3, A4, c4, hk, rfl, HM⟩ := hrel
    have hx4 := HB4.out _ HM.out.b HM.out.fr
    have hfl := fst_len cl k
    obtain ⟨y0, y1, y2, y3⟩ := HM.out.d.cells
    by_cases hlt : k < n
    · obtain ⟨ad, hA, hcell⟩ := (HC.out _ hx4).at_ (show k < cl.length by rw [HCl.out]; exact hlt)
      obtain rfl := Option.some.inj hA
      clear hA
      replace hcell : wr.cell? ⟨gC, k, none⟩ = some (.int .i64 (nd cl k)) := by rw [Ap.addr_add] at hcell; simpa using hcell
      have hlt2 : (k : Int) < (n : Int) := by omega
      by_cases he : nd cl k = ((fst cl k).length : Int)
      · have heb : (nd cl k == ((fst cl k).length : Int)) = true := by rw [beq_iff_eq]; exact he
        have HLV : Hid (fst cl (k + 1) = fst cl k ++ [k]) := fst_yes he
        clear he
        generalize fst cl k = l at *
        generalize nd cl k = cv at *
        go_upto_region 10 with fail
        clear hcell y0 y1 y2 y3
        refine wp_region_any (by kernel_rfl) ?_
        change wpAny _ _ _ _ _ _ _ (World.drew _)
        have hM0 := HM.out.below (drew_below wr)
        clear HM hx4
        generalize wr.drew = X0 at *
        have hx0 := HB4.out _ hM0.b hM0.fr
        obtain ⟨adT, pT, cT, hAT, hTb, hTc, hTi⟩ := HD.out.nx k (by rw [HRNF.out.1]; exact hlt)
        subst hAT
        have HRow : Hid (∀ X, Below w4.heap.size w4 X → X.cell? ⟨w2.heap.size, 2, none⟩ = some (.slice (some adT) n a1) ∧ X.cell? (adT.add k) = some (.slice pT (tb r.nx k).length cT) ∧ Ints X pT (tb r.nx k)) := fun X hX => ⟨(HG.out _ hX).cells.2.2.1, (hX.cell (by rw [addr_block]; exact hTb)).trans hTc, hTi.below hX⟩
        have HEa : Hid (∀ X, Below w4.heap.size w4 X → Calls Tryd.prog 43 #[.slice (some ⟨gC, 0, none⟩) n n, .slice pT (tb r.nx k).length cT] X fun e w' => e = .returned (.slice (some ⟨X.heap.size, 0, none⟩) (tb r.nx k).length (tb r.nx k).length) ∧ w'.heap[X.heap.size]? = some (.cells (zvs (eachL cl (tb r.nx k))).toArray 3 (0, 0)) ∧ Below X.heap.size X w') := fun X hX => by
          have h1 := HTr.out k hlt
          have h := each_any (some ⟨gC, 0, none⟩) pT cl (tb r.nx k) n cT X (HC.out _ hX) (HRow.out _ hX).2.2 (by rw [HCl.out]; exact h1.2) (by have := h1.1; omega)
          rw [HCl.out] at h
          exact h
        have hS0 : (fun X : World => X.cell? ⟨w4.heap.size, 2, none⟩ = some (.slice A3 l.length c3) ∧ X.cell? ⟨w2.heap.size, 2, none⟩ = some (.slice (some adT) n a1) ∧ X.cell? (adT.add k) = some (.slice pT (tb r.nx k).length cT)) X0 := ⟨hM0.d.cells.2.2.1, (HRow.out _ hx0).1, (HRow.out _ hx0).2.1⟩
        have HSb : Hid (∀ Y, Below X0.heap.size X0 Y → (fun X : World => X.cell? ⟨w4.heap.size, 2, none⟩ = some (.slice A3 l.length c3) ∧ X.cell? ⟨w2.heap.size, 2, none⟩ = some (.slice (some adT) n a1) ∧ X.cell? (adT.add k) = some (.slice pT (tb r.nx k).length cT)) Y) := fun Y hY => ⟨(hM0.below hY).d.cells.2.2.1, (HRow.out _ (HB4.out _ (hM0.below hY).b (hM0.below hY).fr)).1, (HRow.out _ (HB4.out _ (hM0.below hY).b (hM0.below hY).fr)).2.1⟩
        clear hTb hTc hTi
        refine wpAny_head 11 11 (fun X : World => X.cell? ⟨w4.heap.size, 2, none⟩ = some (.slice A3 l.length c3) ∧ X.cell? ⟨w2.heap.size, 2, none⟩ = some (.slice (some adT) n a1) ∧ X.cell? (adT.add k) = some (.slice pT (tb r.nx k).length cT)) rfl rfl (by kernel_rfl) (by kernel_rfl) (by kernel_rfl) (fun hA => ?_)
        refine wpHead_take (i := 0) (v := ?_) (by kernel_rfl) hA (at_drop rfl) (by decide) (by kernel_rfl) (by kernel_rfl) (by kernel_rfl) (fun _ _ _ h => h) (Or.inl ⟨by rfl, ?_⟩) hS0 (fun hA => ?_)
        rotate_left
        · (intro Y hSY; obtain ⟨s0, s1, s2⟩ := hSY; go_simp <;> with_reducible rfl)
        simp only [Act.put, List.setIfInBounds_toArray, List.set_cons_zero, List.set_cons_succ]
        refine wpHead_take (i := 1) (v := ?_) (by kernel_rfl) hA (at_drop rfl) (by decide) (by kernel_rfl) (by kernel_rfl) (by kernel_rfl) (fun _ _ _ h => h) (Or.inl ⟨by rfl, ?_⟩) hS0 (fun hA => ?_)
        rotate_left
        · (intro Y hSY; obtain ⟨s0, s1, s2⟩ := hSY; go_simp <;> with_reducible rfl)
        simp only [Act.put, List.setIfInBounds_toArray, List.set_cons_zero, List.set_cons_succ]
        refine wpHead_take (i := 2) (v := ?_) (by kernel_rfl) hA (at_drop rfl) (by decide) (by kernel_rfl) (by kernel_rfl) (by kernel_rfl) (fun _ _ _ h => h) (Or.inl ⟨by rfl, ?_⟩) hS0 (fun hA => ?_)
        rotate_left
        · (intro Y hSY; obtain ⟨s0, s1, s2⟩ := hSY; go_simp <;> with_reducible rfl)
        simp only [Act.put, List.setIfInBounds_toArray, List.set_cons_zero, List.set_cons_succ]
        refine wpHead_take (i := 3) (v := ?_) (by kernel_rfl) hA (at_drop rfl) (by decide) (by kernel_rfl) (by kernel_rfl) (by kernel_rfl) (fun _ _ _ h => h) (Or.inl ⟨by rfl, ?_⟩) hS0 (fun hA => ?_)
        rotate_left
        · (intro Y hSY; obtain ⟨s0, s1, s2⟩ := hSY; go_simp <;> with_reducible rfl)
        simp only [Act.put, List.setIfInBounds_toArray, List.set_cons_zero, List.set_cons_succ]
        refine wpHead_take (i := 4) (v := ?_) (by kernel_rfl) hA (at_drop rfl) (by decide) (by kernel_rfl) (by kernel_rfl) (by kernel_rfl) (fun _ _ _ h => h) (Or.inl ⟨by rfl, ?_⟩) hS0 (fun hA => ?_)
        rotate_left
        · (intro Y hSY; obtain ⟨s0, s1, s2⟩ := hSY; go_simp <;> with_reducible rfl)
        simp only [Act.put, List.setIfInBounds_toArray, List.set_cons_zero, List.set_cons_succ]
        refine wpHead_take (i := 5) (v := ?_) (by kernel_rfl) hA (at_drop rfl) (by decide) (by kernel_rfl) (by kernel_rfl) (by kernel_rfl) (fun _ _ _ h => h) (Or.inl ⟨by rfl, ?_⟩) hS0 (fun hA => ?_)
        rotate_left
        · (intro Y hSY; obtain ⟨s0, s1, s2⟩ := hSY; go_simp <;> with_reducible rfl)
        simp only [Act.put, List.setIfInBounds_toArray, List.set_cons_zero, List.set_cons_succ]
        refine wpHead_take (i := 6) (v := ?_) (by kernel_rfl) hA (at_drop rfl) (by decide) (by kernel_rfl) (by kernel_rfl) (by kernel_rfl) (fun _ _ _ h => h) (Or.inl ⟨by rfl, ?_⟩) hS0 (fun hA => ?_)
        rotate_left
        · (intro Y hSY; obtain ⟨s0, s1, s2⟩ := hSY; go_simp <;> with_reducible rfl)
        simp only [Act.put, List.setIfInBounds_toArray, List.set_cons_zero, List.set_cons_succ]
        refine wpHead_take (i := 7) (v := ?_) (by kernel_rfl) hA (at_drop rfl) (by decide) (by kernel_rfl) (by kernel_rfl) (by kernel_rfl) (fun _ _ _ h => h) (Or.inl ⟨by rfl, ?_⟩) hS0 (fun hA => ?_)
        rotate_left
        · (intro Y hSY; obtain ⟨s0, s1, s2⟩ := hSY; go_simp <;> with_reducible rfl)
        simp only [Act.put, List.setIfInBounds_toArray, List.set_cons_zero, List.set_cons_succ]
        have hA8 := hnext hA (rs := [8]) (i := 8) (by kernel_rfl) (by decide) (by decide)
        refine wpHead_ready (rs := [8]) (by kernel_rfl) (by decide) (AllHead.cons (at_drop rfl) (by decide) (fun KK hK => ?_) AllHead.nil)
        replace hA := hA8
        go_simp
        refine (HEa.out _ hx0).mono ?_
        rintro e X1 ⟨rfl, hc1, hb1⟩
        have hM1 := hM0.below hb1
        have hel : (eachL cl (tb r.nx k)).length = (tb r.nx k).length := List.length_map _
        have hfr0 := hM0.fr.1
        have hfr1 := hM1.fr.1
        refine hK _ _ (HSb.out _ hb1) ?_
        clear hK KK HEa
        try simp only [Act.put, List.setIfInBounds_toArray, List.set_cons_zero, List.set_cons_succ]
        have hA9 := hnext hA (rs := [9]) (i := 9) (by kernel_rfl) (by decide) (by decide)
        refine wpHead_ready (rs := [9]) (by kernel_rfl) (by decide) (AllHead.cons (at_drop rfl) (by decide) (fun KK hK => ?_) AllHead.nil)
        replace hA := hA9
        go_simp
        have hb2 := bal (Below.refl X1.heap.size X1) (.cells #[.slice (some ⟨X0.heap.size, 0, none⟩) (tb r.nx k).length (tb r.nx k).length] 33)
        have hS2 := HSb.out _ (stepB hb1 hb2)
        have hn2 := cell_one_new X1 (.slice (some ⟨X0.heap.size, 0, none⟩) (tb r.nx k).length (tb r.nx k).length) 33
        obtain ⟨Q, eQ, hQr, hQq⟩ := hM1.r
        rw [show (nxM cl r.nx l).length = l.length from List.length_map _] at hQr
        have hQ2 := hQr.below hb2
        have HRo := Lib.hid fun A5 c5 Z ho hg => hM1.row (Z := Z) (A4 := A5) (c4 := c5) (s := k) eQ hQr hQq hfr0 hc1 (by rw [hel]; exact ho) (tmp := .cells #[.slice (some ⟨X0.heap.size, 0, none⟩) (tb r.nx k).length (tb r.nx k).length] 33) hg
        have hLo := hM1.lo
        refine hK _ _ hS2 ?_
        clear hK KK hQq eQ hc1
        try simp only [Act.put, List.setIfInBounds_toArray, List.set_cons_zero, List.set_cons_succ]
        have hA10 := hnext hA (rs := [10]) (i := 10) (by kernel_rfl) (by decide) (by decide)
        refine wpHead_ready (rs := [10]) (by kernel_rfl) (by decide) (AllHead.cons (at_drop rfl) (by decide) (fun KK hK => ?_) AllHead.nil)
        replace hA := hA10
        refine step_append rfl (.tmp 37) (.tmp 45) 22 rfl W7.heap.size 33 i1 (.slice none 0 0) 1 24 Tryd.underlying22 hi1 hy0 hy1 hy2 rfl (by decide) (.slice A3 l.length c3) l.length _ (by simp [Act.eval]) hQ2 ⟨X1.heap.size, 0, none⟩ 1 1 [.slice (some ⟨X0.heap.size, 0, none⟩) (tb r.nx k).length (tb r.nx k).length] (by simp [Act.eval]) rfl hn2 (by simp [Value.oneCell']) (by unfold maxLen; omega) (by omega) (by simp; omega) ?_
        intro A5 c5 Z ho2 hg2 hob2
        obtain ⟨hdZ, hMd⟩ := HRo.out A5 c5 Z ho2 hg2
        have hfrZ : W7.heap.size ≤ Z.heap.size ∧ ∀ b, b < W7.heap.size → b ≠ w4.heap.size → Z.heap[b]? = W7.heap[b]? := ⟨by have := hMd.2.2.2.2.1; rwa [Sb.size_put] at this, fun b h1 h2 => by have := hMd.2.2.2.2.2 b h1 h2; rwa [Below.heap_setCell _ _ _ _ h2] at this⟩
        have hbZ : Below w.heap.size w Z := ((hM1.b.alloc (by have := hLo.2.1; omega) _).grown hg2 (by simp; have := hLo.2.1; omega) (fun q hq => by have := own_lt hQ2 hq; have := hLo.2.1; omega))
        have hxZ := HB4.out _ hbZ hfrZ
        have hdZ' : Blk4 Z w4.heap.size (.int .i64 d.V) (.int .i64 0) (.slice A3 l.length c3) (.slice A4 l.length c4) := hdZ
        have hSZ : (fun X : World => X.cell? ⟨w4.heap.size, 2, none⟩ = some (.slice A3 l.length c3) ∧ X.cell? ⟨w2.heap.size, 2, none⟩ = some (.slice (some adT) n a1) ∧ X.cell? (adT.add k) = some (.slice pT (tb r.nx k).length cT)) Z := ⟨hdZ'.cells.2.2.1, (HRow.out _ hxZ).1, (HRow.out _ hxZ).2.1⟩
        have HMd := Lib.hid hMd
        have f2 := free_of hdZ 2
        have c2z := hdZ'.cells.2.2.1
        have l2z := blk_lt hdZ
        refine hK _ _ hSZ ?_
        clear hK KK hMd hbZ hdZ hdZ' ho2 hg2 hob2 hQr hQ2 hn2 hM0 hM1 hS0 hS2 HSb HRo hxZ hfrZ hx0
        try simp only [Act.put, List.setIfInBounds_toArray, List.set_cons_zero, List.set_cons_succ]
        refine wpHead_end (by kernel_rfl) ?_
        simp only [List.drop_succ_cons, List.drop_zero]
        go_upto_region 11 with fail
        clear f2 c2z
        refine wp_region_any (by kernel_rfl) ?_
        change wpAny _ _ _ _ _ _ _ (World.drew _)
        have hN0 := HMd.out.below (drew_below _)
        clear HMd
        generalize (Z.setCell ⟨w4.heap.size, 2, none⟩ (.slice A5 (l.length + 1) c5)).drew = Y0 at *
        have hv0 := HB4.out _ hN0.2.2.2.1 hN0.2.2.2.2
        obtain ⟨adB, hAB, hBb, hBc⟩ := HD.out.fi k (by rw [HRNF.out.2]; exact hlt)
        subst hAB
        obtain ⟨bv, hbv⟩ : ∃ bv, bv = fiB r k := ⟨_, rfl⟩
        replace hBc : w4.cell? (adB.add k) = some (.bool bv) := by rw [hbv]; exact hBc
        have HFB := Lib.hid hbv
        clear hbv
        have HRow2 : Hid (∀ X, Below w4.heap.size w4 X → X.cell? ⟨w2.heap.size, 3, none⟩ = some (.slice (some adB) n b1) ∧ X.cell? (adB.add k) = some (.bool bv)) := fun X hX => ⟨(HG.out _ hX).cells.2.2.2, (hX.cell (by rw [addr_block]; exact hBb)).trans hBc⟩
        have hS0 : (fun X : World => X.cell? ⟨w4.heap.size, 3, none⟩ = some (.slice A4 l.length c4) ∧ X.cell? ⟨w2.heap.size, 3, none⟩ = some (.slice (some adB) n b1) ∧ X.cell? (adB.add k) = some (.bool bv)) Y0 := ⟨hN0.1.cells.2.2.2, (HRow2.out _ hv0).1, (HRow2.out _ hv0).2⟩
        have HSb : Hid (∀ Y, Below Y0.heap.size Y0 Y → (fun X : World => X.cell? ⟨w4.heap.size, 3, none⟩ = some (.slice A4 l.length c4) ∧ X.cell? ⟨w2.heap.size, 3, none⟩ = some (.slice (some adB) n b1) ∧ X.cell? (adB.add k) = some (.bool bv)) Y) := fun Y hY => ⟨(hN0.below hY).1.cells.2.2.2, (HRow2.out _ (HB4.out _ (hN0.below hY).2.2.2.1 (hN0.below hY).2.2.2.2)).1, (HRow2.out _ (HB4.out _ (hN0.below hY).2.2.2.1 (hN0.below hY).2.2.2.2)).2⟩
        have HFin := Lib.hid fun A6 c6 Z2 ho hg => MinW.fin (Z := Z2) (A4 := A6) (c4 := c6) (tmp := .cells #[.bool bv] 4) hN0 hLo (by rw [← HFB.out]; exact ho) hg
        clear hBb hBc
        refine wpAny_head 9 9 (fun X : World => X.cell? ⟨w4.heap.size, 3, none⟩ = some (.slice A4 l.length c4) ∧ X.cell? ⟨w2.heap.size, 3, none⟩ = some (.slice (some adB) n b1) ∧ X.cell? (adB.add k) = some (.bool bv)) rfl rfl (by kernel_rfl) (by kernel_rfl) (by kernel_rfl) (fun hA => ?_)
        refine wpHead_take (i := 0) (v := ?_) (by kernel_rfl) hA (at_drop rfl) (by decide) (by kernel_rfl) (by kernel_rfl) (by kernel_rfl) (fun _ _ _ h => h) (Or.inl ⟨by rfl, ?_⟩) hS0 (fun hA => ?_)
        rotate_left
        · (intro Y hSY; obtain ⟨s0, s1, s2⟩ := hSY; go_simp <;> with_reducible rfl)
        simp only [Act.put, List.setIfInBounds_toArray, List.set_cons_zero, List.set_cons_succ]
        refine wpHead_take (i := 1) (v := ?_) (by kernel_rfl) hA (at_drop rfl) (by decide) (by kernel_rfl) (by kernel_rfl) (by kernel_rfl) (fun _ _ _ h => h) (Or.inl ⟨by rfl, ?_⟩) hS0 (fun hA => ?_)
        rotate_left
        · (intro Y hSY; obtain ⟨s0, s1, s2⟩ := hSY; go_simp <;> with_reducible rfl)
        simp only [Act.put, List.setIfInBounds_toArray, List.set_cons_zero, List.set_cons_succ]
        refine wpHead_take (i := 2) (v := ?_) (by kernel_rfl) hA (at_drop rfl) (by decide) (by kernel_rfl) (by kernel_rfl) (by kernel_rfl) (fun _ _ _ h => h) (Or.inl ⟨by rfl, ?_⟩) hS0 (fun hA => ?_)
        rotate_left
        · (intro Y hSY; obtain ⟨s0, s1, s2⟩ := hSY; go_simp <;> with_reducible rfl)
        simp only [Act.put, List.setIfInBounds_toArray, List.set_cons_zero, List.set_cons_succ]
        refine wpHead_take (i := 3) (v := ?_) (by kernel_rfl) hA (at_drop rfl) (by decide) (by kernel_rfl) (by kernel_rfl) (by kernel_rfl) (fun _ _ _ h => h) (Or.inl ⟨by rfl, ?_⟩) hS0 (fun hA => ?_)
        rotate_left
        · (intro Y hSY; obtain ⟨s0, s1, s2⟩ := hSY; go_simp <;> with_reducible rfl)
        simp only [Act.put, List.setIfInBounds_toArray, List.set_cons_zero, List.set_cons_succ]
        refine wpHead_take (i := 4) (v := ?_) (by kernel_rfl) hA (at_drop rfl) (by decide) (by kernel_rfl) (by kernel_rfl) (by kernel_rfl) (fun _ _ _ h => h) (Or.inl ⟨by rfl, ?_⟩) hS0 (fun hA => ?_)
        rotate_left
        · (intro Y hSY; obtain ⟨s0, s1, s2⟩ := hSY; go_simp <;> with_reducible rfl)
        simp only [Act.put, List.setIfInBounds_toArray, List.set_cons_zero, List.set_cons_succ]
        refine wpHead_take (i := 5) (v := ?_) (by kernel_rfl) hA (at_drop rfl) (by decide) (by kernel_rfl) (by kernel_rfl) (by kernel_rfl) (fun _ _ _ h => h) (Or.inl ⟨by rfl, ?_⟩) hS0 (fun hA => ?_)
        rotate_left
        · (intro Y hSY; obtain ⟨s0, s1, s2⟩ := hSY; go_simp <;> with_reducible rfl)
        simp only [Act.put, List.setIfInBounds_toArray, List.set_cons_zero, List.set_cons_succ]
        refine wpHead_take (i := 6) (v := ?_) (by kernel_rfl) hA (at_drop rfl) (by decide) (by kernel_rfl) (by kernel_rfl) (by kernel_rfl) (fun _ _ _ h => h) (Or.inl ⟨by rfl, ?_⟩) hS0 (fun hA => ?_)
        rotate_left
        · (intro Y hSY; obtain ⟨s0, s1, s2⟩ := hSY; go_simp <;> with_reducible rfl)
        simp only [Act.put, List.setIfInBounds_toArray, List.set_cons_zero, List.set_cons_succ]
        have hA7 := hnext hA (rs := [7]) (i := 7) (by kernel_rfl) (by decide) (by decide)
        refine wpHead_ready (rs := [7]) (by kernel_rfl) (by decide) (AllHead.cons (at_drop rfl) (by decide) (fun KK hK => ?_) AllHead.nil)
        replace hA := hA7
        go_simp
        have hb6 := bal (Below.refl Y0.heap.size Y0) (.cells #[.bool bv] 4)
        have hF6 := hN0.2.2.1.below hb6
        have hn6 := cell_one_new Y0 (.bool bv) 4
        have hfr6 := hN0.2.2.2.2.1
        refine hK _ _ (HSb.out _ hb6) ?_
        clear hK KK
        try simp only [Act.put, List.setIfInBounds_toArray, List.set_cons_zero, List.set_cons_succ]
        have hA8 := hnext hA (rs := [8]) (i := 8) (by kernel_rfl) (by decide) (by decide)
        refine wpHead_ready (rs := [8]) (by kernel_rfl) (by decide) (AllHead.cons (at_drop rfl) (by decide) (fun KK hK => ?_) AllHead.nil)
        replace hA := hA8
        refine step_append rfl (.tmp 49) (.tmp 55) 23 rfl W7.heap.size 4 i0 (.bool false) 1 1 Tryd.underlying23 hi0 hz0 hz1 hz2 rfl (by decide) (.slice A4 l.length c4) l.length _ (by simp [Act.eval]) hF6 ⟨Y0.heap.size, 0, none⟩ 1 1 [.bool bv] (by simp [Act.eval]) rfl hn6 (by simp [Value.oneCell']) (by unfold maxLen; omega) (by omega) (by simp; omega) ?_
        intro A6 c6 Z2 ho6 hg6 hob6
        obtain ⟨hdZ2, hMZ⟩ := HFin.out A6 c6 Z2 ho6 hg6
        have hfrZ2 : W7.heap.size ≤ Z2.heap.size ∧ ∀ b, b < W7.heap.size → b ≠ w4.heap.size → Z2.heap[b]? = W7.heap[b]? := ⟨by have := hMZ.fr.1; rwa [Sb.size_put] at this, fun b h1 h2 => by have := hMZ.fr.2 b h1 h2; rwa [Below.heap_setCell _ _ _ _ h2] at this⟩
        have hbZ2 : Below w.heap.size w Z2 := ((hN0.2.2.2.1.alloc (by have := hLo.2.1; omega) _).grown hg6 (by simp; have := hLo.2.1; omega) (fun q hq => by have := own_lt hF6 hq; have := hLo.2.1; omega))
        have hxZ2 := HB4.out _ hbZ2 hfrZ2
        have hdZ2' : Blk4 Z2 w4.heap.size (.int .i64 d.V) (.int .i64 0) (.slice A5 (l.length + 1) c5) (.slice A4 l.length c4) := hdZ2
        have hSZ : (fun X : World => X.cell? ⟨w4.heap.size, 3, none⟩ = some (.slice A4 l.length c4) ∧ X.cell? ⟨w2.heap.size, 3, none⟩ = some (.slice (some adB) n b1) ∧ X.cell? (adB.add k) = some (.bool bv)) Z2 := ⟨hdZ2'.cells.2.2.2, (HRow2.out _ hxZ2).1, (HRow2.out _ hxZ2).2⟩
        have HMZ := Lib.hid hMZ
        have f3 := free_of hdZ2 3
        have c3z := hdZ2'.cells.2.2.2
        have l3z := blk_lt hdZ2
        refine hK _ _ hSZ ?_
        clear hK KK hMZ hbZ2 hdZ2 hdZ2' ho6 hg6 hob6 hF6 hn6 hN0 hS0 HSb HFin HRow2 hxZ2 hfrZ2 hv0
        try simp only [Act.put, List.setIfInBounds_toArray, List.set_cons_zero, List.set_cons_succ]
        refine wpHead_end (by kernel_rfl) ?_
        simp only [List.drop_succ_cons, List.drop_zero]
        go_wp2
        go_roundw
        case rel => exact ⟨k + 1, A5, c5, A6, c6, by omega, by go_num, by rw [HLV.out, List.length_append]; exact HMZ⟩
        case measure => simp [intOf]; omega
      · have heb : (nd cl k == ((fst cl k).length : Int)) = false := by rw [beq_eq_false_iff_ne]; exact he
        have HLV : Hid (fst cl (k + 1) = fst cl k) := fst_no he
        clear he
        generalize hl : fst cl k = l at *
        generalize nd cl k = cv at *
        clear hl
        go_wp2
        go_roundw
        case rel => exact ⟨k + 1, A3, c3, A4, c4, by omega, by go_num, by rw [HLV.out]; exact HM⟩
        case measure => simp [intOf]; omega
    · obtain rfl : k = n := by omega
      have hRw := HRt.out _ hx4
      have hlo := HM.out.lo
      obtain ⟨⟨p0, f0⟩, ⟨p1, f1⟩, ⟨p2, f2⟩, ⟨p3, f3⟩, hR5, hB5⟩ := store4 hRw (.int .i64 d.V) (.int .i64 0) (.slice A3 (fst cl k).length c3) (.slice A4 (fst cl k).length c4)
      have HF : Hid (((put4 wr (w.heap.size + 1) (.int .i64 d.V) (.int .i64 0) (.slice A3 (fst cl k).length c3) (.slice A4 (fst cl k).length c4)).cell? ⟨w.heap.size + 1, 0, none⟩ = some (.int .i64 d.V) ∧ (put4 wr (w.heap.size + 1) (.int .i64 d.V) (.int .i64 0) (.slice A3 (fst cl k).length c3) (.slice A4 (fst cl k).length c4)).cell? ⟨w.heap.size + 1, 1, none⟩ = some (.int .i64 0) ∧ (put4 wr (w.heap.size + 1) (.int .i64 d.V) (.int .i64 0) (.slice A3 (fst cl k).length c3) (.slice A4 (fst cl k).length c4)).cell? ⟨w.heap.size + 1, 2, none⟩ = some (.slice A3 (fst cl k).length c3) ∧ (put4 wr (w.heap.size + 1) (.int .i64 d.V) (.int .i64 0) (.slice A3 (fst cl k).length c3) (.slice A4 (fst cl k).length c4)).cell? ⟨w.heap.size + 1, 3, none⟩ = some (.slice A4 (fst cl k).length c4)) ∧ RowsO w.heap.size (put4 wr (w.heap.size + 1) (.int .i64 d.V) (.int .i64 0) (.slice A3 (fst cl k).length c3) (.slice A4 (fst cl k).length c4)) (.slice A3 (fst cl k).length c3) (minR r).nx (fun _ => True) ∧ (put4 wr (w.heap.size + 1) (.int .i64 d.V) (.int .i64 0) (.slice A3 (fst cl k).length c3) (.slice A4 (fst cl k).length c4)).ownsRow w.heap.size 4 1 (.slice A4 (fst cl k).length c4) (minR r).fi.length ((minR r).fi.map Value.bool) ∧ Below w.heap.size w (put4 wr (w.heap.size + 1) (.int .i64 d.V) (.int .i64 0) (.slice A3 (fst cl k).length c3) (.slice A4 (fst cl k).length c4))) := by
        refine ⟨hR5.cells, ?_, ?_, HM.out.b.trans (hB5 w.heap.size (by omega))⟩
        · rw [HMr.out]
          obtain ⟨Q, e, ho, hq⟩ := HM.out.r.mono (B' := w.heap.size) hlo.2.1
          refine ⟨Q, e, own_eq ho fun g hg => put4_other _ _ _ _ (fun e => own_ne hRw ho (by decide) (e ▸ hg)), fun q h1 => ?_⟩
          obtain ⟨h2, h4, h3⟩ := hq q h1
          exact ⟨h2, h4, (put4_other _ _ _ _ (fun e => by rw [e] at h3; unfold Blk4 at hRw; rw [hRw] at h3; exact absurd h3 (by simp))).trans h3⟩
        · rw [HMr.out]
          have hf := HM.out.f
          have e1 : fiM (fiB r) (fst cl k) = ((fst cl k).map (fiB r)).map Value.bool := by unfold fiM; rw [List.map_map]; rfl
          rw [e1] at hf
          show World.ownsRow _ _ _ _ _ ((fst cl k).map (fiB r)).length _
          rw [List.length_map]
          exact own_eq (ownsRow_mono hf hlo.2.1) fun g hg => put4_other _ _ _ _ (fun e => own_ne hRw hf (by decide) (e ▸ hg))
      clear hR5 hB5 hRw HM HRt HC HG HD HB4
      generalize (fst cl k).length = m at *
      go_wp2
      obtain ⟨⟨u0, u1, u2, u3⟩, hO1, hO2, hb5⟩ := HF.out
      unfold put4 at u0 u1 u2 u3 hO1 hO2 hb5
      refine bodyPost_ret (v := .tuple #[.agg #[.int .i64 d.V, .int .i64 0, .slice A3 m c3, .slice A4 m c4], .int .i64 0]) (by simp [results, Tryd.results17, go_sem, u0, u1, u2, u3]) rfl ?_
      exact ⟨_, _, rfl, hO1, hO2, hb5⟩
end
end Go.Proofs.YtkgeihambgbjdaaDoor.Mi
