/- successors (package subset): for each letter the set to which it leads. -/
import Derived.Test.YteckkbjpeckjmaaDoorJE
import Derived.Test.YteckkbjpeckjmaaDoorBS
import Derived.Test.YteckkbjpeckjmaaDoorFS
namespace Go.Proofs.YteckkbjpeckjmaaDoor.Sb
open Go Go.RowKit Go.Proofs.YteckkbjpeckjmaaDoor Go.Proofs.YteckkbjpeckjmaaDoor.Cb
open Go.Proofs.YteckkbjpeckjmaaDoor.Nf (Ed ed ed_mem Na NaAt NaLen Ok EdsAt Blk zvs zvs_snoc four_at info_int6 ret_int ret_b inS Boxed4 Boxed4.new Boxed4.below Boxed4.cells Boxed5 Boxed5.new hnext drew_below Bys Bys.below stepW tg mem_tg has_ofL IsSet IsSet.unique zvs_one ints_cells OwnW.low)
open Go.Proofs.YteckkbjpeckjmaaDoor.Dg (Tabs tb tb_mem mem_tb info_tab)
set_option linter.unusedVariables false
set_option linter.unusedSimpArgs false
set_option maxRecDepth 100000
/-- A set, as a value. -/
def SetR (w : World) (v : Value) (xs : List Nat) : Prop := ∃ p c, v = .slice p xs.length c ∧ Words w p xs ∧ U64 xs ∧ xs.length ≤ c ∧ ∀ ad, p = some ad → ∃ cs fz, w.heap[ad.block]? = some (Obj.cells cs 44 fz)
theorem SetR.keep {w w' : World} {v : Value} {xs : List Nat} (h : SetR w v xs) (hs : w.heap.size ≤ w'.heap.size) (hk : ∀ (b : Nat) (cs : Array Value) (fz : Nat × Nat), w.heap[b]? = some (Obj.cells cs 44 fz) → w'.heap[b]? = some (Obj.cells cs 44 fz)) : SetR w' v xs := by
  obtain ⟨p, c, e, h1, h2, h3, h4⟩ := h
  refine ⟨p, c, e, fun j hj => ?_, h2, h3, fun ad hp => ?_⟩
  · obtain ⟨ad, ep, hlt, hc⟩ := h1 j hj
    obtain ⟨cs, fz, hb⟩ := h4 ad ep
    refine ⟨ad, ep, by omega, ?_⟩
    rw [← hc]
    exact World.cell?_of_block (by rw [addr_block, hb]; exact hk _ _ _ hb)
  · obtain ⟨cs, fz, hb⟩ := h4 ad hp
    exact ⟨cs, fz, hk _ _ _ hb⟩
theorem SetR.own {B : Nat} {w : World} {p : Option Addr} {c : Nat} {xs : List Nat} (h : OwnW B w p c xs) : SetR w (.slice p xs.length c) xs := by
  refine ⟨p, c, rfl, h.words, h.2.1, h.2.2, fun ad hp => ?_⟩
  subst hp
  rcases h.1.2 with ⟨h1, _⟩ | ⟨g, cap, cur, h1, _, hg, _⟩
  · cases h1
  · cases h1
    exact ⟨_, _, hg⟩
theorem SetR.below {w w' : World} {v : Value} {xs : List Nat} (h : SetR w v xs) (hb : Below w.heap.size w w') : SetR w' v xs := by
  refine h.keep hb.size fun b cs fz hc => (hb.block b (blk_lt hc)).trans hc
/-- The slice at A holds what reads as L. -/
def RowsR {S : Type} (R : World → Value → S → Prop) (w : World) (A : Option Addr) (L : List S) : Prop := ∀ j s, L[j]? = some s → ∃ ad u, A = some ad ∧ ad.block < w.heap.size ∧ w.cell? (ad.add j) = some u ∧ R w u s
theorem RowsR.below {S : Type} {R : World → Value → S → Prop} (hR : ∀ w w' v s, R w v s → Below w.heap.size w w' → R w' v s) {w w' : World} {A : Option Addr} {L : List S} (h : RowsR R w A L) (hb : Below w.heap.size w w') : RowsR R w' A L := fun j s hj => by
  obtain ⟨ad, u, e, h1, h2, h3⟩ := h j s hj
  exact ⟨ad, u, e, Nat.lt_of_lt_of_le h1 hb.size, (hb.cell (by rw [addr_block]; exact h1)).trans h2, hR _ _ _ _ h3 hb⟩
/-- What the edges give for the elements of a set. -/
def flatM (es : List Ed) (x : Nat) (l : List Nat) : List Int := l.flatMap fun k => mvF es x k
theorem flat_step {n : Na} (hO : Ok n) {xs : List Nat} (ux : U64 xs) (x : Nat) : ofL (flatM n.es x (els xs)) = stepW n.es xs x := by
  unfold stepW
  refine IsSet.unique (P := fun z => (0 ≤ z ∧ z ≤ 4095) ∧ z ∈ flatM n.es x (els xs)) ⟨ofL_canon _, u64_of _, fun z => has_ofL⟩ (IsSet.congr ⟨ofL_canon _, u64_of _, fun z => has_ofL⟩ fun z => ?_)
  refine and_congr_right fun hz => ?_
  rw [mem_tg]
  unfold flatM
  rw [List.mem_flatMap]
  constructor
  · rintro ⟨e, he, h1, h2, rfl⟩
    have hfr := (Nf.edE_in (hO.ed e he)).1
    have hS := hO.s64
    refine ⟨e.fr.toNat, els_mem.2 ⟨by omega, ?_⟩, ?_⟩
    · unfold hasB at h2
      rw [Bool.and_eq_true] at h2
      exact h2.2
    · unfold mvF
      refine List.mem_map.2 ⟨e, List.mem_filter.2 ⟨he, ?_⟩, rfl⟩
      rw [h1, decide_eq_true (by omega)]
      rfl
  · rintro ⟨k, hk, hz2⟩
    unfold mvF at hz2
    obtain ⟨e, he, rfl⟩ := List.mem_map.1 hz2
    obtain ⟨he1, he2⟩ := List.mem_filter.1 he
    rw [Bool.and_eq_true, decide_eq_true_iff] at he2
    obtain ⟨h1, h2⟩ := els_mem.1 hk
    refine ⟨e, he1, he2.1, ?_, rfl⟩
    show hasB xs e.fr = true
    rw [he2.2]
    unfold hasB
    rw [decide_eq_true (by omega), Int.toNat_natCast, h2]
    rfl
theorem info_setR : (Tryd.prog.info? 41).map (fun i => (i.zero, i.size, i.bytes)) = some (some (.slice none 0 0), 1, 24) := by kernel_rfl
theorem made_sets (K : Nat) (hK : K ≤ 1000) (W : World) : (Instr.makeSlice 104 (.int .i64 (K : Int)) (.int .i64 (K : Int))).run Tryd.prog W = .ok (.slice (some ⟨W.heap.size, 0, none⟩) K K) (W.alloc (.cells (cells K fun _ => .slice none 0 0) 41)) := by
  obtain ⟨i0, hi, hz0, hz1, hz2⟩ := info_parts info_setR
  have := run_makeSlice (P := Tryd.prog) W 104 41 i0 _ Tryd.underlying104 hi hz0 .i64 .i64 (K : Int) (K : Int) (by omega) (Int.le_refl _) (by rw [hz1]; omega) (by rw [hz2]; omega) (by omega)
  rw [this, hz1, Int.toNat_natCast, Nat.mul_one, ← made_cells]
  rfl
/-- The first k sets have been made. -/
structure SucO (w wr : World) (gl K k : Nat) (v : Nat → Value) (F : Nat → List Nat) (PA : Option Addr) (cA : Nat) (l : List Nat) : Prop where
  o : wr.heap[gl]? = some (.cells (cells K fun i => if i < k then v i else .slice none 0 0) 41 (0, 0))
  own : ∀ i, i < k → ∃ p c, v i = .slice p (F i).length c ∧ OwnW w.heap.size wr p c (F i)
  fr : wr.ownsRow w.heap.size 3 1 (.slice PA l.length cA) l.length (ivs l)
  b : Below w.heap.size w wr
  g : w.heap.size ≤ gl
theorem SucO.below {w wr wz : World} {gl K k : Nat} {v : Nat → Value} {F : Nat → List Nat} {PA : Option Addr} {cA : Nat} {l : List Nat} (h : SucO w wr gl K k v F PA cA l) (hb : Below wr.heap.size wr wz) : SucO w wz gl K k v F PA cA l :=
  ⟨(hb.block _ (blk_lt h.o)).trans h.o, fun i hi => by
    obtain ⟨p, c, e, ho, hu, hc⟩ := h.own i hi
    exact ⟨p, c, e, ho.below hb, hu, hc⟩, h.fr.below hb, stepB h.b hb, h.g⟩
theorem SucO.next {w wz : World} {gl K k : Nat} {v : Nat → Value} {F : Nat → List Nat} {PA : Option Addr} {cA : Nat} {l : List Nat} (h : SucO w wz gl K k v F PA cA l) (hk : k < K) {p : Option Addr} {c : Nat} (ho : OwnW w.heap.size wz p c (F k)) :
    SucO w (wz.setCell ⟨gl, k, none⟩ (.slice p (F k).length c)) gl K (k + 1) (fun i => if i = k then .slice p (F k).length c else v i) F PA cA l := by
  have hne : 44 ≠ 41 := by decide
  refine ⟨?_, fun i hi => ?_, row_put h.fr (own_ne h.o h.fr (by decide)) _ _, h.b.setCell (p := ⟨gl, k, none⟩) h.g _, h.g⟩
  · rw [heap_put h.o, cells_set _ hk]
    congr 2
    exact cells_congr fun i hi => by
      by_cases e : i = k
      · rw [if_pos e, if_pos (by omega), if_pos e]
      · rw [if_neg e]
        by_cases e2 : i < k
        · rw [if_pos e2, if_pos (by omega), if_neg e]
        · rw [if_neg e2, if_neg (by omega)]
  · by_cases e : i = k
    · subst e
      exact ⟨p, c, if_pos rfl, row_put ho.1 (own_ne h.o ho.1 hne) _ _, ho.2⟩
    · obtain ⟨p', c', e', ho', h2⟩ := h.own i (by omega)
      exact ⟨p', c', (if_neg e).trans e', row_put ho' (own_ne h.o ho' hne) _ _, h2⟩
theorem SucO.rows {w wr : World} {gl K : Nat} {v : Nat → Value} {F : Nat → List Nat} {PA : Option Addr} {cA : Nat} {l : List Nat} (h : SucO w wr gl K K v F PA cA l) : RowsR SetR wr (some ⟨gl, 0, none⟩) ((List.range K).map F) := fun j s hj => by
  have hjK : j < K := by
    have := (List.getElem?_eq_some_iff.1 hj).1
    simpa using this
  obtain ⟨p, c, e, ho⟩ := h.own j hjK
  have hs : F j = s := by
    rw [List.getElem?_map, List.getElem?_range hjK] at hj
    exact Option.some.inj hj
  subst hs
  refine ⟨⟨gl, 0, none⟩, v j, rfl, blk_lt h.o, ?_, by rw [e]; exact SetR.own ho⟩
  rw [Ap.addr_add, cell_of h.o hjK, if_pos hjK]
theorem ints_from {w : World} {A : Option Addr} {l : List Int} (hx : Ints w A l) : (A = none → l.length = 0) ∧ (∀ ad, A = some ad → ∀ j u, (zvs l)[j]? = some u → w.cell? (ad.add j) = some u) := by
  refine ⟨fun h => ?_, fun ad h => ?_⟩
  · subst h
    cases l with
    | nil => rfl
    | cons x r => obtain ⟨ad, e, _⟩ := hx 0 (by simp); cases e
  · subst h
    exact ints_cells hx
/-- What successors leaves. -/
def SucPost (w : World) (K : Nat) (L : List (List Nat)) (e : Ending) (w' : World) : Prop := ∃ gl c, e = .returned (.slice (some ⟨gl, 0, none⟩) K c) ∧ w.heap.size ≤ gl ∧ RowsR SetR w' (some ⟨gl, 0, none⟩) L ∧ Below w.heap.size w w'
theorem flat_snoc (es : List Ed) (x : Nat) {l : List Nat} {j : Nat} (h : j < l.length) : flatM es x (l.take (j + 1)) = flatM es x (l.take j) ++ mvF es x (wd l j) := by
  unfold flatM
  rw [List.take_add_one, List.getElem?_eq_getElem h, List.flatMap_append]
  unfold wd
  rw [List.getD_eq_getElem?_getD, List.getElem?_eq_getElem h]
  simp
theorem flat_len (es : List Ed) (x : Nat) (l : List Nat) : (flatM es x l).length ≤ l.length * es.length := by
  unfold flatM
  induction l with
  | nil => simp
  | cons a l ih =>
    rw [List.flatMap_cons, List.length_append, List.length_cons, Nat.succ_mul]
    have : (mvF es x a).length ≤ es.length := by unfold mvF; rw [List.length_map]; exact List.length_filter_le _ _
    omega
theorem u64_own {B : Nat} {w : World} {A : Option Addr} {c : Nat} {xs : List Nat} (h : OwnW B w A c xs) : U64 xs := h.2.1
set_option maxHeartbeats 8000000 in
theorem successors_any (n : Na) (hO : Ok n) (mb : Nat) (P : Option Addr) (xs : List Nat) (c : Nat) (w : World) (hM : MovAt w mb (2 ^ n.V.toNat) n.S.toNat (mvF n.es)) (hx : Words w P xs) (ux : U64 xs) (hc : xs.length ≤ c) (hT : Tab w) (hin : ∀ k ∈ els xs, k < n.S.toNat) :
    Calls Tryd.prog 65 #[.slice (some ⟨mb, 0, none⟩) (2 ^ n.V.toNat) (2 ^ n.V.toNat), .slice P xs.length c] w (SucPost w (2 ^ n.V.toNat) (rowS (stepW n.es) (2 ^ n.V.toNat) xs)) := by
  have hK64 : 2 ^ n.V.toNat ≤ 64 := Dg.pow7 (by have := hO.v6; omega)
  have hs64 : n.S.toNat ≤ 64 := by have := hO.s64; omega
  have hes := hO.es
  have hst := Lib.hid fun x => flat_step hO ux x
  have hl64 : (els xs).length ≤ 64 := by
    have hnd : (els xs).Nodup := List.Pairwise.filter _ List.nodup_range
    have := List.Nodup.length_le_of_subset (l₂ := List.range n.S.toNat) hnd fun k hk => List.mem_range.2 (hin k hk)
    rw [List.length_range] at this
    omega
  have HLs := Lib.hid fun X (hX : Below w.heap.size w X) => List_any P xs c X (hx.below hX) ux hc (hT.below hX)
  have hin' := Lib.hid fun j (hj : j < (els xs).length) => show wd (els xs) j < n.S.toNat by
    refine hin _ ?_
    unfold wd
    rw [List.getD_eq_getElem?_getD, List.getElem?_eq_getElem hj]
    exact List.getElem_mem hj
  generalize hKK : 2 ^ n.V.toNat = K at *
  clear hKK hin hx hT ux hc hO
  generalize hSS : n.S.toNat = s at *
  clear hSS
  have hMS := Lib.hid (rfl : SucPost = SucPost)
  clear hMS
  generalize hes' : n.es = es at *
  generalize hF : rowS (stepW es) K xs = RES at *
  have HF := Lib.hid hF
  clear hF hes'
  generalize xs.length = nx at *
  obtain ⟨l, hl⟩ : ∃ l, l = els xs := ⟨_, rfl⟩
  rw [← hl] at HLs hin' hst hl64
  clear hl
  have hm1 := made_sets K (by omega)
  go_enter Tryd.func65, Tryd.ntmps65
  go_upto_region 1 with fail
  go_cut [5, 6] from 12 to 16 (fun t5 t6 wx => ∃ PA cA gl, t5 = .slice PA l.length cA ∧ t6 = .slice (some ⟨gl, 0, none⟩) K K ∧ Hid (SucO w wx gl K 0 (fun _ => .slice none 0 0) (stepW es xs) PA cA l))
  case first =>
    refine wp_region_any (by kernel_rfl) ?_
    change wpAny _ _ _ _ _ _ _ (World.drew _)
    have hD : Below w.heap.size w w.drew := drew_below w
    generalize w.drew = X0 at *
    refine wpAny_head 6 6 (fun X : World => True) rfl rfl (by kernel_rfl) (by kernel_rfl) (by kernel_rfl) (fun hA => ?_)
    refine wpHead_take (i := 0) (v := ?_) (by kernel_rfl) hA (at_drop rfl) (by decide) (by kernel_rfl) (by kernel_rfl) (by kernel_rfl) (fun _ _ _ h => h) (Or.inl ⟨by rfl, ?_⟩) trivial (fun hA => ?_)
    rotate_left
    · (intro w hSw; go_simp <;> with_reducible rfl)
    simp only [Act.put, List.setIfInBounds_toArray, List.set_cons_zero, List.set_cons_succ]
    refine wpHead_take (i := 2) (v := ?_) (by kernel_rfl) hA (at_drop rfl) (by decide) (by kernel_rfl) (by kernel_rfl) (by kernel_rfl) (fun _ _ _ h => h) (Or.inl ⟨by rfl, ?_⟩) trivial (fun hA => ?_)
    rotate_left
    · (intro w hSw; go_simp <;> with_reducible rfl)
    simp only [Act.put, List.setIfInBounds_toArray, List.set_cons_zero, List.set_cons_succ]
    refine wpHead_take (i := 3) (v := ?_) (by kernel_rfl) hA (at_drop rfl) (by decide) (by kernel_rfl) (by kernel_rfl) (by kernel_rfl) (fun _ _ _ h => h) (Or.inl ⟨by rfl, ?_⟩) trivial (fun hA => ?_)
    rotate_left
    · (intro w hSw; go_simp <;> with_reducible rfl)
    simp only [Act.put, List.setIfInBounds_toArray, List.set_cons_zero, List.set_cons_succ]
    have hA1 := hnext hA (rs := [1, 4]) (i := 1) (by kernel_rfl) (by decide) (by decide)
    have hA4 := hnext hA (rs := [1, 4]) (i := 4) (by kernel_rfl) (by decide) (by decide)
    refine wpHead_ready (rs := [1, 4]) (by kernel_rfl) (by decide) (AllHead.cons (at_drop rfl) (by decide) (fun KK hK => ?_) (AllHead.cons (at_drop rfl) (by decide) (fun KK hK => ?_) AllHead.nil))
    · replace hA := hA1
      go_simp
      refine (HLs.out X0 hD).mono ?_
      rintro e X1 ⟨v1, rfl, ho1, hb1⟩
      obtain ⟨PA, cA, rfl, _⟩ := Ap.own_form ho1
      refine hK _ _ trivial ?_
      clear hK KK
      try simp only [Act.put, List.setIfInBounds_toArray, List.set_cons_zero, List.set_cons_succ]
      refine wpHead_take (i := 5) (v := ?_) (by kernel_rfl) hA (at_drop rfl) (by decide) (by kernel_rfl) (by kernel_rfl) (by kernel_rfl) (fun _ _ _ h => h) (Or.inl ⟨by rfl, ?_⟩) trivial (fun hA => ?_)
      rotate_left
      · (intro w hSw; go_simp <;> with_reducible rfl)
      simp only [Act.put, List.setIfInBounds_toArray, List.set_cons_zero, List.set_cons_succ]
      have hA4' := hnext hA (rs := [4]) (i := 4) (by kernel_rfl) (by decide) (by decide)
      refine wpHead_ready (rs := [4]) (by kernel_rfl) (by decide) (AllHead.cons (at_drop rfl) (by decide) (fun KK hK => ?_) AllHead.nil)
      replace hA := hA4'
      go_simp
      have hb2 := bal (Below.refl X1.heap.size X1) (.cells (cells K fun _ => .slice none 0 0) 41)
      have hP := Lib.hid (show SucO w (X1.alloc (.cells (cells K fun _ => .slice none 0 0) 41)) X1.heap.size K 0 (fun _ => .slice none 0 0) (stepW es xs) PA cA l from
        ⟨World.alloc_heap_new X1 _, fun i hi => absurd hi (by omega), ownsRow_mono (ho1.below hb2) hD.size, stepB (stepB hD hb1) hb2, (stepB hD hb1).size⟩)
      generalize X1.alloc (.cells (cells K fun _ => .slice none 0 0) 41) = X2 at *
      generalize X1.heap.size = gl at *
      refine hK _ _ trivial ?_
      clear hK KK ho1 hb1 hb2 hA hA1 hA4 hA4'
      try simp only [Act.put, List.setIfInBounds_toArray, List.set_cons_zero, List.set_cons_succ]
      refine wpHead_end (by kernel_rfl) ?_
      simp only [List.drop_succ_cons, List.drop_zero]
      go_wp2_with fail
      go_meet
      exact ⟨PA, cA, gl, rfl, rfl, hP⟩
    · replace hA := hA4
      go_simp
      have hb1 := bal (Below.refl X0.heap.size X0) (.cells (cells K fun _ => .slice none 0 0) 41)
      have hn1 := World.alloc_heap_new X0 (.cells (cells K fun _ => .slice none 0 0) 41)
      have hgs := hD.size
      have hgl : X0.heap.size < (X0.alloc (.cells (cells K fun _ => .slice none 0 0) 41)).heap.size := by simp
      generalize X0.alloc (.cells (cells K fun _ => .slice none 0 0) 41) = X1 at *
      have hD1 := stepB hD hb1
      generalize X0.heap.size = gl at *
      refine hK _ _ trivial ?_
      clear hK KK
      try simp only [Act.put, List.setIfInBounds_toArray, List.set_cons_zero, List.set_cons_succ]
      have hA1' := hnext hA (rs := [1]) (i := 1) (by kernel_rfl) (by decide) (by decide)
      refine wpHead_ready (rs := [1]) (by kernel_rfl) (by decide) (AllHead.cons (at_drop rfl) (by decide) (fun KK hK => ?_) AllHead.nil)
      replace hA := hA1'
      go_simp
      refine (HLs.out X1 hD1).mono ?_
      rintro e X2 ⟨v1, rfl, ho1, hb2⟩
      obtain ⟨PA, cA, rfl, _⟩ := Ap.own_form ho1
      have hP := Lib.hid (show SucO w X2 gl K 0 (fun _ => .slice none 0 0) (stepW es xs) PA cA l from
        ⟨(hb2.block _ hgl).trans hn1, fun i hi => absurd hi (by omega), ownsRow_mono ho1 hD1.size, stepB hD1 hb2, hgs⟩)
      refine hK _ _ trivial ?_
      clear hK KK ho1 hb1 hb2
      try simp only [Act.put, List.setIfInBounds_toArray, List.set_cons_zero, List.set_cons_succ]
      refine wpHead_take (i := 5) (v := ?_) (by kernel_rfl) hA (at_drop rfl) (by decide) (by kernel_rfl) (by kernel_rfl) (by kernel_rfl) (fun _ _ _ h => h) (Or.inl ⟨by rfl, ?_⟩) trivial (fun hA => ?_)
      rotate_left
      · (intro w hSw; go_simp <;> with_reducible rfl)
      simp only [Act.put, List.setIfInBounds_toArray, List.set_cons_zero, List.set_cons_succ]
      refine wpHead_end (by kernel_rfl) ?_
      simp only [List.drop_succ_cons, List.drop_zero]
      go_wp2_with fail
      go_meet
      exact ⟨PA, cA, gl, rfl, rfl, hP⟩
  case rest =>
    obtain ⟨PA, cA, gl, rfl, rfl, HP⟩ := hcut
    clear HLs hm1
    have HP0 := Lib.hid HP.out
    clear HP
    obtain ⟨i0, hi0, hz0, hz1, hz2⟩ := info_parts info_int6
    go_wp2
    go_loopw [19] (fun i wr => ∃ (k : Nat) (v : Nat → Value), k ≤ K ∧ i = .int .i64 k ∧ SucO w wr gl K k v (stepW es xs) PA cA l) (fun i _ => K - (intOf i).toNat)
    case atStart => exact ⟨0, _, Nat.zero_le _, rfl, HP0.out⟩
    case round =>
      clear HP0
      obtain ⟨k, v, hk, rfl, hU⟩ := hrel
      by_cases hlt : k < K
      · have s0 := cell_of (hM.below hU.b).o (i := k) hlt
        unfold rowM at s0
        have hlt2 : (k : Int) < (K : Int) := by omega
        have HU := Lib.hid hU
        have hbw := hU.b
        clear hU
        go_wp2
        clear s0
        obtain ⟨wo, hwo⟩ : ∃ wo : World, wo = wr := ⟨_, rfl⟩
        have HWO : Hid (wr = wo) := hwo.symm
        rw [← hwo] at HU hbw ⊢
        clear hwo HWO
        go_loopw [9, 26] (fun u jv wj => ∃ (j : Nat) (v9 : Value), v9 = u ∧ j ≤ l.length ∧ jv = .int .i64 j ∧ Hid (wj.ownsRow wo.heap.size 3 1 v9 (flatM es k (l.take j)).length (zvs (flatM es k (l.take j)))) ∧ Hid (Below wo.heap.size wo wj)) (fun _ jv _ => l.length - (intOf jv).toNat)
        case atStart => exact ⟨0, _, rfl, Nat.zero_le _, rfl, ⟨rfl, .inl ⟨rfl, rfl⟩⟩, Below.refl _ _⟩
        case round =>
          obtain ⟨j, v9, rfl, hj, rfl, HO9, HB9⟩ := hrel
          by_cases hjl : j < l.length
          · have hfr := own_ints (HU.out.fr.below HB9.out) rfl
            obtain ⟨ad, hPA, hc1⟩ := hfr.at_ (show j < (l.map fun x : Nat => (x : Int)).length by rw [List.length_map]; exact hjl)
            subst hPA
            have e1 : nd (l.map fun x : Nat => (x : Int)) j = ((wd l j : Nat) : Int) := by
              unfold nd wd
              rw [List.getD_eq_getElem?_getD, List.getD_eq_getElem?_getD, List.getElem?_map, List.getElem?_eq_getElem hjl]
              rfl
            rw [e1] at hc1
            have hkf := hin'.out j hjl
            have hkf2 : ((wd l j : Nat) : Int) < (s : Int) := by omega
            have hjl2 : (j : Int) < (l.length : Int) := by omega
            obtain ⟨vr, hrow, hrk⟩ := ((hM.below hbw).below HB9.out).r k hlt
            obtain ⟨p, cc, hvp, hip⟩ := hrk (wd l j) hkf
            have s1 := cell_of hrow (i := wd l j) hkf
            rw [hvp] at s1
            have hsr := ints_from hip
            have hflen : (flatM es k (l.take j)).length ≤ 40000 := by
              have h1 := flat_len es k (l.take j)
              have h2 : (l.take j).length ≤ 64 := by rw [List.length_take]; omega
              have h3 : (l.take j).length * es.length ≤ 64 * 512 := Nat.mul_le_mul h2 hes
              omega
            have hmlen : (mvF es k (wd l j)).length ≤ 40000 := by
              unfold mvF
              rw [List.length_map]
              have := List.length_filter_le (fun e => cHas e.p e.q k && decide (e.fr = ((wd l j : Nat) : Int))) es
              omega
            have hsnoc := flat_snoc es k hjl
            have HN : Hid (flatM es k (l.take (j + 1)) = flatM es k (l.take j) ++ mvF es k (wd l j)) := hsnoc
            have HZL : Hid ((zvs (mvF es k (wd l j))).length = (mvF es k (wd l j)).length) := List.length_map _
            have HZ1 := Lib.hid (zvs_one (l := mvF es k (wd l j)))
            have HZA : Hid (zvs (flatM es k (l.take j) ++ mvF es k (wd l j)) = zvs (flatM es k (l.take j)) ++ zvs (mvF es k (wd l j))) := by show _ = _; simp [zvs]
            clear hsnoc hvp hip hrow hrk e1 hfr
            generalize hF2 : flatM es k (l.take (j + 1)) = F2 at *
            have HF2 := Lib.hid hF2
            clear hF2
            generalize flatM es k (l.take j) = F1 at *
            generalize mvF es k (wd l j) = M1 at *
            generalize wd l j = kf at *
            have ho9 := HO9.out
            have hb9 := HB9.out
            go_wp2_with (at_builtin; refine wpList_append_any rfl _ _ 23 rfl wo.heap.size 3 i0 (.int .i64 0) 1 8 Tryd.underlying23 hi0 hz0 hz1 hz2 rfl (by decide) _ F1.length (zvs F1) rfl ho9 p M1.length cc (zvs M1) rfl (by have := HZL.out; omega) hsr.1 hsr.2 HZ1.out (by unfold maxLen; omega) (by omega) hb9.size ?_; intro v' w6 ho6 hb6; rw [← HZA.out, ← HN.out] at ho6; have HO6 := Lib.hid ho6; have HB6 := Lib.hid (hb9.trans hb6); clear ho6 hb6)
            go_roundw
            case rel =>
              have h := HO6.out
              have hl2 : F2.length = F1.length + M1.length := by rw [HN.out, List.length_append]
              rw [← hl2, ← HF2.out] at h
              exact ⟨j + 1, _, rfl, by omega, by go_num, h, HB6⟩
            case measure => simp [intOf]; omega
          · obtain rfl : j = l.length := by omega
            have ho9 := HO9.out
            rw [List.take_length] at ho9
            obtain ⟨A9, c9, rfl, _⟩ := Ap.own_form ho9
            have hi9 := Dg.ints_row ho9 rfl
            have hfl : (flatM es k l).length ≤ maxLen := by
              have h1 := flat_len es k l
              have h3 : l.length * es.length ≤ 64 * 512 := Nat.mul_le_mul hl64 hes
              unfold maxLen
              omega
            have HOf := Of_own A9 (flatM es k l) c9 _ hi9 hfl
            rw [hst.out k] at HOf
            have HOf := Lib.hid HOf
            have HL9 : Hid ((flatM es k (l.take l.length)).length = (flatM es k l).length) := by show _ = _; rw [List.take_length]
            have hUb := Lib.hid fun X (hX : Below wr.heap.size wr X) p c (ho : OwnW wr.heap.size X p c (stepW es xs k)) => (HU.out.below (stepB HB9.out hX)).next hlt (OwnW.low ho (stepB HU.out.b HB9.out).size)
            have hUo := Lib.hid fun X (hX : Below wr.heap.size wr X) => (HU.out.below (stepB HB9.out hX)).o
            clear ho9 HO9 hi9 hfl
            generalize hFl : (flatM es k l).length = fl at *
            clear hFl
            go_wp2_with (go_at_call 34; ((with_reducible refine HOf.out.mono ?_); rintro e w4 ⟨A4, c4, rfl, ho4, hb4⟩); have hn := Lib.hid (hUb.out w4 hb4 A4 c4 ho4); have f1 := free_of (hUo.out w4 hb4) k; have c1 := cell_of (hUo.out w4 hb4) (i := k) hlt; have hgl := blk_lt (hUo.out w4 hb4); clear ho4 hb4)
            go_roundw
            case rel => exact ⟨k + 1, _, by omega, by go_num, hn.out⟩
            case measure => simp [intOf]; omega
      · obtain rfl : k = K := by omega
        have hR := Lib.hid hU.rows
        have hB := Lib.hid hU.b
        have hG := Lib.hid hU.g
        clear hU
        go_wp2
        go_ret
        refine ⟨_, _, rfl, hG.out, ?_, hB.out⟩
        rw [← HF.out]
        exact hR.out
end Go.Proofs.YteckkbjpeckjmaaDoor.Sb
