/- A step. -/
import Derived.Test.YtbhfmeohaoojfaaVI
import Derived.Test.YtbhfmeohaoojfaaQH
namespace Go.Proofs.Ytbhfmeohaoojfaa.Dn
open Go Go.RowKit Go.Proofs.Ytbhfmeohaoojfaa.Ap
open Go.Proofs.Ytbhfmeohaoojfaa.Dg
set_option linter.unusedVariables false
set_option maxRecDepth 100000
section
variable {X Y w0 : World} {lo qb sb cb rb tb mb v cap c : Nat} {nv : Value} {N : List Nd} {R : List Nat} {A : Option Addr} {Q : List (Option Addr × Nat × List Int)} {rv : Value} {rs : List Nat} {tv : Value} {T : List (Option Addr × Nat × List Int)} {B : Option Addr} {d : Nat} {t : List Int}
theorem op_yes {val : Nat → Int} {e : Ending} (hO : Own w0 X sb cb rb tb v cap nv N R) (hp : AddPost sb cb rb tb v cap nv N R val X e Y) :
    e = .returned (.tuple #[.int .i64 ((addM v cap val N R).ref : Nat), .int .i64 ((addM v cap val N R).err : Nat)]) ∧ ∃ nv', Own w0 Y sb cb rb tb v cap nv' (addM v cap val N R).N (addM v cap val N R).R ∧ Keeps X Y := by
  obtain ⟨he, nv', ho, hs⟩ := hO.add hp
  exact ⟨he, nv', ho, hO.inv.mem.keeps hs⟩
theorem keeps_cells {g : Nat} {cs : Array Value} (h : X.heap[g]? = some (.cells cs 33 (0, 0))) (hk : Keeps X Y) : Y.heap[g]? = some (.cells cs 33 (0, 0)) := hk.cells _ _ _ _ h (by decide) (by decide)
theorem keeps_law (h : LawM X lo qb sb mb v cap A c Q rv rs tv T) (hk : Keeps X Y) : LawM Y lo qb sb mb v cap A c Q rv rs tv T := h.keep (.of_keeps hk LawP.p)
theorem tabV_const (v : Nat) (z : Int) : tabV v (fun _ => z) = List.replicate (2 ^ v) z := by
  unfold tabV
  apply List.ext_getElem <;> simp
theorem setV_stV (x k : Nat) (b : Bool) : Dg.setV x k b = stV x k b := rfl
theorem tabV_res {v k r : Nat} {N : List Nd} {b : Bool} (hv : v ≤ 6) (hk : k < v) : tabV v (fun y => den v N r (stV y k b)) = resL (tabD v N r) k b (2 ^ v) := by
  unfold tabV resL
  refine List.map_congr_left fun x hx => ?_
  have hx := List.mem_range.1 hx
  rw [setV_stV, tabD_nd (stV_lt b hv hk hx)]
theorem tabV_ex {v k r : Nat} {N : List Nd} (hv : v ≤ 6) (hk : k < v) : tabV v (fun y => max (den v N r (stV y k false)) (den v N r (stV y k true))) = exL (tabD v N r) k := by
  unfold exL
  rw [tabD_len, ← tabV_res hv hk, ← tabV_res hv hk]
  unfold tabV appL
  refine List.map_congr_left fun x hx => ?_
  have hx := List.mem_range.1 hx
  show _ = valI 1 (nd (tabV v _) x) (nd (tabV v _) x)
  rw [tabV_nd hx, tabV_nd hx]
  rfl
theorem cells23 {W : World} {g : Nat} {c0 c1 c2 c3 : Value} {ty : TypeId} (h : W.heap[g]? = some (.cells #[c0, c1, c2, c3] ty (0, 0))) : W.cell? ⟨g, 2, none⟩ = some c2 ∧ W.cell? ⟨g, 3, none⟩ = some c3 := by
  refine ⟨?_, ?_⟩ <;> simp [World.cell?, h]
theorem free23 {W : World} {g : Nat} {c0 c1 c2 c3 : Value} {ty : TypeId} (h : W.heap[g]? = some (.cells #[c0, c1, c2, c3] ty (0, 0))) : W.frozen? ⟨g, 2, none⟩ = false ∧ W.frozen? ⟨g, 3, none⟩ = false := by
  refine ⟨?_, ?_⟩ <;> simp [World.frozen?, h]
theorem cells_at {W : World} {g : Nat} {ty : TypeId} (l : List Value) (h : W.heap[g]? = some (.cells l.toArray ty (0, 0))) : ∀ j u, l[j]? = some u → W.cell? ((⟨g, 0, none⟩ : Addr).add j) = some u := fun j u hu => by
  rw [addr_add]
  simpa [World.cell?, h] using hu
theorem heap2_new (W : World) (a b : Obj) : ((W.alloc a).alloc b).heap[W.heap.size]? = some a ∧ ((W.alloc a).alloc b).heap[W.heap.size + 1]? = some b := by
  refine ⟨(Below.heap_alloc _ _ _ (by simp)).trans (MapKept.heap_alloc W a).1, ?_⟩
  have := (MapKept.heap_alloc (W.alloc a) b).1
  rwa [World.size_alloc] at this
theorem news_new (W : World) (o : Obj) (l : List Value) (ty : TypeId) : ∀ j u, l[j]? = some u → ((W.alloc o).alloc (.cells l.toArray ty)).cell? ((⟨W.heap.size + 1, 0, none⟩ : Addr).add j) = some u := cells_at l (heap2_new W o _).2
theorem law_own {k : Nat} (h : LawM X lo qb sb mb v cap A c Q rv rs tv T) (hk : k = qb ∨ rv.ownBlock = some k ∨ tv.ownBlock = some k) : lo ≤ k ∧ ∃ c t f, X.heap[k]? = some (.cells c t f) ∧ LawT t := by
  rcases hk with e | e | e
  · subst e; exact ⟨h.ql, _, _, _, h.q, .inl rfl⟩
  · obtain ⟨cur, hc⟩ := own_typ h.rr e; exact ⟨(h.rr.lt _ e).1, _, _, _, hc, .inr (.inl rfl)⟩
  · obtain ⟨cur, hc⟩ := own_typ h.tr e; exact ⟨(h.tr.lt _ e).1, _, _, _, hc, .inr (.inr (.inl rfl))⟩
theorem grow_each {M : Added} {L' : List (List Int)} (hlen : rs.length = T.length) (he : ∀ i, i < rs.length → rs.getD i 0 ∈ R ∧ tabD v N (rs.getD i 0) = Dg.tb (tq T) i) (hS : TieStep v N R t M L') (hM : M.err = 0) :
    ∀ i, i < (rs ++ [M.ref]).length → (rs ++ [M.ref]).getD i 0 ∈ M.R ∧ tabD v M.N ((rs ++ [M.ref]).getD i 0) = Dg.tb (tq (T ++ [(B, d, t)])) i := fun i hi => by
  rw [List.length_append, List.length_singleton] at hi
  rw [tq_snoc]
  have hl := tq_len T
  unfold Dg.tb
  simp only [List.getD_eq_getElem?_getD]
  by_cases h : i < rs.length
  · obtain ⟨h1, h2⟩ := he i h
    unfold Dg.tb at h2
    simp only [List.getD_eq_getElem?_getD] at h1 h2
    rw [List.getElem?_append_left h, List.getElem?_append_left (by omega)]
    exact ⟨(hS.sub _ h1).1, (hS.sub _ h1).2.trans h2⟩
  · have e : i = rs.length := by omega
    subst e
    rw [List.getElem?_append_right (Nat.le_refl _), List.getElem?_append_right (by omega)]
    obtain ⟨h1, h2⟩ := hS.ok hM
    rw [Nat.sub_self, show rs.length - (tq T).length = 0 by omega]
    exact ⟨h1, h2⟩
theorem grow_all {M : Added} {L' : List (List Int)} (ha : ∀ r ∈ R, r ∈ rs) (hS : TieStep v N R t M L') : ∀ r ∈ M.R, r ∈ rs ++ [M.ref] := fun r hr => by
  rcases hS.all r hr with h | ⟨_, h⟩
  · exact List.mem_append_left _ (ha r h)
  · rw [h]; exact List.mem_append_right _ (List.mem_singleton.2 rfl)
set_option maxHeartbeats 8000000 in
theorem step_any (o op x p q : Nat) (a b z : Int) (D : Option Addr) (u : List Int) (un k : Nat) (h : Run w0 X qb sb cb rb tb mb v cap nv N R A c Q rv rs tv T) (hs : T.length ≤ 1000)
    (ho : o < 256) (hop : op < 256) (hx : x < 256) (hp : p < 256) (hq : q < 256) (ha : InI a) (hb : InI b) (hz : InI z) (hD : Ints w0 D u) (hun : un = u.length) (hu : un ≤ 1000) (hui : ∀ y ∈ u, InI y) :
    Calls Try.prog 12 #[.pointer (some ⟨qb, 0, none⟩), .agg #[.int .u8 o, .int .u8 op, .int .u8 x, .int .i64 a, .int .i64 b, .int .i64 z, .slice D un k, .int .u8 p, .int .u8 q]] X fun e w' => e = .returned (.bool true) ∧ RunE w0 w' qb sb cb rb tb mb v cap (T.length + 1) := by
  have HPk := Lib.hid fun k (hk : IntOk k) Y (hY : Below X.heap.size X Y) => pick_any k (h.below hY) hk hs
  have HRun := Lib.hid h
  have ha2 : IntOk a := ha
  have hb2 : IntOk b := hb
  have HNN := Lib.hid hun
  clear h hun
  go_enter Try.func12, Try.ntmps12
  go_upto_region 6 with (first
    | (go_at_call 28; ((with_reducible refine (HPk.out a ha2 _ (bal (Below.refl _ _) _)).mono ?_); rintro e w1 ⟨r1, B1, n1, d1, rfl, hp1, hb1⟩); have hb1' := stepB (bal (Below.refl _ _) _) hb1; have hbk := (hb1.block X.heap.size (by simp)).trans (MapKept.heap_alloc X _).1; obtain ⟨_, _, _, _, q4, _⟩ := step_cells hbk)
    | (go_at_call 28; ((with_reducible refine (HPk.out b hb2 _ hb1').mono ?_); rintro e w2 ⟨r2, B2, n2, d2, rfl, hp2, hb2'⟩)))
  have hbk2 := (hb2'.block _ (lt_of_block hbk)).trans hbk
  have hp1' : 0 < rs.length → Pk w2 v N R r1 B1 n1 := fun h0 => ⟨(hp1 h0).1, (hp1 h0).2.1, (hp1 h0).2.2.keep (KeepT.of_below (P := fun _ => True) hb2') trivial⟩
  have HR2 := Lib.hid (HRun.out.below (stepB hb1' hb2'))
  have HD2 := Lib.hid hD
  clear hp1 hb1 hb1' hb2' hbk q4 hD HRun HPk
  generalize X.heap.size = g at *
  obtain ⟨q0, _⟩ := step_cells hbk2
  go_upto_block 0 with fail
  go_cut [5, 6, 7, 8, 11, 14] (fun ref want e f _ _ wx => Ready w0 wx qb sb cb rb tb mb v cap N R A c Q rv rs tv T ref want e f)
  case first =>
    have hR := HR2.out
    have hlw := hR.law.cells
    obtain ⟨hqb, hmb⟩ := hR.law.lt
    have hgl := lt_of_block hbk2
    obtain ⟨s0, s1, s2, s3, s4, s5, s6, s7, s8⟩ := step_cells hbk2
    by_cases o1 : o = 1
    · as_aux_lemma =>
      have e1 : ((o : Int) == 1) = true := by rw [o1]; rfl
      have HC := Lib.hid fun X3 (hX : Below w2.heap.size w2 X3) => (Constant_yes X3 (hR.own.below hX).inv z hz).mono fun e Y hp => op_yes (hR.own.below hX) hp
      clear o1 hR q0
      go_wp2
      have hdr := (Below.refl w2.heap.size w2).drew
      go_region_held3 (fun w' => w'.cell? ⟨qb, 0, none⟩ = some (.pointer (some ⟨sb, 0, none⟩)) ∧ w'.cell? ⟨g, 5, none⟩ = some (.int .i64 z))
        (first | exact ⟨hlw.1, s5⟩ | assumption)
        (first | (go_at_call 33; ((with_reducible refine (HC.out w2.drew hdr).mono ?_); rintro e w3 ⟨rfl, nv3, hO3, hK3⟩); have hL3 := keeps_law (HR2.out.law.below hdr) hK3; have hg3 := keeps_cells ((hdr.block _ hgl).trans hbk2) hK3; have hS3 : w3.cell? ⟨qb, 0, none⟩ = some (.pointer (some ⟨sb, 0, none⟩)) ∧ w3.cell? ⟨g, 5, none⟩ = some (.int .i64 z) := ⟨hL3.cells.1, (step_cells hg3).2.2.2.2.2.1⟩))
      have hl3 := hL3.cells
      have t5 := (step_cells hg3).2.2.2.2.2.1
      have hvv := HR2.out.own.inv.v6
      have HD := Lib.hid (Constant_any mb v z w3.drew hL3.m.c0 hvv)
      clear hS3
      obtain ⟨M, hM⟩ : ∃ M, M = addM v cap (fun _ => z) N R := ⟨_, rfl⟩
      rw [← hM] at hO3
      have HM := Lib.hid hM
      rw [← hM]
      clear hM
      go_wp2
      go_region_held3 (fun w' => w'.cell? ⟨qb, 1, none⟩ = some (.pointer (some ⟨mb, 0, none⟩)) ∧ w'.cell? ⟨g, 5, none⟩ = some (.int .i64 z))
        (first | exact ⟨hl3.2.1, t5⟩ | assumption)
        (first | (go_at_call 36; ((with_reducible refine HD.out.mono ?_); rintro e w4 ⟨A4, c4, rfl, ho4, hb4⟩); have hS4 : w4.cell? ⟨qb, 1, none⟩ = some (.pointer (some ⟨mb, 0, none⟩)) ∧ w4.cell? ⟨g, 5, none⟩ = some (.int .i64 z) := ⟨(Below.cell hb4 hL3.lt.1).trans hl3.2.1, (Below.cell hb4 (lt_of_block hg3)).trans t5⟩))
      go_wp2
      go_meet
      have hM := HM.out
      subst hM
      exact ⟨hL3.below ((Below.refl _ _).drew.trans hb4), .inr ⟨fun _ => z, A4, c4, nv3, rfl, rfl, rfl, rfl, by rw [tabV_const]; exact tabI_own ho4 (by simp), hO3.below ((Below.refl _ _).drew.trans hb4)⟩⟩
    by_cases o2 : o = 2
    · as_aux_lemma =>
      have e1 : ((o : Int) == 1) = false := by rw [o2]; rfl
      have e2 : ((o : Int) == 2) = true := by rw [o2]; rfl
      have hvv := hR.own.inv.v6
      have HCp : Hid (∀ Y, Below w0.heap.size w0 Y → Calls Try.prog 34 #[.slice D un k] Y fun e w' => ∃ A' c', e = .returned (.slice A' un c') ∧ TabI w' A' u ∧ Below Y.heap.size Y w') := fun Y hY => by
        rw [HNN.out]
        refine (CopyInts_any D u k Y (Ints.below HD2.out hY) (by rw [← HNN.out]; omega)).mono ?_
        rintro e w' ⟨A', c', he, ho, _, hb⟩
        exact ⟨A', c', he, tabI_own ho rfl, hb⟩
      have HLt := Lib.hid fun Y => kitLetters_any v Y hvv
      have hdr := (Below.refl w2.heap.size w2).drew
      by_cases hul : un = 2 ^ v
      · have hl2 : u.length = 2 ^ v := by rw [← HNN.out]; exact hul
        have HC : Hid (∀ X3, Below w2.heap.size w2 X3 → ∀ A' c', TabI X3 A' u → Calls Try.prog 31 #[.pointer (some ⟨sb, 0, none⟩), .slice A' un c'] X3 fun e Y => e = .returned (.tuple #[.int .i64 ((addM v cap (fun x => nd u x) N R).ref : Nat), .int .i64 ((addM v cap (fun x => nd u x) N R).err : Nat)]) ∧ ∃ nv', Own w0 Y sb cb rb tb v cap nv' (addM v cap (fun x => nd u x) N R).N (addM v cap (fun x => nd u x) N R).R ∧ Keeps X3 Y) := fun X3 hX A' c' ht => by
          rw [HNN.out]
          refine (FromTable_yes X3 (hR.own.below hX).inv A' u c' ht.k hl2 (fun x hx => ?_)).mono fun e Y hp => op_yes (hR.own.below hX) hp
          rw [nd, List.getD_eq_getElem?_getD, List.getElem?_eq_getElem (by omega)]
          exact hui _ (List.getElem_mem _)
        have hul2 : ((un : Int) != ((2 ^ v : Nat) : Int)) = false := by rw [hul]; simp
        have htv : tabV v (fun x => nd u x) = u := nd_ext (by rw [tabV_len, hl2]) fun i hi => by
          rw [tabV_len] at hi; exact tabV_nd hi
        have HTV := Lib.hid htv
        have HUL := Lib.hid hul
        obtain ⟨K, hKK⟩ : ∃ K, K = 2 ^ v := ⟨_, rfl⟩
        rw [← hKK] at HLt hul2
        clear o2 hR q0 hul htv hu hui hl2 hKK
        go_wp2
        go_region_held3 (fun w' => w'.cell? ⟨qb, 0, none⟩ = some (.pointer (some ⟨sb, 0, none⟩)) ∧ w'.cell? ⟨g, 6, none⟩ = some (.slice D un k))
          (first | exact ⟨hlw.1, s6⟩ | assumption)
          (first
            | (go_at_call 34; ((with_reducible refine (HCp.out w2.drew (stepB HR2.out.own.bel hdr)).mono ?_); rintro e w3 ⟨A3, c3, rfl, ht3, hb3⟩); have hb23 := hdr.trans hb3; have hS3 : w3.cell? ⟨qb, 0, none⟩ = some (.pointer (some ⟨sb, 0, none⟩)) ∧ w3.cell? ⟨g, 6, none⟩ = some (.slice D un k) := ⟨(Below.cell hb23 hqb).trans hlw.1, (Below.cell hb23 hgl).trans s6⟩)
            | (go_at_call 31; ((with_reducible refine (HC.out w3 hb23 A3 c3 ht3).mono ?_); rintro e w4 ⟨rfl, nv4, hO4, hK4⟩); have hL4 := keeps_law (HR2.out.law.below hb23) hK4; have hg4 := keeps_cells ((hb23.block _ hgl).trans hbk2) hK4; have hS4 : w4.cell? ⟨qb, 0, none⟩ = some (.pointer (some ⟨sb, 0, none⟩)) ∧ w4.cell? ⟨g, 6, none⟩ = some (.slice D un k) := ⟨hL4.cells.1, (step_cells hg4).2.2.2.2.2.2.1⟩))
        have t6 := (step_cells hg4).2.2.2.2.2.2.1
        have hl4 := hL4.cells
        have hm4 := hL4.m.c0
        have hmb4 := hL4.lt.2
        have hqb4 := hL4.lt.1
        have hgl4 := lt_of_block hg4
        obtain ⟨M, hM⟩ : ∃ M, M = addM v cap (fun x => nd u x) N R := ⟨_, rfl⟩
        rw [← hM] at hO4 ⊢
        have HM := Lib.hid hM
        clear hM hS3 hS4
        have hK24 := (Keeps.of_below hb23).trans hK4
        go_wp2_with (go_at_call 34; ((with_reducible refine (HCp.out w4 hO4.bel).mono ?_); rintro e w5 ⟨A5, c5, rfl, ht5, hb5⟩))
        have hL5 := hL4.below hb5
        have hO5 := hO4.below hb5
        have hg5 := (hb5.block _ hgl4).trans hg4
        have u6 := (step_cells hg5).2.2.2.2.2.2.1
        have hl5 := hL5.cells
        have hm5 := hL5.m.c0
        have hdr5 := (Below.refl w5.heap.size w5).drew
        go_quiet (first | (go_at_call 37; exact ((HLt.out _).mono (by rintro e w' ⟨rfl, rfl⟩; exact ⟨rfl, _, rfl⟩))))
        go_wp2
        go_meet
        have hM := HM.out
        subst hM
        have hX := fun n => bdN (Below.refl w5.heap.size w5) n
        exact ⟨hL5.below (hX _), .inr ⟨fun x => nd u x, A5, c5, nv4, rfl, by rw [HUL.out], rfl, rfl, by rw [HTV.out]; exact ht5, hO5.below (hX _)⟩⟩
      · have HC : Hid (∀ X3, Below w2.heap.size w2 X3 → ∀ A' c', Calls Try.prog 31 #[.pointer (some ⟨sb, 0, none⟩), .slice A' un c'] X3 fun e Y => e = .returned (.tuple #[.int .i64 0, .int .i64 1]) ∧ Below X3.heap.size X3 Y) := fun X3 hX A' c' => FromTable_no X3 (hR.own.below hX).inv A' un c' hul (by omega)
        have hul2 : ((un : Int) != ((2 ^ v : Nat) : Int)) = true := by rw [bne_iff_ne]; omega
        obtain ⟨K, hKK⟩ : ∃ K, K = 2 ^ v := ⟨_, rfl⟩
        rw [← hKK] at HLt hul2
        clear o2 hR q0 hul hui hKK
        go_wp2
        go_region_held3 (fun w' => w'.cell? ⟨qb, 0, none⟩ = some (.pointer (some ⟨sb, 0, none⟩)) ∧ w'.cell? ⟨g, 6, none⟩ = some (.slice D un k))
          (first | exact ⟨hlw.1, s6⟩ | assumption)
          (first
            | (go_at_call 34; ((with_reducible refine (HCp.out w2.drew (stepB HR2.out.own.bel hdr)).mono ?_); rintro e w3 ⟨A3, c3, rfl, ht3, hb3⟩); have hb23 := hdr.trans hb3; have hS3 : w3.cell? ⟨qb, 0, none⟩ = some (.pointer (some ⟨sb, 0, none⟩)) ∧ w3.cell? ⟨g, 6, none⟩ = some (.slice D un k) := ⟨(Below.cell hb23 hqb).trans hlw.1, (Below.cell hb23 hgl).trans s6⟩)
            | (go_at_call 31; ((with_reducible refine (HC.out w3 hb23 A3 c3).mono ?_); rintro e w4 ⟨rfl, hb34⟩); have hb24 := stepB hb23 hb34; have hS4 : w4.cell? ⟨qb, 0, none⟩ = some (.pointer (some ⟨sb, 0, none⟩)) ∧ w4.cell? ⟨g, 6, none⟩ = some (.slice D un k) := ⟨(Below.cell hb24 hqb).trans hlw.1, (Below.cell hb24 hgl).trans s6⟩))
        have t6 := hS4.2
        clear hS3 hS4
        go_wp2_with (go_at_call 34; ((with_reducible refine (HCp.out w4 (stepB HR2.out.own.bel hb24)).mono ?_); rintro e w5 ⟨A5, c5, rfl, ht5, hb5⟩))
        have hb25 := stepB hb24 hb5
        have hL5 := HR2.out.law.below hb25
        have hO5 := HR2.out.own.below hb25
        have u6 : w5.cell? ⟨g, 6, none⟩ = some (.slice D un k) := (Below.cell hb25 hgl).trans s6
        have hl5 := hL5.cells
        have hm5 := hL5.m.c0
        go_quiet (first | (go_at_call 37; exact ((HLt.out _).mono (by rintro e w' ⟨rfl, rfl⟩; exact ⟨rfl, _, rfl⟩))))
        go_wp2
        go_meet
        have hX := fun n => bdN (Below.refl w5.heap.size w5) n
        exact ⟨hL5.below (hX _), .inl ⟨1, 0, A5, un, c5, nv, by omega, rfl, rfl, rfl, rfl, hO5.below (hX _)⟩⟩
    by_cases o3 : o = 3
    · as_aux_lemma =>
      have e1 : ((o : Int) == 1) = false := by rw [o3]; rfl
      have e2 : ((o : Int) == 2) = false := by rw [o3]; rfl
      have e3 : ((o : Int) == 3) = true := by rw [o3]; rfl
      have hvv := hR.own.inv.v6
      have hdr := (Below.refl w2.heap.size w2).drew
      have HCk := Lib.hid fun Y => Cb.refCheck_any p q v Y hp hq
      have HCu := Lib.hid fun Y (hm : Y.cell? ⟨mb, 0, none⟩ = some (.int .i64 v)) => refCube_any mb v p q a b Y hm hvv hp hq
      by_cases hck : cchk p q v = 0
      · have HC := Lib.hid fun X3 (hX : Below w2.heap.size w2 X3) => (FromCube_yes X3 (hR.own.below hX).inv p q a b hp hq ha hb hck).mono fun e Y hp => op_yes (hR.own.below hX) hp
        rw [show _root_.Go.Proofs.Ytbhfmeohaoojfaa.chk p q v = 0 from hck] at HCk
        clear o3 hR q0 hck
        go_wp2
        go_region_held3 (fun w' => w'.cell? ⟨qb, 0, none⟩ = some (.pointer (some ⟨sb, 0, none⟩)) ∧ w'.cell? ⟨g, 7, none⟩ = some (.int .u8 p) ∧ w'.cell? ⟨g, 8, none⟩ = some (.int .u8 q) ∧ w'.cell? ⟨g, 3, none⟩ = some (.int .i64 a) ∧ w'.cell? ⟨g, 4, none⟩ = some (.int .i64 b))
          (first | exact ⟨hlw.1, s7, s8, s3, s4⟩ | assumption)
          (first
            | (go_at_call 32; ((with_reducible refine (HC.out w2.drew hdr).mono ?_); rintro e w4 ⟨rfl, nv4, hO4, hK4⟩); have hL4 := keeps_law (HR2.out.law.below hdr) hK4; have hg4 := keeps_cells ((hdr.block _ hgl).trans hbk2) hK4; obtain ⟨_, _, _, t3, t4, _, _, t7, t8⟩ := step_cells hg4; have hS4 : w4.cell? ⟨qb, 0, none⟩ = some (.pointer (some ⟨sb, 0, none⟩)) ∧ w4.cell? ⟨g, 7, none⟩ = some (.int .u8 p) ∧ w4.cell? ⟨g, 8, none⟩ = some (.int .u8 q) ∧ w4.cell? ⟨g, 3, none⟩ = some (.int .i64 a) ∧ w4.cell? ⟨g, 4, none⟩ = some (.int .i64 b) := ⟨hL4.cells.1, t7, t8, t3, t4⟩))
        clear hS4
        obtain ⟨M, hM⟩ : ∃ M, M = addM v cap (fun x => if cHas p q x then a else b) N R := ⟨_, rfl⟩
        rw [← hM] at hO4 ⊢
        have HM := Lib.hid hM
        clear hM
        have hl4 := hL4.cells
        have hm4 := hL4.m.c0
        have hmb4 := hL4.lt.2
        have hqb4 := hL4.lt.1
        have hgl4 := lt_of_block hg4
        go_wp2
        have hdr4 := (Below.refl w4.heap.size w4).drew
        go_region_held3 (fun w' => w'.cell? ⟨qb, 1, none⟩ = some (.pointer (some ⟨mb, 0, none⟩)) ∧ w'.cell? ⟨mb, 0, none⟩ = some (.int .i64 v) ∧ w'.cell? ⟨g, 7, none⟩ = some (.int .u8 p) ∧ w'.cell? ⟨g, 8, none⟩ = some (.int .u8 q))
          (first | exact ⟨hl4.2.1, hm4, t7, t8⟩ | assumption)
          (first
            | (go_at_call 38; ((with_reducible refine (HCk.out w4.drew).mono ?_); rintro e w5 ⟨rfl, hb5⟩); have hb45 := hdr4.trans hb5; have hS5 : w5.cell? ⟨qb, 1, none⟩ = some (.pointer (some ⟨mb, 0, none⟩)) ∧ w5.cell? ⟨mb, 0, none⟩ = some (.int .i64 v) ∧ w5.cell? ⟨g, 7, none⟩ = some (.int .u8 p) ∧ w5.cell? ⟨g, 8, none⟩ = some (.int .u8 q) := ⟨(Below.cell hb45 hqb4).trans hl4.2.1, (Below.cell hb45 hmb4).trans hm4, (Below.cell hb45 hgl4).trans t7, (Below.cell hb45 hgl4).trans t8⟩))
        clear hS5
        have hL5 := hL4.below hb45
        have hO5 := hO4.below hb45
        have hg5 := (hb45.block _ hgl4).trans hg4
        obtain ⟨_, _, _, v3, v4, _, _, v7, v8⟩ := step_cells hg5
        have hl5 := hL5.cells
        have hm5 := hL5.m.c0
        have hqb5 := hL5.lt.1
        have hgl5 := lt_of_block hg5
        have hdr5 := (Below.refl w5.heap.size w5).drew
        have hm5d : w5.drew.cell? ⟨mb, 0, none⟩ = some (.int .i64 v) := hm5
        go_wp2
        go_region_held3 (fun w' => w'.cell? ⟨qb, 1, none⟩ = some (.pointer (some ⟨mb, 0, none⟩)) ∧ w'.cell? ⟨g, 7, none⟩ = some (.int .u8 p) ∧ w'.cell? ⟨g, 8, none⟩ = some (.int .u8 q) ∧ w'.cell? ⟨g, 3, none⟩ = some (.int .i64 a) ∧ w'.cell? ⟨g, 4, none⟩ = some (.int .i64 b))
          (first | exact ⟨hl5.2.1, v7, v8, v3, v4⟩ | assumption)
          (first
            | (go_at_call 39; ((with_reducible refine (HCu.out w5.drew hm5d).mono ?_); rintro e w6 ⟨A6, c6, rfl, ho6, hb6⟩); have hb56 := hdr5.trans hb6; have hS6 : w6.cell? ⟨qb, 1, none⟩ = some (.pointer (some ⟨mb, 0, none⟩)) ∧ w6.cell? ⟨g, 7, none⟩ = some (.int .u8 p) ∧ w6.cell? ⟨g, 8, none⟩ = some (.int .u8 q) ∧ w6.cell? ⟨g, 3, none⟩ = some (.int .i64 a) ∧ w6.cell? ⟨g, 4, none⟩ = some (.int .i64 b) := ⟨(Below.cell hb56 hqb5).trans hl5.2.1, (Below.cell hb56 hgl5).trans v7, (Below.cell hb56 hgl5).trans v8, (Below.cell hb56 hgl5).trans v3, (Below.cell hb56 hgl5).trans v4⟩))
        go_wp2
        go_meet
        have hM := HM.out
        subst hM
        exact ⟨hL5.below hb56, .inr ⟨fun x => if cHas p q x then a else b, A6, c6, nv4, rfl, rfl, rfl, rfl, tabI_own (l := cuL p q v a b) ho6 (by simp [cuL]), hO5.below hb56⟩⟩
      · have HC := Lib.hid fun X3 (hX : Below w2.heap.size w2 X3) => FromCube_no X3 (hR.own.below hX).inv p q a b hp hq hck
        rw [show _root_.Go.Proofs.Ytbhfmeohaoojfaa.chk p q v = cchk p q v from rfl] at HCk
        obtain ⟨E, hEE⟩ : ∃ E, E = cchk p q v := ⟨_, rfl⟩
        rw [← hEE] at HC HCk hck
        clear o3 hR q0 hEE
        go_wp2
        go_region_held3 (fun w' => w'.cell? ⟨qb, 0, none⟩ = some (.pointer (some ⟨sb, 0, none⟩)) ∧ w'.cell? ⟨g, 7, none⟩ = some (.int .u8 p) ∧ w'.cell? ⟨g, 8, none⟩ = some (.int .u8 q) ∧ w'.cell? ⟨g, 3, none⟩ = some (.int .i64 a) ∧ w'.cell? ⟨g, 4, none⟩ = some (.int .i64 b))
          (first | exact ⟨hlw.1, s7, s8, s3, s4⟩ | assumption)
          (first
            | (go_at_call 32; ((with_reducible refine (HC.out w2.drew hdr).mono ?_); rintro e w4 ⟨rfl, hb4⟩); have hb24 := hdr.trans hb4; have hL4 := HR2.out.law.below hb24; have hO4 := HR2.out.own.below hb24; have hg4 := (hb24.block _ hgl).trans hbk2; obtain ⟨_, _, _, t3, t4, _, _, t7, t8⟩ := step_cells hg4; have hS4 : w4.cell? ⟨qb, 0, none⟩ = some (.pointer (some ⟨sb, 0, none⟩)) ∧ w4.cell? ⟨g, 7, none⟩ = some (.int .u8 p) ∧ w4.cell? ⟨g, 8, none⟩ = some (.int .u8 q) ∧ w4.cell? ⟨g, 3, none⟩ = some (.int .i64 a) ∧ w4.cell? ⟨g, 4, none⟩ = some (.int .i64 b) := ⟨hL4.cells.1, t7, t8, t3, t4⟩))
        clear hS4
        have hl4 := hL4.cells
        have hm4 := hL4.m.c0
        have hmb4 := hL4.lt.2
        have hqb4 := hL4.lt.1
        have hgl4 := lt_of_block hg4
        go_wp2
        have hdr4 := (Below.refl w4.heap.size w4).drew
        go_region_held3 (fun w' => w'.cell? ⟨qb, 1, none⟩ = some (.pointer (some ⟨mb, 0, none⟩)) ∧ w'.cell? ⟨mb, 0, none⟩ = some (.int .i64 v) ∧ w'.cell? ⟨g, 7, none⟩ = some (.int .u8 p) ∧ w'.cell? ⟨g, 8, none⟩ = some (.int .u8 q))
          (first | exact ⟨hl4.2.1, hm4, t7, t8⟩ | assumption)
          (first
            | (go_at_call 38; ((with_reducible refine (HCk.out w4.drew).mono ?_); rintro e w5 ⟨rfl, hb5⟩); have hb45 := hdr4.trans hb5; have hS5 : w5.cell? ⟨qb, 1, none⟩ = some (.pointer (some ⟨mb, 0, none⟩)) ∧ w5.cell? ⟨mb, 0, none⟩ = some (.int .i64 v) ∧ w5.cell? ⟨g, 7, none⟩ = some (.int .u8 p) ∧ w5.cell? ⟨g, 8, none⟩ = some (.int .u8 q) := ⟨(Below.cell hb45 hqb4).trans hl4.2.1, (Below.cell hb45 hmb4).trans hm4, (Below.cell hb45 hgl4).trans t7, (Below.cell hb45 hgl4).trans t8⟩))
        clear hS5
        have hL5 := hL4.below hb45
        have hO5 := hO4.below hb45
        have hg5 := (hb45.block _ hgl4).trans hg4
        obtain ⟨_, _, _, v3, v4, _, _, v7, v8⟩ := step_cells hg5
        have hl5 := hL5.cells
        have hm5 := hL5.m.c0
        have hqb5 := hL5.lt.1
        have hgl5 := lt_of_block hg5
        have hdr5 := (Below.refl w5.heap.size w5).drew
        have hm5d : w5.drew.cell? ⟨mb, 0, none⟩ = some (.int .i64 v) := hm5
        go_wp2
        go_region_held3 (fun w' => w'.cell? ⟨qb, 1, none⟩ = some (.pointer (some ⟨mb, 0, none⟩)) ∧ w'.cell? ⟨g, 7, none⟩ = some (.int .u8 p) ∧ w'.cell? ⟨g, 8, none⟩ = some (.int .u8 q) ∧ w'.cell? ⟨g, 3, none⟩ = some (.int .i64 a) ∧ w'.cell? ⟨g, 4, none⟩ = some (.int .i64 b))
          (first | exact ⟨hl5.2.1, v7, v8, v3, v4⟩ | assumption)
          (first
            | (go_at_call 39; ((with_reducible refine (HCu.out w5.drew hm5d).mono ?_); rintro e w6 ⟨A6, c6, rfl, ho6, hb6⟩); have hb56 := hdr5.trans hb6; have hS6 : w6.cell? ⟨qb, 1, none⟩ = some (.pointer (some ⟨mb, 0, none⟩)) ∧ w6.cell? ⟨g, 7, none⟩ = some (.int .u8 p) ∧ w6.cell? ⟨g, 8, none⟩ = some (.int .u8 q) ∧ w6.cell? ⟨g, 3, none⟩ = some (.int .i64 a) ∧ w6.cell? ⟨g, 4, none⟩ = some (.int .i64 b) := ⟨(Below.cell hb56 hqb5).trans hl5.2.1, (Below.cell hb56 hgl5).trans v7, (Below.cell hb56 hgl5).trans v8, (Below.cell hb56 hgl5).trans v3, (Below.cell hb56 hgl5).trans v4⟩))
        go_wp2
        go_meet
        exact ⟨hL5.below hb56, .inl ⟨E, 0, A6, 2 ^ v, c6, nv, hck, rfl, rfl, rfl, rfl, hO5.below hb56⟩⟩
    by_cases o4 : o = 4
    · as_aux_lemma =>
      have e1 : ((o : Int) == 1) = false := by rw [o4]; rfl
      have e2 : ((o : Int) == 2) = false := by rw [o4]; rfl
      have e3 : ((o : Int) == 3) = false := by rw [o4]; rfl
      have e4 : ((o : Int) == 4) = true := by rw [o4]; rfl
      have hvv := hR.own.inv.v6
      have hdr := (Below.refl w2.heap.size w2).drew
      by_cases hr0 : rs.length = 0
      · have hEnd : RunE w0 w2 qb sb cb rb tb mb v cap (T.length + 1) := ⟨nv, N, R, A, c, Q, rv, rs, tv, T, hR, by omega⟩
        have HEnd := Lib.hid hEnd
        have hd0 : decide (0 < rs.length) = false := decide_eq_false (by omega)
        clear hR q0 o4 hEnd hr0
        go_wp2
        go_ret
        exact ⟨rfl, HEnd.out⟩
      · have hd0 : decide (0 < rs.length) = true := decide_eq_true (by omega)
        obtain ⟨g1, g2, g3⟩ := hp1' (by omega)
        obtain ⟨j1, j2, j3⟩ := hp2 (by omega)
        have HAp : Hid (∀ Y, Keeps w2 Y → Calls Try.prog 40 #[.int .u8 op, .slice B1 n1 d1, .slice B2 n2 d2] Y fun e w' => ∃ A' c', e = .returned (.slice A' (2 ^ v) c') ∧ TabI w' A' (tabV v fun x => valI op (den v N r1 x) (den v N r2 x)) ∧ Below Y.heap.size Y w') := fun Y hY => by
          have ht1 := (g3.keep (.of_keeps hY LawP.p) (.inr rfl)).1
          have ht2 := (j3.keep (.of_keeps hY LawP.p) (.inr rfl)).1
          have := refApply_any op B1 B2 (tabD v N r1) (tabD v N r2) d1 d2 Y hop ht1 ht2 (by rw [tabD_len, tabD_len]) (by rw [tabD_len]; have := pow7 hvv; omega)
          rw [tabD_len, tabD_len] at this
          rw [g2, j2]
          refine this.mono ?_
          rintro e w' ⟨A', c', he, ho, hb⟩
          refine ⟨A', c', he, ?_, hb⟩
          have e : tabV v (fun x => valI op (den v N r1 x) (den v N r2 x)) = appL op (tabD v N r1) (tabD v N r2) (2 ^ v) := by
            unfold tabV appL
            refine List.map_congr_left fun x hx => ?_
            have hx := List.mem_range.1 hx
            rw [tabD_nd hx, tabD_nd hx]
          rw [e]
          exact tabI_own ho (by rw [appL_len])
        by_cases hop4 : 1 ≤ op ∧ op ≤ 4
        · have HC := Lib.hid fun X3 (hX : Below w2.heap.size w2 X3) => (Apply_yes X3 (hR.own.below hX).inv op r1 r2 hop4.1 hop4.2 g1 j1).mono fun e Y hp => op_yes (hR.own.below hX) hp
          have k1 : decide ((op : Int) < 1) = false := decide_eq_false (by omega)
          have k2 : decide ((4 : Int) < (op : Int)) = false := decide_eq_false (by omega)
          clear o4 hR q0 g1 g2 g3 j1 j2 j3 hr0 hp1' hp2 hop4
          go_wp2
          go_region_held3 (fun w' => w'.cell? ⟨qb, 0, none⟩ = some (.pointer (some ⟨sb, 0, none⟩)) ∧ w'.cell? ⟨g, 1, none⟩ = some (.int .u8 op))
            (first | exact ⟨hlw.1, s1⟩ | assumption)
            (first
              | (go_at_call 25; ((with_reducible refine (HC.out w2.drew hdr).mono ?_); rintro e w4 ⟨rfl, nv4, hO4, hK4⟩); have hL4 := keeps_law (HR2.out.law.below hdr) hK4; have hg4 := keeps_cells ((hdr.block _ hgl).trans hbk2) hK4; obtain ⟨_, t1, _⟩ := step_cells hg4; have hS4 : w4.cell? ⟨qb, 0, none⟩ = some (.pointer (some ⟨sb, 0, none⟩)) ∧ w4.cell? ⟨g, 1, none⟩ = some (.int .u8 op) := ⟨hL4.cells.1, t1⟩))
          clear hS4
          obtain ⟨M, hM⟩ : ∃ M, M = addM v cap (fun x => valI op (den v N r1 x) (den v N r2 x)) N R := ⟨_, rfl⟩
          rw [← hM] at hO4 ⊢
          have HM := Lib.hid hM
          clear hM
          have hK24 := (Keeps.of_below hdr).trans hK4
          go_wp2_with (go_at_call 40; ((with_reducible refine (HAp.out w4 hK24).mono ?_); rintro e w5 ⟨A5, c5, rfl, ht5, hb5⟩))
          go_meet
          have hM := HM.out
          subst hM
          exact ⟨hL4.below hb5, .inr ⟨_, A5, c5, nv4, rfl, rfl, rfl, rfl, ht5, hO4.below hb5⟩⟩
        · have HC := Lib.hid fun X3 (hX : Below w2.heap.size w2 X3) => Apply_kind X3 (hR.own.below hX).inv op r1 r2 hop hop4
          have hk : (decide ((op : Int) < 1) = true) ∨ (decide ((op : Int) < 1) = false ∧ decide ((4 : Int) < (op : Int)) = true) := by
            by_cases h1 : (op : Int) < 1
            · exact .inl (decide_eq_true h1)
            · exact .inr ⟨decide_eq_false h1, decide_eq_true (by omega)⟩
          clear o4 hR q0 g1 g2 g3 j1 j2 j3 hr0 hp1' hp2 hop4
          rcases hk with k1 | ⟨k1, k2⟩
          all_goals
            go_wp2
            go_region_held3 (fun w' => w'.cell? ⟨qb, 0, none⟩ = some (.pointer (some ⟨sb, 0, none⟩)) ∧ w'.cell? ⟨g, 1, none⟩ = some (.int .u8 op))
              (first | exact ⟨hlw.1, s1⟩ | assumption)
              (first
                | (go_at_call 25; ((with_reducible refine (HC.out w2.drew hdr).mono ?_); rintro e w4 ⟨rfl, hb4⟩); have hb24 := hdr.trans hb4; have t1 : w4.cell? ⟨g, 1, none⟩ = some (.int .u8 op) := (Below.cell hb24 hgl).trans s1; have hS4 : w4.cell? ⟨qb, 0, none⟩ = some (.pointer (some ⟨sb, 0, none⟩)) ∧ w4.cell? ⟨g, 1, none⟩ = some (.int .u8 op) := ⟨(Below.cell hb24 hqb).trans hlw.1, t1⟩))
            clear hS4
            go_wp2_with (go_at_call 40; ((with_reducible refine (HAp.out w4 (Keeps.of_below hb24)).mono ?_); rintro e w5 ⟨A5, c5, rfl, ht5, hb5⟩))
            go_meet
            have hb25 := stepB hb24 hb5
            exact ⟨HR2.out.law.below hb25, .inl ⟨6, 0, A5, 2 ^ v, c5, nv, by omega, rfl, rfl, rfl, rfl, HR2.out.own.below hb25⟩⟩
    by_cases o56 : o = 5 ∨ o = 6
    · as_aux_lemma =>
      have e1 : ((o : Int) == 1) = false := by rw [beq_eq_false_iff_ne]; omega
      have e2 : ((o : Int) == 2) = false := by rw [beq_eq_false_iff_ne]; omega
      have e3 : ((o : Int) == 3) = false := by rw [beq_eq_false_iff_ne]; omega
      have e4 : ((o : Int) == 4) = false := by rw [beq_eq_false_iff_ne]; omega
      have hvv := hR.own.inv.v6
      by_cases hr0 : rs.length = 0
      · have hEnd : RunE w0 w2 qb sb cb rb tb mb v cap (T.length + 1) := ⟨nv, N, R, A, c, Q, rv, rs, tv, T, hR, by omega⟩
        have HEnd := Lib.hid hEnd
        have hd0 : decide (0 < rs.length) = false := decide_eq_false (by omega)
        clear hR q0 o1 o2 o3 o4 hEnd hr0
        rcases o56 with o5 | o6
        · have e5 : ((o : Int) == 5) = true := by rw [o5]; rfl
          clear o5
          go_wp2
          go_ret
          exact ⟨rfl, HEnd.out⟩
        · have e5 : ((o : Int) == 5) = false := by rw [o6]; rfl
          have e6 : ((o : Int) == 6) = true := by rw [o6]; rfl
          clear o6
          go_wp2
          go_ret
          exact ⟨rfl, HEnd.out⟩
      have hd0 : decide (0 < rs.length) = true := decide_eq_true (by omega)
      obtain ⟨g1, g2, g3⟩ := hp1' (by omega)
      have hmm := hR.law.m.c0
      have hdr := fun n => bdN (Below.refl w2.heap.size w2) n
      obtain ⟨bx, hbx⟩ : ∃ bx, ((x : Int).tmod 2 == 1) = bx := ⟨_, rfl⟩
      have hbx2 : ((x : Int) % 2 == 1) = bx := hbx
      by_cases hzv : 0 ≤ z ∧ z < v
      · obtain ⟨kz, rfl⟩ : ∃ kz : Nat, z = kz := ⟨z.toNat, by omega⟩
        have hkv : kz < v := by omega
        have k1 : decide ((kz : Int) < 0) = false := decide_eq_false (by omega)
        have k2 : decide ((v : Int) ≤ (kz : Int)) = false := decide_eq_false (by omega)
        have hlen := tabD_len v N r1
        have hin := hR.own.inv.ref r1 g1
        have HRs : Hid (∀ Y, Keeps w2 Y → Calls Try.prog 41 #[.slice B1 n1 d1, .int .i64 kz, .bool bx] Y fun e w' => ∃ A' c', e = .returned (.slice A' (2 ^ v) c') ∧ TabI w' A' (tabV v fun y => den v N r1 (stV y kz bx)) ∧ Below Y.heap.size Y w') := fun Y hY => by
          have ht1 := (g3.keep (.of_keeps hY LawP.p) (.inr rfl)).1
          have := Restrict_any B1 (tabD v N r1) d1 kz v bx Y ht1 hvv hlen hkv
          rw [hlen] at this
          rw [g2]
          refine this.mono ?_
          rintro e w' ⟨A', c', he, ho, hb⟩
          refine ⟨A', c', he, ?_, hb⟩
          rw [tabV_res hvv hkv]
          exact tabI_own ho (by rw [resL_len])
        have HEx : Hid (∀ Y, Keeps w2 Y → Calls Try.prog 42 #[.slice B1 n1 d1, .int .i64 kz] Y fun e w' => ∃ A' c', e = .returned (.slice A' (2 ^ v) c') ∧ TabI w' A' (tabV v fun y => max (den v N r1 (stV y kz false)) (den v N r1 (stV y kz true))) ∧ Below Y.heap.size Y w') := fun Y hY => by
          have ht1 := (g3.keep (.of_keeps hY LawP.p) (.inr rfl)).1
          have := refExists_any B1 (tabD v N r1) d1 kz v Y ht1 hvv hlen hkv
          rw [hlen] at this
          rw [g2]
          refine this.mono ?_
          rintro e w' ⟨A', c', he, ho, hb⟩
          refine ⟨A', c', he, ?_, hb⟩
          rw [tabV_ex hvv hkv]
          exact tabI_own ho (by rw [exL_len, hlen])
        have HC5 := Lib.hid fun X3 (hX : Below w2.heap.size w2 X3) => (Restrict_yes X3 (hR.own.below hX).inv r1 kz bx g1 hkv).mono fun e Y hp => op_yes (hR.own.below hX) hp
        have HC6 := Lib.hid fun X3 (hX : Below w2.heap.size w2 X3) => (Exists_yes X3 (hR.own.below hX).inv r1 kz g1 hkv).mono fun e Y hp => op_yes (hR.own.below hX) hp
        clear hR q0 o1 o2 o3 o4 g1 g2 g3 hp1' hp2 hr0 hzv hlen hin
        rcases o56 with o5 | o6
        · have e5 : ((o : Int) == 5) = true := by rw [o5]; rfl
          have e6 : ((o : Int) == 6) = false := by rw [o5]; rfl
          clear o5
          go_wp2
          go_quiet (fail)
          go_wp2
          go_region_held3 (fun w' => w'.cell? ⟨qb, 0, none⟩ = some (.pointer (some ⟨sb, 0, none⟩)) ∧ w'.cell? ⟨g, 5, none⟩ = some (.int .i64 kz) ∧ w'.cell? ⟨g, 2, none⟩ = some (.int .u8 x))
            (first | exact ⟨hlw.1, s5, s2⟩ | assumption)
            (first
              | (go_at_call 26; ((with_reducible refine (HC5.out _ (hdr _)).mono ?_); rintro e w4 ⟨rfl, nv4, hO4, hK4⟩); have hK24 := (Keeps.of_below (hdr _)).trans hK4; have hL4 := keeps_law HR2.out.law hK24; have hg4 := keeps_cells hbk2 hK24; obtain ⟨t0, t1, t2, t3, t4, t5, _⟩ := step_cells hg4; have hS4 : w4.cell? ⟨qb, 0, none⟩ = some (.pointer (some ⟨sb, 0, none⟩)) ∧ w4.cell? ⟨g, 5, none⟩ = some (.int .i64 kz) ∧ w4.cell? ⟨g, 2, none⟩ = some (.int .u8 x) := ⟨hL4.cells.1, t5, t2⟩))
          clear hS4
          obtain ⟨M, hM⟩ : ∃ M, M = addM v cap (fun y => den v N r1 (stV y kz bx)) N R := ⟨_, rfl⟩
          rw [← hM] at hO4 ⊢
          have HM := Lib.hid hM
          clear hM
          go_wp2_with (go_at_call 41; ((with_reducible refine (HRs.out w4 hK24).mono ?_); rintro e w5 ⟨A5, c5, rfl, ht5, hb5⟩); have t0' : w5.cell? ⟨g, 0, none⟩ = some (.int .u8 o) := (Below.cell hb5 (lt_of_block hg4)).trans t0)
          go_meet
          have hM := HM.out
          subst hM
          exact ⟨hL4.below hb5, .inr ⟨_, A5, c5, nv4, rfl, rfl, rfl, rfl, ht5, hO4.below hb5⟩⟩
        · have e5 : ((o : Int) == 5) = false := by rw [o6]; rfl
          have e6 : ((o : Int) == 6) = true := by rw [o6]; rfl
          clear o6
          go_wp2
          go_quiet (fail)
          go_wp2
          go_region_held3 (fun w' => w'.cell? ⟨qb, 0, none⟩ = some (.pointer (some ⟨sb, 0, none⟩)) ∧ w'.cell? ⟨g, 5, none⟩ = some (.int .i64 kz) ∧ w'.cell? ⟨g, 2, none⟩ = some (.int .u8 x))
            (first | exact ⟨hlw.1, s5, s2⟩ | assumption)
            (first
              | (go_at_call 27; ((with_reducible refine (HC6.out _ (hdr _)).mono ?_); rintro e w4 ⟨rfl, nv4, hO4, hK4⟩); have hK24 := (Keeps.of_below (hdr _)).trans hK4; have hL4 := keeps_law HR2.out.law hK24; have hg4 := keeps_cells hbk2 hK24; obtain ⟨t0, t1, t2, t3, t4, t5, _⟩ := step_cells hg4; have hS4 : w4.cell? ⟨qb, 0, none⟩ = some (.pointer (some ⟨sb, 0, none⟩)) ∧ w4.cell? ⟨g, 5, none⟩ = some (.int .i64 kz) ∧ w4.cell? ⟨g, 2, none⟩ = some (.int .u8 x) := ⟨hL4.cells.1, t5, t2⟩))
          clear hS4
          obtain ⟨M, hM⟩ : ∃ M, M = addM v cap (fun y => max (den v N r1 (stV y kz false)) (den v N r1 (stV y kz true))) N R := ⟨_, rfl⟩
          rw [← hM] at hO4 ⊢
          have HM := Lib.hid hM
          clear hM
          go_wp2_with (go_at_call 42; ((with_reducible refine (HEx.out w4 hK24).mono ?_); rintro e w5 ⟨A5, c5, rfl, ht5, hb5⟩); have t0' : w5.cell? ⟨g, 0, none⟩ = some (.int .u8 o) := (Below.cell hb5 (lt_of_block hg4)).trans t0)
          go_meet
          have hM := HM.out
          subst hM
          exact ⟨hL4.below hb5, .inr ⟨_, A5, c5, nv4, rfl, rfl, rfl, rfl, ht5, hO4.below hb5⟩⟩
      · have HC5 := Lib.hid fun X3 (hX : Below w2.heap.size w2 X3) => Restrict_var X3 (hR.own.below hX).inv r1 z bx g1 hzv
        have HC6 := Lib.hid fun X3 (hX : Below w2.heap.size w2 X3) => Exists_var X3 (hR.own.below hX).inv r1 z g1 hzv
        have hkk : decide (z < 0) = true ∨ (decide (z < 0) = false ∧ decide ((v : Int) ≤ z) = true) := by
          by_cases h1 : z < 0
          · exact .inl (decide_eq_true h1)
          · exact .inr ⟨decide_eq_false h1, decide_eq_true (by omega)⟩
        clear hR q0 o1 o2 o3 o4 g1 g2 g3 hp1' hp2 hr0 hzv
        rcases o56 with o5 | o6
        · have e5 : ((o : Int) == 5) = true := by rw [o5]; rfl
          have e6 : ((o : Int) == 6) = false := by rw [o5]; rfl
          clear o5
          rcases hkk with k1 | ⟨k1, k2⟩
          all_goals
            go_wp2
            go_quiet (fail)
            go_wp2
            go_region_held3 (fun w' => w'.cell? ⟨qb, 0, none⟩ = some (.pointer (some ⟨sb, 0, none⟩)) ∧ w'.cell? ⟨g, 5, none⟩ = some (.int .i64 z) ∧ w'.cell? ⟨g, 2, none⟩ = some (.int .u8 x))
              (first | exact ⟨hlw.1, s5, s2⟩ | assumption)
              (first
                | (go_at_call 26; ((with_reducible refine (HC5.out _ (hdr _)).mono ?_); rintro e w4 ⟨rfl, hb4⟩); have hb24 := (hdr _).trans hb4; have hL4 := HR2.out.law.below hb24; have hO4 := HR2.out.own.below hb24; have t0 : w4.cell? ⟨g, 0, none⟩ = some (.int .u8 o) := (Below.cell hb24 hgl).trans s0; have hS4 : w4.cell? ⟨qb, 0, none⟩ = some (.pointer (some ⟨sb, 0, none⟩)) ∧ w4.cell? ⟨g, 5, none⟩ = some (.int .i64 z) ∧ w4.cell? ⟨g, 2, none⟩ = some (.int .u8 x) := ⟨hL4.cells.1, (Below.cell hb24 hgl).trans s5, (Below.cell hb24 hgl).trans s2⟩))
            clear hS4
            go_wp2
            go_meet
            exact ⟨hL4, .inl ⟨7, 0, none, 0, 0, nv, by omega, rfl, rfl, rfl, rfl, hO4⟩⟩
        · have e5 : ((o : Int) == 5) = false := by rw [o6]; rfl
          have e6 : ((o : Int) == 6) = true := by rw [o6]; rfl
          clear o6
          rcases hkk with k1 | ⟨k1, k2⟩
          all_goals
            go_wp2
            go_quiet (fail)
            go_wp2
            go_region_held3 (fun w' => w'.cell? ⟨qb, 0, none⟩ = some (.pointer (some ⟨sb, 0, none⟩)) ∧ w'.cell? ⟨g, 5, none⟩ = some (.int .i64 z) ∧ w'.cell? ⟨g, 2, none⟩ = some (.int .u8 x))
              (first | exact ⟨hlw.1, s5, s2⟩ | assumption)
              (first
                | (go_at_call 27; ((with_reducible refine (HC6.out _ (hdr _)).mono ?_); rintro e w4 ⟨rfl, hb4⟩); have hb24 := (hdr _).trans hb4; have hL4 := HR2.out.law.below hb24; have hO4 := HR2.out.own.below hb24; have t0 : w4.cell? ⟨g, 0, none⟩ = some (.int .u8 o) := (Below.cell hb24 hgl).trans s0; have hS4 : w4.cell? ⟨qb, 0, none⟩ = some (.pointer (some ⟨sb, 0, none⟩)) ∧ w4.cell? ⟨g, 5, none⟩ = some (.int .i64 z) ∧ w4.cell? ⟨g, 2, none⟩ = some (.int .u8 x) := ⟨hL4.cells.1, (Below.cell hb24 hgl).trans s5, (Below.cell hb24 hgl).trans s2⟩))
            clear hS4
            go_wp2
            go_meet
            exact ⟨hL4, .inl ⟨7, 0, none, 0, 0, nv, by omega, rfl, rfl, rfl, rfl, hO4⟩⟩
    · as_aux_lemma =>
      have e1 : ((o : Int) == 1) = false := by rw [beq_eq_false_iff_ne]; omega
      have e2 : ((o : Int) == 2) = false := by rw [beq_eq_false_iff_ne]; omega
      have e3 : ((o : Int) == 3) = false := by rw [beq_eq_false_iff_ne]; omega
      have e4 : ((o : Int) == 4) = false := by rw [beq_eq_false_iff_ne]; omega
      have e5 : ((o : Int) == 5) = false := by rw [beq_eq_false_iff_ne]; omega
      have e6 : ((o : Int) == 6) = false := by rw [beq_eq_false_iff_ne]; omega
      have hEnd : RunE w0 w2 qb sb cb rb tb mb v cap (T.length + 1) := ⟨nv, N, R, A, c, Q, rv, rs, tv, T, hR, by omega⟩
      have HEnd := Lib.hid hEnd
      clear hR q0 o1 o2 o3 o4 o56 hEnd
      go_wp2
      go_ret
      exact ⟨rfl, HEnd.out⟩
  case rest => as_aux_lemma =>
    have hR := HR2.out
    have hcap := hR.own.inv.cap4
    have hNc := hR.own.inv.len
    have hQ : Q.length ≤ 4096 := by have := hR.qt; omega
    rcases hcut with ⟨hL, ⟨E, r, B, n, d, nv', hE, rfl, rfl, rfl, rfl, hOwn⟩ | ⟨val, B, d, nv', rfl, rfl, rfl, rfl, hB, hOwn⟩⟩
    · have hE1 : ((E : Int) == 0) = false := by rw [beq_eq_false_iff_ne]; omega
      have hE2 : ¬ (E : Int) = 0 := by omega
      have HEnd : Hid (RunE w0 wc qb sb cb rb tb mb v cap (T.length + 1)) := ⟨nv', N, R, A, c, Q, rv, rs, tv, T, ⟨hOwn, hL, hR.tie, hR.len, hR.each, hR.all, hR.qt⟩, by omega⟩
      clear hL hOwn hR HR2 HD2 hbk2 hp1' hp2
      go_wp2
      go_ret
      exact ⟨rfl, HEnd.out⟩
    · have HA := Lib.hid (add_step (d := d) hL hR.tie hNc hcap hB hQ)
      obtain ⟨_, l1, l2, l3⟩ := hL.cells
      have HLaw := Lib.hid hL
      have HOwn := Lib.hid hOwn
      have HB := Lib.hid hB
      obtain ⟨M, hM⟩ : ∃ M, M = addM v cap val N R := ⟨_, rfl⟩
      rw [← hM] at HA HOwn ⊢
      have HR3 := Lib.hid hR
      clear hM hL hOwn hB hR HR2 HD2 hbk2 hp1' hp2
      by_cases hE : M.err = 0
      · have hE1 : ((M.err : Int) == 0) = true := by rw [hE]; rfl
        go_wp2_with (go_at_call 43; ((with_reducible refine HA.out.mono ?_); rintro e w5 ⟨rfl, A', c', Q', hL5, hTS, hF5, hq1, hq2⟩))
        obtain ⟨_, _, m2, m3⟩ := hL5.cells
        have hqb := hL5.lt.1
        have HTS := Lib.hid hTS
        have HL5 := Lib.hid hL5
        have HF5 := Lib.hid hF5
        have hB5 : TabI w5 B (tabV v val) := HB.out.fr hF5 fun k hk => by subst hk; exact ⟨_, _, _, HLaw.out.m, .inr (.inr (.inr rfl))⟩
        have HB5 := Lib.hid hB5
        have HTL := Lib.hid (tabV_len v val).symm
        clear l1 l2 l3 hE1 q0 hTS hL5 hF5 hB5
        generalize tabV v val = tv2 at *
        generalize 2 ^ v = K at *
        obtain ⟨i1, hi1, hz3, hz4, hz5⟩ := info_parts info_ref
        have HO1 := Lib.hid HL5.out.rr
        have HO2 := Lib.hid HL5.out.tr
        obtain ⟨i2, hi2, hz6, hz7, hz8⟩ := info_parts info_tab
        have hrs : rs.length ≤ 1000 := by have := HR3.out.len; omega
        have hw05 : w0.heap.size ≤ w5.heap.size := Nat.le_trans HOwn.out.bel.size HF5.out.size
        refine wp_region_any (by kernel_rfl) ?_
        change wpAny _ _ _ _ _ _ _ (World.drew _)
        refine wpAny_take (i := 0) (v := ?_) (at_drop rfl) (by kernel_rfl) (by kernel_rfl) (by kernel_rfl) (fun _ _ _ h => h) (Or.inl ⟨by rfl, ?_⟩) ?_
        rotate_left
        · (intro w; go_simp <;> with_reducible rfl)
        simp only [Act.put, List.setIfInBounds_toArray, List.set_cons_zero, List.set_cons_succ]
        refine wpAny_take (i := 1) (v := ?_) (at_drop rfl) (by kernel_rfl) (by kernel_rfl) (by kernel_rfl) (fun _ _ _ h => h) (Or.inl ⟨by rfl, ?_⟩) ?_
        rotate_left
        · (intro w; go_simp <;> with_reducible rfl)
        simp only [Act.put, List.setIfInBounds_toArray, List.set_cons_zero, List.set_cons_succ]
        refine wpAny_take (i := 2) (v := ?_) (at_drop rfl) (by kernel_rfl) (by kernel_rfl) (by kernel_rfl) (fun _ _ _ h => h) (Or.inl ⟨by rfl, ?_⟩) ?_
        rotate_left
        · (intro w; go_simp <;> with_reducible rfl)
        simp only [Act.put, List.setIfInBounds_toArray, List.set_cons_zero, List.set_cons_succ]
        refine wpAny_take (i := 3) (v := ?_) (at_drop rfl) (by kernel_rfl) (by kernel_rfl) (by kernel_rfl) (fun _ _ _ h => h) (Or.inl ⟨by rfl, ?_⟩) ?_
        rotate_left
        · (intro w; go_simp <;> with_reducible rfl)
        simp only [Act.put, List.setIfInBounds_toArray, List.set_cons_zero, List.set_cons_succ]
        refine wpAny_take (i := 4) (v := ?_) (at_drop rfl) (by kernel_rfl) (by kernel_rfl) (by kernel_rfl) (fun _ _ _ h => h) (Or.inl ⟨by rfl, ?_⟩) ?_
        rotate_left
        · (intro w; go_simp <;> with_reducible rfl)
        simp only [Act.put, List.setIfInBounds_toArray, List.set_cons_zero, List.set_cons_succ]
        refine wpAny_take (i := 6) (v := ?_) (at_drop rfl) (by kernel_rfl) (by kernel_rfl) (by kernel_rfl) (fun _ _ _ h => h) (Or.inl ⟨by rfl, ?_⟩) ?_
        rotate_left
        · (intro w; go_simp <;> with_reducible rfl)
        simp only [Act.put, List.setIfInBounds_toArray, List.set_cons_zero, List.set_cons_succ]
        refine wpAny_take (i := 9) (v := ?_) (at_drop rfl) (by kernel_rfl) (by kernel_rfl) (by kernel_rfl) (fun _ _ _ h => h) (Or.inl ⟨by rfl, ?_⟩) ?_
        rotate_left
        · (intro w; go_simp <;> with_reducible rfl)
        simp only [Act.put, List.setIfInBounds_toArray, List.set_cons_zero, List.set_cons_succ]
        refine wpAny_take (i := 10) (v := ?_) (at_drop rfl) (by kernel_rfl) (by kernel_rfl) (by kernel_rfl) (fun _ _ _ h => h) (Or.inl ⟨by rfl, ?_⟩) ?_
        rotate_left
        · (intro w; go_simp <;> with_reducible rfl)
        simp only [Act.put, List.setIfInBounds_toArray, List.set_cons_zero, List.set_cons_succ]
        refine wpAny_take (i := 11) (v := ?_) (at_drop rfl) (by kernel_rfl) (by kernel_rfl) (by kernel_rfl) (fun _ _ _ h => h) (Or.inl ⟨by rfl, ?_⟩) ?_
        rotate_left
        · (intro w; go_simp <;> with_reducible rfl)
        simp only [Act.put, List.setIfInBounds_toArray, List.set_cons_zero, List.set_cons_succ]
        refine wpAny_take (i := 13) (v := ?_) (at_drop rfl) (by kernel_rfl) (by kernel_rfl) (by kernel_rfl) (fun _ _ _ h => h) (Or.inl ⟨by rfl, ?_⟩) ?_
        rotate_left
        · (intro w; go_simp <;> with_reducible rfl)
        simp only [Act.put, List.setIfInBounds_toArray, List.set_cons_zero, List.set_cons_succ]
        have hs5 : (fun w' : World => w'.cell? ⟨qb, 2, none⟩ = some rv ∧ w'.cell? ⟨qb, 3, none⟩ = some tv) w5.drew := ⟨m2, m3⟩
        have hl : ∀ Y : World, Below w5.heap.size w5 Y → (fun w' : World => w'.cell? ⟨qb, 2, none⟩ = some rv ∧ w'.cell? ⟨qb, 3, none⟩ = some tv) Y := fun Y hY => ⟨(Below.cell hY hqb).trans m2, (Below.cell hY hqb).trans m3⟩
        refine wpAny_head 16 6 (fun w' => w'.cell? ⟨qb, 2, none⟩ = some rv ∧ w'.cell? ⟨qb, 3, none⟩ = some tv) rfl rfl (by kernel_rfl) (by kernel_rfl) (by kernel_rfl) (fun hA => ?_)
        refine wpHead_take (i := 5) (v := ?_) (by kernel_rfl) hA (at_drop rfl) (by decide) (by kernel_rfl) (by kernel_rfl) (by kernel_rfl) (fun _ _ _ h => h) (Or.inl ⟨by rfl, ?_⟩) hs5 (fun hA => ?_)
        rotate_left
        · (intro w hSw; (try dsimp only at hSw); go_simp <;> with_reducible rfl)
        simp only [Act.put, List.setIfInBounds_toArray, List.set_cons_zero, List.set_cons_succ]
        refine wpHead_take (i := 12) (v := ?_) (by kernel_rfl) hA (at_drop rfl) (by decide) (by kernel_rfl) (by kernel_rfl) (by kernel_rfl) (fun _ _ _ h => h) (Or.inl ⟨by rfl, ?_⟩) hs5 (fun hA => ?_)
        rotate_left
        · (intro w hSw; (try dsimp only at hSw); go_simp <;> with_reducible rfl)
        simp only [Act.put, List.setIfInBounds_toArray, List.set_cons_zero, List.set_cons_succ]
        refine wpHead_ready (rs := [7, 14]) (by kernel_rfl) (by decide) (AllHead.cons (at_drop rfl) (by decide) (fun KK hK => ?_) (AllHead.cons (at_drop rfl) (by decide) (fun KK hK => ?_) AllHead.nil))
        · go_simp
          refine hK _ _ (hl _ (bal (drew_below w5) _)) ?_
          clear hK KK
          refine wpHead_ready (rs := [8, 14]) (by kernel_rfl) (by decide) (AllHead.cons (at_drop rfl) (by decide) (fun KK hK => ?_) (AllHead.cons (at_drop rfl) (by decide) (fun KK hK => ?_) AllHead.nil))
          · (refine step_append_own rfl (.tmp 239) (.tmp 241) 38 rfl w0.heap.size 46 i1 (.int .i64 0) 1 8 Try.underlying38 hi1 hz3 hz4 hz5 rfl (by decide) rv rs.length (rs.map fun (r : Nat) => .int .i64 r) (by simp [Act.eval]) (by first | exact (own_bel HO1.out (drew_below w5)).alloc _ | exact ((own_bel HO1.out (drew_below w5)).alloc _).alloc _) ⟨w5.heap.size, 0, none⟩ 1 1 [.int .i64 (M.ref : Nat)] rfl rfl (by first | exact cells_new w5.drew [.int .i64 (M.ref : Nat)] _ | exact news_old w5.drew [.int .i64 (M.ref : Nat)] _ _) (by simp [Value.oneCell']) (by unfold maxLen; omega) (by omega) (by simp; omega) ?_; intro A6 c6 w6 hown6 hgrow6 hob6; obtain ⟨hA1, hold⟩ := aft1 HL5.out (by first | exact bal (drew_below w5) _ | exact bal (bal (drew_below w5) _) _) hgrow6; have hq6 := hA1.run.trans HL5.out.q; obtain ⟨z2, z3⟩ := cells23 hq6; have hqb6 := lt_of_block hq6)
            refine hK _ _ ⟨z2, z3⟩ ?_
            clear hK KK
            simp only [Act.put, List.setIfInBounds_toArray, List.set_cons_zero, List.set_cons_succ]
            refine wpHead_ready (rs := [14]) (by kernel_rfl) (by decide) (AllHead.cons (at_drop rfl) (by decide) (fun KK hK => ?_) AllHead.nil)
            go_simp
            refine hK _ _ (⟨(Below.cell (bal (Below.refl w6.heap.size w6) _) hqb6).trans z2, (Below.cell (bal (Below.refl w6.heap.size w6) _) hqb6).trans z3⟩) ?_
            clear hK KK
            refine wpHead_ready (rs := [15]) (by kernel_rfl) (by decide) (AllHead.cons (at_drop rfl) (by decide) (fun KK hK => ?_) AllHead.nil)
            (refine step_append_own rfl (.tmp 246) (.tmp 248) 39 rfl w0.heap.size 29 i2 (.slice none 0 0) 1 24 Try.underlying39 hi2 hz6 hz7 hz8 rfl (by decide) tv T.length (slv T) (by simp [Act.eval]) (by exact hA1.tr.alloc _) ⟨w6.heap.size, 0, none⟩ 1 1 [.slice B K d] rfl rfl (by exact cells_new w6 [.slice B K d] _) (by simp [Value.oneCell']) (by unfold maxLen; omega) (by omega) (by have := hA1.fr.size; simp; omega) ?_; intro A7 c7 w7 hown7 hgrow7 hob7; obtain ⟨hz, hL9, hF9⟩ := aft2 (d := d) HL5.out hA1 hown6 (by exact bal (Below.refl _ _) _) hgrow7 (HTL.out ▸ hown7) hob7 HB5.out; have hq7 := hz.trans HL5.out.q; obtain ⟨y2, y3⟩ := cells23 hq7; have hf7 := free23 hq7)
            refine hK _ _ ⟨y2, y3⟩ ?_
            clear hK KK
            simp only [Act.put, List.setIfInBounds_toArray, List.set_cons_zero, List.set_cons_succ]
            refine wpHead_end (by kernel_rfl) ?_
            simp only [List.drop_succ_cons, List.drop_zero]
            go_wp2
            go_ret
            have hR := HR3.out
            have ho5 := HOwn.out.law HF5.out fun k _ hk => by subst hk; exact ⟨HLaw.out.ml, _, _, _, HLaw.out.m, .inr (.inr (.inr rfl))⟩
            have ho9 := ho5.law hF9 fun k _ hk => law_own HL5.out hk
            exact ⟨rfl, nv', M.N, M.R, A', c', Q', _, _, _, _, ⟨ho9, hL9, HTS.out.tie, by simp [hR.len], grow_each hR.len hR.each HTS.out hE, grow_all hR.all HTS.out, by have := hR.qt; simp; omega⟩, by simp⟩
          · go_simp
            refine hK _ _ (hl _ (bal (bal (drew_below w5) _) _)) ?_
            clear hK KK
            refine wpHead_ready (rs := [8]) (by kernel_rfl) (by decide) (AllHead.cons (at_drop rfl) (by decide) (fun KK hK => ?_) AllHead.nil)
            (refine step_append_own rfl (.tmp 239) (.tmp 241) 38 rfl w0.heap.size 46 i1 (.int .i64 0) 1 8 Try.underlying38 hi1 hz3 hz4 hz5 rfl (by decide) rv rs.length (rs.map fun (r : Nat) => .int .i64 r) (by simp [Act.eval]) (by first | exact (own_bel HO1.out (drew_below w5)).alloc _ | exact ((own_bel HO1.out (drew_below w5)).alloc _).alloc _) ⟨w5.heap.size, 0, none⟩ 1 1 [.int .i64 (M.ref : Nat)] rfl rfl (by first | exact cells_new w5.drew [.int .i64 (M.ref : Nat)] _ | exact news_old w5.drew [.int .i64 (M.ref : Nat)] _ _) (by simp [Value.oneCell']) (by unfold maxLen; omega) (by omega) (by simp; omega) ?_; intro A6 c6 w6 hown6 hgrow6 hob6; obtain ⟨hA1, hold⟩ := aft1 HL5.out (by first | exact bal (drew_below w5) _ | exact bal (bal (drew_below w5) _) _) hgrow6; have hq6 := hA1.run.trans HL5.out.q; obtain ⟨z2, z3⟩ := cells23 hq6; have hqb6 := lt_of_block hq6)
            refine hK _ _ ⟨z2, z3⟩ ?_
            clear hK KK
            simp only [Act.put, List.setIfInBounds_toArray, List.set_cons_zero, List.set_cons_succ]
            refine wpHead_ready (rs := [15]) (by kernel_rfl) (by decide) (AllHead.cons (at_drop rfl) (by decide) (fun KK hK => ?_) AllHead.nil)
            (refine step_append_own rfl (.tmp 246) (.tmp 248) 39 rfl w0.heap.size 29 i2 (.slice none 0 0) 1 24 Try.underlying39 hi2 hz6 hz7 hz8 rfl (by decide) tv T.length (slv T) (by simp [Act.eval]) (by exact hA1.tr) ⟨w5.heap.size + 1, 0, none⟩ 1 1 [.slice B K d] rfl rfl (by exact cells_at [.slice B K d] (hold _ _ (Nat.le_succ _) (heap2_new w5 _ _).2)) (by simp [Value.oneCell']) (by unfold maxLen; omega) (by omega) (by have := hA1.fr.size; simp; omega) ?_; intro A7 c7 w7 hown7 hgrow7 hob7; obtain ⟨hz, hL9, hF9⟩ := aft2 (d := d) HL5.out hA1 hown6 (by exact Below.refl _ _) hgrow7 (HTL.out ▸ hown7) hob7 HB5.out; have hq7 := hz.trans HL5.out.q; obtain ⟨y2, y3⟩ := cells23 hq7; have hf7 := free23 hq7)
            refine hK _ _ ⟨y2, y3⟩ ?_
            clear hK KK
            simp only [Act.put, List.setIfInBounds_toArray, List.set_cons_zero, List.set_cons_succ]
            refine wpHead_end (by kernel_rfl) ?_
            simp only [List.drop_succ_cons, List.drop_zero]
            go_wp2
            go_ret
            have hR := HR3.out
            have ho5 := HOwn.out.law HF5.out fun k _ hk => by subst hk; exact ⟨HLaw.out.ml, _, _, _, HLaw.out.m, .inr (.inr (.inr rfl))⟩
            have ho9 := ho5.law hF9 fun k _ hk => law_own HL5.out hk
            exact ⟨rfl, nv', M.N, M.R, A', c', Q', _, _, _, _, ⟨ho9, hL9, HTS.out.tie, by simp [hR.len], grow_each hR.len hR.each HTS.out hE, grow_all hR.all HTS.out, by have := hR.qt; simp; omega⟩, by simp⟩
        · go_simp
          refine hK _ _ (hl _ (bal (drew_below w5) _)) ?_
          clear hK KK
          refine wpHead_ready (rs := [7]) (by kernel_rfl) (by decide) (AllHead.cons (at_drop rfl) (by decide) (fun KK hK => ?_) AllHead.nil)
          go_simp
          refine hK _ _ (hl _ (bal (bal (drew_below w5) _) _)) ?_
          clear hK KK
          refine wpHead_ready (rs := [8]) (by kernel_rfl) (by decide) (AllHead.cons (at_drop rfl) (by decide) (fun KK hK => ?_) AllHead.nil)
          (refine step_append_own rfl (.tmp 239) (.tmp 241) 38 rfl w0.heap.size 46 i1 (.int .i64 0) 1 8 Try.underlying38 hi1 hz3 hz4 hz5 rfl (by decide) rv rs.length (rs.map fun (r : Nat) => .int .i64 r) (by simp [Act.eval]) (by first | exact (own_bel HO1.out (drew_below w5)).alloc _ | exact ((own_bel HO1.out (drew_below w5)).alloc _).alloc _) ⟨w5.heap.size + 1, 0, none⟩ 1 1 [.int .i64 (M.ref : Nat)] rfl rfl (by exact news_new w5 _ [.int .i64 (M.ref : Nat)] _) (by simp [Value.oneCell']) (by unfold maxLen; omega) (by omega) (by simp; omega) ?_; intro A6 c6 w6 hown6 hgrow6 hob6; obtain ⟨hA1, hold⟩ := aft1 HL5.out (by first | exact bal (drew_below w5) _ | exact bal (bal (drew_below w5) _) _) hgrow6; have hq6 := hA1.run.trans HL5.out.q; obtain ⟨z2, z3⟩ := cells23 hq6; have hqb6 := lt_of_block hq6)
          refine hK _ _ ⟨z2, z3⟩ ?_
          clear hK KK
          simp only [Act.put, List.setIfInBounds_toArray, List.set_cons_zero, List.set_cons_succ]
          refine wpHead_ready (rs := [15]) (by kernel_rfl) (by decide) (AllHead.cons (at_drop rfl) (by decide) (fun KK hK => ?_) AllHead.nil)
          (refine step_append_own rfl (.tmp 246) (.tmp 248) 39 rfl w0.heap.size 29 i2 (.slice none 0 0) 1 24 Try.underlying39 hi2 hz6 hz7 hz8 rfl (by decide) tv T.length (slv T) (by simp [Act.eval]) (by exact hA1.tr) ⟨w5.heap.size, 0, none⟩ 1 1 [.slice B K d] rfl rfl (by exact cells_at [.slice B K d] (hold _ _ (Nat.le_refl _) (heap2_new w5 _ _).1)) (by simp [Value.oneCell']) (by unfold maxLen; omega) (by omega) (by have := hA1.fr.size; simp; omega) ?_; intro A7 c7 w7 hown7 hgrow7 hob7; obtain ⟨hz, hL9, hF9⟩ := aft2 (d := d) HL5.out hA1 hown6 (by exact Below.refl _ _) hgrow7 (HTL.out ▸ hown7) hob7 HB5.out; have hq7 := hz.trans HL5.out.q; obtain ⟨y2, y3⟩ := cells23 hq7; have hf7 := free23 hq7)
          refine hK _ _ ⟨y2, y3⟩ ?_
          clear hK KK
          simp only [Act.put, List.setIfInBounds_toArray, List.set_cons_zero, List.set_cons_succ]
          refine wpHead_end (by kernel_rfl) ?_
          simp only [List.drop_succ_cons, List.drop_zero]
          go_wp2
          go_ret
          have hR := HR3.out
          have ho5 := HOwn.out.law HF5.out fun k _ hk => by subst hk; exact ⟨HLaw.out.ml, _, _, _, HLaw.out.m, .inr (.inr (.inr rfl))⟩
          have ho9 := ho5.law hF9 fun k _ hk => law_own HL5.out hk
          exact ⟨rfl, nv', M.N, M.R, A', c', Q', _, _, _, _, ⟨ho9, hL9, HTS.out.tie, by simp [hR.len], grow_each hR.len hR.each HTS.out hE, grow_all hR.all HTS.out, by have := hR.qt; simp; omega⟩, by simp⟩
      · have hE1 : ((M.err : Int) == 0) = false := by rw [beq_eq_false_iff_ne]; omega
        have hE2 : ¬ (M.err : Int) = 0 := by omega
        go_wp2_with (go_at_call 43; ((with_reducible refine HA.out.mono ?_); rintro e w5 ⟨rfl, A', c', Q', hL5, hTS, hF5, hq1, hq2⟩))
        go_ret
        obtain ⟨k1, k2⟩ := hTS.keep hE
        have hR := HR3.out
        have ho5 := HOwn.out.law hF5 fun k _ hk => by
          subst hk; exact ⟨HLaw.out.ml, _, _, _, HLaw.out.m, .inr (.inr (.inr rfl))⟩
        refine ⟨rfl, nv', M.N, M.R, A', c', Q', rv, rs, tv, T, ⟨ho5, hL5, hTS.tie, hR.len, ?_, ?_, ?_⟩, by omega⟩
        · rw [k1, k2]; exact hR.each
        · rw [k2]; exact hR.all
        · have := hq2 hE; have := hR.qt; omega
end
end Go.Proofs.Ytbhfmeohaoojfaa.Dn
