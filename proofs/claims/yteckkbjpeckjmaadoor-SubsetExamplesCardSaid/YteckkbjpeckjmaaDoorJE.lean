/- movesOf (package subset): its walk. -/
import Derived.Test.YteckkbjpeckjmaaDoorJD
import Derived.Deep.DeepCutAuto
namespace Go.Proofs.YteckkbjpeckjmaaDoor.Sb
open Go Go.RowKit Go.Proofs.YteckkbjpeckjmaaDoor Go.Proofs.YteckkbjpeckjmaaDoor.Cb
open Go.Proofs.YteckkbjpeckjmaaDoor.Nf (Ed ed ed_mem Na NaAt NaLen Ok EdsAt Blk zvs zvs_snoc four_at info_int6 ret_int ret_b inS Boxed4 Boxed4.new Boxed4.below Boxed4.cells Boxed5 Boxed5.new hnext drew_below Bys Bys.below bvs own_bys edE_in)
open Go.Proofs.YteckkbjpeckjmaaDoor.Dg (Tabs tb tb_mem mem_tb info_tab cell_one)
set_option linter.unusedVariables false
set_option linter.unusedSimpArgs false
set_option maxRecDepth 100000
/-- The moves as they are read. -/
structure MovAt (w : World) (mb K S : Nat) (f : Nat → Nat → List Int) : Prop where
  o : w.heap[mb]? = some (.cells (cells K (rowM mb S)) 51 (0, 0))
  r : ∀ x, x < K → ∃ v : Nat → Value, w.heap[mb + 1 + x]? = some (.cells (cells S v) 23 (0, 0)) ∧ ∀ k, k < S → ∃ p c, v k = .slice p (f x k).length c ∧ Ints w p (f x k)
theorem MovO.at_ {w0 w : World} {mb K S : Nat} {v : Nat → Nat → Value} {f : Nat → Nat → List Int} (h : MovO w0 w mb K S v f) : MovAt w mb K S f :=
  ⟨h.o, fun x hx => ⟨v x, h.r x hx, fun k hk => by
    have ho := h.own x hx k hk
    obtain ⟨A, c, e, _⟩ := Ap.own_form ho
    rw [e] at ho
    exact ⟨A, c, e, Dg.ints_row ho rfl⟩⟩⟩
theorem MovAt.below {w w' : World} {mb K S : Nat} {f : Nat → Nat → List Int} (h : MovAt w mb K S f) (hb : Below w.heap.size w w') : MovAt w' mb K S f :=
  ⟨(hb.block _ (blk_lt h.o)).trans h.o, fun x hx => by
    obtain ⟨v, h1, h2⟩ := h.r x hx
    exact ⟨v, (hb.block _ (blk_lt h1)).trans h1, fun k hk => by
      obtain ⟨p, c, e, hi⟩ := h2 k hk
      exact ⟨p, c, e, hi.below hb⟩⟩⟩
/-- Behind j letters of edge i. -/
structure MovR (W0 : World) (es : List Ed) (i : Nat) (L : List Nat) (P : Option Addr) (cL mb K S g4 : Nat) (cs : Array Value) (v : Nat → Nat → Value) (j : Nat) (w : World) : Prop where
  m : MovO W0 w mb K S v (mvP es i L j)
  e : w.heap[g4]? = some (.cells cs 30 (0, 0))
  l : w.ownsRow g4 5 1 (.slice P L.length cL) L.length (bvs L)
  g : mb + 1 + K ≤ g4
theorem MovR.below {W0 : World} {es : List Ed} {i : Nat} {L : List Nat} {P : Option Addr} {cL mb K S g4 : Nat} {cs : Array Value} {v : Nat → Nat → Value} {j : Nat} {w w' : World} (h : MovR W0 es i L P cL mb K S g4 cs v j w) (hb : Below w.heap.size w w') : MovR W0 es i L P cL mb K S g4 cs v j w' :=
  ⟨h.m.below hb, (hb.block _ (blk_lt h.e)).trans h.e, h.l.below hb, h.g⟩
theorem MovR.put {W0 : World} {es : List Ed} {i : Nat} {L : List Nat} {P : Option Addr} {cL mb K S g4 : Nat} {cs : Array Value} {v : Nat → Nat → Value} {j : Nat} {Y : World} (h : MovR W0 es i L P cL mb K S g4 cs v j Y)
    (hL : L = letTo (ed es i).p (ed es i).q K) (hj : j < L.length) (hx : wd L j < K) {kf : Nat} (hk : kf < S) (hf : (ed es i).fr = kf) {Z : World} {u : Value} (hg : Y.grownBy Z (v (wd L j) kf).ownBlock)
    (ho : Z.ownsRow (mb + 1 + K) 3 1 u ((mvP es i L j (wd L j) kf).length + 1) (zvs (mvP es i L j (wd L j) kf) ++ [.int .i64 (ed es i).to])) (hob : u.ownBlock = (v (wd L j) kf).ownBlock ∨ u.ownBlock = some Y.heap.size) :
    Z.heap[mb]? = some (.cells (cells K (rowM mb S)) 51 (0, 0)) ∧ Z.heap[g4]? = some (.cells cs 30 (0, 0)) ∧ Z.heap[mb + 1 + wd L j]? = some (.cells (cells S (v (wd L j))) 23 (0, 0)) ∧ MovR W0 es i L P cL mb K S g4 cs (fun x k => if x = wd L j ∧ k = kf then u else v x k) (j + 1) (Z.setCell ⟨mb + 1 + wd L j, kf, none⟩ u) := by
  obtain ⟨h0, h1, h2, h3⟩ := h.m.put hx hk hg ho hob
  have hgg := h.g
  refine ⟨h0 _ _ _ _ h.m.o (by decide), h0 _ _ _ _ h.e (by decide), h2, h3.congr fun x hxx k hkk => ?_, h1 _ _ _ _ h.e (by decide) (by omega), ?_, h.g⟩
  · rw [mvP_step hL hj, hf]
  · have hv0 := h.m.own _ hx _ hk
    have hl1 := h.l.kept hg (row_ne h.l hv0 (by decide))
    exact row_put hl1 (own_ne h2 hl1 (by decide)) _ _
theorem cell_lt {w : World} {b o : Nat} {v : Value} (h : w.cell? ⟨b, o, none⟩ = some v) : b < w.heap.size := World.block_lt_of_cell? w _ h
/-- What movesOf leaves. -/
def MovPost (w : World) (es : List Ed) (K S : Nat) (e : Ending) (w' : World) : Prop := ∃ mb, e = .returned (.slice (some ⟨mb, 0, none⟩) K K) ∧ MovAt w' mb K S (mvF es) ∧ Below w.heap.size w w'
set_option maxHeartbeats 8000000 in
theorem movesOf_any (n : Na) (A B C : Option Addr) (a b c : Nat) (w : World) (hx : NaAt w n A B C) (hl : NaLen n) (hO : Ok n) :
    Calls Tryd.prog 64 #[.agg #[.int .i64 n.V, .int .i64 n.S, .slice A n.st.length a, .slice B n.fi.length b, .slice C n.es.length c]] w (MovPost w n.es (2 ^ n.V.toNat) n.S.toNat) := by
  have hB0 := Blk.new w (.int .i64 n.V) (.int .i64 n.S) (.slice A n.st.length a) (.slice B n.fi.length b) (.slice C n.es.length c)
  have hb0 := bal (Below.refl w.heap.size w) (.cells #[.int .i64 n.V, .int .i64 n.S, .slice A n.st.length a, .slice B n.fi.length b, .slice C n.es.length c] 26)
  obtain ⟨v, hv⟩ : ∃ v : Nat, n.V = v := ⟨n.V.toNat, by have := hO.v0; omega⟩
  obtain ⟨s, hs⟩ : ∃ s : Nat, n.S = s := ⟨n.S.toNat, by have := hO.s0; omega⟩
  have hv6 : v ≤ 6 := by have := hO.v6; omega
  have hs64 : s ≤ 64 := by have := hO.s64; omega
  have hes := hx.es
  have hle := hl.es
  have hin := Lib.hid fun (k : Nat) (hk : k < n.es.length) => show ∃ f t : Nat, (ed n.es k).fr = f ∧ (ed n.es k).to = t ∧ f < s ∧ t < s ∧ Cube (ed n.es k).p (ed n.es k).q v by
    have h1 := edE_in (hO.ed _ (ed_mem hk))
    obtain ⟨v', hv', hC⟩ := chk_ok h1.2.2
    obtain rfl : v = v' := by omega
    exact ⟨(ed n.es k).fr.toNat, (ed n.es k).to.toNat, by omega, by omega, by omega, by omega, hC⟩
  rw [hv, hs, Int.toNat_natCast, Int.toNat_natCast]
  rw [hv, hs] at hB0 hb0
  have HL := Lib.hid fun X => lettersOver_any v X hv6
  have hK64 : 2 ^ v ≤ 64 := Dg.pow7 hv6
  have hKd := Lib.hid (rfl : 2 ^ v = 2 ^ v)
  have HKv : Hid (2 ^ v = 2 ^ v) := rfl
  clear hx hl hO hv hs
  obtain ⟨K, hK⟩ : ∃ K, K = 2 ^ v := ⟨_, rfl⟩
  have HK := Lib.hid hK
  rw [← hK] at HL hK64 ⊢
  clear hK hKd HKv
  have hm1 := made_moves K (by omega)
  have hm2 := made_rows s (by omega)
  generalize n.es = es at *
  generalize n.st.length = ns at *
  generalize n.fi.length = nf at *
  go_enter Tryd.func64, Tryd.ntmps64
  go_upto_region 1 with fail
  generalize w.alloc (.cells #[.int .i64 v, .int .i64 s, .slice A ns a, .slice B nf b, .slice C es.length c] 26) = W0 at *
  have hg0 := blk_lt hB0
  generalize hgw : w.heap.size = g0 at hB0 hg0 ⊢
  have hW0 : w.heap.size ≤ W0.heap.size := by have := hb0.size; omega
  obtain ⟨mb, hmb⟩ : ∃ mb, mb = W0.heap.size := ⟨_, rfl⟩
  have HMB := Lib.hid hmb
  have HS := MovT.start W0 K s
  rw [← hmb] at HS hg0
  have HS := Lib.hid HS
  obtain ⟨z0, z1, z2, z3, z4⟩ := hB0.cells
  clear hgw
  go_wp2_with (go_at_call 60; ((with_reducible refine (HL.out _).mono ?_); rintro e w2 ⟨rfl, rfl⟩))
  rw [← hmb]
  clear hmb z0 z1 z2 z3 z4
  go_loopw [17] (fun i wr => ∃ k : Nat, k ≤ K ∧ i = .int .i64 k ∧ MovT W0 wr mb K s k) (fun i _ => K - (intOf i).toNat)
  case atStart => exact ⟨0, by omega, rfl, HS.out⟩
  case round =>
    clear HS
    obtain ⟨k, hk, rfl, hM⟩ := hrel
    have hbl := (show W0.heap[g0]? = _ from hB0)
    have hcl : Blk wr g0 (.int .i64 v) (.int .i64 s) (.slice A ns a) (.slice B nf b) (.slice C es.length c) := (hM.b.block g0 hg0).trans hB0
    obtain ⟨z0, z1, z2, z3, z4⟩ := hcl.cells
    by_cases hlt : k < K
    · have hN := Lib.hid (hM.next hlt)
      have h1 := box_old (o' := .cells (cells s fun _ => .slice none 0 0) 23) hM.o
      have f1 := free_of h1 k
      have c1 := cell_of h1 (i := k) (by omega)
      have hmb2 : mb < (wr.alloc (.cells (cells s fun _ => .slice none 0 0) 23)).heap.size := blk_lt h1
      have hk2 : (k : Int) < (K : Int) := by omega
      clear hM h1 hbl hcl
      go_wp2
      go_roundw
      case rel => exact ⟨k + 1, by omega, by go_num, hN.out⟩
      case measure => simp [intOf]; omega
    · obtain rfl : k = K := by omega
      have hM1 := hM.done
      have HRT := Lib.hid hm2
      clear hm1 hm2 hbl hcl hM
      go_wp2
      clear z0 z1 z2 z3 z4
      go_loopw [30] (fun i wq => ∃ (k1 : Nat) (vv : Nat → Nat → Value), k1 ≤ es.length ∧ i = .int .i64 k1 ∧ MovO W0 wq mb k s vv (mvF (es.take k1))) (fun i _ => es.length - (intOf i).toNat)
      case atStart => exact ⟨0, _, Nat.zero_le _, rfl, hM1⟩
      case round =>
        clear hM1
        obtain ⟨i, vv, hi, rfl, hM⟩ := hrel
        have hbm : Below mb W0 wr := hM.b
        have hcl : Blk wr g0 (.int .i64 v) (.int .i64 s) (.slice A ns a) (.slice B nf b) (.slice C es.length c) := (hM.b.block g0 hg0).trans hB0
        obtain ⟨z0, z1, z2, z3, z4⟩ := hcl.cells
        by_cases hlt : i < es.length
        · have hbw : Below w.heap.size w wr := hb0.trans (hM.b.mono (by have := HMB.out; omega))
          obtain ⟨hok, ad, rfl, had, hc⟩ := (hes.below hbw) i hlt
          obtain ⟨q0, q1, q2, q3⟩ := four_at hc
          obtain ⟨kf, tz, hf, ht, hfs, hts, hC⟩ := hin.out i hlt
          have hHf := Lib.hid hf
          have hHt := Lib.hid ht
          rw [hf] at q0
          rw [ht] at q1
          have hp := hok.p
          have hq := hok.q
          clear hf ht hc hok had
          have hbe := bal (Below.refl wr.heap.size wr) (.cells #[.int .i64 kf, .int .i64 tz, .int .u8 (ed es i).p, .int .u8 (ed es i).q] 30)
          have hE4 := World.alloc_heap_new wr (.cells #[.int .i64 kf, .int .i64 tz, .int .u8 (ed es i).p, .int .u8 (ed es i).q] 30)
          have hB4 := Boxed4.new wr 30 (.int .i64 kf) (.int .i64 tz) (.int .u8 (ed es i).p) (.int .u8 (ed es i).q)
          have hM4 := hM.below hbe
          have hgs := hM.s
          have hLd := Lib.hid fun X => Cu.Letters_ok (ed es i).p (ed es i).q v X hC
          rw [← HK.out] at hLd
          have hcl4 := hcl.below hbe
          go_upto_region 10 with fail
          clear hM hbe z0 z1 z2 z3 z4 q0 q1 q2 q3 hcl hbw hbm
          generalize World.alloc wr (.cells #[.int .i64 kf, .int .i64 tz, .int .u8 (ed es i).p, .int .u8 (ed es i).q] 30) = W1 at *
          generalize wr.heap.size = g4 at *
          have hg4 := blk_lt hE4
          obtain ⟨e0, e1, e2, e3⟩ := hB4.cells
          obtain ⟨z0, z1, z2, z3, z4⟩ := hcl4.cells
          obtain ⟨L, hL⟩ : ∃ L, L = letTo (ed es i).p (ed es i).q k := ⟨_, rfl⟩
          have HLL := Lib.hid hL
          rw [← hL] at hLd
          have hLk : L.length ≤ k := by
            rw [hL]
            unfold letTo
            exact Nat.le_trans (List.length_filter_le _ _) (by rw [List.length_range]; exact Nat.le_refl _)
          have hLx := Lib.hid fun j (hj : j < L.length) => show wd L j < k by
            have : wd L j ∈ letTo (ed es i).p (ed es i).q k := by
              rw [← hL]
              unfold wd
              rw [List.getD_eq_getElem?_getD, List.getElem?_eq_getElem hj]
              exact List.getElem_mem hj
            unfold letTo at this
            exact List.mem_range.1 (List.mem_filter.1 this).1
          have hEnd : Hid (∀ x, x < k → ∀ kk, mvP es i L L.length x kk = mvF (es.take (i + 1)) x kk) := fun x hxx kk => by rw [hL]; exact mvP_end hlt hxx kk
          clear hL
          generalize hpe : (ed es i).p = p at *
          generalize hqe : (ed es i).q = q at *
          clear hC hp hq hB4
          go_wp2_with (go_at_call 100; ((with_reducible refine (hLd.out _).mono ?_); rintro e w3 ⟨u, rfl, ho3, hb3⟩); obtain ⟨P3, c3, rfl, _⟩ := Ap.own_form ho3)
          have hR0 : MovR W0 es i L P3 c3 mb k s g4 #[.int .i64 kf, .int .i64 tz, .int .u8 p, .int .u8 q] vv 0 w3 :=
            ⟨(hM4.below hb3).congr fun x hxx kk hkk => (mvP_zero es i L x kk).symm, (hb3.block _ hg4).trans hE4, ownsRow_mono ho3 (by omega), hgs⟩
          clear hM4 ho3 hb3 e0 e1 e2 e3 z0 z1 z2 z3 z4 hE4 hcl4 hLd hg4
          obtain ⟨wo, rfl⟩ : ∃ wo : World, wo = w3 := ⟨_, rfl⟩
          go_loopw [47] (fun jv wj => ∃ (j : Nat) (v1 : Nat → Nat → Value), j ≤ L.length ∧ jv = .int .i64 j ∧ MovR W0 es i L P3 c3 mb k s g4 #[.int .i64 kf, .int .i64 tz, .int .u8 p, .int .u8 q] v1 j wj) (fun jv _ => L.length - (intOf jv).toNat)
          case atStart => exact ⟨0, vv, Nat.zero_le _, rfl, hR0⟩
          case round =>
            clear hR0
            obtain ⟨j, v1, hj, rfl, hR⟩ := hrel
            by_cases hjl : j < L.length
            · obtain ⟨ad3, hP3, hc3⟩ := (own_bys hR.l rfl).at_ hjl
              subst hP3
              have hxk := hLx.out j hjl
              have hxk2 : ((wd L j : Nat) : Int) < (k : Int) := by omega
              have hfs2 : (kf : Int) < (s : Int) := by omega
              have hov := hR.m.own _ hxk _ hfs
              obtain ⟨A1, c1, hv1, hcap⟩ := Ap.own_form hov
              have hPut := Lib.hid fun (Y Z : World) u hg ho hob (hY : MovR W0 es i L (some ad3) c3 mb k s g4 #[.int .i64 kf, .int .i64 tz, .int .u8 p, .int .u8 q] v1 j Y) => hY.put (Z := Z) (u := u) (by rw [hpe, hqe]; exact HLL.out) hjl hxk hfs hHf.out hg ho hob
              rw [hHt.out, hv1] at hPut
              have s0 := cell_of hR.m.o (i := wd L j) hxk
              have s1 := cell_of (hR.m.r _ hxk) (i := kf) hfs
              rw [hv1] at s1
              rw [hv1] at hov
              unfold rowM at s0
              have s2 : wr.cell? ⟨g4, 0, none⟩ = some (.int .i64 kf) := by simp [World.cell?, hR.e]
              have s3 : wr.cell? ⟨g4, 1, none⟩ = some (.int .i64 tz) := by simp [World.cell?, hR.e]
              have hml : (mvP es i L j (wd L j) kf).length ≤ 1000000 := by
                unfold mvP mvF
                rw [List.length_append, List.length_map]
                have h1 := List.length_filter_le (fun e => cHas e.p e.q (wd L j) && decide (e.fr = (kf : Int))) (es.take i)
                have h2 : (es.take i).length ≤ i := by rw [List.length_take]; omega
                have h3 : (if wd L j ∈ L.take j ∧ (ed es i).fr = kf then [(ed es i).to] else []).length ≤ 1 := by split <;> simp
                omega
              have hHv := Lib.hid hv1
              have HR := Lib.hid hR
              have hbase : mb + 1 + k ≤ wr.heap.size := hR.m.s
              clear hv1 hR hcap
              generalize hxw : wd L j = x at *
              generalize mvP es i L j x kf = F at *
              obtain ⟨i0, hi0, hz0, hz1, hz2⟩ := info_parts info_int6
              go_upto_region 14 with fail
              refine wp_region_any (by kernel_rfl) ?_
              change wpAny _ _ _ _ _ _ _ (World.drew _)
              have hRd : MovR W0 es i L (some ad3) c3 mb k s g4 #[.int .i64 kf, .int .i64 tz, .int .u8 p, .int .u8 q] v1 j wr.drew := HR.out.below (drew_below wr)
              have hS0 : (fun X : World => X.cell? ⟨mb, x, none⟩ = some (.slice (some ⟨mb + 1 + x, 0, none⟩) s s) ∧ X.cell? ⟨mb + 1 + x, kf, none⟩ = some (.slice A1 F.length c1) ∧ X.cell? ⟨g4, 0, none⟩ = some (.int .i64 kf) ∧ X.cell? ⟨g4, 1, none⟩ = some (.int .i64 tz)) wr.drew := ⟨s0, s1, s2, s3⟩
              have hovd := hov.below (drew_below wr)
              have hbd : mb + 1 + k ≤ wr.drew.heap.size := hbase
              clear s0 s1 s2 s3 hov hc3 hbase HR
              generalize wr.drew = X0 at *
              have hb1 := bal (Below.refl X0.heap.size X0) (.cells #[.int .i64 tz] 3)
              have hS1 : (fun X : World => X.cell? ⟨mb, x, none⟩ = some (.slice (some ⟨mb + 1 + x, 0, none⟩) s s) ∧ X.cell? ⟨mb + 1 + x, kf, none⟩ = some (.slice A1 F.length c1) ∧ X.cell? ⟨g4, 0, none⟩ = some (.int .i64 kf) ∧ X.cell? ⟨g4, 1, none⟩ = some (.int .i64 tz)) (X0.alloc (.cells #[.int .i64 tz] 3)) := ⟨(hb1.cell (p := ⟨mb, x, none⟩) (cell_lt hS0.1)).trans hS0.1, (hb1.cell (p := ⟨mb + 1 + x, kf, none⟩) (cell_lt hS0.2.1)).trans hS0.2.1, (hb1.cell (p := ⟨g4, 0, none⟩) (cell_lt hS0.2.2.1)).trans hS0.2.2.1, (hb1.cell (p := ⟨g4, 1, none⟩) (cell_lt hS0.2.2.2)).trans hS0.2.2.2⟩
              have hR1 := hRd.below hb1
              have hov1 := hovd.below hb1
              have hn1 := cell_one X0 3 (.int .i64 tz)
              refine wpAny_head 18 18 (fun X : World => X.cell? ⟨mb, x, none⟩ = some (.slice (some ⟨mb + 1 + x, 0, none⟩) s s) ∧ X.cell? ⟨mb + 1 + x, kf, none⟩ = some (.slice A1 F.length c1) ∧ X.cell? ⟨g4, 0, none⟩ = some (.int .i64 kf) ∧ X.cell? ⟨g4, 1, none⟩ = some (.int .i64 tz)) rfl rfl (by kernel_rfl) (by kernel_rfl) (by kernel_rfl) (fun hA => ?_)
              refine wpHead_take (i := 0) (v := ?_) (by kernel_rfl) hA (at_drop rfl) (by decide) (by kernel_rfl) (by kernel_rfl) (by kernel_rfl) (fun _ _ _ h => h) (Or.inl ⟨by rfl, ?_⟩) hS0 (fun hA => ?_)
              rotate_left
              · (intro w hSw; obtain ⟨s0, s1, s2, s3⟩ := hSw; go_simp <;> with_reducible rfl)
              simp only [Act.put, List.setIfInBounds_toArray, List.set_cons_zero, List.set_cons_succ]
              refine wpHead_take (i := 1) (v := ?_) (by kernel_rfl) hA (at_drop rfl) (by decide) (by kernel_rfl) (by kernel_rfl) (by kernel_rfl) (fun _ _ _ h => h) (Or.inl ⟨by rfl, ?_⟩) hS0 (fun hA => ?_)
              rotate_left
              · (intro w hSw; obtain ⟨s0, s1, s2, s3⟩ := hSw; go_simp <;> with_reducible rfl)
              simp only [Act.put, List.setIfInBounds_toArray, List.set_cons_zero, List.set_cons_succ]
              refine wpHead_take (i := 2) (v := ?_) (by kernel_rfl) hA (at_drop rfl) (by decide) (by kernel_rfl) (by kernel_rfl) (by kernel_rfl) (fun _ _ _ h => h) (Or.inl ⟨by rfl, ?_⟩) hS0 (fun hA => ?_)
              rotate_left
              · (intro w hSw; obtain ⟨s0, s1, s2, s3⟩ := hSw; go_simp <;> with_reducible rfl)
              simp only [Act.put, List.setIfInBounds_toArray, List.set_cons_zero, List.set_cons_succ]
              refine wpHead_take (i := 3) (v := ?_) (by kernel_rfl) hA (at_drop rfl) (by decide) (by kernel_rfl) (by kernel_rfl) (by kernel_rfl) (fun _ _ _ h => h) (Or.inl ⟨by rfl, ?_⟩) hS0 (fun hA => ?_)
              rotate_left
              · (intro w hSw; obtain ⟨s0, s1, s2, s3⟩ := hSw; go_simp <;> with_reducible rfl)
              simp only [Act.put, List.setIfInBounds_toArray, List.set_cons_zero, List.set_cons_succ]
              refine wpHead_take (i := 4) (v := ?_) (by kernel_rfl) hA (at_drop rfl) (by decide) (by kernel_rfl) (by kernel_rfl) (by kernel_rfl) (fun _ _ _ h => h) (Or.inl ⟨by rfl, ?_⟩) hS0 (fun hA => ?_)
              rotate_left
              · (intro w hSw; obtain ⟨s0, s1, s2, s3⟩ := hSw; go_simp <;> with_reducible rfl)
              simp only [Act.put, List.setIfInBounds_toArray, List.set_cons_zero, List.set_cons_succ]
              refine wpHead_take (i := 5) (v := ?_) (by kernel_rfl) hA (at_drop rfl) (by decide) (by kernel_rfl) (by kernel_rfl) (by kernel_rfl) (fun _ _ _ h => h) (Or.inl ⟨by rfl, ?_⟩) hS0 (fun hA => ?_)
              rotate_left
              · (intro w hSw; obtain ⟨s0, s1, s2, s3⟩ := hSw; go_simp <;> with_reducible rfl)
              simp only [Act.put, List.setIfInBounds_toArray, List.set_cons_zero, List.set_cons_succ]
              refine wpHead_take (i := 6) (v := ?_) (by kernel_rfl) hA (at_drop rfl) (by decide) (by kernel_rfl) (by kernel_rfl) (by kernel_rfl) (fun _ _ _ h => h) (Or.inl ⟨by rfl, ?_⟩) hS0 (fun hA => ?_)
              rotate_left
              · (intro w hSw; obtain ⟨s0, s1, s2, s3⟩ := hSw; go_simp <;> with_reducible rfl)
              simp only [Act.put, List.setIfInBounds_toArray, List.set_cons_zero, List.set_cons_succ]
              refine wpHead_take (i := 7) (v := ?_) (by kernel_rfl) hA (at_drop rfl) (by decide) (by kernel_rfl) (by kernel_rfl) (by kernel_rfl) (fun _ _ _ h => h) (Or.inl ⟨by rfl, ?_⟩) hS0 (fun hA => ?_)
              rotate_left
              · (intro w hSw; obtain ⟨s0, s1, s2, s3⟩ := hSw; go_simp <;> with_reducible rfl)
              simp only [Act.put, List.setIfInBounds_toArray, List.set_cons_zero, List.set_cons_succ]
              refine wpHead_take (i := 8) (v := ?_) (by kernel_rfl) hA (at_drop rfl) (by decide) (by kernel_rfl) (by kernel_rfl) (by kernel_rfl) (fun _ _ _ h => h) (Or.inl ⟨by rfl, ?_⟩) hS0 (fun hA => ?_)
              rotate_left
              · (intro w hSw; obtain ⟨s0, s1, s2, s3⟩ := hSw; go_simp <;> with_reducible rfl)
              simp only [Act.put, List.setIfInBounds_toArray, List.set_cons_zero, List.set_cons_succ]
              refine wpHead_take (i := 9) (v := ?_) (by kernel_rfl) hA (at_drop rfl) (by decide) (by kernel_rfl) (by kernel_rfl) (by kernel_rfl) (fun _ _ _ h => h) (Or.inl ⟨by rfl, ?_⟩) hS0 (fun hA => ?_)
              rotate_left
              · (intro w hSw; obtain ⟨s0, s1, s2, s3⟩ := hSw; go_simp <;> with_reducible rfl)
              simp only [Act.put, List.setIfInBounds_toArray, List.set_cons_zero, List.set_cons_succ]
              refine wpHead_take (i := 10) (v := ?_) (by kernel_rfl) hA (at_drop rfl) (by decide) (by kernel_rfl) (by kernel_rfl) (by kernel_rfl) (fun _ _ _ h => h) (Or.inl ⟨by rfl, ?_⟩) hS0 (fun hA => ?_)
              rotate_left
              · (intro w hSw; obtain ⟨s0, s1, s2, s3⟩ := hSw; go_simp <;> with_reducible rfl)
              simp only [Act.put, List.setIfInBounds_toArray, List.set_cons_zero, List.set_cons_succ]
              refine wpHead_take (i := 11) (v := ?_) (by kernel_rfl) hA (at_drop rfl) (by decide) (by kernel_rfl) (by kernel_rfl) (by kernel_rfl) (fun _ _ _ h => h) (Or.inl ⟨by rfl, ?_⟩) hS0 (fun hA => ?_)
              rotate_left
              · (intro w hSw; obtain ⟨s0, s1, s2, s3⟩ := hSw; go_simp <;> with_reducible rfl)
              simp only [Act.put, List.setIfInBounds_toArray, List.set_cons_zero, List.set_cons_succ]
              refine wpHead_take (i := 12) (v := ?_) (by kernel_rfl) hA (at_drop rfl) (by decide) (by kernel_rfl) (by kernel_rfl) (by kernel_rfl) (fun _ _ _ h => h) (Or.inl ⟨by rfl, ?_⟩) hS0 (fun hA => ?_)
              rotate_left
              · (intro w hSw; obtain ⟨s0, s1, s2, s3⟩ := hSw; go_simp <;> with_reducible rfl)
              simp only [Act.put, List.setIfInBounds_toArray, List.set_cons_zero, List.set_cons_succ]
              refine wpHead_take (i := 13) (v := ?_) (by kernel_rfl) hA (at_drop rfl) (by decide) (by kernel_rfl) (by kernel_rfl) (by kernel_rfl) (fun _ _ _ h => h) (Or.inl ⟨by rfl, ?_⟩) hS0 (fun hA => ?_)
              rotate_left
              · (intro w hSw; obtain ⟨s0, s1, s2, s3⟩ := hSw; go_simp <;> with_reducible rfl)
              simp only [Act.put, List.setIfInBounds_toArray, List.set_cons_zero, List.set_cons_succ]
              refine wpHead_take (i := 14) (v := ?_) (by kernel_rfl) hA (at_drop rfl) (by decide) (by kernel_rfl) (by kernel_rfl) (by kernel_rfl) (fun _ _ _ h => h) (Or.inl ⟨by rfl, ?_⟩) hS0 (fun hA => ?_)
              rotate_left
              · (intro w hSw; obtain ⟨s0, s1, s2, s3⟩ := hSw; go_simp <;> with_reducible rfl)
              simp only [Act.put, List.setIfInBounds_toArray, List.set_cons_zero, List.set_cons_succ]
              refine wpHead_take (i := 15) (v := ?_) (by kernel_rfl) hA (at_drop rfl) (by decide) (by kernel_rfl) (by kernel_rfl) (by kernel_rfl) (fun _ _ _ h => h) (Or.inl ⟨by rfl, ?_⟩) hS0 (fun hA => ?_)
              rotate_left
              · (intro w hSw; obtain ⟨s0, s1, s2, s3⟩ := hSw; go_simp <;> with_reducible rfl)
              simp only [Act.put, List.setIfInBounds_toArray, List.set_cons_zero, List.set_cons_succ]
              have hA16 := hnext hA (rs := [16]) (i := 16) (by kernel_rfl) (by decide) (by decide)
              refine wpHead_ready (rs := [16]) (by kernel_rfl) (by decide) (AllHead.cons (at_drop rfl) (by decide) (fun KK hK => ?_) AllHead.nil)
              replace hA := hA16
              go_simp
              generalize (World.alloc X0 (.cells #[.int .i64 tz] 3)) = X1 at *
              refine hK _ _ hS1 ?_
              clear hK KK
              try simp only [Act.put, List.setIfInBounds_toArray, List.set_cons_zero, List.set_cons_succ]
              have hA17 := hnext hA (rs := [17]) (i := 17) (by kernel_rfl) (by decide) (by decide)
              refine wpHead_ready (rs := [17]) (by kernel_rfl) (by decide) (AllHead.cons (at_drop rfl) (by decide) (fun KK hK => ?_) AllHead.nil)
              replace hA := hA17
              refine step_append rfl (.tmp 64) (.tmp 67) 23 rfl (mb + 1 + k) 3 i0 (.int .i64 0) 1 8 Tryd.underlying23 hi0 hz0 hz1 hz2 rfl (by decide) (.slice A1 F.length c1) F.length (zvs F) (by simp [Act.eval]) hov1 ⟨X0.heap.size, 0, none⟩ 1 1 [.int .i64 tz] (by simp [Act.eval]) rfl hn1 (by simp [Value.oneCell']) (by unfold maxLen; omega) (by omega) (by have := hb1.size; omega) ?_
              intro A2 c2 Z ho2 hg2 hob2
              obtain ⟨hmZ, heZ, hrZ, hRZ⟩ := hPut.out X1 Z _ hg2 ho2 hob2 hR1
              have hSZ : (fun X : World => X.cell? ⟨mb, x, none⟩ = some (.slice (some ⟨mb + 1 + x, 0, none⟩) s s) ∧ X.cell? ⟨mb + 1 + x, kf, none⟩ = some (.slice A1 F.length c1) ∧ X.cell? ⟨g4, 0, none⟩ = some (.int .i64 kf) ∧ X.cell? ⟨g4, 1, none⟩ = some (.int .i64 tz)) Z := ⟨cell_of hmZ hxk, (cell_of hrZ hfs).trans (congrArg some hHv.out), by simp [World.cell?, heZ], by simp [World.cell?, heZ]⟩
              refine hK _ _ hSZ ?_
              clear hK KK
              try simp only [Act.put, List.setIfInBounds_toArray, List.set_cons_zero, List.set_cons_succ]
              have f1 := free_of hrZ kf
              have c1' := cell_of hrZ (i := kf) hfs
              have hltZ := blk_lt hrZ
              have HRZ := Lib.hid hRZ
              clear hRZ hrZ hmZ heZ hov1 hn1 hS1 hR1 hA ho2 hg2 hob2 hPut hb1
              refine wpHead_end (by kernel_rfl) ?_
              simp only [List.drop_succ_cons, List.drop_zero]
              go_wp2
              go_roundw
              case rel => exact ⟨j + 1, _, by omega, by go_num, HRZ.out⟩
              case measure => simp [intOf]; omega
            · obtain rfl : j = L.length := by omega
              have hMe := hR.m.congr fun x hxx kk _ => hEnd.out x hxx kk
              have HMe := Lib.hid hMe
              clear hR hMe hEnd
              go_wp2
              go_roundw
              case rel => exact ⟨i + 1, v1, by omega, by go_num, HMe.out⟩
              case measure => simp [intOf]; omega
        · obtain rfl : i = es.length := by omega
          have hMe : MovO W0 wr mb k s vv (mvF es) := by
            have := hM
            rwa [List.take_length] at this
          have HMe := Lib.hid hMe.at_
          have HBe := Lib.hid (hb0.trans (hM.b.mono (by have := HMB.out; omega)))
          clear hM hMe
          go_wp2
          go_ret
          exact ⟨mb, rfl, HMe.out, HBe.out⟩
end Go.Proofs.YteckkbjpeckjmaaDoor.Sb
