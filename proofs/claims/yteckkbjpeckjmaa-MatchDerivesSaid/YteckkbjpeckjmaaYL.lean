/- Format of package cube. -/
import Derived.Test.YteckkbjpeckjmaaYK
import Derived.Test.YteckkbjpeckjmaaYS
import Derived.Test.YteckkbjpeckjmaaCP
namespace Go.Proofs.Yteckkbjpeckjmaa
open Go Go.RowKit Go.Shelf Go.Proofs.Yteckkbjpeckjmaa.Cb
set_option maxRecDepth 100000
attribute [local go_sem] Oper.semAt_some
theorem byteCells_snoc (l : List UInt8) (c : UInt8) : Lib.byteCells (l ++ [c]) = Lib.byteCells l ++ [.int .u8 (c.toNat : Nat)] := by simp [Lib.byteCells]
theorem lit_byte (k : Nat) (h : k < 6) : ((UInt8.ofNat (97 + k)).toNat : Nat) = 97 + k := by
  simp; omega
theorem exc_builder {N b : Nat} {W W' : World} {T : TypeId} {u v : Value} (hN : N = b + 2) (hb : Below b W W') (ho : Lib.OthersKept 5 (some b) W W') (hc : W.heap[b + 1]? = some (.cells #[u, v] T (0, 0))) (hT : T ≠ 5) : Exc [b] N W W' :=
  ⟨hb.os, hb.tape, hb.output, hb.size, fun k hk hn => by
    have hne : k ≠ b := by simpa using hn
    by_cases hlt : k < b
    · exact hb.block k hlt
    · obtain rfl : k = b + 1 := by omega
      refine (ho _ _ hc (by simp) ?_).trans hc.symm
      rintro c fz e
      cases e
      exact hT rfl⟩
theorem builder_cells {T e : TypeId} {B b : Nat} {bs : List Value} {w : World} (h : Lib.IsBuilderF T e B b bs w) : ∀ k, some b = some k → ∃ o : Obj, w.heap[k]? = some o ∧ o.isCells = true := by
  rintro k rfl'
  cases rfl'
  rcases h with ⟨_, v, hb, _⟩ | ⟨_, v, hb, _⟩
  · exact ⟨_, hb, rfl⟩
  · exact ⟨_, hb, rfl⟩
set_option maxHeartbeats 2000000 in
theorem Format_in (n : Nat) (hn : 4 ≤ n) (p q v : Nat) (w : World) (hC : Cube p q v) :
    CallsIn Fence.wide n Try.prog 86 #[.agg #[.int .u8 p, .int .u8 q], .int .i64 v] w fun e w' =>
      e = .returned (.tuple #[.string ⟨(fmtT p q).toArray⟩, .int .i64 0]) ∧ Below w.heap.size w w' := by
  have hfn : ∀ f, Fence.wide.fn f := fun _ => trivial
  have h1 : 1 ≤ n := by omega
  have hlt := hC.lt
  have hp : p < 256 := by omega
  have hq : q < 256 := by omega
  have HK : Hid (∀ w, CallsIn Fence.wide (n - 1) Try.prog 62 #[.agg #[.int .u8 p, .int .u8 q], .int .i64 v] w fun e w' => e = .returned (.int .i64 0) ∧ Below w.heap.size w w') := fun w => by
    have := Check_any p q v w hp hq
    rw [hC.chk] at this
    exact callsIn_wide.2 this
  refine callsIn_of_wp_marks Try.func86 rfl trivial ?_ rfl
  simp only [Try.ntmps86, List.size_toArray, List.length_cons, List.length_nil, Nat.reduceAdd, Nat.reduceSub, Array.replicate_succ, Array.replicate_zero, List.push_toArray, List.append_toArray, List.nil_append, List.cons_append]
  have bC := World.alloc_heap_new w (.cells #[.int .u8 (p : Nat), .int .u8 (q : Nat)] 103)
  gi_wp2_with (first
    | (gi_at_call 62; refine (HK.out _).mono ?_; rintro e w1 ⟨rfl, hb1⟩; have bC1 : w1.heap[w.heap.size]? = some (.cells #[.int .u8 (p : Nat), .int .u8 (q : Nat)] 103 (0, 0)) := (hb1.block _ (by simp)).trans bC; have hb2 : Below w.heap.size w w1 := stepB ((Below.refl _ w).alloc (Nat.le_refl _) _) hb1; have hs1 : w.heap.size + 1 ≤ w1.heap.size := (by have := hb1.size; simpa using this); have bC2 := fun o => (Below.heap_alloc w1 o w.heap.size (by omega)).trans bC1; have q0 : ∀ o, (w1.alloc o).cell? ⟨w.heap.size, 0, none⟩ = some (.int .u8 p) := (fun o => by simp [World.cell?, bC2 o]); have q1 : ∀ o, (w1.alloc o).cell? ⟨w.heap.size, 1, none⟩ = some (.int .u8 q) := (fun o => by simp [World.cell?, bC2 o]); clear bC hb1 HK bC1 bC2)
    | (gi_at_call 106; refine (callsIn_wide.2 (literals_any _ _ _)).mono ?_; rintro e w' ⟨rfl, rfl⟩))
  obtain ⟨b, hb⟩ : ∃ b, b = w1.heap.size := ⟨_, rfl⟩
  have bB : Lib.IsBuilderF 87 5 b b [] ((w1.alloc (.cells #[.pointer none, .slice none 0 0] 87)).alloc (.cells #[.int .u8 p, .int .u8 q] 103)) := by
    rw [hb]
    exact Lib.IsBuilderF.alloc (.inl ⟨Nat.le_refl _, _, World.alloc_heap_new w1 _, World.ownsRowF_nil _ _ _ _, by simp [Value.ownBlock]⟩) _
  have bN := World.alloc_heap_new (w1.alloc (.cells #[.pointer none, .slice none 0 0] 87)) (.cells #[.int .u8 (p : Nat), .int .u8 (q : Nat)] 103)
  rw [World.size_alloc] at bN
  have hx0 : Below w.heap.size w ((w1.alloc (.cells #[.pointer none, .slice none 0 0] 87)).alloc (.cells #[.int .u8 p, .int .u8 q] 103)) := bal (bal hb2 _) _
  have hsz : ((w1.alloc (.cells #[.pointer none, .slice none 0 0] 87)).alloc (.cells #[.int .u8 p, .int .u8 q] 103)).heap.size = w1.heap.size + 2 := by simp
  obtain ⟨W0, hW0⟩ : ∃ W0, (w1.alloc (.cells #[.pointer none, .slice none 0 0] 87)).alloc (.cells #[.int .u8 p, .int .u8 q] 103) = W0 := ⟨_, rfl⟩
  rw [hW0] at bB bN hx0 hsz ⊢
  rw [← hb] at bN hsz ⊢
  have hwb : w.heap.size < b := by omega
  clear hW0 hb2 q0 q1 hb hs1
  refine wpIn_rangeFunc_ownG rfl h1 (gf := 139) (lb := #[.pointer (some ⟨b + 1, 0, none⟩)]) rfl trivial (enters_of Try.func139 (by kernel_rfl) rfl)
    (literals_stops (n - 1) (by omega) (b + 1) p q (Exc [b] W0.heap.size) hp hq (fun h => h.block _ (by omega) (by simp)) W0 bN) excK_t (excK_b (Nat.le_refl _)) (Below.refl _ _) (fun _ => rfl)
    (fun pre W => Lib.IsBuilderF 87 5 b b (Lib.byteCells (fmtL (vals pre))) W ∧ Exc [b] W0.heap.size W0 W)
    (fun _ _ _ => False)
    (OwnFrom.and (fun s X Y row hs hg hr => hs.kept hg fun r e => (hr r e).2) (ownFrom_exc (Nat.le_refl _) (Nat.le_refl _)))
    (fun _ _ _ _ _ hs _ _ => hs)
    ⟨bB, Exc.refl _ _ _⟩
    (fun x => { tmps := #[.agg #[.int .u8 p, .int .u8 q], .int .i64 v, .pointer (some ⟨w.heap.size, 0, none⟩), undef, .string ⟨#[]⟩, .int .i64 0, .int .i64 0, .pointer (some ⟨b, 0, none⟩), .int .i64 ((x.1.1 : Nat) : Int), .bool x.1.2, .agg #[.int .u8 p, .int .u8 q], .int .i64 v, .int .i64 0, .int .i64 0, .bool false, undef, .agg #[.int .u8 p, .int .u8 q], .func (.func 139) #[] #[.pointer (some ⟨b + 1, 0, none⟩)], .int .i64 ((x.1.1 : Nat) : Int), .bool x.1.2, undef, undef, undef, undef, undef, undef, undef, undef, undef, undef], defers := [] }) ?assign ?body ?done ?stop
  case assign =>
    intro l x W K hK
    gi_wp2
    exact hK
  case body =>
    rintro l pre ⟨⟨k, val⟩, hx⟩ W ⟨hB, hE⟩ hlen
    have hk6 : k < 6 := (mem_lits.1 hx).1
    have hNW : W0.heap.size ≤ W.heap.size := hE.size
    have hl6 := litTo_len p q 6
    have hfl := fmtL_len (vals pre)
    have hF : Hid (Lib.byteCells (fmtL (vals (pre ++ [⟨(k, val), hx⟩]))) = Lib.byteCells (fmtL (vals pre)) ++ Lib.byteCells (litText (k, val))) := by
      show _ = _
      rw [vals_snoc, fmtL_snoc]; simp [Lib.byteCells]
    have hlb : (Lib.byteCells (fmtL (vals pre))).length ≤ 100 := by
      rw [Lib.byteCells_length]
      rw [vals_len] at hfl
      have : (lits p q).length ≤ 6 := hl6
      omega
    have hcb := hE.holds (k := b + 1) (by omega) (by simp) bN
    have h1' : 1 ≤ n - 1 - 1 := by omega
    clear hfl hl6 hlen
    cases val with
    | true =>
      have hLT : Hid (Lib.byteCells (litText (k, true)) = [.int .u8 (97 + k : Int)]) := by
        show _ = _
        simp [litText, Lib.byteCells]; omega
      gi_wp2_with (gi_at_call 57; refine (CallsIn.inRound l (callsIn_wide.2 (WriteByte_any b b _ _ _ hB (by omega) (by omega)))).mono ?_; rintro e W2 ⟨rfl, hB2, hb2, ho2⟩; have hE2 := exc_builder (by omega) hb2 ho2 hcb (by decide); have hk2 := others_kept hb2.size ho2 (builder_cells hB))
      refine ⟨hk2.from _, hE2, ?_, hE.trans hE2⟩
      rw [hF.out, hLT.out]
      exact .inr hB2
    | false =>
      have hLT : Hid (Lib.byteCells (litText (k, false)) = [.int .u8 33] ++ [.int .u8 (97 + k : Int)]) := by
        show _ = _
        simp [litText, Lib.byteCells]; omega
      have tok1 : True := trivial
      gi_wp2_with (first
        | (gi_at_call 57; have _t := tok1; refine (CallsIn.inRound l (callsIn_wide.2 (WriteByte_any b b _ _ _ hB (by omega) (by omega)))).mono ?_; clear tok1; rintro e W2 ⟨rfl, hB2, hb2, ho2⟩; have hE2 := exc_builder (by omega) hb2 ho2 hcb (by decide); have hk2 := others_kept hb2.size ho2 (builder_cells hB); have hcb2 := hE2.holds (k := b + 1) (by omega) (by simp) hcb; have hs2 := hb2.size)
        | (gi_at_call 57; refine (CallsIn.inRound l (callsIn_wide.2 (WriteByte_any b b _ _ _ (.inr hB2) (by simp; omega) (by omega)))).mono ?_; rintro e W3 ⟨rfl, hB3, hb3, ho3⟩; have hE3 := exc_builder (by omega) hb3 ho3 hcb2 (by decide); have hk3 := others_kept hb3.size ho3 (builder_cells (.inr hB2))))
      refine ⟨(hk2.trans hk3).from _, hE2.trans hE3, ?_, hE.trans (hE2.trans hE3)⟩
      rw [hF.out, hLT.out, ← List.append_assoc]
      exact .inr hB3
  case done =>
    rintro D ys W hD hys ⟨hB, hE⟩ hK
    rw [hys] at hB
    clear hys
    have hbW : b ≤ W.heap.size := by have := hE.size; omega
    have HL : Hid (Calls Try.prog 107 #[.pointer (some ⟨b, 0, none⟩)] W fun e w' => e = .returned (.int .i64 (fmtL (lits p q)).length) ∧ W = w') := by
      have := Try.Builder_Len_f b b _ W hB
      rw [Lib.byteCells_length] at this
      exact this.mono fun e w' h => ⟨h.1, h.2.symm⟩
    by_cases h0 : fmtL (lits p q) = []
    · have HT : Hid (fmtT p q = [42]) := by show _ = _; unfold fmtT; rw [if_pos h0]
      rw [h0] at HL
      clear h0
      gi_wp2_with (gi_at_call 107; refine (callsIn_wide.2 HL.out).mono ?_; rintro e W2 ⟨rfl, rfl⟩)
      refine ⟨by simp, .inl ⟨_, _, rfl, run_takeDeferred hK, ?_⟩⟩
      rw [HT.out]
      exact ⟨_, results_tmp2 rfl _ _ _, rfl, (hx0.trans (hE.below (by omega) (by simp; omega))).trans (belowK_b (w := W0) (by omega) W D _ _ hD hK rfl rfl)⟩
    · have HT : Hid (fmtT p q = fmtL (lits p q)) := by show _ = _; unfold fmtT; rw [if_neg h0]
      have hne : ((((fmtL (lits p q)).length : Nat) : Int) == 0) = false := by
        rw [beq_eq_false_iff_ne]
        have : (fmtL (lits p q)).length ≠ 0 := fun e => h0 (List.eq_nil_of_length_eq_zero e)
        omega
      have HS := Lib.hid (Try.Builder_String_any_k b b _ W hB hbW)
      clear h0
      gi_wp2_with (first
        | (gi_at_call 107; refine (callsIn_wide.2 HL.out).mono ?_; rintro e W2 ⟨rfl, rfl⟩)
        | (gi_at_call 58; refine (callsIn_wide.2 HS.out).mono ?_; rintro e W2 ⟨rfl, hB2, hb2, ho2⟩))
      have hK2 := ho2 _ _ hK (by intro e; cases e; omega) (by rintro c fz e; cases e)
      have hbb : Below w.heap.size W W2 := hb2.mono (by omega)
      refine ⟨by simp, .inl ⟨_, _, rfl, run_takeDeferred hK2, ?_⟩⟩
      rw [HT.out]
      exact ⟨_, results_tmp2 rfl _ _ _, rfl, ((hx0.trans (hE.below (by omega) (by simp; omega))).trans hbb).trans (belowK_b (w := W0) (by omega) W2 D _ _ hD hK2 rfl rfl)⟩
  case stop =>
    rintro D c pre W _ _ h _
    exact h.elim
theorem Format_ok (p q v : Nat) (w : World) (hC : Cube p q v) :
    Calls Try.prog 86 #[.agg #[.int .u8 p, .int .u8 q], .int .i64 v] w fun e w' =>
      e = .returned (.tuple #[.string ⟨(fmtT p q).toArray⟩, .int .i64 0]) ∧ Below w.heap.size w w' :=
  callsIn_wide.1 (Format_in 4 (by omega) p q v w hC)
theorem Format_no (p q : Nat) (v : Int) (w : World) (hp : p < 256) (hq : q < 256) (hC : chk p q v ≠ 0) :
    Calls Try.prog 86 #[.agg #[.int .u8 p, .int .u8 q], .int .i64 v] w fun e w' =>
      e = .returned (.tuple #[.string ⟨#[]⟩, .int .i64 (chk p q v)]) ∧ Below w.heap.size w w' := by
  have HK := Lib.hid fun w => Check_any p q v w hp hq
  generalize chk p q v = c at *
  have hne : (c != 0) = true := by rw [bne_iff_ne]; exact hC
  clear hC
  go_enter Try.func86, Try.ntmps86
  go_wp2_with (go_at_call 62; refine (HK.out _).mono ?_; rintro e w1 ⟨rfl, hb1⟩)
  go_ret2
  exact ⟨rfl, stepB ((Below.refl _ w).alloc (Nat.le_refl _) _) hb1⟩
end Go.Proofs.Yteckkbjpeckjmaa
