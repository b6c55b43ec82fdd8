/- with, without, read, Parse. -/
import Derived.Test.YteckkbjpeckjmaaYJ
import Derived.Test.YteckkbjpeckjmaaCP
import Derived.RegionTactic
import Derived.ChangeAlike
namespace Go.Proofs.Yteckkbjpeckjmaa
open Go Go.RowKit Go.Proofs.Yteckkbjpeckjmaa.Cb
set_option maxRecDepth 100000
theorem pow8 {k : Nat} (hk : k < 8) : (2 : Int) ^ k % 256 = ((2 ^ k : Nat) : Int) ∧ 2 ^ k < 256 := by
  have h1 : 2 ^ k < 2 ^ 8 := Nat.pow_lt_pow_right (by decide) hk
  have : ((2 ^ k : Nat) : Int) = (2 : Int) ^ k := by exact_mod_cast rfl
  rw [← this]
  generalize 2 ^ k = m at h1
  omega
theorem or8 {p k : Nat} (hp : p < 256) (hk : k < 8) : bits .or .u8 (p : Int) ((2 : Int) ^ k % 256) = ((p ||| 2 ^ k : Nat) : Int) := by
  rw [(pow8 hk).1]; exact u8_or_nat _ _ hp (pow8 hk).2
theorem wo8 {p k : Nat} (hp : p < 256) (hk : k < 8) : bits .andNot .u8 (p : Int) ((2 : Int) ^ k % 256) = ((wo p k : Nat) : Int) := by
  rw [(pow8 hk).1]; exact u8_andNot_nat _ _ hp (pow8 hk).2
theorem with_pos (p q k : Nat) (w : World) (hp : p < 256) (hk : k < 8) :
    Calls Try.prog 142 #[.agg #[.int .u8 p, .int .u8 q], .int .i64 k, .bool true] w fun e w' => e = .returned (.agg #[.int .u8 (p ||| 2 ^ k : Nat), .int .u8 q]) ∧ Below w.heap.size w w' := by
  have e1 := or8 hp hk
  go_enter Try.func142, Try.ntmps142
  go_wp2
  go_region
  all_goals
    go_wp2
    exact bodyPost_ret (v := .agg #[.int .u8 (p ||| 2 ^ k : Nat), .int .u8 q]) (by simp [results, Try.f142, go_sem]) rfl ⟨rfl, (bal (bal (Below.refl _ _) _) _).drew⟩
theorem with_neg (p q k : Nat) (w : World) (hq : q < 256) (hk : k < 8) :
    Calls Try.prog 142 #[.agg #[.int .u8 p, .int .u8 q], .int .i64 k, .bool false] w fun e w' => e = .returned (.agg #[.int .u8 p, .int .u8 (q ||| 2 ^ k : Nat)]) ∧ Below w.heap.size w w' := by
  have e1 := or8 hq hk
  go_enter Try.func142, Try.ntmps142
  go_wp2
  go_region
  all_goals
    go_wp2
    exact bodyPost_ret (v := .agg #[.int .u8 p, .int .u8 (q ||| 2 ^ k : Nat)]) (by simp [results, Try.f142, go_sem]) rfl ⟨rfl, (bal (bal (Below.refl _ _) _) _).drew⟩
/-- What read answers. -/
def rdOut (s : List UInt8) : (Nat × Nat) × Bool := match readC s with | some c => (c, true) | none => ((0, 0), false)
/-- The state of the reader after k bytes. -/
theorem rd_take (s : ByteArray) (k : Nat) (h : k < s.size) : rd (s.data.toList.take (k + 1)) = (rd (s.data.toList.take k)).bind fun st => rdStep st s[k].toNat := by
  rw [← rd_snoc]
  congr 1
  rw [List.take_succ_eq_append_getElem (by simpa using h)]; rfl
theorem rd_dead (s : ByteArray) (k : Nat) (h : rd (s.data.toList.take k) = none) : rd s.data.toList = none := by
  have := rd_none_append _ (s.data.toList.drop k) h
  rwa [List.take_append_drop] at this
/-- A block of two cells. -/
def Box2 (W : World) (b : Nat) (t : TypeId) (u v : Value) : Prop := W.heap[b]? = some (.cells #[u, v] t (0, 0))
namespace Box2
variable {W W' : World} {b : Nat} {t : TypeId} {u v : Value}
theorem lt (h : Box2 W b t u v) : b < W.heap.size := (Array.getElem?_eq_some_iff.1 h).1
theorem c0 (h : Box2 W b t u v) : W.cell? ⟨b, 0, none⟩ = some u := by simp [World.cell?, show W.heap[b]? = _ from h]
theorem c1 (h : Box2 W b t u v) : W.cell? ⟨b, 1, none⟩ = some v := by simp [World.cell?, show W.heap[b]? = _ from h]
theorem f0 (h : Box2 W b t u v) : W.frozen? ⟨b, 0, none⟩ = false := by simp [World.frozen?, show W.heap[b]? = _ from h]
theorem f1 (h : Box2 W b t u v) : W.frozen? ⟨b, 1, none⟩ = false := by simp [World.frozen?, show W.heap[b]? = _ from h]
theorem new (W : World) (t : TypeId) (u v : Value) : Box2 (W.alloc (.cells #[u, v] t)) W.heap.size t u v := World.alloc_heap_new W _
theorem below (h : Box2 W b t u v) (hb : Below W.heap.size W W') : Box2 W' b t u v := (hb.block b h.lt).trans h
theorem alloc (h : Box2 W b t u v) (o : Obj) : Box2 (W.alloc o) b t u v := (Below.heap_alloc W o b h.lt).trans h
theorem set0 (h : Box2 W b t u v) (u' : Value) : Box2 (W.setCell ⟨b, 0, none⟩ u') b t u' v := by
  obtain ⟨hlt, hk⟩ := Array.getElem?_eq_some_iff.1 h
  show (W.heap.modify b _)[b]? = _
  rw [Array.getElem?_eq_getElem (by rw [Array.size_modify]; exact hlt), Array.getElem_modify_self, hk]
  rfl
theorem set1 (h : Box2 W b t u v) (v' : Value) : Box2 (W.setCell ⟨b, 1, none⟩ v') b t u v' := by
  obtain ⟨hlt, hk⟩ := Array.getElem?_eq_some_iff.1 h
  show (W.heap.modify b _)[b]? = _
  rw [Array.getElem?_eq_getElem (by rw [Array.size_modify]; exact hlt), Array.getElem_modify_self, hk]
  rfl
theorem other (h : Box2 W b t u v) (a : Addr) (x : Value) (hne : b ≠ a.block) : Box2 (W.setCell a x) b t u v := (Below.heap_setCell W a x b hne).trans h
end Box2
theorem star_zero : rdOut [42] = ((0, 0), true) := by decide
set_option maxHeartbeats 2000000 in
theorem read_any (s : ByteArray) (w : World) (hs : s.size ≤ 4096) :
    Calls Try.prog 131 #[.string s] w fun e w' => e = .returned (.tuple #[.agg #[.int .u8 (rdOut s.data.toList).1.1, .int .u8 (rdOut s.data.toList).1.2], .bool (rdOut s.data.toList).2]) ∧ Below w.heap.size w w' := by
  by_cases hst : s.data.toList = [42]
  · have hst' : (s.toList == [42]) = true := by rw [ByteArray.toList_eq, hst]; rfl
    have HO : Hid (rdOut s.data.toList = ((0, 0), true)) := by show _ = _; rw [hst]; exact star_zero
    clear hst
    go_enter Try.func131, Try.ntmps131
    go_wp2
    rw [HO.out]
    exact bodyPost_ret (v := .tuple #[.agg #[.int .u8 0, .int .u8 0], .bool true]) (by simp [results, Try.f131, go_sem]) rfl ⟨rfl, bal (bal (Below.refl _ _) _) _⟩
  · have hst' : (s.toList == [42]) = false := by rw [ByteArray.toList_eq]; exact beq_eq_false_iff_ne.2 hst
    have HO : Hid (rdOut s.data.toList = match rd s.data.toList with | some (p, q, least, value) => if least = 0 ∨ value = false then ((0, 0), false) else ((p, q), true) | none => ((0, 0), false)) := by
      show _ = _
      unfold rdOut readC
      rw [if_neg hst]
      cases rd s.data.toList with
      | none => rfl
      | some st =>
        obtain ⟨p, q, least, value⟩ := st
        simp only
        by_cases h : least = 0 ∨ value = false
        · rw [if_pos h, if_pos h]
        · rw [if_neg h, if_neg h]
    clear hst
    have HS : Hid (∀ k : Nat, ∀ st, rd (s.data.toList.take k) = some st → st.1 < 256 ∧ st.2.1 < 256 ∧ st.2.2.1 ≤ 6) := fun k st h => by
      obtain ⟨_, h2, h3, h4, _⟩ := rd_ok _ _ rfl _ h
      have := Nat.pow_le_pow_right (n := 2) (by decide) h4
      omega
    go_enter Try.func131, Try.ntmps131
    go_wp2
    have bR := (Box2.new w 103 (.int .u8 0) (.int .u8 0)).alloc (.cells #[.int .u8 0, .int .u8 0] 103)
    have bC := Box2.new (w.alloc (.cells #[.int .u8 0, .int .u8 0] 103)) 103 (.int .u8 0) (.int .u8 0)
    simp only [World.size_alloc] at bC
    have hb0 : Below w.heap.size w ((w.alloc (.cells #[.int .u8 0, .int .u8 0] 103)).alloc (.cells #[.int .u8 0, .int .u8 0] 103)) := bal (bal (Below.refl _ _) _) _
    go_loopw [5, 6, 14] (fun le va i wr => ∃ (k p q least : Nat) (value : Bool), k ≤ s.size ∧ i = .int .i64 k ∧ le = .int .i64 least ∧ va = .bool value ∧ Hid (rd (s.data.toList.take k) = some (p, q, least, value)) ∧
      Box2 wr w.heap.size 103 (.int .u8 0) (.int .u8 0) ∧ Box2 wr (w.heap.size + 1) 103 (.int .u8 p) (.int .u8 q) ∧ Below w.heap.size w wr) (fun _ _ i _ => s.size - (intOf i).toNat)
    case atStart => exact ⟨0, 0, 0, 0, true, by omega, rfl, rfl, rfl, rfl, bR, bC, hb0⟩
    case round =>
      clear bR bC hb0
      obtain ⟨k, p, q, least, value, hk, rfl, rfl, rfl, HR, bR, bC, hb⟩ := hrel
      obtain ⟨hp, hq, hl⟩ := HS.out k _ HR.out
      simp only at hp hq hl
      by_cases hlt : k < s.size
      · have hT := rd_take s k hlt
        rw [HR.out, Option.bind_some] at hT
        have hc8 : s[k].toNat < 256 := s[k].toNat_lt
        obtain ⟨c, hc⟩ : ∃ c, s[k].toNat = c := ⟨_, rfl⟩
        rw [hc] at hT hc8
        unfold rdStep at hT
        simp only at hT
        by_cases hA : c = 33 ∧ value = true
        · rw [if_pos hA] at hT
          obtain ⟨h33, rfl⟩ := hA
          have HT := Lib.hid hT
          have h33' : ((c : Int) == 33) = true := by rw [beq_iff_eq]; omega
          clear hT h33
          go_wp2
          go_roundw
          case rel => exact ⟨k + 1, p, q, least, false, by omega, by go_num, rfl, rfl, HT.out, bR, bC, hb⟩
          case measure => simp [intOf]; omega
        · rw [if_neg hA] at hT
          by_cases hB : 97 + least ≤ c ∧ c < 103
          · rw [if_pos hB] at hT
            obtain ⟨hB1, hB2⟩ := hB
            have h33' : ((c : Int) == 33) = false := by rw [beq_eq_false_iff_ne]; omega
            obtain ⟨j, hj⟩ : ∃ j, c - 97 = j := ⟨_, rfl⟩
            rw [hj] at hT
            have hj' : (c : Int) - 97 = (j : Int) := by omega
            have hj6 : j < 6 := by omega
            have hlj : least ≤ j := by omega
            clear hA hj
            cases value with
            | true =>
              have HT : Hid (rd (s.data.toList.take (k + 1)) = some (p ||| 2 ^ j, q, j + 1, true)) := hT
              have HW := Lib.hid fun w => with_pos p q j w hp (show j < 8 by omega)
              clear hT
              have x0 := bC.c0
              have x1 := bC.c1
              go_wp2_with (go_at_call 142; refine (HW.out _).mono ?_; rintro e w2 ⟨rfl, hb2⟩; have bR2 := bR.below hb2; have bC2 := bC.below hb2; have hbb := stepB hb hb2; clear x0 x1 bR bC hb2 hb; have y0 := bC2.c0; have y1 := bC2.c1; have z0 := bC2.f0; have z1 := bC2.f1)
              go_roundw
              case rel => exact ⟨k + 1, _, q, j + 1, true, by omega, by go_num, by go_num, rfl, HT.out, (bR2.other _ _ (by simp)).other _ _ (by simp), (bC2.set0 _).set1 _, (hbb.setCell (by simp) _).setCell (by simp) _⟩
              case measure => simp [intOf]; omega
            | false =>
              have HT : Hid (rd (s.data.toList.take (k + 1)) = some (p, q ||| 2 ^ j, j + 1, true)) := hT
              have HW := Lib.hid fun w => with_neg p q j w hq (show j < 8 by omega)
              clear hT
              have x0 := bC.c0
              have x1 := bC.c1
              go_wp2_with (go_at_call 142; refine (HW.out _).mono ?_; rintro e w2 ⟨rfl, hb2⟩; have bR2 := bR.below hb2; have bC2 := bC.below hb2; have hbb := stepB hb hb2; clear x0 x1 bR bC hb2 hb; have y0 := bC2.c0; have y1 := bC2.c1; have z0 := bC2.f0; have z1 := bC2.f1)
              go_roundw
              case rel => exact ⟨k + 1, p, _, j + 1, true, by omega, by go_num, by go_num, rfl, HT.out, (bR2.other _ _ (by simp)).other _ _ (by simp), (bC2.set0 _).set1 _, (hbb.setCell (by simp) _).setCell (by simp) _⟩
              case measure => simp [intOf]; omega
          · rw [if_neg hB] at hT
            have HZ : Hid (rdOut s.data.toList = ((0, 0), false)) := by
              show _ = _
              have := HO.out
              rw [rd_dead s (k + 1) hT] at this
              exact this
            have x0 := bR.c0
            have x1 := bR.c1
            have z0 := bR.f0
            have z1 := bR.f1
            have r0 := ((bR.set0 (.int .u8 0)).set1 (.int .u8 0)).c0
            have r1 := ((bR.set0 (.int .u8 0)).set1 (.int .u8 0)).c1
            have hR0 := Lib.hid r0
            have hR1 := Lib.hid r1
            clear r0 r1 hT
            by_cases h33 : c = 33
            · have h33' : ((c : Int) == 33) = true := by rw [beq_iff_eq]; omega
              have hv : value = false := by
                cases value with
                | false => rfl
                | true => exact absurd ⟨h33, rfl⟩ hA
              subst hv
              have hc33 : c ≤ 33 := by omega
              clear hA hB h33
              go_wp2
              have r0 := hR0.out
              have r1 := hR1.out
              rw [HZ.out]
              exact bodyPost_ret (v := .tuple #[.agg #[.int .u8 0, .int .u8 0], .bool false]) (by simp [results, Try.f131, go_sem, r0, r1]) rfl ⟨rfl, (hb.setCell (by simp) _).setCell (by simp) _⟩
            · have h33' : ((c : Int) == 33) = false := by rw [beq_eq_false_iff_ne]; omega
              clear hA
              by_cases hlo : c < 97 + least
              · clear hB h33
                go_wp2
                have r0 := hR0.out
                have r1 := hR1.out
                rw [HZ.out]
                exact bodyPost_ret (v := .tuple #[.agg #[.int .u8 0, .int .u8 0], .bool false]) (by simp [results, Try.f131, go_sem, r0, r1]) rfl ⟨rfl, (hb.setCell (by simp) _).setCell (by simp) _⟩
              · have hhi : 103 ≤ c := by omega
                clear hB h33
                go_wp2
                have r0 := hR0.out
                have r1 := hR1.out
                rw [HZ.out]
                exact bodyPost_ret (v := .tuple #[.agg #[.int .u8 0, .int .u8 0], .bool false]) (by simp [results, Try.f131, go_sem, r0, r1]) rfl ⟨rfl, (hb.setCell (by simp) _).setCell (by simp) _⟩
      · obtain rfl : k = s.size := by omega
        have hall : s.data.toList.take s.size = s.data.toList := List.take_of_length_le (by simp)
        have hO := HO.out
        have hr := HR.out
        rw [hall] at hr
        rw [hr] at hO
        simp only at hO
        clear hr hall
        have x0 := bR.c0
        have x1 := bR.c1
        have z0 := bR.f0
        have z1 := bR.f1
        have y0 := bC.c0
        have y1 := bC.c1
        by_cases h0 : least = 0
        · rw [if_pos (.inl h0)] at hO
          have HZ := Lib.hid hO
          have h0' : ((least : Int) == 0) = true := by rw [beq_iff_eq]; omega
          have hR0 := Lib.hid ((bR.set0 (.int .u8 0)).set1 (.int .u8 0)).c0
          have hR1 := Lib.hid ((bR.set0 (.int .u8 0)).set1 (.int .u8 0)).c1
          clear hO h0
          go_wp2
          have r0 := hR0.out
          have r1 := hR1.out
          rw [HZ.out]
          exact bodyPost_ret (v := .tuple #[.agg #[.int .u8 0, .int .u8 0], .bool false]) (by simp [results, Try.f131, go_sem, r0, r1]) rfl ⟨rfl, (hb.setCell (by simp) _).setCell (by simp) _⟩
        · have h0' : ((least : Int) == 0) = false := by rw [beq_eq_false_iff_ne]; omega
          cases value with
          | false =>
            rw [if_pos (.inr rfl)] at hO
            have HZ := Lib.hid hO
            have hR0 := Lib.hid ((bR.set0 (.int .u8 0)).set1 (.int .u8 0)).c0
            have hR1 := Lib.hid ((bR.set0 (.int .u8 0)).set1 (.int .u8 0)).c1
            clear hO h0
            go_wp2
            have r0 := hR0.out
            have r1 := hR1.out
            rw [HZ.out]
            exact bodyPost_ret (v := .tuple #[.agg #[.int .u8 0, .int .u8 0], .bool false]) (by simp [results, Try.f131, go_sem, r0, r1]) rfl ⟨rfl, (hb.setCell (by simp) _).setCell (by simp) _⟩
          | true =>
            rw [if_neg (by simp [h0])] at hO
            have HZ := Lib.hid hO
            have hR0 := Lib.hid ((bR.set0 (.int .u8 p)).set1 (.int .u8 q)).c0
            have hR1 := Lib.hid ((bR.set0 (.int .u8 p)).set1 (.int .u8 q)).c1
            clear hO h0
            go_wp2
            have r0 := hR0.out
            have r1 := hR1.out
            rw [HZ.out]
            exact bodyPost_ret (v := .tuple #[.agg #[.int .u8 p, .int .u8 q], .bool true]) (by simp [results, Try.f131, go_sem, r0, r1]) rfl ⟨rfl, (hb.setCell (by simp) _).setCell (by simp) _⟩
/-- What Parse answers. -/
def prs (s : List UInt8) (v : Int) : (Nat × Nat) × Int :=
  if ¬ (0 ≤ v ∧ v ≤ 6) then ((0, 0), 7) else if 4096 < s.length then ((0, 0), 4) else
  match readC s with
  | none => ((0, 0), 2)
  | some c => if chk c.1 c.2 v = 0 then (c, 0) else ((0, 0), chk c.1 c.2 v)
theorem rdOut_lt (s : List UInt8) : (rdOut s).1.1 < 256 ∧ (rdOut s).1.2 < 256 := by
  unfold rdOut
  cases h : readC s with
  | none => exact ⟨by decide, by decide⟩
  | some c =>
    obtain ⟨h1, h2, _⟩ := readC_sound (p := c.1) (q := c.2) h
    exact ⟨show c.1 < 256 by omega, show c.2 < 256 by omega⟩
set_option maxHeartbeats 1000000 in
theorem Parse_any (s : ByteArray) (v : Int) (w : World) (hs : s.size ≤ 4611686018427387904) :
    Calls Try.prog 103 #[.string s, .int .i64 v] w fun e w' => e = .returned (.tuple #[.agg #[.int .u8 (prs s.data.toList v).1.1, .int .u8 (prs s.data.toList v).1.2], .int .i64 (prs s.data.toList v).2]) ∧ Below w.heap.size w w' := by
  have hlen : s.data.toList.length = s.size := by simp
  by_cases hv : 0 ≤ v ∧ v ≤ 6
  · obtain ⟨n, rfl⟩ : ∃ n : Nat, v = n := ⟨v.toNat, by omega⟩
    have hn : n ≤ 6 := by omega
    by_cases hl : 4096 < s.size
    · have HO : Hid (prs s.data.toList n = ((0, 0), 4)) := by
        show _ = _
        unfold prs
        rw [if_neg (by omega), if_pos (by omega)]
      clear hv
      go_enter Try.func103, Try.ntmps103
      go_wp2_with (go_at_call 89; refine (isNumberOfVars_yes n _ hn).mono ?_; rintro e w' ⟨rfl, rfl⟩)
      rw [HO.out]
      exact bodyPost_ret (v := .tuple #[.agg #[.int .u8 0, .int .u8 0], .int .i64 4]) (by simp [results, Try.f103, go_sem]) rfl ⟨rfl, bal (Below.refl _ _) _⟩
    · have hl' : s.size ≤ 4096 := by omega
      have HR := Lib.hid fun w => read_any s w hl'
      have hlt := rdOut_lt s.data.toList
      cases hr : readC s.data.toList with
      | none =>
        have HO : Hid (prs s.data.toList n = ((0, 0), 2)) := by
          show _ = _
          unfold prs
          rw [if_neg (by omega), if_neg (by omega), hr]
        have hro : rdOut s.data.toList = ((0, 0), false) := by unfold rdOut; rw [hr]
        rw [hro] at HR
        clear hro hr hv hl hlt
        go_enter Try.func103, Try.ntmps103
        have bR := Box2.new w 103 (.int .u8 0) (.int .u8 0)
        go_wp2_with (first
          | (go_at_call 89; refine (isNumberOfVars_yes n _ hn).mono ?_; rintro e w' ⟨rfl, rfl⟩)
          | (go_at_call 131; refine (HR.out _).mono ?_; rintro e w2 ⟨rfl, hb2⟩; have bR2 := bR.below hb2; have hbb := stepB (bal (Below.refl _ w) _) hb2; clear hb2 bR; have x0 := (bR2.alloc (.cells #[.int .u8 0, .int .u8 0] 103)).c0; have x1 := (bR2.alloc (.cells #[.int .u8 0, .int .u8 0] 103)).c1; have z0 := (bR2.alloc (.cells #[.int .u8 0, .int .u8 0] 103)).f0; have z1 := (bR2.alloc (.cells #[.int .u8 0, .int .u8 0] 103)).f1))
        rw [HO.out]
        have r0 := (((bR2.alloc (.cells #[.int .u8 0, .int .u8 0] 103)).set0 (.int .u8 0)).set1 (.int .u8 0)).c0
        have r1 := (((bR2.alloc (.cells #[.int .u8 0, .int .u8 0] 103)).set0 (.int .u8 0)).set1 (.int .u8 0)).c1
        exact bodyPost_ret (v := .tuple #[.agg #[.int .u8 0, .int .u8 0], .int .i64 2]) (by simp [results, Try.f103, go_sem, r0, r1]) rfl ⟨rfl, ((bal hbb _).setCell (by simp) _).setCell (by simp) _⟩
      | some c =>
        obtain ⟨c1, c2⟩ := c
        have hro : rdOut s.data.toList = ((c1, c2), true) := by unfold rdOut; rw [hr]
        rw [hro] at HR hlt
        simp only at hlt
        have HK := Lib.hid fun w => Check_any c1 c2 n w hlt.1 hlt.2
        have hO : prs s.data.toList n = if chk c1 c2 n = 0 then ((c1, c2), 0) else ((0, 0), chk c1 c2 n) := by
          unfold prs
          rw [if_neg (by omega), if_neg (by omega), hr]
        clear hro hr hv hl hlt
        by_cases hk : chk c1 c2 n = 0
        · rw [if_pos hk] at hO
          rw [hk] at HK
          have HO := Lib.hid hO
          clear hO hk
          go_enter Try.func103, Try.ntmps103
          have bR := Box2.new w 103 (.int .u8 0) (.int .u8 0)
          go_wp2_with (first
            | (go_at_call 89; refine (isNumberOfVars_yes n _ hn).mono ?_; rintro e w' ⟨rfl, rfl⟩)
            | (go_at_call 131; refine (HR.out _).mono ?_; rintro e w2 ⟨rfl, hb2⟩; have bR2 := (bR.below hb2).alloc (.cells #[.int .u8 c1, .int .u8 c2] 103); have bC2 := Box2.new w2 103 (.int .u8 c1) (.int .u8 c2); have hbb := bal (stepB (bal (Below.refl _ w) _) hb2) (.cells #[.int .u8 c1, .int .u8 c2] 103); have hlt2 : w.heap.size < w2.heap.size := (bR.below hb2).lt; clear hb2 bR; have y0 := bC2.c0; have y1 := bC2.c1)
            | (go_at_call 62; refine (HK.out _).mono ?_; rintro e w3 ⟨rfl, hb3⟩; have bR3 := bR2.below hb3; have bC3 := bC2.below hb3; have hbb3 := stepB hbb hb3; clear hb3 hbb bR2 bC2 y0 y1; have x0 := bR3.c0; have x1 := bR3.c1; have z0 := bR3.f0; have z1 := bR3.f1; have y0 := bC3.c0; have y1 := bC3.c1))
          rw [HO.out]
          have r0 := ((bR3.set0 (.int .u8 c1)).set1 (.int .u8 c2)).c0
          have r1 := ((bR3.set0 (.int .u8 c1)).set1 (.int .u8 c2)).c1
          exact bodyPost_ret (v := .tuple #[.agg #[.int .u8 c1, .int .u8 c2], .int .i64 0]) (by simp [results, Try.f103, go_sem, r0, r1]) rfl ⟨rfl, (hbb3.setCell (by simp) _).setCell (by simp) _⟩
        · rw [if_neg hk] at hO
          have HO := Lib.hid hO
          generalize chk c1 c2 n = ck at *
          have hne : (ck != 0) = true := by rw [bne_iff_ne]; exact hk
          clear hO hk
          go_enter Try.func103, Try.ntmps103
          have bR := Box2.new w 103 (.int .u8 0) (.int .u8 0)
          go_wp2_with (first
            | (go_at_call 89; refine (isNumberOfVars_yes n _ hn).mono ?_; rintro e w' ⟨rfl, rfl⟩)
            | (go_at_call 131; refine (HR.out _).mono ?_; rintro e w2 ⟨rfl, hb2⟩; have bR2 := (bR.below hb2).alloc (.cells #[.int .u8 c1, .int .u8 c2] 103); have bC2 := Box2.new w2 103 (.int .u8 c1) (.int .u8 c2); have hbb := bal (stepB (bal (Below.refl _ w) _) hb2) (.cells #[.int .u8 c1, .int .u8 c2] 103); have hlt2 : w.heap.size < w2.heap.size := (bR.below hb2).lt; clear hb2 bR; have y0 := bC2.c0; have y1 := bC2.c1)
            | (go_at_call 62; refine (HK.out _).mono ?_; rintro e w3 ⟨rfl, hb3⟩; have bR3 := bR2.below hb3; have bC3 := bC2.below hb3; have hbb3 := stepB hbb hb3; clear hb3 hbb bR2 bC2 y0 y1; have x0 := bR3.c0; have x1 := bR3.c1; have z0 := bR3.f0; have z1 := bR3.f1; have y0 := bC3.c0; have y1 := bC3.c1))
          rw [HO.out]
          have r0 := ((bR3.set0 (.int .u8 0)).set1 (.int .u8 0)).c0
          have r1 := ((bR3.set0 (.int .u8 0)).set1 (.int .u8 0)).c1
          exact bodyPost_ret (v := .tuple #[.agg #[.int .u8 0, .int .u8 0], .int .i64 ck]) (by simp [results, Try.f103, go_sem, r0, r1]) rfl ⟨rfl, (hbb3.setCell (by simp) _).setCell (by simp) _⟩
  · have HO : Hid (prs s.data.toList v = ((0, 0), 7)) := by
      show _ = _
      unfold prs
      rw [if_pos hv]
    go_enter Try.func103, Try.ntmps103
    go_wp2_with (go_at_call 89; refine (isNumberOfVars_no v _ hv).mono ?_; rintro e w' ⟨rfl, rfl⟩)
    rw [HO.out]
    exact bodyPost_ret (v := .tuple #[.agg #[.int .u8 0, .int .u8 0], .int .i64 7]) (by simp [results, Try.f103, go_sem]) rfl ⟨rfl, bal (Below.refl _ _) _⟩
end Go.Proofs.Yteckkbjpeckjmaa
