/- A letter in a text (package regex): the method. -/
import Derived.Test.YtbmamkackigdaabYZF
import Derived.Deep.LoopGhost
import Derived.IntWalk
namespace Go.Proofs.Ytbmamkackigdaab.Rx
open Go Go.RowKit Go.Proofs.Ytbmamkackigdaab
set_option linter.unusedVariables false
set_option maxRecDepth 100000
def Dl (s : ByteArray) (i : Nat) : List UInt8 := s.data.toList.drop i
theorem Dl_end (s : ByteArray) : Dl s s.size = [] := by
  unfold Dl
  rw [List.drop_eq_nil_of_le (by simp)]
theorem Dl_cons (s : ByteArray) (i : Nat) (h : i < s.size) : Dl s i = UInt8.ofNat (ch s i) :: Dl s (i + 1) := by
  unfold Dl
  have h' : i < s.data.toList.length := by simpa using h
  rw [List.drop_eq_getElem_cons h']
  congr 1
  unfold ch
  rw [List.getD_eq_getElem?_getD, List.getElem?_eq_getElem h']
  simp
theorem Dl_len (s : ByteArray) (i : Nat) : (Dl s i).length = s.size - i := by
  unfold Dl; simp
theorem ext_list (s : ByteArray) (a b : Nat) (h : b ≤ s.size) : (s.extract a b).data.toList = (Dl s a).take (b - a) := by
  unfold Dl
  simp [List.extract_eq_take_drop]
theorem take_more (s : ByteArray) (a i : Nat) (ha : a ≤ i) (hi : i < s.size) : (Dl s a).take (i + 1 - a) = (Dl s a).take (i - a) ++ [UInt8.ofNat (ch s i)] := by
  have h1 : (Dl s a)[i - a]? = some (UInt8.ofNat (ch s i)) := by
    unfold Dl
    rw [List.getElem?_drop, show a + (i - a) = i by omega]
    have h' : i < s.data.toList.length := by simpa using hi
    rw [List.getElem?_eq_getElem h']
    unfold ch
    rw [List.getD_eq_getElem?_getD, List.getElem?_eq_getElem h']
    simp
  rw [show i + 1 - a = (i - a) + 1 by omega]
  exact take_snoc h1
theorem ofNat_ch (s : ByteArray) (i : Nat) : (UInt8.ofNat (ch s i)).toNat = ch s i := by
  have := ch_lt s i
  simp
  omega
/-- Where the reading stands. -/
def LetI (s : ByteArray) (a i : Nat) : Prop := plet ((Dl s a).take (i - a)) (Dl s i) = plet [] (Dl s a)
theorem let_step {s : ByteArray} {a i : Nat} (h : LetI s a i) (ha : a ≤ i) (hi : i < s.size) :
    plet [] (Dl s a) = if ch s i = 93 then (match readC ((Dl s a).take (i - a)) with | some pq => .ok (pq, Dl s (i + 1)) | none => .error 2) else if begB ((Dl s a).take (i + 1 - a)) = true then plet ((Dl s a).take (i + 1 - a)) (Dl s (i + 1)) else .error 2 := by
  rw [← h, Dl_cons s i hi, plet_cons, ofNat_ch, take_more s a i ha hi]
  rfl
theorem _root_.Go.Proofs.Ytbmamkackigdaab.HeadAt.next {md : Region.Mode} {ops : Array Oper} {n i : Nat} {L0 listed : Array Bool} {rs : List Nat} (hA : HeadAt md ops n L0 listed) (hr : Region.ready md ops listed = rs) (hi : i ∈ rs) (hin : i < n) : HeadAt md ops n L0 (listed.setIfInBounds i true) := hA.set (hr ▸ hi) hin
def LetOut (B pb : Nat) (s : ByteArray) (a : Nat) (v : Value) (l : List Pc) (w : World) (e : Ending) (w' : World) : Prop :=
  match plet [] (Dl s a) with
  | .ok ((p, q), r) => e = .returned (.tuple #[]) ∧ ∃ v', PsAt w' B pb s (s.size - r.length) v' (l ++ [⟨3, p, q, 0, 0⟩]) ∧ Fr pb v v' w w'
  | .error k => e = .panicked (errV k) ∧ Below B w w'
/-- What region 4 leaves. -/
def LetR (w4 : World) (p q : Nat) (k : Int) (t3 t4 : Value) (wx : World) : Prop := ∃ b, t3 = .pointer (some ⟨b, 0, none⟩) ∧ t4 = .int .i64 k ∧ Box2 wx b 92 (.int .u8 p) (.int .u8 q) ∧ Below w4.heap.size w4 wx
set_option maxHeartbeats 16000000 in
theorem letter_any (B pb : Nat) (s : ByteArray) (a : Nat) (v : Value) (l : List Pc) (w : World) (h : PsAt w B pb s a v l) (hs : s.size ≤ 4095) (ha : a ≤ s.size) (hl : l.length ≤ 10000) :
    Calls Try.prog 105 #[.pointer (some ⟨pb, 0, none⟩)] w (LetOut B pb s a v l w) := by
  obtain ⟨c0, c1, c2⟩ := h.cells
  have HP := Lib.hid h
  clear h
  go_enter Try.func105, Try.ntmps105
  go_wp2
  go_loopg [10] (s.size - a) (fun g t wr => ∃ i, a ≤ i ∧ i ≤ s.size ∧ g = s.size - i ∧ Hid (LetI s a i) ∧ Hid (PsAt wr B pb s i v l) ∧ Hid (Fr pb v v w wr))
  case atStart => exact ⟨a, Nat.le_refl _, ha, rfl, by show _ = _; rw [Nat.sub_self, List.take_zero], HP, Fr.of_below (Below.refl _ _)⟩
  case round =>
    clear c0 c1 c2
    obtain ⟨i, hai, his, hg, HI, HPi, HFi⟩ := hrel
    by_cases hend : i = s.size
    · have HT := Lib.hid (take_end B pb s v l wr (by rw [← hend]; exact HPi.out) (by omega))
      have hfin : plet [] (Dl s a) = .error 3 := by rw [← HI.out, hend, Dl_end]; rfl
      have HFin : Hid (∀ w', Below wr.heap.size wr w' → LetOut B pb s a v l w (.panicked (errV 3)) w') := fun w' hw' => by
        unfold LetOut
        rw [hfin]
        exact ⟨rfl, (HP.out.bel HFi.out).trans (hw'.mono HPi.out.Bw)⟩
      clear hfin hend hg
      go_wp2_with (go_at_call 103; ((with_reducible refine HT.out.mono ?_); rintro r w1 ⟨rfl, hb1⟩))
      exact ⟨rfl, HFin.out _ hb1⟩
    · have hi : i < s.size := by omega
      have HT := take_ok B pb s i v l wr HPi.out (by omega) hi
      have HStep := let_step HI.out hai hi
      obtain ⟨c, hc⟩ : ∃ c, c = ch s i := ⟨_, rfl⟩
      obtain ⟨j, hj⟩ : ∃ j, j = i + 1 := ⟨_, rfl⟩
      rw [← hc, ← hj] at HT HStep
      have haj : a ≤ j := by omega
      have hjs : j ≤ s.size := by omega
      have haj2 : (a : Int) ≤ j := by omega
      have hjs2 : (j : Int) ≤ s.size := by omega
      have hgj : s.size - j < gk := by omega
      have HJ := Lib.hid hj
      have HT := Lib.hid HT
      clear hc hend hj
      by_cases h93 : c = 93
      · have e93 : ((c : Int) != 93) = false := int_same (by omega)
        have hst := HStep
        rw [if_pos h93] at hst
        have hps : ∃ (p q : Nat) (k : Int), Hid (∀ X, Calls Try.prog 121 #[.string (s.extract a i), .int .i64 6] X fun e w' => e = .returned (.tuple #[.agg #[.int .u8 p, .int .u8 q], .int .i64 k]) ∧ Below X.heap.size X w') ∧ Hid ((k = 0 ∧ plet [] (Dl s a) = .ok ((p, q), Dl s j)) ∨ (k = 2 ∧ plet [] (Dl s a) = .error 2)) := by
          have hex := ext_list s a i his
          cases hr : readC ((Dl s a).take (i - a)) with
          | some pq =>
            obtain ⟨p, q⟩ := pq
            rw [hr] at hst
            exact ⟨p, q, 0, fun X => parse_yes (by simp; omega) (by rw [hex]; exact hr) X, .inl ⟨rfl, hst⟩⟩
          | none =>
            rw [hr] at hst
            exact ⟨0, 0, 2, fun X => parse_no (by simp; omega) (by rw [hex]; exact hr) X, .inr ⟨rfl, hst⟩⟩
        obtain ⟨p, q, k, HPr, HOut⟩ := hps
        have hji : (j : Int) - 1 = (i : Int) := by have := HJ.out; omega
        have hai2 : (a : Int) ≤ i := by omega
        have his2 : (i : Int) ≤ s.size := by omega
        have hwr : IntKind.i64.wrap (i : Int) = (i : Int) := IntWalk.i64_in _ (by omega)
        clear hst HStep h93 HI
        go_upto_region 4 with (go_at_call 103; ((with_reducible refine HT.out.mono ?_); rintro r w1 ⟨rfl, hP1, hF1⟩); obtain ⟨c0, c1, c2⟩ := hP1.cells; have hpl := hP1.lt; have HP1 := Lib.hid hP1; have HF1 := Lib.hid hF1; clear hP1 hF1)
        go_cut [3, 4] (fun t3 t4 wx => LetR w1 p q k t3 t4 wx)
        case first =>
          refine wp_region_any (by kernel_rfl) ?_
          change wpAny _ _ _ _ _ _ _ (World.drew _)
          refine wpAny_take (i := 0) (v := ?_) (at_drop rfl) (by kernel_rfl) (by kernel_rfl) (by kernel_rfl) (fun _ _ _ h => h) (Or.inl ⟨by rfl, ?_⟩) ?_
          rotate_left
          · (intro w; go_simp <;> with_reducible rfl)
          simp only [Act.put, List.setIfInBounds_toArray, List.set_cons_zero, List.set_cons_succ]
          refine wpAny_take (i := 1) (v := ?_) (at_drop rfl) (by kernel_rfl) (by kernel_rfl) (by kernel_rfl) (fun _ _ _ h => h) (Or.inl ⟨by rfl, ?_⟩) ?_
          rotate_left
          · (intro w; go_simp <;> with_reducible rfl)
          simp only [Act.put, List.setIfInBounds_toArray, List.set_cons_zero, List.set_cons_succ]
          refine wpAny_take (i := 2) (v := ?_) (at_drop rfl) (by kernel_rfl) (by kernel_rfl) (by kernel_rfl) (fun _ _ _ h => h) (Or.inl ⟨by rfl, ?_⟩) ?_
          rotate_left
          · (intro w; go_simp <;> with_reducible rfl)
          simp only [Act.put, List.setIfInBounds_toArray, List.set_cons_zero, List.set_cons_succ]
          refine wpAny_take (i := 4) (v := ?_) (at_drop rfl) (by kernel_rfl) (by kernel_rfl) (by kernel_rfl) (fun _ _ _ h => h) (Or.inl ⟨by rfl, ?_⟩) ?_
          rotate_left
          · (intro w; go_simp <;> with_reducible rfl)
          simp only [Act.put, List.setIfInBounds_toArray, List.set_cons_zero, List.set_cons_succ]
          refine wpAny_take (i := 5) (v := ?_) (at_drop rfl) (by kernel_rfl) (by kernel_rfl) (by kernel_rfl) (fun _ _ _ h => h) (Or.inl ⟨by rfl, ?_⟩) ?_
          rotate_left
          · (intro w; go_simp <;> with_reducible rfl)
          simp only [Act.put, List.setIfInBounds_toArray, List.set_cons_zero, List.set_cons_succ]
          refine wpAny_take (i := 6) (v := ?_) (at_drop rfl) (by kernel_rfl) (by kernel_rfl) (by kernel_rfl) (fun _ _ _ h => h) (Or.inl ⟨by rfl, ?_⟩) ?_
          rotate_left
          · (intro w; go_simp <;> with_reducible rfl)
          simp only [Act.put, List.setIfInBounds_toArray, List.set_cons_zero, List.set_cons_succ]
          refine wpAny_take (i := 7) (v := ?_) (at_drop rfl) (by kernel_rfl) (by kernel_rfl) (by kernel_rfl) (fun _ _ _ h => h) (Or.inl ⟨by rfl, ?_⟩) ?_
          rotate_left
          · (intro w; go_simp <;> with_reducible rfl)
          simp only [Act.put, List.setIfInBounds_toArray, List.set_cons_zero, List.set_cons_succ]
          have hS0 : (fun X : World => X.cell? ⟨pb, 0, none⟩ = some (.string s) ∧ X.cell? ⟨pb, 1, none⟩ = some (.int .i64 j)) w1.drew := ⟨c0, c1⟩
          have hlY : ∀ Y : World, Below w1.heap.size w1 Y → (fun X : World => X.cell? ⟨pb, 0, none⟩ = some (.string s) ∧ X.cell? ⟨pb, 1, none⟩ = some (.int .i64 j)) Y := fun Y hY => ⟨(hY.cell (p := ⟨pb, 0, none⟩) hpl).trans c0, (hY.cell (p := ⟨pb, 1, none⟩) hpl).trans c1⟩
          refine wpAny_head 17 10 (fun X : World => X.cell? ⟨pb, 0, none⟩ = some (.string s) ∧ X.cell? ⟨pb, 1, none⟩ = some (.int .i64 j)) rfl rfl (by kernel_rfl) (by kernel_rfl) (by kernel_rfl) (fun hA => ?_)
          refine wpHead_take (i := 3) (v := ?_) (by kernel_rfl) hA (at_drop rfl) (by decide) (by kernel_rfl) (by kernel_rfl) (by kernel_rfl) (fun _ _ _ h => h) (Or.inl ⟨by rfl, ?_⟩) hS0 (fun hA => ?_)
          rotate_left
          · (intro w hSw; obtain ⟨s0, s1⟩ := hSw; go_simp <;> with_reducible rfl)
          simp only [Act.put, List.setIfInBounds_toArray, List.set_cons_zero, List.set_cons_succ]
          refine wpHead_take (i := 8) (v := ?_) (by kernel_rfl) hA (at_drop rfl) (by decide) (by kernel_rfl) (by kernel_rfl) (by kernel_rfl) (fun _ _ _ h => h) (Or.inl ⟨by rfl, ?_⟩) hS0 (fun hA => ?_)
          rotate_left
          · (intro w hSw; obtain ⟨s0, s1⟩ := hSw; go_simp <;> with_reducible rfl)
          simp only [Act.put, List.setIfInBounds_toArray, List.set_cons_zero, List.set_cons_succ]
          refine wpHead_take (i := 9) (v := ?_) (by kernel_rfl) hA (at_drop rfl) (by decide) (by kernel_rfl) (by kernel_rfl) (by kernel_rfl) (fun _ _ _ h => h) (Or.inl ⟨by rfl, ?_⟩) hS0 (fun hA => ?_)
          rotate_left
          · (intro w hSw; obtain ⟨s0, s1⟩ := hSw; go_simp <;> with_reducible rfl)
          simp only [Act.put, List.setIfInBounds_toArray, List.set_cons_zero, List.set_cons_succ]
          refine wpHead_take (i := 10) (v := ?_) (by kernel_rfl) hA (at_drop rfl) (by decide) (by kernel_rfl) (by kernel_rfl) (by kernel_rfl) (fun _ _ _ h => h) (Or.inl ⟨by rfl, ?_⟩) hS0 (fun hA => ?_)
          rotate_left
          · (intro w hSw; obtain ⟨s0, s1⟩ := hSw; go_simp <;> with_reducible rfl)
          simp only [Act.put, List.setIfInBounds_toArray, List.set_cons_zero, List.set_cons_succ]
          have hA11 := hA.next (rs := [11, 15]) (i := 11) (by kernel_rfl) (by decide) (by decide)
          have hA15 := hA.next (rs := [11, 15]) (i := 15) (by kernel_rfl) (by decide) (by decide)
          clear hA
          refine wpHead_ready (rs := [11, 15]) (by kernel_rfl) (by decide) (AllHead.cons (at_drop rfl) (by decide) (fun KK hK => ?_) (AllHead.cons (at_drop rfl) (by decide) (fun KK hK => ?_) AllHead.nil))
          · go_simp
            have hA := hA11
            clear hA11 hA15
            go_at_call 121
            (with_reducible refine (HPr.out _).mono ?_)
            rintro r w2 ⟨rfl, hb2⟩
            have hS2 := hlY _ (stepB (drew_below w1) hb2)
            refine hK _ _ hS2 ?_
            clear hK KK
            refine wpHead_take (i := 12) (v := ?_) (by kernel_rfl) hA (at_drop rfl) (by decide) (by kernel_rfl) (by kernel_rfl) (by kernel_rfl) (fun _ _ _ h => h) (Or.inl ⟨by rfl, ?_⟩) hS2 (fun hA => ?_)
            rotate_left
            · (intro w hSw; obtain ⟨s0, s1⟩ := hSw; go_simp <;> with_reducible rfl)
            simp only [Act.put, List.setIfInBounds_toArray, List.set_cons_zero, List.set_cons_succ]
            refine wpHead_take (i := 13) (v := ?_) (by kernel_rfl) hA (at_drop rfl) (by decide) (by kernel_rfl) (by kernel_rfl) (by kernel_rfl) (fun _ _ _ h => h) (Or.inl ⟨by rfl, ?_⟩) hS2 (fun hA => ?_)
            rotate_left
            · (intro w hSw; obtain ⟨s0, s1⟩ := hSw; go_simp <;> with_reducible rfl)
            simp only [Act.put, List.setIfInBounds_toArray, List.set_cons_zero, List.set_cons_succ]
            refine wpHead_take (i := 14) (v := ?_) (by kernel_rfl) hA (at_drop rfl) (by decide) (by kernel_rfl) (by kernel_rfl) (by kernel_rfl) (fun _ _ _ h => h) (Or.inl ⟨by rfl, ?_⟩) hS2 (fun hA => ?_)
            rotate_left
            · (intro w hSw; obtain ⟨s0, s1⟩ := hSw; go_simp <;> with_reducible rfl)
            simp only [Act.put, List.setIfInBounds_toArray, List.set_cons_zero, List.set_cons_succ]
            refine wpHead_ready (rs := [15]) (by kernel_rfl) (by decide) (AllHead.cons (at_drop rfl) (by decide) (fun KK hK => ?_) AllHead.nil)
            go_simp
            have hS3 := hlY _ (bal (stepB (drew_below w1) hb2) (.cells #[.int .u8 0, .int .u8 0] 92))
            refine hK _ _ hS3 ?_
            clear hK KK
            refine wpHead_ready (rs := [16]) (by kernel_rfl) (by decide) (AllHead.cons (at_drop rfl) (by decide) (fun KK hK => ?_) AllHead.nil)
            go_simp
            refine hK _ _ (hlY _ (bal (stepB (drew_below w1) hb2) (.cells #[.int .u8 p, .int .u8 q] 92))) ?_
            clear hK KK
            refine wpHead_end (by kernel_rfl) ?_
            simp only [List.drop_succ_cons, List.drop_zero]
            go_wp2_with fail
            go_meet
            exact ⟨w2.heap.size, rfl, rfl, Box2.new w2 _ _ _, bal (stepB (drew_below w1) hb2) _⟩
          · go_simp
            have hA := hA15
            clear hA11 hA15
            have hb1 : Below w1.heap.size w1 (w1.alloc (.cells #[.int .u8 0, .int .u8 0] 92)).drew := stepB (bal (Below.refl _ _) _) (drew_below _)
            have hX1 : Box2 (w1.alloc (.cells #[.int .u8 0, .int .u8 0] 92)).drew w1.heap.size 92 (.int .u8 0) (.int .u8 0) := Box2.new w1 _ _ _
            refine hK _ _ (hlY _ hb1) ?_
            clear hK KK
            have hA11 := hA.next (rs := [11]) (i := 11) (by kernel_rfl) (by decide) (by decide)
            refine wpHead_ready (rs := [11]) (by kernel_rfl) (by decide) (AllHead.cons (at_drop rfl) (by decide) (fun KK hK => ?_) AllHead.nil)
            clear hA
            have hA := hA11
            clear hA11
            go_simp
            go_at_call 121
            (with_reducible refine (HPr.out _).mono ?_)
            rintro r w2 ⟨rfl, hb2⟩
            have hS2 := hlY _ (stepB hb1 hb2)
            have hX2 := hX1.below hb2
            have x0 := hX2.c0
            have x1 := hX2.c1
            have y0 := hX2.f0
            have y1 := hX2.f1
            refine hK _ _ hS2 ?_
            clear hK KK
            refine wpHead_take (i := 12) (v := ?_) (by kernel_rfl) hA (at_drop rfl) (by decide) (by kernel_rfl) (by kernel_rfl) (by kernel_rfl) (fun _ _ _ h => h) (Or.inl ⟨by rfl, ?_⟩) hS2 (fun hA => ?_)
            rotate_left
            · (intro w hSw; obtain ⟨s0, s1⟩ := hSw; go_simp <;> with_reducible rfl)
            simp only [Act.put, List.setIfInBounds_toArray, List.set_cons_zero, List.set_cons_succ]
            refine wpHead_take (i := 13) (v := ?_) (by kernel_rfl) hA (at_drop rfl) (by decide) (by kernel_rfl) (by kernel_rfl) (by kernel_rfl) (fun _ _ _ h => h) (Or.inl ⟨by rfl, ?_⟩) hS2 (fun hA => ?_)
            rotate_left
            · (intro w hSw; obtain ⟨s0, s1⟩ := hSw; go_simp <;> with_reducible rfl)
            simp only [Act.put, List.setIfInBounds_toArray, List.set_cons_zero, List.set_cons_succ]
            refine wpHead_take (i := 14) (v := ?_) (by kernel_rfl) hA (at_drop rfl) (by decide) (by kernel_rfl) (by kernel_rfl) (by kernel_rfl) (fun _ _ _ h => h) (Or.inl ⟨by rfl, ?_⟩) hS2 (fun hA => ?_)
            rotate_left
            · (intro w hSw; obtain ⟨s0, s1⟩ := hSw; go_simp <;> with_reducible rfl)
            simp only [Act.put, List.setIfInBounds_toArray, List.set_cons_zero, List.set_cons_succ]
            refine wpHead_ready (rs := [16]) (by kernel_rfl) (by decide) (AllHead.cons (at_drop rfl) (by decide) (fun KK hK => ?_) AllHead.nil)
            go_simp
            refine hK _ _ (hlY _ (((stepB hb1 hb2).setCell (p := ⟨w1.heap.size, 0, none⟩) (Nat.le_refl _) (.int .u8 p)).setCell (p := ⟨w1.heap.size, 1, none⟩) (Nat.le_refl _) (.int .u8 q))) ?_
            clear hK KK
            refine wpHead_end (by kernel_rfl) ?_
            simp only [List.drop_succ_cons, List.drop_zero]
            go_wp2_with fail
            go_meet
            exact ⟨w1.heap.size, rfl, rfl, (hX2.set0 _).set1 _, ((stepB hb1 hb2).setCell (p := ⟨w1.heap.size, 0, none⟩) (Nat.le_refl _) (.int .u8 p)).setCell (p := ⟨w1.heap.size, 1, none⟩) (Nat.le_refl _) (.int .u8 q)⟩

        case rest =>
          obtain ⟨b, rfl, rfl, hX, hbx⟩ := hcut
          have x0 := hX.c0
          have x1 := hX.c1
          have HPc := Lib.hid (HP1.out.below hbx)
          have HFc := Lib.hid (HF1.out.trans (Fr.of_below hbx))
          clear c0 c1 c2 hX hbx
          rcases HOut.out with ⟨rfl, hst⟩ | ⟨rfl, hst⟩
          · have HFin : Hid (∀ w' v', PsAt w' B pb s j v' (l ++ [⟨3, p, q, 0, 0⟩]) → Fr pb v v' w w' → LetOut B pb s a v l w (.returned (.tuple #[])) w') := fun w' v' h1 h2 => by
              unfold LetOut
              rw [hst]
              refine ⟨rfl, v', ?_, h2⟩
              rw [Dl_len, show s.size - (s.size - j) = j by omega]
              exact h1
            have HAd : Hid (∀ w', PsAt w' B pb s j v l → Calls Try.prog 104 #[.pointer (some ⟨pb, 0, none⟩), .agg #[.int .u8 3, .int .u8 p, .int .u8 q, .int .i64 0, .int .i64 0]] w' fun e w2 => e = .returned (.tuple #[]) ∧ ∃ v', PsAt w2 B pb s j v' (l ++ [⟨3, p, q, 0, 0⟩]) ∧ Fr pb v v' w' w2) := fun w' h => add_any B pb s j v l ⟨3, p, q, 0, 0⟩ w' h (by omega)
            clear hst HOut
            go_wp2_with (go_at_call 104; ((with_reducible refine (HAd.out _ HPc.out).mono ?_); rintro r w5 ⟨rfl, v', hP5, hF5⟩))
            go_end0
            exact HFin.out _ _ hP5 (HFi.out.trans (HFc.out.trans hF5))
          · have HFin : Hid (∀ w', Fr pb v v wr w' → LetOut B pb s a v l w (.panicked (errV 2)) w') := fun w' hw' => by
              unfold LetOut
              rw [hst]
              exact ⟨rfl, HP.out.bel (HFi.out.trans hw')⟩
            clear hst HOut
            go_wp2
            exact ⟨rfl, HFin.out _ HFc.out⟩
      · have e93 : ((c : Int) != 93) = true := int_ne (by omega)
        have hst := HStep
        rw [if_neg h93] at hst
        have HB := Lib.hid fun X => beginsCube_any (s.extract a j) X (by simp; omega)
        rw [ext_list s a j hjs] at HB
        clear h93 HStep
        cases hb : begB ((Dl s a).take (j - a)) with
        | true =>
          rw [hb] at HB hst
          simp only [if_true] at hst
          have HI2 : Hid (LetI s a j) := hst.symm
          clear hst hb HI
          go_upto_region 2 with (go_at_call 103; ((with_reducible refine HT.out.mono ?_); rintro r w1 ⟨rfl, hP1, hF1⟩); obtain ⟨c0, c1, c2⟩ := hP1.cells; have HP1 := Lib.hid hP1; have HF1 := Lib.hid hF1; clear hP1 hF1)
          go_still_tail 10, (by kernel_rfl)
          change wpList _ _ _ _ _ w1.drew
          have hd := drew_below w1
          have HP2 := Lib.hid (HP1.out.below hd)
          have HF2 := Lib.hid (HF1.out.trans (Fr.of_below hd))
          clear hd c0 c1 c2
          generalize w1.drew = w2 at *
          go_wp2_with (go_at_call 120; ((with_reducible refine (HB.out _).mono ?_); rintro r w3 ⟨rfl, hb3⟩))
          go_roundg (s.size - j)
          case rel => exact ⟨j, haj, hjs, rfl, HI2, HP2.out.below hb3, HFi.out.trans (HF2.out.trans (Fr.of_below hb3))⟩
          case measure => omega
        | false =>
          rw [hb] at HB hst
          simp only [Bool.false_eq_true, if_false] at hst
          have HFin : Hid (∀ w', Fr pb v v wr w' → LetOut B pb s a v l w (.panicked (errV 2)) w') := fun w' hw' => by
            unfold LetOut
            rw [hst]
            exact ⟨rfl, HP.out.bel (HFi.out.trans hw')⟩
          clear hst hb HI
          go_upto_region 2 with (go_at_call 103; ((with_reducible refine HT.out.mono ?_); rintro r w1 ⟨rfl, hP1, hF1⟩); obtain ⟨c0, c1, c2⟩ := hP1.cells; have HP1 := Lib.hid hP1; have HF1 := Lib.hid hF1; clear hP1 hF1)
          go_still_tail 10, (by kernel_rfl)
          change wpList _ _ _ _ _ w1.drew
          have HF2 := Lib.hid (HF1.out.trans (Fr.of_below (drew_below w1)))
          clear c0 c1 c2
          generalize w1.drew = w2 at *
          go_wp2_with (go_at_call 120; ((with_reducible refine (HB.out _).mono ?_); rintro r w3 ⟨rfl, hb3⟩))
          exact ⟨rfl, HFin.out _ (HF2.out.trans (Fr.of_below hb3))⟩
end Go.Proofs.Ytbmamkackigdaab.Rx
