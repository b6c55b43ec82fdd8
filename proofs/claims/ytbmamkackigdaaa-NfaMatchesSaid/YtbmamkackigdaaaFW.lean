/- The reference's After, Run and Accepts of layer 6. -/
import Derived.Test.YtbmamkackigdaaaFV
import Derived.Test.YtbmamkackigdaaaRO
import Derived.Test.YtbmamkackigdaaaRH
import Derived.Deep.DeepCutAuto
namespace Go.Proofs.Ytbmamkackigdaaa.Nf
open Go Go.RowKit Go.Proofs.Ytbmamkackigdaaa Go.Proofs.Ytbmamkackigdaaa.Cb
set_option linter.unusedVariables false
set_option linter.unusedSimpArgs false
set_option maxRecDepth 100000
/-- An edge leads from a state of s to q under the letter x. -/
def hitE (s : List Int) (x : Nat) (q : Int) (e : Ed) : Bool := e.to == q && (decide (e.fr ∈ s) && cHas e.p e.q x)
def aftTo (l : List Ed) (s : List Int) (x : Nat) : Nat → List Int
  | 0 => []
  | k + 1 => aftTo l s x k ++ if l.any (hitE s x k) then [(k : Int)] else []
def aftL (n : Na) (s : List Int) (x : Nat) : List Int := aftTo n.es s x n.S.toNat
theorem mem_aftTo {l : List Ed} {s : List Int} {x : Nat} {z : Int} : ∀ {k : Nat}, z ∈ aftTo l s x k ↔ ∃ j : Nat, j < k ∧ z = j ∧ l.any (hitE s x j) = true
  | 0 => ⟨fun h => (by cases h), fun ⟨j, h, _⟩ => absurd h (Nat.not_lt_zero j)⟩
  | k + 1 => by
    show z ∈ aftTo l s x k ++ (if l.any (hitE s x k) then [(k : Int)] else []) ↔ _
    rw [List.mem_append, mem_aftTo]
    constructor
    · rintro (⟨j, h1, h2⟩ | h)
      · exact ⟨j, by omega, h2⟩
      · split at h
        · rename_i hh
          exact ⟨k, by omega, List.mem_singleton.1 h, hh⟩
        · cases h
    · rintro ⟨j, h1, h2, h3⟩
      rcases Nat.lt_or_eq_of_le (Nat.le_of_lt_succ h1) with h | rfl
      · exact .inl ⟨j, h, h2, h3⟩
      · right
        rw [if_pos h3, h2]
        exact List.mem_singleton.2 rfl
theorem aftTo_len {l : List Ed} {s : List Int} {x : Nat} : ∀ {k : Nat}, (aftTo l s x k).length ≤ k
  | 0 => Nat.le_refl _
  | k + 1 => by
    show (aftTo l s x k ++ (if l.any (hitE s x k) then [(k : Int)] else [])).length ≤ k + 1
    rw [List.length_append]
    have := aftTo_len (l := l) (s := s) (x := x) (k := k)
    split <;> simp <;> omega
theorem mem_aft {n : Na} (h : Ok n) {s : List Int} {xs : List Nat} (hs : ∀ z, z ∈ s ↔ hasB xs z = true) {x : Nat} {z : Int} : z ∈ aftL n s x ↔ hasB (stepW n.es xs x) z = true := by
  unfold aftL
  rw [mem_aftTo, has_step h.ed h.s64]
  constructor
  · rintro ⟨j, h1, rfl, h3⟩
    obtain ⟨e, he, h4⟩ := List.any_eq_true.1 h3
    unfold hitE at h4
    rw [Bool.and_eq_true, Bool.and_eq_true, beq_iff_eq, decide_eq_true_iff] at h4
    exact ⟨e, he, h4.2.2, (hs _).1 h4.2.1, h4.1⟩
  · rintro ⟨e, he, h1, h2, rfl⟩
    have hi := (edE_in (h.ed e he)).2.1
    refine ⟨e.to.toNat, by omega, by omega, List.any_eq_true.2 ⟨e, he, ?_⟩⟩
    unfold hitE
    rw [Bool.and_eq_true, Bool.and_eq_true, beq_iff_eq, decide_eq_true_iff]
    exact ⟨by omega, (hs _).2 h2, h1⟩
theorem ofL_of {l : List Int} {xs : List Nat} (hc : canon xs = xs) (ux : U64 xs) (h : ∀ z, z ∈ l ↔ hasB xs z = true) : ofL l = xs := by
  refine IsSet.unique (P := fun z => z ∈ l) ⟨ofL_canon l, u64_of l, fun z => ?_⟩ ⟨hc, ux, fun z => (h z).symm⟩
  rw [has_ofL]
  refine ⟨fun h => h.2, fun hz => ⟨?_, hz⟩⟩
  have := (h z).1 hz
  unfold hasB at this
  rw [Bool.and_eq_true, decide_eq_true_iff] at this
  exact this.1
/-- The list that the reference's Run keeps. -/
def runL (n : Na) (w : List Nat) (k : Nat) : List Int := (w.take k).foldl (aftL n) n.st
theorem runL_succ (n : Na) {w : List Nat} {k : Nat} (h : k < w.length) : aftL n (runL n w k) (wd w k) = runL n w (k + 1) := by
  unfold runL
  have e : w.take (k + 1) = w.take k ++ [wd w k] := by
    rw [List.take_succ_eq_append_getElem h]
    simp [wd, h]
  rw [e, List.foldl_append]
  rfl
theorem mem_runL {n : Na} (h : Ok n) {w : List Nat} : ∀ (k : Nat), k ≤ w.length → ∀ z, z ∈ runL n w k ↔ hasB (runTo n w k) z = true
  | 0, _, z => (has_st h.s64 h.st).symm
  | k + 1, hk, z => by
    rw [← runL_succ n (by omega), runTo_succ n (by omega)]
    exact mem_aft h (mem_runL h k (by omega))
theorem runL_len {n : Na} {w : List Nat} {k : Nat} (hs : n.S ≤ 64) (hst : n.st.length ≤ 1000000) (hk : k ≤ w.length) : (runL n w k).length ≤ 1000000 := by
  cases k with
  | zero => exact hst
  | succ k =>
    rw [← runL_succ n (by omega)]
    have : (aftL n (runL n w k) (wd w k)).length ≤ n.S.toNat := aftTo_len
    omega
theorem any_take_succ {l : List Ed} {p : Ed → Bool} {j : Nat} (h : j < l.length) : (l.take (j + 1)).any p = ((l.take j).any p || p (ed l j)) := by
  rw [List.take_succ_eq_append_getElem h, List.any_append]
  have : ed l j = l[j] := by unfold ed; rw [List.getD_eq_getElem?_getD, List.getElem?_eq_getElem h]; rfl
  rw [this]
  simp
theorem Boxed5.belowB {w w' : World} {b B : Nat} {u0 u1 s2 s3 s4 : Value} (h : Boxed5 w b u0 u1 s2 s3 s4) (hb : Below B w w') (hB : b < B) : Boxed5 w' b u0 u1 s2 s3 s4 :=
  ⟨Nat.lt_of_lt_of_le h.lt hb.size, (hb.cell (p := ⟨b, 0, none⟩) hB).trans h.c0, (hb.cell (p := ⟨b, 1, none⟩) hB).trans h.c1, (hb.cell (p := ⟨b, 2, none⟩) hB).trans h.c2, (hb.cell (p := ⟨b, 3, none⟩) hB).trans h.c3, (hb.cell (p := ⟨b, 4, none⟩) hB).trans h.c4⟩
set_option maxHeartbeats 8000000 in
theorem refAfter_any (n : Na) (A B C : Option Addr) (a b c : Nat) (w : World) (hx : NaAt w n A B C) (hl : NaLen n) (hO : Ok n) (D : Option Addr) (s : List Int) (d : Nat) (hs : Ints w D s) (hsl : s.length ≤ 1000000) (x : Nat) (h8 : x < 256) :
    Calls Try.prog 15 #[.agg #[.int .i64 n.V, .int .i64 n.S, .slice A n.st.length a, .slice B n.fi.length b, .slice C n.es.length c], .slice D s.length d, .int .u8 x] w fun e w' =>
      ∃ A' c', e = .returned (.slice A' (aftL n s x).length c') ∧ Ints w' A' (aftL n s x) ∧ Below w.heap.size w w' := by
  obtain ⟨i0, hi0, hz0, hz1, hz2⟩ := info_parts info_int6
  have hB0 := Boxed5.mk0 w n A B C a b c
  have hb00 := bal (Below.refl w.heap.size w) (.cells #[.int .i64 n.V, .int .i64 n.S, .slice A n.st.length a, .slice B n.fi.length b, .slice C n.es.length c] 25)
  obtain ⟨S, hS⟩ : ∃ S : Nat, n.S = S := ⟨n.S.toNat, by have := hO.s0; omega⟩
  have hS64 : S ≤ 64 := by have := hO.s64; omega
  have hes := hx.es
  have hle := hl.es
  have hIn := Lib.hid fun z X (hX : Below w.heap.size w X) => HasInt_any D s d z X (hs.below hX) hsl
  have hRes : Hid (aftL n s x = aftTo n.es s x S) := by unfold Hid aftL; rw [hS, Int.toNat_natCast]
  rw [hRes.out]
  have hsz0 : (w.alloc (.cells #[.int .i64 n.V, .int .i64 n.S, .slice A n.st.length a, .slice B n.fi.length b, .slice C n.es.length c] 25)).heap.size = w.heap.size + 1 := by simp
  clear hx hl hs hsl hRes hO
  rw [hS] at hB0 hb00 hsz0 ⊢
  clear hS
  go_enter Try.func15, Try.ntmps15
  go_wp2
  generalize World.alloc w (.cells #[.int .i64 n.V, .int .i64 S, .slice A n.st.length a, .slice B n.fi.length b, .slice C n.es.length c] 25) = w0 at *
  have hB00 := Lib.hid hB0
  have hsz00 : w.heap.size + 1 ≤ w0.heap.size := by omega
  go_loopw [7, 8, 9] (fun lv qv _ wr => ∃ (k : Nat) (v : Value), k ≤ S ∧ v = lv ∧ qv = .int .i64 k ∧ Hid (wr.ownsRow (w.heap.size + 1) 3 1 v (aftTo n.es s x k).length (zvs (aftTo n.es s x k))) ∧ Hid (Below (w.heap.size + 1) w0 wr)) (fun _ q _ _ => S - (intOf q).toNat)
  case atStart => exact ⟨0, _, by omega, rfl, rfl, ⟨rfl, .inl ⟨rfl, rfl⟩⟩, Below.refl _ _⟩
  case round =>
    clear hB0 hsz0
    obtain ⟨k, v, hk, rfl, rfl, hO, hb⟩ := hrel
    have hB := hB00.out.belowB hb.out (Nat.lt_succ_self _)
    obtain ⟨z0, z1, z2, z3, z4⟩ := hB.cells
    by_cases hkS : k < S
    · go_wp2
      obtain ⟨wq2, rfl⟩ : ∃ wq : World, wq = wr := ⟨_, rfl⟩
      have hO0 : Hid (wq2.ownsRow (w.heap.size + 1) 3 1 v (aftTo n.es s x k ++ if (n.es.take 0).any (hitE s x k) then [(k : Int)] else []).length (zvs (aftTo n.es s x k ++ if (n.es.take 0).any (hitE s x k) then [(k : Int)] else []))) := by
        simp only [List.take_zero, List.any_nil, Bool.false_eq_true, if_false, List.append_nil]
        exact hO
      go_loopw [7, 9] (fun lv jv wr => ∃ (j : Nat) (v : Value), j ≤ n.es.length ∧ v = lv ∧ jv = .int .i64 j ∧ Hid (wr.ownsRow (w.heap.size + 1) 3 1 v (aftTo n.es s x k ++ if (n.es.take j).any (hitE s x k) then [(k : Int)] else []).length (zvs (aftTo n.es s x k ++ if (n.es.take j).any (hitE s x k) then [(k : Int)] else []))) ∧ Hid (Below (w.heap.size + 1) w0 wr)) (fun _ j _ => n.es.length - (intOf j).toNat)
      case atStart => exact ⟨0, _, by omega, rfl, rfl, hO0, hb⟩
      case round =>
        clear hO hb hO0 hB z0 z1 z2 z3 z4
        obtain ⟨j, v, hj, rfl, rfl, hO, hb⟩ := hrel
        have hB := hB00.out.belowB hb.out (Nat.lt_succ_self _)
        obtain ⟨z0, z1, z2, z3, z4⟩ := hB.cells
        by_cases hjn : j < n.es.length
        · have hbw : Below w.heap.size w wr := hb00.trans (hb.out.mono (Nat.le_succ _))
          obtain ⟨hok, ad, rfl, had, hc⟩ := (hes.below hbw) j hjn
          obtain ⟨q0, q1, q2, q3⟩ := four_at hc
          have hPs := any_take_succ (p := hitE s x k) hjn
          obtain ⟨L, hL⟩ : ∃ L, L = aftTo n.es s x k ++ if (n.es.take j).any (hitE s x k) then [(k : Int)] else [] := ⟨_, rfl⟩
          obtain ⟨L', hL'⟩ : ∃ L', L' = aftTo n.es s x k ++ if (n.es.take (j + 1)).any (hitE s x k) then [(k : Int)] else [] := ⟨_, rfl⟩
          rw [← hL] at hO
          have hmem : decide ((k : Int) ∈ L) = (n.es.take j).any (hitE s x k) := by
            rw [hL, Bool.eq_iff_iff, decide_eq_true_iff, List.mem_append, mem_aftTo]
            constructor
            · rintro (⟨i, h1, h2, _⟩ | h)
              · omega
              · split at h
                · assumption
                · cases h
            · intro h
              right
              rw [if_pos h]
              exact List.mem_singleton.2 rfl
          have HNo : (hitE s x k (ed n.es j) = false ∨ (n.es.take j).any (hitE s x k) = true) → Hid (L' = L) := fun h => by
            show L' = L
            rw [hL', hL, hPs]
            rcases h with h | h
            · rw [h, Bool.or_false]
            · rw [h, Bool.true_or]
          have HYes : hitE s x k (ed n.es j) = true → (n.es.take j).any (hitE s x k) = false → Hid (L' = L ++ [(k : Int)]) := fun h1 h2 => by
            show L' = _
            rw [hL', hL, hPs, h1, h2]
            simp
          have hLl : L.length ≤ 70 := by
            have := aftTo_len (l := n.es) (s := s) (x := x) (k := k)
            rw [hL, List.length_append]
            split <;> simp <;> omega
          clear hL hPs
          obtain ⟨A7, c7, rfl, _⟩ := Ap.own_form hO.out
          have HL2 := Lib.hid fun X (h : Ints X A7 L) => HasInt_any A7 L c7 (k : Int) X h (by omega)
          rw [hmem] at HL2
          clear hmem
          have hHS := fun z => hIn.out z
          have hLx := fun X => Cb.Letter_any x (ed n.es j).p (ed n.es j).q X hok.p hok.q h8
          have hB4 := Boxed4.new wr 73 (.int .i64 (ed n.es j).fr) (.int .i64 (ed n.es j).to) (.int .u8 (ed n.es j).p) (.int .u8 (ed n.es j).q)
          have hszw := hb.out.size
          have hb2 := hbw.alloc hbw.size (.cells #[.int .i64 (ed n.es j).fr, .int .i64 (ed n.es j).to, .int .u8 (ed n.es j).p, .int .u8 (ed n.es j).q] 73)
          have HB2 := Lib.hid (hb.out.alloc (by omega) (.cells #[.int .i64 (ed n.es j).fr, .int .i64 (ed n.es j).to, .int .u8 (ed n.es j).p, .int .u8 (ed n.es j).q] 73))
          have ho2 := hO.out.alloc (.cells #[.int .i64 (ed n.es j).fr, .int .i64 (ed n.es j).to, .int .u8 (ed n.es j).p, .int .u8 (ed n.es j).q] 73)
          have hi2 : Ints _ A7 L := Dg.ints_row ho2 rfl
          clear hO hb hbw hB hc had hok
          generalize (n.es.take j).any (hitE s x k) = P at *
          unfold hitE at HNo HYes
          generalize ed n.es j = e at *
          go_upto_region 9 with fail
          generalize World.alloc wr (.cells #[.int .i64 e.fr, .int .i64 e.to, .int .u8 e.p, .int .u8 e.q] 73) = W1 at *
          generalize wr.heap.size = g at *
          obtain ⟨e0, e1, e2, e3⟩ := hB4.cells
          cases h1 : (e.to == (k : Int)) with
          | false =>
            have hN := HNo (.inl (by rw [h1]; rfl))
            clear HNo HYes HL2 hHS hLx
            go_wp2
            go_roundw
            case rel => exact ⟨j + 1, _, by omega, rfl, by go_num, by rw [← hL', hN.out]; exact ho2, HB2.out⟩
            case measure => simp [intOf]; omega
          | true =>
            cases h2 : decide (e.fr ∈ s) with
            | false =>
              have hN := HNo (.inl (by rw [h1, h2]; rfl))
              have HS := Lib.hid (hHS e.fr)
              rw [h2] at HS
              clear HNo HYes HL2 hHS hLx
              go_wp2_with (first
                | (go_at_call 45; ((with_reducible refine (HS.out _ hb2).mono ?_); rintro r w2 ⟨rfl, rfl⟩); clear HS)
                | (go_at_call 46; ((with_reducible refine (HLe.out _).mono ?_); rintro r w3 ⟨rfl, rfl⟩))
                | (go_at_call 45; ((with_reducible refine (HL2.out _ hi2).mono ?_); rintro r w4 ⟨rfl, rfl⟩)))
              go_roundw
              case rel => exact ⟨j + 1, _, by omega, rfl, by go_num, by rw [← hL', hN.out]; exact ho2, HB2.out⟩
              case measure => simp [intOf]; omega
            | true =>
              have HS := Lib.hid (hHS e.fr)
              rw [h2] at HS
              cases h3 : cHas e.p e.q x with
              | false =>
                have hN := HNo (.inl (by rw [h1, h2, h3]; rfl))
                have HLe := Lib.hid hLx
                rw [h3] at HLe
                clear HNo HYes HL2 hHS hLx
                go_wp2_with (first
                  | (go_at_call 45; ((with_reducible refine (HS.out _ hb2).mono ?_); rintro r w2 ⟨rfl, rfl⟩); clear HS)
                  | (go_at_call 46; ((with_reducible refine (HLe.out _).mono ?_); rintro r w3 ⟨rfl, rfl⟩))
                  | (go_at_call 45; ((with_reducible refine (HL2.out _ hi2).mono ?_); rintro r w4 ⟨rfl, rfl⟩)))
                go_roundw
                case rel => exact ⟨j + 1, _, by omega, rfl, by go_num, by rw [← hL', hN.out]; exact ho2, HB2.out⟩
                case measure => simp [intOf]; omega
              | true =>
                have HLe := Lib.hid hLx
                rw [h3] at HLe
                cases P with
                | true =>
                  have hN := HNo (.inr rfl)
                  clear HNo HYes hHS hLx
                  go_wp2_with (first
                    | (go_at_call 45; ((with_reducible refine (HS.out _ hb2).mono ?_); rintro r w2 ⟨rfl, rfl⟩); clear HS)
                    | (go_at_call 46; ((with_reducible refine (HLe.out _).mono ?_); rintro r w3 ⟨rfl, rfl⟩))
                    | (go_at_call 45; ((with_reducible refine (HL2.out _ hi2).mono ?_); rintro r w4 ⟨rfl, rfl⟩)))
                  go_roundw
                  case rel => exact ⟨j + 1, _, by omega, rfl, by go_num, by rw [← hL', hN.out]; exact ho2, HB2.out⟩
                  case measure => simp [intOf]; omega
                | false =>
                  have hY := HYes (by rw [h1, h2, h3]; rfl) rfl
                  clear HNo HYes hHS hLx
                  have hW1 : w.heap.size + 1 ≤ W1.heap.size := Nat.le_trans hsz00 HB2.out.size
                  go_wp2_with (first
                    | (go_at_call 45; ((with_reducible refine (HS.out _ hb2).mono ?_); rintro r w2 ⟨rfl, rfl⟩); clear HS)
                    | (go_at_call 46; ((with_reducible refine (HLe.out _).mono ?_); rintro r w3 ⟨rfl, rfl⟩))
                    | (go_at_call 45; ((with_reducible refine (HL2.out _ hi2).mono ?_); rintro r w4 ⟨rfl, rfl⟩))
                    | (at_builtin; refine wpList_append_own _ rfl _ _ 22 rfl (w.heap.size + 1) 3 i0 (.int .i64 0) 1 8 Try.underlying22 hi0 hz0 hz1 hz2 rfl (by decide) _ _ _ rfl (ho2.alloc _) ⟨W1.heap.size, 0, none⟩ 1 1 [.int .i64 k] rfl rfl (cell_one_new _ _ _) (by simp [Value.oneCell']) (by unfold maxLen; omega) (by omega) (by simp; omega) ?_; intro v' w6 hown' hgrow _; have HO6 := Lib.hid hown'; have HB6 := Lib.hid ((HB2.out.alloc hW1 (.cells #[.int .i64 k] 3)).grown hgrow (by simp; omega) (fun q hq => (ho2.lt q hq).1)); clear hown' hgrow))
                  go_roundw
                  case rel => exact ⟨j + 1, _, by omega, rfl, by go_num, by rw [← hL', hY.out, List.length_append, zvs_snoc]; exact HO6.out, HB6.out⟩
                  case measure => simp [intOf]; omega
        · obtain rfl : j = n.es.length := by omega
          have hO2 : Hid (wr.ownsRow (w.heap.size + 1) 3 1 v (aftTo n.es s x (k + 1)).length (zvs (aftTo n.es s x (k + 1)))) := by
            have := hO.out
            rw [List.take_length] at this
            exact this
          go_wp2
          go_roundw
          case rel => exact ⟨k + 1, v, by omega, rfl, by go_num, hO2, hb⟩
          case measure => simp [intOf]; omega
    · obtain rfl : k = S := by omega
      obtain ⟨A', c', rfl, _⟩ := Ap.own_form hO.out
      have hR := Lib.hid (Dg.ints_row (l := aftTo n.es s x k) hO.out rfl)
      have hbb := Lib.hid (hb00.trans (hb.out.mono (Nat.le_succ _)))
      go_wp2
      go_ret
      exact ⟨A', c', rfl, hR.out, hbb.out⟩
theorem wd_in {l : List Nat} {k : Nat} (h : k < l.length) : wd l k ∈ l := by
  unfold wd
  rw [List.getD_eq_getElem?_getD, List.getElem?_eq_getElem h]
  exact List.getElem_mem h
theorem nd_in {l : List Int} {k : Nat} (h : k < l.length) : nd l k ∈ l := by
  unfold nd
  rw [List.getD_eq_getElem?_getD, List.getElem?_eq_getElem h]
  exact List.getElem_mem h
theorem acc_runL {n : Na} (hO : Ok n) (l : List Nat) : accW n l = true ↔ ∃ k, k < (runL n l l.length).length ∧ nd (runL n l l.length) k ∈ n.fi := by
  unfold accW
  rw [meetB_has (u64_run _ _)]
  constructor
  · rintro ⟨z, h1, h2⟩
    rw [← runTo_all, ← mem_runL hO l.length (Nat.le_refl _)] at h1
    obtain ⟨k, hk, rfl⟩ := List.getElem_of_mem h1
    refine ⟨k, hk, ?_⟩
    unfold nd
    rw [List.getD_eq_getElem?_getD, List.getElem?_eq_getElem hk]
    exact (has_st hO.s64 hO.fi).1 h2
  · rintro ⟨k, hk, h⟩
    refine ⟨nd (runL n l l.length) k, ?_, (has_st hO.s64 hO.fi).2 h⟩
    rw [← runTo_all, ← mem_runL hO l.length (Nat.le_refl _)]
    exact nd_in hk
section
variable (n : Na) (A B C : Option Addr) (a b c : Nat) (w : World) (hx : NaAt w n A B C) (hl : NaLen n) (D : Option Addr) (l : List Nat) (d : Nat) (hw : Bys w D l) (h8 : ∀ y ∈ l, y < 256) (hll : l.length ≤ 1000000)
include hx hl hw h8 hll
set_option maxHeartbeats 4000000 in
theorem refRun_any (hO : Ok n) :
    Calls Try.prog 17 #[.agg #[.int .i64 n.V, .int .i64 n.S, .slice A n.st.length a, .slice B n.fi.length b, .slice C n.es.length c], .slice D l.length d] w fun e w' =>
      ∃ A' c', e = .returned (.slice A' (runL n l l.length).length c') ∧ Ints w' A' (runL n l l.length) ∧ Below w.heap.size w w' := by
  have hB0 := Boxed5.mk0 w n A B C a b c
  have hb0 := bal (Below.refl w.heap.size w) (.cells #[.int .i64 n.V, .int .i64 n.S, .slice A n.st.length a, .slice B n.fi.length b, .slice C n.es.length c] 25)
  have HCp := Lib.hid fun X (hX : Below w.heap.size w X) => Dg.CopyInts_any A n.st a X (hx.st.below hX) hl.st
  have HAf : Hid (∀ X, Below w.heap.size w X → ∀ k, k < l.length → ∀ E f, Ints X E (runL n l k) → Calls Try.prog 15 #[.agg #[.int .i64 n.V, .int .i64 n.S, .slice A n.st.length a, .slice B n.fi.length b, .slice C n.es.length c], .slice E (runL n l k).length f, .int .u8 (wd l k : Nat)] X fun e w' =>
      ∃ A' c', e = .returned (.slice A' (runL n l (k + 1)).length c') ∧ Ints w' A' (runL n l (k + 1)) ∧ Below X.heap.size X w') := fun X hX k hk E f hE => by
    have := refAfter_any n A B C a b c X (hx.below hX) hl hO E (runL n l k) f hE (runL_len hO.s64 hl.st (by omega)) (wd l k) (h8 _ (wd_in hk))
    rw [runL_succ n hk] at this
    exact this
  have HBw : Hid (∀ X, Below w.heap.size w X → Vals X D l.length fun j => .int .u8 (wd l j : Nat)) := fun X hX => hw.below hX
  have hR0 : n.st = runL n l 0 := rfl
  rw [← show (runL n l 0).length = n.st.length from rfl] at *
  have HI : Hid (∀ X E c', X.ownsRow w.heap.size 3 1 (.slice E (runL n l 0).length c') (runL n l 0).length (n.st.map (Value.int .i64)) → Ints X E (runL n l 0)) := fun X E c' h => Dg.ints_row h rfl
  clear hx hl hw h8 hO hR0
  generalize wd l = W at *
  generalize l.length = m at *
  generalize runL n l = R at *
  go_enter Try.func17, Try.ntmps17
  go_wp2_with (go_at_call 35; ((with_reducible refine (HCp.out _ hb0).mono ?_); rintro e w2 ⟨A2, c2, rfl, ho2, hc2, hb2⟩); have hi2 := HI.out _ _ _ (ownsRow_mono ho2 hb0.size); replace hB0 := hB0.below hb2; replace hb0 := stepB hb0 hb2; clear ho2 hc2 hb2 HCp HI)
  go_loopw [5, 6] (fun sv iv wr => ∃ (k : Nat) (A' : Option Addr) (c' : Nat), k ≤ m ∧ sv = .slice A' (R k).length c' ∧ iv = .int .i64 k ∧ Ints wr A' (R k) ∧ Boxed5 wr w.heap.size (.int .i64 n.V) (.int .i64 n.S) (.slice A (R 0).length a) (.slice B n.fi.length b) (.slice C n.es.length c) ∧ Below w.heap.size w wr) (fun _ i _ => m - (intOf i).toNat)
  case atStart => exact ⟨0, A2, c2, Nat.zero_le _, rfl, rfl, hi2, hB0, hb0⟩
  case round =>
    clear hi2 hB0 hb0
    obtain ⟨k, A3, c3, hk, rfl, rfl, hi3, hB0, hb0⟩ := hrel
    by_cases hk2 : k < m
    · have hklt : decide ((k : Int) < (m : Int)) = true := decide_eq_true (by omega)
      obtain ⟨ad, rfl, hadl, hcW⟩ := HBw.out wr hb0 k hk2
      go_wp2
      have KE : Below wr.heap.size wr wr.drew := drew_below wr
      have KD : Below w.heap.size w wr.drew := stepB hb0 KE
      have hBd := hB0.below KE
      have hcD : wr.drew.cell? (ad.add k) = some (.int .u8 (W k : Nat)) := (Below.cell KE (by rw [addr_block]; exact hadl)).trans hcW
      have hSd : wr.drew.cell? ⟨w.heap.size, 0, none⟩ = some (.int .i64 n.V) ∧ wr.drew.cell? ⟨w.heap.size, 1, none⟩ = some (.int .i64 n.S) ∧ wr.drew.cell? ⟨w.heap.size, 2, none⟩ = some (.slice A (R 0).length a) ∧ wr.drew.cell? ⟨w.heap.size, 3, none⟩ = some (.slice B n.fi.length b) ∧ wr.drew.cell? ⟨w.heap.size, 4, none⟩ = some (.slice C n.es.length c) ∧ wr.drew.cell? (ad.add k) = some (.int .u8 (W k : Nat)) ∧ Below wr.heap.size wr wr.drew := ⟨hBd.c0, hBd.c1, hBd.c2, hBd.c3, hBd.c4, hcD, KE⟩
      go_region_held3 (fun w' => w'.cell? ⟨w.heap.size, 0, none⟩ = some (.int .i64 n.V) ∧ w'.cell? ⟨w.heap.size, 1, none⟩ = some (.int .i64 n.S) ∧ w'.cell? ⟨w.heap.size, 2, none⟩ = some (.slice A (R 0).length a) ∧ w'.cell? ⟨w.heap.size, 3, none⟩ = some (.slice B n.fi.length b) ∧ w'.cell? ⟨w.heap.size, 4, none⟩ = some (.slice C n.es.length c) ∧ w'.cell? (ad.add k) = some (.int .u8 (W k : Nat)) ∧ Below wr.heap.size wr w')
        (first | assumption)
        ((go_at_call 15; ((with_reducible refine (HAf.out wr.drew KD k hk2 A3 c3 (hi3.below KE)).mono ?_); rintro e w15 ⟨A15, c15, rfl, hi15, hb15⟩); have K15 := stepB KE hb15; have B15 := hB0.below K15; have hS15 : w15.cell? ⟨w.heap.size, 0, none⟩ = some (.int .i64 n.V) ∧ w15.cell? ⟨w.heap.size, 1, none⟩ = some (.int .i64 n.S) ∧ w15.cell? ⟨w.heap.size, 2, none⟩ = some (.slice A (R 0).length a) ∧ w15.cell? ⟨w.heap.size, 3, none⟩ = some (.slice B n.fi.length b) ∧ w15.cell? ⟨w.heap.size, 4, none⟩ = some (.slice C n.es.length c) ∧ w15.cell? (ad.add k) = some (.int .u8 (W k : Nat)) ∧ Below wr.heap.size wr w15 := ⟨B15.c0, B15.c1, B15.c2, B15.c3, B15.c4, (Below.cell K15 (by rw [addr_block]; exact hadl)).trans hcW, K15⟩))
      have K := hS15.2.2.2.2.2.2
      replace hb0 := stepB hb0 K
      replace hB0 := hB0.below K
      clear hSd hS15 KE KD hBd hcD K15 B15 hb15 K HBw
      go_wp2
      go_roundw
      case rel => exact ⟨k + 1, A15, c15, by omega, rfl, by go_num, hi15, hB0, hb0⟩
      case measure => simp [intOf]; omega
    · obtain rfl : k = m := by omega
      have hklt : decide ((k : Int) < (k : Int)) = false := decide_eq_false (by omega)
      go_wp2
      go_ret
      exact ⟨A3, c3, rfl, hi3, hb0⟩
set_option maxHeartbeats 4000000 in
theorem refAccepts_any :
    Calls Try.prog 18 #[.agg #[.int .i64 n.V, .int .i64 n.S, .slice A n.st.length a, .slice B n.fi.length b, .slice C n.es.length c], .slice D l.length d] w fun e w' =>
      e = .returned (.tuple #[.bool (accE n l), .int .i64 (wrongN n l)]) ∧ Below w.heap.size w w' := by
  have hB0 := Boxed5.mk0 w n A B C a b c
  have hb0 := bal (Below.refl w.heap.size w) (.cells #[.int .i64 n.V, .int .i64 n.S, .slice A n.st.length a, .slice B n.fi.length b, .slice C n.es.length c] 25)
  have HC := Lib.hid (refCheck6_any n A B C a b c _ (hx.below hb0) hl)
  by_cases h0 : chkN n = 0
  · have hO := ok_of h0
    obtain ⟨v, hv⟩ : ∃ v : Nat, n.V = v := ⟨n.V.toNat, by have := hO.v0; omega⟩
    have HW := Lib.hid fun X (hX : Below w.heap.size w X) => refWord_any v (by have := hO.v6; omega) D l d X (hw.below hX) h8 hll
    have hwr : wrongN n l = wordE v l := by
      unfold wrongN
      rw [if_neg (by omega), hv]
    rw [h0] at HC
    by_cases hW0 : wordE v l = 0
    · have HRn := Lib.hid fun X (hX : Below w.heap.size w X) => refRun_any n A B C a b c X (hx.below hX) hl D l d (hw.below hX) h8 hll hO
      have HIn := Lib.hid fun z X (hX : Below w.heap.size w X) => HasInt_any B n.fi b z X (hx.fi.below hX) hl.fi
      have hacc := acc_runL hO l
      have hE1 : accE n l = accW n l := by unfold accE; rw [if_pos (hwr.trans hW0)]
      rw [hE1, hwr, hW0]
      rw [hW0] at HW
      have HY : Hid (∀ k, k < (runL n l l.length).length → nd (runL n l l.length) k ∈ n.fi → accW n l = true) := fun k hk h => hacc.2 ⟨k, hk, h⟩
      have HN : Hid ((∀ k, k < (runL n l l.length).length → ¬ nd (runL n l l.length) k ∈ n.fi) → accW n l = false) := fun h => by
        cases hc : accW n l with
        | false => rfl
        | true =>
          obtain ⟨k, hk, h2⟩ := hacc.1 hc
          exact absurd h2 (h k hk)
      have hrl : (runL n l l.length).length ≤ 1000000 := runL_len hO.s64 hl.st (Nat.le_refl _)
      clear hx hl hw h8 h0 hO hwr hW0 hacc hE1
      rw [hv] at hB0 hb0 HC HRn ⊢
      clear hv
      generalize runL n l l.length = R at *
      generalize accW n l = G at *
      generalize l.length = m at *
      go_enter Try.func18, Try.ntmps18
      go_wp2_with (first
        | (go_at_call 13; ((with_reducible refine HC.out.mono ?_); rintro e w2 ⟨rfl, hb2⟩); replace hB0 := hB0.below hb2; replace hb0 := stepB hb0 hb2; clear hb2; obtain ⟨z0, z1, z2, z3, z4⟩ := hB0.cells)
        | (go_at_call 14; ((with_reducible refine (HW.out _ hb0).mono ?_); rintro e w3 ⟨rfl, hb3⟩); clear z0 z1 z2 z3 z4; replace hB0 := hB0.below hb3; replace hb0 := stepB hb0 hb3; clear hb3; obtain ⟨z0, z1, z2, z3, z4⟩ := hB0.cells)
        | (go_at_call 17; ((with_reducible refine (HRn.out _ hb0).mono ?_); rintro e w4 ⟨A4, c4, rfl, hi4, hb4⟩); clear z0 z1 z2 z3 z4; replace hB0 := hB0.below hb4; replace hb0 := stepB hb0 hb4; clear hb4; obtain ⟨z0, z1, z2, z3, z4⟩ := hB0.cells))
      go_loopw [8] (fun iv wr => ∃ k q : Nat, k ≤ R.length ∧ iv = .int .i64 k ∧ Hid (∀ i, i < k → ¬ nd R i ∈ n.fi) ∧ wr = w4.drewN q) (fun i _ => R.length - (intOf i).toNat)
      case atStart => exact ⟨0, 0, Nat.zero_le _, rfl, fun i hi => absurd hi (by omega), rfl⟩
      case round =>
        obtain ⟨k, q, hk, rfl, H, rfl⟩ := hrel
        have hbq := stepB hb0 (Ap.drewN_below w4 q)
        by_cases hk2 : k < R.length
        · have hklt : (k : Int) < (R.length : Int) := by omega
          obtain ⟨ad, rfl, hcW⟩ := hi4.at_ hk2
          by_cases hin : nd R k ∈ n.fi
          · have hG := Lib.hid (HY.out k hk2 hin)
            have HS := Lib.hid fun X hX => HIn.out (nd R k) X hX
            rw [decide_eq_true hin] at HS
            clear H HY HN HIn hin hi4
            generalize nd R k = x at *
            go_wp2
            go_quiet (first | (go_at_call 45; exact ((HS.out _ (by first | exact stepB hb0 (Ap.drewN_below _ _) | exact stepB (stepB hb0 (Ap.drewN_below _ _)) (Ap.drewN_below _ _))).mono (by rintro e w' ⟨rfl, rfl⟩; exact ⟨rfl, _, rfl⟩))))
            go_wp2
            go_ret2
            exact ⟨by rw [hG.out]; rfl, stepB hbq (Ap.drewN_below _ _)⟩
          · have H' : Hid (∀ i, i < k + 1 → ¬ nd R i ∈ n.fi) := fun i hi => by
              rcases Nat.lt_or_eq_of_le (Nat.le_of_lt_succ hi) with h1 | rfl
              · exact H.out i h1
              · exact hin
            have HS := Lib.hid fun X hX => HIn.out (nd R k) X hX
            rw [decide_eq_false hin] at HS
            clear H HY HN HIn hin hi4
            generalize nd R k = x at *
            go_wp2
            go_quiet (first | (go_at_call 45; exact ((HS.out _ (by first | exact stepB hb0 (Ap.drewN_below _ _) | exact stepB (stepB hb0 (Ap.drewN_below _ _)) (Ap.drewN_below _ _))).mono (by rintro e w' ⟨rfl, rfl⟩; exact ⟨rfl, _, rfl⟩))))
            go_wp2
            go_roundw
            case rel => exact ⟨k + 1, _, by omega, by go_num, H', rfl⟩
            case measure => simp [intOf]; omega
        · have hG := Lib.hid (HN.out fun i hi => H.out i (by omega))
          obtain rfl : k = R.length := by omega
          clear H HY HN HIn hi4
          go_wp2
          go_ret2
          exact ⟨by rw [hG.out]; rfl, hbq⟩
    · have hE1 : accE n l = false := by unfold accE; rw [if_neg (by rw [hwr]; exact hW0)]
      rw [hE1, hwr]
      have hne : (wordE v l != 0) = true := by rw [bne_iff_ne]; exact hW0
      clear hx hl hw h8 h0 hO hwr hW0 hE1
      rw [hv] at hB0 hb0 HC ⊢
      clear hv
      have HW2 : Hid (∀ X, Below w.heap.size w X → Calls Try.prog 14 #[.slice D l.length d, .int .i64 v] X fun r w' => r = .returned (.int .i64 (wordE v l)) ∧ Below X.heap.size X w') := HW
      clear HW
      generalize wordE (v : Int) l = E at *
      go_enter Try.func18, Try.ntmps18
      go_wp2_with (first
        | (go_at_call 13; ((with_reducible refine HC.out.mono ?_); rintro e w2 ⟨rfl, hb2⟩); replace hB0 := hB0.below hb2; replace hb0 := stepB hb0 hb2; clear hb2; obtain ⟨z0, z1, z2, z3, z4⟩ := hB0.cells)
        | (go_at_call 14; ((with_reducible refine (HW2.out _ hb0).mono ?_); rintro e w3 ⟨rfl, hb3⟩)))
      go_ret2
      exact ⟨rfl, stepB hb0 hb3⟩
  · have hE : wrongN n l = chkN n := by unfold wrongN; rw [if_pos h0]
    have hE1 : accE n l = false := by unfold accE; rw [if_neg (by rw [hE]; exact h0)]
    rw [hE1, hE]
    have hne : (chkN n != 0) = true := by rw [bne_iff_ne]; exact h0
    have heq : (chkN n == 0) = false := by rw [beq_eq_false_iff_ne]; exact h0
    clear hx hl hw h8 h0 hE hE1
    generalize chkN n = E at *
    go_enter Try.func18, Try.ntmps18
    go_wp2_with (go_at_call 13; ((with_reducible refine HC.out.mono ?_); rintro e w2 ⟨rfl, hb2⟩))
    go_ret2
    exact ⟨rfl, stepB hb0 hb2⟩
end
/-- What the law's set answers: the set of the list's members, or nil. -/
theorem set6_good (A : Option Addr) (l : List Int) (c : Nat) (w : World) (hx : Ints w A l) (hl : l.length ≤ 1000000) :
    Calls Try.prog 24 #[.slice A l.length c, .int .i64 0] w fun e w' => ∃ A' c', e = .returned (.slice A' (ofL l).length c') ∧ Words w' A' (ofL l) ∧ Below w.heap.size w w' := by
  have HO := Lib.hid (refOf_any A l c w hx (by unfold maxLen; omega))
  clear hx
  go_enter Try.func24, Try.ntmps24
  go_wp2_with (go_at_call 53; ((with_reducible refine HO.out.mono ?_); rintro e w2 ⟨v, rfl, ho, hb⟩); obtain ⟨A', c', rfl, _⟩ := Ap.own_form ho)
  go_ret
  exact ⟨A', c', rfl, Vals.of_own ho fun j hj => uvs_get _ j hj, hb⟩
theorem set6_bad (A : Option Addr) (n c : Nat) (e : Int) (he : e ≠ 0) (w : World) :
    Calls Try.prog 24 #[.slice A n c, .int .i64 e] w fun r w' => r = .returned (.slice none 0 0) ∧ w = w' := by
  have hne : (e != 0) = true := by rw [bne_iff_ne]; exact he
  clear he
  go_enter Try.func24, Try.ntmps24
  go_wp2
  go_ret
  exact ⟨rfl, rfl⟩
end Go.Proofs.Ytbmamkackigdaaa.Nf
