/- The reference's Apply, Exists, Cube. -/
import Derived.Test.YtbhfmeohaoojfaaNU
import Derived.Outline
namespace Go.Proofs.Ytbhfmeohaoojfaa.Dn
open Go Go.RowKit Go.Proofs.Ytbhfmeohaoojfaa.Ap
open Go.Proofs.Ytbhfmeohaoojfaa.Dg
set_option linter.unusedVariables false
set_option maxRecDepth 100000
set_option maxHeartbeats 4000000 in
theorem refApply_any (op : Nat) (A B : Option Addr) (a b : List Int) (c d : Nat) (w : World) (ho : op < 256) (ha : Ints w A a) (hb : Ints w B b) (hl : a.length = b.length) (hn : a.length ≤ 1000) :
    Calls Try.prog 40 #[.int .u8 op, .slice A a.length c, .slice B b.length d] w fun e w' =>
      ∃ A' c', e = .returned (.slice A' a.length c') ∧ w'.ownsRow w.heap.size 3 1 (.slice A' a.length c') a.length ((appL op a b a.length).map (Value.int .i64)) ∧ Below w.heap.size w w' := by
  obtain ⟨i0, hi0, hz0, hz1, hz2⟩ := info_parts info_int
  have HS := Lib.hid fun m => appL_succ op a b m
  have HV := Lib.hid fun x y w => Value_any op x y w ho
  obtain ⟨n, hnn⟩ : ∃ n, n = a.length := ⟨_, rfl⟩
  have hb2 : Vals w B n fun j => .int .i64 (nd b j) := by rw [hnn, hl]; exact hb
  have ha2 : Vals w A n fun j => .int .i64 (nd a j) := by rw [hnn]; exact ha
  rw [← hl, ← hnn]
  rw [← hnn] at hn
  have hz : appL op a b 0 = [] := by simp [appL]
  have HZ := Lib.hid hz
  clear hz ha hb hnn hl
  go_enter Try.func40, Try.ntmps40
  go_wp2
  go_loopw [7, 8] (fun u i wr => ∃ y : Nat, y ≤ n ∧ i = .int .i64 y ∧ wr.ownsRow w.heap.size 3 1 u y ((appL op a b y).map (Value.int .i64)) ∧ Below w.heap.size w wr) (fun _ i _ => n - (intOf i).toNat)
  case atStart => exact ⟨0, by omega, rfl, by rw [HZ.out]; exact ⟨rfl, .inl ⟨rfl, rfl⟩⟩, Below.refl _ _⟩
  case round =>
    obtain ⟨y, hy, rfl, ho, hb⟩ := hrel
    obtain ⟨vA, vc, rfl, hvc⟩ := own_form ho
    by_cases hyn : y < n
    · obtain ⟨ad, rfl, hca⟩ := (ha2.below hb).at_ hyn
      obtain ⟨bd, rfl, hcb⟩ := (hb2.below hb).at_ hyn
      have hyi : (y : Int) < (n : Int) := by omega
      have HE := Lib.hid (HS.out y)
      generalize nd a y = x1 at *
      generalize nd b y = x2 at *
      have HVy := Lib.hid fun X => HV.out x1 x2 X
      generalize valI op x1 x2 = z at *
      have hs := hb.size
      have HO := Lib.hid ho
      clear ho
      go_wp2
      go_region_law (first
        | (refine step_append_own rfl (.tmp 15) (.tmp 26) 29 rfl w.heap.size 3 i0 _ 1 8 Try.underlying29 hi0 hz0 hz1 hz2 rfl (by decide) (.slice vA y vc) y ((appL op a b y).map (Value.int .i64)) (by simp [Act.eval]) ((own_bel HO.out (drew_below wr)).alloc _) ⟨wr.heap.size, 0, none⟩ 1 1 [.int .i64 z] (by simp [Act.eval]) rfl (cells_new _ _ _) (by simp [Value.oneCell']) (by unfold maxLen; omega) (by omega) (by simp; omega) ?_; intro A' c' w1 hown' hgrow hob)
        | (go_simp; go_at_call 64; refine (HVy.out _).mono ?_; rintro e w2 ⟨rfl, rfl⟩))
      all_goals
        have hb4 : Below w.heap.size w w1 := ((hb.trans ((drew_below wr).mono hs)).alloc (by exact hs) _).grown hgrow (by simp; omega) (fun q hq => (HO.out.lt q hq).1)
        have hown2 : w1.ownsRow w.heap.size 3 1 (.slice A' (y + 1) c') (y + 1) ((appL op a b (y + 1)).map (Value.int .i64)) := by
          rw [HE.out, List.map_append]; exact hown'
        go_wp2
        go_roundw
        case rel => exact ⟨y + 1, by omega, by go_num, hown2, hb4⟩
        case measure => simp [intOf]; omega
    · obtain rfl : y = n := by omega
      go_wp2
      go_ret
      exact ⟨vA, vc, rfl, ho, hb⟩
/-- The reference's Exists. -/
def exL (a : List Int) (v : Nat) : List Int := appL 1 (resL a v false a.length) (resL a v true a.length) a.length
theorem exL_len (a : List Int) (v : Nat) : (exL a v).length = a.length := by unfold exL; rw [appL_len]
set_option maxHeartbeats 2000000 in
theorem refExists_any (A : Option Addr) (t : List Int) (c v n : Nat) (w : World) (hx : Ints w A t) (hn : n ≤ 6) (ht : t.length = 2 ^ n) (hv : v < n) :
    Calls Try.prog 42 #[.slice A t.length c, .int .i64 v] w fun e w' =>
      ∃ A' c', e = .returned (.slice A' t.length c') ∧ w'.ownsRow w.heap.size 3 1 (.slice A' t.length c') t.length ((exL t v).map (Value.int .i64)) ∧ Below w.heap.size w w' := by
  have HR := Lib.hid fun b (X : World) (hX : Below w.heap.size w X) => Restrict_any A t c v n b X (Vals.below hx hX) hn ht hv
  have h64 := pow7 hn
  have HA : Hid (∀ (A' B' : Option Addr) (c' d' : Nat) (X : World), Ints X A' (resL t v false t.length) → Ints X B' (resL t v true t.length) → Calls Try.prog 40 #[.int .u8 1, .slice A' t.length c', .slice B' t.length d'] X fun e w' =>
      ∃ A' c', e = .returned (.slice A' t.length c') ∧ w'.ownsRow X.heap.size 3 1 (.slice A' t.length c') t.length ((exL t v).map (Value.int .i64)) ∧ Below X.heap.size X w') := fun A' B' c' d' X h1 h2 => by
    have := refApply_any 1 A' B' (resL t v false t.length) (resL t v true t.length) c' d' X (by omega) h1 h2 (by rw [resL_len, resL_len]) (by rw [resL_len]; omega)
    rw [resL_len, resL_len] at this
    exact this
  have HL : Hid (∀ b, (resL t v b t.length).length = t.length) := fun b => resL_len t v b _
  clear hx ht
  go_enter Try.func42, Try.ntmps42
  go_wp2_with (first
    | (go_at_call 41; ((with_reducible refine (HR.out false w (Below.refl _ _)).mono ?_); rintro e w1 ⟨A1, c1, rfl, ho1, hb1⟩))
    | (go_at_call 41; ((with_reducible refine (HR.out true w1 hb1).mono ?_); rintro e w2 ⟨A2, c2, rfl, ho2, hb2⟩); have hi1 := Ints.below (ints_row ho1 (HL.out false).symm) hb2; have hi2 := ints_row ho2 (HL.out true).symm)
    | (go_at_call 40; ((with_reducible refine (HA.out A1 A2 c1 c2 w2 hi1 hi2).mono ?_); rintro e w3 ⟨A3, c3, rfl, ho3, hb3⟩)))
  go_ret
  have hs := (stepB hb1 hb2).size
  exact ⟨A3, c3, rfl, own_low ho3 hs, stepB (stepB hb1 hb2) hb3⟩
/-- The reference's Cube. -/
def cuL (p q v : Nat) (i o : Int) : List Int := (List.range (2 ^ v)).map fun x => if cHas p q x then i else o
def cuF (p q K k : Nat) (i o : Int) : List Value := (List.range K).map fun x => Value.int .i64 (if x < k ∧ cHas p q x = true then i else o)
theorem cuF_set {p q K k : Nat} {i o : Int} (h : cHas p q k = true) : (cuF p q K k i o).set k (.int .i64 i) = cuF p q K (k + 1) i o := by
  unfold cuF
  apply List.ext_getElem
  · simp
  · intro j h1 h2
    rw [List.getElem_set]
    simp only [List.getElem_map, List.getElem_range]
    by_cases e : k = j
    · subst e; rw [if_pos rfl, if_pos ⟨by omega, h⟩]
    · rw [if_neg e]
      by_cases hj : j < k ∧ cHas p q j = true
      · rw [if_pos hj, if_pos ⟨by omega, hj.2⟩]
      · rw [if_neg hj, if_neg fun h' => hj ⟨by omega, h'.2⟩]
theorem cuF_skip {p q K k : Nat} {i o : Int} (h : cHas p q k = false) : cuF p q K k i o = cuF p q K (k + 1) i o := by
  unfold cuF
  refine List.map_congr_left fun x _ => ?_
  by_cases hj : x < k ∧ cHas p q x = true
  · rw [if_pos hj, if_pos ⟨by omega, hj.2⟩]
  · rw [if_neg hj, if_neg fun h' => ?_]
    by_cases e : x = k
    · subst e; rw [h] at h'; cases h'.2
    · exact hj ⟨by omega, h'.2⟩
theorem cuF_zero (p q K : Nat) (i o : Int) : cuF p q K 0 i o = (List.replicate K o).map (Value.int .i64) := by
  unfold cuF
  apply List.ext_getElem <;> simp
theorem cuF_full (p q v : Nat) (i o : Int) : cuF p q (2 ^ v) (2 ^ v) i o = (cuL p q v i o).map (Value.int .i64) := by
  unfold cuF cuL
  rw [List.map_map]
  refine List.map_congr_left fun x hx => ?_
  have hx := List.mem_range.1 hx
  simp only [Function.comp, hx, true_and]
theorem own_form2 {w : World} {base : Nat} {e : TypeId} {size n : Nat} {v : Value} {xs : List Value} (h : w.ownsRow base e size v n xs) (hn : 0 < n) : ∃ g c, v = .slice (some ⟨g, 0, none⟩) n c ∧ base ≤ g := own_somev h hn
set_option maxHeartbeats 4000000 in
theorem refCube_any (b v p q : Nat) (i o : Int) (w : World) (hc : w.cell? ⟨b, 0, none⟩ = some (.int .i64 v)) (hv : v ≤ 6) (hp : p < 256) (hq : q < 256) :
    Calls Try.prog 39 #[.pointer (some ⟨b, 0, none⟩), .agg #[.int .u8 p, .int .u8 q], .int .i64 i, .int .i64 o] w fun e w' =>
      ∃ A' c', e = .returned (.slice A' (2 ^ v) c') ∧ w'.ownsRow w.heap.size 3 1 (.slice A' (2 ^ v) c') (2 ^ v) ((cuL p q v i o).map (Value.int .i64)) ∧ Below w.heap.size w w' := by
  have hbl := World.block_lt_of_cell? w _ hc
  have HC : Hid (∀ X, Below w.heap.size w X → Calls Try.prog 36 #[.pointer (some ⟨b, 0, none⟩), .int .i64 o] X fun e w' =>
      ∃ g c', e = .returned (.slice (some ⟨g, 0, none⟩) (2 ^ v) c') ∧ X.heap.size ≤ g ∧ w'.ownsRow X.heap.size 3 1 (.slice (some ⟨g, 0, none⟩) (2 ^ v) c') (2 ^ v) (cuF p q (2 ^ v) 0 i o) ∧ Below X.heap.size X w') := fun X hX =>
    (Constant_any b v o X ((hX.cell hbl).trans hc) hv).mono fun e w' ⟨A', c', he, ho, hb⟩ => by
      obtain ⟨g, c2, e2, hg⟩ := own_form2 ho (Nat.two_pow_pos v)
      injection e2 with e3 e4 e5
      subst e3 e5
      exact ⟨g, c', he, hg, by rw [cuF_zero]; exact ho, hb⟩
  have HH := Lib.hid fun (x : Nat) (hx : x < 256) X => Cb.refHas_any p q x X hp hq hx
  have h64 := pow7 hv
  have HF := Lib.hid (cuF_full p q v i o)
  clear hc
  generalize 2 ^ v = K at *
  go_enter Try.func39, Try.ntmps39
  go_wp2_with (go_at_call 36; ((with_reducible refine (HC.out _ (bal (Below.refl _ _) _)).mono ?_); rintro e w1 ⟨g, c1, rfl, hg, ho1, hb1⟩))
  have hbk : w1.heap[w.heap.size]? = some (.cells #[.int .u8 p, .int .u8 q] 31 (0, 0)) := (hb1.block _ (by simp)).trans (MapKept.heap_alloc w _).1
  have hgl : w.heap.size < g := by simp at hg; omega
  have hb2 := stepB (bal (Below.refl w.heap.size w) (.cells #[.int .u8 p, .int .u8 q] 31)) hb1
  have ho2 := own_low (B' := w.heap.size) ho1 (by simp)
  clear ho1 hb1 hg
  go_loopw [10] (fun u wr => ∃ k : Nat, k ≤ K ∧ u = .int .i64 k ∧ wr.ownsRow w.heap.size 3 1 (.slice (some ⟨g, 0, none⟩) K c1) K (cuF p q K k i o) ∧ wr.heap[w.heap.size]? = some (.cells #[.int .u8 p, .int .u8 q] 31 (0, 0)) ∧ Below w.heap.size w wr) (fun u _ => K - (intOf u).toNat)
  case atStart => exact ⟨0, by omega, rfl, ho2, hbk, hb2⟩
  case round =>
    clear ho2 hbk hb2
    obtain ⟨k, hk, rfl, ho, hbk, hb⟩ := hrel
    by_cases hkK : k < K
    · have e0 : wr.cell? ⟨w.heap.size, 0, none⟩ = some (.int .u8 p) := by simp [World.cell?, hbk]
      have e1 : wr.cell? ⟨w.heap.size, 1, none⟩ = some (.int .u8 q) := by simp [World.cell?, hbk]
      have hk256 : k < 256 := by omega
      have HHk := Lib.hid (HH.out k hk256 wr)
      have hbl2 := lt_of_block hbk
      have HBK := Lib.hid hbk
      clear hbk
      cases hc : cHas p q k
      · rw [hc] at HHk
        have HSk := Lib.hid (cuF_skip (K := K) (i := i) (o := o) hc)
        clear hc
        go_wp2_with (go_at_call 63; ((with_reducible refine HHk.out.mono ?_); rintro e w3 ⟨rfl, hb3⟩))
        go_roundw
        case rel => exact ⟨k + 1, by omega, by go_num, by rw [← HSk.out]; exact own_bel ho hb3, (hb3.block _ hbl2).trans HBK.out, stepB hb hb3⟩
        case measure => simp [intOf]; omega
      · rw [hc] at HHk
        have HSk := Lib.hid (cuF_set (K := K) (i := i) (o := o) hc)
        clear hc
        go_wp2_with (go_at_call 63; ((with_reducible refine HHk.out.mono ?_); rintro e w3 ⟨rfl, hb3⟩); have ho3 := own_bel ho hb3; obtain ⟨u0, hu0⟩ := own_some ho3 hkK; have hfz := ho3.frozenAt k)
        have ho4 := own_set ho3 k (.int .i64 i) hkK
        rw [HSk.out] at ho4
        go_roundw
        case rel => exact ⟨k + 1, by omega, by go_num, ho4, (Below.heap_setCell _ _ _ _ (by show w.heap.size ≠ g; omega)).trans ((hb3.block _ hbl2).trans HBK.out), (stepB hb hb3).setCell (by show w.heap.size ≤ g; omega) _⟩
        case measure => simp [intOf]; omega
    · obtain rfl : k = K := by omega
      rw [HF.out] at ho
      go_wp2
      go_ret
      exact ⟨_, _, rfl, ho, hb⟩
end Go.Proofs.Ytbhfmeohaoojfaa.Dn
