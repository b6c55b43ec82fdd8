/- The walk of MatchLooks. -/
import Derived.Test.YtbmamkackigdaabRM
namespace Go.Proofs.Ytbmamkackigdaab.Rx
open Go Go.RowKit Go.Shelf Go.Proofs.Ytbmamkackigdaab
set_option linter.unusedVariables false
set_option linter.unusedSimpArgs false
set_option maxRecDepth 100000
/-- Some of the first k hold. -/
def anyB (p : Nat → Bool) : Nat → Bool
  | 0 => false
  | k + 1 => anyB p k || p k
theorem anyB_iff {p : Nat → Bool} : ∀ {k : Nat}, anyB p k = true ↔ ∃ i, i < k ∧ p i = true
  | 0 => ⟨fun h => (by cases h), fun ⟨i, h, _⟩ => absurd h (Nat.not_lt_zero i)⟩
  | k + 1 => by
    show (anyB p k || p k) = true ↔ _
    rw [Bool.or_eq_true, anyB_iff]
    constructor
    · rintro (⟨i, h1, h2⟩ | h)
      · exact ⟨i, by omega, h2⟩
      · exact ⟨k, by omega, h⟩
    · rintro ⟨i, h1, h2⟩
      rcases Nat.lt_or_eq_of_le (Nat.le_of_lt_succ h1) with h | rfl
      · exact .inl ⟨i, h, h2⟩
      · exact .inr h2
theorem look_valid {t : Ex} {v : Int} {op : Nat} (ho : op = 9 ∨ op = 10) (hV : t.Valid v) (hp : plainT t = true) (hs : t.size ≤ 63) : (Ex.one op t).Valid v :=
  ⟨hV.v0, hV.v6, ⟨by omega, hV.ok⟩, by show t.size + 1 ≤ 64; omega, hV.cubes, by
    show ((op == 9 || op == 10) && !true || badT t false) = false
    rw [plain_free t false hp]
    simp⟩
section
variable (word : List Nat) (t : Ex) {i k : Nat}
theorem ahead_off (op : Nat) (ho : op = 9 ∨ op = 10) (h : k ≠ i) : half word.length (mt word (.one op t)) i k = false := by
  unfold half
  split
  · have h2 : (i == k) = false := by rw [beq_eq_false_iff_ne]; omega
    rcases ho with rfl | rfl
    · rw [mt_ahead, h2]; rfl
    · rw [mt_behind, h2]; rfl
  · rfl
theorem ahead_on (hi : i ≤ word.length) : half word.length (mt word (.one 9 t)) i i = anyB (fun k => half word.length (mt word t) i k) (word.length + 1) := by
  rw [half_at (Nat.le_refl _) hi, mt_ahead, Bool.eq_iff_iff, anyB_iff, Bool.and_eq_true, rg_iff]
  constructor
  · rintro ⟨_, k, h1, h2, h3⟩
    exact ⟨k, by omega, by rw [half_at h1 h2]; exact h3⟩
  · rintro ⟨k, h1, h2⟩
    unfold half at h2
    split at h2
    · rename_i h
      exact ⟨beq_self_eq_true _, k, h.1, h.2, h2⟩
    · cases h2
theorem behind_on (hi : i ≤ word.length) : half word.length (mt word (.one 10 t)) i i = anyB (fun k => half word.length (mt word t) k i) (word.length + 1) := by
  rw [half_at (Nat.le_refl _) hi, mt_behind, Bool.eq_iff_iff, anyB_iff, Bool.and_eq_true, rg_iff]
  constructor
  · rintro ⟨_, k, h1, h2, h3⟩
    exact ⟨k, by omega, by rw [half_at h2 hi]; exact h3⟩
  · rintro ⟨k, h1, h2⟩
    unfold half at h2
    split at h2
    · rename_i h
      exact ⟨beq_self_eq_true _, k, Nat.zero_le _, h.1, h2⟩
    · cases h2
end
theorem look_flat (op : Nat) (t : Ex) : pvs (flat (.one op t) 0) = pvs (flat t 0) ++ [.int .u8 op, .int .u8 0, .int .u8 0, .int .i64 ((t.size : Int) - 1), .int .i64 0] := by
  show pvs (flat t 0 ++ [⟨op, 0, 0, ((0 + t.size : Nat) : Int) - 1, 0⟩]) = _
  rw [pvs_snoc, Nat.zero_add]
  rfl
theorem pcs_cells {w : World} {ad : Addr} {l : List Pc} (hx : PcsAt w (some ad) l) : ∀ j u, (pvs l)[j]? = some u → w.cell? (ad.add j) = some u := fun j u hu => by
  have hj := (List.getElem?_eq_some_iff.1 hu).1
  rw [pvs_len] at hj
  obtain ⟨_, ad', e, _, hc⟩ := hx (j / 5) (by omega)
  cases e
  have hr : j % 5 < (pv (pc l (j / 5))).length := Nat.mod_lt _ (by decide)
  have h1 : (pv (pc l (j / 5)))[j % 5]? = some (pv (pc l (j / 5)))[j % 5] := List.getElem?_eq_getElem hr
  have h2 := pvs_at l (j / 5) (j % 5) _ (by omega) h1
  have h3 := hc _ _ h1
  rw [add_addB] at h3
  rw [show j / 5 * 5 + j % 5 = j by omega] at h2 h3
  rw [h2] at hu
  cases hu
  exact h3
set_option maxHeartbeats 4000000 in
theorem CopyRegex_any (A : Option Addr) (l : List Pc) (c : Nat) (w : World) (hx : PcsAt w A l) (hl : l.length ≤ 1000) :
    Calls Try.prog 10 #[.slice A l.length c] w fun e w' => ∃ A' c', e = .returned (.slice A' l.length c') ∧ w'.ownsRow w.heap.size 43 5 (.slice A' l.length c') l.length (pvs l) ∧ Below w.heap.size w w' := by
  obtain ⟨i0, hi, hz0, hz1, hz2⟩ := info_parts info_piece
  have hnil : w.ownsRow w.heap.size 43 5 (.slice none 0 0) 0 [] := ⟨rfl, .inl ⟨rfl, rfl⟩⟩
  rcases A with _ | ad
  · have hl0 : l = [] := by
      cases l with
      | nil => rfl
      | cons x r => obtain ⟨_, ad, e, _⟩ := hx 0 (by simp); cases e
    subst hl0
    have hr : ∀ ty, (Builtin.append_ #[23, 23] ty #[.slice none 0 0, .slice none 0 c]).run Try.prog w = .ok (.slice none 0 0) w := fun ty => by simp [Builtin.append_, run_underlying Try.underlying23, sizeOf, typeInfo, hi, Builtin.lenOf, Builtin.firstCells]
    clear hx
    show Calls Try.prog 10 #[.slice none 0 c] w _
    go_enter Try.func10, Try.ntmps10
    go_wp2_with (at_builtin; refine wpList_plain rfl fun K hK => ?_; unfold Oper.wp execOp; simp only [resolve, invoke, builtin, Sem.run_bind, Sem.run_pure, Result.andThen_ok, List.map_toArray, List.map_cons, List.map_nil, Act.eval]; refine hK _ _ ?_)
    go_ret
    exact ⟨none, 0, rfl, hnil, Below.refl _ _⟩
  · have hc := Lib.hid (pcs_cells hx)
    have HL := Lib.hid (pvs_len l)
    have h1 : Hid (∀ x ∈ pvs l, x.oneCell' = true) := by
      intro x hx
      simp only [pvs, List.mem_flatMap, pv] at hx
      obtain ⟨y, _, hy⟩ := hx
      simp at hy
      rcases hy with rfl | rfl | rfl | rfl | rfl <;> rfl
    clear hx
    generalize pvs l = F at *
    generalize l.length = n at *
    go_enter Try.func10, Try.ntmps10
    go_wp2_with (at_builtin; refine wpList_append_own _ rfl _ _ 23 rfl w.heap.size 43 i0 _ 5 24 Try.underlying23 hi hz0 hz1 hz2 rfl (by decide) _ _ _ rfl hnil ad n c F rfl (by have := HL.out; omega) hc.out h1.out (by unfold maxLen; omega) (by omega) (Nat.le_refl _) ?_; intro v' w5 hown' hgrow _)
    go_ret
    rw [Nat.zero_add, List.nil_append] at hown'
    obtain ⟨A', c', rfl, _⟩ := Ap.own_form hown'
    exact ⟨A', c', rfl, hown', (Below.refl _ _).grown hgrow (Nat.le_refl _) (fun q hq => by cases hq)⟩
/-- A copy with one more piece. -/
theorem cells_newL (w : World) (xs : List Value) (t : TypeId) : ∀ j u, xs[j]? = some u → (w.alloc (.cells xs.toArray t)).cell? ((⟨w.heap.size, 0, none⟩ : Addr).add j) = some u := fun j u hu => by
  rw [addr_of, World.cell?_alloc_at _ _ _ _ rfl]
  simpa using hu
set_option maxHeartbeats 16000000 in
theorem matchLooks_walk (A : Option Addr) (l : List Pc) (c : Nat) (v : Int) (B : Option Addr) (word : List Nat) (d : Nat) (w : World) (hx : PcsAt w A l) (hl : l.length ≤ maxLen) (hv : -9223372036854775808 ≤ v ∧ v ≤ 9223372036854775807) (hB : Bys w B word) (hw8 : ∀ x ∈ word, x < 256) (hm : word.length ≤ maxLen) (hd : word.length ≤ d) :
    Calls Try.prog 8 #[.slice A l.length c, .int .i64 v, .slice B word.length d] w fun e w' => e = .returned (.bool true) ∧ Below w.heap.size w w' := by
  have HAw := Lib.hid fun X => awake5_any X
  by_cases hL : longP l.length word.length
  · have HL := Lib.hid (long_yes A B l.length c word.length d w hL)
    clear hx hl hv hB hw8 hm hd hL
    generalize l.length = n at *
    generalize word.length = m at *
    go_enter Try.func8, Try.ntmps8
    go_wp2_with (first
      | (go_at_call 24; ((with_reducible refine HL.out.mono ?_); rintro r w1 ⟨rfl, rfl⟩))
      | (go_at_call 25; ((with_reducible refine (HAw.out _).mono ?_); rintro r w2 ⟨rfl, hb2⟩)))
    go_ret
    exact ⟨rfl, hb2⟩
  have HL := Lib.hid (long_no A B l.length c word.length d w hL)
  have hl40 : l.length ≤ 40 := by unfold longP at hL; omega
  have hm100 : word.length ≤ 100 := by unfold longP at hL; omega
  clear hL
  by_cases h6 : 30 < l.length
  · have h6' : decide ((30 : Int) < l.length) = true := decide_eq_true (by omega)
    clear hx hl hv hB hw8 hm hd h6
    generalize l.length = n at *
    generalize word.length = m at *
    go_enter Try.func8, Try.ntmps8
    go_wp2_with (first
      | (go_at_call 24; ((with_reducible refine HL.out.mono ?_); rintro r w1 ⟨rfl, rfl⟩))
      | (go_at_call 25; ((with_reducible refine (HAw.out _).mono ?_); rintro r w2 ⟨rfl, hb2⟩)))
    go_ret
    exact ⟨rfl, hb2⟩
  have h6' : decide ((30 : Int) < l.length) = false := decide_eq_false (by omega)
  by_cases hE : chkL v l = 0
  · obtain ⟨t, hV, rfl⟩ := chkL_ok hE
    clear hE
    have hlen : (flat t 0).length = t.size := flat_len t 0
    have hpos := t.pos
    have HPl := Lib.hid fun X (hX : Below w.heap.size w X) => Plain_good A t (flat t 0).length c v X (hx.below hX) hV hlen
    cases hp : plainT t with
    | false =>
      rw [hp] at HPl
      clear hx hB hV hlen hw8 hv hp hd hm hl hl40 hm100 h6
      generalize (flat t 0).length = n at *
      generalize word.length = m at *
      go_enter Try.func8, Try.ntmps8
      go_wp2_with (first
        | (go_at_call 24; ((with_reducible refine HL.out.mono ?_); rintro r w1 ⟨rfl, rfl⟩))
        | (go_at_call 25; ((with_reducible refine (HAw.out _).mono ?_); rintro r w2 ⟨rfl, hb2⟩))
        | (go_at_call 16; ((with_reducible refine (HPl.out _ hb2).mono ?_); rintro r w3 ⟨rfl, hb3⟩); have K3 := stepB hb2 hb3; clear hb3))
      go_ret
      exact ⟨rfl, K3⟩
    | true =>
      rw [hp] at HPl
      obtain ⟨i0, hi0, hz0, hz1, hz2⟩ := info_parts info_piece
      have hV9 := look_valid (.inl rfl) hV hp (by omega)
      have hV10 := look_valid (.inr rfl) hV hp (by omega)
      have HCp := Lib.hid fun X (hX : Below w.heap.size w X) => CopyRegex_any A (flat t 0) c X (hx.below hX) (by omega)
      have HCp2 := HCp
      have HFl9 : Hid (∀ X B' A' c', X.ownsRow B' 43 5 (.slice A' ((flat t 0).length + 1) c') ((flat t 0).length + 1) (pvs (flat t 0) ++ [.int .u8 9, .int .u8 0, .int .u8 0, .int .i64 (((flat t 0).length : Int) - 1), .int .i64 0]) → PcsAt X A' (flat (.one 9 t) 0)) := fun X B' A' c' h => by
        have e : pvs (flat (.one 9 t) 0) = pvs (flat t 0) ++ [.int .u8 9, .int .u8 0, .int .u8 0, .int .i64 (((flat t 0).length : Int) - 1), .int .i64 0] := by
          rw [hlen]
          exact look_flat 9 t
        rw [← e] at h
        exact pcs_of_own h (valid_fine hV9)
      have HFl10 : Hid (∀ X B' A' c', X.ownsRow B' 43 5 (.slice A' ((flat t 0).length + 1) c') ((flat t 0).length + 1) (pvs (flat t 0) ++ [.int .u8 10, .int .u8 0, .int .u8 0, .int .i64 (((flat t 0).length : Int) - 1), .int .i64 0]) → PcsAt X A' (flat (.one 10 t) 0)) := fun X B' A' c' h => by
        have e : pvs (flat (.one 10 t) 0) = pvs (flat t 0) ++ [.int .u8 10, .int .u8 0, .int .u8 0, .int .i64 (((flat t 0).length : Int) - 1), .int .i64 0] := by
          rw [hlen]
          exact look_flat 10 t
        rw [← e] at h
        exact pcs_of_own h (valid_fine hV10)
      have hl9 : (flat (.one 9 t) 0).length = (flat t 0).length + 1 := by rw [flat_len, flat_len]; rfl
      have hl10 : (flat (.one 10 t) 0).length = (flat t 0).length + 1 := by rw [flat_len, flat_len]; rfl
      have hn1 : 1 ≤ (flat t 0).length := by omega
      have hwr : IntKind.i64.wrap (((flat t 0).length : Int) - 1) = ((flat t 0).length : Int) - 1 := by rw [IntKind.wrap_i64]; omega
      by_cases hW : wordE v.toNat word = 0
      · have HTa := Lib.hid fun X (hX : Below w.heap.size w X) => Table_good A B c d v word X t (flat t 0).length word.length (hx.below hX) hV hlen (hB.below hX) rfl hw8 hW (by omega)
        have HT9 := Lib.hid fun X (hX : Below w.heap.size w X) A' c' (hP : PcsAt X A' (flat (.one 9 t) 0)) => Table_good A' B c' d v word X (.one 9 t) ((flat t 0).length + 1) word.length hP hV9 (by rw [hlen]; rfl) (hB.below hX) rfl hw8 hW (by omega)
        have HT10 := Lib.hid fun X (hX : Below w.heap.size w X) A' c' (hP : PcsAt X A' (flat (.one 10 t) 0)) => Table_good A' B c' d v word X (.one 10 t) ((flat t 0).length + 1) word.length hP hV10 (by rw [hlen]; rfl) (hB.below hX) rfl hw8 hW (by omega)
        unfold matV at HTa HT9 HT10
        have HO9 : Hid (∀ i k, k ≠ i → half word.length (mt word (.one 9 t)) i k = false) := fun i k h => ahead_off word t 9 (.inl rfl) h
        have HO10 : Hid (∀ i k, k ≠ i → half word.length (mt word (.one 10 t)) i k = false) := fun i k h => ahead_off word t 10 (.inr rfl) h
        have HN9 : Hid (∀ i, i ≤ word.length → half word.length (mt word (.one 9 t)) i i = anyB (fun k => half word.length (mt word t) i k) (word.length + 1)) := fun i h => ahead_on word t h
        have HN10 : Hid (∀ i, i ≤ word.length → half word.length (mt word (.one 10 t)) i i = anyB (fun k => half word.length (mt word t) k i) (word.length + 1)) := fun i h => behind_on word t h
        clear hx hB hV hw8 hW hv hp hm hl hl40 hd hV9 hV10 hlen hl9 hl10 hpos
        generalize flat (.one 9 t) 0 = F9 at *
        generalize flat (.one 10 t) 0 = F10 at *
        generalize pvs (flat t 0) = F at *
        generalize (flat t 0).length = n at *
        generalize half word.length (mt word t) = G at *
        generalize half word.length (mt word (.one 9 t)) = G9 at *
        generalize half word.length (mt word (.one 10 t)) = G10 at *
        generalize word.length = m at *
        go_enter Try.func8, Try.ntmps8
        go_wp2_with (first
          | (go_at_call 24; ((with_reducible refine HL.out.mono ?_); rintro r w1 ⟨rfl, rfl⟩))
          | (go_at_call 25; ((with_reducible refine (HAw.out _).mono ?_); rintro r w2 ⟨rfl, hb2⟩))
          | (go_at_call 16; ((with_reducible refine (HPl.out _ hb2).mono ?_); rintro r w3 ⟨rfl, hb3⟩); have K3 := stepB hb2 hb3; clear hb3 hb2)
          | (go_at_call 10; ((with_reducible refine (HCp.out _ K3).mono ?_); rintro r w4 ⟨Aw4, cw4, rfl, how4, hbw4⟩); clear HCp)
          | (at_builtin; refine wpList_append_own_at _ rfl _ _ 23 rfl w3.heap.size 43 i0 _ 5 24 Try.underlying23 hi0 hz0 hz1 hz2 rfl (by decide) _ n F rfl (how4.alloc _) ⟨w4.heap.size, 0, none⟩ 1 1 [.int .u8 9, .int .u8 0, .int .u8 0, .int .i64 ((n : Int) - 1), .int .i64 0] rfl rfl (fun j u hu => cells_newL w4 _ 43 j u hu) (by simp [Value.oneCell']) (by unfold maxLen; omega) (by omega) (by have := hbw4.size; simp; omega) ?_; intro v' w5 hown' hgrow _ hob; obtain ⟨Aw5, cw5, rfl, _⟩ := Ap.own_form hown'; have hP9 := HFl9.out _ _ _ _ hown'; have hbw5 : Below w3.heap.size w3 w5 := (hbw4.alloc hbw4.size _).grown hgrow (by have := hbw4.size; simp; omega) (fun q hq => (how4.lt q hq).1); clear hown' hgrow hob how4 hbw4 HFl9; replace K3 := stepB K3 hbw5; clear hbw5)
          | (go_at_call 10; ((with_reducible refine (HCp2.out _ K3).mono ?_); rintro r w6 ⟨Aw6, cw6, rfl, how6, hbw6⟩))
          | (at_builtin; refine wpList_append_own_at _ rfl _ _ 23 rfl w5.heap.size 43 i0 _ 5 24 Try.underlying23 hi0 hz0 hz1 hz2 rfl (by decide) _ n F rfl (how6.alloc _) ⟨w6.heap.size, 0, none⟩ 1 1 [.int .u8 10, .int .u8 0, .int .u8 0, .int .i64 ((n : Int) - 1), .int .i64 0] rfl rfl (fun j u hu => cells_newL w6 _ 43 j u hu) (by simp [Value.oneCell']) (by unfold maxLen; omega) (by omega) (by have := hbw6.size; simp; omega) ?_; intro v' w7 hown' hgrow _ hob; obtain ⟨Aw7, cw7, rfl, _⟩ := Ap.own_form hown'; have hP10 := HFl10.out _ _ _ _ hown'; have hbw7 : Below w5.heap.size w5 w7 := (hbw6.alloc hbw6.size _).grown hgrow (by have := hbw6.size; simp; omega) (fun q hq => (how6.lt q hq).1); clear hown' hgrow hob how6 hbw6 HFl10; replace hP9 := hP9.below hbw7; replace K3 := stepB K3 hbw7; clear hbw7)
          | (go_at_call 29; ((with_reducible refine (HTa.out _ K3).mono ?_); rintro r w8 ⟨ms, rfl, hM, hb8, _⟩); clear HTa; replace hP9 := hP9.below hb8; replace hP10 := hP10.below hb8; replace K3 := stepB K3 hb8; clear hb8)
          | (go_at_call 29; ((with_reducible refine (HT9.out _ K3 _ _ hP9).mono ?_); rintro r w9 ⟨ma, rfl, hMa, hb9, _⟩); clear HT9 hP9; replace hP10 := hP10.below hb9; replace hM := hM.below hb9; replace K3 := stepB K3 hb9; clear hb9)
          | (go_at_call 29; ((with_reducible refine (HT10.out _ K3 _ _ hP10).mono ?_); rintro r w10 ⟨mb, rfl, hMb, hb10, _⟩); clear HT10 hP10; replace hMa := hMa.below hb10; replace hM := hM.below hb10; replace K3 := stepB K3 hb10; clear hb10))
        have HM := Lib.hid hM
        have HMa := Lib.hid hMa
        have HMb := Lib.hid hMb
        have K := Lib.hid K3
        clear hM hMa hMb K3 HPl HAw HL
        go_loopw [17, 18, 19, 20] (fun i _ _ _ wr => ∃ k : Nat, k ≤ m + 1 ∧ i = .int .i64 k ∧ Hid (Below w10.heap.size w10 wr)) (fun i _ _ _ _ => m + 1 - (intOf i).toNat)
        case atStart => exact ⟨0, by omega, rfl, Below.refl _ _⟩
        case round =>
          obtain ⟨i, hi, rfl, hK⟩ := hrel
          by_cases hi2 : i = m + 1
          · subst hi2
            go_wp2
            go_ret
            exact ⟨rfl, stepB K.out hK.out⟩
          · have hi1 : i ≤ m := by omega
            have hdi : decide ((i : Int) < (m : Int) + 1) = true := decide_eq_true (by omega)
            go_wp2
            obtain ⟨wq2, rfl⟩ : ∃ wq : World, wq = wr := ⟨_, rfl⟩
            go_loopw [18, 19, 20] (fun a b j wr => ∃ k : Nat, k ≤ m + 1 ∧ a = .bool (anyB (fun x => G i x) k) ∧ b = .bool (anyB (fun x => G x i) k) ∧ j = .int .i64 k ∧ Hid (Below w10.heap.size w10 wr)) (fun _ _ j _ => m + 1 - (intOf j).toNat)
            case atStart => exact ⟨0, by omega, rfl, rfl, rfl, hK⟩
            case round =>
              clear hK
              obtain ⟨j, hj, rfl, rfl, rfl, hK⟩ := hrel
              have hMr := HM.out.below hK.out
              have hAr := HMa.out.below hK.out
              have hBr := HMb.out.below hK.out
              have mlt : ms < wr.heap.size := by have := hMr.lt; omega
              have alt : ma < wr.heap.size := by have := hAr.lt; omega
              have blt : mb < wr.heap.size := by have := hBr.lt; omega
              have alr : ma + 1 + i < wr.heap.size := by have := hAr.lt; omega
              have blr : mb + 1 + i < wr.heap.size := by have := hBr.lt; omega
              have mlr : ms + 1 + i < wr.heap.size := by have := hMr.lt; omega
              have b1 : (i : Int) < (m : Int) + 1 := by omega
              have ai := cell_of hAr.o (i := i) (by omega)
              have bi := cell_of hBr.o (i := i) (by omega)
              by_cases hj2 : j = m + 1
              · subst hj2
                have ae := cell_of (hAr.r i hi1) (i := i) (by omega)
                have be := cell_of (hBr.r i hi1) (i := i) (by omega)
                unfold rowV at ai bi
                unfold boolV at ae be
                rw [HN9.out i hi1] at ae
                rw [HN10.out i hi1] at be
                clear hMr hAr hBr HO9 HO10 HN9 HN10
                generalize anyB (fun x => G i x) (m + 1) = x at *
                generalize anyB (fun x => G x i) (m + 1) = y at *
                have hxx : (x != x) = false := by simp
                have hyy : (y != y) = false := by simp
                go_wp2
                go_roundw
                case rel => exact ⟨i + 1, by omega, by go_num, hK⟩
                case measure => simp [intOf]; omega
              · have hj1 : j ≤ m := by omega
                have hdj : decide ((j : Int) < (m : Int) + 1) = true := decide_eq_true (by omega)
                have b2 : (j : Int) < (m : Int) + 1 := by omega
                have mlj : ms + 1 + j < wr.heap.size := by have := hMr.lt; omega
                have mi := cell_of hMr.o (i := i) (by omega)
                have mj := cell_of hMr.o (i := j) (by omega)
                have aj := cell_of hAr.o (i := j) (by omega)
                have bj := cell_of hBr.o (i := j) (by omega)
                have ae := cell_of (hAr.r i hi1) (i := j) (by omega)
                have be := cell_of (hBr.r i hi1) (i := j) (by omega)
                have mij := cell_of (hMr.r i hi1) (i := j) (by omega)
                have mji := cell_of (hMr.r j hj1) (i := i) (by omega)
                unfold rowV at ai bi mi mj aj bj
                unfold boolV at ae be mij mji
                have Hα : Hid ((anyB (fun x => G i x) j || G i j) = anyB (fun x => G i x) (j + 1)) := rfl
                have Hβ : Hid ((anyB (fun x => G x i) j || G j i) = anyB (fun x => G x i) (j + 1)) := rfl
                have HKr := Lib.hid hK.out
                by_cases hji : j = i
                · subst hji
                  have hg : ((j : Int) != (j : Int)) = false := by simp
                  clear hMr hAr hBr HO9 HO10 HN9 HN10 mj aj bj mji ae be mlj b2
                  generalize anyB (fun x => G j x) j = α at *
                  generalize anyB (fun x => G x j) j = β at *
                  generalize G j j = g1 at *
                  go_wp2
                  cases α <;> cases β
                  all_goals
                    go_quiet (fail)
                    go_wp2
                    go_roundw
                    case rel => exact ⟨j + 1, by omega, congrArg Value.bool (by rw [← Hα.out]; simp), congrArg Value.bool (by rw [← Hβ.out]; simp), by go_num, stepB HKr.out (Ap.drewN_below _ _)⟩
                    case measure => simp [intOf]; omega
                · have hg : ((j : Int) != (i : Int)) = true := by rw [bne_iff_ne]; omega
                  rw [HO9.out i j hji] at ae
                  rw [HO10.out i j hji] at be
                  clear hMr hAr hBr HO9 HO10 HN9 HN10
                  generalize anyB (fun x => G i x) j = α at *
                  generalize anyB (fun x => G x i) j = β at *
                  generalize G i j = g1 at *
                  generalize G j i = g2 at *
                  go_wp2
                  cases α <;> cases β
                  all_goals
                    go_quiet (fail)
                    go_wp2
                    go_roundw
                    case rel => exact ⟨j + 1, by omega, congrArg Value.bool (by rw [← Hα.out]; simp), congrArg Value.bool (by rw [← Hβ.out]; simp), by go_num, stepB HKr.out (Ap.drewN_below _ _)⟩
                    case measure => simp [intOf]; omega
      · have hw2 : wrongL v (flat t 0) word ≠ 0 := by rw [wrong_valid hV]; exact hW
        have HTa : Hid (∀ X, Below w.heap.size w X → Calls Try.prog 29 #[.slice A (flat t 0).length c, .int .i64 v, .slice B word.length d] X fun r w' => r = .returned (.tuple #[.slice none 0 0, .int .i64 (wordE v.toNat word)]) ∧ Below X.heap.size X w') := fun X hX => by
          have := Table_bad (A := A) (B := B) (c := c) (d := d) (v := v) (word := word) (w := X) (flat t 0) (hx.below hX) (by omega) (hB.below hX) (by omega) hw8 hw2
          rwa [wrong_valid hV] at this
        have HT9 : Hid (∀ X, Below w.heap.size w X → ∀ A' c', PcsAt X A' (flat (.one 9 t) 0) → Calls Try.prog 29 #[.slice A' ((flat t 0).length + 1) c', .int .i64 v, .slice B word.length d] X fun r w' => r = .returned (.tuple #[.slice none 0 0, .int .i64 (wordE v.toNat word)]) ∧ Below X.heap.size X w') := fun X hX A' c' hP => by
          have := Table_bad (A := A') (B := B) (c := c') (d := d) (v := v) (word := word) (w := X) (flat (.one 9 t) 0) hP (by omega) (hB.below hX) (by omega) hw8 (by rw [wrong_valid hV9]; exact hW)
          rwa [wrong_valid hV9, hl9] at this
        have HT10 : Hid (∀ X, Below w.heap.size w X → ∀ A' c', PcsAt X A' (flat (.one 10 t) 0) → Calls Try.prog 29 #[.slice A' ((flat t 0).length + 1) c', .int .i64 v, .slice B word.length d] X fun r w' => r = .returned (.tuple #[.slice none 0 0, .int .i64 (wordE v.toNat word)]) ∧ Below X.heap.size X w') := fun X hX A' c' hP => by
          have := Table_bad (A := A') (B := B) (c := c') (d := d) (v := v) (word := word) (w := X) (flat (.one 10 t) 0) hP (by omega) (hB.below hX) (by omega) hw8 (by rw [wrong_valid hV10]; exact hW)
          rwa [wrong_valid hV10, hl10] at this
        have h1 := int_ne hW
        clear hx hB hV hw8 hW hv hp hm hl hl40 hd hV9 hV10 hlen hl9 hl10 hpos hw2
        generalize flat (.one 9 t) 0 = F9 at *
        generalize flat (.one 10 t) 0 = F10 at *
        generalize pvs (flat t 0) = F at *
        generalize (flat t 0).length = n at *
        generalize wordE v.toNat word = k at *
        have h2 : (k == k) = true := beq_self_eq_true k
        generalize word.length = m at *
        go_enter Try.func8, Try.ntmps8
        go_wp2_with (first
          | (go_at_call 24; ((with_reducible refine HL.out.mono ?_); rintro r w1 ⟨rfl, rfl⟩))
          | (go_at_call 25; ((with_reducible refine (HAw.out _).mono ?_); rintro r w2 ⟨rfl, hb2⟩))
          | (go_at_call 16; ((with_reducible refine (HPl.out _ hb2).mono ?_); rintro r w3 ⟨rfl, hb3⟩); have K3 := stepB hb2 hb3; clear hb3 hb2)
          | (go_at_call 10; ((with_reducible refine (HCp.out _ K3).mono ?_); rintro r w4 ⟨Aw4, cw4, rfl, how4, hbw4⟩); clear HCp)
          | (at_builtin; refine wpList_append_own_at _ rfl _ _ 23 rfl w3.heap.size 43 i0 _ 5 24 Try.underlying23 hi0 hz0 hz1 hz2 rfl (by decide) _ n F rfl (how4.alloc _) ⟨w4.heap.size, 0, none⟩ 1 1 [.int .u8 9, .int .u8 0, .int .u8 0, .int .i64 ((n : Int) - 1), .int .i64 0] rfl rfl (fun j u hu => cells_newL w4 _ 43 j u hu) (by simp [Value.oneCell']) (by unfold maxLen; omega) (by omega) (by have := hbw4.size; simp; omega) ?_; intro v' w5 hown' hgrow _ hob; obtain ⟨Aw5, cw5, rfl, _⟩ := Ap.own_form hown'; have hP9 := HFl9.out _ _ _ _ hown'; have hbw5 : Below w3.heap.size w3 w5 := (hbw4.alloc hbw4.size _).grown hgrow (by have := hbw4.size; simp; omega) (fun q hq => (how4.lt q hq).1); clear hown' hgrow hob how4 hbw4 HFl9; replace K3 := stepB K3 hbw5; clear hbw5)
          | (go_at_call 10; ((with_reducible refine (HCp2.out _ K3).mono ?_); rintro r w6 ⟨Aw6, cw6, rfl, how6, hbw6⟩))
          | (at_builtin; refine wpList_append_own_at _ rfl _ _ 23 rfl w5.heap.size 43 i0 _ 5 24 Try.underlying23 hi0 hz0 hz1 hz2 rfl (by decide) _ n F rfl (how6.alloc _) ⟨w6.heap.size, 0, none⟩ 1 1 [.int .u8 10, .int .u8 0, .int .u8 0, .int .i64 ((n : Int) - 1), .int .i64 0] rfl rfl (fun j u hu => cells_newL w6 _ 43 j u hu) (by simp [Value.oneCell']) (by unfold maxLen; omega) (by omega) (by have := hbw6.size; simp; omega) ?_; intro v' w7 hown' hgrow _ hob; obtain ⟨Aw7, cw7, rfl, _⟩ := Ap.own_form hown'; have hP10 := HFl10.out _ _ _ _ hown'; have hbw7 : Below w5.heap.size w5 w7 := (hbw6.alloc hbw6.size _).grown hgrow (by have := hbw6.size; simp; omega) (fun q hq => (how6.lt q hq).1); clear hown' hgrow hob how6 hbw6 HFl10; replace hP9 := hP9.below hbw7; replace K3 := stepB K3 hbw7; clear hbw7)
          | (go_at_call 29; ((with_reducible refine (HTa.out _ K3).mono ?_); rintro r w8 ⟨rfl, hb8⟩); clear HTa; replace hP9 := hP9.below hb8; replace hP10 := hP10.below hb8; replace K3 := stepB K3 hb8; clear hb8)
          | (go_at_call 29; ((with_reducible refine (HT9.out _ K3 _ _ hP9).mono ?_); rintro r w9 ⟨rfl, hb9⟩); clear HT9 hP9; replace hP10 := hP10.below hb9; replace K3 := stepB K3 hb9; clear hb9)
          | (go_at_call 29; ((with_reducible refine (HT10.out _ K3 _ _ hP10).mono ?_); rintro r w10 ⟨rfl, hb10⟩); clear HT10 hP10; replace K3 := stepB K3 hb10; clear hb10))
        go_ret
        exact ⟨rfl, K3⟩
  · have HPl := Lib.hid fun X (hX : Below w.heap.size w X) => Plain_bad A l c v X (hx.below hX) (by omega) hE
    have h1 := int_ne hE
    have h0 : (chkL v l == 0) = false := by rw [beq_eq_false_iff_ne]; exact hE
    clear hx hB hw8 hv hd hm hl hl40 hm100 hE h6
    generalize chkL v l = k at *
    generalize l.length = n at *
    generalize word.length = m at *
    go_enter Try.func8, Try.ntmps8
    go_wp2_with (first
        | (go_at_call 24; ((with_reducible refine HL.out.mono ?_); rintro r w1 ⟨rfl, rfl⟩))
        | (go_at_call 25; ((with_reducible refine (HAw.out _).mono ?_); rintro r w2 ⟨rfl, hb2⟩))
        | (go_at_call 16; ((with_reducible refine (HPl.out _ hb2).mono ?_); rintro r w3 ⟨rfl, hb3⟩); have K3 := stepB hb2 hb3; clear hb3))
    go_ret
    exact ⟨rfl, K3⟩
end Go.Proofs.Ytbmamkackigdaab.Rx
