/- The walk of SubsetSameWords. -/
import Derived.Test.YtdjhfndoheoljaaDoorKB
namespace Go.Proofs.YtdjhfndoheoljaaDoor.Sb
open Go Go.RowKit Go.Proofs.YtdjhfndoheoljaaDoor Go.Proofs.YtdjhfndoheoljaaDoor.Cb
open Go.Proofs.YtdjhfndoheoljaaDoor.Nf (Na NaAt NaLen Ok ok_of chkN longB long_len Check6_any Blk Blk.new Blk.below Blk.cells Bys wordE wrongN accW runW stepW Run_good Run_bad Accepts_good Accepts_bad drew_below)
open Go.Proofs.YtdjhfndoheoljaaDoor.Dg (Tabs tb tb_mem)
set_option linter.unusedVariables false
set_option linter.unusedSimpArgs false
set_option maxRecDepth 100000
theorem wrong_det {n : Na} {b : Nat} {F : List (List Nat)} (hc : chkN n = 0) (hb : 1 ≤ b) (hb2 : b ≤ 4096) (hd : detN n b = some F) (l : List Nat) : wrongD (detD n F) l = wrongN n l := by
  have h1 := okD_chk (det_ok (ok_of hc) hb hb2 hd)
  unfold wrongD wrongN
  rw [h1, hc]
  rfl
theorem shl8 {v : Nat} (h : v ≤ 8) : IntKind.i64.wrap ((2 : Int) ^ min (IntKind.u64.wrap (v : Int)).toNat 64) = ((2 ^ v : Nat) : Int) := by
  have h2 : ∀ v : Fin 9, IntKind.i64.wrap ((2 : Int) ^ min (IntKind.u64.wrap (v.val : Int)).toNat 64) = ((2 ^ v.val : Nat) : Int) := by decide +kernel
  exact h2 ⟨v, by omega⟩
theorem pos_head {S : Type} [DecidableEq S] {s : S} {F : List S} (h : F[0]? = some s) : pos F s = 0 := by
  rcases F with _ | ⟨x, F⟩
  · cases h
  · have h2 : x = s := by simpa using h
    subst h2
    exact List.idxOf_cons_self
theorem pos_at {S : Type} [DecidableEq S] {s : S} {F : List S} (h : s ∈ F) : pos F s < F.length ∧ F[pos F s]? = some s := by
  have h1 : pos F s < F.length := List.idxOf_lt_length_of_mem h
  refine ⟨h1, ?_⟩
  rw [List.getElem?_eq_getElem h1]
  exact congrArg some (List.getElem_idxOf h1)
theorem run_det {n : Na} {b : Nat} {F : List (List Nat)} (hc : chkN n = 0) (hb : 1 ≤ b) (hb2 : b ≤ 4096) (hd : detN n b = some F) {l : List Nat} (h : wrongN n l = 0) :
    ∃ q : Nat, runD (detD n F) l = q ∧ q < F.length ∧ F[q]? = some (runW n l) ∧ accD (detD n F) l = accW n l := by
  have hw := wrong_det hc hb hb2 hd l
  rw [h] at hw
  obtain ⟨_, _, hlt⟩ := wrongD_zero hw
  have hF := det_found hb hd
  have h0 : ofL n.st ∈ F := List.mem_of_getElem? hF.head
  obtain ⟨h1, h2⟩ := runT_nums (stepW n.es) (2 ^ n.V.toNat) hF.shut l (ofL n.st) h0 hlt
  rw [pos_head hF.head] at h1
  change runT (detD n F).nx (detD n F).q0 l = (pos F (runW n l) : Int) at h1
  change runW n l ∈ F at h2
  obtain ⟨h3, h4⟩ := pos_at h2
  refine ⟨_, ?_, h3, h4, ?_⟩
  · unfold runD; rw [if_pos hw]; exact h1
  · unfold accD
    rw [if_pos hw, h1]
    show (F.map fun s => meetB s (ofL n.fi)).getD (pos F (runW n l)) false = _
    rw [List.getD_eq_getElem?_getD, List.getElem?_map, h4]
    rfl
theorem run_own {n : Na} {l : List Nat} (hc : chkN n = 0) : PN n (runW n l) := by
  have hO := ok_of hc
  rcases List.eq_nil_or_concat l with rfl | ⟨l', x, rfl⟩
  · exact pn_start hO
  · show PN n (List.foldl (stepW n.es) (ofL n.st) _)
    rw [List.concat_eq_append, List.foldl_append]
    exact pn_step hO _ _
section
variable (n : Na) (A B C : Option Addr) (a b c : Nat) (D : Option Addr) (l : List Nat) (dl : Nat) (w : World)
set_option maxHeartbeats 8000000 in
theorem subsetSameWords_walk (hx : NaAt w n A B C) (hM : NaMax7 n) (hD : Bys w D l) (h8 : ∀ y ∈ l, y < 256) (hll : l.length ≤ maxLen) (hT : Tabs2 w) :
    Calls Tryd.prog 7 #[.agg #[.int .i64 n.V, .int .i64 n.S, .slice A n.st.length a, .slice B n.fi.length b, .slice C n.es.length c], .slice D l.length dl] w fun e w' => e = .returned (.bool true) ∧ Below w.heap.size w w' := by
  unfold maxLen at hll
  have HAw := Lib.hid fun X (hX : Below w.heap.size w X) => awake_any7 X (hT.below hX)
  have HLo := Lib.hid (Long6_any n A B C a b c w hM)
  have hN0 := Blk.new w (.int .i64 n.V) (.int .i64 n.S) (.slice A n.st.length a) (.slice B n.fi.length b) (.slice C n.es.length c)
  have hb0 := bal (Below.refl w.heap.size w) (.cells #[.int .i64 n.V, .int .i64 n.S, .slice A n.st.length a, .slice B n.fi.length b, .slice C n.es.length c] 47)
  by_cases hL : longB n = true
  · rw [hL] at HLo
    clear hx hM hD h8
    obtain ⟨z0, z1, z2, z3, z4⟩ := hN0.cells
    generalize l.length = nl at *
    go_enter Tryd.func7, Tryd.ntmps7
    go_wp2_with (first
      | (go_at_call 34; ((with_reducible refine (HLo.out _ _ (by simp)).mono ?_); rintro e w2 ⟨rfl, hb2⟩); replace hb0 := stepB hb0 hb2)
      | (go_at_call 15; ((with_reducible refine (HAw.out _ hb0).mono ?_); rintro e w3 ⟨rfl, hb3⟩)))
    go_ret
    exact ⟨rfl, stepB hb0 hb3⟩
  have hL' : longB n = false := by
    cases hc : longB n with
    | true => exact absurd hc hL
    | false => rfl
  have hlen := long_len hL'
  rw [hL'] at HLo
  clear hL hL' hM
  have HCh := Lib.hid fun X (hX : Below w.heap.size w X) => Check6_any n A B C a b c X (hx.below hX) hlen
  by_cases hearly : (chkN n = 0 ∧ 8 < n.S) ∨ 100 < l.length
  · have hor : (chkN n = 0 ∧ decide (8 < n.S) = true) ∨ (chkN n = 0 ∧ decide (8 < n.S) = false ∧ decide (100 < (l.length : Int)) = true) ∨ ((chkN n == 0) = false ∧ decide (100 < (l.length : Int)) = true) := by
      by_cases h1 : chkN n = 0
      · by_cases h2 : 8 < n.S
        · exact .inl ⟨h1, decide_eq_true h2⟩
        · exact .inr (.inl ⟨h1, decide_eq_false h2, decide_eq_true (by omega)⟩)
      · exact .inr (.inr ⟨by rw [beq_eq_false_iff_ne]; exact h1, decide_eq_true (by omega)⟩)
    clear hearly hx hlen hT hD h8
    obtain ⟨z0, z1, z2, z3, z4⟩ := hN0.cells
    generalize chkN n = E at *
    generalize n.S = S at *
    generalize l.length = nl at *
    rcases hor with ⟨rfl, hd1⟩ | ⟨rfl, hd1, hd2⟩ | ⟨hd1, hd2⟩
    all_goals
      go_enter Tryd.func7, Tryd.ntmps7
      go_wp2_with (first
        | (go_at_call 34; ((with_reducible refine (HLo.out _ _ (by simp)).mono ?_); rintro e w2 ⟨rfl, hb2⟩); replace hb0 := stepB hb0 hb2; replace hN0 := hN0.below hb2; clear HLo z0 z1 z2 z3 z4; obtain ⟨z0, z1, z2, z3, z4⟩ := hN0.cells)
        | (go_at_call 43; ((with_reducible refine (HCh.out _ hb0).mono ?_); rintro e w4 ⟨rfl, hb4⟩); replace hb0 := stepB hb0 hb4; replace hN0 := hN0.below hb4; clear z0 z1 z2 z3 z4; obtain ⟨z0, z1, z2, z3, z4⟩ := hN0.cells)
        | (go_at_call 15; ((with_reducible refine (HAw.out _ hb0).mono ?_); rintro e w3 ⟨rfl, hb3⟩)))
      go_ret
      exact ⟨rfl, stepB hb0 hb3⟩
  have hl100 : l.length ≤ 100 := by
    by_cases h1 : 100 < l.length
    · exact absurd (.inr h1) hearly
    · omega
  have hd2 : decide (100 < (l.length : Int)) = false := decide_eq_false (by omega)
  by_cases hc0 : chkN n = 0
  · have hO := ok_of hc0
    have hS8 : n.S ≤ 8 := by
      by_cases h1 : 8 < n.S
      · exact absurd (.inl ⟨hc0, h1⟩) hearly
      · omega
    have hd1 : decide (8 < n.S) = false := decide_eq_false (by omega)
    clear hearly
    have hs0 := hO.s0
    have hpow : 2 ^ n.S.toNat ≤ 2 ^ 8 := Nat.pow_le_pow_right (by decide) (by omega)
    obtain ⟨F, hF, hFl⟩ := det_some hO (b := 4096) (by omega)
    have hDo := det_ok hO (by decide) (by decide) hF
    rw [hc0] at HCh
    have HD1 := Lib.hid fun X (hX : Below w.heap.size w X) => det_most n A B C a b c X (hx.below hX) hlen (hT.below hX) hc0 F hF
    have HA2 : Hid (∀ X A' B' a' b', Below w.heap.size w X → DaAt X (detD n F) A' B' → Calls Tryd.prog 22 #[.agg #[.int .i64 n.V, .int .i64 0, .slice A' F.length a', .slice B' F.length b'], .slice D l.length dl] X fun e w' => e = .returned (.tuple #[.bool (accD (detD n F) l), .int .i64 (wrongN n l)]) ∧ Below X.heap.size X w') := fun X A' B' a' b' hX hd => by
      have := AcceptsD_any (detD n F) A' B' a' b' X hd hDo.len D l dl (hD.below hX) h8 (by omega)
      rwa [det_nx, det_fi, wrong_det hc0 (by decide) (by decide) hF] at this
    have HR2 : Hid (∀ X A' B' a' b', Below w.heap.size w X → DaAt X (detD n F) A' B' → Calls Tryd.prog 21 #[.agg #[.int .i64 n.V, .int .i64 0, .slice A' F.length a', .slice B' F.length b'], .slice D l.length dl] X fun e w' => e = .returned (.tuple #[.int .i64 (runD (detD n F) l), .int .i64 (wrongN n l)]) ∧ Below X.heap.size X w') := fun X A' B' a' b' hX hd => by
      have := RunD_any (detD n F) A' B' a' b' X hd hDo.len D l dl (hD.below hX) h8 (by omega)
      rwa [det_nx, det_fi, wrong_det hc0 (by decide) (by decide) hF] at this
    by_cases hw0 : wrongN n l = 0
    · obtain ⟨q, hq1, hq2, hq3, hq4⟩ := run_det hc0 (by decide) (by decide) hF hw0
      rw [hq4, hw0] at HA2
      rw [hq1, hw0] at HR2
      have HA1 := Lib.hid fun X (hX : Below w.heap.size w X) => Accepts_good n A B C a b c X (hx.below hX) hlen D l dl (hD.below hX) h8 (by omega) hw0
      have HR1 := Lib.hid fun X (hX : Below w.heap.size w X) => Run_good n A B C a b c X (hx.below hX) hlen D l dl (hD.below hX) h8 (by omega) hw0
      have HC2 : Hid (∀ X A' B' a' b', DaAt X (detD n F) A' B' → Calls Tryd.prog 23 #[.agg #[.int .i64 n.V, .int .i64 0, .slice A' F.length a', .slice B' F.length b']] X fun e w' => e = .returned (.int .i64 0) ∧ Below X.heap.size X w') := fun X A' B' a' b' hd => by
        have := CheckD_any (detD n F) A' B' a' b' X hd hDo.len
        rwa [det_nx, det_fi, okD_chk hDo] at this
      have hrp := run_own (l := l) hc0
      have HLi : Hid (∀ X A' c', Below w.heap.size w X → Words X A' (runW n l) → (runW n l).length ≤ c' → Calls Tryd.prog 47 #[.slice A' (runW n l).length c'] X fun e w' => ∃ A'' c'', e = .returned (.slice A'' (elsI (runW n l)).length c'') ∧ Ints w' A'' (elsI (runW n l)) ∧ Below X.heap.size X w') := fun X A' c' hX hW hc => (List_any A' _ c' X hW hrp.2.1 hc (hT.below hX).tz).mono fun e w' ⟨v, h1, h2, h3⟩ => by
        obtain ⟨A'', c'', rfl, _⟩ := Ap.own_form h2
        exact ⟨A'', c'', by rw [elsI_len]; exact h1, own_ints h2 rfl, h3⟩
      have HEq : Hid (∀ X A' A'' c' c'', Ints X A' (elsI (runW n l)) → Ints X A'' (elsI (runW n l)) → Calls Tryd.prog 46 #[.slice A' (elsI (runW n l)).length c', .slice A'' (elsI (runW n l)).length c''] X fun e w' => e = .returned (.bool true) ∧ Below X.heap.size X w') := fun X A' A'' c' c'' h1 h2 => by
        have := Dg.EqualInts_any A' A'' _ _ c' c'' X h1 h2 (by have := elsI_small (runW n l); unfold maxLen; omega)
        rwa [decide_eq_true rfl] at this
      have HTq : Hid (∀ X A', Tabs X A' (F.map elsI) → ∃ ad p c', A' = some ad ∧ ad.block < X.heap.size ∧ X.cell? (ad.add q) = some (.slice p (elsI (runW n l)).length c') ∧ Ints X p (elsI (runW n l))) := fun X A' h => by
        have e : tb (F.map elsI) q = elsI (runW n l) := by
          unfold tb
          rw [List.getD_eq_getElem?_getD, List.getElem?_map, hq3]; rfl
        have := h q (by rw [List.length_map]; exact hq2)
        rwa [e] at this
      obtain ⟨sn, hsn⟩ := Int.eq_ofNat_of_zero_le hs0
      have hsn2 : n.S.toNat = sn := by rw [hsn]; rfl
      rw [hsn2] at hpow hFl
      have HLE : Hid (decide ((F.length : Int) ≤ IntKind.i64.wrap ((2 : Int) ^ min (IntKind.u64.wrap (sn : Int)).toNat 64)) = true) := by
        show _ = _
        rw [shl8 (by omega)]
        exact decide_eq_true (by exact_mod_cast hFl)
      have hqF : decide ((q : Int) < (F.length : Int)) = true := decide_eq_true (by omega)
      have hqF2 : (q : Int) < (F.length : Int) := by omega
      clear hx hlen hT hc0 hO hF hFl hDo hpow hq1 hq2 hq3 hq4 hw0 hrp h8 hD hs0 hsn2
      generalize detD n F = DD at *
      generalize F.map elsI = FL at *
      generalize F.length = fl at *
      generalize accW n l = R at *
      generalize runW n l = r at *
      have HNE : Hid (∃ ne, ne = (elsI r).length) := ⟨_, rfl⟩
      have hRR : (R != R) = false := by simp
      generalize (elsI r).length = ne at *
      generalize l.length = nl at *
      generalize n.S = SS at *
      subst hsn
      obtain ⟨z0, z1, z2, z3, z4⟩ := hN0.cells
      go_enter Tryd.func7, Tryd.ntmps7
      go_wp2_with (first
        | (go_at_call 34; ((with_reducible refine (HLo.out _ _ (by simp)).mono ?_); rintro e w2 ⟨rfl, hb2⟩); replace hb0 := stepB hb0 hb2; replace hN0 := hN0.below hb2; clear HLo z0 z1 z2 z3 z4; obtain ⟨z0, z1, z2, z3, z4⟩ := hN0.cells)
        | (go_at_call 43; ((with_reducible refine (HCh.out _ hb0).mono ?_); rintro e w4 ⟨rfl, hb4⟩); replace hb0 := stepB hb0 hb4; replace hN0 := hN0.below hb4; clear z0 z1 z2 z3 z4; obtain ⟨z0, z1, z2, z3, z4⟩ := hN0.cells)
        | (go_at_call 15; ((with_reducible refine (HAw.out _ hb0).mono ?_); rintro e w3 ⟨rfl, hb3⟩); replace hb0 := stepB hb0 hb3; replace hN0 := hN0.below hb3; clear HAw z0 z1 z2 z3 z4; obtain ⟨z0, z1, z2, z3, z4⟩ := hN0.cells)
        | (go_at_call 38; ((with_reducible refine (HD1.out _ hb0).mono ?_); rintro e w5 ⟨A5, a5, B5, b5, C5, c5, rfl, hda5, ht5, hb5⟩); replace hb0 := stepB hb0 hb5; replace hN0 := hN0.below hb5; clear HD1 z0 z1 z2 z3 z4;
                have hG := Blk4.new w5 (.int .i64 n.V) (.int .i64 0) (.slice A5 fl a5) (.slice B5 fl b5);
                have K5 := bal (Below.refl w5.heap.size w5) (.cells #[.int .i64 n.V, .int .i64 0, .slice A5 fl a5, .slice B5 fl b5] 25);
                replace hda5 := hda5.below K5; replace ht5 := ht5.below K5; replace hb0 := stepB hb0 K5; replace hN0 := hN0.below K5; obtain ⟨z0, z1, z2, z3, z4⟩ := hN0.cells; obtain ⟨x0, x1, x2, x3⟩ := hG.cells)
        | (go_at_call 44; ((with_reducible refine (HA1.out _ hb0).mono ?_); rintro e w6 ⟨rfl, hb6⟩); replace hb0 := stepB hb0 hb6; replace hN0 := hN0.below hb6; replace hG := hG.below hb6; replace hda5 := hda5.below hb6; replace ht5 := ht5.below hb6; clear z0 z1 z2 z3 z4 x0 x1 x2 x3; obtain ⟨z0, z1, z2, z3, z4⟩ := hN0.cells; obtain ⟨x0, x1, x2, x3⟩ := hG.cells; clear HA1)
        | (go_at_call 22; ((with_reducible refine (HA2.out _ A5 B5 a5 b5 hb0 hda5).mono ?_); rintro e w7 ⟨rfl, hb7⟩); replace hb0 := stepB hb0 hb7; replace hN0 := hN0.below hb7; replace hG := hG.below hb7; replace hda5 := hda5.below hb7; replace ht5 := ht5.below hb7; clear z0 z1 z2 z3 z4 x0 x1 x2 x3; obtain ⟨z0, z1, z2, z3, z4⟩ := hN0.cells; obtain ⟨x0, x1, x2, x3⟩ := hG.cells; clear HA2)
        | (go_at_call 45; ((with_reducible refine (HR1.out _ hb0).mono ?_); rintro e w8 ⟨A8, c8, rfl, ho8, hb8⟩); replace hb0 := stepB hb0 hb8; replace hN0 := hN0.below hb8; replace hG := hG.below hb8; replace hda5 := hda5.below hb8; replace ht5 := ht5.below hb8; clear z0 z1 z2 z3 z4 x0 x1 x2 x3; obtain ⟨z0, z1, z2, z3, z4⟩ := hN0.cells; obtain ⟨x0, x1, x2, x3⟩ := hG.cells; clear HR1)
        | (go_at_call 21; ((with_reducible refine (HR2.out _ A5 B5 a5 b5 hb0 hda5).mono ?_); rintro e w9 ⟨rfl, hb9⟩); replace hb0 := stepB hb0 hb9; replace hN0 := hN0.below hb9; replace hG := hG.below hb9; replace hda5 := hda5.below hb9; replace ht5 := ht5.below hb9; replace ho8 := (show OwnW _ _ A8 c8 r from ⟨ho8.1.below hb9, ho8.2⟩); clear z0 z1 z2 z3 z4 x0 x1 x2 x3; obtain ⟨z0, z1, z2, z3, z4⟩ := hN0.cells; obtain ⟨x0, x1, x2, x3⟩ := hG.cells; clear HR2))
      have KE : Below w9.heap.size w9 w9.drew := drew_below w9
      have KD := stepB hb0 KE
      obtain ⟨ad, p, c', rfl, hbk, hcq, hip⟩ := HTq.out _ _ ht5
      have hSd : w9.drew.cell? ⟨w.heap.size, 1, none⟩ = some (.int .i64 (sn : Int)) ∧ w9.drew.cell? ⟨w5.heap.size, 0, none⟩ = some (.int .i64 n.V) ∧ w9.drew.cell? ⟨w5.heap.size, 1, none⟩ = some (.int .i64 0) ∧ w9.drew.cell? ⟨w5.heap.size, 2, none⟩ = some (.slice A5 fl a5) ∧ w9.drew.cell? ⟨w5.heap.size, 3, none⟩ = some (.slice B5 fl b5) ∧ w9.drew.cell? (ad.add q) = some (.slice p ne c') ∧ Below w9.heap.size w9 w9.drew := ⟨(hN0.below KE).cells.2.1, (hG.below KE).cells.1, (hG.below KE).cells.2.1, (hG.below KE).cells.2.2.1, (hG.below KE).cells.2.2.2, (Below.cell KE (by rw [addr_block]; exact hbk)).trans hcq, KE⟩
      have hle := HLE.out
      have hip2 : Hid (∀ X, Below w9.heap.size w9 X → Ints X p (elsI r)) := fun X hX => Vals.below hip hX
      have hws8 := ho8.words
      have hcap8 : r.length ≤ c8 := ho8.2.2
      go_region_held3 (fun w' => w'.cell? ⟨w.heap.size, 1, none⟩ = some (.int .i64 (sn : Int)) ∧ w'.cell? ⟨w5.heap.size, 0, none⟩ = some (.int .i64 n.V) ∧ w'.cell? ⟨w5.heap.size, 1, none⟩ = some (.int .i64 0) ∧ w'.cell? ⟨w5.heap.size, 2, none⟩ = some (.slice A5 fl a5) ∧ w'.cell? ⟨w5.heap.size, 3, none⟩ = some (.slice B5 fl b5) ∧ w'.cell? (ad.add q) = some (.slice p ne c') ∧ Below w9.heap.size w9 w')
        (first | assumption)
        (first
          | (go_at_call 23; ((with_reducible refine (HC2.out w9.drew A5 B5 a5 b5 (hda5.below KE)).mono ?_); rintro e w10 ⟨rfl, hb10⟩); have K10 := stepB KE hb10; have hS10 : w10.cell? ⟨w.heap.size, 1, none⟩ = some (.int .i64 (sn : Int)) ∧ w10.cell? ⟨w5.heap.size, 0, none⟩ = some (.int .i64 n.V) ∧ w10.cell? ⟨w5.heap.size, 1, none⟩ = some (.int .i64 0) ∧ w10.cell? ⟨w5.heap.size, 2, none⟩ = some (.slice A5 fl a5) ∧ w10.cell? ⟨w5.heap.size, 3, none⟩ = some (.slice B5 fl b5) ∧ w10.cell? (ad.add q) = some (.slice p ne c') ∧ Below w9.heap.size w9 w10 := ⟨(hN0.below K10).cells.2.1, (hG.below K10).cells.1, (hG.below K10).cells.2.1, (hG.below K10).cells.2.2.1, (hG.below K10).cells.2.2.2, (Below.cell K10 (by rw [addr_block]; exact hbk)).trans hcq, K10⟩)
          | (go_at_call 47; ((with_reducible refine (HLi.out w10 A8 c8 (stepB hb0 K10) (hws8.below K10) hcap8).mono ?_); rintro e w11 ⟨A11, c11, rfl, hi11, hb11⟩); have K11 := stepB K10 hb11; have hS11 : w11.cell? ⟨w.heap.size, 1, none⟩ = some (.int .i64 (sn : Int)) ∧ w11.cell? ⟨w5.heap.size, 0, none⟩ = some (.int .i64 n.V) ∧ w11.cell? ⟨w5.heap.size, 1, none⟩ = some (.int .i64 0) ∧ w11.cell? ⟨w5.heap.size, 2, none⟩ = some (.slice A5 fl a5) ∧ w11.cell? ⟨w5.heap.size, 3, none⟩ = some (.slice B5 fl b5) ∧ w11.cell? (ad.add q) = some (.slice p ne c') ∧ Below w9.heap.size w9 w11 := ⟨(hN0.below K11).cells.2.1, (hG.below K11).cells.1, (hG.below K11).cells.2.1, (hG.below K11).cells.2.2.1, (hG.below K11).cells.2.2.2, (Below.cell K11 (by rw [addr_block]; exact hbk)).trans hcq, K11⟩)
          | (go_at_call 46; ((with_reducible refine (HEq.out w11 A11 p c11 c' hi11 (hip2.out _ K11)).mono ?_); rintro e w12 ⟨rfl, hb12⟩); have K12 := stepB K11 hb12; have hS12 : w12.cell? ⟨w.heap.size, 1, none⟩ = some (.int .i64 (sn : Int)) ∧ w12.cell? ⟨w5.heap.size, 0, none⟩ = some (.int .i64 n.V) ∧ w12.cell? ⟨w5.heap.size, 1, none⟩ = some (.int .i64 0) ∧ w12.cell? ⟨w5.heap.size, 2, none⟩ = some (.slice A5 fl a5) ∧ w12.cell? ⟨w5.heap.size, 3, none⟩ = some (.slice B5 fl b5) ∧ w12.cell? (ad.add q) = some (.slice p ne c') ∧ Below w9.heap.size w9 w12 := ⟨(hN0.below K12).cells.2.1, (hG.below K12).cells.1, (hG.below K12).cells.2.1, (hG.below K12).cells.2.2.1, (hG.below K12).cells.2.2.2, (Below.cell K12 (by rw [addr_block]; exact hbk)).trans hcq, K12⟩))
      have K := hS12.2.2.2.2.2.2
      clear hle
      go_wp2
      go_ret
      exact ⟨rfl, stepB hb0 K⟩
    · have hwd := wrong_det hc0 (b := 4096) (by decide) (by decide) hF l
      have hq1 : runD (detD n F) l = 0 := by unfold runD; rw [hwd, if_neg hw0]
      have hq4 : accD (detD n F) l = false := by unfold accD; rw [hwd, if_neg hw0]
      rw [hq4] at HA2
      rw [hq1] at HR2
      have HA1 := Lib.hid fun X (hX : Below w.heap.size w X) => Accepts_bad n A B C a b c X (hx.below hX) hlen D l dl (hD.below hX) h8 (by omega) hw0
      have HR1 := Lib.hid fun X (hX : Below w.heap.size w X) => Run_bad n A B C a b c X (hx.below hX) hlen D l dl (hD.below hX) h8 (by omega) hw0
      have hne : (wrongN n l != 0) = true := by rw [bne_iff_ne]; exact hw0
      have hEE : (wrongN n l != wrongN n l) = false := by simp
      clear hx hlen hT hc0 hO hF hFl hDo hpow hq1 hq4 hwd hw0 h8 hD hs0
      generalize wrongN n l = E at *
      generalize detD n F = DD at *
      generalize F.map elsI = FL at *
      generalize F.length = fl at *
      generalize l.length = nl at *
      obtain ⟨z0, z1, z2, z3, z4⟩ := hN0.cells
      go_enter Tryd.func7, Tryd.ntmps7
      go_wp2_with (first
        | (go_at_call 34; ((with_reducible refine (HLo.out _ _ (by simp)).mono ?_); rintro e w2 ⟨rfl, hb2⟩); replace hb0 := stepB hb0 hb2; replace hN0 := hN0.below hb2; clear HLo z0 z1 z2 z3 z4; obtain ⟨z0, z1, z2, z3, z4⟩ := hN0.cells)
        | (go_at_call 43; ((with_reducible refine (HCh.out _ hb0).mono ?_); rintro e w4 ⟨rfl, hb4⟩); replace hb0 := stepB hb0 hb4; replace hN0 := hN0.below hb4; clear z0 z1 z2 z3 z4; obtain ⟨z0, z1, z2, z3, z4⟩ := hN0.cells)
        | (go_at_call 15; ((with_reducible refine (HAw.out _ hb0).mono ?_); rintro e w3 ⟨rfl, hb3⟩); replace hb0 := stepB hb0 hb3; replace hN0 := hN0.below hb3; clear HAw z0 z1 z2 z3 z4; obtain ⟨z0, z1, z2, z3, z4⟩ := hN0.cells)
        | (go_at_call 38; ((with_reducible refine (HD1.out _ hb0).mono ?_); rintro e w5 ⟨A5, a5, B5, b5, C5, c5, rfl, hda5, ht5, hb5⟩); replace hb0 := stepB hb0 hb5; replace hN0 := hN0.below hb5; clear HD1 z0 z1 z2 z3 z4;
                have hG := Blk4.new w5 (.int .i64 n.V) (.int .i64 0) (.slice A5 fl a5) (.slice B5 fl b5);
                have K5 := bal (Below.refl w5.heap.size w5) (.cells #[.int .i64 n.V, .int .i64 0, .slice A5 fl a5, .slice B5 fl b5] 25);
                replace hda5 := hda5.below K5; replace ht5 := ht5.below K5; replace hb0 := stepB hb0 K5; replace hN0 := hN0.below K5; obtain ⟨z0, z1, z2, z3, z4⟩ := hN0.cells; obtain ⟨x0, x1, x2, x3⟩ := hG.cells)
        | (go_at_call 44; ((with_reducible refine (HA1.out _ hb0).mono ?_); rintro e w6 ⟨rfl, hb6⟩); replace hb0 := stepB hb0 hb6; replace hN0 := hN0.below hb6; replace hG := hG.below hb6; replace hda5 := hda5.below hb6; replace ht5 := ht5.below hb6; clear z0 z1 z2 z3 z4 x0 x1 x2 x3; obtain ⟨z0, z1, z2, z3, z4⟩ := hN0.cells; obtain ⟨x0, x1, x2, x3⟩ := hG.cells; clear HA1)
        | (go_at_call 22; ((with_reducible refine (HA2.out _ A5 B5 a5 b5 hb0 hda5).mono ?_); rintro e w7 ⟨rfl, hb7⟩); replace hb0 := stepB hb0 hb7; replace hN0 := hN0.below hb7; replace hG := hG.below hb7; replace hda5 := hda5.below hb7; replace ht5 := ht5.below hb7; clear z0 z1 z2 z3 z4 x0 x1 x2 x3; obtain ⟨z0, z1, z2, z3, z4⟩ := hN0.cells; obtain ⟨x0, x1, x2, x3⟩ := hG.cells; clear HA2)
        | (go_at_call 45; ((with_reducible refine (HR1.out _ hb0).mono ?_); rintro e w8 ⟨rfl, hb8⟩); replace hb0 := stepB hb0 hb8; replace hN0 := hN0.below hb8; replace hG := hG.below hb8; replace hda5 := hda5.below hb8; replace ht5 := ht5.below hb8; clear z0 z1 z2 z3 z4 x0 x1 x2 x3; obtain ⟨z0, z1, z2, z3, z4⟩ := hN0.cells; obtain ⟨x0, x1, x2, x3⟩ := hG.cells; clear HR1)
        | (go_at_call 21; ((with_reducible refine (HR2.out _ A5 B5 a5 b5 hb0 hda5).mono ?_); rintro e w9 ⟨rfl, hb9⟩); replace hb0 := stepB hb0 hb9; replace hN0 := hN0.below hb9; replace hG := hG.below hb9; replace hda5 := hda5.below hb9; replace ht5 := ht5.below hb9; clear z0 z1 z2 z3 z4 x0 x1 x2 x3; obtain ⟨z0, z1, z2, z3, z4⟩ := hN0.cells; obtain ⟨x0, x1, x2, x3⟩ := hG.cells; clear HR2))
      go_ret
      exact ⟨rfl, hb0⟩
  · have hde : detE n 4096 = chkN n := by unfold detE; rw [if_pos hc0]
    have HD1 : Hid (∀ X, Below w.heap.size w X → Calls Tryd.prog 38 #[.agg #[.int .i64 n.V, .int .i64 n.S, .slice A n.st.length a, .slice B n.fi.length b, .slice C n.es.length c], .int .i64 4096] X fun e w' => e = .returned (.tuple #[.agg #[.int .i64 0, .int .i64 0, .slice none 0 0, .slice none 0 0], .slice none 0 0, .int .i64 (chkN n)]) ∧ Below X.heap.size X w') := fun X hX => by
      have := Determinize_bad n A B C a b c X (hx.below hX) hlen 4096 (.inl hc0)
      rwa [hde] at this
    have hne : (chkN n != 0) = true := by rw [bne_iff_ne]; exact hc0
    have hne2 : (chkN n == 0) = false := by rw [beq_eq_false_iff_ne]; exact hc0
    have hEE : (chkN n == chkN n) = true := by simp
    clear hx hlen hT hc0 hde hD h8 hearly
    generalize chkN n = E at *
    generalize l.length = nl at *
    obtain ⟨z0, z1, z2, z3, z4⟩ := hN0.cells
    go_enter Tryd.func7, Tryd.ntmps7
    go_wp2_with (first
      | (go_at_call 34; ((with_reducible refine (HLo.out _ _ (by simp)).mono ?_); rintro e w2 ⟨rfl, hb2⟩); replace hb0 := stepB hb0 hb2; replace hN0 := hN0.below hb2; clear HLo z0 z1 z2 z3 z4; obtain ⟨z0, z1, z2, z3, z4⟩ := hN0.cells)
      | (go_at_call 43; ((with_reducible refine (HCh.out _ hb0).mono ?_); rintro e w6 ⟨rfl, hb6⟩); replace hb0 := stepB hb0 hb6; replace hG := hG.below hb6; clear z0 z1 z2 z3 z4 x0 x1 x2 x3; obtain ⟨x0, x1, x2, x3⟩ := hG.cells)
      | (go_at_call 43; ((with_reducible refine (HCh.out _ hb0).mono ?_); rintro e w4 ⟨rfl, hb4⟩); replace hb0 := stepB hb0 hb4; replace hN0 := hN0.below hb4; clear z0 z1 z2 z3 z4; obtain ⟨z0, z1, z2, z3, z4⟩ := hN0.cells)
      | (go_at_call 15; ((with_reducible refine (HAw.out _ hb0).mono ?_); rintro e w3 ⟨rfl, hb3⟩); replace hb0 := stepB hb0 hb3; replace hN0 := hN0.below hb3; clear HAw z0 z1 z2 z3 z4; obtain ⟨z0, z1, z2, z3, z4⟩ := hN0.cells)
      | (go_at_call 38; ((with_reducible refine (HD1.out _ hb0).mono ?_); rintro e w5 ⟨rfl, hb5⟩); clear HD1 z0 z1 z2 z3 z4;
                have K5 := bal (Below.refl w5.heap.size w5) (.cells #[.int .i64 0, .int .i64 0, .slice none 0 0, .slice none 0 0] 25);
                have hG := Blk4.new w5 (.int .i64 0) (.int .i64 0) (.slice none 0 0) (.slice none 0 0); replace hb0 := stepB (stepB hb0 hb5) K5; replace hN0 := (hN0.below hb5).below K5; obtain ⟨z0, z1, z2, z3, z4⟩ := hN0.cells; obtain ⟨x0, x1, x2, x3⟩ := hG.cells))
    go_ret
    exact ⟨rfl, hb0⟩
end
end Go.Proofs.YtdjhfndoheoljaaDoor.Sb
