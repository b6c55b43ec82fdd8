/- The kit's EqualRows, EqualBools, CopyBools, CopyRows, CopyDFA; the law's second. -/
import Derived.Test.YtlaagjmfgaccjaaDoorJR
import Derived.Test.YtlaagjmfgaccjaaDoorFN
namespace Go.Proofs.YtlaagjmfgaccjaaDoor.Sb
open Go Go.RowKit Go.Proofs.YtlaagjmfgaccjaaDoor Go.Proofs.YtlaagjmfgaccjaaDoor.Cb
open Go.Proofs.YtlaagjmfgaccjaaDoor.Nf (Ed ed Na NaAt NaLen Blk Blk.new Blk.below Blk.cells zvs ret_int ret_b hnext drew_below exN exCells ex_cells ex_fine eds_new)
open Go.Proofs.YtlaagjmfgaccjaaDoor.Dg (Tabs tb tb_mem)
set_option linter.unusedVariables false
set_option linter.unusedSimpArgs false
set_option maxRecDepth 100000
set_option maxHeartbeats 2000000 in
theorem second_any7 (w : World) : Calls Tryd.prog 41 #[] w fun e w' => ∃ A B C, e = .returned (.agg #[.int .i64 1, .int .i64 3, .slice A 1 1, .slice B 1 1, .slice C 3 3]) ∧ NaAt w' exN A B C ∧ Below w.heap.size w w' := by
  go_enter Tryd.func41, Tryd.ntmps41
  go_wp2
  have hst : Ints ((((w.alloc (.cells #[.int .i64 1, .int .i64 3, .slice (some ⟨w.heap.size + 1, 0, none⟩) 1 1, .slice (some ⟨w.heap.size + 1 + 1, 0, none⟩) 1 1, .slice (some ⟨w.heap.size + 1 + 1 + 1, 0, none⟩) 3 3] 26)).alloc (.cells #[.int .i64 0] 3)).alloc (.cells #[.int .i64 2] 3)).alloc (.cells exCells 30)) (some ⟨w.heap.size + 1, 0, none⟩) [0] := by
    have h1 := Dg.ints_new (w.alloc (.cells #[.int .i64 1, .int .i64 3, .slice (some ⟨w.heap.size + 1, 0, none⟩) 1 1, .slice (some ⟨w.heap.size + 1 + 1, 0, none⟩) 1 1, .slice (some ⟨w.heap.size + 1 + 1 + 1, 0, none⟩) 3 3] 26)) 3 [0]
    rw [World.size_alloc] at h1
    exact (h1.below (bal (Below.refl _ _) _)).below (bal (Below.refl _ _) _)
  have hfi : Ints ((((w.alloc (.cells #[.int .i64 1, .int .i64 3, .slice (some ⟨w.heap.size + 1, 0, none⟩) 1 1, .slice (some ⟨w.heap.size + 1 + 1, 0, none⟩) 1 1, .slice (some ⟨w.heap.size + 1 + 1 + 1, 0, none⟩) 3 3] 26)).alloc (.cells #[.int .i64 0] 3)).alloc (.cells #[.int .i64 2] 3)).alloc (.cells exCells 30)) (some ⟨w.heap.size + 1 + 1, 0, none⟩) [2] := by
    have h1 := Dg.ints_new ((w.alloc (.cells #[.int .i64 1, .int .i64 3, .slice (some ⟨w.heap.size + 1, 0, none⟩) 1 1, .slice (some ⟨w.heap.size + 1 + 1, 0, none⟩) 1 1, .slice (some ⟨w.heap.size + 1 + 1 + 1, 0, none⟩) 3 3] 26)).alloc (.cells #[.int .i64 0] 3)) 3 [2]
    rw [World.size_alloc, World.size_alloc] at h1
    exact h1.below (bal (Below.refl _ _) _)
  have hes := eds_new (((w.alloc (.cells #[.int .i64 1, .int .i64 3, .slice (some ⟨w.heap.size + 1, 0, none⟩) 1 1, .slice (some ⟨w.heap.size + 1 + 1, 0, none⟩) 1 1, .slice (some ⟨w.heap.size + 1 + 1 + 1, 0, none⟩) 3 3] 26)).alloc (.cells #[.int .i64 0] 3)).alloc (.cells #[.int .i64 2] 3)) exN.es (by decide) ex_fine
  rw [ex_cells, World.size_alloc, World.size_alloc, World.size_alloc] at hes
  refine bodyPost_ret (v := .agg #[.int .i64 1, .int .i64 3, .slice (some ⟨w.heap.size + 1, 0, none⟩) 1 1, .slice (some ⟨w.heap.size + 1 + 1, 0, none⟩) 1 1, .slice (some ⟨w.heap.size + 1 + 1 + 1, 0, none⟩) 3 3]) (by simp [results, Tryd.results41, go_sem]) rfl ?_
  exact ⟨_, _, _, rfl, ⟨by unfold Nf.InJ; decide, by unfold Nf.InJ; decide, hst, hfi, hes⟩, bal (bal (bal (bal (Below.refl _ _) _) _) _) _⟩
set_option maxHeartbeats 4000000 in
theorem EqualRows_same (A B : Option Addr) (L : List (List Int)) (c d : Nat) (w : World) (hx : Tabs w A L) (hy : Tabs w B L) (hl : L.length ≤ 1000000) (hs : ∀ u ∈ L, u.length ≤ 1000000) :
    Calls Tryd.prog 36 #[.slice A L.length c, .slice B L.length d] w fun e w' => e = .returned (.bool true) ∧ Below w.heap.size w w' := by
  have HE : Hid (∀ j, j < L.length → ∀ X p q c' d', Ints X p (tb L j) → Ints X q (tb L j) → Calls Tryd.prog 44 #[.slice p (tb L j).length c', .slice q (tb L j).length d'] X fun e w' => e = .returned (.bool true) ∧ Below X.heap.size X w') := fun j hj X p q c' d' h1 h2 => by
    have := Dg.EqualInts_any p q (tb L j) (tb L j) c' d' X h1 h2 (by have := hs _ (tb_mem hj); unfold maxLen; omega)
    rw [decide_eq_true rfl] at this
    exact this
  have HX := Lib.hid hx
  have HY := Lib.hid hy
  have hn0 : ((L.length : Int) != (L.length : Int)) = false := by simp
  clear hs hx hy
  go_enter Tryd.func36, Tryd.ntmps36
  go_wp2
  go_loopw [5] (fun i wr => ∃ k : Nat, k ≤ L.length ∧ i = .int .i64 k ∧ Below w.heap.size w wr) (fun i _ => L.length - (intOf i).toNat)
  case atStart => exact ⟨0, by omega, rfl, Below.refl _ _⟩
  case round =>
    obtain ⟨k, hk, rfl, hb⟩ := hrel
    by_cases hlt : k < L.length
    · obtain ⟨ad, p, c', rfl, hbk, hcell, hi⟩ := (HX.out.below hb) k hlt
      obtain ⟨bd, p', d', rfl, hbk', hcell', hi'⟩ := (HY.out.below hb) k hlt
      have HEk := Lib.hid fun X hX => HE.out k hlt X p p' c' d' (Vals.below hi hX) (Vals.below hi' hX)
      have hlt2 : (k : Int) < (L.length : Int) := by omega
      clear HE hi hi' HX HY
      generalize (tb L k).length = nk at *
      go_wp2
      have KE : Below wr.heap.size wr wr.drew := drew_below wr
      have hS : wr.drew.cell? (ad.add k) = some (.slice p nk c') ∧ wr.drew.cell? (bd.add k) = some (.slice p' nk d') ∧ Below wr.heap.size wr wr.drew := ⟨(KE.cell (by rw [addr_block]; exact hbk)).trans hcell, (KE.cell (by rw [addr_block]; exact hbk')).trans hcell', KE⟩
      go_region_held3 (fun w' => w'.cell? (ad.add k) = some (.slice p nk c') ∧ w'.cell? (bd.add k) = some (.slice p' nk d') ∧ Below wr.heap.size wr w')
        (first | assumption)
        ((go_at_call 44; ((with_reducible refine (HEk.out wr.drew KE).mono ?_); rintro e w2 ⟨rfl, hb2⟩); have K2 := stepB KE hb2; have hS2 : w2.cell? (ad.add k) = some (.slice p nk c') ∧ w2.cell? (bd.add k) = some (.slice p' nk d') ∧ Below wr.heap.size wr w2 := ⟨(K2.cell (by rw [addr_block]; exact hbk)).trans hcell, (K2.cell (by rw [addr_block]; exact hbk')).trans hcell', K2⟩))
      have K := hS2.2.2
      clear hS hS2 KE K2 hb2 HEk hcell hcell'
      go_wp2
      go_roundw
      case rel => exact ⟨k + 1, by omega, by go_num, stepB hb K⟩
      case measure => simp [intOf]; omega
    · obtain rfl : k = L.length := by omega
      clear HX HY HE
      go_wp2
      go_ret
      exact ⟨rfl, hb⟩
set_option maxHeartbeats 2000000 in
theorem EqualBools_same (A B : Option Addr) (l : List Bool) (c d : Nat) (w : World) (hx : Bools w A l) (hy : Bools w B l) (hl : l.length ≤ 1000000) :
    Calls Tryd.prog 67 #[.slice A l.length c, .slice B l.length d] w fun e w' => e = .returned (.bool true) ∧ ∃ n, w' = w.drewN n := by
  have hn0 : ((l.length : Int) != (l.length : Int)) = false := by simp
  go_enter Tryd.func67, Tryd.ntmps67
  go_wp2
  go_loopw [5] (fun i wr => ∃ k q : Nat, k ≤ l.length ∧ i = .int .i64 k ∧ wr = w.drewN q) (fun i _ => l.length - (intOf i).toNat)
  case atStart => exact ⟨0, 0, by omega, rfl, rfl⟩
  case round =>
    obtain ⟨k, q, hk, rfl, rfl⟩ := hrel
    by_cases hlt : k < l.length
    · obtain ⟨ad, rfl, hcell⟩ := Vals.at_ hx hlt
      obtain ⟨bd, rfl, hcell'⟩ := Vals.at_ hy hlt
      generalize l.getD k false = x at *
      have hne : (x != x) = false := by simp
      have hlt2 : (k : Int) < (l.length : Int) := by omega
      go_wp2
      go_quiet (fail)
      go_wp2
      go_roundw
      case rel => exact ⟨k + 1, _, by omega, by go_num, rfl⟩
      case measure => simp [intOf]; omega
    · obtain rfl : k = l.length := by omega
      go_wp2
      go_ret
      exact ⟨rfl, _, rfl⟩
theorem bools_list (l : List Bool) : (List.range l.length).map (fun j => Value.bool (l.getD j false)) = l.map Value.bool := by
  apply List.ext_getElem
  · simp
  · intro j h1 h2
    have : j < l.length := by simpa using h1
    simp [this]
theorem bools_own {w : World} {B n c : Nat} {A : Option Addr} {l : List Bool} (h : w.ownsRow B 4 1 (.slice A n c) n (l.map Value.bool)) (hn : n = l.length) : Bools w A l := by
  subst hn
  exact Vals.of_own h fun j hj => by simp [hj]
theorem CopyBools_any (A : Option Addr) (l : List Bool) (c : Nat) (w : World) (hx : Bools w A l) (hl : l.length ≤ 1000000) :
    Calls Tryd.prog 69 #[.slice A l.length c] w fun e w' => ∃ A' c', e = .returned (.slice A' l.length c') ∧ w'.ownsRow w.heap.size 4 1 (.slice A' l.length c') l.length (l.map Value.bool) ∧ Below w.heap.size w w' := by
  obtain ⟨i0, hi, hz0, hz1, hz2⟩ := info_parts info_boolJ
  have HM := Lib.hid (bools_list l)
  obtain ⟨n, hn⟩ : ∃ n, n = l.length := ⟨_, rfl⟩
  have hx2 : Vals w A n fun j => .bool (l.getD j false) := by rw [hn]; exact hx
  rw [← hn] at HM hl ⊢
  clear hn hx
  go_enter Tryd.func69, Tryd.ntmps69
  go_wp2_with (at_builtin; refine Ap.wpList_copy rfl _ _ 52 rfl 4 i0 (.bool false) 1 Tryd.underlying52 hi hz0 hz1 hz2 rfl rfl A n c _ rfl hx2 (fun j _ => rfl) (by unfold maxLen; omega) (by omega) ?_; intro A' c' w' ho hc hb)
  go_ret
  rw [HM.out] at ho
  exact ⟨A', c', rfl, ho, hb⟩
set_option maxHeartbeats 4000000 in
theorem CopyRows_any (A : Option Addr) (L : List (List Int)) (c : Nat) (w : World) (hx : Tabs w A L) (hl : L.length ≤ 1000000) (hs : ∀ u ∈ L, u.length ≤ 1000000) :
    Calls Tryd.prog 68 #[.slice A L.length c] w fun e w' => ∃ A' c', e = .returned (.slice A' L.length c') ∧ SetsO w.heap.size w' (.slice A' L.length c') L ∧ Below w.heap.size w w' := by
  obtain ⟨i1, hi1, hy0, hy1, hy2⟩ := info_parts Dg.info_tab
  have HC : Hid (∀ j, j < L.length → ∀ X p c', Ints X p (tb L j) → Calls Tryd.prog 84 #[.slice p (tb L j).length c'] X fun e w' => ∃ A' c'', e = .returned (.slice A' (tb L j).length c'') ∧ w'.ownsRow X.heap.size 3 1 (.slice A' (tb L j).length c'') (tb L j).length (zvs (tb L j)) ∧ Below X.heap.size X w') := fun j hj X p c' h1 =>
    (Dg.CopyInts_any p (tb L j) c' X h1 (hs _ (tb_mem hj))).mono fun e w' ⟨A', c'', h1, h2, _, h3⟩ => ⟨A', c'', h1, h2, h3⟩
  have HX := Lib.hid hx
  clear hx hs
  go_enter Tryd.func68, Tryd.ntmps68
  go_wp2
  go_loopw [3, 4] (fun su iv wr => ∃ (k : Nat) (sv : Value), sv = su ∧ k ≤ L.length ∧ iv = .int .i64 k ∧ Hid (SetsO w.heap.size wr sv (L.take k)) ∧ Below w.heap.size w wr) (fun _ iv _ => L.length - (intOf iv).toNat)
  case atStart => exact ⟨0, _, rfl, Nat.zero_le _, rfl, SetsO.nil _ _, Below.refl _ _⟩
  case round =>
    obtain ⟨k, sv, rfl, hk, rfl, HS, hb⟩ := hrel
    by_cases hlt : k < L.length
    · obtain ⟨ad, p, c', rfl, hbk, hcell, hi⟩ := (HX.out.below hb) k hlt
      have HCk := Lib.hid (HC.out k hlt wr p c' hi)
      have hsz := hb.size
      have hSt := Lib.hid fun X (hX : Below wr.heap.size wr X) => show ∃ Q : List (Value × List Int), X.ownsRow w.heap.size 23 1 sv k (Q.map fun q => q.1) ∧ ∀ v Z sv' (tmp : Obj), X.ownsRow wr.heap.size 3 1 v (tb L k).length (zvs (tb L k)) → Z.ownsRow w.heap.size 23 1 sv' (k + 1) ((Q.map fun q => q.1) ++ [v]) → (X.alloc tmp).grownBy Z sv.ownBlock → SetsO w.heap.size Z sv' (L.take (k + 1)) by
        have hSX := HS.out.below hX
        have hlk : (L.take k).length = k := by rw [List.length_take]; omega
        obtain ⟨Q, eQ, hoQ, hqQ⟩ := hSX
        refine ⟨Q, by rw [hlk] at hoQ; exact hoQ, fun v Z sv' tmp hv ho hg => ?_⟩
        have e1 : L.take (k + 1) = L.take k ++ [tb L k] := by
          rw [List.take_add_one, List.getElem?_eq_getElem hlt]
          unfold tb
          rw [List.getD_eq_getElem?_getD, List.getElem?_eq_getElem hlt]; rfl
        rw [e1]
        exact SetsO.push eQ hoQ hqQ (ownsRow_mono hv hsz) (by rw [hlk]; exact ho) hg
      clear HC HX HS hi
      generalize zvs (tb L k) = zk at *
      generalize (tb L k).length = nk at *
      have hlt2 : (k : Int) < (L.length : Int) := by omega
      go_wp2_with (first
        | (go_at_call 84; ((with_reducible refine HCk.out.mono ?_); rintro e w5 ⟨A5, c5, rfl, ho5, hb5⟩); obtain ⟨Q, hoQ, hNext⟩ := hSt.out w5 hb5; have HOQ := Lib.hid hoQ; have HO5 := Lib.hid ho5; have HNX := Lib.hid hNext; have hs5 := hb5.size; clear hoQ ho5 hNext)
        | (at_builtin; refine wpList_append_own_at _ rfl _ _ 51 rfl w.heap.size 23 i1 (.slice none 0 0) 1 24 Tryd.underlying51 hi1 hy0 hy1 hy2 rfl (by decide) _ k _ rfl (HOQ.out.alloc _) ⟨w5.heap.size, 0, none⟩ 1 1 [.slice A5 nk c5] rfl rfl (cell_one_new _ _ _) (by simp [Value.oneCell']) (by unfold maxLen; omega) (by omega) (by simp; omega) ?_; intro v' w6 hown' hgrow _ hb6; have hnx := HNX.out _ _ _ _ HO5.out hown' hgrow; have hb7 := ((stepB hb hb5).alloc (by omega) (.cells #[.slice A5 nk c5] 23)).grown hgrow (by simp; omega) (fun q hq => by have := (HOQ.out.lt q hq).1; omega); have HN6 := Lib.hid hnx; clear hnx hown' hgrow))
      go_roundw
      case rel => exact ⟨k + 1, _, rfl, by omega, by go_num, HN6, hb7⟩
      case measure => simp [intOf]; omega
    · obtain rfl : k = L.length := by omega
      have h := HS.out
      rw [List.take_length] at h
      obtain ⟨A', c', rfl, _⟩ := h.form
      have H := Lib.hid h
      clear HC HX HS h
      go_wp2
      go_ret
      exact ⟨A', c', rfl, H.out, hb⟩
end Go.Proofs.YtlaagjmfgaccjaaDoor.Sb
