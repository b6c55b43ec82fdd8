/- Slices of bytes and of cubes: comparisons and copies. -/
import Derived.Test.YtjjdhegkcilaiaaDoorCL
import Derived.Deep.RegionHeld3
namespace Go.Proofs.YtjjdhegkcilaiaaDoor
open Go Go.RowKit
set_option maxRecDepth 100000
/-- The slice that begins at A holds the bytes l. -/
def Bys (w : World) (A : Option Addr) (l : List Nat) : Prop := Vals w A l.length fun j => .int .u8 (wd l j : Nat)
theorem Bys.below {w w' : World} {A : Option Addr} {l : List Nat} (h : Bys w A l) (hb : Below w.heap.size w w') : Bys w' A l := Vals.below h hb
theorem own_form {w : World} {base e size n : Nat} {v : Value} {xs : List Value} (h : w.ownsRow base e size v n xs) : ∃ A c, v = .slice A n c ∧ n ≤ c := by
  rcases h.2 with ⟨rfl, rfl⟩ | ⟨g, cap, cur, rfl, _, _, h1, _⟩
  · exact ⟨none, 0, rfl, Nat.le_refl _⟩
  · exact ⟨_, _, rfl, h1⟩
theorem own_bys {w : World} {base : Nat} {A : Option Addr} {c n : Nat} {l : List Nat} (h : w.ownsRow base 5 1 (.slice A n c) n (bvs l)) (hn : n = l.length) : Bys w A l := by
  subst hn
  exact Vals.of_own h fun j hj => by simp [bvs, wd, hj]
theorem addr_add (b j : Nat) : (⟨b, 0, none⟩ : Addr).add j = ⟨b, j, none⟩ := by
  unfold Addr.add
  split
  · rename_i h; rw [h]
  · simp
theorem vals_new_ (W : World) (t : TypeId) (n : Nat) (f : Nat → Value) (xs : List Value) (hf : ∀ j, j < n → xs[j]? = some (f j)) : Vals (W.alloc (.cells xs.toArray t)) (some ⟨W.heap.size, 0, none⟩) n f := by
  intro j hj
  refine ⟨_, rfl, by simp, ?_⟩
  rw [addr_add, World.cell?_alloc_at _ _ _ _ rfl]
  simp [hf j hj]
theorem bys_new (W : World) (t : TypeId) (l : List Nat) : Bys (W.alloc (.cells (bvs l).toArray t)) (some ⟨W.heap.size, 0, none⟩) l :=
  vals_new_ W t _ _ _ fun j hj => by simp [bvs, wd, hj]
theorem wd_ext {xs ys : List Nat} (h : xs.length = ys.length) (hk : ∀ i, i < xs.length → wd xs i = wd ys i) : xs = ys := by
  apply List.ext_getElem h
  intro i h1 h2
  have := hk i h1
  simpa [wd, h1, h2] using this
theorem drewN_below (w : World) (n : Nat) : Below w.heap.size w (w.drewN n) := ⟨rfl, rfl, rfl, Nat.le_refl _, fun _ _ => rfl⟩
set_option maxHeartbeats 1000000 in
theorem EqualBytes_any (A B : Option Addr) (xs ys : List Nat) (c d : Nat) (w : World) (hx : Bys w A xs) (hy : Bys w B ys) (hl : xs.length ≤ maxLen) :
    Calls Tryd.prog 38 #[.slice A xs.length c, .slice B ys.length d] w fun e w' => e = .returned (.bool (decide (xs = ys))) ∧ ∃ n, w' = w.drewN n := by
  unfold maxLen at hl
  by_cases hlen : xs.length = ys.length
  · have HE := Lib.hid hlen
    have hle : xs.length ≤ ys.length := by omega
    have hge : ys.length ≤ xs.length := by omega
    clear hlen
    go_enter Tryd.func38, Tryd.ntmps38
    go_wp2
    go_loopw [5] (fun i wr => ∃ k q : Nat, k ≤ xs.length ∧ i = .int .i64 k ∧ Hid (∀ i, i < k → wd xs i = wd ys i) ∧ wr = w.drewN q) (fun i _ => xs.length - (intOf i).toNat)
    case atStart => exact ⟨0, 0, by omega, rfl, fun i hi => absurd hi (by omega), rfl⟩
    case round =>
      obtain ⟨k, q, hk, rfl, H, rfl⟩ := hrel
      by_cases hlt : k < xs.length
      · obtain ⟨ad, rfl, hcell⟩ := hx.at_ hlt
        obtain ⟨bd, rfl, hcell'⟩ := hy.at_ (j := k) (by omega)
        by_cases h : wd xs k = wd ys k
        · have H' : Hid (∀ i, i < k + 1 → wd xs i = wd ys i) := fun i hi => by
            rcases Nat.lt_or_eq_of_le (Nat.le_of_lt_succ hi) with h1 | rfl
            · exact H.out i h1
            · exact h
          rw [← h] at hcell'
          clear h H
          go_wp2
          go_quiet (fail)
          go_wp2
          go_roundw
          case rel => exact ⟨k + 1, _, by omega, by go_num, H', rfl⟩
          case measure => simp [intOf]; omega
        · have H' : Hid (decide (xs = ys) = false) := by
            show _ = _
            rw [decide_eq_false_iff_not]
            rintro rfl
            exact h rfl
          have hne : (((wd xs k : Nat) : Int) != ((wd ys k : Nat) : Int)) = true := by rw [bne_iff_ne]; exact_mod_cast h
          clear h H
          go_wp2
          go_quiet (fail)
          go_wp2
          go_ret
          exact ⟨ret_bool H'.out.symm, _, by rw [World.drewN_drewN]⟩
      · have H' : Hid (decide (xs = ys) = true) := by
          show _ = _
          rw [decide_eq_true_iff]
          exact wd_ext HE.out fun i hi => H.out i (by omega)
        clear H
        go_wp2
        go_ret
        exact ⟨ret_bool H'.out.symm, _, rfl⟩
  · have H' : Hid (decide (xs = ys) = false) := by
      show _ = _
      rw [decide_eq_false_iff_not]
      rintro rfl
      exact hlen rfl
    have hne : (((xs.length : Nat) : Int) != ((ys.length : Nat) : Int)) = true := by rw [bne_iff_ne]; exact_mod_cast hlen
    clear hlen
    go_enter Tryd.func38, Tryd.ntmps38
    go_wp2
    go_ret
    exact ⟨ret_bool H'.out.symm, 0, rfl⟩
/-- Cube number j of a list. -/
def cd (l : List (Nat × Nat)) (j : Nat) : Nat × Nat := l.getD j (0, 0)
/-- The slice that begins at A holds the cubes l. -/
def Cubs (w : World) (A : Option Addr) (l : List (Nat × Nat)) : Prop :=
  ∀ j, j < l.length → ∃ g, A = some ⟨g, 0, none⟩ ∧ g < w.heap.size ∧ w.cell? ⟨g, j * 2, none⟩ = some (.int .u8 (cd l j).1) ∧ w.cell? ⟨g, j * 2 + 1, none⟩ = some (.int .u8 (cd l j).2)
theorem Cubs.below {w w' : World} {A : Option Addr} {l : List (Nat × Nat)} (h : Cubs w A l) (hb : Below w.heap.size w w') : Cubs w' A l := by
  intro j hj
  obtain ⟨ad, e, h1, h2, h3⟩ := h j hj
  exact ⟨ad, e, Nat.lt_of_lt_of_le h1 hb.size, (hb.cell (p := ⟨ad, j * 2, none⟩) h1).trans h2, (hb.cell (p := ⟨ad, j * 2 + 1, none⟩) h1).trans h3⟩
theorem cd_ext {xs ys : List (Nat × Nat)} (h : xs.length = ys.length) (hk : ∀ i, i < xs.length → cd xs i = cd ys i) : xs = ys := by
  apply List.ext_getElem h
  intro i h1 h2
  have := hk i h1
  simpa [cd, h1, h2] using this
set_option maxHeartbeats 1000000 in
theorem refSame_any (A B : Option Addr) (xs ys : List (Nat × Nat)) (c d : Nat) (w : World) (hx : Cubs w A xs) (hy : Cubs w B ys) (hl : xs.length ≤ 1000000) :
    Calls Tryd.prog 48 #[.slice A xs.length c, .slice B ys.length d] w fun e w' => e = .returned (.bool (decide (xs = ys))) ∧ ∃ n, w' = w.drewN n := by
  by_cases hlen : xs.length = ys.length
  · have HE := Lib.hid hlen
    have hle : xs.length ≤ ys.length := by omega
    have hge : ys.length ≤ xs.length := by omega
    clear hlen
    go_enter Tryd.func48, Tryd.ntmps48
    go_wp2
    go_loopw [5] (fun i wr => ∃ k q : Nat, k ≤ xs.length ∧ i = .int .i64 k ∧ Hid (∀ i, i < k → cd xs i = cd ys i) ∧ wr = w.drewN q) (fun i _ => xs.length - (intOf i).toNat)
    case atStart => exact ⟨0, 0, by omega, rfl, fun i hi => absurd hi (by omega), rfl⟩
    case round =>
      obtain ⟨k, q, hk, rfl, H, rfl⟩ := hrel
      by_cases hlt : k < xs.length
      · obtain ⟨ad, rfl, _, hc0, hc1⟩ := hx k hlt
        obtain ⟨bd, rfl, _, hd0, hd1⟩ := hy k (by omega)
        by_cases h : cd xs k = cd ys k
        · have H' : Hid (∀ i, i < k + 1 → cd xs i = cd ys i) := fun i hi => by
            rcases Nat.lt_or_eq_of_le (Nat.le_of_lt_succ hi) with h1 | rfl
            · exact H.out i h1
            · exact h
          rw [← h] at hd0 hd1
          clear h H
          generalize cd xs k = e at *
          go_wp2
          go_quiet (fail)
          go_wp2
          go_roundw
          case rel => exact ⟨k + 1, _, by omega, by go_num, H', rfl⟩
          case measure => simp [intOf]; omega
        · have H' : Hid (decide (xs = ys) = false) := by
            show _ = _
            rw [decide_eq_false_iff_not]
            rintro rfl
            exact h rfl
          have HN := Lib.hid h
          clear h H
          generalize cd xs k = e at *
          generalize cd ys k = f at *
          obtain ⟨e1, e2⟩ := e
          obtain ⟨f1, f2⟩ := f
          by_cases h1 : e1 = f1
          · subst h1
            have h2 : (((e2 : Nat) : Int) == ((f2 : Nat) : Int)) = false := by
              rw [beq_eq_false_iff_ne]
              intro h
              exact HN.out (by rw [show e2 = f2 by omega])
            go_wp2
            go_quiet (fail)
            go_wp2
            go_ret
            exact ⟨ret_bool H'.out.symm, _, by rw [World.drewN_drewN]⟩
          · have h2 : (((e1 : Nat) : Int) == ((f1 : Nat) : Int)) = false := by
              rw [beq_eq_false_iff_ne]
              intro h
              exact h1 (by omega)
            clear h1
            go_wp2
            go_quiet (fail)
            go_wp2
            go_ret
            exact ⟨ret_bool H'.out.symm, _, by rw [World.drewN_drewN]⟩
      · have H' : Hid (decide (xs = ys) = true) := by
          show _ = _
          rw [decide_eq_true_iff]
          exact cd_ext HE.out fun i hi => H.out i (by omega)
        clear H
        go_wp2
        go_ret
        exact ⟨ret_bool H'.out.symm, _, rfl⟩
  · have H' : Hid (decide (xs = ys) = false) := by
      show _ = _
      rw [decide_eq_false_iff_not]
      rintro rfl
      exact hlen rfl
    have hne : (((xs.length : Nat) : Int) != ((ys.length : Nat) : Int)) = true := by rw [bne_iff_ne]; exact_mod_cast hlen
    clear hlen
    go_enter Tryd.func48, Tryd.ntmps48
    go_wp2
    go_ret
    exact ⟨ret_bool H'.out.symm, 0, rfl⟩
section
variable {P : Program}
theorem run_copy (w : World) (t ty e : TypeId) (i : TypeInfo) (z : Value) (bytes : Nat) (ht : P.underlying t = some (.slice e)) (hi : P.info? e = some i) (hz : i.zero = some z)
    (hsize : i.size = 1) (hby : i.bytes = bytes) (hzs : z.cells.size = 1) (A : Option Addr) (m c : Nat) (f : Nat → Value) (h : Vals w A m f) (h1 : ∀ j, j < m → (f j).oneCell' = true)
    (h63 : m ≤ maxLen) (hbytes : m * bytes ≤ 140737488355328) :
    ∃ v' w', (Builtin.append_ #[t, t] ty #[.slice none 0 0, .slice A m c]).run P w = .ok v' w' ∧ w'.ownsRow w.heap.size e 1 v' m ((List.range m).map f) ∧ w.grownBy w' none := by
  have hnil : w.ownsRow w.heap.size e 1 (.slice none 0 0) 0 [] := ⟨rfl, .inl ⟨rfl, rfl⟩⟩
  rcases A with _ | ad
  · have hm : m = 0 := by
      rcases Nat.eq_zero_or_pos m with h0 | h0
      · exact h0
      · obtain ⟨_, e, _⟩ := h 0 h0; cases e
    subst hm
    refine ⟨.slice none 0 0, w, ?_, hnil, World.grownBy.refl w none⟩
    simp [Builtin.append_, run_underlying ht, sizeOf, typeInfo, hi, Builtin.lenOf, Builtin.firstCells]
  · have hnews : ∀ j u, ((List.range m).map f)[j]? = some u → w.cell? (ad.add j) = some u := by
      intro j u hu
      by_cases hj : j < m
      · obtain ⟨ad', e, _, hc⟩ := h j hj
        cases e
        rw [hc, ← hu]
        simp [hj]
      · rw [List.getElem?_eq_none (by simp; omega)] at hu
        cases hu
    obtain ⟨v', w', hr, h2, h3, _, _⟩ := run_append_own_at (P := P) w w.heap.size t ty e i z 1 bytes ht hi hz hsize hby hzs (by decide) (.slice none 0 0) 0 [] hnil ad m c ((List.range m).map f) (by simp) hnews
      (by intro u hu; obtain ⟨j, hj, rfl⟩ := List.mem_map.1 hu; exact h1 j (List.mem_range.1 hj)) (by omega) (by rw [Nat.zero_add]; exact hbytes) (Nat.le_refl _)
    refine ⟨v', w', hr, ?_, h3⟩
    simpa using h2
theorem wpList_copy {w : World} {ops : Array Oper} {rest : List Oper} {o : Oper} {a : Act} {Q : Exit → Act → World → Prop} (hgd : o.guard = none) (s x : Operand) (t : TypeId)
    (ho : o.op = .call { callee := .builtin .append, args := #[s, x], argTypes := #[t, t] })
    (e : TypeId) (i : TypeInfo) (z : Value) (bytes : Nat) (ht : P.underlying t = some (.slice e)) (hi : P.info? e = some i) (hz : i.zero = some z)
    (hsize : i.size = 1) (hby : i.bytes = bytes) (hzs : z.cells.size = 1) (hs : a.eval s = .slice none 0 0) (A : Option Addr) (m c : Nat) (f : Nat → Value) (hx : a.eval x = .slice A m c) (hv : Vals w A m f)
    (h1 : ∀ j, j < m → (f j).oneCell' = true) (h63 : m ≤ maxLen) (hbytes : m * bytes ≤ 140737488355328)
    (h : ∀ A' c' w', w'.ownsRow w.heap.size e 1 (.slice A' m c') m ((List.range m).map f) → m ≤ c' → Below w.heap.size w w' → wpList P ops Q rest (a.put o.dst (.slice A' m c')) w') : wpList P ops Q (o :: rest) a w := by
  refine wpList_plain hgd fun K hK => ?_
  obtain ⟨v', w', hr, h2, h3⟩ := run_copy (P := P) w t o.type e i z bytes ht hi hz hsize hby hzs A m c f hv h1 h63 hbytes
  obtain ⟨A', c', rfl, hc⟩ := own_form h2
  unfold Oper.wp execOp
  simp only [ho, resolve, invoke, builtin, Sem.run_bind, Sem.run_pure, Result.andThen_ok, List.map_toArray, List.map_cons, List.map_nil, hs, hx, hr]
  exact hK _ _ (h A' c' w' h2 hc ((Below.refl _ _).grown h3 (Nat.le_refl _) (by simp)))
end
theorem CopyBytes_any (A : Option Addr) (xs : List Nat) (c : Nat) (w : World) (hx : Bys w A xs) (hl : xs.length ≤ 1000000) :
    Calls Tryd.prog 45 #[.slice A xs.length c] w fun e w' => ∃ A' c', e = .returned (.slice A' xs.length c') ∧ w'.ownsRow w.heap.size 5 1 (.slice A' xs.length c') xs.length (bvs xs) ∧ xs.length ≤ c' ∧ Below w.heap.size w w' := by
  obtain ⟨i0, hi, hz0, hz1, hz2⟩ := info_parts info_u8
  have hm : (List.range xs.length).map (fun j => Value.int .u8 (wd xs j : Nat)) = bvs xs := by
    apply List.ext_getElem
    · simp [bvs]
    · intro j h1 h2
      have : j < xs.length := by simpa using h1
      simp [bvs, wd, this]
  have HM := Lib.hid hm
  clear hm
  go_enter Tryd.func45, Tryd.ntmps45
  go_wp2_with (at_builtin; refine wpList_copy rfl _ _ 45 rfl 5 i0 (.int .u8 0) 1 Tryd.underlying45 hi hz0 hz1 hz2 rfl rfl A xs.length c _ rfl hx (fun j _ => rfl) (by unfold maxLen; omega) (by omega) ?_; intro A' c' w' ho hc hb)
  go_ret
  rw [HM.out] at ho
  exact ⟨A', c', rfl, ho, hc, hb⟩
end Go.Proofs.YtjjdhegkcilaiaaDoor
