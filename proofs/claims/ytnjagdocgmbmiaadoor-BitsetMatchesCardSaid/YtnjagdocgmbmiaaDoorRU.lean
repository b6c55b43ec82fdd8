/- The reference's Union, Intersect and Minus. -/
import Derived.Test.YtnjagdocgmbmiaaDoorRO
import Derived.Test.YtnjagdocgmbmiaaDoorO
namespace Go.Proofs.YtnjagdocgmbmiaaDoor
open Go Go.RowKit
set_option maxRecDepth 100000
set_option linter.unusedVariables false
section
variable {P : Program}
theorem run_append_all (w : World) (base : Nat) (t ty e : TypeId) (i : TypeInfo) (z : Value) (bytes : Nat) (ht : P.underlying t = some (.slice e)) (hi : P.info? e = some i) (hz : i.zero = some z)
    (hsize : i.size = 1) (hby : i.bytes = bytes) (hzs : z.cells.size = 1) (v : Value) (n : Nat) (xs : List Value) (hown : w.ownsRow base e 1 v n xs)
    (A : Option Addr) (m c : Nat) (f : Nat → Value) (h : Vals w A m f) (h1 : ∀ j, j < m → (f j).oneCell' = true)
    (h63 : n + m ≤ maxLen) (hbytes : (n + m) * bytes ≤ 140737488355328) (hbase : base ≤ w.heap.size) :
    ∃ v' w', (Builtin.append_ #[t, t] ty #[v, .slice A m c]).run P w = .ok v' w' ∧ w'.ownsRow base e 1 v' (n + m) (xs ++ (List.range m).map f) ∧ w.grownBy w' v.ownBlock := by
  rcases A with _ | ad
  · have hm : m = 0 := by
      rcases Nat.eq_zero_or_pos m with h0 | h0
      · exact h0
      · obtain ⟨_, e, _⟩ := h 0 h0; cases e
    subst hm
    refine ⟨v, w, ?_, by simpa using hown, World.grownBy.refl w _⟩
    rcases hown.2 with ⟨rfl, rfl⟩ | ⟨g, cap, cur, rfl, _, _, hc, _⟩
    · simp [Builtin.append_, run_underlying ht, sizeOf, typeInfo, hi, Builtin.lenOf, Builtin.firstCells]
    · simp [Builtin.append_, run_underlying ht, sizeOf, typeInfo, hi, Builtin.lenOf, Builtin.firstCells, hc, storeCells]
  · have hnews : ∀ j u, ((List.range m).map f)[j]? = some u → w.cell? (ad.add j) = some u := by
      intro j u hu
      by_cases hj : j < m
      · obtain ⟨ad', e, _, hc⟩ := h j hj
        cases e
        rw [hc, ← hu]
        simp [hj]
      · rw [List.getElem?_eq_none (by simp; omega)] at hu
        cases hu
    obtain ⟨v', w', hr, h2, h3, _, _⟩ := run_append_own_at (P := P) (w := w) base t ty e i z 1 bytes ht hi hz hsize hby hzs (by decide) v n xs hown ad m c ((List.range m).map f) (by simp) hnews
      (by intro u hu; obtain ⟨j, hj, rfl⟩ := List.mem_map.1 hu; exact h1 j (List.mem_range.1 hj)) h63 hbytes hbase
    exact ⟨v', w', hr, h2, h3⟩
theorem wpList_append_all {w : World} {ops : Array Oper} {rest : List Oper} {o : Oper} {a : Act} {Q : Exit → Act → World → Prop} (hgd : o.guard = none) (s x : Operand) (t : TypeId)
    (ho : o.op = .call { callee := .builtin .append, args := #[s, x], argTypes := #[t, t] }) (base : Nat)
    (e : TypeId) (i : TypeInfo) (z : Value) (bytes : Nat) (ht : P.underlying t = some (.slice e)) (hi : P.info? e = some i) (hz : i.zero = some z)
    (hsize : i.size = 1) (hby : i.bytes = bytes) (hzs : z.cells.size = 1) (v : Value) (n : Nat) (xs : List Value) (hs : a.eval s = v) (hown : w.ownsRow base e 1 v n xs)
    (A : Option Addr) (m c : Nat) (f : Nat → Value) (hx : a.eval x = .slice A m c) (hv : Vals w A m f)
    (h1 : ∀ j, j < m → (f j).oneCell' = true) (h63 : n + m ≤ maxLen) (hbytes : (n + m) * bytes ≤ 140737488355328) (hbase : base ≤ w.heap.size)
    (h : ∀ A' c' w', w'.ownsRow base e 1 (.slice A' (n + m) c') (n + m) (xs ++ (List.range m).map f) → n + m ≤ c' → Below base w w' → wpList P ops Q rest (a.put o.dst (.slice A' (n + m) c')) w') : wpList P ops Q (o :: rest) a w := by
  refine wpList_plain hgd fun K hK => ?_
  obtain ⟨v', w', hr, h2, h3⟩ := run_append_all (P := P) w base t o.type e i z bytes ht hi hz hsize hby hzs v n xs hown A m c f hv h1 h63 hbytes hbase
  obtain ⟨A', c', rfl, hc⟩ := own_form h2
  unfold Oper.wp execOp
  simp only [ho, resolve, invoke, builtin, Sem.run_bind, Sem.run_pure, Result.andThen_ok, List.map_toArray, List.map_cons, List.map_nil, hs, hx, hr]
  exact hK _ _ (h A' c' w' h2 hc ((Below.refl _ _).grown h3 hbase (fun q hq => (hown.lt q hq).1)))
end
theorem ivs_range (l : List Int) : (List.range l.length).map (fun j => Value.int .i64 (nd l j)) = l.map (Value.int .i64) := by
  apply List.ext_getElem
  · simp
  · intro j h1 h2
    simp at h1
    simp [nd, h1]
theorem own_bel {w w' : World} {B e size n : Nat} {v : Value} {xs : List Value} (h : w.ownsRow B e size v n xs) (hb : Below w.heap.size w w') : w'.ownsRow B e size v n xs := by
  refine ⟨h.1, ?_⟩
  rcases h.2 with h0 | ⟨g, cap, cur, hv, hg, hc, rest⟩
  · exact .inl h0
  · refine .inr ⟨g, cap, cur, hv, hg, ?_, rest⟩
    rw [hb.block g (Array.getElem?_eq_some_iff.1 hc).1]
    exact hc
theorem own_low {w : World} {B B' e size n : Nat} {v : Value} {xs : List Value} (h : w.ownsRow B e size v n xs) (hb : B' ≤ B) : w.ownsRow B' e size v n xs := by
  refine ⟨h.1, ?_⟩
  rcases h.2 with h0 | ⟨g, cap, cur, hv, hg, rest⟩
  · exact .inl h0
  · exact .inr ⟨g, cap, cur, hv, Nat.le_trans hb hg, rest⟩
theorem refOf_own (A : Option Addr) (l : List Int) (n c : Nat) (w : World) (hn : n = l.length) (hx : Ints w A l) (hl : l.length ≤ maxLen) :
    Calls Tryd.prog 23 #[.slice A n c] w fun e w' =>
      ∃ A' c', e = .returned (.slice A' (ofL l).length c') ∧ OwnW w.heap.size w' A' c' (ofL l) ∧ Below w.heap.size w w' := by
  subst hn
  refine (refOf_any A l c w hx hl).mono ?_
  rintro e w' ⟨v, he, ho, hb⟩
  obtain ⟨A', c', rfl, hc⟩ := own_form ho
  exact ⟨A', c', he, ⟨ho, (ofTo_ok l _).1, hc⟩, hb⟩
theorem own_app (w : World) (base : Nat) (v : Value) (l m : List Int) (n : Nat) (hn : n = l.length) (k : Nat) (hk : k = m.length) (h : w.ownsRow base 3 1 v (n + k) (l.map (Value.int .i64) ++ (List.range k).map fun j => Value.int .i64 (nd m j))) :
    w.ownsRow base 3 1 v (l ++ m).length ((l ++ m).map (Value.int .i64)) := by
  subst hn hk
  rw [ivs_range, ← List.map_append, ← List.length_append] at h
  exact h
theorem ints_own {w : World} {base e : Nat} {A : Option Addr} {n c : Nat} {l : List Int} (h : w.ownsRow base e 1 (.slice A n c) n (l.map (Value.int .i64))) (hn : n = l.length) : Ints w A l := by
  subst hn
  exact Vals.of_own h fun j hj => by simp [nd, hj]
theorem ints_app {w : World} {base : Nat} {A : Option Addr} {l m : List Int} {n k c : Nat} (hn : l.length = n) (hk : m.length = k)
    (h : w.ownsRow base 3 1 (.slice A (n + k) c) (n + k) ((List.range n).map (fun j => .int .i64 (nd l j)) ++ (List.range k).map fun j => .int .i64 (nd m j))) : Ints w A (l ++ m) := by
  subst hn hk
  rw [ivs_range, ivs_range, ← List.map_append] at h
  exact ints_own h (by simp)
theorem refList_n (A : Option Addr) (xs : List Nat) (c n : Nat) (w : World) (hx : Words w A xs) (ux : U64 xs) (hl : xs.length ≤ 80) (hn : n = (els xs).length) :
    Calls Tryd.prog 14 #[.slice A xs.length c] w fun e w' =>
      ∃ A' c', e = .returned (.slice A' n c') ∧ Vals w' A' n (fun j => .int .i64 (nd (elsI xs) j)) ∧ n ≤ c' ∧ Below w.heap.size w w' := by
  subst hn
  refine (refList_any A xs c w hx ux hl).mono ?_
  rintro e w' ⟨v, he, ho, hb⟩
  obtain ⟨A', c', rfl, hc⟩ := own_form ho
  have hi : Ints w' A' (elsI xs) := own_ints ho rfl
  unfold Ints at hi
  rw [elsI_len] at hi
  exact ⟨A', c', he, hi, hc, hb⟩
set_option maxHeartbeats 1000000 in
theorem refUnion_any (A B : Option Addr) (xs ys : List Nat) (c d : Nat) (w : World) (hx : Words w A xs) (ux : U64 xs) (hl : xs.length ≤ 80) (hy : Words w B ys) (uy : U64 ys) (hm : ys.length ≤ 80) :
    Calls Tryd.prog 33 #[.slice A xs.length c, .slice B ys.length d] w fun e w' =>
      ∃ A' c', e = .returned (.slice A' (ofL (elsI xs ++ elsI ys)).length c') ∧ OwnW w.heap.size w' A' c' (ofL (elsI xs ++ elsI ys)) ∧ Below w.heap.size w w' := by
  obtain ⟨i0, hi, hz0, hz1, hz2⟩ := info_parts info_int
  obtain ⟨n, hn⟩ : ∃ n, n = (els xs).length := ⟨_, rfl⟩
  obtain ⟨m, hm'⟩ : ∃ m, m = (els ys).length := ⟨_, rfl⟩
  have ln : n ≤ 4096 := by rw [hn]; exact elsTo_len xs 4096
  have lm : m ≤ 4096 := by rw [hm']; exact elsTo_len ys 4096
  have HL1 := Lib.hid (refList_n A xs c n w hx ux hl hn)
  have HL2 := Lib.hid (fun w2 h => refList_n B ys d m w2 h uy hm hm')
  have HN : Hid ((elsI xs).length = n) := by show _ = _; rw [elsI_len, hn]
  have HM : Hid ((elsI ys).length = m) := by show _ = _; rw [elsI_len, hm']
  clear hn hm'
  generalize elsI xs = l1 at *
  generalize elsI ys = l2 at *
  go_enter Tryd.func33, Tryd.ntmps33
  go_wp2_with (first
    | (go_at_call 14; have hc0 := HL1.out; with_reducible refine hc0.mono ?_; clear hc0; rintro e w1 ⟨A1, c1, rfl, hi1, hc1, hb1⟩)
    | (at_builtin; refine wpList_copy rfl _ _ _ rfl 3 i0 (.int .i64 0) 8 Tryd.underlying24 hi hz0 hz1 hz2 rfl rfl A1 n c1 (fun j => .int .i64 (nd l1 j)) rfl hi1 (fun _ _ => rfl) (by unfold maxLen; omega) (by omega) ?_; intro A2 c2 w2 ho2 hc2 hb2)
    | (go_at_call 14; have hc0 := HL2.out w2 ((hy.below hb1).below hb2); with_reducible refine hc0.mono ?_; clear hc0; rintro e w3 ⟨A3, c3, rfl, hi3, hc3, hb3⟩)
    | (at_builtin; refine wpList_append_all rfl _ _ _ rfl w1.heap.size 3 i0 (.int .i64 0) 8 Tryd.underlying24 hi hz0 hz1 hz2 rfl _ _ _ rfl (own_bel ho2 hb3) A3 m c3 (fun j => .int .i64 (nd l2 j)) rfl hi3 (fun _ _ => rfl) (by unfold maxLen; omega) (by omega) (Nat.le_trans hb2.size hb3.size) ?_; intro A4 c4 w4 ho4 hc4 hb4)
    | (go_at_call 23; refine (refOf_own A4 (l1 ++ l2) (n + m) c4 w4 (by rw [List.length_append, HN.out, HM.out]) (ints_app HN.out HM.out ho4) (by rw [List.length_append, HN.out, HM.out]; unfold maxLen; omega)).mono ?_; rintro e w5 ⟨A5, c5, rfl, ho5, hb5⟩))
  go_ret
  have hb04 : Below w.heap.size w w4 := (stepB (stepB hb1 hb2) hb3).trans (hb4.mono hb1.size)
  exact ⟨A5, c5, rfl, ⟨own_low ho5.1 hb04.size, ho5.2⟩, stepB hb04 hb5⟩
end Go.Proofs.YtnjagdocgmbmiaaDoor
