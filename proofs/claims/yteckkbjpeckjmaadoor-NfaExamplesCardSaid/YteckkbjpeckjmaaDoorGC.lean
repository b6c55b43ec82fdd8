/- slices.Grow of nil, slices.Concat of two lists (of ints, of edges). -/
import Derived.Test.YteckkbjpeckjmaaDoorGB
import Derived.Lib.AppendZeros
namespace Go.Proofs.YteckkbjpeckjmaaDoor.Nf
open Go Go.RowKit Go.Proofs.YteckkbjpeckjmaaDoor Go.Proofs.YteckkbjpeckjmaaDoor.Cb
set_option linter.unusedVariables false
set_option linter.unusedSimpArgs false
set_option maxRecDepth 100000
section
variable {P : Program}
theorem wpList_append_zeros {w : World} {ops : Array Oper} {rest : List Oper} {o : Oper} {a : Act} {Q : Exit → Act → World → Prop} (hgd : o.guard = none) (s x : Operand) (t tn : TypeId)
    (ho : o.op = .call { callee := .builtin .append, args := #[s, x], argTypes := #[t, tn] })
    (e : TypeId) (i : TypeInfo) (z : Value) (k kn : IntKind) (size bytes : Nat) (ht : P.underlying t = some (.slice e)) (htn : P.underlying tn = some (.int kn)) (hi : P.info? e = some i) (hz : i.zero = some z)
    (hsize : i.size = size) (hby : i.bytes = bytes) (hzs : z.cells.size = size) (hsz : 0 < size) (hs : a.eval s = .slice none 0 0) (n : Nat) (hx : a.eval x = .int k n) (h0 : 0 < n) (h63 : n ≤ maxLen) (h48 : n * bytes ≤ 281474976710656)
    (h : ∀ g cap w', g = w.heap.size → n ≤ cap → w'.ownsRow w.heap.size e size (.slice (some ⟨g, 0, none⟩) 0 cap) 0 [] → Below w.heap.size w w' → wpList P ops Q rest (a.put o.dst (.slice (some ⟨g, 0, none⟩) n cap)) w') : wpList P ops Q (o :: rest) a w := by
  subst hsize hby
  refine wpList_plain hgd fun K hK => ?_
  have hr := Lib.run_append_nil_zeros (P := P) w t tn o.type e i z k kn ht htn hi hz n h0 hsz (by unfold maxLen at h63; omega) h48
  have hge := grownCap_ge w n 0 e
  have hcm : grownCap w n 0 e ≤ maxLen := grownCap_le_maxLen w n 0 e h63
  unfold Oper.wp execOp
  simp only [ho, resolve, invoke, builtin, Sem.run_bind, Sem.run_pure, Result.andThen_ok, List.map_toArray, List.map_cons, List.map_nil, hs, hx, hr]
  refine hK _ _ (h _ _ _ rfl hge ⟨by simp, .inr ⟨w.heap.size, _, _, rfl, Nat.le_refl _, World.alloc_heap_new w.drew _, Nat.zero_le _, hcm, ?_, by simp⟩⟩ ((Below.refl _ w).drew.alloc (Nat.le_refl _) _))
  simp only [Array.size_append, size_zeroCells, hzs, ← Nat.add_mul]
  congr 1
  omega
end
set_option maxHeartbeats 2000000 in
theorem GrowInts_any (n : Nat) (hn : n ≤ 1000000) (w : World) :
    Calls Tryd.prog 82 #[.slice none 0 0, .int .i64 n] w fun e w' => ∃ v, e = .returned v ∧ w'.ownsRow w.heap.size 3 1 v 0 [] ∧ Below w.heap.size w w' := by
  obtain ⟨i0, hi0, hz0, hz1, hz2⟩ := info_parts info_int6
  by_cases h0 : n = 0
  · subst h0
    go_enter Tryd.func82, Tryd.ntmps82
    go_wp2
    go_ret
    exact ⟨_, rfl, ⟨rfl, .inl ⟨rfl, rfl⟩⟩, Below.refl _ _⟩
  · have h1 : 0 < n := by omega
    have h2 : decide ((0 : Int) < (n : Int)) = true := decide_eq_true (by omega)
    have h3 : decide ((n : Int) < 0) = false := decide_eq_false (by omega)
    have hw0 : IntKind.i64.wrap ((n : Int) - 0) = (n : Int) := by rw [IntKind.wrap_i64]; omega
    go_enter Tryd.func82, Tryd.ntmps82
    go_wp2_with (at_builtin; refine wpList_append_zeros rfl _ _ 23 3 rfl 3 i0 (.int .i64 0) .i64 .i64 1 8 Tryd.underlying23 Tryd.underlying3 hi0 hz0 hz1 hz2 rfl (by decide) rfl n rfl h1 (by unfold maxLen; omega) (by omega) ?_; intro g cap w' hg hcap ho hb; subst hg; have hcap2 : (n : Int) ≤ (cap : Int) := (by omega); have hc0 : (0 : Int) ≤ (cap : Int) := (by omega))
    go_ret
    exact ⟨_, rfl, ho, hb⟩
set_option maxHeartbeats 2000000 in
theorem GrowEdges_any (n : Nat) (hn : n ≤ 1000000) (w : World) :
    Calls Tryd.prog 83 #[.slice none 0 0, .int .i64 n] w fun e w' => ∃ v, e = .returned v ∧ w'.ownsRow w.heap.size 30 4 v 0 [] ∧ Below w.heap.size w w' := by
  obtain ⟨i0, hi0, hz0, hz1, hz2⟩ := info_parts info_edge
  by_cases h0 : n = 0
  · subst h0
    go_enter Tryd.func83, Tryd.ntmps83
    go_wp2
    go_ret
    exact ⟨_, rfl, ⟨rfl, .inl ⟨rfl, rfl⟩⟩, Below.refl _ _⟩
  · have h1 : 0 < n := by omega
    have h2 : decide ((0 : Int) < (n : Int)) = true := decide_eq_true (by omega)
    have h3 : decide ((n : Int) < 0) = false := decide_eq_false (by omega)
    have hw0 : IntKind.i64.wrap ((n : Int) - 0) = (n : Int) := by rw [IntKind.wrap_i64]; omega
    go_enter Tryd.func83, Tryd.ntmps83
    go_wp2_with (at_builtin; refine wpList_append_zeros rfl _ _ 24 3 rfl 30 i0 _ .i64 .i64 4 24 Tryd.underlying24 Tryd.underlying3 hi0 hz0 hz1 hz2 rfl (by decide) rfl n rfl h1 (by unfold maxLen; omega) (by omega) ?_; intro g cap w' hg hcap ho hb; subst hg; have hcap2 : (n : Int) ≤ (cap : Int) := (by omega); have hc0 : (0 : Int) ≤ (cap : Int) := (by omega))
    go_ret
    exact ⟨_, rfl, ho, hb⟩
section
variable {P : Program}
theorem run_append_any (w : World) (base : Nat) (t ty e : TypeId) (i : TypeInfo) (z : Value) (size bytes : Nat) (ht : P.underlying t = some (.slice e)) (hi : P.info? e = some i) (hz : i.zero = some z)
    (hsize : i.size = size) (hby : i.bytes = bytes) (hzs : z.cells.size = size) (hsz : 0 < size) (v : Value) (n : Nat) (xs : List Value) (hown : w.ownsRow base e size v n xs)
    (A : Option Addr) (m c : Nat) (news : List Value) (hl : news.length = m * size) (hn : A = none → m = 0) (hnews : ∀ ad, A = some ad → ∀ j u, news[j]? = some u → w.cell? (ad.add j) = some u) (h1 : ∀ u ∈ news, u.oneCell' = true)
    (h63 : n + m ≤ maxLen) (hbytes : (n + m) * bytes ≤ 140737488355328) (hbase : base ≤ w.heap.size) :
    ∃ v' w', (Builtin.append_ #[t, t] ty #[v, .slice A m c]).run P w = .ok v' w' ∧ w'.ownsRow base e size v' (n + m) (xs ++ news) ∧ w.grownBy w' v.ownBlock := by
  rcases A with _ | ad
  · have hm := hn rfl
    subst hm
    have h0 : news = [] := List.eq_nil_of_length_eq_zero (by rw [hl]; omega)
    subst h0
    refine ⟨v, w, ?_, by simpa using hown, World.grownBy.refl w _⟩
    rcases hown.2 with ⟨rfl, rfl⟩ | ⟨g, cap, cur, rfl, _, _, hc, _⟩
    · simp [Builtin.append_, run_underlying ht, sizeOf, typeInfo, hi, Builtin.lenOf, Builtin.firstCells]
    · simp [Builtin.append_, run_underlying ht, sizeOf, typeInfo, hi, Builtin.lenOf, Builtin.firstCells, hc, storeCells]
  · obtain ⟨v', w', hr, h2, h3, _⟩ := run_append_own (P := P) w base t ty e i z size bytes ht hi hz hsize hby hzs hsz v n xs hown ad m c news hl (hnews ad rfl) h1 h63 hbytes hbase
    exact ⟨v', w', hr, h2, h3⟩
theorem wpList_append_any {w : World} {ops : Array Oper} {rest : List Oper} {o : Oper} {a : Act} {Q : Exit → Act → World → Prop} (hgd : o.guard = none) (s x : Operand) (t : TypeId)
    (ho : o.op = .call { callee := .builtin .append, args := #[s, x], argTypes := #[t, t] }) (base : Nat)
    (e : TypeId) (i : TypeInfo) (z : Value) (size bytes : Nat) (ht : P.underlying t = some (.slice e)) (hi : P.info? e = some i) (hz : i.zero = some z)
    (hsize : i.size = size) (hby : i.bytes = bytes) (hzs : z.cells.size = size) (hsz : 0 < size) (v : Value) (n : Nat) (xs : List Value) (hs : a.eval s = v) (hown : w.ownsRow base e size v n xs)
    (A : Option Addr) (m c : Nat) (news : List Value) (hx : a.eval x = .slice A m c) (hl : news.length = m * size) (hn : A = none → m = 0) (hnews : ∀ ad, A = some ad → ∀ j u, news[j]? = some u → w.cell? (ad.add j) = some u) (h1 : ∀ u ∈ news, u.oneCell' = true)
    (h63 : n + m ≤ maxLen) (hbytes : (n + m) * bytes ≤ 140737488355328) (hbase : base ≤ w.heap.size)
    (h : ∀ v' w', w'.ownsRow base e size v' (n + m) (xs ++ news) → Below base w w' → wpList P ops Q rest (a.put o.dst v') w') : wpList P ops Q (o :: rest) a w := by
  refine wpList_plain hgd fun K hK => ?_
  obtain ⟨v', w', hr, h2, h3⟩ := run_append_any (P := P) w base t o.type e i z size bytes ht hi hz hsize hby hzs hsz v n xs hown A m c news hl hn hnews h1 h63 hbytes hbase
  unfold Oper.wp execOp
  simp only [ho, resolve, invoke, builtin, Sem.run_bind, Sem.run_pure, Result.andThen_ok, List.map_toArray, List.map_cons, List.map_nil, hs, hx, hr]
  exact hK _ _ (h v' w' h2 ((Below.refl _ _).grown h3 hbase (fun q hq => (hown.lt q hq).1)))
end
/-- The cells of a list, and that a list at no address is empty. -/
theorem ints_src {w : World} {A : Option Addr} {l : List Int} (hx : Ints w A l) : (A = none → l.length = 0) ∧ (∀ ad, A = some ad → ∀ j u, (zvs l)[j]? = some u → w.cell? (ad.add j) = some u) := by
  refine ⟨fun h => ?_, fun ad h => ?_⟩
  · subst h
    cases l with
    | nil => rfl
    | cons x r => obtain ⟨ad, e, _⟩ := hx 0 (by simp); cases e
  · subst h
    exact ints_cells hx
theorem eds_src {w : World} {A : Option Addr} {l : List Ed} (hx : EdsAt w A l) : (A = none → l.length = 0) ∧ (∀ ad, A = some ad → ∀ j u, (evs l)[j]? = some u → w.cell? (ad.add j) = some u) := by
  refine ⟨fun h => ?_, fun ad h => ?_⟩
  · subst h
    cases l with
    | nil => rfl
    | cons x r => obtain ⟨_, ad, e, _⟩ := hx 0 (by simp); cases e
  · subst h
    exact eds_cells hx
set_option maxHeartbeats 4000000 in
theorem ConcatInts_any (A B : Option Addr) (l m : List Int) (a b g : Nat) (w : World) (hx : Ints w A l) (hy : Ints w B m) (hl : l.length ≤ 1000) (hm : m.length ≤ 1000) (hg : g < w.heap.size)
    (h0 : w.cell? ⟨g, 0, none⟩ = some (.slice A l.length a)) (h1 : w.cell? ⟨g, 1, none⟩ = some (.slice B m.length b)) :
    Calls Tryd.prog 44 #[.slice (some ⟨g, 0, none⟩) 2 2] w fun e w' => ∃ A' c', e = .returned (.slice A' (l.length + m.length) c') ∧ w'.ownsRow w.heap.size 3 1 (.slice A' (l.length + m.length) c') (l.length + m.length) (zvs (l ++ m)) ∧ Below w.heap.size w w' := by
  obtain ⟨i0, hi0, hz0, hz1, hz2⟩ := info_parts info_int6
  have HG := Lib.hid fun X => GrowInts_any (l.length + m.length) (by omega) X
  have HX := Lib.hid fun X (hX : Below w.heap.size w X) => ints_src (hx.below hX)
  have HY := Lib.hid fun X (hX : Below w.heap.size w X) => ints_src (hy.below hX)
  have HC0 := Lib.hid fun X (hX : Below w.heap.size w X) => (hX.cell (p := ⟨g, 0, none⟩) hg).trans h0
  have HC1 := Lib.hid fun X (hX : Below w.heap.size w X) => (hX.cell (p := ⟨g, 1, none⟩) hg).trans h1
  have HL : Hid ((zvs l).length = l.length) := List.length_map _
  have HM : Hid ((zvs m).length = m.length) := List.length_map _
  have HLo := Lib.hid (zvs_one (l := l))
  have HMo := Lib.hid (zvs_one (l := m))
  have HZ : Hid (zvs (l ++ m) = zvs l ++ zvs m) := zvs_app l m
  clear hx hy hg
  rw [HZ.out]
  clear HZ
  generalize zvs l = FL at *
  generalize zvs m = FM at *
  generalize l.length = nl at *
  generalize m.length = nm at *
  have HG : Hid (∀ X, Calls Tryd.prog 82 #[.slice none 0 0, .int .i64 ((nl : Int) + (nm : Int))] X fun e w' => ∃ v, e = .returned v ∧ w'.ownsRow X.heap.size 3 1 v 0 [] ∧ Below X.heap.size X w') := fun X => by
    have := HG.out X
    rwa [Int.natCast_add] at this
  have hp0 : decide ((nl : Int) < 0) = false := decide_eq_false (by omega)
  have hp1 : decide ((nl : Int) + (nm : Int) < 0) = false := decide_eq_false (by omega)
  go_enter Tryd.func44, Tryd.ntmps44
  go_wp2
  go_loopw [3, 11] (fun zv iv wr => Hid (wr = w) ∧ ((zv = .int .i64 0 ∧ iv = .int .i64 0) ∨ (zv = .int .i64 nl ∧ iv = .int .i64 1) ∨ (zv = .int .i64 ((nl : Int) + nm) ∧ iv = .int .i64 2))) (fun _ i _ => 2 - (intOf i).toNat)
  case atStart => exact ⟨rfl, .inl ⟨rfl, rfl⟩⟩
  case round =>
    obtain ⟨hwr, hrel⟩ := hrel
    have h0' : wr.cell? ⟨g, 0, none⟩ = some (.slice A nl a) := by rw [hwr.out]; exact h0
    have h1' : wr.cell? ⟨g, 1, none⟩ = some (.slice B nm b) := by rw [hwr.out]; exact h1
    clear h0 h1
    rcases hrel with ⟨rfl, rfl⟩ | ⟨rfl, rfl⟩ | ⟨rfl, rfl⟩
    · go_wp2
      go_roundw
      case rel => exact ⟨hwr, .inr (.inl ⟨by go_num, rfl⟩)⟩
      case measure => simp [intOf]
    · go_wp2
      go_roundw
      case rel => exact ⟨hwr, .inr (.inr ⟨by go_num, rfl⟩)⟩
      case measure => simp [intOf]
    · have hwr2 := hwr.out
      subst hwr2
      clear h0' h1' hwr
      go_wp2_with (go_at_call 82; ((with_reducible refine (HG.out _).mono ?_); rintro e w2 ⟨v2, rfl, ho2, hb2⟩); have HO2 := Lib.hid ho2; have HB2 := Lib.hid hb2; clear ho2 hb2)
      obtain ⟨wq2, rfl⟩ : ∃ wq : World, wq = wr := ⟨_, rfl⟩
      go_loopw [6, 27] (fun zv iv wx => ∃ v : Value, v = zv ∧ Hid (Below wq2.heap.size wq2 wx) ∧ ((Hid (wx.ownsRow wq2.heap.size 3 1 v 0 []) ∧ iv = .int .i64 0) ∨ (Hid (wx.ownsRow wq2.heap.size 3 1 v nl FL) ∧ iv = .int .i64 1) ∨ (Hid (wx.ownsRow wq2.heap.size 3 1 v (nl + nm) (FL ++ FM)) ∧ iv = .int .i64 2))) (fun _ i _ => 2 - (intOf i).toNat)
      case atStart => exact ⟨_, rfl, HB2, .inl ⟨HO2, rfl⟩⟩
      case round =>
        clear HO2 HB2
        obtain ⟨v, rfl, hb, hrel⟩ := hrel
        have g0 := HC0.out _ hb.out
        have g1 := HC1.out _ hb.out
        have hbb := hb.out
        rcases hrel with ⟨hO, rfl⟩ | ⟨hO, rfl⟩ | ⟨hO, rfl⟩
        · have ho := hO.out
          have hsr := HX.out _ hb.out
          go_wp2_with (at_builtin; refine wpList_append_any rfl _ _ 23 rfl wq2.heap.size 3 i0 (.int .i64 0) 1 8 Tryd.underlying23 hi0 hz0 hz1 hz2 rfl (by decide) _ 0 [] rfl ho A nl a FL rfl (by have := HL.out; omega) hsr.1 hsr.2 HLo.out (by unfold maxLen; omega) (by omega) hbb.size ?_; intro v' w6 ho6 hb6; rw [Nat.zero_add, List.nil_append] at ho6; have HO6 := Lib.hid ho6; have HB6 := Lib.hid (hbb.trans hb6); clear ho6 hb6)
          go_roundw
          case rel => exact ⟨_, rfl, HB6, .inr (.inl ⟨HO6, rfl⟩)⟩
          case measure => simp [intOf]
        · have ho := hO.out
          have hsr := HY.out _ hb.out
          go_wp2_with (at_builtin; refine wpList_append_any rfl _ _ 23 rfl wq2.heap.size 3 i0 (.int .i64 0) 1 8 Tryd.underlying23 hi0 hz0 hz1 hz2 rfl (by decide) _ nl FL rfl ho B nm b FM rfl (by have := HM.out; omega) hsr.1 hsr.2 HMo.out (by unfold maxLen; omega) (by omega) hbb.size ?_; intro v' w6 ho6 hb6; have HO6 := Lib.hid ho6; have HB6 := Lib.hid (hbb.trans hb6); clear ho6 hb6)
          go_roundw
          case rel => exact ⟨_, rfl, HB6, .inr (.inr ⟨HO6, rfl⟩)⟩
          case measure => simp [intOf]
        · obtain ⟨A', c', rfl, _⟩ := Ap.own_form hO.out
          go_wp2
          go_ret
          exact ⟨A', c', rfl, hO.out, hb.out⟩
set_option maxHeartbeats 4000000 in
theorem ConcatEdges_any (A B : Option Addr) (l m : List Ed) (a b g : Nat) (w : World) (hx : EdsAt w A l) (hy : EdsAt w B m) (hl : l.length ≤ 1000) (hm : m.length ≤ 1000) (hg : g < w.heap.size)
    (h0 : w.cell? ⟨g, 0, none⟩ = some (.slice A l.length a)) (h1 : w.cell? ⟨g, 1, none⟩ = some (.slice B m.length b)) :
    Calls Tryd.prog 45 #[.slice (some ⟨g, 0, none⟩) 2 2] w fun e w' => ∃ A' c', e = .returned (.slice A' (l.length + m.length) c') ∧ w'.ownsRow w.heap.size 30 4 (.slice A' (l.length + m.length) c') (l.length + m.length) (evs (l ++ m)) ∧ Below w.heap.size w w' := by
  obtain ⟨i0, hi0, hz0, hz1, hz2⟩ := info_parts info_edge
  have HG := Lib.hid fun X => GrowEdges_any (l.length + m.length) (by omega) X
  have HX := Lib.hid fun X (hX : Below w.heap.size w X) => eds_src (hx.below hX)
  have HY := Lib.hid fun X (hX : Below w.heap.size w X) => eds_src (hy.below hX)
  have HC0 := Lib.hid fun X (hX : Below w.heap.size w X) => (hX.cell (p := ⟨g, 0, none⟩) hg).trans h0
  have HC1 := Lib.hid fun X (hX : Below w.heap.size w X) => (hX.cell (p := ⟨g, 1, none⟩) hg).trans h1
  have HL : Hid ((evs l).length = l.length * 4) := evs_len l
  have HM : Hid ((evs m).length = m.length * 4) := evs_len m
  have HLo := Lib.hid (evs_one (l := l))
  have HMo := Lib.hid (evs_one (l := m))
  have HZ : Hid (evs (l ++ m) = evs l ++ evs m) := evs_app l m
  clear hx hy hg
  rw [HZ.out]
  clear HZ
  generalize evs l = FL at *
  generalize evs m = FM at *
  generalize l.length = nl at *
  generalize m.length = nm at *
  have HG : Hid (∀ X, Calls Tryd.prog 83 #[.slice none 0 0, .int .i64 ((nl : Int) + (nm : Int))] X fun e w' => ∃ v, e = .returned v ∧ w'.ownsRow X.heap.size 30 4 v 0 [] ∧ Below X.heap.size X w') := fun X => by
    have := HG.out X
    rwa [Int.natCast_add] at this
  have hp0 : decide ((nl : Int) < 0) = false := decide_eq_false (by omega)
  have hp1 : decide ((nl : Int) + (nm : Int) < 0) = false := decide_eq_false (by omega)
  go_enter Tryd.func45, Tryd.ntmps45
  go_wp2
  go_loopw [3, 11] (fun zv iv wr => Hid (wr = w) ∧ ((zv = .int .i64 0 ∧ iv = .int .i64 0) ∨ (zv = .int .i64 nl ∧ iv = .int .i64 1) ∨ (zv = .int .i64 ((nl : Int) + nm) ∧ iv = .int .i64 2))) (fun _ i _ => 2 - (intOf i).toNat)
  case atStart => exact ⟨rfl, .inl ⟨rfl, rfl⟩⟩
  case round =>
    obtain ⟨hwr, hrel⟩ := hrel
    have h0' : wr.cell? ⟨g, 0, none⟩ = some (.slice A nl a) := by rw [hwr.out]; exact h0
    have h1' : wr.cell? ⟨g, 1, none⟩ = some (.slice B nm b) := by rw [hwr.out]; exact h1
    clear h0 h1
    rcases hrel with ⟨rfl, rfl⟩ | ⟨rfl, rfl⟩ | ⟨rfl, rfl⟩
    · go_wp2
      go_roundw
      case rel => exact ⟨hwr, .inr (.inl ⟨by go_num, rfl⟩)⟩
      case measure => simp [intOf]
    · go_wp2
      go_roundw
      case rel => exact ⟨hwr, .inr (.inr ⟨by go_num, rfl⟩)⟩
      case measure => simp [intOf]
    · have hwr2 := hwr.out
      subst hwr2
      clear h0' h1' hwr
      go_wp2_with (go_at_call 83; ((with_reducible refine (HG.out _).mono ?_); rintro e w2 ⟨v2, rfl, ho2, hb2⟩); have HO2 := Lib.hid ho2; have HB2 := Lib.hid hb2; clear ho2 hb2)
      obtain ⟨wq2, rfl⟩ : ∃ wq : World, wq = wr := ⟨_, rfl⟩
      go_loopw [6, 27] (fun zv iv wx => ∃ v : Value, v = zv ∧ Hid (Below wq2.heap.size wq2 wx) ∧ ((Hid (wx.ownsRow wq2.heap.size 30 4 v 0 []) ∧ iv = .int .i64 0) ∨ (Hid (wx.ownsRow wq2.heap.size 30 4 v nl FL) ∧ iv = .int .i64 1) ∨ (Hid (wx.ownsRow wq2.heap.size 30 4 v (nl + nm) (FL ++ FM)) ∧ iv = .int .i64 2))) (fun _ i _ => 2 - (intOf i).toNat)
      case atStart => exact ⟨_, rfl, HB2, .inl ⟨HO2, rfl⟩⟩
      case round =>
        clear HO2 HB2
        obtain ⟨v, rfl, hb, hrel⟩ := hrel
        have g0 := HC0.out _ hb.out
        have g1 := HC1.out _ hb.out
        have hbb := hb.out
        rcases hrel with ⟨hO, rfl⟩ | ⟨hO, rfl⟩ | ⟨hO, rfl⟩
        · have ho := hO.out
          have hsr := HX.out _ hb.out
          go_wp2_with (at_builtin; refine wpList_append_any rfl _ _ 24 rfl wq2.heap.size 30 i0 _ 4 24 Tryd.underlying24 hi0 hz0 hz1 hz2 rfl (by decide) _ 0 [] rfl ho A nl a FL rfl (by have := HL.out; omega) hsr.1 hsr.2 HLo.out (by unfold maxLen; omega) (by omega) hbb.size ?_; intro v' w6 ho6 hb6; rw [Nat.zero_add, List.nil_append] at ho6; have HO6 := Lib.hid ho6; have HB6 := Lib.hid (hbb.trans hb6); clear ho6 hb6)
          go_roundw
          case rel => exact ⟨_, rfl, HB6, .inr (.inl ⟨HO6, rfl⟩)⟩
          case measure => simp [intOf]
        · have ho := hO.out
          have hsr := HY.out _ hb.out
          go_wp2_with (at_builtin; refine wpList_append_any rfl _ _ 24 rfl wq2.heap.size 30 i0 _ 4 24 Tryd.underlying24 hi0 hz0 hz1 hz2 rfl (by decide) _ nl FL rfl ho B nm b FM rfl (by have := HM.out; omega) hsr.1 hsr.2 HMo.out (by unfold maxLen; omega) (by omega) hbb.size ?_; intro v' w6 ho6 hb6; have HO6 := Lib.hid ho6; have HB6 := Lib.hid (hbb.trans hb6); clear ho6 hb6)
          go_roundw
          case rel => exact ⟨_, rfl, HB6, .inr (.inr ⟨HO6, rfl⟩)⟩
          case measure => simp [intOf]
        · obtain ⟨A', c', rfl, _⟩ := Ap.own_form hO.out
          go_wp2
          go_ret
          exact ⟨A', c', rfl, hO.out, hb.out⟩
end Go.Proofs.YteckkbjpeckjmaaDoor.Nf
