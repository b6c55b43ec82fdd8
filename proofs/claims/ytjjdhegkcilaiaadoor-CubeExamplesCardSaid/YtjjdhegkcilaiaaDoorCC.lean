/- The iterator over the valid cubes. -/
import Derived.Test.YtjjdhegkcilaiaaDoorCL
import Derived.Test.YtjjdhegkcilaiaaDoorCV
namespace Go.Proofs.YtjjdhegkcilaiaaDoor
open Go Go.RowKit Go.Shelf
set_option maxRecDepth 100000
attribute [local go_sem] Oper.semAt_some
theorem room_wide (k : Nat) : Fence.wide.room k := fun d h => by cases h
/-- Where no depth is asked a round is a round at every depth, and in a round of other loops. -/
theorem yield_deep {m m' : Nat} {P : Program} {l l1 l2 : Nat} {args : Array Value} {W : World} {R : Ending → World → Prop} (h : YieldAt Fence.wide m P l args W R) : YieldAt ((Fence.wide.inRound l1).inRound l2) m' P l args W R := by
  obtain ⟨fn, tmps, assign, body, hy, hR⟩ := h
  exact ⟨fn, tmps, assign, body, hy, ⟨hR.1, fun c cs _ => hR.2 c cs (room_wide _)⟩⟩
theorem ownFrom_mono {β : Type} {B B' : Nat} {J : β → World → Prop} (h : OwnFrom B J) (hB : B ≤ B') : OwnFrom B' J :=
  fun s W W' row hs hg hr => h s W W' row hs hg fun r e => ⟨Nat.le_trans hB (hr r e).1, (hr r e).2⟩
/-- The cubes with the bits p. -/
def rowOf (v p : Nat) : List (Nat × Nat) := ((List.range (2 ^ v)).filter fun q => p &&& q == 0).map fun q => (p, q)
theorem rowOf_len (v p : Nat) : (rowOf v p).length ≤ 2 ^ v := by
  unfold rowOf
  rw [List.length_map]
  have := List.length_filter_le (fun q => p &&& q == 0) (List.range (2 ^ v))
  rwa [List.length_range] at this
theorem rows_len (v : Nat) (l : List Nat) : (l.flatMap (rowOf v)).length ≤ l.length * 2 ^ v := by
  induction l with
  | nil => simp
  | cons p l ih =>
    rw [List.flatMap_cons, List.length_append, List.length_cons, Nat.add_mul, Nat.one_mul]
    have := rowOf_len v p
    omega
/-- What the iterator asks of a round: whatever lies beyond n₁, and block Bn, stays, but rows of cubes. -/
def CubeKp (n₁ Bn : Nat) (A B : World) : Prop := A.heap.size ≤ B.heap.size ∧ ∀ k o, (n₁ ≤ k ∨ k = Bn) → A.heap[k]? = some o → (∀ c fz, o ≠ .cells c 42 fz) → B.heap[k]? = some o
theorem CubeKp.keeps {n₁ Bn B : Nat} {X Y : World} (h : CubeKp n₁ Bn X Y) (hB : n₁ ≤ B) : KeepsFrom B X Y :=
  ⟨h.1, fun k o hk ho hc => h.2 k o (.inl (by omega)) ho (by rintro c fz rfl; cases hc)⟩
theorem CubeKp.boxed {n₁ Bn b : Nat} {X Y : World} {t : TypeId} {u : Value} (h : CubeKp n₁ Bn X Y) (hb : n₁ ≤ b ∨ b = Bn) (hx : Boxed X b t u) (ht : t ≠ 42) : Boxed Y b t u :=
  h.2 b _ hb hx (by rintro c fz e; cases e; exact ht rfl)
theorem boxed_from {X Y : World} {b B : Nat} {t : TypeId} {u : Value} {row : Option Nat} (h : Boxed X b t u) (hg : X.grownBy Y row) (hr : ∀ r, row = some r → B ≤ r ∧ ∃ o : Obj, X.heap[r]? = some o ∧ o.isCells = false) : Boxed Y b t u :=
  h.kept hg fun e' => by
    obtain ⟨_, o, ho, hc⟩ := hr b e'.symm
    rw [show X.heap[b]? = _ from h] at ho; cases ho; cases hc
theorem cubes_any (v : Int) (w : World) :
    Calls Tryd.prog 86 #[.int .i64 v] w fun e w' => e = .returned (.func (.func 92) #[] #[.pointer (some ⟨w.heap.size, 0, none⟩)]) ∧ w' = w.alloc (.cells #[.int .i64 v] 3) := by
  go_enter Tryd.func86, Tryd.ntmps86
  go_wp2
  go_ret
  exact ⟨rfl, rfl⟩
set_option maxHeartbeats 4000000 in
theorem cubes_in (n : Nat) (hn : 7 ≤ n) (l Bn n₁ v : Nat) (Kp : World → World → Prop) (hv : v ≤ 6) (hKp : ∀ {A B : World}, Kp A B → CubeKp n₁ Bn A B)
    (J Jx : List (In (cubes v)) → World → Prop) (W : World) (hn₁ : n₁ ≤ W.heap.size) (hJo : OwnFrom W.heap.size J) (hJxo : OwnFrom W.heap.size Jx)
    (hY : ∀ pre x W1, J pre W1 → pre.length < 2 ^ v * 2 ^ v → YieldAt Fence.wide (n - 1) Tryd.prog l #[.agg #[.int .u8 ((x.1.1 : Nat) : Int), .int .u8 ((x.1.2 : Nat) : Int)]] W1 fun e W' =>
      (e = .returned (.bool true) ∧ J (pre ++ [x]) W' ∧ Kp W1 W') ∨ (e = .returned (.bool false) ∧ Jx (pre ++ [x]) W' ∧ Kp W1 W'))
    (hBn : Boxed W Bn 3 (.int .i64 v)) (h0 : J [] W) :
    CallsIn Fence.wide n Tryd.prog 92 #[.func (.yield l) #[] #[], .pointer (some ⟨Bn, 0, none⟩)] W fun e W' => (∃ u, e = .returned u) ∧
      ((∃ ys, vals ys = cubes v ∧ J ys W') ∨ (∃ pre, True ∧ Jx pre W')) := by
  have HY := Lib.hid hY
  clear hY
  have h1 : 1 ≤ n := by omega
  have hfn : ∀ f, Fence.wide.fn f := fun _ => trivial
  refine callsIn_of_wp_marks Tryd.func92 rfl trivial ?_ rfl
  simp only [Tryd.ntmps92, List.size_toArray, List.length_cons, List.length_nil, Nat.reduceAdd, Nat.reduceSub, Array.replicate_succ, Array.replicate_zero, List.push_toArray, List.append_toArray, List.nil_append, List.cons_append]
  have bY := Boxed.new W 110 (.func (.yield l) #[] #[])
  have bV := hBn.alloc (.cells #[.func (.yield l) #[] #[]] 110)
  have cV := bV.cell
  gi_wp2_with (gi_at_call 61; refine (callsIn_wide.2 (letters_any _ _)).mono ?_; rintro e w' ⟨rfl, rfl⟩)
  have bY0 := bY.alloc (.cells #[.int .i64 v] 3)
  have bV0 := bV.alloc (.cells #[.int .i64 v] 3)
  have bN := Boxed.new (W.alloc (.cells #[.func (.yield l) #[] #[]] 110)) 3 (.int .i64 v)
  have hJ0 : J [] ((W.alloc (.cells #[.func (.yield l) #[] #[]] 110)).alloc (.cells #[.int .i64 v] 3)) := hJo.alloc _ (hJo.alloc _ h0)
  have hsz : ((W.alloc (.cells #[.func (.yield l) #[] #[]] 110)).alloc (.cells #[.int .i64 v] 3)).heap.size = W.heap.size + 2 := by simp
  rw [World.size_alloc] at bN
  obtain ⟨W0, hW0⟩ : ∃ W0, (W.alloc (.cells #[.func (.yield l) #[] #[]] 110)).alloc (.cells #[.int .i64 v] 3) = W0 := ⟨_, rfl⟩
  rw [hW0] at bY0 bV0 bN hJ0 hsz ⊢
  clear hW0 bY bV cV hBn h0
  have hJo' := ownFrom_mono hJo (show W.heap.size ≤ W0.heap.size by omega)
  have hJxo' := ownFrom_mono hJxo (show W.heap.size ≤ W0.heap.size by omega)
  generalize hBy : W.heap.size = By at *
  have h64 := pow6 hv
  refine wpIn_rangeFunc_ownH rfl h1 (gf := 83) (lb := #[.pointer (some ⟨By + 1, 0, none⟩)]) rfl trivial (enters_of Tryd.func83 (by kernel_rfl) rfl)
    (letters_stops (n - 1) (by omega) (By + 1) v (fun _ _ => True) hv W0 bN) (fun _ _ => trivial) (fun _ _ _ _ _ _ _ _ => trivial) (Below.refl _ _) (fun _ => rfl)
    (fun pre Wr => (∃ cs, Hid (vals cs = (vals pre).flatMap (rowOf v)) ∧ J cs Wr) ∧ Boxed Wr By 110 (.func (.yield l) #[] #[]) ∧ Boxed Wr Bn 3 (.int .i64 v))
    (fun c _ Wr => c = .ret ∧ ∃ cs, Jx cs Wr)
    (fun pre X Y row hs hg hr => by
      obtain ⟨⟨cs, e1, e2⟩, e3, e4⟩ := hs
      exact ⟨⟨cs, e1, hJo' cs X Y row e2 hg hr⟩, boxed_from e3 hg hr, boxed_from e4 hg hr⟩)
    (fun c pre X Y row hs hg hr => by
      obtain ⟨e0, cs, e1⟩ := hs
      exact ⟨e0, cs, hJxo' cs X Y row e1 hg hr⟩)
    ⟨⟨[], rfl, hJ0⟩, bY0, bV0⟩
    (fun x a' Wr => ∃ Bx, By < Bx ∧ Boxed Wr Bx 5 (.int .u8 ((x.1 : Nat) : Int)) ∧ a' = { tmps := #[.func (.yield l) #[] #[], .pointer (some ⟨Bn, 0, none⟩), .pointer (some ⟨By, 0, none⟩), .pointer (some ⟨Bx, 0, none⟩), undef, .int .i64 v, .func (.func 83) #[] #[.pointer (some ⟨By + 1, 0, none⟩)], .int .u8 ((x.1 : Nat) : Int), undef, undef, undef, undef, undef, undef, undef, undef, undef, undef, undef, undef, undef, undef, undef], defers := [] })
    (fun x a' _ X Y row hs hg hr => by obtain ⟨Bx, e1, e2, e3⟩ := hs; exact ⟨Bx, e1, boxed_from e2 hg hr, e3⟩)
    ?assign ?body ?done ?stop
  case assign =>
    rintro l1 pre x Wr K ⟨⟨cs, e1, e2⟩, e3, e4⟩ hK
    gi_wp2
    exact hK _ _ ((KeepsOthers.alloc _ _).from _) trivial ⟨⟨cs, e1, hJo.alloc _ e2⟩, e3.alloc _, e4.alloc _⟩ ⟨Wr.heap.size, e3.lt, Boxed.new Wr 5 _, rfl⟩
  case body =>
    rintro l1 pre ⟨x, hx⟩ a' Wb hl1 ⟨r, hr⟩ ⟨⟨cs, hcs, hJ⟩, bY, bV⟩ ⟨Bx, hBx, bX, rfl⟩ hlen
    have hx' : x < 2 ^ v := List.mem_range.1 hx
    have cV := bV.cell
    have h1' : 1 ≤ n - 1 - 1 := by omega
    gi_wp2_with (gi_at_call 61; refine (CallsIn.inRound l1 (callsIn_wide.2 (letters_any _ _))).mono ?_; rintro e w' ⟨rfl, rfl⟩)
    have hr' : (Wb.alloc (.cells #[.int .i64 v] 3)).heap[l1]? = some (.loop r) := (Below.heap_alloc Wb _ l1 (Array.getElem?_eq_some_iff.1 hr).1).trans hr
    have hsW : By < Wb.heap.size := bY.lt
    refine wpIn_rangeFunc_ownN (l₀ := l1) (r₀ := r) rfl hr' h1' (gf := 83) (lb := #[.pointer (some ⟨Wb.heap.size, 0, none⟩)]) rfl trivial (enters_of Tryd.func83 (by kernel_rfl) rfl)
      ((letters_stops (n - 1 - 1 - 1) (by omega) Wb.heap.size v (fun _ _ => True) hv _ (Boxed.new Wb 3 (.int .i64 v))).inRound l1) (fun _ _ => trivial) (fun _ _ _ _ _ _ _ _ => trivial) (Below.refl _ _) (fun _ => rfl)
      (fun pre' Wr => (∃ cs, Hid (vals cs = (vals pre).flatMap (rowOf v) ++ ((vals pre').filter fun q => x &&& q == 0).map fun q => (x, q)) ∧ J cs Wr) ∧ (Boxed Wr By 110 (.func (.yield l) #[] #[]) ∧ Boxed Wr Bn 3 (.int .i64 v) ∧ Boxed Wr Bx 5 (.int .u8 (x : Nat))) ∧ KeepsFrom W0.heap.size Wb Wr)
      (fun c _ Wr => c = .ret ∧ (∃ cs, Jx cs Wr) ∧ KeepsFrom W0.heap.size Wb Wr)
      (fun pre X Y row hs hg hr => by
        obtain ⟨⟨cs, e1, e2⟩, ⟨e3, e4, e5⟩, e6⟩ := hs
        exact ⟨⟨cs, e1, ownFrom_mono hJo (by simp; omega) cs X Y row e2 hg hr⟩, ⟨boxed_from e3 hg hr, boxed_from e4 hg hr, boxed_from e5 hg hr⟩, ownFrom_keepsFrom (β := Unit) (by simp) () X Y row e6 hg hr⟩)
      (fun c pre X Y row hs hg hr => by
        obtain ⟨e0, ⟨cs, e1⟩, e6⟩ := hs
        exact ⟨e0, ⟨cs, ownFrom_mono hJxo (by simp; omega) cs X Y row e1 hg hr⟩, ownFrom_keepsFrom (β := Unit) (by simp) () X Y row e6 hg hr⟩)
      ⟨⟨cs, by show _ = _; rw [hcs.out]; simp [vals], hJo.alloc _ hJ⟩, ⟨bY.alloc _, bV.alloc _, bX.alloc _⟩, (KeepsOthers.alloc _ _).from _⟩
      (fun y a'' _ => a'' = { tmps := #[.func (.yield l) #[] #[], .pointer (some ⟨Bn, 0, none⟩), .pointer (some ⟨By, 0, none⟩), .pointer (some ⟨Bx, 0, none⟩), .int .u8 ((y.1 : Nat) : Int), .int .i64 v, .func (.func 83) #[] #[.pointer (some ⟨By + 1, 0, none⟩)], .int .u8 ((x : Nat) : Int), .int .i64 v, .func (.func 83) #[] #[.pointer (some ⟨Wb.heap.size, 0, none⟩)], .int .u8 ((y.1 : Nat) : Int), undef, undef, undef, undef, undef, undef, undef, undef, undef, undef, undef, undef], defers := [] })
      (fun _ _ _ _ _ _ hs _ _ => hs)
      ?assign2 ?body2 ?done2 ?stop2
    case assign2 =>
      rintro l2 pre' y Wr K hi hK
      gi_wp2
      exact hK _ _ (KeepsFrom.refl _ _) trivial hi rfl
    case body2 =>
      rintro l2 pre' ⟨y, hy⟩ a'' Wr hl2 ⟨r2, hr2⟩ ⟨⟨cs', hcs', hJ'⟩, ⟨bY', bV', bX'⟩, hKF⟩ rfl hlen'
      have hy' : y < 2 ^ v := List.mem_range.1 hy
      have cY := bY'.cell
      have cX := bX'.cell
      have eA := u8_and_nat x y (by omega) (by omega)
      by_cases hz : x &&& y = 0
      · have hb : (bits .and .u8 (x : Int) (y : Int) == 0) = true := by rw [eA, hz]; rfl
        have hmem : (x, y) ∈ cubes v := (mem_cubes hv).2 ⟨hv, hx', hy', hz⟩
        have hcl : cs'.length < 2 ^ v * 2 ^ v := by
          have h2 := rows_len v (vals pre)
          have h3 := congrArg List.length hcs'.out
          rw [vals_len, List.length_append, List.length_map] at h3
          have h4 := List.length_filter_le (fun q => x &&& q == 0) (vals pre')
          rw [vals_len] at h2 h4
          generalize 2 ^ v = m at *
          have h5 : (pre.length + 1) * m ≤ m * m := Nat.mul_le_mul_right _ hlen
          rw [Nat.add_mul, Nat.one_mul] at h5
          omega
        have hYt := yield_deep (m' := n - 1 - 1 - 1 - 1 - 1) (l1 := l1) (l2 := l2) (HY.out cs' ⟨(x, y), hmem⟩ Wr hJ' hcl)
        obtain ⟨fn, tmps, assign, body, hyy, hR⟩ := hYt
        dsimp only at hyy
        have hcs2 : Hid (vals (cs' ++ [⟨(x, y), hmem⟩]) = (vals pre).flatMap (rowOf v) ++ ((vals (pre' ++ [⟨y, hy⟩])).filter fun q => x &&& q == 0).map fun q => (x, q)) := by
          show _ = _
          rw [vals_snoc, vals_snoc, hcs'.out, List.filter_append, List.map_append, List.append_assoc]
          simp [hz]
        have h1'' : 1 ≤ n - 1 - 1 - 1 - 1 := by omega
        clear hcl hz eA hlen' hcs'
        have hsz2 : n₁ ≤ (Wb.alloc (.cells #[.int .i64 v] 3)).heap.size := by simp; omega
        gi_wp2
        refine hR.mono ?_
        rintro e W3 (⟨rfl, hJ3, hK3⟩ | ⟨rfl, hJx3, hK3⟩)
        · have hk := hKp hK3
          have bY3 := hk.boxed (.inl hn₁) bY' (by decide)
          have bV3 := hk.boxed (.inr rfl) bV' (by decide)
          have bX3 := hk.boxed (.inl (by omega)) bX' (by decide)
          gi_wp2
          exact ⟨hk.keeps hsz2, trivial, ⟨_, hcs2, hJ3⟩, ⟨bY3, bV3, bX3⟩, hKF.trans (hk.keeps (by omega))⟩
        · have hk := hKp hK3
          gi_wp2
          exact ⟨hk.keeps hsz2, rfl, ⟨_, hJx3⟩, hKF.trans (hk.keeps (by omega))⟩
      · have hb : (bits .and .u8 (x : Int) (y : Int) == 0) = false := by
          rw [eA]
          exact (cast_beq _ 0).trans (beq_eq_false_iff_ne.2 hz)
        have hcs2 : Hid (vals cs' = (vals pre).flatMap (rowOf v) ++ ((vals (pre' ++ [⟨y, hy⟩])).filter fun q => x &&& q == 0).map fun q => (x, q)) := by
          show _ = _
          rw [vals_snoc, hcs'.out, List.filter_append, List.map_append]
          simp [hz]
        clear hz eA hlen' hcs'
        gi_wp2
        exact ⟨KeepsFrom.refl _ _, trivial, ⟨_, hcs2, hJ'⟩, ⟨bY', bV', bX'⟩, hKF⟩
    case done2 =>
      rintro ys' Wr hys' ⟨⟨cs', hcs', hJ'⟩, ⟨bY', bV', bX'⟩, hKF⟩
      have hcs2 : Hid (vals cs' = (vals (pre ++ [⟨x, hx⟩])).flatMap (rowOf v)) := by
        show _ = _
        rw [hcs'.out, hys', vals_snoc, List.flatMap_append]
        simp [rowOf]
      gi_wp2
      exact ⟨hKF, trivial, ⟨_, hcs2, hJ'⟩, bY', bV'⟩
    case stop2 =>
      rintro c pre' Wr _ ⟨rfl, hJx', hKF⟩
      gi_wp2
      exact ⟨hKF, rfl, hJx'⟩
  case done =>
    rintro D ys Wr hD hys ⟨⟨cs, hcs, hJ⟩, bY, bV⟩ hK
    have hall : Hid (vals cs = cubes v) := by
      show _ = _
      rw [hcs.out, hys]
      rfl
    gi_wp2
    refine ⟨by simp, .inl ⟨_, _, rfl, run_takeDeferred hK, ?_⟩⟩
    exact ⟨_, results_none rfl _ _ _, ⟨_, rfl⟩, .inl ⟨_, hall.out, hJo'.putObj _ hJ (by omega) hK rfl⟩⟩
  case stop =>
    rintro D c pre Wr hD _ ⟨rfl, cs, hJx'⟩ hK
    gi_wp2
    refine ⟨by simp, .inl ⟨_, _, rfl, run_takeDeferred hK, ?_⟩⟩
    exact ⟨_, results_none rfl _ _ _, ⟨_, rfl⟩, .inr ⟨_, trivial, hJxo'.putObj _ hJx' (by omega) hK rfl⟩⟩
theorem cubes_loops (n : Nat) (hn : 7 ≤ n) (Bn n₁ v : Nat) (Kp : World → World → Prop) (hv : v ≤ 6) (hKp : ∀ {A B : World}, Kp A B → CubeKp n₁ Bn A B) (w : World) (hBn : Boxed w Bn 3 (.int .i64 v)) :
    SeqLoops Fence.wide n Tryd.prog 92 #[.pointer (some ⟨Bn, 0, none⟩)] (fun x : In (cubes v) => #[Value.agg #[.int .u8 ((x.1.1 : Nat) : Int), .int .u8 ((x.1.2 : Nat) : Int)]]) Kp (fun ys => vals ys = cubes v) (fun _ => True) (2 ^ v * 2 ^ v) n₁ w :=
  fun l J Jx W hW hM hJ hJx hY h0 => cubes_in n hn l Bn n₁ v Kp hv hKp J Jx W hM hJ hJx hY (hBn.below hW) h0
end Go.Proofs.YtjjdhegkcilaiaaDoor
