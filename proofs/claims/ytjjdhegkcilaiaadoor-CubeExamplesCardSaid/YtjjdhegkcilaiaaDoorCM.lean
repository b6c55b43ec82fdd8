/- primes: the prime cubes of a set of letters. -/
import Derived.Test.YtjjdhegkcilaiaaDoorCC
import Derived.Test.YtjjdhegkcilaiaaDoorCN
import Derived.Test.YtjjdhegkcilaiaaDoorCW
import Derived.Scope
import Derived.WalkMore
import Derived.WalkSmall
import Derived.Lib.OthersKept
namespace Go.Proofs.YtjjdhegkcilaiaaDoor
open Go Go.RowKit Go.Shelf
set_option maxRecDepth 100000
attribute [local go_sem] Oper.semAt_some
theorem scope_wide {n : Nat} {P : Program} {c : Code} {Q : Exit → Act → World → Prop} {a : Act} {w : World} (h : c.wpIn Fence.wide n P (Exit.noGoto Q) a w) : (Code.scope c).wpIn Fence.wide n P Q a w :=
  wpIn_wide.2 (wp_scope_straight (wpIn_wide.1 h))
/-- No cube without one of these literals is inside. -/
def NoneIn (ins : Nat → Nat → Bool) (x1 x2 : Nat) (ls : List (Nat × Bool)) : Prop := ∀ l ∈ ls, ins (wo x1 l.1) (wo x2 l.1) = false
/-- The cube without some literal is inside. -/
def SomeIn (ins : Nat → Nat → Bool) (x1 x2 : Nat) : Prop := ((lits x1 x2).any fun l => ins (wo x1 l.1) (wo x2 l.1)) = true
theorem appendedO {W w1 : World} {N Bx : Nat} {t e : TypeId} {size : Nat} {v : Value} {k : Nat} {xs : List Value} {tmp : Obj}
    (_ : Boxed W Bx t v) (hrow : W.ownsRow N e size v k xs) (hgrow : (W.alloc tmp).grownBy w1 v.ownBlock) (v' : Value) : Lib.OthersKept e (some Bx) W (w1.setCell ⟨Bx, 0, none⟩ v') := by
  refine (((Lib.OthersKept.refl e (some Bx) W).alloc tmp).grown hgrow fun g hg => ?_).setCell ⟨Bx, 0, none⟩ rfl v'
  rcases hrow.2 with ⟨rfl, _⟩ | ⟨g', cap, cur, rfl, _, hgb, _⟩
  · simp [Value.ownBlock] at hg
  · obtain rfl : g' = g := by simpa [Value.ownBlock] using hg
    exact ⟨cur, _, (Below.heap_alloc W tmp g' (Array.getElem?_eq_some_iff.1 hgb).1).trans hgb⟩
theorem info_cube : (Tryd.prog.info? 42).map (fun i => (i.zero, i.size, i.bytes)) = some (some (.agg #[.int .u8 0, .int .u8 0]), 2, 2) := by kernel_rfl
/-- Cubes as cells. -/
def cvs (l : List (Nat × Nat)) : List Value := l.flatMap fun c => [.int .u8 (c.1 : Nat), .int .u8 (c.2 : Nat)]
theorem cvs_snoc (l : List (Nat × Nat)) (c : Nat × Nat) : cvs (l ++ [c]) = cvs l ++ [.int .u8 (c.1 : Nat), .int .u8 (c.2 : Nat)] := by simp [cvs]
set_option maxHeartbeats 4000000 in
theorem primes_in (n : Nat) (hn : 10 ≤ n) (v G B1 B2 : Nat) (w : World) (hv : v ≤ 6) (hT : HavT w) (hG : G < 18446744073709551616) (b1 : Boxed w B1 3 (.int .i64 v)) (b2 : Boxed w B2 78 (.int .u64 G)) :
    CallsIn Fence.wide n Tryd.prog 73 #[.int .i64 v, .func (.func 74) #[] #[.pointer (some ⟨B1, 0, none⟩), .pointer (some ⟨B2, 0, none⟩)]] w fun e w' =>
      ∃ u, e = .returned u ∧ w'.ownsRow w.heap.size 42 2 u (primesOf (fun x => G.testBit x) v).length (cvs (primesOf (fun x => G.testBit x) v)) ∧ Below w.heap.size w w' := by
  obtain ⟨i0, hi, hz0, hz1, hz2⟩ := info_parts info_cube
  have hfn : ∀ f, Fence.wide.fn f := fun _ => trivial
  have h1 : 1 ≤ n := by omega
  have h64 := pow6 hv
  refine callsIn_of_wp_marks Tryd.func73 rfl trivial ?_ rfl
  simp only [Tryd.ntmps73, List.size_toArray, List.length_cons, List.length_nil, Nat.reduceAdd, Nat.reduceSub, Array.replicate_succ, Array.replicate_zero, List.push_toArray, List.append_toArray, List.nil_append, List.cons_append]
  gi_wp2
  refine scope_wide ?_
  gi_wp2
  refine wpIn_label ?_
  gi_wp2_with (gi_at_call 86; refine (callsIn_wide.2 (cubes_any _ _)).mono ?_; rintro e w' ⟨rfl, rfl⟩)
  have bF := ((Boxed.new w 110 (.func (.func 74) #[] #[.pointer (some ⟨B1, 0, none⟩), .pointer (some ⟨B2, 0, none⟩)])).alloc (.cells #[.slice none 0 0] 59)).alloc (.cells #[.int .i64 v] 3)
  have bO := (Boxed.new (w.alloc (.cells #[.func (.func 74) #[] #[.pointer (some ⟨B1, 0, none⟩), .pointer (some ⟨B2, 0, none⟩)]] 110)) 59 (.slice none 0 0)).alloc (.cells #[.int .i64 v] 3)
  have bN := Boxed.new ((w.alloc (.cells #[.func (.func 74) #[] #[.pointer (some ⟨B1, 0, none⟩), .pointer (some ⟨B2, 0, none⟩)]] 110)).alloc (.cells #[.slice none 0 0] 59)) 3 (.int .i64 v)
  simp only [World.size_alloc] at bO bN
  have hx0 : Below w.heap.size w (((w.alloc (.cells #[.func (.func 74) #[] #[.pointer (some ⟨B1, 0, none⟩), .pointer (some ⟨B2, 0, none⟩)]] 110)).alloc (.cells #[.slice none 0 0] 59)).alloc (.cells #[.int .i64 v] 3)) := bal (bal (bal (Below.refl _ _) _) _) _
  have hsz : (((w.alloc (.cells #[.func (.func 74) #[] #[.pointer (some ⟨B1, 0, none⟩), .pointer (some ⟨B2, 0, none⟩)]] 110)).alloc (.cells #[.slice none 0 0] 59)).alloc (.cells #[.int .i64 v] 3)).heap.size = w.heap.size + 3 := by simp
  obtain ⟨W0, hW0⟩ : ∃ W0, (((w.alloc (.cells #[.func (.func 74) #[] #[.pointer (some ⟨B1, 0, none⟩), .pointer (some ⟨B2, 0, none⟩)]] 110)).alloc (.cells #[.slice none 0 0] 59)).alloc (.cells #[.int .i64 v] 3)) = W0 := ⟨_, rfl⟩
  rw [hW0] at bF bO bN hx0 hsz ⊢
  clear hW0
  have l1 := b1.lt
  have l2 := b2.lt
  obtain ⟨b, hb⟩ : ∃ b, b = w.heap.size := ⟨_, rfl⟩
  rw [← hb] at bF bO bN hx0 hsz l1 l2 ⊢
  have hpl : ∀ c, primeB (fun x => G.testBit x) v c = (insB (fun x => G.testBit x) v c.1 c.2 && !(lits c.1 c.2).any fun l => insB (fun x => G.testBit x) v (wo c.1 l.1) (wo c.2 l.1)) := fun _ => rfl
  have HPL := Lib.hid hpl
  clear hpl
  have HIN := Lib.hid fun p q (hC : Cube p q v) W (hT : HavT W) (b1 : Boxed W B1 3 (.int .i64 v)) (b2 : Boxed W B2 78 (.int .u64 G)) => inside_any p q v G B1 B2 W hC hT hG b1 b2
  have HB := Lib.hid hb
  have hb0 : b ≤ w.heap.size := by omega
  have HPO : Hid (primesOf (fun x => G.testBit x) v = (cubes v).filter (primeB (fun x => G.testBit x) v)) := rfl
  clear hb
  generalize hins : insB (fun x => G.testBit x) v = ins at *
  generalize hpr : primeB (fun x => G.testBit x) v = pr at *
  clear hins hpr
  refine wpIn_rangeFunc_loops rfl h1 (gf := 92) (lb := #[.pointer (some ⟨b + 1 + 1, 0, none⟩)]) rfl trivial (enters_of Tryd.func92 (by kernel_rfl) rfl)
    (cubes_loops (n - 1) (by omega) (b + 1 + 1) (W0.heap.size + 2) v (fun A B => Exc [b + 1] W0.heap.size A B ∧ CubeKp (W0.heap.size + 2) (b + 1 + 1) A B) hv (fun h => h.2) W0 bN)
    (fun h k => ⟨h.1.trans k.1, Nat.le_trans h.2.1 k.2.1, fun i o hi ho hc => k.2.2 i o hi (h.2.2 i o hi ho hc) hc⟩)
    (fun W o o' ho hc => ⟨(Exc.refl _ _ _).grown (grownBy_putObj' W _ o') (by have := (Array.getElem?_eq_some_iff.1 ho).1; omega) (fun k e => by cases e; exact .inr (by omega)), by simp, fun i o2 hi ho2 _ => (World.putObj_heap_other (by omega)).trans ho2⟩)
    (Below.refl _ _) (fun _ => rfl)
    (fun pre W => (∃ u, Boxed W (b + 1) 59 u ∧ W.ownsRow W0.heap.size 42 2 u ((vals pre).filter pr).length (cvs ((vals pre).filter pr)) ∧ True) ∧ Exc [b + 1] W0.heap.size W0 W)
    (fun _ _ _ => False)
    (OwnFrom.and (Own.from (holdsRow_own W0.heap.size (b + 1) 59 42 2 (fun pre : List (In (cubes v)) => ((vals pre).filter pr).length) (fun pre => cvs ((vals pre).filter pr)) (fun _ _ => True)) _) (ownFrom_exc (Nat.le_refl _) (Nat.le_refl _)))
    (fun _ _ _ _ _ hs _ _ => hs)
    ⟨⟨_, bO, World.ownsRow_nil _ _ _ _, trivial⟩, Exc.refl _ _ _⟩
    (fun x a' W => ∃ Bx, W0.heap.size ≤ Bx ∧ Box2 W Bx 42 (.int .u8 ((x.1.1 : Nat) : Int)) (.int .u8 ((x.1.2 : Nat) : Int)) ∧ a' = { tmps := #[.int .i64 v, .func (.func 74) #[] #[.pointer (some ⟨B1, 0, none⟩), .pointer (some ⟨B2, 0, none⟩)], undef, .pointer (some ⟨b, 0, none⟩), .slice none 0 0, .pointer (some ⟨b + 1, 0, none⟩), .pointer (some ⟨Bx, 0, none⟩), undef, .int .i64 v, .func (.func 92) #[] #[.pointer (some ⟨b + 1 + 1, 0, none⟩)], .agg #[.int .u8 ((x.1.1 : Nat) : Int), .int .u8 ((x.1.2 : Nat) : Int)], undef, undef, undef, undef, undef, undef, undef, undef, undef, undef, undef, undef, undef, undef, undef, undef, undef, undef], defers := [] })
    (fun x a' _ X Y row hs hg hr => by
      obtain ⟨Bx, e1, e2, e3⟩ := hs
      refine ⟨Bx, e1, (hg.block Bx e2.lt fun e' => ?_).trans e2, e3⟩
      obtain ⟨_, o, ho, hc⟩ := hr Bx e'.symm
      rw [show X.heap[Bx]? = _ from e2] at ho; cases ho; cases hc)
    ?assign ?body ?done ?stop
  case assign =>
    rintro l1' pre x W K ⟨⟨u, hu, hrow, _⟩, hE⟩ hK
    have hNW := hE.size
    gi_wp2
    exact hK _ _ ((KeepsOthers.alloc _ _).from _) ⟨(Exc.refl _ _ _).alloc hNW _, by simp, fun i o hi ho _ => (Below.heap_alloc W _ i (Array.getElem?_eq_some_iff.1 ho).1).trans ho⟩ ⟨⟨u, hu.alloc _, hrow.alloc _, trivial⟩, hE.alloc hNW _⟩ ⟨W.heap.size, hNW, Box2.new W _ _ _, rfl⟩
  case body =>
    rintro lo pre ⟨⟨x1, x2⟩, hx⟩ a' W hlo ⟨r, hr⟩ ⟨⟨u, hu, hrow, _⟩, hE⟩ ⟨Bx, hBx, bX, rfl⟩ hlen
    have hC : Cube x1 x2 v := (mem_cubes hv).1 hx
    have hxl := hC.lt
    have hNW : W0.heap.size ≤ W.heap.size := hE.size
    have hbW : Below w.heap.size w W := by
      have h2 := hE.below (n := b) (by omega) (by simp)
      have := hx0.trans h2
      rw [HB.out] at this
      exact this
    have hT' := hT.below hbW
    have b1' : Boxed W B1 3 (.int .i64 v) := b1.below hbW
    have b2' : Boxed W B2 78 (.int .u64 G) := b2.below hbW
    have bF' : Boxed W b 110 (.func (.func 74) #[] #[.pointer (some ⟨B1, 0, none⟩), .pointer (some ⟨B2, 0, none⟩)]) := hE.holds (by omega) (by simp) bF
    have cF := bF'.cell
    have x0 := bX.c0
    have x1' := bX.c1
    have h1' : 1 ≤ n - 1 - 1 := by omega
    have hI1 := Lib.hid (callsIn_wide (n := n - 1 - 1 - 1).2 (HIN.out x1 x2 hC W hT' b1' b2'))
    have hpl := HPL.out (x1, x2)
    simp only at hpl
    have hm4 : ((vals pre).filter pr).length < 4096 := by
      have h2 := List.length_filter_le pr (vals pre)
      rw [vals_len] at h2
      have h3 : 2 ^ v * 2 ^ v ≤ 64 * 64 := Nat.mul_le_mul h64 h64
      omega
    have hvs := vals_snoc pre ⟨(x1, x2), hx⟩
    cases hin : ins x1 x2 with
    | false =>
      rw [hin] at hI1
      have hF : Hid ((vals (pre ++ [⟨(x1, x2), hx⟩])).filter pr = (vals pre).filter pr) := by
        show _ = _
        rw [hvs, List.filter_append]
        rw [hin, Bool.false_and] at hpl
        simp [hpl]
      clear hpl hvs hin
      gi_wp2_with (gi_at_call 74; refine (CallsIn.inRound lo hI1.out).mono ?_; rintro e W2 ⟨rfl, hb2⟩)
      have hE2 := exc_of_call (S := [b + 1]) hb2 hNW
      refine ⟨(others_of_below hb2).from _, ⟨hE2, hb2.size, fun i o _ ho _ => (hb2.block i (Array.getElem?_eq_some_iff.1 ho).1).trans ho⟩, ⟨u, hu.below hb2, ?_, trivial⟩, hE.trans hE2⟩
      rw [hF.out]
      exact hrow.below hb2
    | true =>
      rw [hin] at hI1
      rw [hin, Bool.true_and] at hpl
      have HP := Lib.hid hpl
      have HVS := Lib.hid hvs
      clear hpl hvs hin
      gi_wp2_with (first
        | (gi_at_call 74; refine (CallsIn.inRound lo hI1.out).mono ?_; rintro e W2 ⟨rfl, hb2⟩; have hb2b := hbW.trans (hb2.mono hbW.size); have hs2 := hb2.size; have bX2 := bX.below hb2; have bF2 := bF'.below hb2; have hu2 := hu.below hb2; have hrow2 := hrow.below hb2; have hE2 := exc_of_call (S := [b + 1]) hb2 hNW; have hk2 := others_of_below hb2; have hr2 : W2.heap[lo]? = some (.loop r) := ((hb2.block lo (Array.getElem?_eq_some_iff.1 hr).1).trans hr); have hall2 : (∀ i o, W.heap[i]? = some o → W2.heap[i]? = some o) := (fun i o ho => (hb2.block i (Array.getElem?_eq_some_iff.1 ho).1).trans ho); clear x0 x1' cF hb2; have x0 := bX2.c0; have x1' := bX2.c1; have cF := bF2.cell)
        | (gi_at_call 62; refine (CallsIn.inRound lo (callsIn_wide.2 (literals_any _ _ _))).mono ?_; rintro e w' ⟨rfl, rfl⟩))
      have bc3 := World.alloc_heap_new W2 (.cells #[.int .u8 (x1 : Nat), .int .u8 (x2 : Nat)] 42)
      have hs3 : (W2.alloc (.cells #[.int .u8 x1, .int .u8 x2] 42)).heap.size = W2.heap.size + 1 := by simp
      have bX3 := bX2.alloc (.cells #[.int .u8 (x1 : Nat), .int .u8 (x2 : Nat)] 42)
      have bF3 := bF2.alloc (.cells #[.int .u8 (x1 : Nat), .int .u8 (x2 : Nat)] 42)
      have hu3 := hu2.alloc (.cells #[.int .u8 (x1 : Nat), .int .u8 (x2 : Nat)] 42)
      have hrow3 := hrow2.alloc (.cells #[.int .u8 (x1 : Nat), .int .u8 (x2 : Nat)] 42)
      have hE3 := hE2.alloc (show W0.heap.size ≤ W2.heap.size by omega) (.cells #[.int .u8 (x1 : Nat), .int .u8 (x2 : Nat)] 42)
      have hk3 := hk2.trans (KeepsOthers.alloc W2 (.cells #[.int .u8 (x1 : Nat), .int .u8 (x2 : Nat)] 42))
      have hr3 := (Below.heap_alloc W2 (.cells #[.int .u8 (x1 : Nat), .int .u8 (x2 : Nat)] 42) lo (Array.getElem?_eq_some_iff.1 hr2).1).trans hr2
      have hall3 : ∀ i o, W.heap[i]? = some o → (W2.alloc (.cells #[.int .u8 x1, .int .u8 x2] 42)).heap[i]? = some o := fun i o ho => (Below.heap_alloc W2 _ i (Array.getElem?_eq_some_iff.1 (hall2 i o ho)).1).trans (hall2 i o ho)
      have hb3b := bal hb2b (.cells #[.int .u8 (x1 : Nat), .int .u8 (x2 : Nat)] 42)
      obtain ⟨W3, hW3⟩ : ∃ W3, W2.alloc (.cells #[.int .u8 x1, .int .u8 x2] 42) = W3 := ⟨_, rfl⟩
      rw [hW3] at bc3 hs3 bX3 bF3 hu3 hrow3 hE3 hk3 hr3 hall3 hb3b ⊢
      clear hW3 x0 x1' cF bX2 bF2 hu2 hrow2 hE2 hk2 hr2 hall2 hb2b
      generalize hBc : W2.heap.size = Bc at *
      clear hBc
      have hs3a : W3.heap.size ≤ Bc + 1 := by omega
      have hs3b : Bc + 1 ≤ W3.heap.size := by omega
      clear hs3
      refine wpIn_rangeFunc_ownN (l₀ := lo) (r₀ := r) rfl hr3 h1' (gf := 84) (lb := #[.pointer (some ⟨Bc, 0, none⟩)]) rfl trivial (enters_of Tryd.func84 (by kernel_rfl) rfl)
        ((literals_stops (n - 1 - 1 - 1) (by omega) Bc x1 x2 (Exc [] W3.heap.size) (by omega) (by omega) (fun h => h.block _ (by omega) (by simp)) W3 bc3).inRound lo) excK_t (excK_b (Nat.le_refl _)) (Below.refl _ _) (fun _ => rfl)
        (fun pre' Wr => NoneIn ins x1 x2 (vals pre') ∧ Exc [] W3.heap.size W3 Wr)
        (fun c _ Wr => (c = .exit 1 ∧ SomeIn ins x1 x2) ∧ Exc [] W3.heap.size W3 Wr)
        (OwnFrom.and (ownFrom_pure _ _) (ownFrom_exc (Nat.le_refl _) (Nat.le_refl _)))
        (fun c => OwnFrom.and (ownFrom_pure _ _) (ownFrom_exc (Nat.le_refl _) (Nat.le_refl _)))
        ⟨by intro l hl; simp [vals] at hl, Exc.refl _ _ _⟩
        (fun y a'' _ => a'' = { tmps := #[.int .i64 v, .func (.func 74) #[] #[.pointer (some ⟨B1, 0, none⟩), .pointer (some ⟨B2, 0, none⟩)], undef, .pointer (some ⟨b, 0, none⟩), .slice none 0 0, .pointer (some ⟨b + 1, 0, none⟩), .pointer (some ⟨Bx, 0, none⟩), .int .i64 ((y.1.1 : Nat) : Int), .int .i64 v, .func (.func 92) #[] #[.pointer (some ⟨b + 1 + 1, 0, none⟩)], .agg #[.int .u8 (x1 : Nat), .int .u8 (x2 : Nat)], .func (.func 74) #[] #[.pointer (some ⟨B1, 0, none⟩), .pointer (some ⟨B2, 0, none⟩)], .agg #[.int .u8 (x1 : Nat), .int .u8 (x2 : Nat)], .bool true, .bool false, .agg #[.int .u8 (x1 : Nat), .int .u8 (x2 : Nat)], .func (.func 84) #[] #[.pointer (some ⟨Bc, 0, none⟩)], .int .i64 ((y.1.1 : Nat) : Int), .bool y.1.2, undef, undef, undef, undef, undef, undef, undef, undef, undef, undef], defers := [] })
        (fun _ _ _ _ _ _ hs _ _ => hs)
        ?assign2 ?body2 ?done2 ?stop2
      case assign2 =>
        rintro li pre' y Wr K hi hK
        gi_wp2
        exact hK _ _ (KeepsFrom.refl _ _) (Exc.refl _ _ _) hi rfl
      case body2 =>
        rintro li pre' ⟨⟨k, val⟩, hy⟩ a'' Wr hli ⟨ri, hri⟩ ⟨hno, hEr⟩ rfl hlen'
        have hk6 : k < 6 := (mem_lits.1 hy).1
        have bX4 : Box2 Wr Bx 42 (.int .u8 (x1 : Nat)) (.int .u8 (x2 : Nat)) := hEr.holds bX3.lt (by simp) bX3
        have bF4 : Boxed Wr b 110 (.func (.func 74) #[] #[.pointer (some ⟨B1, 0, none⟩), .pointer (some ⟨B2, 0, none⟩)]) := hEr.holds bF3.lt (by simp) bF3
        have x0 := bX4.c0
        have x1' := bX4.c1
        have cF := bF4.cell
        have hmx := mixed
        have h1'' : 1 ≤ n - 1 - 1 - 1 - 1 := by omega
        have hNr : W3.heap.size ≤ Wr.heap.size := hEr.size
        have hbr : Below w.heap.size w Wr := hb3b.trans (hEr.below hb3b.size (by simp))
        have HWo := Lib.hid fun W => callsIn_wide (n := n - 1 - 1 - 1 - 1 - 1).2 (without_any x1 x2 k W (by omega) (by omega) (by omega))
        have hCw := hC.wo k
        have HI2 := Lib.hid fun W (hb5 : Below w.heap.size w W) => callsIn_wide (n := n - 1 - 1 - 1 - 1 - 1).2 (HIN.out (wo x1 k) (wo x2 k) hCw W (hT.below hb5) (b1.below hb5) (b2.below hb5))
        generalize hin2 : ins (wo x1 k) (wo x2 k) = t at *
        gi_wp2
        gi_region_with_o (first
          | (gi_at_call 87; refine (CallsIn.inRound li (CallsIn.inRound lo (HWo.out _))).mono ?_; rintro e W5 ⟨rfl, hb5⟩; have hb5' : Below Wr.heap.size Wr W5 := (by first | exact hb5 | exact Below.trans ((Below.refl _ Wr).drew) hb5); have cF5 := (bF4.below hb5').cell; clear hb5)
          | (gi_at_call 74; refine (CallsIn.inRound li (CallsIn.inRound lo (HI2.out _ (hbr.trans (hb5'.mono hbr.size))))).mono ?_; rintro e W6 ⟨rfl, hb6⟩))
        all_goals
          have hbf := stepB hb5' hb6
          have hE6 : Exc [] W3.heap.size Wr W6 := exc_of_call hbf hNr
          have hk6' := others_of_below hbf
          have hvs' := vals_snoc pre' ⟨(k, val), hy⟩
          have HV := Lib.hid hvs'
          have HI6 := Lib.hid hin2
          clear hbf hb5' hb6 hvs' hin2 cF5 hbr HWo HI2 hCw bX4 bF4 x0 x1' cF hmx
          cases t with
          | false =>
            gi_wp2
            refine ⟨hk6'.from _, hE6, fun l hl => ?_, hEr.trans hE6⟩
            rw [HV.out] at hl
            rcases List.mem_append.1 hl with h | h
            · exact hno l h
            · obtain rfl := List.mem_singleton.1 h
              exact HI6.out
          | true =>
            gi_wp2
            exact ⟨hk6'.from _, ⟨rfl, List.any_eq_true.2 ⟨(k, val), hy, HI6.out⟩⟩, hEr.trans hE6⟩
      case done2 =>
        rintro ys' Wr hys' ⟨hno, hEr⟩
        have hbr3 : Below W3.heap.size W3 Wr := hEr.below (Nat.le_refl _) (by simp)
        have hN3 : W0.heap.size ≤ W3.heap.size := by omega
        have hN4 : W0.heap.size ≤ Wr.heap.size := Nat.le_trans hN3 hbr3.size
        have hE4 := hE3.trans (exc_of_call (S := [b + 1]) hbr3 hN3)
        have hk4 := hk3.trans (others_of_below hbr3)
        have hall4 : ∀ i o, W.heap[i]? = some o → Wr.heap[i]? = some o := fun i o ho => (hbr3.block i (Array.getElem?_eq_some_iff.1 (hall3 i o ho)).1).trans (hall3 i o ho)
        have hu4 := hu3.below hbr3
        have hrow4 := hrow3.below hbr3
        have bX4 := bX3.below hbr3
        have hF : Hid ((vals (pre ++ [⟨(x1, x2), hx⟩])).filter pr = (vals pre).filter pr ++ [(x1, x2)]) := by
          show _ = _
          rw [HVS.out, List.filter_append]
          have := HP.out
          rw [show ((lits x1 x2).any fun l => ins (wo x1 l.1) (wo x2 l.1)) = false from by
            rw [List.any_eq_false]
            intro l hl
            rw [← hys'] at hl
            rw [hno l hl]; decide] at this
          simp [this]
        have x0 := bX4.c0
        have x1' := bX4.c1
        have cO := hu4.cell
        clear hbr3 hu3 hrow3 bX3 bF3 hE3 hk3 hall3 hb3b hr3 hno hys' hEr bX4 bc3
        gi_wp2_with (gi_at_builtin; refine wpListIn_append_own _ rfl _ _ 59 rfl W0.heap.size 42 i0 (.agg #[.int .u8 0, .int .u8 0]) 2 2 Tryd.underlying59 hi hz0 hz1 hz2 rfl (by decide) _ _ _ rfl (hrow4.alloc _) ⟨Wr.heap.size, 0, none⟩ 1 1 [.int .u8 (x1 : Nat), .int .u8 (x2 : Nat)] rfl rfl (cell_two_new _ _ _ _) (by simp [Value.oneCell']) (by unfold maxLen; omega) (by omega) (by simp; omega) ?_; intro v' w2 hown' hgrow _; obtain ⟨g', cap', rfl⟩ := ownsRow_succ hown'; obtain ⟨hv1, hv3, hr3, hk5, hE5⟩ := appendedE hu4 (by decide) hrow4 hN4 List.mem_cons_self hown' hgrow; have hO5 := fun v' => appendedO hu4 hrow4 hgrow v'; have hc1 := hv1.cell; have hf1 := hv1.frozen)
        refine ⟨(hk4.trans hk5).from _, ⟨hE4.trans hE5, Nat.le_trans hk4.size hk5.size, fun i o hi2 ho hc => hO5 _ i o (hall4 i o ho) (by intro e; cases e; omega) hc⟩, ⟨_, hv3, ?_, trivial⟩, hE.trans (hE4.trans hE5)⟩
        rw [hF.out, cvs_snoc, List.length_append]
        exact hr3
      case stop2 =>
        rintro c pre' Wr _ ⟨⟨rfl, hany⟩, hEr⟩
        have hF : Hid ((vals (pre ++ [⟨(x1, x2), hx⟩])).filter pr = (vals pre).filter pr) := by
          show _ = _
          rw [HVS.out, List.filter_append]
          have := HP.out
          unfold SomeIn at hany
          rw [hany] at this
          simp [this]
        have hbr3 : Below W3.heap.size W3 Wr := hEr.below (Nat.le_refl _) (by simp)
        have hN3 : W0.heap.size ≤ W3.heap.size := by omega
        have hE4 := hE3.trans (exc_of_call (S := [b + 1]) hbr3 hN3)
        have hk4 := hk3.trans (others_of_below hbr3)
        have hall4 : ∀ i o, W.heap[i]? = some o → Wr.heap[i]? = some o := fun i o ho => (hbr3.block i (Array.getElem?_eq_some_iff.1 (hall3 i o ho)).1).trans (hall3 i o ho)
        have hu4 := hu3.below hbr3
        have hrow4 := hrow3.below hbr3
        gi_wp2
        refine ⟨hk4.from _, ⟨hE4, hk4.size, fun i o _ ho _ => hall4 i o ho⟩, ⟨_, hu4, ?_, trivial⟩, hE.trans hE4⟩
        rw [hF.out]
        exact hrow4
  case done =>
    rintro D ys W hD hys ⟨⟨u, hu, hrow, _⟩, hE⟩ hK
    have hF : Hid ((vals ys).filter pr = (cubes v).filter pr) := by show _ = _; rw [hys]
    have cO := hu.cell
    clear hys
    gi_wp2
    rw [hF.out] at hrow
    rw [Exit.noGoto_ret]
    refine ⟨by simp, .inl ⟨_, _, rfl, run_takeDeferred hK, ?_⟩⟩
    rw [HPO.out]
    have hfin := (hx0.trans (hE.below (by omega) (by simp))).trans (belowK_b (w := W0) (by omega) W D _ (.deferred none) hD hK rfl rfl)
    rw [HB.out] at hfin
    exact ⟨_, results_tmp rfl _ _ _, _, rfl, ownsRow_mono (ownsRow_putObj hrow _ hK rfl) (by have := HB.out; omega), hfin⟩
  case stop =>
    rintro D c pre W _ _ h _
    exact h.elim
end Go.Proofs.YtjjdhegkcilaiaaDoor
