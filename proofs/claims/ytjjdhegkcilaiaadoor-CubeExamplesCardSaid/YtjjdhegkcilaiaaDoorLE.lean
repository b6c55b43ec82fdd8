/- The walk of the law CubeExamples. -/
import Derived.Test.YtjjdhegkcilaiaaDoorLR
import Derived.Test.YtjjdhegkcilaiaaDoorQC
import Derived.OwnWalk
import Derived.Laws.IdiomStrings
namespace Go.Proofs.YtjjdhegkcilaiaaDoor
open Go Go.RowKit
set_option maxRecDepth 100000
def rows1 : List (Nat × Nat × Int × Int) := [(0, 0, 0, 0), (0, 0, -1, 7), (0, 0, 7, 7), (1, 0, 0, 7), (0, 4, 2, 7), (5, 5, 2, 7), (3, 2, 2, 2), (42, 21, 6, 0), (0, 64, 6, 7), (0, 255, 1099511627776, 7)]
def r1 (k : Nat) : Nat × Nat × Int × Int := rows1.getD k (0, 0, 0, 0)
def rows2 : List (List UInt8 × Int) := [([], 2), ([103], 2), ([98, 97], 2), ([97, 97], 2), ([97, 33, 97], 2), ([33], 2), ([33, 33, 97], 2), ([97, 42], 2), ([42, 42], 2), ([42], 0), ([99], 7), ([97, 33, 102], 7), ([33, 97, 33, 98], 0)]
def r2 (k : Nat) : List UInt8 × Int := rows2.getD k ([], 0)
theorem rows1_all : ((List.range 10).all fun k => decide (chk (r1 k).1 (r1 k).2.1 (r1 k).2.2.1 = (r1 k).2.2.2) && decide ((r1 k).1 < 256) && decide ((r1 k).2.1 < 256)) = true := by decide +kernel
theorem rows1_ok {k : Nat} (hk : k < 10) : chk (r1 k).1 (r1 k).2.1 (r1 k).2.2.1 = (r1 k).2.2.2 ∧ (r1 k).1 < 256 ∧ (r1 k).2.1 < 256 := by
  have := List.all_eq_true.1 rows1_all k (List.mem_range.2 hk)
  simp only [Bool.and_eq_true, decide_eq_true_iff] at this
  exact ⟨this.1.1, this.1.2, this.2⟩
theorem rows2_all : ((List.range 13).all fun k => decide ((prs (r2 k).1 2).2 = (r2 k).2) && decide ((r2 k).1.length ≤ 10)) = true := by decide +kernel
theorem rows2_ok {k : Nat} (hk : k < 13) : (prs (r2 k).1 2).2 = (r2 k).2 ∧ (r2 k).1.length ≤ 10 := by
  have := List.all_eq_true.1 rows2_all k (List.mem_range.2 hk)
  simp only [Bool.and_eq_true, decide_eq_true_iff] at this
  exact this
/-- The first table lies in block b. -/
def Tbl1 (W : World) (b : Nat) : Prop := b < W.heap.size ∧ ∀ k, k < 10 → W.cell? ⟨b, k * 4, none⟩ = some (.int .u8 ((r1 k).1 : Nat)) ∧ W.cell? ⟨b, k * 4 + 1, none⟩ = some (.int .u8 ((r1 k).2.1 : Nat)) ∧ W.cell? ⟨b, k * 4 + 2, none⟩ = some (.int .i64 (r1 k).2.2.1) ∧ W.cell? ⟨b, k * 4 + 3, none⟩ = some (.int .i64 (r1 k).2.2.2)
theorem Tbl1.below {W W' : World} {b : Nat} (h : Tbl1 W b) (hb : Below W.heap.size W W') : Tbl1 W' b :=
  ⟨Nat.lt_of_lt_of_le h.1 hb.size, fun k hk => ⟨(hb.cell h.1).trans (h.2 k hk).1, (hb.cell h.1).trans (h.2 k hk).2.1, (hb.cell h.1).trans (h.2 k hk).2.2.1, (hb.cell h.1).trans (h.2 k hk).2.2.2⟩⟩
theorem tbl1_new (W : World) (t : TypeId) : Tbl1 (W.alloc (.cells #[.int .u8 0, .int .u8 0, .int .i64 0, .int .i64 0, .int .u8 0, .int .u8 0, .int .i64 (-1), .int .i64 7, .int .u8 0, .int .u8 0, .int .i64 7, .int .i64 7, .int .u8 1, .int .u8 0, .int .i64 0, .int .i64 7, .int .u8 0, .int .u8 4, .int .i64 2, .int .i64 7, .int .u8 5, .int .u8 5, .int .i64 2, .int .i64 7, .int .u8 3, .int .u8 2, .int .i64 2, .int .i64 2, .int .u8 42, .int .u8 21, .int .i64 6, .int .i64 0, .int .u8 0, .int .u8 64, .int .i64 6, .int .i64 7, .int .u8 0, .int .u8 255, .int .i64 1099511627776, .int .i64 7] t)) W.heap.size := by
  refine ⟨by simp, fun k hk => ?_⟩
  rw [World.cell?_alloc_at _ _ _ _ rfl, World.cell?_alloc_at _ _ _ _ rfl, World.cell?_alloc_at _ _ _ _ rfl, World.cell?_alloc_at _ _ _ _ rfl]
  rcases (by omega : k = 0 ∨ k = 1 ∨ k = 2 ∨ k = 3 ∨ k = 4 ∨ k = 5 ∨ k = 6 ∨ k = 7 ∨ k = 8 ∨ k = 9) with rfl | rfl | rfl | rfl | rfl | rfl | rfl | rfl | rfl | rfl
  all_goals exact ⟨rfl, rfl, rfl, rfl⟩
def Tbl2 (W : World) (b : Nat) : Prop := b < W.heap.size ∧ ∀ k, k < 13 → W.cell? ⟨b, k * 2, none⟩ = some (.string ⟨(r2 k).1.toArray⟩) ∧ W.cell? ⟨b, k * 2 + 1, none⟩ = some (.int .i64 (r2 k).2)
theorem Tbl2.below {W W' : World} {b : Nat} (h : Tbl2 W b) (hb : Below W.heap.size W W') : Tbl2 W' b :=
  ⟨Nat.lt_of_lt_of_le h.1 hb.size, fun k hk => ⟨(hb.cell h.1).trans (h.2 k hk).1, (hb.cell h.1).trans (h.2 k hk).2⟩⟩
theorem tbl2_new (W : World) (t : TypeId) : Tbl2 (W.alloc (.cells #[.string ⟨#[]⟩, .int .i64 2, .string ⟨#[103]⟩, .int .i64 2, .string ⟨#[98, 97]⟩, .int .i64 2, .string ⟨#[97, 97]⟩, .int .i64 2, .string ⟨#[97, 33, 97]⟩, .int .i64 2, .string ⟨#[33]⟩, .int .i64 2, .string ⟨#[33, 33, 97]⟩, .int .i64 2, .string ⟨#[97, 42]⟩, .int .i64 2, .string ⟨#[42, 42]⟩, .int .i64 2, .string ⟨#[42]⟩, .int .i64 0, .string ⟨#[99]⟩, .int .i64 7, .string ⟨#[97, 33, 102]⟩, .int .i64 7, .string ⟨#[33, 97, 33, 98]⟩, .int .i64 0] t)) W.heap.size := by
  refine ⟨by simp, fun k hk => ?_⟩
  rw [World.cell?_alloc_at _ _ _ _ rfl, World.cell?_alloc_at _ _ _ _ rfl]
  rcases (by omega : k = 0 ∨ k = 1 ∨ k = 2 ∨ k = 3 ∨ k = 4 ∨ k = 5 ∨ k = 6 ∨ k = 7 ∨ k = 8 ∨ k = 9 ∨ k = 10 ∨ k = 11 ∨ k = 12) with rfl | rfl | rfl | rfl | rfl | rfl | rfl | rfl | rfl | rfl | rfl | rfl | rfl
  all_goals exact ⟨rfl, rfl⟩
/-- A block of four cells. -/
def Box4 (W : World) (b : Nat) (t : TypeId) (u v x y : Value) : Prop := W.heap[b]? = some (.cells #[u, v, x, y] t (0, 0))
theorem Box4.lt {W : World} {b : Nat} {t : TypeId} {u v x y : Value} (h : Box4 W b t u v x y) : b < W.heap.size := (Array.getElem?_eq_some_iff.1 h).1
theorem Box4.cs {W : World} {b : Nat} {t : TypeId} {u v x y : Value} (h : Box4 W b t u v x y) : W.cell? ⟨b, 0, none⟩ = some u ∧ W.cell? ⟨b, 1, none⟩ = some v ∧ W.cell? ⟨b, 2, none⟩ = some x ∧ W.cell? ⟨b, 3, none⟩ = some y := by
  have h' : W.heap[b]? = _ := h
  exact ⟨by simp [World.cell?, h'], by simp [World.cell?, h'], by simp [World.cell?, h'], by simp [World.cell?, h']⟩
theorem Box4.new (W : World) (t : TypeId) (u v x y : Value) : Box4 (W.alloc (.cells #[u, v, x, y] t)) W.heap.size t u v x y := World.alloc_heap_new W _
theorem Box4.below {W W' : World} {b : Nat} {t : TypeId} {u v x y : Value} (h : Box4 W b t u v x y) (hb : Below W.heap.size W W') : Box4 W' b t u v x y := (hb.block b h.lt).trans h
/-- What a round over the first table keeps. -/
def Rn1 (w : World) (b b2 : Nat) (p q : Nat) (v e : Int) (X : World) : Prop := Tbl1 X b ∧ Box4 X b2 67 (.int .u8 (p : Nat)) (.int .u8 (q : Nat)) (.int .i64 v) (.int .i64 e) ∧ Below w.heap.size w X
theorem Rn1.step {w : World} {b b2 p q : Nat} {v e : Int} {X Y : World} (h : Rn1 w b b2 p q v e X) (hb : Below X.heap.size X Y) : Rn1 w b b2 p q v e Y := ⟨h.1.below hb, h.2.1.below hb, stepB h.2.2 hb⟩
theorem letters_code (p q : Nat) (v : Int) (w : World) (hp : p < 256) (hq : q < 256) : Calls Tryd.prog 33 #[.agg #[.int .u8 p, .int .u8 q], .int .i64 v] w fun e w' => ∃ u, e = .returned (.tuple #[u, .int .i64 (chk p q v)]) ∧ Below w.heap.size w w' := by
  by_cases h : chk p q v = 0
  · obtain ⟨n, rfl, hC⟩ := chk_ok h
    rw [h]
    exact (Letters_ok p q n w hC).mono fun e w' ⟨u, h1, _, h3⟩ => ⟨u, h1, h3⟩
  · exact (Letters_no p q v w hp hq h).mono fun e w' ⟨h1, h2⟩ => ⟨_, h1, h2⟩
theorem format_code (p q : Nat) (v : Int) (w : World) (hp : p < 256) (hq : q < 256) : Calls Tryd.prog 34 #[.agg #[.int .u8 p, .int .u8 q], .int .i64 v] w fun e w' => ∃ s, e = .returned (.tuple #[.string s, .int .i64 (chk p q v)]) ∧ Below w.heap.size w w' := by
  by_cases h : chk p q v = 0
  · obtain ⟨n, rfl, hC⟩ := chk_ok h
    rw [h]
    exact (Format_ok p q n w hC).mono fun e w' ⟨h1, h3⟩ => ⟨_, h1, h3⟩
  · exact (Format_no p q v w hp hq h).mono fun e w' ⟨h1, h2⟩ => ⟨_, h1, h2⟩
theorem parse_code (s : List UInt8) (v e : Int) (w : World) (hs : s.length ≤ 5000) (h : (prs s v).2 = e) : Calls Tryd.prog 49 #[.string ⟨s.toArray⟩, .int .i64 v] w fun e' w' => ∃ p q : Nat, e' = .returned (.tuple #[.agg #[.int .u8 p, .int .u8 q], .int .i64 e]) ∧ Below w.heap.size w w' := by
  subst h
  exact (Parse_any ⟨s.toArray⟩ v w (by simp [ByteArray.size]; omega)).mono fun e w' ⟨h1, h2⟩ => ⟨_, _, h1, h2⟩
theorem long_code : (prs (List.replicate 4097 0) 2).2 = 4 := by
  unfold prs
  rw [if_neg (by decide), if_pos (by rw [List.length_replicate]; decide)]
theorem wide_code : (prs (List.replicate 4097 0) 9).2 = 7 := by
  unfold prs
  rw [if_pos (by decide)]
theorem zeros_code : (prs (List.replicate 4096 0) 2).2 = 2 := by
  have h : readC (List.replicate 4096 0) = none := by
    unfold readC
    have e : List.replicate 4096 (0 : UInt8) = [0] ++ List.replicate 4095 0 := rfl
    have hr : rd (List.replicate 4096 (0 : UInt8)) = none := by rw [e]; exact rd_none_append _ _ (by decide)
    rw [if_neg (by intro h; have := congrArg List.length h; rw [List.length_replicate] at this; simp at this), hr]
  unfold prs
  rw [if_neg (by decide), if_neg (by rw [List.length_replicate]; decide), h]
theorem zeros_conv {X Y : World} {n cap g : Nat} (h : Y.ownsRow X.heap.size 5 1 (.slice (some ⟨g, 0, none⟩) n cap) n (madeCells (Value.int .u8 0).cells (n * 1)).toList) :
    (convert 45 9 (.slice (some ⟨g, 0, none⟩) n cap)).run Tryd.prog Y = .ok (.string ⟨(List.replicate n 0).toArray⟩) Y := by
  have e1 : (madeCells (Value.int .u8 0).cells (n * 1)).toList = List.replicate n (Value.int .u8 0) := by
    rw [Nat.mul_one]; exact toList_madeCells_one (Value.int .u8 0) n
  rw [e1] at h
  have := run_convert_bytes_back (P := Tryd.prog) Y 45 9 5 ⟨g, 0, none⟩ cap (List.replicate n 0) Tryd.underlying45 Tryd.underlying5 Tryd.underlying9 (fun j hj => by
    have hj' : j < n := by simpa using hj
    rw [addr_add, h.cellAt j (by omega), List.getElem?_replicate, if_pos hj']
    simp)
  rw [List.length_replicate] at this
  exact this
theorem fmt_ex : fmtT 42 21 = [33, 97, 98, 33, 99, 100, 33, 101, 102] := by decide +kernel
theorem ex_format (w : World) : Calls Tryd.prog 34 #[.agg #[.int .u8 42, .int .u8 21], .int .i64 6] w fun e w' => e = .returned (.tuple #[.string ⟨#[33, 97, 98, 33, 99, 100, 33, 101, 102]⟩, .int .i64 0]) ∧ Below w.heap.size w w' := by
  have := Format_ok 42 21 6 w (cube_of (by decide))
  rw [fmt_ex] at this
  exact this
theorem ex_args1 (w : World) : Calls Tryd.prog 47 #[.slice (some ⟨w.heap.size, 0, none⟩) 2 2, .int .i64 1] (w.alloc (.cells #[.int .u8 1, .int .u8 1] 5)) fun e w' => e = .returned (.tuple #[.slice none 0 0, .int .i64 1]) ∧ Below w.heap.size w w' :=
  (Cover_arg (some ⟨w.heap.size, 0, none⟩) [1, 1] 2 1 _ (by decide) (bys_new w 5 [1, 1]) (by intro x hx; simp at hx; omega) (by decide) (by decide +kernel)).mono fun _ _ ⟨h1, h2⟩ => ⟨h1, stepB (bal (Below.refl _ _) _) h2⟩
theorem ex_args2 (w : World) : Calls Tryd.prog 47 #[.slice (some ⟨w.heap.size, 0, none⟩) 1 1, .int .i64 1] (w.alloc (.cells #[.int .u8 2] 5)) fun e w' => e = .returned (.tuple #[.slice none 0 0, .int .i64 1]) ∧ Below w.heap.size w w' :=
  (Cover_arg (some ⟨w.heap.size, 0, none⟩) [2] 1 1 _ (by decide) (bys_new w 5 [2]) (by intro x hx; simp at hx; omega) (by decide) (by decide +kernel)).mono fun _ _ ⟨h1, h2⟩ => ⟨h1, stepB (bal (Below.refl _ _) _) h2⟩
theorem ex_args3 (w : World) : Calls Tryd.prog 47 #[.slice (some ⟨w.heap.size, 0, none⟩) 1 1, .int .i64 7] (w.alloc (.cells #[.int .u8 2] 5)) fun e w' => e = .returned (.tuple #[.slice none 0 0, .int .i64 7]) ∧ Below w.heap.size w w' :=
  (Cover_vars (some ⟨w.heap.size, 0, none⟩) 1 1 7 _ (by decide)).mono fun _ _ ⟨h1, h2⟩ => ⟨h1, stepB (bal (Below.refl _ _) _) h2⟩
theorem cover_ex1 : coverL [0, 1, 2, 3] 2 = [(0, 0)] := by decide +kernel
theorem cover_ex2 : coverL [] 2 = [] := by decide +kernel
theorem ex_full (w : World) (hT : HavT w) : Calls Tryd.prog 47 #[.slice (some ⟨w.heap.size, 0, none⟩) 4 4, .int .i64 2] (w.alloc (.cells #[.int .u8 0, .int .u8 1, .int .u8 2, .int .u8 3] 5)) fun e w' =>
    ∃ A' c', e = .returned (.tuple #[.slice A' 1 c', .int .i64 0]) ∧ Cubs w' A' [(0, 0)] ∧ Below w.heap.size w w' :=
  (Cover_is (some ⟨w.heap.size, 0, none⟩) [0, 1, 2, 3] 4 2 _ _ (by decide) (bys_new w 5 [0, 1, 2, 3]) (by intro x hx; simp at hx; omega) (by decide) (hT.below (bal (Below.refl _ _) _)) (by decide +kernel) cover_ex1).mono
    fun _ _ ⟨A', c', h1, h2, h3, h4⟩ => ⟨A', c', h1, h2, stepB (bal (Below.refl _ _) _) h4⟩
theorem ex_none (w : World) (hT : HavT w) : Calls Tryd.prog 47 #[.slice none 0 0, .int .i64 2] w fun e w' => ∃ A' c', e = .returned (.tuple #[.slice A' 0 c', .int .i64 0]) ∧ Below w.heap.size w w' :=
  (Cover_is none [] 0 2 _ _ (by decide) (fun j h => absurd h (by simp)) (by intro x hx; cases hx) (by decide) hT (by decide +kernel) cover_ex2).mono
    fun _ _ ⟨A', c', h1, h2, h3, h4⟩ => ⟨A', c', h1, h4⟩
set_option maxHeartbeats 8000000 in
theorem cubeExamples_walk (w : World) (hT : HavT w) :
    Calls Tryd.prog 8 #[] w fun e w' => e = .returned (.bool true) ∧ Below w.heap.size w w' := by
  have HW := Lib.hid fun w' (k : Below w.heap.size w w') => awake_any w' (hT.below k)
  have HT := Lib.hid fun w' (k : Below w.heap.size w w') => hT.below k
  clear hT
  go_enter Tryd.func8, Tryd.ntmps8
  go_wp2_with (go_at_call 40; refine (HW.out _ (Below.refl _ _)).mono ?_; rintro e w1 ⟨rfl, hb1⟩)
  have hT1 := tbl1_new w1 67
  have k1 := bal hb1 (.cells #[.int .u8 0, .int .u8 0, .int .i64 0, .int .i64 0, .int .u8 0, .int .u8 0, .int .i64 (-1), .int .i64 7, .int .u8 0, .int .u8 0, .int .i64 7, .int .i64 7, .int .u8 1, .int .u8 0, .int .i64 0, .int .i64 7, .int .u8 0, .int .u8 4, .int .i64 2, .int .i64 7, .int .u8 5, .int .u8 5, .int .i64 2, .int .i64 7, .int .u8 3, .int .u8 2, .int .i64 2, .int .i64 2, .int .u8 42, .int .u8 21, .int .i64 6, .int .i64 0, .int .u8 0, .int .u8 64, .int .i64 6, .int .i64 7, .int .u8 0, .int .u8 255, .int .i64 1099511627776, .int .i64 7] 67)
  obtain ⟨b, hb⟩ : ∃ b, b = w1.heap.size := ⟨_, rfl⟩
  rw [← hb] at hT1 ⊢
  clear hb hb1
  generalize w1.alloc (.cells #[.int .u8 0, .int .u8 0, .int .i64 0, .int .i64 0, .int .u8 0, .int .u8 0, .int .i64 (-1), .int .i64 7, .int .u8 0, .int .u8 0, .int .i64 7, .int .i64 7, .int .u8 1, .int .u8 0, .int .i64 0, .int .i64 7, .int .u8 0, .int .u8 4, .int .i64 2, .int .i64 7, .int .u8 5, .int .u8 5, .int .i64 2, .int .i64 7, .int .u8 3, .int .u8 2, .int .i64 2, .int .i64 2, .int .u8 42, .int .u8 21, .int .i64 6, .int .i64 0, .int .u8 0, .int .u8 64, .int .i64 6, .int .i64 7, .int .u8 0, .int .u8 255, .int .i64 1099511627776, .int .i64 7] 67) = wa at *
  go_loopw [57] (fun i wr => ∃ k : Nat, k ≤ 10 ∧ i = .int .i64 k ∧ Tbl1 wr b ∧ Below w.heap.size w wr) (fun i _ => 10 - (intOf i).toNat)
  case atStart => exact ⟨0, by omega, rfl, hT1, k1⟩
  case round =>
    clear hT1 k1
    obtain ⟨k, hk, rfl, hT1, k1⟩ := hrel
    by_cases hk10 : k < 10
    · obtain ⟨hc, hp, hq⟩ := rows1_ok hk10
      obtain ⟨c0, c1, c2, c3⟩ := hT1.2 k hk10
      generalize r1 k = row at *
      obtain ⟨p, q, v, e⟩ := row
      simp only at hc hp hq c0 c1 c2 c3
      have H1 := Lib.hid fun w => letters_code p q v w hp hq
      have H2 := Lib.hid fun w => format_code p q v w hp hq
      have H3 := Lib.hid fun w => Check_any p q v w hp hq
      rw [hc] at H1 H2 H3
      have S0 : Rn1 w b wr.heap.size p q v e (wr.alloc (.cells #[.int .u8 (p : Nat), .int .u8 (q : Nat), .int .i64 v, .int .i64 e] 67)) := ⟨hT1.below (bal (Below.refl _ _) _), Box4.new wr _ _ _ _ _, bal k1 _⟩
      obtain ⟨a0, a1, a2, a3⟩ := S0.2.1.cs
      clear hc hT1 k1
      go_wp2_with (first
        | (go_at_call 33; ((with_reducible refine (H1.out _).mono ?_); rintro e' w4 ⟨u1, rfl, hb4⟩); have S1 := S0.step hb4; clear a0 a1 a2 a3; have a := S1.2.1.cs; obtain ⟨a0, a1, a2, a3⟩ := a)
        | (go_at_call 34; ((with_reducible refine (H2.out _).mono ?_); rintro e' w5 ⟨s1, rfl, hb5⟩); have S2 := S1.step hb5; clear a0 a1 a2 a3))
      obtain ⟨b2, hb2⟩ : ∃ b2, b2 = wr.heap.size := ⟨_, rfl⟩
      have hS0 := S2
      rw [← hb2] at hS0 ⊢
      clear hb2 S0 S1 S2 hb4 hb5 H1 H2
      have f0 : ∀ r : Cls (Rn1 w b b2 p q v e), r.w.cell? ⟨b2, 0, none⟩ = some (.int .u8 (p : Nat)) := fun r => r.h.2.1.cs.1
      have f1 : ∀ r : Cls (Rn1 w b b2 p q v e), r.w.cell? ⟨b2, 1, none⟩ = some (.int .u8 (q : Nat)) := fun r => r.h.2.1.cs.2.1
      have f2 : ∀ r : Cls (Rn1 w b b2 p q v e), r.w.cell? ⟨b2, 2, none⟩ = some (.int .i64 v) := fun r => r.h.2.1.cs.2.2.1
      have f3 : ∀ r : Cls (Rn1 w b b2 p q v e), r.w.cell? ⟨b2, 3, none⟩ = some (.int .i64 e) := fun r => r.h.2.1.cs.2.2.2
      haveI : Nonempty (Cls (Rn1 w b b2 p q v e)) := ⟨⟨_, hS0⟩⟩
      refine wp_region_cls (Rn1 w b b2 p q v e) (by kernel_rfl) (by kernel_rfl) (hS0.step ((Below.refl _ _).drew)) ?_
      repeat (go_big_quiet_step ((go_at_call 35; rename_i r; refine (H3.out r.w).mono ?_; rintro e' w4 ⟨rfl, hb4⟩; exact ⟨rfl, ⟨⟨w4, r.h.step hb4⟩, rfl⟩⟩)))
      refine wpQuiet_nil ?_
      rintro _ ⟨r, rfl⟩
      have hX := r.h
      clear f0 f1 f2 f3 c0 c1 c2 c3
      generalize r.w = X at hX ⊢
      clear r hS0
      go_wp2
      go_roundw
      case rel => exact ⟨k + 1, by omega, by go_num, hX.1, hX.2.2⟩
      case measure => simp [intOf]; omega
    · obtain rfl : k = 10 := by omega
      clear hT1
      obtain ⟨wq, rfl⟩ : ∃ wq : World, wq = wr := ⟨_, rfl⟩
      go_wp2_with fail
      refine (ex_format _).mono ?_
      rintro e w2 ⟨rfl, hb⟩
      have k2 := stepB k1 hb
      clear hb k1
      go_wp2_with fail
      refine (ex_args1 _).mono ?_
      rintro e w3 ⟨rfl, hb⟩
      have k3 := k2.trans (hb.mono k2.size)
      clear hb k2
      go_wp2_with fail
      refine (ex_args2 _).mono ?_
      rintro e w4 ⟨rfl, hb⟩
      have k4 := k3.trans (hb.mono k3.size)
      clear hb k3
      go_wp2_with fail
      refine (ex_args3 _).mono ?_
      rintro e w5 ⟨rfl, hb⟩
      have k5 := k4.trans (hb.mono k4.size)
      clear hb k4
      go_wp2_with fail
      refine (ex_full _ (HT.out _ k5)).mono ?_
      rintro e w6 ⟨A6, c6, rfl, hcu, hb⟩
      have k6 := k5.trans (hb.mono k5.size)
      clear hb k5
      go_wp2_with fail
      refine (ex_none _ (HT.out _ k6)).mono ?_
      rintro e w7 ⟨A7, c7, rfl, hb⟩
      have k7 := stepB k6 hb
      have hcu7 := hcu.below hb
      clear hb k6 hcu
      go_wp2_with fail
      have hT2 := (tbl2_new w7 69)
      have k8 := bal k7 (.cells #[.string ⟨#[]⟩, .int .i64 2, .string ⟨#[103]⟩, .int .i64 2, .string ⟨#[98, 97]⟩, .int .i64 2, .string ⟨#[97, 97]⟩, .int .i64 2, .string ⟨#[97, 33, 97]⟩, .int .i64 2, .string ⟨#[33]⟩, .int .i64 2, .string ⟨#[33, 33, 97]⟩, .int .i64 2, .string ⟨#[97, 42]⟩, .int .i64 2, .string ⟨#[42, 42]⟩, .int .i64 2, .string ⟨#[42]⟩, .int .i64 0, .string ⟨#[99]⟩, .int .i64 7, .string ⟨#[97, 33, 102]⟩, .int .i64 7, .string ⟨#[33, 97, 33, 98]⟩, .int .i64 0] 69)
      have hcu8 := hcu7.below (bal (Below.refl _ _) (.cells #[.string ⟨#[]⟩, .int .i64 2, .string ⟨#[103]⟩, .int .i64 2, .string ⟨#[98, 97]⟩, .int .i64 2, .string ⟨#[97, 97]⟩, .int .i64 2, .string ⟨#[97, 33, 97]⟩, .int .i64 2, .string ⟨#[33]⟩, .int .i64 2, .string ⟨#[33, 33, 97]⟩, .int .i64 2, .string ⟨#[97, 42]⟩, .int .i64 2, .string ⟨#[42, 42]⟩, .int .i64 2, .string ⟨#[42]⟩, .int .i64 0, .string ⟨#[99]⟩, .int .i64 7, .string ⟨#[97, 33, 102]⟩, .int .i64 7, .string ⟨#[33, 97, 33, 98]⟩, .int .i64 0] 69))
      obtain ⟨b3, hb3⟩ : ∃ b3, b3 = w7.heap.size := ⟨_, rfl⟩
      rw [← hb3] at hT2 ⊢
      clear hb3 hcu7 k7
      generalize w7.alloc (.cells #[.string ⟨#[]⟩, .int .i64 2, .string ⟨#[103]⟩, .int .i64 2, .string ⟨#[98, 97]⟩, .int .i64 2, .string ⟨#[97, 97]⟩, .int .i64 2, .string ⟨#[97, 33, 97]⟩, .int .i64 2, .string ⟨#[33]⟩, .int .i64 2, .string ⟨#[33, 33, 97]⟩, .int .i64 2, .string ⟨#[97, 42]⟩, .int .i64 2, .string ⟨#[42, 42]⟩, .int .i64 2, .string ⟨#[42]⟩, .int .i64 0, .string ⟨#[99]⟩, .int .i64 7, .string ⟨#[97, 33, 102]⟩, .int .i64 7, .string ⟨#[33, 97, 33, 98]⟩, .int .i64 0] 69) = wb at *
      go_loopw [142] (fun i wr => ∃ k : Nat, k ≤ 13 ∧ i = .int .i64 k ∧ Tbl2 wr b3 ∧ Cubs wr A6 [(0, 0)] ∧ Below w.heap.size w wr) (fun i _ => 13 - (intOf i).toNat)
      case atStart => exact ⟨0, by omega, rfl, hT2, hcu8, k8⟩
      case round =>
        clear hT2 hcu8 k8
        obtain ⟨k, hk, rfl, hT2, hcu8, k8⟩ := hrel
        by_cases hk13 : k < 13
        · obtain ⟨hc, hl⟩ := rows2_ok hk13
          obtain ⟨c0, c1⟩ := hT2.2 k hk13
          generalize r2 k = row at *
          obtain ⟨s, e⟩ := row
          simp only at hc hl c0 c1
          have HP := Lib.hid fun w => parse_code s 2 e w (by omega) hc
          have n0 := bal (Below.refl _ wr) (.cells #[.string ⟨s.toArray⟩, .int .i64 e] 69)
          have bx := Box2.new wr 69 (.string ⟨s.toArray⟩) (.int .i64 e)
          have a0 := bx.c0
          have a1 := bx.c1
          clear hc
          generalize (⟨s.toArray⟩ : ByteArray) = S at *
          go_wp2_with (go_at_call 49; ((with_reducible refine (HP.out _).mono ?_); rintro e' w9 ⟨p, q, rfl, hb9⟩); have n1 := bal (stepB n0 hb9) (.cells #[.int .u8 (p : Nat), .int .u8 (q : Nat)] 42); have bx1 := (bx.below hb9).alloc (.cells #[.int .u8 (p : Nat), .int .u8 (q : Nat)] 42); clear a0 a1; have a0 := bx1.c0; have a1 := bx1.c1)
          go_roundw
          case rel => exact ⟨k + 1, by omega, by go_num, hT2.below n1, hcu8.below n1, stepB k8 n1⟩
          case measure => simp [intOf]; omega
        · obtain rfl : k = 13 := by omega
          clear hT2
          obtain ⟨i0, hi, hz0, hz1, hz2⟩ := info_parts info_u8
          have P1 := Lib.hid fun w => parse_code (List.replicate 4097 0) 2 4 w (by rw [List.length_replicate]; omega) long_code
          have P2 := Lib.hid fun w => parse_code (List.replicate 4096 0) 2 2 w (by rw [List.length_replicate]; omega) zeros_code
          have P3 := Lib.hid fun w => parse_code (List.replicate 4097 0) 9 7 w (by rw [List.length_replicate]; omega) wide_code
          have V1 : Hid (∀ (X Y : World) (cap : Nat) g, Y.ownsRow X.heap.size 5 1 (.slice (some ⟨g, 0, none⟩) 4097 cap) 4097 (madeCells (Value.int .u8 0).cells (4097 * 1)).toList → (convert 45 9 (.slice (some ⟨g, 0, none⟩) 4097 cap)).run Tryd.prog Y = .ok (.string ⟨(List.replicate 4097 0).toArray⟩) Y) := fun X Y cap g h => zeros_conv h
          have V2 : Hid (∀ (X Y : World) (cap : Nat) g, Y.ownsRow X.heap.size 5 1 (.slice (some ⟨g, 0, none⟩) 4096 cap) 4096 (madeCells (Value.int .u8 0).cells (4096 * 1)).toList → (convert 45 9 (.slice (some ⟨g, 0, none⟩) 4096 cap)).run Tryd.prog Y = .ok (.string ⟨(List.replicate 4096 0).toArray⟩) Y) := fun X Y cap g h => zeros_conv h
          generalize (⟨(List.replicate 4097 0).toArray⟩ : ByteArray) = Z1 at *
          generalize (⟨(List.replicate 4096 0).toArray⟩ : ByteArray) = Z2 at *
          obtain ⟨wq2, rfl⟩ : ∃ wq : World, wq = wr := ⟨_, rfl⟩
          go_wp2_with (at_make; refine wpList_make_full wq2 rfl _ _ _ rfl wq2.heap.size 5 i0 _ 1 Tryd.underlying45 hi hz0 hz1 _ _ _ _ 4097 rfl rfl rfl rfl (by rw [hz2]; omega) (by unfold maxLen; omega) (Nat.le_refl _) ?_; intro wA hown hg; have hv := V1.out _ _ _ _ hown; have n1 : Below wq2.heap.size wq2 wA := (Below.refl _ _).grown hg (Nat.le_refl _) (fun q hq => by cases hq))
          refine (P1.out _).mono ?_
          rintro e wB ⟨p1, q1, rfl, hb⟩
          have n2 := bal (stepB n1 hb) (.cells #[.int .u8 (p1 : Nat), .int .u8 (q1 : Nat)] 42)
          clear hb hv hown hg n1
          go_wp2_with (at_make; refine wpList_make_full _ rfl _ _ _ rfl _ 5 i0 _ 1 Tryd.underlying45 hi hz0 hz1 _ _ _ _ 4096 rfl rfl rfl rfl (by rw [hz2]; omega) (by unfold maxLen; omega) (Nat.le_refl _) ?_; intro wC hown hg; have hv := V2.out _ _ _ _ hown; simp only [World.size_alloc] at hv)
          have n3 := stepB n2 ((Below.refl _ _).grown hg (Nat.le_refl _) (fun q hq => by cases hq))
          refine (P2.out _).mono ?_
          rintro e wD ⟨p2, q2, rfl, hb⟩
          have n4 := bal (stepB n3 hb) (.cells #[.int .u8 (p2 : Nat), .int .u8 (q2 : Nat)] 42)
          clear hb hv hown hg n2 n3
          go_wp2_with (at_make; refine wpList_make_full _ rfl _ _ _ rfl _ 5 i0 _ 1 Tryd.underlying45 hi hz0 hz1 _ _ _ _ 4097 rfl rfl rfl rfl (by rw [hz2]; omega) (by unfold maxLen; omega) (Nat.le_refl _) ?_; intro wE hown hg; have hv := V1.out _ _ _ _ hown; simp only [World.size_alloc] at hv)
          have n5 := stepB n4 ((Below.refl _ _).grown hg (Nat.le_refl _) (fun q hq => by cases hq))
          refine (P3.out _).mono ?_
          rintro e wF ⟨p3, q3, rfl, hb⟩
          have n6 := bal (stepB n5 hb) (.cells #[.int .u8 (p3 : Nat), .int .u8 (q3 : Nat)] 42)
          clear hb hv hown hg n4 n5
          have hcu9 := hcu8.below n6
          have k9 := stepB k8 n6
          have HS := Lib.hid (sameLit A6 c6 [(0, 0)] _ hcu9 (by decide))
          clear hcu8 hcu9 k8 n6
          go_wp2_with fail
          have H9 := HS.out
          rw [World.size_alloc] at H9
          refine H9.mono ?_
          rintro e wG ⟨rfl, hb⟩
          have k10 : Below w.heap.size w wG := k9.trans (hb.mono (by have := k9.size; simpa using this))
          clear H9 hb HS k9
          go_wp2
          exact bodyPost_ret (v := .bool true) (by simp [results, Tryd.f8, go_sem]) rfl ⟨rfl, k10⟩
end Go.Proofs.YtjjdhegkcilaiaaDoor
