/- The walk of the law CubePrimes. -/
import Derived.Test.YtjjdhegkcilaiaaDoorDB
import Derived.Test.YtjjdhegkcilaiaaDoorDL
import Derived.Test.YtjjdhegkcilaiaaDoorLR
import Derived.Test.YtjjdhegkcilaiaaDoorQC
import Derived.OwnWalk
import Derived.Deep.DeepCutAuto
namespace Go.Proofs.YtjjdhegkcilaiaaDoor
open Go Go.RowKit
set_option maxRecDepth 100000
/-- 256 marks in a row of one's own. -/
def Marks (B : Nat) (X : World) (ad : Addr) (f : Nat → Bool) : Prop :=
  (∃ g, ad = ⟨g, 0, none⟩ ∧ B ≤ g) ∧ ∀ j, j < 256 → X.frozen? (ad.add j) = false ∧ X.cell? (ad.add j) = some (.bool (f j))
theorem Marks.set {B : Nat} {X : World} {ad : Addr} {f : Nat → Bool} (h : Marks B X ad f) (t : Nat) : Marks B (X.setCell (ad.add t) (.bool true)) ad (fun j => if j = t then true else f j) := by
  obtain ⟨⟨g, rfl, hg⟩, h⟩ := h
  refine ⟨⟨g, rfl, hg⟩, fun j hj => ?_⟩
  obtain ⟨h1, h2⟩ := h j hj
  refine ⟨by rw [World.frozen?_setCell]; exact h1, ?_⟩
  by_cases e : j = t
  · subst e
    show (X.setCell _ _).cell? _ = some (Value.bool (if j = j then true else f j))
    rw [if_pos rfl]
    exact World.cell?_setCell_same _ _ _ h2
  · show (X.setCell _ _).cell? _ = some (Value.bool (if j = t then true else f j))
    rw [if_neg e, World.cell?_setCell_other _ _ _ _ (fun e2 => e (by rw [addr_add, addr_add] at e2; injection e2 with _ e3; exact e3.symm))]
    exact h2
/-- What the loops keep. -/
structure PrS (w : World) (A : Option Addr) (L : List (Nat × Nat)) (ad : Addr) (l : List Nat) (X : World) : Prop where
  c : Cubs X A L
  m : Vals X (some ad) 256 fun j => .bool (decide (j ∈ l))
  k : Below w.heap.size w X
theorem PrS.step {w : World} {A : Option Addr} {L : List (Nat × Nat)} {ad : Addr} {l : List Nat} {X Y : World} (h : PrS w A L ad l X) (hb : Below X.heap.size X Y) : PrS w A L ad l Y :=
  ⟨h.c.below hb, h.m.below hb, stepB h.k hb⟩
theorem PrS.alloc {w : World} {A : Option Addr} {L : List (Nat × Nat)} {ad : Addr} {l : List Nat} {X : World} (h : PrS w A L ad l X) (o : Obj) : PrS w A L ad l (X.alloc o) := h.step (bal (Below.refl _ _) o)
theorem Marks.new {X Y : World} {e : TypeId} {g cap : Nat} (h : Y.ownsRow X.heap.size e 1 (.slice (some ⟨g, 0, none⟩) 256 cap) 256 (madeCells (Value.bool false).cells (256 * 1)).toList) : Marks X.heap.size Y ⟨g, 0, none⟩ (fun _ => false) := by
  have e1 : (madeCells (Value.bool false).cells (256 * 1)).toList = List.replicate 256 (Value.bool false) := toList_madeCells_one (Value.bool false) 256
  rw [e1] at h
  obtain ⟨g', c', hv, hg⟩ := own_some' h (by omega)
  injection hv with hA _ hc
  injection hA with hA
  injection hA with hA
  subst hA
  refine ⟨⟨g, rfl, hg⟩, fun j hj => ⟨?_, ?_⟩⟩
  · rw [addr_add]; exact h.frozenAt j
  · rw [addr_add, h.cellAt j hj, List.getElem?_replicate, if_pos hj]
theorem Marks.vals {B : Nat} {X : World} {ad : Addr} {f : Nat → Bool} (h : Marks B X ad f) : Vals X (some ad) 256 fun j => .bool (f j) := fun j hj =>
  ⟨ad, rfl, by have := World.block_lt_of_cell? X _ (h.2 j hj).2; rwa [addr_block] at this, (h.2 j hj).2⟩
/-- The same, with the cube at hand in a block of its own. -/
def PrC (w : World) (A : Option Addr) (L : List (Nat × Nat)) (ad : Addr) (l : List Nat) (b p q : Nat) (X : World) : Prop := PrS w A L ad l X ∧ Box2 X b 42 (.int .u8 (p : Nat)) (.int .u8 (q : Nat))
theorem PrC.step {w : World} {A : Option Addr} {L : List (Nat × Nat)} {ad : Addr} {l : List Nat} {b p q : Nat} {X Y : World} (h : PrC w A L ad l b p q X) (hb : Below X.heap.size X Y) : PrC w A L ad l b p q Y := ⟨h.1.step hb, h.2.below hb⟩
/-- .. and with that without one variable. -/
def PrD (w : World) (A : Option Addr) (L : List (Nat × Nat)) (ad : Addr) (l : List Nat) (b p q d p' q' : Nat) (X : World) : Prop := PrC w A L ad l b p q X ∧ Box2 X d 42 (.int .u8 (p' : Nat)) (.int .u8 (q' : Nat))
theorem PrD.step {w : World} {A : Option Addr} {L : List (Nat × Nat)} {ad : Addr} {l : List Nat} {b p q d p' q' : Nat} {X Y : World} (h : PrD w A L ad l b p q d p' q' X) (hb : Below X.heap.size X Y) : PrD w A L ad l b p q d p' q' Y := ⟨h.1.step hb, h.2.below hb⟩
theorem cover_len {l : List Nat} {v : Nat} (hv : v ≤ 6) : (coverL l v).length ≤ 4096 := by
  refine Nat.le_trans (List.length_filter_le _ _) ?_
  have : ∀ m, (cubesTo v m).length ≤ m * 2 ^ v := by
    intro m
    induction m with
    | zero => simp [cubesTo]
    | succ m ih =>
      have he : cubesTo v (m + 1) = cubesTo v m ++ (((List.range (2 ^ v)).filter fun q => m &&& q == 0).map fun q => (m, q)) := by
        unfold cubesTo
        rw [List.range_succ, List.flatMap_append]
        simp
      rw [he, List.length_append, List.length_map, Nat.succ_mul]
      have := List.length_filter_le (fun q => m &&& q == 0) (List.range (2 ^ v))
      rw [List.length_range] at this
      omega
  have h2 := this (2 ^ v)
  have h6 := pow6 hv
  unfold cubes
  exact Nat.le_trans h2 (Nat.le_trans (Nat.mul_le_mul h6 h6) (by decide))
theorem info_bool : (Tryd.prog.info? 4).map (fun i => (i.zero, i.size, i.bytes)) = some (some (.bool false), 1, 1) := by kernel_rfl
set_option maxHeartbeats 16000000 in
theorem cubePrimes_walk (A : Option Addr) (l : List Nat) (c : Nat) (v : Int) (w : World) (hx : Bys w A l) (h8 : B8 l) (hl : l.length ≤ maxLen) (hvb : -9223372036854775808 ≤ v ∧ v ≤ 9223372036854775807) (hT : HavT w) :
    Calls Tryd.prog 11 #[.slice A l.length c, .int .i64 v] w fun e w' => e = .returned (.bool true) ∧ Below w.heap.size w w' := by
  unfold maxLen at hl
  obtain ⟨v0, v1⟩ := hvb
  have HW := Lib.hid fun w' (k : Below w.heap.size w w') => awake_any w' (hT.below k)
  by_cases h100 : 100 < l.length
  · go_enter Tryd.func11, Tryd.ntmps11
    go_wp2_with (go_at_call 40; refine (HW.out _ (Below.refl _ _)).mono ?_; rintro e w2 ⟨rfl, hb⟩)
    exact bodyPost_ret (v := .bool true) (by simp [results, Tryd.f11, go_sem]) rfl ⟨rfl, hb⟩
  · have h100' : l.length ≤ 100 := by omega
    by_cases hv : 0 ≤ v ∧ v ≤ 6
    · obtain ⟨n, rfl⟩ : ∃ n : Nat, v = n := ⟨v.toNat, by omega⟩
      have hn : n ≤ 6 := by omega
      cases ha : ascL l n with
      | false =>
        have HC := Lib.hid (Cover_arg A l c n w hn hx h8 (by omega) ha)
        clear ha hT
        have hd1 : decide ((n : Int) < 0) = false := decide_eq_false (by omega)
        have hd2 : decide (6 < (n : Int)) = false := decide_eq_false (by omega)
        go_enter Tryd.func11, Tryd.ntmps11
        go_wp2_with (first
          | (go_at_call 47; ((with_reducible refine HC.out.mono ?_); rintro e w1 ⟨rfl, hb1⟩))
          | (go_at_call 40; refine (HW.out _ hb1).mono ?_; rintro e w2 ⟨rfl, hb⟩; have k9 := stepB hb1 hb))
        exact bodyPost_ret (v := .bool true) (by simp [results, Tryd.f11, go_sem]) rfl ⟨rfl, k9⟩
      | true =>
        have HC := Lib.hid (Cover_ok A l c n w hn hx h8 (by omega) hT ha)
        have hL := cover_len (l := l) hn
        have M1 := Lib.hid fun x (hx : x < 2 ^ n) => cover_letters (l := l) hn hx
        have M2 := Lib.hid fun i (h : i < (coverL l n).length) => cover_cube hn (cd_mem h)
        have M3 := Lib.hid fun i k (hi : i < (coverL l n).length) (hk : k < (coverL l n).length) (hne : k ≠ i) => cover_alone hn hi hk hne
        have M4 := Lib.hid fun i j (h : i < j) (hj : j < (coverL l n).length) => cover_asc l n h hj
        have M5 := Lib.hid fun i (h : i < (coverL l n).length) k (hk : k < n) => cover_max hn (p := (cd (coverL l n) i).1) (q := (cd (coverL l n) i).2) (cd_mem h) hk
        have HL := Lib.hid fun w => kitLetters_any n w hn
        have h64 := pow6 hn
        generalize coverL l n = L at *
        obtain ⟨N, hN⟩ : ∃ N, N = 2 ^ n := ⟨_, rfl⟩
        rw [← hN] at M1 M5 HL h64
        clear hN ha hT
        obtain ⟨i0, hi, hz0, hz1, hz2⟩ := info_parts info_bool
        go_enter Tryd.func11, Tryd.ntmps11
        go_wp2_with (first
          | (go_at_call 47; ((with_reducible refine HC.out.mono ?_); rintro e w1 ⟨u1, rfl, ho1, hb1⟩); obtain ⟨A5, c5, rfl, hc5⟩ := own_form ho1; have hcu := own_cubs ho1 rfl; have hx1 := hx.below hb1)
          | (go_at_call 51; ((with_reducible refine (HL.out _).mono ?_); rintro e w2 ⟨rfl, rfl⟩))
          | (at_make; refine wpList_make_full w1 rfl _ _ _ rfl w1.heap.size 4 i0 _ 1 Tryd.underlying75 hi hz0 hz1 _ _ _ _ 256 rfl rfl rfl rfl (by rw [hz2]; omega) (by unfold maxLen; omega) (Nat.le_refl _) ?_; intro w2 hown hg))
        have hm0 := Marks.new hown
        have hb2 : Below w1.heap.size w1 w2 := (Below.refl _ _).grown hg (Nat.le_refl _) (fun q hq => by cases hq)
        obtain ⟨ad, had⟩ : ∃ ad : Addr, ad = ⟨w1.heap.size, 0, none⟩ := ⟨_, rfl⟩
        rw [← had] at hm0 ⊢
        clear hown hg ho1 HC had
        go_loopw [9] (fun i wr => ∃ k : Nat, k ≤ l.length ∧ i = .int .i64 k ∧ Marks w1.heap.size wr ad (fun j => decide (j ∈ l.take k)) ∧ Below w1.heap.size w1 wr) (fun i _ => l.length - (intOf i).toNat)
        case atStart => exact ⟨0, by omega, rfl, by simpa using hm0, hb2⟩
        case round =>
          clear hm0 hb2
          obtain ⟨k, hk, rfl, hm, hb⟩ := hrel
          by_cases hkl : k < l.length
          · obtain ⟨ax, rfl, hcell⟩ := (hx1.below hb).at_ hkl
            have hxk := h8.at_ k
            have hts : ∀ j, decide (j ∈ l.take (k + 1)) = if j = wd l k then true else decide (j ∈ l.take k) := by
              intro j
              rw [List.take_succ_eq_append_getElem hkl]
              have : wd l k = l[k] := by simp [wd, hkl]
              rw [this]
              have hi2 : j ∈ List.take k l ++ [l[k]] ↔ j ∈ List.take k l ∨ j = l[k] := by rw [List.mem_append, List.mem_singleton]
              rw [decide_eq_decide.2 hi2]
              by_cases e : j = l[k]
              · rw [if_pos e]; exact decide_eq_true (.inr e)
              · rw [if_neg e]; exact decide_eq_decide.2 ⟨fun h => h.resolve_right e, .inl⟩
            have hm2 : Marks w1.heap.size (wr.setCell (ad.add (wd l k)) (.bool true)) ad (fun j => decide (j ∈ l.take (k + 1))) := by
              have := hm.set (wd l k)
              have e : (fun j => decide (j ∈ l.take (k + 1))) = fun j => if j = wd l k then true else decide (j ∈ l.take k) := funext hts
              rw [e]; exact this
            obtain ⟨gf, gc⟩ := hm.2 (wd l k) hxk
            have hbl : w1.heap.size ≤ ad.block := by obtain ⟨⟨g, rfl, h⟩, _⟩ := hm; exact h
            have hkb := Below.setCell hb (p := ad.add (wd l k)) (by rw [addr_block]; omega) (.bool true)
            clear hts hb
            have HM := Lib.hid hm2
            clear hm2 hm
            generalize wd l k = x at *
            simp only at gc
            generalize decide (x ∈ List.take k l) = oldb at *
            go_wp2
            go_roundw
            case rel => exact ⟨k + 1, by omega, by go_num, HM.out, hkb⟩
            case measure => simp [intOf]; omega
          · obtain rfl : k = l.length := by omega
            rw [List.take_length] at hm
            have K : PrS w A5 L ad l wr := ⟨hcu.below hb, hm.vals, stepB hb1 hb⟩
            clear hm hcu hb hx1 hb1
            go_wp2
            obtain ⟨wq, rfl⟩ : ∃ wq : World, wq = wr := ⟨_, rfl⟩
            go_loopw [10] (fun i wr => ∃ x : Nat, x ≤ N ∧ i = .int .i64 x ∧ PrS w A5 L ad l wr) (fun i _ => N - (intOf i).toNat)
            case atStart => exact ⟨0, by omega, rfl, K⟩
            case round =>
              clear K
              obtain ⟨x, hxN, rfl, K⟩ := hrel
              by_cases hx : x < N
              · have HX := Lib.hid (M1.out x hx)
                go_wp2
                obtain ⟨wq2, rfl⟩ : ∃ wq : World, wq = wr := ⟨_, rfl⟩
                go_loopw [11, 12] (fun cv i wr => ∃ k : Nat, k ≤ L.length ∧ i = .int .i64 k ∧ cv = .bool (anyB (fun i => cHas (cd L i).1 (cd L i).2 x) k) ∧ PrS w A5 L ad l wr) (fun _ i _ => L.length - (intOf i).toNat)
                case atStart => exact ⟨0, by omega, rfl, rfl, K⟩
                case round =>
                  clear K
                  obtain ⟨k, hk, rfl, rfl, K⟩ := hrel
                  by_cases hkL : k < L.length
                  · have HB : Hid (anyB (fun i => cHas (cd L i).1 (cd L i).2 x) (k + 1) = (anyB (fun i => cHas (cd L i).1 (cd L i).2 x) k || cHas (cd L k).1 (cd L k).2 x)) := rfl
                    have hck := (M2.out k hkL).lt
                    have HH := Lib.hid fun w => Has_any (cd L k).1 (cd L k).2 x w (by omega) (by omega) (by omega)
                    obtain ⟨g5, rfl, _, e0, e1⟩ := K.c k hkL
                    generalize anyB (fun i => cHas (cd L i).1 (cd L i).2 x) k = cv at *
                    generalize hq : cd L k = ck at *
                    obtain ⟨p, q⟩ := ck
                    simp only at *
                    cases cv with
                    | true =>
                      go_wp2
                      go_roundw
                      case rel => exact ⟨k + 1, by omega, by go_num, by rw [HB.out, Bool.true_or], K⟩
                      case measure => simp [intOf]; omega
                    | false =>
                      go_wp2_with (go_at_call 36; ((with_reducible refine (HH.out _).mono ?_); rintro e w4 ⟨rfl, hb4⟩))
                      go_roundw
                      case rel => exact ⟨k + 1, by omega, by go_num, by rw [HB.out, Bool.false_or], K.step hb4⟩
                      case measure => simp [intOf]; omega
                  · obtain rfl : k = L.length := by omega
                    obtain ⟨ad', ea, hm⟩ := K.m.at_ (j := x) (by omega)
                    cases ea
                    rw [HX.out]
                    go_wp2
                    go_roundw
                    case rel => exact ⟨x + 1, by omega, by go_num, K⟩
                    case measure => simp [intOf]; omega
              · obtain rfl : x = N := by omega
                clear M1
                go_wp2
                obtain ⟨wq2, rfl⟩ : ∃ wq : World, wq = wr := ⟨_, rfl⟩
                go_loopw [13] (fun i wr => ∃ k : Nat, k ≤ L.length ∧ i = .int .i64 k ∧ PrS w A5 L ad l wr) (fun i _ => L.length - (intOf i).toNat)
                case atStart => exact ⟨0, by omega, rfl, K⟩
                case round =>
                  clear K
                  obtain ⟨i, hiL, rfl, K⟩ := hrel
                  by_cases hi : i < L.length
                  · have hC := M2.out i hi
                    have hV := fun k hk hne => M3.out i k hi hk hne
                    have hO := fun j hj => M4.out j i hj hi
                    have hM := M5.out i hi
                    obtain ⟨g5, rfl, hg5, e0, e1⟩ := K.c i hi
                    generalize hq : cd L i = ci at *
                    obtain ⟨p, q⟩ := ci
                    simp only at hC hM e0 e1
                    have hlt := hC.lt
                    have HK : Hid (∀ w, Calls Tryd.prog 35 #[.agg #[.int .u8 p, .int .u8 q], .int .i64 n] w fun e w' => e = .returned (.int .i64 0) ∧ Below w.heap.size w w') := fun w => by
                      have := Check_any p q n w (by omega) (by omega)
                      rw [hC.chk] at this
                      exact this
                    have HM := Lib.hid hM
                    have HVV := Lib.hid hV
                    have HOO := Lib.hid hO
                    clear hq hM hV hO hC
                    have hS0 : PrC w (some ⟨g5, 0, none⟩) L ad l wr.heap.size p q (wr.alloc (.cells #[.int .u8 (p : Nat), .int .u8 (q : Nat)] 42)) := ⟨K.alloc _, Box2.new wr _ _ _⟩
                    obtain ⟨b, hb⟩ : ∃ b, b = wr.heap.size := ⟨_, rfl⟩
                    go_upto_region 26 with fail
                    rw [← hb] at hS0 ⊢
                    have HBB := Lib.hid hb
                    clear K e0 e1 hb
                    generalize wr.alloc (.cells #[.int .u8 (p : Nat), .int .u8 (q : Nat)] 42) = wy at *
                    go_cut [142] from 102 to 142 (fun t wx => t = .bool false ∧ PrC w (some ⟨g5, 0, none⟩) L ad l b p q wx)
                    case first =>
                      rcases Nat.eq_zero_or_pos i with hi0 | hi0
                      · have hi1 : decide (0 < i) = false := decide_eq_false (by omega)
                        have f2 := trivial
                        have f3 := trivial
                        have f0 : ∀ r : Cls (PrC w (some ⟨g5, 0, none⟩) L ad l b p q), r.w.cell? ⟨b, 0, none⟩ = some (.int .u8 p) := fun r => r.h.2.c0
                        have f1 : ∀ r : Cls (PrC w (some ⟨g5, 0, none⟩) L ad l b p q), r.w.cell? ⟨b, 1, none⟩ = some (.int .u8 q) := fun r => r.h.2.c1
                        clear hi0
                        haveI : Nonempty (Cls (PrC w (some ⟨g5, 0, none⟩) L ad l b p q)) := ⟨⟨_, hS0⟩⟩
                        refine wp_region_cls (PrC w (some ⟨g5, 0, none⟩) L ad l b p q) (by kernel_rfl) (by kernel_rfl) (hS0.step ((Below.refl _ _).drew)) ?_
                        repeat (go_big_quiet_step (first | (go_at_call 35; rename_i r; refine (HK.out r.w).mono ?_; rintro e w4 ⟨rfl, hb4⟩; exact ⟨rfl, ⟨⟨w4, r.h.step hb4⟩, rfl⟩⟩)))
                        refine wpQuiet_nil ?_
                        rintro _ ⟨r, rfl⟩
                        have hX := r.h
                        clear f0 f1 f2 f3
                        generalize r.w = X at hX ⊢
                        clear r hS0
                        go_wp2
                        go_meet
                        exact ⟨rfl, hX⟩
                      · obtain ⟨j, hj⟩ : ∃ j, j = i - 1 := ⟨_, rfl⟩
                        have hw : IntKind.i64.wrap ((i : Int) - 1) = (j : Int) := by
                          rw [IntWalk.i64_in _ (by omega)]; omega
                        have hjb : (j : Int) < (L.length : Int) := by omega
                        have ho := HOO.out j (by omega)
                        have f2 : ∀ r : Cls (PrC w (some ⟨g5, 0, none⟩) L ad l b p q), r.w.cell? ⟨g5, j * 2, none⟩ = some (.int .u8 (cd L j).1) := fun r => by
                          obtain ⟨g, e, _, h, _⟩ := r.h.1.c j (by omega)
                          cases e; exact h
                        have f3 : ∀ r : Cls (PrC w (some ⟨g5, 0, none⟩) L ad l b p q), r.w.cell? ⟨g5, j * 2 + 1, none⟩ = some (.int .u8 (cd L j).2) := fun r => by
                          obtain ⟨g, e, _, _, h⟩ := r.h.1.c j (by omega)
                          cases e; exact h
                        have f0 : ∀ r : Cls (PrC w (some ⟨g5, 0, none⟩) L ad l b p q), r.w.cell? ⟨b, 0, none⟩ = some (.int .u8 p) := fun r => r.h.2.c0
                        have f1 : ∀ r : Cls (PrC w (some ⟨g5, 0, none⟩) L ad l b p q), r.w.cell? ⟨b, 1, none⟩ = some (.int .u8 q) := fun r => r.h.2.c1
                        clear hj
                        generalize cd L j = cj at *
                        obtain ⟨p1, q1⟩ := cj
                        unfold Lx at ho
                        simp only at f2 f3 ho
                        rcases ho with ho | ⟨he, ho⟩
                        · have hd1 : decide ((p : Int) < (p1 : Int)) = false := decide_eq_false (by omega)
                          have hd2 : decide (p < p1) = false := decide_eq_false (by omega)
                          have hd3 : ((p : Int) == (p1 : Int)) = false := by rw [beq_eq_false_iff_ne]; omega
                          haveI : Nonempty (Cls (PrC w (some ⟨g5, 0, none⟩) L ad l b p q)) := ⟨⟨_, hS0⟩⟩
                          refine wp_region_cls (PrC w (some ⟨g5, 0, none⟩) L ad l b p q) (by kernel_rfl) (by kernel_rfl) (hS0.step ((Below.refl _ _).drew)) ?_
                          repeat (go_big_quiet_step (first | (go_at_call 35; rename_i r; refine (HK.out r.w).mono ?_; rintro e w4 ⟨rfl, hb4⟩; exact ⟨rfl, ⟨⟨w4, r.h.step hb4⟩, rfl⟩⟩)))
                          refine wpQuiet_nil ?_
                          rintro _ ⟨r, rfl⟩
                          have hX := r.h
                          clear f0 f1 f2 f3
                          generalize r.w = X at hX ⊢
                          clear r hS0
                          go_wp2
                          go_meet
                          exact ⟨rfl, hX⟩
                        · have he2 := he.symm
                          subst he2
                          have hd1 : decide ((q : Int) ≤ (q1 : Int)) = false := decide_eq_false (by omega)
                          have hd2 : decide (q ≤ q1) = false := decide_eq_false (by omega)
                          haveI : Nonempty (Cls (PrC w (some ⟨g5, 0, none⟩) L ad l b p q)) := ⟨⟨_, hS0⟩⟩
                          refine wp_region_cls (PrC w (some ⟨g5, 0, none⟩) L ad l b p q) (by kernel_rfl) (by kernel_rfl) (hS0.step ((Below.refl _ _).drew)) ?_
                          repeat (go_big_quiet_step (first | (go_at_call 35; rename_i r; refine (HK.out r.w).mono ?_; rintro e w4 ⟨rfl, hb4⟩; exact ⟨rfl, ⟨⟨w4, r.h.step hb4⟩, rfl⟩⟩)))
                          refine wpQuiet_nil ?_
                          rintro _ ⟨r, rfl⟩
                          have hX := r.h
                          clear f0 f1 f2 f3
                          generalize r.w = X at hX ⊢
                          clear r hS0
                          go_wp2
                          go_meet
                          exact ⟨rfl, hX⟩
                    case rest =>
                      obtain ⟨rfl, hX⟩ := hcut
                      clear hS0
                      have hX0 := hX
                      go_wp2
                      obtain ⟨wq3, rfl⟩ : ∃ wq : World, wq = wr := ⟨_, rfl⟩
                      go_loopw [15] (fun i wr => ∃ k : Nat, k ≤ L.length ∧ i = .int .i64 k ∧ PrC w (some ⟨g5, 0, none⟩) L ad l b p q wr) (fun i _ => L.length - (intOf i).toNat)
                      case atStart => exact ⟨0, by omega, rfl, hX0⟩
                      case round =>
                        clear hX hX0
                        obtain ⟨k, hkL, rfl, hS0⟩ := hrel
                        by_cases hk : k < L.length
                        · by_cases hki : k = i
                          · have hke : (((k : Nat) : Int) != (i : Int)) = false := by rw [hki]; simp
                            have f0 := trivial
                            have f1 := trivial
                            have f2 := trivial
                            have f3 := trivial
                            clear hki
                            go_wp2
                            haveI : Nonempty (Cls (PrC w (some ⟨g5, 0, none⟩) L ad l b p q)) := ⟨⟨_, hS0⟩⟩
                            refine wp_region_cls (PrC w (some ⟨g5, 0, none⟩) L ad l b p q) (by kernel_rfl) (by kernel_rfl) (hS0.step ((Below.refl _ _).drew)) ?_
                            repeat (go_big_quiet_step (first | (go_at_call 43; rename_i r; refine (HV.out r.w).mono ?_; rintro e w4 ⟨rfl, hb4⟩; exact ⟨rfl, ⟨⟨w4, r.h.step hb4⟩, rfl⟩⟩)))
                            refine wpQuiet_nil ?_
                            rintro _ ⟨r, rfl⟩
                            have hX := r.h
                            clear f0 f1 f2 f3
                            generalize r.w = X at hX ⊢
                            clear r hS0
                            go_wp2
                            go_roundw
                            case rel => exact ⟨k + 1, by omega, by go_num, hX⟩
                            case measure => simp [intOf]; omega
                          · have hke : (((k : Nat) : Int) != (i : Int)) = true := by rw [bne_iff_ne]; omega
                            have hck := (M2.out k hk).lt
                            have hv := HVV.out k hk hki
                            have HV := Lib.hid fun w => Covers_any (cd L k).1 (cd L k).2 p q w (by omega) (by omega) (by omega) (by omega)
                            have f2 : ∀ r : Cls (PrC w (some ⟨g5, 0, none⟩) L ad l b p q), r.w.cell? ⟨g5, k * 2, none⟩ = some (.int .u8 (cd L k).1) := fun r => by
                              obtain ⟨g, e, _, h, _⟩ := r.h.1.c k hk
                              cases e; exact h
                            have f3 : ∀ r : Cls (PrC w (some ⟨g5, 0, none⟩) L ad l b p q), r.w.cell? ⟨g5, k * 2 + 1, none⟩ = some (.int .u8 (cd L k).2) := fun r => by
                              obtain ⟨g, e, _, _, h⟩ := r.h.1.c k hk
                              cases e; exact h
                            have f0 : ∀ r : Cls (PrC w (some ⟨g5, 0, none⟩) L ad l b p q), r.w.cell? ⟨b, 0, none⟩ = some (.int .u8 p) := fun r => r.h.2.c0
                            have f1 : ∀ r : Cls (PrC w (some ⟨g5, 0, none⟩) L ad l b p q), r.w.cell? ⟨b, 1, none⟩ = some (.int .u8 q) := fun r => r.h.2.c1
                            have hkb : (k : Int) < (L.length : Int) := by omega
                            generalize cd L k = ck at *
                            obtain ⟨p1, q1⟩ := ck
                            simp only at HV f2 f3
                            rw [hv] at HV
                            clear hki hv
                            go_wp2
                            haveI : Nonempty (Cls (PrC w (some ⟨g5, 0, none⟩) L ad l b p q)) := ⟨⟨_, hS0⟩⟩
                            refine wp_region_cls (PrC w (some ⟨g5, 0, none⟩) L ad l b p q) (by kernel_rfl) (by kernel_rfl) (hS0.step ((Below.refl _ _).drew)) ?_
                            repeat (go_big_quiet_step (first | (go_at_call 43; rename_i r; refine (HV.out r.w).mono ?_; rintro e w4 ⟨rfl, hb4⟩; exact ⟨rfl, ⟨⟨w4, r.h.step hb4⟩, rfl⟩⟩)))
                            refine wpQuiet_nil ?_
                            rintro _ ⟨r, rfl⟩
                            have hX := r.h
                            clear f0 f1 f2 f3
                            generalize r.w = X at hX ⊢
                            clear r hS0
                            go_wp2
                            go_roundw
                            case rel => exact ⟨k + 1, by omega, by go_num, hX⟩
                            case measure => simp [intOf]; omega
                        · obtain rfl : k = L.length := by omega
                          go_wp2
                          obtain ⟨wq4, rfl⟩ : ∃ wq : World, wq = wr := ⟨_, rfl⟩
                          go_loopw [16] (fun i wr => ∃ k : Nat, k ≤ n ∧ i = .int .i64 k ∧ PrC w (some ⟨g5, 0, none⟩) L ad l b p q wr) (fun i _ => n - (intOf i).toNat)
                          case atStart => exact ⟨0, by omega, rfl, hS0⟩
                          case round =>
                            clear hS0
                            obtain ⟨k, hkn, rfl, hX⟩ := hrel
                            by_cases hk : k < n
                            · have hMk := HM.out k hk
                              have hS0 : PrD w (some ⟨g5, 0, none⟩) L ad l b p q wr.heap.size (wo p k) (wo q k) (wr.alloc (.cells #[.int .u8 (wo p k : Nat), .int .u8 (wo q k : Nat)] 42)) := ⟨hX.step (bal (Below.refl _ _) _), Box2.new wr _ _ _⟩
                              have a0 := hX.2.c0
                              have a1 := hX.2.c1
                              have g0 := hS0.1.2.c0
                              have g1 := hS0.1.2.c1
                              have g2 := hS0.2.c0
                              have g3 := hS0.2.c1
                              have z1 := wo8 (p := p) (k := k) (by omega) (by omega)
                              have z2 := wo8 (p := q) (k := k) (by omega) (by omega)
                              have hlt2 := wo_le p k
                              have hlt3 := wo_le q k
                              generalize hp2 : wo p k = p2 at *
                              generalize hq2 : wo q k = q2 at *
                              clear hp2 hq2
                              generalize he1 : (((p2 : Nat) : Int) == (p : Int)) = e1 at *
                              generalize he2 : (((q2 : Nat) : Int) == (q : Int)) = e2 at *
                              obtain ⟨d, hd⟩ : ∃ d, d = wr.heap.size := ⟨_, rfl⟩
                              cases e1 with
                              | false =>
                                rw [Bool.false_and] at hMk
                                have HMK := Lib.hid hMk
                                clear hMk
                                go_wp2
                                clear z1 z2 he1 he2 a0 a1 g0 g1 g2 g3 hX
                                rw [← hd] at hS0 ⊢
                                clear hd
                                generalize wr.alloc (.cells #[.int .u8 (p2 : Nat), .int .u8 (q2 : Nat)] 42) = wz at *
                                go_loopw [19, 20] (fun ov i wr => ∃ y : Nat, y ≤ x ∧ i = .int .i64 y ∧ ov = .bool (false || anyB (fun x => cHas p2 q2 x && !decide (x ∈ l)) y) ∧ PrD w (some ⟨g5, 0, none⟩) L ad l b p q d p2 q2 wr) (fun _ i _ => x - (intOf i).toNat)
                                case atStart => exact ⟨0, by omega, rfl, rfl, hS0⟩
                                case round =>
                                  clear hS0
                                  obtain ⟨y, hyx, rfl, rfl, hS0⟩ := hrel
                                  by_cases hy : y < x
                                  · have HB : Hid ((false || anyB (fun x => cHas p2 q2 x && !decide (x ∈ l)) (y + 1)) = ((false || anyB (fun x => cHas p2 q2 x && !decide (x ∈ l)) y) || (cHas p2 q2 y && !decide (y ∈ l)))) := by show _ = _; rw [Bool.or_assoc]; rfl
                                    have HH := Lib.hid fun w => Has_any p2 q2 y w (by omega) (by omega) (by omega)
                                    generalize (false || anyB (fun x => cHas p2 q2 x && !decide (x ∈ l)) y) = ov at *
                                    cases ov with
                                    | true =>
                                      have HB2 : Hid ((false || anyB (fun x => cHas p2 q2 x && !decide (x ∈ l)) (y + 1)) = true) := by show _ = _; rw [HB.out, Bool.true_or]
                                      go_wp2
                                      go_roundw
                                      case rel => exact ⟨y + 1, by omega, by go_num, by rw [HB2.out], hS0⟩
                                      case measure => simp [intOf]; omega
                                    | false =>
                                      have a0 := hS0.2.c0
                                      have a1 := hS0.2.c1
                                      cases hh : cHas p2 q2 y with
                                      | false =>
                                        rw [hh] at HH
                                        have HB2 : Hid ((false || anyB (fun x => cHas p2 q2 x && !decide (x ∈ l)) (y + 1)) = false) := by show _ = _; rw [HB.out, hh]; rfl
                                        clear hh
                                        go_wp2_with (go_at_call 36; ((with_reducible refine (HH.out _).mono ?_); rintro e w4 ⟨rfl, hb4⟩); have hX := hS0.step hb4; clear a0 a1 hb4)
                                        go_roundw
                                        case rel => exact ⟨y + 1, by omega, by go_num, by rw [HB2.out], hX⟩
                                        case measure => simp [intOf]; omega
                                      | true =>
                                        rw [hh] at HH
                                        have HB2 : Hid ((false || anyB (fun x => cHas p2 q2 x && !decide (x ∈ l)) (y + 1)) = !decide (y ∈ l)) := by show _ = _; rw [HB.out, hh, Bool.false_or, Bool.true_and]
                                        clear HB
                                        have hy256 : (y : Int) < 256 := by omega
                                        have HMm : Hid (∀ X, PrD w (some ⟨g5, 0, none⟩) L ad l b p q d p2 q2 X → X.cell? (ad.add y) = some (.bool (decide (y ∈ l)))) := fun X h => by
                                          obtain ⟨ad', ea, h⟩ := h.1.1.m.at_ (j := y) (by omega)
                                          cases ea; exact h
                                        generalize decide (y ∈ l) = iy at *
                                        clear hh
                                        go_wp2_with (go_at_call 36; ((with_reducible refine (HH.out _).mono ?_); rintro e w4 ⟨rfl, hb4⟩); have hX := hS0.step hb4; clear a0 a1 hb4; have a2 := HMm.out _ hX)
                                        go_roundw
                                        case rel => exact ⟨y + 1, by omega, by go_num, by rw [HB2.out], hX⟩
                                        case measure => simp [intOf]; omega
                                  · obtain rfl : y = x := by omega
                                    rw [HMK.out]
                                    go_wp2
                                    go_roundw
                                    case rel => exact ⟨k + 1, by omega, by go_num, hS0.1⟩
                                    case measure => simp [intOf]; omega
                              | true =>
                                cases e2 with
                                | false =>
                                  rw [Bool.true_and] at hMk
                                  have HMK := Lib.hid hMk
                                  clear hMk
                                  go_wp2
                                  clear z1 z2 he1 he2 a0 a1 g0 g1 g2 g3 hX
                                  rw [← hd] at hS0 ⊢
                                  clear hd
                                  generalize wr.alloc (.cells #[.int .u8 (p2 : Nat), .int .u8 (q2 : Nat)] 42) = wz at *
                                  go_loopw [19, 20] (fun ov i wr => ∃ y : Nat, y ≤ x ∧ i = .int .i64 y ∧ ov = .bool (false || anyB (fun x => cHas p2 q2 x && !decide (x ∈ l)) y) ∧ PrD w (some ⟨g5, 0, none⟩) L ad l b p q d p2 q2 wr) (fun _ i _ => x - (intOf i).toNat)
                                  case atStart => exact ⟨0, by omega, rfl, rfl, hS0⟩
                                  case round =>
                                    clear hS0
                                    obtain ⟨y, hyx, rfl, rfl, hS0⟩ := hrel
                                    by_cases hy : y < x
                                    · have HB : Hid ((false || anyB (fun x => cHas p2 q2 x && !decide (x ∈ l)) (y + 1)) = ((false || anyB (fun x => cHas p2 q2 x && !decide (x ∈ l)) y) || (cHas p2 q2 y && !decide (y ∈ l)))) := by show _ = _; rw [Bool.or_assoc]; rfl
                                      have HH := Lib.hid fun w => Has_any p2 q2 y w (by omega) (by omega) (by omega)
                                      generalize (false || anyB (fun x => cHas p2 q2 x && !decide (x ∈ l)) y) = ov at *
                                      cases ov with
                                      | true =>
                                        have HB2 : Hid ((false || anyB (fun x => cHas p2 q2 x && !decide (x ∈ l)) (y + 1)) = true) := by show _ = _; rw [HB.out, Bool.true_or]
                                        go_wp2
                                        go_roundw
                                        case rel => exact ⟨y + 1, by omega, by go_num, by rw [HB2.out], hS0⟩
                                        case measure => simp [intOf]; omega
                                      | false =>
                                        have a0 := hS0.2.c0
                                        have a1 := hS0.2.c1
                                        cases hh : cHas p2 q2 y with
                                        | false =>
                                          rw [hh] at HH
                                          have HB2 : Hid ((false || anyB (fun x => cHas p2 q2 x && !decide (x ∈ l)) (y + 1)) = false) := by show _ = _; rw [HB.out, hh]; rfl
                                          clear hh
                                          go_wp2_with (go_at_call 36; ((with_reducible refine (HH.out _).mono ?_); rintro e w4 ⟨rfl, hb4⟩); have hX := hS0.step hb4; clear a0 a1 hb4)
                                          go_roundw
                                          case rel => exact ⟨y + 1, by omega, by go_num, by rw [HB2.out], hX⟩
                                          case measure => simp [intOf]; omega
                                        | true =>
                                          rw [hh] at HH
                                          have HB2 : Hid ((false || anyB (fun x => cHas p2 q2 x && !decide (x ∈ l)) (y + 1)) = !decide (y ∈ l)) := by show _ = _; rw [HB.out, hh, Bool.false_or, Bool.true_and]
                                          clear HB
                                          have hy256 : (y : Int) < 256 := by omega
                                          have HMm : Hid (∀ X, PrD w (some ⟨g5, 0, none⟩) L ad l b p q d p2 q2 X → X.cell? (ad.add y) = some (.bool (decide (y ∈ l)))) := fun X h => by
                                            obtain ⟨ad', ea, h⟩ := h.1.1.m.at_ (j := y) (by omega)
                                            cases ea; exact h
                                          generalize decide (y ∈ l) = iy at *
                                          clear hh
                                          go_wp2_with (go_at_call 36; ((with_reducible refine (HH.out _).mono ?_); rintro e w4 ⟨rfl, hb4⟩); have hX := hS0.step hb4; clear a0 a1 hb4; have a2 := HMm.out _ hX)
                                          go_roundw
                                          case rel => exact ⟨y + 1, by omega, by go_num, by rw [HB2.out], hX⟩
                                          case measure => simp [intOf]; omega
                                    · obtain rfl : y = x := by omega
                                      rw [HMK.out]
                                      go_wp2
                                      go_roundw
                                      case rel => exact ⟨k + 1, by omega, by go_num, hS0.1⟩
                                      case measure => simp [intOf]; omega
                                | true =>
                                  rw [Bool.true_and] at hMk
                                  have HMK := Lib.hid hMk
                                  clear hMk
                                  go_wp2
                                  clear z1 z2 he1 he2 a0 a1 g0 g1 g2 g3 hX
                                  rw [← hd] at hS0 ⊢
                                  clear hd
                                  generalize wr.alloc (.cells #[.int .u8 (p2 : Nat), .int .u8 (q2 : Nat)] 42) = wz at *
                                  go_loopw [19, 20] (fun ov i wr => ∃ y : Nat, y ≤ x ∧ i = .int .i64 y ∧ ov = .bool (true || anyB (fun x => cHas p2 q2 x && !decide (x ∈ l)) y) ∧ PrD w (some ⟨g5, 0, none⟩) L ad l b p q d p2 q2 wr) (fun _ i _ => x - (intOf i).toNat)
                                  case atStart => exact ⟨0, by omega, rfl, rfl, hS0⟩
                                  case round =>
                                    clear hS0
                                    obtain ⟨y, hyx, rfl, rfl, hS0⟩ := hrel
                                    by_cases hy : y < x
                                    · have HB : Hid ((true || anyB (fun x => cHas p2 q2 x && !decide (x ∈ l)) (y + 1)) = ((true || anyB (fun x => cHas p2 q2 x && !decide (x ∈ l)) y) || (cHas p2 q2 y && !decide (y ∈ l)))) := by show _ = _; rw [Bool.or_assoc]; rfl
                                      have HH := Lib.hid fun w => Has_any p2 q2 y w (by omega) (by omega) (by omega)
                                      generalize (true || anyB (fun x => cHas p2 q2 x && !decide (x ∈ l)) y) = ov at *
                                      cases ov with
                                      | true =>
                                        have HB2 : Hid ((true || anyB (fun x => cHas p2 q2 x && !decide (x ∈ l)) (y + 1)) = true) := by show _ = _; rw [HB.out, Bool.true_or]
                                        go_wp2
                                        go_roundw
                                        case rel => exact ⟨y + 1, by omega, by go_num, by rw [HB2.out], hS0⟩
                                        case measure => simp [intOf]; omega
                                      | false =>
                                        have a0 := hS0.2.c0
                                        have a1 := hS0.2.c1
                                        cases hh : cHas p2 q2 y with
                                        | false =>
                                          rw [hh] at HH
                                          have HB2 : Hid ((true || anyB (fun x => cHas p2 q2 x && !decide (x ∈ l)) (y + 1)) = false) := by show _ = _; rw [HB.out, hh]; rfl
                                          clear hh
                                          go_wp2_with (go_at_call 36; ((with_reducible refine (HH.out _).mono ?_); rintro e w4 ⟨rfl, hb4⟩); have hX := hS0.step hb4; clear a0 a1 hb4)
                                          go_roundw
                                          case rel => exact ⟨y + 1, by omega, by go_num, by rw [HB2.out], hX⟩
                                          case measure => simp [intOf]; omega
                                        | true =>
                                          rw [hh] at HH
                                          have HB2 : Hid ((true || anyB (fun x => cHas p2 q2 x && !decide (x ∈ l)) (y + 1)) = !decide (y ∈ l)) := by show _ = _; rw [HB.out, hh, Bool.false_or, Bool.true_and]
                                          clear HB
                                          have hy256 : (y : Int) < 256 := by omega
                                          have HMm : Hid (∀ X, PrD w (some ⟨g5, 0, none⟩) L ad l b p q d p2 q2 X → X.cell? (ad.add y) = some (.bool (decide (y ∈ l)))) := fun X h => by
                                            obtain ⟨ad', ea, h⟩ := h.1.1.m.at_ (j := y) (by omega)
                                            cases ea; exact h
                                          generalize decide (y ∈ l) = iy at *
                                          clear hh
                                          go_wp2_with (go_at_call 36; ((with_reducible refine (HH.out _).mono ?_); rintro e w4 ⟨rfl, hb4⟩); have hX := hS0.step hb4; clear a0 a1 hb4; have a2 := HMm.out _ hX)
                                          go_roundw
                                          case rel => exact ⟨y + 1, by omega, by go_num, by rw [HB2.out], hX⟩
                                          case measure => simp [intOf]; omega
                                    · obtain rfl : y = x := by omega
                                      rw [HMK.out]
                                      go_wp2
                                      go_roundw
                                      case rel => exact ⟨k + 1, by omega, by go_num, hS0.1⟩
                                      case measure => simp [intOf]; omega
                            · obtain rfl : k = n := by omega
                              go_wp2
                              go_roundw
                              case rel => exact ⟨i + 1, by omega, by go_num, hX.1⟩
                              case measure => simp [intOf]; omega
                  · obtain rfl : i = L.length := by omega
                    go_wp2_with (go_at_call 40; refine (HW.out _ K.k).mono ?_; rintro e w2 ⟨rfl, hb⟩; have k9 := stepB K.k hb)
                    exact bodyPost_ret (v := .bool true) (by simp [results, Tryd.f11, go_sem]) rfl ⟨rfl, k9⟩
    · have HC := Lib.hid (Cover_vars A l.length c v w hv)
      clear hT
      go_enter Tryd.func11, Tryd.ntmps11
      by_cases hd1 : v < 0
      · go_wp2_with (first
          | (go_at_call 47; ((with_reducible refine HC.out.mono ?_); rintro e w1 ⟨rfl, hb1⟩))
          | (go_at_call 40; refine (HW.out _ hb1).mono ?_; rintro e w2 ⟨rfl, hb⟩; have k9 := stepB hb1 hb))
        exact bodyPost_ret (v := .bool true) (by simp [results, Tryd.f11, go_sem]) rfl ⟨rfl, k9⟩
      · have hd2 : 6 < v := by omega
        go_wp2_with (first
          | (go_at_call 47; ((with_reducible refine HC.out.mono ?_); rintro e w1 ⟨rfl, hb1⟩))
          | (go_at_call 40; refine (HW.out _ hb1).mono ?_; rintro e w2 ⟨rfl, hb⟩; have k9 := stepB hb1 hb))
        exact bodyPost_ret (v := .bool true) (by simp [results, Tryd.f11, go_sem]) rfl ⟨rfl, k9⟩
end Go.Proofs.YtjjdhegkcilaiaaDoor
