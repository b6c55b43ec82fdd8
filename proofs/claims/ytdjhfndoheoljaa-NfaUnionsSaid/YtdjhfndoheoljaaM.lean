/- Of, and what is made with it: With, Without; Has. -/
import Derived.Test.YtdjhfndoheoljaaK
namespace Go.Proofs.Ytdjhfndoheoljaa
open Go Go.RowKit
set_option maxRecDepth 100000
/-- xs, lengthened by zero words to n words. -/
def grow (xs : List Nat) (n : Nat) : List Nat := xs ++ List.replicate (n - xs.length) 0
def setBit (xs : List Nat) (k : Nat) : List Nat := (grow xs (k / 64 + 1)).set (k / 64) (wd xs (k / 64) ||| 2 ^ (k % 64))
def addI (xs : List Nat) (k : Int) : List Nat := if 0 ≤ k ∧ k ≤ 4095 then setBit xs k.toNat else xs
def ofTo (l : List Int) : Nat → List Nat
  | 0 => []
  | n + 1 => addI (ofTo l n) (nd l n)
def ofL (l : List Int) : List Nat := ofTo l l.length
theorem grow_len (xs : List Nat) (n : Nat) : (grow xs n).length = max xs.length n := by
  simp [grow]; omega
theorem wd_grow (xs : List Nat) (n j : Nat) : wd (grow xs n) j = wd xs j := by
  unfold wd grow
  simp only [List.getD_eq_getElem?_getD, List.getElem?_append]
  by_cases h : j < xs.length
  · simp [h]
  · simp only [h, if_false]
    rw [List.getElem?_eq_none (by omega : xs.length ≤ j), List.getElem?_replicate]
    split <;> rfl
theorem setBit_len (xs : List Nat) (k : Nat) : (setBit xs k).length = max xs.length (k / 64 + 1) := by
  unfold setBit
  rw [List.length_set, grow_len]
theorem setBit_u64 {xs : List Nat} (h : U64 xs) (k : Nat) : U64 (setBit xs k) := by
  intro x hx
  unfold setBit at hx
  have hb : (2 : Nat) ^ (k % 64) < 2 ^ 64 := Nat.pow_lt_pow_right (by omega) (by omega)
  rcases List.mem_or_eq_of_mem_set hx with h1 | h1
  · unfold grow at h1
    rcases List.mem_append.1 h1 with h2 | h2
    · exact h x h2
    · rw [(List.mem_replicate.1 h2).2]; decide
  · rw [h1]; exact Nat.or_lt_two_pow (h.at_ _) hb
theorem addI_ok {xs : List Nat} (h : U64 xs) (hl : xs.length ≤ 64) (k : Int) : U64 (addI xs k) ∧ (addI xs k).length ≤ 64 := by
  unfold addI
  split
  · refine ⟨setBit_u64 h _, ?_⟩
    rw [setBit_len]; omega
  · exact ⟨h, hl⟩
theorem ofTo_ok (l : List Int) : ∀ n, U64 (ofTo l n) ∧ (ofTo l n).length ≤ 64
  | 0 => ⟨(fun x hx => by cases hx), Nat.zero_le _⟩
  | n + 1 => addI_ok (ofTo_ok l n).1 (ofTo_ok l n).2 _
theorem uvs_app (xs ys : List Nat) : uvs (xs ++ ys) = uvs xs ++ uvs ys := by simp [uvs]
theorem uvs_grow (ys : List Nat) (t : Nat) : uvs (ys ++ List.replicate t 0) ++ [.int .u64 0] = uvs (ys ++ List.replicate (t + 1) 0) := by
  rw [List.replicate_succ', ← List.append_assoc, uvs_app _ [0]]
  rfl
theorem uvs_set (xs : List Nat) (i x : Nat) : (uvs xs).set i (.int .u64 (x : Int)) = uvs (xs.set i x) := by
  simp [uvs, List.map_set]
theorem own_some {w : World} {base e n : Nat} {v : Value} {xs : List Value} (h : w.ownsRow base e 1 v n xs) (hn : 0 < n) : ∃ g c, v = .slice (some ⟨g, 0, none⟩) n c ∧ base ≤ g := by
  rcases h.2 with ⟨_, h0⟩ | ⟨g, cap, cur, rfl, h1, _⟩
  · omega
  · exact ⟨_, _, rfl, h1⟩
/-- The length that a slice value bears. -/
def sliceLen : Value → Nat
  | .slice _ n _ => n
  | _ => 0
set_option maxHeartbeats 1000000 in
theorem Of_any (A : Option Addr) (l : List Int) (c : Nat) (w : World) (hx : Ints w A l) (hl : l.length ≤ maxLen) :
    Calls Try.prog 24 #[.slice A l.length c] w fun e w' =>
      ∃ v, e = .returned v ∧ w'.ownsRow w.heap.size 44 1 v (ofL l).length (uvs (ofL l)) ∧ Below w.heap.size w w' := by
  unfold maxLen at hl
  obtain ⟨i0, hi, hz0, hz1, hz2⟩ := info_parts info_u64
  go_enter Try.func24, Try.ntmps24
  go_wp2
  go_loopw [3, 10] (fun s i wr => ∃ (k : Nat) (ys : List Nat), k ≤ l.length ∧ i = .int .i64 k ∧ Hid (ys = ofTo l k) ∧ wr.ownsRow w.heap.size 44 1 s ys.length (uvs ys) ∧ Below w.heap.size w wr) (fun _ i _ => l.length - (intOf i).toNat)
  case atStart => exact ⟨0, [], by omega, rfl, rfl, ⟨rfl, .inl ⟨rfl, rfl⟩⟩, Below.refl _ _⟩
  case round =>
    obtain ⟨k, ys, hk, rfl, HY, ho, hb⟩ := hrel
    have hys : U64 ys ∧ ys.length ≤ 64 := by rw [HY.out]; exact ofTo_ok l k
    obtain ⟨uy, ly⟩ := hys
    obtain ⟨sA, sc, rfl, hsc⟩ := own_form ho
    by_cases hlt : k < l.length
    · obtain ⟨ad, rfl, hcell⟩ := (hx.below hb).at_ hlt
      have HS : Hid (ofTo l (k + 1) = addI ys (nd l k)) := by
        show addI (ofTo l k) (nd l k) = _
        rw [HY.out]
      generalize nd l k = z at *
      clear HY
      by_cases hz : 0 ≤ z ∧ z ≤ 4095
      · have HS' : Hid (ofTo l (k + 1) = setBit ys z.toNat) := by
          show _ = _
          rw [HS.out, addI, if_pos hz]
        have hrng := inRange_any z wr
        rw [decide_eq_true hz] at hrng
        have HR := Lib.hid hrng
        obtain ⟨z0, z1⟩ := hz
        obtain ⟨m, rfl⟩ := Int.eq_ofNat_of_zero_le z0
        rw [Int.toNat_natCast] at HS'
        have hm : m ≤ 4095 := by omega
        have HP := Lib.hid (place_any m wr hm)
        clear hrng HS z0 z1
        have hbit : 2 ^ (m % 64) < 2 ^ 64 := Nat.pow_lt_pow_right (by omega) (by omega)
        have HSB : Hid (setBit ys m = (grow ys (m / 64 + 1)).set (m / 64) (wd ys (m / 64) ||| 2 ^ (m % 64))) := rfl
        obtain ⟨p, hp⟩ : ∃ p : Nat, p = 2 ^ (m % 64) := ⟨_, rfl⟩
        obtain ⟨i, hi'⟩ : ∃ i : Nat, i = m / 64 := ⟨_, rfl⟩
        have hi64 : i < 64 := by omega
        rw [← hp] at HP HSB hbit
        rw [← hi'] at HP HSB
        clear hp hi'
        go_wp2_with (first
          | (go_at_call 43; refine HR.out.mono ?_; rintro e w' ⟨rfl, rfl⟩)
          | (go_at_call 44; refine HP.out.mono ?_; rintro e w' ⟨rfl, nq, rfl⟩))
        have ho1 : (wr.drewN nq).ownsRow w.heap.size 44 1 (.slice sA ys.length sc) ys.length (uvs ys) := ho
        have hb1 := below_drewN_k hb nq
        have lz : ys.length ≤ 64 := ly
        clear ho hb hcell HR HP
        generalize wr.drewN nq = wo at *
        go_loopw [3] (fun s wr2 => ∃ n t : Nat, Hid (n = ys.length + t) ∧ t ≤ i + 1 - ys.length ∧ n ≤ 64 ∧ wr2.ownsRow w.heap.size 44 1 s n (uvs (ys ++ List.replicate t 0)) ∧ Below w.heap.size w wr2) (fun s _ => 65 - sliceLen s)
        case atStart => exact ⟨ys.length, 0, rfl, by omega, by omega, by simpa using ho1, hb1⟩
        case round =>
          clear ho1 hb1
          obtain ⟨n, t, HN, ht, hn, ho2, hb2⟩ := hrel
          obtain ⟨sA2, sc2, rfl, hsc2⟩ := own_form ho2
          by_cases hle : n ≤ i
          · have ht2 : t + 1 ≤ i + 1 - ys.length := by have := HN.out; omega
            have HN2 : Hid (n + 1 = ys.length + (t + 1)) := by have := HN.out; show _ = _; omega
            go_wp2_with (at_builtin; refine wpList_append_own _ rfl _ _ 39 rfl w.heap.size 44 i0 (.int .u64 0) 1 8 Try.underlying39 hi hz0 hz1 hz2 rfl (by decide) _ _ _ rfl (ho2.alloc _) ⟨wr.heap.size, 0, none⟩ 1 1 [.int .u64 0] rfl rfl (cell_one_new _ _ _) (by simp [Value.oneCell']) (by unfold maxLen; omega) (by omega) (by have := hb2.size; simp; omega) ?_; intro v' w2 hown' hgrow _)
            rw [uvs_grow] at hown'
            have hb3 : Below w.heap.size w w2 := (hb2.alloc hb2.size _).grown hgrow (by have := hb2.size; simp; omega) (fun j hj => (ho2.lt j hj).1)
            obtain ⟨g', cap', rfl⟩ := ownsRow_succ hown'
            go_roundw
            case rel => exact ⟨n + 1, t + 1, HN2, ht2, by omega, hown', hb3⟩
            case measure => simp [sliceLen]; omega
          · have HN2 := HN.out
            have ht2 : t = i + 1 - ys.length := by omega
            have hgr : ys ++ List.replicate t 0 = grow ys (i + 1) := by rw [ht2]; rfl
            have hgl : (grow ys (i + 1)).length = n := by rw [grow_len]; omega
            rw [hgr] at ho2
            obtain ⟨g, c', hv, hg⟩ := own_some ho2 (by omega)
            injection hv with hv _ _
            subst hv
            have hcell := ho2.cellAt i (by omega)
            rw [uvs_get _ _ (by omega), wd_grow] at hcell
            have hfr := ho2.frozenAt i
            have hst := (ho2.stored i (.int .u64 ((wd ys i ||| p : Nat) : Int))).1
            rw [uvs_set, ← HSB.out] at hst
            have hsl : (setBit ys m).length = n := by rw [HSB.out, List.length_set, hgl]
            have hb3 := hb2.setCell (p := ⟨g, i, none⟩) hg (.int .u64 ((wd ys i ||| p : Nat) : Int))
            have hor : Hid (bits BinOp.or IntKind.u64 ((wd ys i : Nat) : Int) (p : Int) = ((wd ys i ||| p : Nat) : Int)) := u64_or_nat _ _ (uy.at_ i) hbit
            have HSL := Lib.hid hsl
            have HST := Lib.hid hst
            clear hst hsl hgr hgl ht2 HN2 ho2
            have hin : i < n := by omega
            go_wp2
            rw [hor.out]
            go_roundw
            case rel => exact ⟨k + 1, setBit ys m, by omega, by go_num, HS'.out.symm, by rw [HSL.out]; exact HST.out, hb3⟩
            case measure => simp [intOf]; omega
      · have HS' : Hid (ofTo l (k + 1) = ys) := by
          show _ = _
          rw [HS.out, addI, if_neg hz]
        have hrng := inRange_any z wr
        rw [decide_eq_false hz] at hrng
        have HR := Lib.hid hrng
        clear hrng HS hz
        go_wp2_with (go_at_call 43; refine HR.out.mono ?_; rintro e w' ⟨rfl, rfl⟩)
        go_roundw
        case rel => exact ⟨k + 1, ys, by omega, by go_num, HS'.out.symm, ho, hb⟩
        case measure => simp [intOf]; omega
    · obtain rfl : k = l.length := by omega
      have hf : ys = ofL l := HY.out
      have HF := Lib.hid hf
      clear hf HY
      go_wp2
      go_ret
      refine ⟨_, rfl, ?_, hb⟩
      rw [← HF.out]
      exact ho
theorem Of_own (A : Option Addr) (l : List Int) (c : Nat) (w : World) (hx : Ints w A l) (hl : l.length ≤ maxLen) :
    Calls Try.prog 24 #[.slice A l.length c] w fun e w' =>
      ∃ A' c', e = .returned (.slice A' (ofL l).length c') ∧ OwnW w.heap.size w' A' c' (ofL l) ∧ Below w.heap.size w w' :=
  (Of_any A l c w hx hl).mono fun e w' ⟨v, he, ho, hb⟩ => by
    obtain ⟨A', c', rfl, hc⟩ := own_form ho
    exact ⟨A', c', he, ⟨ho, (ofTo_ok l _).1, hc⟩, hb⟩
theorem addr_add (b j : Nat) : (⟨b, 0, none⟩ : Addr).add j = ⟨b, j, none⟩ := by
  unfold Addr.add
  split
  · rename_i h; rw [h]
  · simp
theorem ints_new (W : World) (t : TypeId) (l : List Int) : Ints (W.alloc (.cells (l.map (Value.int .i64)).toArray t)) (some ⟨W.heap.size, 0, none⟩) l := by
  intro j hj
  refine ⟨_, rfl, by simp, ?_⟩
  rw [addr_add, World.cell?_alloc_at _ _ _ _ rfl]
  simp [nd, hj]
theorem words_new (W : World) (t : TypeId) (l : List Nat) : Words (W.alloc (.cells (uvs l).toArray t)) (some ⟨W.heap.size, 0, none⟩) l := by
  intro j hj
  refine ⟨_, rfl, by simp, ?_⟩
  rw [addr_add, World.cell?_alloc_at _ _ _ _ rfl]
  simp [uvs, wd, hj]
end Go.Proofs.Ytdjhfndoheoljaa
