/- The walk of MinimalExamples. -/
import Derived.Test.YtkgeihambgbjdaaDoorPJ
namespace Go.Proofs.YtkgeihambgbjdaaDoor.Mi
open Go Go.RowKit Go.Proofs.YtkgeihambgbjdaaDoor Go.Proofs.YtkgeihambgbjdaaDoor.Cb Go.Proofs.YtkgeihambgbjdaaDoor.Sb
open Go.Proofs.YtkgeihambgbjdaaDoor.Nf (Bys zvs bvs ret_int ret_b drew_below)
open Go.Proofs.YtkgeihambgbjdaaDoor.Dg (Tabs tb tb_mem)
set_option linter.unusedVariables false
set_option linter.unusedSimpArgs false
set_option linter.unusedSectionVars false
set_option maxRecDepth 100000
theorem tabs_row1 (Z : World) (p0 : Option Addr) (l0 : List Int) (h0 : Ints Z p0 l0) : Tabs (Z.alloc (.cells #[.slice p0 l0.length l0.length] 33)) (some ⟨Z.heap.size, 0, none⟩) [l0] := by
  have hn := World.alloc_heap_new Z (.cells #[.slice p0 l0.length l0.length] 33)
  have hc : ∀ j u, (#[Value.slice p0 l0.length l0.length])[j]? = some u → (Z.alloc (.cells #[.slice p0 l0.length l0.length] 33)).cell? ((⟨Z.heap.size, 0, none⟩ : Addr).add j) = some u := fun j u hu => by
    rw [addr_add]
    simp only [World.cell?, hn]
    simpa using hu
  have hlt : Z.heap.size < (Z.alloc (.cells #[.slice p0 l0.length l0.length] 33)).heap.size := by rw [World.size_alloc]; omega
  have KZ := bal (Below.refl Z.heap.size Z) (.cells #[.slice p0 l0.length l0.length] 33)
  intro j hj
  match j, hj with
  | 0, _ => exact ⟨_, _, _, rfl, hlt, hc 0 _ rfl, h0.below KZ⟩
theorem da_row1 (X : World) (l0 : List Int) (fs : List Bool) (V q : Int) : DaAt (((X.alloc (.cells (zvs l0).toArray 3)).alloc (.cells #[.slice (some ⟨X.heap.size, 0, none⟩) l0.length l0.length] 33)).alloc (.cells (fs.map Value.bool).toArray 4)) ⟨V, q, [l0], fs⟩ (some ⟨X.heap.size + 1, 0, none⟩) (some ⟨X.heap.size + 1 + 1, 0, none⟩) := by
  have K := fun (Y : World) (o : Obj) => bal (Below.refl Y.heap.size Y) o
  have i0 := ints_alloc X l0
  have hT := tabs_row1 _ _ l0 i0
  have hb := bools_new ((X.alloc (.cells (zvs l0).toArray 3)).alloc (.cells #[.slice (some ⟨X.heap.size, 0, none⟩) l0.length l0.length] 33)) fs
  simp only [World.size_alloc] at hT hb
  exact ⟨hT.below (K _ _), hb⟩
def nilD : Da := ⟨0, 0, [], []⟩
def sevD : Da := ⟨7, 0, [], []⟩
def badD : Da := ⟨0, 0, [[1]], [true]⟩
def samD : Da := ⟨0, 2, [[1], [0], [2]], [true, true, true]⟩
def samM : Da := ⟨0, 0, [[0]], [true]⟩
theorem nil_at (w : World) : DaAt w nilD none none := ⟨fun j hj => absurd hj (Nat.not_lt_zero _), fun j hj => absurd hj (Nat.not_lt_zero _)⟩
theorem sev_at (w : World) : DaAt w sevD none none := ⟨fun j hj => absurd hj (Nat.not_lt_zero _), fun j hj => absurd hj (Nat.not_lt_zero _)⟩
theorem nil_chk : chkD nilD = 3 := by kernel_rfl
theorem sev_chk : chkD sevD = 7 := by kernel_rfl
theorem bad_chk : chkD badD = 8 := by kernel_rfl
theorem sam_chk : chkD samD = 0 := by kernel_rfl
theorem nil_chkS : chkS nilD (-1) 9 = 3 := by kernel_rfl
theorem one_chkS1 : chkS oneD 0 3 = 8 := by kernel_rfl
theorem one_chkS2 : chkS oneD (-1) 0 = 8 := by kernel_rfl
theorem one_chkS3 : chkS oneD 3 0 = 8 := by kernel_rfl
theorem sam_cls : clsD samD 3 = [0, 0, 0] := by kernel_rfl
theorem sam_found : found (succT samD) 3 2 = some [2] := by kernel_rfl
theorem sam_min : minR (renD samD [2]) = samM := by kernel_rfl
theorem sam_pd : ∀ s ∈ ([2] : List Int), Pd samD s := by
  intro s hs
  have h : samD.nx.length = 3 := rfl
  unfold Pd
  rw [h]
  simp only [List.mem_cons, List.not_mem_nil, or_false] at hs
  omega
theorem clsD_big {d : Da} (hO : OkD d) {k m : Nat} (hk : d.nx.length ≤ k + 1) (hm : d.nx.length ≤ m + 1) : clsD d k = clsD d m :=
  clsD_same hO fun s t hs ht => (te_full hO hs ht hk).trans (te_full hO hs ht hm).symm
theorem two_far : clsD twoD (9223372036854775807 : Int).toNat = [0, 1, 2] := (clsD_big (okD_of two_chk) (m := 3) (by decide) (by decide)).trans (by kernel_rfl)
section
variable (w : World) (A B : Option Addr)
theorem sx_nil : Calls Tryd.prog 17 #[.agg #[.int .i64 0, .int .i64 0, .slice none 0 0, .slice none 0 0]] w fun e w' => e = .returned (.tuple #[.agg #[.int .i64 0, .int .i64 0, .slice none 0 0, .slice none 0 0], .int .i64 3]) ∧ Below w.heap.size w w' := by
  have := Minimize_bad nilD none none 0 0 w (nil_at w) ⟨by decide, by decide, by decide⟩ (by rw [nil_chk]; decide)
  rwa [nil_chk] at this
theorem sx_sev : Calls Tryd.prog 18 #[.agg #[.int .i64 7, .int .i64 0, .slice none 0 0, .slice none 0 0]] w fun e w' => e = .returned (.tuple #[.slice none 0 0, .int .i64 7]) ∧ Below w.heap.size w w' := by
  have := Classes_bad sevD none none 0 0 w (sev_at w) ⟨by decide, by decide, by decide⟩ (by rw [sev_chk]; decide)
  rwa [sev_chk] at this
theorem sx_bad (k1 k2 k0 : Nat) (h0 : k0 = w.heap.size) (h1 : k1 = w.heap.size + 1) (h2 : k2 = w.heap.size + 1 + 1) : Calls Tryd.prog 19 #[.agg #[.int .i64 0, .int .i64 0, .slice (some ⟨k1, 0, none⟩) 1 1, .slice (some ⟨k2, 0, none⟩) 1 1], .int .i64 3] (((w.alloc (.cells #[.int .i64 1] 3)).alloc (.cells #[.slice (some ⟨k0, 0, none⟩) 1 1] 33)).alloc (.cells #[.bool true] 4)) fun e w' => e = .returned (.tuple #[.slice none 0 0, .int .i64 8]) ∧ Below w.heap.size w w' := by
  subst h0 h1 h2
  have hb := bal (bal (bal (Below.refl w.heap.size w) (.cells #[.int .i64 1] 3)) (.cells #[.slice (some ⟨w.heap.size, 0, none⟩) 1 1] 33)) (.cells #[.bool true] 4)
  have hd : DaAt (((w.alloc (.cells #[.int .i64 1] 3)).alloc (.cells #[.slice (some ⟨w.heap.size, 0, none⟩) 1 1] 33)).alloc (.cells #[.bool true] 4)) badD (some ⟨w.heap.size + 1, 0, none⟩) (some ⟨w.heap.size + 1 + 1, 0, none⟩) := da_row1 w [1] [true] 0 0
  generalize (((w.alloc (.cells #[.int .i64 1] 3)).alloc (.cells #[.slice (some ⟨w.heap.size, 0, none⟩) 1 1] 33)).alloc (.cells #[.bool true] 4)) = Y at *
  have := Rounds_bad badD (some ⟨w.heap.size + 1, 0, none⟩) (some ⟨w.heap.size + 1 + 1, 0, none⟩) 1 1 Y hd ⟨by decide, by decide, by decide⟩ (by rw [bad_chk]; decide) 3
  rw [bad_chk] at this
  exact this.mono fun e w' h => ⟨h.1, stepB hb h.2⟩
theorem sx_dnil : Calls Tryd.prog 25 #[.agg #[.int .i64 0, .int .i64 0, .slice none 0 0, .slice none 0 0], .int .i64 (-1), .int .i64 9] w fun e w' => e = .returned (.tuple #[.slice none 0 0, .bool false, .int .i64 3]) ∧ Below w.heap.size w w' := by
  have := Distinguish_bad nilD none none 0 0 w (nil_at w) ⟨by decide, by decide, by decide⟩ (-1) 9 (by rw [nil_chkS]; decide)
  rwa [nil_chkS] at this
theorem sx_d03 (hx : DaAt w oneD A B) : Calls Tryd.prog 25 #[.agg #[.int .i64 1, .int .i64 0, .slice A 3 3, .slice B 3 3], .int .i64 0, .int .i64 3] w fun e w' => e = .returned (.tuple #[.slice none 0 0, .bool false, .int .i64 8]) ∧ Below w.heap.size w w' := by
  have := Distinguish_bad oneD A B 3 3 w hx ⟨by decide, by decide, by decide⟩ 0 3 (by rw [one_chkS1]; decide)
  rwa [one_chkS1] at this
theorem sx_dm0 (hx : DaAt w oneD A B) : Calls Tryd.prog 25 #[.agg #[.int .i64 1, .int .i64 0, .slice A 3 3, .slice B 3 3], .int .i64 (-1), .int .i64 0] w fun e w' => e = .returned (.tuple #[.slice none 0 0, .bool false, .int .i64 8]) ∧ Below w.heap.size w w' := by
  have := Distinguish_bad oneD A B 3 3 w hx ⟨by decide, by decide, by decide⟩ (-1) 0 (by rw [one_chkS2]; decide)
  rwa [one_chkS2] at this
theorem sx_e30 (hx : DaAt w oneD A B) : Calls Tryd.prog 26 #[.agg #[.int .i64 1, .int .i64 0, .slice A 3 3, .slice B 3 3], .int .i64 3, .int .i64 0] w fun e w' => e = .returned (.tuple #[.bool false, .int .i64 8]) ∧ Below w.heap.size w w' := by
  have := Equivalent_bad oneD A B 3 3 w hx ⟨by decide, by decide, by decide⟩ 3 0 (by rw [one_chkS3]; decide)
  rwa [one_chkS3] at this
theorem sx_min (hx : DaAt w samD A B) (hT : Tabs2 w) : Calls Tryd.prog 17 #[.agg #[.int .i64 0, .int .i64 2, .slice A 3 3, .slice B 3 3]] w fun e w' => ∃ A' a' B' b', e = .returned (.tuple #[.agg #[.int .i64 0, .int .i64 0, .slice A' 1 a', .slice B' 1 b'], .int .i64 0]) ∧ DaAt w' samM A' B' ∧ Below w.heap.size w w' :=
  (min_good samD A B 3 3 w hx hT sam_chk (by decide) [2] sam_found sam_pd sam_min).mono fun e w' ⟨A', a', B', b', h1, h2, h3, _⟩ => ⟨A', a', B', b', h1, h2, h3⟩
theorem sx_cls (hx : DaAt w samD A B) (hT : Tabs2 w) : Calls Tryd.prog 18 #[.agg #[.int .i64 0, .int .i64 2, .slice A 3 3, .slice B 3 3]] w fun e w' => ∃ g, e = .returned (.tuple #[.slice (some ⟨g, 0, none⟩) 3 3, .int .i64 0]) ∧ Ints w' (some ⟨g, 0, none⟩) [0, 0, 0] ∧ Below w.heap.size w w' := by
  have := classes_ints samD A B 3 3 w hx hT.tz sam_chk (by decide)
  rw [show clsD samD samD.nx.length = [0, 0, 0] from sam_cls] at this
  exact this
theorem sx_far (hx : DaAt w twoD A B) (hT : Tabs2 w) : Calls Tryd.prog 19 #[.agg #[.int .i64 0, .int .i64 0, .slice A 3 3, .slice B 3 3], .int .i64 9223372036854775807] w fun e w' => ∃ g, e = .returned (.tuple #[.slice (some ⟨g, 0, none⟩) 3 3, .int .i64 0]) ∧ Ints w' (some ⟨g, 0, none⟩) [0, 1, 2] ∧ Below w.heap.size w w' := by
  have := rounds_ints twoD A B 3 3 w hx hT.tz two_chk (by decide) 9223372036854775807 (by decide)
  rw [two_far] at this
  exact this
theorem sx_non (hx : DaAt w twoD A B) (hT : Tabs2 w) : Calls Tryd.prog 19 #[.agg #[.int .i64 0, .int .i64 0, .slice A 3 3, .slice B 3 3], .int .i64 (-9223372036854775808)] w fun e w' => ∃ g, e = .returned (.tuple #[.slice (some ⟨g, 0, none⟩) 3 3, .int .i64 0]) ∧ Ints w' (some ⟨g, 0, none⟩) [0, 0, 1] ∧ Below w.heap.size w w' := by
  have := rounds_ints twoD A B 3 3 w hx hT.tz two_chk (by decide) (-9223372036854775808) (by decide)
  rw [show clsD twoD (-9223372036854775808 : Int).toNat = [0, 0, 1] from two_cls0] at this
  exact this
theorem sx_eqd (hx : DaAt w samM A B) (a b : Nat) (X : World) (hX : Below w.heap.size w X) (k0 k1 k2 : Nat) (h0 : k0 = X.heap.size) (h1 : k1 = X.heap.size + 1) (h2 : k2 = X.heap.size + 1 + 1) : Calls Tryd.prog 20 #[.agg #[.int .i64 0, .int .i64 0, .slice A 1 a, .slice B 1 b], .agg #[.int .i64 0, .int .i64 0, .slice (some ⟨k1, 0, none⟩) 1 1, .slice (some ⟨k2, 0, none⟩) 1 1]] (((X.alloc (.cells #[.int .i64 0] 3)).alloc (.cells #[.slice (some ⟨k0, 0, none⟩) 1 1] 33)).alloc (.cells #[.bool true] 4)) fun e w' => e = .returned (.bool true) ∧ Below X.heap.size X w' := by
  subst h0 h1 h2
  have hb := bal (bal (bal (Below.refl X.heap.size X) (.cells #[.int .i64 0] 3)) (.cells #[.slice (some ⟨X.heap.size, 0, none⟩) 1 1] 33)) (.cells #[.bool true] 4)
  have hd : DaAt (((X.alloc (.cells #[.int .i64 0] 3)).alloc (.cells #[.slice (some ⟨X.heap.size, 0, none⟩) 1 1] 33)).alloc (.cells #[.bool true] 4)) samM (some ⟨X.heap.size + 1, 0, none⟩) (some ⟨X.heap.size + 1 + 1, 0, none⟩) := da_row1 X [0] [true] 0 0
  have hy := hx.below (hX.trans (hb.mono hX.size))
  generalize (((X.alloc (.cells #[.int .i64 0] 3)).alloc (.cells #[.slice (some ⟨X.heap.size, 0, none⟩) 1 1] 33)).alloc (.cells #[.bool true] 4)) = Y at *
  exact (EqualDFA_same samM A B (some ⟨X.heap.size + 1, 0, none⟩) (some ⟨X.heap.size + 1 + 1, 0, none⟩) a b 1 1 Y hy hd ⟨by decide, by decide, by decide⟩).mono fun e w' h => ⟨h.1, stepB hb h.2⟩
end
theorem sam_at (X : World) (Y : World) (hY : Y = ((((((X.alloc (.cells #[.int .i64 1] 3)).alloc (.cells #[.int .i64 0] 3)).alloc (.cells #[.int .i64 2] 3)).alloc (.cells #[.slice (some ⟨X.heap.size, 0, none⟩) 1 1, .slice (some ⟨X.heap.size + 1, 0, none⟩) 1 1, .slice (some ⟨X.heap.size + 1 + 1, 0, none⟩) 1 1] 33)).alloc (.cells #[.bool true, .bool true, .bool true] 4)).alloc (.cells #[.int .i64 0, .int .i64 2, .slice (some ⟨X.heap.size + 1 + 1 + 1, 0, none⟩) 3 3, .slice (some ⟨X.heap.size + 1 + 1 + 1 + 1, 0, none⟩) 3 3] 25))) : DaAt Y samD (some ⟨X.heap.size + 1 + 1 + 1, 0, none⟩) (some ⟨X.heap.size + 1 + 1 + 1 + 1, 0, none⟩) ∧ Blk4 Y (X.heap.size + 1 + 1 + 1 + 1 + 1) (.int .i64 0) (.int .i64 2) (.slice (some ⟨X.heap.size + 1 + 1 + 1, 0, none⟩) 3 3) (.slice (some ⟨X.heap.size + 1 + 1 + 1 + 1, 0, none⟩) 3 3) ∧ Below X.heap.size X Y := by
  have hd : DaAt (((((X.alloc (.cells #[.int .i64 1] 3)).alloc (.cells #[.int .i64 0] 3)).alloc (.cells #[.int .i64 2] 3)).alloc (.cells #[.slice (some ⟨X.heap.size, 0, none⟩) 1 1, .slice (some ⟨X.heap.size + 1, 0, none⟩) 1 1, .slice (some ⟨X.heap.size + 1 + 1, 0, none⟩) 1 1] 33)).alloc (.cells #[.bool true, .bool true, .bool true] 4)) samD (some ⟨X.heap.size + 1 + 1 + 1, 0, none⟩) (some ⟨X.heap.size + 1 + 1 + 1 + 1, 0, none⟩) := da_row3 X [1] [0] [2] [true, true, true] 0 2
  have hn := Blk4.new (((((X.alloc (.cells #[.int .i64 1] 3)).alloc (.cells #[.int .i64 0] 3)).alloc (.cells #[.int .i64 2] 3)).alloc (.cells #[.slice (some ⟨X.heap.size, 0, none⟩) 1 1, .slice (some ⟨X.heap.size + 1, 0, none⟩) 1 1, .slice (some ⟨X.heap.size + 1 + 1, 0, none⟩) 1 1] 33)).alloc (.cells #[.bool true, .bool true, .bool true] 4)) (.int .i64 0) (.int .i64 2) (.slice (some ⟨X.heap.size + 1 + 1 + 1, 0, none⟩) 3 3) (.slice (some ⟨X.heap.size + 1 + 1 + 1 + 1, 0, none⟩) 3 3)
  simp only [World.size_alloc] at hn
  subst hY
  exact ⟨hd.below (bal (Below.refl _ _) _), hn, bal (bal (bal (bal (bal (bal (Below.refl _ _) _) _) _) _) _) _⟩
set_option maxHeartbeats 16000000 in
theorem minimalExamples_walk (w : World) (hT : Tabs2 w) : Calls Tryd.prog 5 #[] w fun e w' => e = .returned (.bool true) ∧ Below w.heap.size w w' := by
  have HAw := Lib.hid (awake_any8 w hT)
  have HT := Lib.hid fun X (hX : Below w.heap.size w X) => hT.below hX
  have H1 := Lib.hid fun X => one_any X
  have H2 := Lib.hid fun X => two_any X
  have HNi := Lib.hid fun X => sx_nil X
  have HSe := Lib.hid fun X => sx_sev X
  have HBa := Lib.hid fun X k1 k2 k0 h0 h1 h2 => sx_bad X k1 k2 k0 h0 h1 h2
  have HDn := Lib.hid fun X => sx_dnil X
  have HD3 := Lib.hid fun X A B hx => sx_d03 X A B hx
  have HDm := Lib.hid fun X A B hx => sx_dm0 X A B hx
  have HE3 := Lib.hid fun X A B hx => sx_e30 X A B hx
  have HMi := Lib.hid fun X A B hx hT => sx_min X A B hx hT
  have HCl := Lib.hid fun X A B hx hT => sx_cls X A B hx hT
  have HFa := Lib.hid fun X A B hx hT => sx_far X A B hx hT
  have HNo := Lib.hid fun X A B hx hT => sx_non X A B hx hT
  have HQM := Lib.hid fun w A B hx a b X hX k0 k1 k2 h0 h1 h2 => sx_eqd w A B hx a b X hX k0 k1 k2 h0 h1 h2
  have HSa := Lib.hid fun X Y hY => sam_at X Y hY
  have HQ0 : Hid (∀ (w : World) (g : Nat) (h : Ints w (some ⟨g, 0, none⟩) [0, 0, 0]) (X : World) (hX : Below w.heap.size w X) (k : Nat) (hk : k = X.heap.size), Calls Tryd.prog 21 #[.slice (some ⟨g, 0, none⟩) 3 3, .slice (some ⟨k, 0, none⟩) 3 3] (X.alloc (.cells #[.int .i64 0, .int .i64 0, .int .i64 0] 3)) fun e w' => e = .returned (.bool true) ∧ Below X.heap.size X w') := fun w g h X hX k hk => ex_eq w [0, 0, 0] rfl g h X hX k hk
  have HQ1 : Hid (∀ (w : World) (g : Nat) (h : Ints w (some ⟨g, 0, none⟩) [0, 0, 1]) (X : World) (hX : Below w.heap.size w X) (k : Nat) (hk : k = X.heap.size), Calls Tryd.prog 21 #[.slice (some ⟨g, 0, none⟩) 3 3, .slice (some ⟨k, 0, none⟩) 3 3] (X.alloc (.cells #[.int .i64 0, .int .i64 0, .int .i64 1] 3)) fun e w' => e = .returned (.bool true) ∧ Below X.heap.size X w') := fun w g h X hX k hk => ex_eq w [0, 0, 1] rfl g h X hX k hk
  have HQ2 : Hid (∀ (w : World) (g : Nat) (h : Ints w (some ⟨g, 0, none⟩) [0, 1, 2]) (X : World) (hX : Below w.heap.size w X) (k : Nat) (hk : k = X.heap.size), Calls Tryd.prog 21 #[.slice (some ⟨g, 0, none⟩) 3 3, .slice (some ⟨k, 0, none⟩) 3 3] (X.alloc (.cells #[.int .i64 0, .int .i64 1, .int .i64 2] 3)) fun e w' => e = .returned (.bool true) ∧ Below X.heap.size X w') := fun w g h X hX k hk => ex_eq w [0, 1, 2] rfl g h X hX k hk
  clear hT
  go_enter Tryd.func5, Tryd.ntmps5
  go_upto_region 11 with (first
    | (go_at_call 12; ((with_reducible refine (HAw.out).mono ?_); rintro e w1 ⟨rfl, hb1⟩); have K := hb1; clear HAw)
    | (go_at_call 17; ((with_reducible refine (HNi.out _).mono ?_); rintro e w2 ⟨rfl, hb2⟩); have K2 := bal (Below.refl w2.heap.size w2) (.cells #[.int .i64 0, .int .i64 0, .slice none 0 0, .slice none 0 0] 25); replace K := stepB (stepB K hb2) K2; clear K2 HNi)
    | (go_at_call 18; ((with_reducible refine (HSe.out _).mono ?_); rintro e w3 ⟨rfl, hb3⟩); replace K := (stepB K hb3); (try replace Ka := (stepB Ka hb3)); (try replace Km := (stepB Km hb3)); (try replace Kl := (stepB Kl hb3)); (try replace Kf := (stepB Kf hb3)); (try replace Kn := (stepB Kn hb3)); (try clear z0 z1 z2 z3); (try replace hS := (hS.below hb3)); (try obtain ⟨z0, z1, z2, z3⟩ := hS.cells); (try clear x0 x1 x2 x3); (try replace hG := (hG.below hb3)); (try obtain ⟨x0, x1, x2, x3⟩ := hG.cells); clear HSe)
    | (go_at_call 19; ((with_reducible refine (HBa.out _ _ _ _ (by first | rfl | simp) (by first | rfl | simp) (by first | rfl | simp)).mono ?_); rintro e w4 ⟨rfl, hb4⟩); replace K := (stepB K hb4); (try replace Ka := (stepB Ka hb4)); (try replace Km := (stepB Km hb4)); (try replace Kl := (stepB Kl hb4)); (try replace Kf := (stepB Kf hb4)); (try replace Kn := (stepB Kn hb4)); (try clear z0 z1 z2 z3); (try replace hS := (hS.below hb4)); (try obtain ⟨z0, z1, z2, z3⟩ := hS.cells); (try clear x0 x1 x2 x3); (try replace hG := (hG.below hb4)); (try obtain ⟨x0, x1, x2, x3⟩ := hG.cells); clear HBa)
    | (go_at_call 25; ((with_reducible refine (HDn.out _).mono ?_); rintro e w5 ⟨rfl, hb5⟩); replace K := (stepB K hb5); (try replace Ka := (stepB Ka hb5)); (try replace Km := (stepB Km hb5)); (try replace Kl := (stepB Kl hb5)); (try replace Kf := (stepB Kf hb5)); (try replace Kn := (stepB Kn hb5)); (try clear z0 z1 z2 z3); (try replace hS := (hS.below hb5)); (try obtain ⟨z0, z1, z2, z3⟩ := hS.cells); (try clear x0 x1 x2 x3); (try replace hG := (hG.below hb5)); (try obtain ⟨x0, x1, x2, x3⟩ := hG.cells); clear HDn)
    | (go_at_call 29; ((with_reducible refine (H1.out _).mono ?_); rintro e w6 ⟨A1, B1, rfl, hx1, hb6⟩); replace K := (stepB K hb6); (try replace Ka := (stepB Ka hb6)); (try replace Km := (stepB Km hb6)); (try replace Kl := (stepB Kl hb6)); (try replace Kf := (stepB Kf hb6)); (try replace Kn := (stepB Kn hb6)); (try clear z0 z1 z2 z3); (try replace hS := (hS.below hb6)); (try obtain ⟨z0, z1, z2, z3⟩ := hS.cells); (try clear x0 x1 x2 x3); (try replace hG := (hG.below hb6)); (try obtain ⟨x0, x1, x2, x3⟩ := hG.cells))
    | (go_at_call 25; ((with_reducible refine (HD3.out _ _ _ hx1).mono ?_); rintro e w7 ⟨rfl, hb7⟩); replace K := (stepB K hb7); (try replace Ka := (stepB Ka hb7)); (try replace Km := (stepB Km hb7)); (try replace Kl := (stepB Kl hb7)); (try replace Kf := (stepB Kf hb7)); (try replace Kn := (stepB Kn hb7)); (try clear z0 z1 z2 z3); (try replace hS := (hS.below hb7)); (try obtain ⟨z0, z1, z2, z3⟩ := hS.cells); (try clear x0 x1 x2 x3); (try replace hG := (hG.below hb7)); (try obtain ⟨x0, x1, x2, x3⟩ := hG.cells); clear hx1 HD3)
    | (go_at_call 25; ((with_reducible refine (HDm.out _ _ _ hx1).mono ?_); rintro e w8 ⟨rfl, hb8⟩); replace K := (stepB K hb8); (try replace Ka := (stepB Ka hb8)); (try replace Km := (stepB Km hb8)); (try replace Kl := (stepB Kl hb8)); (try replace Kf := (stepB Kf hb8)); (try replace Kn := (stepB Kn hb8)); (try clear z0 z1 z2 z3); (try replace hS := (hS.below hb8)); (try obtain ⟨z0, z1, z2, z3⟩ := hS.cells); (try clear x0 x1 x2 x3); (try replace hG := (hG.below hb8)); (try obtain ⟨x0, x1, x2, x3⟩ := hG.cells); clear hx1 HDm)
    | (go_at_call 26; ((with_reducible refine (HE3.out _ _ _ hx1).mono ?_); rintro e w9 ⟨rfl, hb9⟩); replace K := (stepB K hb9); (try replace Ka := (stepB Ka hb9)); (try replace Km := (stepB Km hb9)); (try replace Kl := (stepB Kl hb9)); (try replace Kf := (stepB Kf hb9)); (try replace Kn := (stepB Kn hb9)); (try clear z0 z1 z2 z3); (try replace hS := (hS.below hb9)); (try obtain ⟨z0, z1, z2, z3⟩ := hS.cells); (try clear x0 x1 x2 x3); (try replace hG := (hG.below hb9)); (try obtain ⟨x0, x1, x2, x3⟩ := hG.cells); clear hx1 HE3))
  obtain ⟨hdS, hS, hbS⟩ := HSa.out w9 _ rfl
  replace K := stepB K hbS
  clear hbS HSa
  generalize ((((((w9.alloc (.cells #[.int .i64 1] 3)).alloc (.cells #[.int .i64 0] 3)).alloc (.cells #[.int .i64 2] 3)).alloc (.cells #[.slice (some ⟨w9.heap.size, 0, none⟩) 1 1, .slice (some ⟨w9.heap.size + 1, 0, none⟩) 1 1, .slice (some ⟨w9.heap.size + 1 + 1, 0, none⟩) 1 1] 33)).alloc (.cells #[.bool true, .bool true, .bool true] 4)).alloc (.cells #[.int .i64 0, .int .i64 2, .slice (some ⟨w9.heap.size + 1 + 1 + 1, 0, none⟩) 3 3, .slice (some ⟨w9.heap.size + 1 + 1 + 1 + 1, 0, none⟩) 3 3] 25)) = wS at *
  obtain ⟨z0, z1, z2, z3⟩ := hS.cells
  go_wp2_with (first
    | (go_at_call 17; ((with_reducible refine (HMi.out _ _ _ hdS (HT.out _ K)).mono ?_); rintro e w10 ⟨Am, am, Bm, bm, rfl, hdM, hb10⟩); have Km := bal (Below.refl w10.heap.size w10) (.cells #[.int .i64 0, .int .i64 0, .slice Am 1 am, .slice Bm 1 bm] 25); have hG := Blk4.new w10 (.int .i64 0) (.int .i64 0) (.slice Am 1 am) (.slice Bm 1 bm); replace K := stepB (stepB K hb10) Km; replace hdS := (hdS.below hb10).below Km; replace hS := (hS.below hb10).below Km; clear z0 z1 z2 z3 HMi; obtain ⟨z0, z1, z2, z3⟩ := hS.cells; obtain ⟨x0, x1, x2, x3⟩ := hG.cells)
    | (go_at_call 18; ((with_reducible refine (HCl.out _ _ _ hdS (HT.out _ K)).mono ?_); rintro e wl ⟨gl, rfl, hl, hb11⟩); replace K := (stepB K hb11); (try replace Ka := (stepB Ka hb11)); (try replace Km := (stepB Km hb11)); (try replace Kl := (stepB Kl hb11)); (try replace Kf := (stepB Kf hb11)); (try replace Kn := (stepB Kn hb11)); (try clear z0 z1 z2 z3); (try replace hS := (hS.below hb11)); (try obtain ⟨z0, z1, z2, z3⟩ := hS.cells); (try clear x0 x1 x2 x3); (try replace hG := (hG.below hb11)); (try obtain ⟨x0, x1, x2, x3⟩ := hG.cells); have Kl := Below.refl wl.heap.size wl; clear HCl hdS)
    | (go_at_call 30; ((with_reducible refine (H2.out _).mono ?_); rintro e w12 ⟨A2, B2, rfl, hx2, hb12⟩); replace K := (stepB K hb12); (try replace Ka := (stepB Ka hb12)); (try replace Km := (stepB Km hb12)); (try replace Kl := (stepB Kl hb12)); (try replace Kf := (stepB Kf hb12)); (try replace Kn := (stepB Kn hb12)); (try clear z0 z1 z2 z3); (try replace hS := (hS.below hb12)); (try obtain ⟨z0, z1, z2, z3⟩ := hS.cells); (try clear x0 x1 x2 x3); (try replace hG := (hG.below hb12)); (try obtain ⟨x0, x1, x2, x3⟩ := hG.cells))
    | (go_at_call 19; ((with_reducible refine (HFa.out _ _ _ hx2 (HT.out _ K)).mono ?_); rintro e wf ⟨gf, rfl, hlf, hb13⟩); replace K := (stepB K hb13); (try replace Ka := (stepB Ka hb13)); (try replace Km := (stepB Km hb13)); (try replace Kl := (stepB Kl hb13)); (try replace Kf := (stepB Kf hb13)); (try replace Kn := (stepB Kn hb13)); (try clear z0 z1 z2 z3); (try replace hS := (hS.below hb13)); (try obtain ⟨z0, z1, z2, z3⟩ := hS.cells); (try clear x0 x1 x2 x3); (try replace hG := (hG.below hb13)); (try obtain ⟨x0, x1, x2, x3⟩ := hG.cells); have Kf := Below.refl wf.heap.size wf; clear hx2 HFa)
    | (go_at_call 19; ((with_reducible refine (HNo.out _ _ _ hx2 (HT.out _ K)).mono ?_); rintro e wn ⟨gn, rfl, hln, hb14⟩); replace K := (stepB K hb14); (try replace Ka := (stepB Ka hb14)); (try replace Km := (stepB Km hb14)); (try replace Kl := (stepB Kl hb14)); (try replace Kf := (stepB Kf hb14)); (try replace Kn := (stepB Kn hb14)); (try clear z0 z1 z2 z3); (try replace hS := (hS.below hb14)); (try obtain ⟨z0, z1, z2, z3⟩ := hS.cells); (try clear x0 x1 x2 x3); (try replace hG := (hG.below hb14)); (try obtain ⟨x0, x1, x2, x3⟩ := hG.cells); have Kn := Below.refl wn.heap.size wn; clear hx2 HNo)
    | (go_at_call 20; ((with_reducible refine (HQM.out w10 Am Bm hdM am bm _ Km _ _ _ (by first | rfl | simp) (by first | rfl | simp) (by first | rfl | simp)).mono ?_); rintro e w15 ⟨rfl, hb15⟩); replace K := (stepB K hb15); (try replace Ka := (stepB Ka hb15)); (try replace Km := (stepB Km hb15)); (try replace Kl := (stepB Kl hb15)); (try replace Kf := (stepB Kf hb15)); (try replace Kn := (stepB Kn hb15)); (try clear z0 z1 z2 z3); (try replace hS := (hS.below hb15)); (try obtain ⟨z0, z1, z2, z3⟩ := hS.cells); (try clear x0 x1 x2 x3); (try replace hG := (hG.below hb15)); (try obtain ⟨x0, x1, x2, x3⟩ := hG.cells); clear HQM)
    | (go_at_call 21; ((with_reducible refine (HQ0.out wl gl hl _ Kl _ (by first | rfl | simp)).mono ?_); rintro e w16 ⟨rfl, hb16⟩); replace K := (stepB K hb16); (try replace Ka := (stepB Ka hb16)); (try replace Km := (stepB Km hb16)); (try replace Kl := (stepB Kl hb16)); (try replace Kf := (stepB Kf hb16)); (try replace Kn := (stepB Kn hb16)); (try clear z0 z1 z2 z3); (try replace hS := (hS.below hb16)); (try obtain ⟨z0, z1, z2, z3⟩ := hS.cells); (try clear x0 x1 x2 x3); (try replace hG := (hG.below hb16)); (try obtain ⟨x0, x1, x2, x3⟩ := hG.cells); clear HQ0)
    | (go_at_call 21; ((with_reducible refine (HQ2.out wf gf hlf _ Kf _ (by first | rfl | simp)).mono ?_); rintro e w17 ⟨rfl, hb17⟩); replace K := (stepB K hb17); (try replace Ka := (stepB Ka hb17)); (try replace Km := (stepB Km hb17)); (try replace Kl := (stepB Kl hb17)); (try replace Kf := (stepB Kf hb17)); (try replace Kn := (stepB Kn hb17)); (try clear z0 z1 z2 z3); (try replace hS := (hS.below hb17)); (try obtain ⟨z0, z1, z2, z3⟩ := hS.cells); (try clear x0 x1 x2 x3); (try replace hG := (hG.below hb17)); (try obtain ⟨x0, x1, x2, x3⟩ := hG.cells); clear HQ2)
    | (go_at_call 21; ((with_reducible refine (HQ1.out wn gn hln _ Kn _ (by first | rfl | simp)).mono ?_); rintro e w18 ⟨rfl, hb18⟩); replace K := (stepB K hb18); (try replace Ka := (stepB Ka hb18)); (try replace Km := (stepB Km hb18)); (try replace Kl := (stepB Kl hb18)); (try replace Kf := (stepB Kf hb18)); (try replace Kn := (stepB Kn hb18)); (try clear z0 z1 z2 z3); (try replace hS := (hS.below hb18)); (try obtain ⟨z0, z1, z2, z3⟩ := hS.cells); (try clear x0 x1 x2 x3); (try replace hG := (hG.below hb18)); (try obtain ⟨x0, x1, x2, x3⟩ := hG.cells); clear HQ1))
  go_ret
  exact ⟨rfl, K⟩
end Go.Proofs.YtkgeihambgbjdaaDoor.Mi
