/- The reference's text of an expression, and its Format. -/
import Derived.Test.YtlaagjmfgaccjaaUA
import Derived.Test.YtlaagjmfgaccjaaQC
namespace Go.Proofs.Ytlaagjmfgaccjaa.Rx
open Go Go.RowKit Go.Proofs.Ytlaagjmfgaccjaa
set_option linter.unusedVariables false
set_option maxRecDepth 100000
theorem str_eq {a b : ByteArray} (h : a = b) : Ending.returned (.string a) = .returned (.string b) := by rw [h]
set_option maxHeartbeats 8000000 in
theorem text_any (A : Option Addr) (e : List Pc) (c : Nat) (v : Int) (hl : e.length ≤ 1000000) : ∀ (t : Ex) (s j : Nat) (w : World), PcsAt w A e → t.Ok → t.Cubes v → t.size ≤ 1000 → Bl e s j t →
    Calls Try.prog 39 #[.slice A e.length c, .int .i64 j] w fun r w' => r = .returned (.string ⟨(txt t).toArray⟩) ∧ Below w.heap.size w w'
  | .leaf op p q, s, j, w, hx, ho, hv, hs, hb => by
    have hj := bl_lt hb
    obtain ⟨hok, ad, rfl, _, hc⟩ := hx j hj
    obtain ⟨f0, f1, f2, f3, f4⟩ := five_at hc
    rw [bl_leaf' hb] at f0 f1 f2 f3 f4 hok
    dsimp only at f0 f1 f2 f3 f4
    have h1 := ho.1
    have hj2 : (j : Int) < e.length := by omega
    have hF : Hid (op = 3 → ∀ X, Calls Try.prog 68 #[.agg #[.int .u8 p, .int .u8 q], .int .i64 6] X fun r X' => r = .returned (.tuple #[.string ⟨(fmtT p q).toArray⟩, .int .i64 0]) ∧ Below X.heap.size X X') := fun h3 X => by
      obtain ⟨n, _, hC⟩ := chk_ok (hv h3)
      have hC6 : Cube p q 6 := ⟨Nat.le_refl _, Nat.lt_of_lt_of_le hC.2.1 (Nat.pow_le_pow_right (by decide) hC.1), Nat.lt_of_lt_of_le hC.2.2.1 (Nat.pow_le_pow_right (by decide) hC.1), hC.2.2.2⟩
      exact refFormat_ok p q 6 X hC6
    have hT := fmtT_len p q
    have HX := Lib.hid (txt_leaf op p q)
    clear hc hok hb hx ho hv
    generalize txt (.leaf op p q) = R at *
    generalize fmtT p q = T at *
    generalize e.length = n at *
    rcases (show op = 1 ∨ op = 2 ∨ op = 3 by omega) with rfl | rfl | rfl
    · go_enter Try.func39, Try.ntmps39
      go_wp2
      go_ret
      exact ⟨by rw [HX.out]; rfl, bal (Below.refl _ _) _⟩
    · go_enter Try.func39, Try.ntmps39
      go_wp2
      go_ret
      exact ⟨by rw [HX.out]; rfl, bal (Below.refl _ _) _⟩
    · have HF := Lib.hid (hF.out rfl)
      have l1 : ¬ 9223372036854775807 < 1 + T.length := by omega
      have l2 : ¬ 9223372036854775807 < 1 + T.length + 1 := by omega
      have l3 : ¬ 9223372036854775807 < T.length + 1 := by omega
      have l4 : ¬ 9223372036854775807 < T.length + 1 + 1 := by omega
      clear hF
      go_enter Try.func39, Try.ntmps39
      go_wp2_with (go_at_call 68; ((with_reducible refine (HF.out _).mono ?_); rintro r w2 ⟨rfl, hb2⟩))
      go_ret
      exact ⟨by rw [HX.out]; exact str_eq (ByteArray.ext (by simp)), stepB (bal (Below.refl _ _) _) hb2⟩
  | .one op a, s, j, w, hx, ho, hv, hs, hb => by
    have hj := bl_lt hb
    obtain ⟨h0, hpc, hba⟩ := bl_one' hb
    have hsz : a.size + 1 ≤ 1000 := hs
    have HI : Hid (∀ X, Below w.heap.size w X → Calls Try.prog 39 #[.slice A e.length c, .int .i64 ((j : Int) - 1)] X fun r w' => r = .returned (.string ⟨(txt a).toArray⟩) ∧ Below X.heap.size X w') := fun X hX => by
      have := text_any A e c v hl a s (j - 1) X (hx.below hX) ho.2 hv (by omega) hba
      rwa [show ((j - 1 : Nat) : Int) = (j : Int) - 1 by omega] at this
    obtain ⟨hok, ad, rfl, _, hc⟩ := hx j hj
    obtain ⟨f0, f1, f2, f3, f4⟩ := five_at hc
    rw [hpc] at f0 f1 f2 f3 f4 hok
    dsimp only at f0 f1 f2 f3 f4
    have hop : op = 7 ∨ op = 8 ∨ op = 9 ∨ op = 10 := by have h1 := ho.1; omega
    have htl := txt_len a ho.2
    have HX := Lib.hid (txt_one op a)
    have hj2 : (j : Int) < e.length := by omega
    have HW := Lib.hid fun o => bal (Below.refl w.heap.size w) o
    clear hc hok hb hx ho hba hpc h0 hv hs
    generalize txt (.one op a) = R at *
    generalize txt a = T at *
    generalize a.size = z at *
    generalize e.length = n at *
    have l1 : ¬ 9223372036854775807 < 1 + T.length := by omega
    have l2 : ¬ 9223372036854775807 < 2 + T.length := by omega
    have l3 : ¬ 9223372036854775807 < 2 + T.length + 1 := by omega
    have l4 : ¬ 9223372036854775807 < 1 + T.length + 2 := by omega
    have l5 : ¬ 9223372036854775807 < T.length + 1 := by omega
    have l6 : ¬ 9223372036854775807 < T.length + 2 := by omega
    have l7 : ¬ 9223372036854775807 < T.length + 2 + 1 := by omega
    have l8 : ¬ 9223372036854775807 < T.length + 1 + 2 := by omega
    rcases hop with rfl | rfl | rfl | rfl
    all_goals
      go_enter Try.func39, Try.ntmps39
      go_wp2_with (go_at_call 39; ((with_reducible refine (HI.out _ (HW.out _)).mono ?_); rintro r w2 ⟨rfl, hb2⟩))
      go_ret
      exact ⟨by rw [HX.out]; exact str_eq (ByteArray.ext (by simp [opB])), stepB (HW.out _) hb2⟩
  | .two op a b, s, j, w, hx, ho, hv, hs, hb => by
    have hj := bl_lt hb
    obtain ⟨h0, hpc, hba, hbb⟩ := bl_two' hb
    have hpa := a.pos
    have hsz : a.size + b.size + 1 ≤ 1000 := hs
    have HIa : Hid (∀ X, Below w.heap.size w X → Calls Try.prog 39 #[.slice A e.length c, .int .i64 (((s + a.size : Nat) : Int) - 1)] X fun r w' => r = .returned (.string ⟨(txt a).toArray⟩) ∧ Below X.heap.size X w') := fun X hX => by
      have := text_any A e c v hl a s (s + a.size - 1) X (hx.below hX) ho.2.1 hv.1 (by omega) hba
      rwa [show ((s + a.size - 1 : Nat) : Int) = ((s + a.size : Nat) : Int) - 1 by omega] at this
    have HIb : Hid (∀ X, Below w.heap.size w X → Calls Try.prog 39 #[.slice A e.length c, .int .i64 ((j : Int) - 1)] X fun r w' => r = .returned (.string ⟨(txt b).toArray⟩) ∧ Below X.heap.size X w') := fun X hX => by
      have := text_any A e c v hl b (s + a.size) (j - 1) X (hx.below hX) ho.2.2 hv.2 (by omega) hbb
      rwa [show ((j - 1 : Nat) : Int) = (j : Int) - 1 by omega] at this
    obtain ⟨hok, ad, rfl, _, hc⟩ := hx j hj
    obtain ⟨f0, f1, f2, f3, f4⟩ := five_at hc
    rw [hpc] at f0 f1 f2 f3 f4 hok
    dsimp only at f0 f1 f2 f3 f4
    have hop : op = 4 ∨ op = 5 ∨ op = 6 := by have h1 := ho.1; omega
    have htl := txt_len a ho.2.1
    have htb := txt_len b ho.2.2
    have HX := Lib.hid (txt_two op a b)
    have hj2 : (j : Int) < e.length := by omega
    clear hc hok hb hx ho hba hbb hpc h0 hv hs
    generalize txt (.two op a b) = R at *
    generalize txt a = T at *
    generalize txt b = U at *
    generalize ((s + a.size : Nat) : Int) - 1 = N at *
    generalize a.size = z at *
    generalize b.size = y at *
    generalize e.length = n at *
    have l1 : ¬ 9223372036854775807 < 1 + T.length := by omega
    have l2 : ¬ 9223372036854775807 < 1 + T.length + 1 := by omega
    have l3 : ¬ 9223372036854775807 < 1 + T.length + 1 + U.length := by omega
    have l4 : ¬ 9223372036854775807 < 1 + T.length + 1 + U.length + 1 := by omega
    have l5 : ¬ 9223372036854775807 < T.length + 1 := by omega
    have l6 : ¬ 9223372036854775807 < T.length + 1 + 1 := by omega
    have l7 : ¬ 9223372036854775807 < T.length + 1 + 1 + U.length := by omega
    have l8 : ¬ 9223372036854775807 < T.length + 1 + 1 + U.length + 1 := by omega
    rcases hop with rfl | rfl | rfl
    · go_enter Try.func39, Try.ntmps39
      go_upto_region 11 with fail
      have K9 : Hid (Below w.heap.size w (w.alloc (.cells #[.int .u8 4, .int .u8 0, .int .u8 0, .int .i64 N, .int .i64 ((j : Int) - 1)] 43))) := bal (Below.refl _ _) _
      have c3 : (w.alloc (.cells #[.int .u8 4, .int .u8 0, .int .u8 0, .int .i64 N, .int .i64 ((j : Int) - 1)] 43)).cell? ⟨w.heap.size, 3, none⟩ = some (.int .i64 N) := by rw [World.cell?_alloc_at _ _ _ _ rfl]; rfl
      have c4 : (w.alloc (.cells #[.int .u8 4, .int .u8 0, .int .u8 0, .int .i64 N, .int .i64 ((j : Int) - 1)] 43)).cell? ⟨w.heap.size, 4, none⟩ = some (.int .i64 ((j : Int) - 1)) := by rw [World.cell?_alloc_at _ _ _ _ rfl]; rfl
      have hs9 : w.heap.size < (w.alloc (.cells #[.int .u8 4, .int .u8 0, .int .u8 0, .int .i64 N, .int .i64 ((j : Int) - 1)] 43)).heap.size := by rw [World.size_alloc]; omega
      generalize w.alloc (.cells #[.int .u8 4, .int .u8 0, .int .u8 0, .int .i64 N, .int .i64 ((j : Int) - 1)] 43) = w9 at *
      have d3 : ∀ r : Cls (fun X => Below w9.heap.size w9 X), r.w.cell? ⟨w.heap.size, 3, none⟩ = some (.int .i64 N) := fun r => (Below.cell r.h hs9).trans c3
      have d4 : ∀ r : Cls (fun X => Below w9.heap.size w9 X), r.w.cell? ⟨w.heap.size, 4, none⟩ = some (.int .i64 ((j : Int) - 1)) := fun r => (Below.cell r.h hs9).trans c4
      have G1 := Lib.hid fun X (hX : Below w9.heap.size w9 X) => HIa.out X (stepB K9.out hX)
      have G2 := Lib.hid fun X (hX : Below w9.heap.size w9 X) => HIb.out X (stepB K9.out hX)
      clear f0 f1 f2 f3 f4 c3 c4 HIa HIb hs9
      haveI : Nonempty (Cls (fun X => Below w9.heap.size w9 X)) := ⟨⟨w9, Below.refl _ _⟩⟩
      refine wp_region_cls (fun X => Below w9.heap.size w9 X) (by kernel_rfl) (by kernel_rfl) (Ap.drewN_below w9 1) ?_
      repeat (go_big_quiet_step (first
        | (go_at_call 39; rename_i r; (with_reducible refine (G1.out r.w r.h).mono ?_); rintro e w4 ⟨rfl, hb4⟩; exact ⟨rfl, ⟨⟨w4, stepB r.h hb4⟩, rfl⟩⟩)
        | (go_at_call 39; rename_i r; (with_reducible refine (G2.out r.w r.h).mono ?_); rintro e w4 ⟨rfl, hb4⟩; exact ⟨rfl, ⟨⟨w4, stepB r.h hb4⟩, rfl⟩⟩)))
      refine wpQuiet_nil ?_
      rintro _ ⟨⟨X, hX⟩, rfl⟩
      clear d3 d4
      go_wp2
      go_ret
      exact ⟨by rw [HX.out]; exact str_eq (ByteArray.ext (by simp [opB])), stepB K9.out hX⟩
    · go_enter Try.func39, Try.ntmps39
      go_upto_region 13 with fail
      have K9 : Hid (Below w.heap.size w (w.alloc (.cells #[.int .u8 5, .int .u8 0, .int .u8 0, .int .i64 N, .int .i64 ((j : Int) - 1)] 43))) := bal (Below.refl _ _) _
      have c3 : (w.alloc (.cells #[.int .u8 5, .int .u8 0, .int .u8 0, .int .i64 N, .int .i64 ((j : Int) - 1)] 43)).cell? ⟨w.heap.size, 3, none⟩ = some (.int .i64 N) := by rw [World.cell?_alloc_at _ _ _ _ rfl]; rfl
      have c4 : (w.alloc (.cells #[.int .u8 5, .int .u8 0, .int .u8 0, .int .i64 N, .int .i64 ((j : Int) - 1)] 43)).cell? ⟨w.heap.size, 4, none⟩ = some (.int .i64 ((j : Int) - 1)) := by rw [World.cell?_alloc_at _ _ _ _ rfl]; rfl
      have hs9 : w.heap.size < (w.alloc (.cells #[.int .u8 5, .int .u8 0, .int .u8 0, .int .i64 N, .int .i64 ((j : Int) - 1)] 43)).heap.size := by rw [World.size_alloc]; omega
      generalize w.alloc (.cells #[.int .u8 5, .int .u8 0, .int .u8 0, .int .i64 N, .int .i64 ((j : Int) - 1)] 43) = w9 at *
      have d3 : ∀ r : Cls (fun X => Below w9.heap.size w9 X), r.w.cell? ⟨w.heap.size, 3, none⟩ = some (.int .i64 N) := fun r => (Below.cell r.h hs9).trans c3
      have d4 : ∀ r : Cls (fun X => Below w9.heap.size w9 X), r.w.cell? ⟨w.heap.size, 4, none⟩ = some (.int .i64 ((j : Int) - 1)) := fun r => (Below.cell r.h hs9).trans c4
      have G1 := Lib.hid fun X (hX : Below w9.heap.size w9 X) => HIa.out X (stepB K9.out hX)
      have G2 := Lib.hid fun X (hX : Below w9.heap.size w9 X) => HIb.out X (stepB K9.out hX)
      clear f0 f1 f2 f3 f4 c3 c4 HIa HIb hs9
      haveI : Nonempty (Cls (fun X => Below w9.heap.size w9 X)) := ⟨⟨w9, Below.refl _ _⟩⟩
      refine wp_region_cls (fun X => Below w9.heap.size w9 X) (by kernel_rfl) (by kernel_rfl) (Ap.drewN_below w9 1) ?_
      repeat (go_big_quiet_step (first
        | (go_at_call 39; rename_i r; (with_reducible refine (G1.out r.w r.h).mono ?_); rintro e w4 ⟨rfl, hb4⟩; exact ⟨rfl, ⟨⟨w4, stepB r.h hb4⟩, rfl⟩⟩)
        | (go_at_call 39; rename_i r; (with_reducible refine (G2.out r.w r.h).mono ?_); rintro e w4 ⟨rfl, hb4⟩; exact ⟨rfl, ⟨⟨w4, stepB r.h hb4⟩, rfl⟩⟩)))
      refine wpQuiet_nil ?_
      rintro _ ⟨⟨X, hX⟩, rfl⟩
      clear d3 d4
      go_wp2
      go_ret
      exact ⟨by rw [HX.out]; exact str_eq (ByteArray.ext (by simp [opB])), stepB K9.out hX⟩
    · go_enter Try.func39, Try.ntmps39
      go_upto_region 15 with fail
      have K9 : Hid (Below w.heap.size w (w.alloc (.cells #[.int .u8 6, .int .u8 0, .int .u8 0, .int .i64 N, .int .i64 ((j : Int) - 1)] 43))) := bal (Below.refl _ _) _
      have c3 : (w.alloc (.cells #[.int .u8 6, .int .u8 0, .int .u8 0, .int .i64 N, .int .i64 ((j : Int) - 1)] 43)).cell? ⟨w.heap.size, 3, none⟩ = some (.int .i64 N) := by rw [World.cell?_alloc_at _ _ _ _ rfl]; rfl
      have c4 : (w.alloc (.cells #[.int .u8 6, .int .u8 0, .int .u8 0, .int .i64 N, .int .i64 ((j : Int) - 1)] 43)).cell? ⟨w.heap.size, 4, none⟩ = some (.int .i64 ((j : Int) - 1)) := by rw [World.cell?_alloc_at _ _ _ _ rfl]; rfl
      have hs9 : w.heap.size < (w.alloc (.cells #[.int .u8 6, .int .u8 0, .int .u8 0, .int .i64 N, .int .i64 ((j : Int) - 1)] 43)).heap.size := by rw [World.size_alloc]; omega
      generalize w.alloc (.cells #[.int .u8 6, .int .u8 0, .int .u8 0, .int .i64 N, .int .i64 ((j : Int) - 1)] 43) = w9 at *
      have d3 : ∀ r : Cls (fun X => Below w9.heap.size w9 X), r.w.cell? ⟨w.heap.size, 3, none⟩ = some (.int .i64 N) := fun r => (Below.cell r.h hs9).trans c3
      have d4 : ∀ r : Cls (fun X => Below w9.heap.size w9 X), r.w.cell? ⟨w.heap.size, 4, none⟩ = some (.int .i64 ((j : Int) - 1)) := fun r => (Below.cell r.h hs9).trans c4
      have G1 := Lib.hid fun X (hX : Below w9.heap.size w9 X) => HIa.out X (stepB K9.out hX)
      have G2 := Lib.hid fun X (hX : Below w9.heap.size w9 X) => HIb.out X (stepB K9.out hX)
      clear f0 f1 f2 f3 f4 c3 c4 HIa HIb hs9
      haveI : Nonempty (Cls (fun X => Below w9.heap.size w9 X)) := ⟨⟨w9, Below.refl _ _⟩⟩
      refine wp_region_cls (fun X => Below w9.heap.size w9 X) (by kernel_rfl) (by kernel_rfl) (Ap.drewN_below w9 1) ?_
      repeat (go_big_quiet_step (first
        | (go_at_call 39; rename_i r; (with_reducible refine (G1.out r.w r.h).mono ?_); rintro e w4 ⟨rfl, hb4⟩; exact ⟨rfl, ⟨⟨w4, stepB r.h hb4⟩, rfl⟩⟩)
        | (go_at_call 39; rename_i r; (with_reducible refine (G2.out r.w r.h).mono ?_); rintro e w4 ⟨rfl, hb4⟩; exact ⟨rfl, ⟨⟨w4, stepB r.h hb4⟩, rfl⟩⟩)))
      refine wpQuiet_nil ?_
      rintro _ ⟨⟨X, hX⟩, rfl⟩
      clear d3 d4
      go_wp2
      go_ret
      exact ⟨by rw [HX.out]; exact str_eq (ByteArray.ext (by simp [opB])), stepB K9.out hX⟩
set_option maxHeartbeats 4000000 in
theorem refFormat_good (A : Option Addr) (t : Ex) (k c : Nat) (v : Int) (w : World) (hx : PcsAt w A (flat t 0)) (hV : t.Valid v) (hk : k = t.size) :
    Calls Try.prog 10 #[.slice A k c, .int .i64 v] w fun r w' => r = .returned (.tuple #[.string ⟨(txt t).toArray⟩, .int .i64 0]) ∧ Below w.heap.size w w' := by
  have hs := hV.size
  have hl : (flat t 0).length ≤ 1000000 := by rw [flat_len]; omega
  have hk' : k = (flat t 0).length := by rw [flat_len]; exact hk
  have hp := t.pos
  have HK := Lib.hid (refCheck_L A (flat t 0) c v w hx hl)
  rw [chkL_valid hV, ← hk'] at HK
  have HT : Hid (∀ X, Below w.heap.size w X → Calls Try.prog 39 #[.slice A k c, .int .i64 ((k : Int) - 1)] X fun r w' => r = .returned (.string ⟨(txt t).toArray⟩) ∧ Below X.heap.size X w') := fun X hX => by
    have := text_any A (flat t 0) c v hl t 0 ((flat t 0).length - 1) X (hx.below hX) hV.ok hV.cubes (by omega) bl_whole
    rw [← hk'] at this
    rwa [show ((k - 1 : Nat) : Int) = (k : Int) - 1 by omega] at this
  have hk1 : 1 ≤ k := by omega
  have hk2 : k ≤ 64 := by omega
  clear hx hV hk hk' hl hs hp
  generalize txt t = T at *
  go_enter Try.func10, Try.ntmps10
  go_wp2_with (first
    | (go_at_call 19; ((with_reducible refine HK.out.mono ?_); rintro r w2 ⟨rfl, hb2⟩))
    | (go_at_call 39; ((with_reducible refine (HT.out _ hb2).mono ?_); rintro r w3 ⟨rfl, hb3⟩)))
  go_ret2
  exact ⟨rfl, stepB hb2 hb3⟩
end Go.Proofs.Ytlaagjmfgaccjaa.Rx
