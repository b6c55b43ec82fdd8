/- DiagramForeign. -/
import Derived.Test.YtbhfmeohaoojfaaVM
import Derived.Test.YtbhfmeohaoojfaaVL
import Derived.Outline
namespace Go.Proofs.Ytbhfmeohaoojfaa.Dn
open Go Go.RowKit Go.Proofs.Ytbhfmeohaoojfaa.Ap
open Go.Proofs.Ytbhfmeohaoojfaa.Dg
set_option linter.unusedVariables false
set_option maxRecDepth 100000
set_option maxHeartbeats 8000000 in
theorem diagramForeign_walk (v cap : Int) (A : Option Addr) (l : List SD) (c : Nat) (k : Int) (op : Nat) (w : World) (hv0 : IntOk v) (hcap0 : IntOk cap) (hs : StepsAt w A l) (hl : l.length ≤ maxLen) (hk : IntOk k) (ho : op < 256) :
    Calls Try.prog 4 #[.int .i64 v, .int .i64 cap, .slice A l.length c, .int .i64 k, .int .u8 op] w fun e w' => e = .returned (.bool true) ∧ Below w.heap.size w w' := by
  have HAw := Lib.hid fun X => awake_any X
  have HLo := Lib.hid (Long_b v A l c w hs hl)
  by_cases hB : longB v l = true
  · rw [hB] at HLo
    clear hB
    go_enter Try.func4, Try.ntmps4
    go_wp2_with (first
      | (go_at_call 9; ((with_reducible refine HLo.out.mono ?_); rintro e w1 ⟨rfl, hb1⟩))
      | (go_at_call 10; ((with_reducible refine (HAw.out _).mono ?_); rintro e w2 ⟨rfl, hb2⟩)))
    go_ret
    exact ⟨rfl, stepB hb1 hb2⟩
  have hB := eq_false_of_ne_true hB
  rw [hB] at HLo
  by_cases hE : newE v cap = 0
  · obtain ⟨v, cap, rfl, rfl, h6, h1, h4⟩ := newE_yes hE
    obtain ⟨hv4, hlen, hu⟩ := longB_no hB
    have HBe := Lib.hid fun X => begin_e v cap X h6 h1 h4
    have HOp : ∃ W : Int, Hid (∀ X Y : World, ∀ sb cb rb tb nv N R, Inv X sb cb rb tb v cap nv N R → Below X.heap.size X Y → ∀ x y : Int, IntOk x → IntOk y → inR R x = false → Calls Try.prog 25 #[.pointer (some ⟨sb, 0, none⟩), .int .u8 op, .int .i64 y, .int .i64 x] Y fun e w' => e = .returned (.tuple #[.int .i64 0, .int .i64 W]) ∧ Below Y.heap.size Y w') ∧
        ((W = 8 ∧ decide ((op : Int) < 1) = false ∧ decide ((4 : Int) < (op : Int)) = false) ∨ (W = 6 ∧ decide ((op : Int) < 1) = true) ∨ (W = 6 ∧ decide ((op : Int) < 1) = false ∧ decide ((4 : Int) < (op : Int)) = true)) := by
      by_cases h : 1 ≤ op ∧ op ≤ 4
      · refine ⟨8, fun X Y sb cb rb tb nv N R hI hY x y hx hy hr => Apply_no Y (hI.below hY) op y x h.1 h.2 hy hx (by rw [hr, Bool.and_false]), .inl ⟨rfl, decide_eq_false (by omega), decide_eq_false (by omega)⟩⟩
      · refine ⟨6, fun X Y sb cb rb tb nv N R hI hY x y hx hy hr => Apply_kind Y (hI.below hY) op y x ho h, .inr ?_⟩
        by_cases h1 : op < 1
        · exact .inl ⟨rfl, decide_eq_true (by omega)⟩
        · exact .inr ⟨rfl, decide_eq_false (by omega), decide_eq_true (by omega)⟩
    clear hB hE
    go_enter Try.func4, Try.ntmps4
    go_wp2_with (first
      | (go_at_call 9; ((with_reducible refine HLo.out.mono ?_); rintro e w1 ⟨rfl, hb1⟩))
      | (go_at_call 11; ((with_reducible refine (HBe.out _).mono ?_); rintro e w2 ⟨qb, sb, cb, rb, tb, mb, rfl, hR0⟩)))
    have hs1 := hs.below hb1
    have HB1 := Lib.hid hb1
    clear hs hb1
    go_loopw [14] (fun i wr => ∃ m : Nat, m ≤ l.length ∧ i = .int .i64 m ∧ RunE w1 wr qb sb cb rb tb mb v cap m) (fun i _ => l.length - (intOf i).toNat)
    case atStart => exact ⟨0, by omega, rfl, hR0⟩
    case round =>
      clear hR0
      obtain ⟨m, hm, rfl, hR⟩ := hrel
      by_cases hlt : m < l.length
      · obtain ⟨hok, hi, ad, rfl, _, hc⟩ := hs1.nine hlt
        have h70 := hu m hlt
        obtain ⟨c0, c1, c2, c3, c4, c5, c6, c7, c8⟩ := nine_at fun i v hv => hc i v hv wr hR.bel
        have HSt := Lib.hid (step_at hR (by omega) (sd l m) hok hi h70)
        clear hs1 hu hok hi hc h70 hR HOp
        generalize sd l m = s at *
        go_wp2_with (go_at_call 12; ((with_reducible refine HSt.out.mono ?_); rintro e w5 ⟨rfl, hR5⟩))
        go_roundw
        case rel => exact ⟨m + 1, by omega, by go_num, hR5⟩
        case measure => simp [intOf]; omega
      · obtain rfl : m = l.length := by omega
        obtain ⟨nv, N, R, A2, c2, Q, rv, rs, tv, T, hRun, hT⟩ := hR
        obtain ⟨W, HOp, hW⟩ := HOp
        have hI := hRun.own.inv
        have hrl : rs.length ≤ 1000 := by rw [hRun.len]; omega
        have hc0 := hRun.law.cells.1
        have hqb := hRun.law.lt.1
        have HCe := Lib.hid fun Y (hY : Below wr.heap.size wr Y) => (Below.cell hY hqb).trans hc0
        have HFo : Hid (Calls Try.prog 24 #[.pointer (some ⟨qb, 0, none⟩), .int .i64 k] wr fun e w' => ∃ x : Int, e = .returned (.int .i64 x) ∧ IntOk x ∧ inR R x = false ∧ Below wr.heap.size wr w') :=
          (foreign_any k hRun.law hk hrl).mono fun e w' ⟨x, he, h1, h2, n, hn⟩ => ⟨x, he, h1, inR_no hRun.all h2, by rw [hn]; exact bdN (Below.refl _ _) n⟩
        have HTa := Lib.hid fun Y (hY : Below wr.heap.size wr Y) (x : Int) (h1 : IntOk x) (h2 : inR R x = false) => Table_no Y (hI.below hY) x h1 h2
        have HEv : Hid (∀ Y, Below wr.heap.size wr Y → ∀ x : Int, IntOk x → inR R x = false → Calls Try.prog 23 #[.pointer (some ⟨sb, 0, none⟩), .int .i64 x, .int .u8 255] Y fun e w' => e = .returned (.tuple #[.int .i64 0, .int .i64 8]) ∧ Below Y.heap.size Y w') := fun Y (hY : Below wr.heap.size wr Y) (x : Int) (h1 : IntOk x) (h2 : inR R x = false) => Eval_no Y (hI.below hY) x 255 h1 h2
        have HRe := Lib.hid fun Y (hY : Below wr.heap.size wr Y) (x : Int) (h1 : IntOk x) (h2 : inR R x = false) => Restrict_no Y (hI.below hY) x (-1) true h1 h2
        have HEx := Lib.hid fun Y (hY : Below wr.heap.size wr Y) (x : Int) (h1 : IntOk x) (h2 : inR R x = false) => Exists_no Y (hI.below hY) x 99 h1 h2
        have HSi := Lib.hid fun Y (hY : Below wr.heap.size wr Y) (x : Int) (h1 : IntOk x) (h2 : inR R x = false) => Size_no Y (hI.below hY) x h1 h2
        have HCo := Lib.hid fun Y (hY : Below wr.heap.size wr Y) (x : Int) (h1 : IntOk x) (h2 : inR R x = false) => Count_no Y (hI.below hY) x 0 h1 h2
        have HAp := Lib.hid fun Y (hY : Below wr.heap.size wr Y) (x y : Int) (h1 : IntOk x) (h2 : IntOk y) (h3 : inR R x = false) => HOp.out wr Y sb cb rb tb nv N R hI hY x y h1 h2 h3
        have HPk : Hid (∀ Y, Below wr.heap.size wr Y → Calls Try.prog 28 #[.pointer (some ⟨qb, 0, none⟩), .int .i64 k] Y fun e w' => ∃ (y : Int) (B : Option Addr) (n d : Nat) (b : Bool), e = .returned (.tuple #[.int .i64 y, .slice B n d, .bool b]) ∧ IntOk y ∧ Below Y.heap.size Y w') := fun Y hY => by
          have hRY := hRun.below hY
          by_cases hr : rs.length = 0
          · refine (pick_none k hRY.law hr).mono ?_
            rintro e w' ⟨he, rfl⟩
            exact ⟨0, none, 0, 0, false, he, by unfold IntOk; omega, Below.refl _ _⟩
          · refine (pick_some k hRY.law hk (by omega) hRY.len hrl).mono ?_
            rintro e w' ⟨i, q, hi, hq, he, hb⟩
            refine ⟨_, _, _, _, _, he, ?_, hb⟩
            have h1 := hI.ref _ (hRY.each i hi).1
            have h2 := h1.2
            have := hI.len
            have := hI.cap4
            unfold IntOk
            omega
        have HB2 : Hid (Below w.heap.size w wr) := stepB HB1.out hRun.own.bel
        clear hs1 hu hRun hI HOp hrl hT hc0 hqb
        rcases hW with ⟨rfl, d1, d2⟩ | ⟨rfl, d1⟩ | ⟨rfl, d1, d2⟩
        all_goals
          go_wp2_with (first
            | (go_at_call 24; ((with_reducible refine HFo.out.mono ?_); rintro e w3 ⟨x, rfl, hx1, hx2, b3⟩); have e3 := HCe.out w3 b3)
            | (go_at_call 16; ((with_reducible refine (HTa.out w3 b3 x hx1 hx2).mono ?_); rintro e w4 ⟨rfl, b⟩); have b4 := stepB b3 b; have e4 := HCe.out w4 b4; clear b)
            | (go_at_call 23; ((with_reducible refine (HEv.out w4 b4 x hx1 hx2).mono ?_); rintro e w5 ⟨rfl, b⟩); have b5 := stepB b4 b; have e5 := HCe.out w5 b5; clear b)
            | (go_at_call 25; ((with_reducible refine (HAp.out w5 b5 x x hx1 hx1 hx2).mono ?_); rintro e w6 ⟨rfl, b⟩); have b6 := stepB b5 b; have e6 := HCe.out w6 b6; clear b)
            | (go_at_call 26; ((with_reducible refine (HRe.out w6 b6 x hx1 hx2).mono ?_); rintro e w7 ⟨rfl, b⟩); have b7 := stepB b6 b; have e7 := HCe.out w7 b7; clear b)
            | (go_at_call 27; ((with_reducible refine (HEx.out w7 b7 x hx1 hx2).mono ?_); rintro e w8 ⟨rfl, b⟩); have b8 := stepB b7 b; have e8 := HCe.out w8 b8; clear b)
            | (go_at_call 19; ((with_reducible refine (HSi.out w8 b8 x hx1 hx2).mono ?_); rintro e w9 ⟨rfl, b⟩); have b9 := stepB b8 b; have e9 := HCe.out w9 b9; clear b)
            | (go_at_call 20; ((with_reducible refine (HCo.out w9 b9 x hx1 hx2).mono ?_); rintro e w10 ⟨rfl, b⟩); have b10 := stepB b9 b; have e10 := HCe.out w10 b10; clear b)
            | (go_at_call 28; ((with_reducible refine (HPk.out w10 b10).mono ?_); rintro e w11 ⟨y, B, n, d, b, rfl, hy, bb⟩); have b11 := stepB b10 bb; have e11 := HCe.out w11 b11; clear bb; rcases b with _ | _)
            | (go_at_call 25; ((with_reducible refine (HAp.out w11 b11 x y hx1 hy hx2).mono ?_); rintro e w12 ⟨rfl, b⟩); have b12 := stepB b11 b; clear b)
            | (go_at_call 10; ((with_reducible refine (HAw.out _).mono ?_); rintro e w13 ⟨rfl, b13⟩)))
          all_goals
            go_ret
            exact ⟨rfl, stepB (stepB HB2.out b12) b13⟩
  · have HBe := Lib.hid fun X => begin_no v cap X hE
    clear hE hB
    go_enter Try.func4, Try.ntmps4
    go_wp2_with (first
      | (go_at_call 9; ((with_reducible refine HLo.out.mono ?_); rintro e w1 ⟨rfl, hb1⟩))
      | (go_at_call 11; ((with_reducible refine (HBe.out _).mono ?_); rintro e w2 ⟨b, rfl, hb2⟩))
      | (go_at_call 10; ((with_reducible refine (HAw.out _).mono ?_); rintro e w3 ⟨rfl, hb3⟩)))
    go_ret
    exact ⟨rfl, stepB (stepB hb1 hb2) hb3⟩
end Go.Proofs.Ytbhfmeohaoojfaa.Dn
