/- The reference's badLook. -/
import Derived.Test.YteckkbjpeckjmaaYF
namespace Go.Proofs.Yteckkbjpeckjmaa.Rx
open Go Go.RowKit Go.Proofs.Yteckkbjpeckjmaa
set_option linter.unusedVariables false
set_option maxRecDepth 100000
theorem bl_leaf' {e : List Pc} {s j op p q : Nat} (h : Bl e s j (.leaf op p q)) : pc e j = ⟨op, p, q, 0, 0⟩ := by
  obtain ⟨h1, h2⟩ := h
  obtain ⟨hx, _⟩ := pc_of_drop (n := 0) (l := []) h2 rfl
  have : s + 1 = j + 1 := h1
  rw [show j = s + 0 by omega]; exact hx
theorem bl_one' {e : List Pc} {s j op : Nat} {a : Ex} (h : Bl e s j (.one op a)) : 0 < j ∧ pc e j = ⟨op, 0, 0, (j : Int) - 1, 0⟩ ∧ Bl e s (j - 1) a := by
  obtain ⟨h1, h2⟩ := h
  have h1' : s + (a.size + 1) = j + 1 := h1
  have := a.pos
  obtain ⟨hx, hf⟩ := pc_of_drop (n := a.size) (l := flat a s) h2 (flat_len a s)
  refine ⟨by omega, ?_, by omega, hf⟩
  rw [show j = s + a.size by omega]; exact hx
theorem bl_two' {e : List Pc} {s j op : Nat} {a b : Ex} (h : Bl e s j (.two op a b)) : 0 < j ∧ pc e j = ⟨op, 0, 0, ((s + a.size : Nat) : Int) - 1, (j : Int) - 1⟩ ∧ Bl e s (s + a.size - 1) a ∧ Bl e (s + a.size) (j - 1) b := by
  obtain ⟨h1, h2⟩ := h
  have h1' : s + (a.size + b.size + 1) = j + 1 := h1
  have := a.pos
  have := b.pos
  have hf0 : (e.drop s).take (a.size + b.size + 1) = (flat a s ++ flat b (s + a.size)) ++ [⟨op, 0, 0, ((s + a.size : Nat) : Int) - 1, ((s + a.size + b.size : Nat) : Int) - 1⟩] := by
    rw [List.append_assoc]; exact h2
  obtain ⟨hx, hf'⟩ := pc_of_drop (n := a.size + b.size) (l := flat a s ++ flat b (s + a.size)) hf0 (by rw [List.length_append, flat_len, flat_len])
  obtain ⟨ha, hb⟩ := drop_split hf' (flat_len a s) (flat_len b _)
  refine ⟨by omega, ?_, ⟨by omega, ha⟩, ⟨by omega, hb⟩⟩
  rw [show j = s + (a.size + b.size) by omega, hx]
  simp only [Pc.mk.injEq, true_and]
  omega
theorem bl_lt {e : List Pc} {s j : Nat} {t : Ex} (h : Bl e s j t) : j < e.length := by
  obtain ⟨h1, h2⟩ := h
  have := congrArg List.length h2
  rw [flat_len, List.length_take, List.length_drop] at this
  have := t.pos
  omega
def lookB (op : Nat) : Bool := op == 9 || op == 10
def below4 (op : Nat) (free : Bool) : Bool := free && (op == 4 || op == 5)
set_option maxHeartbeats 8000000 in
theorem badLook_any (A : Option Addr) (e : List Pc) (c : Nat) (hl : e.length ≤ 1000000) : ∀ (t : Ex) (s j : Nat) (free : Bool) (w : World), PcsAt w A e → t.Ok → Bl e s j t →
    Calls Try.prog 94 #[.slice A e.length c, .int .i64 j, .bool free] w fun r w' => r = .returned (.bool (badT t free)) ∧ Below w.heap.size w w'
  | .leaf op p q, s, j, free, w, hx, ho, hb => by
    have hj := bl_lt hb
    obtain ⟨hok, ad, rfl, _, hc⟩ := hx j hj
    obtain ⟨f0, _⟩ := five_at hc
    rw [bl_leaf' hb] at f0 hok
    have hop : op < 256 := hok.op
    have h1 := ho.1
    have HLk : Hid (∀ X, Calls Try.prog 72 #[.int .u8 op] X fun r w' => r = .returned (.bool false) ∧ X = w') := fun X => by
      have := look_any op X hop
      rwa [show (op == 9 || op == 10) = false by simp; omega] at this
    have HCh : Hid (∀ X, Calls Try.prog 93 #[.int .u8 op] X fun r w' => r = .returned (.int .i64 0) ∧ X = w') := fun X => by
      have := Children_any op X hop
      rwa [kids_leaf h1] at this
    have n4 : ((op : Int) == 4) = false := by rw [beq_eq_false_iff_ne]; omega
    have n5 : ((op : Int) == 5) = false := by rw [beq_eq_false_iff_ne]; omega
    have hj2 : (j : Int) < e.length := by omega
    clear hc hok hb hx h1 hop ho hj
    generalize e.length = n at *
    cases free
    all_goals
      go_enter Try.func94, Try.ntmps94
      go_wp2_with (first
        | (go_at_call 72; ((with_reducible refine (HLk.out _).mono ?_); rintro r w1 ⟨rfl, rfl⟩))
        | (go_at_call 93; ((with_reducible refine (HCh.out _).mono ?_); rintro r w2 ⟨rfl, rfl⟩)))
      go_ret
      exact ⟨rfl, Below.refl _ _⟩
  | .one op a, s, j, free, w, hx, ho, hb => by
    have hj := bl_lt hb
    obtain ⟨h0, hpc, hba⟩ := bl_one' hb
    have ih : ∀ X, PcsAt X A e → Calls Try.prog 94 #[.slice A e.length c, .int .i64 ((j : Int) - 1), .bool false] X fun r w' => r = .returned (.bool (badT a false)) ∧ Below X.heap.size X w' := fun X hX => by
      have := badLook_any A e c hl a s (j - 1) false X hX ho.2 hba
      rwa [show ((j - 1 : Nat) : Int) = (j : Int) - 1 by omega] at this
    have HIH := Lib.hid (ih w hx)
    obtain ⟨hok, ad, rfl, _, hc⟩ := hx j hj
    obtain ⟨f0, _, _, f3, _⟩ := five_at hc
    rw [hpc] at f0 f3 hok
    have hop : op < 256 := hok.op
    have h1 := ho.1
    obtain ⟨lk, hlk⟩ : ∃ lk, lk = (op == 9 || op == 10) := ⟨_, rfl⟩
    have HLk : Hid (∀ X, Calls Try.prog 72 #[.int .u8 op] X fun r w' => r = .returned (.bool lk) ∧ X = w') := fun X => by
      rw [hlk]; exact look_any op X hop
    have HCh : Hid (∀ X, Calls Try.prog 93 #[.int .u8 op] X fun r w' => r = .returned (.int .i64 1) ∧ X = w') := fun X => by
      have := Children_any op X hop
      rwa [kids_one h1] at this
    have HB : Hid (badT (.one op a) free = ((lk && !free) || badT a false)) := by rw [hlk]; rfl
    have n4 : ((op : Int) == 4) = false := by rw [beq_eq_false_iff_ne]; omega
    have n5 : ((op : Int) == 5) = false := by rw [beq_eq_false_iff_ne]; omega
    have hj2 : (j : Int) < e.length := by omega
    clear hc hok hb hx h1 hop ho hj hba hpc h0 ih hlk
    generalize badT (.one op a) free = R at *
    generalize badT a false = Ra at *
    generalize e.length = n at *
    cases lk <;> cases free
    case true.false =>
      go_enter Try.func94, Try.ntmps94
      go_wp2_with (go_at_call 72; ((with_reducible refine (HLk.out _).mono ?_); rintro r w1 ⟨rfl, rfl⟩))
      go_ret
      exact ⟨ret_b (HB.out.trans rfl).symm, Below.refl _ _⟩
    all_goals
      go_enter Try.func94, Try.ntmps94
      go_wp2_with (first
        | (go_at_call 72; ((with_reducible refine (HLk.out _).mono ?_); rintro r w1 ⟨rfl, rfl⟩))
        | (go_at_call 93; ((with_reducible refine (HCh.out _).mono ?_); rintro r w2 ⟨rfl, rfl⟩))
        | (go_at_call 94; ((with_reducible refine HIH.out.mono ?_); rintro r w3 ⟨rfl, b3⟩)))
      go_ret
      exact ⟨ret_b (HB.out.trans (by simp)).symm, b3⟩
  | .two op a b, s, j, free, w, hx, ho, hb => by
    have hj := bl_lt hb
    obtain ⟨h0, hpc, hba, hbb⟩ := bl_two' hb
    have hpa := a.pos
    have HIa : Hid (∀ fr, Calls Try.prog 94 #[.slice A e.length c, .int .i64 (((s + a.size : Nat) : Int) - 1), .bool fr] w fun r w' => r = .returned (.bool (badT a fr)) ∧ Below w.heap.size w w') := fun fr => by
      have := badLook_any A e c hl a s (s + a.size - 1) fr w hx ho.2.1 hba
      rwa [show ((s + a.size - 1 : Nat) : Int) = ((s + a.size : Nat) : Int) - 1 by omega] at this
    have HIb : Hid (∀ X, Below w.heap.size w X → ∀ fr, Calls Try.prog 94 #[.slice A e.length c, .int .i64 ((j : Int) - 1), .bool fr] X fun r w' => r = .returned (.bool (badT b fr)) ∧ Below X.heap.size X w') := fun X hX fr => by
      have := badLook_any A e c hl b (s + a.size) (j - 1) fr X (hx.below hX) ho.2.2 hbb
      rwa [show ((j - 1 : Nat) : Int) = (j : Int) - 1 by omega] at this
    have HX := Lib.hid fun X (hX : Below w.heap.size w X) => hx.below hX
    obtain ⟨hok, ad, rfl, had, hc⟩ := hx j hj
    obtain ⟨f0, _, _, f3, f4⟩ := five_at hc
    rw [hpc] at f0 f3 f4 hok
    have hop : op < 256 := hok.op
    have h1 := ho.1
    have HLk : Hid (∀ X, Calls Try.prog 72 #[.int .u8 op] X fun r w' => r = .returned (.bool false) ∧ X = w') := fun X => by
      have := look_any op X hop
      rwa [show (op == 9 || op == 10) = false by simp; omega] at this
    have HCh : Hid (∀ X, Calls Try.prog 93 #[.int .u8 op] X fun r w' => r = .returned (.int .i64 2) ∧ X = w') := fun X => by
      have := Children_any op X hop
      rwa [kids_two h1] at this
    have hcs : ∃ b4 b5 : Bool, ((op : Int) == 4) = b4 ∧ ((op : Int) == 5) = b5 ∧ Hid (badT (.two op a b) free = (badT a (free && (b4 || b5)) || badT b (free && (b4 || b5)))) := by
      refine ⟨op == 4, op == 5, ?_, ?_, rfl⟩
      · by_cases h : op = 4
        · subst h; rfl
        · rw [show (op == 4) = false by simpa using h, beq_eq_false_iff_ne]; omega
      · by_cases h : op = 5
        · subst h; rfl
        · rw [show (op == 5) = false by simpa using h, beq_eq_false_iff_ne]; omega
    obtain ⟨b4, b5, n4, n5, HB⟩ := hcs
    have hj2 : (j : Int) < e.length := by omega
    have HG : Hid (∀ X, Below w.heap.size w X → X.cell? ⟨(ad.add (j * 5)).block, (ad.add (j * 5)).off + 4, none⟩ = some (.int .i64 ((j : Int) - 1))) := fun X hX => (Below.cell hX (by rw [addr_block]; exact had)).trans f4
    clear hc hok hb h1 hop ho hj hba hbb hpc h0 HX hpa had
    generalize badT (.two op a b) free = R at *
    generalize ((s + a.size : Nat) : Int) - 1 = N at *
    generalize e.length = n at *
    obtain ⟨fa, hfa⟩ : ∃ fa : Bool → Bool, ∀ fr, badT a fr = fa fr := ⟨_, fun _ => rfl⟩
    obtain ⟨fb, hfb⟩ : ∃ fb : Bool → Bool, ∀ fr, badT b fr = fb fr := ⟨_, fun _ => rfl⟩
    simp only [hfa, hfb] at HIa HIb HB
    clear hfa hfb
    cases free
    · have HB : Hid (R = (fa false || fb false)) := HB.out
      clear n4 n5
      obtain ⟨ra, hra⟩ : ∃ ra, fa false = ra := ⟨_, rfl⟩
      have HA := Lib.hid (HIa.out false)
      rw [hra] at HA HB
      clear hra HIa
      cases ra
      all_goals
        go_enter Try.func94, Try.ntmps94
        go_wp2_with (first
          | (go_at_call 72; ((with_reducible refine (HLk.out _).mono ?_); rintro r w1 ⟨rfl, rfl⟩))
          | (go_at_call 93; ((with_reducible refine (HCh.out _).mono ?_); rintro r w2 ⟨rfl, rfl⟩))
          | (go_at_call 94; ((with_reducible refine HA.out.mono ?_); rintro r w3 ⟨rfl, b3⟩); have f5 := HG.out _ b3)
          | (go_at_call 94; ((with_reducible refine (HIb.out _ b3 false).mono ?_); rintro r w4 ⟨rfl, b4'⟩); have b5' := stepB b3 b4'; clear b4'))
        go_ret
        exact ⟨ret_b (HB.out.trans (by simp)).symm, by assumption⟩
    · cases b4
      · cases b5
        · have HB : Hid (R = (fa false || fb false)) := HB.out
          obtain ⟨ra, hra⟩ : ∃ ra, fa false = ra := ⟨_, rfl⟩
          have HA := Lib.hid (HIa.out false)
          rw [hra] at HA HB
          clear hra HIa
          cases ra
          all_goals
            go_enter Try.func94, Try.ntmps94
            go_wp2_with (first
              | (go_at_call 72; ((with_reducible refine (HLk.out _).mono ?_); rintro r w1 ⟨rfl, rfl⟩))
              | (go_at_call 93; ((with_reducible refine (HCh.out _).mono ?_); rintro r w2 ⟨rfl, rfl⟩))
              | (go_at_call 94; ((with_reducible refine HA.out.mono ?_); rintro r w3 ⟨rfl, b3⟩); have f5 := HG.out _ b3)
              | (go_at_call 94; ((with_reducible refine (HIb.out _ b3 false).mono ?_); rintro r w4 ⟨rfl, b4'⟩); have b5' := stepB b3 b4'; clear b4'))
            go_ret
            exact ⟨ret_b (HB.out.trans (by simp)).symm, by assumption⟩
        · have HB : Hid (R = (fa true || fb true)) := HB.out
          obtain ⟨ra, hra⟩ : ∃ ra, fa true = ra := ⟨_, rfl⟩
          have HA := Lib.hid (HIa.out true)
          rw [hra] at HA HB
          clear hra HIa
          cases ra
          all_goals
            go_enter Try.func94, Try.ntmps94
            go_wp2_with (first
              | (go_at_call 72; ((with_reducible refine (HLk.out _).mono ?_); rintro r w1 ⟨rfl, rfl⟩))
              | (go_at_call 93; ((with_reducible refine (HCh.out _).mono ?_); rintro r w2 ⟨rfl, rfl⟩))
              | (go_at_call 94; ((with_reducible refine HA.out.mono ?_); rintro r w3 ⟨rfl, b3⟩); have f5 := HG.out _ b3)
              | (go_at_call 94; ((with_reducible refine (HIb.out _ b3 true).mono ?_); rintro r w4 ⟨rfl, b4'⟩); have b5' := stepB b3 b4'; clear b4'))
            go_ret
            exact ⟨ret_b (HB.out.trans (by simp)).symm, by assumption⟩
      · have HB : Hid (R = (fa true || fb true)) := by have := HB.out; cases b5 <;> exact this
        clear n5
        obtain ⟨ra, hra⟩ : ∃ ra, fa true = ra := ⟨_, rfl⟩
        have HA := Lib.hid (HIa.out true)
        rw [hra] at HA HB
        clear hra HIa
        cases ra
        all_goals
          go_enter Try.func94, Try.ntmps94
          go_wp2_with (first
            | (go_at_call 72; ((with_reducible refine (HLk.out _).mono ?_); rintro r w1 ⟨rfl, rfl⟩))
            | (go_at_call 93; ((with_reducible refine (HCh.out _).mono ?_); rintro r w2 ⟨rfl, rfl⟩))
            | (go_at_call 94; ((with_reducible refine HA.out.mono ?_); rintro r w3 ⟨rfl, b3⟩); have f5 := HG.out _ b3)
            | (go_at_call 94; ((with_reducible refine (HIb.out _ b3 true).mono ?_); rintro r w4 ⟨rfl, b4'⟩); have b5' := stepB b3 b4'; clear b4'))
          go_ret
          exact ⟨ret_b (HB.out.trans (by simp)).symm, by assumption⟩
end Go.Proofs.Yteckkbjpeckjmaa.Rx
