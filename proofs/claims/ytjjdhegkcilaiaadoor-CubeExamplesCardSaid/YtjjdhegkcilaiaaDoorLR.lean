/- The walk of the law CubeRoundTrip. -/
import Derived.Test.YtjjdhegkcilaiaaDoorCK
namespace Go.Proofs.YtjjdhegkcilaiaaDoor
open Go Go.RowKit
set_option maxRecDepth 100000
theorem prs_fmt {p q n : Nat} (h : Cube p q n) : prs (fmtT p q) n = ((p, q), 0) := by
  have hl := h.lt
  have hlen := fmtT_len p q
  have hn := h.1
  unfold prs
  rw [if_neg (by omega), if_neg (by omega), (fmt_back hl.1 hl.2 h.2.2.2).1]
  simp only
  rw [if_pos h.chk]
theorem prs_no {s : List UInt8} {v : Int} (h : (prs s v).2 ≠ 0) : (prs s v).1 = (0, 0) := by
  unfold prs at h ⊢
  split
  · rfl
  · rename_i h1
    rw [if_neg h1] at h
    split
    · rfl
    · rename_i h2
      rw [if_neg h2] at h
      cases hr : readC s with
      | none => rfl
      | some c =>
        rw [hr] at h
        simp only at h ⊢
        split
        · rename_i h3; rw [if_pos h3] at h; exact absurd rfl h
        · rfl
theorem prs_yes {s : List UInt8} {v : Int} (h : (prs s v).2 = 0) : ∃ n : Nat, v = n ∧ Cube (prs s v).1.1 (prs s v).1.2 n ∧ fmtT (prs s v).1.1 (prs s v).1.2 = s := by
  unfold prs at h ⊢
  split at h
  · simp at h
  · rename_i h1
    rw [if_neg h1]
    split at h
    · simp at h
    · rename_i h2
      rw [if_neg h2]
      cases hr : readC s with
      | none => rw [hr] at h; simp at h
      | some c =>
        rw [hr] at h
        simp only at h ⊢
        split at h
        · rename_i h3
          rw [if_pos h3]
          obtain ⟨n, e, hC⟩ := chk_ok h3
          exact ⟨n, e, hC, (readC_sound (p := c.1) (q := c.2) hr).2.2.2⟩
        · rename_i h3; exact absurd h h3
/-- A cube in a block of its own; what lay in w lies as it lay. -/
structure Kit1 (w : World) (b p q : Nat) (X : World) : Prop where
  c : Box2 X b 42 (.int .u8 (p : Nat)) (.int .u8 (q : Nat))
  k : Below w.heap.size w X
theorem Kit1.step {w : World} {b p q : Nat} {X Y : World} (h : Kit1 w b p q X) (hb : Below X.heap.size X Y) : Kit1 w b p q Y := ⟨h.c.below hb, stepB h.k hb⟩
theorem Kit1.alloc {w : World} {b p q : Nat} {X : World} (h : Kit1 w b p q X) (o : Obj) : Kit1 w b p q (X.alloc o) := ⟨h.c.alloc o, bal h.k o⟩
theorem bytes_eq {s : ByteArray} {l : List UInt8} (h : l = s.data.toList) : (⟨l.toArray⟩ : ByteArray) = s := by
  cases s; simp at h; simp [h]
set_option maxHeartbeats 4000000 in
theorem cubeRoundTrip_walk (p q : Nat) (s : ByteArray) (v : Int) (w : World) (hp : p < 256) (hq : q < 256) (hs : s.size ≤ maxLen) (hvb : -9223372036854775808 ≤ v ∧ v ≤ 9223372036854775807) (hT : HavT w) :
    Calls Tryd.prog 12 #[.agg #[.int .u8 p, .int .u8 q], .string s, .int .i64 v] w fun e w' => e = .returned (.bool true) ∧ Below w.heap.size w w' := by
  unfold maxLen at hs
  obtain ⟨v0, v1⟩ := hvb
  have HW := Lib.hid fun w' (k : Below w.heap.size w w') => awake_any w' (hT.below k)
  clear hT
  have K : Kit1 w w.heap.size p q (w.alloc (.cells #[.int .u8 (p : Nat), .int .u8 (q : Nat)] 42)) := ⟨Box2.new w _ _ _, bal (Below.refl _ _) _⟩
  have a0 := K.c.c0
  have a1 := K.c.c1
  by_cases hlen : 200 < s.size
  · go_enter Tryd.func12, Tryd.ntmps12
    go_wp2_with (go_at_call 40; refine (HW.out _ K.k).mono ?_; rintro e w2 ⟨rfl, hb⟩; have k9 := stepB K.k hb; clear hb)
    go_ret
    exact ⟨rfl, k9⟩
  · have HP2 := Lib.hid fun w => Parse_any s v w (by omega)
    have hno := fun h => prs_no (s := s.data.toList) (v := v) h
    have hyes := fun h => prs_yes (s := s.data.toList) (v := v) h
    generalize hpr : prs s.data.toList v = r at *
    obtain ⟨⟨d1, d2⟩, f⟩ := r
    simp only at HP2 hno hyes
    clear hpr
    by_cases hf : f = 0
    · obtain ⟨n, rfl, hC2, htx⟩ := hyes hf
      have hd := hC2.lt
      have hF2 := fun w => Format_ok d1 d2 n w hC2
      rw [bytes_eq htx] at hF2
      have HF2 := Lib.hid hF2
      subst hf
      clear hno hyes hF2 htx hC2
      by_cases hc : chk p q n = 0
      · have hC := cube_of hc
        have HF1 := Lib.hid fun w => Format_ok p q n w hC
        have HP1 : Hid (∀ w, Calls Tryd.prog 49 #[.string ⟨(fmtT p q).toArray⟩, .int .i64 n] w fun e w' => e = .returned (.tuple #[.agg #[.int .u8 p, .int .u8 q], .int .i64 0]) ∧ Below w.heap.size w w') := fun w => by
          have hl := fmtT_len p q
          have := Parse_any ⟨(fmtT p q).toArray⟩ n w (by simp [ByteArray.size]; omega)
          simp only at this
          rw [prs_fmt hC] at this
          exact this
        clear hc hC
        go_enter Tryd.func12, Tryd.ntmps12
        go_wp2_with (first
          | (go_at_call 34; ((with_reducible refine (HF1.out _).mono ?_); rintro e w2 ⟨rfl, hb⟩); replace K := K.step hb; clear a0 a1 hb; have a0 := K.c.c0; have a1 := K.c.c1)
          | (go_at_call 49; ((with_reducible refine (HP1.out _).mono ?_); rintro e w2 ⟨rfl, hb⟩); replace K := (K.step hb).alloc (.cells #[.int .u8 (p : Nat), .int .u8 (q : Nat)] 42); clear a0 a1 hb; have a0 := K.c.c0; have a1 := K.c.c1)
          | (go_at_call 49; ((with_reducible refine (HP2.out _).mono ?_); rintro e w2 ⟨rfl, hb⟩); replace K := (K.step hb).alloc (.cells #[.int .u8 (d1 : Nat), .int .u8 (d2 : Nat)] 42); clear a0 a1 hb; have a0 := K.c.c0; have a1 := K.c.c1)
          | (go_at_call 34; ((with_reducible refine (HF2.out _).mono ?_); rintro e w2 ⟨rfl, hb⟩); replace K := K.step hb; clear a0 a1 hb; have a0 := K.c.c0; have a1 := K.c.c1)
          | (go_at_call 40; refine (HW.out _ K.k).mono ?_; rintro e w2 ⟨rfl, hb⟩; have k9 := stepB K.k hb; clear a0 a1 hb))
        go_ret
        exact ⟨rfl, k9⟩
      · have HF1 := Lib.hid fun w => Format_no p q n w hp hq hc
        generalize chk p q n = c at *
        have hne : (c == 0) = false := beq_eq_false_iff_ne.2 hc
        clear hc
        go_enter Tryd.func12, Tryd.ntmps12
        go_wp2_with (first
          | (go_at_call 34; ((with_reducible refine (HF1.out _).mono ?_); rintro e w2 ⟨rfl, hb⟩); replace K := K.step hb; clear a0 a1 hb; have a0 := K.c.c0; have a1 := K.c.c1)
          | (go_at_call 49; ((with_reducible refine (HP1.out _).mono ?_); rintro e w2 ⟨rfl, hb⟩); replace K := (K.step hb).alloc (.cells #[.int .u8 (p : Nat), .int .u8 (q : Nat)] 42); clear a0 a1 hb; have a0 := K.c.c0; have a1 := K.c.c1)
          | (go_at_call 49; ((with_reducible refine (HP2.out _).mono ?_); rintro e w2 ⟨rfl, hb⟩); replace K := (K.step hb).alloc (.cells #[.int .u8 (d1 : Nat), .int .u8 (d2 : Nat)] 42); clear a0 a1 hb; have a0 := K.c.c0; have a1 := K.c.c1)
          | (go_at_call 34; ((with_reducible refine (HF2.out _).mono ?_); rintro e w2 ⟨rfl, hb⟩); replace K := K.step hb; clear a0 a1 hb; have a0 := K.c.c0; have a1 := K.c.c1)
          | (go_at_call 40; refine (HW.out _ K.k).mono ?_; rintro e w2 ⟨rfl, hb⟩; have k9 := stepB K.k hb; clear a0 a1 hb))
        go_ret
        exact ⟨rfl, k9⟩
    · have hz := hno hf
      simp only [Prod.mk.injEq] at hz
      have z1 : (((d1 : Nat) : Int) == 0) = true := by rw [hz.1]; rfl
      have z2 : (((d2 : Nat) : Int) == 0) = true := by rw [hz.2]; rfl
      have hf' : (f != 0) = true := by rw [bne_iff_ne]; exact hf
      clear hz hno hyes hf
      by_cases hc : chk p q v = 0
      · obtain ⟨n, rfl, hC⟩ := chk_ok hc
        have HF1 := Lib.hid fun w => Format_ok p q n w hC
        have HP1 : Hid (∀ w, Calls Tryd.prog 49 #[.string ⟨(fmtT p q).toArray⟩, .int .i64 n] w fun e w' => e = .returned (.tuple #[.agg #[.int .u8 p, .int .u8 q], .int .i64 0]) ∧ Below w.heap.size w w') := fun w => by
          have hl := fmtT_len p q
          have := Parse_any ⟨(fmtT p q).toArray⟩ n w (by simp [ByteArray.size]; omega)
          simp only at this
          rw [prs_fmt hC] at this
          exact this
        clear hc hC
        go_enter Tryd.func12, Tryd.ntmps12
        go_wp2_with (first
          | (go_at_call 34; ((with_reducible refine (HF1.out _).mono ?_); rintro e w2 ⟨rfl, hb⟩); replace K := K.step hb; clear a0 a1 hb; have a0 := K.c.c0; have a1 := K.c.c1)
          | (go_at_call 49; ((with_reducible refine (HP1.out _).mono ?_); rintro e w2 ⟨rfl, hb⟩); replace K := (K.step hb).alloc (.cells #[.int .u8 (p : Nat), .int .u8 (q : Nat)] 42); clear a0 a1 hb; have a0 := K.c.c0; have a1 := K.c.c1)
          | (go_at_call 49; ((with_reducible refine (HP2.out _).mono ?_); rintro e w2 ⟨rfl, hb⟩); replace K := (K.step hb).alloc (.cells #[.int .u8 (d1 : Nat), .int .u8 (d2 : Nat)] 42); clear a0 a1 hb; have a0 := K.c.c0; have a1 := K.c.c1)
          | (go_at_call 34; ((with_reducible refine (HF2.out _).mono ?_); rintro e w2 ⟨rfl, hb⟩); replace K := K.step hb; clear a0 a1 hb; have a0 := K.c.c0; have a1 := K.c.c1)
          | (go_at_call 40; refine (HW.out _ K.k).mono ?_; rintro e w2 ⟨rfl, hb⟩; have k9 := stepB K.k hb; clear a0 a1 hb))
        go_ret
        exact ⟨rfl, k9⟩
      · have HF1 := Lib.hid fun w => Format_no p q v w hp hq hc
        generalize chk p q v = c at *
        have hne : (c == 0) = false := beq_eq_false_iff_ne.2 hc
        clear hc
        go_enter Tryd.func12, Tryd.ntmps12
        go_wp2_with (first
          | (go_at_call 34; ((with_reducible refine (HF1.out _).mono ?_); rintro e w2 ⟨rfl, hb⟩); replace K := K.step hb; clear a0 a1 hb; have a0 := K.c.c0; have a1 := K.c.c1)
          | (go_at_call 49; ((with_reducible refine (HP1.out _).mono ?_); rintro e w2 ⟨rfl, hb⟩); replace K := (K.step hb).alloc (.cells #[.int .u8 (p : Nat), .int .u8 (q : Nat)] 42); clear a0 a1 hb; have a0 := K.c.c0; have a1 := K.c.c1)
          | (go_at_call 49; ((with_reducible refine (HP2.out _).mono ?_); rintro e w2 ⟨rfl, hb⟩); replace K := (K.step hb).alloc (.cells #[.int .u8 (d1 : Nat), .int .u8 (d2 : Nat)] 42); clear a0 a1 hb; have a0 := K.c.c0; have a1 := K.c.c1)
          | (go_at_call 34; ((with_reducible refine (HF2.out _).mono ?_); rintro e w2 ⟨rfl, hb⟩); replace K := K.step hb; clear a0 a1 hb; have a0 := K.c.c0; have a1 := K.c.c1)
          | (go_at_call 40; refine (HW.out _ K.k).mono ?_; rintro e w2 ⟨rfl, hb⟩; have k9 := stepB K.k hb; clear a0 a1 hb))
        go_ret
        exact ⟨rfl, k9⟩
end Go.Proofs.YtjjdhegkcilaiaaDoor
