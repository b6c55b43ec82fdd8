/- The first piece of a block, the order of children, a piece's error (package regex). -/
import Derived.Test.YtbmamkackigdaabYO
namespace Go.Proofs.Ytbmamkackigdaab.Rx
open Go Go.RowKit Go.Proofs.Ytbmamkackigdaab
set_option linter.unusedVariables false
set_option maxRecDepth 100000
theorem nk_leaf {op : Nat} (h : 1 ≤ op ∧ op ≤ 3) : nk op = 0 := by unfold nk; rw [if_neg (by omega), if_neg (by omega)]
theorem nk_two {op : Nat} (h : 4 ≤ op ∧ op ≤ 6) : nk op = 2 := by unfold nk; rw [if_pos h]
theorem nk_one {op : Nat} (h : 7 ≤ op ∧ op ≤ 10) : nk op = 1 := by unfold nk; rw [if_neg (by omega), if_pos h]
theorem childrenOf_n {op p q : Nat} {a b : Int} {n : Nat} (ho : op < 256) (hn : nk op = n) (w : World) :
    Calls Try.prog 78 #[.agg #[.int .u8 op, .int .u8 p, .int .u8 q, .int .i64 a, .int .i64 b]] w fun e w' => ∃ g, e = .returned (.slice (some ⟨g, 0, none⟩) n 2) ∧ w.heap.size ≤ g ∧ g < w'.heap.size ∧ w'.cell? ⟨g, 0, none⟩ = some (.int .i64 a) ∧ w'.cell? ⟨g, 1, none⟩ = some (.int .i64 b) ∧ Below w.heap.size w w' := by
  have := childrenOf_any ⟨op, p, q, a, b⟩ w ho
  refine this.mono ?_
  rintro e w' h
  rw [← hn]
  exact h
theorem childrenOf_z {op : Nat} {a b : Int} {n : Nat} (ho : op < 256) (hn : nk op = n) (w : World) :
    Calls Try.prog 78 #[.agg #[.int .u8 op, .int .u8 0, .int .u8 0, .int .i64 a, .int .i64 b]] w fun e w' => ∃ g, e = .returned (.slice (some ⟨g, 0, none⟩) n 2) ∧ w.heap.size ≤ g ∧ g < w'.heap.size ∧ w'.cell? ⟨g, 0, none⟩ = some (.int .i64 a) ∧ w'.cell? ⟨g, 1, none⟩ = some (.int .i64 b) ∧ Below w.heap.size w w' :=
  childrenOf_n (p := 0) (q := 0) ho hn w
/-- A piece of the list in a later world. -/
theorem pcs_five {w wr : World} {A : Option Addr} {e : List Pc} (hx : PcsAt w A e) (hb : Below w.heap.size w wr) {j : Nat} (hj : j < e.length) : ∃ ad, A = some ad ∧ ad.block < w.heap.size ∧ PcOk (pc e j) ∧ wr.cell? (ad.add (j * 5)) = some (.int .u8 (pc e j).op) ∧ wr.cell? ⟨(ad.add (j * 5)).block, (ad.add (j * 5)).off + 1, none⟩ = some (.int .u8 (pc e j).p) ∧ wr.cell? ⟨(ad.add (j * 5)).block, (ad.add (j * 5)).off + 2, none⟩ = some (.int .u8 (pc e j).q) ∧
    wr.cell? ⟨(ad.add (j * 5)).block, (ad.add (j * 5)).off + 3, none⟩ = some (.int .i64 (pc e j).a) ∧ wr.cell? ⟨(ad.add (j * 5)).block, (ad.add (j * 5)).off + 4, none⟩ = some (.int .i64 (pc e j).b) := by
  obtain ⟨hok, ad, rfl, had, hc⟩ := hx j hj
  exact ⟨ad, rfl, had, hok, five_at fun i v hv => (Below.cell hb (by rw [addr_block2]; exact had)).trans (hc i v hv)⟩
set_option maxHeartbeats 8000000 in
theorem first_any (A : Option Addr) (e : List Pc) (c : Nat) (hl : e.length ≤ 1000000) (t : Ex) (s j : Nat) (w : World) (hx : PcsAt w A e) (ho : t.Ok) (hb : Bl e s j t) :
    Calls Try.prog 51 #[.slice A e.length c, .int .i64 j] w fun r w' => r = .returned (.int .i64 s) ∧ Below w.heap.size w w' := by
  have HT : Hid (Bl e s j t ∧ t.Ok) := ⟨hb, ho⟩
  have HX := Lib.hid fun wr (h : Below w.heap.size w wr) j (hj : j < e.length) => pcs_five hx h hj
  have HL := Lib.hid fun s j t (h : Bl e s j t) => bl_lt h
  clear hb ho hx
  obtain ⟨n, hn⟩ : ∃ n, n = e.length := ⟨_, rfl⟩
  rw [← hn] at HX HL hl ⊢
  clear hn
  go_enter Try.func51, Try.ntmps51
  go_wp2
  go_loopw [1] (fun i wr => ∃ (j : Nat) (t : Ex), i = .int .i64 j ∧ Hid (Bl e s j t ∧ t.Ok) ∧ Below w.heap.size w wr) (fun i _ => (intOf i).toNat)
  case atStart => exact ⟨j, t, rfl, HT, Below.refl _ _⟩
  case round =>
    clear HT
    obtain ⟨j, t, rfl, HT, hb⟩ := hrel
    have hj := HL.out s j t HT.out.1
    obtain ⟨ad, rfl, had, hok, f0, f1, f2, f3, f4⟩ := HX.out _ hb j hj
    have hop : (pc e j).op < 256 := hok.op
    clear hok
    cases t with
    | leaf op p q =>
      have hpc := bl_leaf' HT.out.1
      rw [hpc] at f0 f1 f2 f3 f4 hop
      simp only at f0 f1 f2 f3 f4 hop
      have HC := Lib.hid fun X => childrenOf_n (op := op) (p := p) (q := q) (a := 0) (b := 0) hop (nk_leaf HT.out.2.1) X
      have hsj : s = j := by have h : s + 1 = j + 1 := HT.out.1.1; omega
      clear hpc hop HT HL
      have hj2 : (j : Int) < n := by omega
      go_wp2_with (go_at_call 78; ((with_reducible refine (HC.out _).mono ?_); rintro r w1 ⟨g, rfl, hg1, hg2, hc0, hc1, hb1⟩))
      go_ret
      exact ⟨ret_int (by omega), stepB hb hb1⟩
    | one op a =>
      obtain ⟨h0, hpc, hba⟩ := bl_one' HT.out.1
      rw [hpc] at f0 f1 f2 f3 f4 hop
      simp only at f0 f1 f2 f3 f4 hop
      have HC := Lib.hid fun X => childrenOf_z (op := op) (a := (j : Int) - 1) (b := 0) hop (nk_one HT.out.2.1) X
      have HT2 : Hid (Bl e s (j - 1) a ∧ a.Ok) := ⟨hba, HT.out.2.2⟩
      clear hpc hop HT HL hba
      have hj2 : (j : Int) < n := by omega
      have HF := Lib.hid f3
      go_wp2_with (go_at_call 78; ((with_reducible refine (HC.out _).mono ?_); rintro r w1 ⟨g, rfl, hg1, hg2, hc0, hc1, hb1⟩); have f3' := (hb1.cell (p := ⟨(ad.add (j * 5)).block, (ad.add (j * 5)).off + 3, none⟩) (by rw [addr_block]; exact Nat.lt_of_lt_of_le had hb.size)).trans HF.out; clear f0 f1 f2 f3 f4)
      go_roundw
      case rel => exact ⟨j - 1, a, by rw [show ((j - 1 : Nat) : Int) = (j : Int) - 1 by omega], HT2, stepB hb hb1⟩
      case measure => simp [intOf]; omega
    | two op a b =>
      obtain ⟨h0, hpc, hba, hbb⟩ := bl_two' HT.out.1
      rw [hpc] at f0 f1 f2 f3 f4 hop
      simp only at f0 f1 f2 f3 f4 hop
      have HC := Lib.hid fun X => childrenOf_z (op := op) (a := ((s + a.size : Nat) : Int) - 1) (b := (j : Int) - 1) hop (nk_two HT.out.2.1) X
      have HT2 : Hid (Bl e s (s + a.size - 1) a ∧ a.Ok) := ⟨hba, HT.out.2.2.1⟩
      have h1 : s + a.size - 1 < j := by have h : s + (a.size + b.size + 1) = j + 1 := HT.out.1.1; have := b.pos; have := a.pos; omega
      have hpa := a.pos
      clear hpc hop HT HL hba hbb
      obtain ⟨m, hm⟩ : ∃ m, m = s + a.size := ⟨_, rfl⟩
      rw [← hm] at HT2 f3 HC h1
      have hm1 : 1 ≤ m := by omega
      clear hm hpa
      have hj2 : (j : Int) < n := by omega
      have HF := Lib.hid f3
      go_wp2_with (go_at_call 78; ((with_reducible refine (HC.out _).mono ?_); rintro r w1 ⟨g, rfl, hg1, hg2, hc0, hc1, hb1⟩); have f3' := (hb1.cell (p := ⟨(ad.add (j * 5)).block, (ad.add (j * 5)).off + 3, none⟩) (by rw [addr_block]; exact Nat.lt_of_lt_of_le had hb.size)).trans HF.out; clear f0 f1 f2 f3 f4)
      go_roundw
      case rel => exact ⟨m - 1, a, by rw [show ((m - 1 : Nat) : Int) = (m : Int) - 1 by omega], HT2, stepB hb hb1⟩
      case measure => simp [intOf]; omega
theorem ret_bf {x : Bool} (h : x = false) : Ending.returned (.bool false) = .returned (.bool x) := by rw [h]
theorem ret_bt {x : Bool} (h : x = true) : Ending.returned (.bool true) = .returned (.bool x) := by rw [h]
theorem gt_dec {n : Nat} (h : 0 < n) : decide ((0 : Int) < (n : Int)) = true := decide_eq_true (by omega)
theorem beginE_leaf {fs : List Nat} {k : Nat} {x : Pc} (h : kids x.op = 0) : beginE fs k x = some k := by unfold beginE; rw [if_neg (by rw [h]; decide), if_neg (by rw [h]; decide)]
theorem beginE_one {fs : List Nat} {k : Nat} {x : Pc} (h : kids x.op = 1) : beginE fs k x = if x.a ≠ (k : Int) - 1 ∨ k = 0 then none else some (fs.getD (k - 1) 0) := by unfold beginE; rw [if_pos h]
theorem beginE_two {fs : List Nat} {k : Nat} {x : Pc} (h : kids x.op = 2) : beginE fs k x = if x.b ≠ (k : Int) - 1 ∨ k = 0 ∨ fs.getD (k - 1) 0 = 0 ∨ x.a ≠ (fs.getD (k - 1) 0 : Int) - 1 then none else some (fs.getD (fs.getD (k - 1) 0 - 1) 0) := by unfold beginE; rw [if_neg (by rw [h]; decide), if_pos h]
set_option maxHeartbeats 8000000 in
theorem inPost_any (A : Option Addr) (e : List Pc) (c : Nat) (hl : e.length ≤ 1000000) (k : Nat) (v : Int) (fs : List Nat) (w : World) (hx : PcsAt w A e) (hk : k < e.length) (hinv : ChkInv v e k fs) (n : Nat) (hn : (n : Int) = kids (pc e k).op) :
    Calls Try.prog 82 #[.slice A e.length c, .int .i64 k, .int .i64 n] w fun r w' => r = .returned (.bool (beginE fs k (pc e k)).isSome) ∧ Below w.heap.size w w' := by
  obtain ⟨ad, rfl, had, hok, f0, f1, f2, f3, f4⟩ := pcs_five hx (Below.refl _ _) hk
  have hA := Lib.hid fun t s j ho hb => first_any (some ad) e c hl t s j w hx ho hb
  have HX := Lib.hid fun wr (h : Below w.heap.size w wr) => pcs_five hx h hk
  clear f0 f1 f2 hok hx
  obtain ⟨x, hxx⟩ : ∃ x, x = pc e k := ⟨_, rfl⟩
  rw [← hxx] at f3 f4 hn HX ⊢
  obtain ⟨N, hN⟩ : ∃ N, N = e.length := ⟨_, rfl⟩
  rw [← hN] at hA hk hl ⊢
  clear hN
  have hk3 : kids x.op = 0 ∨ kids x.op = 1 ∨ kids x.op = 2 := by rcases kids_cases x.op with h | h | h | h <;> omega
  have hk2 : (k : Int) < N := by omega
  rcases hk3 with h0 | h0 | h0
  · have HR := Lib.hid (congrArg Option.isSome (beginE_leaf (fs := fs) (k := k) h0))
    obtain rfl : n = 0 := by omega
    generalize (beginE fs k x).isSome = R at *
    clear hinv hxx hn h0 hA HX f3 f4
    go_enter Try.func82, Try.ntmps82
    go_wp2
    go_ret
    exact ⟨ret_bt HR.out, Below.refl _ _⟩
  · obtain rfl : n = 1 := by omega
    have hB := beginE_one (fs := fs) (k := k) h0
    by_cases hz : k = 0
    · have HR := Lib.hid (congrArg Option.isSome (hB.trans (if_pos (.inr hz))))
      subst hz
      generalize (beginE fs 0 x).isSome = R at *
      clear hinv hxx hn h0 hA hB HX f3 f4
      go_enter Try.func82, Try.ntmps82
      go_wp2
      go_ret
      exact ⟨ret_bf HR.out, Below.refl _ _⟩
    · have hz1 : 1 ≤ (k : Int) := by omega
      by_cases ha : x.a = (k : Int) - 1
      · have HR := Lib.hid (congrArg Option.isSome (hB.trans (if_neg (by omega))))
        have ha2 := int_eq0 ha
        generalize (beginE fs k x).isSome = R at *
        clear hinv hxx hn h0 hA hB HX f4 ha
        go_enter Try.func82, Try.ntmps82
        go_wp2
        go_ret
        exact ⟨ret_bt HR.out, Below.refl _ _⟩
      · have HR := Lib.hid (congrArg Option.isSome (hB.trans (if_pos (.inl ha))))
        have ha2 := int_ne0 ha
        generalize (beginE fs k x).isSome = R at *
        clear hinv hxx hn h0 hA hB HX f4 ha
        go_enter Try.func82, Try.ntmps82
        go_wp2
        go_ret
        exact ⟨ret_bf HR.out, Below.refl _ _⟩
  · obtain rfl : n = 2 := by omega
    have hB := beginE_two (fs := fs) (k := k) h0
    by_cases hz : k = 0
    · have HR := Lib.hid (congrArg Option.isSome (hB.trans (if_pos (.inr (.inl hz)))))
      subst hz
      generalize (beginE fs 0 x).isSome = R at *
      clear hinv hxx hn h0 hA hB HX f3 f4
      go_enter Try.func82, Try.ntmps82
      go_wp2
      go_ret
      exact ⟨ret_bf HR.out, Below.refl _ _⟩
    · have hz1 : 1 ≤ (k : Int) := by omega
      obtain ⟨t, hto, htb⟩ := hinv.bl (k - 1) (by omega)
      have hF := hA.out t (fs.getD (k - 1) 0) (k - 1) hto htb
      rw [show ((k - 1 : Nat) : Int) = (k : Int) - 1 by omega] at hF
      have hsz : fs.getD (k - 1) 0 ≤ k := by have := htb.1; have := t.pos; omega
      clear htb hto hA
      obtain ⟨s, hs⟩ : ∃ s, s = fs.getD (k - 1) 0 := ⟨_, rfl⟩
      rw [← hs] at hF hB hsz
      have HF := Lib.hid hF
      clear hF
      have HX4 : Hid (∀ wr, Below w.heap.size w wr → wr.cell? ⟨(ad.add (k * 5)).block, (ad.add (k * 5)).off + 3, none⟩ = some (.int .i64 x.a) ∧ wr.cell? ⟨(ad.add (k * 5)).block, (ad.add (k * 5)).off + 4, none⟩ = some (.int .i64 x.b)) := fun wr h => by
        obtain ⟨ad', e1, _, _, _, _, _, g3, g4⟩ := HX.out wr h
        cases e1
        exact ⟨g3, g4⟩
      clear HX
      by_cases hb : x.b = (k : Int) - 1
      · have hb2 := int_eq0 hb
        by_cases hs0 : s = 0
        · have HR := Lib.hid (congrArg Option.isSome (hB.trans (if_pos (.inr (.inr (.inl hs0))))))
          have hs2 : decide ((0 : Int) < (s : Int)) = false := decide_eq_false (by omega)
          have hs3 : decide (0 < s) = false := decide_eq_false (by omega)
          generalize (beginE fs k x).isSome = R at *
          clear hinv hxx hn h0 hB hb hs hs0 f3 f4
          go_enter Try.func82, Try.ntmps82
          go_wp2_with (go_at_call 51; ((with_reducible refine HF.out.mono ?_); rintro r w1 ⟨rfl, hb1⟩); have g3 := (HX4.out _ hb1).1; have g4 := (HX4.out _ hb1).2)
          go_ret
          exact ⟨ret_bf HR.out, hb1⟩
        · have hs2 : decide ((0 : Int) < (s : Int)) = true := decide_eq_true (by omega)
          have hs3 : decide (0 < s) = true := decide_eq_true (by omega)
          by_cases ha : x.a = (s : Int) - 1
          · have HR := Lib.hid (congrArg Option.isSome (hB.trans (if_neg (by omega))))
            have ha2 := int_eq0 ha
            generalize (beginE fs k x).isSome = R at *
            clear hinv hxx hn h0 hB hb hs hs0 f3 f4 ha
            go_enter Try.func82, Try.ntmps82
            go_wp2_with (go_at_call 51; ((with_reducible refine HF.out.mono ?_); rintro r w1 ⟨rfl, hb1⟩); have g3 := (HX4.out _ hb1).1; have g4 := (HX4.out _ hb1).2)
            go_ret
            exact ⟨ret_bt HR.out, hb1⟩
          · have HR := Lib.hid (congrArg Option.isSome (hB.trans (if_pos (.inr (.inr (.inr ha))))))
            have ha2 := int_ne0 ha
            generalize (beginE fs k x).isSome = R at *
            clear hinv hxx hn h0 hB hb hs hs0 f3 f4 ha
            go_enter Try.func82, Try.ntmps82
            go_wp2_with (go_at_call 51; ((with_reducible refine HF.out.mono ?_); rintro r w1 ⟨rfl, hb1⟩); have g3 := (HX4.out _ hb1).1; have g4 := (HX4.out _ hb1).2)
            go_ret
            exact ⟨ret_bf HR.out, hb1⟩
      · have HR := Lib.hid (congrArg Option.isSome (hB.trans (if_pos (.inl hb))))
        have hb2 := int_ne0 hb
        generalize (beginE fs k x).isSome = R at *
        clear hinv hxx hn h0 hB hb hs f3 f4
        go_enter Try.func82, Try.ntmps82
        go_wp2_with (go_at_call 51; ((with_reducible refine HF.out.mono ?_); rintro r w1 ⟨rfl, hb1⟩); have g3 := (HX4.out _ hb1).1; have g4 := (HX4.out _ hb1).2)
        go_ret
        exact ⟨ret_bf HR.out, hb1⟩
end Go.Proofs.Ytbmamkackigdaab.Rx
