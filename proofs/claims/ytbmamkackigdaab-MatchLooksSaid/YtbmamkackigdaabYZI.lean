/- Expressions in a text (package regex): signs and their methods. -/
import Derived.Test.YtbmamkackigdaabYZH
namespace Go.Proofs.Ytbmamkackigdaab.Rx
open Go Go.RowKit Go.Proofs.Ytbmamkackigdaab
set_option linter.unusedVariables false
set_option maxRecDepth 100000
/-- The method of an operator, bound to the parser. -/
def mthF (k pb : Nat) : Value := .func (.func k) #[.pointer (some ⟨pb, 0, none⟩)] #[]
def preK (op : Nat) : Nat := if op = 7 then 144 else if op = 9 then 145 else 146
def midK (op : Nat) : Nat := if op = 4 then 147 else if op = 5 then 148 else 149
set_option maxHeartbeats 4000000 in
theorem prefix_yes (pb d : Nat) (w : World) (h : preOp d ≠ 0) : Calls Try.prog 122 #[.pointer (some ⟨pb, 0, none⟩), .int .u8 d] w fun e w' => e = .returned (mthF (preK (preOp d)) pb) ∧ w = w' := by
  have hmf : ∀ (fn : Fn) (first cap : Array Value) (w : World), (Instr.makeFunc fn first cap).run Try.prog w = .ok (.func fn first cap) w := fun _ _ _ _ => rfl
  have hd : d = 126 ∨ d = 62 ∨ d = 60 := by
    unfold preOp at h
    by_cases h1 : d = 126
    · exact .inl h1
    · by_cases h2 : d = 62
      · exact .inr (.inl h2)
      · by_cases h3 : d = 60
        · exact .inr (.inr h3)
        · rw [if_neg h1, if_neg h2, if_neg h3] at h; exact absurd rfl h
  clear h
  rcases hd with rfl | rfl | rfl
  all_goals
    go_enter Try.func122, Try.ntmps122
    go_wp2
    go_ret
    exact ⟨rfl, rfl⟩
set_option maxHeartbeats 4000000 in
theorem prefix_no (pb d : Nat) (w : World) (h : preOp d = 0) : Calls Try.prog 122 #[.pointer (some ⟨pb, 0, none⟩), .int .u8 d] w fun e w' => e = .returned .nilFunc ∧ w = w' := by
  have hd : d ≠ 126 ∧ d ≠ 62 ∧ d ≠ 60 := by
    unfold preOp at h
    refine ⟨fun e => ?_, fun e => ?_, fun e => ?_⟩ <;> (subst e; simp at h)
  have n1 := nat_ne0 (n := d) (k := 126) (by omega)
  have n2 := nat_ne0 (n := d) (k := 62) (by omega)
  have n3 := nat_ne0 (n := d) (k := 60) (by omega)
  clear hd h
  go_enter Try.func122, Try.ntmps122
  go_wp2
  go_ret
  exact ⟨rfl, rfl⟩
set_option maxHeartbeats 4000000 in
theorem suffix_star (pb : Nat) (w : World) : Calls Try.prog 123 #[.pointer (some ⟨pb, 0, none⟩), .int .u8 42] w fun e w' => e = .returned (mthF 150 pb) ∧ w = w' := by
  have hmf : ∀ (fn : Fn) (first cap : Array Value) (w : World), (Instr.makeFunc fn first cap).run Try.prog w = .ok (.func fn first cap) w := fun _ _ _ _ => rfl
  go_enter Try.func123, Try.ntmps123
  go_wp2
  go_ret
  exact ⟨rfl, rfl⟩
set_option maxHeartbeats 4000000 in
theorem suffix_mid (pb d : Nat) (w : World) (h : midOp d ≠ 0) : Calls Try.prog 123 #[.pointer (some ⟨pb, 0, none⟩), .int .u8 d] w fun e w' => e = .returned (mthF (midK (midOp d)) pb) ∧ w = w' := by
  have hmf : ∀ (fn : Fn) (first cap : Array Value) (w : World), (Instr.makeFunc fn first cap).run Try.prog w = .ok (.func fn first cap) w := fun _ _ _ _ => rfl
  have hd : d = 46 ∨ d = 124 ∨ d = 38 := by
    unfold midOp at h
    by_cases h1 : d = 46
    · exact .inl h1
    · by_cases h2 : d = 124
      · exact .inr (.inl h2)
      · by_cases h3 : d = 38
        · exact .inr (.inr h3)
        · rw [if_neg h1, if_neg h2, if_neg h3] at h; exact absurd rfl h
  clear h
  rcases hd with rfl | rfl | rfl
  all_goals
    go_enter Try.func123, Try.ntmps123
    go_wp2
    go_ret
    exact ⟨rfl, rfl⟩
set_option maxHeartbeats 4000000 in
theorem suffix_no (pb d : Nat) (w : World) (h : midOp d = 0) (h42 : d ≠ 42) : Calls Try.prog 123 #[.pointer (some ⟨pb, 0, none⟩), .int .u8 d] w fun e w' => e = .panicked (errV 2) ∧ w = w' := by
  have hd : d ≠ 46 ∧ d ≠ 124 ∧ d ≠ 38 := by
    unfold midOp at h
    refine ⟨fun e => ?_, fun e => ?_, fun e => ?_⟩ <;> (subst e; simp at h)
  have n1 := nat_ne0 (n := d) (k := 46) (by omega)
  have n2 := nat_ne0 (n := d) (k := 124) (by omega)
  have n3 := nat_ne0 (n := d) (k := 38) (by omega)
  have n4 := nat_ne0 (n := d) (k := 42) (by omega)
  clear hd h h42
  go_enter Try.func123, Try.ntmps123
  go_wp2
  exact ⟨rfl, rfl, rfl⟩
section
variable (B pb : Nat) (s : ByteArray)
set_option maxHeartbeats 4000000 in
theorem pre_any (i : Nat) (v : Value) (l : List Pc) (op : Nat) (w : World) (h : PsAt w B pb s i v l) (hl : l.length ≤ 90000) (hop : op = 7 ∨ op = 9 ∨ op = 10) :
    Calls Try.prog (preK op) #[.pointer (some ⟨pb, 0, none⟩)] w fun e w' => e = .returned (.tuple #[]) ∧ ∃ v', PsAt w' B pb s i v' (l ++ [⟨op, 0, 0, (l.length : Int) - 1, 0⟩]) ∧ Fr pb v v' w w' := by
  rcases hop with rfl | rfl | rfl
  · have HU : Hid (Calls Try.prog 153 #[.pointer (some ⟨pb, 0, none⟩), .int .u8 7] w fun e w' => e = .returned (.tuple #[]) ∧ ∃ v', PsAt w' B pb s i v' (l ++ [⟨7, 0, 0, (l.length : Int) - 1, 0⟩]) ∧ Fr pb v v' w w') := unary_any B pb s i v l 7 w h hl
    clear h
    show Calls _ 144 _ _ _
    go_enter Try.func144, Try.ntmps144
    go_wp2_with (go_at_call 153; ((with_reducible refine HU.out.mono ?_); rintro r w1 ⟨rfl, v', hP, hF⟩))
    go_end0
    exact ⟨rfl, v', hP, hF⟩
  · have HU : Hid (Calls Try.prog 153 #[.pointer (some ⟨pb, 0, none⟩), .int .u8 9] w fun e w' => e = .returned (.tuple #[]) ∧ ∃ v', PsAt w' B pb s i v' (l ++ [⟨9, 0, 0, (l.length : Int) - 1, 0⟩]) ∧ Fr pb v v' w w') := unary_any B pb s i v l 9 w h hl
    clear h
    show Calls _ 145 _ _ _
    go_enter Try.func145, Try.ntmps145
    go_wp2_with (go_at_call 153; ((with_reducible refine HU.out.mono ?_); rintro r w1 ⟨rfl, v', hP, hF⟩))
    go_end0
    exact ⟨rfl, v', hP, hF⟩
  · have HU : Hid (Calls Try.prog 153 #[.pointer (some ⟨pb, 0, none⟩), .int .u8 10] w fun e w' => e = .returned (.tuple #[]) ∧ ∃ v', PsAt w' B pb s i v' (l ++ [⟨10, 0, 0, (l.length : Int) - 1, 0⟩]) ∧ Fr pb v v' w w') := unary_any B pb s i v l 10 w h hl
    clear h
    show Calls _ 146 _ _ _
    go_enter Try.func146, Try.ntmps146
    go_wp2_with (go_at_call 153; ((with_reducible refine HU.out.mono ?_); rintro r w1 ⟨rfl, v', hP, hF⟩))
    go_end0
    exact ⟨rfl, v', hP, hF⟩
set_option maxHeartbeats 4000000 in
theorem star_any (i : Nat) (v : Value) (l : List Pc) (w : World) (h : PsAt w B pb s i v l) (hl : l.length ≤ 90000) :
    Calls Try.prog 150 #[.pointer (some ⟨pb, 0, none⟩)] w fun e w' => e = .returned (.tuple #[]) ∧ ∃ v', PsAt w' B pb s i v' (l ++ [⟨8, 0, 0, (l.length : Int) - 1, 0⟩]) ∧ Fr pb v v' w w' := by
  have HU : Hid (Calls Try.prog 153 #[.pointer (some ⟨pb, 0, none⟩), .int .u8 8] w fun e w' => e = .returned (.tuple #[]) ∧ ∃ v', PsAt w' B pb s i v' (l ++ [⟨8, 0, 0, (l.length : Int) - 1, 0⟩]) ∧ Fr pb v v' w w') := unary_any B pb s i v l 8 w h hl
  clear h
  go_enter Try.func150, Try.ntmps150
  go_wp2_with (go_at_call 153; ((with_reducible refine HU.out.mono ?_); rintro r w1 ⟨rfl, v', hP, hF⟩))
  go_end0
  exact ⟨rfl, v', hP, hF⟩
def binR (l : List Pc) (op : Nat) : Except Int (Ex × List UInt8) → Except Int (List Pc × List UInt8)
  | .ok (t, r) => .ok (flat t l.length ++ [⟨op, 0, 0, (l.length : Int) - 1, ((l.length + t.size : Nat) : Int) - 1⟩], r)
  | .error k => .error k
set_option maxHeartbeats 4000000 in
theorem mid_any (f : Nat) (HE : ExC B pb s f) (i : Nat) (v : Value) (l : List Pc) (op : Nat) (w : World) (h : PsAt w B pb s i v l) (hi : i ≤ s.size) (hf : s.size - i ≤ f) (hl : l.length + (s.size - i) ≤ 9000) (hop : op = 4 ∨ op = 5 ∨ op = 6) :
    Calls Try.prog (midK op) #[.pointer (some ⟨pb, 0, none⟩)] w (ExPost B pb s v l w (binR l op (pex f (Dl s i)))) := by
  have HU0 : Calls Try.prog 154 #[.pointer (some ⟨pb, 0, none⟩), .int .u8 op] w (ExPost B pb s v l w (binR l op (pex f (Dl s i)))) := by
    have := binary_any B pb s f HE i v l op w h hi hf hl
    cases hx : pex f (Dl s i) with
    | error k => rw [hx] at this; exact this
    | ok tr => rw [hx] at this; exact this
  clear h HE
  cases hres : binR l op (pex f (Dl s i)) with
  | error k =>
    rw [hres] at HU0
    clear hres
    rcases hop with rfl | rfl | rfl
    · have HU : Hid (Calls Try.prog 154 #[.pointer (some ⟨pb, 0, none⟩), .int .u8 4] w fun e w' => e = .panicked (errV k) ∧ Below B w w') := HU0
      clear HU0
      show Calls _ 147 _ _ _
      go_enter Try.func147, Try.ntmps147
      go_wp2_with (go_at_call 154; ((with_reducible refine HU.out.mono ?_); rintro r w1 ⟨rfl, hb⟩))
      exact ⟨rfl, rfl, hb⟩
    · have HU : Hid (Calls Try.prog 154 #[.pointer (some ⟨pb, 0, none⟩), .int .u8 5] w fun e w' => e = .panicked (errV k) ∧ Below B w w') := HU0
      clear HU0
      show Calls _ 148 _ _ _
      go_enter Try.func148, Try.ntmps148
      go_wp2_with (go_at_call 154; ((with_reducible refine HU.out.mono ?_); rintro r w1 ⟨rfl, hb⟩))
      exact ⟨rfl, rfl, hb⟩
    · have HU : Hid (Calls Try.prog 154 #[.pointer (some ⟨pb, 0, none⟩), .int .u8 6] w fun e w' => e = .panicked (errV k) ∧ Below B w w') := HU0
      clear HU0
      show Calls _ 149 _ _ _
      go_enter Try.func149, Try.ntmps149
      go_wp2_with (go_at_call 154; ((with_reducible refine HU.out.mono ?_); rintro r w1 ⟨rfl, hb⟩))
      exact ⟨rfl, rfl, hb⟩
  | ok lr =>
    obtain ⟨l', r'⟩ := lr
    rw [hres] at HU0
    clear hres
    rcases hop with rfl | rfl | rfl
    · have HU : Hid (Calls Try.prog 154 #[.pointer (some ⟨pb, 0, none⟩), .int .u8 4] w fun e w' => e = .returned (.tuple #[]) ∧ ∃ v', PsAt w' B pb s (s.size - r'.length) v' (l ++ l') ∧ Fr pb v v' w w') := HU0
      clear HU0
      show Calls _ 147 _ _ _
      go_enter Try.func147, Try.ntmps147
      go_wp2_with (go_at_call 154; ((with_reducible refine HU.out.mono ?_); rintro r w1 ⟨rfl, v', hP, hF⟩))
      go_end0
      exact ⟨rfl, v', hP, hF⟩
    · have HU : Hid (Calls Try.prog 154 #[.pointer (some ⟨pb, 0, none⟩), .int .u8 5] w fun e w' => e = .returned (.tuple #[]) ∧ ∃ v', PsAt w' B pb s (s.size - r'.length) v' (l ++ l') ∧ Fr pb v v' w w') := HU0
      clear HU0
      show Calls _ 148 _ _ _
      go_enter Try.func148, Try.ntmps148
      go_wp2_with (go_at_call 154; ((with_reducible refine HU.out.mono ?_); rintro r w1 ⟨rfl, v', hP, hF⟩))
      go_end0
      exact ⟨rfl, v', hP, hF⟩
    · have HU : Hid (Calls Try.prog 154 #[.pointer (some ⟨pb, 0, none⟩), .int .u8 6] w fun e w' => e = .returned (.tuple #[]) ∧ ∃ v', PsAt w' B pb s (s.size - r'.length) v' (l ++ l') ∧ Fr pb v v' w w') := HU0
      clear HU0
      show Calls _ 149 _ _ _
      go_enter Try.func149, Try.ntmps149
      go_wp2_with (go_at_call 154; ((with_reducible refine HU.out.mono ?_); rintro r w1 ⟨rfl, v', hP, hF⟩))
      go_end0
      exact ⟨rfl, v', hP, hF⟩
end
end Go.Proofs.Ytbmamkackigdaab.Rx
