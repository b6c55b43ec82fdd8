/- Expressions in a text (package regex): the operators' methods. -/
import Derived.Test.YteckkbjpeckjmaaYZDG
namespace Go.Proofs.Yteckkbjpeckjmaa.Rx
open Go Go.RowKit Go.Proofs.Yteckkbjpeckjmaa
set_option linter.unusedVariables false
set_option maxRecDepth 100000
/-- What reading an expression leaves. -/
def ExPost (B pb : Nat) (s : ByteArray) (v : Value) (l : List Pc) (w : World) (res : Except Int (List Pc × List UInt8)) (e : Ending) (w' : World) : Prop :=
  match res with
  | .ok (l', r) => e = .returned (.tuple #[]) ∧ ∃ v', PsAt w' B pb s (s.size - r.length) v' (l ++ l') ∧ Fr pb v v' w w'
  | .error k => e = .panicked (errV k) ∧ Below B w w'
def resP (k : Nat) : Except Int (Ex × List UInt8) → Except Int (List Pc × List UInt8)
  | .ok (t, r) => .ok (flat t k, r)
  | .error e => .error e
def ExC (B pb : Nat) (s : ByteArray) (f : Nat) : Prop := ∀ (i : Nat) (v : Value) (l : List Pc) (w : World), PsAt w B pb s i v l → i ≤ s.size → s.size - i ≤ f → l.length + (s.size - i) ≤ 9000 →
  Calls Try.prog 53 #[.pointer (some ⟨pb, 0, none⟩)] w (ExPost B pb s v l w (resP l.length (pex f (Dl s i))))
theorem txt_ge : ∀ t : Ex, t.Ok → t.size ≤ (txt t).length
  | .leaf op p q, _ => by
    rw [txt_leaf]
    show 1 ≤ _
    split
    · simp
    · split <;> simp
  | .one op a, h => by
    rw [txt_len_one]
    have := txt_ge a h.2
    show a.size + 1 ≤ _
    omega
  | .two op a b, h => by
    rw [txt_len_two]
    have := txt_ge a h.2.1
    have := txt_ge b h.2.2
    show a.size + b.size + 1 ≤ _
    omega
/-- What is left behind an expression. -/
theorem pex_left {s : ByteArray} {i f : Nat} {t : Ex} {r : List UInt8} (h : pex f (Dl s i) = .ok (t, r)) (hi : i ≤ s.size) : r = Dl s (s.size - r.length) ∧ t.size + r.length ≤ s.size - i ∧ r.length ≤ s.size - i := by
  obtain ⟨h1, _, h2⟩ := pex_ok f _ t r h
  have h3 := txt_ge t h1
  have h4 := congrArg List.length h2
  rw [Dl_len, List.length_append] at h4
  refine ⟨?_, by omega, by omega⟩
  have h5 : (Dl s i).drop (txt t).length = r := by rw [h2, List.drop_left]
  have h6 : s.size - r.length = i + (txt t).length := by omega
  rw [h6]
  unfold Dl at h5 ⊢
  rw [← List.drop_drop]
  exact h5.symm
set_option maxHeartbeats 4000000 in
theorem unary_any (B pb : Nat) (s : ByteArray) (i : Nat) (v : Value) (l : List Pc) (op : Nat) (w : World) (h : PsAt w B pb s i v l) (hl : l.length ≤ 90000) :
    Calls Try.prog 143 #[.pointer (some ⟨pb, 0, none⟩), .int .u8 op] w fun e w' => e = .returned (.tuple #[]) ∧ ∃ v', PsAt w' B pb s i v' (l ++ [⟨op, 0, 0, (l.length : Int) - 1, 0⟩]) ∧ Fr pb v v' w w' := by
  have HR := Lib.hid (root_any B pb s i v l w h (by omega))
  have HA : Hid (Calls Try.prog 83 #[.pointer (some ⟨pb, 0, none⟩), .agg #[.int .u8 op, .int .u8 0, .int .u8 0, .int .i64 ((l.length : Int) - 1), .int .i64 0]] w fun e w2 => e = .returned (.tuple #[]) ∧ ∃ v', PsAt w2 B pb s i v' (l ++ [⟨op, 0, 0, (l.length : Int) - 1, 0⟩]) ∧ Fr pb v v' w w2) := add_any B pb s i v l ⟨op, 0, 0, (l.length : Int) - 1, 0⟩ w h (by omega)
  clear h
  generalize l.length = n at *
  go_enter Try.func143, Try.ntmps143
  go_wp2_with (first
    | (go_at_call 145; ((with_reducible refine HR.out.mono ?_); rintro r w1 ⟨rfl, rfl⟩))
    | (go_at_call 83; ((with_reducible refine HA.out.mono ?_); rintro r w2 ⟨rfl, v', hP, hF⟩)))
  go_end0
  exact ⟨rfl, v', hP, hF⟩
set_option maxHeartbeats 4000000 in
theorem binary_any (B pb : Nat) (s : ByteArray) (f : Nat) (HE : ExC B pb s f) (i : Nat) (v : Value) (l : List Pc) (op : Nat) (w : World) (h : PsAt w B pb s i v l) (hi : i ≤ s.size) (hf : s.size - i ≤ f) (hl : l.length + (s.size - i) ≤ 9000) :
    Calls Try.prog 144 #[.pointer (some ⟨pb, 0, none⟩), .int .u8 op] w (ExPost B pb s v l w (match pex f (Dl s i) with | .ok (t, r) => .ok (flat t l.length ++ [⟨op, 0, 0, (l.length : Int) - 1, ((l.length + t.size : Nat) : Int) - 1⟩], r) | .error k => .error k)) := by
  have HR := Lib.hid (root_any B pb s i v l w h (by omega))
  have HX := HE i v l w h hi hf hl
  cases hx : pex f (Dl s i) with
  | error k =>
    rw [hx] at HX
    have HY : Hid (Calls Try.prog 53 #[.pointer (some ⟨pb, 0, none⟩)] w fun e w' => e = .panicked (errV k) ∧ Below B w w') := HX
    clear h hx HX
    generalize hn : l.length = n at *
    clear hn
    go_enter Try.func144, Try.ntmps144
    go_wp2_with (first
      | (go_at_call 145; ((with_reducible refine HR.out.mono ?_); rintro r w1 ⟨rfl, rfl⟩))
      | (go_at_call 53; ((with_reducible refine HY.out.mono ?_); rintro r w2 ⟨rfl, hb2⟩)))
    exact ⟨rfl, rfl, hb2⟩
  | ok tr =>
    obtain ⟨t, r⟩ := tr
    rw [hx] at HX
    have HY : Hid (Calls Try.prog 53 #[.pointer (some ⟨pb, 0, none⟩)] w fun e w' => e = .returned (.tuple #[]) ∧ ∃ v', PsAt w' B pb s (s.size - r.length) v' (l ++ flat t l.length) ∧ Fr pb v v' w w') := HX
    obtain ⟨_, hs, _⟩ := pex_left hx hi
    have HR2 : Hid (∀ X v', PsAt X B pb s (s.size - r.length) v' (l ++ flat t l.length) → Calls Try.prog 145 #[.pointer (some ⟨pb, 0, none⟩)] X fun e w' => e = .returned (.int .i64 (((l.length + t.size : Nat) : Int) - 1)) ∧ X = w') := fun X v' hX => by
      have := root_any B pb s _ v' _ X hX (by rw [List.length_append, flat_len]; omega)
      rwa [List.length_append, flat_len] at this
    have HA : Hid (∀ X v', PsAt X B pb s (s.size - r.length) v' (l ++ flat t l.length) → Calls Try.prog 83 #[.pointer (some ⟨pb, 0, none⟩), .agg #[.int .u8 op, .int .u8 0, .int .u8 0, .int .i64 ((l.length : Int) - 1), .int .i64 (((l.length + t.size : Nat) : Int) - 1)]] X fun e w2 => e = .returned (.tuple #[]) ∧ ∃ v2, PsAt w2 B pb s (s.size - r.length) v2 (l ++ flat t l.length ++ [⟨op, 0, 0, (l.length : Int) - 1, ((l.length + t.size : Nat) : Int) - 1⟩]) ∧ Fr pb v' v2 X w2) := fun X v' hX => add_any B pb s _ v' _ ⟨op, 0, 0, (l.length : Int) - 1, ((l.length + t.size : Nat) : Int) - 1⟩ X hX (by rw [List.length_append, flat_len]; omega)
    clear h hx HX
    show Calls _ _ _ _ (fun e w' => e = .returned (.tuple #[]) ∧ ∃ v', PsAt w' B pb s (s.size - r.length) v' (l ++ (flat t l.length ++ [⟨op, 0, 0, (l.length : Int) - 1, ((l.length + t.size : Nat) : Int) - 1⟩])) ∧ Fr pb v v' w w')
    rw [← List.append_assoc]
    generalize l ++ flat t l.length = L at *
    generalize hn : l.length = n at *
    generalize hm : ((n + t.size : Nat) : Int) - 1 = M at *
    generalize s.size - r.length = k at *
    clear hn hm hs hf hl
    go_enter Try.func144, Try.ntmps144
    have tok1 : True := trivial
    go_wp2_with (first
      | (go_at_call 145; have _t := tok1; ((with_reducible refine HR.out.mono ?_); rintro r w1 ⟨rfl, rfl⟩); clear tok1 _t)
      | (go_at_call 53; ((with_reducible refine HY.out.mono ?_); rintro r w2 ⟨rfl, v2, hP2, hF2⟩); have HP2 := Lib.hid hP2; have HF2 := Lib.hid hF2; clear hP2 hF2)
      | (go_at_call 145; ((with_reducible refine (HR2.out _ _ HP2.out).mono ?_); rintro r w3 ⟨rfl, rfl⟩))
      | (go_at_call 83; ((with_reducible refine (HA.out _ _ HP2.out).mono ?_); rintro r w4 ⟨rfl, v3, hP3, hF3⟩)))
    go_end0
    exact ⟨rfl, v3, hP3, HF2.out.trans hF3⟩
end Go.Proofs.Yteckkbjpeckjmaa.Rx
/- Expressions in a text (package regex): signs and their methods. -/
namespace Go.Proofs.Yteckkbjpeckjmaa.Rx
open Go Go.RowKit Go.Proofs.Yteckkbjpeckjmaa
set_option linter.unusedVariables false
set_option maxRecDepth 100000
/-- The method of an operator, bound to the parser. -/
def mthF (k pb : Nat) : Value := .func (.func k) #[.pointer (some ⟨pb, 0, none⟩)] #[]
def preK (op : Nat) : Nat := if op = 7 then 132 else if op = 9 then 133 else 134
def midK (op : Nat) : Nat := if op = 4 then 135 else if op = 5 then 136 else 137
set_option maxHeartbeats 4000000 in
theorem prefix_yes (pb d : Nat) (w : World) (h : preOp d ≠ 0) : Calls Try.prog 104 #[.pointer (some ⟨pb, 0, none⟩), .int .u8 d] w fun e w' => e = .returned (mthF (preK (preOp d)) pb) ∧ w = w' := by
  have hmf : ∀ (fn : Fn) (first cap : Array Value) (w : World), (Instr.makeFunc fn first cap).run Try.prog w = .ok (.func fn first cap) w := fun _ _ _ _ => rfl
  have hd : d = 126 ∨ d = 62 ∨ d = 60 := by
    unfold preOp at h
    by_cases h1 : d = 126
    · exact .inl h1
    · by_cases h2 : d = 62
      · exact .inr (.inl h2)
      · by_cases h3 : d = 60
        · exact .inr (.inr h3)
        · rw [if_neg h1, if_neg h2, if_neg h3] at h; exact absurd rfl h
  clear h
  rcases hd with rfl | rfl | rfl
  all_goals
    go_enter Try.func104, Try.ntmps104
    go_wp2
    go_ret
    exact ⟨rfl, rfl⟩
set_option maxHeartbeats 4000000 in
theorem prefix_no (pb d : Nat) (w : World) (h : preOp d = 0) : Calls Try.prog 104 #[.pointer (some ⟨pb, 0, none⟩), .int .u8 d] w fun e w' => e = .returned .nilFunc ∧ w = w' := by
  have hd : d ≠ 126 ∧ d ≠ 62 ∧ d ≠ 60 := by
    unfold preOp at h
    refine ⟨fun e => ?_, fun e => ?_, fun e => ?_⟩ <;> (subst e; simp at h)
  have n1 := nat_ne0 (n := d) (k := 126) (by omega)
  have n2 := nat_ne0 (n := d) (k := 62) (by omega)
  have n3 := nat_ne0 (n := d) (k := 60) (by omega)
  clear hd h
  go_enter Try.func104, Try.ntmps104
  go_wp2
  go_ret
  exact ⟨rfl, rfl⟩
set_option maxHeartbeats 4000000 in
theorem suffix_star (pb : Nat) (w : World) : Calls Try.prog 105 #[.pointer (some ⟨pb, 0, none⟩), .int .u8 42] w fun e w' => e = .returned (mthF 138 pb) ∧ w = w' := by
  have hmf : ∀ (fn : Fn) (first cap : Array Value) (w : World), (Instr.makeFunc fn first cap).run Try.prog w = .ok (.func fn first cap) w := fun _ _ _ _ => rfl
  go_enter Try.func105, Try.ntmps105
  go_wp2
  go_ret
  exact ⟨rfl, rfl⟩
set_option maxHeartbeats 4000000 in
theorem suffix_mid (pb d : Nat) (w : World) (h : midOp d ≠ 0) : Calls Try.prog 105 #[.pointer (some ⟨pb, 0, none⟩), .int .u8 d] w fun e w' => e = .returned (mthF (midK (midOp d)) pb) ∧ w = w' := by
  have hmf : ∀ (fn : Fn) (first cap : Array Value) (w : World), (Instr.makeFunc fn first cap).run Try.prog w = .ok (.func fn first cap) w := fun _ _ _ _ => rfl
  have hd : d = 46 ∨ d = 124 ∨ d = 38 := by
    unfold midOp at h
    by_cases h1 : d = 46
    · exact .inl h1
    · by_cases h2 : d = 124
      · exact .inr (.inl h2)
      · by_cases h3 : d = 38
        · exact .inr (.inr h3)
        · rw [if_neg h1, if_neg h2, if_neg h3] at h; exact absurd rfl h
  clear h
  rcases hd with rfl | rfl | rfl
  all_goals
    go_enter Try.func105, Try.ntmps105
    go_wp2
    go_ret
    exact ⟨rfl, rfl⟩
set_option maxHeartbeats 4000000 in
theorem suffix_no (pb d : Nat) (w : World) (h : midOp d = 0) (h42 : d ≠ 42) : Calls Try.prog 105 #[.pointer (some ⟨pb, 0, none⟩), .int .u8 d] w fun e w' => e = .panicked (errV 2) ∧ w = w' := by
  have hd : d ≠ 46 ∧ d ≠ 124 ∧ d ≠ 38 := by
    unfold midOp at h
    refine ⟨fun e => ?_, fun e => ?_, fun e => ?_⟩ <;> (subst e; simp at h)
  have n1 := nat_ne0 (n := d) (k := 46) (by omega)
  have n2 := nat_ne0 (n := d) (k := 124) (by omega)
  have n3 := nat_ne0 (n := d) (k := 38) (by omega)
  have n4 := nat_ne0 (n := d) (k := 42) (by omega)
  clear hd h h42
  go_enter Try.func105, Try.ntmps105
  go_wp2
  exact ⟨rfl, rfl, rfl⟩
section
variable (B pb : Nat) (s : ByteArray)
set_option maxHeartbeats 4000000 in
theorem pre_any (i : Nat) (v : Value) (l : List Pc) (op : Nat) (w : World) (h : PsAt w B pb s i v l) (hl : l.length ≤ 90000) (hop : op = 7 ∨ op = 9 ∨ op = 10) :
    Calls Try.prog (preK op) #[.pointer (some ⟨pb, 0, none⟩)] w fun e w' => e = .returned (.tuple #[]) ∧ ∃ v', PsAt w' B pb s i v' (l ++ [⟨op, 0, 0, (l.length : Int) - 1, 0⟩]) ∧ Fr pb v v' w w' := by
  rcases hop with rfl | rfl | rfl
  · have HU : Hid (Calls Try.prog 143 #[.pointer (some ⟨pb, 0, none⟩), .int .u8 7] w fun e w' => e = .returned (.tuple #[]) ∧ ∃ v', PsAt w' B pb s i v' (l ++ [⟨7, 0, 0, (l.length : Int) - 1, 0⟩]) ∧ Fr pb v v' w w') := unary_any B pb s i v l 7 w h hl
    clear h
    show Calls _ 132 _ _ _
    go_enter Try.func132, Try.ntmps132
    go_wp2_with (go_at_call 143; ((with_reducible refine HU.out.mono ?_); rintro r w1 ⟨rfl, v', hP, hF⟩))
    go_end0
    exact ⟨rfl, v', hP, hF⟩
  · have HU : Hid (Calls Try.prog 143 #[.pointer (some ⟨pb, 0, none⟩), .int .u8 9] w fun e w' => e = .returned (.tuple #[]) ∧ ∃ v', PsAt w' B pb s i v' (l ++ [⟨9, 0, 0, (l.length : Int) - 1, 0⟩]) ∧ Fr pb v v' w w') := unary_any B pb s i v l 9 w h hl
    clear h
    show Calls _ 133 _ _ _
    go_enter Try.func133, Try.ntmps133
    go_wp2_with (go_at_call 143; ((with_reducible refine HU.out.mono ?_); rintro r w1 ⟨rfl, v', hP, hF⟩))
    go_end0
    exact ⟨rfl, v', hP, hF⟩
  · have HU : Hid (Calls Try.prog 143 #[.pointer (some ⟨pb, 0, none⟩), .int .u8 10] w fun e w' => e = .returned (.tuple #[]) ∧ ∃ v', PsAt w' B pb s i v' (l ++ [⟨10, 0, 0, (l.length : Int) - 1, 0⟩]) ∧ Fr pb v v' w w') := unary_any B pb s i v l 10 w h hl
    clear h
    show Calls _ 134 _ _ _
    go_enter Try.func134, Try.ntmps134
    go_wp2_with (go_at_call 143; ((with_reducible refine HU.out.mono ?_); rintro r w1 ⟨rfl, v', hP, hF⟩))
    go_end0
    exact ⟨rfl, v', hP, hF⟩
set_option maxHeartbeats 4000000 in
theorem star_any (i : Nat) (v : Value) (l : List Pc) (w : World) (h : PsAt w B pb s i v l) (hl : l.length ≤ 90000) :
    Calls Try.prog 138 #[.pointer (some ⟨pb, 0, none⟩)] w fun e w' => e = .returned (.tuple #[]) ∧ ∃ v', PsAt w' B pb s i v' (l ++ [⟨8, 0, 0, (l.length : Int) - 1, 0⟩]) ∧ Fr pb v v' w w' := by
  have HU : Hid (Calls Try.prog 143 #[.pointer (some ⟨pb, 0, none⟩), .int .u8 8] w fun e w' => e = .returned (.tuple #[]) ∧ ∃ v', PsAt w' B pb s i v' (l ++ [⟨8, 0, 0, (l.length : Int) - 1, 0⟩]) ∧ Fr pb v v' w w') := unary_any B pb s i v l 8 w h hl
  clear h
  go_enter Try.func138, Try.ntmps138
  go_wp2_with (go_at_call 143; ((with_reducible refine HU.out.mono ?_); rintro r w1 ⟨rfl, v', hP, hF⟩))
  go_end0
  exact ⟨rfl, v', hP, hF⟩
def binR (l : List Pc) (op : Nat) : Except Int (Ex × List UInt8) → Except Int (List Pc × List UInt8)
  | .ok (t, r) => .ok (flat t l.length ++ [⟨op, 0, 0, (l.length : Int) - 1, ((l.length + t.size : Nat) : Int) - 1⟩], r)
  | .error k => .error k
set_option maxHeartbeats 4000000 in
theorem mid_any (f : Nat) (HE : ExC B pb s f) (i : Nat) (v : Value) (l : List Pc) (op : Nat) (w : World) (h : PsAt w B pb s i v l) (hi : i ≤ s.size) (hf : s.size - i ≤ f) (hl : l.length + (s.size - i) ≤ 9000) (hop : op = 4 ∨ op = 5 ∨ op = 6) :
    Calls Try.prog (midK op) #[.pointer (some ⟨pb, 0, none⟩)] w (ExPost B pb s v l w (binR l op (pex f (Dl s i)))) := by
  have HU0 : Calls Try.prog 144 #[.pointer (some ⟨pb, 0, none⟩), .int .u8 op] w (ExPost B pb s v l w (binR l op (pex f (Dl s i)))) := by
    have := binary_any B pb s f HE i v l op w h hi hf hl
    cases hx : pex f (Dl s i) with
    | error k => rw [hx] at this; exact this
    | ok tr => rw [hx] at this; exact this
  clear h HE
  cases hres : binR l op (pex f (Dl s i)) with
  | error k =>
    rw [hres] at HU0
    clear hres
    rcases hop with rfl | rfl | rfl
    · have HU : Hid (Calls Try.prog 144 #[.pointer (some ⟨pb, 0, none⟩), .int .u8 4] w fun e w' => e = .panicked (errV k) ∧ Below B w w') := HU0
      clear HU0
      show Calls _ 135 _ _ _
      go_enter Try.func135, Try.ntmps135
      go_wp2_with (go_at_call 144; ((with_reducible refine HU.out.mono ?_); rintro r w1 ⟨rfl, hb⟩))
      exact ⟨rfl, rfl, hb⟩
    · have HU : Hid (Calls Try.prog 144 #[.pointer (some ⟨pb, 0, none⟩), .int .u8 5] w fun e w' => e = .panicked (errV k) ∧ Below B w w') := HU0
      clear HU0
      show Calls _ 136 _ _ _
      go_enter Try.func136, Try.ntmps136
      go_wp2_with (go_at_call 144; ((with_reducible refine HU.out.mono ?_); rintro r w1 ⟨rfl, hb⟩))
      exact ⟨rfl, rfl, hb⟩
    · have HU : Hid (Calls Try.prog 144 #[.pointer (some ⟨pb, 0, none⟩), .int .u8 6] w fun e w' => e = .panicked (errV k) ∧ Below B w w') := HU0
      clear HU0
      show Calls _ 137 _ _ _
      go_enter Try.func137, Try.ntmps137
      go_wp2_with (go_at_call 144; ((with_reducible refine HU.out.mono ?_); rintro r w1 ⟨rfl, hb⟩))
      exact ⟨rfl, rfl, hb⟩
  | ok lr =>
    obtain ⟨l', r'⟩ := lr
    rw [hres] at HU0
    clear hres
    rcases hop with rfl | rfl | rfl
    · have HU : Hid (Calls Try.prog 144 #[.pointer (some ⟨pb, 0, none⟩), .int .u8 4] w fun e w' => e = .returned (.tuple #[]) ∧ ∃ v', PsAt w' B pb s (s.size - r'.length) v' (l ++ l') ∧ Fr pb v v' w w') := HU0
      clear HU0
      show Calls _ 135 _ _ _
      go_enter Try.func135, Try.ntmps135
      go_wp2_with (go_at_call 144; ((with_reducible refine HU.out.mono ?_); rintro r w1 ⟨rfl, v', hP, hF⟩))
      go_end0
      exact ⟨rfl, v', hP, hF⟩
    · have HU : Hid (Calls Try.prog 144 #[.pointer (some ⟨pb, 0, none⟩), .int .u8 5] w fun e w' => e = .returned (.tuple #[]) ∧ ∃ v', PsAt w' B pb s (s.size - r'.length) v' (l ++ l') ∧ Fr pb v v' w w') := HU0
      clear HU0
      show Calls _ 136 _ _ _
      go_enter Try.func136, Try.ntmps136
      go_wp2_with (go_at_call 144; ((with_reducible refine HU.out.mono ?_); rintro r w1 ⟨rfl, v', hP, hF⟩))
      go_end0
      exact ⟨rfl, v', hP, hF⟩
    · have HU : Hid (Calls Try.prog 144 #[.pointer (some ⟨pb, 0, none⟩), .int .u8 6] w fun e w' => e = .returned (.tuple #[]) ∧ ∃ v', PsAt w' B pb s (s.size - r'.length) v' (l ++ l') ∧ Fr pb v v' w w') := HU0
      clear HU0
      show Calls _ 137 _ _ _
      go_enter Try.func137, Try.ntmps137
      go_wp2_with (go_at_call 144; ((with_reducible refine HU.out.mono ?_); rintro r w1 ⟨rfl, v', hP, hF⟩))
      go_end0
      exact ⟨rfl, v', hP, hF⟩
end
end Go.Proofs.Yteckkbjpeckjmaa.Rx
/- Expressions in a text (package regex): what stands in parentheses. -/
namespace Go.Proofs.Yteckkbjpeckjmaa.Rx
open Go Go.RowKit Go.Shelf Go.Proofs.Yteckkbjpeckjmaa
set_option linter.unusedVariables false
set_option maxRecDepth 100000
theorem eat_Dl {s : ByteArray} {k : Nat} (h : k < s.size) : eat 41 (Dl s k) = if ch s k = 41 then .ok (Dl s (k + 1)) else .error 2 := by
  rw [Dl_cons s k h, eat_cons, ofNat_ch]
theorem eat_end (s : ByteArray) : eat 41 (Dl s s.size) = .error 3 := by rw [Dl_end]; rfl
def eatT (t : Ex) : Except Int (List UInt8) → Except Int (Ex × List UInt8)
  | .error e => .error e
  | .ok r => .ok (t, r)
/-- What stands before the closing parenthesis is asked for. -/
def GMid (B pb : Nat) (s : ByteArray) (v : Value) (l : List Pc) (w : World) (X : Except Int (Ex × List UInt8)) (wx : World) : Prop :=
  ∃ t k v', k ≤ s.size ∧ X = eatT t (eat 41 (Dl s k)) ∧ PsAt wx B pb s k v' (l ++ flat t l.length) ∧ Fr pb v v' w wx
theorem pex_grp {s : ByteArray} {f i : Nat} (h : i < s.size) : pex (f + 1) (40 :: Dl s i) =
    if preOp (ch s i) ≠ 0 then
      (match pex f (Dl s (i + 1)) with
      | .error e => .error e
      | .ok (a, r2) => eatT (.one (preOp (ch s i)) a) (eat 41 r2))
    else
      (match pex f (Dl s i) with
      | .error e => .error e
      | .ok (_, []) => .error 3
      | .ok (a, d2 :: r3) =>
        if d2.toNat = 42 then eatT (.one 8 a) (eat 41 r3)
        else if midOp d2.toNat ≠ 0 then
          (match pex f r3 with
          | .error e => .error e
          | .ok (b, r4) => eatT (.two (midOp d2.toNat) a b) (eat 41 r4))
        else .error 2) := by
  rw [Dl_cons s i h, pex_open, ofNat_ch, ← Dl_cons s i h]
  by_cases hp : preOp (ch s i) ≠ 0
  · rw [if_pos hp, if_pos hp]
    cases pex f (Dl s (i + 1)) with
    | error e => rfl
    | ok x =>
      obtain ⟨a, r2⟩ := x
      simp only
      cases eat 41 r2 <;> rfl
  · rw [if_neg hp, if_neg hp]
    cases pex f (Dl s i) with
    | error e => rfl
    | ok x =>
      obtain ⟨a, r⟩ := x
      cases r with
      | nil => rfl
      | cons d2 r3 =>
        simp only
        by_cases h42 : d2.toNat = 42
        · rw [if_pos h42, if_pos h42]
          cases eat 41 r3 <;> rfl
        · rw [if_neg h42, if_neg h42]
          by_cases hm : midOp d2.toNat ≠ 0
          · rw [if_pos hm, if_pos hm]
            cases pex f r3 with
            | error e => rfl
            | ok y =>
              obtain ⟨b, r4⟩ := y
              simp only
              cases eat 41 r4 <;> rfl
          · rw [if_neg hm, if_neg hm]
theorem preOp_in {d : Nat} (h : preOp d ≠ 0) : preOp d = 7 ∨ preOp d = 9 ∨ preOp d = 10 := by
  unfold preOp at *
  split
  · exact .inl rfl
  · split
    · exact .inr (.inl rfl)
    · split
      · exact .inr (.inr rfl)
      · rename_i h1 h2 h3
        rw [if_neg h1, if_neg h2, if_neg h3] at h
        exact absurd rfl h
theorem midOp_in {d : Nat} (h : midOp d ≠ 0) : midOp d = 4 ∨ midOp d = 5 ∨ midOp d = 6 := by
  unfold midOp at *
  split
  · exact .inl rfl
  · split
    · exact .inr (.inl rfl)
    · split
      · exact .inr (.inr rfl)
      · rename_i h1 h2 h3
        rw [if_neg h1, if_neg h2, if_neg h3] at h
        exact absurd rfl h
theorem preK_in {op : Nat} (h : op = 7 ∨ op = 9 ∨ op = 10) : preK op = 132 ∨ preK op = 133 ∨ preK op = 134 := by
  rcases h with rfl | rfl | rfl
  · exact .inl rfl
  · exact .inr (.inl rfl)
  · exact .inr (.inr rfl)
theorem midK_in {op : Nat} (h : op = 4 ∨ op = 5 ∨ op = 6) : midK op = 135 ∨ midK op = 136 ∨ midK op = 137 := by
  rcases h with rfl | rfl | rfl
  · exact .inl rfl
  · exact .inr (.inl rfl)
  · exact .inr (.inr rfl)
theorem flat_one (op : Nat) (a : Ex) (k : Nat) : flat (.one op a) k = flat a k ++ [⟨op, 0, 0, ((k + a.size : Nat) : Int) - 1, 0⟩] := rfl
theorem flat_two (op : Nat) (a b : Ex) (k : Nat) : flat (.two op a b) k = flat a k ++ (flat b (k + a.size) ++ [⟨op, 0, 0, ((k + a.size : Nat) : Int) - 1, ((k + a.size + b.size : Nat) : Int) - 1⟩]) := rfl
theorem take_st (B pb : Nat) (s : ByteArray) (i : Nat) (c : Nat) (X : World) (v : Value) (l : List Pc) (h : PsAt X B pb s i v l) (hs : s.size ≤ 5000) (hi : i < s.size) (hc : c = ch s i) (j : Nat) (hj : j = i + 1) :
    Calls Try.prog 82 #[.pointer (some ⟨pb, 0, none⟩)] X fun e w' => e = .returned (.int .u8 c) ∧ ∃ v', PsAt w' B pb s j v' l ∧ Fr pb v v' X w' := by
  subst hc hj
  exact (take_ok B pb s i v l X h hs hi).mono fun e w' ⟨h1, h2, h3⟩ => ⟨h1, v, h2, h3⟩
theorem take_no (B pb : Nat) (s : ByteArray) (i : Nat) (X : World) (v : Value) (l : List Pc) (h : PsAt X B pb s i v l) (hs : s.size ≤ 5000) (hi : i = s.size) :
    Calls Try.prog 82 #[.pointer (some ⟨pb, 0, none⟩)] X fun e w' => e = .panicked (errV 3) ∧ Below B X w' := by
  subst hi
  exact (take_end B pb s v l X h hs).mono fun e w' ⟨h1, h2⟩ => ⟨h1, h2.mono h.Bw⟩
/-- What the closing parenthesis makes of it. -/
theorem tail_cases (B pb : Nat) (s : ByteArray) (k : Nat) (t : Ex) (hk : k ≤ s.size) (hs : s.size ≤ 4096) (L : List Pc) :
    (Hid (eatT t (eat 41 (Dl s k)) = .error 3) ∧ Hid (∀ X v, PsAt X B pb s k v L → Calls Try.prog 82 #[.pointer (some ⟨pb, 0, none⟩)] X fun e w' => e = .panicked (errV 3) ∧ Below B X w')) ∨
    (∃ c : Nat, Hid (eatT t (eat 41 (Dl s k)) = .error 2) ∧ ((c : Int) != 41) = true ∧ Hid (∀ X v, PsAt X B pb s k v L → Calls Try.prog 82 #[.pointer (some ⟨pb, 0, none⟩)] X fun e w' => e = .returned (.int .u8 c) ∧ ∃ v', PsAt w' B pb s (k + 1) v' L ∧ Fr pb v v' X w')) ∨
    (Hid (eatT t (eat 41 (Dl s k)) = .ok (t, Dl s (k + 1)) ∧ k < s.size) ∧ Hid (∀ X v, PsAt X B pb s k v L → Calls Try.prog 82 #[.pointer (some ⟨pb, 0, none⟩)] X fun e w' => e = .returned (.int .u8 41) ∧ ∃ v', PsAt w' B pb s (k + 1) v' L ∧ Fr pb v v' X w')) := by
  by_cases he : k = s.size
  · refine .inl ⟨?_, fun X v h => take_no B pb s k X v L h (by omega) he⟩
    subst he
    show _ = _
    rw [eat_end]; rfl
  · have hk : k < s.size := by omega
    by_cases h41 : ch s k = 41
    · refine .inr (.inr ⟨⟨?_, hk⟩, fun X v h => ?_⟩)
      · rw [eat_Dl hk, if_pos h41]; rfl
      · have := take_st B pb s k (ch s k) X v L h (by omega) hk rfl _ rfl
        rw [h41] at this
        exact this
    · refine .inr (.inl ⟨ch s k, ?_, int_ne (by omega), fun X v h => take_st B pb s k (ch s k) X v L h (by omega) hk rfl _ rfl⟩)
      show _ = _
      rw [eat_Dl hk, if_neg h41]; rfl
set_option maxHeartbeats 16000000 in
theorem group_pre (B pb : Nat) (s : ByteArray) (f : Nat) (HE : ExC B pb s f) (i : Nat) (v : Value) (l : List Pc) (w : World) (h : PsAt w B pb s i v l) (hi : i < s.size) (hf : s.size - i ≤ f) (hl : l.length + (s.size - i) ≤ 9000) (hs : s.size ≤ 4096) (hp : preOp (ch s i) ≠ 0) :
    Calls Try.prog 85 #[.pointer (some ⟨pb, 0, none⟩)] w (ExPost B pb s v l w (resP l.length (pex (f + 1) (40 :: Dl s i)))) := by
  have hneq : ∀ (fn : Fn) (first cap : Array Value) (w : World), (binOp BinOp.neq 1 (.func fn first cap) .nilFunc).run Try.prog w = .ok (.bool true) w := fun _ _ _ _ => by kernel_rfl
  have HX := pex_grp (f := f) hi
  rw [if_pos hp] at HX
  have HN := Lib.hid (next_ok B pb s i v l w h (by omega) hi)
  have HP := Lib.hid h
  have HB : Hid (∀ wx w', Fr pb v wx w w' → Below B w w') := fun wx w' hw => h.bel hw
  have HPre := Lib.hid fun X => prefix_yes pb _ X hp
  have hop := preOp_in hp
  obtain ⟨j, hj⟩ : ∃ j, j = i + 1 := ⟨_, rfl⟩
  have HEx := Lib.hid fun X v' (hX : PsAt X B pb s j v' l) => HE j v' l X hX (by omega) (by omega) (by omega)
  rw [← hj] at HX
  have hij : (i : Int) + 1 = (j : Int) := by omega
  have hj1 : j ≤ s.size := by omega
  have hlj : l.length + (s.size - j) ≤ 9000 := by omega
  generalize preOp (ch s i) = op at *
  generalize ch s i = d at *
  unfold mthF at HPre
  have hK := preK_in hop
  have eK : Enters Try.prog (preK op) := by
    rcases hK with h | h | h <;> rw [h]
    · exact enters_of Try.func132 (by kernel_rfl) rfl
    · exact enters_of Try.func133 (by kernel_rfl) rfl
    · exact enters_of Try.func134 (by kernel_rfl) rfl
  have HOp := Lib.hid fun X k v' L (hX : PsAt X B pb s k v' L) (hL : L.length ≤ 90000) => pre_any B pb s k v' L op X hX hL hop
  generalize preK op = K at *
  unfold Enters at eK
  clear hK hp h HE hj
  cases hx : pex f (Dl s j) with
  | error k =>
    rw [hx] at HX HEx
    have HX2 : pex (f + 1) (40 :: Dl s i) = .error k := HX
    rw [HX2]
    have HEr : Hid (∀ X v', PsAt X B pb s j v' l → Calls Try.prog 53 #[.pointer (some ⟨pb, 0, none⟩)] X fun e w' => e = .panicked (errV k) ∧ Below B X w') := fun X v' hX => HEx.out X v' hX
    clear HX HX2 hx HEx HOp
    show Calls _ _ _ _ (fun e w' => e = .panicked (errV k) ∧ Below B w w')
    go_enter Try.func85, Try.ntmps85
    go_wp2_with (first
      | (go_at_call 101; ((with_reducible refine HN.out.mono ?_); rintro r w1 ⟨rfl, hb1⟩); have P := Lib.hid (HP.out.below hb1); have F := Lib.hid (Fr.of_below (bb := pb) (v := v) hb1); obtain ⟨c0, c1, c2⟩ := P.out.cells; have f1 := P.out.free 1)
      | (go_at_call 104; ((with_reducible refine (HPre.out _).mono ?_); rintro r w' ⟨rfl, rfl⟩))
      | (go_at_call 53; have P2 := Lib.hid (P.out.move j); have F2 := Lib.hid (F.out.trans (P.out.fr_move j)); clear P F c0 c1 c2 f1; have P := P2; have F := F2; clear P2 F2; ((with_reducible refine (HEr.out _ _ P.out).mono ?_); rintro r w' ⟨rfl, hb⟩)))
    exact ⟨rfl, rfl, (HB.out _ _ F.out).trans hb⟩
  | ok ar =>
    obtain ⟨a, r⟩ := ar
    rw [hx] at HX HEx
    obtain ⟨hr, hsz, hrl⟩ := pex_left hx hj1
    obtain ⟨k, hk⟩ : ∃ k, k = s.size - r.length := ⟨_, rfl⟩
    have HEr : Hid (∀ X v', PsAt X B pb s j v' l → Calls Try.prog 53 #[.pointer (some ⟨pb, 0, none⟩)] X fun e w' => e = .returned (.tuple #[]) ∧ ∃ v2, PsAt w' B pb s k v2 (l ++ flat a l.length) ∧ Fr pb v' v2 X w') := by
      rw [hk]; exact fun X v' hX => HEx.out X v' hX
    have hks : k ≤ s.size := by omega
    have HO2 : Hid (∀ X v', PsAt X B pb s k v' (l ++ flat a l.length) → Calls Try.prog K #[.pointer (some ⟨pb, 0, none⟩)] X fun e w' => e = .returned (.tuple #[]) ∧ ∃ v2, PsAt w' B pb s k v2 (l ++ flat (.one op a) l.length) ∧ Fr pb v' v2 X w') := fun X v' hX => by
      have := HOp.out X k v' _ hX (by rw [List.length_append, flat_len]; omega)
      rw [List.length_append, flat_len, List.append_assoc] at this
      exact this
    rw [← hk] at hr
    have HX2 : pex (f + 1) (40 :: Dl s i) = eatT (.one op a) (eat 41 (Dl s k)) := by rw [HX, ← hr]
    rw [HX2]
    have HT := tail_cases B pb s k (.one op a) hks hs (l ++ flat (.one op a) l.length)
    clear HX HX2 hx HEx HOp hr hsz hrl hk
    rcases HT with ⟨HR, HT⟩ | ⟨c, HR, hc, HT⟩ | ⟨HR, HT⟩
    · rw [HR.out]
      show Calls _ _ _ _ (fun e w' => e = .panicked (errV 3) ∧ Below B w w')
      go_enter Try.func85, Try.ntmps85
      go_wp2_with (first
        | (go_at_call 101; ((with_reducible refine HN.out.mono ?_); rintro r w1 ⟨rfl, hb1⟩); have P := Lib.hid (HP.out.below hb1); have F := Lib.hid (Fr.of_below (bb := pb) (v := v) hb1); obtain ⟨c0, c1, c2⟩ := P.out.cells; have f1 := P.out.free 1)
        | (go_at_call 104; ((with_reducible refine (HPre.out _).mono ?_); rintro r w' ⟨rfl, rfl⟩))
        | (go_at_call 53; have P2 := Lib.hid (P.out.move j); have F2 := Lib.hid (F.out.trans (P.out.fr_move j)); clear P F c0 c1 c2 f1; have P := P2; have F := F2; clear P2 F2; ((with_reducible refine (HEr.out _ _ P.out).mono ?_); rintro r w' ⟨rfl, v', hP, hF⟩); have P2 := Lib.hid hP; have F2 := Lib.hid (F.out.trans hF); clear P F hP hF; have P := P2; have F := F2; clear P2 F2)
        | (go_at_fn K; ((with_reducible refine (HO2.out _ _ P.out).mono ?_); rintro r w' ⟨rfl, v', hP, hF⟩); have P2 := Lib.hid hP; have F2 := Lib.hid (F.out.trans hF); clear P F hP hF; have P := P2; have F := F2; clear P2 F2)
        | (go_at_call 82; ((with_reducible refine (HT.out _ _ P.out).mono ?_); rintro r w' ⟨rfl, hb⟩)))
      exact ⟨rfl, rfl, (HB.out _ _ F.out).trans hb⟩
    · rw [HR.out]
      show Calls _ _ _ _ (fun e w' => e = .panicked (errV 2) ∧ Below B w w')
      go_enter Try.func85, Try.ntmps85
      go_wp2_with (first
        | (go_at_call 101; ((with_reducible refine HN.out.mono ?_); rintro r w1 ⟨rfl, hb1⟩); have P := Lib.hid (HP.out.below hb1); have F := Lib.hid (Fr.of_below (bb := pb) (v := v) hb1); obtain ⟨c0, c1, c2⟩ := P.out.cells; have f1 := P.out.free 1)
        | (go_at_call 104; ((with_reducible refine (HPre.out _).mono ?_); rintro r w' ⟨rfl, rfl⟩))
        | (go_at_call 53; have P2 := Lib.hid (P.out.move j); have F2 := Lib.hid (F.out.trans (P.out.fr_move j)); clear P F c0 c1 c2 f1; have P := P2; have F := F2; clear P2 F2; ((with_reducible refine (HEr.out _ _ P.out).mono ?_); rintro r w' ⟨rfl, v', hP, hF⟩); have P2 := Lib.hid hP; have F2 := Lib.hid (F.out.trans hF); clear P F hP hF; have P := P2; have F := F2; clear P2 F2)
        | (go_at_fn K; ((with_reducible refine (HO2.out _ _ P.out).mono ?_); rintro r w' ⟨rfl, v', hP, hF⟩); have P2 := Lib.hid hP; have F2 := Lib.hid (F.out.trans hF); clear P F hP hF; have P := P2; have F := F2; clear P2 F2)
        | (go_at_call 82; ((with_reducible refine (HT.out _ _ P.out).mono ?_); rintro r w' ⟨rfl, v', hP, hF⟩); have P2 := Lib.hid hP; have F2 := Lib.hid (F.out.trans hF); clear P F hP hF; have P := P2; have F := F2; clear P2 F2))
      exact ⟨rfl, rfl, HB.out _ _ F.out⟩
    · rw [HR.out.1]
      have hkk : s.size - (Dl s (k + 1)).length = k + 1 := by rw [Dl_len]; have := HR.out.2; omega
      show Calls _ _ _ _ (fun e w' => e = .returned (.tuple #[]) ∧ ∃ v', PsAt w' B pb s (s.size - (Dl s (k + 1)).length) v' (l ++ flat (.one op a) l.length) ∧ Fr pb v v' w w')
      rw [hkk]
      clear hkk
      go_enter Try.func85, Try.ntmps85
      go_wp2_with (first
        | (go_at_call 101; ((with_reducible refine HN.out.mono ?_); rintro r w1 ⟨rfl, hb1⟩); have P := Lib.hid (HP.out.below hb1); have F := Lib.hid (Fr.of_below (bb := pb) (v := v) hb1); obtain ⟨c0, c1, c2⟩ := P.out.cells; have f1 := P.out.free 1)
        | (go_at_call 104; ((with_reducible refine (HPre.out _).mono ?_); rintro r w' ⟨rfl, rfl⟩))
        | (go_at_call 53; have P2 := Lib.hid (P.out.move j); have F2 := Lib.hid (F.out.trans (P.out.fr_move j)); clear P F c0 c1 c2 f1; have P := P2; have F := F2; clear P2 F2; ((with_reducible refine (HEr.out _ _ P.out).mono ?_); rintro r w' ⟨rfl, v', hP, hF⟩); have P2 := Lib.hid hP; have F2 := Lib.hid (F.out.trans hF); clear P F hP hF; have P := P2; have F := F2; clear P2 F2)
        | (go_at_fn K; ((with_reducible refine (HO2.out _ _ P.out).mono ?_); rintro r w' ⟨rfl, v', hP, hF⟩); have P2 := Lib.hid hP; have F2 := Lib.hid (F.out.trans hF); clear P F hP hF; have P := P2; have F := F2; clear P2 F2)
        | (go_at_call 82; ((with_reducible refine (HT.out _ _ P.out).mono ?_); rintro r w' ⟨rfl, v', hP, hF⟩); have P2 := Lib.hid hP; have F2 := Lib.hid (F.out.trans hF); clear P F hP hF; have P := P2; have F := F2; clear P2 F2))
      go_end0
      exact ⟨rfl, _, P.out, F.out⟩
end Go.Proofs.Yteckkbjpeckjmaa.Rx
