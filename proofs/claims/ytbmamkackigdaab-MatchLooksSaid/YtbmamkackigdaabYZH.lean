/- Expressions in a text (package regex): the operators' methods. -/
import Derived.Test.YtbmamkackigdaabYZG
namespace Go.Proofs.Ytbmamkackigdaab.Rx
open Go Go.RowKit Go.Proofs.Ytbmamkackigdaab
set_option linter.unusedVariables false
set_option maxRecDepth 100000
/-- What reading an expression leaves. -/
def ExPost (B pb : Nat) (s : ByteArray) (v : Value) (l : List Pc) (w : World) (res : Except Int (List Pc × List UInt8)) (e : Ending) (w' : World) : Prop :=
  match res with
  | .ok (l', r) => e = .returned (.tuple #[]) ∧ ∃ v', PsAt w' B pb s (s.size - r.length) v' (l ++ l') ∧ Fr pb v v' w w'
  | .error k => e = .panicked (errV k) ∧ Below B w w'
def resP (k : Nat) : Except Int (Ex × List UInt8) → Except Int (List Pc × List UInt8)
  | .ok (t, r) => .ok (flat t k, r)
  | .error e => .error e
def ExC (B pb : Nat) (s : ByteArray) (f : Nat) : Prop := ∀ (i : Nat) (v : Value) (l : List Pc) (w : World), PsAt w B pb s i v l → i ≤ s.size → s.size - i ≤ f → l.length + (s.size - i) ≤ 9000 →
  Calls Try.prog 86 #[.pointer (some ⟨pb, 0, none⟩)] w (ExPost B pb s v l w (resP l.length (pex f (Dl s i))))
theorem txt_ge : ∀ t : Ex, t.Ok → t.size ≤ (txt t).length
  | .leaf op p q, _ => by
    rw [txt_leaf]
    show 1 ≤ _
    split
    · simp
    · split <;> simp
  | .one op a, h => by
    rw [txt_len_one]
    have := txt_ge a h.2
    show a.size + 1 ≤ _
    omega
  | .two op a b, h => by
    rw [txt_len_two]
    have := txt_ge a h.2.1
    have := txt_ge b h.2.2
    show a.size + b.size + 1 ≤ _
    omega
/-- What is left behind an expression. -/
theorem pex_left {s : ByteArray} {i f : Nat} {t : Ex} {r : List UInt8} (h : pex f (Dl s i) = .ok (t, r)) (hi : i ≤ s.size) : r = Dl s (s.size - r.length) ∧ t.size + r.length ≤ s.size - i ∧ r.length ≤ s.size - i := by
  obtain ⟨h1, _, h2⟩ := pex_ok f _ t r h
  have h3 := txt_ge t h1
  have h4 := congrArg List.length h2
  rw [Dl_len, List.length_append] at h4
  refine ⟨?_, by omega, by omega⟩
  have h5 : (Dl s i).drop (txt t).length = r := by rw [h2, List.drop_left]
  have h6 : s.size - r.length = i + (txt t).length := by omega
  rw [h6]
  unfold Dl at h5 ⊢
  rw [← List.drop_drop]
  exact h5.symm
set_option maxHeartbeats 4000000 in
theorem unary_any (B pb : Nat) (s : ByteArray) (i : Nat) (v : Value) (l : List Pc) (op : Nat) (w : World) (h : PsAt w B pb s i v l) (hl : l.length ≤ 90000) :
    Calls Try.prog 153 #[.pointer (some ⟨pb, 0, none⟩), .int .u8 op] w fun e w' => e = .returned (.tuple #[]) ∧ ∃ v', PsAt w' B pb s i v' (l ++ [⟨op, 0, 0, (l.length : Int) - 1, 0⟩]) ∧ Fr pb v v' w w' := by
  have HR := Lib.hid (root_any B pb s i v l w h (by omega))
  have HA : Hid (Calls Try.prog 104 #[.pointer (some ⟨pb, 0, none⟩), .agg #[.int .u8 op, .int .u8 0, .int .u8 0, .int .i64 ((l.length : Int) - 1), .int .i64 0]] w fun e w2 => e = .returned (.tuple #[]) ∧ ∃ v', PsAt w2 B pb s i v' (l ++ [⟨op, 0, 0, (l.length : Int) - 1, 0⟩]) ∧ Fr pb v v' w w2) := add_any B pb s i v l ⟨op, 0, 0, (l.length : Int) - 1, 0⟩ w h (by omega)
  clear h
  generalize l.length = n at *
  go_enter Try.func153, Try.ntmps153
  go_wp2_with (first
    | (go_at_call 155; ((with_reducible refine HR.out.mono ?_); rintro r w1 ⟨rfl, rfl⟩))
    | (go_at_call 104; ((with_reducible refine HA.out.mono ?_); rintro r w2 ⟨rfl, v', hP, hF⟩)))
  go_end0
  exact ⟨rfl, v', hP, hF⟩
set_option maxHeartbeats 4000000 in
theorem binary_any (B pb : Nat) (s : ByteArray) (f : Nat) (HE : ExC B pb s f) (i : Nat) (v : Value) (l : List Pc) (op : Nat) (w : World) (h : PsAt w B pb s i v l) (hi : i ≤ s.size) (hf : s.size - i ≤ f) (hl : l.length + (s.size - i) ≤ 9000) :
    Calls Try.prog 154 #[.pointer (some ⟨pb, 0, none⟩), .int .u8 op] w (ExPost B pb s v l w (match pex f (Dl s i) with | .ok (t, r) => .ok (flat t l.length ++ [⟨op, 0, 0, (l.length : Int) - 1, ((l.length + t.size : Nat) : Int) - 1⟩], r) | .error k => .error k)) := by
  have HR := Lib.hid (root_any B pb s i v l w h (by omega))
  have HX := HE i v l w h hi hf hl
  cases hx : pex f (Dl s i) with
  | error k =>
    rw [hx] at HX
    have HY : Hid (Calls Try.prog 86 #[.pointer (some ⟨pb, 0, none⟩)] w fun e w' => e = .panicked (errV k) ∧ Below B w w') := HX
    clear h hx HX
    generalize hn : l.length = n at *
    clear hn
    go_enter Try.func154, Try.ntmps154
    go_wp2_with (first
      | (go_at_call 155; ((with_reducible refine HR.out.mono ?_); rintro r w1 ⟨rfl, rfl⟩))
      | (go_at_call 86; ((with_reducible refine HY.out.mono ?_); rintro r w2 ⟨rfl, hb2⟩)))
    exact ⟨rfl, rfl, hb2⟩
  | ok tr =>
    obtain ⟨t, r⟩ := tr
    rw [hx] at HX
    have HY : Hid (Calls Try.prog 86 #[.pointer (some ⟨pb, 0, none⟩)] w fun e w' => e = .returned (.tuple #[]) ∧ ∃ v', PsAt w' B pb s (s.size - r.length) v' (l ++ flat t l.length) ∧ Fr pb v v' w w') := HX
    obtain ⟨_, hs, _⟩ := pex_left hx hi
    have HR2 : Hid (∀ X v', PsAt X B pb s (s.size - r.length) v' (l ++ flat t l.length) → Calls Try.prog 155 #[.pointer (some ⟨pb, 0, none⟩)] X fun e w' => e = .returned (.int .i64 (((l.length + t.size : Nat) : Int) - 1)) ∧ X = w') := fun X v' hX => by
      have := root_any B pb s _ v' _ X hX (by rw [List.length_append, flat_len]; omega)
      rwa [List.length_append, flat_len] at this
    have HA : Hid (∀ X v', PsAt X B pb s (s.size - r.length) v' (l ++ flat t l.length) → Calls Try.prog 104 #[.pointer (some ⟨pb, 0, none⟩), .agg #[.int .u8 op, .int .u8 0, .int .u8 0, .int .i64 ((l.length : Int) - 1), .int .i64 (((l.length + t.size : Nat) : Int) - 1)]] X fun e w2 => e = .returned (.tuple #[]) ∧ ∃ v2, PsAt w2 B pb s (s.size - r.length) v2 (l ++ flat t l.length ++ [⟨op, 0, 0, (l.length : Int) - 1, ((l.length + t.size : Nat) : Int) - 1⟩]) ∧ Fr pb v' v2 X w2) := fun X v' hX => add_any B pb s _ v' _ ⟨op, 0, 0, (l.length : Int) - 1, ((l.length + t.size : Nat) : Int) - 1⟩ X hX (by rw [List.length_append, flat_len]; omega)
    clear h hx HX
    show Calls _ _ _ _ (fun e w' => e = .returned (.tuple #[]) ∧ ∃ v', PsAt w' B pb s (s.size - r.length) v' (l ++ (flat t l.length ++ [⟨op, 0, 0, (l.length : Int) - 1, ((l.length + t.size : Nat) : Int) - 1⟩])) ∧ Fr pb v v' w w')
    rw [← List.append_assoc]
    generalize l ++ flat t l.length = L at *
    generalize hn : l.length = n at *
    generalize hm : ((n + t.size : Nat) : Int) - 1 = M at *
    generalize s.size - r.length = k at *
    clear hn hm hs hf hl
    go_enter Try.func154, Try.ntmps154
    have tok1 : True := trivial
    go_wp2_with (first
      | (go_at_call 155; have _t := tok1; ((with_reducible refine HR.out.mono ?_); rintro r w1 ⟨rfl, rfl⟩); clear tok1 _t)
      | (go_at_call 86; ((with_reducible refine HY.out.mono ?_); rintro r w2 ⟨rfl, v2, hP2, hF2⟩); have HP2 := Lib.hid hP2; have HF2 := Lib.hid hF2; clear hP2 hF2)
      | (go_at_call 155; ((with_reducible refine (HR2.out _ _ HP2.out).mono ?_); rintro r w3 ⟨rfl, rfl⟩))
      | (go_at_call 104; ((with_reducible refine (HA.out _ _ HP2.out).mono ?_); rintro r w4 ⟨rfl, v3, hP3, hF3⟩)))
    go_end0
    exact ⟨rfl, v3, hP3, HF2.out.trans hF3⟩
end Go.Proofs.Ytbmamkackigdaab.Rx
