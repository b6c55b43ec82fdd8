/- A step of a row of steps; what the five laws have in common. -/
import Derived.Test.YtbhfmeohaoojfaaVJ
import Derived.Test.YtbhfmeohaoojfaaVK
import Derived.Test.YtbhfmeohaoojfaaVB
namespace Go.Proofs.Ytbhfmeohaoojfaa.Dn
open Go Go.RowKit Go.Proofs.Ytbhfmeohaoojfaa.Ap
open Go.Proofs.Ytbhfmeohaoojfaa.Dg
set_option linter.unusedVariables false
set_option maxRecDepth 100000
section
variable {X w0 : World} {qb sb cb rb tb mb v cap : Nat}
theorem RunE.mono {n m : Nat} (h : RunE w0 X qb sb cb rb tb mb v cap n) (hm : n ≤ m) : RunE w0 X qb sb cb rb tb mb v cap m := by
  obtain ⟨nv, N, R, A, c, Q, rv, rs, tv, T, h1, h2⟩ := h
  exact ⟨nv, N, R, A, c, Q, rv, rs, tv, T, h1, by omega⟩
theorem RunE.below {n : Nat} {Y : World} (h : RunE w0 X qb sb cb rb tb mb v cap n) (hb : Below X.heap.size X Y) : RunE w0 Y qb sb cb rb tb mb v cap n := by
  obtain ⟨nv, N, R, A, c, Q, rv, rs, tv, T, h1, h2⟩ := h
  exact ⟨nv, N, R, A, c, Q, rv, rs, tv, T, h1.below hb, h2⟩
theorem RunE.bel {n : Nat} (h : RunE w0 X qb sb cb rb tb mb v cap n) : Below w0.heap.size w0 X := by
  obtain ⟨nv, N, R, A, c, Q, rv, rs, tv, T, h1, h2⟩ := h
  exact h1.own.bel
/-- The run's four cells. -/
theorem RunE.cells {n : Nat} (h : RunE w0 X qb sb cb rb tb mb v cap n) : X.cell? ⟨qb, 0, none⟩ = some (.pointer (some ⟨sb, 0, none⟩)) ∧ X.cell? ⟨qb, 1, none⟩ = some (.pointer (some ⟨mb, 0, none⟩)) ∧ qb < X.heap.size := by
  obtain ⟨nv, N, R, A, c, Q, rv, rs, tv, T, h1, h2⟩ := h
  exact ⟨h1.law.cells.1, h1.law.cells.2.1, h1.law.lt.1⟩
theorem step_at {k : Nat} (h : RunE w0 X qb sb cb rb tb mb v cap k) (hk : k ≤ 900) (s : SD) (hs : s.Ok) (hi : Ints w0 s.D s.u) (hu : s.u.length ≤ 70) :
    Calls Try.prog 12 #[.pointer (some ⟨qb, 0, none⟩), .agg #[.int .u8 s.o, .int .u8 s.op, .int .u8 s.x, .int .i64 s.a, .int .i64 s.b, .int .i64 s.z, .slice s.D s.u.length s.k, .int .u8 s.p, .int .u8 s.q]] X fun e w' => e = .returned (.bool true) ∧ RunE w0 w' qb sb cb rb tb mb v cap (k + 1) := by
  obtain ⟨nv, N, R, A, c, Q, rv, rs, tv, T, h1, h2⟩ := h
  exact (step_any s.o s.op s.x s.p s.q s.a s.b s.z s.D s.u s.u.length s.k h1 (by omega) hs.o hs.op hs.x hs.p hs.q hs.a hs.b hs.z hi rfl (by omega) hs.u).mono fun e w' ⟨he, hr⟩ => ⟨he, hr.mono (by omega)⟩
end
/-- The nine cells of step k. -/
theorem StepsAt.nine {w : World} {A : Option Addr} {l : List SD} (h : StepsAt w A l) {k : Nat} (hk : k < l.length) : (sd l k).Ok ∧ Ints w (sd l k).D (sd l k).u ∧ ∃ ad : Addr, A = some ad ∧ ad.block < w.heap.size ∧
    (∀ i v, (sd l k).val[i]? = some v → ∀ Y, Below w.heap.size w Y → Y.cell? ((ad.add (k * 9)).add i) = some v) := by
  obtain ⟨h1, h2, h3, ad, e, h4, h5⟩ := h k hk
  exact ⟨h1, h2, ad, e, h4, fun i v hv Y hY => (Below.cell hY (by rw [addr_block, addr_block]; exact h4)).trans (h5 i v hv)⟩
theorem nine_at {Y : World} {ad : Addr} {k : Nat} {s : SD} (h : ∀ i v, s.val[i]? = some v → Y.cell? ((ad.add (k * 9)).add i) = some v) :
    Y.cell? (ad.add (k * 9)) = some (.int .u8 s.o) ∧ Y.cell? ⟨(ad.add (k * 9)).block, (ad.add (k * 9)).off + 1, none⟩ = some (.int .u8 s.op) ∧ Y.cell? ⟨(ad.add (k * 9)).block, (ad.add (k * 9)).off + 2, none⟩ = some (.int .u8 s.x) ∧
    Y.cell? ⟨(ad.add (k * 9)).block, (ad.add (k * 9)).off + 3, none⟩ = some (.int .i64 s.a) ∧ Y.cell? ⟨(ad.add (k * 9)).block, (ad.add (k * 9)).off + 4, none⟩ = some (.int .i64 s.b) ∧ Y.cell? ⟨(ad.add (k * 9)).block, (ad.add (k * 9)).off + 5, none⟩ = some (.int .i64 s.z) ∧
    Y.cell? ⟨(ad.add (k * 9)).block, (ad.add (k * 9)).off + 6, none⟩ = some (.slice s.D s.u.length s.k) ∧ Y.cell? ⟨(ad.add (k * 9)).block, (ad.add (k * 9)).off + 7, none⟩ = some (.int .u8 s.p) ∧ Y.cell? ⟨(ad.add (k * 9)).block, (ad.add (k * 9)).off + 8, none⟩ = some (.int .u8 s.q) :=
  ⟨h 0 _ rfl, h 1 _ rfl, h 2 _ rfl, h 3 _ rfl, h 4 _ rfl, h 5 _ rfl, h 6 _ rfl, h 7 _ rfl, h 8 _ rfl⟩
theorem Long_b (v : Int) (A : Option Addr) (l : List SD) (c : Nat) (w : World) (hs : StepsAt w A l) (hl : l.length ≤ maxLen) :
    Calls Try.prog 9 #[.int .i64 v, .slice A l.length c] w fun e w' => e = .returned (.bool (longB v l)) ∧ Below w.heap.size w w' :=
  (Long_any v A l c w hs hl).mono fun e w' ⟨he, n, hn⟩ => ⟨he, by rw [hn]; exact bdN (Below.refl _ _) n⟩
theorem newE_yes {v cap : Int} (h : newE v cap = 0) : ∃ v' cap' : Nat, v = v' ∧ cap = cap' ∧ v' ≤ 6 ∧ 1 ≤ cap' ∧ cap' ≤ 4096 := by
  unfold newE at h
  by_cases h1 : v < 0 ∨ 6 < v
  · rw [if_pos h1] at h; cases h
  · rw [if_neg h1] at h
    by_cases h2 : cap < 1 ∨ 4096 < cap
    · rw [if_pos h2] at h; cases h
    · exact ⟨v.toNat, cap.toNat, by omega, by omega, by omega, by omega, by omega⟩
theorem begin_e (v cap : Nat) (w : World) (hv : v ≤ 6) (hc1 : 1 ≤ cap) (hc2 : cap ≤ 4096) :
    Calls Try.prog 11 #[.int .i64 v, .int .i64 cap] w fun e w' => ∃ qb sb cb rb tb mb, e = .returned (.tuple #[.pointer (some ⟨qb, 0, none⟩), .bool true, .bool true]) ∧ RunE w w' qb sb cb rb tb mb v cap 0 :=
  (begin_yes v cap w hv hc1 hc2).mono fun e w' ⟨qb, sb, cb, rb, tb, mb, he, hr⟩ => ⟨qb, sb, cb, rb, tb, mb, he, _, _, _, _, _, _, _, _, _, _, hr, Nat.le_refl _⟩
theorem inR_no {R rs : List Nat} {x : Int} (ha : ∀ r ∈ R, r ∈ rs) (h : ∀ r ∈ rs, ((r : Nat) : Int) ≠ x) : inR R x = false := by
  cases hx : inR R x with
  | false => rfl
  | true =>
    obtain ⟨q, hq, e⟩ := inR_iff.1 hx
    exact absurd e (h q (ha q hq))
end Go.Proofs.Ytbhfmeohaoojfaa.Dn
