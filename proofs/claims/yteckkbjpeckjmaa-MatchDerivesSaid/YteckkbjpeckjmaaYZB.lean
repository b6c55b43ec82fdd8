/- Format, Block, Reverse and Plain of package regex. -/
import Derived.Test.YteckkbjpeckjmaaYZA
namespace Go.Proofs.Yteckkbjpeckjmaa.Rx
open Go Go.RowKit Go.Proofs.Yteckkbjpeckjmaa
set_option linter.unusedVariables false
set_option maxRecDepth 100000
theorem txt_len : ∀ t : Ex, t.Ok → (txt t).length ≤ 20 * t.size
  | .leaf op p q, _ => by
    rw [txt_leaf]
    have := fmtT_len p q
    show _ ≤ 20 * 1
    split
    · show 1 ≤ _; omega
    · split
      · show 1 ≤ _; omega
      · simp; omega
  | .one op a, h => by
    rw [txt_len_one]
    have := txt_len a h.2
    show _ ≤ 20 * (a.size + 1)
    omega
  | .two op a b, h => by
    rw [txt_len_two]
    have := txt_len a h.2.1
    have := txt_len b h.2.2
    show _ ≤ 20 * (a.size + b.size + 1)
    omega
theorem bl_whole {t : Ex} : Bl (flat t 0) 0 ((flat t 0).length - 1) t := by
  have := t.pos
  refine ⟨by rw [flat_len]; omega, ?_⟩
  rw [List.drop_zero, ← flat_len t 0, List.take_length]
theorem bld_new (w : World) : Bld (w.alloc (.cells #[.pointer none, .slice none 0 0] 87)) w.heap.size [] :=
  .inl ⟨Nat.le_refl _, _, World.alloc_heap_new w _, World.ownsRowF_nil _ _ _ _, by simp [Value.ownBlock]⟩
set_option maxHeartbeats 4000000 in
theorem textOf_any (A : Option Addr) (e : List Pc) (c : Nat) (v : Nat) (hv : v ≤ 6) (hl : e.length ≤ 1000000) (t : Ex) (s : Nat) (w : World) (hx : PcsAt w A e) (ho : t.Ok) (hc : t.Cubes v) (hb : Bl e s (e.length - 1) t) (hs : t.size ≤ 1000) :
    Calls Try.prog 32 #[.slice A e.length c, .int .i64 v] w fun r w' => r = .returned (.string ⟨(txt t).toArray⟩) ∧ Below w.heap.size w w' := by
  have hmf : ∀ (fn : Fn) (first cap : Array Value) (w : World), (Instr.makeFunc fn first cap).run Try.prog w = .ok (.func fn first cap) w := fun _ _ _ _ => rfl
  have hj := bl_lt hb
  have htl := txt_len t ho
  have HC := Lib.hid (tx_any w w.heap.size (w.heap.size + 2) (w.heap.size + 1) (w.heap.size + 3) A e c v hv hl hx t s (e.length - 1) ho hc hb)
  have HW := Lib.hid (bal (bal (bal (bal (Below.refl w.heap.size w) (.cells #[.slice A e.length c] 27)) (.cells #[.int .i64 v] 3)) (.cells #[.pointer none, .slice none 0 0] 87)) (.cells #[txF w.heap.size (w.heap.size + 2) (w.heap.size + 1) (w.heap.size + 3)] 88))
  have f0 := ((Boxed.new w 27 (.slice A e.length c)).alloc (.cells #[.int .i64 v] 3)).alloc (.cells #[.pointer none, .slice none 0 0] 87) |>.alloc (.cells #[txF w.heap.size (w.heap.size + 2) (w.heap.size + 1) (w.heap.size + 3)] 88)
  have f1 := ((Boxed.new (w.alloc (.cells #[.slice A e.length c] 27)) 3 (.int .i64 v)).alloc (.cells #[.pointer none, .slice none 0 0] 87)).alloc (.cells #[txF w.heap.size (w.heap.size + 2) (w.heap.size + 1) (w.heap.size + 3)] 88)
  have f2 := (bld_new ((w.alloc (.cells #[.slice A e.length c] 27)).alloc (.cells #[.int .i64 v] 3))).below (bal (Below.refl _ _) (.cells #[txF w.heap.size (w.heap.size + 2) (w.heap.size + 1) (w.heap.size + 3)] 88))
  have f3 := Boxed.new (((w.alloc (.cells #[.slice A e.length c] 27)).alloc (.cells #[.int .i64 v] 3)).alloc (.cells #[.pointer none, .slice none 0 0] 87)) 88 (txF w.heap.size (w.heap.size + 2) (w.heap.size + 1) (w.heap.size + 3))
  simp only [World.size_alloc] at f1 f2 f3
  have HK := Lib.hid (HC.out _ [] HW.out ⟨f0, f1, f3, f2, by simp, by omega, by omega, by omega⟩ (by omega) (by simp; omega))
  have hn1 : 1 ≤ (e.length : Int) := by omega
  rw [show ((e.length - 1 : Nat) : Int) = (e.length : Int) - 1 by omega] at HK
  clear HC f0 f1 f2 f3 hb hc ho hx hj htl hs
  unfold txF at HK HW
  generalize txt t = T at *
  generalize e.length = n at *
  have HStr := Lib.hid fun X (hX : Bld X (w.heap.size + 2) T) hs => Try.Builder_String_any_k (w.heap.size + 2) (w.heap.size + 2) T X hX hs
  have tok : True := trivial
  go_enter Try.func32, Try.ntmps32
  go_wp2_with (first
    | (go_at_call 54; ((with_reducible refine HK.out.mono ?_); rintro r w3 ⟨rfl, hT, hk⟩); rw [List.nil_append] at hT; have HT := Lib.hid hT; have Hk := Lib.hid hk; clear hT hk)
    | (go_at_call 58; ((with_reducible refine (HStr.out _ HT.out.b (Nat.le_of_lt HT.out.lt)).mono ?_); rintro r w4 ⟨rfl, _, hb4, _⟩)))
  go_ret
  exact ⟨rfl, HW.out.trans ((Hk.out.bel.mono (by omega)).trans (hb4.mono (by omega)))⟩
theorem ret_se {s : List UInt8} {k n : Int} {s' : List UInt8} (h : s = s') (h' : k = n) : Ending.returned (.tuple #[.string ⟨s.toArray⟩, .int .i64 k]) = .returned (.tuple #[.string ⟨s'.toArray⟩, .int .i64 n]) := by rw [h, h']
set_option maxHeartbeats 4000000 in
theorem Format_bad (A : Option Addr) (e : List Pc) (c : Nat) (v : Int) (w : World) (hx : PcsAt w A e) (hl : e.length ≤ 1000000) (hne : chkL v e ≠ 0) :
    Calls Try.prog 8 #[.slice A e.length c, .int .i64 v] w fun r w' => r = .returned (.tuple #[.string ⟨#[]⟩, .int .i64 (chkL v e)]) ∧ Below w.heap.size w w' := by
  have HK := Lib.hid (Check_any A e c v w hx hl)
  generalize chkL v e = E at *
  have h1 := int_ne hne
  clear hne hx
  generalize e.length = n at *
  go_enter Try.func8, Try.ntmps8
  go_wp2_with (go_at_call 10; ((with_reducible refine HK.out.mono ?_); rintro r w2 ⟨rfl, hb2⟩))
  go_ret2
  exact ⟨rfl, hb2⟩
set_option maxHeartbeats 4000000 in
theorem Format_good (A : Option Addr) (t : Ex) (k c : Nat) (v : Int) (w : World) (hx : PcsAt w A (flat t 0)) (hV : t.Valid v) (hk : k = t.size) :
    Calls Try.prog 8 #[.slice A k c, .int .i64 v] w fun r w' => r = .returned (.tuple #[.string ⟨(txt t).toArray⟩, .int .i64 0]) ∧ Below w.heap.size w w' := by
  have hs := hV.size
  have hl : (flat t 0).length ≤ 1000000 := by rw [flat_len]; omega
  have hk' : k = (flat t 0).length := by rw [flat_len]; exact hk
  obtain ⟨n, rfl⟩ : ∃ n : Nat, v = n := ⟨v.toNat, by have := hV.v0; omega⟩
  have HK := Lib.hid (Check_any A (flat t 0) c n w hx hl)
  rw [chkL_valid hV, ← hk'] at HK
  have HT := Lib.hid fun X (hX : Below w.heap.size w X) => textOf_any A (flat t 0) c n (by have := hV.v6; omega) hl t 0 X (hx.below hX) hV.ok hV.cubes bl_whole (by omega)
  rw [← hk'] at HT
  clear hx hV hk hk' hl hs
  generalize txt t = T at *
  go_enter Try.func8, Try.ntmps8
  go_wp2_with (first
    | (go_at_call 10; ((with_reducible refine HK.out.mono ?_); rintro r w2 ⟨rfl, hb2⟩))
    | (go_at_call 32; ((with_reducible refine (HT.out _ hb2).mono ?_); rintro r w3 ⟨rfl, hb3⟩)))
  go_ret2
  exact ⟨rfl, stepB hb2 hb3⟩
end Go.Proofs.Yteckkbjpeckjmaa.Rx
