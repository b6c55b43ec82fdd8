/- The walk of the law CubeParse. -/
import Derived.Test.YtjjdhegkcilaiaaDoorDP
import Derived.Test.YtjjdhegkcilaiaaDoorLR
namespace Go.Proofs.YtjjdhegkcilaiaaDoor
open Go Go.RowKit
set_option maxRecDepth 100000
set_option maxHeartbeats 1000000 in
theorem cubeParse_walk (s : ByteArray) (v : Int) (w : World) (hs : s.size ≤ maxLen) (hvb : -9223372036854775808 ≤ v ∧ v ≤ 9223372036854775807) (hT : HavT w) :
    Calls Tryd.prog 7 #[.string s, .int .i64 v] w fun e w' => e = .returned (.bool true) ∧ Below w.heap.size w w' := by
  unfold maxLen at hs
  obtain ⟨v0, v1⟩ := hvb
  have HW := Lib.hid fun w' (k : Below w.heap.size w w') => awake_any w' (hT.below k)
  clear hT
  by_cases hlen : 200 < s.size
  · go_enter Tryd.func7, Tryd.ntmps7
    go_wp2_with (go_at_call 40; refine (HW.out _ (Below.refl _ _)).mono ?_; rintro e w2 ⟨rfl, hb⟩)
    go_ret
    exact ⟨rfl, hb⟩
  · have H1 := Lib.hid fun w => Parse_any s v w (by omega)
    have H2 := Lib.hid fun w => refParse_any s v w (by omega)
    generalize prs s.data.toList v = r at *
    obtain ⟨⟨d1, d2⟩, f⟩ := r
    simp only at H1 H2
    go_enter Tryd.func7, Tryd.ntmps7
    go_wp2_with (first
      | (go_at_call 49; refine (H1.out _).mono ?_; rintro e w1 ⟨rfl, hb1⟩; have K : Kit1 w w1.heap.size d1 d2 (w1.alloc (.cells #[.int .u8 (d1 : Nat), .int .u8 (d2 : Nat)] 42)) := ⟨Box2.new w1 _ _ _, bal hb1 _⟩)
      | (go_at_call 50; refine (H2.out _).mono ?_; rintro e w2 ⟨rfl, hb2⟩; have K2 := (K.step hb2).alloc (.cells #[.int .u8 (d1 : Nat), .int .u8 (d2 : Nat)] 42); have b2 := Box2.new w2 42 (.int .u8 (d1 : Nat)) (.int .u8 (d2 : Nat)); clear K hb2; have a0 := K2.c.c0; have a1 := K2.c.c1; have a2 := b2.c0; have a3 := b2.c1)
      | (go_at_call 40; refine (HW.out _ K2.k).mono ?_; rintro e w3 ⟨rfl, hb⟩; have k9 := stepB K2.k hb; clear a0 a1 a2 a3 hb))
    go_ret
    exact ⟨rfl, k9⟩
end Go.Proofs.YtjjdhegkcilaiaaDoor
