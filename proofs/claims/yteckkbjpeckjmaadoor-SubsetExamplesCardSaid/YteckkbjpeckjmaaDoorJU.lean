/- The kit's CopyDFA; the law's Long. -/
import Derived.Test.YteckkbjpeckjmaaDoorJT
namespace Go.Proofs.YteckkbjpeckjmaaDoor.Sb
open Go Go.RowKit Go.Proofs.YteckkbjpeckjmaaDoor Go.Proofs.YteckkbjpeckjmaaDoor.Cb
open Go.Proofs.YteckkbjpeckjmaaDoor.Nf (zvs ret_int ret_b hnext drew_below)
open Go.Proofs.YteckkbjpeckjmaaDoor.Dg (Tabs tb tb_mem)
set_option linter.unusedVariables false
set_option linter.unusedSimpArgs false
set_option maxRecDepth 100000
theorem tabs_put4 {Y : World} {b : Nat} {u0 u1 u2 u3 : Value} (hb : Blk4 Y b u0 u1 u2 u3) {B : Nat} {A : Option Addr} {c : Nat} {L : List (List Int)} (h : SetsO B Y (.slice A L.length c) L) (v0 v1 v2 v3 : Value) : Tabs (put4 Y b v0 v1 v2 v3) A L :=
  (h.keep hb (by decide) (by decide) fun k hk => put4_other _ _ _ _ hk).tabs rfl
theorem bools_put4 {Y : World} {b : Nat} {u0 u1 u2 u3 : Value} (hb : Blk4 Y b u0 u1 u2 u3) {B : Nat} {A : Option Addr} {c : Nat} {l : List Bool} (h : Y.ownsRow B 4 1 (.slice A l.length c) l.length (l.map Value.bool)) (v0 v1 v2 v3 : Value) : Bools (put4 Y b v0 v1 v2 v3) A l :=
  bools_own (own_eq h (w' := put4 Y b v0 v1 v2 v3) fun g hg => put4_other _ _ _ _ (fun e => own_ne hb h (by decide) (e ▸ hg))) rfl
end Go.Proofs.YteckkbjpeckjmaaDoor.Sb
