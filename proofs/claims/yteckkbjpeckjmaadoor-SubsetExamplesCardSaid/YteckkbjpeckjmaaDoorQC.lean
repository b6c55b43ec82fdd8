/- A region that draws its order, in a class of worlds: one walk in the order of the text serves every order. Plain lemmas over any program. -/
import Derived.BigQuiet
import Derived.Below
import Derived.RegionTactic
namespace Go.Proofs.YteckkbjpeckjmaaDoor
open Go Go.RowKit
/-- A world of the class S. -/
structure Cls (S : World → Prop) where
  w : World
  h : S w
theorem wp_region_cls {P : Program} {id : Nat} {Q : Exit → Act → World → Prop} {a : Act} {w : World} {l : List Oper} (S : World → Prop) (hm : P.follows .mixedOrders = true) (hB : Region.lexB .any l.toArray = true) (h0 : S w.drew)
    (h : wpQuiet P l.toArray (fun w' => ∃ r : Cls S, w' = r.w) (fun a' => ∀ w', (∃ r : Cls S, w' = r.w) → Q .normal a' w') l a) : (Code.region id l.toArray true).wp P Q a w :=
  wp_region_quiet (C := fun w' => ∃ r : Cls S, w' = r.w) hm hB ⟨⟨_, h0⟩, rfl⟩ (by simpa using h)
end Go.Proofs.YteckkbjpeckjmaaDoor
