/- The reference's fixed and nodes. -/
import Derived.Test.YteckkbjpeckjmaaDoorHB
namespace Go.Proofs.YteckkbjpeckjmaaDoor.Dg
open Go Go.RowKit Go.Proofs.YteckkbjpeckjmaaDoor.Ap
set_option maxRecDepth 100000
theorem pow7 {v : Nat} (h : v ≤ 6) : 2 ^ v ≤ 64 := Nat.pow_le_pow_right (n := 2) (by decide) h
theorem shl_i64 {v : Nat} (h : v ≤ 6) : wrap64 ((2 : Int) ^ v) = ((2 ^ v : Nat) : Int) := by
  have h1 := pow7 h
  have h2 : ((2 ^ v : Nat) : Int) = (2 : Int) ^ v := by exact_mod_cast rfl
  rw [← h2]
  generalize 2 ^ v = m at h1
  unfold wrap64
  omega
theorem cell_one (W : World) (t : TypeId) (v : Value) : ∀ j u, [v][j]? = some u → (W.alloc (.cells #[v] t)).cell? ((⟨W.heap.size, 0, none⟩ : Addr).add j) = some u := by
  intro j u hu
  rw [addr_add, World.cell?_alloc_at _ _ _ _ rfl]
  simpa using hu
theorem ownsRow_form {w : World} {base : Nat} {e : TypeId} {size : Nat} {v : Value} {n : Nat} {xs : List Value} (h : w.ownsRow base e size v n xs) (hn : 0 < n) : ∃ g c, v = .slice (some ⟨g, 0, none⟩) n c := by
  obtain ⟨g, c, e, _⟩ := own_somev h hn
  exact ⟨g, c, e⟩
end Go.Proofs.YteckkbjpeckjmaaDoor.Dg
