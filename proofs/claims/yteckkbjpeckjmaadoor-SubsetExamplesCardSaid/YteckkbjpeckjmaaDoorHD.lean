/- A row of tables of one's own; the reference's nodes. -/
import Derived.Test.YteckkbjpeckjmaaDoorHC
namespace Go.Proofs.YteckkbjpeckjmaaDoor.Dg
open Go Go.RowKit Go.Proofs.YteckkbjpeckjmaaDoor.Ap
set_option maxRecDepth 100000
theorem info_tab : (Tryd.prog.info? 23).map (fun i => (i.zero, i.size, i.bytes)) = some (some (.slice none 0 0), 1, 24) := by kernel_rfl
def slv (Q : List (Option Addr × Nat × List Int)) : List Value := Q.map fun q => .slice q.1 q.2.2.length q.2.1
/-- The tables O in a row of one's own, at or above B; each table lies in a block that is not the row's. -/
def OwnT (B : Nat) (X : World) (u : Value) (O : List (List Int)) : Prop :=
  ∃ Q : List (Option Addr × Nat × List Int), Q.map (fun q => q.2.2) = O ∧ X.ownsRow B 23 1 u O.length (slv Q) ∧
    ∀ q ∈ Q, Ints X q.1 q.2.2 ∧ ∀ ad, q.1 = some ad → ad.block < X.heap.size ∧ u.ownBlock ≠ some ad.block
theorem OwnT.nil (B : Nat) (X : World) : OwnT B X (.slice none 0 0) [] := ⟨[], rfl, ⟨rfl, .inl ⟨rfl, rfl⟩⟩, fun q hq => by cases hq⟩
theorem OwnT.below {B : Nat} {X Y : World} {u : Value} {O : List (List Int)} (h : OwnT B X u O) (hb : Below X.heap.size X Y) : OwnT B Y u O := by
  obtain ⟨Q, e, ho, hq⟩ := h
  exact ⟨Q, e, own_bel ho hb, fun q h1 => ⟨Vals.below (hq q h1).1 hb, fun ad h2 => ⟨Nat.lt_of_lt_of_le ((hq q h1).2 ad h2).1 hb.size, ((hq q h1).2 ad h2).2⟩⟩⟩
theorem OwnT.row {B : Nat} {X : World} {u : Value} {O : List (List Int)} (h : OwnT B X u O) : ∃ A c, u = .slice A O.length c ∧ O.length ≤ c := by
  obtain ⟨Q, e, ho, hq⟩ := h
  exact own_form ho
theorem OwnT.tabs {B : Nat} {X : World} {A : Option Addr} {n c : Nat} {O : List (List Int)} (h : OwnT B X (.slice A n c) O) (hn : n = O.length) : Tabs X A O := by
  obtain ⟨Q, e, ho, hq⟩ := h
  subst hn
  have hl : Q.length = O.length := by rw [← e, List.length_map]
  have hv := Vals.of_own (f := fun j => (slv Q).getD j (.slice none 0 0)) ho fun j hj => by
    have : j < (slv Q).length := by unfold slv; rw [List.length_map]; omega
    rw [List.getD_eq_getElem?_getD, List.getElem?_eq_getElem this]; rfl
  intro j hj
  obtain ⟨ad, e1, h1, h2⟩ := hv j hj
  have hjQ : j < Q.length := by omega
  have h3 := hq Q[j] (List.getElem_mem hjQ)
  have e2 : tb O j = Q[j].2.2 := by
    unfold tb
    rw [← e, List.getD_eq_getElem?_getD, List.getElem?_map, List.getElem?_eq_getElem hjQ]; rfl
  refine ⟨ad, Q[j].1, Q[j].2.1, e1, h1, ?_, by rw [e2]; exact h3.1⟩
  rw [h2, e2]
  unfold slv
  simp only [List.getD_eq_getElem?_getD, List.getElem?_map, List.getElem?_eq_getElem hjQ]
  rfl
theorem own_push {B : Nat} {X Y : World} {u v' : Value} {O : List (List Int)} {p : Option Addr} {c : Nat} {t : List Int} {tmp : Obj} {Q : List (Option Addr × Nat × List Int)} (e : Q.map (fun q => q.2.2) = O) (hq : ∀ q ∈ Q, Ints X q.1 q.2.2 ∧ ∀ ad, q.1 = some ad → ad.block < X.heap.size ∧ u.ownBlock ≠ some ad.block) (ht : Ints X p t) (hp : ∀ ad, p = some ad → ad.block < X.heap.size ∧ u.ownBlock ≠ some ad.block)
    (hown : Y.ownsRow B 23 1 v' (O.length + 1) (slv Q ++ [.slice p t.length c])) (hgrow : (X.alloc tmp).grownBy Y u.ownBlock) (hob : v'.ownBlock = u.ownBlock ∨ v'.ownBlock = some (X.alloc tmp).heap.size) : OwnT B Y v' (O ++ [t]) := by
  obtain ⟨_, _, _, gs, gb⟩ := hgrow
  have hsz : X.heap.size + 1 ≤ Y.heap.size := by simpa using gs
  have keep : ∀ (q : Option Addr) (l : List Int), Ints X q l → (∀ ad, q = some ad → ad.block < X.heap.size ∧ u.ownBlock ≠ some ad.block) → Ints Y q l ∧ ∀ ad, q = some ad → ad.block < Y.heap.size ∧ v'.ownBlock ≠ some ad.block := by
    intro q l hi hd
    refine ⟨fun j hj => ?_, fun ad h1 => ⟨by have := (hd ad h1).1; omega, ?_⟩⟩
    · obtain ⟨ad, e1, h1, h2⟩ := hi j hj
      have hne := (hd ad e1).2
      refine ⟨ad, e1, by omega, ?_⟩
      have hbk : Y.heap[ad.block]? = X.heap[ad.block]? := (gb ad.block (by simp; omega) (fun h => hne h.symm)).trans (Below.heap_alloc X tmp _ h1)
      rw [← h2]
      exact World.cell?_of_block (by rw [addr_block]; exact hbk)
    · rcases hob with h | h
      · rw [h]; exact (hd ad h1).2
      · rw [h]
        intro h2
        have := (hd ad h1).1
        simp at h2
        omega
  refine ⟨Q ++ [(p, c, t)], by rw [List.map_append, e]; rfl, ?_, ?_⟩
  · have := hown
    rw [List.length_append]
    have e2 : slv (Q ++ [(p, c, t)]) = slv Q ++ [.slice p t.length c] := by unfold slv; rw [List.map_append]; rfl
    rw [e2]
    exact this
  · intro q h1
    rcases List.mem_append.1 h1 with h2 | h2
    · exact keep _ _ (hq q h2).1 (hq q h2).2
    · rw [List.mem_singleton] at h2
      subst h2
      exact keep p t ht hp
/-- A table joins the list, if it is not there. -/
def addN (O : List (List Int)) (t : List Int) : List (List Int) := if t ∈ O then O else O ++ [t]
def rowX (O : List (List Int)) (t : List Int) (k m : Nat) : List (List Int) := (List.range m).foldl (fun o x => addN o (fixL t k x t.length)) O
def colK (O : List (List Int)) (t : List Int) (m : Nat) : List (List Int) := (List.range m).foldl (fun o k => rowX o t k (2 ^ k)) O
def allN (L : List (List Int)) (v m : Nat) : List (List Int) := (L.take m).foldl (fun o t => colK o t (v + 1)) []
/-- The nodes of the diagrams of the tables L. -/
def nodesL (L : List (List Int)) (v : Nat) : List (List Int) := allN L v L.length
theorem rowX_zero (O : List (List Int)) (t : List Int) (k : Nat) : rowX O t k 0 = O := by unfold rowX; rw [List.range_zero]; rfl
theorem colK_zero (O : List (List Int)) (t : List Int) : colK O t 0 = O := by unfold colK; rw [List.range_zero]; rfl
theorem allN_zero (L : List (List Int)) (v : Nat) : allN L v 0 = [] := by unfold allN; rw [List.take_zero]; rfl
theorem rowX_succ (O : List (List Int)) (t : List Int) (k m : Nat) : rowX O t k (m + 1) = addN (rowX O t k m) (fixL t k m t.length) := by
  unfold rowX; rw [List.range_succ, List.foldl_append]; rfl
theorem colK_succ (O : List (List Int)) (t : List Int) (m : Nat) : colK O t (m + 1) = rowX (colK O t m) t m (2 ^ m) := by
  unfold colK; rw [List.range_succ, List.foldl_append]; rfl
theorem allN_succ (L : List (List Int)) (v m : Nat) (h : m < L.length) : allN L v (m + 1) = colK (allN L v m) (tb L m) (v + 1) := by
  unfold allN
  rw [List.take_succ_eq_append_getElem h, List.foldl_append]
  have : tb L m = L[m] := by unfold tb; rw [List.getD_eq_getElem?_getD, List.getElem?_eq_getElem h]; rfl
  rw [this]; rfl
theorem addN_cases (O : List (List Int)) (t : List Int) : (t ∈ O → addN O t = O) ∧ (t ∉ O → addN O t = O ++ [t]) := ⟨fun h => if_pos h, fun h => if_neg h⟩
theorem addN_len (O : List (List Int)) (t : List Int) : (addN O t).length ≤ O.length + 1 := by unfold addN; split <;> simp
theorem rowX_len (O : List (List Int)) (t : List Int) (k : Nat) : ∀ m, (rowX O t k m).length ≤ O.length + m
  | 0 => Nat.le_refl _
  | m + 1 => by
    rw [rowX_succ]
    have := addN_len (rowX O t k m) (fixL t k m t.length)
    have := rowX_len O t k m
    omega
theorem colK_len (O : List (List Int)) (t : List Int) : ∀ m, (colK O t m).length + 1 ≤ O.length + 2 ^ m
  | 0 => Nat.le_refl _
  | m + 1 => by
    rw [colK_succ, Nat.pow_succ]
    have := rowX_len (colK O t m) t m (2 ^ m)
    have := colK_len O t m
    omega
theorem allN_len (L : List (List Int)) (v : Nat) : ∀ m, m ≤ L.length → (allN L v m).length ≤ m * 2 ^ (v + 1)
  | 0, _ => by simp [allN]
  | m + 1, h => by
    rw [allN_succ L v m h, Nat.succ_mul]
    have := colK_len (allN L v m) (tb L m) (v + 1)
    have := allN_len L v m (by omega)
    omega
/-- Every table of the list has n values. -/
def AllLen (n : Nat) (O : List (List Int)) : Prop := ∀ t ∈ O, t.length = n
theorem addN_all {n : Nat} {O : List (List Int)} {t : List Int} (h : AllLen n O) (ht : t.length = n) : AllLen n (addN O t) := by
  unfold addN
  split
  · exact h
  · intro u hu
    rcases List.mem_append.1 hu with h1 | h1
    · exact h u h1
    · rw [List.mem_singleton] at h1; rw [h1]; exact ht
theorem rowX_all {n : Nat} {O : List (List Int)} {t : List Int} (h : AllLen n O) (ht : t.length = n) (k : Nat) : ∀ m, AllLen n (rowX O t k m)
  | 0 => h
  | m + 1 => by rw [rowX_succ]; exact addN_all (rowX_all h ht k m) (by rw [fixL_len]; exact ht)
theorem colK_all {n : Nat} {O : List (List Int)} {t : List Int} (h : AllLen n O) (ht : t.length = n) : ∀ m, AllLen n (colK O t m)
  | 0 => h
  | m + 1 => by rw [colK_succ]; exact rowX_all (colK_all h ht m) ht m _
theorem allN_all {n v : Nat} {L : List (List Int)} (h : AllLen n L) : ∀ m, m ≤ L.length → AllLen n (allN L v m)
  | 0, _ => fun t ht => by simp [allN] at ht
  | m + 1, hm => by rw [allN_succ L v m hm]; exact colK_all (allN_all h m (by omega)) (h _ (tb_mem hm)) _
end Go.Proofs.YteckkbjpeckjmaaDoor.Dg
