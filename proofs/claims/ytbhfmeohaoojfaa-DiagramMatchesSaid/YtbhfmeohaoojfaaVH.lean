/- What a step's last part does: the reference's Add beside the store's; the references and the tables grow. -/
import Derived.Test.YtbhfmeohaoojfaaVG
namespace Go.Proofs.Ytbhfmeohaoojfaa.Dn
open Go Go.RowKit Go.Proofs.Ytbhfmeohaoojfaa.Ap
open Go.Proofs.Ytbhfmeohaoojfaa.Dg
set_option linter.unusedVariables false
set_option maxRecDepth 100000
/-- The store has added the table t (or not); the reference's list is L' now. -/
structure TieStep (v : Nat) (N : List Nd) (R : List Nat) (t : List Int) (M : Added) (L' : List (List Int)) : Prop where
  tie : Tie v M.N M.R L'
  ok : M.err = 0 → M.ref ∈ M.R ∧ tabD v M.N M.ref = t
  all : ∀ r ∈ M.R, r ∈ R ∨ (M.err = 0 ∧ r = M.ref)
  sub : ∀ r ∈ R, r ∈ M.R ∧ tabD v M.N r = tabD v N r
  keep : M.err ≠ 0 → M.N = N ∧ M.R = R
section
variable {v cap : Nat} {N : List Nd} {R : List Nat} {L : List (List Int)} {val : Nat → Int}
theorem tie_in (h : Tie v N R L) (hc : N.length ≤ cap) (ht : tabV v val ∈ L) : (addM v cap val N R).err = 0 ∧ TieStep v N R (tabV v val) (addM v cap val N R) L := by
  obtain ⟨r, hr, e⟩ := h.bwd _ ht
  rw [h.known hc hr e]
  exact ⟨rfl, h, fun _ => ⟨hr, e⟩, fun r hr => .inl hr, fun r hr => ⟨hr, rfl⟩, fun h => absurd rfl h⟩
theorem tie_full (h : Tie v N R L) (ht : tabV v val ∉ L) (hc : cap < (nodesL (L ++ [tabV v val]) v).length) : (addM v cap val N R).err = 10 ∧ TieStep v N R (tabV v val) (addM v cap val N R) L := by
  have h1 := (h.new val).1.count
  have e : addM v cap val N R = ⟨N, R, 0, 10⟩ := by unfold addM; rw [if_pos (by omega)]
  rw [e]
  exact ⟨rfl, h, (fun h => by cases h), fun r hr => .inl hr, fun r hr => ⟨hr, rfl⟩, fun _ => ⟨rfl, rfl⟩⟩
theorem tie_new (h : Tie v N R L) (ht : tabV v val ∉ L) (hc : (nodesL (L ++ [tabV v val]) v).length ≤ cap) : (addM v cap val N R).err = 0 ∧ TieStep v N R (tabV v val) (addM v cap val N R) (L ++ [tabV v val]) := by
  obtain ⟨h1, h2, M, hM⟩ := h.new val
  have h3 := h1.count
  have e : addM v cap val N R = ⟨(Dn.sub v val v N 0).1, addR R (Dn.sub v val v N 0).2, (Dn.sub v val v N 0).2, 0⟩ := by unfold addM; rw [if_neg (by omega)]
  rw [e]
  refine ⟨rfl, h1, fun _ => ⟨addR_mem.2 (.inr rfl), h2⟩, fun r hr => ?_, fun r hr => ⟨addR_mem.2 (.inl hr), ?_⟩, fun h => absurd rfl h⟩
  · rcases addR_mem.1 hr with h | h
    · exact .inl h
    · exact .inr ⟨rfl, h⟩
  · show tabD v (Dn.sub v val v N 0).1 r = _
    rw [hM]; exact tabD_ext h.wf M (h.ref r hr)
end
section
variable {X Y w0 : World} {lo qb sb cb rb tb mb v cap c : Nat} {nv : Value} {N : List Nd} {R : List Nat} {A : Option Addr} {Q : List (Option Addr × Nat × List Int)} {rv : Value} {rs : List Nat} {tv : Value} {T : List (Option Addr × Nat × List Int)} {B : Option Addr} {d : Nat} {t : List Int}
theorem Own.law {own : Nat → Prop} (h : Own w0 X sb cb rb tb v cap nv N R) (hf : Fr own X Y) (ho : ∀ k, k < X.heap.size → own k → w0.heap.size ≤ k ∧ ∃ c t f, X.heap[k]? = some (.cells c t f) ∧ LawT t) : Own w0 Y sb cb rb tb v cap nv N R :=
  have hs := h.bel.size
  ⟨h.inv.law hf fun k hk hown => (ho k hk hown).2, h.s, h.c, h.r, h.t, h.n, h.bel.trans ⟨hf.os, hf.tape, hf.output, hf.size, fun k hk => hf.block k (by omega) fun hown => by have := (ho k (by omega) hown).1; omega⟩⟩
theorem fr_keep {own : Nat → Prop} {P : TypeId → Prop} (hf : Fr own X Y) (ho : ∀ k, own k → ∃ c t f, X.heap[k]? = some (.cells c t f) ∧ ¬ P t) : KeepT P X Y :=
  ⟨hf.size, fun k c t f hk ht => (hf.block k (lt_of_block hk) fun hown => by
    obtain ⟨c', t', f', h1, h2⟩ := ho k hown
    rw [hk] at h1
    injection h1 with h1
    injection h1 with _ h1 _
    exact h2 (h1 ▸ ht)).trans hk⟩
theorem TabI.fr {own : Nat → Prop} {l : List Int} (h : TabI X B l) (hf : Fr own X Y) (ho : ∀ k, own k → ∃ c t f, X.heap[k]? = some (.cells c t f) ∧ LawT t) : TabI Y B l :=
  h.keep (P := fun t => t = 3) (fr_keep hf fun k hk => by
    obtain ⟨c, t, f, h1, h2⟩ := ho k hk
    refine ⟨c, t, f, h1, ?_⟩
    rintro rfl
    revert h2
    unfold LawT
    decide) rfl
/-- The row of the reference has grown. -/
theorem LawM.addq {A' : Option Addr} {c' : Nat} (h : LawM X lo qb sb mb v cap A c Q rv rs tv T) (ht : TabI X B t) (hA : RefSt Y mb v cap A' (Q.length + 1) c') (ho : Y.ownsRow X.heap.size 29 1 (.slice A' (Q ++ [(B, d, t)]).length c') (Q ++ [(B, d, t)]).length (slv (Q ++ [(B, d, t)]))) (hf : Fr (fun k => k = mb) X Y) :
    LawM Y lo qb sb mb v cap A' c' (Q ++ [(B, d, t)]) rv rs tv T := by
  have hown : ∀ k, k = mb → ∃ c t f, X.heap[k]? = some (.cells c t f) ∧ LawT t := fun k e => by subst e; exact ⟨_, _, _, h.m, .inr (.inr (.inr rfl))⟩
  have keep : ∀ (k : Nat) (o : Obj), X.heap[k]? = some o → (∀ c f, o ≠ .cells c 77 f) → Y.heap[k]? = X.heap[k]? := fun k o hk hn => hf.block k (lt_of_block hk) fun e => by
    rw [e, show X.heap[mb]? = _ from h.m] at hk
    injection hk with hk
    exact hn _ _ hk.symm
  have hlen : (Q ++ [(B, d, t)]).length = Q.length + 1 := by simp
  have htabs : ∀ q ∈ Q ++ [(B, d, t)], TabI Y q.1 q.2.2 := fun q hq => by
    rcases List.mem_append.1 hq with h1 | h1
    · exact (h.mtab q h1).fr hf hown
    · rw [List.mem_singleton] at h1; subst h1; exact ht.fr hf hown
  refine ⟨(keep _ _ h.q fun c f e => by injection e with _ e _; revert e; decide).trans h.q, by rw [hlen]; exact hA, (RowQ.of_own ho fun q hq => (htabs q hq).1).row, fun ad e => ?_, htabs, own_keep h.rr fun g hg => ?_, own_keep h.tr fun g hg => ?_, fun q hq => (h.ttab q hq).fr hf hown, fun ad e hg => ?_, h.ql, h.ml⟩
  · subst e
    obtain ⟨cur, hc⟩ := own_typ ho (k := ad.block) rfl
    exact ⟨cur, _, hc⟩
  · obtain ⟨cur, hc⟩ := own_typ h.rr hg
    exact keep _ _ hc fun c f e => by injection e with _ e _; revert e; decide
  · obtain ⟨cur, hc⟩ := own_typ h.tr hg
    exact keep _ _ hc fun c f e => by injection e with _ e _; revert e; decide
  · subst e
    have h1 := (ho.lt ad.block rfl).1
    have h2 := (h.tr.lt _ hg).2
    omega
/-- The references and the tables have grown. -/
theorem LawM.pushed {rv' tv' : Value} {r : Nat} {own : Nat → Prop} (h : LawM X lo qb sb mb v cap A c Q rv rs tv T) (ht : TabI X B t)
    (hrr : Y.ownsRow lo 46 1 rv' (rs.length + 1) (rs.map (fun (r : Nat) => .int .i64 r) ++ [.int .i64 r])) (htr : Y.ownsRow lo 29 1 tv' (T.length + 1) (slv T ++ [.slice B t.length d]))
    (hq : Y.heap[qb]? = some (.cells #[.pointer (some ⟨sb, 0, none⟩), .pointer (some ⟨mb, 0, none⟩), rv', tv'] 41 (0, 0)))
    (hf : Fr own X Y) (hown : ∀ k, own k → k = qb ∨ rv.ownBlock = some k ∨ tv.ownBlock = some k) (hob : ∀ k, tv'.ownBlock = some k → tv.ownBlock = some k ∨ X.heap.size ≤ k) :
    LawM Y lo qb sb mb v cap A c Q rv' (rs ++ [r]) tv' (T ++ [(B, d, t)]) := by
  have hlaw : ∀ k, own k → ∃ c t f, X.heap[k]? = some (.cells c t f) ∧ LawT t := fun k hk => by
    rcases hown k hk with e | e | e
    · subst e; exact ⟨_, _, _, h.q, .inl rfl⟩
    · obtain ⟨cur, hc⟩ := own_typ h.rr e; exact ⟨_, _, _, hc, .inr (.inl rfl)⟩
    · obtain ⟨cur, hc⟩ := own_typ h.tr e; exact ⟨_, _, _, hc, .inr (.inr (.inl rfl))⟩
  have hm : Y.heap[mb]? = X.heap[mb]? := hf.block _ h.m.lt fun hk => by
    have hmm : X.heap[mb]? = _ := h.m
    rcases hown _ hk with e | e | e
    · rw [e, h.q] at hmm; simp at hmm
    · obtain ⟨cur, hc⟩ := own_typ h.rr e; rw [hc] at hmm; simp at hmm
    · obtain ⟨cur, hc⟩ := own_typ h.tr e; rw [hc] at hmm; simp at hmm
  have hA : ∀ ad, A = some ad → Y.heap[ad.block]? = X.heap[ad.block]? := fun ad e => by
    obtain ⟨c1, f1, hc1⟩ := h.mty ad e
    refine hf.block _ (lt_of_block hc1) fun hk => ?_
    rcases hown _ hk with e1 | e1 | e1
    · rw [e1, h.q] at hc1; simp at hc1
    · obtain ⟨cur, hc⟩ := own_typ h.rr e1; rw [hc] at hc1; simp at hc1
    · exact h.apart ad e e1
  refine ⟨hq, hm.trans h.m, vals_keep h.mrow hf.size hA, fun ad e => ?_, fun q hq => (h.mtab q hq).fr hf hlaw, by rw [List.length_append, List.map_append]; exact hrr, ?_, fun q hq => ?_, fun ad e hg => ?_, h.ql, h.ml⟩
  · obtain ⟨c1, f1, hc1⟩ := h.mty ad e
    exact ⟨c1, f1, (hA ad e).trans hc1⟩
  · have e : slv (T ++ [(B, d, t)]) = slv T ++ [.slice B t.length d] := by unfold slv; rw [List.map_append]; rfl
    rw [List.length_append, e]; exact htr
  · rcases List.mem_append.1 hq with h1 | h1
    · exact (h.ttab q h1).fr hf hlaw
    · rw [List.mem_singleton] at h1; subst h1; exact ht.fr hf hlaw
  · rcases hob _ hg with h1 | h1
    · exact h.apart ad e h1
    · obtain ⟨c1, f1, hc1⟩ := h.mty ad e
      have := lt_of_block hc1
      omega
/-- Add, beside the store. -/
theorem add_step {val : Nat → Int} (h : LawM X lo qb sb mb v cap A c Q rv rs tv T) (hT : Tie v N R (tq Q)) (hc : N.length ≤ cap) (hcap : cap ≤ 4096) (ht : TabI X B (tabV v val)) (hQ : Q.length ≤ 4096) :
    Calls Try.prog 43 #[.pointer (some ⟨mb, 0, none⟩), .slice B (2 ^ v) d] X fun e w' => e = .returned (.int .i64 ((addM v cap val N R).err : Nat)) ∧ ∃ A' c' Q', LawM w' lo qb sb mb v cap A' c' Q' rv rs tv T ∧ TieStep v N R (tabV v val) (addM v cap val N R) (tq Q') ∧ Fr (fun k => k = mb) X w' ∧ Q'.length ≤ Q.length + 1 ∧ ((addM v cap val N R).err ≠ 0 → Q'.length = Q.length) := by
  have hl := tabV_len v val
  rw [← hl]
  by_cases hin : tabV v val ∈ tq Q
  · obtain ⟨e1, e2⟩ := tie_in hT hc hin
    refine (refAdd_in (d := d) h.m h.rowQ ht.1 hT.v6 hT.len hl hQ hin).mono ?_
    rintro e w' ⟨he, hb⟩
    exact ⟨by rw [he, e1]; rfl, A, c, Q, h.below hb, e2, .of_below hb, by omega, fun _ => rfl⟩
  · refine (refAdd_out (d := d) h.m h.rowQ ht.1 hT.v6 hT.len hl hQ hin hcap).mono ?_
    rintro e w' (⟨h1, he, hb⟩ | ⟨h1, he, A', c', hA, ho, hf⟩)
    · obtain ⟨e1, e2⟩ := tie_full hT hin h1
      exact ⟨by rw [he, e1]; rfl, A, c, Q, h.below hb, e2, .of_below hb, by omega, fun _ => rfl⟩
    · obtain ⟨e1, e2⟩ := tie_new hT hin h1
      exact ⟨by rw [he, e1]; rfl, A', c', Q ++ [(B, d, tabV v val)], h.addq ht hA ho hf, by rw [tq_snoc]; exact e2, hf, by simp, fun h => absurd e1 h⟩
end
end Go.Proofs.Ytbhfmeohaoojfaa.Dn
