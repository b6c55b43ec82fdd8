/- A step. -/
import Derived.Test.YtbhfmeohaoojfaaVH
import Derived.Test.YtbhfmeohaoojfaaNT
import Derived.Test.YtbhfmeohaoojfaaNU
import Derived.Deep.DeepCutAuto
import Derived.Deep.CutBlock
namespace Go.Proofs.Ytbhfmeohaoojfaa.Dn
open Go Go.RowKit Go.Proofs.Ytbhfmeohaoojfaa.Ap
open Go.Proofs.Ytbhfmeohaoojfaa.Dg
set_option linter.unusedVariables false
set_option maxRecDepth 100000
/-- What pick has picked. -/
def Pk (X : World) (v : Nat) (N : List Nd) (R : List Nat) (r : Nat) (B : Option Addr) (n : Nat) : Prop := r ∈ R ∧ n = 2 ^ v ∧ TabI X B (tabD v N r)
section
variable {X Y w0 : World} {lo qb sb cb rb tb mb v cap c : Nat} {nv : Value} {N : List Nd} {R : List Nat} {A : Option Addr} {Q : List (Option Addr × Nat × List Int)} {rv : Value} {rs : List Nat} {tv : Value} {T : List (Option Addr × Nat × List Int)} {B : Option Addr} {d : Nat} {t : List Int}
theorem pick_any (k : Int) (h : Run w0 X qb sb cb rb tb mb v cap nv N R A c Q rv rs tv T) (hk : IntOk k) (hs : T.length ≤ 1000) :
    Calls Try.prog 28 #[.pointer (some ⟨qb, 0, none⟩), .int .i64 k] X fun e w' => ∃ (r : Nat) (B : Option Addr) (n d : Nat), e = .returned (.tuple #[.int .i64 r, .slice B n d, .bool (decide (0 < rs.length))]) ∧ (0 < rs.length → Pk w' v N R r B n) ∧ Below X.heap.size X w' := by
  by_cases hr : rs.length = 0
  · refine (pick_none k h.law hr).mono ?_
    rintro e w' ⟨he, rfl⟩
    exact ⟨0, none, 0, 0, by rw [he, hr]; rfl, fun h => by omega, Below.refl _ _⟩
  · refine (pick_some k h.law hk (by omega) h.len (by rw [h.len]; exact hs)).mono ?_
    rintro e w' ⟨i, q, hi, hq, he, hb⟩
    obtain ⟨h1, h2⟩ := h.each i hi
    have hT : i < T.length := by rw [← h.len]; exact hi
    have e1 : Dg.tb (tq T) i = q.2.2 := by
      unfold Dg.tb tq
      rw [List.getD_eq_getElem?_getD, List.getElem?_map, hq]; rfl
    have hqm : q ∈ T := List.mem_of_getElem? hq
    refine ⟨rs.getD i 0, q.1, q.2.2.length, q.2.1, by rw [he, decide_eq_true (by omega : 0 < rs.length)], fun _ => ⟨h1, ?_, ?_⟩, hb⟩
    · rw [← e1, ← h2, tabD_len]
    · rw [h2, e1]
      exact (h.law.ttab q hqm).keep (KeepT.of_below (P := fun _ => True) hb) trivial
/-- What a step leaves. -/
def RunE (w0 X : World) (qb sb cb rb tb mb v cap n : Nat) : Prop := ∃ nv N R A c Q rv rs tv T, Run w0 X qb sb cb rb tb mb v cap nv N R A c Q rv rs tv T ∧ T.length ≤ n
/-- Ahead of a step's last part: the operation has been done on the store; the error that the reference wants, and its table. -/
structure Ready (w0 X : World) (qb sb cb rb tb mb v cap : Nat) (N : List Nd) (R : List Nat) (A : Option Addr) (c : Nat) (Q : List (Option Addr × Nat × List Int)) (rv : Value) (rs : List Nat) (tv : Value) (T : List (Option Addr × Nat × List Int)) (ref want e f : Value) : Prop where
  law : LawM X w0.heap.size qb sb mb v cap A c Q rv rs tv T
  way : (∃ E r B n d nv, E ≠ 0 ∧ ref = .int .i64 r ∧ want = .slice B n d ∧ e = .int .i64 E ∧ f = .int .i64 E ∧ Own w0 X sb cb rb tb v cap nv N R) ∨
    (∃ val B d nv, ref = .int .i64 ((addM v cap val N R).ref : Nat) ∧ want = .slice B (2 ^ v) d ∧ e = .int .i64 ((addM v cap val N R).err : Nat) ∧ f = .int .i64 0 ∧ TabI X B (tabV v val) ∧ Own w0 X sb cb rb tb v cap nv (addM v cap val N R).N (addM v cap val N R).R)
theorem info_ref : (Try.prog.info? 46).map (fun i => (i.zero, i.size, i.bytes)) = some (some (.int .i64 0), 1, 8) := by kernel_rfl
theorem news_old (W : World) (l : List Value) (ty : TypeId) (o : Obj) : ∀ j u, l[j]? = some u → ((W.alloc (.cells l.toArray ty)).alloc o).cell? ((⟨W.heap.size, 0, none⟩ : Addr).add j) = some u := fun j u hu =>
  (Below.cell (bal (Below.refl (W.alloc (.cells l.toArray ty)).heap.size _) o) (by rw [addr_block]; simp)).trans (cells_new W l ty j u hu)
theorem size_set (W : World) (a : Addr) (u : Value) : (W.setCell a u).heap.size = W.heap.size := by
  show (W.heap.modify _ _).size = _
  rw [Array.size_modify]
/-- Behind the first append. -/
structure A1 (X Y : World) (lo qb : Nat) (rv tv : Value) (T : List (Option Addr × Nat × List Int)) : Prop where
  run : Y.heap[qb]? = X.heap[qb]?
  tr : Y.ownsRow lo 29 1 tv T.length (slv T)
  fr : Fr (fun k => k = qb ∨ rv.ownBlock = some k ∨ tv.ownBlock = some k) X Y
theorem aft1 {W Z : World} (hL : LawM X lo qb sb mb v cap A c Q rv rs tv T) (hb : Below X.heap.size X W) (hg : W.grownBy Z rv.ownBlock) : A1 X Z lo qb rv tv T ∧ (∀ k o, X.heap.size ≤ k → W.heap[k]? = some o → Z.heap[k]? = some o) := by
  have hs := hb.size
  have hne : ∀ (k : Nat) (cs : Array Value) (ty : TypeId) (f : Nat × Nat), X.heap[k]? = some (.cells cs ty f) → ty ≠ 46 → rv.ownBlock ≠ some k := fun k cs ty f hk hty e => by
    obtain ⟨cur, hc⟩ := own_typ hL.rr e
    rw [hk] at hc
    injection hc with hc
    injection hc with _ hc _
    exact hty hc
  have keep : ∀ k, k < X.heap.size → rv.ownBlock ≠ some k → Z.heap[k]? = X.heap[k]? := fun k hk hn => (hg.block k (by omega) fun e => hn e.symm).trans (hb.block k hk)
  refine ⟨⟨keep _ hL.lt.1 (hne _ _ _ _ hL.q (by decide)), own_keep hL.tr fun k hk => ?_, ⟨hg.os.trans hb.os, hg.tape.trans hb.tape, hg.output.trans hb.output, by have := hg.size; omega, fun k hk hn => keep k hk fun e => hn (.inr (.inl e))⟩⟩, fun k o hk ho => ?_⟩
  · obtain ⟨cur, hc⟩ := own_typ hL.tr hk
    exact keep _ (lt_of_block hc) (hne _ _ _ _ hc (by decide))
  · refine (hg.block k (lt_of_block ho) fun e => ?_).trans ho
    have := (hL.rr.lt k e.symm).2
    omega
/-- Behind both appends and both stores. -/
theorem aft2 {W Y Z : World} {rv' tv' : Value} {r : Nat} (hL : LawM X lo qb sb mb v cap A c Q rv rs tv T) (h1 : A1 X Y lo qb rv tv T) (hrr : Y.ownsRow lo 46 1 rv' (rs.length + 1) (rs.map (fun (r : Nat) => .int .i64 r) ++ [.int .i64 r]))
    (hb : Below Y.heap.size Y W) (hg : W.grownBy Z tv.ownBlock) (htr : Z.ownsRow lo 29 1 tv' (T.length + 1) (slv T ++ [.slice B t.length d])) (hob : tv'.ownBlock = tv.ownBlock ∨ tv'.ownBlock = some W.heap.size) (ht : TabI X B t) :
    Z.heap[qb]? = X.heap[qb]? ∧ LawM ((Z.setCell ⟨qb, 2, none⟩ rv').setCell ⟨qb, 3, none⟩ tv') lo qb sb mb v cap A c Q rv' (rs ++ [r]) tv' (T ++ [(B, d, t)]) ∧ Fr (fun k => k = qb ∨ rv.ownBlock = some k ∨ tv.ownBlock = some k) X ((Z.setCell ⟨qb, 2, none⟩ rv').setCell ⟨qb, 3, none⟩ tv') := by
  have hs := hb.size
  have hs1 := h1.fr.size
  have hqx := hL.lt.1
  have hne : ∀ (k : Nat) (cs : Array Value) (ty : TypeId) (f : Nat × Nat), Y.heap[k]? = some (.cells cs ty f) → ty ≠ 29 → tv.ownBlock ≠ some k := fun k cs ty f hk hty e => by
    obtain ⟨cur, hc⟩ := own_typ h1.tr e
    rw [hk] at hc
    injection hc with hc
    injection hc with _ hc _
    exact hty hc
  have keep : ∀ k, k < Y.heap.size → tv.ownBlock ≠ some k → Z.heap[k]? = Y.heap[k]? := fun k hk hn => (hg.block k (by omega) fun e => hn e.symm).trans (hb.block k hk)
  have hqy : Y.heap[qb]? = some (.cells #[.pointer (some ⟨sb, 0, none⟩), .pointer (some ⟨mb, 0, none⟩), rv, tv] 41 (0, 0)) := h1.run.trans hL.q
  have hqz : Z.heap[qb]? = X.heap[qb]? := (keep _ (by omega) (hne _ _ _ _ hqy (by decide))).trans h1.run
  have hqZ := hqz.trans hL.q
  have hset : ((Z.setCell ⟨qb, 2, none⟩ rv').setCell ⟨qb, 3, none⟩ tv').heap[qb]? = some (.cells #[.pointer (some ⟨sb, 0, none⟩), .pointer (some ⟨mb, 0, none⟩), rv', tv'] 41 (0, 0)) := heap_set (heap_set hqZ 2 rv') 3 tv'
  have hoth : ∀ k, k ≠ qb → ((Z.setCell ⟨qb, 2, none⟩ rv').setCell ⟨qb, 3, none⟩ tv').heap[k]? = Z.heap[k]? := fun k hk => (Below.heap_setCell _ _ _ _ hk).trans (Below.heap_setCell _ _ _ _ hk)
  have hfr : Fr (fun k => k = qb ∨ rv.ownBlock = some k ∨ tv.ownBlock = some k) X ((Z.setCell ⟨qb, 2, none⟩ rv').setCell ⟨qb, 3, none⟩ tv') := by
    refine ⟨(hg.os.trans hb.os).trans h1.fr.os, (hg.tape.trans hb.tape).trans h1.fr.tape, (hg.output.trans hb.output).trans h1.fr.output, ?_, fun k hk hn => ?_⟩
    · have := hg.size
      rw [size_set, size_set]
      omega
    · rw [hoth k fun e => hn (.inl e), keep k (by omega) fun e => hn (.inr (.inr e))]
      exact h1.fr.block k hk hn
  refine ⟨hqz, hL.pushed ht (own_keep hrr fun g hg' => ?_) (own_keep htr fun g hg' => ?_) hset hfr (fun k hk => hk) (fun k hk => ?_), hfr⟩
  · obtain ⟨cur, hc⟩ := own_typ hrr hg'
    rw [hoth g fun e => by rw [e, hqy] at hc; simp at hc]
    exact keep g (lt_of_block hc) (hne _ _ _ _ hc (by decide))
  · obtain ⟨cur, hc⟩ := own_typ htr hg'
    exact hoth g fun e => by rw [e, hqZ] at hc; simp at hc
  · rcases hob with e | e
    · exact .inl (e ▸ hk)
    · rw [e] at hk
      injection hk with hk
      exact .inr (by omega)
theorem step_cells {W : World} {g : Nat} {c0 c1 c2 c3 c4 c5 c6 c7 c8 : Value} {ty : TypeId} (h : W.heap[g]? = some (.cells #[c0, c1, c2, c3, c4, c5, c6, c7, c8] ty (0, 0))) :
    W.cell? ⟨g, 0, none⟩ = some c0 ∧ W.cell? ⟨g, 1, none⟩ = some c1 ∧ W.cell? ⟨g, 2, none⟩ = some c2 ∧ W.cell? ⟨g, 3, none⟩ = some c3 ∧ W.cell? ⟨g, 4, none⟩ = some c4 ∧ W.cell? ⟨g, 5, none⟩ = some c5 ∧ W.cell? ⟨g, 6, none⟩ = some c6 ∧ W.cell? ⟨g, 7, none⟩ = some c7 ∧ W.cell? ⟨g, 8, none⟩ = some c8 := by
  refine ⟨?_, ?_, ?_, ?_, ?_, ?_, ?_, ?_, ?_⟩ <;> simp [World.cell?, h]
theorem tabI_own {W : World} {L n c : Nat} {A : Option Addr} {l : List Int} (h : W.ownsRow L 3 1 (.slice A n c) n (l.map (Value.int .i64))) (hl : n = l.length) : TabI W A l :=
  ⟨ints_row h hl, fun ad e => by subst e; obtain ⟨cur, hc⟩ := own_typ h (k := ad.block) rfl; exact ⟨cur, _, hc⟩⟩
end
end Go.Proofs.Ytbhfmeohaoojfaa.Dn
