/- Apply. -/
import Derived.Test.YtbhfmeohaoojfaaNT
import Derived.Outline
import Derived.Shelf.Abstract
namespace Go.Proofs.Ytbhfmeohaoojfaa.Dn
open Go Go.RowKit Go.Proofs.Ytbhfmeohaoojfaa.Ap
open Go.Proofs.Ytbhfmeohaoojfaa.Dg (shl_i64 pow7 cell_one info_int ints_row nd_ext valI)
set_option linter.unusedVariables false
set_option maxRecDepth 100000
theorem max_any (a b : Int) (w : World) : Calls Try.prog 70 #[.int .i64 a, .int .i64 b] w fun e w' => e = .returned (.int .i64 (valI 1 a b)) ∧ w = w' := by
  go_enter Try.func70, Try.ntmps70
  go_wp2
  all_goals
    go_ret
    exact ⟨ret_of (by unfold valI; rw [if_pos rfl]; omega), rfl⟩
theorem min_any (a b : Int) (w : World) : Calls Try.prog 71 #[.int .i64 a, .int .i64 b] w fun e w' => e = .returned (.int .i64 (valI 2 a b)) ∧ w = w' := by
  go_enter Try.func71, Try.ntmps71
  go_wp2
  all_goals
    go_ret
    exact ⟨ret_of (by unfold valI; rw [if_neg (by decide), if_pos rfl]; omega), rfl⟩
theorem xor_any (a b : Int) (w : World) : Calls Try.prog 72 #[.int .i64 a, .int .i64 b] w fun e w' => e = .returned (.int .i64 (valI 3 a b)) ∧ w = w' := by
  go_enter Try.func72, Try.ntmps72
  go_wp2
  go_ret
  exact ⟨ret_of (by unfold valI; rw [if_neg (by decide), if_neg (by decide), if_pos rfl]), rfl⟩
theorem equal_any (a b : Int) (w : World) : Calls Try.prog 73 #[.int .i64 a, .int .i64 b] w fun e w' => e = .returned (.int .i64 (valI 4 a b)) ∧ w = w' := by
  have hv : valI 4 a b = if a = b then 1 else 0 := by unfold valI; rw [if_neg (by decide), if_neg (by decide), if_neg (by decide)]
  by_cases h : a = b
  · rw [hv, if_pos h]
    have hb : (a == b) = true := beq_iff_eq.2 h
    clear h hv
    go_enter Try.func73, Try.ntmps73
    go_wp2
    go_ret
    exact ⟨rfl, rfl⟩
  · rw [hv, if_neg h]
    have hb : (a == b) = false := beq_eq_false_iff_ne.2 h
    clear h hv
    go_enter Try.func73, Try.ntmps73
    go_wp2
    go_ret
    exact ⟨rfl, rfl⟩
/-- The function of operation k + 1. -/
def fnO (k : Nat) : FuncId := [70, 71, 72, 73].getD k 0
theorem fnO_ok : ∀ k, k < 4 → (∀ args w, (callFunc (fnO k) args).run Try.prog w = .ok (.enter (fnO k) args) w) ∧ ∀ a b W, Calls Try.prog (fnO k) #[.int .i64 a, .int .i64 b] W fun e w' => e = .returned (.int .i64 (valI (k + 1) a b)) ∧ W = w'
  | 0, _ => ⟨enters_of Try.func70 (by kernel_rfl) rfl, max_any⟩
  | 1, _ => ⟨enters_of Try.func71 (by kernel_rfl) rfl, min_any⟩
  | 2, _ => ⟨enters_of Try.func72 (by kernel_rfl) rfl, xor_any⟩
  | 3, _ => ⟨enters_of Try.func73 (by kernel_rfl) rfl, equal_any⟩
  | k + 4, h => absurd h (by omega)
theorem two_new (w : World) (a b : Obj) : ∀ X, X = (w.alloc a).alloc b → Below w.heap.size w X ∧ X.heap[w.heap.size]? = some a ∧ X.heap[w.heap.size + 1]? = some b := by
  rintro X rfl
  exact ⟨bal (bal (Below.refl _ _) _) _, (Below.heap_alloc _ _ _ (by simp)).trans (MapKept.heap_alloc w a).1, by have := (MapKept.heap_alloc (w.alloc a) b).1; rwa [World.size_alloc] at this⟩
def opCells : Array Value := #[.int .u8 1, .func (.func 70) #[] #[], .int .u8 2, .func (.func 71) #[] #[], .int .u8 3, .func (.func 72) #[] #[], .int .u8 4, .func (.func 73) #[] #[]]
theorem opCells_at {w : World} {g k : Nat} (h : w.heap[g]? = some (.cells opCells 97 (0, 0))) (hk : k < 4) : w.cell? ⟨g, k * 2, none⟩ = some (.int .u8 ((k : Int) + 1)) ∧ w.cell? ⟨g, k * 2 + 1, none⟩ = some (.func (.func (fnO k)) #[] #[]) := by
  unfold opCells at h
  match k, hk with
  | 0, _ => constructor <;> simp [World.cell?, h, fnO]
  | 1, _ => constructor <;> simp [World.cell?, h, fnO]
  | 2, _ => constructor <;> simp [World.cell?, h, fnO]
  | 3, _ => constructor <;> simp [World.cell?, h, fnO]
def OpPost (op : Nat) (w : World) (e : Ending) (w' : World) : Prop :=
  (if 1 ≤ op ∧ op ≤ 4 then e = .returned (.tuple #[.agg #[.int .u8 op, .func (.func (fnO (op - 1))) #[] #[]], .bool true]) else e = .returned (.tuple #[.agg #[.int .u8 0, .nilFunc], .bool false])) ∧ Below w.heap.size w w'
set_option maxHeartbeats 4000000 in
theorem operationOf_any (op : Nat) (w : World) (ho : op < 256) :
    Calls Try.prog 49 #[.int .u8 op] w (OpPost op w) := by
  go_enter Try.func49, Try.ntmps49
  go_wp2
  obtain ⟨x0, x1, x2⟩ := two_new w (.cells #[.int .u8 0, .nilFunc] 97) (.cells opCells 97) _ rfl
  unfold opCells at x0 x1 x2
  generalize (w.alloc (.cells #[.int .u8 0, .nilFunc] 97)).alloc (.cells #[.int .u8 1, .func (.func 70) #[] #[], .int .u8 2, .func (.func 71) #[] #[], .int .u8 3, .func (.func 72) #[] #[], .int .u8 4, .func (.func 73) #[] #[]] 97) = W at *
  obtain ⟨rb, hrb⟩ : ∃ rb, rb = w.heap.size := ⟨_, rfl⟩
  have hrl : w.heap.size ≤ rb := by omega
  rw [← hrb] at x1 x2 ⊢
  clear hrb
  go_loopw [12] (fun i wr => ∃ k : Nat, k ≤ 4 ∧ i = .int .i64 k ∧ Hid (∀ j, j < k → j + 1 ≠ op) ∧ wr.heap[rb]? = some (.cells #[.int .u8 0, .nilFunc] 97 (0, 0)) ∧ wr.heap[rb + 1]? = some (.cells opCells 97 (0, 0)) ∧ Below w.heap.size w wr) (fun i _ => 4 - (intOf i).toNat)
  case atStart => exact ⟨0, by omega, rfl, fun j hj => absurd hj (by omega), x1, x2, x0⟩
  case round =>
    clear x0 x1 x2
    obtain ⟨k, hk, rfl, H, h1, h2, hb⟩ := hrel
    by_cases hk4 : k < 4
    · obtain ⟨g0, g1⟩ := opCells_at h2 hk4
      have hl1 := lt_of_block h1
      have hl2 := lt_of_block h2
      have r0 : wr.cell? ⟨rb, 0, none⟩ = some (.int .u8 0) := by simp [World.cell?, h1]
      have r1 : wr.cell? ⟨rb, 1, none⟩ = some .nilFunc := by simp [World.cell?, h1]
      have f0 : wr.frozen? ⟨rb, 0, none⟩ = false := by simp [World.frozen?, h1]
      have f1 : wr.frozen? ⟨rb, 1, none⟩ = false := by simp [World.frozen?, h1]
      have hi4 : (k : Int) < 4 := by omega
      by_cases hop : k + 1 = op
      · have hob : (((k : Int) + 1) == (op : Int)) = true := by rw [beq_iff_eq]; omega
        have HF : Hid (fnO (op - 1) = fnO k) := by show _ = _; rw [show op - 1 = k by omega]
        have hop4 : 1 ≤ op ∧ op ≤ 4 := by omega
        have HO : Hid ((op : Int) = (k : Int) + 1) := by show _ = _; omega
        clear hop H
        generalize fnO k = fk at *
        go_wp2
        refine bodyPost_ret (v := .tuple #[.agg #[.int .u8 ((k : Int) + 1), .func (.func fk) #[] #[]], .bool true]) (by simp [results, Try.f49, go_sem, hl1, r0, r1]) rfl ⟨?_, ((hb.setCell hrl _).setCell hrl _).alloc (by have := hb.size; simp; omega) _⟩
        rw [if_pos hop4, HF.out, HO.out]
      · have hob : (((k : Int) + 1) == (op : Int)) = false := by rw [beq_eq_false_iff_ne]; omega
        have H' : Hid (∀ j, j < k + 1 → j + 1 ≠ op) := fun j hj => by
          rcases Nat.lt_or_eq_of_le (Nat.le_of_lt_succ hj) with h | rfl
          · exact H.out j h
          · exact hop
        clear hop H
        generalize fnO k = fk at *
        go_wp2
        go_roundw
        case rel => exact ⟨k + 1, by omega, by go_num, H', (Below.heap_alloc _ _ _ hl1).trans h1, (Below.heap_alloc _ _ _ hl2).trans h2, hb.alloc hb.size _⟩
        case measure => simp [intOf]; omega
    · obtain rfl : k = 4 := by omega
      have hl1 := lt_of_block h1
      have r0 : wr.cell? ⟨rb, 0, none⟩ = some (.int .u8 0) := by simp [World.cell?, h1]
      have r1 : wr.cell? ⟨rb, 1, none⟩ = some .nilFunc := by simp [World.cell?, h1]
      have f0 : wr.frozen? ⟨rb, 0, none⟩ = false := by simp [World.frozen?, h1]
      have f1 : wr.frozen? ⟨rb, 1, none⟩ = false := by simp [World.frozen?, h1]
      have hop4 : ¬ (1 ≤ op ∧ op ≤ 4) := fun h => H.out (op - 1) (by omega) (by omega)
      have HOP := Lib.hid hop4
      clear hop4 H
      go_wp2
      refine bodyPost_ret (v := .tuple #[.agg #[.int .u8 0, .nilFunc], .bool false]) (by simp [results, Try.f49, go_sem, r0, r1]) rfl ⟨?_, (hb.setCell hrl _).setCell hrl _⟩
      rw [if_neg HOP.out]
theorem xor_in (a b : Int) : InI (bits .xor .i64 a b) := by
  simp only [bits, IntKind.wrap_i64]
  unfold InI
  omega
theorem valI_in {op : Nat} {a b : Int} (ha : InI a) (hb : InI b) : InI (valI op a b) := by
  unfold valI
  split
  · exact max_in ha hb
  · split
    · unfold InI at *; omega
    · split
      · exact xor_in a b
      · split <;> (unfold InI; omega)
section
variable {sb cb rb tb v cap : Nat} {nv : Value} {N : List Nd} {R : List Nat}
theorem ints_two (X : World) (b : Nat) (x y : Int) (h : X.heap[b]? = some (.cells #[.int .i64 x, .int .i64 y] 46 (0, 0))) : Ints X (some ⟨b, 0, none⟩) [x, y] := fun j hj => by
  refine ⟨_, rfl, lt_of_block h, ?_⟩
  rw [addr_add]
  match j, hj with
  | 0, _ => simp [World.cell?, h, nd]
  | 1, _ => simp [World.cell?, h, nd]
set_option maxHeartbeats 4000000 in
theorem Apply_kind (w : World) (h : Inv w sb cb rb tb v cap nv N R) (op : Nat) (x y : Int) (ho : op < 256) (hop : ¬ (1 ≤ op ∧ op ≤ 4)) :
    Calls Try.prog 25 #[.pointer (some ⟨sb, 0, none⟩), .int .u8 op, .int .i64 x, .int .i64 y] w fun e w' => e = .returned (.tuple #[.int .i64 0, .int .i64 6]) ∧ Below w.heap.size w w' := by
  have HO := Lib.hid fun X (hX : Below w.heap.size w X) => open0 (h.below hX)
  have HP : Hid (∀ X, Calls Try.prog 49 #[.int .u8 op] X fun e w' => e = .returned (.tuple #[.agg #[.int .u8 0, .nilFunc], .bool false]) ∧ Below X.heap.size X w') := fun X =>
    (operationOf_any op X ho).mono fun e w' hp => by
      unfold OpPost at hp
      rw [if_neg hop] at hp
      exact hp
  clear h hop
  go_enter Try.func25, Try.ntmps25
  go_wp2_with (first
    | (go_at_call 44; ((with_reducible refine (HO.out _ (bal (bal (Below.refl _ _) _) _)).mono ?_); rintro e w1 ⟨rfl, hb⟩); have hb1 := stepB (bal (bal (Below.refl _ _) _) _) hb; clear hb)
    | (go_at_call 49; ((with_reducible refine (HP.out _).mono ?_); rintro e w2 ⟨rfl, hb2⟩); have hb3 := stepB (bal hb1 _) hb2))
  go_ret2
  exact ⟨rfl, bal hb3 _⟩
theorem ref_block (w : World) (a b : Obj) : ((w.alloc a).alloc b).heap[w.heap.size + 1]? = some b := by
  have := (MapKept.heap_alloc (w.alloc a) b).1
  rwa [World.size_alloc] at this
set_option maxHeartbeats 8000000 in
theorem Apply_yes (w : World) (h : Inv w sb cb rb tb v cap nv N R) (op q s : Nat) (h1 : 1 ≤ op) (h4 : op ≤ 4) (hq : q ∈ R) (hs : s ∈ R) :
    Calls Try.prog 25 #[.pointer (some ⟨sb, 0, none⟩), .int .u8 op, .int .i64 q, .int .i64 s] w (AddPost sb cb rb tb v cap nv N R (fun x => valI op (den v N q x) (den v N s x)) w) := by
  have hinq := h.ref q hq
  have hins := h.ref s hs
  have hq4 : q ≤ 4096 := by have := hinq.2; have := h.len; have := h.cap4; omega
  have hs4 : s ≤ 4096 := by have := hins.2; have := h.len; have := h.cap4; omega
  obtain ⟨ego, hvo⟩ := fnO_ok (op - 1) (by omega)
  rw [show op - 1 + 1 = op by omega] at hvo
  have HO := Lib.hid fun X (hX : Below w.heap.size w X) => open0 (h.below hX)
  have HP : Hid (∀ X, Calls Try.prog 49 #[.int .u8 op] X fun e w' => e = .returned (.tuple #[.agg #[.int .u8 op, .func (.func (fnO (op - 1))) #[] #[]], .bool true]) ∧ Below X.heap.size X w') := fun X =>
    (operationOf_any op X (by omega)).mono fun e w' hp => by
      unfold OpPost at hp
      rw [if_pos ⟨h1, h4⟩] at hp
      exact hp
  have eg : ∀ args w, (callFunc 52 args).run Try.prog w = .ok (.enter 52 args) w := enters_of Try.func52 (by kernel_rfl) rfl
  have HA := Lib.hid fun X hX b1 b2 b3 b4 g1 g2 g3 g4 => adds h 52 #[.pointer (some ⟨b1, 0, none⟩), .pointer (some ⟨b2, 0, none⟩), .pointer (some ⟨b3, 0, none⟩), .pointer (some ⟨b4, 0, none⟩)] (fun x => valI op (den v N q x) (den v N s x)) eg (fun x _ => valI_in (den_in h.wf h.fitv hinq _) (den_in h.wf h.fitv hins _)) X hX (apply_ok X b1 b2 b3 b4 q s op (fnO (op - 1)) (valI op) ego hvo g1 g2 g3 g4 h.wf h.v6 hinq hins)
  have hck : chk R [(q : Int), (s : Int)] = 0 := by unfold chk; simp [inR_nat, hq, hs]
  have HK : Hid (∀ X b, Below w.heap.size w X → X.heap[b]? = some (.cells #[.int .i64 q, .int .i64 s] 46 (0, 0)) → Calls Try.prog 50 #[.pointer (some ⟨cb, 0, none⟩), .slice (some ⟨b, 0, none⟩) 2 2] X fun e w' => e = .returned (.int .i64 0) ∧ Below X.heap.size X w') := fun X b hX hb => by
    have := check_any (some ⟨b, 0, none⟩) [(q : Int), (s : Int)] 2 X (h.below hX).mem (ints_two X b _ _ hb) (by simp) (by simp [IntOk]; omega)
    rw [hck] at this
    exact this
  clear h eg ego hvo hinq hins hq hs hck
  generalize fnO (op - 1) = fo at *
  go_enter Try.func25, Try.ntmps25
  go_wp2_with (first
    | (go_at_call 44; obtain ⟨x0, x1, x2⟩ := two_new w _ _ _ rfl; ((with_reducible refine (HO.out _ x0).mono ?_); rintro e w1 ⟨rfl, hb⟩); have hb1 := bal (stepB x0 hb) (.cells #[.pointer (some ⟨cb, 0, none⟩)] 84); have hbb := hb.alloc hb.size (.cells #[.pointer (some ⟨cb, 0, none⟩)] 84); have y1 := (hbb.block _ (lt_of_block x1)).trans x1; have y2 := (hbb.block _ (lt_of_block x2)).trans x2; have y3 := (MapKept.heap_alloc w1 (.cells #[.pointer (some ⟨cb, 0, none⟩)] 84)).1; clear hb hbb x0 x1 x2)
    | (go_at_call 49; ((with_reducible refine (HP.out _).mono ?_); rintro e w2 ⟨rfl, hb2⟩); have hb3 := bal (stepB hb1 hb2) (.cells #[.int .u8 op, .func (.func fo) #[] #[]] 97); have hbb := hb2.alloc hb2.size (.cells #[.int .u8 op, .func (.func fo) #[] #[]] 97); have z1 := (hbb.block _ (lt_of_block y1)).trans y1; have z2 := (hbb.block _ (lt_of_block y2)).trans y2; have z3 := (hbb.block _ (lt_of_block y3)).trans y3; have z4 := (MapKept.heap_alloc w2 (.cells #[.int .u8 op, .func (.func fo) #[] #[]] 97)).1; have k1 := cell_of_one ((hb2.block _ (lt_of_block y1)).trans y1); have k2 := cell_of_one ((hb2.block _ (lt_of_block y2)).trans y2); have k3 := cell_of_one ((hb2.block _ (lt_of_block y3)).trans y3); have j1 := lt_of_block ((hb2.block _ (lt_of_block y1)).trans y1); have j2 := lt_of_block ((hb2.block _ (lt_of_block y2)).trans y2); have j3 := lt_of_block ((hb2.block _ (lt_of_block y3)).trans y3); clear hb2 hbb)
    | (go_at_call 50; have hrf := ref_block w2 (.cells #[.int .u8 op, .func (.func fo) #[] #[]] 97) (.cells #[.int .i64 q, .int .i64 s] 46); ((with_reducible refine (HK.out _ _ (bal hb3 _) hrf).mono ?_); rintro e w3 ⟨rfl, hb5⟩); have hcc := (bal (Below.refl _ (w2.alloc (.cells #[.int .u8 op, .func (.func fo) #[] #[]] 97))) (.cells #[.int .i64 q, .int .i64 s] 46)).trans (hb5.mono (by simp)); have hb6 := stepB hb3 hcc; have u1 := (hcc.block _ (lt_of_block z1)).trans z1; have u2 := (hcc.block _ (lt_of_block z2)).trans z2; have u3 := (hcc.block _ (lt_of_block z3)).trans z3; have u4 := (hcc.block _ (lt_of_block z4)).trans z4; have v3 := cell_of_one u3; clear hb5 hcc z1 z2 z3 z4)
    | (go_at_call 51; ((with_reducible refine (HA.out w3 hb6 _ _ _ _ u4 u3 u1 u2).mono ?_); rintro e w4 ⟨rfl, hpost⟩)))
  go_ret2
  exact ⟨rfl, hpost⟩
set_option maxHeartbeats 8000000 in
theorem Apply_no (w : World) (h : Inv w sb cb rb tb v cap nv N R) (op : Nat) (q s : Int) (h1 : 1 ≤ op) (h4 : op ≤ 4) (hiq : IntOk q) (his : IntOk s) (hqs : (inR R q && inR R s) = false) :
    Calls Try.prog 25 #[.pointer (some ⟨sb, 0, none⟩), .int .u8 op, .int .i64 q, .int .i64 s] w fun e w' => e = .returned (.tuple #[.int .i64 0, .int .i64 8]) ∧ Below w.heap.size w w' := by
  have HO := Lib.hid fun X (hX : Below w.heap.size w X) => open0 (h.below hX)
  have HP : Hid (∀ X, Calls Try.prog 49 #[.int .u8 op] X fun e w' => e = .returned (.tuple #[.agg #[.int .u8 op, .func (.func (fnO (op - 1))) #[] #[]], .bool true]) ∧ Below X.heap.size X w') := fun X =>
    (operationOf_any op X (by omega)).mono fun e w' hp => by
      unfold OpPost at hp
      rw [if_pos ⟨h1, h4⟩] at hp
      exact hp
  have hck : chk R [q, s] = 8 := by
    unfold chk
    rw [if_neg]
    intro h
    simp at h
    rw [h.1, h.2] at hqs
    cases hqs
  have HK : Hid (∀ X b, Below w.heap.size w X → X.heap[b]? = some (.cells #[.int .i64 q, .int .i64 s] 46 (0, 0)) → Calls Try.prog 50 #[.pointer (some ⟨cb, 0, none⟩), .slice (some ⟨b, 0, none⟩) 2 2] X fun e w' => e = .returned (.int .i64 8) ∧ Below X.heap.size X w') := fun X b hX hb => by
    have := check_any (some ⟨b, 0, none⟩) [q, s] 2 X (h.below hX).mem (ints_two X b _ _ hb) (by simp) (by simp [hiq, his])
    rw [hck] at this
    exact this
  clear h hck hqs hiq his
  generalize fnO (op - 1) = fo at *
  go_enter Try.func25, Try.ntmps25
  go_wp2_with (first
    | (go_at_call 44; obtain ⟨x0, x1, x2⟩ := two_new w _ _ _ rfl; ((with_reducible refine (HO.out _ x0).mono ?_); rintro e w1 ⟨rfl, hb⟩); have hb1 := bal (stepB x0 hb) (.cells #[.pointer (some ⟨cb, 0, none⟩)] 84); have hbb := hb.alloc hb.size (.cells #[.pointer (some ⟨cb, 0, none⟩)] 84); have y1 := (hbb.block _ (lt_of_block x1)).trans x1; have y2 := (hbb.block _ (lt_of_block x2)).trans x2; have y3 := (MapKept.heap_alloc w1 (.cells #[.pointer (some ⟨cb, 0, none⟩)] 84)).1; clear hb hbb x0 x1 x2)
    | (go_at_call 49; ((with_reducible refine (HP.out _).mono ?_); rintro e w2 ⟨rfl, hb2⟩); have hb3 := bal (stepB hb1 hb2) (.cells #[.int .u8 op, .func (.func fo) #[] #[]] 97); have hbb := hb2.alloc hb2.size (.cells #[.int .u8 op, .func (.func fo) #[] #[]] 97); have z1 := (hbb.block _ (lt_of_block y1)).trans y1; have z2 := (hbb.block _ (lt_of_block y2)).trans y2; have z3 := (hbb.block _ (lt_of_block y3)).trans y3; have z4 := (MapKept.heap_alloc w2 (.cells #[.int .u8 op, .func (.func fo) #[] #[]] 97)).1; have k1 := cell_of_one ((hb2.block _ (lt_of_block y1)).trans y1); have k2 := cell_of_one ((hb2.block _ (lt_of_block y2)).trans y2); have k3 := cell_of_one ((hb2.block _ (lt_of_block y3)).trans y3); have j1 := lt_of_block ((hb2.block _ (lt_of_block y1)).trans y1); have j2 := lt_of_block ((hb2.block _ (lt_of_block y2)).trans y2); have j3 := lt_of_block ((hb2.block _ (lt_of_block y3)).trans y3); clear hb2 hbb)
    | (go_at_call 50; have hrf := ref_block w2 (.cells #[.int .u8 op, .func (.func fo) #[] #[]] 97) (.cells #[.int .i64 q, .int .i64 s] 46); ((with_reducible refine (HK.out _ _ (bal hb3 _) hrf).mono ?_); rintro e w3 ⟨rfl, hb5⟩); have hb6 := stepB (bal hb3 _) hb5))
  go_ret2
  exact ⟨rfl, hb6⟩
end
end Go.Proofs.Ytbhfmeohaoojfaa.Dn
