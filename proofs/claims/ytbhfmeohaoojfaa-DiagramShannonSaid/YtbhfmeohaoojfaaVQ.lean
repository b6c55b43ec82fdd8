/- A store with room: functions are added one behind the other; each reference with its function. -/
import Derived.Test.YtbhfmeohaoojfaaVM
namespace Go.Proofs.Ytbhfmeohaoojfaa.Dn
open Go Go.RowKit Go.Proofs.Ytbhfmeohaoojfaa.Ap
open Go.Proofs.Ytbhfmeohaoojfaa.Dg
set_option linter.unusedVariables false
set_option maxRecDepth 100000
theorem refN_len (N : List Nd) (n : Nd) : (refN N n).1.length ≤ N.length + 1 := by
  unfold refN
  split
  · exact Nat.le_succ _
  · simp
theorem sub_len {v : Nat} {val : Nat → Int} : ∀ (d : Nat) (N : List Nd) (x : Nat), (sub v val d N x).1.length + 1 ≤ N.length + 2 ^ (d + 1)
  | 0, N, x => by
    have := refN_len N (v, 0, 0, val x)
    show (refN N (v, 0, 0, val x)).1.length + 1 ≤ _
    omega
  | d + 1, N, x => by
    have h1 := sub_len (v := v) (val := val) d N (stV x (v - (d + 1)) false)
    have h2 := sub_len (v := v) (val := val) d (sub v val d N (stV x (v - (d + 1)) false)).1 (stV x (v - (d + 1)) true)
    rw [sub_eq rfl rfl rfl]
    have := refN_len (sub v val d (sub v val d N (stV x (v - (d + 1)) false)).1 (stV x (v - (d + 1)) true)).1 (v - (d + 1), (sub v val d N (stV x (v - (d + 1)) false)).2, (sub v val d (sub v val d N (stV x (v - (d + 1)) false)).1 (stV x (v - (d + 1)) true)).2, 0)
    have e : 2 ^ (d + 1 + 1) = 2 ^ (d + 1) + 2 ^ (d + 1) := by rw [Nat.pow_succ]; omega
    split
    · show (sub v val d _ _).1.length + 1 ≤ _
      omega
    · omega
/-- There is room: the function is added. -/
theorem addM_room {v cap : Nat} {N : List Nd} {R : List Nat} (val : Nat → Int) (hW : Wf v N) (hv : v ≤ 6) (hR : ∀ r ∈ R, inN N r) (hc : N.length + 2 ^ (v + 1) ≤ cap) :
    (addM v cap val N R).err = 0 ∧ (addM v cap val N R).N.length ≤ N.length + 2 ^ (v + 1) ∧ (addM v cap val N R).ref ∈ (addM v cap val N R).R ∧ (∀ y, y < 2 ^ v → den v (addM v cap val N R).N (addM v cap val N R).ref y = val y) ∧
      ∀ r ∈ R, r ∈ (addM v cap val N R).R ∧ ∀ y, den v (addM v cap val N R).N r y = den v N r y := by
  have B := sub_built val hv v (Nat.le_refl _) N 0 hW (Nat.two_pow_pos v)
  rw [Nat.sub_self] at B
  obtain ⟨M, hM⟩ := B.ext
  have hl := sub_len (v := v) (val := val) v N 0
  have e : addM v cap val N R = ⟨(sub v val v N 0).1, addR R (sub v val v N 0).2, (sub v val v N 0).2, 0⟩ := by unfold addM; rw [if_neg (by omega)]
  rw [e]
  refine ⟨rfl, by show (sub v val v N 0).1.length ≤ _; omega, addR_mem.2 (.inr rfl), fun y hy => by
    show den v (sub v val v N 0).1 (sub v val v N 0).2 y = val y
    rw [B.den y hy, mix_zero], fun r hr => ⟨addR_mem.2 (.inl hr), fun y => ?_⟩⟩
  show den v (sub v val v N 0).1 r y = _
  rw [hM]
  exact den_ext hW M (hR r hr) y
/-- A store of 4096, at most m nodes; the references of F with their functions; the run's block. -/
structure Hold1 (w0 X : World) (qb sb cb rb tb v m : Nat) (cs : Value × Value × Value) (F : List (Nat × (Nat → Int))) (nv : Value) (N : List Nd) (R : List Nat) : Prop where
  own : Own w0 X sb cb rb tb v 4096 nv N R
  q : X.heap[qb]? = some (.cells #[.pointer (some ⟨sb, 0, none⟩), cs.1, cs.2.1, cs.2.2] 41 (0, 0))
  len : N.length ≤ m
  fn : ∀ p ∈ F, p.1 ∈ R ∧ ∀ y, y < 2 ^ v → den v N p.1 y = p.2 y
def Hold (w0 X : World) (qb sb cb rb tb v m : Nat) (cs : Value × Value × Value) (F : List (Nat × (Nat → Int))) : Prop := ∃ nv N R, Hold1 w0 X qb sb cb rb tb v m cs F nv N R
section
variable {w0 X Y : World} {qb sb cb rb tb v m : Nat} {cs : Value × Value × Value} {F : List (Nat × (Nat → Int))} {nv : Value} {N : List Nd} {R : List Nat}
theorem Hold.below (h : Hold w0 X qb sb cb rb tb v m cs F) (hb : Below X.heap.size X Y) : Hold w0 Y qb sb cb rb tb v m cs F := by
  obtain ⟨nv, N, R, h⟩ := h
  exact ⟨nv, N, R, h.own.below hb, (hb.block _ (lt_of_block h.q)).trans h.q, h.len, h.fn⟩
theorem Hold.bel (h : Hold w0 X qb sb cb rb tb v m cs F) : Below w0.heap.size w0 X := by
  obtain ⟨nv, N, R, h⟩ := h
  exact h.own.bel
theorem Hold.cell (h : Hold w0 X qb sb cb rb tb v m cs F) : X.cell? ⟨qb, 0, none⟩ = some (.pointer (some ⟨sb, 0, none⟩)) := by
  obtain ⟨nv, N, R, h⟩ := h
  have := h.q
  simp [World.cell?, this]
theorem Hold1.added {val : Nat → Int} {e : Ending} (h : Hold1 w0 X qb sb cb rb tb v m cs F nv N R) (hm : m + 2 ^ (v + 1) ≤ 4096) (hp : AddPost sb cb rb tb v 4096 nv N R val X e Y) :
    ∃ r, e = .returned (.tuple #[.int .i64 (r : Nat), .int .i64 0]) ∧ Hold w0 Y qb sb cb rb tb v (m + 2 ^ (v + 1)) cs ((r, val) :: F) := by
  have hi := h.own.inv
  have hl := h.len
  obtain ⟨h1, h2, h3, h4, h5⟩ := addM_room (cap := 4096) val hi.wf hi.v6 hi.ref (R := R) (by omega)
  obtain ⟨he, nv', ho, hs⟩ := h.own.add hp
  rw [h1] at he
  refine ⟨_, he, nv', _, _, ho, (hi.mem.keeps hs).cells _ _ _ _ h.q (by decide) (by decide), by omega, fun p hpm => ?_⟩
  rcases List.mem_cons.1 hpm with rfl | hpm
  · exact ⟨h3, h4⟩
  · obtain ⟨k1, k2⟩ := h.fn p hpm
    exact ⟨(h5 _ k1).1, fun y hy => by rw [(h5 _ k1).2 y]; exact k2 y hy⟩
theorem addPost_congr {val val' : Nat → Int} {e : Ending} {cap : Nat} (hp : AddPost sb cb rb tb v cap nv N R val X e Y) (h : addM v cap val N R = addM v cap val' N R) : AddPost sb cb rb tb v cap nv N R val' X e Y := by
  unfold AddPost at *
  rw [← h]
  exact hp
theorem sub_congr {val val' : Nat → Int} (h : ∀ y, y < 2 ^ v → val y = val' y) (hv : v ≤ 6) : ∀ (d : Nat), d ≤ v → ∀ (N : List Nd) (x : Nat), x < 2 ^ v → sub v val d N x = sub v val' d N x
  | 0, _, N, x, hx => by rw [sub_zero, sub_zero, h x hx]
  | d + 1, hd, N, x, hx => by
    have a1 := stV_lt (k := v - (d + 1)) false hv (by omega) hx
    have a2 := stV_lt (k := v - (d + 1)) true hv (by omega) hx
    rw [sub_eq (v := v) (val := val) rfl rfl rfl, sub_eq (v := v) (val := val') rfl rfl rfl, sub_congr h hv d (by omega) N _ a1, sub_congr h hv d (by omega) _ _ a2]
theorem addM_congr {val val' : Nat → Int} {cap : Nat} (h : ∀ y, y < 2 ^ v → val y = val' y) (hv : v ≤ 6) : addM v cap val N R = addM v cap val' N R := by
  unfold addM
  rw [sub_congr h hv v (Nat.le_refl _) N 0 (Nat.two_pow_pos v)]
theorem hold_restrict {a : Nat} {f : Nat → Int} (k : Nat) (b : Bool) (h : Hold w0 X qb sb cb rb tb v m cs F) (hf : (a, f) ∈ F) (hk : k < v) (hm : m + 2 ^ (v + 1) ≤ 4096) :
    Calls Try.prog 26 #[.pointer (some ⟨sb, 0, none⟩), .int .i64 a, .int .i64 k, .bool b] X fun e w' => ∃ r, e = .returned (.tuple #[.int .i64 (r : Nat), .int .i64 0]) ∧ Hold w0 w' qb sb cb rb tb v (m + 2 ^ (v + 1)) cs ((r, fun z => f (stV z k b)) :: F) := by
  obtain ⟨nv, N, R, h⟩ := h
  obtain ⟨h1, h2⟩ := h.fn _ hf
  have hi := h.own.inv
  exact (Restrict_yes X hi a k b h1 hk).mono fun e w' hp => h.added hm (addPost_congr hp (addM_congr (fun y hy => h2 _ (stV_lt b hi.v6 hk hy)) hi.v6))
theorem hold_exists {a : Nat} {f : Nat → Int} (k : Nat) (h : Hold w0 X qb sb cb rb tb v m cs F) (hf : (a, f) ∈ F) (hk : k < v) (hm : m + 2 ^ (v + 1) ≤ 4096) :
    Calls Try.prog 27 #[.pointer (some ⟨sb, 0, none⟩), .int .i64 a, .int .i64 k] X fun e w' => ∃ r, e = .returned (.tuple #[.int .i64 (r : Nat), .int .i64 0]) ∧ Hold w0 w' qb sb cb rb tb v (m + 2 ^ (v + 1)) cs ((r, fun z => max (f (stV z k false)) (f (stV z k true))) :: F) := by
  obtain ⟨nv, N, R, h⟩ := h
  obtain ⟨h1, h2⟩ := h.fn _ hf
  have hi := h.own.inv
  exact (Exists_yes X hi a k h1 hk).mono fun e w' hp => h.added hm (addPost_congr hp (addM_congr (fun y hy => by
    show max _ _ = max _ _
    rw [h2 _ (stV_lt false hi.v6 hk hy), h2 _ (stV_lt true hi.v6 hk hy)]) hi.v6))
theorem hold_apply {a b : Nat} {f g : Nat → Int} (op : Nat) (h : Hold w0 X qb sb cb rb tb v m cs F) (hf : (a, f) ∈ F) (hg : (b, g) ∈ F) (h1 : 1 ≤ op) (h4 : op ≤ 4) (hm : m + 2 ^ (v + 1) ≤ 4096) :
    Calls Try.prog 25 #[.pointer (some ⟨sb, 0, none⟩), .int .u8 op, .int .i64 a, .int .i64 b] X fun e w' => ∃ r, e = .returned (.tuple #[.int .i64 (r : Nat), .int .i64 0]) ∧ Hold w0 w' qb sb cb rb tb v (m + 2 ^ (v + 1)) cs ((r, fun z => valI op (f z) (g z)) :: F) := by
  obtain ⟨nv, N, R, h⟩ := h
  obtain ⟨k1, k2⟩ := h.fn _ hf
  obtain ⟨k3, k4⟩ := h.fn _ hg
  have hi := h.own.inv
  exact (Apply_yes X hi op a b h1 h4 k1 k3).mono fun e w' hp => h.added hm (addPost_congr hp (addM_congr (fun y hy => by
    show valI op _ _ = valI op _ _
    rw [k2 y hy, k4 y hy]) hi.v6))
theorem hold_const (z : Int) (hz : InI z) (h : Hold w0 X qb sb cb rb tb v m cs F) (hm : m + 2 ^ (v + 1) ≤ 4096) :
    Calls Try.prog 33 #[.pointer (some ⟨sb, 0, none⟩), .int .i64 z] X fun e w' => ∃ r, e = .returned (.tuple #[.int .i64 (r : Nat), .int .i64 0]) ∧ Hold w0 w' qb sb cb rb tb v (m + 2 ^ (v + 1)) cs ((r, fun _ => z) :: F) := by
  obtain ⟨nv, N, R, h⟩ := h
  exact (Constant_yes X h.own.inv z hz).mono fun e w' hp => h.added hm hp
/-- The table of a function. -/
theorem hold_table {a : Nat} {f : Nat → Int} (h : Hold w0 X qb sb cb rb tb v m cs F) (hf : (a, f) ∈ F) :
    Calls Try.prog 16 #[.pointer (some ⟨sb, 0, none⟩), .int .i64 a] X fun e w' => ∃ g c, e = .returned (.tuple #[.slice (some ⟨g, 0, none⟩) (2 ^ v) c, .int .i64 0]) ∧ Ints w' (some ⟨g, 0, none⟩) (tabV v f) ∧ Below X.heap.size X w' := by
  obtain ⟨nv, N, R, h⟩ := h
  obtain ⟨k1, k2⟩ := h.fn _ hf
  refine (Table_yes X h.own.inv a k1).mono ?_
  rintro e w' ⟨g, c, he, ho, hb⟩
  have e1 : tabD v N a = tabV v f := tabD_eq (tabV_len v f) fun x hx => by rw [k2 x hx, tabV_nd hx]
  rw [e1] at ho
  exact ⟨g, c, he, ints_row ho (tabV_len v f).symm, hb⟩
/-- References are equal just if their functions are. -/
theorem hold_eq {a b : Nat} {f g : Nat → Int} (h : Hold w0 X qb sb cb rb tb v m cs F) (hf : (a, f) ∈ F) (hg : (b, g) ∈ F) (e : ∀ z, z < 2 ^ v → f z = g z) : a = b := by
  obtain ⟨nv, N, R, h⟩ := h
  obtain ⟨k1, k2⟩ := h.fn _ hf
  obtain ⟨k3, k4⟩ := h.fn _ hg
  have hi := h.own.inv
  refine tabD_inj hi.wf hi.v6 (hi.ref _ k1) (hi.ref _ k3) ?_
  rw [tabD_eq (tabV_len v f) fun x hx => by rw [k2 x hx, tabV_nd hx], tabD_eq (tabV_len v g) fun x hx => by rw [k4 x hx, tabV_nd hx]]
  unfold tabV
  exact List.map_congr_left fun x hx => e x (List.mem_range.1 hx)
theorem hold_fn {a b : Nat} {f g : Nat → Int} (h : Hold w0 X qb sb cb rb tb v m cs F) (hf : (a, f) ∈ F) (hg : (b, g) ∈ F) (e : a = b) : ∀ z, z < 2 ^ v → f z = g z := fun z hz => by
  obtain ⟨nv, N, R, h⟩ := h
  subst e
  exact ((h.fn _ hf).2 z hz).symm.trans ((h.fn _ hg).2 z hz)
theorem Hold.mono {m' : Nat} (h : Hold w0 X qb sb cb rb tb v m cs F) (hm : m ≤ m') : Hold w0 X qb sb cb rb tb v m' cs F := by
  obtain ⟨nv, N, R, h⟩ := h
  exact ⟨nv, N, R, h.own, h.q, by have := h.len; omega, h.fn⟩
theorem Hold1.know {r : Nat} (h : Hold1 w0 X qb sb cb rb tb v m cs F nv N R) (hr : r ∈ R) : Hold1 w0 X qb sb cb rb tb v m cs ((r, den v N r) :: F) nv N R :=
  ⟨h.own, h.q, h.len, fun p hp => by
    rcases List.mem_cons.1 hp with rfl | hp
    · exact ⟨hr, fun y _ => rfl⟩
    · exact h.fn p hp⟩
theorem Hold1.below (h : Hold1 w0 X qb sb cb rb tb v m cs F nv N R) (hb : Below X.heap.size X Y) : Hold1 w0 Y qb sb cb rb tb v m cs F nv N R :=
  ⟨h.own.below hb, (hb.block _ (lt_of_block h.q)).trans h.q, h.len, h.fn⟩
theorem Hold.sub {F' : List (Nat × (Nat → Int))} {m' : Nat} (h : Hold w0 X qb sb cb rb tb v m cs F) (hm : m ≤ m') (hF : ∀ p ∈ F', p ∈ F) : Hold w0 X qb sb cb rb tb v m' cs F' := by
  obtain ⟨nv, N, R, h⟩ := h
  exact ⟨nv, N, R, h.own, h.q, by have := h.len; omega, fun p hp => h.fn p (hF p hp)⟩
end
section
variable {w0 X : World} {qb sb cb rb tb mb v cap c : Nat} {nv : Value} {N : List Nd} {R : List Nat} {A : Option Addr} {Q : List (Option Addr × Nat × List Int)} {rv : Value} {rs : List Nat} {tv : Value} {T : List (Option Addr × Nat × List Int)}
theorem Run.hold (h : Run w0 X qb sb cb rb tb mb v 4096 nv N R A c Q rv rs tv T) (hT : T.length ≤ 10) : Hold1 w0 X qb sb cb rb tb v (10 * 2 ^ (v + 1)) (.pointer (some ⟨mb, 0, none⟩), rv, tv) [] nv N R := by
  refine ⟨h.own, h.law.q, ?_, by simp⟩
  rw [h.tie.count]
  have h1 := allN_len (tq Q) v _ (Nat.le_refl _)
  rw [tq_len] at h1
  have h2 := Nat.mul_le_mul_right (2 ^ (v + 1)) (show Q.length ≤ 10 from Nat.le_trans h.qt hT)
  unfold nodesL
  rw [tq_len]
  omega
theorem Run.pickr (h : Run w0 X qb sb cb rb tb mb v cap nv N R A c Q rv rs tv T) (k : Int) (hk : IntOk k) (hr : 0 < rs.length) (hs : rs.length ≤ 1000) :
    Calls Try.prog 28 #[.pointer (some ⟨qb, 0, none⟩), .int .i64 k] X fun e w' => ∃ (r : Nat) (B : Option Addr) (n d : Nat), e = .returned (.tuple #[.int .i64 r, .slice B n d, .bool true]) ∧ r ∈ R ∧ Below X.heap.size X w' := by
  refine (pick_some k h.law hk hr h.len hs).mono ?_
  rintro e w' ⟨i, q, hi, hq, he, hb⟩
  exact ⟨_, _, _, _, he, (h.each i hi).1, hb⟩
end
/-- Room for n more functions. -/
def Room (w0 X : World) (qb sb cb rb tb v n : Nat) (cs : Value × Value × Value) (F : List (Nat × (Nat → Int))) : Prop := ∃ m, m + n * 2 ^ (v + 1) ≤ 4096 ∧ Hold w0 X qb sb cb rb tb v m cs F
section
variable {w0 X Y : World} {qb sb cb rb tb v n : Nat} {cs : Value × Value × Value} {F : List (Nat × (Nat → Int))}
theorem Room.hold (h : Room w0 X qb sb cb rb tb v n cs F) : ∃ m, Hold w0 X qb sb cb rb tb v m cs F := by
  obtain ⟨m, _, h⟩ := h
  exact ⟨m, h⟩
theorem Room.below (h : Room w0 X qb sb cb rb tb v n cs F) (hb : Below X.heap.size X Y) : Room w0 Y qb sb cb rb tb v n cs F := by
  obtain ⟨m, h1, h⟩ := h
  exact ⟨m, h1, h.below hb⟩
theorem Room.bel (h : Room w0 X qb sb cb rb tb v n cs F) : Below w0.heap.size w0 X := by
  obtain ⟨m, h1, h⟩ := h
  exact h.bel
theorem Room.cell (h : Room w0 X qb sb cb rb tb v n cs F) : X.cell? ⟨qb, 0, none⟩ = some (.pointer (some ⟨sb, 0, none⟩)) := by
  obtain ⟨m, h1, h⟩ := h
  exact h.cell
theorem Room.sub {F' : List (Nat × (Nat → Int))} (h : Room w0 X qb sb cb rb tb v n cs F) (hF : ∀ p ∈ F', p ∈ F) : Room w0 X qb sb cb rb tb v n cs F' := by
  obtain ⟨m, h1, h⟩ := h
  exact ⟨m, h1, h.sub (Nat.le_refl _) hF⟩
theorem room_next {m : Nat} (h : m + (n + 1) * 2 ^ (v + 1) ≤ 4096) : m + 2 ^ (v + 1) ≤ 4096 ∧ m + 2 ^ (v + 1) + n * 2 ^ (v + 1) ≤ 4096 := by
  rw [Nat.succ_mul] at h
  omega
theorem room_restrict {a : Nat} {f : Nat → Int} (k : Nat) (b : Bool) (h : Room w0 X qb sb cb rb tb v (n + 1) cs F) (hf : (a, f) ∈ F) (hk : k < v) :
    Calls Try.prog 26 #[.pointer (some ⟨sb, 0, none⟩), .int .i64 a, .int .i64 k, .bool b] X fun e w' => ∃ r, e = .returned (.tuple #[.int .i64 (r : Nat), .int .i64 0]) ∧ Room w0 w' qb sb cb rb tb v n cs ((r, fun z => f (stV z k b)) :: F) := by
  obtain ⟨m, h1, h⟩ := h
  obtain ⟨h2, h3⟩ := room_next h1
  exact (hold_restrict k b h hf hk h2).mono fun e w' ⟨r, he, hh⟩ => ⟨r, he, _, h3, hh⟩
theorem room_exists {a : Nat} {f : Nat → Int} (k : Nat) (h : Room w0 X qb sb cb rb tb v (n + 1) cs F) (hf : (a, f) ∈ F) (hk : k < v) :
    Calls Try.prog 27 #[.pointer (some ⟨sb, 0, none⟩), .int .i64 a, .int .i64 k] X fun e w' => ∃ r, e = .returned (.tuple #[.int .i64 (r : Nat), .int .i64 0]) ∧ Room w0 w' qb sb cb rb tb v n cs ((r, fun z => max (f (stV z k false)) (f (stV z k true))) :: F) := by
  obtain ⟨m, h1, h⟩ := h
  obtain ⟨h2, h3⟩ := room_next h1
  exact (hold_exists k h hf hk h2).mono fun e w' ⟨r, he, hh⟩ => ⟨r, he, _, h3, hh⟩
theorem room_apply {a b : Nat} {f g : Nat → Int} (op : Nat) (h : Room w0 X qb sb cb rb tb v (n + 1) cs F) (hf : (a, f) ∈ F) (hg : (b, g) ∈ F) (h1 : 1 ≤ op) (h4 : op ≤ 4) :
    Calls Try.prog 25 #[.pointer (some ⟨sb, 0, none⟩), .int .u8 op, .int .i64 a, .int .i64 b] X fun e w' => ∃ r, e = .returned (.tuple #[.int .i64 (r : Nat), .int .i64 0]) ∧ Room w0 w' qb sb cb rb tb v n cs ((r, fun z => valI op (f z) (g z)) :: F) := by
  obtain ⟨m, k1, h⟩ := h
  obtain ⟨k2, k3⟩ := room_next k1
  exact (hold_apply op h hf hg h1 h4 k2).mono fun e w' ⟨r, he, hh⟩ => ⟨r, he, _, k3, hh⟩
theorem room_const (z : Int) (hz : InI z) (h : Room w0 X qb sb cb rb tb v (n + 1) cs F) :
    Calls Try.prog 33 #[.pointer (some ⟨sb, 0, none⟩), .int .i64 z] X fun e w' => ∃ r, e = .returned (.tuple #[.int .i64 (r : Nat), .int .i64 0]) ∧ Room w0 w' qb sb cb rb tb v n cs ((r, fun _ => z) :: F) := by
  obtain ⟨m, h1, h⟩ := h
  obtain ⟨h2, h3⟩ := room_next h1
  exact (hold_const z hz h h2).mono fun e w' ⟨r, he, hh⟩ => ⟨r, he, _, h3, hh⟩
theorem room_table {a : Nat} {f : Nat → Int} (h : Room w0 X qb sb cb rb tb v n cs F) (hf : (a, f) ∈ F) :
    Calls Try.prog 16 #[.pointer (some ⟨sb, 0, none⟩), .int .i64 a] X fun e w' => ∃ g c, e = .returned (.tuple #[.slice (some ⟨g, 0, none⟩) (2 ^ v) c, .int .i64 0]) ∧ Ints w' (some ⟨g, 0, none⟩) (tabV v f) ∧ Below X.heap.size X w' := by
  obtain ⟨m, h1, h⟩ := h
  exact hold_table h hf
end
section
variable {α : Type} {x a b c d e f g h i : α} {l : List α}
theorem mem0 : x ∈ x :: l := List.mem_cons_self
theorem mem1 : x ∈ a :: x :: l := List.mem_cons_of_mem _ mem0
theorem mem2 : x ∈ a :: b :: x :: l := List.mem_cons_of_mem _ mem1
theorem mem3 : x ∈ a :: b :: c :: x :: l := List.mem_cons_of_mem _ mem2
theorem mem4 : x ∈ a :: b :: c :: d :: x :: l := List.mem_cons_of_mem _ mem3
theorem mem5 : x ∈ a :: b :: c :: d :: e :: x :: l := List.mem_cons_of_mem _ mem4
theorem mem6 : x ∈ a :: b :: c :: d :: e :: f :: x :: l := List.mem_cons_of_mem _ mem5
theorem mem7 : x ∈ a :: b :: c :: d :: e :: f :: g :: x :: l := List.mem_cons_of_mem _ mem6
theorem mem8 : x ∈ a :: b :: c :: d :: e :: f :: g :: h :: x :: l := List.mem_cons_of_mem _ mem7
theorem mem9 : x ∈ a :: b :: c :: d :: e :: f :: g :: h :: i :: x :: l := List.mem_cons_of_mem _ mem8
end
theorem valI1 (a b : Int) : valI 1 a b = max a b := by unfold valI; simp
theorem valI2 (a b : Int) : valI 2 a b = min a b := by unfold valI; simp
theorem valI4 (a b : Int) : valI 4 a b = if a = b then 1 else 0 := by unfold valI; simp
theorem xor_back {a b : Int} (ha : InI a) : valI 3 (valI 3 a b) b = a := by
  have e : ∀ x y, valI 3 x y = bits .xor .i64 x y := fun x y => by unfold valI; simp
  have h1 : ∀ V : BitVec 64, BitVec.ofInt 64 (IntKind.i64.wrap (V.toNat : Int)) = V := fun V => by
    apply BitVec.eq_of_toNat_eq
    rw [BitVec.toNat_ofInt, IntKind.wrap_i64]
    have := V.isLt
    omega
  rw [e, e]
  show IntKind.i64.wrap ((BitVec.ofInt 64 (IntKind.i64.wrap ((BitVec.ofInt 64 a ^^^ BitVec.ofInt 64 b).toNat : Int)) ^^^ BitVec.ofInt 64 b).toNat : Int) = a
  rw [h1, BitVec.xor_assoc, BitVec.xor_self, BitVec.xor_zero, BitVec.toNat_ofInt, IntKind.wrap_i64]
  unfold InI at ha
  omega
end Go.Proofs.Ytbhfmeohaoojfaa.Dn
