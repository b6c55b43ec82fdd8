/- The cases of the law BitsetOrder. -/
import Derived.Test.YtaijjokcddcgiaaDoorN
namespace Go.Proofs.YtaijjokcddcgiaaDoor
open Go Go.RowKit
set_option maxRecDepth 100000
set_option linter.unusedVariables false
theorem Compare_val {w0 w : World} {S : List (Option Addr × Nat × List Nat)} {A B : Option Addr} {c d : Nat} {xs ys : List Nat} (E : Env w0 w S) (ha : (A, c, xs) ∈ S) (hb : (B, d, ys) ∈ S) {v : Int} (h : cmpS xs ys = v) :
    Calls Tryd.prog 37 #[.slice A xs.length c, .slice B ys.length d] w fun e w' => e = .returned (.int .i64 v) ∧ Env w0 w' S := by
  subst h
  exact Compare_env E ha hb
theorem Min_val {w0 w : World} {S : List (Option Addr × Nat × List Nat)} {A : Option Addr} {c : Nat} {xs : List Nat} (E : Env w0 w S) (ha : (A, c, xs) ∈ S) {m : Nat} {p : Bool} (h : minOf (els xs) = (m, p)) :
    Calls Tryd.prog 21 #[.slice A xs.length c] w fun e w' => e = .returned (.tuple #[.int .i64 (m : Int), .bool p]) ∧ Env w0 w' S := by
  refine (Min_env E ha).mono ?_
  rw [h]
  exact fun _ _ h => h
theorem Len_val {w0 w : World} {S : List (Option Addr × Nat × List Nat)} {A : Option Addr} {c : Nat} {xs : List Nat} (E : Env w0 w S) (ha : (A, c, xs) ∈ S) {n : Nat} (h : (els xs).length = n) :
    Calls Tryd.prog 20 #[.slice A xs.length c] w fun e w' => e = .returned (.int .i64 (n : Int)) ∧ w = w' := by
  subst h
  exact Len_env E ha
set_option maxHeartbeats 4000000 in
theorem order_nnl {A B C : Option Addr} {xs ys zs : List Nat} {c d f : Nat} {w : World} (m n : Nat) (E0 : Env w w [(A, c, xs), (B, d, ys), (C, f, zs)])
    (HL : Hid (Calls Tryd.prog 11 #[.slice (some ⟨w.heap.size, 0, none⟩) 3 3] (w.alloc (.cells (slices [(A, xs.length, c), (B, ys.length, d), (C, zs.length, f)]) 23)) fun e w' => e = .returned (.bool false) ∧ Env w w' [(A, c, xs), (B, d, ys), (C, f, zs)]))
    (K1 : Hid (cmpS xs ys = 0)) (K2 : Hid (cmpS ys zs = -1)) (K3 : Hid (cmpS ys xs = 0)) (K4 : Hid (cmpS xs zs = -1)) (KE : Hid (eqB xs ys = true)) (N1 : Hid (minOf (els xs) = (0, false))) (N2 : Hid (minOf (els ys) = (0, false)))
    (KL : Hid ((els xs).length = 0)) :
    Calls Tryd.prog 10 #[.slice A xs.length c, .slice B ys.length d, .slice C zs.length f] w fun e w' => e = .returned (.bool true) ∧ Below w.heap.size w w' := by
  clear E0
  go_enter Tryd.func10, Tryd.ntmps10
  go_wp2_with (first
      | (go_at_call 11; refine HL.out.mono ?_; rintro e w1 ⟨rfl, E⟩)
      | (go_at_call 12; refine (awake_env E).mono ?_; rintro e w2 ⟨rfl, E⟩)
      | (go_at_call 37; refine (Compare_val E (by repeat (first | with_reducible exact List.mem_cons_self | apply List.mem_cons_of_mem)) (by repeat (first | with_reducible exact List.mem_cons_self | apply List.mem_cons_of_mem)) (v := _) (by first | with_reducible exact K1.out | with_reducible exact K2.out | with_reducible exact K3.out | with_reducible exact K4.out)).mono ?_; rintro e w2 ⟨rfl, E⟩)
      | (go_at_call 21; refine (Min_val E (by repeat (first | with_reducible exact List.mem_cons_self | apply List.mem_cons_of_mem)) (m := _) (p := _) (by first | with_reducible exact N1.out | with_reducible exact N2.out)).mono ?_; rintro e w2 ⟨rfl, E⟩)
      | (go_at_call 20; refine (Len_val E (by repeat (first | with_reducible exact List.mem_cons_self | apply List.mem_cons_of_mem)) KL.out).mono ?_; rintro e w2 ⟨rfl, rfl⟩)
      | (go_at_call 35; refine (Equal_env E (by repeat (first | with_reducible exact List.mem_cons_self | apply List.mem_cons_of_mem)) (by repeat (first | with_reducible exact List.mem_cons_self | apply List.mem_cons_of_mem)) (b := _) (by with_reducible exact KE.out)).mono ?_; rintro e w2 ⟨rfl, rfl⟩))
  go_ret
  first | exact ⟨rfl, E.1⟩ | (refine ⟨ret_bool ?_, E.1⟩; simp; done) | (refine ⟨ret_bool ?_, E.1⟩; simp; omega)
set_option maxHeartbeats 4000000 in
theorem order_nne {A B C : Option Addr} {xs ys zs : List Nat} {c d f : Nat} {w : World} (m n : Nat) (E0 : Env w w [(A, c, xs), (B, d, ys), (C, f, zs)])
    (HL : Hid (Calls Tryd.prog 11 #[.slice (some ⟨w.heap.size, 0, none⟩) 3 3] (w.alloc (.cells (slices [(A, xs.length, c), (B, ys.length, d), (C, zs.length, f)]) 23)) fun e w' => e = .returned (.bool false) ∧ Env w w' [(A, c, xs), (B, d, ys), (C, f, zs)]))
    (K1 : Hid (cmpS xs ys = 0)) (K2 : Hid (cmpS ys zs = 0)) (K3 : Hid (cmpS ys xs = 0)) (K4 : Hid (cmpS xs zs = 0)) (KE : Hid (eqB xs ys = true)) (N1 : Hid (minOf (els xs) = (0, false))) (N2 : Hid (minOf (els ys) = (0, false)))
    (KL : Hid ((els xs).length = 0)) :
    Calls Tryd.prog 10 #[.slice A xs.length c, .slice B ys.length d, .slice C zs.length f] w fun e w' => e = .returned (.bool true) ∧ Below w.heap.size w w' := by
  clear E0
  go_enter Tryd.func10, Tryd.ntmps10
  go_wp2_with (first
      | (go_at_call 11; refine HL.out.mono ?_; rintro e w1 ⟨rfl, E⟩)
      | (go_at_call 12; refine (awake_env E).mono ?_; rintro e w2 ⟨rfl, E⟩)
      | (go_at_call 37; refine (Compare_val E (by repeat (first | with_reducible exact List.mem_cons_self | apply List.mem_cons_of_mem)) (by repeat (first | with_reducible exact List.mem_cons_self | apply List.mem_cons_of_mem)) (v := _) (by first | with_reducible exact K1.out | with_reducible exact K2.out | with_reducible exact K3.out | with_reducible exact K4.out)).mono ?_; rintro e w2 ⟨rfl, E⟩)
      | (go_at_call 21; refine (Min_val E (by repeat (first | with_reducible exact List.mem_cons_self | apply List.mem_cons_of_mem)) (m := _) (p := _) (by first | with_reducible exact N1.out | with_reducible exact N2.out)).mono ?_; rintro e w2 ⟨rfl, E⟩)
      | (go_at_call 20; refine (Len_val E (by repeat (first | with_reducible exact List.mem_cons_self | apply List.mem_cons_of_mem)) KL.out).mono ?_; rintro e w2 ⟨rfl, rfl⟩)
      | (go_at_call 35; refine (Equal_env E (by repeat (first | with_reducible exact List.mem_cons_self | apply List.mem_cons_of_mem)) (by repeat (first | with_reducible exact List.mem_cons_self | apply List.mem_cons_of_mem)) (b := _) (by with_reducible exact KE.out)).mono ?_; rintro e w2 ⟨rfl, rfl⟩))
  go_ret
  first | exact ⟨rfl, E.1⟩ | (refine ⟨ret_bool ?_, E.1⟩; simp; done) | (refine ⟨ret_bool ?_, E.1⟩; simp; omega)
set_option maxHeartbeats 4000000 in
theorem order_nng {A B C : Option Addr} {xs ys zs : List Nat} {c d f : Nat} {w : World} (m n : Nat) (v : Int) (E0 : Env w w [(A, c, xs), (B, d, ys), (C, f, zs)])
    (HL : Hid (Calls Tryd.prog 11 #[.slice (some ⟨w.heap.size, 0, none⟩) 3 3] (w.alloc (.cells (slices [(A, xs.length, c), (B, ys.length, d), (C, zs.length, f)]) 23)) fun e w' => e = .returned (.bool false) ∧ Env w w' [(A, c, xs), (B, d, ys), (C, f, zs)]))
    (K1 : Hid (cmpS xs ys = 0)) (K2 : Hid (cmpS ys zs = 1)) (K3 : Hid (cmpS ys xs = 0)) (K4 : Hid (cmpS xs zs = v)) (KE : Hid (eqB xs ys = true)) (N1 : Hid (minOf (els xs) = (0, false))) (N2 : Hid (minOf (els ys) = (0, false)))
    (KL : Hid ((els xs).length = 0)) :
    Calls Tryd.prog 10 #[.slice A xs.length c, .slice B ys.length d, .slice C zs.length f] w fun e w' => e = .returned (.bool true) ∧ Below w.heap.size w w' := by
  clear E0
  go_enter Tryd.func10, Tryd.ntmps10
  go_wp2_with (first
      | (go_at_call 11; refine HL.out.mono ?_; rintro e w1 ⟨rfl, E⟩)
      | (go_at_call 12; refine (awake_env E).mono ?_; rintro e w2 ⟨rfl, E⟩)
      | (go_at_call 37; refine (Compare_val E (by repeat (first | with_reducible exact List.mem_cons_self | apply List.mem_cons_of_mem)) (by repeat (first | with_reducible exact List.mem_cons_self | apply List.mem_cons_of_mem)) (v := _) (by first | with_reducible exact K1.out | with_reducible exact K2.out | with_reducible exact K3.out | with_reducible exact K4.out)).mono ?_; rintro e w2 ⟨rfl, E⟩)
      | (go_at_call 21; refine (Min_val E (by repeat (first | with_reducible exact List.mem_cons_self | apply List.mem_cons_of_mem)) (m := _) (p := _) (by first | with_reducible exact N1.out | with_reducible exact N2.out)).mono ?_; rintro e w2 ⟨rfl, E⟩)
      | (go_at_call 20; refine (Len_val E (by repeat (first | with_reducible exact List.mem_cons_self | apply List.mem_cons_of_mem)) KL.out).mono ?_; rintro e w2 ⟨rfl, rfl⟩)
      | (go_at_call 35; refine (Equal_env E (by repeat (first | with_reducible exact List.mem_cons_self | apply List.mem_cons_of_mem)) (by repeat (first | with_reducible exact List.mem_cons_self | apply List.mem_cons_of_mem)) (b := _) (by with_reducible exact KE.out)).mono ?_; rintro e w2 ⟨rfl, rfl⟩))
  go_ret
  first | exact ⟨rfl, E.1⟩ | (refine ⟨ret_bool ?_, E.1⟩; simp; done) | (refine ⟨ret_bool ?_, E.1⟩; simp; omega)
set_option maxHeartbeats 4000000 in
theorem order_ncl {A B C : Option Addr} {xs ys zs : List Nat} {c d f : Nat} {w : World} (m n : Nat) (E0 : Env w w [(A, c, xs), (B, d, ys), (C, f, zs)])
    (HL : Hid (Calls Tryd.prog 11 #[.slice (some ⟨w.heap.size, 0, none⟩) 3 3] (w.alloc (.cells (slices [(A, xs.length, c), (B, ys.length, d), (C, zs.length, f)]) 23)) fun e w' => e = .returned (.bool false) ∧ Env w w' [(A, c, xs), (B, d, ys), (C, f, zs)]))
    (K1 : Hid (cmpS xs ys = -1)) (K2 : Hid (cmpS ys zs = -1)) (K3 : Hid (cmpS ys xs = 1)) (K4 : Hid (cmpS xs zs = -1)) (KE : Hid (eqB xs ys = false)) (N1 : Hid (minOf (els xs) = (0, false))) (N2 : Hid (minOf (els ys) = (n, true)))
    (KL : Hid ((els xs).length = 0)) :
    Calls Tryd.prog 10 #[.slice A xs.length c, .slice B ys.length d, .slice C zs.length f] w fun e w' => e = .returned (.bool true) ∧ Below w.heap.size w w' := by
  clear E0
  go_enter Tryd.func10, Tryd.ntmps10
  go_wp2_with (first
      | (go_at_call 11; refine HL.out.mono ?_; rintro e w1 ⟨rfl, E⟩)
      | (go_at_call 12; refine (awake_env E).mono ?_; rintro e w2 ⟨rfl, E⟩)
      | (go_at_call 37; refine (Compare_val E (by repeat (first | with_reducible exact List.mem_cons_self | apply List.mem_cons_of_mem)) (by repeat (first | with_reducible exact List.mem_cons_self | apply List.mem_cons_of_mem)) (v := _) (by first | with_reducible exact K1.out | with_reducible exact K2.out | with_reducible exact K3.out | with_reducible exact K4.out)).mono ?_; rintro e w2 ⟨rfl, E⟩)
      | (go_at_call 21; refine (Min_val E (by repeat (first | with_reducible exact List.mem_cons_self | apply List.mem_cons_of_mem)) (m := _) (p := _) (by first | with_reducible exact N1.out | with_reducible exact N2.out)).mono ?_; rintro e w2 ⟨rfl, E⟩)
      | (go_at_call 20; refine (Len_val E (by repeat (first | with_reducible exact List.mem_cons_self | apply List.mem_cons_of_mem)) KL.out).mono ?_; rintro e w2 ⟨rfl, rfl⟩)
      | (go_at_call 35; refine (Equal_env E (by repeat (first | with_reducible exact List.mem_cons_self | apply List.mem_cons_of_mem)) (by repeat (first | with_reducible exact List.mem_cons_self | apply List.mem_cons_of_mem)) (b := _) (by with_reducible exact KE.out)).mono ?_; rintro e w2 ⟨rfl, rfl⟩))
  go_ret
  first | exact ⟨rfl, E.1⟩ | (refine ⟨ret_bool ?_, E.1⟩; simp; done) | (refine ⟨ret_bool ?_, E.1⟩; simp; omega)
set_option maxHeartbeats 4000000 in
theorem order_nce {A B C : Option Addr} {xs ys zs : List Nat} {c d f : Nat} {w : World} (m n : Nat) (E0 : Env w w [(A, c, xs), (B, d, ys), (C, f, zs)])
    (HL : Hid (Calls Tryd.prog 11 #[.slice (some ⟨w.heap.size, 0, none⟩) 3 3] (w.alloc (.cells (slices [(A, xs.length, c), (B, ys.length, d), (C, zs.length, f)]) 23)) fun e w' => e = .returned (.bool false) ∧ Env w w' [(A, c, xs), (B, d, ys), (C, f, zs)]))
    (K1 : Hid (cmpS xs ys = -1)) (K2 : Hid (cmpS ys zs = 0)) (K3 : Hid (cmpS ys xs = 1)) (K4 : Hid (cmpS xs zs = -1)) (KE : Hid (eqB xs ys = false)) (N1 : Hid (minOf (els xs) = (0, false))) (N2 : Hid (minOf (els ys) = (n, true)))
    (KL : Hid ((els xs).length = 0)) :
    Calls Tryd.prog 10 #[.slice A xs.length c, .slice B ys.length d, .slice C zs.length f] w fun e w' => e = .returned (.bool true) ∧ Below w.heap.size w w' := by
  clear E0
  go_enter Tryd.func10, Tryd.ntmps10
  go_wp2_with (first
      | (go_at_call 11; refine HL.out.mono ?_; rintro e w1 ⟨rfl, E⟩)
      | (go_at_call 12; refine (awake_env E).mono ?_; rintro e w2 ⟨rfl, E⟩)
      | (go_at_call 37; refine (Compare_val E (by repeat (first | with_reducible exact List.mem_cons_self | apply List.mem_cons_of_mem)) (by repeat (first | with_reducible exact List.mem_cons_self | apply List.mem_cons_of_mem)) (v := _) (by first | with_reducible exact K1.out | with_reducible exact K2.out | with_reducible exact K3.out | with_reducible exact K4.out)).mono ?_; rintro e w2 ⟨rfl, E⟩)
      | (go_at_call 21; refine (Min_val E (by repeat (first | with_reducible exact List.mem_cons_self | apply List.mem_cons_of_mem)) (m := _) (p := _) (by first | with_reducible exact N1.out | with_reducible exact N2.out)).mono ?_; rintro e w2 ⟨rfl, E⟩)
      | (go_at_call 20; refine (Len_val E (by repeat (first | with_reducible exact List.mem_cons_self | apply List.mem_cons_of_mem)) KL.out).mono ?_; rintro e w2 ⟨rfl, rfl⟩)
      | (go_at_call 35; refine (Equal_env E (by repeat (first | with_reducible exact List.mem_cons_self | apply List.mem_cons_of_mem)) (by repeat (first | with_reducible exact List.mem_cons_self | apply List.mem_cons_of_mem)) (b := _) (by with_reducible exact KE.out)).mono ?_; rintro e w2 ⟨rfl, rfl⟩))
  go_ret
  first | exact ⟨rfl, E.1⟩ | (refine ⟨ret_bool ?_, E.1⟩; simp; done) | (refine ⟨ret_bool ?_, E.1⟩; simp; omega)
set_option maxHeartbeats 4000000 in
theorem order_ncg {A B C : Option Addr} {xs ys zs : List Nat} {c d f : Nat} {w : World} (m n : Nat) (v : Int) (E0 : Env w w [(A, c, xs), (B, d, ys), (C, f, zs)])
    (HL : Hid (Calls Tryd.prog 11 #[.slice (some ⟨w.heap.size, 0, none⟩) 3 3] (w.alloc (.cells (slices [(A, xs.length, c), (B, ys.length, d), (C, zs.length, f)]) 23)) fun e w' => e = .returned (.bool false) ∧ Env w w' [(A, c, xs), (B, d, ys), (C, f, zs)]))
    (K1 : Hid (cmpS xs ys = -1)) (K2 : Hid (cmpS ys zs = 1)) (K3 : Hid (cmpS ys xs = 1)) (K4 : Hid (cmpS xs zs = v)) (KE : Hid (eqB xs ys = false)) (N1 : Hid (minOf (els xs) = (0, false))) (N2 : Hid (minOf (els ys) = (n, true)))
    (KL : Hid ((els xs).length = 0)) :
    Calls Tryd.prog 10 #[.slice A xs.length c, .slice B ys.length d, .slice C zs.length f] w fun e w' => e = .returned (.bool true) ∧ Below w.heap.size w w' := by
  clear E0
  go_enter Tryd.func10, Tryd.ntmps10
  go_wp2_with (first
      | (go_at_call 11; refine HL.out.mono ?_; rintro e w1 ⟨rfl, E⟩)
      | (go_at_call 12; refine (awake_env E).mono ?_; rintro e w2 ⟨rfl, E⟩)
      | (go_at_call 37; refine (Compare_val E (by repeat (first | with_reducible exact List.mem_cons_self | apply List.mem_cons_of_mem)) (by repeat (first | with_reducible exact List.mem_cons_self | apply List.mem_cons_of_mem)) (v := _) (by first | with_reducible exact K1.out | with_reducible exact K2.out | with_reducible exact K3.out | with_reducible exact K4.out)).mono ?_; rintro e w2 ⟨rfl, E⟩)
      | (go_at_call 21; refine (Min_val E (by repeat (first | with_reducible exact List.mem_cons_self | apply List.mem_cons_of_mem)) (m := _) (p := _) (by first | with_reducible exact N1.out | with_reducible exact N2.out)).mono ?_; rintro e w2 ⟨rfl, E⟩)
      | (go_at_call 20; refine (Len_val E (by repeat (first | with_reducible exact List.mem_cons_self | apply List.mem_cons_of_mem)) KL.out).mono ?_; rintro e w2 ⟨rfl, rfl⟩)
      | (go_at_call 35; refine (Equal_env E (by repeat (first | with_reducible exact List.mem_cons_self | apply List.mem_cons_of_mem)) (by repeat (first | with_reducible exact List.mem_cons_self | apply List.mem_cons_of_mem)) (b := _) (by with_reducible exact KE.out)).mono ?_; rintro e w2 ⟨rfl, rfl⟩))
  go_ret
  first | exact ⟨rfl, E.1⟩ | (refine ⟨ret_bool ?_, E.1⟩; simp; done) | (refine ⟨ret_bool ?_, E.1⟩; simp; omega)
set_option maxHeartbeats 4000000 in
theorem order_cnl {A B C : Option Addr} {xs ys zs : List Nat} {c d f : Nat} {w : World} (m n N : Nat) (v : Int) (E0 : Env w w [(A, c, xs), (B, d, ys), (C, f, zs)])
    (HL : Hid (Calls Tryd.prog 11 #[.slice (some ⟨w.heap.size, 0, none⟩) 3 3] (w.alloc (.cells (slices [(A, xs.length, c), (B, ys.length, d), (C, zs.length, f)]) 23)) fun e w' => e = .returned (.bool false) ∧ Env w w' [(A, c, xs), (B, d, ys), (C, f, zs)]))
    (K1 : Hid (cmpS xs ys = 1)) (K2 : Hid (cmpS ys zs = -1)) (K3 : Hid (cmpS ys xs = -1)) (K4 : Hid (cmpS xs zs = v)) (KE : Hid (eqB xs ys = false)) (N1 : Hid (minOf (els xs) = (m, true))) (N2 : Hid (minOf (els ys) = (0, false)))
    (KL : Hid ((els xs).length = N)) (hN : 0 < N) (hN' : N ≤ 4096) :
    Calls Tryd.prog 10 #[.slice A xs.length c, .slice B ys.length d, .slice C zs.length f] w fun e w' => e = .returned (.bool true) ∧ Below w.heap.size w w' := by
  clear E0
  go_enter Tryd.func10, Tryd.ntmps10
  go_wp2_with (first
      | (go_at_call 11; refine HL.out.mono ?_; rintro e w1 ⟨rfl, E⟩)
      | (go_at_call 12; refine (awake_env E).mono ?_; rintro e w2 ⟨rfl, E⟩)
      | (go_at_call 37; refine (Compare_val E (by repeat (first | with_reducible exact List.mem_cons_self | apply List.mem_cons_of_mem)) (by repeat (first | with_reducible exact List.mem_cons_self | apply List.mem_cons_of_mem)) (v := _) (by first | with_reducible exact K1.out | with_reducible exact K2.out | with_reducible exact K3.out | with_reducible exact K4.out)).mono ?_; rintro e w2 ⟨rfl, E⟩)
      | (go_at_call 21; refine (Min_val E (by repeat (first | with_reducible exact List.mem_cons_self | apply List.mem_cons_of_mem)) (m := _) (p := _) (by first | with_reducible exact N1.out | with_reducible exact N2.out)).mono ?_; rintro e w2 ⟨rfl, E⟩)
      | (go_at_call 20; refine (Len_val E (by repeat (first | with_reducible exact List.mem_cons_self | apply List.mem_cons_of_mem)) KL.out).mono ?_; rintro e w2 ⟨rfl, rfl⟩)
      | (go_at_call 35; refine (Equal_env E (by repeat (first | with_reducible exact List.mem_cons_self | apply List.mem_cons_of_mem)) (by repeat (first | with_reducible exact List.mem_cons_self | apply List.mem_cons_of_mem)) (b := _) (by with_reducible exact KE.out)).mono ?_; rintro e w2 ⟨rfl, rfl⟩))
  go_ret
  first | exact ⟨rfl, E.1⟩ | (refine ⟨ret_bool ?_, E.1⟩; simp; done) | (refine ⟨ret_bool ?_, E.1⟩; simp; omega)
set_option maxHeartbeats 4000000 in
theorem order_cne {A B C : Option Addr} {xs ys zs : List Nat} {c d f : Nat} {w : World} (m n N : Nat) (v : Int) (E0 : Env w w [(A, c, xs), (B, d, ys), (C, f, zs)])
    (HL : Hid (Calls Tryd.prog 11 #[.slice (some ⟨w.heap.size, 0, none⟩) 3 3] (w.alloc (.cells (slices [(A, xs.length, c), (B, ys.length, d), (C, zs.length, f)]) 23)) fun e w' => e = .returned (.bool false) ∧ Env w w' [(A, c, xs), (B, d, ys), (C, f, zs)]))
    (K1 : Hid (cmpS xs ys = 1)) (K2 : Hid (cmpS ys zs = 0)) (K3 : Hid (cmpS ys xs = -1)) (K4 : Hid (cmpS xs zs = v)) (KE : Hid (eqB xs ys = false)) (N1 : Hid (minOf (els xs) = (m, true))) (N2 : Hid (minOf (els ys) = (0, false)))
    (KL : Hid ((els xs).length = N)) (hN : 0 < N) (hN' : N ≤ 4096) :
    Calls Tryd.prog 10 #[.slice A xs.length c, .slice B ys.length d, .slice C zs.length f] w fun e w' => e = .returned (.bool true) ∧ Below w.heap.size w w' := by
  clear E0
  go_enter Tryd.func10, Tryd.ntmps10
  go_wp2_with (first
      | (go_at_call 11; refine HL.out.mono ?_; rintro e w1 ⟨rfl, E⟩)
      | (go_at_call 12; refine (awake_env E).mono ?_; rintro e w2 ⟨rfl, E⟩)
      | (go_at_call 37; refine (Compare_val E (by repeat (first | with_reducible exact List.mem_cons_self | apply List.mem_cons_of_mem)) (by repeat (first | with_reducible exact List.mem_cons_self | apply List.mem_cons_of_mem)) (v := _) (by first | with_reducible exact K1.out | with_reducible exact K2.out | with_reducible exact K3.out | with_reducible exact K4.out)).mono ?_; rintro e w2 ⟨rfl, E⟩)
      | (go_at_call 21; refine (Min_val E (by repeat (first | with_reducible exact List.mem_cons_self | apply List.mem_cons_of_mem)) (m := _) (p := _) (by first | with_reducible exact N1.out | with_reducible exact N2.out)).mono ?_; rintro e w2 ⟨rfl, E⟩)
      | (go_at_call 20; refine (Len_val E (by repeat (first | with_reducible exact List.mem_cons_self | apply List.mem_cons_of_mem)) KL.out).mono ?_; rintro e w2 ⟨rfl, rfl⟩)
      | (go_at_call 35; refine (Equal_env E (by repeat (first | with_reducible exact List.mem_cons_self | apply List.mem_cons_of_mem)) (by repeat (first | with_reducible exact List.mem_cons_self | apply List.mem_cons_of_mem)) (b := _) (by with_reducible exact KE.out)).mono ?_; rintro e w2 ⟨rfl, rfl⟩))
  go_ret
  first | exact ⟨rfl, E.1⟩ | (refine ⟨ret_bool ?_, E.1⟩; simp; done) | (refine ⟨ret_bool ?_, E.1⟩; simp; omega)
set_option maxHeartbeats 4000000 in
theorem order_cng {A B C : Option Addr} {xs ys zs : List Nat} {c d f : Nat} {w : World} (m n N : Nat) (v : Int) (E0 : Env w w [(A, c, xs), (B, d, ys), (C, f, zs)])
    (HL : Hid (Calls Tryd.prog 11 #[.slice (some ⟨w.heap.size, 0, none⟩) 3 3] (w.alloc (.cells (slices [(A, xs.length, c), (B, ys.length, d), (C, zs.length, f)]) 23)) fun e w' => e = .returned (.bool false) ∧ Env w w' [(A, c, xs), (B, d, ys), (C, f, zs)]))
    (K1 : Hid (cmpS xs ys = 1)) (K2 : Hid (cmpS ys zs = 1)) (K3 : Hid (cmpS ys xs = -1)) (K4 : Hid (cmpS xs zs = v)) (KE : Hid (eqB xs ys = false)) (N1 : Hid (minOf (els xs) = (m, true))) (N2 : Hid (minOf (els ys) = (0, false)))
    (KL : Hid ((els xs).length = N)) (hN : 0 < N) (hN' : N ≤ 4096) :
    Calls Tryd.prog 10 #[.slice A xs.length c, .slice B ys.length d, .slice C zs.length f] w fun e w' => e = .returned (.bool true) ∧ Below w.heap.size w w' := by
  clear E0
  go_enter Tryd.func10, Tryd.ntmps10
  go_wp2_with (first
      | (go_at_call 11; refine HL.out.mono ?_; rintro e w1 ⟨rfl, E⟩)
      | (go_at_call 12; refine (awake_env E).mono ?_; rintro e w2 ⟨rfl, E⟩)
      | (go_at_call 37; refine (Compare_val E (by repeat (first | with_reducible exact List.mem_cons_self | apply List.mem_cons_of_mem)) (by repeat (first | with_reducible exact List.mem_cons_self | apply List.mem_cons_of_mem)) (v := _) (by first | with_reducible exact K1.out | with_reducible exact K2.out | with_reducible exact K3.out | with_reducible exact K4.out)).mono ?_; rintro e w2 ⟨rfl, E⟩)
      | (go_at_call 21; refine (Min_val E (by repeat (first | with_reducible exact List.mem_cons_self | apply List.mem_cons_of_mem)) (m := _) (p := _) (by first | with_reducible exact N1.out | with_reducible exact N2.out)).mono ?_; rintro e w2 ⟨rfl, E⟩)
      | (go_at_call 20; refine (Len_val E (by repeat (first | with_reducible exact List.mem_cons_self | apply List.mem_cons_of_mem)) KL.out).mono ?_; rintro e w2 ⟨rfl, rfl⟩)
      | (go_at_call 35; refine (Equal_env E (by repeat (first | with_reducible exact List.mem_cons_self | apply List.mem_cons_of_mem)) (by repeat (first | with_reducible exact List.mem_cons_self | apply List.mem_cons_of_mem)) (b := _) (by with_reducible exact KE.out)).mono ?_; rintro e w2 ⟨rfl, rfl⟩))
  go_ret
  first | exact ⟨rfl, E.1⟩ | (refine ⟨ret_bool ?_, E.1⟩; simp; done) | (refine ⟨ret_bool ?_, E.1⟩; simp; omega)
set_option maxHeartbeats 4000000 in
theorem order_ltl {A B C : Option Addr} {xs ys zs : List Nat} {c d f : Nat} {w : World} (m n N : Nat) (E0 : Env w w [(A, c, xs), (B, d, ys), (C, f, zs)])
    (HL : Hid (Calls Tryd.prog 11 #[.slice (some ⟨w.heap.size, 0, none⟩) 3 3] (w.alloc (.cells (slices [(A, xs.length, c), (B, ys.length, d), (C, zs.length, f)]) 23)) fun e w' => e = .returned (.bool false) ∧ Env w w' [(A, c, xs), (B, d, ys), (C, f, zs)]))
    (K1 : Hid (cmpS xs ys = -1)) (K2 : Hid (cmpS ys zs = -1)) (K3 : Hid (cmpS ys xs = 1)) (K4 : Hid (cmpS xs zs = -1)) (KE : Hid (eqB xs ys = false)) (N1 : Hid (minOf (els xs) = (m, true))) (N2 : Hid (minOf (els ys) = (n, true)))
    (KL : Hid ((els xs).length = N)) (hN : 0 < N) (hN' : N ≤ 4096) (hmn : (m : Int) < n) :
    Calls Tryd.prog 10 #[.slice A xs.length c, .slice B ys.length d, .slice C zs.length f] w fun e w' => e = .returned (.bool true) ∧ Below w.heap.size w w' := by
  clear E0
  go_enter Tryd.func10, Tryd.ntmps10
  go_wp2_with (first
      | (go_at_call 11; refine HL.out.mono ?_; rintro e w1 ⟨rfl, E⟩)
      | (go_at_call 12; refine (awake_env E).mono ?_; rintro e w2 ⟨rfl, E⟩)
      | (go_at_call 37; refine (Compare_val E (by repeat (first | with_reducible exact List.mem_cons_self | apply List.mem_cons_of_mem)) (by repeat (first | with_reducible exact List.mem_cons_self | apply List.mem_cons_of_mem)) (v := _) (by first | with_reducible exact K1.out | with_reducible exact K2.out | with_reducible exact K3.out | with_reducible exact K4.out)).mono ?_; rintro e w2 ⟨rfl, E⟩)
      | (go_at_call 21; refine (Min_val E (by repeat (first | with_reducible exact List.mem_cons_self | apply List.mem_cons_of_mem)) (m := _) (p := _) (by first | with_reducible exact N1.out | with_reducible exact N2.out)).mono ?_; rintro e w2 ⟨rfl, E⟩)
      | (go_at_call 20; refine (Len_val E (by repeat (first | with_reducible exact List.mem_cons_self | apply List.mem_cons_of_mem)) KL.out).mono ?_; rintro e w2 ⟨rfl, rfl⟩)
      | (go_at_call 35; refine (Equal_env E (by repeat (first | with_reducible exact List.mem_cons_self | apply List.mem_cons_of_mem)) (by repeat (first | with_reducible exact List.mem_cons_self | apply List.mem_cons_of_mem)) (b := _) (by with_reducible exact KE.out)).mono ?_; rintro e w2 ⟨rfl, rfl⟩))
  go_ret
  first | exact ⟨rfl, E.1⟩ | (refine ⟨ret_bool ?_, E.1⟩; simp; done) | (refine ⟨ret_bool ?_, E.1⟩; simp; omega)
set_option maxHeartbeats 4000000 in
theorem order_lte {A B C : Option Addr} {xs ys zs : List Nat} {c d f : Nat} {w : World} (m n N : Nat) (E0 : Env w w [(A, c, xs), (B, d, ys), (C, f, zs)])
    (HL : Hid (Calls Tryd.prog 11 #[.slice (some ⟨w.heap.size, 0, none⟩) 3 3] (w.alloc (.cells (slices [(A, xs.length, c), (B, ys.length, d), (C, zs.length, f)]) 23)) fun e w' => e = .returned (.bool false) ∧ Env w w' [(A, c, xs), (B, d, ys), (C, f, zs)]))
    (K1 : Hid (cmpS xs ys = -1)) (K2 : Hid (cmpS ys zs = 0)) (K3 : Hid (cmpS ys xs = 1)) (K4 : Hid (cmpS xs zs = -1)) (KE : Hid (eqB xs ys = false)) (N1 : Hid (minOf (els xs) = (m, true))) (N2 : Hid (minOf (els ys) = (n, true)))
    (KL : Hid ((els xs).length = N)) (hN : 0 < N) (hN' : N ≤ 4096) (hmn : (m : Int) < n) :
    Calls Tryd.prog 10 #[.slice A xs.length c, .slice B ys.length d, .slice C zs.length f] w fun e w' => e = .returned (.bool true) ∧ Below w.heap.size w w' := by
  clear E0
  go_enter Tryd.func10, Tryd.ntmps10
  go_wp2_with (first
      | (go_at_call 11; refine HL.out.mono ?_; rintro e w1 ⟨rfl, E⟩)
      | (go_at_call 12; refine (awake_env E).mono ?_; rintro e w2 ⟨rfl, E⟩)
      | (go_at_call 37; refine (Compare_val E (by repeat (first | with_reducible exact List.mem_cons_self | apply List.mem_cons_of_mem)) (by repeat (first | with_reducible exact List.mem_cons_self | apply List.mem_cons_of_mem)) (v := _) (by first | with_reducible exact K1.out | with_reducible exact K2.out | with_reducible exact K3.out | with_reducible exact K4.out)).mono ?_; rintro e w2 ⟨rfl, E⟩)
      | (go_at_call 21; refine (Min_val E (by repeat (first | with_reducible exact List.mem_cons_self | apply List.mem_cons_of_mem)) (m := _) (p := _) (by first | with_reducible exact N1.out | with_reducible exact N2.out)).mono ?_; rintro e w2 ⟨rfl, E⟩)
      | (go_at_call 20; refine (Len_val E (by repeat (first | with_reducible exact List.mem_cons_self | apply List.mem_cons_of_mem)) KL.out).mono ?_; rintro e w2 ⟨rfl, rfl⟩)
      | (go_at_call 35; refine (Equal_env E (by repeat (first | with_reducible exact List.mem_cons_self | apply List.mem_cons_of_mem)) (by repeat (first | with_reducible exact List.mem_cons_self | apply List.mem_cons_of_mem)) (b := _) (by with_reducible exact KE.out)).mono ?_; rintro e w2 ⟨rfl, rfl⟩))
  go_ret
  first | exact ⟨rfl, E.1⟩ | (refine ⟨ret_bool ?_, E.1⟩; simp; done) | (refine ⟨ret_bool ?_, E.1⟩; simp; omega)
set_option maxHeartbeats 4000000 in
theorem order_ltg {A B C : Option Addr} {xs ys zs : List Nat} {c d f : Nat} {w : World} (m n N : Nat) (v : Int) (E0 : Env w w [(A, c, xs), (B, d, ys), (C, f, zs)])
    (HL : Hid (Calls Tryd.prog 11 #[.slice (some ⟨w.heap.size, 0, none⟩) 3 3] (w.alloc (.cells (slices [(A, xs.length, c), (B, ys.length, d), (C, zs.length, f)]) 23)) fun e w' => e = .returned (.bool false) ∧ Env w w' [(A, c, xs), (B, d, ys), (C, f, zs)]))
    (K1 : Hid (cmpS xs ys = -1)) (K2 : Hid (cmpS ys zs = 1)) (K3 : Hid (cmpS ys xs = 1)) (K4 : Hid (cmpS xs zs = v)) (KE : Hid (eqB xs ys = false)) (N1 : Hid (minOf (els xs) = (m, true))) (N2 : Hid (minOf (els ys) = (n, true)))
    (KL : Hid ((els xs).length = N)) (hN : 0 < N) (hN' : N ≤ 4096) (hmn : (m : Int) < n) :
    Calls Tryd.prog 10 #[.slice A xs.length c, .slice B ys.length d, .slice C zs.length f] w fun e w' => e = .returned (.bool true) ∧ Below w.heap.size w w' := by
  clear E0
  go_enter Tryd.func10, Tryd.ntmps10
  go_wp2_with (first
      | (go_at_call 11; refine HL.out.mono ?_; rintro e w1 ⟨rfl, E⟩)
      | (go_at_call 12; refine (awake_env E).mono ?_; rintro e w2 ⟨rfl, E⟩)
      | (go_at_call 37; refine (Compare_val E (by repeat (first | with_reducible exact List.mem_cons_self | apply List.mem_cons_of_mem)) (by repeat (first | with_reducible exact List.mem_cons_self | apply List.mem_cons_of_mem)) (v := _) (by first | with_reducible exact K1.out | with_reducible exact K2.out | with_reducible exact K3.out | with_reducible exact K4.out)).mono ?_; rintro e w2 ⟨rfl, E⟩)
      | (go_at_call 21; refine (Min_val E (by repeat (first | with_reducible exact List.mem_cons_self | apply List.mem_cons_of_mem)) (m := _) (p := _) (by first | with_reducible exact N1.out | with_reducible exact N2.out)).mono ?_; rintro e w2 ⟨rfl, E⟩)
      | (go_at_call 20; refine (Len_val E (by repeat (first | with_reducible exact List.mem_cons_self | apply List.mem_cons_of_mem)) KL.out).mono ?_; rintro e w2 ⟨rfl, rfl⟩)
      | (go_at_call 35; refine (Equal_env E (by repeat (first | with_reducible exact List.mem_cons_self | apply List.mem_cons_of_mem)) (by repeat (first | with_reducible exact List.mem_cons_self | apply List.mem_cons_of_mem)) (b := _) (by with_reducible exact KE.out)).mono ?_; rintro e w2 ⟨rfl, rfl⟩))
  go_ret
  first | exact ⟨rfl, E.1⟩ | (refine ⟨ret_bool ?_, E.1⟩; simp; done) | (refine ⟨ret_bool ?_, E.1⟩; simp; omega)
set_option maxHeartbeats 4000000 in
theorem order_gtl {A B C : Option Addr} {xs ys zs : List Nat} {c d f : Nat} {w : World} (m n N : Nat) (v : Int) (E0 : Env w w [(A, c, xs), (B, d, ys), (C, f, zs)])
    (HL : Hid (Calls Tryd.prog 11 #[.slice (some ⟨w.heap.size, 0, none⟩) 3 3] (w.alloc (.cells (slices [(A, xs.length, c), (B, ys.length, d), (C, zs.length, f)]) 23)) fun e w' => e = .returned (.bool false) ∧ Env w w' [(A, c, xs), (B, d, ys), (C, f, zs)]))
    (K1 : Hid (cmpS xs ys = 1)) (K2 : Hid (cmpS ys zs = -1)) (K3 : Hid (cmpS ys xs = -1)) (K4 : Hid (cmpS xs zs = v)) (KE : Hid (eqB xs ys = false)) (N1 : Hid (minOf (els xs) = (m, true))) (N2 : Hid (minOf (els ys) = (n, true)))
    (KL : Hid ((els xs).length = N)) (hN : 0 < N) (hN' : N ≤ 4096) (hmn : (n : Int) < m) :
    Calls Tryd.prog 10 #[.slice A xs.length c, .slice B ys.length d, .slice C zs.length f] w fun e w' => e = .returned (.bool true) ∧ Below w.heap.size w w' := by
  clear E0
  go_enter Tryd.func10, Tryd.ntmps10
  go_wp2_with (first
      | (go_at_call 11; refine HL.out.mono ?_; rintro e w1 ⟨rfl, E⟩)
      | (go_at_call 12; refine (awake_env E).mono ?_; rintro e w2 ⟨rfl, E⟩)
      | (go_at_call 37; refine (Compare_val E (by repeat (first | with_reducible exact List.mem_cons_self | apply List.mem_cons_of_mem)) (by repeat (first | with_reducible exact List.mem_cons_self | apply List.mem_cons_of_mem)) (v := _) (by first | with_reducible exact K1.out | with_reducible exact K2.out | with_reducible exact K3.out | with_reducible exact K4.out)).mono ?_; rintro e w2 ⟨rfl, E⟩)
      | (go_at_call 21; refine (Min_val E (by repeat (first | with_reducible exact List.mem_cons_self | apply List.mem_cons_of_mem)) (m := _) (p := _) (by first | with_reducible exact N1.out | with_reducible exact N2.out)).mono ?_; rintro e w2 ⟨rfl, E⟩)
      | (go_at_call 20; refine (Len_val E (by repeat (first | with_reducible exact List.mem_cons_self | apply List.mem_cons_of_mem)) KL.out).mono ?_; rintro e w2 ⟨rfl, rfl⟩)
      | (go_at_call 35; refine (Equal_env E (by repeat (first | with_reducible exact List.mem_cons_self | apply List.mem_cons_of_mem)) (by repeat (first | with_reducible exact List.mem_cons_self | apply List.mem_cons_of_mem)) (b := _) (by with_reducible exact KE.out)).mono ?_; rintro e w2 ⟨rfl, rfl⟩))
  go_ret
  first | exact ⟨rfl, E.1⟩ | (refine ⟨ret_bool ?_, E.1⟩; simp; done) | (refine ⟨ret_bool ?_, E.1⟩; simp; omega)
set_option maxHeartbeats 4000000 in
theorem order_gte {A B C : Option Addr} {xs ys zs : List Nat} {c d f : Nat} {w : World} (m n N : Nat) (v : Int) (E0 : Env w w [(A, c, xs), (B, d, ys), (C, f, zs)])
    (HL : Hid (Calls Tryd.prog 11 #[.slice (some ⟨w.heap.size, 0, none⟩) 3 3] (w.alloc (.cells (slices [(A, xs.length, c), (B, ys.length, d), (C, zs.length, f)]) 23)) fun e w' => e = .returned (.bool false) ∧ Env w w' [(A, c, xs), (B, d, ys), (C, f, zs)]))
    (K1 : Hid (cmpS xs ys = 1)) (K2 : Hid (cmpS ys zs = 0)) (K3 : Hid (cmpS ys xs = -1)) (K4 : Hid (cmpS xs zs = v)) (KE : Hid (eqB xs ys = false)) (N1 : Hid (minOf (els xs) = (m, true))) (N2 : Hid (minOf (els ys) = (n, true)))
    (KL : Hid ((els xs).length = N)) (hN : 0 < N) (hN' : N ≤ 4096) (hmn : (n : Int) < m) :
    Calls Tryd.prog 10 #[.slice A xs.length c, .slice B ys.length d, .slice C zs.length f] w fun e w' => e = .returned (.bool true) ∧ Below w.heap.size w w' := by
  clear E0
  go_enter Tryd.func10, Tryd.ntmps10
  go_wp2_with (first
      | (go_at_call 11; refine HL.out.mono ?_; rintro e w1 ⟨rfl, E⟩)
      | (go_at_call 12; refine (awake_env E).mono ?_; rintro e w2 ⟨rfl, E⟩)
      | (go_at_call 37; refine (Compare_val E (by repeat (first | with_reducible exact List.mem_cons_self | apply List.mem_cons_of_mem)) (by repeat (first | with_reducible exact List.mem_cons_self | apply List.mem_cons_of_mem)) (v := _) (by first | with_reducible exact K1.out | with_reducible exact K2.out | with_reducible exact K3.out | with_reducible exact K4.out)).mono ?_; rintro e w2 ⟨rfl, E⟩)
      | (go_at_call 21; refine (Min_val E (by repeat (first | with_reducible exact List.mem_cons_self | apply List.mem_cons_of_mem)) (m := _) (p := _) (by first | with_reducible exact N1.out | with_reducible exact N2.out)).mono ?_; rintro e w2 ⟨rfl, E⟩)
      | (go_at_call 20; refine (Len_val E (by repeat (first | with_reducible exact List.mem_cons_self | apply List.mem_cons_of_mem)) KL.out).mono ?_; rintro e w2 ⟨rfl, rfl⟩)
      | (go_at_call 35; refine (Equal_env E (by repeat (first | with_reducible exact List.mem_cons_self | apply List.mem_cons_of_mem)) (by repeat (first | with_reducible exact List.mem_cons_self | apply List.mem_cons_of_mem)) (b := _) (by with_reducible exact KE.out)).mono ?_; rintro e w2 ⟨rfl, rfl⟩))
  go_ret
  first | exact ⟨rfl, E.1⟩ | (refine ⟨ret_bool ?_, E.1⟩; simp; done) | (refine ⟨ret_bool ?_, E.1⟩; simp; omega)
set_option maxHeartbeats 4000000 in
theorem order_gtg {A B C : Option Addr} {xs ys zs : List Nat} {c d f : Nat} {w : World} (m n N : Nat) (v : Int) (E0 : Env w w [(A, c, xs), (B, d, ys), (C, f, zs)])
    (HL : Hid (Calls Tryd.prog 11 #[.slice (some ⟨w.heap.size, 0, none⟩) 3 3] (w.alloc (.cells (slices [(A, xs.length, c), (B, ys.length, d), (C, zs.length, f)]) 23)) fun e w' => e = .returned (.bool false) ∧ Env w w' [(A, c, xs), (B, d, ys), (C, f, zs)]))
    (K1 : Hid (cmpS xs ys = 1)) (K2 : Hid (cmpS ys zs = 1)) (K3 : Hid (cmpS ys xs = -1)) (K4 : Hid (cmpS xs zs = v)) (KE : Hid (eqB xs ys = false)) (N1 : Hid (minOf (els xs) = (m, true))) (N2 : Hid (minOf (els ys) = (n, true)))
    (KL : Hid ((els xs).length = N)) (hN : 0 < N) (hN' : N ≤ 4096) (hmn : (n : Int) < m) :
    Calls Tryd.prog 10 #[.slice A xs.length c, .slice B ys.length d, .slice C zs.length f] w fun e w' => e = .returned (.bool true) ∧ Below w.heap.size w w' := by
  clear E0
  go_enter Tryd.func10, Tryd.ntmps10
  go_wp2_with (first
      | (go_at_call 11; refine HL.out.mono ?_; rintro e w1 ⟨rfl, E⟩)
      | (go_at_call 12; refine (awake_env E).mono ?_; rintro e w2 ⟨rfl, E⟩)
      | (go_at_call 37; refine (Compare_val E (by repeat (first | with_reducible exact List.mem_cons_self | apply List.mem_cons_of_mem)) (by repeat (first | with_reducible exact List.mem_cons_self | apply List.mem_cons_of_mem)) (v := _) (by first | with_reducible exact K1.out | with_reducible exact K2.out | with_reducible exact K3.out | with_reducible exact K4.out)).mono ?_; rintro e w2 ⟨rfl, E⟩)
      | (go_at_call 21; refine (Min_val E (by repeat (first | with_reducible exact List.mem_cons_self | apply List.mem_cons_of_mem)) (m := _) (p := _) (by first | with_reducible exact N1.out | with_reducible exact N2.out)).mono ?_; rintro e w2 ⟨rfl, E⟩)
      | (go_at_call 20; refine (Len_val E (by repeat (first | with_reducible exact List.mem_cons_self | apply List.mem_cons_of_mem)) KL.out).mono ?_; rintro e w2 ⟨rfl, rfl⟩)
      | (go_at_call 35; refine (Equal_env E (by repeat (first | with_reducible exact List.mem_cons_self | apply List.mem_cons_of_mem)) (by repeat (first | with_reducible exact List.mem_cons_self | apply List.mem_cons_of_mem)) (b := _) (by with_reducible exact KE.out)).mono ?_; rintro e w2 ⟨rfl, rfl⟩))
  go_ret
  first | exact ⟨rfl, E.1⟩ | (refine ⟨ret_bool ?_, E.1⟩; simp; done) | (refine ⟨ret_bool ?_, E.1⟩; simp; omega)
set_option maxHeartbeats 4000000 in
theorem order_ell {A B C : Option Addr} {xs ys zs : List Nat} {c d f : Nat} {w : World} (m n N : Nat) (E0 : Env w w [(A, c, xs), (B, d, ys), (C, f, zs)])
    (HL : Hid (Calls Tryd.prog 11 #[.slice (some ⟨w.heap.size, 0, none⟩) 3 3] (w.alloc (.cells (slices [(A, xs.length, c), (B, ys.length, d), (C, zs.length, f)]) 23)) fun e w' => e = .returned (.bool false) ∧ Env w w' [(A, c, xs), (B, d, ys), (C, f, zs)]))
    (K1 : Hid (cmpS xs ys = -1)) (K2 : Hid (cmpS ys zs = -1)) (K3 : Hid (cmpS ys xs = 1)) (K4 : Hid (cmpS xs zs = -1)) (KE : Hid (eqB xs ys = false)) (N1 : Hid (minOf (els xs) = (m, true))) (N2 : Hid (minOf (els ys) = (n, true)))
    (KL : Hid ((els xs).length = N)) (hN : 0 < N) (hN' : N ≤ 4096) (hmn : m = n) :
    Calls Tryd.prog 10 #[.slice A xs.length c, .slice B ys.length d, .slice C zs.length f] w fun e w' => e = .returned (.bool true) ∧ Below w.heap.size w w' := by
  clear E0
  subst hmn
  go_enter Tryd.func10, Tryd.ntmps10
  go_wp2_with (first
      | (go_at_call 11; refine HL.out.mono ?_; rintro e w1 ⟨rfl, E⟩)
      | (go_at_call 12; refine (awake_env E).mono ?_; rintro e w2 ⟨rfl, E⟩)
      | (go_at_call 37; refine (Compare_val E (by repeat (first | with_reducible exact List.mem_cons_self | apply List.mem_cons_of_mem)) (by repeat (first | with_reducible exact List.mem_cons_self | apply List.mem_cons_of_mem)) (v := _) (by first | with_reducible exact K1.out | with_reducible exact K2.out | with_reducible exact K3.out | with_reducible exact K4.out)).mono ?_; rintro e w2 ⟨rfl, E⟩)
      | (go_at_call 21; refine (Min_val E (by repeat (first | with_reducible exact List.mem_cons_self | apply List.mem_cons_of_mem)) (m := _) (p := _) (by first | with_reducible exact N1.out | with_reducible exact N2.out)).mono ?_; rintro e w2 ⟨rfl, E⟩)
      | (go_at_call 20; refine (Len_val E (by repeat (first | with_reducible exact List.mem_cons_self | apply List.mem_cons_of_mem)) KL.out).mono ?_; rintro e w2 ⟨rfl, rfl⟩)
      | (go_at_call 35; refine (Equal_env E (by repeat (first | with_reducible exact List.mem_cons_self | apply List.mem_cons_of_mem)) (by repeat (first | with_reducible exact List.mem_cons_self | apply List.mem_cons_of_mem)) (b := _) (by with_reducible exact KE.out)).mono ?_; rintro e w2 ⟨rfl, rfl⟩))
  go_ret
  first | exact ⟨rfl, E.1⟩ | (refine ⟨ret_bool ?_, E.1⟩; simp; done) | (refine ⟨ret_bool ?_, E.1⟩; simp; omega)
set_option maxHeartbeats 4000000 in
theorem order_ele {A B C : Option Addr} {xs ys zs : List Nat} {c d f : Nat} {w : World} (m n N : Nat) (E0 : Env w w [(A, c, xs), (B, d, ys), (C, f, zs)])
    (HL : Hid (Calls Tryd.prog 11 #[.slice (some ⟨w.heap.size, 0, none⟩) 3 3] (w.alloc (.cells (slices [(A, xs.length, c), (B, ys.length, d), (C, zs.length, f)]) 23)) fun e w' => e = .returned (.bool false) ∧ Env w w' [(A, c, xs), (B, d, ys), (C, f, zs)]))
    (K1 : Hid (cmpS xs ys = -1)) (K2 : Hid (cmpS ys zs = 0)) (K3 : Hid (cmpS ys xs = 1)) (K4 : Hid (cmpS xs zs = -1)) (KE : Hid (eqB xs ys = false)) (N1 : Hid (minOf (els xs) = (m, true))) (N2 : Hid (minOf (els ys) = (n, true)))
    (KL : Hid ((els xs).length = N)) (hN : 0 < N) (hN' : N ≤ 4096) (hmn : m = n) :
    Calls Tryd.prog 10 #[.slice A xs.length c, .slice B ys.length d, .slice C zs.length f] w fun e w' => e = .returned (.bool true) ∧ Below w.heap.size w w' := by
  clear E0
  subst hmn
  go_enter Tryd.func10, Tryd.ntmps10
  go_wp2_with (first
      | (go_at_call 11; refine HL.out.mono ?_; rintro e w1 ⟨rfl, E⟩)
      | (go_at_call 12; refine (awake_env E).mono ?_; rintro e w2 ⟨rfl, E⟩)
      | (go_at_call 37; refine (Compare_val E (by repeat (first | with_reducible exact List.mem_cons_self | apply List.mem_cons_of_mem)) (by repeat (first | with_reducible exact List.mem_cons_self | apply List.mem_cons_of_mem)) (v := _) (by first | with_reducible exact K1.out | with_reducible exact K2.out | with_reducible exact K3.out | with_reducible exact K4.out)).mono ?_; rintro e w2 ⟨rfl, E⟩)
      | (go_at_call 21; refine (Min_val E (by repeat (first | with_reducible exact List.mem_cons_self | apply List.mem_cons_of_mem)) (m := _) (p := _) (by first | with_reducible exact N1.out | with_reducible exact N2.out)).mono ?_; rintro e w2 ⟨rfl, E⟩)
      | (go_at_call 20; refine (Len_val E (by repeat (first | with_reducible exact List.mem_cons_self | apply List.mem_cons_of_mem)) KL.out).mono ?_; rintro e w2 ⟨rfl, rfl⟩)
      | (go_at_call 35; refine (Equal_env E (by repeat (first | with_reducible exact List.mem_cons_self | apply List.mem_cons_of_mem)) (by repeat (first | with_reducible exact List.mem_cons_self | apply List.mem_cons_of_mem)) (b := _) (by with_reducible exact KE.out)).mono ?_; rintro e w2 ⟨rfl, rfl⟩))
  go_ret
  first | exact ⟨rfl, E.1⟩ | (refine ⟨ret_bool ?_, E.1⟩; simp; done) | (refine ⟨ret_bool ?_, E.1⟩; simp; omega)
set_option maxHeartbeats 4000000 in
theorem order_elg {A B C : Option Addr} {xs ys zs : List Nat} {c d f : Nat} {w : World} (m n N : Nat) (v : Int) (E0 : Env w w [(A, c, xs), (B, d, ys), (C, f, zs)])
    (HL : Hid (Calls Tryd.prog 11 #[.slice (some ⟨w.heap.size, 0, none⟩) 3 3] (w.alloc (.cells (slices [(A, xs.length, c), (B, ys.length, d), (C, zs.length, f)]) 23)) fun e w' => e = .returned (.bool false) ∧ Env w w' [(A, c, xs), (B, d, ys), (C, f, zs)]))
    (K1 : Hid (cmpS xs ys = -1)) (K2 : Hid (cmpS ys zs = 1)) (K3 : Hid (cmpS ys xs = 1)) (K4 : Hid (cmpS xs zs = v)) (KE : Hid (eqB xs ys = false)) (N1 : Hid (minOf (els xs) = (m, true))) (N2 : Hid (minOf (els ys) = (n, true)))
    (KL : Hid ((els xs).length = N)) (hN : 0 < N) (hN' : N ≤ 4096) (hmn : m = n) :
    Calls Tryd.prog 10 #[.slice A xs.length c, .slice B ys.length d, .slice C zs.length f] w fun e w' => e = .returned (.bool true) ∧ Below w.heap.size w w' := by
  clear E0
  subst hmn
  go_enter Tryd.func10, Tryd.ntmps10
  go_wp2_with (first
      | (go_at_call 11; refine HL.out.mono ?_; rintro e w1 ⟨rfl, E⟩)
      | (go_at_call 12; refine (awake_env E).mono ?_; rintro e w2 ⟨rfl, E⟩)
      | (go_at_call 37; refine (Compare_val E (by repeat (first | with_reducible exact List.mem_cons_self | apply List.mem_cons_of_mem)) (by repeat (first | with_reducible exact List.mem_cons_self | apply List.mem_cons_of_mem)) (v := _) (by first | with_reducible exact K1.out | with_reducible exact K2.out | with_reducible exact K3.out | with_reducible exact K4.out)).mono ?_; rintro e w2 ⟨rfl, E⟩)
      | (go_at_call 21; refine (Min_val E (by repeat (first | with_reducible exact List.mem_cons_self | apply List.mem_cons_of_mem)) (m := _) (p := _) (by first | with_reducible exact N1.out | with_reducible exact N2.out)).mono ?_; rintro e w2 ⟨rfl, E⟩)
      | (go_at_call 20; refine (Len_val E (by repeat (first | with_reducible exact List.mem_cons_self | apply List.mem_cons_of_mem)) KL.out).mono ?_; rintro e w2 ⟨rfl, rfl⟩)
      | (go_at_call 35; refine (Equal_env E (by repeat (first | with_reducible exact List.mem_cons_self | apply List.mem_cons_of_mem)) (by repeat (first | with_reducible exact List.mem_cons_self | apply List.mem_cons_of_mem)) (b := _) (by with_reducible exact KE.out)).mono ?_; rintro e w2 ⟨rfl, rfl⟩))
  go_ret
  first | exact ⟨rfl, E.1⟩ | (refine ⟨ret_bool ?_, E.1⟩; simp; done) | (refine ⟨ret_bool ?_, E.1⟩; simp; omega)
set_option maxHeartbeats 4000000 in
theorem order_eel {A B C : Option Addr} {xs ys zs : List Nat} {c d f : Nat} {w : World} (m n N : Nat) (E0 : Env w w [(A, c, xs), (B, d, ys), (C, f, zs)])
    (HL : Hid (Calls Tryd.prog 11 #[.slice (some ⟨w.heap.size, 0, none⟩) 3 3] (w.alloc (.cells (slices [(A, xs.length, c), (B, ys.length, d), (C, zs.length, f)]) 23)) fun e w' => e = .returned (.bool false) ∧ Env w w' [(A, c, xs), (B, d, ys), (C, f, zs)]))
    (K1 : Hid (cmpS xs ys = 0)) (K2 : Hid (cmpS ys zs = -1)) (K3 : Hid (cmpS ys xs = 0)) (K4 : Hid (cmpS xs zs = -1)) (KE : Hid (eqB xs ys = true)) (N1 : Hid (minOf (els xs) = (m, true))) (N2 : Hid (minOf (els ys) = (n, true)))
    (KL : Hid ((els xs).length = N)) (hN : 0 < N) (hN' : N ≤ 4096) (hmn : m = n) :
    Calls Tryd.prog 10 #[.slice A xs.length c, .slice B ys.length d, .slice C zs.length f] w fun e w' => e = .returned (.bool true) ∧ Below w.heap.size w w' := by
  clear E0
  subst hmn
  go_enter Tryd.func10, Tryd.ntmps10
  go_wp2_with (first
      | (go_at_call 11; refine HL.out.mono ?_; rintro e w1 ⟨rfl, E⟩)
      | (go_at_call 12; refine (awake_env E).mono ?_; rintro e w2 ⟨rfl, E⟩)
      | (go_at_call 37; refine (Compare_val E (by repeat (first | with_reducible exact List.mem_cons_self | apply List.mem_cons_of_mem)) (by repeat (first | with_reducible exact List.mem_cons_self | apply List.mem_cons_of_mem)) (v := _) (by first | with_reducible exact K1.out | with_reducible exact K2.out | with_reducible exact K3.out | with_reducible exact K4.out)).mono ?_; rintro e w2 ⟨rfl, E⟩)
      | (go_at_call 21; refine (Min_val E (by repeat (first | with_reducible exact List.mem_cons_self | apply List.mem_cons_of_mem)) (m := _) (p := _) (by first | with_reducible exact N1.out | with_reducible exact N2.out)).mono ?_; rintro e w2 ⟨rfl, E⟩)
      | (go_at_call 20; refine (Len_val E (by repeat (first | with_reducible exact List.mem_cons_self | apply List.mem_cons_of_mem)) KL.out).mono ?_; rintro e w2 ⟨rfl, rfl⟩)
      | (go_at_call 35; refine (Equal_env E (by repeat (first | with_reducible exact List.mem_cons_self | apply List.mem_cons_of_mem)) (by repeat (first | with_reducible exact List.mem_cons_self | apply List.mem_cons_of_mem)) (b := _) (by with_reducible exact KE.out)).mono ?_; rintro e w2 ⟨rfl, rfl⟩))
  go_ret
  first | exact ⟨rfl, E.1⟩ | (refine ⟨ret_bool ?_, E.1⟩; simp; done) | (refine ⟨ret_bool ?_, E.1⟩; simp; omega)
set_option maxHeartbeats 4000000 in
theorem order_eee {A B C : Option Addr} {xs ys zs : List Nat} {c d f : Nat} {w : World} (m n N : Nat) (E0 : Env w w [(A, c, xs), (B, d, ys), (C, f, zs)])
    (HL : Hid (Calls Tryd.prog 11 #[.slice (some ⟨w.heap.size, 0, none⟩) 3 3] (w.alloc (.cells (slices [(A, xs.length, c), (B, ys.length, d), (C, zs.length, f)]) 23)) fun e w' => e = .returned (.bool false) ∧ Env w w' [(A, c, xs), (B, d, ys), (C, f, zs)]))
    (K1 : Hid (cmpS xs ys = 0)) (K2 : Hid (cmpS ys zs = 0)) (K3 : Hid (cmpS ys xs = 0)) (K4 : Hid (cmpS xs zs = 0)) (KE : Hid (eqB xs ys = true)) (N1 : Hid (minOf (els xs) = (m, true))) (N2 : Hid (minOf (els ys) = (n, true)))
    (KL : Hid ((els xs).length = N)) (hN : 0 < N) (hN' : N ≤ 4096) (hmn : m = n) :
    Calls Tryd.prog 10 #[.slice A xs.length c, .slice B ys.length d, .slice C zs.length f] w fun e w' => e = .returned (.bool true) ∧ Below w.heap.size w w' := by
  clear E0
  subst hmn
  go_enter Tryd.func10, Tryd.ntmps10
  go_wp2_with (first
      | (go_at_call 11; refine HL.out.mono ?_; rintro e w1 ⟨rfl, E⟩)
      | (go_at_call 12; refine (awake_env E).mono ?_; rintro e w2 ⟨rfl, E⟩)
      | (go_at_call 37; refine (Compare_val E (by repeat (first | with_reducible exact List.mem_cons_self | apply List.mem_cons_of_mem)) (by repeat (first | with_reducible exact List.mem_cons_self | apply List.mem_cons_of_mem)) (v := _) (by first | with_reducible exact K1.out | with_reducible exact K2.out | with_reducible exact K3.out | with_reducible exact K4.out)).mono ?_; rintro e w2 ⟨rfl, E⟩)
      | (go_at_call 21; refine (Min_val E (by repeat (first | with_reducible exact List.mem_cons_self | apply List.mem_cons_of_mem)) (m := _) (p := _) (by first | with_reducible exact N1.out | with_reducible exact N2.out)).mono ?_; rintro e w2 ⟨rfl, E⟩)
      | (go_at_call 20; refine (Len_val E (by repeat (first | with_reducible exact List.mem_cons_self | apply List.mem_cons_of_mem)) KL.out).mono ?_; rintro e w2 ⟨rfl, rfl⟩)
      | (go_at_call 35; refine (Equal_env E (by repeat (first | with_reducible exact List.mem_cons_self | apply List.mem_cons_of_mem)) (by repeat (first | with_reducible exact List.mem_cons_self | apply List.mem_cons_of_mem)) (b := _) (by with_reducible exact KE.out)).mono ?_; rintro e w2 ⟨rfl, rfl⟩))
  go_ret
  first | exact ⟨rfl, E.1⟩ | (refine ⟨ret_bool ?_, E.1⟩; simp; done) | (refine ⟨ret_bool ?_, E.1⟩; simp; omega)
set_option maxHeartbeats 4000000 in
theorem order_eeg {A B C : Option Addr} {xs ys zs : List Nat} {c d f : Nat} {w : World} (m n N : Nat) (v : Int) (E0 : Env w w [(A, c, xs), (B, d, ys), (C, f, zs)])
    (HL : Hid (Calls Tryd.prog 11 #[.slice (some ⟨w.heap.size, 0, none⟩) 3 3] (w.alloc (.cells (slices [(A, xs.length, c), (B, ys.length, d), (C, zs.length, f)]) 23)) fun e w' => e = .returned (.bool false) ∧ Env w w' [(A, c, xs), (B, d, ys), (C, f, zs)]))
    (K1 : Hid (cmpS xs ys = 0)) (K2 : Hid (cmpS ys zs = 1)) (K3 : Hid (cmpS ys xs = 0)) (K4 : Hid (cmpS xs zs = v)) (KE : Hid (eqB xs ys = true)) (N1 : Hid (minOf (els xs) = (m, true))) (N2 : Hid (minOf (els ys) = (n, true)))
    (KL : Hid ((els xs).length = N)) (hN : 0 < N) (hN' : N ≤ 4096) (hmn : m = n) :
    Calls Tryd.prog 10 #[.slice A xs.length c, .slice B ys.length d, .slice C zs.length f] w fun e w' => e = .returned (.bool true) ∧ Below w.heap.size w w' := by
  clear E0
  subst hmn
  go_enter Tryd.func10, Tryd.ntmps10
  go_wp2_with (first
      | (go_at_call 11; refine HL.out.mono ?_; rintro e w1 ⟨rfl, E⟩)
      | (go_at_call 12; refine (awake_env E).mono ?_; rintro e w2 ⟨rfl, E⟩)
      | (go_at_call 37; refine (Compare_val E (by repeat (first | with_reducible exact List.mem_cons_self | apply List.mem_cons_of_mem)) (by repeat (first | with_reducible exact List.mem_cons_self | apply List.mem_cons_of_mem)) (v := _) (by first | with_reducible exact K1.out | with_reducible exact K2.out | with_reducible exact K3.out | with_reducible exact K4.out)).mono ?_; rintro e w2 ⟨rfl, E⟩)
      | (go_at_call 21; refine (Min_val E (by repeat (first | with_reducible exact List.mem_cons_self | apply List.mem_cons_of_mem)) (m := _) (p := _) (by first | with_reducible exact N1.out | with_reducible exact N2.out)).mono ?_; rintro e w2 ⟨rfl, E⟩)
      | (go_at_call 20; refine (Len_val E (by repeat (first | with_reducible exact List.mem_cons_self | apply List.mem_cons_of_mem)) KL.out).mono ?_; rintro e w2 ⟨rfl, rfl⟩)
      | (go_at_call 35; refine (Equal_env E (by repeat (first | with_reducible exact List.mem_cons_self | apply List.mem_cons_of_mem)) (by repeat (first | with_reducible exact List.mem_cons_self | apply List.mem_cons_of_mem)) (b := _) (by with_reducible exact KE.out)).mono ?_; rintro e w2 ⟨rfl, rfl⟩))
  go_ret
  first | exact ⟨rfl, E.1⟩ | (refine ⟨ret_bool ?_, E.1⟩; simp; done) | (refine ⟨ret_bool ?_, E.1⟩; simp; omega)
set_option maxHeartbeats 4000000 in
theorem order_egl {A B C : Option Addr} {xs ys zs : List Nat} {c d f : Nat} {w : World} (m n N : Nat) (v : Int) (E0 : Env w w [(A, c, xs), (B, d, ys), (C, f, zs)])
    (HL : Hid (Calls Tryd.prog 11 #[.slice (some ⟨w.heap.size, 0, none⟩) 3 3] (w.alloc (.cells (slices [(A, xs.length, c), (B, ys.length, d), (C, zs.length, f)]) 23)) fun e w' => e = .returned (.bool false) ∧ Env w w' [(A, c, xs), (B, d, ys), (C, f, zs)]))
    (K1 : Hid (cmpS xs ys = 1)) (K2 : Hid (cmpS ys zs = -1)) (K3 : Hid (cmpS ys xs = -1)) (K4 : Hid (cmpS xs zs = v)) (KE : Hid (eqB xs ys = false)) (N1 : Hid (minOf (els xs) = (m, true))) (N2 : Hid (minOf (els ys) = (n, true)))
    (KL : Hid ((els xs).length = N)) (hN : 0 < N) (hN' : N ≤ 4096) (hmn : m = n) :
    Calls Tryd.prog 10 #[.slice A xs.length c, .slice B ys.length d, .slice C zs.length f] w fun e w' => e = .returned (.bool true) ∧ Below w.heap.size w w' := by
  clear E0
  subst hmn
  go_enter Tryd.func10, Tryd.ntmps10
  go_wp2_with (first
      | (go_at_call 11; refine HL.out.mono ?_; rintro e w1 ⟨rfl, E⟩)
      | (go_at_call 12; refine (awake_env E).mono ?_; rintro e w2 ⟨rfl, E⟩)
      | (go_at_call 37; refine (Compare_val E (by repeat (first | with_reducible exact List.mem_cons_self | apply List.mem_cons_of_mem)) (by repeat (first | with_reducible exact List.mem_cons_self | apply List.mem_cons_of_mem)) (v := _) (by first | with_reducible exact K1.out | with_reducible exact K2.out | with_reducible exact K3.out | with_reducible exact K4.out)).mono ?_; rintro e w2 ⟨rfl, E⟩)
      | (go_at_call 21; refine (Min_val E (by repeat (first | with_reducible exact List.mem_cons_self | apply List.mem_cons_of_mem)) (m := _) (p := _) (by first | with_reducible exact N1.out | with_reducible exact N2.out)).mono ?_; rintro e w2 ⟨rfl, E⟩)
      | (go_at_call 20; refine (Len_val E (by repeat (first | with_reducible exact List.mem_cons_self | apply List.mem_cons_of_mem)) KL.out).mono ?_; rintro e w2 ⟨rfl, rfl⟩)
      | (go_at_call 35; refine (Equal_env E (by repeat (first | with_reducible exact List.mem_cons_self | apply List.mem_cons_of_mem)) (by repeat (first | with_reducible exact List.mem_cons_self | apply List.mem_cons_of_mem)) (b := _) (by with_reducible exact KE.out)).mono ?_; rintro e w2 ⟨rfl, rfl⟩))
  go_ret
  first | exact ⟨rfl, E.1⟩ | (refine ⟨ret_bool ?_, E.1⟩; simp; done) | (refine ⟨ret_bool ?_, E.1⟩; simp; omega)
set_option maxHeartbeats 4000000 in
theorem order_ege {A B C : Option Addr} {xs ys zs : List Nat} {c d f : Nat} {w : World} (m n N : Nat) (v : Int) (E0 : Env w w [(A, c, xs), (B, d, ys), (C, f, zs)])
    (HL : Hid (Calls Tryd.prog 11 #[.slice (some ⟨w.heap.size, 0, none⟩) 3 3] (w.alloc (.cells (slices [(A, xs.length, c), (B, ys.length, d), (C, zs.length, f)]) 23)) fun e w' => e = .returned (.bool false) ∧ Env w w' [(A, c, xs), (B, d, ys), (C, f, zs)]))
    (K1 : Hid (cmpS xs ys = 1)) (K2 : Hid (cmpS ys zs = 0)) (K3 : Hid (cmpS ys xs = -1)) (K4 : Hid (cmpS xs zs = v)) (KE : Hid (eqB xs ys = false)) (N1 : Hid (minOf (els xs) = (m, true))) (N2 : Hid (minOf (els ys) = (n, true)))
    (KL : Hid ((els xs).length = N)) (hN : 0 < N) (hN' : N ≤ 4096) (hmn : m = n) :
    Calls Tryd.prog 10 #[.slice A xs.length c, .slice B ys.length d, .slice C zs.length f] w fun e w' => e = .returned (.bool true) ∧ Below w.heap.size w w' := by
  clear E0
  subst hmn
  go_enter Tryd.func10, Tryd.ntmps10
  go_wp2_with (first
      | (go_at_call 11; refine HL.out.mono ?_; rintro e w1 ⟨rfl, E⟩)
      | (go_at_call 12; refine (awake_env E).mono ?_; rintro e w2 ⟨rfl, E⟩)
      | (go_at_call 37; refine (Compare_val E (by repeat (first | with_reducible exact List.mem_cons_self | apply List.mem_cons_of_mem)) (by repeat (first | with_reducible exact List.mem_cons_self | apply List.mem_cons_of_mem)) (v := _) (by first | with_reducible exact K1.out | with_reducible exact K2.out | with_reducible exact K3.out | with_reducible exact K4.out)).mono ?_; rintro e w2 ⟨rfl, E⟩)
      | (go_at_call 21; refine (Min_val E (by repeat (first | with_reducible exact List.mem_cons_self | apply List.mem_cons_of_mem)) (m := _) (p := _) (by first | with_reducible exact N1.out | with_reducible exact N2.out)).mono ?_; rintro e w2 ⟨rfl, E⟩)
      | (go_at_call 20; refine (Len_val E (by repeat (first | with_reducible exact List.mem_cons_self | apply List.mem_cons_of_mem)) KL.out).mono ?_; rintro e w2 ⟨rfl, rfl⟩)
      | (go_at_call 35; refine (Equal_env E (by repeat (first | with_reducible exact List.mem_cons_self | apply List.mem_cons_of_mem)) (by repeat (first | with_reducible exact List.mem_cons_self | apply List.mem_cons_of_mem)) (b := _) (by with_reducible exact KE.out)).mono ?_; rintro e w2 ⟨rfl, rfl⟩))
  go_ret
  first | exact ⟨rfl, E.1⟩ | (refine ⟨ret_bool ?_, E.1⟩; simp; done) | (refine ⟨ret_bool ?_, E.1⟩; simp; omega)
set_option maxHeartbeats 4000000 in
theorem order_egg {A B C : Option Addr} {xs ys zs : List Nat} {c d f : Nat} {w : World} (m n N : Nat) (v : Int) (E0 : Env w w [(A, c, xs), (B, d, ys), (C, f, zs)])
    (HL : Hid (Calls Tryd.prog 11 #[.slice (some ⟨w.heap.size, 0, none⟩) 3 3] (w.alloc (.cells (slices [(A, xs.length, c), (B, ys.length, d), (C, zs.length, f)]) 23)) fun e w' => e = .returned (.bool false) ∧ Env w w' [(A, c, xs), (B, d, ys), (C, f, zs)]))
    (K1 : Hid (cmpS xs ys = 1)) (K2 : Hid (cmpS ys zs = 1)) (K3 : Hid (cmpS ys xs = -1)) (K4 : Hid (cmpS xs zs = v)) (KE : Hid (eqB xs ys = false)) (N1 : Hid (minOf (els xs) = (m, true))) (N2 : Hid (minOf (els ys) = (n, true)))
    (KL : Hid ((els xs).length = N)) (hN : 0 < N) (hN' : N ≤ 4096) (hmn : m = n) :
    Calls Tryd.prog 10 #[.slice A xs.length c, .slice B ys.length d, .slice C zs.length f] w fun e w' => e = .returned (.bool true) ∧ Below w.heap.size w w' := by
  clear E0
  subst hmn
  go_enter Tryd.func10, Tryd.ntmps10
  go_wp2_with (first
      | (go_at_call 11; refine HL.out.mono ?_; rintro e w1 ⟨rfl, E⟩)
      | (go_at_call 12; refine (awake_env E).mono ?_; rintro e w2 ⟨rfl, E⟩)
      | (go_at_call 37; refine (Compare_val E (by repeat (first | with_reducible exact List.mem_cons_self | apply List.mem_cons_of_mem)) (by repeat (first | with_reducible exact List.mem_cons_self | apply List.mem_cons_of_mem)) (v := _) (by first | with_reducible exact K1.out | with_reducible exact K2.out | with_reducible exact K3.out | with_reducible exact K4.out)).mono ?_; rintro e w2 ⟨rfl, E⟩)
      | (go_at_call 21; refine (Min_val E (by repeat (first | with_reducible exact List.mem_cons_self | apply List.mem_cons_of_mem)) (m := _) (p := _) (by first | with_reducible exact N1.out | with_reducible exact N2.out)).mono ?_; rintro e w2 ⟨rfl, E⟩)
      | (go_at_call 20; refine (Len_val E (by repeat (first | with_reducible exact List.mem_cons_self | apply List.mem_cons_of_mem)) KL.out).mono ?_; rintro e w2 ⟨rfl, rfl⟩)
      | (go_at_call 35; refine (Equal_env E (by repeat (first | with_reducible exact List.mem_cons_self | apply List.mem_cons_of_mem)) (by repeat (first | with_reducible exact List.mem_cons_self | apply List.mem_cons_of_mem)) (b := _) (by with_reducible exact KE.out)).mono ?_; rintro e w2 ⟨rfl, rfl⟩))
  go_ret
  first | exact ⟨rfl, E.1⟩ | (refine ⟨ret_bool ?_, E.1⟩; simp; done) | (refine ⟨ret_bool ?_, E.1⟩; simp; omega)
end Go.Proofs.YtaijjokcddcgiaaDoor
