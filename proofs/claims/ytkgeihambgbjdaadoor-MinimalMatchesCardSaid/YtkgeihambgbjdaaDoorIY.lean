/- slices.symMergeCmpFunc, rotateCmpFunc, swapRangeCmpFunc: a permutation is left. -/
import Derived.Test.YtkgeihambgbjdaaDoorPG
namespace Go.Proofs.YtkgeihambgbjdaaDoor.Mi
open Go Go.RowKit Go.Maps Go.Proofs.YtkgeihambgbjdaaDoor Go.Proofs.YtkgeihambgbjdaaDoor.Cb Go.Proofs.YtkgeihambgbjdaaDoor.Sb
open Go.Proofs.YtkgeihambgbjdaaDoor.Nf (zvs zvs_snoc info_int6 ret_int ret_b drew_below)
set_option linter.unusedVariables false
set_option linter.unusedSimpArgs false
set_option maxRecDepth 100000
set_option maxHeartbeats 8000000 in
theorem swapRange_any (B G m cG : Nat) (w0 : World) (vs0 : List Value) (a b k : Nat) (w : World) (vs : List Value) (h : SrtW B G m cG w0 vs0 w vs) (hv : ∀ v ∈ vs0, ∃ A n c, v = .slice A n c) (hab : a ≠ b) (ha : a + k ≤ m) (hb : b + k ≤ m) (hm : m ≤ 1000000) :
    Calls Tryd.prog 115 #[.slice (some ⟨G, 0, none⟩) m cG, .int .i64 a, .int .i64 b, .int .i64 k, .func (.func 84) #[] #[]] w fun e w' => e = .returned (.tuple #[]) ∧ ∃ vs', SrtW B G m cG w0 vs0 w' vs' := by
  have HV := Lib.hid hv
  have H0 := Lib.hid h
  clear hv h
  go_enter Tryd.func115, Tryd.ntmps115
  go_wp2
  go_loopw [10] (fun iv wr => ∃ (i : Nat) (vk : List Value), i ≤ k ∧ iv = .int .i64 i ∧ Hid (SrtW B G m cG w0 vs0 wr vk)) (fun iv _ => k - (intOf iv).toNat)
  case atStart => exact ⟨0, vs, Nat.zero_le _, rfl, H0⟩
  case round =>
    clear H0
    obtain ⟨i, vk, hik, rfl, HJ⟩ := hrel
    by_cases hlt : i < k
    · have hltz : (i : Int) < (k : Int) := by omega
      obtain ⟨s, hs⟩ : ∃ s : Nat, s = a + i := ⟨_, rfl⟩
      obtain ⟨t, ht⟩ : ∃ t : Nat, t = b + i := ⟨_, rfl⟩
      have hsz : (a : Int) + (i : Int) = (s : Int) := by omega
      have htz : (b : Int) + (i : Int) = (t : Int) := by omega
      have hsm : (s : Int) < (m : Int) := by omega
      have htm : (t : Int) < (m : Int) := by omega
      have hw1 : IntKind.i64.wrap (s : Int) = (s : Int) := by rw [IntKind.wrap_i64]; omega
      have hw2 : IntKind.i64.wrap (t : Int) = (t : Int) := by rw [IntKind.wrap_i64]; omega
      have hl := HJ.out.len
      obtain ⟨A1, n1, k1, e1⟩ := HV.out _ (HJ.out.p.mem_iff.1 (List.getElem_mem (l := vk) (n := s) (by omega)))
      obtain ⟨A2, n2, k2, e2⟩ := HV.out _ (HJ.out.p.mem_iff.1 (List.getElem_mem (l := vk) (n := t) (by omega)))
      obtain ⟨c1, c2, f1, f2, c3, f3, hS⟩ := HJ.out.swaps (i := s) (j := t) (by omega) (by omega) (by omega) (by rw [List.getElem?_eq_getElem (by omega), e1]) (by rw [List.getElem?_eq_getElem (by omega), e2])
      have hS := Lib.hid hS
      clear e1 e2 HJ hs ht
      go_wp2_with fail
      go_big_region
      obtain ⟨vq, hS⟩ := hS.out
      have hSd := Lib.hid hS.drew
      clear hS c1 c2 f1 f2 c3 f3
      generalize ((wr.setCell ⟨G, s, none⟩ (Value.slice A2 n2 k2)).setCell ⟨G, t, none⟩ (Value.slice A1 n1 k1)).drew = X3 at *
      go_wp2
      go_roundw
      case rel => exact ⟨i + 1, vq, by omega, by go_num, hSd⟩
      case measure => simp [intOf]; omega
    · have hltz : decide ((i : Int) < (k : Int)) = false := decide_eq_false (by omega)
      go_wp2
      go_end0
      exact ⟨rfl, vk, HJ.out⟩
set_option maxHeartbeats 8000000 in
theorem rotate_any (B G m cG : Nat) (w0 : World) (vs0 : List Value) (a b k : Nat) (w : World) (vs : List Value) (h : SrtW B G m cG w0 vs0 w vs) (hv : ∀ v ∈ vs0, ∃ A n c, v = .slice A n c) (hab : a < k) (hkb : k < b) (hb : b ≤ m) (hm : m ≤ 1000000) :
    Calls Tryd.prog 114 #[.slice (some ⟨G, 0, none⟩) m cG, .int .i64 a, .int .i64 k, .int .i64 b, .func (.func 84) #[] #[]] w fun e w' => e = .returned (.tuple #[]) ∧ ∃ vs', SrtW B G m cG w0 vs0 w' vs' := by
  have HV := Lib.hid hv
  have H0 := Lib.hid h
  clear hv h
  have HSw : Hid (∀ (p q l : Nat) (X : World) (vx : List Value), SrtW B G m cG w0 vs0 X vx → p ≠ q → p + l ≤ m → q + l ≤ m → Calls Tryd.prog 115 #[.slice (some ⟨G, 0, none⟩) m cG, .int .i64 p, .int .i64 q, .int .i64 l, .func (.func 84) #[] #[]] X fun e w' => e = .returned (.tuple #[]) ∧ ∃ vs', SrtW B G m cG w0 vs0 w' vs') := fun p q l X vx h1 h2 h3 h4 => swapRange_any B G m cG w0 vs0 p q l X vx h1 HV.out h2 h3 h4 hm
  clear HV
  go_enter Tryd.func114, Tryd.ntmps114
  have hi0 : (k : Int) - (a : Int) = ((k - a : Nat) : Int) := by omega
  have hj0 : (b : Int) - (k : Int) = ((b - k : Nat) : Int) := by omega
  go_wp2
  go_loopw [10, 11] (fun iv jv wr => ∃ (i j : Nat) (vk : List Value), 0 < i ∧ 0 < j ∧ i ≤ k ∧ k + j ≤ m ∧ iv = .int .i64 i ∧ jv = .int .i64 j ∧ Hid (SrtW B G m cG w0 vs0 wr vk)) (fun iv jv _ => (intOf iv).toNat + (intOf jv).toNat)
  case atStart => exact ⟨k - a, b - k, vs, by omega, by omega, by omega, by omega, by go_num, by go_num, H0⟩
  case round =>
    clear H0 hi0 hj0
    obtain ⟨i, j, vk, hi0, hj0, hik, hjm, rfl, rfl, HJ⟩ := hrel
    obtain ⟨p, hp⟩ : ∃ p : Nat, p + i = k := ⟨k - i, by omega⟩
    have hpz : (k : Int) - (i : Int) = (p : Int) := by omega
    by_cases hij : i = j
    · subst hij
      have HC := Lib.hid (HSw.out p k i wr vk HJ.out (by omega) (by omega) (by omega))
      go_wp2_with (go_at_call 115; ((with_reducible refine HC.out.mono ?_); rintro e w6 ⟨rfl, vq, hq⟩); have HQ := Lib.hid hq; clear hq)
      go_end0
      exact ⟨rfl, vq, HQ.out⟩
    · have hne : ((i : Int) != (j : Int)) = true := by rw [bne_iff_ne]; omega
      by_cases hg : j < i
      · have hgz : (i : Int) > (j : Int) := by omega
        have HC := Lib.hid (HSw.out p k j wr vk HJ.out (by omega) (by omega) (by omega))
        have hiz : (i : Int) - (j : Int) = ((i - j : Nat) : Int) := by omega
        go_wp2_with (go_at_call 115; ((with_reducible refine HC.out.mono ?_); rintro e w6 ⟨rfl, vq, hq⟩); have HQ := Lib.hid hq; clear hq)
        go_roundw
        case rel => exact ⟨i - j, j, vq, by omega, by omega, by omega, by omega, by go_num, rfl, HQ⟩
        case measure => simp [intOf]; omega
      · have hgz : decide ((i : Int) > (j : Int)) = false := decide_eq_false (by omega)
        obtain ⟨q, hq⟩ : ∃ q : Nat, q + i = k + j := ⟨k + j - i, by omega⟩
        have hqz : (k : Int) + (j : Int) - (i : Int) = (q : Int) := by omega
        have HC := Lib.hid (HSw.out p q i wr vk HJ.out (by omega) (by omega) (by omega))
        have hjz : (j : Int) - (i : Int) = ((j - i : Nat) : Int) := by omega
        go_wp2_with (go_at_call 115; ((with_reducible refine HC.out.mono ?_); rintro e w6 ⟨rfl, vq, hq⟩); have HQ := Lib.hid hq; clear hq)
        go_roundw
        case rel => exact ⟨i, j - i, vq, by omega, by omega, by omega, by omega, rfl, by go_num, HQ⟩
        case measure => simp [intOf]; omega
set_option maxHeartbeats 8000000 in
theorem sym_any (B G m cG : Nat) (w0 : World) (vs0 : List Value) (hv : ∀ v ∈ vs0, ∃ A n c, v = .slice A n c) (hm : m ≤ 1000000) : ∀ (N a q b : Nat) (w : World) (vs : List Value), b - a ≤ N → SrtW B G m cG w0 vs0 w vs → a < q → q < b → b ≤ m →
    Calls Tryd.prog 111 #[.slice (some ⟨G, 0, none⟩) m cG, .int .i64 a, .int .i64 q, .int .i64 b, .func (.func 84) #[] #[]] w fun e w' => e = .returned (.tuple #[]) ∧ ∃ vs', SrtW B G m cG w0 vs0 w' vs' := by
  intro N
  induction N with
  | zero => intro a q b w vs h1 h2 h3 h4 h5; omega
  | succ N ih =>
    intro a q b w vs hN h hab hqb hbm
    have HV := Lib.hid hv
    have H0 := Lib.hid h
    have HI := Lib.hid ih
    have HC := Lib.hid fun A A' n n' c c' X => split1_any A A' n n' c c' X
    clear ih h
    by_cases hq1 : q - a = 1
    · have hqz : (q : Int) - (a : Int) = 1 := by omega
      go_enter Tryd.func111, Tryd.ntmps111
      go_wp2
      go_loopw [10, 11, 12] (fun iv jv _ wr => ∃ (i j : Nat) (vk : List Value), a < i ∧ i ≤ j ∧ j ≤ b ∧ iv = .int .i64 i ∧ jv = .int .i64 j ∧ Hid (SrtW B G m cG w0 vs0 wr vk)) (fun iv jv _ _ => (intOf jv).toNat - (intOf iv).toNat)
      case atStart => exact ⟨q, b, vs, by omega, by omega, by omega, rfl, rfl, H0⟩
      case round =>
        clear H0
        obtain ⟨i, j, vk, hai, hij, hjb, rfl, rfl, HJ⟩ := hrel
        by_cases hlt : i < j
        · have hltz : (i : Int) < (j : Int) := by omega
          obtain ⟨h, hh⟩ : ∃ h : Nat, h = (i + j) / 2 := ⟨_, rfl⟩
          have hhz : ((i : Int) + (j : Int)) / 2 = (h : Int) := by omega
          have h1 : i ≤ h := by omega
          have h2 : h < j := by omega
          have hl := HJ.out.len
          have c1 := HJ.out.cell (j := h) (by omega)
          have c2 := HJ.out.cell (j := a) (by omega)
          obtain ⟨A1, n1, k1, e1⟩ := HV.out _ (HJ.out.p.mem_iff.1 (List.getElem_mem (l := vk) (n := h) (by omega)))
          obtain ⟨A2, n2, k2, e2⟩ := HV.out _ (HJ.out.p.mem_iff.1 (List.getElem_mem (l := vk) (n := a) (by omega)))
          rw [e1] at c1
          rw [e2] at c2
          have hhm : (h : Int) < (m : Int) := by omega
          have ham : (a : Int) < (m : Int) := by omega
          have hw : IntKind.i64.wrap (h : Int) = (h : Int) := by rw [IntKind.wrap_i64]; omega
          have HJn := Lib.hid fun q => HJ.out.drewN q
          have HCC := Lib.hid fun X => HC.out A1 A2 n1 n2 k1 k2 X
          obtain ⟨z, hz⟩ : ∃ z : Int, z = if (n2 : Int) < n1 then (-1 : Int) else if (n1 : Int) < n2 then 1 else 0 := ⟨_, rfl⟩
          rw [← hz] at HCC
          have hzb : -1 ≤ z ∧ z ≤ 1 := by rw [hz]; split; omega; split <;> omega
          clear e1 e2 HJ hz hh
          by_cases hzn : z < 0
          · have hzd : decide (z < 0) = true := decide_eq_true hzn
            go_wp2_with fail
            go_quiet (first | (go_at_call 84; exact ((HCC.out _).mono (by rintro e w' ⟨rfl, rfl⟩; exact ⟨rfl, _, rfl⟩))))
            have H2 := Lib.hid (HJn.out nq)
            clear c1 c2 HJn
            generalize wr.drewN nq = X2 at *
            go_wp2
            go_roundw
            case rel => exact ⟨h + 1, j, vk, by omega, by omega, hjb, by go_num, rfl, H2⟩
            case measure => simp [intOf]; omega
          · have hzd : decide (z < 0) = false := decide_eq_false hzn
            go_wp2_with fail
            go_quiet (first | (go_at_call 84; exact ((HCC.out _).mono (by rintro e w' ⟨rfl, rfl⟩; exact ⟨rfl, _, rfl⟩))))
            have H2 := Lib.hid (HJn.out nq)
            clear c1 c2 HJn
            generalize wr.drewN nq = X2 at *
            go_wp2
            go_roundw
            case rel => exact ⟨i, h, vk, hai, h1, by omega, rfl, by go_num, H2⟩
            case measure => simp [intOf]; omega
        · have hltz : decide ((i : Int) < (j : Int)) = false := decide_eq_false (by omega)
          have hib : i ≤ b := by omega
          go_wp2
          have HJ2 := HJ
          go_loopw [13] (fun kv wr2 => ∃ (k : Nat) (vk2 : List Value), a ≤ k ∧ k ≤ b ∧ kv = .int .i64 k ∧ Hid (SrtW B G m cG w0 vs0 wr2 vk2)) (fun kv _ => b - (intOf kv).toNat)
          case atStart => exact ⟨a, vk, Nat.le_refl _, by omega, rfl, HJ2⟩
          case round =>
            clear HJ HJ2
            obtain ⟨k, vk2, hak, hkb, rfl, HJ⟩ := hrel
            by_cases hlk : k + 1 < i
            · have hlkz : (k : Int) < (i : Int) - 1 := by omega
              have hk1 : k + 1 < m := by omega
              have hkm : (k : Int) < (m : Int) := by omega
              have hkm1 : (k : Int) + 1 < (m : Int) := by omega
              have hw1 : IntKind.i64.wrap ((k : Int) + 1) = (k : Int) + 1 := by rw [IntKind.wrap_i64]; omega
              have hl := HJ.out.len
              obtain ⟨A1, n1, k1, e1⟩ := HV.out _ (HJ.out.p.mem_iff.1 (List.getElem_mem (l := vk2) (n := k) (by omega)))
              obtain ⟨A2, n2, k2, e2⟩ := HV.out _ (HJ.out.p.mem_iff.1 (List.getElem_mem (l := vk2) (n := k + 1) (by omega)))
              obtain ⟨c1, c2, f1, f2, c3, f3, hS⟩ := HJ.out.swaps (i := k) (j := k + 1) (by omega) (by omega) (by omega) (by rw [List.getElem?_eq_getElem (by omega), e1]) (by rw [List.getElem?_eq_getElem (by omega), e2])
              have hS := Lib.hid hS
              clear e1 e2 HJ
              go_wp2_with fail
              go_big_region
              obtain ⟨vq, hS⟩ := hS.out
              have hSd := Lib.hid hS.drew
              clear hS c1 c2 f1 f2 c3 f3
              generalize ((wr.setCell ⟨G, k, none⟩ (Value.slice A2 n2 k2)).setCell ⟨G, k + 1, none⟩ (Value.slice A1 n1 k1)).drew = X3 at *
              go_wp2
              go_roundw
              case rel => exact ⟨k + 1, vq, by omega, by omega, by go_num, hSd⟩
              case measure => simp [intOf]; omega
            · have hlkz : ¬ (k : Int) < (i : Int) - 1 := by omega
              have hlkd : decide ((k : Int) < (i : Int) - 1) = false := decide_eq_false hlkz
              go_wp2
              refine bodyPost_ret (results_none (by rfl) _ _ _) rfl ?_
              exact ⟨rfl, vk2, HJ.out⟩
    · have hq1b : ((q : Int) - (a : Int) == 1) = false := by rw [beq_eq_false_iff_ne]; omega
      by_cases hb1 : b - q = 1
      · have hbz : (b : Int) - (q : Int) = 1 := by omega
        go_enter Tryd.func111, Tryd.ntmps111
        go_wp2
        go_loopw [14, 15, 16] (fun iv jv _ wr => ∃ (i j : Nat) (vk : List Value), a ≤ i ∧ i ≤ j ∧ j ≤ q ∧ iv = .int .i64 i ∧ jv = .int .i64 j ∧ Hid (SrtW B G m cG w0 vs0 wr vk)) (fun iv jv _ _ => (intOf jv).toNat - (intOf iv).toNat)
        case atStart => exact ⟨a, q, vs, by omega, by omega, by omega, rfl, rfl, H0⟩
        case round =>
          clear H0
          obtain ⟨i, j, vk, hai, hij, hjq, rfl, rfl, HJ⟩ := hrel
          by_cases hlt : i < j
          · have hltz : (i : Int) < (j : Int) := by omega
            obtain ⟨h, hh⟩ : ∃ h : Nat, h = (i + j) / 2 := ⟨_, rfl⟩
            have hhz : ((i : Int) + (j : Int)) / 2 = (h : Int) := by omega
            have h1 : i ≤ h := by omega
            have h2 : h < j := by omega
            have hl := HJ.out.len
            have c1 := HJ.out.cell (j := q) (by omega)
            have c2 := HJ.out.cell (j := h) (by omega)
            obtain ⟨A1, n1, k1, e1⟩ := HV.out _ (HJ.out.p.mem_iff.1 (List.getElem_mem (l := vk) (n := q) (by omega)))
            obtain ⟨A2, n2, k2, e2⟩ := HV.out _ (HJ.out.p.mem_iff.1 (List.getElem_mem (l := vk) (n := h) (by omega)))
            rw [e1] at c1
            rw [e2] at c2
            have hhm : (h : Int) < (m : Int) := by omega
            have hqm : (q : Int) < (m : Int) := by omega
            have hw : IntKind.i64.wrap (h : Int) = (h : Int) := by rw [IntKind.wrap_i64]; omega
            have HJn := Lib.hid fun q => HJ.out.drewN q
            have HCC := Lib.hid fun X => HC.out A1 A2 n1 n2 k1 k2 X
            obtain ⟨z, hz⟩ : ∃ z : Int, z = if (n2 : Int) < n1 then (-1 : Int) else if (n1 : Int) < n2 then 1 else 0 := ⟨_, rfl⟩
            rw [← hz] at HCC
            have hzb : -1 ≤ z ∧ z ≤ 1 := by rw [hz]; split; omega; split <;> omega
            clear e1 e2 HJ hz hh
            by_cases hzn : z < 0
            · have hzd : decide (z < 0) = true := decide_eq_true hzn
              go_wp2_with fail
              go_quiet (first | (go_at_call 84; exact ((HCC.out _).mono (by rintro e w' ⟨rfl, rfl⟩; exact ⟨rfl, _, rfl⟩))))
              have H2 := Lib.hid (HJn.out nq)
              clear c1 c2 HJn
              generalize wr.drewN nq = X2 at *
              go_wp2
              go_roundw
              case rel => exact ⟨i, h, vk, hai, h1, by omega, rfl, by go_num, H2⟩
              case measure => simp [intOf]; omega
            · have hzd : decide (z < 0) = false := decide_eq_false hzn
              go_wp2_with fail
              go_quiet (first | (go_at_call 84; exact ((HCC.out _).mono (by rintro e w' ⟨rfl, rfl⟩; exact ⟨rfl, _, rfl⟩))))
              have H2 := Lib.hid (HJn.out nq)
              clear c1 c2 HJn
              generalize wr.drewN nq = X2 at *
              go_wp2
              go_roundw
              case rel => exact ⟨h + 1, j, vk, by omega, by omega, hjq, by go_num, rfl, H2⟩
              case measure => simp [intOf]; omega
          · have hltz : decide ((i : Int) < (j : Int)) = false := decide_eq_false (by omega)
            have hiq : i ≤ q := by omega
            go_wp2
            have HJ2 := HJ
            go_loopw [17] (fun kv wr2 => ∃ (k : Nat) (vk2 : List Value), i ≤ k ∧ k ≤ q ∧ kv = .int .i64 k ∧ Hid (SrtW B G m cG w0 vs0 wr2 vk2)) (fun kv _ => (intOf kv).toNat)
            case atStart => exact ⟨q, vk, by omega, Nat.le_refl _, rfl, HJ2⟩
            case round =>
              clear HJ HJ2
              obtain ⟨k, vk2, hik, hkq, rfl, HJ⟩ := hrel
              by_cases hlk : i < k
              · obtain ⟨kp, rfl⟩ : ∃ kp, k = kp + 1 := ⟨k - 1, by omega⟩
                have hlkz : (i : Int) < (kp : Int) + 1 := by omega
                have hkm : (kp : Int) + 1 < (m : Int) := by omega
                have hkm1 : (kp : Int) < (m : Int) := by omega
                have hw1 : IntKind.i64.wrap (kp : Int) = (kp : Int) := by rw [IntKind.wrap_i64]; omega
                have hl := HJ.out.len
                obtain ⟨A1, n1, k1, e1⟩ := HV.out _ (HJ.out.p.mem_iff.1 (List.getElem_mem (l := vk2) (n := kp + 1) (by omega)))
                obtain ⟨A2, n2, k2, e2⟩ := HV.out _ (HJ.out.p.mem_iff.1 (List.getElem_mem (l := vk2) (n := kp) (by omega)))
                obtain ⟨c1, c2, f1, f2, c3, f3, hS⟩ := HJ.out.swaps (i := kp + 1) (j := kp) (by omega) (by omega) (by omega) (by rw [List.getElem?_eq_getElem (by omega), e1]) (by rw [List.getElem?_eq_getElem (by omega), e2])
                have hS := Lib.hid hS
                clear e1 e2 HJ
                go_wp2_with fail
                go_big_region
                obtain ⟨vq, hS⟩ := hS.out
                have hSd := Lib.hid hS.drew
                clear hS c1 c2 f1 f2 c3 f3
                generalize ((wr.setCell ⟨G, kp + 1, none⟩ (Value.slice A2 n2 k2)).setCell ⟨G, kp, none⟩ (Value.slice A1 n1 k1)).drew = X3 at *
                go_wp2
                go_roundw
                case rel => exact ⟨kp, vq, by omega, by omega, by go_num, hSd⟩
                case measure => first | (simp [intOf]; done) | (simp [intOf]; omega)
              · have hlkz : ¬ (k : Int) > (i : Int) := by omega
                have hlkd : decide ((k : Int) > (i : Int)) = false := decide_eq_false hlkz
                go_wp2
                refine bodyPost_ret (results_none (by rfl) _ _ _) rfl ?_
                exact ⟨rfl, vk2, HJ.out⟩
      · have hb1b : ((b : Int) - (q : Int) == 1) = false := by rw [beq_eq_false_iff_ne]; omega
        obtain ⟨d, hd⟩ : ∃ d : Nat, d = (a + b) / 2 := ⟨_, rfl⟩
        have hdz : ((a : Int) + (b : Int)) / 2 = (d : Int) := by omega
        have hda : a < d := by omega
        have hdb : d < b := by omega
        have hd2 : 2 * d ≤ a + b := by omega
        have hd3 : a + b ≤ 2 * d + 1 := by omega
        clear hd
        have HRot := Lib.hid fun (a' k' b' : Nat) (X : World) (vx : List Value) (h1 : SrtW B G m cG w0 vs0 X vx) (h2 : a' < k') (h3 : k' < b') (h4 : b' ≤ m) => rotate_any B G m cG w0 vs0 a' b' k' X vx h1 HV.out h2 h3 h4 hm
        obtain ⟨s0, r0, hs0, hsr, hsa, hrq, hrd, hlo, hhi, hcase⟩ : ∃ s0 r0 : Nat, (if d < q then (s0 + b = d + q ∧ r0 = d) else (s0 = a ∧ r0 = q)) ∧ s0 ≤ r0 ∧ a ≤ s0 ∧ r0 ≤ q ∧ r0 ≤ d ∧ d + q ≤ b + s0 ∧ (q ≤ d + q - r0) ∧ True := by
          by_cases h : d < q
          · exact ⟨d + q - b, d, by rw [if_pos h]; omega, by omega, by omega, by omega, by omega, by omega, by omega, trivial⟩
          · exact ⟨a, q, by rw [if_neg h]; omega, by omega, by omega, by omega, by omega, by omega, by omega, trivial⟩
        clear hcase hhi
        have hkey : ∀ (W : World → Prop), True := fun _ => trivial
        clear hkey
        by_cases hqd : d < q
        · rw [if_pos hqd] at hs0
          have hqdz : (q : Int) > (d : Int) := by omega
          have hsz : (d : Int) + (q : Int) - (b : Int) = (s0 : Int) := by omega
          have hr0 : r0 = d := hs0.2
          have hr0z : Hid (r0 = d) := hr0
          subst hr0
          go_enter Tryd.func111, Tryd.ntmps111
          go_wp2
          go_loopw [20, 21, 23] (fun sv rv _ wr => ∃ (s r : Nat) (vk : List Value), s0 ≤ s ∧ s ≤ r ∧ r ≤ r0 ∧ sv = .int .i64 s ∧ rv = .int .i64 r ∧ Hid (SrtW B G m cG w0 vs0 wr vk)) (fun sv rv _ _ => (intOf rv).toNat - (intOf sv).toNat)
          case atStart => exact ⟨s0, r0, vs, by omega, by omega, by omega, by go_num, by go_num, H0⟩
          case round =>
            clear H0
            obtain ⟨s, r, vk, hss, hsr2, hrr, rfl, rfl, HJ⟩ := hrel
            by_cases hlt : s < r
            · have hltz : (s : Int) < (r : Int) := by omega
              obtain ⟨h, hh⟩ : ∃ h : Nat, h = (s + r) / 2 := ⟨_, rfl⟩
              have hhz : ((s : Int) + (r : Int)) / 2 = (h : Int) := by omega
              have h1 : s ≤ h := by omega
              have h2 : h < r := by omega
              obtain ⟨g, hg⟩ : ∃ g : Nat, g + h + 1 = r0 + q := ⟨r0 + q - 1 - h, by omega⟩
              have hgz : (r0 : Int) + (q : Int) - 1 - (h : Int) = (g : Int) := by omega
              have hl := HJ.out.len
              have c1 := HJ.out.cell (j := g) (by omega)
              have c2 := HJ.out.cell (j := h) (by omega)
              obtain ⟨A1, n1, k1, e1⟩ := HV.out _ (HJ.out.p.mem_iff.1 (List.getElem_mem (l := vk) (n := g) (by omega)))
              obtain ⟨A2, n2, k2, e2⟩ := HV.out _ (HJ.out.p.mem_iff.1 (List.getElem_mem (l := vk) (n := h) (by omega)))
              rw [e1] at c1
              rw [e2] at c2
              have hhm : (h : Int) < (m : Int) := by omega
              have hgm : (g : Int) < (m : Int) := by omega
              have hw : IntKind.i64.wrap (h : Int) = (h : Int) := by rw [IntKind.wrap_i64]; omega
              have hw2 : IntKind.i64.wrap (g : Int) = (g : Int) := by rw [IntKind.wrap_i64]; omega
              have HJn := Lib.hid fun q => HJ.out.drewN q
              have HCC := Lib.hid fun X => HC.out A1 A2 n1 n2 k1 k2 X
              obtain ⟨z, hz⟩ : ∃ z : Int, z = if (n2 : Int) < n1 then (-1 : Int) else if (n1 : Int) < n2 then 1 else 0 := ⟨_, rfl⟩
              rw [← hz] at HCC
              have hzb : -1 ≤ z ∧ z ≤ 1 := by rw [hz]; split; omega; split <;> omega
              clear e1 e2 HJ hz hh
              by_cases hzn : z < 0
              · have hzd : decide (z < 0) = true := decide_eq_true hzn
                go_wp2_with fail
                go_quiet (first | (go_at_call 84; exact ((HCC.out _).mono (by rintro e w' ⟨rfl, rfl⟩; exact ⟨rfl, _, rfl⟩))))
                have H2 := Lib.hid (HJn.out nq)
                clear c1 c2 HJn
                generalize wr.drewN nq = X2 at *
                go_wp2
                go_roundw
                case rel => exact ⟨s, h, vk, hss, h1, by omega, rfl, by go_num, H2⟩
                case measure => simp [intOf]; omega
              · have hzd : decide (z < 0) = false := decide_eq_false hzn
                go_wp2_with fail
                go_quiet (first | (go_at_call 84; exact ((HCC.out _).mono (by rintro e w' ⟨rfl, rfl⟩; exact ⟨rfl, _, rfl⟩))))
                have H2 := Lib.hid (HJn.out nq)
                clear c1 c2 HJn
                generalize wr.drewN nq = X2 at *
                go_wp2
                go_roundw
                case rel => exact ⟨h + 1, r, vk, by omega, by omega, hrr, by go_num, rfl, H2⟩
                case measure => simp [intOf]; omega
            · have hltz : decide ((s : Int) < (r : Int)) = false := decide_eq_false (by omega)
              obtain ⟨e, he⟩ : ∃ e : Nat, e + s = r0 + q := ⟨r0 + q - s, by omega⟩
              have hez : (r0 : Int) + (q : Int) - (s : Int) = (e : Int) := by omega
              have heb : e ≤ b := by omega
              have HR := Lib.hid fun (X : World) (vx : List Value) (h1 : SrtW B G m cG w0 vs0 X vx) (h2 : s < q) (h3 : q < e) => HRot.out s q e X vx h1 h2 h3 (by omega)
              have HM1 := Lib.hid fun (X : World) (vx : List Value) (h1 : SrtW B G m cG w0 vs0 X vx) (h2 : a < s) (h3 : s < r0) => HI.out a s r0 X vx (by omega) h1 h2 h3 (by omega)
              have HM2 := Lib.hid fun (X : World) (vx : List Value) (h1 : SrtW B G m cG w0 vs0 X vx) (h2 : r0 < e) (h3 : e < b) => HI.out r0 e b X vx (by omega) h1 h2 h3 (by omega)
              clear HC HRot HI HV
              go_wp2_with (first
                | (go_at_call 114; ((with_reducible refine (HR.out _ _ HJ.out (by omega) (by omega)).mono ?_); rintro e' w6 ⟨rfl, vq, hq⟩); replace HJ := Lib.hid hq; clear hq)
                | (go_at_call 111; (first | (with_reducible refine (HM1.out _ _ HJ.out (by omega) (by omega)).mono ?_) | (with_reducible refine (HM2.out _ _ HJ.out (by omega) (by omega)).mono ?_)); rintro e' w6 ⟨rfl, vq, hq⟩; replace HJ := Lib.hid hq; clear hq))
              all_goals
                go_end0
                exact ⟨rfl, _, HJ.out⟩
        · rw [if_neg hqd] at hs0
          have hqdz : decide ((q : Int) > (d : Int)) = false := decide_eq_false (by omega)
          obtain ⟨rfl, rfl⟩ := hs0
          go_enter Tryd.func111, Tryd.ntmps111
          go_wp2
          go_loopw [20, 21, 23] (fun sv rv _ wr => ∃ (s r : Nat) (vk : List Value), s0 ≤ s ∧ s ≤ r ∧ r ≤ r0 ∧ sv = .int .i64 s ∧ rv = .int .i64 r ∧ Hid (SrtW B G m cG w0 vs0 wr vk)) (fun sv rv _ _ => (intOf rv).toNat - (intOf sv).toNat)
          case atStart => exact ⟨s0, r0, vs, by omega, by omega, by omega, by go_num, by go_num, H0⟩
          case round =>
            clear H0
            obtain ⟨s, r, vk, hss, hsr2, hrr, rfl, rfl, HJ⟩ := hrel
            by_cases hlt : s < r
            · have hltz : (s : Int) < (r : Int) := by omega
              obtain ⟨h, hh⟩ : ∃ h : Nat, h = (s + r) / 2 := ⟨_, rfl⟩
              have hhz : ((s : Int) + (r : Int)) / 2 = (h : Int) := by omega
              have h1 : s ≤ h := by omega
              have h2 : h < r := by omega
              obtain ⟨g, hg⟩ : ∃ g : Nat, g + h + 1 = d + r0 := ⟨d + r0 - 1 - h, by omega⟩
              have hgz : (d : Int) + (r0 : Int) - 1 - (h : Int) = (g : Int) := by omega
              have hl := HJ.out.len
              have c1 := HJ.out.cell (j := g) (by omega)
              have c2 := HJ.out.cell (j := h) (by omega)
              obtain ⟨A1, n1, k1, e1⟩ := HV.out _ (HJ.out.p.mem_iff.1 (List.getElem_mem (l := vk) (n := g) (by omega)))
              obtain ⟨A2, n2, k2, e2⟩ := HV.out _ (HJ.out.p.mem_iff.1 (List.getElem_mem (l := vk) (n := h) (by omega)))
              rw [e1] at c1
              rw [e2] at c2
              have hhm : (h : Int) < (m : Int) := by omega
              have hgm : (g : Int) < (m : Int) := by omega
              have hw : IntKind.i64.wrap (h : Int) = (h : Int) := by rw [IntKind.wrap_i64]; omega
              have hw2 : IntKind.i64.wrap (g : Int) = (g : Int) := by rw [IntKind.wrap_i64]; omega
              have HJn := Lib.hid fun q => HJ.out.drewN q
              have HCC := Lib.hid fun X => HC.out A1 A2 n1 n2 k1 k2 X
              obtain ⟨z, hz⟩ : ∃ z : Int, z = if (n2 : Int) < n1 then (-1 : Int) else if (n1 : Int) < n2 then 1 else 0 := ⟨_, rfl⟩
              rw [← hz] at HCC
              have hzb : -1 ≤ z ∧ z ≤ 1 := by rw [hz]; split; omega; split <;> omega
              clear e1 e2 HJ hz hh
              by_cases hzn : z < 0
              · have hzd : decide (z < 0) = true := decide_eq_true hzn
                go_wp2_with fail
                go_quiet (first | (go_at_call 84; exact ((HCC.out _).mono (by rintro e w' ⟨rfl, rfl⟩; exact ⟨rfl, _, rfl⟩))))
                have H2 := Lib.hid (HJn.out nq)
                clear c1 c2 HJn
                generalize wr.drewN nq = X2 at *
                go_wp2
                go_roundw
                case rel => exact ⟨s, h, vk, hss, h1, by omega, rfl, by go_num, H2⟩
                case measure => simp [intOf]; omega
              · have hzd : decide (z < 0) = false := decide_eq_false hzn
                go_wp2_with fail
                go_quiet (first | (go_at_call 84; exact ((HCC.out _).mono (by rintro e w' ⟨rfl, rfl⟩; exact ⟨rfl, _, rfl⟩))))
                have H2 := Lib.hid (HJn.out nq)
                clear c1 c2 HJn
                generalize wr.drewN nq = X2 at *
                go_wp2
                go_roundw
                case rel => exact ⟨h + 1, r, vk, by omega, by omega, hrr, by go_num, rfl, H2⟩
                case measure => simp [intOf]; omega
            · have hltz : decide ((s : Int) < (r : Int)) = false := decide_eq_false (by omega)
              obtain ⟨e, he⟩ : ∃ e : Nat, e + s = d + r0 := ⟨d + r0 - s, by omega⟩
              have hez : (d : Int) + (r0 : Int) - (s : Int) = (e : Int) := by omega
              have heb : e ≤ b := by omega
              have HR := Lib.hid fun (X : World) (vx : List Value) (h1 : SrtW B G m cG w0 vs0 X vx) (h2 : s < r0) (h3 : r0 < e) => HRot.out s r0 e X vx h1 h2 h3 (by omega)
              have HM1 := Lib.hid fun (X : World) (vx : List Value) (h1 : SrtW B G m cG w0 vs0 X vx) (h2 : s0 < s) (h3 : s < d) => HI.out s0 s d X vx (by omega) h1 h2 h3 (by omega)
              have HM2 := Lib.hid fun (X : World) (vx : List Value) (h1 : SrtW B G m cG w0 vs0 X vx) (h2 : d < e) (h3 : e < b) => HI.out d e b X vx (by omega) h1 h2 h3 (by omega)
              clear HC HRot HI HV
              go_wp2_with (first
                | (go_at_call 114; ((with_reducible refine (HR.out _ _ HJ.out (by omega) (by omega)).mono ?_); rintro e' w6 ⟨rfl, vq, hq⟩); replace HJ := Lib.hid hq; clear hq)
                | (go_at_call 111; (first | (with_reducible refine (HM1.out _ _ HJ.out (by omega) (by omega)).mono ?_) | (with_reducible refine (HM2.out _ _ HJ.out (by omega) (by omega)).mono ?_)); rintro e' w6 ⟨rfl, vq, hq⟩; replace HJ := Lib.hid hq; clear hq))
              all_goals
                go_end0
                exact ⟨rfl, _, HJ.out⟩
/-- slices.symMergeCmpFunc does what SymOk asks. -/
theorem sym_ok (B G m cG : Nat) (w0 : World) (vs0 : List Value) : SymOk B G m cG w0 vs0 := fun hv hm a q b X vs h1 h2 h3 h4 => sym_any B G m cG w0 vs0 hv hm (b - a) a q b X vs (Nat.le_refl _) h1 h2 h3 h4
end Go.Proofs.YtkgeihambgbjdaaDoor.Mi
