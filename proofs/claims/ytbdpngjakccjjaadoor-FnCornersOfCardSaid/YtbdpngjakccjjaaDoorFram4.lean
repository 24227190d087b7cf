
/- Chapter 4 of impl: CornersOf. -/
import Derived.Test.YtbdpngjakccjjaaDoorFram3
namespace Go.Proofs.YtbdpngjakccjjaaDoor
open Go.RowKit Go.Sort
set_option linter.unusedVariables false
set_option linter.unusedSimpArgs false
def two (p q : Bool) : Nat := (if p then 1 else 0) + (if q then 2 else 0)
theorem two_bits (M j : Nat) : M / 2 ^ j &&& 3 = two (M.testBit j) (M.testBit (j + 1)) := by
  have e : M / 2 ^ j &&& 3 = M / 2 ^ j % 4 := Nat.and_two_pow_sub_one_eq_mod _ 2
  rw [e, Nat.testBit_eq_decide_div_mod_eq, Nat.testBit_eq_decide_div_mod_eq, Nat.pow_succ, ← Nat.div_div_eq_div_mul]
  unfold two
  generalize M / 2 ^ j = X
  by_cases h1 : X % 2 = 1 <;> by_cases h2 : X / 2 % 2 = 1 <;> simp only [h1, h2, decide_true, decide_false, if_true, if_false, Bool.false_eq_true] <;> omega
theorem two_lt (p q : Bool) : two p q < 4 := by cases p <;> cases q <;> decide

theorem cat_0_0 (w : World) : Calls Tryd.prog 44 #[.int .u32 0, .int .u32 0] w fun e w' => e = .returned (.tuple #[.int .i64 0, .int .i64 0]) ∧ w' = w := by
  have hor : bits .or .u32 0 0 = 0 := by decide +kernel
  go_enter Tryd.func44, Tryd.ntmps44
  go_wp2
  refine bodyPost_ret (v := .tuple #[.int .i64 0, .int .i64 0]) (by simp (maxDischargeDepth := 8) [results, Tryd.results44, go_sem, *]) rfl ⟨rfl, rfl⟩

theorem cat_0_2 (w : World) : Calls Tryd.prog 44 #[.int .u32 0, .int .u32 2] w fun e w' => e = .returned (.tuple #[.int .i64 1, .int .i64 0]) ∧ w' = w := by
  have hor : bits .or .u32 0 2 = 2 := by decide +kernel
  go_enter Tryd.func44, Tryd.ntmps44
  go_wp2
  refine bodyPost_ret (v := .tuple #[.int .i64 1, .int .i64 0]) (by simp (maxDischargeDepth := 8) [results, Tryd.results44, go_sem, *]) rfl ⟨rfl, rfl⟩

theorem cat_0_1 (w : World) : Calls Tryd.prog 44 #[.int .u32 0, .int .u32 1] w fun e w' => e = .returned (.tuple #[.int .i64 1, .int .i64 0]) ∧ w' = w := by
  have hor : bits .or .u32 0 1 = 1 := by decide +kernel
  go_enter Tryd.func44, Tryd.ntmps44
  go_wp2
  refine bodyPost_ret (v := .tuple #[.int .i64 1, .int .i64 0]) (by simp (maxDischargeDepth := 8) [results, Tryd.results44, go_sem, *]) rfl ⟨rfl, rfl⟩

theorem cat_0_3 (w : World) : Calls Tryd.prog 44 #[.int .u32 0, .int .u32 3] w fun e w' => e = .returned (.tuple #[.int .i64 0, .int .i64 0]) ∧ w' = w := by
  have hor : bits .or .u32 0 3 = 3 := by decide +kernel
  go_enter Tryd.func44, Tryd.ntmps44
  go_wp2
  refine bodyPost_ret (v := .tuple #[.int .i64 0, .int .i64 0]) (by simp (maxDischargeDepth := 8) [results, Tryd.results44, go_sem, *]) rfl ⟨rfl, rfl⟩

theorem cat_2_0 (w : World) : Calls Tryd.prog 44 #[.int .u32 2, .int .u32 0] w fun e w' => e = .returned (.tuple #[.int .i64 1, .int .i64 0]) ∧ w' = w := by
  have hor : bits .or .u32 8 0 = 8 := by decide +kernel
  go_enter Tryd.func44, Tryd.ntmps44
  go_wp2
  refine bodyPost_ret (v := .tuple #[.int .i64 1, .int .i64 0]) (by simp (maxDischargeDepth := 8) [results, Tryd.results44, go_sem, *]) rfl ⟨rfl, rfl⟩

theorem cat_2_2 (w : World) : Calls Tryd.prog 44 #[.int .u32 2, .int .u32 2] w fun e w' => e = .returned (.tuple #[.int .i64 0, .int .i64 0]) ∧ w' = w := by
  have hor : bits .or .u32 8 2 = 10 := by decide +kernel
  go_enter Tryd.func44, Tryd.ntmps44
  go_wp2
  refine bodyPost_ret (v := .tuple #[.int .i64 0, .int .i64 0]) (by simp (maxDischargeDepth := 8) [results, Tryd.results44, go_sem, *]) rfl ⟨rfl, rfl⟩

theorem cat_2_1 (w : World) : Calls Tryd.prog 44 #[.int .u32 2, .int .u32 1] w fun e w' => e = .returned (.tuple #[.int .i64 2, .int .i64 0]) ∧ w' = w := by
  have hor : bits .or .u32 8 1 = 9 := by decide +kernel
  go_enter Tryd.func44, Tryd.ntmps44
  go_wp2
  refine bodyPost_ret (v := .tuple #[.int .i64 2, .int .i64 0]) (by simp (maxDischargeDepth := 8) [results, Tryd.results44, go_sem, *]) rfl ⟨rfl, rfl⟩

theorem cat_2_3 (w : World) : Calls Tryd.prog 44 #[.int .u32 2, .int .u32 3] w fun e w' => e = .returned (.tuple #[.int .i64 0, .int .i64 1]) ∧ w' = w := by
  have hor : bits .or .u32 8 3 = 11 := by decide +kernel
  go_enter Tryd.func44, Tryd.ntmps44
  go_wp2
  refine bodyPost_ret (v := .tuple #[.int .i64 0, .int .i64 1]) (by simp (maxDischargeDepth := 8) [results, Tryd.results44, go_sem, *]) rfl ⟨rfl, rfl⟩

theorem cat_1_0 (w : World) : Calls Tryd.prog 44 #[.int .u32 1, .int .u32 0] w fun e w' => e = .returned (.tuple #[.int .i64 1, .int .i64 0]) ∧ w' = w := by
  have hor : bits .or .u32 4 0 = 4 := by decide +kernel
  go_enter Tryd.func44, Tryd.ntmps44
  go_wp2
  refine bodyPost_ret (v := .tuple #[.int .i64 1, .int .i64 0]) (by simp (maxDischargeDepth := 8) [results, Tryd.results44, go_sem, *]) rfl ⟨rfl, rfl⟩

theorem cat_1_2 (w : World) : Calls Tryd.prog 44 #[.int .u32 1, .int .u32 2] w fun e w' => e = .returned (.tuple #[.int .i64 2, .int .i64 0]) ∧ w' = w := by
  have hor : bits .or .u32 4 2 = 6 := by decide +kernel
  go_enter Tryd.func44, Tryd.ntmps44
  go_wp2
  refine bodyPost_ret (v := .tuple #[.int .i64 2, .int .i64 0]) (by simp (maxDischargeDepth := 8) [results, Tryd.results44, go_sem, *]) rfl ⟨rfl, rfl⟩

theorem cat_1_1 (w : World) : Calls Tryd.prog 44 #[.int .u32 1, .int .u32 1] w fun e w' => e = .returned (.tuple #[.int .i64 0, .int .i64 0]) ∧ w' = w := by
  have hor : bits .or .u32 4 1 = 5 := by decide +kernel
  go_enter Tryd.func44, Tryd.ntmps44
  go_wp2
  refine bodyPost_ret (v := .tuple #[.int .i64 0, .int .i64 0]) (by simp (maxDischargeDepth := 8) [results, Tryd.results44, go_sem, *]) rfl ⟨rfl, rfl⟩

theorem cat_1_3 (w : World) : Calls Tryd.prog 44 #[.int .u32 1, .int .u32 3] w fun e w' => e = .returned (.tuple #[.int .i64 0, .int .i64 1]) ∧ w' = w := by
  have hor : bits .or .u32 4 3 = 7 := by decide +kernel
  go_enter Tryd.func44, Tryd.ntmps44
  go_wp2
  refine bodyPost_ret (v := .tuple #[.int .i64 0, .int .i64 1]) (by simp (maxDischargeDepth := 8) [results, Tryd.results44, go_sem, *]) rfl ⟨rfl, rfl⟩

theorem cat_3_0 (w : World) : Calls Tryd.prog 44 #[.int .u32 3, .int .u32 0] w fun e w' => e = .returned (.tuple #[.int .i64 0, .int .i64 0]) ∧ w' = w := by
  have hor : bits .or .u32 12 0 = 12 := by decide +kernel
  go_enter Tryd.func44, Tryd.ntmps44
  go_wp2
  refine bodyPost_ret (v := .tuple #[.int .i64 0, .int .i64 0]) (by simp (maxDischargeDepth := 8) [results, Tryd.results44, go_sem, *]) rfl ⟨rfl, rfl⟩

theorem cat_3_2 (w : World) : Calls Tryd.prog 44 #[.int .u32 3, .int .u32 2] w fun e w' => e = .returned (.tuple #[.int .i64 0, .int .i64 1]) ∧ w' = w := by
  have hor : bits .or .u32 12 2 = 14 := by decide +kernel
  go_enter Tryd.func44, Tryd.ntmps44
  go_wp2
  refine bodyPost_ret (v := .tuple #[.int .i64 0, .int .i64 1]) (by simp (maxDischargeDepth := 8) [results, Tryd.results44, go_sem, *]) rfl ⟨rfl, rfl⟩

theorem cat_3_1 (w : World) : Calls Tryd.prog 44 #[.int .u32 3, .int .u32 1] w fun e w' => e = .returned (.tuple #[.int .i64 0, .int .i64 1]) ∧ w' = w := by
  have hor : bits .or .u32 12 1 = 13 := by decide +kernel
  go_enter Tryd.func44, Tryd.ntmps44
  go_wp2
  refine bodyPost_ret (v := .tuple #[.int .i64 0, .int .i64 1]) (by simp (maxDischargeDepth := 8) [results, Tryd.results44, go_sem, *]) rfl ⟨rfl, rfl⟩

theorem cat_3_3 (w : World) : Calls Tryd.prog 44 #[.int .u32 3, .int .u32 3] w fun e w' => e = .returned (.tuple #[.int .i64 0, .int .i64 0]) ∧ w' = w := by
  have hor : bits .or .u32 12 3 = 15 := by decide +kernel
  go_enter Tryd.func44, Tryd.ntmps44
  go_wp2
  refine bodyPost_ret (v := .tuple #[.int .i64 0, .int .i64 0]) (by simp (maxDischargeDepth := 8) [results, Tryd.results44, go_sem, *]) rfl ⟨rfl, rfl⟩

theorem cat_any (p q r s : Bool) (w : World) : Calls Tryd.prog 44 #[.int .u32 (two r s : Nat), .int .u32 (two p q : Nat)] w fun e w' => e = .returned (.tuple #[.int .i64 (outB p q r s), .int .i64 (inwB p q r s)]) ∧ w' = w := by
  cases r <;> cases s <;> cases p <;> cases q
  · exact cat_0_0 w
  · exact cat_0_2 w
  · exact cat_0_1 w
  · exact cat_0_3 w
  · exact cat_2_0 w
  · exact cat_2_2 w
  · exact cat_2_1 w
  · exact cat_2_3 w
  · exact cat_1_0 w
  · exact cat_1_2 w
  · exact cat_1_1 w
  · exact cat_1_3 w
  · exact cat_3_0 w
  · exact cat_3_2 w
  · exact cat_3_1 w
  · exact cat_3_3 w

/-- What the four cells round a place are, as the rows have them. -/
theorem four_at {f : Nat → Rt} {n : Nat} (h : okTo f n = true) (k j : Nat) (hj : j < 21) :
    outAt (mapG f n) (22 * k + j) = outB ((frM f n k).testBit j) ((frM f n k).testBit (j + 1)) ((frM f n (k + 1)).testBit j) ((frM f n (k + 1)).testBit (j + 1)) ∧
    inAt (mapG f n) (22 * k + j) = inwB ((frM f n k).testBit j) ((frM f n k).testBit (j + 1)) ((frM f n (k + 1)).testBit j) ((frM f n (k + 1)).testBit (j + 1)) := by
  rw [frM_bit h j k (by omega), frM_bit h (j + 1) k (by omega), frM_bit h j (k + 1) (by omega), frM_bit h (j + 1) (k + 1) (by omega)]
  unfold outAt inAt
  rw [show 22 * k + (j + 1) = 22 * k + j + 1 by omega, show 22 * (k + 1) + j = 22 * k + j + 22 by omega, show 22 * (k + 1) + (j + 1) = 22 * k + j + 23 by omega]
  exact ⟨rfl, rfl⟩
def CornPost (G : Nat → Bool) (w : World) (e : Ending) (w' : World) : Prop :=
  e = .returned (.tuple #[.int .i64 (rowsAt (outAt G) 21), .int .i64 (rowsAt (inAt G) 21)]) ∧ Below w.heap.size w w'
theorem outB_bd (p q r s : Bool) : 0 ≤ outB p q r s ∧ outB p q r s ≤ 2 := by cases p <;> cases q <;> cases r <;> cases s <;> decide
theorem inwB_bd (p q r s : Bool) : 0 ≤ inwB p q r s ∧ inwB p q r s ≤ 2 := by cases p <;> cases q <;> cases r <;> cases s <;> decide
set_option maxHeartbeats 4000000 in
set_option maxRecDepth 100000 in
theorem corners_any (f : Nat → Rt) (n : Nat) (w : World) (hok : okTo f n = true) :
    Calls Tryd.prog 26 #[.agg (frC (frM f n))] w (CornPost (mapG f n) w) := by
  have Hok := Lib.hid hok
  have HF0 := Lib.hid (Fm.new w (frM f n))
  clear hok
  go_enter Tryd.func26, Tryd.ntmps26
  go_wp2_with (refine wpList_box_row rfl 42 _ rfl _ rfl (frC (frM f n)) rfl ?_)
  go_loopw [2, 3, 4] (fun s t i wr => ∃ k : Nat, k ≤ 21 ∧ i = .int .i64 ((k : Int) + 1) ∧ s = .int .i64 (rowsAt (outAt (mapG f n)) k) ∧ t = .int .i64 (rowsAt (inAt (mapG f n)) k) ∧ Fm wr w.heap.size (frM f n) ∧ Below w.heap.size w wr) (fun _ _ i _ => 22 - (intOf i).toNat)
  case atStart => exact ⟨0, Nat.zero_le _, rfl, rfl, rfl, HF0.out, by (repeat (first | with_reducible exact Below.refl _ _ | with_reducible assumption | ((with_reducible refine Below.alloc ?_ ?_ _); rotate_left; focus (first | with_reducible exact Nat.le_refl _ | omega | (simp; done) | (simp; omega))) | ((with_reducible refine Below.setCell ?_ ?_ _); rotate_left; focus (first | with_reducible exact Nat.le_refl _ | omega | (simp; done) | (simp; omega))) | (with_reducible refine Below.drew ?_) | ((with_reducible refine Below.trans ?_ (Below.mono (by with_reducible assumption) ?_)); rotate_left; focus (first | with_reducible exact Nat.le_refl _ | omega | (simp; done) | (simp; omega)))))⟩
  case round =>
    obtain ⟨k, hk0, rfl, rfl, rfl, hf, hbr⟩ := hrel
    have HB := Lib.hid hbr
    have HF := Lib.hid hf
    clear hbr hf
    have HS : Hid (rowsAt (outAt (mapG f n)) (k + 1) = rowsAt (outAt (mapG f n)) k + rowAt (outAt (mapG f n)) k 21 ∧ rowsAt (inAt (mapG f n)) (k + 1) = rowsAt (inAt (mapG f n)) k + rowAt (inAt (mapG f n)) k 21) := Lib.hid ⟨rfl, rfl⟩
    obtain ⟨s1, s2⟩ := rowsAt_bd (outAt_bd (mapG f n)) k
    obtain ⟨t1, t2⟩ := rowsAt_bd (inAt_bd (mapG f n)) k
    generalize hO : rowsAt (outAt (mapG f n)) k = O at s1 s2 HS
    generalize hV : rowsAt (inAt (mapG f n)) k = V at t1 t2 HS
    have HO := Lib.hid hO
    have HV := Lib.hid hV
    clear hO hV
    by_cases hlt : k < 21
    · have hk22 : (k : Int) + 1 < 22 := by omega
      go_wp2
      obtain ⟨wo, ho⟩ : ∃ wo : World, wo = wr := ⟨_, rfl⟩
      go_loopw [2, 3, 5] (fun s t i wi => ∃ j : Nat, j ≤ 21 ∧ i = .int .i64 ((j : Int) + 1) ∧ s = .int .i64 (O + rowAt (outAt (mapG f n)) k j) ∧ t = .int .i64 (V + rowAt (inAt (mapG f n)) k j) ∧ Fm wi w.heap.size (frM f n) ∧ Below w.heap.size w wi) (fun _ _ i _ => 22 - (intOf i).toNat)
      case atStart => exact ⟨0, Nat.zero_le _, rfl, by show _ = Value.int _ (O + 0); rw [Int.add_zero], by show _ = Value.int _ (V + 0); rw [Int.add_zero], HF.out, HB.out⟩
      case round =>
        obtain ⟨j, hj, rfl, rfl, rfl, hfi, hbi⟩ := hrel
        have HBI := Lib.hid hbi
        have HFI := Lib.hid hfi
        clear hbi
        obtain ⟨p1, p2⟩ := rowAt_bd (outAt_bd (mapG f n)) k j
        obtain ⟨q1, q2⟩ := rowAt_bd (inAt_bd (mapG f n)) k j
        have HS2 : Hid (rowAt (outAt (mapG f n)) k (j + 1) = rowAt (outAt (mapG f n)) k j + outAt (mapG f n) (22 * k + j) ∧ rowAt (inAt (mapG f n)) k (j + 1) = rowAt (inAt (mapG f n)) k j + inAt (mapG f n) (22 * k + j)) := Lib.hid ⟨rfl, rfl⟩
        generalize hP : rowAt (outAt (mapG f n)) k j = P at p1 p2 HS2
        generalize hQ : rowAt (inAt (mapG f n)) k j = Q at q1 q2 HS2
        have HP := Lib.hid hP
        have HQ := Lib.hid hQ
        clear hP hQ
        by_cases hlt2 : j < 21
        · have hj22 : (j : Int) + 1 < 22 := by omega
          have H4 := Lib.hid (four_at Hok.out k j hlt2)
          have c0 := hfi.c k (by omega)
          have c1 := hfi.c (k + 1) (by omega)
          have l0 := frM_lt22 Hok.out k
          have l1 := frM_lt22 Hok.out (k + 1)
          have a0 : bits .and .u32 ((frM f n k : Nat) / 2 ^ j) 3 = ((two ((frM f n k).testBit j) ((frM f n k).testBit (j + 1)) : Nat) : Int) := by
            rw [← two_bits]
            have := u32_and_nat (frM f n k / 2 ^ j) 3 (Nat.lt_of_le_of_lt (Nat.div_le_self _ _) (by omega)) (by omega)
            rw [← this]; congr 1
          have a1 : bits .and .u32 ((frM f n (k + 1) : Nat) / 2 ^ j) 3 = ((two ((frM f n (k + 1)).testBit j) ((frM f n (k + 1)).testBit (j + 1)) : Nat) : Int) := by
            rw [← two_bits]
            have := u32_and_nat (frM f n (k + 1) / 2 ^ j) 3 (Nat.lt_of_le_of_lt (Nat.div_le_self _ _) (by omega)) (by omega)
            rw [← this]; congr 1
          generalize (frM f n k).testBit j = g0 at a0 H4
          generalize (frM f n k).testBit (j + 1) = g1 at a0 H4
          generalize (frM f n (k + 1)).testBit j = g2 at a1 H4
          generalize (frM f n (k + 1)).testBit (j + 1) = g3 at a1 H4
          generalize frM f n k = m0 at c0 a0 l0
          generalize frM f n (k + 1) = m1 at c1 a1 l1
          have HCC := Lib.hid (fun w => cat_any g0 g1 g2 g3 w)
          generalize two g0 g1 = T0 at a0 HCC
          generalize two g2 g3 = T1 at a1 HCC
          obtain ⟨o1, o2⟩ := outB_bd g0 g1 g2 g3
          obtain ⟨i1, i2⟩ := inwB_bd g0 g1 g2 g3
          generalize outB g0 g1 g2 g3 = OH at o1 o2 H4 HCC
          generalize inwB g0 g1 g2 g3 = IH at i1 i2 H4 HCC
          have hk22' : (k : Int) < 22 := by omega
          have hk0 : (0 : Int) ≤ (k : Int) + 1 := by omega
          have hkn : (((k : Int) + 1).toNat) = k + 1 := by omega
          have hkw : IntKind.i64.wrap (k : Int) = (k : Int) := by rw [IntWalk.i64_left]; exact IntWalk.wrap64_in _ (by omega)
          have hjw : IntKind.i64.wrap (j : Int) = (j : Int) := by rw [IntWalk.i64_left]; exact IntWalk.wrap64_in _ (by omega)
          clear hfi
          go_wp2_with fail
          go_quiet (exact Calls.quiet_of_same (HCC.out _))
          go_wp2
          go_roundw
          case rel => exact ⟨j + 1, by omega, by go_num, by rw [HS2.out.1, H4.out.1, Int.add_assoc], by rw [HS2.out.2, H4.out.2, Int.add_assoc], HFI.out.drewN _, bel_drewN HBI.out _⟩
          case measure => simp [intOf]; omega
        · have hjn : j = 21 := by omega
          subst hjn
          go_wp2
          go_roundw
          case rel => exact ⟨k + 1, by omega, by go_num, by rw [HS.out.1, HP.out], by rw [HS.out.2, HQ.out], HFI.out, HBI.out⟩
          case measure => simp [intOf]; omega
    · have hkn : k = 21 := by omega
      subst hkn
      go_wp2
      refine bodyPost_ret (v := .tuple #[.int .i64 O, .int .i64 V]) (by simp (maxDischargeDepth := 8) [results, Tryd.results26, go_sem, *]) rfl ⟨?_, HB.out⟩
      rw [HO.out, HV.out]

set_option maxHeartbeats 2000000 in
theorem ico_any (A : Option Addr) (n cap : Nat) (f : Nat → Rt) (w : World) (hn : n ≤ maxLen) (hr : Rs w A n f) :
    Calls Tryd.prog 9 #[.slice A n cap] w fun e w' => e = .returned (.tuple #[.int .i64 (coF f n), .int .i64 (ciF f n), .bool (laidF f n)]) ∧ Below w.heap.size w w' := by
  have Hn := Lib.hid hn
  have Hr := Lib.hid hr
  clear hn hr
  cases hl : laidF f n
  · have H : Hid (coF f n = -1 ∧ ciF f n = -1) := Lib.hid (by unfold coF ciF; rw [hl]; exact ⟨rfl, rfl⟩)
    go_enter Tryd.func9, Tryd.ntmps9
    go_wp2_with fail
    refine (ilaid_val A n cap f false hl _ Hn.out Hr.out).mono ?_; rintro e w1 ⟨rfl, hb1⟩; have hz1 := hb1.size; (try simp at hz1)
    go_wp2
    refine bodyPost_ret (v := .tuple #[.int .i64 (-1), .int .i64 (-1), .bool false]) (by simp (maxDischargeDepth := 8) [results, Tryd.results9, go_sem, *]) rfl ⟨?_, by (repeat (first | with_reducible exact Below.refl _ _ | with_reducible assumption | ((with_reducible refine Below.alloc ?_ ?_ _); rotate_left; focus (first | with_reducible exact Nat.le_refl _ | omega | (simp; done) | (simp; omega))) | ((with_reducible refine Below.setCell ?_ ?_ _); rotate_left; focus (first | with_reducible exact Nat.le_refl _ | omega | (simp; done) | (simp; omega))) | (with_reducible refine Below.drew ?_) | ((with_reducible refine Below.trans ?_ (Below.mono (by with_reducible assumption) ?_)); rotate_left; focus (first | with_reducible exact Nat.le_refl _ | omega | (simp; done) | (simp; omega)))))⟩
    rw [H.out.1, H.out.2]
  · obtain ⟨h7, hok⟩ := laidF_ok hl
    have Hok := Lib.hid hok
    clear hok
    have H : Hid (coF f n = rowsAt (outAt (mapG f n)) 21 ∧ ciF f n = rowsAt (inAt (mapG f n)) 21) := Lib.hid (by unfold coF ciF; rw [hl]; exact ⟨rfl, rfl⟩)
    go_enter Tryd.func9, Tryd.ntmps9
    go_wp2_with fail
    refine (ilaid_val A n cap f true hl _ Hn.out Hr.out).mono ?_; rintro e w1 ⟨rfl, hb1⟩; have hz1 := hb1.size; (try simp at hz1)
    have Hr1 := Lib.hid (Hr.out.below hb1)
    go_wp2_with fail
    refine (framed_any A n cap f _ hl Hr1.out).mono ?_; rintro e w2 ⟨rfl, hb2⟩; have hz2 := hb2.size; (try simp at hz2)
    go_wp2_with fail
    refine (corners_any f n _ Hok.out).mono ?_; rintro e w3 ⟨rfl, hb3⟩; have hz3 := hb3.size; (try simp at hz3)
    go_wp2
    refine bodyPost_ret (v := .tuple #[.int .i64 (rowsAt (outAt (mapG f n)) 21), .int .i64 (rowsAt (inAt (mapG f n)) 21), .bool true]) (by simp (maxDischargeDepth := 8) [results, Tryd.results9, go_sem, *]) rfl ⟨?_, by (repeat (first | with_reducible exact Below.refl _ _ | with_reducible assumption | ((with_reducible refine Below.alloc ?_ ?_ _); rotate_left; focus (first | with_reducible exact Nat.le_refl _ | omega | (simp; done) | (simp; omega))) | ((with_reducible refine Below.setCell ?_ ?_ _); rotate_left; focus (first | with_reducible exact Nat.le_refl _ | omega | (simp; done) | (simp; omega))) | (with_reducible refine Below.drew ?_) | ((with_reducible refine Below.trans ?_ (Below.mono (by with_reducible assumption) ?_)); rotate_left; focus (first | with_reducible exact Nat.le_refl _ | omega | (simp; done) | (simp; omega)))))⟩
    rw [H.out.1, H.out.2]
end Go.Proofs.YtbdpngjakccjjaaDoor
