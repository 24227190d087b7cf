
/- Chapter 3 of spec. -/
import Derived.Test.YtiblgdklobnmgaaDep3
namespace Go.Proofs.Ytiblgdklobnmgaa
open Go.RowKit Go.Sort
set_option linter.unusedVariables false
theorem depF_cell (f : Nat → Rt) (n k j : Nat) (hj : j < 20) (d : Int) (h : cellK f n (k * 20 + j) = d) : depF f (j : Nat) (k : Nat) n = d := by
  rw [← h, show k * 20 + j = 20 * k + j by omega, cellK_at f n j k hj]

set_option maxHeartbeats 400000 in
theorem sda_any (A : Option Addr) (n cap : Nat) (f : Nat → Rt) (x y : Int) (w : World) (hn : n ≤ maxLen) (hr : Rs w A n f) :
    Calls Try.prog 13 #[.slice A n cap, .int .i64 x, .int .i64 y] w fun e w' => e = .returned (.int .i64 (daF f n x y)) ∧ Below w.heap.size w w' := by
  have Hn := Lib.hid hn
  have Hr := Lib.hid hr
  clear hn hr
  cases hl : laidF f n
  · have H : Hid (daF f n x y = -1) := Lib.hid (by unfold daF; rw [hl]; rfl)
    go_enter Try.func13, Try.ntmps13
    go_wp2_with fail
    refine (slaid_val A n cap f false hl _ Hn.out Hr.out).mono ?_; rintro e w1 ⟨rfl, hb1⟩; have hz1 := hb1.size; (try simp at hz1)
    go_wp2
    go_ret
    exact ⟨ret_int (by rw [H.out]), by (repeat (first | with_reducible exact Below.refl _ _ | with_reducible assumption | ((with_reducible refine Below.alloc ?_ ?_ _); rotate_left; focus (first | with_reducible exact Nat.le_refl _ | omega | (simp; done) | (simp; omega))) | ((with_reducible refine Below.setCell ?_ ?_ _); rotate_left; focus (first | with_reducible exact Nat.le_refl _ | omega | (simp; done) | (simp; omega))) | (with_reducible refine Below.drew ?_) | ((with_reducible refine Below.trans ?_ (Below.mono (by with_reducible assumption) ?_)); rotate_left; focus (first | with_reducible exact Nat.le_refl _ | omega | (simp; done) | (simp; omega)))))⟩
  · cases hx : inB x 0 19
    · have H : Hid (daF f n x y = -1) := Lib.hid (by unfold daF; rw [hl, hx]; rfl)
      go_enter Try.func13, Try.ntmps13
      go_wp2_with fail
      refine (slaid_val A n cap f true hl _ Hn.out Hr.out).mono ?_; rintro e w1 ⟨rfl, hb1⟩; have hz1 := hb1.size; (try simp at hz1)
      go_wp2_with fail
      refine (in_val x 0 19 false hx _).mono ?_; rintro e w2 ⟨rfl, hb2⟩; have hz2 := hb2.size; (try simp at hz2)
      go_wp2
      go_ret
      exact ⟨ret_int (by rw [H.out]), by (repeat (first | with_reducible exact Below.refl _ _ | with_reducible assumption | ((with_reducible refine Below.alloc ?_ ?_ _); rotate_left; focus (first | with_reducible exact Nat.le_refl _ | omega | (simp; done) | (simp; omega))) | ((with_reducible refine Below.setCell ?_ ?_ _); rotate_left; focus (first | with_reducible exact Nat.le_refl _ | omega | (simp; done) | (simp; omega))) | (with_reducible refine Below.drew ?_) | ((with_reducible refine Below.trans ?_ (Below.mono (by with_reducible assumption) ?_)); rotate_left; focus (first | with_reducible exact Nat.le_refl _ | omega | (simp; done) | (simp; omega)))))⟩
    · cases hy : inB y 0 19
      · have H : Hid (daF f n x y = -1) := Lib.hid (by unfold daF; rw [hl, hx, hy]; rfl)
        go_enter Try.func13, Try.ntmps13
        go_wp2_with fail
        refine (slaid_val A n cap f true hl _ Hn.out Hr.out).mono ?_; rintro e w1 ⟨rfl, hb1⟩; have hz1 := hb1.size; (try simp at hz1)
        go_wp2_with fail
        refine (in_val x 0 19 true hx _).mono ?_; rintro e w2 ⟨rfl, hb2⟩; have hz2 := hb2.size; (try simp at hz2)
        go_wp2_with fail
        refine (in_val y 0 19 false hy _).mono ?_; rintro e w3 ⟨rfl, hb3⟩; have hz3 := hb3.size; (try simp at hz3)
        go_wp2
        go_ret
        exact ⟨ret_int (by rw [H.out]), by (repeat (first | with_reducible exact Below.refl _ _ | with_reducible assumption | ((with_reducible refine Below.alloc ?_ ?_ _); rotate_left; focus (first | with_reducible exact Nat.le_refl _ | omega | (simp; done) | (simp; omega))) | ((with_reducible refine Below.setCell ?_ ?_ _); rotate_left; focus (first | with_reducible exact Nat.le_refl _ | omega | (simp; done) | (simp; omega))) | (with_reducible refine Below.drew ?_) | ((with_reducible refine Below.trans ?_ (Below.mono (by with_reducible assumption) ?_)); rotate_left; focus (first | with_reducible exact Nat.le_refl _ | omega | (simp; done) | (simp; omega)))))⟩
      · have H : Hid (daF f n x y = depF f x y n) := Lib.hid (by unfold daF; rw [hl, hx, hy]; rfl)
        obtain ⟨h7, hok⟩ := laidF_ok hl
        have Hok := Lib.hid hok
        clear hok
        go_enter Try.func13, Try.ntmps13
        go_wp2_with fail
        refine (slaid_val A n cap f true hl _ Hn.out Hr.out).mono ?_; rintro e w1 ⟨rfl, hb1⟩; have hz1 := hb1.size; (try simp at hz1)
        have Hr1 := Lib.hid (Hr.out.below hb1)
        go_wp2_with fail
        refine (in_val x 0 19 true hx _).mono ?_; rintro e w2 ⟨rfl, hb2⟩; have hz2 := hb2.size; (try simp at hz2)
        have Hr2 := Lib.hid (Hr1.out.below hb2)
        go_wp2_with fail
        refine (in_val y 0 19 true hy _).mono ?_; rintro e w3 ⟨rfl, hb3⟩; have hz3 := hb3.size; (try simp at hz3)
        have Hr3 := Lib.hid (Hr2.out.below hb3)
        go_wp2_with fail
        refine (depth_any A n cap f x y _ h7 Hok.out Hr3.out).mono ?_; rintro e w4 ⟨rfl, hb4⟩; have hz4 := hb4.size; (try simp at hz4)
        go_wp2
        go_ret
        exact ⟨ret_int (by rw [H.out]), by (repeat (first | with_reducible exact Below.refl _ _ | with_reducible assumption | ((with_reducible refine Below.alloc ?_ ?_ _); rotate_left; focus (first | with_reducible exact Nat.le_refl _ | omega | (simp; done) | (simp; omega))) | ((with_reducible refine Below.setCell ?_ ?_ _); rotate_left; focus (first | with_reducible exact Nat.le_refl _ | omega | (simp; done) | (simp; omega))) | (with_reducible refine Below.drew ?_) | ((with_reducible refine Below.trans ?_ (Below.mono (by with_reducible assumption) ?_)); rotate_left; focus (first | with_reducible exact Nat.le_refl _ | omega | (simp; done) | (simp; omega)))))⟩
theorem sda_val (A : Option Addr) (n cap : Nat) (f : Nat → Rt) (x y v : Int) (h : daF f n x y = v) (w : World) (hn : n ≤ maxLen) (hr : Rs w A n f) :
    Calls Try.prog 13 #[.slice A n cap, .int .i64 x, .int .i64 y] w fun e w' => e = .returned (.int .i64 v) ∧ Below w.heap.size w w' := h ▸ sda_any A n cap f x y w hn hr

set_option maxHeartbeats 1000000 in
theorem sdepths_yes (A : Option Addr) (n cap : Nat) (f : Nat → Rt) (w : World) (hn : n ≤ maxLen) (hr : Rs w A n f) (hl : laidF f n = true) :
    Calls Try.prog 19 #[.slice A n cap] w (IntsPost (n + 1) (fun d => histF f n d) w) := by
  have Hn := Lib.hid hn
  have Hr := Lib.hid hr
  obtain ⟨h7, hok⟩ := laidF_ok hl
  have Hok := Lib.hid hok
  have hmk := make_ints1 n (by omega)
  clear hn hr hok
  go_enter Try.func19, Try.ntmps19
  go_wp2_with fail
  refine (slaid_val A n cap f true hl _ Hn.out Hr.out).mono ?_; rintro e w1 ⟨rfl, hb1⟩; have hz1 := hb1.size; (try simp at hz1)
  have Hr1 := Lib.hid (Hr.out.below hb1)
  have Hb1 := Lib.hid hb1
  clear hb1
  go_wp2
  clear hmk
  go_loopw [4] (fun y wr => ∃ k : Nat, k ≤ 20 ∧ y = .int .i64 k ∧ Iw wr (some ⟨w1.heap.size, 0, none⟩) (n + 1) (histN f n (k * 20)) w1.heap.size ∧ Below w1.heap.size w1 wr) (fun y _ => 20 - (intOf y).toNat)
  case atStart => exact ⟨0, Nat.zero_le _, rfl, (Iw.made w1 (n + 1)).congr (fun i _ => rfl), (Below.refl _ _).alloc (Nat.le_refl _) _⟩
  case round =>
    obtain ⟨k, hk, rfl, hI, hbr⟩ := hrel
    have HI := Lib.hid hI
    have HB := Lib.hid hbr
    have hzr : w1.heap.size < wr.heap.size := hI.ltp (by omega)
    clear hI hbr
    by_cases hlt : k < 20
    · have hk20 : (k : Int) < 20 := by omega
      go_wp2
      obtain ⟨wo, ho⟩ : ∃ wo : World, wo = wr := ⟨_, rfl⟩
      go_loopw [5] (fun x wi => ∃ j : Nat, j ≤ 20 ∧ x = .int .i64 j ∧ Iw wi (some ⟨w1.heap.size, 0, none⟩) (n + 1) (histN f n (k * 20 + j)) w1.heap.size ∧ Below w1.heap.size w1 wi) (fun x _ => 20 - (intOf x).toNat)
      case atStart => exact ⟨0, Nat.zero_le _, rfl, HI.out, HB.out⟩
      case round =>
        obtain ⟨j, hj, rfl, hJ, hbi⟩ := hrel
        have HJ := Lib.hid hJ
        have HBI := Lib.hid hbi
        have hzi : w1.heap.size < wr.heap.size := hJ.ltp (by omega)
        clear hJ hbi
        by_cases hlt2 : j < 20
        · have hj20 : (j : Int) < 20 := by omega
          obtain ⟨d, hd, hc⟩ := cell_nat f n (k * 20 + j)
          have hdep := depF_cell f n k j hlt2 d hc
          have HR2 : Hid (Rs wr A n f) := Lib.hid (Hr1.out.below HBI.out)
          go_wp2_with fail
          refine (depth_val A n cap f j k d hdep _ h7 Hok.out HR2.out).mono ?_; rintro e w2 ⟨rfl, hb2⟩; have hz2 := hb2.size; (try simp at hz2)
          have I2 := Lib.hid (HJ.out.below hb2)
          have B2 : Hid (Below w1.heap.size w1 w2) := Lib.hid (HBI.out.trans (hb2.mono (by omega)))
          clear hb2
          obtain ⟨c0, f0⟩ := I2.out.c (show d < n + 1 by omega)
          obtain ⟨s1, s2⟩ := histN_bd f n (k * 20 + j) d
          have hs3 : histN f n (k * 20 + j) d ≤ 400 := by omega
          have e := histN_hit f n (k * 20 + j) d hc
          generalize hS : histN f n (k * 20 + j) d = S at c0 s1 s2 hs3 e
          have HC := Lib.hid (And.intro hc e)
          clear hc e hS s2
          have hdn : (d : Int) < n + 1 := by omega
          go_wp2
          go_roundw
          case rel =>
            refine ⟨j + 1, by omega, by go_num, ?_, bel_set B2.out (Nat.le_refl _) _⟩
            have h := I2.out.set (k := d) (f' := histN f n (k * 20 + (j + 1))) (by omega) (fun i _ hne => histN_step f n (k * 20 + j) d HC.out.1 i hne)
            rw [show histN f n (k * 20 + (j + 1)) d = S + 1 from HC.out.2] at h
            exact h
          case measure => simp [intOf]; omega
        · have hjn : j = 20 := by omega
          subst hjn
          go_wp2
          go_roundw
          case rel => exact ⟨k + 1, by omega, by go_num, by rw [show (k + 1) * 20 = k * 20 + 20 by omega]; exact HJ.out, HBI.out⟩
          case measure => simp [intOf]; omega
    · have hkn : k = 20 := by omega
      subst hkn
      go_wp2
      go_ret
      exact ⟨_, _, w1.heap.size, rfl, HI.out.congr (fun i _ => (hist_run f n i).symm), by omega, Hb1.out.trans (HB.out.mono (by omega))⟩
set_option maxHeartbeats 400000 in
theorem sdepths_any (A : Option Addr) (n cap : Nat) (f : Nat → Rt) (w : World) (hn : n ≤ maxLen) (hr : Rs w A n f) :
    Calls Try.prog 19 #[.slice A n cap] w (IntsPost (cntF (laidF f n) (n + 1)) (fun d => histF f n d) w) := by
  cases hl : laidF f n
  · have Hn := Lib.hid hn
    have Hr := Lib.hid hr
    clear hn hr
    go_enter Try.func19, Try.ntmps19
    go_wp2_with fail
    refine (slaid_val A n cap f false hl _ Hn.out Hr.out).mono ?_; rintro e w1 ⟨rfl, hb1⟩; have hz1 := hb1.size; (try simp at hz1)
    go_wp2
    go_ret
    exact ⟨_, 0, w.heap.size, rfl, Or.inl rfl, Nat.le_refl _, by (repeat (first | with_reducible exact Below.refl _ _ | with_reducible assumption | ((with_reducible refine Below.alloc ?_ ?_ _); rotate_left; focus (first | with_reducible exact Nat.le_refl _ | omega | (simp; done) | (simp; omega))) | ((with_reducible refine Below.setCell ?_ ?_ _); rotate_left; focus (first | with_reducible exact Nat.le_refl _ | omega | (simp; done) | (simp; omega))) | (with_reducible refine Below.drew ?_) | ((with_reducible refine Below.trans ?_ (Below.mono (by with_reducible assumption) ?_)); rotate_left; focus (first | with_reducible exact Nat.le_refl _ | omega | (simp; done) | (simp; omega)))))⟩
  · exact sdepths_yes A n cap f w hn hr hl
theorem sdepths_val (A : Option Addr) (n cap : Nat) (f : Nat → Rt) (M : Nat) (h : cntF (laidF f n) (n + 1) = M) (w : World) (hn : n ≤ maxLen) (hr : Rs w A n f) :
    Calls Try.prog 19 #[.slice A n cap] w (IntsPost M (fun d => histF f n d) w) := h ▸ sdepths_any A n cap f w hn hr

theorem bestTo_hit (f : Nat → Rt) (n k j : Nat) (hj : j < 20) (a b c d : Int) (hb : bestTo f n (k * 20 + j) = (a, b, c)) (hd : cellK f n (k * 20 + j) = d) (h : a < d) : bestTo f n (k * 20 + (j + 1)) = (d, (j : Int), (k : Int)) := by
  show bestTo f n (k * 20 + j + 1) = _
  simp only [bestTo]
  rw [hb, hd, if_pos h, show (k * 20 + j) % 20 = j by omega, show (k * 20 + j) / 20 = k by omega]
theorem bestTo_miss (f : Nat → Rt) (n k j : Nat) (a b c d : Int) (hb : bestTo f n (k * 20 + j) = (a, b, c)) (hd : cellK f n (k * 20 + j) = d) (h : ¬ a < d) : bestTo f n (k * 20 + (j + 1)) = (a, b, c) := by
  show bestTo f n (k * 20 + j + 1) = _
  simp only [bestTo]
  rw [hb, hd, if_neg h]
set_option maxHeartbeats 1000000 in
theorem sde_any (A : Option Addr) (n cap : Nat) (f : Nat → Rt) (w : World) (hn : n ≤ maxLen) (hr : Rs w A n f) :
    Calls Try.prog 25 #[.slice A n cap] w fun e w' => e = .returned (quad (deF f n) (laidF f n)) ∧ Below w.heap.size w w' := by
  have Hn := Lib.hid hn
  have Hr := Lib.hid hr
  clear hn hr
  cases hl : laidF f n
  · have H : Hid (deF f n = (-1, -1, -1)) := Lib.hid (by unfold deF; rw [hl]; rfl)
    go_enter Try.func25, Try.ntmps25
    go_wp2
    go_loopw [6, 7, 8, 9] (fun s6 s7 s8 y wr => y = .int .i64 0 ∧ s6 = .int .i64 (-1) ∧ s7 = .int .i64 (-1) ∧ s8 = .int .i64 (-1) ∧ Below w.heap.size w wr) (fun _ _ _ y _ => 20 - (intOf y).toNat)
    case atStart => exact ⟨rfl, rfl, rfl, rfl, Below.refl _ _⟩
    case round =>
      obtain ⟨rfl, rfl, rfl, rfl, hbr⟩ := hrel
      have hzr := hbr.size
      have HB := Lib.hid hbr
      clear hbr
      go_wp2_with fail
      refine (slaid_val A n cap f false hl _ Hn.out (Hr.out.below HB.out)).mono ?_; rintro e w1 ⟨rfl, hb1⟩; have hz1 := hb1.size; (try simp at hz1)
      have B1 : Hid (Below w.heap.size w w1) := Lib.hid (HB.out.trans (hb1.mono hzr))
      clear hb1
      go_wp2
      refine bodyPost_ret (v := .tuple #[.int .i64 (-1), .int .i64 (-1), .int .i64 (-1), .bool false]) (by simp (maxDischargeDepth := 8) [results, Try.results25, go_sem, *]) rfl ⟨?_, B1.out⟩
      rw [H.out]; rfl
  · have H : Hid (deF f n = bestTo f n 400) := Lib.hid (by unfold deF; rw [hl]; rfl)
    obtain ⟨h7, hok⟩ := laidF_ok hl
    have Hok := Lib.hid hok
    have HD : Hid (0 ≤ (bestTo f n 400).1) := Lib.hid (by
      obtain ⟨d, x, y, h, _⟩ := deepest_law f n (fun i hi => okTo_le hok hi)
      rw [h]; simp)
    clear hok
    go_enter Try.func25, Try.ntmps25
    go_wp2
    go_loopw [6, 7, 8, 9] (fun s6 s7 s8 y wr => ∃ (k : Nat) (a b c : Int), k ≤ 20 ∧ y = .int .i64 k ∧ s6 = .int .i64 a ∧ s7 = .int .i64 b ∧ s8 = .int .i64 c ∧ bestTo f n (k * 20) = (a, b, c) ∧ Below w.heap.size w wr) (fun _ _ _ y _ => 20 - (intOf y).toNat)
    case atStart => exact ⟨0, -1, -1, -1, Nat.zero_le _, rfl, rfl, rfl, rfl, rfl, Below.refl _ _⟩
    case round =>
      obtain ⟨k, a, b, c, hk, rfl, rfl, rfl, rfl, hb, hbr⟩ := hrel
      have HB := Lib.hid hbr
      have HE := Lib.hid hb
      have hzr := hbr.size
      clear hbr hb
      by_cases hlt : k < 20
      · have hk20 : (k : Int) < 20 := by omega
        go_wp2_with fail
        refine (slaid_val A n cap f true hl _ Hn.out (Hr.out.below HB.out)).mono ?_; rintro e w1 ⟨rfl, hb1⟩; have hz1 := hb1.size; (try simp at hz1)
        have B1 : Hid (Below w.heap.size w w1) := Lib.hid (HB.out.trans (hb1.mono hzr))
        clear hb1
        go_wp2
        go_loopw [6, 7, 8, 10] (fun s6 s7 s8 x wi => ∃ (j : Nat) (a b c : Int), j ≤ 20 ∧ x = .int .i64 j ∧ s6 = .int .i64 a ∧ s7 = .int .i64 b ∧ s8 = .int .i64 c ∧ bestTo f n (k * 20 + j) = (a, b, c) ∧ Below w.heap.size w wi) (fun _ _ _ x _ => 20 - (intOf x).toNat)
        case atStart => exact ⟨0, a, b, c, Nat.zero_le _, rfl, rfl, rfl, rfl, HE.out, B1.out⟩
        case round =>
          obtain ⟨j, a, b, c, hj, rfl, rfl, rfl, rfl, hb, hbi⟩ := hrel
          have hzi := hbi.size
          have HBI := Lib.hid hbi
          have HJ := Lib.hid hb
          clear hbi hb
          by_cases hlt2 : j < 20
          · have hj20 : (j : Int) < 20 := by omega
            obtain ⟨d, hd⟩ : ∃ d : Int, cellK f n (k * 20 + j) = d := ⟨_, rfl⟩
            have hdep := depF_cell f n k j hlt2 d hd
            have HDD := Lib.hid hd
            clear hd
            by_cases hgt : a < d
            · go_wp2_with fail
              refine (depth_val A n cap f j k d hdep _ h7 Hok.out (Hr.out.below HBI.out)).mono ?_; rintro e w2 ⟨rfl, hb2⟩; have hz2 := hb2.size; (try simp at hz2)
              have B2 : Hid (Below w.heap.size w w2) := Lib.hid (HBI.out.trans (hb2.mono hzi))
              clear hb2
              go_wp2
              go_roundw
              case rel => exact ⟨j + 1, d, j, k, by omega, by go_num, rfl, rfl, rfl, bestTo_hit f n k j hlt2 a b c d HJ.out HDD.out hgt, B2.out⟩
              case measure => simp [intOf]; omega
            · go_wp2_with fail
              refine (depth_val A n cap f j k d hdep _ h7 Hok.out (Hr.out.below HBI.out)).mono ?_; rintro e w2 ⟨rfl, hb2⟩; have hz2 := hb2.size; (try simp at hz2)
              have B2 : Hid (Below w.heap.size w w2) := Lib.hid (HBI.out.trans (hb2.mono hzi))
              clear hb2
              go_wp2
              go_roundw
              case rel => exact ⟨j + 1, a, b, c, by omega, by go_num, rfl, rfl, rfl, bestTo_miss f n k j a b c d HJ.out HDD.out (by omega), B2.out⟩
              case measure => simp [intOf]; omega
          · have hjn : j = 20 := by omega
            subst hjn
            go_wp2
            go_roundw
            case rel => exact ⟨k + 1, a, b, c, by omega, by go_num, rfl, rfl, rfl, by rw [show (k + 1) * 20 = k * 20 + 20 by omega]; exact HJ.out, HBI.out⟩
            case measure => simp [intOf]; omega
      · have hkn : k = 20 := by omega
        subst hkn
        have ha : 0 ≤ a := by have h := HD.out; have e := HE.out; rw [show (400 : Nat) = 20 * 20 from rfl, e] at h; exact h
        go_wp2
        refine bodyPost_ret (v := .tuple #[.int .i64 a, .int .i64 b, .int .i64 c, .bool true]) (by simp (maxDischargeDepth := 8) [results, Try.results25, go_sem, *]) rfl ⟨?_, HB.out⟩
        rw [H.out, show (400 : Nat) = 20 * 20 from rfl, HE.out]; rfl

def tailP (f : Nat → Rt) (n K j : Nat) : Int := sumN j fun i => histF f n ((K + i : Nat) : Int)
theorem tailP_bd (f : Nat → Rt) (n K j : Nat) : 0 ≤ tailP f n K j ∧ tailP f n K j ≤ 400 * j := by
  unfold tailP
  induction j with
  | zero => simp [sumN]
  | succ j ih =>
    simp only [sumN]
    have := histF_bd f n ((K + j : Nat) : Int)
    omega
theorem tailP_all (f : Nat → Rt) (n K j : Nat) (h : n + 1 ≤ K + j) : tailP f n K j = tailF f n K := by
  unfold tailP; rw [← tail_sum f n K j, tail_far f n _ (by omega)]; omega
set_option maxHeartbeats 1000000 in
theorem sal_any (A : Option Addr) (n cap : Nat) (f : Nat → Rt) (d : Int) (w : World) (hn : n ≤ maxLen) (hr : Rs w A n f) :
    Calls Try.prog 28 #[.slice A n cap, .int .i64 d] w fun e w' => e = .returned (.int .i64 (alF f n d)) ∧ Below w.heap.size w w' := by
  have Hn := Lib.hid hn
  have Hr := Lib.hid hr
  clear hn hr
  cases hl : laidF f n
  · have H : Hid (alF f n d = -1) := Lib.hid (by unfold alF; rw [hl]; rfl)
    go_enter Try.func28, Try.ntmps28
    go_wp2_with fail
    refine (slaid_val A n cap f false hl _ Hn.out Hr.out).mono ?_; rintro e w1 ⟨rfl, hb1⟩; have hz1 := hb1.size; (try simp at hz1)
    go_wp2
    go_ret
    exact ⟨ret_int (by rw [H.out]), by (repeat (first | with_reducible exact Below.refl _ _ | with_reducible assumption | ((with_reducible refine Below.alloc ?_ ?_ _); rotate_left; focus (first | with_reducible exact Nat.le_refl _ | omega | (simp; done) | (simp; omega))) | ((with_reducible refine Below.setCell ?_ ?_ _); rotate_left; focus (first | with_reducible exact Nat.le_refl _ | omega | (simp; done) | (simp; omega))) | (with_reducible refine Below.drew ?_) | ((with_reducible refine Below.trans ?_ (Below.mono (by with_reducible assumption) ?_)); rotate_left; focus (first | with_reducible exact Nat.le_refl _ | omega | (simp; done) | (simp; omega)))))⟩
  · by_cases hd : 0 ≤ d
    · obtain ⟨K, rfl⟩ : ∃ K : Nat, d = K := ⟨d.toNat, by omega⟩
      have H : Hid (alF f n K = tailF f n K) := Lib.hid (by unfold alF; rw [hl, show decide (0 ≤ (K : Int)) = true by simp]; rfl)
      have h7 := (laidF_ok hl).1
      go_enter Try.func28, Try.ntmps28
      go_wp2_with fail
      refine (slaid_val A n cap f true hl _ Hn.out Hr.out).mono ?_; rintro e w1 ⟨rfl, hb1⟩; have hz1 := hb1.size; (try simp at hz1)
      have Hr1 := Lib.hid (Hr.out.below hb1)
      have Hb1 := Lib.hid hb1
      clear hb1
      go_wp2_with fail
      refine (sdepths_yes A n cap f _ Hn.out Hr1.out hl).mono ?_; rintro e w2 ⟨G, gc, g, rfl, hI, hgs, hb2⟩
      have HB2 : Hid (Below w.heap.size w w2) := Lib.hid (Hb1.out.trans (hb2.mono (by omega)))
      have HI := Lib.hid hI
      clear hI hb2
      go_wp2
      go_loopw [5, 7] (fun s i wr => ∃ j : Nat, (j = 0 ∨ K + j ≤ n + 1) ∧ i = .int .i64 ((K + j : Nat) : Int) ∧ s = .int .i64 (tailP f n K j) ∧ wr = w2) (fun _ i _ => n + 1 - (intOf i).toNat)
      case atStart => exact ⟨0, Or.inl rfl, rfl, rfl, rfl⟩
      case round =>
        obtain ⟨j, hj, rfl, rfl, rfl⟩ := hrel
        obtain ⟨s1, s2⟩ := tailP_bd f n K j
        have hst : tailP f n K (j + 1) = tailP f n K j + histF f n ((K + j : Nat) : Int) := rfl
        generalize hS : tailP f n K j = S at s1 s2 hst
        have HS := Lib.hid (And.intro hS hst)
        clear hS hst
        by_cases hlt : K + j < n + 1
        · obtain ⟨b, off, hA, hbl, c0⟩ := HI.out.is.at_ hlt
          subst hA
          obtain ⟨t1, t2⟩ := histF_bd f n ((K + j : Nat) : Int)
          generalize hV : histF f n ((K + j : Nat) : Int) = V at c0 t1 t2
          have HV := Lib.hid hV
          clear hV
          have hkn : ((K + j : Nat) : Int) < n + 1 := by omega
          generalize hQ : K + j = Q at c0 hkn hlt
          have HQ := Lib.hid hQ
          clear hQ
          go_wp2
          go_roundw
          case rel => exact ⟨j + 1, by have := HQ.out; omega, by rw [← Nat.add_assoc, HQ.out]; go_num, by rw [HS.out.2, HV.out], trivial⟩
          case measure => simp [intOf]; omega
        · have hkn : ¬ ((K + j : Nat) : Int) < n + 1 := by omega
          have hE := Lib.hid (tailP_all f n K j (by omega))
          generalize hQ : K + j = Q at hkn hlt
          clear hQ
          go_wp2
          go_ret
          exact ⟨ret_int (by rw [H.out, ← hE.out, HS.out.1]), HB2.out⟩
    · have H : Hid (alF f n d = -1) := Lib.hid (by unfold alF; rw [hl, show decide (0 ≤ d) = false by simpa using hd]; rfl)
      go_enter Try.func28, Try.ntmps28
      go_wp2_with fail
      refine (slaid_val A n cap f true hl _ Hn.out Hr.out).mono ?_; rintro e w1 ⟨rfl, hb1⟩; have hz1 := hb1.size; (try simp at hz1)
      go_wp2
      go_ret
      exact ⟨ret_int (by rw [H.out]), by (repeat (first | with_reducible exact Below.refl _ _ | with_reducible assumption | ((with_reducible refine Below.alloc ?_ ?_ _); rotate_left; focus (first | with_reducible exact Nat.le_refl _ | omega | (simp; done) | (simp; omega))) | ((with_reducible refine Below.setCell ?_ ?_ _); rotate_left; focus (first | with_reducible exact Nat.le_refl _ | omega | (simp; done) | (simp; omega))) | (with_reducible refine Below.drew ?_) | ((with_reducible refine Below.trans ?_ (Below.mono (by with_reducible assumption) ?_)); rotate_left; focus (first | with_reducible exact Nat.le_refl _ | omega | (simp; done) | (simp; omega)))))⟩
theorem sal_val (A : Option Addr) (n cap : Nat) (f : Nat → Rt) (d v : Int) (h : alF f n d = v) (w : World) (hn : n ≤ maxLen) (hr : Rs w A n f) :
    Calls Try.prog 28 #[.slice A n cap, .int .i64 d] w fun e w' => e = .returned (.int .i64 v) ∧ Below w.heap.size w w' := h ▸ sal_any A n cap f d w hn hr
end Go.Proofs.Ytiblgdklobnmgaa
