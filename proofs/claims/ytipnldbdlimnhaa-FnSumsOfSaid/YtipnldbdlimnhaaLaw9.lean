
/- The law of SumsOf: its walk. -/
import Derived.Test.YtipnldbdlimnhaaLaw8
namespace Go.Proofs.Ytipnldbdlimnhaa
open Go.RowKit Go.Sort Go.BigFrame
set_option linter.unusedVariables false
theorem ac_laid {f : Nat → Rt} {n : Nat} (hl : laidF f n = true) (h0 : 0 < n) : acF f n = okB (foldC (upTo f n)) := by
  unfold acF; rw [hl, show decide (n = 0) = false by simp; omega]; simp
/-- the last sum -/
def lastF (f : Nat → Rt) (n : Nat) : Int := if acF f n then areaM (acRF f n) else 0
theorem last_eq {f : Nat → Rt} {n : Nat} (hl : laidF f n = true) (h0 : 0 < n) : sumsAt f n (n - 1) = lastF f n := by
  obtain ⟨k, rfl⟩ : ∃ k, n = k + 1 := ⟨n - 1, by omega⟩
  rw [Nat.add_sub_cancel, sums_last]
  unfold lastF areaC
  rw [ac_laid hl h0]
  by_cases h : okB (foldC (upTo f (k + 1))) = true
  · rw [if_pos h, if_pos h, (ac_facts (by rw [ac_laid hl h0]; exact h)).2.2.2]
  · rw [if_neg h, if_neg h]
def secondF (f : Nat → Rt) (n : Nat) : Int := if 1 < n then sumsAt f n 1 else 0
theorem sums_facts {f : Nat → Rt} {n : Nat} (hl : laidF f n = true) (h0 : 0 < n) : sumsAt f n 0 = allF f n ∧ sumsAt f n (n - 1) = lastF f n ∧ sumsAt f n 0 - secondF f n ≤ uaF f n := by
  obtain ⟨h7, hok⟩ := laidF_ok hl
  refine ⟨sums_first f n (fun i hi => okTo_le hok hi), last_eq hl h0, ?_⟩
  have e : uaF f n = cells (fun x y => one (anyTo f x y n)) := by unfold uaF; rw [hl]; rfl
  rw [e]
  have h2 := (union_bonf f n).2
  unfold secondF
  by_cases h1 : 1 < n
  · rw [if_pos h1]; exact h2
  · obtain rfl : n = 1 := by omega
    rw [if_neg h1]
    rw [sumsAt_one_one] at h2
    exact h2
theorem iac_val9 (A : Option Addr) (n cap : Nat) (f : Nat → Rt) (r : Rt) (b : Bool) (h1 : acRF f n = r) (h2 : acF f n = b) (w : World) (hn : n ≤ maxLen) (hr : Rs w A n f) :
    Calls Try.prog 23 #[.slice A n cap] w fun e w' => e = .returned (.tuple #[rv r, .bool b]) ∧ Below w.heap.size w w' := by
  subst h1 h2; exact iac_any A n cap f w hn hr

set_option maxHeartbeats 8000000 in
theorem walkSumsOf (a : Option Addr) (len cap : Nat) (w : World) (hc : Came w a len cap) :
    Calls Try.prog 6 #[.slice a len cap] w fun e w' => e = .returned (.bool true) ∧ Below w.heap.size w w' := by
  have hm := hc.len_le
  by_cases hl : 1048576 < len
  · go_enter Try.func6, Try.ntmps6
    go_wp2
    go_ret
    exact ⟨rfl, Below.refl _ _⟩
  · go_enter Try.func6, Try.ntmps6
    go_wp2_with fail
    refine (dSumsOf _ _ _ _ hc).mono ?_; rintro e w1 hp; have HP1 := Lib.hid hp; clear hp; obtain ⟨A, m, lcap, g, f, rfl, hm8, ho1, hg1, hh1, hb1⟩ := HP1.out; have hz1 := hb1.size; (try simp at hz1); have HO1 := Lib.hid ho1; have HH1 := Lib.hid hh1; clear ho1 hh1; have hmm : m ≤ maxLen := (by unfold maxLen; omega); have Hmm := Lib.hid hmm; clear hmm
    cases hL : laidF f m
    · have HMc : Hid (cntF (laidF f m) m = 0) := Lib.hid (by rw [hL]; rfl)
      have hm0 : ¬ (m = 0) := by intro h; subst h; cases hL
      have hn0 : ((m : Int) == 0) = false := by simp; omega
      go_wp2_with fail
      refine (isums_val A m lcap f 0 HMc.out _ Hmm.out HO1.out.rs).mono ?_; rintro e w2 hp; have HP2 := Lib.hid hp; clear hp; obtain ⟨A2, c2, g2, rfl, hi2, hgg2, hb2⟩ := HP2.out; have hz2 := hb2.size; have HI2 := Lib.hid hi2; clear hi2; have HO2 := Lib.hid (HO1.out.below hb2)
      go_wp2_with fail
      refine (ssums_val A m lcap f 0 HMc.out _ Hmm.out HO2.out.rs).mono ?_; rintro e w3 hp; have HP3 := Lib.hid hp; clear hp; obtain ⟨A3, c3, g3, rfl, hi3, hgg3, hb3⟩ := HP3.out; have hz3 := hb3.size; have HI3 := Lib.hid hi3; clear hi3; have HO3 := Lib.hid (HO2.out.below hb3); have HI23 := Lib.hid (HI2.out.below hb3)
      go_wp2_with fail
      refine (sameints_same A2 A3 0 c2 c3 (sumsAt f m) _ (by unfold maxLen; omega) HI23.out.is HI3.out.is).mono ?_; rintro e w4 ⟨rfl, hb4⟩; have hz4 := hb4.size; have HO4 := Lib.hid (HO3.out.below hb4); have HI24 := Lib.hid (HI23.out.below hb4)
      go_wp2_with fail
      refine (ilaid_val A m lcap f false hL _ Hmm.out HO4.out.rs).mono ?_; rintro e w5 ⟨rfl, hb5⟩; have hz5 := hb5.size; (try simp at hz5)
      go_wp2_with fail
      refine (alive_any _).mono ?_; rintro e w6 ⟨rfl, hb6⟩; have hz6 := hb6.size; (try simp at hz6)
      go_wp2
      go_ret
      exact ⟨rfl, by (repeat (first | with_reducible exact Below.refl _ _ | with_reducible assumption | ((with_reducible refine Below.alloc ?_ ?_ _); rotate_left; focus (first | with_reducible exact Nat.le_refl _ | omega | (simp; done) | (simp; omega))) | ((with_reducible refine Below.setCell ?_ ?_ _); rotate_left; focus (first | with_reducible exact Nat.le_refl _ | omega | (simp; done) | (simp; omega))) | (with_reducible refine Below.drew ?_) | ((with_reducible refine Below.trans ?_ (Below.mono (by with_reducible assumption) ?_)); rotate_left; focus (first | with_reducible exact Nat.le_refl _ | omega | (simp; done) | (simp; omega)))))⟩
    · have HMc : Hid (cntF (laidF f m) m = m) := Lib.hid (by rw [hL]; rfl)
      by_cases hm0 : m = 0
      · subst hm0
        go_wp2_with fail
        refine (isums_val A 0 lcap f 0 HMc.out _ Hmm.out HO1.out.rs).mono ?_; rintro e w2 hp; have HP2 := Lib.hid hp; clear hp; obtain ⟨A2, c2, g2, rfl, hi2, hgg2, hb2⟩ := HP2.out; have hz2 := hb2.size; have HI2 := Lib.hid hi2; clear hi2; have HO2 := Lib.hid (HO1.out.below hb2)
        go_wp2_with fail
        refine (ssums_val A 0 lcap f 0 HMc.out _ Hmm.out HO2.out.rs).mono ?_; rintro e w3 hp; have HP3 := Lib.hid hp; clear hp; obtain ⟨A3, c3, g3, rfl, hi3, hgg3, hb3⟩ := HP3.out; have hz3 := hb3.size; have HI3 := Lib.hid hi3; clear hi3; have HO3 := Lib.hid (HO2.out.below hb3); have HI23 := Lib.hid (HI2.out.below hb3)
        go_wp2_with fail
        refine (sameints_same A2 A3 0 c2 c3 (sumsAt f 0) _ (by unfold maxLen; omega) HI23.out.is HI3.out.is).mono ?_; rintro e w4 ⟨rfl, hb4⟩; have hz4 := hb4.size; have HO4 := Lib.hid (HO3.out.below hb4); have HI24 := Lib.hid (HI23.out.below hb4)
        go_wp2_with fail
        refine (alive_any _).mono ?_; rintro e w5 ⟨rfl, hb5⟩; have hz5 := hb5.size; (try simp at hz5)
        go_wp2
        go_ret
        exact ⟨rfl, by (repeat (first | with_reducible exact Below.refl _ _ | with_reducible assumption | ((with_reducible refine Below.alloc ?_ ?_ _); rotate_left; focus (first | with_reducible exact Nat.le_refl _ | omega | (simp; done) | (simp; omega))) | ((with_reducible refine Below.setCell ?_ ?_ _); rotate_left; focus (first | with_reducible exact Nat.le_refl _ | omega | (simp; done) | (simp; omega))) | (with_reducible refine Below.drew ?_) | ((with_reducible refine Below.trans ?_ (Below.mono (by with_reducible assumption) ?_)); rotate_left; focus (first | with_reducible exact Nat.le_refl _ | omega | (simp; done) | (simp; omega)))))⟩
      · have hn0 : ((m : Int) == 0) = false := by simp; omega
        obtain ⟨h7, hok⟩ := laidF_ok hL
        obtain ⟨s1, s2, s3⟩ := sums_facts hL (by omega)
        have Hok := Lib.hid hok
        have S1 := Lib.hid s1
        have S2 := Lib.hid s2
        have S3 := Lib.hid s3
        clear hok s1 s2 s3
        go_wp2_with fail
        refine (isums_val A m lcap f m HMc.out _ Hmm.out HO1.out.rs).mono ?_; rintro e w2 hp; have HP2 := Lib.hid hp; clear hp; obtain ⟨A2, c2, g2, rfl, hi2, hgg2, hb2⟩ := HP2.out; have hz2 := hb2.size; have HI2 := Lib.hid hi2; clear hi2; have HO2 := Lib.hid (HO1.out.below hb2)
        go_wp2_with fail
        refine (ssums_val A m lcap f m HMc.out _ Hmm.out HO2.out.rs).mono ?_; rintro e w3 hp; have HP3 := Lib.hid hp; clear hp; obtain ⟨A3, c3, g3, rfl, hi3, hgg3, hb3⟩ := HP3.out; have hz3 := hb3.size; have HI3 := Lib.hid hi3; clear hi3; have HO3 := Lib.hid (HO2.out.below hb3); have HI23 := Lib.hid (HI2.out.below hb3)
        go_wp2_with fail
        refine (sameints_same A2 A3 m c2 c3 (sumsAt f m) _ (by unfold maxLen; omega) HI23.out.is HI3.out.is).mono ?_; rintro e w4 ⟨rfl, hb4⟩; have hz4 := hb4.size; have HO4 := Lib.hid (HO3.out.below hb4); have HI24 := Lib.hid (HI23.out.below hb4)
        have HB4 : Hid (Below w.heap.size w w4) := Lib.hid (by (repeat (first | with_reducible exact Below.refl _ _ | with_reducible assumption | ((with_reducible refine Below.alloc ?_ ?_ _); rotate_left; focus (first | with_reducible exact Nat.le_refl _ | omega | (simp; done) | (simp; omega))) | ((with_reducible refine Below.setCell ?_ ?_ _); rotate_left; focus (first | with_reducible exact Nat.le_refl _ | omega | (simp; done) | (simp; omega))) | (with_reducible refine Below.drew ?_) | ((with_reducible refine Below.trans ?_ (Below.mono (by with_reducible assumption) ?_)); rotate_left; focus (first | with_reducible exact Nat.le_refl _ | omega | (simp; done) | (simp; omega))))))
        have hle4 : w.heap.size ≤ w4.heap.size := HB4.out.size
        go_wp2
        go_loopw [5, 6] (fun s i wr => ∃ j : Nat, j ≤ m ∧ i = .int .i64 j ∧ s = .int .i64 (allF f j) ∧ Below w4.heap.size w4 wr) (fun _ i _ => m - (intOf i).toNat)
        case atStart => exact ⟨0, Nat.zero_le _, rfl, rfl, Below.refl _ _⟩
        case round =>
          obtain ⟨j, hj, rfl, rfl, hbr⟩ := hrel
          have hzr := hbr.size
          have HSa : Hid (allF f (j + 1) = allF f j + areaM (f j)) := Lib.hid rfl
          obtain ⟨ab1, ab2⟩ := allF_bd Hok.out j hj
          generalize hAl : allF f j = Al at ab1 ab2
          have HAl := Lib.hid hAl
          clear hAl
          by_cases hlt : j < m
          · obtain ⟨b', off', hA', hbl', d0, d1, d2, d3⟩ := (HO4.out.below hbr).rs.at_ hlt
            subst hA'
            have av := area_bd (okTo_le Hok.out hlt)
            obtain ⟨V, hV⟩ : ∃ V, areaM (f j) = V := ⟨_, rfl⟩
            rw [hV] at av
            obtain ⟨av1, av2⟩ := av
            have HV := Lib.hid hV
            clear hV
            go_wp2_with fail
            refine (iarea_val (f j) V HV.out _).mono ?_; rintro e w5 ⟨rfl, hb5⟩; have hz5 := hb5.size; (try simp at hz5)
            go_wp2
            go_roundw
            case rel => exact ⟨j + 1, by omega, by go_num, by rw [HSa.out, HAl.out, HV.out], by (repeat (first | with_reducible exact Below.refl _ _ | with_reducible assumption | ((with_reducible refine Below.alloc ?_ ?_ _); rotate_left; focus (first | with_reducible exact Nat.le_refl _ | omega | (simp; done) | (simp; omega))) | ((with_reducible refine Below.setCell ?_ ?_ _); rotate_left; focus (first | with_reducible exact Nat.le_refl _ | omega | (simp; done) | (simp; omega))) | (with_reducible refine Below.drew ?_) | ((with_reducible refine Below.trans ?_ (Below.mono (by with_reducible assumption) ?_)); rotate_left; focus (first | with_reducible exact Nat.le_refl _ | omega | (simp; done) | (simp; omega)))))⟩
            case measure => simp [intOf]; omega
          · obtain rfl : j = m := by omega
            have HO5 := Lib.hid (HO4.out.below hbr)
            have HI5 := Lib.hid (HI24.out.below hbr)
            have sb0 := sumsAt_bd (f := f) h7 0
            have sb1 := sumsAt_bd (f := f) h7 1
            have hS0 : sumsAt f j 0 = Al := by rw [S1.out, HAl.out]
            have hua := S3.out
            have HSe : Hid (secondF f j = if 1 < j then sumsAt f j 1 else 0) := Lib.hid rfl
            have hla := S2.out
            have HLa : Hid (lastF f j = if acF f j then areaM (acRF f j) else 0) := Lib.hid rfl
            obtain ⟨U, hU⟩ : ∃ U, uaF f j = U := ⟨_, rfl⟩
            rw [hS0, hU] at hua
            rw [hS0] at sb0
            have HUa := Lib.hid hua
            have HU := Lib.hid hU
            have HLaE := Lib.hid hla
            have HS0 := Lib.hid hS0
            obtain ⟨C, hC⟩ : ∃ C, acRF f j = C := ⟨_, rfl⟩
            have HC := Lib.hid hC
            clear hua hU hla hS0 hC
            have hj1 : 0 < j := by omega
            rcases HI5.out with h0 | ⟨hA2, hgl, hcc, _⟩
            · exact absurd h0 hm0
            subst hA2
            have d0 := hcc 0 (by omega)
            have d2 := hcc (j - 1) (by omega)
            have d1 := fun h : 1 < j => hcc 1 h
            rw [HS0.out] at d0
            rw [HLaE.out] at d2
            clear hcc
            have hLi : ((j : Int) - 1).toNat = j - 1 := by omega
            have hi1 : (0 : Int) ≤ (j : Int) - 1 := by omega
            have hi2 : (j : Int) - 1 < (j : Int) := by omega
            have hi0 : (0 : Int) < (j : Int) := by omega
            have hw1 : IntKind.i64.wrap ((j : Int) - 1) = (j : Int) - 1 := IntWalk.i64_in _ (by omega)
            have hgl2 : g2 < wr.heap.size := hgl
            cases hB : acF f j
            · have hlv : lastF f j = 0 := by rw [HLa.out, hB]; rfl
              rw [hlv] at d2
              clear hlv
              by_cases h1 : 1 < j
              · have hsv : secondF f j = sumsAt f j 1 := by rw [HSe.out, if_pos h1]
                have hua := HUa.out
                have d1' := d1 h1
                rw [hsv] at hua
                generalize hD1 : sumsAt f j 1 = D1 at hua d1' sb1
                have HD1 := Lib.hid hD1
                have hw2 : IntKind.i64.wrap (Al - D1) = Al - D1 := IntWalk.i64_in _ (by omega)
                have HW2 := Lib.hid hw2
                clear hsv hD1 hw2 d1
                have HW1 := Lib.hid hw1
                clear hw1
                go_wp2_with fail
                refine (iac_val9 A j lcap f C false HC.out hB _ Hmm.out HO5.out.rs).mono ?_; rintro e w6 ⟨rfl, hb6⟩; have hz6 := hb6.size; (try simp at hz6); have _ : g2 < w6.heap.size := (by first | (simp; done) | omega | (simp; omega)); have _ := fun o => hb6.cell (p := ⟨g2, o, none⟩) (by first | (simp; done) | omega | (simp; omega))
                go_wp2_with fail
                refine name_world (fun w8 hW => ?_); have hb8 := below_of_eq hW; clear hW; have hz8 := hb8.size; (try simp at hz8); have _ : g2 < w8.heap.size := (by first | (simp; done) | omega | (simp; omega)); have _ := fun o => hb8.cell (p := ⟨g2, o, none⟩) (by first | (simp; done) | omega | (simp; omega))
                have HO8 := Lib.hid (HO5.out.below (w' := w8) (by (repeat (first | with_reducible exact Below.refl _ _ | with_reducible assumption | ((with_reducible refine Below.alloc ?_ ?_ _); rotate_left; focus (first | with_reducible exact Nat.le_refl _ | omega | (simp; done) | (simp; omega))) | ((with_reducible refine Below.setCell ?_ ?_ _); rotate_left; focus (first | with_reducible exact Nat.le_refl _ | omega | (simp; done) | (simp; omega))) | (with_reducible refine Below.drew ?_) | ((with_reducible refine Below.trans ?_ (Below.mono (by with_reducible assumption) ?_)); rotate_left; focus (first | with_reducible exact Nat.le_refl _ | omega | (simp; done) | (simp; omega)))))))
                have hw1 := HW1.out
                have hw2 := HW2.out
                have hq : True := trivial; have hq := fun d os o => (below_regrown w8 d os).cell (p := ⟨g2, o, none⟩) (by first | (simp; done) | omega | (simp; omega)); refine wp_region_quiet_below (by kernel_rfl) (by kernel_rfl) ?_; (repeat (first | go_big_quiet_step (exact Calls.regrown_of (iua_val A j lcap f U HU.out _ Hmm.out ((HO8.out.below (below_regrown _ _ _)).rs))) | quiet_step (exact Calls.regrown_of (iua_val A j lcap f U HU.out _ Hmm.out ((HO8.out.below (below_regrown _ _ _)).rs))))); refine wpQuiet_nil ?_; intro _ hw'; obtain ⟨⟨dq, osq⟩, hw''⟩ := hw'; subst hw''; clear hq; have hb9 := below_regrown w8 dq osq; generalize Sort.grow (redrawn w8 dq) osq = w9 at hb9 ⊢; have hz9 := hb9.size; (try simp at hz9); have _ : g2 < w9.heap.size := (by first | (simp; done) | omega | (simp; omega)); have _ := fun o => hb9.cell (p := ⟨g2, o, none⟩) (by first | (simp; done) | omega | (simp; omega))
                clear hw1 hw2
                go_wp2
                go_ret
                exact ⟨rfl, by (repeat (first | with_reducible exact Below.refl _ _ | with_reducible assumption | ((with_reducible refine Below.alloc ?_ ?_ _); rotate_left; focus (first | with_reducible exact Nat.le_refl _ | omega | (simp; done) | (simp; omega))) | ((with_reducible refine Below.setCell ?_ ?_ _); rotate_left; focus (first | with_reducible exact Nat.le_refl _ | omega | (simp; done) | (simp; omega))) | (with_reducible refine Below.drew ?_) | ((with_reducible refine Below.trans ?_ (Below.mono (by with_reducible assumption) ?_)); rotate_left; focus (first | with_reducible exact Nat.le_refl _ | omega | (simp; done) | (simp; omega)))))⟩
              · have hj11 : j = 1 := by omega
                have hsv : secondF f j = 0 := by rw [HSe.out, if_neg h1]
                have hua := HUa.out
                rw [hsv, Int.sub_zero] at hua
                have hw2 : IntKind.i64.wrap Al = Al := IntWalk.i64_in _ (by omega)
                have HW2 := Lib.hid hw2
                clear hsv hw2 d1 hj11
                have HW1 := Lib.hid hw1
                clear hw1
                go_wp2_with fail
                refine (iac_val9 A j lcap f C false HC.out hB _ Hmm.out HO5.out.rs).mono ?_; rintro e w6 ⟨rfl, hb6⟩; have hz6 := hb6.size; (try simp at hz6); have _ : g2 < w6.heap.size := (by first | (simp; done) | omega | (simp; omega)); have _ := fun o => hb6.cell (p := ⟨g2, o, none⟩) (by first | (simp; done) | omega | (simp; omega))
                go_wp2_with fail
                refine name_world (fun w8 hW => ?_); have hb8 := below_of_eq hW; clear hW; have hz8 := hb8.size; (try simp at hz8); have _ : g2 < w8.heap.size := (by first | (simp; done) | omega | (simp; omega)); have _ := fun o => hb8.cell (p := ⟨g2, o, none⟩) (by first | (simp; done) | omega | (simp; omega))
                have HO8 := Lib.hid (HO5.out.below (w' := w8) (by (repeat (first | with_reducible exact Below.refl _ _ | with_reducible assumption | ((with_reducible refine Below.alloc ?_ ?_ _); rotate_left; focus (first | with_reducible exact Nat.le_refl _ | omega | (simp; done) | (simp; omega))) | ((with_reducible refine Below.setCell ?_ ?_ _); rotate_left; focus (first | with_reducible exact Nat.le_refl _ | omega | (simp; done) | (simp; omega))) | (with_reducible refine Below.drew ?_) | ((with_reducible refine Below.trans ?_ (Below.mono (by with_reducible assumption) ?_)); rotate_left; focus (first | with_reducible exact Nat.le_refl _ | omega | (simp; done) | (simp; omega)))))))
                have hw1 := HW1.out
                have hw2 := HW2.out
                have hq : True := trivial; have hq := fun d os o => (below_regrown w8 d os).cell (p := ⟨g2, o, none⟩) (by first | (simp; done) | omega | (simp; omega)); refine wp_region_quiet_below (by kernel_rfl) (by kernel_rfl) ?_; (repeat (first | go_big_quiet_step (exact Calls.regrown_of (iua_val A j lcap f U HU.out _ Hmm.out ((HO8.out.below (below_regrown _ _ _)).rs))) | quiet_step (exact Calls.regrown_of (iua_val A j lcap f U HU.out _ Hmm.out ((HO8.out.below (below_regrown _ _ _)).rs))))); refine wpQuiet_nil ?_; intro _ hw'; obtain ⟨⟨dq, osq⟩, hw''⟩ := hw'; subst hw''; clear hq; have hb9 := below_regrown w8 dq osq; generalize Sort.grow (redrawn w8 dq) osq = w9 at hb9 ⊢; have hz9 := hb9.size; (try simp at hz9); have _ : g2 < w9.heap.size := (by first | (simp; done) | omega | (simp; omega)); have _ := fun o => hb9.cell (p := ⟨g2, o, none⟩) (by first | (simp; done) | omega | (simp; omega))
                clear hw1 hw2
                go_wp2
                go_ret
                exact ⟨rfl, by (repeat (first | with_reducible exact Below.refl _ _ | with_reducible assumption | ((with_reducible refine Below.alloc ?_ ?_ _); rotate_left; focus (first | with_reducible exact Nat.le_refl _ | omega | (simp; done) | (simp; omega))) | ((with_reducible refine Below.setCell ?_ ?_ _); rotate_left; focus (first | with_reducible exact Nat.le_refl _ | omega | (simp; done) | (simp; omega))) | (with_reducible refine Below.drew ?_) | ((with_reducible refine Below.trans ?_ (Below.mono (by with_reducible assumption) ?_)); rotate_left; focus (first | with_reducible exact Nat.le_refl _ | omega | (simp; done) | (simp; omega)))))⟩
            · have hlv : lastF f j = areaM C := by rw [HLa.out, hB, HC.out]; rfl
              obtain ⟨V, hV⟩ : ∃ V, areaM C = V := ⟨_, rfl⟩
              rw [hlv, hV] at d2
              have HV := Lib.hid hV
              clear hlv hV
              by_cases h1 : 1 < j
              · have hsv : secondF f j = sumsAt f j 1 := by rw [HSe.out, if_pos h1]
                have hua := HUa.out
                have d1' := d1 h1
                rw [hsv] at hua
                generalize hD1 : sumsAt f j 1 = D1 at hua d1' sb1
                have HD1 := Lib.hid hD1
                have hw2 : IntKind.i64.wrap (Al - D1) = Al - D1 := IntWalk.i64_in _ (by omega)
                have HW2 := Lib.hid hw2
                clear hsv hD1 hw2 d1
                have HW1 := Lib.hid hw1
                clear hw1
                go_wp2_with fail
                refine (iac_val9 A j lcap f C true HC.out hB _ Hmm.out HO5.out.rs).mono ?_; rintro e w6 ⟨rfl, hb6⟩; have hz6 := hb6.size; (try simp at hz6); have _ : g2 < w6.heap.size := (by first | (simp; done) | omega | (simp; omega)); have _ := fun o => hb6.cell (p := ⟨g2, o, none⟩) (by first | (simp; done) | omega | (simp; omega))
                go_wp2_with fail
                refine (iarea_val C V HV.out _).mono ?_; rintro e w7 ⟨rfl, hb7⟩; have hz7 := hb7.size; (try simp at hz7); have _ : g2 < w7.heap.size := (by first | (simp; done) | omega | (simp; omega)); have _ := fun o => hb7.cell (p := ⟨g2, o, none⟩) (by first | (simp; done) | omega | (simp; omega))
                go_wp2_with fail
                refine name_world (fun w8 hW => ?_); have hb8 := below_of_eq hW; clear hW; have hz8 := hb8.size; (try simp at hz8); have _ : g2 < w8.heap.size := (by first | (simp; done) | omega | (simp; omega)); have _ := fun o => hb8.cell (p := ⟨g2, o, none⟩) (by first | (simp; done) | omega | (simp; omega))
                have HO8 := Lib.hid (HO5.out.below (w' := w8) (by (repeat (first | with_reducible exact Below.refl _ _ | with_reducible assumption | ((with_reducible refine Below.alloc ?_ ?_ _); rotate_left; focus (first | with_reducible exact Nat.le_refl _ | omega | (simp; done) | (simp; omega))) | ((with_reducible refine Below.setCell ?_ ?_ _); rotate_left; focus (first | with_reducible exact Nat.le_refl _ | omega | (simp; done) | (simp; omega))) | (with_reducible refine Below.drew ?_) | ((with_reducible refine Below.trans ?_ (Below.mono (by with_reducible assumption) ?_)); rotate_left; focus (first | with_reducible exact Nat.le_refl _ | omega | (simp; done) | (simp; omega)))))))
                have hw1 := HW1.out
                have hw2 := HW2.out
                have hq : True := trivial; have hq := fun d os o => (below_regrown w8 d os).cell (p := ⟨g2, o, none⟩) (by first | (simp; done) | omega | (simp; omega)); refine wp_region_quiet_below (by kernel_rfl) (by kernel_rfl) ?_; (repeat (first | go_big_quiet_step (exact Calls.regrown_of (iua_val A j lcap f U HU.out _ Hmm.out ((HO8.out.below (below_regrown _ _ _)).rs))) | quiet_step (exact Calls.regrown_of (iua_val A j lcap f U HU.out _ Hmm.out ((HO8.out.below (below_regrown _ _ _)).rs))))); refine wpQuiet_nil ?_; intro _ hw'; obtain ⟨⟨dq, osq⟩, hw''⟩ := hw'; subst hw''; clear hq; have hb9 := below_regrown w8 dq osq; generalize Sort.grow (redrawn w8 dq) osq = w9 at hb9 ⊢; have hz9 := hb9.size; (try simp at hz9); have _ : g2 < w9.heap.size := (by first | (simp; done) | omega | (simp; omega)); have _ := fun o => hb9.cell (p := ⟨g2, o, none⟩) (by first | (simp; done) | omega | (simp; omega))
                clear hw1 hw2
                go_wp2
                go_ret
                exact ⟨rfl, by (repeat (first | with_reducible exact Below.refl _ _ | with_reducible assumption | ((with_reducible refine Below.alloc ?_ ?_ _); rotate_left; focus (first | with_reducible exact Nat.le_refl _ | omega | (simp; done) | (simp; omega))) | ((with_reducible refine Below.setCell ?_ ?_ _); rotate_left; focus (first | with_reducible exact Nat.le_refl _ | omega | (simp; done) | (simp; omega))) | (with_reducible refine Below.drew ?_) | ((with_reducible refine Below.trans ?_ (Below.mono (by with_reducible assumption) ?_)); rotate_left; focus (first | with_reducible exact Nat.le_refl _ | omega | (simp; done) | (simp; omega)))))⟩
              · have hj11 : j = 1 := by omega
                have hsv : secondF f j = 0 := by rw [HSe.out, if_neg h1]
                have hua := HUa.out
                rw [hsv, Int.sub_zero] at hua
                have hw2 : IntKind.i64.wrap Al = Al := IntWalk.i64_in _ (by omega)
                have HW2 := Lib.hid hw2
                clear hsv hw2 d1 hj11
                have HW1 := Lib.hid hw1
                clear hw1
                go_wp2_with fail
                refine (iac_val9 A j lcap f C true HC.out hB _ Hmm.out HO5.out.rs).mono ?_; rintro e w6 ⟨rfl, hb6⟩; have hz6 := hb6.size; (try simp at hz6); have _ : g2 < w6.heap.size := (by first | (simp; done) | omega | (simp; omega)); have _ := fun o => hb6.cell (p := ⟨g2, o, none⟩) (by first | (simp; done) | omega | (simp; omega))
                go_wp2_with fail
                refine (iarea_val C V HV.out _).mono ?_; rintro e w7 ⟨rfl, hb7⟩; have hz7 := hb7.size; (try simp at hz7); have _ : g2 < w7.heap.size := (by first | (simp; done) | omega | (simp; omega)); have _ := fun o => hb7.cell (p := ⟨g2, o, none⟩) (by first | (simp; done) | omega | (simp; omega))
                go_wp2_with fail
                refine name_world (fun w8 hW => ?_); have hb8 := below_of_eq hW; clear hW; have hz8 := hb8.size; (try simp at hz8); have _ : g2 < w8.heap.size := (by first | (simp; done) | omega | (simp; omega)); have _ := fun o => hb8.cell (p := ⟨g2, o, none⟩) (by first | (simp; done) | omega | (simp; omega))
                have HO8 := Lib.hid (HO5.out.below (w' := w8) (by (repeat (first | with_reducible exact Below.refl _ _ | with_reducible assumption | ((with_reducible refine Below.alloc ?_ ?_ _); rotate_left; focus (first | with_reducible exact Nat.le_refl _ | omega | (simp; done) | (simp; omega))) | ((with_reducible refine Below.setCell ?_ ?_ _); rotate_left; focus (first | with_reducible exact Nat.le_refl _ | omega | (simp; done) | (simp; omega))) | (with_reducible refine Below.drew ?_) | ((with_reducible refine Below.trans ?_ (Below.mono (by with_reducible assumption) ?_)); rotate_left; focus (first | with_reducible exact Nat.le_refl _ | omega | (simp; done) | (simp; omega)))))))
                have hw1 := HW1.out
                have hw2 := HW2.out
                have hq : True := trivial; have hq := fun d os o => (below_regrown w8 d os).cell (p := ⟨g2, o, none⟩) (by first | (simp; done) | omega | (simp; omega)); refine wp_region_quiet_below (by kernel_rfl) (by kernel_rfl) ?_; (repeat (first | go_big_quiet_step (exact Calls.regrown_of (iua_val A j lcap f U HU.out _ Hmm.out ((HO8.out.below (below_regrown _ _ _)).rs))) | quiet_step (exact Calls.regrown_of (iua_val A j lcap f U HU.out _ Hmm.out ((HO8.out.below (below_regrown _ _ _)).rs))))); refine wpQuiet_nil ?_; intro _ hw'; obtain ⟨⟨dq, osq⟩, hw''⟩ := hw'; subst hw''; clear hq; have hb9 := below_regrown w8 dq osq; generalize Sort.grow (redrawn w8 dq) osq = w9 at hb9 ⊢; have hz9 := hb9.size; (try simp at hz9); have _ : g2 < w9.heap.size := (by first | (simp; done) | omega | (simp; omega)); have _ := fun o => hb9.cell (p := ⟨g2, o, none⟩) (by first | (simp; done) | omega | (simp; omega))
                clear hw1 hw2
                go_wp2
                go_ret
                exact ⟨rfl, by (repeat (first | with_reducible exact Below.refl _ _ | with_reducible assumption | ((with_reducible refine Below.alloc ?_ ?_ _); rotate_left; focus (first | with_reducible exact Nat.le_refl _ | omega | (simp; done) | (simp; omega))) | ((with_reducible refine Below.setCell ?_ ?_ _); rotate_left; focus (first | with_reducible exact Nat.le_refl _ | omega | (simp; done) | (simp; omega))) | (with_reducible refine Below.drew ?_) | ((with_reducible refine Below.trans ?_ (Below.mono (by with_reducible assumption) ?_)); rotate_left; focus (first | with_reducible exact Nat.le_refl _ | omega | (simp; done) | (simp; omega)))))⟩
end Go.Proofs.Ytipnldbdlimnhaa
