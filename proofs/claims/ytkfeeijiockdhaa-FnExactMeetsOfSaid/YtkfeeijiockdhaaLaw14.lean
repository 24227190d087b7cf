/- The laws of chapter 6: their walks. -/
import Derived.Test.YtkfeeijiockdhaaEx9
import Derived.Test.YtkfeeijiockdhaaClose
namespace Go.Proofs.Ytkfeeijiockdhaa
open Go.RowKit Go.Sort Go.BigFrame
set_option linter.unusedVariables false
/-- What MeetOk and AllMeetOk of impl answer. -/
structure ImpMt : Prop where
  mt : ∀ (a b : Rt) (w : World), Calls Try.prog 25 #[rv a, rv b] w fun e w' => e = .returned (.bool (cmB a b)) ∧ Below w.heap.size w w'
structure ImpAm : Prop where
  am : ∀ (A : Option Addr) (n cap : Nat) (f : Nat → Rt) (w : World), n ≤ maxLen → Rs w A n f → Calls Try.prog 30 #[.slice A n cap] w fun e w' => e = .returned (.bool (amF f n)) ∧ Below w.heap.size w w'
theorem ImpMt.mtv (K : ImpMt) (a b : Rt) (v : Bool) (h : cmB a b = v) (w : World) :
    Calls Try.prog 25 #[rv a, rv b] w fun e w' => e = .returned (.bool v) ∧ Below w.heap.size w w' := h ▸ K.mt a b w
theorem ImpAm.amv (K : ImpAm) (A : Option Addr) (n cap : Nat) (f : Nat → Rt) (v : Bool) (h : amF f n = v) (w : World) (hn : n ≤ maxLen) (hr : Rs w A n f) :
    Calls Try.prog 30 #[.slice A n cap] w fun e w' => e = .returned (.bool v) ∧ Below w.heap.size w w' := h ▸ K.am A n cap f w hn hr
set_option maxHeartbeats 400000 in
set_option maxRecDepth 20000 in
theorem dPaintedBy (a : Option Addr) (len cap : Nat) (w : World) (hc : Came w a len cap) :
    Calls Try.prog 34 #[.slice a len cap] w (RectsDrawn w) := by
  go_enter Try.func34, Try.ntmps34
  go_wp2_with fail
  refine (open_any _ _ _ _ (hc)).mono ?_; rintro e w1 hp; obtain ⟨rfl, hb1, hr1⟩ := hp; have hz1 := hb1.size; (try simp at hz1); have hB := hr1.lt; skip
  go_wp2_with fail
  refine (close_any (w.heap.size) 0 _ _ hr1 (by omega) (by omega)).mono ?_; rintro e w2 ⟨A, m, cap, g, f, rfl, hm, ho2, hg2, hh2, hs2, hr2⟩
  go_wp2
  go_ret
  exact ⟨A, m, _, g, f, rfl, hm, ho2, by have := hb1.size; omega, hh2, Sole.below hb1 hs2 (Nat.le_refl _)⟩
theorem laid_pos {f : Nat → Rt} {m : Nat} (h : laidF f m = false) : 0 < m := by
  rcases Nat.eq_zero_or_pos m with e | e
  · subst e; cases h
  · exact e
def maxK (g : Nat → Nat) : Nat → Nat
  | 0 => 0
  | k + 1 => max (maxK g k) (g k)
theorem maxK_le (g : Nat → Nat) : ∀ k i, i < k → g i ≤ maxK g k
  | 0, i, h => by omega
  | k + 1, i, h => by
    simp only [maxK]
    by_cases e : i = k
    · subst e; omega
    · have := maxK_le g k i (by omega); omega
theorem maxK_bd (g : Nat → Nat) {B : Nat} : ∀ k, (∀ i, i < k → g i ≤ B) → maxK g k ≤ B
  | 0, _ => Nat.zero_le _
  | k + 1, h => by simp only [maxK]; have := maxK_bd g k fun i hi => h i (by omega); have := h k (by omega); omega
theorem sumK_bd (g : Nat → Nat) {B : Nat} : ∀ k, (∀ i, i < k → g i ≤ B) → sumK g k ≤ k * B
  | 0, _ => by simp [sumK]
  | k + 1, h => by simp only [sumK]; have := sumK_bd g k fun i hi => h i (by omega); have := h k (by omega); rw [Nat.succ_mul]; omega
/-- What the law of MeetsOf says of one. -/
theorem meets_one {f : Nat → Rt} {m k : Nat} (hl : laidF f m = true) (hk : k < m) : (((dgF f m k : Nat) : Int) == (m : Int) - 1) = mrow f k m := by
  rw [Bool.eq_iff_iff, beq_iff_eq, mrow_iff, ← dg_all (lenTo_ok hl) hk]; omega
theorem most_say {f : Nat → Rt} {m : Nat} (hl : laidF f m = true) : ∃ d x y : Nat, deF f m = ((d : Int), (x : Int), (y : Int)) ∧ moF f m = d ∧ d ≤ 7 ∧ ((d : Int) == (m : Int)) = amF f m := by
  obtain ⟨d, x, y, h1, h2, _, _, h5, h6, _⟩ := deepest_law f m (lenTo_ok hl)
  have hmo := mo_depth (lenTo_ok hl) h5 h6
  have h7 := (laidF_ok hl).1
  refine ⟨d, x, y, by unfold deF; rw [hl]; exact h1, by rw [moF_yes hl, hmo], by omega, ?_⟩
  rw [Bool.eq_iff_iff, beq_iff_eq, amF_iff]
  have := mo_all f m
  rw [hmo] at this
  exact ⟨fun e => ⟨this.1 (by omega), hl⟩, fun e => by have := this.2 e.1; omega⟩
theorem colours_say {f : Nat → Rt} {m : Nat} (hl : laidF f m = true) : moF f m ≤ clF f m ∧ clF f m ≤ (maxK (dgF f m) m : Nat) + 1 ∧ clF f m ≤ (maxK (gcN f) m : Nat) + 1 ∧ (sameTo f m = true → clF f m = moF f m) ∧ 0 ≤ moF f m ∧ clF f m ≤ m := by
  rw [moF_yes hl, clF_yes hl]
  have h1 := mo_le_co (lenTo_ok hl)
  have h2 := co_le (f := f) (n := m) (B := maxK (dgF f m) m) fun i hi => Nat.le_trans (gc_le hi) (maxK_le _ m i hi)
  have h3 := co_le (f := f) (n := m) (B := maxK (gcN f) m) fun i hi => maxK_le _ m i hi
  have h4 := coN_le f m
  exact ⟨by omega, by omega, by omega, fun h => by rw [co_same (lenTo_ok hl) ((sameTo_iff f m).1 h)], by omega, by omega⟩

set_option maxHeartbeats 8000000 in
set_option maxRecDepth 100000 in
theorem walkMeetsOf (K : ImpMt) (I_ms : IMs6) (a : Option Addr) (len cap : Nat) (w : World) (hc : Came w a len cap) :
    Calls Try.prog 4 #[.slice a len cap] w fun e w' => e = .returned (.bool true) ∧ Below w.heap.size w w' := by
  have hm := hc.len_le
  by_cases hl : 1048576 < len
  · go_enter Try.func4, Try.ntmps4
    go_wp2
    go_ret
    exact ⟨rfl, Below.refl _ _⟩
  · go_enter Try.func4, Try.ntmps4
    go_wp2_with fail
    refine (dMeetsOf _ _ _ _ hc).mono ?_; rintro e w1 hp; have HP1 := Lib.hid hp; clear hp; obtain ⟨A, m, lcap, g, f, rfl, hm8, ho1, hg1, hh1, hb1⟩ := HP1.out; have hz1 := hb1.size; (try simp at hz1); have HO1 := Lib.hid ho1; have HH1 := Lib.hid hh1; clear ho1 hh1; have hmm : m ≤ maxLen := (by unfold maxLen; omega); have Hmm := Lib.hid hmm; clear hmm
    cases hL : laidF f m
    · have hm0 := laid_pos hL
      have hmz : ((m : Int) == 0) = false := by simp; omega
      have HM : Hid (cntF (laidF f m) m = 0) := Lib.hid (by rw [hL]; rfl)
      go_wp2_with fail
      refine (I_ms.msv A m lcap f 0 HM.out _ Hmm.out HO1.out.rs).mono ?_; rintro e w2 hp; have HP2 := Lib.hid hp; clear hp; obtain ⟨A2, c2, g2, rfl, hi2, hgg2, hb2⟩ := HP2.out; have hz2 := hb2.size; (try simp at hz2); have HI2 := Lib.hid hi2; clear hi2; have HO2 := Lib.hid (HO1.out.below hb2)
      go_wp2_with fail
      refine (smeets_val A m lcap f 0 HM.out _ Hmm.out HO2.out.rs).mono ?_; rintro e w3 hp; have HP3 := Lib.hid hp; clear hp; obtain ⟨A3, c3, g3, rfl, hi3, hgg3, hb3⟩ := HP3.out; have hz3 := hb3.size; (try simp at hz3); have HI3 := Lib.hid hi3; clear hi3; have HO3 := Lib.hid (HO2.out.below hb3); have HI23 := Lib.hid (HI2.out.below hb3)
      go_wp2_with fail
      refine (sameints_same A2 A3 0 c2 c3 (fun k => ((dgF f m k : Nat) : Int)) _ (by unfold maxLen; omega) HI23.out.is HI3.out.is).mono ?_; rintro e w4 ⟨rfl, hb4⟩; have hz4 := hb4.size; have HO4 := Lib.hid (HO3.out.below hb4)
      go_wp2_with fail
      refine (ilaid_val A m lcap f false hL _ Hmm.out HO4.out.rs).mono ?_; rintro e w5 ⟨rfl, hb5⟩; have hz5 := hb5.size; (try simp at hz5)
      go_wp2_with fail
      refine (alive_any _).mono ?_; rintro e w6 ⟨rfl, hb6⟩; have hz6 := hb6.size; (try simp at hz6)
      go_wp2
      go_ret
      exact ⟨rfl, by (repeat (first | with_reducible exact Below.refl _ _ | with_reducible assumption | ((with_reducible refine Below.alloc ?_ ?_ _); rotate_left; focus (first | with_reducible exact Nat.le_refl _ | omega | (simp; done) | (simp; omega))) | ((with_reducible refine Below.setCell ?_ ?_ _); rotate_left; focus (first | with_reducible exact Nat.le_refl _ | omega | (simp; done) | (simp; omega))) | (with_reducible refine Below.drew ?_) | ((with_reducible refine Below.trans ?_ (Below.mono (by with_reducible assumption) ?_)); rotate_left; focus (first | with_reducible exact Nat.le_refl _ | omega | (simp; done) | (simp; omega)))))⟩
    · by_cases h0 : m = 0
      · subst h0
        have HM : Hid (cntF (laidF f 0) 0 = 0) := Lib.hid (by rw [hL]; rfl)
        go_wp2_with fail
        refine (I_ms.msv A 0 lcap f 0 HM.out _ Hmm.out HO1.out.rs).mono ?_; rintro e w2 hp; have HP2 := Lib.hid hp; clear hp; obtain ⟨A2, c2, g2, rfl, hi2, hgg2, hb2⟩ := HP2.out; have hz2 := hb2.size; (try simp at hz2); have HI2 := Lib.hid hi2; clear hi2; have HO2 := Lib.hid (HO1.out.below hb2)
        go_wp2_with fail
        refine (smeets_val A 0 lcap f 0 HM.out _ Hmm.out HO2.out.rs).mono ?_; rintro e w3 hp; have HP3 := Lib.hid hp; clear hp; obtain ⟨A3, c3, g3, rfl, hi3, hgg3, hb3⟩ := HP3.out; have hz3 := hb3.size; (try simp at hz3); have HI3 := Lib.hid hi3; clear hi3; have HO3 := Lib.hid (HO2.out.below hb3); have HI23 := Lib.hid (HI2.out.below hb3)
        go_wp2_with fail
        refine (sameints_same A2 A3 0 c2 c3 (fun k => ((dgF f 0 k : Nat) : Int)) _ (by unfold maxLen; omega) HI23.out.is HI3.out.is).mono ?_; rintro e w4 ⟨rfl, hb4⟩; have hz4 := hb4.size; have HO4 := Lib.hid (HO3.out.below hb4)
        go_wp2_with fail
        refine (alive_any _).mono ?_; rintro e w6 ⟨rfl, hb6⟩; have hz6 := hb6.size; (try simp at hz6)
        go_wp2
        go_ret
        exact ⟨rfl, by (repeat (first | with_reducible exact Below.refl _ _ | with_reducible assumption | ((with_reducible refine Below.alloc ?_ ?_ _); rotate_left; focus (first | with_reducible exact Nat.le_refl _ | omega | (simp; done) | (simp; omega))) | ((with_reducible refine Below.setCell ?_ ?_ _); rotate_left; focus (first | with_reducible exact Nat.le_refl _ | omega | (simp; done) | (simp; omega))) | (with_reducible refine Below.drew ?_) | ((with_reducible refine Below.trans ?_ (Below.mono (by with_reducible assumption) ?_)); rotate_left; focus (first | with_reducible exact Nat.le_refl _ | omega | (simp; done) | (simp; omega)))))⟩
      · obtain ⟨h7, hok⟩ := laidF_ok hL
        have HM : Hid (cntF (laidF f m) m = m) := Lib.hid (by rw [hL]; rfl)
        have hmz : ((m : Int) == 0) = false := by simp; omega
        have hm0 : 0 < m := by omega
        clear hok h0
        go_wp2_with fail
        refine (I_ms.msv A m lcap f m HM.out _ Hmm.out HO1.out.rs).mono ?_; rintro e w2 hp; have HP2 := Lib.hid hp; clear hp; obtain ⟨A2, c2, g2, rfl, hi2, hgg2, hb2⟩ := HP2.out; have hz2 := hb2.size; (try simp at hz2); have HI2 := Lib.hid hi2; clear hi2; have HO2 := Lib.hid (HO1.out.below hb2)
        go_wp2_with fail
        refine (smeets_val A m lcap f m HM.out _ Hmm.out HO2.out.rs).mono ?_; rintro e w3 hp; have HP3 := Lib.hid hp; clear hp; obtain ⟨A3, c3, g3, rfl, hi3, hgg3, hb3⟩ := HP3.out; have hz3 := hb3.size; (try simp at hz3); have HI3 := Lib.hid hi3; clear hi3; have HO3 := Lib.hid (HO2.out.below hb3); have HI23 := Lib.hid (HI2.out.below hb3)
        go_wp2_with fail
        refine (sameints_same A2 A3 m c2 c3 (fun k => ((dgF f m k : Nat) : Int)) _ (by unfold maxLen; omega) HI23.out.is HI3.out.is).mono ?_; rintro e w4 ⟨rfl, hb4⟩; have hz4 := hb4.size; have HO4 := Lib.hid (HO3.out.below hb4); have HI4 := Lib.hid (HI23.out.below hb4)
        have HB4 : Hid (Below w.heap.size w w4) := Lib.hid (by (repeat (first | with_reducible exact Below.refl _ _ | with_reducible assumption | ((with_reducible refine Below.alloc ?_ ?_ _); rotate_left; focus (first | with_reducible exact Nat.le_refl _ | omega | (simp; done) | (simp; omega))) | ((with_reducible refine Below.setCell ?_ ?_ _); rotate_left; focus (first | with_reducible exact Nat.le_refl _ | omega | (simp; done) | (simp; omega))) | (with_reducible refine Below.drew ?_) | ((with_reducible refine Below.trans ?_ (Below.mono (by with_reducible assumption) ?_)); rotate_left; focus (first | with_reducible exact Nat.le_refl _ | omega | (simp; done) | (simp; omega))))))
        have hle4 : w.heap.size ≤ w4.heap.size := HB4.out.size
        clear hb1 hb2 hb3 hb4
        have hdl := fun k (hk : k < m) => dg_lt (f := f) hk
        have hsb := fun k (hk : k ≤ m) => sumK_bd (dgF f m) (B := 6) k fun i hi => by have := hdl i (by omega); omega
        have HDL := Lib.hid hdl
        have HSB := Lib.hid hsb
        clear hdl hsb
        go_wp2
        go_loopw [5, 6] (fun s5 s6 wr => ∃ k : Nat, k ≤ m ∧ s6 = .int .i64 k ∧ s5 = .int .i64 (sumK (dgF f m) k : Nat) ∧ Below w4.heap.size w4 wr) (fun _ s6 _ => m - (intOf s6).toNat)
        case atStart => exact ⟨0, Nat.zero_le _, rfl, rfl, Below.refl _ _⟩
        case round =>
          obtain ⟨k, hk, rfl, rfl, hbr⟩ := hrel
          have HBr := Lib.hid hbr
          have hsb := HSB.out k hk
          have HSs : Hid (sumK (dgF f m) (k + 1) = sumK (dgF f m) k + dgF f m k) := Lib.hid rfl
          obtain ⟨S, hS⟩ : ∃ S, sumK (dgF f m) k = S := ⟨_, rfl⟩
          rw [hS] at hsb HSs ⊢
          have HSS := Lib.hid hS
          clear hbr hS
          by_cases hlt : k < m
          · have hlt' : (k : Int) < m := by omega
            go_wp2
            obtain ⟨wo, ho⟩ : ∃ wo : World, wo = wr := ⟨_, rfl⟩
            go_loopw [7, 8] (fun s7 s8 wr => ∃ j : Nat, j ≤ m ∧ s8 = .int .i64 j ∧ s7 = .bool (mrow f k j) ∧ Below w4.heap.size w4 wr) (fun _ s8 _ => m - (intOf s8).toNat)
            case atStart => exact ⟨0, Nat.zero_le _, rfl, rfl, HBr.out⟩
            case round =>
              obtain ⟨j, hj, rfl, rfl, hbj⟩ := hrel
              have hzj := hbj.size
              have HR : Hid (mrow f k (j + 1) = (mrow f k j && cmB (f j) (f k))) := Lib.hid rfl
              by_cases hlt2 : j < m
              · obtain ⟨b, off, hA, hbl, ⟨c0, c1, c2', c3'⟩, d0, d1, d2, d3⟩ := (HO4.out.below hbj).rs.pair hlt hlt2
                subst hA
                cases hp : mrow f k j
                · go_wp2_with fail
                  have hq : True := trivial; have hq := fun d os o => (below_regrown wr d os).cell (p := ⟨b, o, none⟩) (by first | (simp; done) | omega | (simp; omega)); refine wp_region_quiet_below (by kernel_rfl) (by kernel_rfl) ?_; (repeat (first | go_big_quiet_step (fail) | quiet_step (fail))); refine wpQuiet_nil ?_; intro _ hw'; obtain ⟨⟨dq, osq⟩, hw''⟩ := hw'; subst hw''; clear hq; have hb5 := below_regrown wr dq osq; generalize Sort.grow (redrawn wr dq) osq = w5 at hb5 ⊢; have hz5 := hb5.size; (try simp at hz5); have _ : b < w5.heap.size := (by first | (simp; done) | omega | (simp; omega)); have _ := fun o => hb5.cell (p := ⟨b, o, none⟩) (by first | (simp; done) | omega | (simp; omega))
                  go_wp2
                  go_roundw
                  case rel => exact ⟨j + 1, by omega, by go_num, by rw [HR.out, hp]; rfl, by (repeat (first | with_reducible exact Below.refl _ _ | with_reducible assumption | ((with_reducible refine Below.alloc ?_ ?_ _); rotate_left; focus (first | with_reducible exact Nat.le_refl _ | omega | (simp; done) | (simp; omega))) | ((with_reducible refine Below.setCell ?_ ?_ _); rotate_left; focus (first | with_reducible exact Nat.le_refl _ | omega | (simp; done) | (simp; omega))) | (with_reducible refine Below.drew ?_) | ((with_reducible refine Below.trans ?_ (Below.mono (by with_reducible assumption) ?_)); rotate_left; focus (first | with_reducible exact Nat.le_refl _ | omega | (simp; done) | (simp; omega)))))⟩
                  case measure => simp [intOf]; omega
                · cases hc : cmB (f j) (f k)
                  · go_wp2_with fail
                    have hq : True := trivial; have hq := fun d os o => (below_regrown wr d os).cell (p := ⟨b, o, none⟩) (by first | (simp; done) | omega | (simp; omega)); refine wp_region_quiet_below (by kernel_rfl) (by kernel_rfl) ?_; (repeat (first | go_big_quiet_step (exact Calls.regrown_of (K.mtv (f j) (f k) _ (by assumption) _)) | quiet_step (exact Calls.regrown_of (K.mtv (f j) (f k) _ (by assumption) _)))); refine wpQuiet_nil ?_; intro _ hw'; obtain ⟨⟨dq, osq⟩, hw''⟩ := hw'; subst hw''; clear hq; have hb5 := below_regrown wr dq osq; generalize Sort.grow (redrawn wr dq) osq = w5 at hb5 ⊢; have hz5 := hb5.size; (try simp at hz5); have _ : b < w5.heap.size := (by first | (simp; done) | omega | (simp; omega)); have _ := fun o => hb5.cell (p := ⟨b, o, none⟩) (by first | (simp; done) | omega | (simp; omega))
                    go_wp2
                    go_roundw
                    case rel => exact ⟨j + 1, by omega, by go_num, by rw [HR.out, hp, hc]; rfl, by (repeat (first | with_reducible exact Below.refl _ _ | with_reducible assumption | ((with_reducible refine Below.alloc ?_ ?_ _); rotate_left; focus (first | with_reducible exact Nat.le_refl _ | omega | (simp; done) | (simp; omega))) | ((with_reducible refine Below.setCell ?_ ?_ _); rotate_left; focus (first | with_reducible exact Nat.le_refl _ | omega | (simp; done) | (simp; omega))) | (with_reducible refine Below.drew ?_) | ((with_reducible refine Below.trans ?_ (Below.mono (by with_reducible assumption) ?_)); rotate_left; focus (first | with_reducible exact Nat.le_refl _ | omega | (simp; done) | (simp; omega)))))⟩
                    case measure => simp [intOf]; omega
                  · go_wp2_with fail
                    have hq : True := trivial; have hq := fun d os o => (below_regrown wr d os).cell (p := ⟨b, o, none⟩) (by first | (simp; done) | omega | (simp; omega)); refine wp_region_quiet_below (by kernel_rfl) (by kernel_rfl) ?_; (repeat (first | go_big_quiet_step (exact Calls.regrown_of (K.mtv (f j) (f k) _ (by assumption) _)) | quiet_step (exact Calls.regrown_of (K.mtv (f j) (f k) _ (by assumption) _)))); refine wpQuiet_nil ?_; intro _ hw'; obtain ⟨⟨dq, osq⟩, hw''⟩ := hw'; subst hw''; clear hq; have hb5 := below_regrown wr dq osq; generalize Sort.grow (redrawn wr dq) osq = w5 at hb5 ⊢; have hz5 := hb5.size; (try simp at hz5); have _ : b < w5.heap.size := (by first | (simp; done) | omega | (simp; omega)); have _ := fun o => hb5.cell (p := ⟨b, o, none⟩) (by first | (simp; done) | omega | (simp; omega))
                    go_wp2
                    go_roundw
                    case rel => exact ⟨j + 1, by omega, by go_num, by rw [HR.out, hp, hc]; rfl, by (repeat (first | with_reducible exact Below.refl _ _ | with_reducible assumption | ((with_reducible refine Below.alloc ?_ ?_ _); rotate_left; focus (first | with_reducible exact Nat.le_refl _ | omega | (simp; done) | (simp; omega))) | ((with_reducible refine Below.setCell ?_ ?_ _); rotate_left; focus (first | with_reducible exact Nat.le_refl _ | omega | (simp; done) | (simp; omega))) | (with_reducible refine Below.drew ?_) | ((with_reducible refine Below.trans ?_ (Below.mono (by with_reducible assumption) ?_)); rotate_left; focus (first | with_reducible exact Nat.le_refl _ | omega | (simp; done) | (simp; omega)))))⟩
                    case measure => simp [intOf]; omega
              · obtain rfl : j = m := by omega
                have hone := meets_one hL hlt
                have hdl := HDL.out k hlt
                obtain ⟨b, off, hA2, hbl, c0⟩ := (HI4.out.below hbj).is.at_ hlt
                subst hA2
                obtain ⟨D, hD⟩ : ∃ D, dgF f j k = D := ⟨_, rfl⟩
                rw [hD] at hone hdl HSs
                simp only [hD] at c0
                have HBj := Lib.hid hbj
                clear hD hbj
                cases hp : mrow f k j
                · rw [hp] at hone
                  go_wp2
                  go_roundw
                  case rel => exact ⟨k + 1, by omega, by go_num, by rw [HSs.out]; go_num, HBj.out⟩
                  case measure => simp [intOf]; omega
                · rw [hp] at hone
                  go_wp2
                  go_roundw
                  case rel => exact ⟨k + 1, by omega, by go_num, by rw [HSs.out]; go_num, HBj.out⟩
                  case measure => simp [intOf]; omega
          · obtain rfl : k = m := by omega
            have hev : ((S : Int).tmod 2 == 0) = true := by
              have h2 := shake f k
              rw [HSS.out] at h2
              rw [Int.tmod_eq_emod_of_nonneg (by omega), beq_iff_eq]; omega
            have hev2 : ((S : Int) % 2 == 0) = true := by rw [Int.tmod_eq_emod_of_nonneg (by omega)] at hev; exact hev
            go_wp2
            go_ret
            exact ⟨rfl, HB4.out.trans (HBr.out.mono hle4)⟩

set_option maxHeartbeats 8000000 in
set_option maxRecDepth 100000 in
theorem walkMostMeeting (K : ImpAm) (I_mo : IMo6) (a : Option Addr) (len cap : Nat) (w : World) (hc : Came w a len cap) :
    Calls Try.prog 5 #[.slice a len cap] w fun e w' => e = .returned (.bool true) ∧ Below w.heap.size w w' := by
  have hm := hc.len_le
  by_cases hl : 1048576 < len
  · go_enter Try.func5, Try.ntmps5
    go_wp2
    go_ret
    exact ⟨rfl, Below.refl _ _⟩
  · go_enter Try.func5, Try.ntmps5
    go_wp2_with fail
    refine (dMostMeeting _ _ _ _ hc).mono ?_; rintro e w1 hp; have HP1 := Lib.hid hp; clear hp; obtain ⟨A, m, lcap, g, f, rfl, hm8, ho1, hg1, hh1, hb1⟩ := HP1.out; have hz1 := hb1.size; (try simp at hz1); have HO1 := Lib.hid ho1; have HH1 := Lib.hid hh1; clear ho1 hh1; have hmm : m ≤ maxLen := (by unfold maxLen; omega); have Hmm := Lib.hid hmm; clear hmm
    cases hL : laidF f m
    · have HN : Hid (moF f m = -1) := Lib.hid (by unfold moF; rw [hL]; rfl)
      go_wp2_with fail
      refine (I_mo.mov A m lcap f (-1) HN.out _ Hmm.out HO1.out.rs).mono ?_; rintro e w2 ⟨rfl, hb2⟩; have hz2 := hb2.size; (try simp at hz2); have HO2 := Lib.hid (HO1.out.below hb2)
      go_wp2_with fail
      refine (smo_val A m lcap f (-1) HN.out _ Hmm.out HO2.out.rs).mono ?_; rintro e w3 ⟨rfl, hb3⟩; have hz3 := hb3.size; (try simp at hz3); have HO3 := Lib.hid (HO2.out.below hb3)
      go_wp2_with fail
      refine (ilaid_val A m lcap f false hL _ Hmm.out HO3.out.rs).mono ?_; rintro e w4 ⟨rfl, hb4⟩; have hz4 := hb4.size; (try simp at hz4)
      go_wp2_with fail
      refine (alive_any _).mono ?_; rintro e w5 ⟨rfl, hb5⟩; have hz5 := hb5.size; (try simp at hz5)
      go_wp2
      go_ret
      exact ⟨rfl, by (repeat (first | with_reducible exact Below.refl _ _ | with_reducible assumption | ((with_reducible refine Below.alloc ?_ ?_ _); rotate_left; focus (first | with_reducible exact Nat.le_refl _ | omega | (simp; done) | (simp; omega))) | ((with_reducible refine Below.setCell ?_ ?_ _); rotate_left; focus (first | with_reducible exact Nat.le_refl _ | omega | (simp; done) | (simp; omega))) | (with_reducible refine Below.drew ?_) | ((with_reducible refine Below.trans ?_ (Below.mono (by with_reducible assumption) ?_)); rotate_left; focus (first | with_reducible exact Nat.le_refl _ | omega | (simp; done) | (simp; omega)))))⟩
    · obtain ⟨d, x, y, l1, l2, hd7, l3⟩ := most_say hL
      have HD := Lib.hid (And.intro l1 l2)
      clear l1 l2
      cases hV : amF f m
      · skip
        have HV := Lib.hid hV
        rw [hV] at l3
        clear hV
        go_wp2_with fail
        refine (I_mo.mov A m lcap f d HD.out.2 _ Hmm.out HO1.out.rs).mono ?_; rintro e w2 ⟨rfl, hb2⟩; have hz2 := hb2.size; (try simp at hz2); have HO2 := Lib.hid (HO1.out.below hb2)
        go_wp2_with fail
        refine (smo_val A m lcap f d HD.out.2 _ Hmm.out HO2.out.rs).mono ?_; rintro e w3 ⟨rfl, hb3⟩; have hz3 := hb3.size; (try simp at hz3); have HO3 := Lib.hid (HO2.out.below hb3)
        go_wp2_with fail
        refine (ide_val A m lcap f d x y true HD.out.1 hL _ Hmm.out HO3.out.rs).mono ?_; rintro e w4 ⟨rfl, hb4⟩; have hz4 := hb4.size; (try simp at hz4); have HO4 := Lib.hid (HO3.out.below hb4)
        go_wp2_with fail
        refine (K.amv A m lcap f false HV.out _ Hmm.out HO4.out.rs).mono ?_; rintro e w5 ⟨rfl, hb5⟩; have hz5 := hb5.size; (try simp at hz5)
        go_wp2_with fail
        refine (alive_any _).mono ?_; rintro e w6 ⟨rfl, hb6⟩; have hz6 := hb6.size; (try simp at hz6)
        go_wp2
        go_ret
        exact ⟨rfl, by (repeat (first | with_reducible exact Below.refl _ _ | with_reducible assumption | ((with_reducible refine Below.alloc ?_ ?_ _); rotate_left; focus (first | with_reducible exact Nat.le_refl _ | omega | (simp; done) | (simp; omega))) | ((with_reducible refine Below.setCell ?_ ?_ _); rotate_left; focus (first | with_reducible exact Nat.le_refl _ | omega | (simp; done) | (simp; omega))) | (with_reducible refine Below.drew ?_) | ((with_reducible refine Below.trans ?_ (Below.mono (by with_reducible assumption) ?_)); rotate_left; focus (first | with_reducible exact Nat.le_refl _ | omega | (simp; done) | (simp; omega)))))⟩
      · skip
        have HV := Lib.hid hV
        rw [hV] at l3
        clear hV
        go_wp2_with fail
        refine (I_mo.mov A m lcap f d HD.out.2 _ Hmm.out HO1.out.rs).mono ?_; rintro e w2 ⟨rfl, hb2⟩; have hz2 := hb2.size; (try simp at hz2); have HO2 := Lib.hid (HO1.out.below hb2)
        go_wp2_with fail
        refine (smo_val A m lcap f d HD.out.2 _ Hmm.out HO2.out.rs).mono ?_; rintro e w3 ⟨rfl, hb3⟩; have hz3 := hb3.size; (try simp at hz3); have HO3 := Lib.hid (HO2.out.below hb3)
        go_wp2_with fail
        refine (ide_val A m lcap f d x y true HD.out.1 hL _ Hmm.out HO3.out.rs).mono ?_; rintro e w4 ⟨rfl, hb4⟩; have hz4 := hb4.size; (try simp at hz4); have HO4 := Lib.hid (HO3.out.below hb4)
        go_wp2_with fail
        refine (K.amv A m lcap f true HV.out _ Hmm.out HO4.out.rs).mono ?_; rintro e w5 ⟨rfl, hb5⟩; have hz5 := hb5.size; (try simp at hz5)
        go_wp2_with fail
        refine (alive_any _).mono ?_; rintro e w6 ⟨rfl, hb6⟩; have hz6 := hb6.size; (try simp at hz6)
        go_wp2
        go_ret
        exact ⟨rfl, by (repeat (first | with_reducible exact Below.refl _ _ | with_reducible assumption | ((with_reducible refine Below.alloc ?_ ?_ _); rotate_left; focus (first | with_reducible exact Nat.le_refl _ | omega | (simp; done) | (simp; omega))) | ((with_reducible refine Below.setCell ?_ ?_ _); rotate_left; focus (first | with_reducible exact Nat.le_refl _ | omega | (simp; done) | (simp; omega))) | (with_reducible refine Below.drew ?_) | ((with_reducible refine Below.trans ?_ (Below.mono (by with_reducible assumption) ?_)); rotate_left; focus (first | with_reducible exact Nat.le_refl _ | omega | (simp; done) | (simp; omega)))))⟩

set_option maxHeartbeats 8000000 in
set_option maxRecDepth 100000 in
theorem walkColoursOf (I_mo : IMo6) (I_cl : ICl6) (a : Option Addr) (len cap : Nat) (w : World) (hc : Came w a len cap) :
    Calls Try.prog 6 #[.slice a len cap] w fun e w' => e = .returned (.bool true) ∧ Below w.heap.size w w' := by
  have hm := hc.len_le
  by_cases hl : 1048576 < len
  · go_enter Try.func6, Try.ntmps6
    go_wp2
    go_ret
    exact ⟨rfl, Below.refl _ _⟩
  · go_enter Try.func6, Try.ntmps6
    go_wp2_with fail
    refine (dColoursOf _ _ _ _ hc).mono ?_; rintro e w1 hp; have HP1 := Lib.hid hp; clear hp; obtain ⟨A, m, lcap, g, f, rfl, hm8, ho1, hg1, hh1, hb1⟩ := HP1.out; have hz1 := hb1.size; (try simp at hz1); have HO1 := Lib.hid ho1; have HH1 := Lib.hid hh1; clear ho1 hh1; have hmm : m ≤ maxLen := (by unfold maxLen; omega); have Hmm := Lib.hid hmm; clear hmm
    cases hL : laidF f m
    · have HN : Hid (clF f m = -1) := Lib.hid (by unfold clF; rw [hL]; rfl)
      go_wp2_with fail
      refine (I_cl.clv A m lcap f (-1) HN.out _ Hmm.out HO1.out.rs).mono ?_; rintro e w2 ⟨rfl, hb2⟩; have hz2 := hb2.size; (try simp at hz2); have HO2 := Lib.hid (HO1.out.below hb2)
      go_wp2_with fail
      refine (scl_val A m lcap f (-1) HN.out _ Hmm.out HO2.out.rs).mono ?_; rintro e w3 ⟨rfl, hb3⟩; have hz3 := hb3.size; (try simp at hz3); have HO3 := Lib.hid (HO2.out.below hb3)
      go_wp2_with fail
      refine (ilaid_val A m lcap f false hL _ Hmm.out HO3.out.rs).mono ?_; rintro e w4 ⟨rfl, hb4⟩; have hz4 := hb4.size; (try simp at hz4)
      go_wp2_with fail
      refine (alive_any _).mono ?_; rintro e w5 ⟨rfl, hb5⟩; have hz5 := hb5.size; (try simp at hz5)
      go_wp2
      go_ret
      exact ⟨rfl, by (repeat (first | with_reducible exact Below.refl _ _ | with_reducible assumption | ((with_reducible refine Below.alloc ?_ ?_ _); rotate_left; focus (first | with_reducible exact Nat.le_refl _ | omega | (simp; done) | (simp; omega))) | ((with_reducible refine Below.setCell ?_ ?_ _); rotate_left; focus (first | with_reducible exact Nat.le_refl _ | omega | (simp; done) | (simp; omega))) | (with_reducible refine Below.drew ?_) | ((with_reducible refine Below.trans ?_ (Below.mono (by with_reducible assumption) ?_)); rotate_left; focus (first | with_reducible exact Nat.le_refl _ | omega | (simp; done) | (simp; omega)))))⟩
    · by_cases h0 : m = 0
      · subst h0
        have HN : Hid (clF f 0 = 0) := Lib.hid (by rw [clF_yes hL]; have := coN_le f 0; omega)
        go_wp2_with fail
        refine (I_cl.clv A 0 lcap f 0 HN.out _ Hmm.out HO1.out.rs).mono ?_; rintro e w2 ⟨rfl, hb2⟩; have hz2 := hb2.size; (try simp at hz2); have HO2 := Lib.hid (HO1.out.below hb2)
        go_wp2_with fail
        refine (scl_val A 0 lcap f 0 HN.out _ Hmm.out HO2.out.rs).mono ?_; rintro e w3 ⟨rfl, hb3⟩; have hz3 := hb3.size; (try simp at hz3); have HO3 := Lib.hid (HO2.out.below hb3)
        go_wp2_with fail
        refine (alive_any _).mono ?_; rintro e w4 ⟨rfl, hb4⟩; have hz4 := hb4.size; (try simp at hz4)
        go_wp2
        go_ret
        exact ⟨rfl, by (repeat (first | with_reducible exact Below.refl _ _ | with_reducible assumption | ((with_reducible refine Below.alloc ?_ ?_ _); rotate_left; focus (first | with_reducible exact Nat.le_refl _ | omega | (simp; done) | (simp; omega))) | ((with_reducible refine Below.setCell ?_ ?_ _); rotate_left; focus (first | with_reducible exact Nat.le_refl _ | omega | (simp; done) | (simp; omega))) | (with_reducible refine Below.drew ?_) | ((with_reducible refine Below.trans ?_ (Below.mono (by with_reducible assumption) ?_)); rotate_left; focus (first | with_reducible exact Nat.le_refl _ | omega | (simp; done) | (simp; omega)))))⟩
      · obtain ⟨l1, l2, _, l4, l5, l6⟩ := colours_say hL
        have hmz : ((m : Int) == 0) = false := by simp; omega
        have hm0 : 0 < m := by omega
        have h7 := (laidF_ok hL).1
        have HM : Hid (cntF (laidF f m) m = m) := Lib.hid (by rw [hL]; rfl)
        have HGB := Lib.hid (fun k (hk : k ≤ m) => maxK_bd (dgF f m) (B := 6) k fun i hi => by have := dg_lt (f := f) (n := m) (k := i) (by omega); omega)
        generalize hC : clF f m = C at l1 l2 l4 l6
        generalize hMO : moF f m = MO at l1 l4 l5
        have HC := Lib.hid hC
        have HMO := Lib.hid hMO
        have HSm := Lib.hid l4
        have HG := Lib.hid l2
        clear hC hMO l4 h0 l2
        go_wp2_with fail
        refine (I_cl.clv A m lcap f C HC.out _ Hmm.out HO1.out.rs).mono ?_; rintro e w2 ⟨rfl, hb2⟩; have hz2 := hb2.size; (try simp at hz2); have HO2 := Lib.hid (HO1.out.below hb2)
        go_wp2_with fail
        refine (scl_val A m lcap f C HC.out _ Hmm.out HO2.out.rs).mono ?_; rintro e w3 ⟨rfl, hb3⟩; have hz3 := hb3.size; (try simp at hz3); have HO3 := Lib.hid (HO2.out.below hb3)
        go_wp2_with fail
        refine (I_mo.mov A m lcap f MO HMO.out _ Hmm.out HO3.out.rs).mono ?_; rintro e w4 ⟨rfl, hb4⟩; have hz4 := hb4.size; (try simp at hz4); have HO4 := Lib.hid (HO3.out.below hb4)
        go_wp2_with fail
        refine (smeets_val A m lcap f m HM.out _ Hmm.out HO4.out.rs).mono ?_; rintro e w5 hp; have HP5 := Lib.hid hp; clear hp; obtain ⟨A3, c3, g3, rfl, hi3, hgg3, hb5⟩ := HP5.out; have hz5 := hb5.size; (try simp at hz5); have HI3 := Lib.hid hi3; clear hi3; have HO5 := Lib.hid (HO4.out.below hb5)
        have HB5 : Hid (Below w.heap.size w w5) := Lib.hid (by (repeat (first | with_reducible exact Below.refl _ _ | with_reducible assumption | ((with_reducible refine Below.alloc ?_ ?_ _); rotate_left; focus (first | with_reducible exact Nat.le_refl _ | omega | (simp; done) | (simp; omega))) | ((with_reducible refine Below.setCell ?_ ?_ _); rotate_left; focus (first | with_reducible exact Nat.le_refl _ | omega | (simp; done) | (simp; omega))) | (with_reducible refine Below.drew ?_) | ((with_reducible refine Below.trans ?_ (Below.mono (by with_reducible assumption) ?_)); rotate_left; focus (first | with_reducible exact Nat.le_refl _ | omega | (simp; done) | (simp; omega))))))
        have hle5 : w.heap.size ≤ w5.heap.size := HB5.out.size
        clear hb1 hb2 hb3 hb4 hb5
        go_wp2
        go_loopw [6, 7, 9] (fun s6 s7 s9 wr => ∃ k : Nat, k ≤ m ∧ s9 = .int .i64 k ∧ s6 = .bool (sameTo f k) ∧ s7 = .int .i64 (maxK (dgF f m) k : Nat) ∧ Below w5.heap.size w5 wr) (fun _ _ s9 _ => m - (intOf s9).toNat)
        case atStart => exact ⟨0, Nat.zero_le _, rfl, rfl, rfl, Below.refl _ _⟩
        case round =>
          obtain ⟨k, hk, rfl, rfl, rfl, hbr⟩ := hrel
          have hzr := hbr.size
          have HSk : Hid (sameTo f (k + 1) = ((sameTo f k && ((f k).o == (f 0).o)) && ((f k).h == (f 0).h))) := Lib.hid rfl
          have HGs : Hid (maxK (dgF f m) (k + 1) = max (maxK (dgF f m) k) (dgF f m k)) := Lib.hid rfl
          have hgb := HGB.out k hk
          obtain ⟨G, hG⟩ : ∃ G, maxK (dgF f m) k = G := ⟨_, rfl⟩
          rw [hG] at hgb HGs ⊢
          have HGG := Lib.hid hG
          clear hG
          by_cases hlt : k < m
          · obtain ⟨b, off, hA, hbl, ⟨c0, c1, c2, c3'⟩, d0, d1, d2, d3⟩ := (HO5.out.below hbr).rs.pair hlt hm0
            subst hA
            simp only [Nat.zero_mul, Nat.add_zero] at d0 d1 d2 d3
            obtain ⟨b3, off3, hA3, hbl3, e0⟩ := (HI3.out.below hbr).is.at_ hlt
            subst hA3
            have hdl := dg_lt (f := f) hlt
            obtain ⟨D, hD⟩ : ∃ D, dgF f m k = D := ⟨_, rfl⟩
            rw [hD] at HGs hdl
            simp only [hD] at e0
            clear hD
            cases hp : sameTo f k
            · go_wp2_with fail
              have hq : True := trivial; have hq := fun d os o => (below_regrown wr d os).cell (p := ⟨b, o, none⟩) (by first | (simp; done) | omega | (simp; omega)); have hq := fun d os o => (below_regrown wr d os).cell (p := ⟨b3, o, none⟩) (by first | (simp; done) | omega | (simp; omega)); refine wp_region_quiet_below (by kernel_rfl) (by kernel_rfl) ?_; (repeat (first | go_big_quiet_step (fail) | quiet_step (fail))); refine wpQuiet_nil ?_; intro _ hw'; obtain ⟨⟨dq, osq⟩, hw''⟩ := hw'; subst hw''; clear hq; have hb6 := below_regrown wr dq osq; generalize Sort.grow (redrawn wr dq) osq = w6 at hb6 ⊢; have hz6 := hb6.size; (try simp at hz6); have _ : b < w6.heap.size := (by first | (simp; done) | omega | (simp; omega)); have _ : b3 < w6.heap.size := (by first | (simp; done) | omega | (simp; omega)); have _ := fun o => hb6.cell (p := ⟨b, o, none⟩) (by first | (simp; done) | omega | (simp; omega)); have _ := fun o => hb6.cell (p := ⟨b3, o, none⟩) (by first | (simp; done) | omega | (simp; omega))
              go_wp2
              go_roundw
              case rel => exact ⟨k + 1, by omega, by go_num, by rw [HSk.out, hp]; rfl, by rw [HGs.out]; simp; omega, by (repeat (first | with_reducible exact Below.refl _ _ | with_reducible assumption | ((with_reducible refine Below.alloc ?_ ?_ _); rotate_left; focus (first | with_reducible exact Nat.le_refl _ | omega | (simp; done) | (simp; omega))) | ((with_reducible refine Below.setCell ?_ ?_ _); rotate_left; focus (first | with_reducible exact Nat.le_refl _ | omega | (simp; done) | (simp; omega))) | (with_reducible refine Below.drew ?_) | ((with_reducible refine Below.trans ?_ (Below.mono (by with_reducible assumption) ?_)); rotate_left; focus (first | with_reducible exact Nat.le_refl _ | omega | (simp; done) | (simp; omega)))))⟩
              case measure => simp [intOf]; omega
            · cases h1 : ((f k).o == (f 0).o)
              · go_wp2_with fail
                have hq : True := trivial; have hq := fun d os o => (below_regrown wr d os).cell (p := ⟨b, o, none⟩) (by first | (simp; done) | omega | (simp; omega)); have hq := fun d os o => (below_regrown wr d os).cell (p := ⟨b3, o, none⟩) (by first | (simp; done) | omega | (simp; omega)); refine wp_region_quiet_below (by kernel_rfl) (by kernel_rfl) ?_; (repeat (first | go_big_quiet_step (fail) | quiet_step (fail))); refine wpQuiet_nil ?_; intro _ hw'; obtain ⟨⟨dq, osq⟩, hw''⟩ := hw'; subst hw''; clear hq; have hb6 := below_regrown wr dq osq; generalize Sort.grow (redrawn wr dq) osq = w6 at hb6 ⊢; have hz6 := hb6.size; (try simp at hz6); have _ : b < w6.heap.size := (by first | (simp; done) | omega | (simp; omega)); have _ : b3 < w6.heap.size := (by first | (simp; done) | omega | (simp; omega)); have _ := fun o => hb6.cell (p := ⟨b, o, none⟩) (by first | (simp; done) | omega | (simp; omega)); have _ := fun o => hb6.cell (p := ⟨b3, o, none⟩) (by first | (simp; done) | omega | (simp; omega))
                go_wp2
                go_roundw
                case rel => exact ⟨k + 1, by omega, by go_num, by rw [HSk.out, hp, h1]; rfl, by rw [HGs.out]; simp; omega, by (repeat (first | with_reducible exact Below.refl _ _ | with_reducible assumption | ((with_reducible refine Below.alloc ?_ ?_ _); rotate_left; focus (first | with_reducible exact Nat.le_refl _ | omega | (simp; done) | (simp; omega))) | ((with_reducible refine Below.setCell ?_ ?_ _); rotate_left; focus (first | with_reducible exact Nat.le_refl _ | omega | (simp; done) | (simp; omega))) | (with_reducible refine Below.drew ?_) | ((with_reducible refine Below.trans ?_ (Below.mono (by with_reducible assumption) ?_)); rotate_left; focus (first | with_reducible exact Nat.le_refl _ | omega | (simp; done) | (simp; omega)))))⟩
                case measure => simp [intOf]; omega
              · cases h2 : ((f k).h == (f 0).h)
                · go_wp2_with fail
                  have hq : True := trivial; have hq := fun d os o => (below_regrown wr d os).cell (p := ⟨b, o, none⟩) (by first | (simp; done) | omega | (simp; omega)); have hq := fun d os o => (below_regrown wr d os).cell (p := ⟨b3, o, none⟩) (by first | (simp; done) | omega | (simp; omega)); refine wp_region_quiet_below (by kernel_rfl) (by kernel_rfl) ?_; (repeat (first | go_big_quiet_step (fail) | quiet_step (fail))); refine wpQuiet_nil ?_; intro _ hw'; obtain ⟨⟨dq, osq⟩, hw''⟩ := hw'; subst hw''; clear hq; have hb6 := below_regrown wr dq osq; generalize Sort.grow (redrawn wr dq) osq = w6 at hb6 ⊢; have hz6 := hb6.size; (try simp at hz6); have _ : b < w6.heap.size := (by first | (simp; done) | omega | (simp; omega)); have _ : b3 < w6.heap.size := (by first | (simp; done) | omega | (simp; omega)); have _ := fun o => hb6.cell (p := ⟨b, o, none⟩) (by first | (simp; done) | omega | (simp; omega)); have _ := fun o => hb6.cell (p := ⟨b3, o, none⟩) (by first | (simp; done) | omega | (simp; omega))
                  go_wp2
                  go_roundw
                  case rel => exact ⟨k + 1, by omega, by go_num, by rw [HSk.out, hp, h1, h2]; rfl, by rw [HGs.out]; simp; omega, by (repeat (first | with_reducible exact Below.refl _ _ | with_reducible assumption | ((with_reducible refine Below.alloc ?_ ?_ _); rotate_left; focus (first | with_reducible exact Nat.le_refl _ | omega | (simp; done) | (simp; omega))) | ((with_reducible refine Below.setCell ?_ ?_ _); rotate_left; focus (first | with_reducible exact Nat.le_refl _ | omega | (simp; done) | (simp; omega))) | (with_reducible refine Below.drew ?_) | ((with_reducible refine Below.trans ?_ (Below.mono (by with_reducible assumption) ?_)); rotate_left; focus (first | with_reducible exact Nat.le_refl _ | omega | (simp; done) | (simp; omega)))))⟩
                  case measure => simp [intOf]; omega
                · go_wp2_with fail
                  have hq : True := trivial; have hq := fun d os o => (below_regrown wr d os).cell (p := ⟨b, o, none⟩) (by first | (simp; done) | omega | (simp; omega)); have hq := fun d os o => (below_regrown wr d os).cell (p := ⟨b3, o, none⟩) (by first | (simp; done) | omega | (simp; omega)); refine wp_region_quiet_below (by kernel_rfl) (by kernel_rfl) ?_; (repeat (first | go_big_quiet_step (fail) | quiet_step (fail))); refine wpQuiet_nil ?_; intro _ hw'; obtain ⟨⟨dq, osq⟩, hw''⟩ := hw'; subst hw''; clear hq; have hb6 := below_regrown wr dq osq; generalize Sort.grow (redrawn wr dq) osq = w6 at hb6 ⊢; have hz6 := hb6.size; (try simp at hz6); have _ : b < w6.heap.size := (by first | (simp; done) | omega | (simp; omega)); have _ : b3 < w6.heap.size := (by first | (simp; done) | omega | (simp; omega)); have _ := fun o => hb6.cell (p := ⟨b, o, none⟩) (by first | (simp; done) | omega | (simp; omega)); have _ := fun o => hb6.cell (p := ⟨b3, o, none⟩) (by first | (simp; done) | omega | (simp; omega))
                  go_wp2
                  go_roundw
                  case rel => exact ⟨k + 1, by omega, by go_num, by rw [HSk.out, hp, h1, h2]; rfl, by rw [HGs.out]; simp; omega, by (repeat (first | with_reducible exact Below.refl _ _ | with_reducible assumption | ((with_reducible refine Below.alloc ?_ ?_ _); rotate_left; focus (first | with_reducible exact Nat.le_refl _ | omega | (simp; done) | (simp; omega))) | ((with_reducible refine Below.setCell ?_ ?_ _); rotate_left; focus (first | with_reducible exact Nat.le_refl _ | omega | (simp; done) | (simp; omega))) | (with_reducible refine Below.drew ?_) | ((with_reducible refine Below.trans ?_ (Below.mono (by with_reducible assumption) ?_)); rotate_left; focus (first | with_reducible exact Nat.le_refl _ | omega | (simp; done) | (simp; omega)))))⟩
                  case measure => simp [intOf]; omega
          · obtain rfl : k = m := by omega
            have hg := HG.out
            rw [HGG.out] at hg
            have HBr := Lib.hid (HB5.out.trans (hbr.mono hle5))
            cases hp : sameTo f k
            · go_wp2
              go_ret
              exact ⟨rfl, HBr.out⟩
            · have hcm : C = MO := HSm.out hp
              subst hcm
              go_wp2
              go_ret
              exact ⟨rfl, HBr.out⟩

set_option maxHeartbeats 8000000 in
set_option maxRecDepth 100000 in
theorem walkPaintedBy (K : ImpMt) (I_cl : ICl6) (I_pb : IPb6) (a : Option Addr) (len cap : Nat) (w : World) (hc : Came w a len cap) :
    Calls Try.prog 7 #[.slice a len cap] w fun e w' => e = .returned (.bool true) ∧ Below w.heap.size w w' := by
  have hm := hc.len_le
  by_cases hl : 1048576 < len
  · go_enter Try.func7, Try.ntmps7
    go_wp2
    go_ret
    exact ⟨rfl, Below.refl _ _⟩
  · go_enter Try.func7, Try.ntmps7
    go_wp2_with fail
    refine (dPaintedBy _ _ _ _ hc).mono ?_; rintro e w1 hp; have HP1 := Lib.hid hp; clear hp; obtain ⟨A, m, lcap, g, f, rfl, hm8, ho1, hg1, hh1, hb1⟩ := HP1.out; have hz1 := hb1.size; (try simp at hz1); have HO1 := Lib.hid ho1; have HH1 := Lib.hid hh1; clear ho1 hh1; have hmm : m ≤ maxLen := (by unfold maxLen; omega); have Hmm := Lib.hid hmm; clear hmm
    cases hL : laidF f m
    · have hm0 := laid_pos hL
      have hmz : ((m : Int) == 0) = false := by simp; omega
      have HM : Hid (cntF (laidF f m) m = 0) := Lib.hid (by rw [hL]; rfl)
      go_wp2_with fail
      refine (I_pb.pbv A m lcap f 0 HM.out _ Hmm.out HO1.out.rs).mono ?_; rintro e w2 hp; have HP2 := Lib.hid hp; clear hp; obtain ⟨A2, c2, g2, rfl, hi2, hgg2, hb2⟩ := HP2.out; have hz2 := hb2.size; (try simp at hz2); have HI2 := Lib.hid hi2; clear hi2; have HO2 := Lib.hid (HO1.out.below hb2)
      go_wp2_with fail
      refine (spb_val A m lcap f 0 HM.out _ Hmm.out HO2.out.rs).mono ?_; rintro e w3 hp; have HP3 := Lib.hid hp; clear hp; obtain ⟨A3, c3, g3, rfl, hi3, hgg3, hb3⟩ := HP3.out; have hz3 := hb3.size; (try simp at hz3); have HI3 := Lib.hid hi3; clear hi3; have HO3 := Lib.hid (HO2.out.below hb3); have HI23 := Lib.hid (HI2.out.below hb3)
      go_wp2_with fail
      refine (sameints_same A2 A3 0 c2 c3 (fun k => ((gcN f k : Nat) : Int)) _ (by unfold maxLen; omega) HI23.out.is HI3.out.is).mono ?_; rintro e w4 ⟨rfl, hb4⟩; have hz4 := hb4.size; have HO4 := Lib.hid (HO3.out.below hb4)
      go_wp2_with fail
      refine (ilaid_val A m lcap f false hL _ Hmm.out HO4.out.rs).mono ?_; rintro e w5 ⟨rfl, hb5⟩; have hz5 := hb5.size; (try simp at hz5)
      go_wp2_with fail
      refine (alive_any _).mono ?_; rintro e w6 ⟨rfl, hb6⟩; have hz6 := hb6.size; (try simp at hz6)
      go_wp2
      go_ret
      exact ⟨rfl, by (repeat (first | with_reducible exact Below.refl _ _ | with_reducible assumption | ((with_reducible refine Below.alloc ?_ ?_ _); rotate_left; focus (first | with_reducible exact Nat.le_refl _ | omega | (simp; done) | (simp; omega))) | ((with_reducible refine Below.setCell ?_ ?_ _); rotate_left; focus (first | with_reducible exact Nat.le_refl _ | omega | (simp; done) | (simp; omega))) | (with_reducible refine Below.drew ?_) | ((with_reducible refine Below.trans ?_ (Below.mono (by with_reducible assumption) ?_)); rotate_left; focus (first | with_reducible exact Nat.le_refl _ | omega | (simp; done) | (simp; omega)))))⟩
    · by_cases h0 : m = 0
      · subst h0
        have HM : Hid (cntF (laidF f 0) 0 = 0) := Lib.hid (by rw [hL]; rfl)
        go_wp2_with fail
        refine (I_pb.pbv A 0 lcap f 0 HM.out _ Hmm.out HO1.out.rs).mono ?_; rintro e w2 hp; have HP2 := Lib.hid hp; clear hp; obtain ⟨A2, c2, g2, rfl, hi2, hgg2, hb2⟩ := HP2.out; have hz2 := hb2.size; (try simp at hz2); have HI2 := Lib.hid hi2; clear hi2; have HO2 := Lib.hid (HO1.out.below hb2)
        go_wp2_with fail
        refine (spb_val A 0 lcap f 0 HM.out _ Hmm.out HO2.out.rs).mono ?_; rintro e w3 hp; have HP3 := Lib.hid hp; clear hp; obtain ⟨A3, c3, g3, rfl, hi3, hgg3, hb3⟩ := HP3.out; have hz3 := hb3.size; (try simp at hz3); have HI3 := Lib.hid hi3; clear hi3; have HO3 := Lib.hid (HO2.out.below hb3); have HI23 := Lib.hid (HI2.out.below hb3)
        go_wp2_with fail
        refine (sameints_same A2 A3 0 c2 c3 (fun k => ((gcN f k : Nat) : Int)) _ (by unfold maxLen; omega) HI23.out.is HI3.out.is).mono ?_; rintro e w4 ⟨rfl, hb4⟩; have hz4 := hb4.size; have HO4 := Lib.hid (HO3.out.below hb4)
        go_wp2_with fail
        refine (alive_any _).mono ?_; rintro e w6 ⟨rfl, hb6⟩; have hz6 := hb6.size; (try simp at hz6)
        go_wp2
        go_ret
        exact ⟨rfl, by (repeat (first | with_reducible exact Below.refl _ _ | with_reducible assumption | ((with_reducible refine Below.alloc ?_ ?_ _); rotate_left; focus (first | with_reducible exact Nat.le_refl _ | omega | (simp; done) | (simp; omega))) | ((with_reducible refine Below.setCell ?_ ?_ _); rotate_left; focus (first | with_reducible exact Nat.le_refl _ | omega | (simp; done) | (simp; omega))) | (with_reducible refine Below.drew ?_) | ((with_reducible refine Below.trans ?_ (Below.mono (by with_reducible assumption) ?_)); rotate_left; focus (first | with_reducible exact Nat.le_refl _ | omega | (simp; done) | (simp; omega)))))⟩
      · obtain ⟨h7, hok⟩ := laidF_ok hL
        have HM : Hid (cntF (laidF f m) m = m) := Lib.hid (by rw [hL]; rfl)
        have hmz : ((m : Int) == 0) = false := by simp; omega
        have hm0 : 0 < m := by omega
        clear hok h0
        go_wp2_with fail
        refine (I_pb.pbv A m lcap f m HM.out _ Hmm.out HO1.out.rs).mono ?_; rintro e w2 hp; have HP2 := Lib.hid hp; clear hp; obtain ⟨A2, c2, g2, rfl, hi2, hgg2, hb2⟩ := HP2.out; have hz2 := hb2.size; (try simp at hz2); have HI2 := Lib.hid hi2; clear hi2; have HO2 := Lib.hid (HO1.out.below hb2)
        go_wp2_with fail
        refine (spb_val A m lcap f m HM.out _ Hmm.out HO2.out.rs).mono ?_; rintro e w3 hp; have HP3 := Lib.hid hp; clear hp; obtain ⟨A3, c3, g3, rfl, hi3, hgg3, hb3⟩ := HP3.out; have hz3 := hb3.size; (try simp at hz3); have HI3 := Lib.hid hi3; clear hi3; have HO3 := Lib.hid (HO2.out.below hb3); have HI23 := Lib.hid (HI2.out.below hb3)
        go_wp2_with fail
        refine (sameints_same A2 A3 m c2 c3 (fun k => ((gcN f k : Nat) : Int)) _ (by unfold maxLen; omega) HI23.out.is HI3.out.is).mono ?_; rintro e w4 ⟨rfl, hb4⟩; have hz4 := hb4.size; have HO4 := Lib.hid (HO3.out.below hb4); have HI4 := Lib.hid (HI23.out.below hb4)
        have HB4 : Hid (Below w.heap.size w w4) := Lib.hid (by (repeat (first | with_reducible exact Below.refl _ _ | with_reducible assumption | ((with_reducible refine Below.alloc ?_ ?_ _); rotate_left; focus (first | with_reducible exact Nat.le_refl _ | omega | (simp; done) | (simp; omega))) | ((with_reducible refine Below.setCell ?_ ?_ _); rotate_left; focus (first | with_reducible exact Nat.le_refl _ | omega | (simp; done) | (simp; omega))) | (with_reducible refine Below.drew ?_) | ((with_reducible refine Below.trans ?_ (Below.mono (by with_reducible assumption) ?_)); rotate_left; focus (first | with_reducible exact Nat.le_refl _ | omega | (simp; done) | (simp; omega))))))
        have hle4 : w.heap.size ≤ w4.heap.size := HB4.out.size
        obtain ⟨_, _, l3, _, l5, l6⟩ := colours_say hL
        generalize hC : clF f m = C at l3 l6
        have HC := Lib.hid hC
        have HG := Lib.hid l3
        clear hC l3 l5 hb1 hb2 hb3 hb4
        have HGB := Lib.hid (fun k (hk : k ≤ m) => maxK_bd (gcN f) (B := 6) k fun i hi => by have := gc_lt f i; omega)
        go_wp2_with fail
        refine (smeets_val A m lcap f m HM.out _ Hmm.out HO4.out.rs).mono ?_; rintro e w5 hp; have HP5 := Lib.hid hp; clear hp; obtain ⟨A5, c5, g5, rfl, hi5, hgg5, hb5⟩ := HP5.out; have hz5 := hb5.size; (try simp at hz5); have HI5 := Lib.hid hi5; clear hi5; have HO5 := Lib.hid (HO4.out.below hb5); have HI45 := Lib.hid (HI4.out.below hb5)
        have HB5 : Hid (Below w.heap.size w w5) := Lib.hid (HB4.out.trans (hb5.mono hle4))
        have hle5 : w.heap.size ≤ w5.heap.size := HB5.out.size
        clear hb5
        go_wp2
        go_loopw [5, 7] (fun s5 s7 wr => ∃ k : Nat, k ≤ m ∧ s7 = .int .i64 k ∧ s5 = .int .i64 (maxK (gcN f) k : Nat) ∧ Below w5.heap.size w5 wr) (fun _ s7 _ => m - (intOf s7).toNat)
        case atStart => exact ⟨0, Nat.zero_le _, rfl, rfl, Below.refl _ _⟩
        case round =>
          obtain ⟨k, hk, rfl, rfl, hbr⟩ := hrel
          have HBr := Lib.hid hbr
          have hzr := hbr.size
          have HGs : Hid (maxK (gcN f) (k + 1) = max (maxK (gcN f) k) (gcN f k)) := Lib.hid rfl
          have hgb := HGB.out k hk
          obtain ⟨G, hG⟩ : ∃ G, maxK (gcN f) k = G := ⟨_, rfl⟩
          rw [hG] at hgb HGs ⊢
          have HGG := Lib.hid hG
          clear hG
          by_cases hlt : k < m
          · have hlt' : (k : Int) < m := by omega
            clear hbr
            go_wp2
            obtain ⟨wo, ho⟩ : ∃ wo : World, wo = wr := ⟨_, rfl⟩
            go_loopw [8] (fun s8 wr => ∃ j : Nat, j ≤ k ∧ s8 = .int .i64 j ∧ Below w5.heap.size w5 wr) (fun s8 _ => k - (intOf s8).toNat)
            case atStart => exact ⟨0, Nat.zero_le _, rfl, HBr.out⟩
            case round =>
              obtain ⟨j, hj, rfl, hbj⟩ := hrel
              have hzj := hbj.size
              obtain ⟨b2, off2, hA2, hbl2, c0⟩ := (HI45.out.below hbj).is.at_ hlt
              by_cases hlt2 : j < k
              · obtain ⟨b, off, hA, hbl, ⟨a0, a1, a2, a3⟩, d0, d1, d2, d3⟩ := (HO5.out.below hbj).rs.pair hlt (show j < m by omega)
                subst hA
                obtain ⟨b2', off2', hA2', hbl2', e0⟩ := (HI45.out.below hbj).is.at_ (show j < m by omega)
                subst hA2
                cases hA2'
                cases hc : cmB (f j) (f k)
                · go_wp2_with fail
                  have hq : True := trivial; have hq := fun d os o => (below_regrown wr d os).cell (p := ⟨b, o, none⟩) (by first | (simp; done) | omega | (simp; omega)); have hq := fun d os o => (below_regrown wr d os).cell (p := ⟨b2, o, none⟩) (by first | (simp; done) | omega | (simp; omega)); refine wp_region_quiet_below (by kernel_rfl) (by kernel_rfl) ?_; (repeat (first | go_big_quiet_step (exact Calls.regrown_of (K.mtv (f j) (f k) _ (by assumption) _)) | quiet_step (exact Calls.regrown_of (K.mtv (f j) (f k) _ (by assumption) _)))); refine wpQuiet_nil ?_; intro _ hw'; obtain ⟨⟨dq, osq⟩, hw''⟩ := hw'; subst hw''; clear hq; have hb6 := below_regrown wr dq osq; generalize Sort.grow (redrawn wr dq) osq = w6 at hb6 ⊢; have hz6 := hb6.size; (try simp at hz6); have _ : b < w6.heap.size := (by first | (simp; done) | omega | (simp; omega)); have _ : b2 < w6.heap.size := (by first | (simp; done) | omega | (simp; omega)); have _ := fun o => hb6.cell (p := ⟨b, o, none⟩) (by first | (simp; done) | omega | (simp; omega)); have _ := fun o => hb6.cell (p := ⟨b2, o, none⟩) (by first | (simp; done) | omega | (simp; omega))
                  go_wp2
                  go_roundw
                  case rel => exact ⟨j + 1, by omega, by go_num, by (repeat (first | with_reducible exact Below.refl _ _ | with_reducible assumption | ((with_reducible refine Below.alloc ?_ ?_ _); rotate_left; focus (first | with_reducible exact Nat.le_refl _ | omega | (simp; done) | (simp; omega))) | ((with_reducible refine Below.setCell ?_ ?_ _); rotate_left; focus (first | with_reducible exact Nat.le_refl _ | omega | (simp; done) | (simp; omega))) | (with_reducible refine Below.drew ?_) | ((with_reducible refine Below.trans ?_ (Below.mono (by with_reducible assumption) ?_)); rotate_left; focus (first | with_reducible exact Nat.le_refl _ | omega | (simp; done) | (simp; omega)))))⟩
                  case measure => simp [intOf]; omega
                · have hne := (gc_spec f k).1 j hlt2 hc
                  generalize hX : gcN f j = X at e0 hne
                  generalize hY : gcN f k = Y at c0 hne
                  have hxy : ((X : Int) == (Y : Int)) = false := by simp; omega
                  clear hX hY
                  go_wp2_with fail
                  have hq : True := trivial; have hq := fun d os o => (below_regrown wr d os).cell (p := ⟨b, o, none⟩) (by first | (simp; done) | omega | (simp; omega)); have hq := fun d os o => (below_regrown wr d os).cell (p := ⟨b2, o, none⟩) (by first | (simp; done) | omega | (simp; omega)); refine wp_region_quiet_below (by kernel_rfl) (by kernel_rfl) ?_; (repeat (first | go_big_quiet_step (exact Calls.regrown_of (K.mtv (f j) (f k) _ (by assumption) _)) | quiet_step (exact Calls.regrown_of (K.mtv (f j) (f k) _ (by assumption) _)))); refine wpQuiet_nil ?_; intro _ hw'; obtain ⟨⟨dq, osq⟩, hw''⟩ := hw'; subst hw''; clear hq; have hb6 := below_regrown wr dq osq; generalize Sort.grow (redrawn wr dq) osq = w6 at hb6 ⊢; have hz6 := hb6.size; (try simp at hz6); have _ : b < w6.heap.size := (by first | (simp; done) | omega | (simp; omega)); have _ : b2 < w6.heap.size := (by first | (simp; done) | omega | (simp; omega)); have _ := fun o => hb6.cell (p := ⟨b, o, none⟩) (by first | (simp; done) | omega | (simp; omega)); have _ := fun o => hb6.cell (p := ⟨b2, o, none⟩) (by first | (simp; done) | omega | (simp; omega))
                  go_wp2
                  go_roundw
                  case rel => exact ⟨j + 1, by omega, by go_num, by (repeat (first | with_reducible exact Below.refl _ _ | with_reducible assumption | ((with_reducible refine Below.alloc ?_ ?_ _); rotate_left; focus (first | with_reducible exact Nat.le_refl _ | omega | (simp; done) | (simp; omega))) | ((with_reducible refine Below.setCell ?_ ?_ _); rotate_left; focus (first | with_reducible exact Nat.le_refl _ | omega | (simp; done) | (simp; omega))) | (with_reducible refine Below.drew ?_) | ((with_reducible refine Below.trans ?_ (Below.mono (by with_reducible assumption) ?_)); rotate_left; focus (first | with_reducible exact Nat.le_refl _ | omega | (simp; done) | (simp; omega)))))⟩
                  case measure => simp [intOf]; omega
              · obtain rfl : j = k := by omega
                subst hA2
                obtain ⟨b3, off3, hA3, hbl3, e0⟩ := (HI5.out.below hbj).is.at_ hlt
                subst hA3
                have hgd := gc_le (f := f) hlt
                have hdl := dg_lt (f := f) hlt
                obtain ⟨X, hX⟩ : ∃ X, gcN f j = X := ⟨_, rfl⟩
                obtain ⟨D, hD⟩ : ∃ D, dgF f m j = D := ⟨_, rfl⟩
                rw [hX] at hgd HGs
                rw [hD] at hgd hdl
                simp only [hX] at c0
                simp only [hD] at e0
                clear hX hD
                go_wp2_with fail
                have hq : True := trivial; have hq := fun d os o => (below_regrown wr d os).cell (p := ⟨b2, o, none⟩) (by first | (simp; done) | omega | (simp; omega)); have hq := fun d os o => (below_regrown wr d os).cell (p := ⟨b3, o, none⟩) (by first | (simp; done) | omega | (simp; omega)); refine wp_region_quiet_below (by kernel_rfl) (by kernel_rfl) ?_; (repeat (first | go_big_quiet_step (fail) | quiet_step (fail))); refine wpQuiet_nil ?_; intro _ hw'; obtain ⟨⟨dq, osq⟩, hw''⟩ := hw'; subst hw''; clear hq; have hb6 := below_regrown wr dq osq; generalize Sort.grow (redrawn wr dq) osq = w6 at hb6 ⊢; have hz6 := hb6.size; (try simp at hz6); have _ : b2 < w6.heap.size := (by first | (simp; done) | omega | (simp; omega)); have _ : b3 < w6.heap.size := (by first | (simp; done) | omega | (simp; omega)); have _ := fun o => hb6.cell (p := ⟨b2, o, none⟩) (by first | (simp; done) | omega | (simp; omega)); have _ := fun o => hb6.cell (p := ⟨b3, o, none⟩) (by first | (simp; done) | omega | (simp; omega))
                go_wp2
                go_roundw
                case rel => exact ⟨j + 1, by omega, by go_num, by rw [HGs.out]; simp; omega, by (repeat (first | with_reducible exact Below.refl _ _ | with_reducible assumption | ((with_reducible refine Below.alloc ?_ ?_ _); rotate_left; focus (first | with_reducible exact Nat.le_refl _ | omega | (simp; done) | (simp; omega))) | ((with_reducible refine Below.setCell ?_ ?_ _); rotate_left; focus (first | with_reducible exact Nat.le_refl _ | omega | (simp; done) | (simp; omega))) | (with_reducible refine Below.drew ?_) | ((with_reducible refine Below.trans ?_ (Below.mono (by with_reducible assumption) ?_)); rotate_left; focus (first | with_reducible exact Nat.le_refl _ | omega | (simp; done) | (simp; omega)))))⟩
                case measure => simp [intOf]; omega
          · obtain rfl : k = m := by omega
            have hg := HG.out
            rw [HGG.out] at hg
            go_wp2_with fail
            refine (I_cl.clv A k lcap f C HC.out _ Hmm.out (HO5.out.below hbr).rs).mono ?_; rintro e w6 ⟨rfl, hb6⟩; have hz6 := hb6.size; (try simp at hz6)
            go_wp2
            go_ret
            exact ⟨rfl, HB5.out.trans (Below.mono (hbr.trans (hb6.mono hzr)) hle5)⟩
end Go.Proofs.Ytkfeeijiockdhaa
