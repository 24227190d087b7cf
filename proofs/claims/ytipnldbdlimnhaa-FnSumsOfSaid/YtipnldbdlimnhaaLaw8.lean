
/- The law of UnionArea: its walk. -/
import Derived.Test.YtipnldbdlimnhaaLaw7
import Derived.Test.YtipnldbdlimnhaaEx5
namespace Go.Proofs.Ytipnldbdlimnhaa
open Go.RowKit Go.Sort Go.BigFrame
set_option linter.unusedVariables false
theorem sua_val (A : Option Addr) (n cap : Nat) (f : Nat → Rt) (v : Int) (h : uaF f n = v) (w : World) (hn : n ≤ maxLen) (hr : Rs w A n f) :
    Calls Try.prog 19 #[.slice A n cap] w fun e w' => e = .returned (.int .i64 v) ∧ Below w.heap.size w w' := h ▸ sua_any A n cap f w hn hr
theorem sumsAt_bd {f : Nat → Rt} {n : Nat} (h : n ≤ 7) (j : Nat) : 0 ≤ sumsAt f n j ∧ sumsAt f n j ≤ 51200 := by
  have h1 := accF_bd f n (2 ^ n) j
  have h2 := pow_le7 n h
  rw [accF_all] at h1
  omega
/-- by turns added and taken away -/
def turnF (f : Nat → Rt) (n k : Nat) : Int := sumN k (fun j => sumsAt f n j * sgn j)
theorem turn_all (f : Nat → Rt) (n : Nat) : turnF f n n = cells (fun x y => one (anyTo f x y n)) := by
  rw [← sums_signed]; exact sumN_congr fun j _ => Int.mul_comm _ _
theorem turn_bd {f : Nat → Rt} {n : Nat} (h : n ≤ 7) (k : Nat) : -(51200 * (k : Int)) ≤ turnF f n k ∧ turnF f n k ≤ 51200 * (k : Int) := by
  induction k with
  | zero => simp [turnF, sumN]
  | succ k ih =>
    have hs := sumsAt_bd (f := f) h k
    have e : turnF f n (k + 1) = turnF f n k + sumsAt f n k * sgn k := rfl
    rw [e]
    unfold sgn
    split <;> omega
def allF (f : Nat → Rt) (k : Nat) : Int := sumN k (fun i => areaM (f i))
def bestF (f : Nat → Rt) : Nat → Int
  | 0 => 0
  | k + 1 => max (bestF f k) (areaM (f k))
theorem area_bd {r : Rt} (h : okB r = true) : 0 ≤ areaM r ∧ areaM r ≤ 400 := by
  have hk := okB_iff.1 h
  have hp := span_prod (a := r.r - r.l) (b := r.h - r.o) (by omega) (by omega) (by omega) (by omega)
  unfold areaM; rw [if_pos h]; exact hp
theorem allF_bd {f : Nat → Rt} {n : Nat} (h : okTo f n = true) : ∀ k, k ≤ n → 0 ≤ allF f k ∧ allF f k ≤ 400 * k := by
  intro k
  induction k with
  | zero => intro _; simp [allF, sumN]
  | succ k ih =>
    intro hk
    have h1 := ih (by omega)
    have h2 := area_bd (okTo_le h (by omega : k < n))
    have e : allF f (k + 1) = allF f k + areaM (f k) := rfl
    rw [e]; omega
theorem any_of (f : Nat → Rt) (x y : Int) (i : Nat) : ∀ n, i < n → one (hasB (f i) x y) ≤ one (anyTo f x y n) := by
  intro n
  induction n with
  | zero => intro h; omega
  | succ n ih =>
    intro h
    simp only [anyTo]
    by_cases e : i = n
    · subst e; cases anyTo f x y i <;> cases hasB (f i) x y <;> decide
    · have := ih (by omega)
      revert this
      cases anyTo f x y n <;> cases hasB (f i) x y <;> cases hasB (f n) x y <;> decide
theorem best_le {f : Nat → Rt} {n : Nat} (h : okTo f n = true) : ∀ k, k ≤ n → 0 ≤ bestF f k ∧ bestF f k ≤ cells (fun x y => one (anyTo f x y n)) ∧ bestF f k ≤ 400 := by
  intro k
  induction k with
  | zero => intro _; exact ⟨Int.le_refl _, cells_nonneg fun _ _ _ _ => one_nonneg _, by simp [bestF]⟩
  | succ k ih =>
    intro hk
    have h1 := ih (by omega)
    have h2 := area_bd (okTo_le h (by omega : k < n))
    have h3 : areaM (f k) ≤ cells (fun x y => one (anyTo f x y n)) := by
      rw [area_cells _ (okTo_le h (by omega : k < n))]
      exact cells_le fun x y _ _ => any_of f x y k n (by omega)
    simp only [bestF]
    omega
theorem union_facts {f : Nat → Rt} {n : Nat} (hl : laidF f n = true) : turnF f n n = uaF f n ∧ uaF f n ≤ allF f n ∧ bestF f n ≤ uaF f n ∧ 0 ≤ uaF f n := by
  obtain ⟨h7, hok⟩ := laidF_ok hl
  have e : uaF f n = cells (fun x y => one (anyTo f x y n)) := by unfold uaF; rw [hl]; rfl
  rw [e]
  refine ⟨turn_all f n, ?_, (best_le hok n (Nat.le_refl _)).2.1, cells_nonneg fun _ _ _ _ => one_nonneg _⟩
  have h1 := (union_bonf f n).1
  rw [sums_first f n (fun i hi => okTo_le hok hi)] at h1
  exact h1
theorem ua_no {f : Nat → Rt} {n : Nat} (h : laidF f n = false) : uaF f n = -1 := by unfold uaF; rw [h]; rfl

set_option maxHeartbeats 4000000 in
theorem walkUnionArea (a : Option Addr) (len cap : Nat) (w : World) (hc : Came w a len cap) :
    Calls Try.prog 4 #[.slice a len cap] w fun e w' => e = .returned (.bool true) ∧ Below w.heap.size w w' := by
  have hm := hc.len_le
  by_cases hl : 1048576 < len
  · go_enter Try.func4, Try.ntmps4
    go_wp2
    go_ret
    exact ⟨rfl, Below.refl _ _⟩
  · go_enter Try.func4, Try.ntmps4
    go_wp2_with fail
    refine (dUnionArea _ _ _ _ hc).mono ?_; rintro e w1 hp; have HP1 := Lib.hid hp; clear hp; obtain ⟨A, m, lcap, g, f, rfl, hm8, ho1, hg1, hh1, hb1⟩ := HP1.out; have hz1 := hb1.size; (try simp at hz1); have HO1 := Lib.hid ho1; have HH1 := Lib.hid hh1; clear ho1 hh1; have hmm : m ≤ maxLen := (by unfold maxLen; omega); have Hmm := Lib.hid hmm; clear hmm
    cases hL : laidF f m
    · have HN := Lib.hid (ua_no hL)
      go_wp2_with fail
      refine (iua_val A m lcap f (-1) HN.out _ Hmm.out HO1.out.rs).mono ?_; rintro e w2 ⟨rfl, hb2⟩; have hz2 := hb2.size; (try simp at hz2); have HO2 := Lib.hid (HO1.out.below hb2)
      go_wp2_with fail
      refine (sua_val A m lcap f (-1) HN.out _ Hmm.out HO2.out.rs).mono ?_; rintro e w3 ⟨rfl, hb3⟩; have hz3 := hb3.size; (try simp at hz3); have HO3 := Lib.hid (HO2.out.below hb3)
      go_wp2_with fail
      refine (ilaid_val A m lcap f false hL _ Hmm.out HO3.out.rs).mono ?_; rintro e w4 ⟨rfl, hb4⟩; have hz4 := hb4.size; (try simp at hz4)
      go_wp2_with fail
      refine (alive_any _).mono ?_; rintro e w5 ⟨rfl, hb5⟩; have hz5 := hb5.size; (try simp at hz5)
      go_wp2
      go_ret
      exact ⟨rfl, by (repeat (first | with_reducible exact Below.refl _ _ | with_reducible assumption | ((with_reducible refine Below.alloc ?_ ?_ _); rotate_left; focus (first | with_reducible exact Nat.le_refl _ | omega | (simp; done) | (simp; omega))) | ((with_reducible refine Below.setCell ?_ ?_ _); rotate_left; focus (first | with_reducible exact Nat.le_refl _ | omega | (simp; done) | (simp; omega))) | (with_reducible refine Below.drew ?_) | ((with_reducible refine Below.trans ?_ (Below.mono (by with_reducible assumption) ?_)); rotate_left; focus (first | with_reducible exact Nat.le_refl _ | omega | (simp; done) | (simp; omega)))))⟩
    · obtain ⟨h7, hok⟩ := laidF_ok hL
      obtain ⟨u1, u2, u3, u4⟩ := union_facts hL
      have HMc : Hid (cntF (laidF f m) m = m) := Lib.hid (by rw [hL]; rfl)
      have hNb := ua_bd f m
      generalize hN : uaF f m = N at u1 u2 u3 u4 hNb
      have HN := Lib.hid hN
      have U1 := Lib.hid u1
      have U2 := Lib.hid u2
      have U3 := Lib.hid u3
      have Hok := Lib.hid hok
      obtain ⟨hN1, hN2⟩ := hNb
      have hN0 : ¬ (N < 0) := by omega
      clear hN u1 u2 u3 hok
      go_wp2_with fail
      refine (iua_val A m lcap f N HN.out _ Hmm.out HO1.out.rs).mono ?_; rintro e w2 ⟨rfl, hb2⟩; have hz2 := hb2.size; (try simp at hz2); have HO2 := Lib.hid (HO1.out.below hb2)
      go_wp2_with fail
      refine (sua_val A m lcap f N HN.out _ Hmm.out HO2.out.rs).mono ?_; rintro e w3 ⟨rfl, hb3⟩; have hz3 := hb3.size; (try simp at hz3); have HO3 := Lib.hid (HO2.out.below hb3)
      go_wp2_with fail
      refine (isums_val A m lcap f m HMc.out _ Hmm.out HO3.out.rs).mono ?_; rintro e w4 hp; have HP4 := Lib.hid hp; clear hp; obtain ⟨A2, c2, g2, rfl, hi4, hgg2, hb4⟩ := HP4.out; have hz4 := hb4.size; have HI4 := Lib.hid hi4; clear hi4; have HO4 := Lib.hid (HO3.out.below hb4)
      have HB4 : Hid (Below w.heap.size w w4) := Lib.hid (by (repeat (first | with_reducible exact Below.refl _ _ | with_reducible assumption | ((with_reducible refine Below.alloc ?_ ?_ _); rotate_left; focus (first | with_reducible exact Nat.le_refl _ | omega | (simp; done) | (simp; omega))) | ((with_reducible refine Below.setCell ?_ ?_ _); rotate_left; focus (first | with_reducible exact Nat.le_refl _ | omega | (simp; done) | (simp; omega))) | (with_reducible refine Below.drew ?_) | ((with_reducible refine Below.trans ?_ (Below.mono (by with_reducible assumption) ?_)); rotate_left; focus (first | with_reducible exact Nat.le_refl _ | omega | (simp; done) | (simp; omega))))))
      have hle4 : w.heap.size ≤ w4.heap.size := HB4.out.size
      go_wp2
      go_loop [6, 7] (fun s i => ∃ k : Nat, k ≤ m ∧ i = .int .i64 k ∧ s = .int .i64 (turnF f m k)) (fun _ i => m - (intOf i).toNat)
      case atStart => exact ⟨0, Nat.zero_le _, rfl, rfl⟩
      case round =>
        obtain ⟨k, hk, rfl, rfl⟩ := hrel
        have hstep : turnF f m (k + 1) = turnF f m k + sumsAt f m k * sgn k := rfl
        have HS := Lib.hid hstep
        clear hstep
        have tb := turn_bd (f := f) h7 k
        generalize hT : turnF f m k = T at tb
        have HT := Lib.hid hT
        clear hT
        obtain ⟨tb1, tb2⟩ := tb
        by_cases hlt : k < m
        · obtain ⟨b, off, hA2, hbl, c0⟩ := HI4.out.is.at_ hlt
          subst hA2
          have sb := sumsAt_bd (f := f) h7 k
          generalize hD : sumsAt f m k = D at c0 sb
          have HD := Lib.hid hD
          clear hD
          obtain ⟨sb1, sb2⟩ := sb
          by_cases hpar : k % 2 = 0
          · have hp2 : (k : Int) % 2 = 0 := by omega
            have hsg : Hid (sgn k = 1) := Lib.hid (by unfold sgn; rw [if_pos hpar])
            go_wp2
            go_round
            case rel => exact ⟨k + 1, by omega, by go_num, by rw [HS.out, HT.out, HD.out, hsg.out, Int.mul_one]⟩
            case measure => simp [intOf]; omega
          · have hp2 : (k : Int) % 2 = 1 := by omega
            have hsg : Hid (sgn k = -1) := Lib.hid (by unfold sgn; rw [if_neg hpar])
            go_wp2
            go_round
            case rel => exact ⟨k + 1, by omega, by go_num, by rw [HS.out, HT.out, HD.out, hsg.out]; congr 1; omega⟩
            case measure => simp [intOf]; omega
        · obtain rfl : k = m := by omega
          have hTN : T = N := by rw [← HT.out]; exact U1.out
          subst hTN
          go_wp2
          go_loopw [8, 9, 10] (fun s b i wr => ∃ j : Nat, j ≤ k ∧ i = .int .i64 j ∧ s = .int .i64 (allF f j) ∧ b = .int .i64 (bestF f j) ∧ Below w4.heap.size w4 wr) (fun _ _ i _ => k - (intOf i).toNat)
          case atStart => exact ⟨0, Nat.zero_le _, rfl, rfl, rfl, Below.refl _ _⟩
          case round =>
            obtain ⟨j, hj, rfl, rfl, rfl, hbr⟩ := hrel
            have hzr := hbr.size
            have HBr := Lib.hid hbr
            have HSa : Hid (allF f (j + 1) = allF f j + areaM (f j)) := Lib.hid rfl
            have HSb : Hid (bestF f (j + 1) = max (bestF f j) (areaM (f j))) := Lib.hid rfl
            obtain ⟨ab1, ab2⟩ := allF_bd Hok.out j hj
            obtain ⟨bb1, _, bb2⟩ := best_le Hok.out j hj
            generalize hAl : allF f j = Al at ab1 ab2
            generalize hBs : bestF f j = Bs at bb1 bb2
            have HAl := Lib.hid hAl
            have HBs := Lib.hid hBs
            clear hAl hBs
            by_cases hlt2 : j < k
            · obtain ⟨b', off', hA', hbl', d0, d1, d2, d3⟩ := (HO4.out.below hbr).rs.at_ hlt2
              subst hA'
              have av := area_bd (okTo_le Hok.out hlt2)
              obtain ⟨V, hV⟩ : ∃ V, areaM (f j) = V := ⟨_, rfl⟩
              rw [hV] at av
              obtain ⟨av1, av2⟩ := av
              have HV := Lib.hid hV
              clear hV
              go_wp2_with fail
              refine (iarea_val (f j) V HV.out _).mono ?_; rintro e w6 ⟨rfl, hb6⟩; have hz6 := hb6.size; (try simp at hz6); have _ : b' < w6.heap.size := (by first | (simp; done) | omega | (simp; omega)); have _ := fun o => hb6.cell (p := ⟨b', o, none⟩) (by first | (simp; done) | omega | (simp; omega))
              go_wp2_with fail
              refine (iarea_val (f j) V HV.out _).mono ?_; rintro e w7 ⟨rfl, hb7⟩; have hz7 := hb7.size; (try simp at hz7)
              go_wp2
              all_goals
                go_roundw
                case rel => exact ⟨j + 1, by omega, by go_num, by rw [HSa.out, HAl.out, HV.out], by rw [HSb.out, HBs.out, HV.out], by (repeat (first | with_reducible exact Below.refl _ _ | with_reducible assumption | ((with_reducible refine Below.alloc ?_ ?_ _); rotate_left; focus (first | with_reducible exact Nat.le_refl _ | omega | (simp; done) | (simp; omega))) | ((with_reducible refine Below.setCell ?_ ?_ _); rotate_left; focus (first | with_reducible exact Nat.le_refl _ | omega | (simp; done) | (simp; omega))) | (with_reducible refine Below.drew ?_) | ((with_reducible refine Below.trans ?_ (Below.mono (by with_reducible assumption) ?_)); rotate_left; focus (first | with_reducible exact Nat.le_refl _ | omega | (simp; done) | (simp; omega)))))⟩
                case measure => simp [intOf]; omega
            · obtain rfl : j = k := by omega
              have hua : T ≤ Al := by rw [← HAl.out]; exact U2.out
              have hub : Bs ≤ T := by rw [← HBs.out]; exact U3.out
              go_wp2_with fail
              refine (alive_any _).mono ?_; rintro e w6 ⟨rfl, hb6⟩; have hz6 := hb6.size; (try simp at hz6)
              go_wp2
              go_ret
              exact ⟨rfl, by (repeat (first | with_reducible exact Below.refl _ _ | with_reducible assumption | ((with_reducible refine Below.alloc ?_ ?_ _); rotate_left; focus (first | with_reducible exact Nat.le_refl _ | omega | (simp; done) | (simp; omega))) | ((with_reducible refine Below.setCell ?_ ?_ _); rotate_left; focus (first | with_reducible exact Nat.le_refl _ | omega | (simp; done) | (simp; omega))) | (with_reducible refine Below.drew ?_) | ((with_reducible refine Below.trans ?_ (Below.mono (by with_reducible assumption) ?_)); rotate_left; focus (first | with_reducible exact Nat.le_refl _ | omega | (simp; done) | (simp; omega)))))⟩
end Go.Proofs.Ytipnldbdlimnhaa
