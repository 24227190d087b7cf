/- Chapter 7 of impl: shadows, rows and runs. -/
import Derived.Test.YtfdkkkdijgmbbaaFr
import Derived.Test.YtfdkkkdijgmbbaaDp
import Derived.Test.YtfdkkkdijgmbbaaSh
namespace Go.Proofs.Ytfdkkkdijgmbbaa
open Go.RowKit Go.Sort
set_option linter.unusedVariables false
set_option linter.unusedSimpArgs false
-- shadows
/-- The columns that one of the first k rows has. -/
def orM (m : Nat → Nat) : Nat → Nat
  | 0 => 0
  | k + 1 => orM m k ||| m k
theorem orM_lt {m : Nat → Nat} (h : SmallM m) : ∀ k, orM m k < 2 ^ 20
  | 0 => Nat.two_pow_pos 20
  | k + 1 => Nat.or_lt_two_pow (orM_lt h k) (h k)
theorem orM_bit (m : Nat → Nat) (x : Nat) : ∀ k, (orM m k).testBit x = anyN k fun y => (m y).testBit x
  | 0 => by simp [orM, anyN]
  | k + 1 => by simp only [orM, anyN, Nat.testBit_or]; rw [orM_bit m x k]
/-- How many of the first k rows have a cell. -/
def nzM (m : Nat → Nat) (k : Nat) : Int := sumN k fun y => one (!(m y == 0))
theorem anyN_congr {g h : Nat → Bool} : ∀ n, (∀ i, i < n → g i = h i) → anyN n g = anyN n h
  | 0, _ => rfl
  | n + 1, H => by simp only [anyN]; rw [anyN_congr n fun i hi => H i (by omega), H n (by omega)]
theorem or_shX {f : Nat → Rt} {n : Nat} (h : okTo f n = true) : ((popTo (orM (rowM f n) 20) 20 : Nat) : Int) = shX (uniB f n) := by
  rw [popTo_sum]
  refine sumN_congr fun x hx => ?_
  rw [orM_bit]
  congr 1
  exact anyN_congr 20 fun y _ => row_bit f n h x y hx n (Nat.le_refl _)
theorem nz_any (M : Nat) (hM : M < 2 ^ 20) : (!(M == 0)) = anyN 20 fun x => M.testBit x := by
  rw [Bool.eq_iff_iff, anyN_iff]
  constructor
  · intro h
    have h0 : M ≠ 0 := by simpa using h
    rcases Nat.lt_or_ge 0 M with _ | _
    · refine Classical.byContradiction fun hc => h0 (Nat.eq_of_testBit_eq fun i => ?_)
      rw [Nat.zero_testBit]
      by_cases hi : i < 20
      · cases hb : M.testBit i
        · rfl
        · exact absurd ⟨i, hi, hb⟩ hc
      · exact Nat.testBit_lt_two_pow (Nat.lt_of_lt_of_le hM (Nat.pow_le_pow_right (by omega) (by omega)))
    · omega
  · rintro ⟨i, _, hb⟩
    have : M ≠ 0 := by rintro rfl; rw [Nat.zero_testBit] at hb; cases hb
    simpa using this
theorem nz_shY {f : Nat → Rt} {n : Nat} (h : okTo f n = true) : nzM (rowM f n) 20 = shY (uniB f n) := by
  refine sumN_congr fun y _ => ?_
  rw [nz_any _ (rowM_small f n h n (Nat.le_refl _) y)]
  congr 1
  exact anyN_congr 20 fun x hx => row_bit f n h x y hx n (Nat.le_refl _)
theorem row_rowC {f : Nat → Rt} {n : Nat} (h : okTo f n = true) (y : Nat) : ((popTo (rowM f n y) 20 : Nat) : Int) = rowC (uniB f n) y := by
  rw [popTo_sum]
  exact sumN_congr fun x hx => by rw [row_bit f n h x y hx n (Nat.le_refl _)]; rfl
-- runs
def begM (a b : Nat) : Nat := a &&& (4294967295 - b)
theorem begM_bit (a b x : Nat) (ha : a < 2 ^ 24) (hb : b < 2 ^ 24) : (begM a b).testBit x = (a.testBit x && !b.testBit x) := by
  unfold begM
  rw [Nat.testBit_and, show 4294967295 - b = 2 ^ 32 - (b + 1) by omega, Nat.testBit_two_pow_sub_succ (Nat.lt_of_lt_of_le hb (by decide))]
  by_cases hx : x < 32
  · rw [decide_eq_true hx, Bool.true_and]
  · rw [Nat.testBit_lt_two_pow (Nat.lt_of_lt_of_le ha (Nat.pow_le_pow_right (by omega) (by omega)))]; rfl
theorem begM_lt (a b : Nat) (ha : a < 2 ^ 22) : begM a b < 2 ^ 22 := Nat.lt_of_le_of_lt (Nat.and_le_left) ha
theorem runN_sum (g : Nat → Bool) : ∀ b, runN g b = sumN b fun i => one (g i && (decide (i = 0) || !g (i - 1)))
  | 0 => rfl
  | b + 1 => by simp only [runN, sumN]; rw [runN_sum g b]
def rleftN (m : Nat → Nat) (y : Nat) : Nat := popTo (begM (m (y + 1)) (2 * m (y + 1))) 24
def rlowN (m : Nat → Nat) (y : Nat) : Nat := popTo (begM (m (y + 1)) (m y)) 24
theorem fr_cell {f : Nat → Rt} {n : Nat} (h : okTo f n = true) {x y : Nat} (hx : x < 20) (hy : y < 20) : (frM f n (y + 1)).testBit (x + 1) = uniB f n x y := by
  rw [frM_bit h (x + 1) (y + 1) (by omega)]; exact map_cell f n hx hy
theorem fr_side {f : Nat → Rt} {n : Nat} (h : okTo f n = true) {x y : Nat} (hx : x < 22) (hs : x = 0 ∨ x = 21 ∨ y = 0 ∨ 21 ≤ y) : (frM f n y).testBit x = false := by
  rw [frM_bit h x y hx]; exact map_side f n hx hs
theorem pop_beg (a b : Nat) (ha : a < 2 ^ 22) (hb : b < 2 ^ 24) : ((popTo (begM a b) 24 : Nat) : Int) = sumN 22 fun x => one (a.testBit x && !b.testBit x) := by
  rw [show 24 = 22 + 2 from rfl, popTo_small _ 22 (begM_lt a b ha), popTo_sum]
  exact sumN_congr fun x _ => by rw [begM_bit a b x (Nat.lt_of_lt_of_le ha (by decide)) hb]
theorem fr_two {f : Nat → Rt} {n : Nat} (h : okTo f n = true) {x y : Nat} (hx : x < 22) : (2 * frM f n y).testBit (x + 1) = (frM f n y).testBit x := by
  rw [Nat.mul_comm, Nat.testBit_succ, Nat.mul_div_cancel _ (by omega)]
theorem rleft_row {f : Nat → Rt} {n : Nat} (h : okTo f n = true) (y : Nat) (hy : y < 20) : ((rleftN (frM f n) y : Nat) : Int) = runN (fun x => uniB f n x y) 20 := by
  unfold rleftN
  rw [pop_beg _ _ (frM_lt22 h _) (by have := frM_lt22 h (y + 1); omega), sum_inner, runN_sum]
  rw [fr_side h (x := 0) (by omega) (Or.inl rfl), fr_side h (x := 21) (by omega) (Or.inr (Or.inl rfl))]
  have e : ∀ x, x < 20 → one ((frM f n (y + 1)).testBit (x + 1) && !(2 * frM f n (y + 1)).testBit (x + 1)) = one (uniB f n x y && (decide (x = 0) || !uniB f n (x - 1) y)) := by
    intro x hx
    rw [fr_two h (by omega), fr_cell h hx hy]
    by_cases h0 : x = 0
    · subst h0; rw [fr_side h (x := 0) (by omega) (Or.inl rfl)]; simp
    · obtain ⟨z, rfl⟩ : ∃ z, x = z + 1 := ⟨x - 1, by omega⟩
      rw [fr_cell h (by omega) hy]; simp
  rw [sumN_congr e]
  simp [one]
theorem rleft_out {f : Nat → Rt} {n : Nat} (h : okTo f n = true) : rleftN (frM f n) 20 = 0 := by
  unfold rleftN
  have : frM f n 21 = 0 := by unfold frM frTo; rw [if_neg (by omega)]
  rw [this]; decide
theorem rlow_out {f : Nat → Rt} {n : Nat} (h : okTo f n = true) : rlowN (frM f n) 20 = 0 := by
  unfold rlowN
  have : frM f n 21 = 0 := by unfold frM frTo; rw [if_neg (by omega)]
  rw [this]; unfold begM; rw [Nat.zero_and]; decide
theorem rleft_runX {f : Nat → Rt} {n : Nat} (h : okTo f n = true) : sumN 21 (fun y => ((rleftN (frM f n) y : Nat) : Int)) = runX (uniB f n) := by
  show sumN 20 _ + ((rleftN (frM f n) 20 : Nat) : Int) = _
  rw [rleft_out h]
  exact (Int.add_zero _).trans (sumN_congr fun y hy => rleft_row h y hy)
theorem rlow_runY {f : Nat → Rt} {n : Nat} (h : okTo f n = true) : sumN 21 (fun y => ((rlowN (frM f n) y : Nat) : Int)) = runY (uniB f n) := by
  show sumN 20 _ + ((rlowN (frM f n) 20 : Nat) : Int) = _
  rw [rlow_out h]
  refine (Int.add_zero _).trans ?_
  have e : ∀ y, y < 20 → ((rlowN (frM f n) y : Nat) : Int) = sumN 20 fun x => one (uniB f n x y && (decide (y = 0) || !uniB f n x (y - 1))) := by
    intro y hy
    unfold rlowN
    rw [pop_beg _ _ (frM_lt22 h _) (Nat.lt_of_lt_of_le (frM_lt22 h _) (by decide)), sum_inner]
    rw [fr_side h (x := 0) (y := y + 1) (by omega) (Or.inl rfl), fr_side h (x := 21) (y := y + 1) (by omega) (Or.inr (Or.inl rfl))]
    rw [sumN_congr (n := 20) (g := fun x => one (uniB f n x y && (decide (y = 0) || !uniB f n x (y - 1)))) fun x hx => ?_]
    · simp [one]
    · rw [fr_cell h hx hy]
      by_cases h0 : y = 0
      · subst h0; rw [fr_side h (x := x + 1) (y := 0) (by omega) (Or.inr (Or.inr (Or.inl rfl)))]; simp
      · obtain ⟨z, rfl⟩ : ∃ z, y = z + 1 := ⟨y - 1, by omega⟩
        rw [fr_cell h hx (by omega)]; simp
  rw [sumN_congr e, sumN_swap]
  exact sumN_congr fun x _ => by rw [runN_sum]

theorem nzM_bd (m : Nat → Nat) (k : Nat) : 0 ≤ nzM m k ∧ nzM m k ≤ k := part_bd (fun y => !(m y == 0)) k
def ShadPost (m : Nat → Nat) (w : World) (e : Ending) (w' : World) : Prop :=
  e = .returned (.tuple #[.int .i64 (popTo (orM m 20) 20 : Nat), .int .i64 (nzM m 20)]) ∧ Below w.heap.size w w'
set_option maxHeartbeats 1000000 in
set_option maxRecDepth 20000 in
theorem shadows_any (g : Nat) (m : Nat → Nat) (w : World) (hm : SmallM m) (hb : Bm w g m) :
    Calls Try.prog 35 #[.pointer (some ⟨g, 0, none⟩)] w (ShadPost m w) := by
  have HM := Lib.hid hm
  have HB := Lib.hid hb
  clear hm hb
  go_enter Try.func35, Try.ntmps35
  go_wp2
  go_loopw [3, 4, 8] (fun s t i wr => ∃ k : Nat, k ≤ 20 ∧ i = .int .i64 k ∧ s = .int .i64 (nzM m k) ∧ t = .int .u32 (orM m k : Nat) ∧ Below w.heap.size w wr) (fun _ _ i _ => 20 - (intOf i).toNat)
  case atStart => exact ⟨0, Nat.zero_le _, rfl, rfl, rfl, Below.refl _ _⟩
  case round =>
    obtain ⟨k, hk, rfl, rfl, rfl, hbr⟩ := hrel
    have HR := Lib.hid hbr
    have bd := nzM_bd m k
    have ol := orM_lt HM.out k
    have HS1 : Hid (nzM m (k + 1) = nzM m k + one (!(m k == 0))) := Lib.hid rfl
    have HO1 : Hid (orM m (k + 1) = orM m k ||| m k) := Lib.hid rfl
    generalize hS : nzM m k = S at bd HS1
    generalize hO : orM m k = O at ol HO1
    have HS := Lib.hid hS
    have HO := Lib.hid hO
    clear hS hO
    obtain ⟨bd1, bd2⟩ := bd
    by_cases hlt : k < 20
    · have c0 := (HB.out.below hbr).c k hlt
      have hk20 : (k : Int) < 20 := by omega
      have hmk := HM.out k
      have ho : bits .or .u32 ((O : Nat) : Int) ((m k : Nat) : Int) = ((O ||| m k : Nat) : Int) := u32_or_nat _ _ (by omega) (by omega)
      clear hbr
      by_cases hz : m k = 0
      · have hz' : (((m k : Nat) : Int) == 0) = true := by simpa using hz
        have Hz := Lib.hid hz
        clear hz
        go_wp2
        go_roundw
        case rel => exact ⟨k + 1, by omega, by go_num, by rw [HS1.out, Hz.out]; simp [one], by rw [HO1.out], HR.out⟩
        case measure => simp [intOf]; omega
      · have hz' : (((m k : Nat) : Int) == 0) = false := by simpa using hz
        go_wp2
        go_roundw
        case rel => exact ⟨k + 1, by omega, by go_num, by rw [HS1.out]; simp [one, hz], by rw [HO1.out], HR.out⟩
        case measure => simp [intOf]; omega
    · have hkn : k = 20 := by omega
      subst hkn
      go_wp2_with fail
      refine (ones32_any O _ (by omega)).mono ?_; rintro e w1 ⟨rfl, hd1⟩
      have HD := Lib.hid hd1
      clear hd1
      go_wp2
      refine bodyPost_ret (v := .tuple #[.int .i64 (popTo O 20 : Nat), .int .i64 S]) (by simp (maxDischargeDepth := 8) [results, Try.results35, go_sem, *]) rfl ⟨by rw [HS.out, HO.out], ?_⟩
      obtain ⟨d, hd⟩ := HD.out
      rw [hd]
      exact bel_drewN HR.out d

set_option maxHeartbeats 1000000 in
set_option maxRecDepth 20000 in
theorem ish_any (A : Option Addr) (n cap : Nat) (f : Nat → Rt) (w : World) (hn : n ≤ maxLen) (hr : Rs w A n f) :
    Calls Try.prog 12 #[.slice A n cap] w fun e w' => e = .returned (.tuple #[.int .i64 (onU shX f n), .int .i64 (onU shY f n), .bool (laidF f n)]) ∧ Below w.heap.size w w' := by
  have Hn := Lib.hid hn
  have Hr := Lib.hid hr
  clear hn hr
  cases hl : laidF f n
  · have H : Hid (onU shX f n = -1 ∧ onU shY f n = -1) := Lib.hid ⟨onU_no hl, onU_no hl⟩
    go_enter Try.func12, Try.ntmps12
    go_wp2_with fail
    refine (ilaid_val A n cap f false hl _ Hn.out Hr.out).mono ?_; rintro e w1 ⟨rfl, hb1⟩; have hz1 := hb1.size; (try simp at hz1)
    go_wp2
    refine bodyPost_ret (v := .tuple #[.int .i64 (-1), .int .i64 (-1), .bool false]) (by simp (maxDischargeDepth := 8) [results, Try.results12, go_sem, *]) rfl ⟨by rw [H.out.1, H.out.2], by (repeat (first | with_reducible exact Below.refl _ _ | with_reducible assumption | ((with_reducible refine Below.alloc ?_ ?_ _); rotate_left; focus (first | with_reducible exact Nat.le_refl _ | omega | (simp; done) | (simp; omega))) | ((with_reducible refine Below.setCell ?_ ?_ _); rotate_left; focus (first | with_reducible exact Nat.le_refl _ | omega | (simp; done) | (simp; omega))) | (with_reducible refine Below.drew ?_) | ((with_reducible refine Below.trans ?_ (Below.mono (by with_reducible assumption) ?_)); rotate_left; focus (first | with_reducible exact Nat.le_refl _ | omega | (simp; done) | (simp; omega)))))⟩
  · obtain ⟨h7, hok⟩ := laidF_ok hl
    have Hok := Lib.hid hok
    clear hok
    have H : Hid (onU shX f n = (popTo (orM (rowM f n) 20) 20 : Nat) ∧ onU shY f n = nzM (rowM f n) 20) := Lib.hid ⟨by rw [or_shX Hok.out]; exact onU_yes hl, by rw [nz_shY Hok.out]; exact onU_yes hl⟩
    go_enter Try.func12, Try.ntmps12
    go_wp2_with fail
    refine (ilaid_val A n cap f true hl _ Hn.out Hr.out).mono ?_; rintro e w1 ⟨rfl, hb1⟩; have hz1 := hb1.size; (try simp at hz1)
    have Hr1 := Lib.hid (Hr.out.below hb1)
    go_wp2_with fail
    refine (unionof_any A n cap f _ hl Hr1.out).mono ?_; rintro e w2 ⟨rfl, hb2⟩; have hz2 := hb2.size; (try simp at hz2)
    have HZ := Lib.hid (Bm.zero w2)
    have hb3 : Below w2.heap.size w2 ((w2.alloc (.cells #[.int .u32 0, .int .u32 0, .int .u32 0, .int .u32 0, .int .u32 0, .int .u32 0, .int .u32 0, .int .u32 0, .int .u32 0, .int .u32 0, .int .u32 0, .int .u32 0, .int .u32 0, .int .u32 0, .int .u32 0, .int .u32 0, .int .u32 0, .int .u32 0, .int .u32 0, .int .u32 0] 48)).setRow w2.heap.size (bmC (rowM f n))) := below_setRow ((Below.refl _ _).alloc (Nat.le_refl _) _) (Nat.le_refl _) _
    have HB3 := Lib.hid hb3
    have HM3 := Lib.hid (HZ.out.row (m' := rowM f n))
    clear hb3
    go_wp2_with (refine wpList_store_rowTo rfl 48 (.tmp 5) (.tmp 12) rfl rfl w2.heap.size (bmC (rowM f n)) rfl rfl 48 (bmC (fun _ => 0)) HZ.out (by rw [bmC_size]; exact infoB) (by rw [bmC_size, bmC_size]) (bmC_one _) ?_)
    refine (shadows_any w2.heap.size (rowM f n) _ (rowM_small f n Hok.out n (Nat.le_refl _)) HM3.out).mono ?_; rintro e w3 ⟨rfl, hb3⟩
    go_wp2
    refine bodyPost_ret (v := .tuple #[.int .i64 (popTo (orM (rowM f n) 20) 20 : Nat), .int .i64 (nzM (rowM f n) 20), .bool true]) (by simp (maxDischargeDepth := 8) [results, Try.results12, go_sem, *]) rfl ⟨by rw [H.out.1, H.out.2], ?_⟩
    have h3 : Below w2.heap.size w2 w3 := HB3.out.trans (hb3.mono (by simp))
    exact (hb1.trans (hb2.mono hz1)).trans (h3.mono (by omega))

set_option maxHeartbeats 1000000 in
set_option maxRecDepth 20000 in
theorem irc_any (A : Option Addr) (n cap : Nat) (f : Nat → Rt) (y : Int) (w : World) (hn : n ≤ maxLen) (hr : Rs w A n f) :
    Calls Try.prog 19 #[.slice A n cap, .int .i64 y] w fun e w' => e = .returned (.int .i64 (rcF f n y)) ∧ Below w.heap.size w w' := by
  have Hn := Lib.hid hn
  have Hr := Lib.hid hr
  clear hn hr
  cases hl : laidF f n
  · have H : Hid (rcF f n y = -1) := Lib.hid (by unfold rcF; rw [hl]; rfl)
    go_enter Try.func19, Try.ntmps19
    go_wp2_with fail
    refine (ilaid_val A n cap f false hl _ Hn.out Hr.out).mono ?_; rintro e w1 ⟨rfl, hb1⟩; have hz1 := hb1.size; (try simp at hz1)
    go_wp2
    go_ret
    exact ⟨ret_int (by rw [H.out]), by (repeat (first | with_reducible exact Below.refl _ _ | with_reducible assumption | ((with_reducible refine Below.alloc ?_ ?_ _); rotate_left; focus (first | with_reducible exact Nat.le_refl _ | omega | (simp; done) | (simp; omega))) | ((with_reducible refine Below.setCell ?_ ?_ _); rotate_left; focus (first | with_reducible exact Nat.le_refl _ | omega | (simp; done) | (simp; omega))) | (with_reducible refine Below.drew ?_) | ((with_reducible refine Below.trans ?_ (Below.mono (by with_reducible assumption) ?_)); rotate_left; focus (first | with_reducible exact Nat.le_refl _ | omega | (simp; done) | (simp; omega)))))⟩
  · obtain ⟨h7, hok⟩ := laidF_ok hl
    have Hok := Lib.hid hok
    clear hok
    cases hy : inB y 0 19
    · have H : Hid (rcF f n y = -1) := Lib.hid (by unfold rcF; rw [hl, hy]; rfl)
      go_enter Try.func19, Try.ntmps19
      go_wp2_with fail
      refine (ilaid_val A n cap f true hl _ Hn.out Hr.out).mono ?_; rintro e w1 ⟨rfl, hb1⟩; have hz1 := hb1.size; (try simp at hz1)
      go_wp2_with fail
      refine (place_val y false hy _).mono ?_; rintro e w' ⟨rfl, rfl⟩
      go_wp2
      go_ret
      exact ⟨ret_int (by rw [H.out]), by (repeat (first | with_reducible exact Below.refl _ _ | with_reducible assumption | ((with_reducible refine Below.alloc ?_ ?_ _); rotate_left; focus (first | with_reducible exact Nat.le_refl _ | omega | (simp; done) | (simp; omega))) | ((with_reducible refine Below.setCell ?_ ?_ _); rotate_left; focus (first | with_reducible exact Nat.le_refl _ | omega | (simp; done) | (simp; omega))) | (with_reducible refine Below.drew ?_) | ((with_reducible refine Below.trans ?_ (Below.mono (by with_reducible assumption) ?_)); rotate_left; focus (first | with_reducible exact Nat.le_refl _ | omega | (simp; done) | (simp; omega)))))⟩
    · have hyb := inB_iff.1 hy
      obtain ⟨Y, hY⟩ : ∃ Y : Nat, y = Y := ⟨y.toNat, by omega⟩
      subst hY
      have hY20 : Y < 20 := by omega
      have H : Hid (rcF f n Y = (popTo (rowM f n Y) 20 : Nat)) := Lib.hid (by rw [row_rowC Hok.out]; unfold rcF; rw [hl, hy]; rfl)
      go_enter Try.func19, Try.ntmps19
      go_wp2_with fail
      refine (ilaid_val A n cap f true hl _ Hn.out Hr.out).mono ?_; rintro e w1 ⟨rfl, hb1⟩; have hz1 := hb1.size; (try simp at hz1)
      have Hr1 := Lib.hid (Hr.out.below hb1)
      go_wp2_with fail
      refine (place_val Y true hy _).mono ?_; rintro e w' ⟨rfl, rfl⟩
      go_wp2_with fail
      refine (unionof_any A n cap f _ hl Hr1.out).mono ?_; rintro e w2 ⟨rfl, hb2⟩; have hz2 := hb2.size; (try simp at hz2)
      have hix : (Instr.index 48 (.agg (bmC (rowM f n))) (.int .i64 (Y : Nat))).run Try.prog w2 = .ok (.int .u32 (rowM f n Y : Nat)) w2 :=
        run_index_cell 48 46 _ 20 _ _ Y Try.underlying48 Try.underlying46 rfl (by kernel_rfl) hY20 (bmC_get _ _ hY20) w2
      have hmy := rowM_small f n Hok.out n (Nat.le_refl _) Y
      obtain ⟨M, hM⟩ : ∃ M, rowM f n Y = M := ⟨_, rfl⟩
      rw [hM] at hix hmy H
      clear hM
      go_wp2_with fail
      refine (ones32_any M _ (by omega)).mono ?_; rintro e w3 ⟨rfl, hd3⟩
      have hp := popTo_le M 20
      go_wp2
      go_ret
      refine ⟨ret_int (by rw [H.out]), ?_⟩
      obtain ⟨d, hd⟩ := hd3
      rw [hd]
      exact bel_drewN (hb1.trans (hb2.mono hz1)) d

def RunsPost (g : Nat → Nat) (w : World) (e : Ending) (w' : World) : Prop :=
  e = .returned (.int .i64 (sumN 21 (fun y => ((g y : Nat) : Int)))) ∧ Below w.heap.size w w'

set_option maxHeartbeats 2000000 in
set_option maxRecDepth 20000 in
theorem runsL_any (m : Nat → Nat) (w : World) (hm : ∀ y, m y < 2 ^ 22) :
    Calls Try.prog 48 #[.agg (frC m), .func (.func 42) #[] #[]] w (RunsPost (rleftN m) w) := by
  have HM := Lib.hid hm
  have HF0 := Lib.hid (Fm.new w m)
  clear hm
  go_enter Try.func48, Try.ntmps48
  go_wp2_with (refine wpList_box_row rfl 57 _ rfl _ rfl (frC m) rfl ?_)
  go_loopw [5, 6] (fun s i wr => ∃ k : Nat, k ≤ 21 ∧ i = .int .i64 ((k : Int) + 1) ∧ s = .int .i64 (sumN k (fun y => ((rleftN m y : Nat) : Int))) ∧ Fm wr w.heap.size m ∧ Below w.heap.size w wr) (fun _ i _ => 22 - (intOf i).toNat)
  case atStart => exact ⟨0, Nat.zero_le _, rfl, rfl, HF0.out, by (repeat (first | with_reducible exact Below.refl _ _ | with_reducible assumption | ((with_reducible refine Below.alloc ?_ ?_ _); rotate_left; focus (first | with_reducible exact Nat.le_refl _ | omega | (simp; done) | (simp; omega))) | ((with_reducible refine Below.setCell ?_ ?_ _); rotate_left; focus (first | with_reducible exact Nat.le_refl _ | omega | (simp; done) | (simp; omega))) | (with_reducible refine Below.drew ?_) | ((with_reducible refine Below.trans ?_ (Below.mono (by with_reducible assumption) ?_)); rotate_left; focus (first | with_reducible exact Nat.le_refl _ | omega | (simp; done) | (simp; omega)))))⟩
  case round =>
    obtain ⟨k, hk, rfl, rfl, hf, hbr⟩ := hrel
    have HB := Lib.hid hbr
    have HF := Lib.hid hf
    have bd := sum24_bd (rleftN m) (fun y => popTo_le _ _) k
    generalize hS : sumN k (fun y => ((rleftN m y : Nat) : Int)) = S at bd
    have HS := Lib.hid hS
    clear hS hbr
    obtain ⟨bd1, bd2⟩ := bd
    by_cases hlt : k < 21
    · have c0 := hf.c k (by omega)
      have c1 := hf.c (k + 1) (by omega)
      have hk22 : (k : Int) + 1 < 22 := by omega
      have hk22' : (k : Int) < 22 := by omega
      have hk0 : (0 : Int) ≤ (k : Int) + 1 := by omega
      have hkn : (((k : Int) + 1).toNat) = k + 1 := by omega
      have hkw : IntKind.i64.wrap (k : Int) = (k : Int) := by rw [IntWalk.i64_left]; exact IntWalk.wrap64_in _ (by omega)
      have h0 := HM.out k
      have h1 := HM.out (k + 1)
      have hp : popTo (begM (m (k + 1)) (2 * m (k + 1))) 24 ≤ 24 := popTo_le _ _
      have HG : Hid (rleftN m k = popTo (begM (m (k + 1)) (2 * m (k + 1))) 24) := Lib.hid rfl
      have hx : bits .andNot .u32 ((m (k + 1) : Nat) : Int) (2 * (m (k + 1) : Int)) = ((begM (m (k + 1)) (2 * m (k + 1)) : Nat) : Int) := u32_andNot_nat _ (2 * m (k + 1)) (by omega) (by omega)
      have hxl : begM (m (k + 1)) (2 * m (k + 1)) < 16777216 := Nat.lt_of_lt_of_le (begM_lt _ _ h1) (by decide)
      clear hf
      go_wp2_with fail
      go_quiet (first | (exact Calls.quiet_of_same (left_any _ _ _ h1)) | exact Calls.quiet_of (ones24_any _ _ hxl))
      go_wp2
      go_roundw
      case rel => exact ⟨k + 1, by omega, by go_num, by simp only [sumN]; rw [HS.out, HG.out], HF.out.drewN _, bel_drewN HB.out _⟩
      case measure => simp [intOf]; omega
    · have hkn : k = 21 := by omega
      subst hkn
      go_wp2
      go_ret
      exact ⟨ret_int HS.out.symm, HB.out⟩

set_option maxHeartbeats 2000000 in
set_option maxRecDepth 20000 in
theorem runsD_any (m : Nat → Nat) (w : World) (hm : ∀ y, m y < 2 ^ 22) :
    Calls Try.prog 48 #[.agg (frC m), .func (.func 43) #[] #[]] w (RunsPost (rlowN m) w) := by
  have HM := Lib.hid hm
  have HF0 := Lib.hid (Fm.new w m)
  clear hm
  go_enter Try.func48, Try.ntmps48
  go_wp2_with (refine wpList_box_row rfl 57 _ rfl _ rfl (frC m) rfl ?_)
  go_loopw [5, 6] (fun s i wr => ∃ k : Nat, k ≤ 21 ∧ i = .int .i64 ((k : Int) + 1) ∧ s = .int .i64 (sumN k (fun y => ((rlowN m y : Nat) : Int))) ∧ Fm wr w.heap.size m ∧ Below w.heap.size w wr) (fun _ i _ => 22 - (intOf i).toNat)
  case atStart => exact ⟨0, Nat.zero_le _, rfl, rfl, HF0.out, by (repeat (first | with_reducible exact Below.refl _ _ | with_reducible assumption | ((with_reducible refine Below.alloc ?_ ?_ _); rotate_left; focus (first | with_reducible exact Nat.le_refl _ | omega | (simp; done) | (simp; omega))) | ((with_reducible refine Below.setCell ?_ ?_ _); rotate_left; focus (first | with_reducible exact Nat.le_refl _ | omega | (simp; done) | (simp; omega))) | (with_reducible refine Below.drew ?_) | ((with_reducible refine Below.trans ?_ (Below.mono (by with_reducible assumption) ?_)); rotate_left; focus (first | with_reducible exact Nat.le_refl _ | omega | (simp; done) | (simp; omega)))))⟩
  case round =>
    obtain ⟨k, hk, rfl, rfl, hf, hbr⟩ := hrel
    have HB := Lib.hid hbr
    have HF := Lib.hid hf
    have bd := sum24_bd (rlowN m) (fun y => popTo_le _ _) k
    generalize hS : sumN k (fun y => ((rlowN m y : Nat) : Int)) = S at bd
    have HS := Lib.hid hS
    clear hS hbr
    obtain ⟨bd1, bd2⟩ := bd
    by_cases hlt : k < 21
    · have c0 := hf.c k (by omega)
      have c1 := hf.c (k + 1) (by omega)
      have hk22 : (k : Int) + 1 < 22 := by omega
      have hk22' : (k : Int) < 22 := by omega
      have hk0 : (0 : Int) ≤ (k : Int) + 1 := by omega
      have hkn : (((k : Int) + 1).toNat) = k + 1 := by omega
      have hkw : IntKind.i64.wrap (k : Int) = (k : Int) := by rw [IntWalk.i64_left]; exact IntWalk.wrap64_in _ (by omega)
      have h0 := HM.out k
      have h1 := HM.out (k + 1)
      have hp : popTo (begM (m (k + 1)) (m k)) 24 ≤ 24 := popTo_le _ _
      have HG : Hid (rlowN m k = popTo (begM (m (k + 1)) (m k)) 24) := Lib.hid rfl
      have hx : bits .andNot .u32 ((m (k + 1) : Nat) : Int) (m k : Int) = ((begM (m (k + 1)) (m k) : Nat) : Int) := u32_andNot_nat _ (m k) (by omega) (by omega)
      have hxl : begM (m (k + 1)) (m k) < 16777216 := Nat.lt_of_lt_of_le (begM_lt _ _ h1) (by decide)
      clear hf
      go_wp2_with fail
      go_quiet (first | (exact Calls.quiet_of_same (low_any _ _ _)) | exact Calls.quiet_of (ones24_any _ _ hxl))
      go_wp2
      go_roundw
      case rel => exact ⟨k + 1, by omega, by go_num, by simp only [sumN]; rw [HS.out, HG.out], HF.out.drewN _, bel_drewN HB.out _⟩
      case measure => simp [intOf]; omega
    · have hkn : k = 21 := by omega
      subst hkn
      go_wp2
      go_ret
      exact ⟨ret_int HS.out.symm, HB.out⟩

set_option maxHeartbeats 2000000 in
set_option maxRecDepth 20000 in
theorem irn_any (A : Option Addr) (n cap : Nat) (f : Nat → Rt) (w : World) (hn : n ≤ maxLen) (hr : Rs w A n f) :
    Calls Try.prog 22 #[.slice A n cap] w fun e w' => e = .returned (.tuple #[.int .i64 (onU runX f n), .int .i64 (onU runY f n), .bool (laidF f n)]) ∧ Below w.heap.size w w' := by
  have Hn := Lib.hid hn
  have Hr := Lib.hid hr
  clear hn hr
  cases hl : laidF f n
  · have H : Hid (onU runX f n = -1 ∧ onU runY f n = -1) := Lib.hid ⟨onU_no hl, onU_no hl⟩
    go_enter Try.func22, Try.ntmps22
    go_wp2_with fail
    refine (ilaid_val A n cap f false hl _ Hn.out Hr.out).mono ?_; rintro e w1 ⟨rfl, hb1⟩; have hz1 := hb1.size; (try simp at hz1)
    go_wp2
    refine bodyPost_ret (v := .tuple #[.int .i64 (-1), .int .i64 (-1), .bool false]) (by simp (maxDischargeDepth := 8) [results, Try.results22, go_sem, *]) rfl ⟨by rw [H.out.1, H.out.2], by (repeat (first | with_reducible exact Below.refl _ _ | with_reducible assumption | ((with_reducible refine Below.alloc ?_ ?_ _); rotate_left; focus (first | with_reducible exact Nat.le_refl _ | omega | (simp; done) | (simp; omega))) | ((with_reducible refine Below.setCell ?_ ?_ _); rotate_left; focus (first | with_reducible exact Nat.le_refl _ | omega | (simp; done) | (simp; omega))) | (with_reducible refine Below.drew ?_) | ((with_reducible refine Below.trans ?_ (Below.mono (by with_reducible assumption) ?_)); rotate_left; focus (first | with_reducible exact Nat.le_refl _ | omega | (simp; done) | (simp; omega)))))⟩
  · obtain ⟨h7, hok⟩ := laidF_ok hl
    have Hok := Lib.hid hok
    clear hok
    have H : Hid (onU runX f n = sumN 21 (fun y => ((rleftN (frM f n) y : Nat) : Int)) ∧ onU runY f n = sumN 21 (fun y => ((rlowN (frM f n) y : Nat) : Int))) := Lib.hid ⟨by rw [rleft_runX Hok.out]; exact onU_yes hl, by rw [rlow_runY Hok.out]; exact onU_yes hl⟩
    generalize hP : sumN 21 (fun y => ((rleftN (frM f n) y : Nat) : Int)) = P at H
    generalize hQ : sumN 21 (fun y => ((rlowN (frM f n) y : Nat) : Int)) = Q at H
    have HP := Lib.hid hP
    have HQ := Lib.hid hQ
    clear hP hQ
    go_enter Try.func22, Try.ntmps22
    go_wp2_with fail
    refine (ilaid_val A n cap f true hl _ Hn.out Hr.out).mono ?_; rintro e w1 ⟨rfl, hb1⟩; have hz1 := hb1.size; (try simp at hz1)
    have Hr1 := Lib.hid (Hr.out.below hb1)
    go_wp2_with fail
    refine (framed_any A n cap f _ hl Hr1.out).mono ?_; rintro e w2 ⟨rfl, hb2⟩; have hz2 := hb2.size; (try simp at hz2)
    have hb3 : Below w2.heap.size w2 ((w2.alloc (.cells #[.int .u32 0, .int .u32 0, .int .u32 0, .int .u32 0, .int .u32 0, .int .u32 0, .int .u32 0, .int .u32 0, .int .u32 0, .int .u32 0, .int .u32 0, .int .u32 0, .int .u32 0, .int .u32 0, .int .u32 0, .int .u32 0, .int .u32 0, .int .u32 0, .int .u32 0, .int .u32 0, .int .u32 0, .int .u32 0] 57)).setRow w2.heap.size (frC (frM f n))) := below_setRow ((Below.refl _ _).alloc (Nat.le_refl _) _) (Nat.le_refl _) _
    have HZ := Lib.hid (Fm.zero w2)
    have HM3 := Lib.hid (HZ.out.row (m' := frM f n))
    have HB3 := Lib.hid ((hb1.trans (hb2.mono hz1)).trans (hb3.mono (by omega)))
    have hsz3 : w2.heap.size + 1 = ((w2.alloc (.cells #[.int .u32 0, .int .u32 0, .int .u32 0, .int .u32 0, .int .u32 0, .int .u32 0, .int .u32 0, .int .u32 0, .int .u32 0, .int .u32 0, .int .u32 0, .int .u32 0, .int .u32 0, .int .u32 0, .int .u32 0, .int .u32 0, .int .u32 0, .int .u32 0, .int .u32 0, .int .u32 0, .int .u32 0, .int .u32 0] 57)).setRow w2.heap.size (frC (frM f n))).heap.size := by simp [World.setRow]
    clear hb3 hb1 hb2
    go_wp2_with (refine wpList_store_rowTo rfl 57 (.tmp 5) (.tmp 10) rfl rfl w2.heap.size (frC (frM f n)) rfl rfl 57 (frC (fun _ => 0)) HZ.out (by rw [frC_size]; exact infoFr) (by rw [frC_size, frC_size]) (frC_one _) ?_)
    refine name_world (fun w3 hW => ?_)
    rw [hW] at HM3 HB3 hsz3
    clear hW
    have hld := fun d os => load_framed (HM3.out.below (below_regrown w3 d os))
    refine wp_region_quiet_below (by kernel_rfl) (by kernel_rfl) ?_
    refine wpQuiet_load rfl 57 (.tmp 5) rfl _ rfl (.agg (frC (frM f n))) (fun _ hC => by obtain ⟨p, rfl⟩ := hC; exact hld p.d p.os) ?_
    simp only [Act.put, List.setIfInBounds_toArray, List.set_cons_succ, List.set_cons_zero]
    go_big_quiet_step (exact Calls.regrown_of ((runsL_any (frM f n) _ (frM_lt22 Hok.out)).mono (fun _ _ h => ⟨h.1.trans (by rw [HP.out]), h.2⟩)))
    refine wpQuiet_load rfl 57 (.tmp 5) rfl _ rfl (.agg (frC (frM f n))) (fun _ hC => by obtain ⟨p, rfl⟩ := hC; exact hld p.d p.os) ?_
    simp only [Act.put, List.setIfInBounds_toArray, List.set_cons_succ, List.set_cons_zero]
    go_big_quiet_step (exact Calls.regrown_of ((runsD_any (frM f n) _ (frM_lt22 Hok.out)).mono (fun _ _ h => ⟨h.1.trans (by rw [HQ.out]), h.2⟩)))
    (repeat (go_big_quiet_step (fail)))
    refine wpQuiet_nil ?_
    intro _ hw'
    obtain ⟨⟨dq, osq⟩, hw''⟩ := hw'
    subst hw''
    have hb4 := below_regrown w3 dq osq
    generalize Sort.grow (redrawn w3 dq) osq = w4 at hb4 ⊢
    go_wp2
    refine bodyPost_ret (v := .tuple #[.int .i64 P, .int .i64 Q, .bool true]) (by simp (maxDischargeDepth := 8) [results, Try.results22, go_sem, *]) rfl ⟨by rw [H.out.1, H.out.2], HB3.out.trans (hb4.mono (by have := HB3.out.size; omega))⟩
theorem irn_val (A : Option Addr) (n cap : Nat) (f : Nat → Rt) (a b : Int) (v : Bool) (h1 : onU runX f n = a) (h2 : onU runY f n = b) (h3 : laidF f n = v) (w : World) (hn : n ≤ maxLen) (hr : Rs w A n f) :
    Calls Try.prog 22 #[.slice A n cap] w fun e w' => e = .returned (.tuple #[.int .i64 a, .int .i64 b, .bool v]) ∧ Below w.heap.size w w' := by
  subst h1 h2 h3; exact irn_any A n cap f w hn hr
theorem ish_val (A : Option Addr) (n cap : Nat) (f : Nat → Rt) (a b : Int) (v : Bool) (h1 : onU shX f n = a) (h2 : onU shY f n = b) (h3 : laidF f n = v) (w : World) (hn : n ≤ maxLen) (hr : Rs w A n f) :
    Calls Try.prog 12 #[.slice A n cap] w fun e w' => e = .returned (.tuple #[.int .i64 a, .int .i64 b, .bool v]) ∧ Below w.heap.size w w' := by
  subst h1 h2 h3; exact ish_any A n cap f w hn hr

set_option maxHeartbeats 1000000 in
set_option maxRecDepth 20000 in
theorem igf_any (A : Option Addr) (n cap : Nat) (f : Nat → Rt) (w : World) (hn : n ≤ maxLen) (hr : Rs w A n f) :
    Calls Try.prog 25 #[.slice A n cap] w fun e w' => e = .returned (.bool (gapF f n)) ∧ Below w.heap.size w w' := by
  have Hn := Lib.hid hn
  have Hr := Lib.hid hr
  clear hn hr
  obtain ⟨X, Y, HX⟩ : ∃ X Y, Hid (onU runX f n = X ∧ onU runY f n = Y) := ⟨_, _, Lib.hid ⟨rfl, rfl⟩⟩
  obtain ⟨a, b, HA⟩ : ∃ a b, Hid (onU shX f n = a ∧ onU shY f n = b) := ⟨_, _, Lib.hid ⟨rfl, rfl⟩⟩
  cases hl : laidF f n
  · have H : Hid (gapF f n = false) := Lib.hid (by unfold gapF; rw [hl]; rfl)
    go_enter Try.func25, Try.ntmps25
    go_wp2_with fail
    refine (ish_val A n cap f a b false HA.out.1 HA.out.2 hl _ Hn.out Hr.out).mono ?_; rintro e w1 ⟨rfl, hb1⟩; have hz1 := hb1.size; (try simp at hz1)
    have Hr1 := Lib.hid (Hr.out.below hb1)
    go_wp2_with fail
    refine (irn_val A n cap f X Y false HX.out.1 HX.out.2 hl _ Hn.out Hr1.out).mono ?_; rintro e w2 ⟨rfl, hb2⟩; have hz2 := hb2.size; (try simp at hz2)
    go_wp2
    go_ret
    exact ⟨ret_bool (by rw [H.out]), by (repeat (first | with_reducible exact Below.refl _ _ | with_reducible assumption | ((with_reducible refine Below.alloc ?_ ?_ _); rotate_left; focus (first | with_reducible exact Nat.le_refl _ | omega | (simp; done) | (simp; omega))) | ((with_reducible refine Below.setCell ?_ ?_ _); rotate_left; focus (first | with_reducible exact Nat.le_refl _ | omega | (simp; done) | (simp; omega))) | (with_reducible refine Below.drew ?_) | ((with_reducible refine Below.trans ?_ (Below.mono (by with_reducible assumption) ?_)); rotate_left; focus (first | with_reducible exact Nat.le_refl _ | omega | (simp; done) | (simp; omega)))))⟩
  · by_cases e1 : X = b
    · by_cases e2 : Y = a
      · have H : Hid (gapF f n = true) := Lib.hid (by unfold gapF; rw [hl, HX.out.1, HX.out.2, HA.out.1, HA.out.2, e1, e2]; simp)
        subst e1 e2
        go_enter Try.func25, Try.ntmps25
        go_wp2_with fail
        refine (ish_val A n cap f Y X true HA.out.1 HA.out.2 hl _ Hn.out Hr.out).mono ?_; rintro e w1 ⟨rfl, hb1⟩; have hz1 := hb1.size; (try simp at hz1)
        have Hr1 := Lib.hid (Hr.out.below hb1)
        go_wp2_with fail
        refine (irn_val A n cap f X Y true HX.out.1 HX.out.2 hl _ Hn.out Hr1.out).mono ?_; rintro e w2 ⟨rfl, hb2⟩; have hz2 := hb2.size; (try simp at hz2)
        go_wp2
        go_ret
        exact ⟨ret_bool (by rw [H.out]), by (repeat (first | with_reducible exact Below.refl _ _ | with_reducible assumption | ((with_reducible refine Below.alloc ?_ ?_ _); rotate_left; focus (first | with_reducible exact Nat.le_refl _ | omega | (simp; done) | (simp; omega))) | ((with_reducible refine Below.setCell ?_ ?_ _); rotate_left; focus (first | with_reducible exact Nat.le_refl _ | omega | (simp; done) | (simp; omega))) | (with_reducible refine Below.drew ?_) | ((with_reducible refine Below.trans ?_ (Below.mono (by with_reducible assumption) ?_)); rotate_left; focus (first | with_reducible exact Nat.le_refl _ | omega | (simp; done) | (simp; omega)))))⟩
      · have H : Hid (gapF f n = false) := Lib.hid (by unfold gapF; rw [hl, HX.out.1, HX.out.2, HA.out.1, HA.out.2, decide_eq_false e2]; simp)
        have h2 : (Y == a) = false := by simpa using e2
        subst e1
        clear e2
        go_enter Try.func25, Try.ntmps25
        go_wp2_with fail
        refine (ish_val A n cap f a X true HA.out.1 HA.out.2 hl _ Hn.out Hr.out).mono ?_; rintro e w1 ⟨rfl, hb1⟩; have hz1 := hb1.size; (try simp at hz1)
        have Hr1 := Lib.hid (Hr.out.below hb1)
        go_wp2_with fail
        refine (irn_val A n cap f X Y true HX.out.1 HX.out.2 hl _ Hn.out Hr1.out).mono ?_; rintro e w2 ⟨rfl, hb2⟩; have hz2 := hb2.size; (try simp at hz2)
        go_wp2
        go_ret
        exact ⟨ret_bool (by rw [H.out]), by (repeat (first | with_reducible exact Below.refl _ _ | with_reducible assumption | ((with_reducible refine Below.alloc ?_ ?_ _); rotate_left; focus (first | with_reducible exact Nat.le_refl _ | omega | (simp; done) | (simp; omega))) | ((with_reducible refine Below.setCell ?_ ?_ _); rotate_left; focus (first | with_reducible exact Nat.le_refl _ | omega | (simp; done) | (simp; omega))) | (with_reducible refine Below.drew ?_) | ((with_reducible refine Below.trans ?_ (Below.mono (by with_reducible assumption) ?_)); rotate_left; focus (first | with_reducible exact Nat.le_refl _ | omega | (simp; done) | (simp; omega)))))⟩
    · have H : Hid (gapF f n = false) := Lib.hid (by unfold gapF; rw [hl, HX.out.1, HX.out.2, HA.out.1, HA.out.2, decide_eq_false e1]; simp)
      have h1 : (X == b) = false := by simpa using e1
      clear e1
      go_enter Try.func25, Try.ntmps25
      go_wp2_with fail
      refine (ish_val A n cap f a b true HA.out.1 HA.out.2 hl _ Hn.out Hr.out).mono ?_; rintro e w1 ⟨rfl, hb1⟩; have hz1 := hb1.size; (try simp at hz1)
      have Hr1 := Lib.hid (Hr.out.below hb1)
      go_wp2_with fail
      refine (irn_val A n cap f X Y true HX.out.1 HX.out.2 hl _ Hn.out Hr1.out).mono ?_; rintro e w2 ⟨rfl, hb2⟩; have hz2 := hb2.size; (try simp at hz2)
      go_wp2
      go_ret
      exact ⟨ret_bool (by rw [H.out]), by (repeat (first | with_reducible exact Below.refl _ _ | with_reducible assumption | ((with_reducible refine Below.alloc ?_ ?_ _); rotate_left; focus (first | with_reducible exact Nat.le_refl _ | omega | (simp; done) | (simp; omega))) | ((with_reducible refine Below.setCell ?_ ?_ _); rotate_left; focus (first | with_reducible exact Nat.le_refl _ | omega | (simp; done) | (simp; omega))) | (with_reducible refine Below.drew ?_) | ((with_reducible refine Below.trans ?_ (Below.mono (by with_reducible assumption) ?_)); rotate_left; focus (first | with_reducible exact Nat.le_refl _ | omega | (simp; done) | (simp; omega)))))⟩
end Go.Proofs.Ytfdkkkdijgmbbaa
