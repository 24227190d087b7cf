/- Chapter 7 of spec: shadows, rows, runs. Chapter 7 of spec: runs; no gaps. -/
import Derived.Test.YtfdkkkdijgmbbaaMa
import Derived.Test.YtfdkkkdijgmbbaaMathX
namespace Go.Proofs.Ytfdkkkdijgmbbaa
open Go.RowKit Go.Sort
set_option linter.unusedVariables false
theorem cell_yes {f : Nat → Rt} {n x y : Nat} (h : uniB f n x y = true) : ∃ d : Int, depF f x y n = d ∧ 0 < d ∧ d ≤ n := by
  refine ⟨_, rfl, ?_, (depF_bd f x y n).2⟩
  have := depF_any f x y n
  unfold uniB at h
  rw [h] at this; exact of_decide_eq_true this
theorem cell_no {f : Nat → Rt} {n x y : Nat} (h : uniB f n x y = false) : depF f x y n = 0 := by
  have := depF_any f x y n
  unfold uniB at h
  rw [h] at this
  have := of_decide_eq_false this
  have := (depF_bd f x y n).1
  omega
/-- How many cells a row has; -1 for others. -/
def rcF (f : Nat → Rt) (n : Nat) (y : Int) : Int := if laidF f n && inB y 0 19 then rowC (uniB f n) y.toNat else -1
theorem part_bd (g : Nat → Bool) (k : Nat) : 0 ≤ sumN k (fun i => one (g i)) ∧ sumN k (fun i => one (g i)) ≤ k := by
  induction k with
  | zero => simp [sumN]
  | succ k ih => simp only [sumN]; have := one_nonneg (g k); have := one_le (g k); omega


set_option maxHeartbeats 1000000 in
set_option maxRecDepth 20000 in
theorem src_any (A : Option Addr) (n cap : Nat) (f : Nat → Rt) (y : Int) (w : World) (hn : n ≤ maxLen) (hr : Rs w A n f) :
    Calls Try.prog 20 #[.slice A n cap, .int .i64 y] w fun e w' => e = .returned (.int .i64 (rcF f n y)) ∧ Below w.heap.size w w' := by
  have Hn := Lib.hid hn
  have Hr := Lib.hid hr
  clear hn hr
  cases hl : laidF f n
  · have H : Hid (rcF f n y = -1) := Lib.hid (by unfold rcF; rw [hl]; rfl)
    go_enter Try.func20, Try.ntmps20
    go_wp2_with fail
    refine (slaid_val A n cap f false hl _ Hn.out Hr.out).mono ?_; rintro e w1 ⟨rfl, hb1⟩; have hz1 := hb1.size; (try simp at hz1)
    go_wp2
    go_ret
    exact ⟨ret_int (by rw [H.out]), by (repeat (first | with_reducible exact Below.refl _ _ | with_reducible assumption | ((with_reducible refine Below.alloc ?_ ?_ _); rotate_left; focus (first | with_reducible exact Nat.le_refl _ | omega | (simp; done) | (simp; omega))) | ((with_reducible refine Below.setCell ?_ ?_ _); rotate_left; focus (first | with_reducible exact Nat.le_refl _ | omega | (simp; done) | (simp; omega))) | (with_reducible refine Below.drew ?_) | ((with_reducible refine Below.trans ?_ (Below.mono (by with_reducible assumption) ?_)); rotate_left; focus (first | with_reducible exact Nat.le_refl _ | omega | (simp; done) | (simp; omega)))))⟩
  · obtain ⟨h7, hok⟩ := laidF_ok hl
    have Hok := Lib.hid hok
    clear hok
    cases hy : inB y 0 19
    · have H : Hid (rcF f n y = -1) := Lib.hid (by unfold rcF; rw [hl, hy]; rfl)
      go_enter Try.func20, Try.ntmps20
      go_wp2_with fail
      refine (slaid_val A n cap f true hl _ Hn.out Hr.out).mono ?_; rintro e w1 ⟨rfl, hb1⟩; have hz1 := hb1.size; (try simp at hz1)
      go_wp2_with fail
      refine (in_val y 0 19 false hy _).mono ?_; rintro e w2 ⟨rfl, hb2⟩; have hz2 := hb2.size; (try simp at hz2)
      go_wp2
      go_ret
      exact ⟨ret_int (by rw [H.out]), by (repeat (first | with_reducible exact Below.refl _ _ | with_reducible assumption | ((with_reducible refine Below.alloc ?_ ?_ _); rotate_left; focus (first | with_reducible exact Nat.le_refl _ | omega | (simp; done) | (simp; omega))) | ((with_reducible refine Below.setCell ?_ ?_ _); rotate_left; focus (first | with_reducible exact Nat.le_refl _ | omega | (simp; done) | (simp; omega))) | (with_reducible refine Below.drew ?_) | ((with_reducible refine Below.trans ?_ (Below.mono (by with_reducible assumption) ?_)); rotate_left; focus (first | with_reducible exact Nat.le_refl _ | omega | (simp; done) | (simp; omega)))))⟩
    · have hyb := inB_iff.1 hy
      obtain ⟨Y, hY⟩ : ∃ Y : Nat, y = Y := ⟨y.toNat, by omega⟩
      subst hY
      have H : Hid (rcF f n Y = rowC (uniB f n) Y) := Lib.hid (by unfold rcF; rw [hl, hy]; rfl)
      go_enter Try.func20, Try.ntmps20
      go_wp2_with fail
      refine (slaid_val A n cap f true hl _ Hn.out Hr.out).mono ?_; rintro e w1 ⟨rfl, hb1⟩; have hz1 := hb1.size; (try simp at hz1)
      go_wp2_with fail
      refine (in_val Y 0 19 true hy _).mono ?_; rintro e w2 ⟨rfl, hb2⟩; have hz2 := hb2.size; (try simp at hz2)
      have HB2 : Hid (Below w.heap.size w w2) := Lib.hid (by (repeat (first | with_reducible exact Below.refl _ _ | with_reducible assumption | ((with_reducible refine Below.alloc ?_ ?_ _); rotate_left; focus (first | with_reducible exact Nat.le_refl _ | omega | (simp; done) | (simp; omega))) | ((with_reducible refine Below.setCell ?_ ?_ _); rotate_left; focus (first | with_reducible exact Nat.le_refl _ | omega | (simp; done) | (simp; omega))) | (with_reducible refine Below.drew ?_) | ((with_reducible refine Below.trans ?_ (Below.mono (by with_reducible assumption) ?_)); rotate_left; focus (first | with_reducible exact Nat.le_refl _ | omega | (simp; done) | (simp; omega))))))
      clear hb1 hb2
      go_wp2
      go_loopw [5, 6] (fun s t wr => ∃ k : Nat, k ≤ 20 ∧ t = .int .i64 k ∧ s = .int .i64 (sumN k fun x => one (uniB f n x Y)) ∧ Below w.heap.size w wr) (fun _ t _ => 20 - (intOf t).toNat)
      case atStart => exact ⟨0, Nat.zero_le _, rfl, rfl, HB2.out⟩
      case round =>
        obtain ⟨k, hk, rfl, rfl, hbr⟩ := hrel
        have HB := Lib.hid hbr
        have hler : w.heap.size ≤ wr.heap.size := hbr.size
        have HSs : Hid (sumN (k + 1) (fun x => one (uniB f n x Y)) = sumN k (fun x => one (uniB f n x Y)) + one (uniB f n k Y)) := Lib.hid rfl
        obtain ⟨s1, s2⟩ := part_bd (fun x => uniB f n x Y) k
        generalize hS : sumN k (fun x => one (uniB f n x Y)) = T at s1 s2 HSs
        have HT := Lib.hid hS
        clear hS hbr
        by_cases hlt : k < 20
        · have hk20 : (k : Int) < 20 := by omega
          cases hU : uniB f n k Y
          · have HD := Lib.hid (cell_no hU)
            go_wp2_with fail
            refine (depth_val A n cap f k Y 0 HD.out _ h7 Hok.out (Hr.out.below HB.out)).mono ?_; rintro e w3 ⟨rfl, hb3⟩; have hz3 := hb3.size; (try simp at hz3)
            go_wp2
            go_roundw
            case rel => exact ⟨k + 1, by omega, by go_num, by rw [HSs.out, hU]; simp [one], HB.out.trans (hb3.mono hler)⟩
            case measure => simp [intOf]; omega
          · obtain ⟨d, hd, hd0, hd7⟩ := cell_yes hU
            have HD := Lib.hid hd
            clear hd
            go_wp2_with fail
            refine (depth_val A n cap f k Y d HD.out _ h7 Hok.out (Hr.out.below HB.out)).mono ?_; rintro e w3 ⟨rfl, hb3⟩; have hz3 := hb3.size; (try simp at hz3)
            go_wp2
            go_roundw
            case rel => exact ⟨k + 1, by omega, by go_num, by rw [HSs.out, hU]; simp [one], HB.out.trans (hb3.mono hler)⟩
            case measure => simp [intOf]; omega
        · obtain rfl : k = 20 := by omega
          go_wp2
          go_ret
          exact ⟨ret_int (by rw [H.out, ← HT.out]; rfl), HB.out⟩
theorem src_val (A : Option Addr) (n cap : Nat) (f : Nat → Rt) (y v : Int) (h : rcF f n y = v) (w : World) (hn : n ≤ maxLen) (hr : Rs w A n f) :
    Calls Try.prog 20 #[.slice A n cap, .int .i64 y] w fun e w' => e = .returned (.int .i64 v) ∧ Below w.heap.size w w' := h ▸ src_any A n cap f y w hn hr


/-- what both shadows have, as partial sums -/
def shXp (U : Nat → Nat → Bool) (a : Nat) : Int := sumN a fun i => one (anyN 20 (U i))
theorem shXp_bd (U : Nat → Nat → Bool) (a : Nat) : 0 ≤ shXp U a ∧ shXp U a ≤ a := part_bd (fun i => anyN 20 (U i)) a
set_option maxHeartbeats 4000000 in
set_option maxRecDepth 20000 in
theorem ssh_any (A : Option Addr) (n cap : Nat) (f : Nat → Rt) (w : World) (hn : n ≤ maxLen) (hr : Rs w A n f) :
    Calls Try.prog 13 #[.slice A n cap] w fun e w' => e = .returned (.tuple #[.int .i64 (onU shX f n), .int .i64 (onU shY f n), .bool (laidF f n)]) ∧ Below w.heap.size w w' := by
  have Hn := Lib.hid hn
  have Hr := Lib.hid hr
  clear hn hr
  cases hl : laidF f n
  · have H : Hid (onU shX f n = -1 ∧ onU shY f n = -1) := Lib.hid ⟨onU_no hl, onU_no hl⟩
    go_enter Try.func13, Try.ntmps13
    go_wp2_with fail
    refine (slaid_val A n cap f false hl _ Hn.out Hr.out).mono ?_; rintro e w1 ⟨rfl, hb1⟩; have hz1 := hb1.size; (try simp at hz1)
    go_wp2
    refine bodyPost_ret (v := .tuple #[.int .i64 (-1), .int .i64 (-1), .bool false]) (by simp [results, Try.results13, go_sem, *]) rfl ⟨by rw [H.out.1, H.out.2], by (repeat (first | with_reducible exact Below.refl _ _ | with_reducible assumption | ((with_reducible refine Below.alloc ?_ ?_ _); rotate_left; focus (first | with_reducible exact Nat.le_refl _ | omega | (simp; done) | (simp; omega))) | ((with_reducible refine Below.setCell ?_ ?_ _); rotate_left; focus (first | with_reducible exact Nat.le_refl _ | omega | (simp; done) | (simp; omega))) | (with_reducible refine Below.drew ?_) | ((with_reducible refine Below.trans ?_ (Below.mono (by with_reducible assumption) ?_)); rotate_left; focus (first | with_reducible exact Nat.le_refl _ | omega | (simp; done) | (simp; omega)))))⟩
  · obtain ⟨h7, hok⟩ := laidF_ok hl
    have Hok := Lib.hid hok
    clear hok
    have H : Hid (onU shX f n = shXp (uniB f n) 20 ∧ onU shY f n = shXp (fun a b => uniB f n b a) 20) := Lib.hid ⟨onU_yes hl, onU_yes hl⟩
    go_enter Try.func13, Try.ntmps13
    go_wp2_with fail
    refine (slaid_val A n cap f true hl _ Hn.out Hr.out).mono ?_; rintro e w1 ⟨rfl, hb1⟩; have hz1 := hb1.size; (try simp at hz1)
    have HB1 := Lib.hid hb1
    clear hb1
    go_wp2
    go_loopw [5, 6, 7] (fun s t i wr => ∃ a : Nat, a ≤ 20 ∧ i = .int .i64 a ∧ s = .int .i64 (shXp (uniB f n) a) ∧ t = .int .i64 (shXp (fun a b => uniB f n b a) a) ∧ Below w.heap.size w wr) (fun _ _ i _ => 20 - (intOf i).toNat)
    case atStart => exact ⟨0, Nat.zero_le _, rfl, rfl, rfl, HB1.out⟩
    case round =>
      obtain ⟨a, ha, rfl, rfl, rfl, hba0⟩ := hrel
      have HBA0 := Lib.hid hba0
      have HX : Hid (shXp (uniB f n) (a + 1) = shXp (uniB f n) a + one (anyN 20 (uniB f n a))) := Lib.hid rfl
      have HY : Hid (shXp (fun a b => uniB f n b a) (a + 1) = shXp (fun a b => uniB f n b a) a + one (anyN 20 fun b => uniB f n b a)) := Lib.hid rfl
      obtain ⟨x1, x2⟩ := shXp_bd (uniB f n) a
      obtain ⟨y1, y2⟩ := shXp_bd (fun a b => uniB f n b a) a
      generalize hX : shXp (uniB f n) a = X at x1 x2 HX
      generalize hY : shXp (fun a b => uniB f n b a) a = Y at y1 y2 HY
      have HXX := Lib.hid hX
      have HYY := Lib.hid hY
      clear hX hY hba0
      by_cases hlt : a < 20
      · have ha20 : (a : Int) < 20 := by omega
        go_wp2
        obtain ⟨wo, ho⟩ : ∃ wo : World, wo = wr := ⟨_, rfl⟩
        go_loopw [8, 9, 10] (fun s t i wr => ∃ b : Nat, b ≤ 20 ∧ i = .int .i64 b ∧ s = .bool (anyN b (uniB f n a)) ∧ t = .bool (anyN b fun i => uniB f n i a) ∧ Below w.heap.size w wr) (fun _ _ i _ => 20 - (intOf i).toNat)
        case atStart => exact ⟨0, Nat.zero_le _, rfl, rfl, rfl, HBA0.out⟩
        case round =>
          obtain ⟨b, hb, rfl, rfl, rfl, hbb⟩ := hrel
          have HB := Lib.hid hbb
          have HC : Hid (anyN (b + 1) (uniB f n a) = (anyN b (uniB f n a) || uniB f n a b)) := Lib.hid rfl
          have HRw : Hid (anyN (b + 1) (fun i => uniB f n i a) = (anyN b (fun i => uniB f n i a) || uniB f n b a)) := Lib.hid rfl
          clear hbb
          by_cases hlt2 : b < 20
          · have hb20 : (b : Int) < 20 := by omega
            cases hab : uniB f n a b
            · have HAB := Lib.hid (cell_no hab)
              cases hba : uniB f n b a
              · have HBA := Lib.hid (cell_no hba)
                cases hc : anyN b (uniB f n a)
                · cases hrw : anyN b (fun i => uniB f n i a)
                  · skip
                    go_wp2_with fail
                    refine (depth_val A n cap f a b 0 HAB.out _ h7 Hok.out (Hr.out.below HB.out)).mono ?_; rintro e w2 ⟨rfl, hb2⟩; have hz2 := hb2.size; (try simp at hz2)
                    have HQ2 := Lib.hid (HB.out.trans (hb2.mono (Below.size HB.out)))
                    clear hb2
                    go_wp2_with fail
                    refine (depth_val A n cap f b a 0 HBA.out _ h7 Hok.out (Hr.out.below HQ2.out)).mono ?_; rintro e w3 ⟨rfl, hb3⟩; have hz3 := hb3.size; (try simp at hz3)
                    have HQ3 := Lib.hid (HQ2.out.trans (hb3.mono (Below.size HQ2.out)))
                    clear hb3
                    go_wp2
                    go_roundw
                    case rel => exact ⟨b + 1, by omega, by go_num, by rw [HC.out, hc, hab]; rfl, by rw [HRw.out, hrw, hba]; rfl, HQ3.out⟩
                    case measure => simp [intOf]; omega
                  · skip
                    go_wp2_with fail
                    refine (depth_val A n cap f a b 0 HAB.out _ h7 Hok.out (Hr.out.below HB.out)).mono ?_; rintro e w2 ⟨rfl, hb2⟩; have hz2 := hb2.size; (try simp at hz2)
                    have HQ2 := Lib.hid (HB.out.trans (hb2.mono (Below.size HB.out)))
                    clear hb2
                    go_wp2
                    go_roundw
                    case rel => exact ⟨b + 1, by omega, by go_num, by rw [HC.out, hc, hab]; rfl, by rw [HRw.out, hrw, hba]; rfl, HQ2.out⟩
                    case measure => simp [intOf]; omega
                · cases hrw : anyN b (fun i => uniB f n i a)
                  · skip
                    go_wp2_with fail
                    refine (depth_val A n cap f b a 0 HBA.out _ h7 Hok.out (Hr.out.below HB.out)).mono ?_; rintro e w2 ⟨rfl, hb2⟩; have hz2 := hb2.size; (try simp at hz2)
                    have HQ2 := Lib.hid (HB.out.trans (hb2.mono (Below.size HB.out)))
                    clear hb2
                    go_wp2
                    go_roundw
                    case rel => exact ⟨b + 1, by omega, by go_num, by rw [HC.out, hc, hab]; rfl, by rw [HRw.out, hrw, hba]; rfl, HQ2.out⟩
                    case measure => simp [intOf]; omega
                  · skip
                    go_wp2
                    go_roundw
                    case rel => exact ⟨b + 1, by omega, by go_num, by rw [HC.out, hc, hab]; rfl, by rw [HRw.out, hrw, hba]; rfl, HB.out⟩
                    case measure => simp [intOf]; omega
              · obtain ⟨d2, hd2, hd20, hd27⟩ := cell_yes hba
                have HBA := Lib.hid hd2
                clear hd2
                cases hc : anyN b (uniB f n a)
                · cases hrw : anyN b (fun i => uniB f n i a)
                  · skip
                    go_wp2_with fail
                    refine (depth_val A n cap f a b 0 HAB.out _ h7 Hok.out (Hr.out.below HB.out)).mono ?_; rintro e w2 ⟨rfl, hb2⟩; have hz2 := hb2.size; (try simp at hz2)
                    have HQ2 := Lib.hid (HB.out.trans (hb2.mono (Below.size HB.out)))
                    clear hb2
                    go_wp2_with fail
                    refine (depth_val A n cap f b a d2 HBA.out _ h7 Hok.out (Hr.out.below HQ2.out)).mono ?_; rintro e w3 ⟨rfl, hb3⟩; have hz3 := hb3.size; (try simp at hz3)
                    have HQ3 := Lib.hid (HQ2.out.trans (hb3.mono (Below.size HQ2.out)))
                    clear hb3
                    go_wp2
                    go_roundw
                    case rel => exact ⟨b + 1, by omega, by go_num, by rw [HC.out, hc, hab]; rfl, by rw [HRw.out, hrw, hba]; rfl, HQ3.out⟩
                    case measure => simp [intOf]; omega
                  · skip
                    go_wp2_with fail
                    refine (depth_val A n cap f a b 0 HAB.out _ h7 Hok.out (Hr.out.below HB.out)).mono ?_; rintro e w2 ⟨rfl, hb2⟩; have hz2 := hb2.size; (try simp at hz2)
                    have HQ2 := Lib.hid (HB.out.trans (hb2.mono (Below.size HB.out)))
                    clear hb2
                    go_wp2
                    go_roundw
                    case rel => exact ⟨b + 1, by omega, by go_num, by rw [HC.out, hc, hab]; rfl, by rw [HRw.out, hrw, hba]; rfl, HQ2.out⟩
                    case measure => simp [intOf]; omega
                · cases hrw : anyN b (fun i => uniB f n i a)
                  · skip
                    go_wp2_with fail
                    refine (depth_val A n cap f b a d2 HBA.out _ h7 Hok.out (Hr.out.below HB.out)).mono ?_; rintro e w2 ⟨rfl, hb2⟩; have hz2 := hb2.size; (try simp at hz2)
                    have HQ2 := Lib.hid (HB.out.trans (hb2.mono (Below.size HB.out)))
                    clear hb2
                    go_wp2
                    go_roundw
                    case rel => exact ⟨b + 1, by omega, by go_num, by rw [HC.out, hc, hab]; rfl, by rw [HRw.out, hrw, hba]; rfl, HQ2.out⟩
                    case measure => simp [intOf]; omega
                  · skip
                    go_wp2
                    go_roundw
                    case rel => exact ⟨b + 1, by omega, by go_num, by rw [HC.out, hc, hab]; rfl, by rw [HRw.out, hrw, hba]; rfl, HB.out⟩
                    case measure => simp [intOf]; omega
            · obtain ⟨d1, hd1, hd10, hd17⟩ := cell_yes hab
              have HAB := Lib.hid hd1
              clear hd1
              cases hba : uniB f n b a
              · have HBA := Lib.hid (cell_no hba)
                cases hc : anyN b (uniB f n a)
                · cases hrw : anyN b (fun i => uniB f n i a)
                  · skip
                    go_wp2_with fail
                    refine (depth_val A n cap f a b d1 HAB.out _ h7 Hok.out (Hr.out.below HB.out)).mono ?_; rintro e w2 ⟨rfl, hb2⟩; have hz2 := hb2.size; (try simp at hz2)
                    have HQ2 := Lib.hid (HB.out.trans (hb2.mono (Below.size HB.out)))
                    clear hb2
                    go_wp2_with fail
                    refine (depth_val A n cap f b a 0 HBA.out _ h7 Hok.out (Hr.out.below HQ2.out)).mono ?_; rintro e w3 ⟨rfl, hb3⟩; have hz3 := hb3.size; (try simp at hz3)
                    have HQ3 := Lib.hid (HQ2.out.trans (hb3.mono (Below.size HQ2.out)))
                    clear hb3
                    go_wp2
                    go_roundw
                    case rel => exact ⟨b + 1, by omega, by go_num, by rw [HC.out, hc, hab]; rfl, by rw [HRw.out, hrw, hba]; rfl, HQ3.out⟩
                    case measure => simp [intOf]; omega
                  · skip
                    go_wp2_with fail
                    refine (depth_val A n cap f a b d1 HAB.out _ h7 Hok.out (Hr.out.below HB.out)).mono ?_; rintro e w2 ⟨rfl, hb2⟩; have hz2 := hb2.size; (try simp at hz2)
                    have HQ2 := Lib.hid (HB.out.trans (hb2.mono (Below.size HB.out)))
                    clear hb2
                    go_wp2
                    go_roundw
                    case rel => exact ⟨b + 1, by omega, by go_num, by rw [HC.out, hc, hab]; rfl, by rw [HRw.out, hrw, hba]; rfl, HQ2.out⟩
                    case measure => simp [intOf]; omega
                · cases hrw : anyN b (fun i => uniB f n i a)
                  · skip
                    go_wp2_with fail
                    refine (depth_val A n cap f b a 0 HBA.out _ h7 Hok.out (Hr.out.below HB.out)).mono ?_; rintro e w2 ⟨rfl, hb2⟩; have hz2 := hb2.size; (try simp at hz2)
                    have HQ2 := Lib.hid (HB.out.trans (hb2.mono (Below.size HB.out)))
                    clear hb2
                    go_wp2
                    go_roundw
                    case rel => exact ⟨b + 1, by omega, by go_num, by rw [HC.out, hc, hab]; rfl, by rw [HRw.out, hrw, hba]; rfl, HQ2.out⟩
                    case measure => simp [intOf]; omega
                  · skip
                    go_wp2
                    go_roundw
                    case rel => exact ⟨b + 1, by omega, by go_num, by rw [HC.out, hc, hab]; rfl, by rw [HRw.out, hrw, hba]; rfl, HB.out⟩
                    case measure => simp [intOf]; omega
              · obtain ⟨d2, hd2, hd20, hd27⟩ := cell_yes hba
                have HBA := Lib.hid hd2
                clear hd2
                cases hc : anyN b (uniB f n a)
                · cases hrw : anyN b (fun i => uniB f n i a)
                  · skip
                    go_wp2_with fail
                    refine (depth_val A n cap f a b d1 HAB.out _ h7 Hok.out (Hr.out.below HB.out)).mono ?_; rintro e w2 ⟨rfl, hb2⟩; have hz2 := hb2.size; (try simp at hz2)
                    have HQ2 := Lib.hid (HB.out.trans (hb2.mono (Below.size HB.out)))
                    clear hb2
                    go_wp2_with fail
                    refine (depth_val A n cap f b a d2 HBA.out _ h7 Hok.out (Hr.out.below HQ2.out)).mono ?_; rintro e w3 ⟨rfl, hb3⟩; have hz3 := hb3.size; (try simp at hz3)
                    have HQ3 := Lib.hid (HQ2.out.trans (hb3.mono (Below.size HQ2.out)))
                    clear hb3
                    go_wp2
                    go_roundw
                    case rel => exact ⟨b + 1, by omega, by go_num, by rw [HC.out, hc, hab]; rfl, by rw [HRw.out, hrw, hba]; rfl, HQ3.out⟩
                    case measure => simp [intOf]; omega
                  · skip
                    go_wp2_with fail
                    refine (depth_val A n cap f a b d1 HAB.out _ h7 Hok.out (Hr.out.below HB.out)).mono ?_; rintro e w2 ⟨rfl, hb2⟩; have hz2 := hb2.size; (try simp at hz2)
                    have HQ2 := Lib.hid (HB.out.trans (hb2.mono (Below.size HB.out)))
                    clear hb2
                    go_wp2
                    go_roundw
                    case rel => exact ⟨b + 1, by omega, by go_num, by rw [HC.out, hc, hab]; rfl, by rw [HRw.out, hrw, hba]; rfl, HQ2.out⟩
                    case measure => simp [intOf]; omega
                · cases hrw : anyN b (fun i => uniB f n i a)
                  · skip
                    go_wp2_with fail
                    refine (depth_val A n cap f b a d2 HBA.out _ h7 Hok.out (Hr.out.below HB.out)).mono ?_; rintro e w2 ⟨rfl, hb2⟩; have hz2 := hb2.size; (try simp at hz2)
                    have HQ2 := Lib.hid (HB.out.trans (hb2.mono (Below.size HB.out)))
                    clear hb2
                    go_wp2
                    go_roundw
                    case rel => exact ⟨b + 1, by omega, by go_num, by rw [HC.out, hc, hab]; rfl, by rw [HRw.out, hrw, hba]; rfl, HQ2.out⟩
                    case measure => simp [intOf]; omega
                  · skip
                    go_wp2
                    go_roundw
                    case rel => exact ⟨b + 1, by omega, by go_num, by rw [HC.out, hc, hab]; rfl, by rw [HRw.out, hrw, hba]; rfl, HB.out⟩
                    case measure => simp [intOf]; omega
          · obtain rfl : b = 20 := by omega
            cases hc : anyN 20 (uniB f n a)
            · cases hrw : anyN 20 (fun i => uniB f n i a)
              · go_wp2
                go_roundw
                case rel => exact ⟨a + 1, by omega, by go_num, by rw [HX.out, hc]; simp [one], by rw [HY.out, hrw]; simp [one], HB.out⟩
                case measure => simp [intOf]; omega
              · go_wp2
                go_roundw
                case rel => exact ⟨a + 1, by omega, by go_num, by rw [HX.out, hc]; simp [one], by rw [HY.out, hrw]; simp [one], HB.out⟩
                case measure => simp [intOf]; omega
            · cases hrw : anyN 20 (fun i => uniB f n i a)
              · go_wp2
                go_roundw
                case rel => exact ⟨a + 1, by omega, by go_num, by rw [HX.out, hc]; simp [one], by rw [HY.out, hrw]; simp [one], HB.out⟩
                case measure => simp [intOf]; omega
              · go_wp2
                go_roundw
                case rel => exact ⟨a + 1, by omega, by go_num, by rw [HX.out, hc]; simp [one], by rw [HY.out, hrw]; simp [one], HB.out⟩
                case measure => simp [intOf]; omega
      · obtain rfl : a = 20 := by omega
        go_wp2
        refine bodyPost_ret (v := .tuple #[.int .i64 X, .int .i64 Y, .bool true]) (by simp [results, Try.results13, go_sem, *]) rfl ⟨by rw [H.out.1, H.out.2, HXX.out, HYY.out], HBA0.out⟩

end Go.Proofs.Ytfdkkkdijgmbbaa
namespace Go.Proofs.Ytfdkkkdijgmbbaa
open Go.RowKit Go.Sort
set_option linter.unusedVariables false
theorem less_cast {b : Nat} (h : ¬ b = 0) : ((b - 1 : Nat) : Int) = (b : Int) - 1 := by omega
theorem runs_bd (g : Nat → Nat → Bool) (a : Nat) : 0 ≤ sumN a (fun y => runN (g y) 20) ∧ sumN a (fun y => runN (g y) 20) ≤ 20 * a := by
  induction a with
  | zero => simp [sumN]
  | succ a ih => simp only [sumN]; have := runN_bd (g a) 20; omega


set_option maxHeartbeats 8000000 in
set_option maxRecDepth 20000 in
theorem srn_any (A : Option Addr) (n cap : Nat) (f : Nat → Rt) (w : World) (hn : n ≤ maxLen) (hr : Rs w A n f) :
    Calls Try.prog 23 #[.slice A n cap] w fun e w' => e = .returned (.tuple #[.int .i64 (onU runX f n), .int .i64 (onU runY f n), .bool (laidF f n)]) ∧ Below w.heap.size w w' := by
  have Hn := Lib.hid hn
  have Hr := Lib.hid hr
  clear hn hr
  cases hl : laidF f n
  · have H : Hid (onU runX f n = -1 ∧ onU runY f n = -1) := Lib.hid ⟨onU_no hl, onU_no hl⟩
    go_enter Try.func23, Try.ntmps23
    go_wp2_with fail
    refine (slaid_val A n cap f false hl _ Hn.out Hr.out).mono ?_; rintro e w1 ⟨rfl, hb1⟩; have hz1 := hb1.size; (try simp at hz1)
    go_wp2
    refine bodyPost_ret (v := .tuple #[.int .i64 (-1), .int .i64 (-1), .bool false]) (by simp [results, Try.results23, go_sem, *]) rfl ⟨by rw [H.out.1, H.out.2], by (repeat (first | with_reducible exact Below.refl _ _ | with_reducible assumption | ((with_reducible refine Below.alloc ?_ ?_ _); rotate_left; focus (first | with_reducible exact Nat.le_refl _ | omega | (simp; done) | (simp; omega))) | ((with_reducible refine Below.setCell ?_ ?_ _); rotate_left; focus (first | with_reducible exact Nat.le_refl _ | omega | (simp; done) | (simp; omega))) | (with_reducible refine Below.drew ?_) | ((with_reducible refine Below.trans ?_ (Below.mono (by with_reducible assumption) ?_)); rotate_left; focus (first | with_reducible exact Nat.le_refl _ | omega | (simp; done) | (simp; omega)))))⟩
  · obtain ⟨h7, hok⟩ := laidF_ok hl
    have Hok := Lib.hid hok
    clear hok
    have H : Hid (onU runX f n = sumN 20 (fun y => runN (fun x => uniB f n x y) 20) ∧ onU runY f n = sumN 20 (fun x => runN (uniB f n x) 20)) := Lib.hid ⟨onU_yes hl, onU_yes hl⟩
    go_enter Try.func23, Try.ntmps23
    go_wp2_with fail
    refine (slaid_val A n cap f true hl _ Hn.out Hr.out).mono ?_; rintro e w1 ⟨rfl, hb1⟩; have hz1 := hb1.size; (try simp at hz1)
    have HB1 := Lib.hid hb1
    clear hb1
    go_wp2
    go_loopw [5, 6, 7] (fun s t i wr => ∃ a : Nat, a ≤ 20 ∧ i = .int .i64 a ∧ s = .int .i64 (sumN a (fun y => runN (fun x => uniB f n x y) 20)) ∧ t = .int .i64 (sumN a (fun x => runN (uniB f n x) 20)) ∧ Below w.heap.size w wr) (fun _ _ i _ => 20 - (intOf i).toNat)
    case atStart => exact ⟨0, Nat.zero_le _, rfl, rfl, rfl, HB1.out⟩
    case round =>
      obtain ⟨a, ha, rfl, rfl, rfl, hba0⟩ := hrel
      have HBA0 := Lib.hid hba0
      have HX : Hid (sumN (a + 1) (fun y => runN (fun x => uniB f n x y) 20) = sumN a (fun y => runN (fun x => uniB f n x y) 20) + runN (fun x => uniB f n x a) 20) := Lib.hid rfl
      have HY : Hid (sumN (a + 1) (fun x => runN (uniB f n x) 20) = sumN a (fun x => runN (uniB f n x) 20) + runN (uniB f n a) 20) := Lib.hid rfl
      obtain ⟨x1, x2⟩ := runs_bd (fun y x => uniB f n x y) a
      obtain ⟨y1, y2⟩ := runs_bd (uniB f n) a
      (try dsimp only at x1 x2 y1 y2)
      generalize hX : sumN a (fun y => runN (fun x => uniB f n x y) 20) = X at x1 x2 HX
      generalize hY : sumN a (fun x => runN (uniB f n x) 20) = Y at y1 y2 HY
      have HXX := Lib.hid hX
      have HYY := Lib.hid hY
      clear hX hY hba0
      by_cases hlt : a < 20
      · have ha20 : (a : Int) < 20 := by omega
        go_wp2
        obtain ⟨wo, ho⟩ : ∃ wo : World, wo = wr := ⟨_, rfl⟩
        go_loopw [5, 6, 8] (fun s t i wr => ∃ b : Nat, b ≤ 20 ∧ i = .int .i64 b ∧ s = .int .i64 (X + runN (fun x => uniB f n x a) b) ∧ t = .int .i64 (Y + runN (uniB f n a) b) ∧ Below w.heap.size w wr) (fun _ _ i _ => 20 - (intOf i).toNat)
        case atStart => exact ⟨0, Nat.zero_le _, rfl, by simp [runN], by simp [runN], HBA0.out⟩
        case round =>
          obtain ⟨b, hb, rfl, rfl, rfl, hbb⟩ := hrel
          have HB := Lib.hid hbb
          have r1 := runN_bd (fun x => uniB f n x a) b
          have r2 := runN_bd (uniB f n a) b
          have HS1 : Hid (runN (fun x => uniB f n x a) (b + 1) = runN (fun x => uniB f n x a) b + one (uniB f n b a && (decide (b = 0) || !uniB f n (b - 1) a))) := Lib.hid rfl
          have HS2 : Hid (runN (uniB f n a) (b + 1) = runN (uniB f n a) b + one (uniB f n a b && (decide (b = 0) || !uniB f n a (b - 1)))) := Lib.hid rfl
          clear hbb
          by_cases hlt2 : b < 20
          · have hb20 : (b : Int) < 20 := by omega
            obtain ⟨T1, hT1⟩ : ∃ T1, runN (fun x => uniB f n x a) b = T1 := ⟨_, rfl⟩
            obtain ⟨T2, hT2⟩ : ∃ T2, runN (uniB f n a) b = T2 := ⟨_, rfl⟩
            rw [hT1] at r1 HS1 ⊢
            rw [hT2] at r2 HS2 ⊢
            clear hT1 hT2
            by_cases h0 : b = 0
            · subst h0
              cases h1 : uniB f n 0 a
              · cases h2 : uniB f n a 0
                · skip
                  have H1 := Lib.hid (cell_no h1)
                  have H2 := Lib.hid (cell_no h2)
                  go_wp2_with fail
                  refine (depth_val A n cap f ((0 : Nat) : Int) a 0 H1.out _ h7 Hok.out (Hr.out.below HB.out)).mono ?_; rintro e w2 ⟨rfl, hb2⟩; have hz2 := hb2.size; (try simp at hz2)
                  have HQ2 := Lib.hid (HB.out.trans (hb2.mono (Below.size HB.out)))
                  clear hb2
                  go_wp2_with fail
                  refine (depth_val A n cap f a ((0 : Nat) : Int) 0 H2.out _ h7 Hok.out (Hr.out.below HQ2.out)).mono ?_; rintro e w3 ⟨rfl, hb3⟩; have hz3 := hb3.size; (try simp at hz3)
                  have HQ3 := Lib.hid (HQ2.out.trans (hb3.mono (Below.size HQ2.out)))
                  clear hb3
                  go_wp2
                  go_roundw
                  case rel => exact ⟨1, by omega, by first | rfl | go_num, by rw [HS1.out, h1]; simp [one]; try omega, by rw [HS2.out, h2]; simp [one]; try omega, HQ3.out⟩
                  case measure => simp [intOf]
                · skip
                  have H1 := Lib.hid (cell_no h1)
                  obtain ⟨d2, hd2, hp2, hq2⟩ := cell_yes h2
                  have H2 := Lib.hid hd2
                  clear hd2
                  go_wp2_with fail
                  refine (depth_val A n cap f ((0 : Nat) : Int) a 0 H1.out _ h7 Hok.out (Hr.out.below HB.out)).mono ?_; rintro e w2 ⟨rfl, hb2⟩; have hz2 := hb2.size; (try simp at hz2)
                  have HQ2 := Lib.hid (HB.out.trans (hb2.mono (Below.size HB.out)))
                  clear hb2
                  go_wp2_with fail
                  refine (depth_val A n cap f a ((0 : Nat) : Int) d2 H2.out _ h7 Hok.out (Hr.out.below HQ2.out)).mono ?_; rintro e w3 ⟨rfl, hb3⟩; have hz3 := hb3.size; (try simp at hz3)
                  have HQ3 := Lib.hid (HQ2.out.trans (hb3.mono (Below.size HQ2.out)))
                  clear hb3
                  go_wp2
                  go_roundw
                  case rel => exact ⟨1, by omega, by first | rfl | go_num, by rw [HS1.out, h1]; simp [one]; try omega, by rw [HS2.out, h2]; simp [one]; try omega, HQ3.out⟩
                  case measure => simp [intOf]
              · cases h2 : uniB f n a 0
                · skip
                  obtain ⟨d1, hd1, hp1, hq1⟩ := cell_yes h1
                  have H1 := Lib.hid hd1
                  clear hd1
                  have H2 := Lib.hid (cell_no h2)
                  go_wp2_with fail
                  refine (depth_val A n cap f ((0 : Nat) : Int) a d1 H1.out _ h7 Hok.out (Hr.out.below HB.out)).mono ?_; rintro e w2 ⟨rfl, hb2⟩; have hz2 := hb2.size; (try simp at hz2)
                  have HQ2 := Lib.hid (HB.out.trans (hb2.mono (Below.size HB.out)))
                  clear hb2
                  go_wp2_with fail
                  refine (depth_val A n cap f a ((0 : Nat) : Int) 0 H2.out _ h7 Hok.out (Hr.out.below HQ2.out)).mono ?_; rintro e w3 ⟨rfl, hb3⟩; have hz3 := hb3.size; (try simp at hz3)
                  have HQ3 := Lib.hid (HQ2.out.trans (hb3.mono (Below.size HQ2.out)))
                  clear hb3
                  go_wp2
                  go_roundw
                  case rel => exact ⟨1, by omega, by first | rfl | go_num, by rw [HS1.out, h1]; simp [one]; try omega, by rw [HS2.out, h2]; simp [one]; try omega, HQ3.out⟩
                  case measure => simp [intOf]
                · skip
                  obtain ⟨d1, hd1, hp1, hq1⟩ := cell_yes h1
                  have H1 := Lib.hid hd1
                  clear hd1
                  obtain ⟨d2, hd2, hp2, hq2⟩ := cell_yes h2
                  have H2 := Lib.hid hd2
                  clear hd2
                  go_wp2_with fail
                  refine (depth_val A n cap f ((0 : Nat) : Int) a d1 H1.out _ h7 Hok.out (Hr.out.below HB.out)).mono ?_; rintro e w2 ⟨rfl, hb2⟩; have hz2 := hb2.size; (try simp at hz2)
                  have HQ2 := Lib.hid (HB.out.trans (hb2.mono (Below.size HB.out)))
                  clear hb2
                  go_wp2_with fail
                  refine (depth_val A n cap f a ((0 : Nat) : Int) d2 H2.out _ h7 Hok.out (Hr.out.below HQ2.out)).mono ?_; rintro e w3 ⟨rfl, hb3⟩; have hz3 := hb3.size; (try simp at hz3)
                  have HQ3 := Lib.hid (HQ2.out.trans (hb3.mono (Below.size HQ2.out)))
                  clear hb3
                  go_wp2
                  go_roundw
                  case rel => exact ⟨1, by omega, by first | rfl | go_num, by rw [HS1.out, h1]; simp [one]; try omega, by rw [HS2.out, h2]; simp [one]; try omega, HQ3.out⟩
                  case measure => simp [intOf]
            · have hb0 : ((b : Int) == 0) = false := by simp; omega
              cases h1 : uniB f n b a
              · cases h2 : uniB f n a b
                · skip
                  have H1 := Lib.hid (cell_no h1)
                  have H2 := Lib.hid (cell_no h2)
                  go_wp2_with fail
                  refine (depth_val A n cap f b a 0 H1.out _ h7 Hok.out (Hr.out.below HB.out)).mono ?_; rintro e w2 ⟨rfl, hb2⟩; have hz2 := hb2.size; (try simp at hz2)
                  have HQ2 := Lib.hid (HB.out.trans (hb2.mono (Below.size HB.out)))
                  clear hb2
                  go_wp2_with fail
                  refine (depth_val A n cap f a b 0 H2.out _ h7 Hok.out (Hr.out.below HQ2.out)).mono ?_; rintro e w3 ⟨rfl, hb3⟩; have hz3 := hb3.size; (try simp at hz3)
                  have HQ3 := Lib.hid (HQ2.out.trans (hb3.mono (Below.size HQ2.out)))
                  clear hb3
                  go_wp2
                  go_roundw
                  case rel => exact ⟨b + 1, by omega, by go_num, by rw [HS1.out, h1]; simp [one]; try omega, by rw [HS2.out, h2]; simp [one]; try omega, HQ3.out⟩
                  case measure => simp [intOf]; omega
                · cases k2 : uniB f n a (b - 1)
                  · skip
                    have H1 := Lib.hid (cell_no h1)
                    obtain ⟨d2, hd2, hp2, hq2⟩ := cell_yes h2
                    have H2 := Lib.hid hd2
                    clear hd2
                    have hg2 := cell_no k2
                    rw [less_cast h0] at hg2
                    have G2 := Lib.hid hg2
                    clear hg2
                    go_wp2_with fail
                    refine (depth_val A n cap f b a 0 H1.out _ h7 Hok.out (Hr.out.below HB.out)).mono ?_; rintro e w2 ⟨rfl, hb2⟩; have hz2 := hb2.size; (try simp at hz2)
                    have HQ2 := Lib.hid (HB.out.trans (hb2.mono (Below.size HB.out)))
                    clear hb2
                    go_wp2_with fail
                    refine (depth_val A n cap f a b d2 H2.out _ h7 Hok.out (Hr.out.below HQ2.out)).mono ?_; rintro e w3 ⟨rfl, hb3⟩; have hz3 := hb3.size; (try simp at hz3)
                    have HQ3 := Lib.hid (HQ2.out.trans (hb3.mono (Below.size HQ2.out)))
                    clear hb3
                    go_wp2_with fail
                    refine (depth_val A n cap f a ((b : Int) - 1) 0 G2.out _ h7 Hok.out (Hr.out.below HQ3.out)).mono ?_; rintro e w4 ⟨rfl, hb4⟩; have hz4 := hb4.size; (try simp at hz4)
                    have HQ4 := Lib.hid (HQ3.out.trans (hb4.mono (Below.size HQ3.out)))
                    clear hb4
                    go_wp2
                    go_roundw
                    case rel => exact ⟨b + 1, by omega, by go_num, by rw [HS1.out, h1]; simp [one]; try omega, by rw [HS2.out, h2, k2]; simp [one, h0]; try omega, HQ4.out⟩
                    case measure => simp [intOf]; omega
                  · skip
                    have H1 := Lib.hid (cell_no h1)
                    obtain ⟨d2, hd2, hp2, hq2⟩ := cell_yes h2
                    have H2 := Lib.hid hd2
                    clear hd2
                    obtain ⟨e2, he2, hr2, hs2⟩ := cell_yes k2
                    rw [less_cast h0] at he2
                    have G2 := Lib.hid he2
                    clear he2
                    go_wp2_with fail
                    refine (depth_val A n cap f b a 0 H1.out _ h7 Hok.out (Hr.out.below HB.out)).mono ?_; rintro e w2 ⟨rfl, hb2⟩; have hz2 := hb2.size; (try simp at hz2)
                    have HQ2 := Lib.hid (HB.out.trans (hb2.mono (Below.size HB.out)))
                    clear hb2
                    go_wp2_with fail
                    refine (depth_val A n cap f a b d2 H2.out _ h7 Hok.out (Hr.out.below HQ2.out)).mono ?_; rintro e w3 ⟨rfl, hb3⟩; have hz3 := hb3.size; (try simp at hz3)
                    have HQ3 := Lib.hid (HQ2.out.trans (hb3.mono (Below.size HQ2.out)))
                    clear hb3
                    go_wp2_with fail
                    refine (depth_val A n cap f a ((b : Int) - 1) e2 G2.out _ h7 Hok.out (Hr.out.below HQ3.out)).mono ?_; rintro e w4 ⟨rfl, hb4⟩; have hz4 := hb4.size; (try simp at hz4)
                    have HQ4 := Lib.hid (HQ3.out.trans (hb4.mono (Below.size HQ3.out)))
                    clear hb4
                    go_wp2
                    go_roundw
                    case rel => exact ⟨b + 1, by omega, by go_num, by rw [HS1.out, h1]; simp [one]; try omega, by rw [HS2.out, h2, k2]; simp [one, h0]; try omega, HQ4.out⟩
                    case measure => simp [intOf]; omega
              · cases k1 : uniB f n (b - 1) a
                · cases h2 : uniB f n a b
                  · skip
                    obtain ⟨d1, hd1, hp1, hq1⟩ := cell_yes h1
                    have H1 := Lib.hid hd1
                    clear hd1
                    have hg1 := cell_no k1
                    rw [less_cast h0] at hg1
                    have G1 := Lib.hid hg1
                    clear hg1
                    have H2 := Lib.hid (cell_no h2)
                    go_wp2_with fail
                    refine (depth_val A n cap f b a d1 H1.out _ h7 Hok.out (Hr.out.below HB.out)).mono ?_; rintro e w2 ⟨rfl, hb2⟩; have hz2 := hb2.size; (try simp at hz2)
                    have HQ2 := Lib.hid (HB.out.trans (hb2.mono (Below.size HB.out)))
                    clear hb2
                    go_wp2_with fail
                    refine (depth_val A n cap f ((b : Int) - 1) a 0 G1.out _ h7 Hok.out (Hr.out.below HQ2.out)).mono ?_; rintro e w3 ⟨rfl, hb3⟩; have hz3 := hb3.size; (try simp at hz3)
                    have HQ3 := Lib.hid (HQ2.out.trans (hb3.mono (Below.size HQ2.out)))
                    clear hb3
                    go_wp2_with fail
                    refine (depth_val A n cap f a b 0 H2.out _ h7 Hok.out (Hr.out.below HQ3.out)).mono ?_; rintro e w4 ⟨rfl, hb4⟩; have hz4 := hb4.size; (try simp at hz4)
                    have HQ4 := Lib.hid (HQ3.out.trans (hb4.mono (Below.size HQ3.out)))
                    clear hb4
                    go_wp2
                    go_roundw
                    case rel => exact ⟨b + 1, by omega, by go_num, by rw [HS1.out, h1, k1]; simp [one, h0]; try omega, by rw [HS2.out, h2]; simp [one]; try omega, HQ4.out⟩
                    case measure => simp [intOf]; omega
                  · cases k2 : uniB f n a (b - 1)
                    · skip
                      obtain ⟨d1, hd1, hp1, hq1⟩ := cell_yes h1
                      have H1 := Lib.hid hd1
                      clear hd1
                      have hg1 := cell_no k1
                      rw [less_cast h0] at hg1
                      have G1 := Lib.hid hg1
                      clear hg1
                      obtain ⟨d2, hd2, hp2, hq2⟩ := cell_yes h2
                      have H2 := Lib.hid hd2
                      clear hd2
                      have hg2 := cell_no k2
                      rw [less_cast h0] at hg2
                      have G2 := Lib.hid hg2
                      clear hg2
                      go_wp2_with fail
                      refine (depth_val A n cap f b a d1 H1.out _ h7 Hok.out (Hr.out.below HB.out)).mono ?_; rintro e w2 ⟨rfl, hb2⟩; have hz2 := hb2.size; (try simp at hz2)
                      have HQ2 := Lib.hid (HB.out.trans (hb2.mono (Below.size HB.out)))
                      clear hb2
                      go_wp2_with fail
                      refine (depth_val A n cap f ((b : Int) - 1) a 0 G1.out _ h7 Hok.out (Hr.out.below HQ2.out)).mono ?_; rintro e w3 ⟨rfl, hb3⟩; have hz3 := hb3.size; (try simp at hz3)
                      have HQ3 := Lib.hid (HQ2.out.trans (hb3.mono (Below.size HQ2.out)))
                      clear hb3
                      go_wp2_with fail
                      refine (depth_val A n cap f a b d2 H2.out _ h7 Hok.out (Hr.out.below HQ3.out)).mono ?_; rintro e w4 ⟨rfl, hb4⟩; have hz4 := hb4.size; (try simp at hz4)
                      have HQ4 := Lib.hid (HQ3.out.trans (hb4.mono (Below.size HQ3.out)))
                      clear hb4
                      go_wp2_with fail
                      refine (depth_val A n cap f a ((b : Int) - 1) 0 G2.out _ h7 Hok.out (Hr.out.below HQ4.out)).mono ?_; rintro e w5 ⟨rfl, hb5⟩; have hz5 := hb5.size; (try simp at hz5)
                      have HQ5 := Lib.hid (HQ4.out.trans (hb5.mono (Below.size HQ4.out)))
                      clear hb5
                      go_wp2
                      go_roundw
                      case rel => exact ⟨b + 1, by omega, by go_num, by rw [HS1.out, h1, k1]; simp [one, h0]; try omega, by rw [HS2.out, h2, k2]; simp [one, h0]; try omega, HQ5.out⟩
                      case measure => simp [intOf]; omega
                    · skip
                      obtain ⟨d1, hd1, hp1, hq1⟩ := cell_yes h1
                      have H1 := Lib.hid hd1
                      clear hd1
                      have hg1 := cell_no k1
                      rw [less_cast h0] at hg1
                      have G1 := Lib.hid hg1
                      clear hg1
                      obtain ⟨d2, hd2, hp2, hq2⟩ := cell_yes h2
                      have H2 := Lib.hid hd2
                      clear hd2
                      obtain ⟨e2, he2, hr2, hs2⟩ := cell_yes k2
                      rw [less_cast h0] at he2
                      have G2 := Lib.hid he2
                      clear he2
                      go_wp2_with fail
                      refine (depth_val A n cap f b a d1 H1.out _ h7 Hok.out (Hr.out.below HB.out)).mono ?_; rintro e w2 ⟨rfl, hb2⟩; have hz2 := hb2.size; (try simp at hz2)
                      have HQ2 := Lib.hid (HB.out.trans (hb2.mono (Below.size HB.out)))
                      clear hb2
                      go_wp2_with fail
                      refine (depth_val A n cap f ((b : Int) - 1) a 0 G1.out _ h7 Hok.out (Hr.out.below HQ2.out)).mono ?_; rintro e w3 ⟨rfl, hb3⟩; have hz3 := hb3.size; (try simp at hz3)
                      have HQ3 := Lib.hid (HQ2.out.trans (hb3.mono (Below.size HQ2.out)))
                      clear hb3
                      go_wp2_with fail
                      refine (depth_val A n cap f a b d2 H2.out _ h7 Hok.out (Hr.out.below HQ3.out)).mono ?_; rintro e w4 ⟨rfl, hb4⟩; have hz4 := hb4.size; (try simp at hz4)
                      have HQ4 := Lib.hid (HQ3.out.trans (hb4.mono (Below.size HQ3.out)))
                      clear hb4
                      go_wp2_with fail
                      refine (depth_val A n cap f a ((b : Int) - 1) e2 G2.out _ h7 Hok.out (Hr.out.below HQ4.out)).mono ?_; rintro e w5 ⟨rfl, hb5⟩; have hz5 := hb5.size; (try simp at hz5)
                      have HQ5 := Lib.hid (HQ4.out.trans (hb5.mono (Below.size HQ4.out)))
                      clear hb5
                      go_wp2
                      go_roundw
                      case rel => exact ⟨b + 1, by omega, by go_num, by rw [HS1.out, h1, k1]; simp [one, h0]; try omega, by rw [HS2.out, h2, k2]; simp [one, h0]; try omega, HQ5.out⟩
                      case measure => simp [intOf]; omega
                · cases h2 : uniB f n a b
                  · skip
                    obtain ⟨d1, hd1, hp1, hq1⟩ := cell_yes h1
                    have H1 := Lib.hid hd1
                    clear hd1
                    obtain ⟨e1, he1, hr1, hs1⟩ := cell_yes k1
                    rw [less_cast h0] at he1
                    have G1 := Lib.hid he1
                    clear he1
                    have H2 := Lib.hid (cell_no h2)
                    go_wp2_with fail
                    refine (depth_val A n cap f b a d1 H1.out _ h7 Hok.out (Hr.out.below HB.out)).mono ?_; rintro e w2 ⟨rfl, hb2⟩; have hz2 := hb2.size; (try simp at hz2)
                    have HQ2 := Lib.hid (HB.out.trans (hb2.mono (Below.size HB.out)))
                    clear hb2
                    go_wp2_with fail
                    refine (depth_val A n cap f ((b : Int) - 1) a e1 G1.out _ h7 Hok.out (Hr.out.below HQ2.out)).mono ?_; rintro e w3 ⟨rfl, hb3⟩; have hz3 := hb3.size; (try simp at hz3)
                    have HQ3 := Lib.hid (HQ2.out.trans (hb3.mono (Below.size HQ2.out)))
                    clear hb3
                    go_wp2_with fail
                    refine (depth_val A n cap f a b 0 H2.out _ h7 Hok.out (Hr.out.below HQ3.out)).mono ?_; rintro e w4 ⟨rfl, hb4⟩; have hz4 := hb4.size; (try simp at hz4)
                    have HQ4 := Lib.hid (HQ3.out.trans (hb4.mono (Below.size HQ3.out)))
                    clear hb4
                    go_wp2
                    go_roundw
                    case rel => exact ⟨b + 1, by omega, by go_num, by rw [HS1.out, h1, k1]; simp [one, h0]; try omega, by rw [HS2.out, h2]; simp [one]; try omega, HQ4.out⟩
                    case measure => simp [intOf]; omega
                  · cases k2 : uniB f n a (b - 1)
                    · skip
                      obtain ⟨d1, hd1, hp1, hq1⟩ := cell_yes h1
                      have H1 := Lib.hid hd1
                      clear hd1
                      obtain ⟨e1, he1, hr1, hs1⟩ := cell_yes k1
                      rw [less_cast h0] at he1
                      have G1 := Lib.hid he1
                      clear he1
                      obtain ⟨d2, hd2, hp2, hq2⟩ := cell_yes h2
                      have H2 := Lib.hid hd2
                      clear hd2
                      have hg2 := cell_no k2
                      rw [less_cast h0] at hg2
                      have G2 := Lib.hid hg2
                      clear hg2
                      go_wp2_with fail
                      refine (depth_val A n cap f b a d1 H1.out _ h7 Hok.out (Hr.out.below HB.out)).mono ?_; rintro e w2 ⟨rfl, hb2⟩; have hz2 := hb2.size; (try simp at hz2)
                      have HQ2 := Lib.hid (HB.out.trans (hb2.mono (Below.size HB.out)))
                      clear hb2
                      go_wp2_with fail
                      refine (depth_val A n cap f ((b : Int) - 1) a e1 G1.out _ h7 Hok.out (Hr.out.below HQ2.out)).mono ?_; rintro e w3 ⟨rfl, hb3⟩; have hz3 := hb3.size; (try simp at hz3)
                      have HQ3 := Lib.hid (HQ2.out.trans (hb3.mono (Below.size HQ2.out)))
                      clear hb3
                      go_wp2_with fail
                      refine (depth_val A n cap f a b d2 H2.out _ h7 Hok.out (Hr.out.below HQ3.out)).mono ?_; rintro e w4 ⟨rfl, hb4⟩; have hz4 := hb4.size; (try simp at hz4)
                      have HQ4 := Lib.hid (HQ3.out.trans (hb4.mono (Below.size HQ3.out)))
                      clear hb4
                      go_wp2_with fail
                      refine (depth_val A n cap f a ((b : Int) - 1) 0 G2.out _ h7 Hok.out (Hr.out.below HQ4.out)).mono ?_; rintro e w5 ⟨rfl, hb5⟩; have hz5 := hb5.size; (try simp at hz5)
                      have HQ5 := Lib.hid (HQ4.out.trans (hb5.mono (Below.size HQ4.out)))
                      clear hb5
                      go_wp2
                      go_roundw
                      case rel => exact ⟨b + 1, by omega, by go_num, by rw [HS1.out, h1, k1]; simp [one, h0]; try omega, by rw [HS2.out, h2, k2]; simp [one, h0]; try omega, HQ5.out⟩
                      case measure => simp [intOf]; omega
                    · skip
                      obtain ⟨d1, hd1, hp1, hq1⟩ := cell_yes h1
                      have H1 := Lib.hid hd1
                      clear hd1
                      obtain ⟨e1, he1, hr1, hs1⟩ := cell_yes k1
                      rw [less_cast h0] at he1
                      have G1 := Lib.hid he1
                      clear he1
                      obtain ⟨d2, hd2, hp2, hq2⟩ := cell_yes h2
                      have H2 := Lib.hid hd2
                      clear hd2
                      obtain ⟨e2, he2, hr2, hs2⟩ := cell_yes k2
                      rw [less_cast h0] at he2
                      have G2 := Lib.hid he2
                      clear he2
                      go_wp2_with fail
                      refine (depth_val A n cap f b a d1 H1.out _ h7 Hok.out (Hr.out.below HB.out)).mono ?_; rintro e w2 ⟨rfl, hb2⟩; have hz2 := hb2.size; (try simp at hz2)
                      have HQ2 := Lib.hid (HB.out.trans (hb2.mono (Below.size HB.out)))
                      clear hb2
                      go_wp2_with fail
                      refine (depth_val A n cap f ((b : Int) - 1) a e1 G1.out _ h7 Hok.out (Hr.out.below HQ2.out)).mono ?_; rintro e w3 ⟨rfl, hb3⟩; have hz3 := hb3.size; (try simp at hz3)
                      have HQ3 := Lib.hid (HQ2.out.trans (hb3.mono (Below.size HQ2.out)))
                      clear hb3
                      go_wp2_with fail
                      refine (depth_val A n cap f a b d2 H2.out _ h7 Hok.out (Hr.out.below HQ3.out)).mono ?_; rintro e w4 ⟨rfl, hb4⟩; have hz4 := hb4.size; (try simp at hz4)
                      have HQ4 := Lib.hid (HQ3.out.trans (hb4.mono (Below.size HQ3.out)))
                      clear hb4
                      go_wp2_with fail
                      refine (depth_val A n cap f a ((b : Int) - 1) e2 G2.out _ h7 Hok.out (Hr.out.below HQ4.out)).mono ?_; rintro e w5 ⟨rfl, hb5⟩; have hz5 := hb5.size; (try simp at hz5)
                      have HQ5 := Lib.hid (HQ4.out.trans (hb5.mono (Below.size HQ4.out)))
                      clear hb5
                      go_wp2
                      go_roundw
                      case rel => exact ⟨b + 1, by omega, by go_num, by rw [HS1.out, h1, k1]; simp [one, h0]; try omega, by rw [HS2.out, h2, k2]; simp [one, h0]; try omega, HQ5.out⟩
                      case measure => simp [intOf]; omega
          · obtain rfl : b = 20 := by omega
            go_wp2
            go_roundw
            case rel => exact ⟨a + 1, by omega, by go_num, by rw [HX.out], by rw [HY.out], HB.out⟩
            case measure => simp [intOf]; omega
      · obtain rfl : a = 20 := by omega
        go_wp2
        refine bodyPost_ret (v := .tuple #[.int .i64 X, .int .i64 Y, .bool true]) (by simp [results, Try.results23, go_sem, *]) rfl ⟨by rw [H.out.1, H.out.2, HXX.out, HYY.out], HBA0.out⟩


theorem srn_val (A : Option Addr) (n cap : Nat) (f : Nat → Rt) (a b : Int) (v : Bool) (h1 : onU runX f n = a) (h2 : onU runY f n = b) (h3 : laidF f n = v) (w : World) (hn : n ≤ maxLen) (hr : Rs w A n f) :
    Calls Try.prog 23 #[.slice A n cap] w fun e w' => e = .returned (.tuple #[.int .i64 a, .int .i64 b, .bool v]) ∧ Below w.heap.size w w' := by
  subst h1 h2 h3; exact srn_any A n cap f w hn hr
theorem ssh_val (A : Option Addr) (n cap : Nat) (f : Nat → Rt) (a b : Int) (v : Bool) (h1 : onU shX f n = a) (h2 : onU shY f n = b) (h3 : laidF f n = v) (w : World) (hn : n ≤ maxLen) (hr : Rs w A n f) :
    Calls Try.prog 13 #[.slice A n cap] w fun e w' => e = .returned (.tuple #[.int .i64 a, .int .i64 b, .bool v]) ∧ Below w.heap.size w w' := by
  subst h1 h2 h3; exact ssh_any A n cap f w hn hr


set_option maxHeartbeats 1000000 in
set_option maxRecDepth 20000 in
theorem sgf_any (A : Option Addr) (n cap : Nat) (f : Nat → Rt) (w : World) (hn : n ≤ maxLen) (hr : Rs w A n f) :
    Calls Try.prog 26 #[.slice A n cap] w fun e w' => e = .returned (.bool (gapF f n)) ∧ Below w.heap.size w w' := by
  have Hn := Lib.hid hn
  have Hr := Lib.hid hr
  clear hn hr
  obtain ⟨X, Y, HX⟩ : ∃ X Y, Hid (onU runX f n = X ∧ onU runY f n = Y) := ⟨_, _, Lib.hid ⟨rfl, rfl⟩⟩
  obtain ⟨a, b, HA⟩ : ∃ a b, Hid (onU shX f n = a ∧ onU shY f n = b) := ⟨_, _, Lib.hid ⟨rfl, rfl⟩⟩
  cases hl : laidF f n
  · have H : Hid (gapF f n = false) := Lib.hid (by unfold gapF; rw [hl]; rfl)
    go_enter Try.func26, Try.ntmps26
    go_wp2_with fail
    refine (srn_val A n cap f X Y false HX.out.1 HX.out.2 hl _ Hn.out Hr.out).mono ?_; rintro e w1 ⟨rfl, hb1⟩; have hz1 := hb1.size; (try simp at hz1)
    have Hr1 := Lib.hid (Hr.out.below hb1)
    go_wp2_with fail
    refine (ssh_val A n cap f a b false HA.out.1 HA.out.2 hl _ Hn.out Hr1.out).mono ?_; rintro e w2 ⟨rfl, hb2⟩; have hz2 := hb2.size; (try simp at hz2)
    go_wp2
    go_ret
    exact ⟨ret_bool (by rw [H.out]), by (repeat (first | with_reducible exact Below.refl _ _ | with_reducible assumption | ((with_reducible refine Below.alloc ?_ ?_ _); rotate_left; focus (first | with_reducible exact Nat.le_refl _ | omega | (simp; done) | (simp; omega))) | ((with_reducible refine Below.setCell ?_ ?_ _); rotate_left; focus (first | with_reducible exact Nat.le_refl _ | omega | (simp; done) | (simp; omega))) | (with_reducible refine Below.drew ?_) | ((with_reducible refine Below.trans ?_ (Below.mono (by with_reducible assumption) ?_)); rotate_left; focus (first | with_reducible exact Nat.le_refl _ | omega | (simp; done) | (simp; omega)))))⟩
  · by_cases e1 : X = b
    · by_cases e2 : Y = a
      · have H : Hid (gapF f n = true) := Lib.hid (by unfold gapF; rw [hl, HX.out.1, HX.out.2, HA.out.1, HA.out.2, e1, e2]; simp)
        subst e1 e2
        go_enter Try.func26, Try.ntmps26
        go_wp2_with fail
        refine (srn_val A n cap f X Y true HX.out.1 HX.out.2 hl _ Hn.out Hr.out).mono ?_; rintro e w1 ⟨rfl, hb1⟩; have hz1 := hb1.size; (try simp at hz1)
        have Hr1 := Lib.hid (Hr.out.below hb1)
        go_wp2_with fail
        refine (ssh_val A n cap f Y X true HA.out.1 HA.out.2 hl _ Hn.out Hr1.out).mono ?_; rintro e w2 ⟨rfl, hb2⟩; have hz2 := hb2.size; (try simp at hz2)
        go_wp2
        go_ret
        exact ⟨ret_bool (by rw [H.out]), by (repeat (first | with_reducible exact Below.refl _ _ | with_reducible assumption | ((with_reducible refine Below.alloc ?_ ?_ _); rotate_left; focus (first | with_reducible exact Nat.le_refl _ | omega | (simp; done) | (simp; omega))) | ((with_reducible refine Below.setCell ?_ ?_ _); rotate_left; focus (first | with_reducible exact Nat.le_refl _ | omega | (simp; done) | (simp; omega))) | (with_reducible refine Below.drew ?_) | ((with_reducible refine Below.trans ?_ (Below.mono (by with_reducible assumption) ?_)); rotate_left; focus (first | with_reducible exact Nat.le_refl _ | omega | (simp; done) | (simp; omega)))))⟩
      · have H : Hid (gapF f n = false) := Lib.hid (by unfold gapF; rw [hl, HX.out.1, HX.out.2, HA.out.1, HA.out.2, decide_eq_false e2]; simp)
        have h2 : (Y == a) = false := by simpa using e2
        subst e1
        clear e2
        go_enter Try.func26, Try.ntmps26
        go_wp2_with fail
        refine (srn_val A n cap f X Y true HX.out.1 HX.out.2 hl _ Hn.out Hr.out).mono ?_; rintro e w1 ⟨rfl, hb1⟩; have hz1 := hb1.size; (try simp at hz1)
        have Hr1 := Lib.hid (Hr.out.below hb1)
        go_wp2_with fail
        refine (ssh_val A n cap f a X true HA.out.1 HA.out.2 hl _ Hn.out Hr1.out).mono ?_; rintro e w2 ⟨rfl, hb2⟩; have hz2 := hb2.size; (try simp at hz2)
        go_wp2
        go_ret
        exact ⟨ret_bool (by rw [H.out]), by (repeat (first | with_reducible exact Below.refl _ _ | with_reducible assumption | ((with_reducible refine Below.alloc ?_ ?_ _); rotate_left; focus (first | with_reducible exact Nat.le_refl _ | omega | (simp; done) | (simp; omega))) | ((with_reducible refine Below.setCell ?_ ?_ _); rotate_left; focus (first | with_reducible exact Nat.le_refl _ | omega | (simp; done) | (simp; omega))) | (with_reducible refine Below.drew ?_) | ((with_reducible refine Below.trans ?_ (Below.mono (by with_reducible assumption) ?_)); rotate_left; focus (first | with_reducible exact Nat.le_refl _ | omega | (simp; done) | (simp; omega)))))⟩
    · have H : Hid (gapF f n = false) := Lib.hid (by unfold gapF; rw [hl, HX.out.1, HX.out.2, HA.out.1, HA.out.2, decide_eq_false e1]; simp)
      have h1 : (X == b) = false := by simpa using e1
      clear e1
      go_enter Try.func26, Try.ntmps26
      go_wp2_with fail
      refine (srn_val A n cap f X Y true HX.out.1 HX.out.2 hl _ Hn.out Hr.out).mono ?_; rintro e w1 ⟨rfl, hb1⟩; have hz1 := hb1.size; (try simp at hz1)
      have Hr1 := Lib.hid (Hr.out.below hb1)
      go_wp2_with fail
      refine (ssh_val A n cap f a b true HA.out.1 HA.out.2 hl _ Hn.out Hr1.out).mono ?_; rintro e w2 ⟨rfl, hb2⟩; have hz2 := hb2.size; (try simp at hz2)
      go_wp2
      go_ret
      exact ⟨ret_bool (by rw [H.out]), by (repeat (first | with_reducible exact Below.refl _ _ | with_reducible assumption | ((with_reducible refine Below.alloc ?_ ?_ _); rotate_left; focus (first | with_reducible exact Nat.le_refl _ | omega | (simp; done) | (simp; omega))) | ((with_reducible refine Below.setCell ?_ ?_ _); rotate_left; focus (first | with_reducible exact Nat.le_refl _ | omega | (simp; done) | (simp; omega))) | (with_reducible refine Below.drew ?_) | ((with_reducible refine Below.trans ?_ (Below.mono (by with_reducible assumption) ?_)); rotate_left; focus (first | with_reducible exact Nat.le_refl _ | omega | (simp; done) | (simp; omega)))))⟩
theorem sgf_val (A : Option Addr) (n cap : Nat) (f : Nat → Rt) (v : Bool) (h : gapF f n = v) (w : World) (hn : n ≤ maxLen) (hr : Rs w A n f) :
    Calls Try.prog 26 #[.slice A n cap] w fun e w' => e = .returned (.bool v) ∧ Below w.heap.size w w' := h ▸ sgf_any A n cap f w hn hr

end Go.Proofs.Ytfdkkkdijgmbbaa
