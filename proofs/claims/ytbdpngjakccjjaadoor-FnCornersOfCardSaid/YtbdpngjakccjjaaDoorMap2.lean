
/- Chapter 4 of spec: OutlineOf, CornersOf. -/
import Derived.Test.YtbdpngjakccjjaaDoorMap
namespace Go.Proofs.YtbdpngjakccjjaaDoor
open Go.RowKit Go.Sort
set_option linter.unusedVariables false
set_option linter.unusedSimpArgs false
/-- The outline, -1 for others. -/
def olF (f : Nat → Rt) (n : Nat) : Int := if laidF f n then outl (mapG f n) else -1
theorem ne_one (p q : Bool) : one (p != q) = if one p = one q then 0 else 1 := by cases p <;> cases q <;> decide
theorem sides_bd (G : Nat → Bool) (k : Nat) : 0 ≤ sides G k ∧ sides G k ≤ 2 := by
  unfold sides
  have := one_nonneg (G k != G (k + 1))
  have := one_le (G k != G (k + 1))
  have := one_nonneg (G k != G (k + 22))
  have := one_le (G k != G (k + 22))
  split <;> omega
theorem sides_sum_bd (G : Nat → Bool) (k : Nat) : 0 ≤ sumN k (sides G) ∧ sumN k (sides G) ≤ 2 * k := by
  induction k with
  | zero => simp [sumN]
  | succ k ih => simp only [sumN]; have := sides_bd G k; omega

def rowAt (g : Nat → Int) (y x : Nat) : Int := sumN x (fun i => g (22 * y + i))
def rowsAt (g : Nat → Int) (y : Nat) : Int := sumN y (fun j => rowAt g j 21)
theorem outAt_bd (G : Nat → Bool) (a : Nat) : 0 ≤ outAt G a ∧ outAt G a ≤ 2 := by
  unfold outAt; cases G a <;> cases G (a + 1) <;> cases G (a + 22) <;> cases G (a + 23) <;> decide
theorem inAt_bd (G : Nat → Bool) (a : Nat) : 0 ≤ inAt G a ∧ inAt G a ≤ 2 := by
  unfold inAt; cases G a <;> cases G (a + 1) <;> cases G (a + 22) <;> cases G (a + 23) <;> decide
theorem rowAt_bd {g : Nat → Int} (h : ∀ a, 0 ≤ g a ∧ g a ≤ 2) (y x : Nat) : 0 ≤ rowAt g y x ∧ rowAt g y x ≤ 2 * x := by
  unfold rowAt
  induction x with
  | zero => simp [sumN]
  | succ x ih => simp only [sumN]; have := h (22 * y + x); omega
theorem rowsAt_bd {g : Nat → Int} (h : ∀ a, 0 ≤ g a ∧ g a ≤ 2) (y : Nat) : 0 ≤ rowsAt g y ∧ rowsAt g y ≤ 42 * y := by
  unfold rowsAt
  induction y with
  | zero => simp [sumN]
  | succ y ih => simp only [sumN]; have := rowAt_bd h y 21; omega
/-- How many corners point out, and in; -1 for others. -/
def coF (f : Nat → Rt) (n : Nat) : Int := if laidF f n then rowsAt (outAt (mapG f n)) 21 else -1
def ciF (f : Nat → Rt) (n : Nat) : Int := if laidF f n then rowsAt (inAt (mapG f n)) 21 else -1
set_option maxHeartbeats 8000000 in
set_option maxRecDepth 100000 in
theorem sco_any (A : Option Addr) (n cap : Nat) (f : Nat → Rt) (w : World) (hn : n ≤ maxLen) (hr : Rs w A n f) :
    Calls Tryd.prog 10 #[.slice A n cap] w fun e w' => e = .returned (.tuple #[.int .i64 (coF f n), .int .i64 (ciF f n), .bool (laidF f n)]) ∧ Below w.heap.size w w' := by
  have Hn := Lib.hid hn
  have Hr := Lib.hid hr
  clear hn hr
  cases hl : laidF f n
  · have H : Hid (coF f n = -1 ∧ ciF f n = -1) := Lib.hid (by unfold coF ciF; rw [hl]; exact ⟨rfl, rfl⟩)
    go_enter Tryd.func10, Tryd.ntmps10
    go_wp2_with fail
    refine (slaid_val A n cap f false hl _ Hn.out Hr.out).mono ?_; rintro e w1 ⟨rfl, hb1⟩; have hz1 := hb1.size; (try simp at hz1)
    go_wp2
    refine bodyPost_ret (v := .tuple #[.int .i64 (-1), .int .i64 (-1), .bool false]) (by simp (maxDischargeDepth := 8) [results, Tryd.results10, go_sem, *]) rfl ⟨?_, by (repeat (first | with_reducible exact Below.refl _ _ | with_reducible assumption | ((with_reducible refine Below.alloc ?_ ?_ _); rotate_left; focus (first | with_reducible exact Nat.le_refl _ | omega | (simp; done) | (simp; omega))) | ((with_reducible refine Below.setCell ?_ ?_ _); rotate_left; focus (first | with_reducible exact Nat.le_refl _ | omega | (simp; done) | (simp; omega))) | (with_reducible refine Below.drew ?_) | ((with_reducible refine Below.trans ?_ (Below.mono (by with_reducible assumption) ?_)); rotate_left; focus (first | with_reducible exact Nat.le_refl _ | omega | (simp; done) | (simp; omega)))))⟩
    rw [H.out.1, H.out.2]
  · have H : Hid (coF f n = rowsAt (outAt (mapG f n)) 21 ∧ ciF f n = rowsAt (inAt (mapG f n)) 21) := Lib.hid (by unfold coF ciF; rw [hl]; exact ⟨rfl, rfl⟩)
    go_enter Tryd.func10, Tryd.ntmps10
    go_wp2_with fail
    refine (slaid_val A n cap f true hl _ Hn.out Hr.out).mono ?_; rintro e w1 ⟨rfl, hb1⟩; have hz1 := hb1.size; (try simp at hz1)
    have Hr1 := Lib.hid (Hr.out.below hb1)
    have Hb1 := Lib.hid hb1
    clear hb1
    go_wp2_with fail
    refine (smap_any A n cap f _ hl Hr1.out).mono ?_; rintro e w2 ⟨g, rfl, hI, hg, hb2⟩
    have HI := Lib.hid hI
    have HB2 : Hid (Below w.heap.size w w2) := Lib.hid (Hb1.out.trans (hb2.mono (by omega)))
    clear hI hb2
    have hsz2 : w.heap.size ≤ w2.heap.size := HB2.out.size
    go_wp2
    go_loopw [7, 8, 9] (fun s t i wr => ∃ k : Nat, k ≤ 21 ∧ i = .int .i64 k ∧ s = .int .i64 (rowsAt (outAt (mapG f n)) k) ∧ t = .int .i64 (rowsAt (inAt (mapG f n)) k) ∧ Below w2.heap.size w2 wr) (fun _ _ i _ => 21 - (intOf i).toNat)
    case atStart => exact ⟨0, Nat.zero_le _, rfl, rfl, rfl, Below.refl _ _⟩
    case round =>
      obtain ⟨k, hk0, rfl, rfl, rfl, hbr⟩ := hrel
      have HB := Lib.hid hbr
      clear hbr
      have HS : Hid (rowsAt (outAt (mapG f n)) (k + 1) = rowsAt (outAt (mapG f n)) k + rowAt (outAt (mapG f n)) k 21 ∧ rowsAt (inAt (mapG f n)) (k + 1) = rowsAt (inAt (mapG f n)) k + rowAt (inAt (mapG f n)) k 21) := Lib.hid ⟨rfl, rfl⟩
      obtain ⟨s1, s2⟩ := rowsAt_bd (outAt_bd (mapG f n)) k
      obtain ⟨t1, t2⟩ := rowsAt_bd (inAt_bd (mapG f n)) k
      generalize hO : rowsAt (outAt (mapG f n)) k = O at s1 s2 HS
      generalize hV : rowsAt (inAt (mapG f n)) k = V at t1 t2 HS
      have HO := Lib.hid hO
      have HV := Lib.hid hV
      clear hO hV
      by_cases hlt : k < 21
      · have hk21 : (k : Int) + 1 < 22 := by omega
        go_wp2
        obtain ⟨wo, ho⟩ : ∃ wo : World, wo = wr := ⟨_, rfl⟩
        go_loopw [7, 8, 10] (fun s t i wi => ∃ j : Nat, j ≤ 21 ∧ i = .int .i64 j ∧ s = .int .i64 (O + rowAt (outAt (mapG f n)) k j) ∧ t = .int .i64 (V + rowAt (inAt (mapG f n)) k j) ∧ Below w2.heap.size w2 wi) (fun _ _ i _ => 21 - (intOf i).toNat)
        case atStart => exact ⟨0, Nat.zero_le _, rfl, by show _ = Value.int _ (O + 0); rw [Int.add_zero], by show _ = Value.int _ (V + 0); rw [Int.add_zero], HB.out⟩
        case round =>
          obtain ⟨j, hj, rfl, rfl, rfl, hbi⟩ := hrel
          have HBI := Lib.hid hbi
          clear hbi
          obtain ⟨p1, p2⟩ := rowAt_bd (outAt_bd (mapG f n)) k j
          obtain ⟨q1, q2⟩ := rowAt_bd (inAt_bd (mapG f n)) k j
          have HS2 : Hid (rowAt (outAt (mapG f n)) k (j + 1) = rowAt (outAt (mapG f n)) k j + outAt (mapG f n) (22 * k + j) ∧ rowAt (inAt (mapG f n)) k (j + 1) = rowAt (inAt (mapG f n)) k j + inAt (mapG f n) (22 * k + j)) := Lib.hid ⟨rfl, rfl⟩
          generalize hP : rowAt (outAt (mapG f n)) k j = P at p1 p2 HS2
          generalize hQ : rowAt (inAt (mapG f n)) k j = Q at q1 q2 HS2
          have HP := Lib.hid hP
          have HQ := Lib.hid hQ
          clear hP hQ
          by_cases hlt2 : j < 21
          · have hj21 : (j : Int) + 1 < 22 := by omega
            have hI3 := HI.out.below HBI.out
            obtain ⟨c0, _, _⟩ := hI3.c4 (show k * 22 + j < 484 by omega)
            obtain ⟨c1, _, _⟩ := hI3.c4 (show k * 22 + j + 1 < 484 by omega)
            obtain ⟨c2, _, _⟩ := hI3.c4 (show k * 22 + j + 22 < 484 by omega)
            obtain ⟨c3, _, _⟩ := hI3.c4 (show k * 22 + j + 22 + 1 < 484 by omega)
            have HO2 : Hid (outAt (mapG f n) (22 * k + j) = outB (mapG f n (k * 22 + j)) (mapG f n (k * 22 + j + 1)) (mapG f n (k * 22 + j + 22)) (mapG f n (k * 22 + j + 22 + 1))) := Lib.hid (by unfold outAt; rw [show 22 * k + j = k * 22 + j by omega])
            have HV2 : Hid (inAt (mapG f n) (22 * k + j) = inwB (mapG f n (k * 22 + j)) (mapG f n (k * 22 + j + 1)) (mapG f n (k * 22 + j + 22)) (mapG f n (k * 22 + j + 22 + 1))) := Lib.hid (by unfold inAt; rw [show 22 * k + j = k * 22 + j by omega])
            generalize mapG f n (k * 22 + j) = g0 at c0 HO2 HV2
            generalize mapG f n (k * 22 + j + 1) = g1 at c1 HO2 HV2
            generalize mapG f n (k * 22 + j + 22) = g2 at c2 HO2 HV2
            generalize mapG f n (k * 22 + j + 22 + 1) = g3 at c3 HO2 HV2
            have i0 : (k : Int) * 22 + j < 484 := by omega
            have i1 : (k : Int) * 22 + j + 1 < 484 := by omega
            have i2 : (k : Int) * 22 + j + 22 < 484 := by omega
            have i3 : (k : Int) * 22 + j + 22 + 1 < 484 := by omega
            clear hI3
            cases g0 <;> cases g1 <;> cases g2 <;> cases g3 <;> simp only [one, if_true, Bool.false_eq_true, if_false] at c0 c1 c2 c3
            all_goals
              go_wp2_with fail
              go_quiet (fail)
              go_wp2_with fail
              try (go_quiet (fail); go_wp2)
              go_roundw
              case rel => exact ⟨j + 1, by omega, by go_num, by rw [HS2.out.1, HO2.out]; congr 1; (try simp [outB, inwB, one]); (try omega), by rw [HS2.out.2, HV2.out]; congr 1; (try simp [outB, inwB, one]); (try omega), by first | exact bel_drewN (bel_drewN HBI.out _) _ | exact bel_drewN HBI.out _⟩
              case measure => simp [intOf]; omega
          · have hjn : j = 21 := by omega
            subst hjn
            go_wp2
            go_roundw
            case rel => exact ⟨k + 1, by omega, by go_num, by rw [HS.out.1, HP.out], by rw [HS.out.2, HQ.out], HBI.out⟩
            case measure => simp [intOf]; omega
      · have hkn : k = 21 := by omega
        subst hkn
        go_wp2
        refine bodyPost_ret (v := .tuple #[.int .i64 O, .int .i64 V, .bool true]) (by simp (maxDischargeDepth := 8) [results, Tryd.results10, go_sem, *]) rfl ⟨?_, HB2.out.trans (HB.out.mono hsz2)⟩
        rw [H.out.1, H.out.2, HO.out, HV.out]
end Go.Proofs.YtbdpngjakccjjaaDoor
