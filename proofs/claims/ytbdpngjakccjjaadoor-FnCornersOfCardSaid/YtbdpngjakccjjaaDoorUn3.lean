
/- Chapter 2: UnionArea of spec; the exact law's walk. -/
import Derived.Test.YtbdpngjakccjjaaDoorUn2
import Derived.Test.YtbdpngjakccjjaaDoorRectC
namespace Go.Proofs.YtbdpngjakccjjaaDoor
open Go.RowKit Go.Sort
set_option linter.unusedVariables false
def depF (f : Nat → Rt) (x y : Int) : Nat → Int
  | 0 => 0
  | k + 1 => depF f x y k + one (hasB (f k) x y)
theorem depF_bd (f : Nat → Rt) (x y : Int) (k : Nat) : 0 ≤ depF f x y k ∧ depF f x y k ≤ k := by
  induction k with
  | zero => simp [depF]
  | succ k ih => simp only [depF]; have := one_nonneg (hasB (f k) x y); have := one_le (hasB (f k) x y); omega
theorem depF_any (f : Nat → Rt) (x y : Int) (k : Nat) : decide (0 < depF f x y k) = anyTo f x y k := by
  induction k with
  | zero => rfl
  | succ k ih =>
    simp only [depF, anyTo]
    rw [← ih]
    have := depF_bd f x y k
    have e : ∀ b : Bool, decide (0 < depF f x y k + one b) = (decide (0 < depF f x y k) || b) := by
      intro b; cases b <;> simp [one] <;> omega
    exact e _
theorem hasB_in (r : Rt) (x y : Int) : hasB r x y = (inB x r.l (r.r - 1) && inB y r.o (r.h - 1)) := by
  rw [Bool.eq_iff_iff, Bool.and_eq_true, hasB_iff, inB_iff, inB_iff]; omega
theorem in_val (n lo hi : Int) (v : Bool) (h : inB n lo hi = v) (w : World) :
    Calls Tryd.prog 51 #[.int .i64 n, .int .i64 lo, .int .i64 hi] w fun e w' => e = .returned (.bool v) ∧ Below w.heap.size w w' :=
  (in_any n lo hi w).mono fun _ _ hh => ⟨h ▸ hh.1, hh.2 ▸ Below.refl _ _⟩

set_option maxHeartbeats 1000000 in
theorem depth_any (A : Option Addr) (n cap : Nat) (f : Nat → Rt) (x y : Int) (w : World) (h7 : n ≤ 7) (hok : okTo f n = true) (hr : Rs w A n f) :
    Calls Tryd.prog 46 #[.slice A n cap, .int .i64 x, .int .i64 y] w fun e w' => e = .returned (.int .i64 (depF f x y n)) ∧ Below w.heap.size w w' := by
  have Hr := Lib.hid hr
  have Hok := Lib.hid hok
  clear hr hok
  go_enter Tryd.func46, Tryd.ntmps46
  go_wp2
  go_loopw [7, 8] (fun d i wr => ∃ k : Nat, k ≤ n ∧ i = .int .i64 k ∧ d = .int .i64 (depF f x y k) ∧ Below w.heap.size w wr) (fun _ i _ => n - (intOf i).toNat)
  case atStart => exact ⟨0, Nat.zero_le _, rfl, rfl, Below.refl _ _⟩
  case round =>
    obtain ⟨k, hk, rfl, rfl, hbr⟩ := hrel
    have hzr := hbr.size
    obtain ⟨bd1, bd2⟩ := depF_bd f x y k
    by_cases hlt : k < n
    · obtain ⟨b, off, rfl, hbl, c0, c1, c2, c3⟩ := (Hr.out.below hbr).at_ hlt
      obtain ⟨⟨o1, o2, o3⟩, o4, o5, o6⟩ := okB_iff.1 (okTo_le Hok.out hlt)
      cases h1 : inB x (f k).l ((f k).r - 1)
      · go_wp2_with fail
        have hq : True := trivial; have hq := fun d os o => (below_regrown wr d os).cell (p := ⟨b, o, none⟩) (by first | (simp; done) | omega | (simp; omega)); refine wp_region_quiet_below (by kernel_rfl) (by kernel_rfl) ?_; (repeat (first | go_big_quiet_step (exact Calls.regrown_of (in_val _ _ _ _ (by assumption) _)) | quiet_step (exact Calls.regrown_of (in_val _ _ _ _ (by assumption) _)))); refine wpQuiet_nil ?_; intro _ hw'; obtain ⟨⟨dq, osq⟩, hw''⟩ := hw'; subst hw''; clear hq; have hb1 := below_regrown wr dq osq; generalize Sort.grow (redrawn wr dq) osq = w1 at hb1 ⊢; have hz1 := hb1.size; (try simp at hz1); have _ : b < w1.heap.size := (by first | (simp; done) | omega | (simp; omega)); have _ := fun o => hb1.cell (p := ⟨b, o, none⟩) (by first | (simp; done) | omega | (simp; omega))
        go_wp2
        go_roundw
        case rel => exact ⟨k + 1, by omega, by go_num, by simp only [depF]; rw [hasB_in, h1]; simp [one], by (repeat (first | with_reducible exact Below.refl _ _ | with_reducible assumption | ((with_reducible refine Below.alloc ?_ ?_ _); rotate_left; focus (first | with_reducible exact Nat.le_refl _ | omega | (simp; done) | (simp; omega))) | ((with_reducible refine Below.setCell ?_ ?_ _); rotate_left; focus (first | with_reducible exact Nat.le_refl _ | omega | (simp; done) | (simp; omega))) | (with_reducible refine Below.drew ?_) | ((with_reducible refine Below.trans ?_ (Below.mono (by with_reducible assumption) ?_)); rotate_left; focus (first | with_reducible exact Nat.le_refl _ | omega | (simp; done) | (simp; omega)))))⟩
        case measure => simp [intOf]; omega
      · cases h2 : inB y (f k).o ((f k).h - 1)
        · go_wp2_with fail
          have hq : True := trivial; have hq := fun d os o => (below_regrown wr d os).cell (p := ⟨b, o, none⟩) (by first | (simp; done) | omega | (simp; omega)); refine wp_region_quiet_below (by kernel_rfl) (by kernel_rfl) ?_; (repeat (first | go_big_quiet_step (exact Calls.regrown_of (in_val _ _ _ _ (by assumption) _)) | quiet_step (exact Calls.regrown_of (in_val _ _ _ _ (by assumption) _)))); refine wpQuiet_nil ?_; intro _ hw'; obtain ⟨⟨dq, osq⟩, hw''⟩ := hw'; subst hw''; clear hq; have hb1 := below_regrown wr dq osq; generalize Sort.grow (redrawn wr dq) osq = w1 at hb1 ⊢; have hz1 := hb1.size; (try simp at hz1); have _ : b < w1.heap.size := (by first | (simp; done) | omega | (simp; omega)); have _ := fun o => hb1.cell (p := ⟨b, o, none⟩) (by first | (simp; done) | omega | (simp; omega))
          go_wp2
          go_roundw
          case rel => exact ⟨k + 1, by omega, by go_num, by simp only [depF]; rw [hasB_in, h1, h2]; simp [one], by (repeat (first | with_reducible exact Below.refl _ _ | with_reducible assumption | ((with_reducible refine Below.alloc ?_ ?_ _); rotate_left; focus (first | with_reducible exact Nat.le_refl _ | omega | (simp; done) | (simp; omega))) | ((with_reducible refine Below.setCell ?_ ?_ _); rotate_left; focus (first | with_reducible exact Nat.le_refl _ | omega | (simp; done) | (simp; omega))) | (with_reducible refine Below.drew ?_) | ((with_reducible refine Below.trans ?_ (Below.mono (by with_reducible assumption) ?_)); rotate_left; focus (first | with_reducible exact Nat.le_refl _ | omega | (simp; done) | (simp; omega)))))⟩
          case measure => simp [intOf]; omega
        · go_wp2_with fail
          have hq : True := trivial; have hq := fun d os o => (below_regrown wr d os).cell (p := ⟨b, o, none⟩) (by first | (simp; done) | omega | (simp; omega)); refine wp_region_quiet_below (by kernel_rfl) (by kernel_rfl) ?_; (repeat (first | go_big_quiet_step (exact Calls.regrown_of (in_val _ _ _ _ (by assumption) _)) | quiet_step (exact Calls.regrown_of (in_val _ _ _ _ (by assumption) _)))); refine wpQuiet_nil ?_; intro _ hw'; obtain ⟨⟨dq, osq⟩, hw''⟩ := hw'; subst hw''; clear hq; have hb1 := below_regrown wr dq osq; generalize Sort.grow (redrawn wr dq) osq = w1 at hb1 ⊢; have hz1 := hb1.size; (try simp at hz1); have _ : b < w1.heap.size := (by first | (simp; done) | omega | (simp; omega)); have _ := fun o => hb1.cell (p := ⟨b, o, none⟩) (by first | (simp; done) | omega | (simp; omega))
          go_wp2
          go_roundw
          case rel => exact ⟨k + 1, by omega, by go_num, by simp only [depF]; rw [hasB_in, h1, h2]; rfl, by (repeat (first | with_reducible exact Below.refl _ _ | with_reducible assumption | ((with_reducible refine Below.alloc ?_ ?_ _); rotate_left; focus (first | with_reducible exact Nat.le_refl _ | omega | (simp; done) | (simp; omega))) | ((with_reducible refine Below.setCell ?_ ?_ _); rotate_left; focus (first | with_reducible exact Nat.le_refl _ | omega | (simp; done) | (simp; omega))) | (with_reducible refine Below.drew ?_) | ((with_reducible refine Below.trans ?_ (Below.mono (by with_reducible assumption) ?_)); rotate_left; focus (first | with_reducible exact Nat.le_refl _ | omega | (simp; done) | (simp; omega)))))⟩
          case measure => simp [intOf]; omega
    · have hkn : k = n := by omega
      subst hkn
      go_wp2
      go_ret
      exact ⟨rfl, hbr⟩

def cellF (f : Nat → Rt) (n y x : Nat) : Int := one (anyTo f x y n)
def rowF (f : Nat → Rt) (n y : Nat) : Int := sumN 20 (cellF f n y)
theorem cellF_bd (f : Nat → Rt) (n y k : Nat) : 0 ≤ sumN k (cellF f n y) ∧ sumN k (cellF f n y) ≤ k := by
  induction k with
  | zero => simp [sumN]
  | succ k ih => simp only [sumN]; have := one_nonneg (anyTo f k y n); have := one_le (anyTo f k y n); unfold cellF at *; omega
theorem rowF_bd (f : Nat → Rt) (n k : Nat) : 0 ≤ sumN k (rowF f n) ∧ sumN k (rowF f n) ≤ 20 * k := by
  induction k with
  | zero => simp [sumN]
  | succ k ih => simp only [sumN]; have h := cellF_bd f n k 20; unfold rowF at *; omega
theorem uaF_yes (f : Nat → Rt) (n : Nat) (h : laidF f n = true) : uaF f n = sumN 20 (rowF f n) := by unfold uaF; rw [h]; rfl
theorem depth_val (A : Option Addr) (n cap : Nat) (f : Nat → Rt) (x y : Int) (d : Int) (hd : depF f x y n = d) (w : World) (h7 : n ≤ 7) (hok : okTo f n = true) (hr : Rs w A n f) :
    Calls Tryd.prog 46 #[.slice A n cap, .int .i64 x, .int .i64 y] w fun e w' => e = .returned (.int .i64 d) ∧ Below w.heap.size w w' := hd ▸ depth_any A n cap f x y w h7 hok hr
end Go.Proofs.YtbdpngjakccjjaaDoor
