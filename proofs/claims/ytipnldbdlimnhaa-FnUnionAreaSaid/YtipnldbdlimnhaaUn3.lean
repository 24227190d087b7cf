
/- Chapter 2: UnionArea of spec; the exact law's walk. -/
import Derived.Test.YtipnldbdlimnhaaUn2
import Derived.Test.YtipnldbdlimnhaaRectC
namespace Go.Proofs.Ytipnldbdlimnhaa
open Go.RowKit Go.Sort
set_option linter.unusedVariables false
def depF (f : Nat → Rt) (x y : Int) : Nat → Int
  | 0 => 0
  | k + 1 => depF f x y k + one (hasB (f k) x y)
theorem depF_bd (f : Nat → Rt) (x y : Int) (k : Nat) : 0 ≤ depF f x y k ∧ depF f x y k ≤ k := by
  induction k with
  | zero => simp [depF]
  | succ k ih => simp only [depF]; have := one_nonneg (hasB (f k) x y); have := one_le (hasB (f k) x y); omega
theorem depF_any (f : Nat → Rt) (x y : Int) (k : Nat) : decide (0 < depF f x y k) = anyTo f x y k := by
  induction k with
  | zero => rfl
  | succ k ih =>
    simp only [depF, anyTo]
    rw [← ih]
    have := depF_bd f x y k
    have e : ∀ b : Bool, decide (0 < depF f x y k + one b) = (decide (0 < depF f x y k) || b) := by
      intro b; cases b <;> simp [one] <;> omega
    exact e _
theorem hasB_in (r : Rt) (x y : Int) : hasB r x y = (inB x r.l (r.r - 1) && inB y r.o (r.h - 1)) := by
  rw [Bool.eq_iff_iff, Bool.and_eq_true, hasB_iff, inB_iff, inB_iff]; omega
theorem in_val (n lo hi : Int) (v : Bool) (h : inB n lo hi = v) (w : World) :
    Calls Try.prog 65 #[.int .i64 n, .int .i64 lo, .int .i64 hi] w fun e w' => e = .returned (.bool v) ∧ Below w.heap.size w w' :=
  (in_any n lo hi w).mono fun _ _ hh => ⟨h ▸ hh.1, hh.2 ▸ Below.refl _ _⟩

set_option maxHeartbeats 1000000 in
theorem depth_any (A : Option Addr) (n cap : Nat) (f : Nat → Rt) (x y : Int) (w : World) (h7 : n ≤ 7) (hok : okTo f n = true) (hr : Rs w A n f) :
    Calls Try.prog 48 #[.slice A n cap, .int .i64 x, .int .i64 y] w fun e w' => e = .returned (.int .i64 (depF f x y n)) ∧ Below w.heap.size w w' := by
  have Hr := Lib.hid hr
  have Hok := Lib.hid hok
  clear hr hok
  go_enter Try.func48, Try.ntmps48
  go_wp2
  go_loopw [7, 8] (fun d i wr => ∃ k : Nat, k ≤ n ∧ i = .int .i64 k ∧ d = .int .i64 (depF f x y k) ∧ Below w.heap.size w wr) (fun _ i _ => n - (intOf i).toNat)
  case atStart => exact ⟨0, Nat.zero_le _, rfl, rfl, Below.refl _ _⟩
  case round =>
    obtain ⟨k, hk, rfl, rfl, hbr⟩ := hrel
    have hzr := hbr.size
    obtain ⟨bd1, bd2⟩ := depF_bd f x y k
    by_cases hlt : k < n
    · obtain ⟨b, off, rfl, hbl, c0, c1, c2, c3⟩ := (Hr.out.below hbr).at_ hlt
      obtain ⟨⟨o1, o2, o3⟩, o4, o5, o6⟩ := okB_iff.1 (okTo_le Hok.out hlt)
      cases h1 : inB x (f k).l ((f k).r - 1)
      · go_wp2_with fail
        have hq : True := trivial; have hq := fun d os o => (below_regrown wr d os).cell (p := ⟨b, o, none⟩) (by first | (simp; done) | omega | (simp; omega)); refine wp_region_quiet_below (by kernel_rfl) (by kernel_rfl) ?_; (repeat (first | go_big_quiet_step (exact Calls.regrown_of (in_val _ _ _ _ (by assumption) _)) | quiet_step (exact Calls.regrown_of (in_val _ _ _ _ (by assumption) _)))); refine wpQuiet_nil ?_; intro _ hw'; obtain ⟨⟨dq, osq⟩, hw''⟩ := hw'; subst hw''; clear hq; have hb1 := below_regrown wr dq osq; generalize Sort.grow (redrawn wr dq) osq = w1 at hb1 ⊢; have hz1 := hb1.size; (try simp at hz1); have _ : b < w1.heap.size := (by first | (simp; done) | omega | (simp; omega)); have _ := fun o => hb1.cell (p := ⟨b, o, none⟩) (by first | (simp; done) | omega | (simp; omega))
        go_wp2
        go_roundw
        case rel => exact ⟨k + 1, by omega, by go_num, by simp only [depF]; rw [hasB_in, h1]; simp [one], by (repeat (first | with_reducible exact Below.refl _ _ | with_reducible assumption | ((with_reducible refine Below.alloc ?_ ?_ _); rotate_left; focus (first | with_reducible exact Nat.le_refl _ | omega | (simp; done) | (simp; omega))) | ((with_reducible refine Below.setCell ?_ ?_ _); rotate_left; focus (first | with_reducible exact Nat.le_refl _ | omega | (simp; done) | (simp; omega))) | (with_reducible refine Below.drew ?_) | ((with_reducible refine Below.trans ?_ (Below.mono (by with_reducible assumption) ?_)); rotate_left; focus (first | with_reducible exact Nat.le_refl _ | omega | (simp; done) | (simp; omega)))))⟩
        case measure => simp [intOf]; omega
      · cases h2 : inB y (f k).o ((f k).h - 1)
        · go_wp2_with fail
          have hq : True := trivial; have hq := fun d os o => (below_regrown wr d os).cell (p := ⟨b, o, none⟩) (by first | (simp; done) | omega | (simp; omega)); refine wp_region_quiet_below (by kernel_rfl) (by kernel_rfl) ?_; (repeat (first | go_big_quiet_step (exact Calls.regrown_of (in_val _ _ _ _ (by assumption) _)) | quiet_step (exact Calls.regrown_of (in_val _ _ _ _ (by assumption) _)))); refine wpQuiet_nil ?_; intro _ hw'; obtain ⟨⟨dq, osq⟩, hw''⟩ := hw'; subst hw''; clear hq; have hb1 := below_regrown wr dq osq; generalize Sort.grow (redrawn wr dq) osq = w1 at hb1 ⊢; have hz1 := hb1.size; (try simp at hz1); have _ : b < w1.heap.size := (by first | (simp; done) | omega | (simp; omega)); have _ := fun o => hb1.cell (p := ⟨b, o, none⟩) (by first | (simp; done) | omega | (simp; omega))
          go_wp2
          go_roundw
          case rel => exact ⟨k + 1, by omega, by go_num, by simp only [depF]; rw [hasB_in, h1, h2]; simp [one], by (repeat (first | with_reducible exact Below.refl _ _ | with_reducible assumption | ((with_reducible refine Below.alloc ?_ ?_ _); rotate_left; focus (first | with_reducible exact Nat.le_refl _ | omega | (simp; done) | (simp; omega))) | ((with_reducible refine Below.setCell ?_ ?_ _); rotate_left; focus (first | with_reducible exact Nat.le_refl _ | omega | (simp; done) | (simp; omega))) | (with_reducible refine Below.drew ?_) | ((with_reducible refine Below.trans ?_ (Below.mono (by with_reducible assumption) ?_)); rotate_left; focus (first | with_reducible exact Nat.le_refl _ | omega | (simp; done) | (simp; omega)))))⟩
          case measure => simp [intOf]; omega
        · go_wp2_with fail
          have hq : True := trivial; have hq := fun d os o => (below_regrown wr d os).cell (p := ⟨b, o, none⟩) (by first | (simp; done) | omega | (simp; omega)); refine wp_region_quiet_below (by kernel_rfl) (by kernel_rfl) ?_; (repeat (first | go_big_quiet_step (exact Calls.regrown_of (in_val _ _ _ _ (by assumption) _)) | quiet_step (exact Calls.regrown_of (in_val _ _ _ _ (by assumption) _)))); refine wpQuiet_nil ?_; intro _ hw'; obtain ⟨⟨dq, osq⟩, hw''⟩ := hw'; subst hw''; clear hq; have hb1 := below_regrown wr dq osq; generalize Sort.grow (redrawn wr dq) osq = w1 at hb1 ⊢; have hz1 := hb1.size; (try simp at hz1); have _ : b < w1.heap.size := (by first | (simp; done) | omega | (simp; omega)); have _ := fun o => hb1.cell (p := ⟨b, o, none⟩) (by first | (simp; done) | omega | (simp; omega))
          go_wp2
          go_roundw
          case rel => exact ⟨k + 1, by omega, by go_num, by simp only [depF]; rw [hasB_in, h1, h2]; rfl, by (repeat (first | with_reducible exact Below.refl _ _ | with_reducible assumption | ((with_reducible refine Below.alloc ?_ ?_ _); rotate_left; focus (first | with_reducible exact Nat.le_refl _ | omega | (simp; done) | (simp; omega))) | ((with_reducible refine Below.setCell ?_ ?_ _); rotate_left; focus (first | with_reducible exact Nat.le_refl _ | omega | (simp; done) | (simp; omega))) | (with_reducible refine Below.drew ?_) | ((with_reducible refine Below.trans ?_ (Below.mono (by with_reducible assumption) ?_)); rotate_left; focus (first | with_reducible exact Nat.le_refl _ | omega | (simp; done) | (simp; omega)))))⟩
          case measure => simp [intOf]; omega
    · have hkn : k = n := by omega
      subst hkn
      go_wp2
      go_ret
      exact ⟨rfl, hbr⟩

def cellF (f : Nat → Rt) (n y x : Nat) : Int := one (anyTo f x y n)
def rowF (f : Nat → Rt) (n y : Nat) : Int := sumN 20 (cellF f n y)
theorem cellF_bd (f : Nat → Rt) (n y k : Nat) : 0 ≤ sumN k (cellF f n y) ∧ sumN k (cellF f n y) ≤ k := by
  induction k with
  | zero => simp [sumN]
  | succ k ih => simp only [sumN]; have := one_nonneg (anyTo f k y n); have := one_le (anyTo f k y n); unfold cellF at *; omega
theorem rowF_bd (f : Nat → Rt) (n k : Nat) : 0 ≤ sumN k (rowF f n) ∧ sumN k (rowF f n) ≤ 20 * k := by
  induction k with
  | zero => simp [sumN]
  | succ k ih => simp only [sumN]; have h := cellF_bd f n k 20; unfold rowF at *; omega
theorem uaF_yes (f : Nat → Rt) (n : Nat) (h : laidF f n = true) : uaF f n = sumN 20 (rowF f n) := by unfold uaF; rw [h]; rfl
theorem depth_val (A : Option Addr) (n cap : Nat) (f : Nat → Rt) (x y : Int) (d : Int) (hd : depF f x y n = d) (w : World) (h7 : n ≤ 7) (hok : okTo f n = true) (hr : Rs w A n f) :
    Calls Try.prog 48 #[.slice A n cap, .int .i64 x, .int .i64 y] w fun e w' => e = .returned (.int .i64 d) ∧ Below w.heap.size w w' := hd ▸ depth_any A n cap f x y w h7 hok hr
set_option maxHeartbeats 1000000 in
theorem sua_any (A : Option Addr) (n cap : Nat) (f : Nat → Rt) (w : World) (hn : n ≤ maxLen) (hr : Rs w A n f) :
    Calls Try.prog 19 #[.slice A n cap] w fun e w' => e = .returned (.int .i64 (uaF f n)) ∧ Below w.heap.size w w' := by
  have Hn := Lib.hid hn
  have Hr := Lib.hid hr
  clear hn hr
  cases hl : laidF f n
  · have H : Hid (uaF f n = -1) := Lib.hid (by unfold uaF; rw [hl]; rfl)
    go_enter Try.func19, Try.ntmps19
    go_wp2_with fail
    refine (slaid_val A n cap f false hl _ Hn.out Hr.out).mono ?_; rintro e w1 ⟨rfl, hb1⟩; have hz1 := hb1.size; (try simp at hz1)
    go_wp2
    go_ret
    exact ⟨ret_int (by rw [H.out]), by (repeat (first | with_reducible exact Below.refl _ _ | with_reducible assumption | ((with_reducible refine Below.alloc ?_ ?_ _); rotate_left; focus (first | with_reducible exact Nat.le_refl _ | omega | (simp; done) | (simp; omega))) | ((with_reducible refine Below.setCell ?_ ?_ _); rotate_left; focus (first | with_reducible exact Nat.le_refl _ | omega | (simp; done) | (simp; omega))) | (with_reducible refine Below.drew ?_) | ((with_reducible refine Below.trans ?_ (Below.mono (by with_reducible assumption) ?_)); rotate_left; focus (first | with_reducible exact Nat.le_refl _ | omega | (simp; done) | (simp; omega)))))⟩
  · obtain ⟨h7, hok⟩ := laidF_ok hl
    have Hok := Lib.hid hok
    clear hok
    have HE := Lib.hid (uaF_yes f n hl)
    go_enter Try.func19, Try.ntmps19
    go_wp2_with fail
    refine (slaid_val A n cap f true hl _ Hn.out Hr.out).mono ?_; rintro e w1 ⟨rfl, hb1⟩; have hz1 := hb1.size; (try simp at hz1)
    have Hb1 := Lib.hid hb1
    clear hb1
    go_wp2
    go_loopw [3, 4] (fun s y wr => ∃ k : Nat, k ≤ 20 ∧ y = .int .i64 k ∧ s = .int .i64 (sumN k (rowF f n)) ∧ Below w.heap.size w wr) (fun _ y _ => 20 - (intOf y).toNat)
    case atStart => exact ⟨0, Nat.zero_le _, rfl, rfl, Hb1.out⟩
    case round =>
      obtain ⟨k, hk, rfl, rfl, hbr⟩ := hrel
      have HR := Lib.hid hbr
      clear hbr
      have bd := rowF_bd f n k
      generalize hS : sumN k (rowF f n) = S at bd
      have HS := Lib.hid hS
      clear hS
      obtain ⟨bd1, bd2⟩ := bd
      by_cases hlt : k < 20
      · have hk20 : decide ((k : Int) < 20) = true := by simp; omega
        go_wp2
        obtain ⟨wo, rfl⟩ : ∃ wo : World, wo = wr := ⟨_, rfl⟩
        go_loopw [3, 5] (fun s x wr => ∃ j : Nat, j ≤ 20 ∧ x = .int .i64 j ∧ s = .int .i64 (S + sumN j (cellF f n k)) ∧ Below w.heap.size w wr) (fun _ x _ => 20 - (intOf x).toNat)
        case atStart => exact ⟨0, Nat.zero_le _, rfl, by simp [sumN], HR.out⟩
        case round =>
          obtain ⟨j, hj, rfl, rfl, hbi⟩ := hrel
          have hzi := hbi.size
          have HI := Lib.hid hbi
          have bc := cellF_bd f n k j
          generalize hT : sumN j (cellF f n k) = T at bc
          have HT := Lib.hid hT
          clear hT
          obtain ⟨bc1, bc2⟩ := bc
          by_cases hlt2 : j < 20
          · have hda := depF_any f j k n
            obtain ⟨db1, db2⟩ := depF_bd f j k n
            generalize hD : depF f j k n = D at hda db1 db2
            have HA := Lib.hid hda
            clear hda
            by_cases hpos : 0 < D
            · go_wp2_with fail
              refine (depth_val A n cap f j k D hD _ h7 Hok.out (Hr.out.below HI.out)).mono ?_; rintro e w2 ⟨rfl, hb2⟩; have hz2 := hb2.size; (try simp at hz2)
              go_wp2
              go_roundw
              case rel => exact ⟨j + 1, by omega, by go_num, by simp only [sumN]; rw [HT.out]; unfold cellF; rw [← HA.out, show decide (0 < D) = true by simpa using hpos, ← Int.add_assoc]; rfl, by (repeat (first | with_reducible exact Below.refl _ _ | with_reducible assumption | ((with_reducible refine Below.alloc ?_ ?_ _); rotate_left; focus (first | with_reducible exact Nat.le_refl _ | omega | (simp; done) | (simp; omega))) | ((with_reducible refine Below.setCell ?_ ?_ _); rotate_left; focus (first | with_reducible exact Nat.le_refl _ | omega | (simp; done) | (simp; omega))) | (with_reducible refine Below.drew ?_) | ((with_reducible refine Below.trans ?_ (Below.mono (by with_reducible assumption) ?_)); rotate_left; focus (first | with_reducible exact Nat.le_refl _ | omega | (simp; done) | (simp; omega)))))⟩
              case measure => simp [intOf]; omega
            · go_wp2_with fail
              refine (depth_val A n cap f j k D hD _ h7 Hok.out (Hr.out.below HI.out)).mono ?_; rintro e w2 ⟨rfl, hb2⟩; have hz2 := hb2.size; (try simp at hz2)
              go_wp2
              go_roundw
              case rel => exact ⟨j + 1, by omega, by go_num, by simp only [sumN]; rw [HT.out]; unfold cellF; rw [← HA.out, show decide (0 < D) = false by simpa using hpos]; simp [one], by (repeat (first | with_reducible exact Below.refl _ _ | with_reducible assumption | ((with_reducible refine Below.alloc ?_ ?_ _); rotate_left; focus (first | with_reducible exact Nat.le_refl _ | omega | (simp; done) | (simp; omega))) | ((with_reducible refine Below.setCell ?_ ?_ _); rotate_left; focus (first | with_reducible exact Nat.le_refl _ | omega | (simp; done) | (simp; omega))) | (with_reducible refine Below.drew ?_) | ((with_reducible refine Below.trans ?_ (Below.mono (by with_reducible assumption) ?_)); rotate_left; focus (first | with_reducible exact Nat.le_refl _ | omega | (simp; done) | (simp; omega)))))⟩
              case measure => simp [intOf]; omega
          · have hjn : j = 20 := by omega
            subst hjn
            go_wp2
            go_roundw
            case rel => exact ⟨k + 1, by omega, by go_num, by simp only [sumN]; rw [HS.out, ← HT.out]; rfl, HI.out⟩
            case measure => simp [intOf]; omega
      · have hkn : k = 20 := by omega
        subst hkn
        go_wp2
        go_ret
        exact ⟨ret_int (by rw [HE.out, HS.out]), HR.out⟩

set_option maxHeartbeats 1000000 in
theorem walkExactUnionArea (A : Option Addr) (n cap : Nat) (f : Nat → Rt) (w : World) (hm : n ≤ maxLen) (hr : Rs w A n f) :
    Calls Try.prog 9 #[.slice A n cap] w fun e w' => e = .returned (.bool true) ∧ Below w.heap.size w w' := by
  have Hr := Lib.hid hr
  clear hr
  by_cases hl : 1048576 < n
  · go_enter Try.func9, Try.ntmps9
    go_wp2_with fail
    refine (sz_no _ _ _ _ hm (by omega)).mono ?_; rintro e w' ⟨rfl, rfl⟩
    go_wp2
    go_ret
    exact ⟨rfl, Below.refl _ _⟩
  · have Hm := Lib.hid hm
    clear hm
    go_enter Try.func9, Try.ntmps9
    go_wp2_with fail
    refine (sz_yes _ _ _ _ (by omega)).mono ?_; rintro e w' ⟨rfl, rfl⟩
    go_wp2_with fail
    refine (torects_any A n cap f _ (by omega) (Hr.out)).mono ?_; rintro e w1 ⟨rfl, ho1, hb1⟩; have hz1 := hb1.size; (try simp at hz1); (try simp only [World.size_alloc] at ho1); have Ho1 := Lib.hid ho1; clear ho1; have Hr1 := Lib.hid ((Hr.out).below hb1)
    go_wp2_with fail
    refine (sua_any _ n n f _ Hm.out Ho1.out.rs).mono ?_; rintro e w2 ⟨rfl, hb2⟩; have hz2 := hb2.size; (try simp at hz2); have Hr2 := Lib.hid (Hr1.out.below hb2)
    go_wp2_with fail
    refine (torects_any A n cap f _ (by omega) (Hr2.out)).mono ?_; rintro e w3 ⟨rfl, ho3, hb3⟩; have hz3 := hb3.size; (try simp at hz3); (try simp only [World.size_alloc] at ho3); have Ho3 := Lib.hid ho3; clear ho3; have Hr3 := Lib.hid ((Hr2.out).below hb3)
    go_wp2_with fail
    refine (iua_any _ n n f _ Hm.out Ho3.out.rs).mono ?_; rintro e w4 ⟨rfl, hb4⟩; have hz4 := hb4.size; (try simp at hz4); have Hr4 := Lib.hid (Hr3.out.below hb4); have Ho4 := Lib.hid (Ho3.out.below hb4)
    go_wp2_with fail
    refine (torects_any A n cap f _ (by omega) (Hr4.out)).mono ?_; rintro e w5 ⟨rfl, ho5, hb5⟩; have hz5 := hb5.size; (try simp at hz5); (try simp only [World.size_alloc] at ho5); have Ho5 := Lib.hid ho5; clear ho5; have Hr5 := Lib.hid ((Hr4.out).below hb5); have Hx := Lib.hid (Ho4.out.below hb5)
    go_wp2_with fail
    refine (eqrects_same _ _ n n n f _ Hm.out Hx.out.rs Ho5.out.rs).mono ?_; rintro e w6 ⟨rfl, hb6⟩; have hz6 := hb6.size; (try simp at hz6)
    go_wp2
    go_ret
    exact ⟨rfl, by (repeat (first | with_reducible exact Below.refl _ _ | with_reducible assumption | ((with_reducible refine Below.alloc ?_ ?_ _); rotate_left; focus (first | with_reducible exact Nat.le_refl _ | omega | (simp; done) | (simp; omega))) | ((with_reducible refine Below.setCell ?_ ?_ _); rotate_left; focus (first | with_reducible exact Nat.le_refl _ | omega | (simp; done) | (simp; omega))) | (with_reducible refine Below.drew ?_) | ((with_reducible refine Below.trans ?_ (Below.mono (by with_reducible assumption) ?_)); rotate_left; focus (first | with_reducible exact Nat.le_refl _ | omega | (simp; done) | (simp; omega)))))⟩
end Go.Proofs.Ytipnldbdlimnhaa
