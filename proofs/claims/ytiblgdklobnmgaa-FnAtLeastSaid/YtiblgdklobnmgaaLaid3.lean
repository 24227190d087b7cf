
/- What the laws of chapter 3 draw, and contracts by their values. -/
import Derived.Test.YtiblgdklobnmgaaLaid2
import Derived.Test.YtiblgdklobnmgaaDep4
namespace Go.Proofs.Ytiblgdklobnmgaa
open Go.RowKit Go.Sort Go.BigFrame
set_option linter.unusedVariables false
theorem iua_v3 (A : Option Addr) (n cap : Nat) (f : Nat → Rt) (v : Int) (h : uaF f n = v) (w : World) (hn : n ≤ maxLen) (hr : Rs w A n f) :
    Calls Try.prog 22 #[.slice A n cap] w fun e w' => e = .returned (.int .i64 v) ∧ Below w.heap.size w w' := h ▸ iua_any A n cap f w hn hr
theorem iarea_v3 (a : Rt) (v : Int) (h : areaM a = v) (w : World) :
    Calls Try.prog 21 #[rv a] w fun e w' => e = .returned (.int .i64 v) ∧ Below w.heap.size w w' := h ▸ iarea_any a w
def WoPostV (M : Nat) (B : Bool) (f : Nat → Rt) (w : World) (e : Ending) (w' : World) : Prop :=
  ∃ A cap g, e = .returned (.tuple #[.slice A M cap, .bool B]) ∧ Ow w' A M f g ∧ w.heap.size ≤ g ∧ Hd A M cap ∧ Below w.heap.size w w'
theorem iwo_v3 (A : Option Addr) (n cap : Nat) (f : Nat → Rt) (r : Rt) (M : Nat) (B : Bool) (hM : cntF (woB f n r) (n + 1) = M) (hB : woB f n r = B) (w : World) (hn : n ≤ maxLen) (hr : Rs w A n f) (hh : Hd A n cap) :
    Calls Try.prog 15 #[.slice A n cap, rv r] w (WoPostV M B (withF f n r) w) := by
  subst hM hB; exact iwo_any A n cap f r w hn hr hh
theorem area_bd3 {r : Rt} (h : okB r = true) : 0 ≤ areaM r ∧ areaM r ≤ 400 := by
  have hk := okB_iff.1 h
  have hp := span_prod (a := r.r - r.l) (b := r.h - r.o) (by omega) (by omega) (by omega) (by omega)
  unfold areaM; rw [if_pos h]; exact hp
/-- The sum of the first k areas. -/
def areasF (f : Nat → Rt) (k : Nat) : Int := sumN k (fun i => areaM (f i))
theorem areasF_bd {f : Nat → Rt} {n : Nat} (h : okTo f n = true) : ∀ k, k ≤ n → 0 ≤ areasF f k ∧ areasF f k ≤ 400 * k := by
  intro k
  induction k with
  | zero => intro _; simp [areasF, sumN]
  | succ k ih =>
    intro hk
    have h1 := ih (by omega)
    have h2 := area_bd3 (okTo_le h (by omega : k < n))
    have e : areasF f (k + 1) = areasF f k + areaM (f k) := rfl
    rw [e]; omega
theorem ua_yes3 {f : Nat → Rt} {n : Nat} (h : laidF f n = true) : uaF f n = cells (fun x y => one (anyTo f x y n)) := by unfold uaF; rw [h]; rfl
theorem depF_congr {f f' : Nat → Rt} (x y : Int) (k : Nat) (h : ∀ i, i < k → f i = f' i) : depF f x y k = depF f' x y k := by
  induction k with
  | zero => rfl
  | succ k ih => simp only [depF]; rw [ih (fun i hi => h i (by omega)), h k (by omega)]
theorem depF_with (f : Nat → Rt) (n : Nat) (r : Rt) (x y : Int) : depF (withF f n r) x y (n + 1) = depF f x y n + one (hasB r x y) := by
  simp only [depF]
  rw [depF_congr (f := withF f n r) (f' := f) x y n (fun i hi => by unfold withF; rw [if_pos hi]), show withF f n r n = r by unfold withF; rw [if_neg (by omega)]]
/-- the same slice read at two places -/
theorem Rs.at2 {w : World} {A : Option Addr} {n k j : Nat} {f : Nat → Rt} (h : Rs w A n f) (hk : k < n) (hj : j < n) : ∃ b off, A = some ⟨b, off, none⟩ ∧ b < w.heap.size ∧ C4 w b (off + k * 4) (f k) ∧ C4 w b (off + j * 4) (f j) := by
  rcases h with h | ⟨b, off, ha, hl, hc⟩
  · omega
  · exact ⟨b, off, ha, hl, hc k hk, hc j hj⟩
def RectsCellDrawn (w : World) (e : Ending) (w' : World) : Prop :=
  ∃ (A : Option Addr) (n cap g : Nat) (f : Nat → Rt) (x y : Int), e = .returned (.tuple #[.slice A n cap, .int .i64 x, .int .i64 y]) ∧ n ≤ 8 ∧ (-100 ≤ x ∧ x ≤ 100) ∧ (-100 ≤ y ∧ y ≤ 100) ∧ Ow w' A n f g ∧ w.heap.size ≤ g ∧ Hd A n cap ∧ Below w.heap.size w w'
def RectsIntDrawn (w : World) (e : Ending) (w' : World) : Prop :=
  ∃ (A : Option Addr) (n cap g : Nat) (f : Nat → Rt) (x : Int), e = .returned (.tuple #[.slice A n cap, .int .i64 x]) ∧ n ≤ 8 ∧ (-100 ≤ x ∧ x ≤ 100) ∧ Ow w' A n f g ∧ w.heap.size ≤ g ∧ Hd A n cap ∧ Below w.heap.size w w'

set_option maxHeartbeats 400000 in
theorem dDepthsOf (a : Option Addr) (len cap : Nat) (w : World) (hc : Came w a len cap) :
    Calls Try.prog 16 #[.slice a len cap] w (RectsDrawn w) := by
  go_enter Try.func16, Try.ntmps16
  go_wp2_with fail
  refine (open_any _ _ _ _ (hc)).mono ?_; rintro e w1 hp; obtain ⟨rfl, hb1, hr1⟩ := hp; have hz1 := hb1.size; (try simp at hz1); have hB := hr1.lt; skip
  go_wp2_with fail
  refine (laid_any (w.heap.size) (0) _ _ (hr1) (by omega) (by omega)).mono ?_; rintro e w2 hp; have HP2 := Lib.hid hp; clear hp; obtain ⟨A, m, cap, g, f, rfl, hm, ho2, hg2, hh2, hs2, hr2⟩ := HP2.out; have hz2 := hs2.size; (try simp at hz2); have HO2 := Lib.hid ho2; have HH2 := Lib.hid hh2; have HR2 := Lib.hid hr2; have HSS2 := Lib.hid hs2; clear ho2 hh2 hr2 hs2
  go_wp2
  go_ret
  exact ⟨A, m, _, g, f, rfl, hm, HO2.out, by omega, HH2.out, Sole.below hb1 HSS2.out (Nat.le_refl _)⟩

set_option maxHeartbeats 400000 in
theorem dDeepestOf (a : Option Addr) (len cap : Nat) (w : World) (hc : Came w a len cap) :
    Calls Try.prog 23 #[.slice a len cap] w (RectsDrawn w) := by
  go_enter Try.func23, Try.ntmps23
  go_wp2_with fail
  refine (open_any _ _ _ _ (hc)).mono ?_; rintro e w1 hp; obtain ⟨rfl, hb1, hr1⟩ := hp; have hz1 := hb1.size; (try simp at hz1); have hB := hr1.lt; skip
  go_wp2_with fail
  refine (laid_any (w.heap.size) (0) _ _ (hr1) (by omega) (by omega)).mono ?_; rintro e w2 hp; have HP2 := Lib.hid hp; clear hp; obtain ⟨A, m, cap, g, f, rfl, hm, ho2, hg2, hh2, hs2, hr2⟩ := HP2.out; have hz2 := hs2.size; (try simp at hz2); have HO2 := Lib.hid ho2; have HH2 := Lib.hid hh2; have HR2 := Lib.hid hr2; have HSS2 := Lib.hid hs2; clear ho2 hh2 hr2 hs2
  go_wp2
  go_ret
  exact ⟨A, m, _, g, f, rfl, hm, HO2.out, by omega, HH2.out, Sole.below hb1 HSS2.out (Nat.le_refl _)⟩

set_option maxHeartbeats 1000000 in
theorem dDepthAt (a : Option Addr) (len cap : Nat) (w : World) (hc : Came w a len cap) :
    Calls Try.prog 11 #[.slice a len cap] w (RectsCellDrawn w) := by
  go_enter Try.func11, Try.ntmps11
  go_wp2_with fail
  refine (open_any _ _ _ _ (hc)).mono ?_; rintro e w1 hp; obtain ⟨rfl, hb1, hr1⟩ := hp; have hz1 := hb1.size; (try simp at hz1); have hB := hr1.lt; skip
  go_wp2_with fail
  refine (laid_any (w.heap.size) (0) _ _ (hr1) (by omega) (by omega)).mono ?_; rintro e w2 hp; have HP2 := Lib.hid hp; clear hp; obtain ⟨A, m, cap, g, f, rfl, hm, ho2, hg2, hh2, hs2, hr2⟩ := HP2.out; have hz2 := hs2.size; (try simp at hz2); have HO2 := Lib.hid ho2; have HH2 := Lib.hid hh2; have HR2 := Lib.hid hr2; have HSS2 := Lib.hid hs2; clear ho2 hh2 hr2 hs2
  have HB2 := Lib.hid (Sole.below hb1 HSS2.out (Nat.le_refl _))
  go_wp2_with fail
  refine (pick_any (w.heap.size) (100) _ _ (HR2.out) (by omega) (by omega)).mono ?_; rintro e w3 hp; obtain ⟨v3, rfl, p3, q3, _, hs3, hr3⟩ := hp; have hz3 := hs3.size; (try simp at hz3)
  have HB3 := Lib.hid (Sole.below HB2.out hs3 (Nat.le_refl _))
  have HO3 := Lib.hid (HO2.out.sole hs3 (by omega))
  have HR3 := Lib.hid hr3
  have q3' := q3 (by omega)
  clear hs3 hr3 q3
  go_wp2_with fail
  refine (pick_any (w.heap.size) (101) _ _ (HR3.out) (by omega) (by omega)).mono ?_; rintro e w4 hp; obtain ⟨v4, rfl, p4, q4, _, hs4, hr4⟩ := hp; have hz4 := hs4.size; (try simp at hz4)
  have HB4 := Lib.hid (Sole.below HB3.out hs4 (Nat.le_refl _))
  have HO4 := Lib.hid (HO3.out.sole hs4 (by omega))
  have HR4 := Lib.hid hr4
  have q4' := q4 (by omega)
  clear hs4 hr4 q4
  go_wp2_with fail
  refine (pick_any (w.heap.size) (102) _ _ (HR4.out) (by omega) (by omega)).mono ?_; rintro e w5 hp; obtain ⟨v5, rfl, p5, q5, _, hs5, hr5⟩ := hp; have hz5 := hs5.size; (try simp at hz5)
  have HB5 := Lib.hid (Sole.below HB4.out hs5 (Nat.le_refl _))
  have HO5 := Lib.hid (HO4.out.sole hs5 (by omega))
  have HR5 := Lib.hid hr5
  have q5' := q5 (by omega)
  clear hs5 hr5 q5
  go_wp2_with fail
  refine (pick_any (w.heap.size) (103) _ _ (HR5.out) (by omega) (by omega)).mono ?_; rintro e w6 hp; obtain ⟨v6, rfl, p6, q6, _, hs6, hr6⟩ := hp; have hz6 := hs6.size; (try simp at hz6)
  have HB6 := Lib.hid (Sole.below HB5.out hs6 (Nat.le_refl _))
  have HO6 := Lib.hid (HO5.out.sole hs6 (by omega))
  have HR6 := Lib.hid hr6
  have q6' := q6 (by omega)
  clear hs6 hr6 q6
  go_wp2
  refine bodyPost_ret (v := .tuple #[.slice A m cap, .int .i64 (v3 + v4 / 29 * 9), .int .i64 (v5 - v6 / 29 * 12)]) (by simp (maxDischargeDepth := 8) [results, Try.results11, go_sem, *]) rfl ?_
  exact ⟨A, m, _, g, f, _, _, rfl, hm, by omega, by omega, HO6.out, by omega, HH2.out, HB6.out⟩

set_option maxHeartbeats 1000000 in
theorem dAtLeast (a : Option Addr) (len cap : Nat) (w : World) (hc : Came w a len cap) :
    Calls Try.prog 26 #[.slice a len cap] w (RectsIntDrawn w) := by
  go_enter Try.func26, Try.ntmps26
  go_wp2_with fail
  refine (open_any _ _ _ _ (hc)).mono ?_; rintro e w1 hp; obtain ⟨rfl, hb1, hr1⟩ := hp; have hz1 := hb1.size; (try simp at hz1); have hB := hr1.lt; skip
  go_wp2_with fail
  refine (laid_any (w.heap.size) (0) _ _ (hr1) (by omega) (by omega)).mono ?_; rintro e w2 hp; have HP2 := Lib.hid hp; clear hp; obtain ⟨A, m, cap, g, f, rfl, hm, ho2, hg2, hh2, hs2, hr2⟩ := HP2.out; have hz2 := hs2.size; (try simp at hz2); have HO2 := Lib.hid ho2; have HH2 := Lib.hid hh2; have HR2 := Lib.hid hr2; have HSS2 := Lib.hid hs2; clear ho2 hh2 hr2 hs2
  have HB2 := Lib.hid (Sole.below hb1 HSS2.out (Nat.le_refl _))
  go_wp2_with fail
  refine (pick_any (w.heap.size) (100) _ _ (HR2.out) (by omega) (by omega)).mono ?_; rintro e w3 hp; obtain ⟨v3, rfl, p3, q3, _, hs3, hr3⟩ := hp; have hz3 := hs3.size; (try simp at hz3)
  have HB3 := Lib.hid (Sole.below HB2.out hs3 (Nat.le_refl _))
  have HO3 := Lib.hid (HO2.out.sole hs3 (by omega))
  have HR3 := Lib.hid hr3
  have q3' := q3 (by omega)
  clear hs3 hr3 q3
  go_wp2_with fail
  refine (pick_any (w.heap.size) (101) _ _ (HR3.out) (by omega) (by omega)).mono ?_; rintro e w4 hp; obtain ⟨v4, rfl, p4, q4, _, hs4, hr4⟩ := hp; have hz4 := hs4.size; (try simp at hz4)
  have HB4 := Lib.hid (Sole.below HB3.out hs4 (Nat.le_refl _))
  have HO4 := Lib.hid (HO3.out.sole hs4 (by omega))
  have HR4 := Lib.hid hr4
  have q4' := q4 (by omega)
  clear hs4 hr4 q4
  go_wp2
  refine bodyPost_ret (v := .tuple #[.slice A m cap, .int .i64 (v3 - v4 / 19)]) (by simp (maxDischargeDepth := 8) [results, Try.results26, go_sem, *]) rfl ?_
  exact ⟨A, m, _, g, f, _, rfl, hm, by omega, HO4.out, by omega, HH2.out, HB4.out⟩
end Go.Proofs.Ytiblgdklobnmgaa
