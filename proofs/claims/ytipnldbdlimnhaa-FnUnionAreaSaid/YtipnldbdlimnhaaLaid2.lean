
/- What the laws of chapter 2 draw: the functions Draw... -/
import Derived.Test.YtipnldbdlimnhaaLaid
namespace Go.Proofs.Ytipnldbdlimnhaa
open Go.RowKit Go.Sort Go.BigFrame
set_option linter.unusedVariables false
def RectsDrawn (w : World) (e : Ending) (w' : World) : Prop :=
  ∃ (A : Option Addr) (n cap g : Nat) (f : Nat → Rt), e = .returned (.slice A n cap) ∧ n ≤ 8 ∧ Ow w' A n f g ∧ w.heap.size ≤ g ∧ Hd A n cap ∧ Below w.heap.size w w'
def RectsOneDrawn (w : World) (e : Ending) (w' : World) : Prop :=
  ∃ (A : Option Addr) (n cap g : Nat) (f : Nat → Rt) (r : Rt), e = .returned (.tuple #[.slice A n cap, rv r]) ∧ n ≤ 8 ∧ Ow w' A n f g ∧ w.heap.size ≤ g ∧ Hd A n cap ∧ Below w.heap.size w w'

set_option maxHeartbeats 400000 in
theorem dLaidOk (a : Option Addr) (len cap : Nat) (w : World) (hc : Came w a len cap) :
    Calls Try.prog 13 #[.slice a len cap] w (RectsDrawn w) := by
  go_enter Try.func13, Try.ntmps13
  go_wp2_with fail
  refine (open_any _ _ _ _ (hc)).mono ?_; rintro e w1 hp; obtain ⟨rfl, hb1, hr1⟩ := hp; have hz1 := hb1.size; (try simp at hz1); have hB := hr1.lt; skip
  go_wp2_with fail
  refine (laid_any (w.heap.size) (0) _ _ (hr1) (by omega) (by omega)).mono ?_; rintro e w2 hp; have HP2 := Lib.hid hp; clear hp; obtain ⟨A, m, cap, g, f, rfl, hm, ho2, hg2, hh2, hs2, hr2⟩ := HP2.out; have hz2 := hs2.size; (try simp at hz2); have HO2 := Lib.hid ho2; have HH2 := Lib.hid hh2; have HR2 := Lib.hid hr2; have HSS2 := Lib.hid hs2; clear ho2 hh2 hr2 hs2
  go_wp2
  go_ret
  exact ⟨A, m, _, g, f, rfl, hm, HO2.out, by omega, HH2.out, Sole.below hb1 HSS2.out (Nat.le_refl _)⟩

set_option maxHeartbeats 400000 in
theorem dUnionArea (a : Option Addr) (len cap : Nat) (w : World) (hc : Came w a len cap) :
    Calls Try.prog 17 #[.slice a len cap] w (RectsDrawn w) := by
  go_enter Try.func17, Try.ntmps17
  go_wp2_with fail
  refine (open_any _ _ _ _ (hc)).mono ?_; rintro e w1 hp; obtain ⟨rfl, hb1, hr1⟩ := hp; have hz1 := hb1.size; (try simp at hz1); have hB := hr1.lt; skip
  go_wp2_with fail
  refine (laid_any (w.heap.size) (0) _ _ (hr1) (by omega) (by omega)).mono ?_; rintro e w2 hp; have HP2 := Lib.hid hp; clear hp; obtain ⟨A, m, cap, g, f, rfl, hm, ho2, hg2, hh2, hs2, hr2⟩ := HP2.out; have hz2 := hs2.size; (try simp at hz2); have HO2 := Lib.hid ho2; have HH2 := Lib.hid hh2; have HR2 := Lib.hid hr2; have HSS2 := Lib.hid hs2; clear ho2 hh2 hr2 hs2
  go_wp2
  go_ret
  exact ⟨A, m, _, g, f, rfl, hm, HO2.out, by omega, HH2.out, Sole.below hb1 HSS2.out (Nat.le_refl _)⟩

set_option maxHeartbeats 400000 in
theorem dSumsOf (a : Option Addr) (len cap : Nat) (w : World) (hc : Came w a len cap) :
    Calls Try.prog 26 #[.slice a len cap] w (RectsDrawn w) := by
  go_enter Try.func26, Try.ntmps26
  go_wp2_with fail
  refine (open_any _ _ _ _ (hc)).mono ?_; rintro e w1 hp; obtain ⟨rfl, hb1, hr1⟩ := hp; have hz1 := hb1.size; (try simp at hz1); have hB := hr1.lt; skip
  go_wp2_with fail
  refine (laid_any (w.heap.size) (0) _ _ (hr1) (by omega) (by omega)).mono ?_; rintro e w2 hp; have HP2 := Lib.hid hp; clear hp; obtain ⟨A, m, cap, g, f, rfl, hm, ho2, hg2, hh2, hs2, hr2⟩ := HP2.out; have hz2 := hs2.size; (try simp at hz2); have HO2 := Lib.hid ho2; have HH2 := Lib.hid hh2; have HR2 := Lib.hid hr2; have HSS2 := Lib.hid hs2; clear ho2 hh2 hr2 hs2
  go_wp2
  go_ret
  exact ⟨A, m, _, g, f, rfl, hm, HO2.out, by omega, HH2.out, Sole.below hb1 HSS2.out (Nat.le_refl _)⟩

set_option maxHeartbeats 1000000 in
theorem dAllCommon (a : Option Addr) (len cap : Nat) (w : World) (hc : Came w a len cap) :
    Calls Try.prog 22 #[.slice a len cap] w (RectsDrawn w) := by
  go_enter Try.func22, Try.ntmps22
  go_wp2_with fail
  refine (open_any _ _ _ _ (hc)).mono ?_; rintro e w1 hp; obtain ⟨rfl, hb1, hr1⟩ := hp; have hz1 := hb1.size; (try simp at hz1); have hB := hr1.lt; skip
  go_wp2_with fail
  refine (laid_any (w.heap.size) (0) _ _ (hr1) (by omega) (by omega)).mono ?_; rintro e w2 hp; have HP2 := Lib.hid hp; clear hp; obtain ⟨A, m, cap, g, f, rfl, hm, ho2, hg2, hh2, hs2, hr2⟩ := HP2.out; have hz2 := hs2.size; (try simp at hz2); have HO2 := Lib.hid ho2; have HH2 := Lib.hid hh2; have HR2 := Lib.hid hr2; have HSS2 := Lib.hid hs2; clear ho2 hh2 hr2 hs2
  have HB2 := Lib.hid (Sole.below hb1 HSS2.out (Nat.le_refl _))
  by_cases hm3 : m ≤ 3
  · go_wp2
    go_ret
    exact ⟨A, m, _, g, f, rfl, hm, HO2.out, by omega, HH2.out, HB2.out⟩
  · have hcap := HH2.out.1
    go_wp2_with fail
    refine (pick_any (w.heap.size) (100) _ _ (HR2.out) (by omega) (by omega)).mono ?_; rintro e w3 hp; obtain ⟨v3, rfl, p3, q3, _, hs3, hr3⟩ := hp; have hz3 := hs3.size; (try simp at hz3)
    have HB3 := Lib.hid (Sole.below HB2.out hs3 (Nat.le_refl _))
    have HO3 := Lib.hid (HO2.out.sole hs3 (by omega))
    clear hs3 hr3
    by_cases hv : v3 = 0
    · subst hv
      go_wp2
      go_ret
      exact ⟨A, 2, _, g, f, rfl, by omega, HO3.out.less (by omega), by omega, ⟨by omega, HH2.out.2⟩, HB3.out⟩
    · go_wp2
      go_ret
      exact ⟨A, m, _, g, f, rfl, hm, HO3.out, by omega, HH2.out, HB3.out⟩

set_option maxHeartbeats 1000000 in
theorem dWithOne (a : Option Addr) (len cap : Nat) (w : World) (hc : Came w a len cap) :
    Calls Try.prog 29 #[.slice a len cap] w (RectsOneDrawn w) := by
  go_enter Try.func29, Try.ntmps29
  go_wp2_with fail
  refine (open_any _ _ _ _ (hc.below ((Below.refl _ _).alloc (Nat.le_refl _) _))).mono ?_; rintro e w1 hp; obtain ⟨rfl, hb1, hr1⟩ := hp; have hz1 := hb1.size; (try simp at hz1); have hB := hr1.lt; simp only [World.size_alloc] at hr1 hB; have _ : w.heap.size < w1.heap.size := (by first | (simp; done) | omega | (simp; omega)); have _ := fun o => hb1.cell (p := ⟨w.heap.size, o, none⟩) (by first | (simp; done) | omega | (simp; omega)); have _ := fun o => hb1.frozen (p := ⟨w.heap.size, o, none⟩) (by first | (simp; done) | omega | (simp; omega))
  go_wp2_with fail
  refine (laid_any (w.heap.size + 1) (0) _ _ (hr1) (by omega) (by omega)).mono ?_; rintro e w2 hp; have HP2 := Lib.hid hp; clear hp; obtain ⟨A, m, cap, g, f, rfl, hm, ho2, hg2, hh2, hs2, hr2⟩ := HP2.out; have hz2 := hs2.size; (try simp at hz2); have HO2 := Lib.hid ho2; have HH2 := Lib.hid hh2; have HR2 := Lib.hid hr2; have HSS2 := Lib.hid hs2; clear ho2 hh2 hr2 hs2
  have _ : w.heap.size < w2.heap.size := by omega
  have _ := fun o => HSS2.out.cell (p := ⟨w.heap.size, o, none⟩) (by first | omega | (simp; done) | (simp; omega)) (by first | omega | (simp; done) | (simp; omega))
  have _ := fun o => HSS2.out.frozen (p := ⟨w.heap.size, o, none⟩) (by first | omega | (simp; done) | (simp; omega)) (by first | omega | (simp; done) | (simp; omega))
  have HB1 : Hid (Below w.heap.size w w1) := Lib.hid (by (repeat (first | with_reducible exact Below.refl _ _ | with_reducible assumption | ((with_reducible refine Below.alloc ?_ ?_ _); rotate_left; focus (first | with_reducible exact Nat.le_refl _ | omega | (simp; done) | (simp; omega))) | ((with_reducible refine Below.setCell ?_ ?_ _); rotate_left; focus (first | with_reducible exact Nat.le_refl _ | omega | (simp; done) | (simp; omega))) | (with_reducible refine Below.drew ?_) | ((with_reducible refine Below.trans ?_ (Below.mono (by with_reducible assumption) ?_)); rotate_left; focus (first | with_reducible exact Nat.le_refl _ | omega | (simp; done) | (simp; omega))))))
  have HB2 := Lib.hid (Sole.below HB1.out HSS2.out (by omega))
  go_wp2_with fail
  refine (rect_any (w.heap.size + 1) (100) _ _ (HR2.out) (by omega) (by omega)).mono ?_; rintro e w3 hp; obtain ⟨r3, rfl, n3, o3, hs3, hr3⟩ := hp; have hz3 := hs3.size; (try simp at hz3); have _ : w.heap.size < w3.heap.size := (by first | (simp; done) | omega | (simp; omega)); have _ := fun o => hs3.cell (p := ⟨w.heap.size, o, none⟩) (by first | (simp; done) | omega | (simp; omega)) (by first | (simp; done) | omega | (simp; omega)); have _ := fun o => hs3.frozen (p := ⟨w.heap.size, o, none⟩) (by first | (simp; done) | omega | (simp; omega)) (by first | (simp; done) | omega | (simp; omega))
  have HB3 := Lib.hid (Sole.below HB2.out hs3 (by omega))
  have HO3 := Lib.hid (HO2.out.sole hs3 (by omega))
  clear hs3 hr3 n3 o3
  go_wp2
  refine bodyPost_ret (v := .tuple #[.slice A m cap, rv r3]) (by simp (maxDischargeDepth := 8) [results, Try.results29, go_sem, *]) rfl ?_
  have hb4 : Below w.heap.size w3 (set4 w3 w.heap.size 0 r3) := Below.set4 (Below.refl _ _) (Nat.le_refl _) _
  have ho4 : Ow (set4 w3 w.heap.size 0 r3) A m f g := HO3.out.grown (grown_setCell (grown_setCell (grown_setCell (grown_setCell (World.grownBy.refl w3 _) _) _) _) _) (by omega)
  exact ⟨A, m, _, g, f, r3, rfl, hm, ho4, by omega, HH2.out, HB3.out.trans hb4⟩
end Go.Proofs.Ytipnldbdlimnhaa
