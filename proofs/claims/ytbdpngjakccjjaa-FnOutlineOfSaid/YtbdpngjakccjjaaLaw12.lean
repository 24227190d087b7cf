
/- The laws of chapter 4: their walks. -/
import Derived.Test.YtbdpngjakccjjaaMathR
import Derived.Test.YtbdpngjakccjjaaEx7
import Derived.Test.YtbdpngjakccjjaaFrame
import Derived.Test.YtbdpngjakccjjaaDrawC
namespace Go.Proofs.Ytbdpngjakccjjaa
open Go.RowKit Go.Sort Go.BigFrame
set_option linter.unusedVariables false
theorem Rs.one4 (w : World) (r : Rt) (g : Nat) (hg : w.heap.size = g) : Rs (w.alloc (.cells #[.int .i64 r.l, .int .i64 r.o, .int .i64 r.r, .int .i64 r.h] 29)) (some ⟨g, 0, none⟩) 1 (fun _ => r) := by
  subst hg
  refine Or.inr ⟨w.heap.size, 0, rfl, by simp, fun i hi => ?_⟩
  obtain rfl : i = 0 := by omega
  refine ⟨?_, ?_, ?_, ?_⟩ <;> go_simp
theorem zero_eq4 {N : Int} {m : Nat} (h : N = 0 ↔ m = 0) : (N == 0) = ((m : Int) == 0) := by
  rw [Bool.eq_iff_iff, beq_iff_eq, beq_iff_eq]; omega
def WoPost4 (M : Nat) (B : Bool) (f : Nat → Rt) (w : World) (e : Ending) (w' : World) : Prop :=
  ∃ A cap g, e = .returned (.tuple #[.slice A M cap, .bool B]) ∧ Ow w' A M f g ∧ w.heap.size ≤ g ∧ Hd A M cap ∧ Below w.heap.size w w'
theorem iwo_v4 (A : Option Addr) (n cap : Nat) (f : Nat → Rt) (r : Rt) (M : Nat) (B : Bool) (hM : cntF (woB f n r) (n + 1) = M) (hB : woB f n r = B) (w : World) (hn : n ≤ maxLen) (hr : Rs w A n f) (hh : Hd A n cap) :
    Calls Try.prog 12 #[.slice A n cap, rv r] w (WoPost4 M B (withF f n r) w) := by
  subst hM hB; exact iwo_any A n cap f r w hn hr hh

set_option maxHeartbeats 8000000 in
set_option maxRecDepth 100000 in
theorem walkOutlineOf (I : IOl4) (a1 : Option Addr) (len1 cap1 : Nat) (a2 : Option Addr) (len2 cap2 : Nat) (w : World) (hc1 : Came w a1 len1 cap1) (hc2 : Came w a2 len2 cap2) :
    Calls Try.prog 3 #[.slice a1 len1 cap1, .slice a2 len2 cap2] w fun e w' => e = .returned (.bool true) ∧ Below w.heap.size w w' := by
  have hm1 := hc1.len_le
  have hm2 := hc2.len_le
  by_cases hl1 : 1048576 < len1
  · go_enter Try.func3, Try.ntmps3
    go_wp2
    go_ret
    exact ⟨rfl, Below.refl _ _⟩
  by_cases hl2 : 1048576 < len2
  · go_enter Try.func3, Try.ntmps3
    go_wp2
    go_ret
    exact ⟨rfl, Below.refl _ _⟩
  go_enter Try.func3, Try.ntmps3
  go_wp2_with fail
  refine (dOutlineOf _ _ _ _ hc1).mono ?_; rintro e w1 hp; have HP1 := Lib.hid hp; clear hp; obtain ⟨A, m, lcap, g, f, rfl, hm8, ho1, hg1, hh1, hb1⟩ := HP1.out; have hz1 := hb1.size; (try simp at hz1); have HO1 := Lib.hid ho1; have HH1 := Lib.hid hh1; clear ho1 hh1; have hmm : m ≤ maxLen := (by unfold maxLen; omega); have Hmm := Lib.hid hmm; clear hmm
  have HC2 := Lib.hid (hc2.below hb1)
  cases hL : laidF f m
  · have HN : Hid (olF f m = -1) := Lib.hid (by unfold olF; rw [hL]; rfl)
    go_wp2_with fail
    refine (I.olv A m lcap f (-1) HN.out _ Hmm.out HO1.out.rs).mono ?_; rintro e w2 ⟨rfl, hb2⟩; have hz2 := hb2.size; (try simp at hz2); have HO2 := Lib.hid (HO1.out.below hb2)
    go_wp2_with fail
    refine (sol_val A m lcap f (-1) HN.out _ Hmm.out HO2.out.rs).mono ?_; rintro e w3 ⟨rfl, hb3⟩; have hz3 := hb3.size; (try simp at hz3); have HO3 := Lib.hid (HO2.out.below hb3)
    go_wp2_with fail
    refine (ilaid_val A m lcap f false hL _ Hmm.out HO3.out.rs).mono ?_; rintro e w4 ⟨rfl, hb4⟩; have hz4 := hb4.size; (try simp at hz4)
    go_wp2_with fail
    refine (alive_any _).mono ?_; rintro e w5 ⟨rfl, hb5⟩; have hz5 := hb5.size; (try simp at hz5)
    go_wp2
    go_ret
    exact ⟨rfl, by (repeat (first | with_reducible exact Below.refl _ _ | with_reducible assumption | ((with_reducible refine Below.alloc ?_ ?_ _); rotate_left; focus (first | with_reducible exact Nat.le_refl _ | omega | (simp; done) | (simp; omega))) | ((with_reducible refine Below.setCell ?_ ?_ _); rotate_left; focus (first | with_reducible exact Nat.le_refl _ | omega | (simp; done) | (simp; omega))) | (with_reducible refine Below.drew ?_) | ((with_reducible refine Below.trans ?_ (Below.mono (by with_reducible assumption) ?_)); rotate_left; focus (first | with_reducible exact Nat.le_refl _ | omega | (simp; done) | (simp; omega)))))⟩
  · obtain ⟨l1, l2⟩ := outline_law hL
    obtain ⟨n1, n2⟩ := olF_bd hL
    have hzz := zero_eq4 l2
    have HMO := Lib.hid (fun r (h : woB f m r = true) => outline_more h)
    generalize hN : olF f m = N at l1 n1 n2 hzz HMO
    have HN := Lib.hid hN
    have hpar : N.tmod 2 = 0 := by rw [Int.tmod_eq_emod_of_nonneg n1]; exact l1
    clear hN l2
    go_wp2_with fail
    refine (I.olv A m lcap f N HN.out _ Hmm.out HO1.out.rs).mono ?_; rintro e w2 ⟨rfl, hb2⟩; have hz2 := hb2.size; (try simp at hz2); have HO2 := Lib.hid (HO1.out.below hb2)
    go_wp2_with fail
    refine (sol_val A m lcap f N HN.out _ Hmm.out HO2.out.rs).mono ?_; rintro e w3 ⟨rfl, hb3⟩; have hz3 := hb3.size; (try simp at hz3); have HO3 := Lib.hid (HO2.out.below hb3)
    have HC3 := Lib.hid ((HC2.out.below hb2).below hb3)
    go_wp2_with fail
    refine (dOverOf _ _ _ _ HC3.out).mono ?_; rintro e w4 hp; obtain ⟨r, rfl, nr, hb4⟩ := hp; have hz4 := hb4.size; (try simp at hz4); have HO4 := Lib.hid (HO3.out.below hb4)
    obtain ⟨r1, r2, r3, r4, r5, r6, r7, r8⟩ := nr
    have HO4a := Lib.hid (HO4.out.below (w' := w4.alloc (.cells #[.int .i64 r.l, .int .i64 r.o, .int .i64 r.r, .int .i64 r.h] 29)) ((Below.refl _ _).alloc (Nat.le_refl _) _))
    cases hB : woB f m r
    · have HM : Hid (cntF (woB f m r) (m + 1) = 0) := Lib.hid (by rw [hB]; rfl)
      obtain ⟨V, HOW⟩ : ∃ V, Hid (olF (fun _ => r) 1 = V) := ⟨_, Lib.hid rfl⟩
      go_wp2_with fail
      refine (iwo_v4 A m lcap f r 0 false HM.out hB _ Hmm.out HO4a.out.rs HH1.out).mono ?_; rintro e w5 hp; have HP5 := Lib.hid hp; clear hp; obtain ⟨A5, c5, g5, rfl, ho5, hg5, _, hb5⟩ := HP5.out; have hz5 := hb5.size; (try simp at hz5); have O5 := Lib.hid ho5; clear ho5; have _ : w4.heap.size < w5.heap.size := (by first | (simp; done) | omega | (simp; omega)); have _ := fun o => hb5.cell (p := ⟨w4.heap.size, o, none⟩) (by first | (simp; done) | omega | (simp; omega))
      go_wp2_with fail
      refine (I.olv _ 1 1 (fun _ => r) V HOW.out _ (by unfold maxLen; omega) (Rs.one4 _ r _ rfl)).mono ?_; rintro e w6 ⟨rfl, hb6⟩; have hz6 := hb6.size; (try simp at hz6); have _ : w4.heap.size < w6.heap.size := (by first | (simp; done) | omega | (simp; omega)); have _ := fun o => hb6.cell (p := ⟨w4.heap.size, o, none⟩) (by first | (simp; done) | omega | (simp; omega))
      go_wp2_with fail
      refine (alive_any _).mono ?_; rintro e w8 ⟨rfl, hb8⟩; have hz8 := hb8.size; (try simp at hz8)
      go_wp2
      go_ret
      exact ⟨rfl, by (repeat (first | with_reducible exact Below.refl _ _ | with_reducible assumption | ((with_reducible refine Below.alloc ?_ ?_ _); rotate_left; focus (first | with_reducible exact Nat.le_refl _ | omega | (simp; done) | (simp; omega))) | ((with_reducible refine Below.setCell ?_ ?_ _); rotate_left; focus (first | with_reducible exact Nat.le_refl _ | omega | (simp; done) | (simp; omega))) | (with_reducible refine Below.drew ?_) | ((with_reducible refine Below.trans ?_ (Below.mono (by with_reducible assumption) ?_)); rotate_left; focus (first | with_reducible exact Nat.le_refl _ | omega | (simp; done) | (simp; omega)))))⟩
    · have HM : Hid (cntF (woB f m r) (m + 1) = m + 1) := Lib.hid (by rw [hB]; rfl)
      obtain ⟨hl5, hok, hm6⟩ := laid_with hB
      have ho := outline_own hok
      have hmo := HMO.out r hB
      have hl2' : laidF (withF f m r) (m + 1) = true := hB
      obtain ⟨k1, k2⟩ := olF_bd hl2'
      obtain ⟨o1, o2⟩ := olF_bd (one_laid hok)
      generalize hN2 : olF (withF f m r) (m + 1) = N2 at hmo k1 k2
      have HN2 := Lib.hid hN2
      obtain ⟨V, hV⟩ : ∃ V, 2 * (r.r - r.l + r.h - r.o) = V := ⟨_, rfl⟩
      have hoV : olF (fun _ => r) 1 = V := by rw [ho, ← hV]; omega
      have HOW := Lib.hid hoV
      rw [hoV] at hmo o1 o2
      clear hN2 ho hoV hl5 hok hl2'
      go_wp2_with fail
      refine (iwo_v4 A m lcap f r (m + 1) true HM.out hB _ Hmm.out HO4a.out.rs HH1.out).mono ?_; rintro e w5 hp; have HP5 := Lib.hid hp; clear hp; obtain ⟨A5, c5, g5, rfl, ho5, hg5, _, hb5⟩ := HP5.out; have hz5 := hb5.size; (try simp at hz5); have O5 := Lib.hid ho5; clear ho5; have _ : w4.heap.size < w5.heap.size := (by first | (simp; done) | omega | (simp; omega)); have _ := fun o => hb5.cell (p := ⟨w4.heap.size, o, none⟩) (by first | (simp; done) | omega | (simp; omega))
      go_wp2_with fail
      refine (I.olv _ 1 1 (fun _ => r) V HOW.out _ (by unfold maxLen; omega) (Rs.one4 _ r _ rfl)).mono ?_; rintro e w6 ⟨rfl, hb6⟩; have hz6 := hb6.size; (try simp at hz6); have _ : w4.heap.size < w6.heap.size := (by first | (simp; done) | omega | (simp; omega)); have _ := fun o => hb6.cell (p := ⟨w4.heap.size, o, none⟩) (by first | (simp; done) | omega | (simp; omega))
      have O6 := Lib.hid ((O5.out.below ((Below.refl _ _).alloc (Nat.le_refl _) _)).below hb6)
      go_wp2_with fail
      refine (I.olv A5 (m + 1) c5 (withF f m r) N2 HN2.out _ (by unfold maxLen; omega) O6.out.rs).mono ?_; rintro e w7 ⟨rfl, hb7⟩; have hz7 := hb7.size; (try simp at hz7)
      go_wp2_with fail
      refine (alive_any _).mono ?_; rintro e w8 ⟨rfl, hb8⟩; have hz8 := hb8.size; (try simp at hz8)
      go_wp2
      go_ret
      exact ⟨rfl, by (repeat (first | with_reducible exact Below.refl _ _ | with_reducible assumption | ((with_reducible refine Below.alloc ?_ ?_ _); rotate_left; focus (first | with_reducible exact Nat.le_refl _ | omega | (simp; done) | (simp; omega))) | ((with_reducible refine Below.setCell ?_ ?_ _); rotate_left; focus (first | with_reducible exact Nat.le_refl _ | omega | (simp; done) | (simp; omega))) | (with_reducible refine Below.drew ?_) | ((with_reducible refine Below.trans ?_ (Below.mono (by with_reducible assumption) ?_)); rotate_left; focus (first | with_reducible exact Nat.le_refl _ | omega | (simp; done) | (simp; omega)))))⟩

end Go.Proofs.Ytbdpngjakccjjaa
