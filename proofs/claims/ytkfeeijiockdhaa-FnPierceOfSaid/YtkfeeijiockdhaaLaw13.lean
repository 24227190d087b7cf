/- The laws of chapter 5: their walks. -/
import Derived.Test.YtkfeeijiockdhaaMathV
import Derived.Test.YtkfeeijiockdhaaEx8
import Derived.Test.YtkfeeijiockdhaaEx7
import Derived.Test.YtkfeeijiockdhaaClose
import Derived.Test.YtkfeeijiockdhaaDr
import Derived.Test.YtkfeeijiockdhaaWi
namespace Go.Proofs.Ytkfeeijiockdhaa
open Go.RowKit Go.Sort Go.BigFrame
set_option linter.unusedVariables false
theorem Rs.two5 (w : World) (r s : Rt) (g : Nat) (hg : w.heap.size = g) : Rs (w.alloc (.cells #[.int .i64 r.l, .int .i64 r.o, .int .i64 r.r, .int .i64 r.h, .int .i64 s.l, .int .i64 s.o, .int .i64 s.r, .int .i64 s.h] 29)) (some ⟨g, 0, none⟩) 2 (twoR r s) := by
  subst hg
  refine Or.inr ⟨w.heap.size, 0, rfl, by simp, fun i hi => ?_⟩
  rcases (show i = 0 ∨ i = 1 by omega) with rfl | rfl
  · rw [show twoR r s 0 = r from rfl]; refine ⟨?_, ?_, ?_, ?_⟩ <;> go_simp
  · rw [show twoR r s 1 = s from rfl]; refine ⟨?_, ?_, ?_, ?_⟩ <;> go_simp
def WoPost5 (M : Nat) (B : Bool) (f : Nat → Rt) (w : World) (e : Ending) (w' : World) : Prop :=
  ∃ A cap g, e = .returned (.tuple #[.slice A M cap, .bool B]) ∧ Ow w' A M f g ∧ w.heap.size ≤ g ∧ Hd A M cap ∧ Below w.heap.size w w'
theorem iwo_v5 (A : Option Addr) (n cap : Nat) (f : Nat → Rt) (r : Rt) (M : Nat) (B : Bool) (hM : cntF (woB f n r) (n + 1) = M) (hB : woB f n r = B) (w : World) (hn : n ≤ maxLen) (hr : Rs w A n f) (hh : Hd A n cap) :
    Calls Try.prog 19 #[.slice A n cap, rv r] w (WoPost5 M B (withF f n r) w) := by
  subst hM hB; exact iwo_any A n cap f r w hn hr hh
set_option maxHeartbeats 8000000 in
set_option maxRecDepth 100000 in
theorem walkPierceOf (I_pr : IPr5) (I_ap : IAp5) (a1 : Option Addr) (len1 cap1 : Nat) (a2 : Option Addr) (len2 cap2 : Nat) (w : World) (hc1 : Came w a1 len1 cap1) (hc2 : Came w a2 len2 cap2) :
    Calls Try.prog 3 #[.slice a1 len1 cap1, .slice a2 len2 cap2] w fun e w' => e = .returned (.bool true) ∧ Below w.heap.size w w' := by
  have hm1 := hc1.len_le
  have hm2 := hc2.len_le
  by_cases hl1 : 1048576 < len1
  · go_enter Try.func3, Try.ntmps3
    go_wp2
    go_ret
    exact ⟨rfl, Below.refl _ _⟩
  by_cases hl2 : 1048576 < len2
  · go_enter Try.func3, Try.ntmps3
    go_wp2
    go_ret
    exact ⟨rfl, Below.refl _ _⟩
  go_enter Try.func3, Try.ntmps3
  go_wp2_with fail
  refine (dPierceOf _ _ _ _ hc1).mono ?_; rintro e w1 hp; have HP1 := Lib.hid hp; clear hp; obtain ⟨A, m, lcap, g, f, rfl, hm8, ho1, hg1, hh1, hb1⟩ := HP1.out; have hz1 := hb1.size; (try simp at hz1); have HO1 := Lib.hid ho1; have HH1 := Lib.hid hh1; clear ho1 hh1; have hmm : m ≤ maxLen := (by unfold maxLen; omega); have Hmm := Lib.hid hmm; clear hmm
  have HC2 := Lib.hid (hc2.below hb1)
  cases hL : laidF f m
  · have HN : Hid (prF f m = -1) := Lib.hid (by unfold prF; rw [hL]; rfl)
    go_wp2_with fail
    refine (I_pr.prv A m lcap f (-1) HN.out _ Hmm.out HO1.out.rs).mono ?_; rintro e w2 ⟨rfl, hb2⟩; have hz2 := hb2.size; (try simp at hz2); have HO2 := Lib.hid (HO1.out.below hb2)
    go_wp2_with fail
    refine (spr_val A m lcap f (-1) HN.out _ Hmm.out HO2.out.rs).mono ?_; rintro e w3 ⟨rfl, hb3⟩; have hz3 := hb3.size; (try simp at hz3); have HO3 := Lib.hid (HO2.out.below hb3)
    go_wp2_with fail
    refine (ilaid_val A m lcap f false hL _ Hmm.out HO3.out.rs).mono ?_; rintro e w4 ⟨rfl, hb4⟩; have hz4 := hb4.size; (try simp at hz4)
    go_wp2_with fail
    refine (alive_any _).mono ?_; rintro e w5 ⟨rfl, hb5⟩; have hz5 := hb5.size; (try simp at hz5)
    go_wp2
    go_ret
    exact ⟨rfl, by (repeat (first | with_reducible exact Below.refl _ _ | with_reducible assumption | ((with_reducible refine Below.alloc ?_ ?_ _); rotate_left; focus (first | with_reducible exact Nat.le_refl _ | omega | (simp; done) | (simp; omega))) | ((with_reducible refine Below.setCell ?_ ?_ _); rotate_left; focus (first | with_reducible exact Nat.le_refl _ | omega | (simp; done) | (simp; omega))) | (with_reducible refine Below.drew ?_) | ((with_reducible refine Below.trans ?_ (Below.mono (by with_reducible assumption) ?_)); rotate_left; focus (first | with_reducible exact Nat.le_refl _ | omega | (simp; done) | (simp; omega)))))⟩
  · obtain ⟨p1, p2, p3⟩ := pierce_say hL
    obtain ⟨q1, q2⟩ := apF_bd hL
    have HMo := Lib.hid (fun r (h : woB f m r = true) => pierce_more h)
    generalize hP : prF f m = P at p1 p2 p3 HMo
    generalize hAP : apF f m = AP at p1 p3 q1 q2
    have HPP := Lib.hid hP
    have HAP := Lib.hid hAP
    have HSm := Lib.hid p3
    clear hP hAP p3
    go_wp2_with fail
    refine (I_pr.prv A m lcap f P HPP.out _ Hmm.out HO1.out.rs).mono ?_; rintro e w2 ⟨rfl, hb2⟩; have hz2 := hb2.size; (try simp at hz2); have HO2 := Lib.hid (HO1.out.below hb2)
    go_wp2_with fail
    refine (spr_val A m lcap f P HPP.out _ Hmm.out HO2.out.rs).mono ?_; rintro e w3 ⟨rfl, hb3⟩; have hz3 := hb3.size; (try simp at hz3); have HO3 := Lib.hid (HO2.out.below hb3)
    have HB3 : Hid (Below w.heap.size w w3) := Lib.hid (by (repeat (first | with_reducible exact Below.refl _ _ | with_reducible assumption | ((with_reducible refine Below.alloc ?_ ?_ _); rotate_left; focus (first | with_reducible exact Nat.le_refl _ | omega | (simp; done) | (simp; omega))) | ((with_reducible refine Below.setCell ?_ ?_ _); rotate_left; focus (first | with_reducible exact Nat.le_refl _ | omega | (simp; done) | (simp; omega))) | (with_reducible refine Below.drew ?_) | ((with_reducible refine Below.trans ?_ (Below.mono (by with_reducible assumption) ?_)); rotate_left; focus (first | with_reducible exact Nat.le_refl _ | omega | (simp; done) | (simp; omega))))))
    have hle3 : w.heap.size ≤ w3.heap.size := HB3.out.size
    have HC3 := Lib.hid ((HC2.out.below hb2).below hb3)
    clear hb1 hb2 hb3
    go_wp2
    go_loopw [7, 8] (fun s7 s8 wr => ∃ k : Nat, k ≤ m ∧ s8 = .int .i64 k ∧ s7 = .bool (sameTo f k) ∧ Below w3.heap.size w3 wr) (fun _ s8 _ => m - (intOf s8).toNat)
    case atStart => exact ⟨0, Nat.zero_le _, rfl, rfl, Below.refl _ _⟩
    case round =>
      obtain ⟨k, hk, rfl, rfl, hbr⟩ := hrel
      have hzr := hbr.size
      have HSk : Hid (sameTo f (k + 1) = ((sameTo f k && ((f k).o == (f 0).o)) && ((f k).h == (f 0).h))) := Lib.hid rfl
      by_cases hlt : k < m
      · obtain ⟨b, off, hA, hbl, ⟨c0, c1, c2, c3⟩, d0, d1, d2, d3⟩ := (HO3.out.below hbr).rs.pair hlt (show 0 < m by omega)
        subst hA
        simp only [Nat.zero_mul, Nat.add_zero] at d0 d1 d2 d3
        cases hp : sameTo f k
        · go_wp2_with fail
          have hq : True := trivial; have hq := fun d os o => (below_regrown wr d os).cell (p := ⟨b, o, none⟩) (by first | (simp; done) | omega | (simp; omega)); refine wp_region_quiet_below (by kernel_rfl) (by kernel_rfl) ?_; (repeat (first | go_big_quiet_step (fail) | quiet_step (fail))); refine wpQuiet_nil ?_; intro _ hw'; obtain ⟨⟨dq, osq⟩, hw''⟩ := hw'; subst hw''; clear hq; have hb4 := below_regrown wr dq osq; generalize Sort.grow (redrawn wr dq) osq = w4 at hb4 ⊢; have hz4 := hb4.size; (try simp at hz4); have _ : b < w4.heap.size := (by first | (simp; done) | omega | (simp; omega)); have _ := fun o => hb4.cell (p := ⟨b, o, none⟩) (by first | (simp; done) | omega | (simp; omega))
          go_wp2
          go_roundw
          case rel => exact ⟨k + 1, by omega, by go_num, by rw [HSk.out, hp]; rfl, by (repeat (first | with_reducible exact Below.refl _ _ | with_reducible assumption | ((with_reducible refine Below.alloc ?_ ?_ _); rotate_left; focus (first | with_reducible exact Nat.le_refl _ | omega | (simp; done) | (simp; omega))) | ((with_reducible refine Below.setCell ?_ ?_ _); rotate_left; focus (first | with_reducible exact Nat.le_refl _ | omega | (simp; done) | (simp; omega))) | (with_reducible refine Below.drew ?_) | ((with_reducible refine Below.trans ?_ (Below.mono (by with_reducible assumption) ?_)); rotate_left; focus (first | with_reducible exact Nat.le_refl _ | omega | (simp; done) | (simp; omega)))))⟩
          case measure => simp [intOf]; omega
        · cases h1 : ((f k).o == (f 0).o)
          · go_wp2_with fail
            have hq : True := trivial; have hq := fun d os o => (below_regrown wr d os).cell (p := ⟨b, o, none⟩) (by first | (simp; done) | omega | (simp; omega)); refine wp_region_quiet_below (by kernel_rfl) (by kernel_rfl) ?_; (repeat (first | go_big_quiet_step (fail) | quiet_step (fail))); refine wpQuiet_nil ?_; intro _ hw'; obtain ⟨⟨dq, osq⟩, hw''⟩ := hw'; subst hw''; clear hq; have hb4 := below_regrown wr dq osq; generalize Sort.grow (redrawn wr dq) osq = w4 at hb4 ⊢; have hz4 := hb4.size; (try simp at hz4); have _ : b < w4.heap.size := (by first | (simp; done) | omega | (simp; omega)); have _ := fun o => hb4.cell (p := ⟨b, o, none⟩) (by first | (simp; done) | omega | (simp; omega))
            go_wp2
            go_roundw
            case rel => exact ⟨k + 1, by omega, by go_num, by rw [HSk.out, hp, h1]; rfl, by (repeat (first | with_reducible exact Below.refl _ _ | with_reducible assumption | ((with_reducible refine Below.alloc ?_ ?_ _); rotate_left; focus (first | with_reducible exact Nat.le_refl _ | omega | (simp; done) | (simp; omega))) | ((with_reducible refine Below.setCell ?_ ?_ _); rotate_left; focus (first | with_reducible exact Nat.le_refl _ | omega | (simp; done) | (simp; omega))) | (with_reducible refine Below.drew ?_) | ((with_reducible refine Below.trans ?_ (Below.mono (by with_reducible assumption) ?_)); rotate_left; focus (first | with_reducible exact Nat.le_refl _ | omega | (simp; done) | (simp; omega)))))⟩
            case measure => simp [intOf]; omega
          · cases h2 : ((f k).h == (f 0).h)
            · go_wp2_with fail
              have hq : True := trivial; have hq := fun d os o => (below_regrown wr d os).cell (p := ⟨b, o, none⟩) (by first | (simp; done) | omega | (simp; omega)); refine wp_region_quiet_below (by kernel_rfl) (by kernel_rfl) ?_; (repeat (first | go_big_quiet_step (fail) | quiet_step (fail))); refine wpQuiet_nil ?_; intro _ hw'; obtain ⟨⟨dq, osq⟩, hw''⟩ := hw'; subst hw''; clear hq; have hb4 := below_regrown wr dq osq; generalize Sort.grow (redrawn wr dq) osq = w4 at hb4 ⊢; have hz4 := hb4.size; (try simp at hz4); have _ : b < w4.heap.size := (by first | (simp; done) | omega | (simp; omega)); have _ := fun o => hb4.cell (p := ⟨b, o, none⟩) (by first | (simp; done) | omega | (simp; omega))
              go_wp2
              go_roundw
              case rel => exact ⟨k + 1, by omega, by go_num, by rw [HSk.out, hp, h1, h2]; rfl, by (repeat (first | with_reducible exact Below.refl _ _ | with_reducible assumption | ((with_reducible refine Below.alloc ?_ ?_ _); rotate_left; focus (first | with_reducible exact Nat.le_refl _ | omega | (simp; done) | (simp; omega))) | ((with_reducible refine Below.setCell ?_ ?_ _); rotate_left; focus (first | with_reducible exact Nat.le_refl _ | omega | (simp; done) | (simp; omega))) | (with_reducible refine Below.drew ?_) | ((with_reducible refine Below.trans ?_ (Below.mono (by with_reducible assumption) ?_)); rotate_left; focus (first | with_reducible exact Nat.le_refl _ | omega | (simp; done) | (simp; omega)))))⟩
              case measure => simp [intOf]; omega
            · go_wp2_with fail
              have hq : True := trivial; have hq := fun d os o => (below_regrown wr d os).cell (p := ⟨b, o, none⟩) (by first | (simp; done) | omega | (simp; omega)); refine wp_region_quiet_below (by kernel_rfl) (by kernel_rfl) ?_; (repeat (first | go_big_quiet_step (fail) | quiet_step (fail))); refine wpQuiet_nil ?_; intro _ hw'; obtain ⟨⟨dq, osq⟩, hw''⟩ := hw'; subst hw''; clear hq; have hb4 := below_regrown wr dq osq; generalize Sort.grow (redrawn wr dq) osq = w4 at hb4 ⊢; have hz4 := hb4.size; (try simp at hz4); have _ : b < w4.heap.size := (by first | (simp; done) | omega | (simp; omega)); have _ := fun o => hb4.cell (p := ⟨b, o, none⟩) (by first | (simp; done) | omega | (simp; omega))
              go_wp2
              go_roundw
              case rel => exact ⟨k + 1, by omega, by go_num, by rw [HSk.out, hp, h1, h2]; rfl, by (repeat (first | with_reducible exact Below.refl _ _ | with_reducible assumption | ((with_reducible refine Below.alloc ?_ ?_ _); rotate_left; focus (first | with_reducible exact Nat.le_refl _ | omega | (simp; done) | (simp; omega))) | ((with_reducible refine Below.setCell ?_ ?_ _); rotate_left; focus (first | with_reducible exact Nat.le_refl _ | omega | (simp; done) | (simp; omega))) | (with_reducible refine Below.drew ?_) | ((with_reducible refine Below.trans ?_ (Below.mono (by with_reducible assumption) ?_)); rotate_left; focus (first | with_reducible exact Nat.le_refl _ | omega | (simp; done) | (simp; omega)))))⟩
              case measure => simp [intOf]; omega
      · obtain rfl : k = m := by omega
        have HOr := Lib.hid (HO3.out.below hbr)
        have HBr := Lib.hid (HB3.out.trans (hbr.mono hle3))
        have HC4 := Lib.hid (HC3.out.below hbr)
        clear hbr
        cases hp : sameTo f k
        · go_wp2_with fail
          refine (I_ap.apv A k lcap f AP HAP.out _ Hmm.out HOr.out.rs).mono ?_; rintro e w4 ⟨rfl, hb4⟩; have hz4 := hb4.size; (try simp at hz4)
          have HC5 := Lib.hid (HC4.out.below hb4)
          go_wp2_with fail
          refine (dOverOf _ _ _ _ HC5.out).mono ?_; rintro e w5 hp5; obtain ⟨r, rfl, nr, hb5⟩ := hp5; have hz5 := hb5.size; (try simp at hz5); have HO5 := Lib.hid ((HOr.out.below hb4).below hb5)
          have HB5 : Hid (Below w.heap.size w w5) := Lib.hid (HBr.out.trans (Below.mono (by (repeat (first | with_reducible exact Below.refl _ _ | with_reducible assumption | ((with_reducible refine Below.alloc ?_ ?_ _); rotate_left; focus (first | with_reducible exact Nat.le_refl _ | omega | (simp; done) | (simp; omega))) | ((with_reducible refine Below.setCell ?_ ?_ _); rotate_left; focus (first | with_reducible exact Nat.le_refl _ | omega | (simp; done) | (simp; omega))) | (with_reducible refine Below.drew ?_) | ((with_reducible refine Below.trans ?_ (Below.mono (by with_reducible assumption) ?_)); rotate_left; focus (first | with_reducible exact Nat.le_refl _ | omega | (simp; done) | (simp; omega)))))) HBr.out.size))
          have hle5 : w.heap.size ≤ w5.heap.size := HB5.out.size
          clear nr hb4 hb5
          cases hB : woB f k r
          · skip
            have HM : Hid (cntF (woB f k r) (k + 1) = 0) := Lib.hid (by rw [hB]; rfl)
            obtain ⟨V, hV⟩ : ∃ V, prF (withF f k r) 0 = V := ⟨_, rfl⟩
            have HVV := Lib.hid hV
            clear hV
            go_wp2_with fail
            refine (iwo_v5 A k lcap f r 0 false HM.out hB _ Hmm.out HO5.out.rs HH1.out).mono ?_; rintro e w6 hp; have HP6 := Lib.hid hp; clear hp; obtain ⟨A6, c6, g6, rfl, ho6, hg6, _, hb6⟩ := HP6.out; have hz6 := hb6.size; (try simp at hz6); have O6 := Lib.hid ho6; clear ho6
            go_wp2_with fail
            refine (I_pr.prv A6 0 c6 (withF f k r) V HVV.out _ (by unfold maxLen; omega) O6.out.rs).mono ?_; rintro e w7 ⟨rfl, hb7⟩; have hz7 := hb7.size; (try simp at hz7)
            go_wp2_with fail
            refine (alive_any _).mono ?_; rintro e w8 ⟨rfl, hb8⟩; have hz8 := hb8.size; (try simp at hz8)
            go_wp2
            go_ret
            exact ⟨rfl, HB5.out.trans (Below.mono (by (repeat (first | with_reducible exact Below.refl _ _ | with_reducible assumption | ((with_reducible refine Below.alloc ?_ ?_ _); rotate_left; focus (first | with_reducible exact Nat.le_refl _ | omega | (simp; done) | (simp; omega))) | ((with_reducible refine Below.setCell ?_ ?_ _); rotate_left; focus (first | with_reducible exact Nat.le_refl _ | omega | (simp; done) | (simp; omega))) | (with_reducible refine Below.drew ?_) | ((with_reducible refine Below.trans ?_ (Below.mono (by with_reducible assumption) ?_)); rotate_left; focus (first | with_reducible exact Nat.le_refl _ | omega | (simp; done) | (simp; omega)))))) hle5)⟩
          · skip
            have HM : Hid (cntF (woB f k r) (k + 1) = (k + 1)) := Lib.hid (by rw [hB]; rfl)
            obtain ⟨V, hV⟩ : ∃ V, prF (withF f k r) (k + 1) = V := ⟨_, rfl⟩
            obtain ⟨v1, v2⟩ := HMo.out r hB
            rw [hV] at v1 v2
            have HVV := Lib.hid hV
            clear hV
            go_wp2_with fail
            refine (iwo_v5 A k lcap f r (k + 1) true HM.out hB _ Hmm.out HO5.out.rs HH1.out).mono ?_; rintro e w6 hp; have HP6 := Lib.hid hp; clear hp; obtain ⟨A6, c6, g6, rfl, ho6, hg6, _, hb6⟩ := HP6.out; have hz6 := hb6.size; (try simp at hz6); have O6 := Lib.hid ho6; clear ho6
            go_wp2_with fail
            refine (I_pr.prv A6 (k + 1) c6 (withF f k r) V HVV.out _ (by unfold maxLen; omega) O6.out.rs).mono ?_; rintro e w7 ⟨rfl, hb7⟩; have hz7 := hb7.size; (try simp at hz7)
            go_wp2_with fail
            refine (alive_any _).mono ?_; rintro e w8 ⟨rfl, hb8⟩; have hz8 := hb8.size; (try simp at hz8)
            go_wp2
            go_ret
            exact ⟨rfl, HB5.out.trans (Below.mono (by (repeat (first | with_reducible exact Below.refl _ _ | with_reducible assumption | ((with_reducible refine Below.alloc ?_ ?_ _); rotate_left; focus (first | with_reducible exact Nat.le_refl _ | omega | (simp; done) | (simp; omega))) | ((with_reducible refine Below.setCell ?_ ?_ _); rotate_left; focus (first | with_reducible exact Nat.le_refl _ | omega | (simp; done) | (simp; omega))) | (with_reducible refine Below.drew ?_) | ((with_reducible refine Below.trans ?_ (Below.mono (by with_reducible assumption) ?_)); rotate_left; focus (first | with_reducible exact Nat.le_refl _ | omega | (simp; done) | (simp; omega)))))) hle5)⟩
        · have hpa : P = AP := HSm.out hp
          subst hpa
          go_wp2_with fail
          refine (I_ap.apv A k lcap f P HAP.out _ Hmm.out HOr.out.rs).mono ?_; rintro e w4 ⟨rfl, hb4⟩; have hz4 := hb4.size; (try simp at hz4)
          have HC5 := Lib.hid (HC4.out.below hb4)
          go_wp2_with fail
          refine (dOverOf _ _ _ _ HC5.out).mono ?_; rintro e w5 hp5; obtain ⟨r, rfl, nr, hb5⟩ := hp5; have hz5 := hb5.size; (try simp at hz5); have HO5 := Lib.hid ((HOr.out.below hb4).below hb5)
          have HB5 : Hid (Below w.heap.size w w5) := Lib.hid (HBr.out.trans (Below.mono (by (repeat (first | with_reducible exact Below.refl _ _ | with_reducible assumption | ((with_reducible refine Below.alloc ?_ ?_ _); rotate_left; focus (first | with_reducible exact Nat.le_refl _ | omega | (simp; done) | (simp; omega))) | ((with_reducible refine Below.setCell ?_ ?_ _); rotate_left; focus (first | with_reducible exact Nat.le_refl _ | omega | (simp; done) | (simp; omega))) | (with_reducible refine Below.drew ?_) | ((with_reducible refine Below.trans ?_ (Below.mono (by with_reducible assumption) ?_)); rotate_left; focus (first | with_reducible exact Nat.le_refl _ | omega | (simp; done) | (simp; omega)))))) HBr.out.size))
          have hle5 : w.heap.size ≤ w5.heap.size := HB5.out.size
          clear nr hb4 hb5
          cases hB : woB f k r
          · skip
            have HM : Hid (cntF (woB f k r) (k + 1) = 0) := Lib.hid (by rw [hB]; rfl)
            obtain ⟨V, hV⟩ : ∃ V, prF (withF f k r) 0 = V := ⟨_, rfl⟩
            have HVV := Lib.hid hV
            clear hV
            go_wp2_with fail
            refine (iwo_v5 A k lcap f r 0 false HM.out hB _ Hmm.out HO5.out.rs HH1.out).mono ?_; rintro e w6 hp; have HP6 := Lib.hid hp; clear hp; obtain ⟨A6, c6, g6, rfl, ho6, hg6, _, hb6⟩ := HP6.out; have hz6 := hb6.size; (try simp at hz6); have O6 := Lib.hid ho6; clear ho6
            go_wp2_with fail
            refine (I_pr.prv A6 0 c6 (withF f k r) V HVV.out _ (by unfold maxLen; omega) O6.out.rs).mono ?_; rintro e w7 ⟨rfl, hb7⟩; have hz7 := hb7.size; (try simp at hz7)
            go_wp2_with fail
            refine (alive_any _).mono ?_; rintro e w8 ⟨rfl, hb8⟩; have hz8 := hb8.size; (try simp at hz8)
            go_wp2
            go_ret
            exact ⟨rfl, HB5.out.trans (Below.mono (by (repeat (first | with_reducible exact Below.refl _ _ | with_reducible assumption | ((with_reducible refine Below.alloc ?_ ?_ _); rotate_left; focus (first | with_reducible exact Nat.le_refl _ | omega | (simp; done) | (simp; omega))) | ((with_reducible refine Below.setCell ?_ ?_ _); rotate_left; focus (first | with_reducible exact Nat.le_refl _ | omega | (simp; done) | (simp; omega))) | (with_reducible refine Below.drew ?_) | ((with_reducible refine Below.trans ?_ (Below.mono (by with_reducible assumption) ?_)); rotate_left; focus (first | with_reducible exact Nat.le_refl _ | omega | (simp; done) | (simp; omega)))))) hle5)⟩
          · skip
            have HM : Hid (cntF (woB f k r) (k + 1) = (k + 1)) := Lib.hid (by rw [hB]; rfl)
            obtain ⟨V, hV⟩ : ∃ V, prF (withF f k r) (k + 1) = V := ⟨_, rfl⟩
            obtain ⟨v1, v2⟩ := HMo.out r hB
            rw [hV] at v1 v2
            have HVV := Lib.hid hV
            clear hV
            go_wp2_with fail
            refine (iwo_v5 A k lcap f r (k + 1) true HM.out hB _ Hmm.out HO5.out.rs HH1.out).mono ?_; rintro e w6 hp; have HP6 := Lib.hid hp; clear hp; obtain ⟨A6, c6, g6, rfl, ho6, hg6, _, hb6⟩ := HP6.out; have hz6 := hb6.size; (try simp at hz6); have O6 := Lib.hid ho6; clear ho6
            go_wp2_with fail
            refine (I_pr.prv A6 (k + 1) c6 (withF f k r) V HVV.out _ (by unfold maxLen; omega) O6.out.rs).mono ?_; rintro e w7 ⟨rfl, hb7⟩; have hz7 := hb7.size; (try simp at hz7)
            go_wp2_with fail
            refine (alive_any _).mono ?_; rintro e w8 ⟨rfl, hb8⟩; have hz8 := hb8.size; (try simp at hz8)
            go_wp2
            go_ret
            exact ⟨rfl, HB5.out.trans (Below.mono (by (repeat (first | with_reducible exact Below.refl _ _ | with_reducible assumption | ((with_reducible refine Below.alloc ?_ ?_ _); rotate_left; focus (first | with_reducible exact Nat.le_refl _ | omega | (simp; done) | (simp; omega))) | ((with_reducible refine Below.setCell ?_ ?_ _); rotate_left; focus (first | with_reducible exact Nat.le_refl _ | omega | (simp; done) | (simp; omega))) | (with_reducible refine Below.drew ?_) | ((with_reducible refine Below.trans ?_ (Below.mono (by with_reducible assumption) ?_)); rotate_left; focus (first | with_reducible exact Nat.le_refl _ | omega | (simp; done) | (simp; omega)))))) hle5)⟩

end Go.Proofs.Ytkfeeijiockdhaa
