/- What the laws of chapters 5 and 6 draw. -/
import Derived.Test.YtkfeeijiockdhaaLa
namespace Go.Proofs.Ytkfeeijiockdhaa
open Go.RowKit Go.Sort Go.BigFrame
set_option linter.unusedVariables false
def ClosePost (B N : Nat) (w : World) (e : Ending) (w' : World) : Prop :=
  ∃ (A : Option Addr) (n cap g : Nat) (f : Nat → Rt), e = .returned (.slice A n cap) ∧ n ≤ 8 ∧ Ow w' A n f g ∧ w.heap.size ≤ g ∧ Hd A n cap ∧ Sole B w w' ∧ Rd w' B (N + 200)

set_option maxHeartbeats 4000000 in
set_option maxRecDepth 20000 in
theorem close_any (B N : Nat) (nn : Int) (w : World) (hr : Rd w B N) (hN : N ≤ 800000) (hnn : nn ≤ 1000) :
    Calls Try.prog 45 #[.pointer (some ⟨B, 0, none⟩), .int .i64 nn] w (ClosePost B N w) := by
  have hB := hr.lt
  go_enter Try.func45, Try.ntmps45
  go_wp2_with fail
  refine (pick_any (B) (N) _ _ (hr) (by omega) (by omega)).mono ?_; rintro e w1 hp; obtain ⟨v1, rfl, p1, q1, _, hs1, hr1⟩ := hp; have hz1 := hs1.size; (try simp at hz1)
  have HS1 := Lib.hid hs1
  have hle1 : w.heap.size ≤ w1.heap.size := HS1.out.size
  have HR1 := Lib.hid hr1
  have q1' := q1 (by omega)
  clear hs1 hr1 q1
  by_cases hv1 : v1 = 0
  · subst hv1
    go_wp2_with fail
    refine (pick_any (B) (N + 1) _ _ (HR1.out.alloc _) (by omega) (by omega)).mono ?_; rintro e w2 hp; obtain ⟨v2, rfl, p2, q2, _, hs2, hr2⟩ := hp; have hz2 := hs2.size; (try simp at hz2)
    have HS2 := Lib.hid ((HS1.out.alloc _).trans hs2)
    have hle2 : w.heap.size ≤ w2.heap.size := HS2.out.size
    have HR2 := Lib.hid hr2
    have q2' := q2 (by omega)
    have HO2 := Lib.hid (own_sole (own_empty w1 w.heap.size w1.heap.size rfl hle1) hs2 hB)
    clear hs2 hr2 q2
    go_wp2_with fail
    refine (pick_any (B) (N + 1 + 1) _ _ (HR2.out) (by omega) (by omega)).mono ?_; rintro e w3 hp; obtain ⟨v3, rfl, p3, q3, _, hs3, hr3⟩ := hp; have hz3 := hs3.size; (try simp at hz3)
    have HS3 := Lib.hid (HS2.out.trans hs3)
    have hle3 : w.heap.size ≤ w3.heap.size := HS3.out.size
    have HR3 := Lib.hid hr3
    have q3' := q3 (by omega)
    have HO3 := Lib.hid (own_sole HO2.out hs3 hB)
    clear hs3 hr3 q3
    go_wp2_with fail
    refine (pick_any (B) (N + 1 + 1 + 1) _ _ (HR3.out) (by omega) (by omega)).mono ?_; rintro e w4 hp; obtain ⟨v4, rfl, p4, q4, _, hs4, hr4⟩ := hp; have hz4 := hs4.size; (try simp at hz4)
    have HS4 := Lib.hid (HS3.out.trans hs4)
    have hle4 : w.heap.size ≤ w4.heap.size := HS4.out.size
    have HR4 := Lib.hid hr4
    have q4' := q4 (by omega)
    have HO4 := Lib.hid (own_sole HO3.out hs4 hB)
    clear hs4 hr4 q4
    obtain ⟨V, hV⟩ := Int.eq_ofNat_of_zero_le p4
    subst hV
    go_wp2
    go_loopw [5, 8] (fun s5 s6 wr => ∃ (j m : Nat) (A : Option Addr) (cap : Nat) (f : Nat → Rt), s6 = .int .i64 j ∧ j ≤ 5 ∧ s5 = .slice A m cap ∧ m + j ≤ 5 ∧ wr.ownsRow w.heap.size 29 4 (.slice A m cap) m (rowL f m) ∧ Sole B w wr ∧ Rd wr B (N + 1 + 1 + 1 + 1 + 4 * m)) (fun _ s6 _ => (intOf s6).toNat)
    case atStart => exact ⟨1 + V, 0, _, 0, fun _ => Rt.zero, by go_num, by omega, rfl, by omega, HO4.out, HS4.out, HR4.out⟩
    case round =>
      obtain ⟨j, m, A, cap, f, rfl, hj, rfl, hmj, hown, hsr, hrr⟩ := hrel
      have HO := Lib.hid hown
      have HSr := Lib.hid hsr
      have HRr := Lib.hid hrr
      have hler : w.heap.size ≤ wr.heap.size := hsr.size
      clear hown hsr hrr
      by_cases hj0 : 0 < j
      · go_wp2_with fail
        refine (pick_any (B) (N + 1 + 1 + 1 + 1 + 4 * m) _ _ (HRr.out) (by omega) (by omega)).mono ?_; rintro e w5 hp; obtain ⟨v5, rfl, p5, q5, _, hs5, hr5⟩ := hp; have hz5 := hs5.size; (try simp at hz5)
        have HS5 := Lib.hid (HSr.out.trans hs5)
        have hle5 : w.heap.size ≤ w5.heap.size := HS5.out.size
        have HR5 := Lib.hid hr5
        have q5' := q5 (by omega)
        have HO5 := Lib.hid (own_sole HO.out hs5 hB)
        clear hs5 hr5 q5
        go_wp2_with fail
        refine (pick_any (B) (N + 1 + 1 + 1 + 1 + 4 * m + 1) _ _ (HR5.out) (by omega) (by omega)).mono ?_; rintro e w6 hp; obtain ⟨v6, rfl, p6, q6, _, hs6, hr6⟩ := hp; have hz6 := hs6.size; (try simp at hz6)
        have HS6 := Lib.hid (HS5.out.trans hs6)
        have hle6 : w.heap.size ≤ w6.heap.size := HS6.out.size
        have HR6 := Lib.hid hr6
        have q6' := q6 (by omega)
        have HO6 := Lib.hid (own_sole HO5.out hs6 hB)
        clear hs6 hr6 q6
        go_wp2_with fail
        refine (pick_any (B) (N + 1 + 1 + 1 + 1 + 4 * m + 1 + 1) _ _ (HR6.out) (by omega) (by omega)).mono ?_; rintro e w7 hp; obtain ⟨v7, rfl, p7, q7, _, hs7, hr7⟩ := hp; have hz7 := hs7.size; (try simp at hz7)
        have HS7 := Lib.hid (HS6.out.trans hs7)
        have hle7 : w.heap.size ≤ w7.heap.size := HS7.out.size
        have HR7 := Lib.hid hr7
        have q7' := q7 (by omega)
        have HO7 := Lib.hid (own_sole HO6.out hs7 hB)
        clear hs7 hr7 q7
        go_wp2_with fail
        refine (pick_any (B) (N + 1 + 1 + 1 + 1 + 4 * m + 1 + 1 + 1) _ _ (HR7.out) (by omega) (by omega)).mono ?_; rintro e w8 hp; obtain ⟨v8, rfl, p8, q8, _, hs8, hr8⟩ := hp; have hz8 := hs8.size; (try simp at hz8)
        have HS8 := Lib.hid (HS7.out.trans hs8)
        have hle8 : w.heap.size ≤ w8.heap.size := HS8.out.size
        have HR8 := Lib.hid hr8
        have q8' := q8 (by omega)
        have HO8 := Lib.hid (own_sole HO7.out hs8 hB)
        clear hs8 hr8 q8
        have HOa := Lib.hid (HO8.out.alloc (.cells #[.int .i64 (4 + v2 - v5), .int .i64 (4 + v3 - v6), .int .i64 (4 + v2 + 1 + v7), .int .i64 (4 + v3 + 1 + v8)] 29))
        go_wp2_with (refine list_rects _ rfl (.tmp 29) (.tmp 49) rfl w.heap.size _ m (rowL f m) rfl HOa.out _ 1 1 (four ⟨4 + v2 - v5, 4 + v3 - v6, 4 + v2 + 1 + v7, 4 + v3 + 1 + v8⟩) rfl rfl (fun e => by cases e) (Four.new w8 ⟨4 + v2 - v5, 4 + v3 - v6, 4 + v2 + 1 + v7, 4 + v3 + 1 + v8⟩ _ rfl).ne (four_one _) (by omega) (by simp; omega) ?_; intro A3 c3 wz hown3 hg3 hb3; rw [rowL_with] at hown3; have HO3 := Lib.hid hown3; have HB3 := Lib.hid hb3; clear hown3 hg3 hb3)
        go_roundw
        case rel =>
          refine ⟨j - 1, m + 1, A3, c3, withF f m ⟨4 + v2 - v5, 4 + v3 - v6, 4 + v2 + 1 + v7, 4 + v3 + 1 + v8⟩, ?_, by omega, rfl, by omega, HO3.out, ?_, ?_⟩
          · rw [show ((j - 1 : Nat) : Int) = (j : Int) - 1 by omega]
          · exact HS8.out.on (Below.trans ((Below.refl _ _).alloc hle8 _) HB3.out)
          · exact (HR8.out.below (Below.trans ((Below.refl _ _).alloc hle8 _) HB3.out) hB).le (by omega)
        case measure => simp [intOf]; omega
      · have hjz : j = 0 := by omega
        subst hjz
        obtain ⟨g, hOw, hgb, hHd⟩ := own_ow' HO.out
        have Hhd := Lib.hid hHd
        have HOw := Lib.hid hOw
        clear hHd hOw
        go_wp2
        go_ret
        exact ⟨_, m, cap, g, f, rfl, by omega, HOw.out, hgb, Hhd.out, HSr.out, HRr.out.le (by omega)⟩
  · go_wp2_with fail
    refine (pick_any (B) (N + 1) _ _ (HR1.out) (by omega) (by omega)).mono ?_; rintro e w2 hp; obtain ⟨v2, rfl, p2, q2, _, hs2, hr2⟩ := hp; have hz2 := hs2.size; (try simp at hz2)
    have HS2 := Lib.hid (HS1.out.trans hs2)
    have hle2 : w.heap.size ≤ w2.heap.size := HS2.out.size
    have HR2 := Lib.hid hr2
    have q2' := q2 (by omega)
    clear hs2 hr2 q2
    by_cases hv2 : v2 = 0
    · subst hv2
      go_wp2_with fail
      refine (pick_any (B) (N + 1 + 1) _ _ (HR2.out.alloc _) (by omega) (by omega)).mono ?_; rintro e w3 hp; obtain ⟨v3, rfl, p3, q3, _, hs3, hr3⟩ := hp; have hz3 := hs3.size; (try simp at hz3)
      have HS3 := Lib.hid ((HS2.out.alloc _).trans hs3)
      have hle3 : w.heap.size ≤ w3.heap.size := HS3.out.size
      have HR3 := Lib.hid hr3
      have q3' := q3 (by omega)
      have HO3 := Lib.hid (own_sole (own_empty w2 w.heap.size w2.heap.size rfl hle2) hs3 hB)
      clear hs3 hr3 q3
      obtain ⟨V, hV⟩ := Int.eq_ofNat_of_zero_le p3
      subst hV
      go_wp2
      go_loopw [9, 10] (fun s5 s6 wr => ∃ (j m : Nat) (A : Option Addr) (cap : Nat) (f : Nat → Rt), s6 = .int .i64 j ∧ j ≤ 6 ∧ s5 = .slice A m cap ∧ m + j ≤ 6 ∧ wr.ownsRow w.heap.size 29 4 (.slice A m cap) m (rowL f m) ∧ Sole B w wr ∧ Rd wr B (N + 1 + 1 + 1 + 2 * m)) (fun _ s6 _ => (intOf s6).toNat)
      case atStart => exact ⟨1 + V, 0, _, 0, fun _ => Rt.zero, by go_num, by omega, rfl, by omega, HO3.out, HS3.out, HR3.out⟩
      case round =>
        obtain ⟨j, m, A, cap, f, rfl, hj, rfl, hmj, hown, hsr, hrr⟩ := hrel
        have HO := Lib.hid hown
        have HSr := Lib.hid hsr
        have HRr := Lib.hid hrr
        have hler : w.heap.size ≤ wr.heap.size := hsr.size
        clear hown hsr hrr
        by_cases hj0 : 0 < j
        · go_wp2_with fail
          refine (pick_any (B) (N + 1 + 1 + 1 + 2 * m) _ _ (HRr.out) (by omega) (by omega)).mono ?_; rintro e w4 hp; obtain ⟨v4, rfl, p4, q4, _, hs4, hr4⟩ := hp; have hz4 := hs4.size; (try simp at hz4)
          have HS4 := Lib.hid (HSr.out.trans hs4)
          have hle4 : w.heap.size ≤ w4.heap.size := HS4.out.size
          have HR4 := Lib.hid hr4
          have q4' := q4 (by omega)
          have HO4 := Lib.hid (own_sole HO.out hs4 hB)
          clear hs4 hr4 q4
          go_wp2_with fail
          refine (pick_any (B) (N + 1 + 1 + 1 + 2 * m + 1) _ _ (HR4.out) (by omega) (by omega)).mono ?_; rintro e w5 hp; obtain ⟨v5, rfl, p5, q5, _, hs5, hr5⟩ := hp; have hz5 := hs5.size; (try simp at hz5)
          have HS5 := Lib.hid (HS4.out.trans hs5)
          have hle5 : w.heap.size ≤ w5.heap.size := HS5.out.size
          have HR5 := Lib.hid hr5
          have q5' := q5 (by omega)
          have HO5 := Lib.hid (own_sole HO4.out hs5 hB)
          clear hs5 hr5 q5
          have HOa := Lib.hid (HO5.out.alloc (.cells #[.int .i64 (v4), .int .i64 (2), .int .i64 (v4 + 1 + v5), .int .i64 (5)] 29))
          go_wp2_with (refine list_rects _ rfl (.tmp 65) (.tmp 73) rfl w.heap.size _ m (rowL f m) rfl HOa.out _ 1 1 (four ⟨v4, 2, v4 + 1 + v5, 5⟩) rfl rfl (fun e => by cases e) (Four.new w5 ⟨v4, 2, v4 + 1 + v5, 5⟩ _ rfl).ne (four_one _) (by omega) (by simp; omega) ?_; intro A3 c3 wz hown3 hg3 hb3; rw [rowL_with] at hown3; have HO3 := Lib.hid hown3; have HB3 := Lib.hid hb3; clear hown3 hg3 hb3)
          go_roundw
          case rel =>
            refine ⟨j - 1, m + 1, A3, c3, withF f m ⟨v4, 2, v4 + 1 + v5, 5⟩, ?_, by omega, rfl, by omega, HO3.out, ?_, ?_⟩
            · rw [show ((j - 1 : Nat) : Int) = (j : Int) - 1 by omega]
            · exact HS5.out.on (Below.trans ((Below.refl _ _).alloc hle5 _) HB3.out)
            · exact (HR5.out.below (Below.trans ((Below.refl _ _).alloc hle5 _) HB3.out) hB).le (by omega)
          case measure => simp [intOf]; omega
        · have hjz : j = 0 := by omega
          subst hjz
          obtain ⟨g, hOw, hgb, hHd⟩ := own_ow' HO.out
          have Hhd := Lib.hid hHd
          have HOw := Lib.hid hOw
          clear hHd hOw
          go_wp2
          go_ret
          exact ⟨_, m, cap, g, f, rfl, by omega, HOw.out, hgb, Hhd.out, HSr.out, HRr.out.le (by omega)⟩
    · go_wp2_with fail
      refine (laid_any B (N + 1 + 1) nn _ HR2.out (by omega) hnn).mono ?_; rintro e w3 ⟨A, m, cap, g, f, rfl, hm, ho2, hg2, hh2, hs2, hr2⟩
      go_wp2
      go_ret
      exact ⟨A, m, cap, g, f, rfl, hm, ho2, by omega, hh2, HS2.out.trans hs2, hr2.le (by omega)⟩

set_option maxHeartbeats 400000 in
set_option maxRecDepth 20000 in
theorem dPierceOf (a : Option Addr) (len cap : Nat) (w : World) (hc : Came w a len cap) :
    Calls Try.prog 13 #[.slice a len cap] w (RectsDrawn w) := by
  go_enter Try.func13, Try.ntmps13
  go_wp2_with fail
  refine (open_any _ _ _ _ (hc)).mono ?_; rintro e w1 hp; obtain ⟨rfl, hb1, hr1⟩ := hp; have hz1 := hb1.size; (try simp at hz1); have hB := hr1.lt; skip
  go_wp2_with fail
  refine (close_any (w.heap.size) 0 _ _ hr1 (by omega) (by omega)).mono ?_; rintro e w2 ⟨A, m, cap, g, f, rfl, hm, ho2, hg2, hh2, hs2, hr2⟩
  go_wp2
  go_ret
  exact ⟨A, m, _, g, f, rfl, hm, ho2, by have := hb1.size; omega, hh2, Sole.below hb1 hs2 (Nat.le_refl _)⟩

set_option maxHeartbeats 400000 in
set_option maxRecDepth 20000 in
theorem dMeetsOf (a : Option Addr) (len cap : Nat) (w : World) (hc : Came w a len cap) :
    Calls Try.prog 21 #[.slice a len cap] w (RectsDrawn w) := by
  go_enter Try.func21, Try.ntmps21
  go_wp2_with fail
  refine (open_any _ _ _ _ (hc)).mono ?_; rintro e w1 hp; obtain ⟨rfl, hb1, hr1⟩ := hp; have hz1 := hb1.size; (try simp at hz1); have hB := hr1.lt; skip
  go_wp2_with fail
  refine (close_any (w.heap.size) 0 _ _ hr1 (by omega) (by omega)).mono ?_; rintro e w2 ⟨A, m, cap, g, f, rfl, hm, ho2, hg2, hh2, hs2, hr2⟩
  go_wp2
  go_ret
  exact ⟨A, m, _, g, f, rfl, hm, ho2, by have := hb1.size; omega, hh2, Sole.below hb1 hs2 (Nat.le_refl _)⟩

set_option maxHeartbeats 400000 in
set_option maxRecDepth 20000 in
theorem dMostMeeting (a : Option Addr) (len cap : Nat) (w : World) (hc : Came w a len cap) :
    Calls Try.prog 26 #[.slice a len cap] w (RectsDrawn w) := by
  go_enter Try.func26, Try.ntmps26
  go_wp2_with fail
  refine (open_any _ _ _ _ (hc)).mono ?_; rintro e w1 hp; obtain ⟨rfl, hb1, hr1⟩ := hp; have hz1 := hb1.size; (try simp at hz1); have hB := hr1.lt; skip
  go_wp2_with fail
  refine (close_any (w.heap.size) 0 _ _ hr1 (by omega) (by omega)).mono ?_; rintro e w2 ⟨A, m, cap, g, f, rfl, hm, ho2, hg2, hh2, hs2, hr2⟩
  go_wp2
  go_ret
  exact ⟨A, m, _, g, f, rfl, hm, ho2, by have := hb1.size; omega, hh2, Sole.below hb1 hs2 (Nat.le_refl _)⟩

set_option maxHeartbeats 400000 in
set_option maxRecDepth 20000 in
theorem dColoursOf (a : Option Addr) (len cap : Nat) (w : World) (hc : Came w a len cap) :
    Calls Try.prog 31 #[.slice a len cap] w (RectsDrawn w) := by
  go_enter Try.func31, Try.ntmps31
  go_wp2_with fail
  refine (open_any _ _ _ _ (hc)).mono ?_; rintro e w1 hp; obtain ⟨rfl, hb1, hr1⟩ := hp; have hz1 := hb1.size; (try simp at hz1); have hB := hr1.lt; skip
  go_wp2_with fail
  refine (close_any (w.heap.size) 0 _ _ hr1 (by omega) (by omega)).mono ?_; rintro e w2 ⟨A, m, cap, g, f, rfl, hm, ho2, hg2, hh2, hs2, hr2⟩
  go_wp2
  go_ret
  exact ⟨A, m, _, g, f, rfl, hm, ho2, by have := hb1.size; omega, hh2, Sole.below hb1 hs2 (Nat.le_refl _)⟩
end Go.Proofs.Ytkfeeijiockdhaa
