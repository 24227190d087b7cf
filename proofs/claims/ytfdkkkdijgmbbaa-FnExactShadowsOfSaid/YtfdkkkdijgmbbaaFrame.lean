/- What the laws of chapter 4 draw. -/
import Derived.Test.YtfdkkkdijgmbbaaLa
namespace Go.Proofs.Ytfdkkkdijgmbbaa
open Go.RowKit Go.Sort Go.BigFrame
set_option linter.unusedVariables false
def fourR (r0 r1 r2 r3 : Rt) (i : Nat) : Rt := if i = 0 then r0 else if i = 1 then r1 else if i = 2 then r2 else r3
theorem own_four (w : World) (base g : Nat) (r0 r1 r2 r3 : Rt) (hg : w.heap.size = g) (hb : base ≤ g) :
    (w.alloc (.cells #[.int .i64 r0.l, .int .i64 r0.o, .int .i64 r0.r, .int .i64 r0.h, .int .i64 r1.l, .int .i64 r1.o, .int .i64 r1.r, .int .i64 r1.h, .int .i64 r2.l, .int .i64 r2.o, .int .i64 r2.r, .int .i64 r2.h, .int .i64 r3.l, .int .i64 r3.o, .int .i64 r3.r, .int .i64 r3.h] 29)).ownsRow base 29 4 (.slice (some ⟨g, 0, none⟩) 4 4) 4 (rowL (fourR r0 r1 r2 r3) 4) := by
  subst hg; exact World.ownsRow_lit w _ 4 hb (by unfold maxLen; omega) rfl
def FramePost (B N : Nat) (w : World) (e : Ending) (w' : World) : Prop :=
  ∃ (A : Option Addr) (n cap g : Nat) (f : Nat → Rt), e = .returned (.slice A n cap) ∧ n ≤ 8 ∧ Ow w' A n f g ∧ w.heap.size ≤ g ∧ Hd A n cap ∧ Sole B w w' ∧ Rd w' B (N + 200)

set_option maxHeartbeats 4000000 in
set_option maxRecDepth 20000 in
theorem frame_any (B N : Nat) (nn : Int) (w : World) (hr : Rd w B N) (hN : N ≤ 800000) (hnn : nn ≤ 1000) :
    Calls Try.prog 31 #[.pointer (some ⟨B, 0, none⟩), .int .i64 nn] w (FramePost B N w) := by
  have hB := hr.lt
  go_enter Try.func31, Try.ntmps31
  go_wp2_with fail
  refine (pick_any (B) (N) _ _ (hr) (by omega) (by omega)).mono ?_; rintro e w1 hp; obtain ⟨v1, rfl, p1, q1, _, hs1, hr1⟩ := hp; have hz1 := hs1.size; (try simp at hz1)
  have HS1 := Lib.hid hs1
  have hle1 : w.heap.size ≤ w1.heap.size := HS1.out.size
  have HR1 := Lib.hid hr1
  have q1' := q1 (by omega)
  clear hs1 hr1 q1
  by_cases hv1 : v1 = 0
  · subst hv1
    go_wp2_with fail
    refine (pick_any (B) (N + 1) _ _ (HR1.out) (by omega) (by omega)).mono ?_; rintro e w2 hp; obtain ⟨v2, rfl, p2, q2, _, hs2, hr2⟩ := hp; have hz2 := hs2.size; (try simp at hz2)
    have HS2 := Lib.hid (HS1.out.trans hs2)
    have hle2 : w.heap.size ≤ w2.heap.size := HS2.out.size
    have HR2 := Lib.hid hr2
    have q2' := q2 (by omega)
    clear hs2 hr2 q2
    go_wp2_with fail
    refine (pick_any (B) (N + 1 + 1) _ _ (HR2.out) (by omega) (by omega)).mono ?_; rintro e w3 hp; obtain ⟨v3, rfl, p3, q3, _, hs3, hr3⟩ := hp; have hz3 := hs3.size; (try simp at hz3)
    have HS3 := Lib.hid (HS2.out.trans hs3)
    have hle3 : w.heap.size ≤ w3.heap.size := HS3.out.size
    have HR3 := Lib.hid hr3
    have q3' := q3 (by omega)
    clear hs3 hr3 q3
    go_wp2_with fail
    refine (pick_any (B) (N + 1 + 1 + 1) _ _ (HR3.out) (by omega) (by omega)).mono ?_; rintro e w4 hp; obtain ⟨v4, rfl, p4, q4, _, hs4, hr4⟩ := hp; have hz4 := hs4.size; (try simp at hz4)
    have HS4 := Lib.hid (HS3.out.trans hs4)
    have hle4 : w.heap.size ≤ w4.heap.size := HS4.out.size
    have HR4 := Lib.hid hr4
    have q4' := q4 (by omega)
    clear hs4 hr4 q4
    go_wp2_with fail
    refine (pick_any (B) (N + 1 + 1 + 1 + 1) _ _ (HR4.out) (by omega) (by omega)).mono ?_; rintro e w5 hp; obtain ⟨v5, rfl, p5, q5, _, hs5, hr5⟩ := hp; have hz5 := hs5.size; (try simp at hz5)
    have HS5 := Lib.hid (HS4.out.trans hs5)
    have hle5 : w.heap.size ≤ w5.heap.size := HS5.out.size
    have HR5 := Lib.hid hr5
    have q5' := q5 (by omega)
    clear hs5 hr5 q5
    go_wp2_with fail
    refine (pick_any (B) (N + 1 + 1 + 1 + 1 + 1) _ _ (HR5.out) (by omega) (by omega)).mono ?_; rintro e w6 hp; obtain ⟨v6, rfl, p6, q6, _, hs6, hr6⟩ := hp; have hz6 := hs6.size; (try simp at hz6)
    have HS6 := Lib.hid (HS5.out.trans hs6)
    have hle6 : w.heap.size ≤ w6.heap.size := HS6.out.size
    have HR6 := Lib.hid hr6
    have q6' := q6 (by omega)
    clear hs6 hr6 q6
    have how := own_four w6 w.heap.size w6.heap.size ⟨v2, v3, v2 + (3 + v4), v3 + 1⟩ ⟨v2, v3 + (3 + v5) - 1, v2 + (3 + v4), v3 + (3 + v5)⟩ ⟨v2, v3, v2 + 1, v3 + (3 + v5)⟩ ⟨v2 + (3 + v4) - 1, v3 + v6, v2 + (3 + v4), v3 + (3 + v5)⟩ rfl hle6
    have How := Lib.hid how
    clear how
    go_wp2_with fail
    refine (pick_any (B) (N + 1 + 1 + 1 + 1 + 1 + 1) _ _ (HR6.out.alloc _) (by omega) (by omega)).mono ?_; rintro e w7 hp; obtain ⟨v7, rfl, p7, q7, _, hs7, hr7⟩ := hp; have hz7 := hs7.size; (try simp at hz7)
    have Hown7 := Lib.hid (own_sole How.out hs7 hB)
    have HS7 := Lib.hid ((HS6.out.alloc _).trans hs7)
    have hle7 : w.heap.size ≤ w7.heap.size := HS7.out.size
    have HR7 := Lib.hid hr7
    clear hs7 hr7 q7
    by_cases hv7 : v7 = 0
    · subst hv7
      go_wp2_with fail
      refine (rect_any B (N + 1 + 1 + 1 + 1 + 1 + 1 + 1) 0 _ HR7.out (by omega) (by omega)).mono ?_; rintro e w8 hp; obtain ⟨r8, rfl, n8, o8, hs8, hr8⟩ := hp; have hz8 := hs8.size; (try simp at hz8)
      have Hown8 := Lib.hid ((own_sole Hown7.out hs8 hB).alloc (.cells #[.int .i64 r8.l, .int .i64 r8.o, .int .i64 r8.r, .int .i64 r8.h] 29))
      have HS8 := Lib.hid (HS7.out.trans hs8)
      have hle8 : w.heap.size ≤ w8.heap.size := HS8.out.size
      have HR8 := Lib.hid hr8
      clear hs8 hr8 n8 o8
      go_wp2_with (refine list_rects _ rfl (.tmp 70) (.tmp 73) rfl w.heap.size _ 4 (rowL (fourR ⟨v2, v3, v2 + (3 + v4), v3 + 1⟩ ⟨v2, v3 + (3 + v5) - 1, v2 + (3 + v4), v3 + (3 + v5)⟩ ⟨v2, v3, v2 + 1, v3 + (3 + v5)⟩ ⟨v2 + (3 + v4) - 1, v3 + v6, v2 + (3 + v4), v3 + (3 + v5)⟩) 4) rfl Hown8.out _ 1 1 (four r8) rfl rfl (fun e => by cases e) (Four.new w8 r8 _ rfl).ne (four_one r8) (by omega) (by simp; omega) ?_; intro A3 c3 w9 hown9 hg9 hb9; rw [rowL_with] at hown9; have HO9 := Lib.hid hown9; have HB9 := Lib.hid hb9; clear hown9 hg9 hb9)
      go_ret
      obtain ⟨g, hOw, hgb, hHd⟩ := own_ow' HO9.out
      exact ⟨_, 5, c3, g, _, rfl, by omega, hOw, hgb, hHd, HS8.out.on (Below.trans ((Below.refl _ _).alloc hle8 _) HB9.out), (HR8.out.below (Below.trans ((Below.refl _ _).alloc hle8 _) HB9.out) hB).le (by omega)⟩
    · go_wp2
      go_ret
      obtain ⟨g, hOw, hgb, hHd⟩ := own_ow' Hown7.out
      exact ⟨_, 4, 4, g, _, rfl, by omega, hOw, hgb, hHd, HS7.out, HR7.out.le (by omega)⟩
  · go_wp2_with fail
    refine (laid_any B (N + 1) nn _ HR1.out (by omega) hnn).mono ?_; rintro e w2 ⟨A, m, cap, g, f, rfl, hm, ho2, hg2, hh2, hs2, hr2⟩
    go_wp2
    go_ret
    exact ⟨A, m, cap, g, f, rfl, hm, ho2, by omega, hh2, HS1.out.trans hs2, hr2.le (by omega)⟩

set_option maxHeartbeats 400000 in
set_option maxRecDepth 20000 in
theorem dShadowsOf (a : Option Addr) (len cap : Nat) (w : World) (hc : Came w a len cap) :
    Calls Try.prog 11 #[.slice a len cap] w (RectsDrawn w) := by
  go_enter Try.func11, Try.ntmps11
  go_wp2_with fail
  refine (open_any _ _ _ _ (hc)).mono ?_; rintro e w1 hp; obtain ⟨rfl, hb1, hr1⟩ := hp; have hz1 := hb1.size; (try simp at hz1); have hB := hr1.lt; skip
  go_wp2_with fail
  refine (frame_any (w.heap.size) 0 _ _ hr1 (by omega) (by omega)).mono ?_; rintro e w2 ⟨A, m, cap, g, f, rfl, hm, ho2, hg2, hh2, hs2, hr2⟩
  go_wp2
  go_ret
  exact ⟨A, m, _, g, f, rfl, hm, ho2, by have := hb1.size; omega, hh2, Sole.below hb1 hs2 (Nat.le_refl _)⟩

set_option maxHeartbeats 400000 in
set_option maxRecDepth 20000 in
theorem dRunsOf (a : Option Addr) (len cap : Nat) (w : World) (hc : Came w a len cap) :
    Calls Try.prog 21 #[.slice a len cap] w (RectsDrawn w) := by
  go_enter Try.func21, Try.ntmps21
  go_wp2_with fail
  refine (open_any _ _ _ _ (hc)).mono ?_; rintro e w1 hp; obtain ⟨rfl, hb1, hr1⟩ := hp; have hz1 := hb1.size; (try simp at hz1); have hB := hr1.lt; skip
  go_wp2_with fail
  refine (frame_any (w.heap.size) 0 _ _ hr1 (by omega) (by omega)).mono ?_; rintro e w2 ⟨A, m, cap, g, f, rfl, hm, ho2, hg2, hh2, hs2, hr2⟩
  go_wp2
  go_ret
  exact ⟨A, m, _, g, f, rfl, hm, ho2, by have := hb1.size; omega, hh2, Sole.below hb1 hs2 (Nat.le_refl _)⟩

set_option maxHeartbeats 400000 in
set_option maxRecDepth 20000 in
theorem dGapFreeOk (a : Option Addr) (len cap : Nat) (w : World) (hc : Came w a len cap) :
    Calls Try.prog 24 #[.slice a len cap] w (RectsDrawn w) := by
  go_enter Try.func24, Try.ntmps24
  go_wp2_with fail
  refine (open_any _ _ _ _ (hc)).mono ?_; rintro e w1 hp; obtain ⟨rfl, hb1, hr1⟩ := hp; have hz1 := hb1.size; (try simp at hz1); have hB := hr1.lt; skip
  go_wp2_with fail
  refine (frame_any (w.heap.size) 0 _ _ hr1 (by omega) (by omega)).mono ?_; rintro e w2 ⟨A, m, cap, g, f, rfl, hm, ho2, hg2, hh2, hs2, hr2⟩
  go_wp2
  go_ret
  exact ⟨A, m, _, g, f, rfl, hm, ho2, by have := hb1.size; omega, hh2, Sole.below hb1 hs2 (Nat.le_refl _)⟩

end Go.Proofs.Ytfdkkkdijgmbbaa
