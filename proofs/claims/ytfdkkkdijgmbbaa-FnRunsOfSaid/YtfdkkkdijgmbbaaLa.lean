/- What the laws of chapter 2 draw. What the laws of chapter 2 draw: the functions Draw... -/
import Derived.Test.YtfdkkkdijgmbbaaDr
import Derived.Test.YtfdkkkdijgmbbaaWi
namespace Go.Proofs.Ytfdkkkdijgmbbaa
open Go.RowKit Go.Sort Go.BigFrame
set_option linter.unusedVariables false
theorem Sole.grown {B : Nat} {w w' : World} (h : Sole B w w') : w.grownBy w' (some B) :=
  ⟨h.os, h.tape, h.output, h.size, fun k hk hn => h.block k hk (fun e => hn (by rw [e]))⟩
theorem Sole.on {B : Nat} {a w w' : World} (h : Sole B a w) (hb : Below a.heap.size w w') : Sole B a w' :=
  ⟨hb.os.trans h.os, hb.tape.trans h.tape, hb.output.trans h.output, Nat.le_trans h.size hb.size, fun k hk hn => (hb.block k hk).trans (h.block k hk hn)⟩
theorem own_sole {B : Nat} {w w' : World} {base : Nat} {e : TypeId} {size n : Nat} {v : Value} {xs : List Value} (h : w.ownsRow base e size v n xs) (hs : Sole B w w') (hB : B < base) : w'.ownsRow base e size v n xs :=
  h.kept hs.grown (Or.inr (fun e => by have := (h.lt B e).1; omega))
theorem Ow.sole {B : Nat} {w w' : World} {A : Option Addr} {n g : Nat} {f : Nat → Rt} (h : Ow w A n f g) (hs : Sole B w w') (hB : B < g) : Ow w' A n f g := h.grown hs.grown (by omega)
def LaidPost (B N : Nat) (w : World) (e : Ending) (w' : World) : Prop :=
  ∃ (A : Option Addr) (n cap g : Nat) (f : Nat → Rt), e = .returned (.slice A n cap) ∧ n ≤ 8 ∧ Ow w' A n f g ∧ w.heap.size ≤ g ∧ Hd A n cap ∧ Sole B w w' ∧ Rd w' B (N + 100)
def oneR : Rt := ⟨0, 0, 1, 1⟩
theorem own_eight (w : World) (base : Nat) (hb : base ≤ w.heap.size) : (w.alloc (.cells #[.int .i64 0, .int .i64 0, .int .i64 1, .int .i64 1, .int .i64 0, .int .i64 0, .int .i64 1, .int .i64 1, .int .i64 0, .int .i64 0, .int .i64 1, .int .i64 1, .int .i64 0, .int .i64 0, .int .i64 1, .int .i64 1, .int .i64 0, .int .i64 0, .int .i64 1, .int .i64 1, .int .i64 0, .int .i64 0, .int .i64 1, .int .i64 1, .int .i64 0, .int .i64 0, .int .i64 1, .int .i64 1, .int .i64 0, .int .i64 0, .int .i64 1, .int .i64 1] 29)).ownsRow base 29 4 (.slice (some ⟨w.heap.size, 0, none⟩) 8 8) 8 (rowL (fun _ => oneR) 8) :=
  World.ownsRow_lit w _ 8 hb (by unfold maxLen; omega) rfl

set_option maxHeartbeats 4000000 in
set_option maxRecDepth 20000 in
theorem laid_any (B N : Nat) (nn : Int) (w : World) (hr : Rd w B N) (hN : N ≤ 900000) (hnn : nn ≤ 1000) :
    Calls Try.prog 53 #[.pointer (some ⟨B, 0, none⟩), .int .i64 nn] w (LaidPost B N w) := by
  have hB := hr.lt
  have hmk : ∀ W : World, (Instr.makeSlice 23 (.int .i64 2) (.int .i64 2)).run Try.prog W = .ok (.slice (some ⟨W.heap.size, 0, none⟩) 2 2) (W.alloc (.cells (madeCells zero4c (2 * 4)) 29)) := fun W => make_rects 2 2 (Nat.le_refl _) (by omega) W
  go_enter Try.func53, Try.ntmps53
  go_wp2_with fail
  refine (pick_any (B) (N) _ _ (hr.alloc _) (by omega) (by omega)).mono ?_; rintro e w1 hp; obtain ⟨v1, rfl, p1, q1, _, hs1, hr1⟩ := hp; have hz1 := hs1.size; (try simp at hz1)
  have hS0 : Sole B w w1 := (Sole.refl B w).alloc (.cells #[] 29) |>.trans hs1
  have HS0 := Lib.hid hS0
  have q1' := q1 (by omega)
  have Hmk := Lib.hid hmk
  have hown0 := own_sole (own_empty w w.heap.size w.heap.size rfl (Nat.le_refl _)) hs1 hB
  have Hown0 := Lib.hid hown0
  have HR1 := Lib.hid hr1
  obtain ⟨V, hV⟩ := Int.eq_ofNat_of_zero_le p1
  subst hV
  clear hmk hS0 hown0 hr1 hs1 q1
  go_wp2
  go_loopw [5, 6] (fun s5 s6 wr => ∃ (j m : Nat) (A : Option Addr) (cap : Nat) (f : Nat → Rt), s6 = .int .i64 j ∧ j ≤ 5 ∧ s5 = .slice A m cap ∧ m + j ≤ 5 ∧ wr.ownsRow w.heap.size 29 4 (.slice A m cap) m (rowL f m) ∧ Sole B w wr ∧ Rd wr B (N + 1 + 7 * m)) (fun _ s6 _ => (intOf s6).toNat)
  case atStart => exact ⟨V, 0, _, 0, fun _ => Rt.zero, rfl, by omega, rfl, by omega, Hown0.out, HS0.out, HR1.out⟩
  case round =>
    obtain ⟨j, m, A, cap, f, rfl, hj, rfl, hmj, hown, hsr, hrr⟩ := hrel
    have HO := Lib.hid hown
    have HS1 := Lib.hid hsr
    have HRd1 := Lib.hid hrr
    have hle1 : w.heap.size ≤ wr.heap.size := hsr.size
    clear hown hsr hrr
    by_cases hj0 : 0 < j
    · go_wp2_with fail
      refine (rect_any B (N + 1 + 7 * m) 0 _ HRd1.out (by omega) (by omega)).mono ?_; rintro e w2 hp; obtain ⟨r2, rfl, n2, o2, hs2, hr2⟩ := hp; have hz2 := hs2.size; (try simp at hz2)
      have hown2 := own_sole HO.out hs2 hB
      have Hown2 := Lib.hid (hown2.alloc (.cells #[.int .i64 r2.l, .int .i64 r2.o, .int .i64 r2.r, .int .i64 r2.h] 29))
      have HS2 := Lib.hid (HS1.out.trans hs2)
      have hle2 : w.heap.size ≤ w2.heap.size := HS2.out.size
      have HR2 := Lib.hid hr2
      clear hown2 hs2 hr2 n2 o2
      go_wp2_with (refine list_rects _ rfl (.tmp 15) (.tmp 18) rfl w.heap.size _ m (rowL f m) rfl Hown2.out _ 1 1 (four r2) rfl rfl (fun e => by cases e) (Four.new w2 r2 _ rfl).ne (four_one r2) (by omega) (by simp; omega) ?_; intro A3 c3 w3 hown3 hg3 hb3; rw [rowL_with] at hown3; have HO3 := Lib.hid hown3; have HB3 := Lib.hid hb3; clear hown3 hg3 hb3)
      go_roundw
      case rel =>
        refine ⟨j - 1, m + 1, A3, c3, withF f m r2, ?_, by omega, rfl, by omega, HO3.out, ?_, ?_⟩
        · rw [show ((j - 1 : Nat) : Int) = (j : Int) - 1 by omega]
        · exact HS2.out.on (Below.trans ((Below.refl _ _).alloc hle2 _) HB3.out)
        · exact (HR2.out.below (Below.trans ((Below.refl _ _).alloc hle2 _) HB3.out) hB).le (by omega)
      case measure => simp [intOf]; omega
    · have hjz : j = 0 := by omega
      subst hjz
      obtain ⟨g, hOw, hgb, hHd⟩ := own_ow' HO.out
      have Hhd := Lib.hid hHd
      have HOw := Lib.hid hOw
      have HMK := Lib.hid Hmk.out
      clear hHd hOw
      by_cases hm1 : m ≤ 1
      · have hmk := HMK.out
        go_wp2_with fail
        refine (odd_any B (N + 1 + 7 * m) _ _ (HRd1.out) (by omega) (by omega)).mono ?_; rintro e w2 hp; obtain ⟨b, rfl, ob, hs2, hr2⟩ := hp; have hz2 := hs2.size; (try simp at hz2)
        have HS2 := Lib.hid (HS1.out.trans hs2)
        have hle2 : w.heap.size ≤ w2.heap.size := HS2.out.size
        cases b
        · go_wp2
          go_ret
          exact ⟨_, m, cap, g, f, rfl, by omega, HOw.out.sole hs2 (by omega), hgb, Hhd.out, HS2.out, hr2.le (by omega)⟩
        · go_wp2_with fail
          refine (pick_any (B) (N + 1 + 7 * m + 1) _ _ (hr2) (by omega) (by omega)).mono ?_; rintro e w3 hp; obtain ⟨v3, rfl, p3, q3, _, hs3, hr3⟩ := hp; have hz3 := hs3.size; (try simp at hz3)
          have HS3 := Lib.hid (HS2.out.trans hs3)
          have hle3 : w.heap.size ≤ w3.heap.size := HS3.out.size
          by_cases hv0 : v3 = 0
          · subst hv0
            go_wp2
            go_ret
            have hbn : Below w3.heap.size w3 (w3.alloc (.cells (madeCells zero4c (2 * 4)) 29)) := (Below.refl _ _).alloc (Nat.le_refl _) _
            exact ⟨_, 2, 2, w3.heap.size, fun _ => Rt.zero, rfl, by omega, Ow.made _ 2 2 (Nat.le_refl _), hle3, ⟨Nat.le_refl _, fun e => by cases e⟩, HS3.out.on (hbn.mono hle3), (hr3.below hbn hr3.lt).le (by omega)⟩
          · go_wp2
            go_ret
            have hbn : Below w3.heap.size w3 ((w3.alloc (.cells #[.int .i64 0, .int .i64 0, .int .i64 1, .int .i64 1] 29)).alloc (.cells #[.int .i64 0, .int .i64 0, .int .i64 1, .int .i64 1, .int .i64 0, .int .i64 0, .int .i64 1, .int .i64 1, .int .i64 0, .int .i64 0, .int .i64 1, .int .i64 1, .int .i64 0, .int .i64 0, .int .i64 1, .int .i64 1, .int .i64 0, .int .i64 0, .int .i64 1, .int .i64 1, .int .i64 0, .int .i64 0, .int .i64 1, .int .i64 1, .int .i64 0, .int .i64 0, .int .i64 1, .int .i64 1, .int .i64 0, .int .i64 0, .int .i64 1, .int .i64 1] 29)) := by (repeat (first | with_reducible exact Below.refl _ _ | with_reducible assumption | ((with_reducible refine Below.alloc ?_ ?_ _); rotate_left; focus (first | with_reducible exact Nat.le_refl _ | omega | (simp; done) | (simp; omega))) | ((with_reducible refine Below.setCell ?_ ?_ _); rotate_left; focus (first | with_reducible exact Nat.le_refl _ | omega | (simp; done) | (simp; omega))) | (with_reducible refine Below.drew ?_) | ((with_reducible refine Below.trans ?_ (Below.mono (by with_reducible assumption) ?_)); rotate_left; focus (first | with_reducible exact Nat.le_refl _ | omega | (simp; done) | (simp; omega)))))
            have how := own_eight (w3.alloc (.cells #[.int .i64 0, .int .i64 0, .int .i64 1, .int .i64 1] 29)) w.heap.size (by simp; omega)
            rw [World.size_alloc] at how
            obtain ⟨g8, o8, hg8, hd8⟩ := own_ow' how
            exact ⟨_, 8, 8, g8, fun _ => oneR, rfl, by omega, o8, hg8, hd8, HS3.out.on (hbn.mono hle3), (hr3.below hbn hr3.lt).le (by omega)⟩
      · go_wp2_with fail
        refine (pick_any (B) (N + 1 + 7 * m) _ _ (HRd1.out) (by omega) (by omega)).mono ?_; rintro e w2 hp; obtain ⟨v2, rfl, p2, q2, _, hs2, hr2⟩ := hp; have hz2 := hs2.size; (try simp at hz2)
        have HS2 := Lib.hid (HS1.out.trans hs2)
        have hle2 : w.heap.size ≤ w2.heap.size := HS2.out.size
        have HOw2 := Lib.hid (HOw.out.sole hs2 (by omega))
        have HRd2 := Lib.hid hr2
        have hmk := HMK.out
        have hV2 : v2 = 0 ∨ v2 ≠ 0 := by omega
        clear hs2 hr2 q2
        rcases hV2 with hV2 | hV2
        · subst hV2
          rcases HOw2.out with h0 | ⟨hA, hlt0, hc, hz⟩
          · omega
          obtain ⟨c0, c1, c2, c3⟩ := hc 0 (by omega)
          obtain ⟨d0, d1, d2, d3⟩ := hc 1 (by omega)
          have f0 := hz 0 (by omega)
          have f1 := hz 1 (by omega)
          have f2 := hz 2 (by omega)
          have f3 := hz 3 (by omega)
          simp only [Nat.zero_mul, Nat.zero_add, Nat.one_mul, Nat.reduceAdd] at c0 c1 c2 c3 d0 d1 d2 d3
          subst hA
          have how3 := HOw2.out.set (k := 0) (f' := fun i => if i = 0 then f 1 else f i) (by omega) (fun i _ hne => by rw [if_neg hne])
          clear hc hz
          have hb3 : Below g w2 (set4 w2 g (0 * 4) (f 1)) := Below.set4 (Below.refl _ _) (Nat.le_refl _) _
          have hss3 := HS2.out.on (hb3.mono hgb)
          have hrd3 := HRd2.out.below hb3 (by omega)
          have hle3 : w.heap.size ≤ (set4 w2 g (0 * 4) (f 1)).heap.size := hss3.size
          simp only [set4, Nat.zero_mul, Nat.zero_add, if_true] at how3 hss3 hrd3 hle3
          have HOw3 := Lib.hid how3
          have HS3 := Lib.hid hss3
          have HRd3 := Lib.hid hrd3
          clear how3 hss3 hrd3 hb3
          go_wp2_with fail
          refine (odd_any B (N + 1 + 7 * m + 1) _ _ (HRd3.out) (by omega) (by omega)).mono ?_; rintro e w4 hp; obtain ⟨b, rfl, ob, hs4, hr4⟩ := hp; have hz4 := hs4.size; (try simp at hz4)
          have HS4 := Lib.hid (HS3.out.trans hs4)
          have hle4 : w.heap.size ≤ w4.heap.size := HS4.out.size
          cases b
          · go_wp2
            go_ret
            exact ⟨_, m, cap, g, _, rfl, by omega, HOw3.out.sole hs4 (by omega), hgb, Hhd.out, HS4.out, hr4.le (by omega)⟩
          · go_wp2_with fail
            refine (pick_any (B) (N + 1 + 7 * m + 1 + 1) _ _ (hr4) (by omega) (by omega)).mono ?_; rintro e w5 hp; obtain ⟨v5, rfl, p5, q5, _, hs5, hr5⟩ := hp; have hz5 := hs5.size; (try simp at hz5)
            have HS5 := Lib.hid (HS4.out.trans hs5)
            have hle5 : w.heap.size ≤ w5.heap.size := HS5.out.size
            by_cases hv0 : v5 = 0
            · subst hv0
              go_wp2
              go_ret
              have hbn : Below w5.heap.size w5 (w5.alloc (.cells (madeCells zero4c (2 * 4)) 29)) := (Below.refl _ _).alloc (Nat.le_refl _) _
              exact ⟨_, 2, 2, w5.heap.size, fun _ => Rt.zero, rfl, by omega, Ow.made _ 2 2 (Nat.le_refl _), hle5, ⟨Nat.le_refl _, fun e => by cases e⟩, HS5.out.on (hbn.mono hle5), (hr5.below hbn hr5.lt).le (by omega)⟩
            · go_wp2
              go_ret
              have hbn : Below w5.heap.size w5 ((w5.alloc (.cells #[.int .i64 0, .int .i64 0, .int .i64 1, .int .i64 1] 29)).alloc (.cells #[.int .i64 0, .int .i64 0, .int .i64 1, .int .i64 1, .int .i64 0, .int .i64 0, .int .i64 1, .int .i64 1, .int .i64 0, .int .i64 0, .int .i64 1, .int .i64 1, .int .i64 0, .int .i64 0, .int .i64 1, .int .i64 1, .int .i64 0, .int .i64 0, .int .i64 1, .int .i64 1, .int .i64 0, .int .i64 0, .int .i64 1, .int .i64 1, .int .i64 0, .int .i64 0, .int .i64 1, .int .i64 1, .int .i64 0, .int .i64 0, .int .i64 1, .int .i64 1] 29)) := by (repeat (first | with_reducible exact Below.refl _ _ | with_reducible assumption | ((with_reducible refine Below.alloc ?_ ?_ _); rotate_left; focus (first | with_reducible exact Nat.le_refl _ | omega | (simp; done) | (simp; omega))) | ((with_reducible refine Below.setCell ?_ ?_ _); rotate_left; focus (first | with_reducible exact Nat.le_refl _ | omega | (simp; done) | (simp; omega))) | (with_reducible refine Below.drew ?_) | ((with_reducible refine Below.trans ?_ (Below.mono (by with_reducible assumption) ?_)); rotate_left; focus (first | with_reducible exact Nat.le_refl _ | omega | (simp; done) | (simp; omega)))))
              have how := own_eight (w5.alloc (.cells #[.int .i64 0, .int .i64 0, .int .i64 1, .int .i64 1] 29)) w.heap.size (by simp; omega)
              rw [World.size_alloc] at how
              obtain ⟨g8, o8, hg8, hd8⟩ := own_ow' how
              exact ⟨_, 8, 8, g8, fun _ => oneR, rfl, by omega, o8, hg8, hd8, HS5.out.on (hbn.mono hle5), (hr5.below hbn hr5.lt).le (by omega)⟩
        · go_wp2_with fail
          refine (odd_any B (N + 1 + 7 * m + 1) _ _ (HRd2.out) (by omega) (by omega)).mono ?_; rintro e w3 hp; obtain ⟨b, rfl, ob, hs3, hr3⟩ := hp; have hz3 := hs3.size; (try simp at hz3)
          have HS3 := Lib.hid (HS2.out.trans hs3)
          have hle3 : w.heap.size ≤ w3.heap.size := HS3.out.size
          cases b
          · go_wp2
            go_ret
            exact ⟨_, m, cap, g, f, rfl, by omega, HOw2.out.sole hs3 (by omega), hgb, Hhd.out, HS3.out, hr3.le (by omega)⟩
          · go_wp2_with fail
            refine (pick_any (B) (N + 1 + 7 * m + 1 + 1) _ _ (hr3) (by omega) (by omega)).mono ?_; rintro e w4 hp; obtain ⟨v4, rfl, p4, q4, _, hs4, hr4⟩ := hp; have hz4 := hs4.size; (try simp at hz4)
            have HS4 := Lib.hid (HS3.out.trans hs4)
            have hle4 : w.heap.size ≤ w4.heap.size := HS4.out.size
            by_cases hv0 : v4 = 0
            · subst hv0
              go_wp2
              go_ret
              have hbn : Below w4.heap.size w4 (w4.alloc (.cells (madeCells zero4c (2 * 4)) 29)) := (Below.refl _ _).alloc (Nat.le_refl _) _
              exact ⟨_, 2, 2, w4.heap.size, fun _ => Rt.zero, rfl, by omega, Ow.made _ 2 2 (Nat.le_refl _), hle4, ⟨Nat.le_refl _, fun e => by cases e⟩, HS4.out.on (hbn.mono hle4), (hr4.below hbn hr4.lt).le (by omega)⟩
            · go_wp2
              go_ret
              have hbn : Below w4.heap.size w4 ((w4.alloc (.cells #[.int .i64 0, .int .i64 0, .int .i64 1, .int .i64 1] 29)).alloc (.cells #[.int .i64 0, .int .i64 0, .int .i64 1, .int .i64 1, .int .i64 0, .int .i64 0, .int .i64 1, .int .i64 1, .int .i64 0, .int .i64 0, .int .i64 1, .int .i64 1, .int .i64 0, .int .i64 0, .int .i64 1, .int .i64 1, .int .i64 0, .int .i64 0, .int .i64 1, .int .i64 1, .int .i64 0, .int .i64 0, .int .i64 1, .int .i64 1, .int .i64 0, .int .i64 0, .int .i64 1, .int .i64 1, .int .i64 0, .int .i64 0, .int .i64 1, .int .i64 1] 29)) := by (repeat (first | with_reducible exact Below.refl _ _ | with_reducible assumption | ((with_reducible refine Below.alloc ?_ ?_ _); rotate_left; focus (first | with_reducible exact Nat.le_refl _ | omega | (simp; done) | (simp; omega))) | ((with_reducible refine Below.setCell ?_ ?_ _); rotate_left; focus (first | with_reducible exact Nat.le_refl _ | omega | (simp; done) | (simp; omega))) | (with_reducible refine Below.drew ?_) | ((with_reducible refine Below.trans ?_ (Below.mono (by with_reducible assumption) ?_)); rotate_left; focus (first | with_reducible exact Nat.le_refl _ | omega | (simp; done) | (simp; omega)))))
              have how := own_eight (w4.alloc (.cells #[.int .i64 0, .int .i64 0, .int .i64 1, .int .i64 1] 29)) w.heap.size (by simp; omega)
              rw [World.size_alloc] at how
              obtain ⟨g8, o8, hg8, hd8⟩ := own_ow' how
              exact ⟨_, 8, 8, g8, fun _ => oneR, rfl, by omega, o8, hg8, hd8, HS4.out.on (hbn.mono hle4), (hr4.below hbn hr4.lt).le (by omega)⟩

end Go.Proofs.Ytfdkkkdijgmbbaa
namespace Go.Proofs.Ytfdkkkdijgmbbaa
open Go.RowKit Go.Sort Go.BigFrame
set_option linter.unusedVariables false
def RectsDrawn (w : World) (e : Ending) (w' : World) : Prop :=
  ∃ (A : Option Addr) (n cap g : Nat) (f : Nat → Rt), e = .returned (.slice A n cap) ∧ n ≤ 8 ∧ Ow w' A n f g ∧ w.heap.size ≤ g ∧ Hd A n cap ∧ Below w.heap.size w w'
def RectsOneDrawn (w : World) (e : Ending) (w' : World) : Prop :=
  ∃ (A : Option Addr) (n cap g : Nat) (f : Nat → Rt) (r : Rt), e = .returned (.tuple #[.slice A n cap, rv r]) ∧ n ≤ 8 ∧ Ow w' A n f g ∧ w.heap.size ≤ g ∧ Hd A n cap ∧ Below w.heap.size w w'

end Go.Proofs.Ytfdkkkdijgmbbaa
