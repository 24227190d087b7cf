
/- The law of WithOne: its walk. -/
import Derived.Test.YtipnldbdlimnhaaLaw6
import Derived.Test.YtipnldbdlimnhaaUn2
namespace Go.Proofs.Ytipnldbdlimnhaa
open Go.RowKit Go.Sort Go.BigFrame
set_option linter.unusedVariables false
def WoPost3 (M : Nat) (B : Bool) (f : Nat → Rt) (w : World) (e : Ending) (w' : World) : Prop :=
  ∃ A cap g, e = .returned (.tuple #[.slice A M cap, .bool B]) ∧ Ow w' A M f g ∧ w.heap.size ≤ g ∧ Hd A M cap ∧ Below w.heap.size w w'
theorem iwo_val3 (A : Option Addr) (n cap : Nat) (f : Nat → Rt) (r : Rt) (M : Nat) (B : Bool) (hM : cntF (woB f n r) (n + 1) = M) (hB : woB f n r = B) (w : World) (hn : n ≤ maxLen) (hr : Rs w A n f) (hh : Hd A n cap) :
    Calls Try.prog 30 #[.slice A n cap, rv r] w (WoPost3 M B (withF f n r) w) := by
  subst hM hB; exact iwo_any A n cap f r w hn hr hh
theorem swo_val3 (A : Option Addr) (n cap : Nat) (f : Nat → Rt) (r : Rt) (M : Nat) (B : Bool) (hM : cntF (woB f n r) (n + 1) = M) (hB : woB f n r = B) (w : World) (hn : n ≤ 1048576) (hr : Rs w A n f) (hh : Hd A n cap) :
    Calls Try.prog 31 #[.slice A n cap, rv r] w (WoPost3 M B (withF f n r) w) := by
  subst hM hB; exact swo_any A n cap f r w hn hr hh
theorem any_up (f : Nat → Rt) (x y : Int) (k : Nat) : decide (0 < depthM (upTo f k) x y) = anyTo f x y k := by
  induction k with
  | zero => rfl
  | succ k ih =>
    have e : depthM (upTo f k ++ [f k]) x y = depthM (upTo f k) x y + (if hasB (f k) x y = true then 1 else 0) := by
      unfold depthM; rw [List.countP_append, List.countP_singleton]
    show decide (0 < depthM (upTo f k ++ [f k]) x y) = (anyTo f x y k || hasB (f k) x y)
    rw [← ih, Bool.eq_iff_iff, Bool.or_eq_true, decide_eq_true_iff, decide_eq_true_iff, e]
    cases hasB (f k) x y <;> simp
theorem ua_up (f : Nat → Rt) (n : Nat) : uaF f n = unionM (upTo f n) := by
  unfold uaF unionM
  rw [laidF_up]
  by_cases h : laidB (upTo f n) = true
  · rw [if_pos h, if_pos h]; exact cells_congr fun x y _ _ => by rw [any_up]
  · rw [if_neg h, if_neg h]
theorem up_with (f : Nat → Rt) (n : Nat) (r : Rt) : upTo (withF f n r) (n + 1) = upTo f n ++ [r] := by
  have : ∀ k, k ≤ n → upTo (withF f n r) k = upTo f k := by
    intro k
    induction k with
    | zero => intro _; rfl
    | succ k ih => intro h; simp only [upTo]; rw [ih (by omega)]; unfold withF; rw [if_pos (by omega)]
  simp only [upTo]
  rw [this n (Nat.le_refl _)]
  unfold withF
  rw [if_neg (by omega)]
theorem ua_bd (f : Nat → Rt) (n : Nat) : -1 ≤ uaF f n ∧ uaF f n ≤ 400 := by
  unfold uaF
  split
  · refine ⟨?_, ?_⟩
    · have : 0 ≤ cells (fun x y => one (anyTo f x y n)) := cells_nonneg fun _ _ _ _ => one_nonneg _
      omega
    · refine Int.le_trans (cells_le (g := fun _ _ => 1) fun _ _ _ _ => one_le _) ?_
      decide
  · omega
/-- is r within one of them? -/
def winTo (f : Nat → Rt) (r : Rt) : Nat → Bool
  | 0 => false
  | k + 1 => winTo f r k || wiB r (f k)
theorem win_any (f : Nat → Rt) (r : Rt) (n : Nat) (hr : okB r = true) (h : okTo f n = true) : winTo f r n = (upTo f n).any (insideB r ·) := by
  have : ∀ k, k ≤ n → winTo f r k = (upTo f k).any (insideB r ·) := by
    intro k
    induction k with
    | zero => intro _; rfl
    | succ k ih =>
      intro hk
      simp only [winTo, upTo]
      rw [ih (by omega), List.any_append]
      unfold wiB bothB
      rw [hr, okTo_le h (by omega)]
      simp
  exact this n (Nat.le_refl _)
theorem with_law {f : Nat → Rt} {n : Nat} {r : Rt} (h : woB f n r = true) :
    laidF f n = true ∧ okB r = true ∧ uaF f n ≤ uaF (withF f n r) (n + 1) ∧ uaF (withF f n r) (n + 1) ≤ uaF f n + areaM r ∧ (winTo f r n = true → uaF (withF f n r) (n + 1) = uaF f n) ∧ 0 ≤ areaM r ∧ areaM r ≤ 400 := by
  have hl : laidB (upTo f n ++ [r]) = true := by rw [← up_with, ← laidF_up]; exact h
  obtain ⟨h1, h2, h3, h4, h5⟩ := unionM_snoc (upTo f n) r hl
  rw [← laidF_up] at h1
  rw [ua_up, ua_up, up_with]
  have hk := okB_iff.1 h2
  have hp := span_prod (a := r.r - r.l) (b := r.h - r.o) (by omega) (by omega) (by omega) (by omega)
  have ha : areaM r = (r.r - r.l) * (r.h - r.o) := by unfold areaM; rw [if_pos h2]
  refine ⟨h1, h2, h3, h4, fun hw => h5 ?_, by omega, by omega⟩
  rw [win_any f r n h2 (laidF_ok h1).2] at hw
  exact hw
theorem iua_val (A : Option Addr) (n cap : Nat) (f : Nat → Rt) (v : Int) (h : uaF f n = v) (w : World) (hn : n ≤ maxLen) (hr : Rs w A n f) :
    Calls Try.prog 18 #[.slice A n cap] w fun e w' => e = .returned (.int .i64 v) ∧ Below w.heap.size w w' := h ▸ iua_any A n cap f w hn hr
theorem iarea_val (a : Rt) (v : Int) (h : areaM a = v) (w : World) :
    Calls Try.prog 21 #[rv a] w fun e w' => e = .returned (.int .i64 v) ∧ Below w.heap.size w w' := h ▸ iarea_any a w
theorem iwi_val7 (a b : Rt) (v : Bool) (h : wiB a b = v) (w : World) :
    Calls Try.prog 25 #[rv a, rv b] w fun e w' => e = .returned (.bool v) ∧ Below w.heap.size w w' := h ▸ iwi_any a b w

set_option maxHeartbeats 4000000 in
theorem walkWithOne (a : Option Addr) (len cap : Nat) (w : World) (hc : Came w a len cap) :
    Calls Try.prog 7 #[.slice a len cap] w fun e w' => e = .returned (.bool true) ∧ Below w.heap.size w w' := by
  have hm := hc.len_le
  by_cases hl : 1048576 < len
  · go_enter Try.func7, Try.ntmps7
    go_wp2
    go_ret
    exact ⟨rfl, Below.refl _ _⟩
  · go_enter Try.func7, Try.ntmps7
    go_wp2_with fail
    refine (dWithOne _ _ _ _ hc).mono ?_; rintro e w1 hp; have HP1 := Lib.hid hp; clear hp; obtain ⟨A, m, lcap, g, f, r, rfl, hm8, ho1, hg1, hh1, hb1⟩ := HP1.out; have hz1 := hb1.size; have HO1 := Lib.hid ho1; have HH1 := Lib.hid hh1; clear ho1 hh1; have hmm : m ≤ maxLen := (by unfold maxLen; omega); have Hmm := Lib.hid hmm; clear hmm
    cases hB0 : woB f m r
    · obtain ⟨M, HM⟩ : ∃ M, Hid (cntF (woB f m r) (m + 1) = M) := ⟨_, Lib.hid rfl⟩
      obtain rfl : M = 0 := by rw [← HM.out, hB0]; rfl
      obtain ⟨B, hBe⟩ : ∃ B, B = false := ⟨_, rfl⟩
      have hB : woB f m r = B := by rw [hB0, hBe]
      subst hBe
      have HL1 := Lib.hid (HO1.out.below (w' := w1.alloc (.cells #[.int .i64 r.l, .int .i64 r.o, .int .i64 r.r, .int .i64 r.h] 27)) ((Below.refl _ _).alloc (Nat.le_refl _) _))
      go_wp2_with fail
      refine (iwo_val3 A m lcap f r 0 false HM.out hB _ Hmm.out HL1.out.rs HH1.out).mono ?_; rintro e w2 hp; have HP2 := Lib.hid hp; clear hp; obtain ⟨A2, c2, g2, rfl, ho2, hg2, _, hb2⟩ := HP2.out; have hz2 := hb2.size; (try simp at hz2); have O2 := Lib.hid ho2; clear ho2; have HL2 := Lib.hid (HL1.out.below hb2); have _ : w1.heap.size < w2.heap.size := (by first | (simp; done) | omega | (simp; omega)); have _ := fun o => hb2.cell (p := ⟨w1.heap.size, o, none⟩) (by first | (simp; done) | omega | (simp; omega))
      go_wp2_with fail
      refine (swo_val3 A m lcap f r 0 false HM.out hB _ (by omega) HL2.out.rs HH1.out).mono ?_; rintro e w3 hp; have HP3 := Lib.hid hp; clear hp; obtain ⟨A3, c3, g3, rfl, ho3, hg3, _, hb3⟩ := HP3.out; have hz3 := hb3.size; (try simp at hz3); have O3 := Lib.hid ho3; clear ho3; have HL3 := Lib.hid (HL2.out.below hb3); have _ : w1.heap.size < w3.heap.size := (by first | (simp; done) | omega | (simp; omega)); have _ := fun o => hb3.cell (p := ⟨w1.heap.size, o, none⟩) (by first | (simp; done) | omega | (simp; omega))
      have O23 := Lib.hid (O2.out.below hb3)
      go_wp2
      go_loopw [9] (fun i wr => ∃ k : Nat, k ≤ 0 ∧ i = .int .i64 k ∧ Below w3.heap.size w3 wr) (fun i _ => 0 - (intOf i).toNat)
      case atStart => exact ⟨0, Nat.zero_le _, rfl, by (repeat (first | with_reducible exact Below.refl _ _ | with_reducible assumption | ((with_reducible refine Below.alloc ?_ ?_ _); rotate_left; focus (first | with_reducible exact Nat.le_refl _ | omega | (simp; done) | (simp; omega))) | ((with_reducible refine Below.setCell ?_ ?_ _); rotate_left; focus (first | with_reducible exact Nat.le_refl _ | omega | (simp; done) | (simp; omega))) | (with_reducible refine Below.drew ?_) | ((with_reducible refine Below.trans ?_ (Below.mono (by with_reducible assumption) ?_)); rotate_left; focus (first | with_reducible exact Nat.le_refl _ | omega | (simp; done) | (simp; omega)))))⟩
      case round =>
        obtain ⟨k, hk, rfl, hbr⟩ := hrel
        have hzr := hbr.size
        by_cases hlt : k < 0
        · omega
        · have hkM : k = 0 := by omega
          have hlr : w1.heap.size < wr.heap.size := by omega
          have _ := fun o => hbr.cell (p := ⟨w1.heap.size, o, none⟩) (by first | omega | (simp; done) | (simp; omega))
          have HBr := Lib.hid hbr
          have HLr := Lib.hid (HL3.out.below hbr)
          have O2r := Lib.hid (O23.out.below hbr)
          subst hkM
          go_wp2_with fail
          refine (alive_any _).mono ?_; rintro e w5 ⟨rfl, hb5⟩; have hz5 := hb5.size; (try simp at hz5)
          go_wp2
          go_ret
          exact ⟨rfl, by (repeat (first | with_reducible exact Below.refl _ _ | with_reducible assumption | ((with_reducible refine Below.alloc ?_ ?_ _); rotate_left; focus (first | with_reducible exact Nat.le_refl _ | omega | (simp; done) | (simp; omega))) | ((with_reducible refine Below.setCell ?_ ?_ _); rotate_left; focus (first | with_reducible exact Nat.le_refl _ | omega | (simp; done) | (simp; omega))) | (with_reducible refine Below.drew ?_) | ((with_reducible refine Below.trans ?_ (Below.mono (by with_reducible assumption) ?_)); rotate_left; focus (first | with_reducible exact Nat.le_refl _ | omega | (simp; done) | (simp; omega)))))⟩
    · obtain ⟨M, HM⟩ : ∃ M, Hid (cntF (woB f m r) (m + 1) = M) := ⟨_, Lib.hid rfl⟩
      have hMm : M = m + 1 := by rw [← HM.out, hB0]; rfl
      obtain ⟨hl1, hr1, u1, u2, u3, a1, a2⟩ := with_law hB0
      have b1 := ua_bd f m
      have b2 := ua_bd (withF f m r) (m + 1)
      rw [← hMm] at u1 u2 u3 b2
      have hB := hB0
      generalize hN1 : uaF f m = N1 at u1 u2 u3 b1
      generalize hN2 : uaF (withF f m r) M = N2 at u1 u2 u3 b2
      generalize hAr : areaM r = V at u2 a1 a2
      have U3 := Lib.hid u3
      have HN1 := Lib.hid hN1
      have HN2 := Lib.hid hN2
      have HAr := Lib.hid hAr
      have HMm := Lib.hid hMm
      obtain ⟨b11, b12⟩ := b1
      obtain ⟨b21, b22⟩ := b2
      have hM8 : M ≤ 9 := by omega
      clear u3 hN1 hN2 hAr hMm hB0
      have HL1 := Lib.hid (HO1.out.below (w' := w1.alloc (.cells #[.int .i64 r.l, .int .i64 r.o, .int .i64 r.r, .int .i64 r.h] 27)) ((Below.refl _ _).alloc (Nat.le_refl _) _))
      go_wp2_with fail
      refine (iwo_val3 A m lcap f r M true HM.out hB _ Hmm.out HL1.out.rs HH1.out).mono ?_; rintro e w2 hp; have HP2 := Lib.hid hp; clear hp; obtain ⟨A2, c2, g2, rfl, ho2, hg2, _, hb2⟩ := HP2.out; have hz2 := hb2.size; (try simp at hz2); have O2 := Lib.hid ho2; clear ho2; have HL2 := Lib.hid (HL1.out.below hb2); have _ : w1.heap.size < w2.heap.size := (by first | (simp; done) | omega | (simp; omega)); have _ := fun o => hb2.cell (p := ⟨w1.heap.size, o, none⟩) (by first | (simp; done) | omega | (simp; omega))
      go_wp2_with fail
      refine (swo_val3 A m lcap f r M true HM.out hB _ (by omega) HL2.out.rs HH1.out).mono ?_; rintro e w3 hp; have HP3 := Lib.hid hp; clear hp; obtain ⟨A3, c3, g3, rfl, ho3, hg3, _, hb3⟩ := HP3.out; have hz3 := hb3.size; (try simp at hz3); have O3 := Lib.hid ho3; clear ho3; have HL3 := Lib.hid (HL2.out.below hb3); have _ : w1.heap.size < w3.heap.size := (by first | (simp; done) | omega | (simp; omega)); have _ := fun o => hb3.cell (p := ⟨w1.heap.size, o, none⟩) (by first | (simp; done) | omega | (simp; omega))
      have O23 := Lib.hid (O2.out.below hb3)
      go_wp2
      go_loopw [9] (fun i wr => ∃ k : Nat, k ≤ M ∧ i = .int .i64 k ∧ Below w3.heap.size w3 wr) (fun i _ => M - (intOf i).toNat)
      case atStart => exact ⟨0, Nat.zero_le _, rfl, by (repeat (first | with_reducible exact Below.refl _ _ | with_reducible assumption | ((with_reducible refine Below.alloc ?_ ?_ _); rotate_left; focus (first | with_reducible exact Nat.le_refl _ | omega | (simp; done) | (simp; omega))) | ((with_reducible refine Below.setCell ?_ ?_ _); rotate_left; focus (first | with_reducible exact Nat.le_refl _ | omega | (simp; done) | (simp; omega))) | (with_reducible refine Below.drew ?_) | ((with_reducible refine Below.trans ?_ (Below.mono (by with_reducible assumption) ?_)); rotate_left; focus (first | with_reducible exact Nat.le_refl _ | omega | (simp; done) | (simp; omega)))))⟩
      case round =>
        obtain ⟨k, hk, rfl, hbr⟩ := hrel
        have hzr := hbr.size
        by_cases hlt : k < M
        · obtain ⟨b, off, hA1, hbl, c0, c1, c2', c3'⟩ := (O23.out.below hbr).rs.at_ hlt
          obtain ⟨b', off', hA2, hbl', d0, d1, d2, d3⟩ := (O3.out.below hbr).rs.at_ hlt
          subst hA1 hA2
          go_wp2_with fail
          go_quiet (fail)
          go_wp2
          go_roundw
          case rel => exact ⟨k + 1, by omega, by go_num, bel_drewN hbr _⟩
          case measure => simp [intOf]; omega
        · have hkM : k = M := by omega
          have hlr : w1.heap.size < wr.heap.size := by omega
          have _ := fun o => hbr.cell (p := ⟨w1.heap.size, o, none⟩) (by first | omega | (simp; done) | (simp; omega))
          have HBr := Lib.hid hbr
          have HLr := Lib.hid (HL3.out.below hbr)
          have O2r := Lib.hid (O23.out.below hbr)
          subst hkM
          go_wp2_with fail
          refine (iua_val A m lcap f N1 HN1.out _ Hmm.out HLr.out.rs).mono ?_; rintro e w5 ⟨rfl, hb5⟩; have hz5 := hb5.size; (try simp at hz5); have _ : w1.heap.size < w5.heap.size := (by first | (simp; done) | omega | (simp; omega)); have _ := fun o => hb5.cell (p := ⟨w1.heap.size, o, none⟩) (by first | (simp; done) | omega | (simp; omega)); have HL5 := Lib.hid (HLr.out.below hb5); have O25 := Lib.hid (O2r.out.below hb5)
          go_wp2_with fail
          refine (iua_val A2 k c2 (withF f m r) N2 HN2.out _ (by unfold maxLen; omega) O25.out.rs).mono ?_; rintro e w6 ⟨rfl, hb6⟩; have hz6 := hb6.size; (try simp at hz6); have _ : w1.heap.size < w6.heap.size := (by first | (simp; done) | omega | (simp; omega)); have _ := fun o => hb6.cell (p := ⟨w1.heap.size, o, none⟩) (by first | (simp; done) | omega | (simp; omega)); have HL6 := Lib.hid (HL5.out.below hb6)
          go_wp2
          go_loopw [12, 13] (fun s i wr => ∃ j : Nat, j ≤ m ∧ i = .int .i64 j ∧ s = .bool (winTo f r j) ∧ Below w6.heap.size w6 wr) (fun _ i _ => m - (intOf i).toNat)
          case atStart => exact ⟨0, Nat.zero_le _, rfl, rfl, Below.refl _ _⟩
          case round =>
            obtain ⟨j, hj, rfl, rfl, hbj⟩ := hrel
            have hzj := hbj.size
            have hlj : w1.heap.size < wr.heap.size := by omega
            have _ := fun o => hbj.cell (p := ⟨w1.heap.size, o, none⟩) (by first | omega | (simp; done) | (simp; omega))
            by_cases hlt : j < m
            · obtain ⟨b, off, hA1, hbl, c0, c1, c2', c3'⟩ := (HL6.out.below hbj).rs.at_ hlt
              subst hA1
              cases hwj : winTo f r j
              · obtain ⟨V2, hV2⟩ : ∃ V2, wiB r (f j) = V2 := ⟨_, rfl⟩
                go_wp2_with fail
                have hq : True := trivial; have hq := fun d os o => (below_regrown wr d os).cell (p := ⟨b, o, none⟩) (by first | (simp; done) | omega | (simp; omega)); have hq := fun d os o => (below_regrown wr d os).cell (p := ⟨w1.heap.size, o, none⟩) (by first | (simp; done) | omega | (simp; omega)); refine wp_region_quiet_below (by kernel_rfl) (by kernel_rfl) ?_; (repeat (first | go_big_quiet_step (exact Calls.regrown_of (iwi_val7 _ _ _ hV2 _)) | quiet_step (exact Calls.regrown_of (iwi_val7 _ _ _ hV2 _)))); refine wpQuiet_nil ?_; intro _ hw'; obtain ⟨⟨dq, osq⟩, hw''⟩ := hw'; subst hw''; clear hq; have hb7 := below_regrown wr dq osq; generalize Sort.grow (redrawn wr dq) osq = w7 at hb7 ⊢; have hz7 := hb7.size; (try simp at hz7); have _ : b < w7.heap.size := (by first | (simp; done) | omega | (simp; omega)); have _ : w1.heap.size < w7.heap.size := (by first | (simp; done) | omega | (simp; omega)); have _ := fun o => hb7.cell (p := ⟨b, o, none⟩) (by first | (simp; done) | omega | (simp; omega)); have _ := fun o => hb7.cell (p := ⟨w1.heap.size, o, none⟩) (by first | (simp; done) | omega | (simp; omega))
                go_wp2
                go_roundw
                case rel => exact ⟨j + 1, by omega, by go_num, by simp only [winTo]; rw [hwj, hV2, Bool.false_or], by (repeat (first | with_reducible exact Below.refl _ _ | with_reducible assumption | ((with_reducible refine Below.alloc ?_ ?_ _); rotate_left; focus (first | with_reducible exact Nat.le_refl _ | omega | (simp; done) | (simp; omega))) | ((with_reducible refine Below.setCell ?_ ?_ _); rotate_left; focus (first | with_reducible exact Nat.le_refl _ | omega | (simp; done) | (simp; omega))) | (with_reducible refine Below.drew ?_) | ((with_reducible refine Below.trans ?_ (Below.mono (by with_reducible assumption) ?_)); rotate_left; focus (first | with_reducible exact Nat.le_refl _ | omega | (simp; done) | (simp; omega)))))⟩
                case measure => simp [intOf]; omega
              · go_wp2_with fail
                have hq : True := trivial; have hq := fun d os o => (below_regrown wr d os).cell (p := ⟨b, o, none⟩) (by first | (simp; done) | omega | (simp; omega)); have hq := fun d os o => (below_regrown wr d os).cell (p := ⟨w1.heap.size, o, none⟩) (by first | (simp; done) | omega | (simp; omega)); refine wp_region_quiet_below (by kernel_rfl) (by kernel_rfl) ?_; (repeat (first | go_big_quiet_step (fail) | quiet_step (fail))); refine wpQuiet_nil ?_; intro _ hw'; obtain ⟨⟨dq, osq⟩, hw''⟩ := hw'; subst hw''; clear hq; have hb7 := below_regrown wr dq osq; generalize Sort.grow (redrawn wr dq) osq = w7 at hb7 ⊢; have hz7 := hb7.size; (try simp at hz7); have _ : b < w7.heap.size := (by first | (simp; done) | omega | (simp; omega)); have _ : w1.heap.size < w7.heap.size := (by first | (simp; done) | omega | (simp; omega)); have _ := fun o => hb7.cell (p := ⟨b, o, none⟩) (by first | (simp; done) | omega | (simp; omega)); have _ := fun o => hb7.cell (p := ⟨w1.heap.size, o, none⟩) (by first | (simp; done) | omega | (simp; omega))
                go_wp2
                go_roundw
                case rel => exact ⟨j + 1, by omega, by go_num, by simp only [winTo]; rw [hwj, Bool.true_or], by (repeat (first | with_reducible exact Below.refl _ _ | with_reducible assumption | ((with_reducible refine Below.alloc ?_ ?_ _); rotate_left; focus (first | with_reducible exact Nat.le_refl _ | omega | (simp; done) | (simp; omega))) | ((with_reducible refine Below.setCell ?_ ?_ _); rotate_left; focus (first | with_reducible exact Nat.le_refl _ | omega | (simp; done) | (simp; omega))) | (with_reducible refine Below.drew ?_) | ((with_reducible refine Below.trans ?_ (Below.mono (by with_reducible assumption) ?_)); rotate_left; focus (first | with_reducible exact Nat.le_refl _ | omega | (simp; done) | (simp; omega)))))⟩
                case measure => simp [intOf]; omega
            · obtain rfl : j = m := by omega
              have U3' := U3.out
              cases hwj : winTo f r j
              · go_wp2_with fail
                refine (iarea_val r V HAr.out _).mono ?_; rintro e w7 ⟨rfl, hb7⟩; have hz7 := hb7.size; (try simp at hz7)
                go_wp2
                go_ret
                exact ⟨rfl, by (repeat (first | with_reducible exact Below.refl _ _ | with_reducible assumption | ((with_reducible refine Below.alloc ?_ ?_ _); rotate_left; focus (first | with_reducible exact Nat.le_refl _ | omega | (simp; done) | (simp; omega))) | ((with_reducible refine Below.setCell ?_ ?_ _); rotate_left; focus (first | with_reducible exact Nat.le_refl _ | omega | (simp; done) | (simp; omega))) | (with_reducible refine Below.drew ?_) | ((with_reducible refine Below.trans ?_ (Below.mono (by with_reducible assumption) ?_)); rotate_left; focus (first | with_reducible exact Nat.le_refl _ | omega | (simp; done) | (simp; omega)))))⟩
              · have hNN := U3' hwj
                subst hNN
                go_wp2_with fail
                refine (iarea_val r V HAr.out _).mono ?_; rintro e w7 ⟨rfl, hb7⟩; have hz7 := hb7.size; (try simp at hz7)
                go_wp2
                go_ret
                exact ⟨rfl, by (repeat (first | with_reducible exact Below.refl _ _ | with_reducible assumption | ((with_reducible refine Below.alloc ?_ ?_ _); rotate_left; focus (first | with_reducible exact Nat.le_refl _ | omega | (simp; done) | (simp; omega))) | ((with_reducible refine Below.setCell ?_ ?_ _); rotate_left; focus (first | with_reducible exact Nat.le_refl _ | omega | (simp; done) | (simp; omega))) | (with_reducible refine Below.drew ?_) | ((with_reducible refine Below.trans ?_ (Below.mono (by with_reducible assumption) ?_)); rotate_left; focus (first | with_reducible exact Nat.le_refl _ | omega | (simp; done) | (simp; omega)))))⟩
end Go.Proofs.Ytipnldbdlimnhaa
