
/- The law of AllCommon: its walk. -/
import Derived.Test.YtipnldbdlimnhaaLaw5
namespace Go.Proofs.Ytipnldbdlimnhaa
open Go.RowKit Go.Sort Go.BigFrame
set_option linter.unusedVariables false
theorem iac_val (A : Option Addr) (n cap : Nat) (f : Nat → Rt) (r : Rt) (b : Bool) (h1 : acRF f n = r) (h2 : acF f n = b) (w : World) (hn : n ≤ maxLen) (hr : Rs w A n f) :
    Calls Try.prog 23 #[.slice A n cap] w fun e w' => e = .returned (.tuple #[rv r, .bool b]) ∧ Below w.heap.size w w' := by
  subst h1 h2; exact iac_any A n cap f w hn hr
theorem sac_val (A : Option Addr) (n cap : Nat) (f : Nat → Rt) (r : Rt) (b : Bool) (h1 : acRF f n = r) (h2 : acF f n = b) (w : World) (hn : n ≤ maxLen) (hr : Rs w A n f) :
    Calls Try.prog 24 #[.slice A n cap] w fun e w' => e = .returned (.tuple #[rv r, .bool b]) ∧ Below w.heap.size w w' := by
  subst h1 h2; exact sac_any A n cap f w hn hr
theorem iwi_yes (a b : Rt) (h : wiB a b = true) (w : World) :
    Calls Try.prog 25 #[rv a, rv b] w fun e w' => e = .returned (.bool true) ∧ Below w.heap.size w w' := h ▸ iwi_any a b w
theorem insideB_trans {a b c : Rt} (h : insideB a b = true) (k : insideB b c = true) : insideB a c = true := by
  unfold insideB at *; simp at *; omega
theorem inside_common (a b : Rt) : insideB (commonR a b) a = true ∧ insideB (commonR a b) b = true := by
  unfold insideB commonR; simp; omega
theorem fold_inside (f : Nat → Rt) (n : Nat) : ∀ k, k < n → insideB (foldC (upTo f n)) (f k) = true := by
  induction n with
  | zero => intro k h; omega
  | succ n ih =>
    intro k hk
    rw [up_succ]
    by_cases e : k = n
    · subst e; exact (inside_common _ _).2
    · exact insideB_trans (inside_common _ _).1 (ih k (by omega))
theorem ac_facts {f : Nat → Rt} {n : Nat} (h : acF f n = true) : laidF f n = true ∧ 0 < n ∧ okB (foldC (upTo f n)) = true ∧ acRF f n = foldC (upTo f n) := by
  have h' := h
  unfold acF at h'
  simp only [Bool.and_eq_true, Bool.not_eq_true', decide_eq_false_iff_not] at h'
  exact ⟨h'.1, by omega, h'.2.2, by unfold acRF; rw [h]; rfl⟩
theorem ac_within {f : Nat → Rt} {n : Nat} (h : acF f n = true) (k : Nat) (hk : k < n) : wiB (acRF f n) (f k) = true := by
  obtain ⟨hl, _, ho, e⟩ := ac_facts h
  rw [e]
  unfold wiB bothB
  rw [ho, okTo_le (laidF_ok hl).2 hk, fold_inside f n k hk]
  rfl
theorem ac_less {f : Nat → Rt} {n : Nat} (h : acF f (n + 1) = true) (hn : 0 < n) : acF f n = true ∧ wiB (acRF f (n + 1)) (acRF f n) = true := by
  obtain ⟨hl, _, ho, e⟩ := ac_facts h
  have hb := foldC_bd (upTo f n)
  have ho' := okB_iff.1 ho
  rw [up_succ] at ho'
  have hok : okB (foldC (upTo f n)) = true := by
    rw [okB_iff]; unfold commonR at ho'; dsimp only at ho'; omega
  have hac : acF f n = true := by
    unfold acF; rw [laidF_less hl (by omega), hok, show decide (n = 0) = false by simp; omega]; rfl
  refine ⟨hac, ?_⟩
  rw [e, (ac_facts hac).2.2.2]
  unfold wiB bothB
  rw [ho, hok, up_succ, (inside_common _ _).1]
  rfl
theorem ac_one {f : Nat → Rt} (h : acF f 1 = true) : acRF f 1 = f 0 := by
  obtain ⟨hl, _, ho, e⟩ := ac_facts h
  rw [e]; exact up_one f (okTo_le (laidF_ok hl).2 (by omega))

set_option maxHeartbeats 2000000 in
theorem walkAllCommon (a : Option Addr) (len cap : Nat) (w : World) (hc : Came w a len cap) :
    Calls Try.prog 5 #[.slice a len cap] w fun e w' => e = .returned (.bool true) ∧ Below w.heap.size w w' := by
  have hm := hc.len_le
  by_cases hl : 1048576 < len
  · go_enter Try.func5, Try.ntmps5
    go_wp2
    go_ret
    exact ⟨rfl, Below.refl _ _⟩
  · go_enter Try.func5, Try.ntmps5
    go_wp2_with fail
    refine (dAllCommon _ _ _ _ hc).mono ?_; rintro e w1 hp; have HP1 := Lib.hid hp; clear hp; obtain ⟨A, m, lcap, g, f, rfl, hm8, ho1, hg1, hh1, hb1⟩ := HP1.out; have hz1 := hb1.size; (try simp at hz1); have HO1 := Lib.hid ho1; have HH1 := Lib.hid hh1; clear ho1 hh1; have hmm : m ≤ maxLen := (by unfold maxLen; omega); have Hmm := Lib.hid hmm; clear hmm
    cases hL : acF f m
    · have hC : acRF f m = Rt.zero := by unfold acRF; rw [hL]; rfl
      have z1 : Rt.zero.l = 0 := rfl
      have z2 : Rt.zero.o = 0 := rfl
      have z3 : Rt.zero.r = 0 := rfl
      have z4 : Rt.zero.h = 0 := rfl
      have HC := Lib.hid hC
      clear hC
      go_wp2_with fail
      refine (iac_val A m lcap f Rt.zero false HC.out hL _ Hmm.out HO1.out.rs).mono ?_; rintro e w2 ⟨rfl, hb2⟩; have hz2 := hb2.size; (try simp at hz2); have HO2 := Lib.hid (HO1.out.below hb2)
      have HO2a := Lib.hid (HO2.out.below (w' := w2.alloc (.cells #[.int .i64 Rt.zero.l, .int .i64 Rt.zero.o, .int .i64 Rt.zero.r, .int .i64 Rt.zero.h] 27)) ((Below.refl _ _).alloc (Nat.le_refl _) _))
      go_wp2_with fail
      refine (sac_val A m lcap f Rt.zero false HC.out hL _ Hmm.out HO2a.out.rs).mono ?_; rintro e w3 ⟨rfl, hb3⟩; have hz3 := hb3.size; (try simp at hz3); have _ : w2.heap.size < w3.heap.size := (by first | (simp; done) | omega | (simp; omega)); have _ := fun o => hb3.cell (p := ⟨w2.heap.size, o, none⟩) (by first | (simp; done) | omega | (simp; omega)); have HO3 := Lib.hid (HO2a.out.below hb3)
      go_wp2_with fail
      refine (alive_any _).mono ?_; rintro e w4 ⟨rfl, hb4⟩; have hz4 := hb4.size; (try simp at hz4)
      go_wp2
      go_ret
      exact ⟨rfl, by (repeat (first | with_reducible exact Below.refl _ _ | with_reducible assumption | ((with_reducible refine Below.alloc ?_ ?_ _); rotate_left; focus (first | with_reducible exact Nat.le_refl _ | omega | (simp; done) | (simp; omega))) | ((with_reducible refine Below.setCell ?_ ?_ _); rotate_left; focus (first | with_reducible exact Nat.le_refl _ | omega | (simp; done) | (simp; omega))) | (with_reducible refine Below.drew ?_) | ((with_reducible refine Below.trans ?_ (Below.mono (by with_reducible assumption) ?_)); rotate_left; focus (first | with_reducible exact Nat.le_refl _ | omega | (simp; done) | (simp; omega)))))⟩
    · have hpos := (ac_facts hL).2.1
      have hcap := HH1.out.1
      by_cases hm1 : m = 1
      · subst hm1
        have HC := Lib.hid (ac_one hL)
        have HW : Hid (∀ k, k < 1 → wiB (f 0) (f k) = true) := Lib.hid (fun k hk => by have := ac_within hL k hk; rw [HC.out] at this; exact this)
        go_wp2_with fail
        refine (iac_val A 1 lcap f (f 0) true HC.out hL _ Hmm.out HO1.out.rs).mono ?_; rintro e w2 ⟨rfl, hb2⟩; have hz2 := hb2.size; (try simp at hz2); have HO2 := Lib.hid (HO1.out.below hb2)
        have HO2a := Lib.hid (HO2.out.below (w' := w2.alloc (.cells #[.int .i64 (f 0).l, .int .i64 (f 0).o, .int .i64 (f 0).r, .int .i64 (f 0).h] 27)) ((Below.refl _ _).alloc (Nat.le_refl _) _))
        go_wp2_with fail
        refine (sac_val A 1 lcap f (f 0) true HC.out hL _ Hmm.out HO2a.out.rs).mono ?_; rintro e w3 ⟨rfl, hb3⟩; have hz3 := hb3.size; (try simp at hz3); have _ : w2.heap.size < w3.heap.size := (by first | (simp; done) | omega | (simp; omega)); have _ := fun o => hb3.cell (p := ⟨w2.heap.size, o, none⟩) (by first | (simp; done) | omega | (simp; omega)); have HO3 := Lib.hid (HO2a.out.below hb3)
        go_wp2
        go_loopw [8] (fun i wr => ∃ k : Nat, k ≤ 1 ∧ i = .int .i64 k ∧ Below w3.heap.size w3 wr) (fun i _ => 1 - (intOf i).toNat)
        case atStart => exact ⟨0, Nat.zero_le _, rfl, by (repeat (first | with_reducible exact Below.refl _ _ | with_reducible assumption | ((with_reducible refine Below.alloc ?_ ?_ _); rotate_left; focus (first | with_reducible exact Nat.le_refl _ | omega | (simp; done) | (simp; omega))) | ((with_reducible refine Below.setCell ?_ ?_ _); rotate_left; focus (first | with_reducible exact Nat.le_refl _ | omega | (simp; done) | (simp; omega))) | (with_reducible refine Below.drew ?_) | ((with_reducible refine Below.trans ?_ (Below.mono (by with_reducible assumption) ?_)); rotate_left; focus (first | with_reducible exact Nat.le_refl _ | omega | (simp; done) | (simp; omega)))))⟩
        case round =>
          obtain ⟨k, hk, rfl, hbr⟩ := hrel
          have hzr := hbr.size
          have hlr : w2.heap.size < wr.heap.size := by omega
          have _ := fun o => hbr.cell (p := ⟨w2.heap.size, o, none⟩) (by first | omega | (simp; done) | (simp; omega))
          by_cases hlt : k < 1
          · obtain ⟨b, off, rfl, hbl, c0, c1, c2, c3⟩ := (HO3.out.below hbr).rs.at_ hlt
            have hwk := HW.out k hlt
            go_wp2_with fail
            have hq : True := trivial; have hq := fun d os o => (below_regrown wr d os).cell (p := ⟨b, o, none⟩) (by first | (simp; done) | omega | (simp; omega)); have hq := fun d os o => (below_regrown wr d os).cell (p := ⟨w2.heap.size, o, none⟩) (by first | (simp; done) | omega | (simp; omega)); refine wp_region_quiet_below (by kernel_rfl) (by kernel_rfl) ?_; (repeat (first | go_big_quiet_step (exact Calls.regrown_of (iwi_yes _ _ hwk _)) | quiet_step (exact Calls.regrown_of (iwi_yes _ _ hwk _)))); refine wpQuiet_nil ?_; intro _ hw'; obtain ⟨⟨dq, osq⟩, hw''⟩ := hw'; subst hw''; clear hq; have hb4 := below_regrown wr dq osq; generalize Sort.grow (redrawn wr dq) osq = w4 at hb4 ⊢; have hz4 := hb4.size; (try simp at hz4); have _ : b < w4.heap.size := (by first | (simp; done) | omega | (simp; omega)); have _ : w2.heap.size < w4.heap.size := (by first | (simp; done) | omega | (simp; omega)); have _ := fun o => hb4.cell (p := ⟨b, o, none⟩) (by first | (simp; done) | omega | (simp; omega)); have _ := fun o => hb4.cell (p := ⟨w2.heap.size, o, none⟩) (by first | (simp; done) | omega | (simp; omega))
            go_wp2
            go_roundw
            case rel => exact ⟨k + 1, by omega, by go_num, by (repeat (first | with_reducible exact Below.refl _ _ | with_reducible assumption | ((with_reducible refine Below.alloc ?_ ?_ _); rotate_left; focus (first | with_reducible exact Nat.le_refl _ | omega | (simp; done) | (simp; omega))) | ((with_reducible refine Below.setCell ?_ ?_ _); rotate_left; focus (first | with_reducible exact Nat.le_refl _ | omega | (simp; done) | (simp; omega))) | (with_reducible refine Below.drew ?_) | ((with_reducible refine Below.trans ?_ (Below.mono (by with_reducible assumption) ?_)); rotate_left; focus (first | with_reducible exact Nat.le_refl _ | omega | (simp; done) | (simp; omega)))))⟩
            case measure => simp [intOf]; omega
          · have HO4 := Lib.hid (HO3.out.below hbr)
            obtain ⟨b, off, rfl, hbl, c0, c1, c2, c3⟩ := HO4.out.rs.at_ (by omega : 0 < 1)
            simp only [Nat.zero_mul, Nat.add_zero] at c0 c1 c2 c3
            go_wp2_with fail
            go_quiet (fail)
            go_wp2
            go_ret
            exact ⟨rfl, (by (repeat (first | with_reducible exact Below.refl _ _ | with_reducible assumption | ((with_reducible refine Below.alloc ?_ ?_ _); rotate_left; focus (first | with_reducible exact Nat.le_refl _ | omega | (simp; done) | (simp; omega))) | ((with_reducible refine Below.setCell ?_ ?_ _); rotate_left; focus (first | with_reducible exact Nat.le_refl _ | omega | (simp; done) | (simp; omega))) | (with_reducible refine Below.drew ?_) | ((with_reducible refine Below.trans ?_ (Below.mono (by with_reducible assumption) ?_)); rotate_left; focus (first | with_reducible exact Nat.le_refl _ | omega | (simp; done) | (simp; omega))))) : Below w.heap.size w w3).trans (bel_drewN (hbr.mono (by omega)) _)⟩
      · have hn1 : ((m : Int) == 1) = false := by simp; omega
        have ht : ((m : Int) - 1).toNat = m - 1 := by omega
        have hle := ac_less (n := m - 1) (by rw [Nat.sub_add_cancel hpos]; exact hL) (by omega)
        rw [Nat.sub_add_cancel hpos] at hle
        obtain ⟨hD2, hCD⟩ := hle
        have hW : ∀ k, k < m → wiB (acRF f m) (f k) = true := fun k hk => ac_within hL k hk
        generalize hC : acRF f m = C at hCD hW
        generalize hD : acRF f (m - 1) = D at hCD
        have HCD := Lib.hid hCD
        have HW := Lib.hid hW
        have HC := Lib.hid hC
        clear hCD hW hC
        go_wp2_with fail
        refine (iac_val A m lcap f C true HC.out hL _ Hmm.out HO1.out.rs).mono ?_; rintro e w2 ⟨rfl, hb2⟩; have hz2 := hb2.size; (try simp at hz2); have HO2 := Lib.hid (HO1.out.below hb2)
        have HO2a := Lib.hid (HO2.out.below (w' := w2.alloc (.cells #[.int .i64 C.l, .int .i64 C.o, .int .i64 C.r, .int .i64 C.h] 27)) ((Below.refl _ _).alloc (Nat.le_refl _) _))
        go_wp2_with fail
        refine (sac_val A m lcap f C true HC.out hL _ Hmm.out HO2a.out.rs).mono ?_; rintro e w3 ⟨rfl, hb3⟩; have hz3 := hb3.size; (try simp at hz3); have _ : w2.heap.size < w3.heap.size := (by first | (simp; done) | omega | (simp; omega)); have _ := fun o => hb3.cell (p := ⟨w2.heap.size, o, none⟩) (by first | (simp; done) | omega | (simp; omega)); have HO3 := Lib.hid (HO2a.out.below hb3)
        go_wp2
        go_loopw [8] (fun i wr => ∃ k : Nat, k ≤ m ∧ i = .int .i64 k ∧ Below w3.heap.size w3 wr) (fun i _ => m - (intOf i).toNat)
        case atStart => exact ⟨0, Nat.zero_le _, rfl, by (repeat (first | with_reducible exact Below.refl _ _ | with_reducible assumption | ((with_reducible refine Below.alloc ?_ ?_ _); rotate_left; focus (first | with_reducible exact Nat.le_refl _ | omega | (simp; done) | (simp; omega))) | ((with_reducible refine Below.setCell ?_ ?_ _); rotate_left; focus (first | with_reducible exact Nat.le_refl _ | omega | (simp; done) | (simp; omega))) | (with_reducible refine Below.drew ?_) | ((with_reducible refine Below.trans ?_ (Below.mono (by with_reducible assumption) ?_)); rotate_left; focus (first | with_reducible exact Nat.le_refl _ | omega | (simp; done) | (simp; omega)))))⟩
        case round =>
          obtain ⟨k, hk, rfl, hbr⟩ := hrel
          have hzr := hbr.size
          have hlr : w2.heap.size < wr.heap.size := by omega
          have _ := fun o => hbr.cell (p := ⟨w2.heap.size, o, none⟩) (by first | omega | (simp; done) | (simp; omega))
          by_cases hlt : k < m
          · obtain ⟨b, off, rfl, hbl, c0, c1, c2, c3⟩ := (HO3.out.below hbr).rs.at_ hlt
            have hwk := HW.out k hlt
            go_wp2_with fail
            have hq : True := trivial; have hq := fun d os o => (below_regrown wr d os).cell (p := ⟨b, o, none⟩) (by first | (simp; done) | omega | (simp; omega)); have hq := fun d os o => (below_regrown wr d os).cell (p := ⟨w2.heap.size, o, none⟩) (by first | (simp; done) | omega | (simp; omega)); refine wp_region_quiet_below (by kernel_rfl) (by kernel_rfl) ?_; (repeat (first | go_big_quiet_step (exact Calls.regrown_of (iwi_yes _ _ hwk _)) | quiet_step (exact Calls.regrown_of (iwi_yes _ _ hwk _)))); refine wpQuiet_nil ?_; intro _ hw'; obtain ⟨⟨dq, osq⟩, hw''⟩ := hw'; subst hw''; clear hq; have hb4 := below_regrown wr dq osq; generalize Sort.grow (redrawn wr dq) osq = w4 at hb4 ⊢; have hz4 := hb4.size; (try simp at hz4); have _ : b < w4.heap.size := (by first | (simp; done) | omega | (simp; omega)); have _ : w2.heap.size < w4.heap.size := (by first | (simp; done) | omega | (simp; omega)); have _ := fun o => hb4.cell (p := ⟨b, o, none⟩) (by first | (simp; done) | omega | (simp; omega)); have _ := fun o => hb4.cell (p := ⟨w2.heap.size, o, none⟩) (by first | (simp; done) | omega | (simp; omega))
            go_wp2
            go_roundw
            case rel => exact ⟨k + 1, by omega, by go_num, by (repeat (first | with_reducible exact Below.refl _ _ | with_reducible assumption | ((with_reducible refine Below.alloc ?_ ?_ _); rotate_left; focus (first | with_reducible exact Nat.le_refl _ | omega | (simp; done) | (simp; omega))) | ((with_reducible refine Below.setCell ?_ ?_ _); rotate_left; focus (first | with_reducible exact Nat.le_refl _ | omega | (simp; done) | (simp; omega))) | (with_reducible refine Below.drew ?_) | ((with_reducible refine Below.trans ?_ (Below.mono (by with_reducible assumption) ?_)); rotate_left; focus (first | with_reducible exact Nat.le_refl _ | omega | (simp; done) | (simp; omega)))))⟩
            case measure => simp [intOf]; omega
          · have HO4 := Lib.hid (HO3.out.below hbr)
            go_wp2_with fail
            refine (iac_val A (m - 1) lcap f D true hD hD2 _ (by unfold maxLen; omega) (HO4.out.less (by omega)).rs).mono ?_; rintro e w5 ⟨rfl, hb5⟩; have hz5 := hb5.size; (try simp at hz5); have _ : w2.heap.size < w5.heap.size := (by first | (simp; done) | omega | (simp; omega)); have _ := fun o => hb5.cell (p := ⟨w2.heap.size, o, none⟩) (by first | (simp; done) | omega | (simp; omega))
            go_wp2_with fail
            refine (iwi_yes C D HCD.out _).mono ?_; rintro e w6 ⟨rfl, hb6⟩; have hz6 := hb6.size; (try simp at hz6)
            go_wp2
            go_ret
            exact ⟨rfl, by (repeat (first | with_reducible exact Below.refl _ _ | with_reducible assumption | ((with_reducible refine Below.alloc ?_ ?_ _); rotate_left; focus (first | with_reducible exact Nat.le_refl _ | omega | (simp; done) | (simp; omega))) | ((with_reducible refine Below.setCell ?_ ?_ _); rotate_left; focus (first | with_reducible exact Nat.le_refl _ | omega | (simp; done) | (simp; omega))) | (with_reducible refine Below.drew ?_) | ((with_reducible refine Below.trans ?_ (Below.mono (by with_reducible assumption) ?_)); rotate_left; focus (first | with_reducible exact Nat.le_refl _ | omega | (simp; done) | (simp; omega)))))⟩
end Go.Proofs.Ytipnldbdlimnhaa
