/- The laws of chapter 1 on one rectangle: their walks. -/
import Derived.Test.YtbklknhbfgdoaaaDrawC
namespace Go.Proofs.Ytbklknhbfgdoaaa
open Go.RowKit Go.Sort Go.BigFrame
set_option linter.unusedVariables false
theorem iok_val (a : Rt) (v : Bool) (h : okB a = v) (w : World) :
    Calls Try.prog 18 #[rv a] w fun e w' => e = .returned (.bool v) ∧ Below w.heap.size w w' := h ▸ iok_any a w
theorem iwi_val (a b : Rt) (v : Bool) (h : wiB a b = v) (w : World) :
    Calls Try.prog 30 #[rv a, rv b] w fun e w' => e = .returned (.bool v) ∧ Below w.heap.size w w' := h ▸ iwi_any a b w
theorem name_world {P : Program} {c : Code} {Q : Exit → Act → World → Prop} {a : Act} {w : World} (h : ∀ w0, w = w0 → c.wp P Q a w0) : c.wp P Q a w := h w rfl
theorem below_of_eq {w w0 : World} (h : w = w0) : Below w.heap.size w w0 := h ▸ Below.refl _ _
theorem okB_over (r : Rt) : okB (overR r) = okB r := by unfold okB overR; exact Bool.and_comm _ _
theorem over_over (r : Rt) : overR (overR r) = r := rfl
theorem area_over (r : Rt) : areaM (overR r) = areaM r := by
  unfold areaM; rw [okB_over]; unfold overR; dsimp only; rw [Int.mul_comm]
theorem area_moved (r : Rt) (x y : Int) (h : okB r = true) (h2 : okB (movedR r x y) = true) : areaM (movedR r x y) = areaM r := by
  unfold areaM; rw [h, h2]; unfold movedR; dsimp only; rw [show r.r + x - (r.l + x) = r.r - r.l by omega, show r.h + y - (r.o + y) = r.h - r.o by omega]
theorem area_pos (r : Rt) (h : okB r = true) : 1 ≤ areaM r ∧ areaM r ≤ 400 := by
  have hk := okB_iff.1 h
  have hp := span_prod (a := r.r - r.l) (b := r.h - r.o) (by omega) (by omega) (by omega) (by omega)
  have hp2 : 0 < (r.r - r.l) * (r.h - r.o) := Int.mul_pos (by omega) (by omega)
  unfold areaM; rw [h]; exact ⟨by simp; omega, by simp; omega⟩

set_option maxHeartbeats 1000000 in
theorem walkRectOk (a : Option Addr) (len cap : Nat) (w : World) (hc : Came w a len cap) :
    Calls Try.prog 3 #[.slice a len cap] w fun e w' => e = .returned (.bool true) ∧ Below w.heap.size w w' := by
  have hm := hc.len_le
  by_cases hl : 1048576 < len
  · go_enter Try.func3, Try.ntmps3
    go_wp2
    go_ret
    exact ⟨rfl, Below.refl _ _⟩
  · go_enter Try.func3, Try.ntmps3
    go_wp2_with fail
    refine (dRectOk _ _ _ _ hc).mono ?_; rintro e w1 hp; obtain ⟨r1, rfl, n1, hb1⟩ := hp; have hz1 := hb1.size; (try simp at hz1)
    have o1 : okB ⟨r1.o, r1.l, r1.h, r1.r⟩ = okB r1 := okB_over r1
    have o2 : okB ⟨0, 0, 1, 1⟩ = true := by decide
    have o3 : okB ⟨0, 0, 20, 20⟩ = true := by decide
    go_wp2_with fail
    refine (iok_any r1 _).mono ?_; rintro e w2 ⟨rfl, hb2⟩; have hz2 := hb2.size; (try simp at hz2); have _ : w1.heap.size < w2.heap.size := (by first | (simp; done) | omega | (simp; omega)); have _ := fun o => hb2.cell (p := ⟨w1.heap.size, o, none⟩) (by first | (simp; done) | omega | (simp; omega))
    go_wp2_with fail
    refine (sok_any r1 _).mono ?_; rintro e w3 ⟨rfl, hb3⟩; have hz3 := hb3.size; (try simp at hz3); have _ : w1.heap.size < w3.heap.size := (by first | (simp; done) | omega | (simp; omega)); have _ := fun o => hb3.cell (p := ⟨w1.heap.size, o, none⟩) (by first | (simp; done) | omega | (simp; omega))
    go_wp2_with fail
    refine (iok_any ⟨0, 0, 1, 1⟩ _).mono ?_; rintro e w4 ⟨rfl, hb4⟩; have hz4 := hb4.size; (try simp at hz4); have _ : w1.heap.size < w4.heap.size := (by first | (simp; done) | omega | (simp; omega)); have _ : w3.heap.size < w4.heap.size := (by first | (simp; done) | omega | (simp; omega)); have _ := fun o => hb4.cell (p := ⟨w1.heap.size, o, none⟩) (by first | (simp; done) | omega | (simp; omega)); have _ := fun o => hb4.cell (p := ⟨w3.heap.size, o, none⟩) (by first | (simp; done) | omega | (simp; omega))
    go_wp2_with fail
    refine (iok_any ⟨0, 0, 20, 20⟩ _).mono ?_; rintro e w5 ⟨rfl, hb5⟩; have hz5 := hb5.size; (try simp at hz5); have _ : w1.heap.size < w5.heap.size := (by first | (simp; done) | omega | (simp; omega)); have _ : w3.heap.size < w5.heap.size := (by first | (simp; done) | omega | (simp; omega)); have _ := fun o => hb5.cell (p := ⟨w1.heap.size, o, none⟩) (by first | (simp; done) | omega | (simp; omega)); have _ := fun o => hb5.cell (p := ⟨w3.heap.size, o, none⟩) (by first | (simp; done) | omega | (simp; omega))
    go_wp2_with fail
    refine (iok_any ⟨r1.o, r1.l, r1.h, r1.r⟩ _).mono ?_; rintro e w6 ⟨rfl, hb6⟩; have hz6 := hb6.size; (try simp at hz6); have _ : w1.heap.size < w6.heap.size := (by first | (simp; done) | omega | (simp; omega)); have _ : w3.heap.size < w6.heap.size := (by first | (simp; done) | omega | (simp; omega)); have _ := fun o => hb6.cell (p := ⟨w1.heap.size, o, none⟩) (by first | (simp; done) | omega | (simp; omega)); have _ := fun o => hb6.cell (p := ⟨w3.heap.size, o, none⟩) (by first | (simp; done) | omega | (simp; omega))
    go_wp2_with fail
    refine (alive_any _).mono ?_; rintro e w7 ⟨rfl, hb7⟩; have hz7 := hb7.size; (try simp at hz7)
    go_wp2
    go_ret
    exact ⟨rfl, by (repeat (first | with_reducible exact Below.refl _ _ | with_reducible assumption | ((with_reducible refine Below.alloc ?_ ?_ _); rotate_left; focus (first | with_reducible exact Nat.le_refl _ | omega | (simp; done) | (simp; omega))) | ((with_reducible refine Below.setCell ?_ ?_ _); rotate_left; focus (first | with_reducible exact Nat.le_refl _ | omega | (simp; done) | (simp; omega))) | (with_reducible refine Below.drew ?_) | ((with_reducible refine Below.trans ?_ (Below.mono (by with_reducible assumption) ?_)); rotate_left; focus (first | with_reducible exact Nat.le_refl _ | omega | (simp; done) | (simp; omega)))))⟩

set_option maxHeartbeats 2000000 in
theorem walkAreaOf (a : Option Addr) (len cap : Nat) (w : World) (hc : Came w a len cap) :
    Calls Try.prog 4 #[.slice a len cap] w fun e w' => e = .returned (.bool true) ∧ Below w.heap.size w w' := by
  have hm := hc.len_le
  by_cases hl : 1048576 < len
  · go_enter Try.func4, Try.ntmps4
    go_wp2
    go_ret
    exact ⟨rfl, Below.refl _ _⟩
  · go_enter Try.func4, Try.ntmps4
    go_wp2_with fail
    refine (dAreaOf _ _ _ _ hc).mono ?_; rintro e w1 hp; obtain ⟨r1, rfl, n1, hb1⟩ := hp; have hz1 := hb1.size; (try simp at hz1)
    cases ho : okB r1
    · have ha : areaM r1 = -1 := by unfold areaM; rw [ho]; rfl
      go_wp2_with fail
      refine (iarea_any r1 _).mono ?_; rintro e w2 ⟨rfl, hb2⟩; have hz2 := hb2.size; (try simp at hz2); have _ : w1.heap.size < w2.heap.size := (by first | (simp; done) | omega | (simp; omega)); have _ := fun o => hb2.cell (p := ⟨w1.heap.size, o, none⟩) (by first | (simp; done) | omega | (simp; omega))
      go_wp2_with fail
      refine (sarea_any r1 _).mono ?_; rintro e w3 ⟨rfl, hb3⟩; have hz3 := hb3.size; (try simp at hz3); have _ : w1.heap.size < w3.heap.size := (by first | (simp; done) | omega | (simp; omega)); have _ := fun o => hb3.cell (p := ⟨w1.heap.size, o, none⟩) (by first | (simp; done) | omega | (simp; omega))
      go_wp2_with fail
      refine (iok_any r1 _).mono ?_; rintro e w4 ⟨rfl, hb4⟩; have hz4 := hb4.size; (try simp at hz4); have _ : w1.heap.size < w4.heap.size := (by first | (simp; done) | omega | (simp; omega)); have _ := fun o => hb4.cell (p := ⟨w1.heap.size, o, none⟩) (by first | (simp; done) | omega | (simp; omega))
      go_wp2_with fail
      refine (alive_any _).mono ?_; rintro e w5 ⟨rfl, hb5⟩; have hz5 := hb5.size; (try simp at hz5)
      go_wp2
      go_ret
      exact ⟨rfl, by (repeat (first | with_reducible exact Below.refl _ _ | with_reducible assumption | ((with_reducible refine Below.alloc ?_ ?_ _); rotate_left; focus (first | with_reducible exact Nat.le_refl _ | omega | (simp; done) | (simp; omega))) | ((with_reducible refine Below.setCell ?_ ?_ _); rotate_left; focus (first | with_reducible exact Nat.le_refl _ | omega | (simp; done) | (simp; omega))) | (with_reducible refine Below.drew ?_) | ((with_reducible refine Below.trans ?_ (Below.mono (by with_reducible assumption) ?_)); rotate_left; focus (first | with_reducible exact Nat.le_refl _ | omega | (simp; done) | (simp; omega)))))⟩
    · obtain ⟨p1, p2⟩ := area_pos r1 ho
      have hov : ovR r1 = overR r1 := by unfold ovR; rw [ho]; rfl
      have hao := area_over r1
      rw [← hov] at hao
      clear hov
      cases hmv : mvB r1 1 2
      · go_wp2_with fail
        refine (iarea_any r1 _).mono ?_; rintro e w2 ⟨rfl, hb2⟩; have hz2 := hb2.size; (try simp at hz2); have _ : w1.heap.size < w2.heap.size := (by first | (simp; done) | omega | (simp; omega)); have _ := fun o => hb2.cell (p := ⟨w1.heap.size, o, none⟩) (by first | (simp; done) | omega | (simp; omega))
        go_wp2_with fail
        refine (sarea_any r1 _).mono ?_; rintro e w3 ⟨rfl, hb3⟩; have hz3 := hb3.size; (try simp at hz3); have _ : w1.heap.size < w3.heap.size := (by first | (simp; done) | omega | (simp; omega)); have _ := fun o => hb3.cell (p := ⟨w1.heap.size, o, none⟩) (by first | (simp; done) | omega | (simp; omega))
        go_wp2_with fail
        refine (imv_any r1 1 2 _).mono ?_; rintro e w4 ⟨rfl, hb4⟩; have hz4 := hb4.size; (try simp at hz4); have _ : w1.heap.size < w4.heap.size := (by first | (simp; done) | omega | (simp; omega)); have _ := fun o => hb4.cell (p := ⟨w1.heap.size, o, none⟩) (by first | (simp; done) | omega | (simp; omega))
        go_wp2_with fail
        refine (iov_any r1 _).mono ?_; rintro e w5 ⟨rfl, hb5⟩; have hz5 := hb5.size; (try simp at hz5); have _ : w1.heap.size < w5.heap.size := (by first | (simp; done) | omega | (simp; omega)); have _ := fun o => hb5.cell (p := ⟨w1.heap.size, o, none⟩) (by first | (simp; done) | omega | (simp; omega))
        go_wp2_with fail
        refine (iarea_any (ovR r1) _).mono ?_; rintro e w6 ⟨rfl, hb6⟩; have hz6 := hb6.size; (try simp at hz6)
        go_wp2
        go_ret
        exact ⟨rfl, by (repeat (first | with_reducible exact Below.refl _ _ | with_reducible assumption | ((with_reducible refine Below.alloc ?_ ?_ _); rotate_left; focus (first | with_reducible exact Nat.le_refl _ | omega | (simp; done) | (simp; omega))) | ((with_reducible refine Below.setCell ?_ ?_ _); rotate_left; focus (first | with_reducible exact Nat.le_refl _ | omega | (simp; done) | (simp; omega))) | (with_reducible refine Below.drew ?_) | ((with_reducible refine Below.trans ?_ (Below.mono (by with_reducible assumption) ?_)); rotate_left; focus (first | with_reducible exact Nat.le_refl _ | omega | (simp; done) | (simp; omega)))))⟩
      · have hmr : mvR r1 1 2 = movedR r1 1 2 := by unfold mvR; rw [hmv]; rfl
        have hma : areaM (mvR r1 1 2) = areaM r1 := by
          rw [hmr]; exact area_moved r1 1 2 ho (by unfold mvB at hmv; exact (Bool.and_eq_true _ _ ▸ hmv).2)
        clear hmr
        go_wp2_with fail
        refine (iarea_any r1 _).mono ?_; rintro e w2 ⟨rfl, hb2⟩; have hz2 := hb2.size; (try simp at hz2); have _ : w1.heap.size < w2.heap.size := (by first | (simp; done) | omega | (simp; omega)); have _ := fun o => hb2.cell (p := ⟨w1.heap.size, o, none⟩) (by first | (simp; done) | omega | (simp; omega))
        go_wp2_with fail
        refine (sarea_any r1 _).mono ?_; rintro e w3 ⟨rfl, hb3⟩; have hz3 := hb3.size; (try simp at hz3); have _ : w1.heap.size < w3.heap.size := (by first | (simp; done) | omega | (simp; omega)); have _ := fun o => hb3.cell (p := ⟨w1.heap.size, o, none⟩) (by first | (simp; done) | omega | (simp; omega))
        go_wp2_with fail
        refine (imv_any r1 1 2 _).mono ?_; rintro e w4 ⟨rfl, hb4⟩; have hz4 := hb4.size; (try simp at hz4); have _ : w1.heap.size < w4.heap.size := (by first | (simp; done) | omega | (simp; omega)); have _ := fun o => hb4.cell (p := ⟨w1.heap.size, o, none⟩) (by first | (simp; done) | omega | (simp; omega))
        go_wp2_with fail
        refine (iarea_any (mvR r1 1 2) _).mono ?_; rintro e w5 ⟨rfl, hb5⟩; have hz5 := hb5.size; (try simp at hz5); have _ : w1.heap.size < w5.heap.size := (by first | (simp; done) | omega | (simp; omega)); have _ := fun o => hb5.cell (p := ⟨w1.heap.size, o, none⟩) (by first | (simp; done) | omega | (simp; omega))
        go_wp2_with fail
        refine (iov_any r1 _).mono ?_; rintro e w6 ⟨rfl, hb6⟩; have hz6 := hb6.size; (try simp at hz6); have _ : w1.heap.size < w6.heap.size := (by first | (simp; done) | omega | (simp; omega)); have _ := fun o => hb6.cell (p := ⟨w1.heap.size, o, none⟩) (by first | (simp; done) | omega | (simp; omega))
        go_wp2_with fail
        refine (iarea_any (ovR r1) _).mono ?_; rintro e w7 ⟨rfl, hb7⟩; have hz7 := hb7.size; (try simp at hz7)
        go_wp2
        go_ret
        exact ⟨rfl, by (repeat (first | with_reducible exact Below.refl _ _ | with_reducible assumption | ((with_reducible refine Below.alloc ?_ ?_ _); rotate_left; focus (first | with_reducible exact Nat.le_refl _ | omega | (simp; done) | (simp; omega))) | ((with_reducible refine Below.setCell ?_ ?_ _); rotate_left; focus (first | with_reducible exact Nat.le_refl _ | omega | (simp; done) | (simp; omega))) | (with_reducible refine Below.drew ?_) | ((with_reducible refine Below.trans ?_ (Below.mono (by with_reducible assumption) ?_)); rotate_left; focus (first | with_reducible exact Nat.le_refl _ | omega | (simp; done) | (simp; omega)))))⟩

set_option maxHeartbeats 2000000 in
theorem walkOverOf (a : Option Addr) (len cap : Nat) (w : World) (hc : Came w a len cap) :
    Calls Try.prog 9 #[.slice a len cap] w fun e w' => e = .returned (.bool true) ∧ Below w.heap.size w w' := by
  have hm := hc.len_le
  by_cases hl : 1048576 < len
  · go_enter Try.func9, Try.ntmps9
    go_wp2
    go_ret
    exact ⟨rfl, Below.refl _ _⟩
  · go_enter Try.func9, Try.ntmps9
    go_wp2_with fail
    refine (dOverOf _ _ _ _ hc).mono ?_; rintro e w1 hp; obtain ⟨r1, rfl, n1, hb1⟩ := hp; have hz1 := hb1.size; (try simp at hz1)
    cases ho : okB r1
    · have ez : ovR r1 = Rt.zero := by unfold ovR; rw [ho]; rfl
      have z1 : (ovR r1).l = 0 := by rw [ez]; rfl
      have z2 : (ovR r1).o = 0 := by rw [ez]; rfl
      have z3 : (ovR r1).r = 0 := by rw [ez]; rfl
      have z4 : (ovR r1).h = 0 := by rw [ez]; rfl
      clear ez
      go_wp2_with fail
      refine (iov_any r1 _).mono ?_; rintro e w2 ⟨rfl, hb2⟩; have hz2 := hb2.size; (try simp at hz2); have _ : w1.heap.size < w2.heap.size := (by first | (simp; done) | omega | (simp; omega)); have _ := fun o => hb2.cell (p := ⟨w1.heap.size, o, none⟩) (by first | (simp; done) | omega | (simp; omega))
      go_wp2_with fail
      refine name_world (fun w3 hW => ?_); have hb3 := below_of_eq hW; clear hW; have hz3 := hb3.size; (try simp at hz3); have _ : w1.heap.size < w3.heap.size := (by first | (simp; done) | omega | (simp; omega)); have _ : w2.heap.size < w3.heap.size := (by first | (simp; done) | omega | (simp; omega)); have _ := fun o => hb3.cell (p := ⟨w1.heap.size, o, none⟩) (by first | (simp; done) | omega | (simp; omega)); have _ := fun o => hb3.cell (p := ⟨w2.heap.size, o, none⟩) (by first | (simp; done) | omega | (simp; omega))
      have hq : True := trivial; have hq := fun d os o => (below_regrown w3 d os).cell (p := ⟨w1.heap.size, o, none⟩) (by first | (simp; done) | omega | (simp; omega)); have hq := fun d os o => (below_regrown w3 d os).cell (p := ⟨w2.heap.size, o, none⟩) (by first | (simp; done) | omega | (simp; omega)); refine wp_region_quiet_below (by kernel_rfl) (by kernel_rfl) ?_; (repeat (first | go_big_quiet_step (first | exact Calls.regrown_of (sov_any r1 _)) | quiet_step (first | exact Calls.regrown_of (sov_any r1 _)))); refine wpQuiet_nil ?_; intro _ hw'; obtain ⟨⟨dq, osq⟩, hw''⟩ := hw'; subst hw''; clear hq; have hb4 := below_regrown w3 dq osq; generalize Sort.grow (redrawn w3 dq) osq = w4 at hb4 ⊢; have hz4 := hb4.size; (try simp at hz4); have _ : w1.heap.size < w4.heap.size := (by first | (simp; done) | omega | (simp; omega)); have _ : w2.heap.size < w4.heap.size := (by first | (simp; done) | omega | (simp; omega)); have _ := fun o => hb4.cell (p := ⟨w1.heap.size, o, none⟩) (by first | (simp; done) | omega | (simp; omega)); have _ := fun o => hb4.cell (p := ⟨w2.heap.size, o, none⟩) (by first | (simp; done) | omega | (simp; omega))
      go_wp2_with fail
      refine (sok_any r1 _).mono ?_; rintro e w5 ⟨rfl, hb5⟩; have hz5 := hb5.size; (try simp at hz5); have _ : w1.heap.size < w5.heap.size := (by first | (simp; done) | omega | (simp; omega)); have _ : w2.heap.size < w5.heap.size := (by first | (simp; done) | omega | (simp; omega)); have _ := fun o => hb5.cell (p := ⟨w1.heap.size, o, none⟩) (by first | (simp; done) | omega | (simp; omega)); have _ := fun o => hb5.cell (p := ⟨w2.heap.size, o, none⟩) (by first | (simp; done) | omega | (simp; omega))
      go_wp2_with fail
      refine (alive_any _).mono ?_; rintro e w6 ⟨rfl, hb6⟩; have hz6 := hb6.size; (try simp at hz6)
      go_wp2
      go_ret
      exact ⟨rfl, by (repeat (first | with_reducible exact Below.refl _ _ | with_reducible assumption | ((with_reducible refine Below.alloc ?_ ?_ _); rotate_left; focus (first | with_reducible exact Nat.le_refl _ | omega | (simp; done) | (simp; omega))) | ((with_reducible refine Below.setCell ?_ ?_ _); rotate_left; focus (first | with_reducible exact Nat.le_refl _ | omega | (simp; done) | (simp; omega))) | (with_reducible refine Below.drew ?_) | ((with_reducible refine Below.trans ?_ (Below.mono (by with_reducible assumption) ?_)); rotate_left; focus (first | with_reducible exact Nat.le_refl _ | omega | (simp; done) | (simp; omega)))))⟩
    · have ev : ovR r1 = overR r1 := by unfold ovR; rw [ho]; rfl
      have o1 : okB (ovR r1) = true := by rw [ev, okB_over]; exact ho
      have e2 : ovR (ovR r1) = r1 := by
        have : ovR (ovR r1) = overR (ovR r1) := by show (if okB (ovR r1) then overR (ovR r1) else Rt.zero) = _; rw [o1]; rfl
        rw [this, ev, over_over]
      clear ev
      go_wp2_with fail
      refine (iov_any r1 _).mono ?_; rintro e w2 ⟨rfl, hb2⟩; have hz2 := hb2.size; (try simp at hz2); have _ : w1.heap.size < w2.heap.size := (by first | (simp; done) | omega | (simp; omega)); have _ := fun o => hb2.cell (p := ⟨w1.heap.size, o, none⟩) (by first | (simp; done) | omega | (simp; omega))
      go_wp2_with fail
      refine name_world (fun w3 hW => ?_); have hb3 := below_of_eq hW; clear hW; have hz3 := hb3.size; (try simp at hz3); have _ : w1.heap.size < w3.heap.size := (by first | (simp; done) | omega | (simp; omega)); have _ : w2.heap.size < w3.heap.size := (by first | (simp; done) | omega | (simp; omega)); have _ := fun o => hb3.cell (p := ⟨w1.heap.size, o, none⟩) (by first | (simp; done) | omega | (simp; omega)); have _ := fun o => hb3.cell (p := ⟨w2.heap.size, o, none⟩) (by first | (simp; done) | omega | (simp; omega))
      have hq : True := trivial; have hq := fun d os o => (below_regrown w3 d os).cell (p := ⟨w1.heap.size, o, none⟩) (by first | (simp; done) | omega | (simp; omega)); have hq := fun d os o => (below_regrown w3 d os).cell (p := ⟨w2.heap.size, o, none⟩) (by first | (simp; done) | omega | (simp; omega)); refine wp_region_quiet_below (by kernel_rfl) (by kernel_rfl) ?_; (repeat (first | go_big_quiet_step (first | exact Calls.regrown_of (sov_any r1 _)) | quiet_step (first | exact Calls.regrown_of (sov_any r1 _)))); refine wpQuiet_nil ?_; intro _ hw'; obtain ⟨⟨dq, osq⟩, hw''⟩ := hw'; subst hw''; clear hq; have hb4 := below_regrown w3 dq osq; generalize Sort.grow (redrawn w3 dq) osq = w4 at hb4 ⊢; have hz4 := hb4.size; (try simp at hz4); have _ : w1.heap.size < w4.heap.size := (by first | (simp; done) | omega | (simp; omega)); have _ : w2.heap.size < w4.heap.size := (by first | (simp; done) | omega | (simp; omega)); have _ := fun o => hb4.cell (p := ⟨w1.heap.size, o, none⟩) (by first | (simp; done) | omega | (simp; omega)); have _ := fun o => hb4.cell (p := ⟨w2.heap.size, o, none⟩) (by first | (simp; done) | omega | (simp; omega))
      go_wp2_with fail
      refine (sok_any r1 _).mono ?_; rintro e w5 ⟨rfl, hb5⟩; have hz5 := hb5.size; (try simp at hz5); have _ : w1.heap.size < w5.heap.size := (by first | (simp; done) | omega | (simp; omega)); have _ : w2.heap.size < w5.heap.size := (by first | (simp; done) | omega | (simp; omega)); have _ := fun o => hb5.cell (p := ⟨w1.heap.size, o, none⟩) (by first | (simp; done) | omega | (simp; omega)); have _ := fun o => hb5.cell (p := ⟨w2.heap.size, o, none⟩) (by first | (simp; done) | omega | (simp; omega))
      go_wp2_with fail
      have hq : True := trivial; have hq := fun d os o => (below_regrown w5 d os).cell (p := ⟨w1.heap.size, o, none⟩) (by first | (simp; done) | omega | (simp; omega)); have hq := fun d os o => (below_regrown w5 d os).cell (p := ⟨w2.heap.size, o, none⟩) (by first | (simp; done) | omega | (simp; omega)); refine wp_region_quiet_below (by kernel_rfl) (by kernel_rfl) ?_; (repeat (first | go_big_quiet_step (first | exact Calls.regrown_of (iok_val (ovR r1) true o1 _) | exact Calls.regrown_of (iov_any (ovR r1) _)) | quiet_step (first | exact Calls.regrown_of (iok_val (ovR r1) true o1 _) | exact Calls.regrown_of (iov_any (ovR r1) _)))); refine wpQuiet_nil ?_; intro _ hw'; obtain ⟨⟨dq, osq⟩, hw''⟩ := hw'; subst hw''; clear hq; have hb6 := below_regrown w5 dq osq; generalize Sort.grow (redrawn w5 dq) osq = w6 at hb6 ⊢; have hz6 := hb6.size; (try simp at hz6); have _ : w1.heap.size < w6.heap.size := (by first | (simp; done) | omega | (simp; omega)); have _ : w2.heap.size < w6.heap.size := (by first | (simp; done) | omega | (simp; omega)); have _ := fun o => hb6.cell (p := ⟨w1.heap.size, o, none⟩) (by first | (simp; done) | omega | (simp; omega)); have _ := fun o => hb6.cell (p := ⟨w2.heap.size, o, none⟩) (by first | (simp; done) | omega | (simp; omega))
      go_wp2
      go_ret
      exact ⟨rfl, by (repeat (first | with_reducible exact Below.refl _ _ | with_reducible assumption | ((with_reducible refine Below.alloc ?_ ?_ _); rotate_left; focus (first | with_reducible exact Nat.le_refl _ | omega | (simp; done) | (simp; omega))) | ((with_reducible refine Below.setCell ?_ ?_ _); rotate_left; focus (first | with_reducible exact Nat.le_refl _ | omega | (simp; done) | (simp; omega))) | (with_reducible refine Below.drew ?_) | ((with_reducible refine Below.trans ?_ (Below.mono (by with_reducible assumption) ?_)); rotate_left; focus (first | with_reducible exact Nat.le_refl _ | omega | (simp; done) | (simp; omega)))))⟩
end Go.Proofs.Ytbklknhbfgdoaaa
