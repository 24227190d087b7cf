
/- Chapter 4 of impl: OutlineOf. -/
import Derived.Test.YtbdpngjakccjjaaDoorFram2
namespace Go.Proofs.YtbdpngjakccjjaaDoor
open Go.RowKit Go.Sort
set_option linter.unusedVariables false
set_option linter.unusedSimpArgs false
theorem pop_row (a b : Nat) (ha : a < 2 ^ 22) (hb : b < 2 ^ 22) : ((popTo (a ^^^ b) 24 : Nat) : Int) = sumN 22 fun x => one (a.testBit x != b.testBit x) := by
  rw [show 24 = 22 + 2 from rfl, popTo_small _ 22 (Nat.xor_lt_two_pow ha hb), popTo_sum]
  refine sumN_congr fun x _ => ?_
  rw [Nat.testBit_xor]
theorem frM_lt22 {f : Nat → Rt} {n : Nat} (h : okTo f n = true) (y : Nat) : frM f n y < 2 ^ 22 := Nat.lt_of_lt_of_le (frM_lt h y) (by decide)
theorem low_sum {f : Nat → Rt} {n : Nat} (h : okTo f n = true) : sumN 21 (fun y => ((lowN (frM f n) y : Nat) : Int)) = sumN 461 (fun a => one (mapG f n a != mapG f n (a + 22))) := by
  have e1 : sumN 21 (fun y => ((lowN (frM f n) y : Nat) : Int)) = sumN 21 fun y => sumN 22 fun x => one (mapG f n (22 * y + x) != mapG f n (22 * y + x + 22)) := by
    refine sumN_congr fun y hy => ?_
    unfold lowN
    rw [pop_row _ _ (frM_lt22 h _) (frM_lt22 h _)]
    refine sumN_congr fun x hx => ?_
    rw [frM_bit h x _ hx, frM_bit h x _ hx, show 22 * (y + 1) + x = 22 * y + x + 22 by omega]
    cases mapG f n (22 * y + x) <;> cases mapG f n (22 * y + x + 22) <;> rfl
  rw [e1, ← rows22 (fun a => one (mapG f n a != mapG f n (a + 22))) 21]
  show sumN 461 _ + one _ = _
  have hM := mapG_map f n
  rw [hM.hi (a := 461) (by omega), hM.hi (a := 461 + 22) (by omega)]
  exact Int.add_zero _
theorem left_sum {f : Nat → Rt} {n : Nat} (h : okTo f n = true) : sumN 21 (fun y => ((leftN (frM f n) y : Nat) : Int)) = sumN 461 (fun a => one (mapG f n a != mapG f n (a + 1))) := by
  have hM := mapG_map f n
  have e1 : sumN 21 (fun y => ((leftN (frM f n) y : Nat) : Int)) = sumN 21 fun y => sumN 22 fun x => one (mapG f n (22 * y + x + 21) != mapG f n (22 * y + x + 21 + 1)) := by
    refine sumN_congr fun y hy => ?_
    unfold leftN
    rw [pop_row _ _ (frM_lt22 h _) (by have := frM_lt h (y + 1); omega)]
    refine sumN_congr fun x hx => ?_
    rw [frM_bit h x _ hx, Nat.mul_comm 2]
    cases x with
    | zero =>
      rw [Nat.testBit_zero, show 22 * (y + 1) + 0 = 22 * (y + 1) by omega, hM.left (y + 1) (by omega), show 22 * y + 0 + 21 = 22 * y + 21 by omega, hM.right y (by omega), show 22 * y + 21 + 1 = 22 * (y + 1) by omega, hM.left (y + 1) (by omega), Nat.mul_mod_left]
      rfl
    | succ x =>
      rw [Nat.testBit_succ, Nat.mul_div_cancel _ (by omega), frM_bit h x _ (by omega), show 22 * (y + 1) + (x + 1) = 22 * y + (x + 1) + 21 + 1 by omega, show 22 * (y + 1) + x = 22 * y + (x + 1) + 21 by omega]
      cases mapG f n (22 * y + (x + 1) + 21) <;> cases mapG f n (22 * y + (x + 1) + 21 + 1) <;> rfl
  rw [e1, ← rows22 (fun a => one (mapG f n (a + 21) != mapG f n (a + 21 + 1))) 21]
  show sumN 461 _ + one _ = _
  rw [hM.hi (a := 461 + 21) (by omega), hM.hi (a := 461 + 21 + 1) (by omega)]
  have := sum_from (f := fun a => one (mapG f n a != mapG f n (a + 1))) 21 (fun a ha => by rw [hM.lo (a := a) (by omega), hM.lo (a := a + 1) (by omega)]; rfl) (fun a ha => by rw [hM.hi ha, hM.hi (a := a + 1) (by omega)]; rfl)
  rw [← this]
  exact Int.add_zero _
theorem sides_outl {f : Nat → Rt} {n : Nat} (h : okTo f n = true) : sumN 21 (fun y => ((leftN (frM f n) y : Nat) : Int)) + sumN 21 (fun y => ((lowN (frM f n) y : Nat) : Int)) = outl (mapG f n) := by
  rw [left_sum h, low_sum h, outl_eq (mapG_map f n)]
/-- A whole variable is loaded in a region that draws its order. -/
theorem wpQuiet_load {P : Program} {ops : Array Oper} {C : World → Prop} {Q : Act → Prop} {o : Oper} {rest : List Oper} {a : Act} (hw : Region.wanted o (yielded ops a.tmps) = true) (ty : TypeId) (x : Operand) (ho : o.op = .load ty x)
    (ad : Addr) (hx : a.eval x = .pointer (some ad)) (v : Value) (hl : ∀ w, C w → (loadVar ty ad).run P w = .ok v w) (h : wpQuiet P ops C Q rest (a.put o.dst v)) : wpQuiet P ops C Q (o :: rest) a := by
  show if _ then _ else _
  rw [if_pos hw]
  refine ⟨v, fun w hC => ?_, h⟩
  unfold Oper.quietAt execOp
  simp only [ho, hx]
  simp [Instr.loadAt, Instr.sureAddr, Sem.run_bind, hl w hC, Oper.quietUpon]
theorem load_framed {w : World} {g : Nat} {m : Nat → Nat} (h : Fm w g m) : (loadVar 42 ⟨g, 0, none⟩).run Tryd.prog w = .ok (.agg (frC m)) w :=
  run_loadVar_row w g 42 42 (frC m) (0, 0) _ h Tryd.underlying42 rfl (by rw [frC_size]; exact infoFr)

set_option maxHeartbeats 2000000 in
theorem iol_any (A : Option Addr) (n cap : Nat) (f : Nat → Rt) (w : World) (hn : n ≤ maxLen) (hr : Rs w A n f) :
    Calls Tryd.prog 14 #[.slice A n cap] w fun e w' => e = .returned (.int .i64 (olF f n)) ∧ Below w.heap.size w w' := by
  have Hn := Lib.hid hn
  have Hr := Lib.hid hr
  clear hn hr
  cases hl : laidF f n
  · have H : Hid (olF f n = -1) := Lib.hid (by unfold olF; rw [hl]; rfl)
    go_enter Tryd.func14, Tryd.ntmps14
    go_wp2_with fail
    refine (ilaid_val A n cap f false hl _ Hn.out Hr.out).mono ?_; rintro e w1 ⟨rfl, hb1⟩; have hz1 := hb1.size; (try simp at hz1)
    go_wp2
    go_ret
    exact ⟨ret_int (by rw [H.out]), by (repeat (first | with_reducible exact Below.refl _ _ | with_reducible assumption | ((with_reducible refine Below.alloc ?_ ?_ _); rotate_left; focus (first | with_reducible exact Nat.le_refl _ | omega | (simp; done) | (simp; omega))) | ((with_reducible refine Below.setCell ?_ ?_ _); rotate_left; focus (first | with_reducible exact Nat.le_refl _ | omega | (simp; done) | (simp; omega))) | (with_reducible refine Below.drew ?_) | ((with_reducible refine Below.trans ?_ (Below.mono (by with_reducible assumption) ?_)); rotate_left; focus (first | with_reducible exact Nat.le_refl _ | omega | (simp; done) | (simp; omega)))))⟩
  · obtain ⟨h7, hok⟩ := laidF_ok hl
    have Hok := Lib.hid hok
    clear hok
    have H : Hid (olF f n = sumN 21 (fun y => ((leftN (frM f n) y : Nat) : Int)) + sumN 21 (fun y => ((lowN (frM f n) y : Nat) : Int))) := Lib.hid (by rw [sides_outl Hok.out]; unfold olF; rw [hl]; rfl)
    have b1 := sum24_bd (leftN (frM f n)) (fun y => popTo_le _ _) 21
    have b2 := sum24_bd (lowN (frM f n)) (fun y => popTo_le _ _) 21
    generalize hP : sumN 21 (fun y => ((leftN (frM f n) y : Nat) : Int)) = P at H b1
    generalize hQ : sumN 21 (fun y => ((lowN (frM f n) y : Nat) : Int)) = Q at H b2
    have HP := Lib.hid hP
    have HQ := Lib.hid hQ
    clear hP hQ
    obtain ⟨p1, p2⟩ := b1
    obtain ⟨q1, q2⟩ := b2
    go_enter Tryd.func14, Tryd.ntmps14
    go_wp2_with fail
    refine (ilaid_val A n cap f true hl _ Hn.out Hr.out).mono ?_; rintro e w1 ⟨rfl, hb1⟩; have hz1 := hb1.size; (try simp at hz1)
    have Hr1 := Lib.hid (Hr.out.below hb1)
    go_wp2_with fail
    refine (framed_any A n cap f _ hl Hr1.out).mono ?_; rintro e w2 ⟨rfl, hb2⟩; have hz2 := hb2.size; (try simp at hz2)
    have hb3 : Below w2.heap.size w2 ((w2.alloc (.cells #[.int .u32 0, .int .u32 0, .int .u32 0, .int .u32 0, .int .u32 0, .int .u32 0, .int .u32 0, .int .u32 0, .int .u32 0, .int .u32 0, .int .u32 0, .int .u32 0, .int .u32 0, .int .u32 0, .int .u32 0, .int .u32 0, .int .u32 0, .int .u32 0, .int .u32 0, .int .u32 0, .int .u32 0, .int .u32 0] 42)).setRow w2.heap.size (frC (frM f n))) := below_setRow ((Below.refl _ _).alloc (Nat.le_refl _) _) (Nat.le_refl _) _
    have HZ := Lib.hid (Fm.zero w2)
    have HM3 := Lib.hid (HZ.out.row (m' := frM f n))
    have HB3 := Lib.hid ((hb1.trans (hb2.mono hz1)).trans (hb3.mono (by omega)))
    have hsz3 : w2.heap.size + 1 = ((w2.alloc (.cells #[.int .u32 0, .int .u32 0, .int .u32 0, .int .u32 0, .int .u32 0, .int .u32 0, .int .u32 0, .int .u32 0, .int .u32 0, .int .u32 0, .int .u32 0, .int .u32 0, .int .u32 0, .int .u32 0, .int .u32 0, .int .u32 0, .int .u32 0, .int .u32 0, .int .u32 0, .int .u32 0, .int .u32 0, .int .u32 0] 42)).setRow w2.heap.size (frC (frM f n))).heap.size := by simp [World.setRow]
    clear hb3 hb1 hb2
    go_wp2_with (refine wpList_store_rowTo rfl 42 (.tmp 3) (.tmp 8) rfl rfl w2.heap.size (frC (frM f n)) rfl rfl 42 (frC (fun _ => 0)) HZ.out (by rw [frC_size]; exact infoFr) (by rw [frC_size, frC_size]) (frC_one _) ?_)
    refine name_world (fun w3 hW => ?_)
    rw [hW] at HM3 HB3 hsz3
    clear hW
    have hld := fun d os => load_framed (HM3.out.below (below_regrown w3 d os))
    refine wp_region_quiet_below (by kernel_rfl) (by kernel_rfl) ?_
    refine wpQuiet_load rfl 42 (.tmp 3) rfl _ rfl (.agg (frC (frM f n))) (fun _ hC => by obtain ⟨p, rfl⟩ := hC; exact hld p.d p.os) ?_
    simp only [Act.put, List.setIfInBounds_toArray, List.set_cons_succ, List.set_cons_zero]
    go_big_quiet_step (exact Calls.regrown_of ((sidesL_any (frM f n) _ (frM_lt22 Hok.out)).mono (fun _ _ h => ⟨h.1.trans (by rw [HP.out]), h.2⟩)))
    refine wpQuiet_load rfl 42 (.tmp 3) rfl _ rfl (.agg (frC (frM f n))) (fun _ hC => by obtain ⟨p, rfl⟩ := hC; exact hld p.d p.os) ?_
    simp only [Act.put, List.setIfInBounds_toArray, List.set_cons_succ, List.set_cons_zero]
    go_big_quiet_step (exact Calls.regrown_of ((sidesD_any (frM f n) _ (frM_lt22 Hok.out)).mono (fun _ _ h => ⟨h.1.trans (by rw [HQ.out]), h.2⟩)))
    (repeat (go_big_quiet_step (fail)))
    refine wpQuiet_nil ?_
    intro _ hw'
    obtain ⟨⟨dq, osq⟩, hw''⟩ := hw'
    subst hw''
    have hb4 := below_regrown w3 dq osq
    generalize Sort.grow (redrawn w3 dq) osq = w4 at hb4 ⊢
    go_wp2
    go_ret
    exact ⟨ret_int (by rw [H.out]), HB3.out.trans (hb4.mono (by have := HB3.out.size; omega))⟩
end Go.Proofs.YtbdpngjakccjjaaDoor
