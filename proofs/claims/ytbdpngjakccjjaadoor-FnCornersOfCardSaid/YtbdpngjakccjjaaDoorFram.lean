
/- Chapter 4 of impl: a bitmap with one further cell all around the field. -/
import Derived.Test.YtbdpngjakccjjaaDoorTab
import Derived.Test.YtbdpngjakccjjaaDoorMap2
namespace Go.Proofs.YtbdpngjakccjjaaDoor
open Go.RowKit Go.Sort
set_option linter.unusedVariables false
set_option linter.unusedSimpArgs false
/-- The cells of a framed bitmap. -/
def frC (m : Nat → Nat) : Array Value := (Array.range 22).map fun y => Value.int .u32 (m y : Nat)
theorem frC_size (m : Nat → Nat) : (frC m).size = 22 := by simp [frC]
theorem frC_get (m : Nat → Nat) (y : Nat) (h : y < 22) : (frC m)[y]? = some (.int .u32 (m y : Nat)) := by simp [frC, h]
theorem frC_set {m m' : Nat → Nat} {k : Nat} (hk : k < 22) (e : ∀ y, y < 22 → y ≠ k → m y = m' y) : (frC m).setIfInBounds k (.int .u32 (m' k : Nat)) = frC m' := by
  apply Array.ext
  · simp [frC]
  · intro i h1 h2
    have hi : i < 22 := by rw [frC_size] at h2; exact h2
    by_cases hik : k = i
    · subst hik; simp [frC]
    · rw [Array.getElem_setIfInBounds_ne (by simpa [frC] using hi) hik]; simp [frC, e i hi (fun h => hik h.symm)]
theorem frC_congr {m m' : Nat → Nat} (e : ∀ y, y < 22 → m y = m' y) : frC m = frC m' := by
  apply Array.ext
  · simp [frC]
  · intro i h1 h2
    have hi : i < 22 := by rw [frC_size] at h2; exact h2
    simp [frC, e i hi]
theorem frC_one (m : Nat → Nat) : (frC m).all (·.oneCell') = true := by
  rw [Array.all_eq_true]; intro i hi; simp [frC, Value.oneCell']
/-- A framed bitmap at block g. -/
def Fm (w : World) (g : Nat) (m : Nat → Nat) : Prop := w.heap[g]? = some (.cells (frC m) 42 (0, 0))
section
variable {w w' : World} {g : Nat} {m m' : Nat → Nat}
theorem Fm.lt (h : Fm w g m) : g < w.heap.size := by
  rcases Nat.lt_or_ge g w.heap.size with hlt | hge
  · exact hlt
  · unfold Fm at h; rw [Array.getElem?_eq_none hge] at h; cases h
theorem Fm.c (h : Fm w g m) (y : Nat) (hy : y < 22) : w.cell? ⟨g, y, none⟩ = some (.int .u32 (m y : Nat)) := by
  rw [cell_of_row w g y _ _ _ h, frC_get m y hy]
theorem Fm.fz (h : Fm w g m) (y : Nat) : w.frozen? ⟨g, y, none⟩ = false := frozen_of_row w g y _ _ h
theorem Fm.below (h : Fm w g m) (hb : Below w.heap.size w w') : Fm w' g m := (hb.block g h.lt).trans h
theorem Fm.under {B : Nat} (h : Fm w g m) (hb : Below B w w') (hg : g < B) : Fm w' g m := (hb.block g hg).trans h
theorem Fm.congr (h : Fm w g m) (e : ∀ y, y < 22 → m y = m' y) : Fm w g m' := by
  unfold Fm at *; rw [← frC_congr e]; exact h
theorem Fm.far {g' : Nat} (h : Fm w g m) (hg : w.grownBy w' (some g')) (hn : g ≠ g') : Fm w' g m :=
  (hg.block g h.lt (by intro e; injection e with e; exact hn e)).trans h
theorem Fm.set {k : Nat} (h : Fm w g m) (hk : k < 22) (e : ∀ y, y < 22 → y ≠ k → m y = m' y) : Fm (w.setCell ⟨g, k, none⟩ (.int .u32 (m' k : Nat))) g m' := by
  unfold Fm
  rw [heap_setCell_same w g k _ _ _ h, frC_set hk e]
theorem Fm.new (w : World) (m : Nat → Nat) : Fm (w.alloc (.cells (frC m) 42)) w.heap.size m := heap_alloc_new w _
theorem Fm.setFar (h : Fm w g m) {a : Addr} {v : Value} (hn : g ≠ a.block) : Fm (w.setCell a v) g m := (heap_setCell_other w a g v hn).trans h
theorem Fm.rowFar (h : Fm w g m) {g' : Nat} {cs : Array Value} (hn : g ≠ g') : Fm (w.setRow g' cs) g m := (setRow_other w g' g cs hn).trans h
theorem Fm.row (h : Fm w g m) : Fm (w.setRow g (frC m')) g m' := setRow_heap w g _ _ _ _ h
theorem Fm.drew (h : Fm w g m) : Fm w.drew g m := h
theorem Fm.drewN (h : Fm w g m) (n : Nat) : Fm (w.drewN n) g m := h
end
theorem frC_zero : frC (fun _ => 0) = #[.int .u32 0, .int .u32 0, .int .u32 0, .int .u32 0, .int .u32 0, .int .u32 0, .int .u32 0, .int .u32 0, .int .u32 0, .int .u32 0, .int .u32 0, .int .u32 0, .int .u32 0, .int .u32 0, .int .u32 0, .int .u32 0, .int .u32 0, .int .u32 0, .int .u32 0, .int .u32 0, .int .u32 0, .int .u32 0] := by kernel_rfl
theorem Fm.zero (w : World) : Fm (w.alloc (.cells #[.int .u32 0, .int .u32 0, .int .u32 0, .int .u32 0, .int .u32 0, .int .u32 0, .int .u32 0, .int .u32 0, .int .u32 0, .int .u32 0, .int .u32 0, .int .u32 0, .int .u32 0, .int .u32 0, .int .u32 0, .int .u32 0, .int .u32 0, .int .u32 0, .int .u32 0, .int .u32 0, .int .u32 0, .int .u32 0] 42)) w.heap.size (fun _ => 0) := by
  rw [← frC_zero]; exact Fm.new w _
theorem infoFr : (Tryd.prog.info? 42).map (·.size) = some 22 := by kernel_rfl
/-- A cell of a value that is an array of single cells. -/
theorem run_index_cell {P : Program} (t e : TypeId) (d : TypeDesc) (len : Nat) (cs : Array Value) (v : Value) (k : Nat) (ht : P.underlying t = some (.array len e)) (he : P.underlying e = some d)
    (hd : (match d with | .struct _ | .array _ _ => true | _ => false) = false) (hs : (P.info? e).map (·.size) = some 1) (hk : k < len) (hc : cs[k]? = some v) (w : World) :
    (Instr.index t (.agg cs) (.int .i64 k)).run P w = .ok v w := by
  cases hq : P.info? e with
  | none => simp [hq] at hs
  | some i =>
    have hs' : i.size = 1 := by simpa [hq] using hs
    have hagg : (isAgg e).run P w = .ok false w := by
      unfold isAgg
      rw [Sem.run_bind, run_underlying he w]
      cases d <;> simp_all
    simp [Instr.index, asIntOf, Sem.run_bind, run_underlying ht w, hk, sizeOf, typeInfo, hq, hs', part, hagg, hc]
/-- The rows of the union, with a row and a column around. -/
def frTo (f : Nat → Rt) (n k y : Nat) : Nat := if 1 ≤ y ∧ y ≤ k then 2 * rowM f n (y - 1) else 0
def frM (f : Nat → Rt) (n : Nat) : Nat → Nat := frTo f n 20
theorem frM_bit {f : Nat → Rt} {n : Nat} (h : okTo f n = true) (x y : Nat) (hx : x < 22) : (frM f n y).testBit x = mapG f n (22 * y + x) := by
  rw [mapG_at f n x y hx]
  unfold frM frTo
  by_cases hy : 1 ≤ y ∧ y ≤ 20
  · rw [if_pos hy]
    cases x with
    | zero => rw [decide_eq_false (by omega), Bool.false_and, Nat.testBit_zero]; simp
    | succ x =>
      rw [Nat.mul_comm, Nat.testBit_succ, Nat.mul_div_cancel _ (by omega)]
      by_cases h20 : x < 20
      · rw [decide_eq_true (by omega), Bool.true_and, row_bit f n h x (y - 1) h20 n (Nat.le_refl _)]
        congr 1 <;> omega
      · rw [decide_eq_false (by omega), Bool.false_and]
        exact Nat.testBit_lt_two_pow (Nat.lt_of_lt_of_le (rowM_small f n h n (Nat.le_refl _) (y - 1)) (Nat.pow_le_pow_right (by omega) (by omega)))
  · rw [if_neg hy, decide_eq_false (by omega), Bool.false_and, Nat.zero_testBit]
theorem frM_lt {f : Nat → Rt} {n : Nat} (h : okTo f n = true) (y : Nat) : frM f n y < 2 ^ 21 := by
  unfold frM frTo
  have := rowM_small f n h n (Nat.le_refl _) (y - 1)
  split <;> omega

set_option maxHeartbeats 2000000 in
theorem framed_any (A : Option Addr) (n cap : Nat) (f : Nat → Rt) (w : World) (hl : laidF f n = true) (hr : Rs w A n f) :
    Calls Tryd.prog 25 #[.slice A n cap] w fun e w' => e = .returned (.agg (frC (frM f n))) ∧ Below w.heap.size w w' := by
  obtain ⟨h7, hok⟩ := laidF_ok hl
  have Hok := Lib.hid hok
  have hba : Below w.heap.size w ((w.alloc (.cells #[.int .u32 0, .int .u32 0, .int .u32 0, .int .u32 0, .int .u32 0, .int .u32 0, .int .u32 0, .int .u32 0, .int .u32 0, .int .u32 0, .int .u32 0, .int .u32 0, .int .u32 0, .int .u32 0, .int .u32 0, .int .u32 0, .int .u32 0, .int .u32 0, .int .u32 0, .int .u32 0, .int .u32 0, .int .u32 0] 42)).alloc (.cells #[.int .u32 0, .int .u32 0, .int .u32 0, .int .u32 0, .int .u32 0, .int .u32 0, .int .u32 0, .int .u32 0, .int .u32 0, .int .u32 0, .int .u32 0, .int .u32 0, .int .u32 0, .int .u32 0, .int .u32 0, .int .u32 0, .int .u32 0, .int .u32 0, .int .u32 0, .int .u32 0, .int .u32 0, .int .u32 0] 42)) := by (repeat (first | with_reducible exact Below.refl _ _ | with_reducible assumption | ((with_reducible refine Below.alloc ?_ ?_ _); rotate_left; focus (first | with_reducible exact Nat.le_refl _ | omega | (simp; done) | (simp; omega))) | ((with_reducible refine Below.setCell ?_ ?_ _); rotate_left; focus (first | with_reducible exact Nat.le_refl _ | omega | (simp; done) | (simp; omega))) | (with_reducible refine Below.drew ?_) | ((with_reducible refine Below.trans ?_ (Below.mono (by with_reducible assumption) ?_)); rotate_left; focus (first | with_reducible exact Nat.le_refl _ | omega | (simp; done) | (simp; omega)))))
  have Hr := Lib.hid (hr.below hba)
  have HBA := Lib.hid hba
  have X0 := Lib.hid ((Fm.zero w).below ((Below.refl _ _).alloc (Nat.le_refl _) (.cells #[.int .u32 0, .int .u32 0, .int .u32 0, .int .u32 0, .int .u32 0, .int .u32 0, .int .u32 0, .int .u32 0, .int .u32 0, .int .u32 0, .int .u32 0, .int .u32 0, .int .u32 0, .int .u32 0, .int .u32 0, .int .u32 0, .int .u32 0, .int .u32 0, .int .u32 0, .int .u32 0, .int .u32 0, .int .u32 0] 42)))
  have X1 := Lib.hid (show Fm ((w.alloc (.cells #[.int .u32 0, .int .u32 0, .int .u32 0, .int .u32 0, .int .u32 0, .int .u32 0, .int .u32 0, .int .u32 0, .int .u32 0, .int .u32 0, .int .u32 0, .int .u32 0, .int .u32 0, .int .u32 0, .int .u32 0, .int .u32 0, .int .u32 0, .int .u32 0, .int .u32 0, .int .u32 0, .int .u32 0, .int .u32 0] 42)).alloc (.cells #[.int .u32 0, .int .u32 0, .int .u32 0, .int .u32 0, .int .u32 0, .int .u32 0, .int .u32 0, .int .u32 0, .int .u32 0, .int .u32 0, .int .u32 0, .int .u32 0, .int .u32 0, .int .u32 0, .int .u32 0, .int .u32 0, .int .u32 0, .int .u32 0, .int .u32 0, .int .u32 0, .int .u32 0, .int .u32 0] 42)) (w.heap.size + 1) (fun _ => 0) by
    have := Fm.zero (w.alloc (.cells #[.int .u32 0, .int .u32 0, .int .u32 0, .int .u32 0, .int .u32 0, .int .u32 0, .int .u32 0, .int .u32 0, .int .u32 0, .int .u32 0, .int .u32 0, .int .u32 0, .int .u32 0, .int .u32 0, .int .u32 0, .int .u32 0, .int .u32 0, .int .u32 0, .int .u32 0, .int .u32 0, .int .u32 0, .int .u32 0] 42))
    rwa [World.size_alloc] at this)
  clear hr hok hba
  go_enter Tryd.func25, Tryd.ntmps25
  go_wp2_with fail
  refine (unionof_any A n cap f _ hl Hr.out).mono ?_; rintro e w1 ⟨rfl, hb1⟩
  have hz1 := hb1.size
  simp at hz1
  have Y0 := Lib.hid (X0.out.below hb1)
  have Y1 := Lib.hid (X1.out.below hb1)
  have HB1 : Hid (Below w.heap.size w w1) := Lib.hid (HBA.out.trans (hb1.mono (by simp; omega)))
  clear hb1
  go_wp2
  go_loopw [8] (fun i wr => ∃ k : Nat, k ≤ 20 ∧ i = .int .i64 k ∧ Fm wr w.heap.size (fun _ => 0) ∧ Fm wr (w.heap.size + 1) (frTo f n k) ∧ Below w.heap.size w wr) (fun i _ => 20 - (intOf i).toNat)
  case atStart =>
    refine ⟨0, Nat.zero_le _, rfl, Y0.out, Y1.out.congr (fun y _ => by unfold frTo; rw [if_neg (by omega)]), HB1.out⟩
  case round =>
    obtain ⟨k, hk, rfl, hx0, hx1, hbr⟩ := hrel
    have hzr := hbr.size
    have l0 := hx0.lt
    have l1 := hx1.lt
    have Z0 := Lib.hid hx0
    have Z1 := Lib.hid hx1
    have HB := Lib.hid hbr
    clear hx0 hbr
    by_cases hlt : k < 20
    · have hix : (Instr.index 66 (.agg (bmC (rowM f n))) (.int .i64 (k : Nat))).run Tryd.prog wr = .ok (.int .u32 (rowM f n k : Nat)) wr :=
        run_index_cell 66 40 _ 20 _ _ k Tryd.underlying66 Tryd.underlying40 rfl (by kernel_rfl) hlt (bmC_get _ _ hlt) wr
      have c1 := hx1.c (k + 1) (by omega)
      have f1 := hx1.fz (k + 1)
      clear hx1
      have hm := rowM_small f n Hok.out n (Nat.le_refl _) k
      obtain ⟨M, hM⟩ : ∃ M, rowM f n k = M := ⟨_, rfl⟩
      have HM := Lib.hid hM
      rw [hM] at hix hm
      clear hM
      have hk22 : (k : Int) + 1 < 22 := by omega
      go_wp2
      go_roundw
      case rel =>
        refine ⟨k + 1, by omega, by go_num, Z0.out.setFar (by simp), ?_, ?_⟩
        · have := Z1.out.set (k := k + 1) (m' := frTo f n (k + 1)) (by omega) (fun y _ hne => by
            unfold frTo
            by_cases h : 1 ≤ y ∧ y ≤ k
            · rw [if_pos h, if_pos (by omega)]
            · rw [if_neg h, if_neg (by omega)])
          have hv : frTo f n (k + 1) (k + 1) = 2 * M := by unfold frTo; rw [if_pos (by omega), ← HM.out]; congr 1
          rw [hv] at this
          have e : (M : Int) * 2 = ((2 * M : Nat) : Int) := by omega
          rw [e]
          exact this
        · exact HB.out.setCell (by simp) _
      case measure => simp [intOf]; omega
    · have hkn : k = 20 := by omega
      subst hkn
      have b1 := hx1
      unfold Fm at b1
      have B1 := Lib.hid b1
      clear b1 hx1
      go_wp2_with (first | (refine wpList_load_row rfl 42 (.tmp 3) rfl (w.heap.size + 1) rfl 42 (frC (frTo f n 20)) (0, 0) _ B1.out Tryd.underlying42 rfl (by rw [frC_size]; exact infoFr) ?_) | (refine wpList_store_rowTo rfl 42 (.tmp 2) (.tmp 18) rfl rfl w.heap.size (frC (frTo f n 20)) rfl rfl 42 (frC (fun _ => 0)) Z0.out (by rw [frC_size]; exact infoFr) (by rw [frC_size, frC_size]) (frC_one _) ?_))
      refine bodyPost_ret (v := .agg (frC (frTo f n 20))) (results_cell_row rfl _ _ w.heap.size 42 (frC (frTo f n 20)) (0, 0) _ rfl Z0.out.row Tryd.underlying42 rfl (by rw [frC_size]; exact infoFr)) rfl ⟨rfl, ?_⟩
      exact below_setRow HB.out (Nat.le_refl _) _
end Go.Proofs.YtbdpngjakccjjaaDoor
