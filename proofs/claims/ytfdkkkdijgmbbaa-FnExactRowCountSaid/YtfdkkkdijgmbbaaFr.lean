/- Chapter 4 of impl: a bitmap with one further cell all around the field. Chapter 4 of impl: the outline. Chapter 4 of impl: OutlineOf. -/
import Derived.Test.YtfdkkkdijgmbbaaTab
import Derived.Test.YtfdkkkdijgmbbaaMa
namespace Go.Proofs.Ytfdkkkdijgmbbaa
open Go.RowKit Go.Sort
set_option linter.unusedVariables false
set_option linter.unusedSimpArgs false
/-- The cells of a framed bitmap. -/
def frC (m : Nat → Nat) : Array Value := (Array.range 22).map fun y => Value.int .u32 (m y : Nat)
theorem frC_size (m : Nat → Nat) : (frC m).size = 22 := by simp [frC]
theorem frC_get (m : Nat → Nat) (y : Nat) (h : y < 22) : (frC m)[y]? = some (.int .u32 (m y : Nat)) := by simp [frC, h]
theorem frC_set {m m' : Nat → Nat} {k : Nat} (hk : k < 22) (e : ∀ y, y < 22 → y ≠ k → m y = m' y) : (frC m).setIfInBounds k (.int .u32 (m' k : Nat)) = frC m' := by
  apply Array.ext
  · simp [frC]
  · intro i h1 h2
    have hi : i < 22 := by rw [frC_size] at h2; exact h2
    by_cases hik : k = i
    · subst hik; simp [frC]
    · rw [Array.getElem_setIfInBounds_ne (by simpa [frC] using hi) hik]; simp [frC, e i hi (fun h => hik h.symm)]
theorem frC_congr {m m' : Nat → Nat} (e : ∀ y, y < 22 → m y = m' y) : frC m = frC m' := by
  apply Array.ext
  · simp [frC]
  · intro i h1 h2
    have hi : i < 22 := by rw [frC_size] at h2; exact h2
    simp [frC, e i hi]
theorem frC_one (m : Nat → Nat) : (frC m).all (·.oneCell') = true := by
  rw [Array.all_eq_true]; intro i hi; simp [frC, Value.oneCell']
/-- A framed bitmap at block g. -/
def Fm (w : World) (g : Nat) (m : Nat → Nat) : Prop := w.heap[g]? = some (.cells (frC m) 57 (0, 0))
section
variable {w w' : World} {g : Nat} {m m' : Nat → Nat}
theorem Fm.lt (h : Fm w g m) : g < w.heap.size := by
  rcases Nat.lt_or_ge g w.heap.size with hlt | hge
  · exact hlt
  · unfold Fm at h; rw [Array.getElem?_eq_none hge] at h; cases h
theorem Fm.c (h : Fm w g m) (y : Nat) (hy : y < 22) : w.cell? ⟨g, y, none⟩ = some (.int .u32 (m y : Nat)) := by
  rw [cell_of_row w g y _ _ _ h, frC_get m y hy]
theorem Fm.fz (h : Fm w g m) (y : Nat) : w.frozen? ⟨g, y, none⟩ = false := frozen_of_row w g y _ _ h
theorem Fm.below (h : Fm w g m) (hb : Below w.heap.size w w') : Fm w' g m := (hb.block g h.lt).trans h
theorem Fm.under {B : Nat} (h : Fm w g m) (hb : Below B w w') (hg : g < B) : Fm w' g m := (hb.block g hg).trans h
theorem Fm.congr (h : Fm w g m) (e : ∀ y, y < 22 → m y = m' y) : Fm w g m' := by
  unfold Fm at *; rw [← frC_congr e]; exact h
theorem Fm.far {g' : Nat} (h : Fm w g m) (hg : w.grownBy w' (some g')) (hn : g ≠ g') : Fm w' g m :=
  (hg.block g h.lt (by intro e; injection e with e; exact hn e)).trans h
theorem Fm.set {k : Nat} (h : Fm w g m) (hk : k < 22) (e : ∀ y, y < 22 → y ≠ k → m y = m' y) : Fm (w.setCell ⟨g, k, none⟩ (.int .u32 (m' k : Nat))) g m' := by
  unfold Fm
  rw [heap_setCell_same w g k _ _ _ h, frC_set hk e]
theorem Fm.new (w : World) (m : Nat → Nat) : Fm (w.alloc (.cells (frC m) 57)) w.heap.size m := heap_alloc_new w _
theorem Fm.setFar (h : Fm w g m) {a : Addr} {v : Value} (hn : g ≠ a.block) : Fm (w.setCell a v) g m := (heap_setCell_other w a g v hn).trans h
theorem Fm.rowFar (h : Fm w g m) {g' : Nat} {cs : Array Value} (hn : g ≠ g') : Fm (w.setRow g' cs) g m := (setRow_other w g' g cs hn).trans h
theorem Fm.row (h : Fm w g m) : Fm (w.setRow g (frC m')) g m' := setRow_heap w g _ _ _ _ h
theorem Fm.drew (h : Fm w g m) : Fm w.drew g m := h
theorem Fm.drewN (h : Fm w g m) (n : Nat) : Fm (w.drewN n) g m := h
end
theorem frC_zero : frC (fun _ => 0) = #[.int .u32 0, .int .u32 0, .int .u32 0, .int .u32 0, .int .u32 0, .int .u32 0, .int .u32 0, .int .u32 0, .int .u32 0, .int .u32 0, .int .u32 0, .int .u32 0, .int .u32 0, .int .u32 0, .int .u32 0, .int .u32 0, .int .u32 0, .int .u32 0, .int .u32 0, .int .u32 0, .int .u32 0, .int .u32 0] := by kernel_rfl
theorem Fm.zero (w : World) : Fm (w.alloc (.cells #[.int .u32 0, .int .u32 0, .int .u32 0, .int .u32 0, .int .u32 0, .int .u32 0, .int .u32 0, .int .u32 0, .int .u32 0, .int .u32 0, .int .u32 0, .int .u32 0, .int .u32 0, .int .u32 0, .int .u32 0, .int .u32 0, .int .u32 0, .int .u32 0, .int .u32 0, .int .u32 0, .int .u32 0, .int .u32 0] 57)) w.heap.size (fun _ => 0) := by
  rw [← frC_zero]; exact Fm.new w _
theorem infoFr : (Try.prog.info? 57).map (·.size) = some 22 := by kernel_rfl
/-- A cell of a value that is an array of single cells. -/
theorem run_index_cell {P : Program} (t e : TypeId) (d : TypeDesc) (len : Nat) (cs : Array Value) (v : Value) (k : Nat) (ht : P.underlying t = some (.array len e)) (he : P.underlying e = some d)
    (hd : (match d with | .struct _ | .array _ _ => true | _ => false) = false) (hs : (P.info? e).map (·.size) = some 1) (hk : k < len) (hc : cs[k]? = some v) (w : World) :
    (Instr.index t (.agg cs) (.int .i64 k)).run P w = .ok v w := by
  cases hq : P.info? e with
  | none => simp [hq] at hs
  | some i =>
    have hs' : i.size = 1 := by simpa [hq] using hs
    have hagg : (isAgg e).run P w = .ok false w := by
      unfold isAgg
      rw [Sem.run_bind, run_underlying he w]
      cases d <;> simp_all
    simp [Instr.index, asIntOf, Sem.run_bind, run_underlying ht w, hk, sizeOf, typeInfo, hq, hs', part, hagg, hc]
/-- The rows of the union, with a row and a column around. -/
def frTo (f : Nat → Rt) (n k y : Nat) : Nat := if 1 ≤ y ∧ y ≤ k then 2 * rowM f n (y - 1) else 0
def frM (f : Nat → Rt) (n : Nat) : Nat → Nat := frTo f n 20
theorem frM_bit {f : Nat → Rt} {n : Nat} (h : okTo f n = true) (x y : Nat) (hx : x < 22) : (frM f n y).testBit x = mapG f n (22 * y + x) := by
  rw [mapG_at f n x y hx]
  unfold frM frTo
  by_cases hy : 1 ≤ y ∧ y ≤ 20
  · rw [if_pos hy]
    cases x with
    | zero => rw [decide_eq_false (by omega), Bool.false_and, Nat.testBit_zero]; simp
    | succ x =>
      rw [Nat.mul_comm, Nat.testBit_succ, Nat.mul_div_cancel _ (by omega)]
      by_cases h20 : x < 20
      · rw [decide_eq_true (by omega), Bool.true_and, row_bit f n h x (y - 1) h20 n (Nat.le_refl _)]
        congr 1 <;> omega
      · rw [decide_eq_false (by omega), Bool.false_and]
        exact Nat.testBit_lt_two_pow (Nat.lt_of_lt_of_le (rowM_small f n h n (Nat.le_refl _) (y - 1)) (Nat.pow_le_pow_right (by omega) (by omega)))
  · rw [if_neg hy, decide_eq_false (by omega), Bool.false_and, Nat.zero_testBit]
theorem frM_lt {f : Nat → Rt} {n : Nat} (h : okTo f n = true) (y : Nat) : frM f n y < 2 ^ 21 := by
  unfold frM frTo
  have := rowM_small f n h n (Nat.le_refl _) (y - 1)
  split <;> omega

set_option maxHeartbeats 2000000 in
set_option maxRecDepth 20000 in
theorem framed_any (A : Option Addr) (n cap : Nat) (f : Nat → Rt) (w : World) (hl : laidF f n = true) (hr : Rs w A n f) :
    Calls Try.prog 40 #[.slice A n cap] w fun e w' => e = .returned (.agg (frC (frM f n))) ∧ Below w.heap.size w w' := by
  obtain ⟨h7, hok⟩ := laidF_ok hl
  have Hok := Lib.hid hok
  have hba : Below w.heap.size w ((w.alloc (.cells #[.int .u32 0, .int .u32 0, .int .u32 0, .int .u32 0, .int .u32 0, .int .u32 0, .int .u32 0, .int .u32 0, .int .u32 0, .int .u32 0, .int .u32 0, .int .u32 0, .int .u32 0, .int .u32 0, .int .u32 0, .int .u32 0, .int .u32 0, .int .u32 0, .int .u32 0, .int .u32 0, .int .u32 0, .int .u32 0] 57)).alloc (.cells #[.int .u32 0, .int .u32 0, .int .u32 0, .int .u32 0, .int .u32 0, .int .u32 0, .int .u32 0, .int .u32 0, .int .u32 0, .int .u32 0, .int .u32 0, .int .u32 0, .int .u32 0, .int .u32 0, .int .u32 0, .int .u32 0, .int .u32 0, .int .u32 0, .int .u32 0, .int .u32 0, .int .u32 0, .int .u32 0] 57)) := by (repeat (first | with_reducible exact Below.refl _ _ | with_reducible assumption | ((with_reducible refine Below.alloc ?_ ?_ _); rotate_left; focus (first | with_reducible exact Nat.le_refl _ | omega | (simp; done) | (simp; omega))) | ((with_reducible refine Below.setCell ?_ ?_ _); rotate_left; focus (first | with_reducible exact Nat.le_refl _ | omega | (simp; done) | (simp; omega))) | (with_reducible refine Below.drew ?_) | ((with_reducible refine Below.trans ?_ (Below.mono (by with_reducible assumption) ?_)); rotate_left; focus (first | with_reducible exact Nat.le_refl _ | omega | (simp; done) | (simp; omega)))))
  have Hr := Lib.hid (hr.below hba)
  have HBA := Lib.hid hba
  have X0 := Lib.hid ((Fm.zero w).below ((Below.refl _ _).alloc (Nat.le_refl _) (.cells #[.int .u32 0, .int .u32 0, .int .u32 0, .int .u32 0, .int .u32 0, .int .u32 0, .int .u32 0, .int .u32 0, .int .u32 0, .int .u32 0, .int .u32 0, .int .u32 0, .int .u32 0, .int .u32 0, .int .u32 0, .int .u32 0, .int .u32 0, .int .u32 0, .int .u32 0, .int .u32 0, .int .u32 0, .int .u32 0] 57)))
  have X1 := Lib.hid (show Fm ((w.alloc (.cells #[.int .u32 0, .int .u32 0, .int .u32 0, .int .u32 0, .int .u32 0, .int .u32 0, .int .u32 0, .int .u32 0, .int .u32 0, .int .u32 0, .int .u32 0, .int .u32 0, .int .u32 0, .int .u32 0, .int .u32 0, .int .u32 0, .int .u32 0, .int .u32 0, .int .u32 0, .int .u32 0, .int .u32 0, .int .u32 0] 57)).alloc (.cells #[.int .u32 0, .int .u32 0, .int .u32 0, .int .u32 0, .int .u32 0, .int .u32 0, .int .u32 0, .int .u32 0, .int .u32 0, .int .u32 0, .int .u32 0, .int .u32 0, .int .u32 0, .int .u32 0, .int .u32 0, .int .u32 0, .int .u32 0, .int .u32 0, .int .u32 0, .int .u32 0, .int .u32 0, .int .u32 0] 57)) (w.heap.size + 1) (fun _ => 0) by
    have := Fm.zero (w.alloc (.cells #[.int .u32 0, .int .u32 0, .int .u32 0, .int .u32 0, .int .u32 0, .int .u32 0, .int .u32 0, .int .u32 0, .int .u32 0, .int .u32 0, .int .u32 0, .int .u32 0, .int .u32 0, .int .u32 0, .int .u32 0, .int .u32 0, .int .u32 0, .int .u32 0, .int .u32 0, .int .u32 0, .int .u32 0, .int .u32 0] 57))
    rwa [World.size_alloc] at this)
  clear hr hok hba
  go_enter Try.func40, Try.ntmps40
  go_wp2_with fail
  refine (unionof_any A n cap f _ hl Hr.out).mono ?_; rintro e w1 ⟨rfl, hb1⟩
  have hz1 := hb1.size
  simp at hz1
  have Y0 := Lib.hid (X0.out.below hb1)
  have Y1 := Lib.hid (X1.out.below hb1)
  have HB1 : Hid (Below w.heap.size w w1) := Lib.hid (HBA.out.trans (hb1.mono (by simp; omega)))
  clear hb1
  go_wp2
  go_loopw [8] (fun i wr => ∃ k : Nat, k ≤ 20 ∧ i = .int .i64 k ∧ Fm wr w.heap.size (fun _ => 0) ∧ Fm wr (w.heap.size + 1) (frTo f n k) ∧ Below w.heap.size w wr) (fun i _ => 20 - (intOf i).toNat)
  case atStart =>
    refine ⟨0, Nat.zero_le _, rfl, Y0.out, Y1.out.congr (fun y _ => by unfold frTo; rw [if_neg (by omega)]), HB1.out⟩
  case round =>
    obtain ⟨k, hk, rfl, hx0, hx1, hbr⟩ := hrel
    have hzr := hbr.size
    have l0 := hx0.lt
    have l1 := hx1.lt
    have Z0 := Lib.hid hx0
    have Z1 := Lib.hid hx1
    have HB := Lib.hid hbr
    clear hx0 hbr
    by_cases hlt : k < 20
    · have hix : (Instr.index 48 (.agg (bmC (rowM f n))) (.int .i64 (k : Nat))).run Try.prog wr = .ok (.int .u32 (rowM f n k : Nat)) wr :=
        run_index_cell 48 46 _ 20 _ _ k Try.underlying48 Try.underlying46 rfl (by kernel_rfl) hlt (bmC_get _ _ hlt) wr
      have c1 := hx1.c (k + 1) (by omega)
      have f1 := hx1.fz (k + 1)
      clear hx1
      have hm := rowM_small f n Hok.out n (Nat.le_refl _) k
      obtain ⟨M, hM⟩ : ∃ M, rowM f n k = M := ⟨_, rfl⟩
      have HM := Lib.hid hM
      rw [hM] at hix hm
      clear hM
      have hk22 : (k : Int) + 1 < 22 := by omega
      go_wp2
      go_roundw
      case rel =>
        refine ⟨k + 1, by omega, by go_num, Z0.out.setFar (by simp), ?_, ?_⟩
        · have := Z1.out.set (k := k + 1) (m' := frTo f n (k + 1)) (by omega) (fun y _ hne => by
            unfold frTo
            by_cases h : 1 ≤ y ∧ y ≤ k
            · rw [if_pos h, if_pos (by omega)]
            · rw [if_neg h, if_neg (by omega)])
          have hv : frTo f n (k + 1) (k + 1) = 2 * M := by unfold frTo; rw [if_pos (by omega), ← HM.out]; congr 1
          rw [hv] at this
          have e : (M : Int) * 2 = ((2 * M : Nat) : Int) := by omega
          rw [e]
          exact this
        · exact HB.out.setCell (by simp) _
      case measure => simp [intOf]; omega
    · have hkn : k = 20 := by omega
      subst hkn
      have b1 := hx1
      unfold Fm at b1
      have B1 := Lib.hid b1
      clear b1 hx1
      go_wp2_with (first | (refine wpList_load_row rfl 57 (.tmp 3) rfl (w.heap.size + 1) rfl 57 (frC (frTo f n 20)) (0, 0) _ B1.out Try.underlying57 rfl (by rw [frC_size]; exact infoFr) ?_) | (refine wpList_store_rowTo rfl 57 (.tmp 2) (.tmp 18) rfl rfl w.heap.size (frC (frTo f n 20)) rfl rfl 57 (frC (fun _ => 0)) Z0.out (by rw [frC_size]; exact infoFr) (by rw [frC_size, frC_size]) (frC_one _) ?_))
      refine bodyPost_ret (v := .agg (frC (frTo f n 20))) (results_cell_row rfl _ _ w.heap.size 57 (frC (frTo f n 20)) (0, 0) _ rfl Z0.out.row Try.underlying57 rfl (by rw [frC_size]; exact infoFr)) rfl ⟨rfl, ?_⟩
      exact below_setRow HB.out (Nat.le_refl _) _
end Go.Proofs.Ytfdkkkdijgmbbaa
namespace Go.Proofs.Ytfdkkkdijgmbbaa
open Go.RowKit Go.Sort
set_option linter.unusedVariables false
set_option linter.unusedSimpArgs false
theorem ones24_eq (n a b c : Nat) (hn : n < 16777216) (ha : n / 65536 % 256 = a) (hb : n / 256 % 256 = b) (hc : n % 256 = c) :
    Lib.pop8 (a : Int) + Lib.pop8 (b : Int) + Lib.pop8 (c : Int) = (popTo n 24 : Nat) := by
  have ea := pop8_to ⟨a, by omega⟩
  have eb := pop8_to ⟨b, by omega⟩
  have ec := pop8_to ⟨c, by omega⟩
  dsimp only at ea eb ec
  rw [ea, eb, ec, show (24 : Nat) = 8 + (8 + 8) by omega, popTo_split n 8, popTo_split (n / 2 ^ 8) 8, Nat.div_div_eq_div_mul,
    ← popTo_mod n 8, ← popTo_mod (n / 2 ^ 8) 8, ← popTo_mod (n / (2 ^ 8 * 2 ^ 8)) 8]
  have e1 : n % 2 ^ 8 = c := hc
  have e2 : n / 2 ^ 8 % 2 ^ 8 = b := hb
  have e3 : n / (2 ^ 8 * 2 ^ 8) % 2 ^ 8 = a := ha
  rw [e1, e2, e3]
  omega
set_option maxHeartbeats 400000 in
set_option maxRecDepth 20000 in
theorem ones24_any (n : Nat) (w : World) (hn : n < 16777216) :
    Calls Try.prog 46 #[.int .u32 n] w fun e w' => e = .returned (.int .i64 (popTo n 24 : Nat)) ∧ ∃ d, w' = w.drewN d := by
  have h0 : (n : Int) / 16777216 = 0 := by omega
  have h1 : bits .and .u32 ((n : Int) / 65536) 255 = ((n / 65536 % 256 : Nat) : Int) := by
    have := u32_and_nat (n / 65536) 255 (by omega) (by omega)
    rw [Nat.and_two_pow_sub_one_eq_mod _ 8] at this
    exact this
  have h2 : bits .and .u32 ((n : Int) / 256) 255 = ((n / 256 % 256 : Nat) : Int) := by
    have := u32_and_nat (n / 256) 255 (by omega) (by omega)
    rw [Nat.and_two_pow_sub_one_eq_mod _ 8] at this
    exact this
  have h3 : bits .and .u32 (n : Int) 255 = ((n % 256 : Nat) : Int) := by
    have := u32_and_nat n 255 (by omega) (by omega)
    rw [Nat.and_two_pow_sub_one_eq_mod _ 8] at this
    exact this
  obtain ⟨a, ha⟩ : ∃ a, n / 65536 % 256 = a := ⟨_, rfl⟩
  obtain ⟨b, hb⟩ : ∃ b, n / 256 % 256 = b := ⟨_, rfl⟩
  obtain ⟨c, hc⟩ : ∃ c, n % 256 = c := ⟨_, rfl⟩
  rw [ha] at h1
  rw [hb] at h2
  rw [hc] at h3
  have a1 : (a : Int) ≤ 255 := by omega
  have b1 : (b : Int) ≤ 255 := by omega
  have c1 : (c : Int) ≤ 255 := by omega
  have p0 : Lib.pop8 0 = 0 := by decide +kernel
  obtain ⟨pa1, pa2⟩ := pop8_bd a (by omega)
  obtain ⟨pb1, pb2⟩ := pop8_bd b (by omega)
  obtain ⟨pc1, pc2⟩ := pop8_bd c (by omega)
  have Ha := Lib.hid ha
  have Hb := Lib.hid hb
  have Hc := Lib.hid hc
  clear ha hb hc
  go_enter Try.func46, Try.ntmps46
  go_wp2
  simp only [List.append, Lib.fold_pop8tab]
  refine wp_region_quiet_lit (by kernel_rfl) (by kernel_rfl) ?_
  (repeat (first | go_big_quiet_step (fail) | quiet_step (fail)))
  refine wpQuiet_nil ?_
  intro _ hw'
  obtain ⟨nq, hw''⟩ := hw'
  subst hw''
  go_wp2
  go_ret
  exact ⟨ret_int (ones24_eq n a b c hn Ha.out Hb.out Hc.out), nq, rfl⟩
set_option maxHeartbeats 400000 in
set_option maxRecDepth 20000 in
theorem left_any (a b : Nat) (w : World) (ha : a < 2 ^ 22) :
    Calls Try.prog 42 #[.int .u32 (a : Nat), .int .u32 (b : Nat)] w fun e w' => e = .returned (.int .u32 ((2 * a : Nat) : Int)) ∧ w' = w := by
  go_enter Try.func42, Try.ntmps42
  go_wp2
  go_ret
  exact ⟨ret_int (k := .u32) (by omega), rfl⟩
set_option maxHeartbeats 400000 in
set_option maxRecDepth 20000 in
theorem low_any (a b : Nat) (w : World) :
    Calls Try.prog 43 #[.int .u32 (a : Nat), .int .u32 (b : Nat)] w fun e w' => e = .returned (.int .u32 (b : Nat)) ∧ w' = w := by
  go_enter Try.func43, Try.ntmps43
  go_wp2
  go_ret
  exact ⟨rfl, rfl⟩
def leftN (m : Nat → Nat) (y : Nat) : Nat := popTo (m (y + 1) ^^^ 2 * m (y + 1)) 24
def lowN (m : Nat → Nat) (y : Nat) : Nat := popTo (m (y + 1) ^^^ m y) 24
theorem xor_lt24 {a b : Nat} (ha : a < 2 ^ 24) (hb : b < 2 ^ 24) : a ^^^ b < 16777216 := Nat.xor_lt_two_pow (n := 24) ha hb
theorem sum24_bd (g : Nat → Nat) (h : ∀ y, g y ≤ 24) (k : Nat) : 0 ≤ sumN k (fun y => ((g y : Nat) : Int)) ∧ sumN k (fun y => ((g y : Nat) : Int)) ≤ 24 * k := by
  induction k with
  | zero => simp [sumN]
  | succ k ih => simp only [sumN]; have := h k; omega
def SidesPost (g : Nat → Nat) (w : World) (e : Ending) (w' : World) : Prop :=
  e = .returned (.int .i64 (sumN 21 (fun y => ((g y : Nat) : Int)))) ∧ Below w.heap.size w w'

set_option maxHeartbeats 2000000 in
set_option maxRecDepth 20000 in
theorem sidesL_any (m : Nat → Nat) (w : World) (hm : ∀ y, m y < 2 ^ 22) :
    Calls Try.prog 41 #[.agg (frC m), .func (.func 42) #[] #[]] w (SidesPost (leftN m) w) := by
  have HM := Lib.hid hm
  have HF0 := Lib.hid (Fm.new w m)
  clear hm
  go_enter Try.func41, Try.ntmps41
  go_wp2_with (refine wpList_box_row rfl 57 _ rfl _ rfl (frC m) rfl ?_)
  go_loopw [5, 6] (fun s i wr => ∃ k : Nat, k ≤ 21 ∧ i = .int .i64 ((k : Int) + 1) ∧ s = .int .i64 (sumN k (fun y => ((leftN m y : Nat) : Int))) ∧ Fm wr w.heap.size m ∧ Below w.heap.size w wr) (fun _ i _ => 22 - (intOf i).toNat)
  case atStart => exact ⟨0, Nat.zero_le _, rfl, rfl, HF0.out, by (repeat (first | with_reducible exact Below.refl _ _ | with_reducible assumption | ((with_reducible refine Below.alloc ?_ ?_ _); rotate_left; focus (first | with_reducible exact Nat.le_refl _ | omega | (simp; done) | (simp; omega))) | ((with_reducible refine Below.setCell ?_ ?_ _); rotate_left; focus (first | with_reducible exact Nat.le_refl _ | omega | (simp; done) | (simp; omega))) | (with_reducible refine Below.drew ?_) | ((with_reducible refine Below.trans ?_ (Below.mono (by with_reducible assumption) ?_)); rotate_left; focus (first | with_reducible exact Nat.le_refl _ | omega | (simp; done) | (simp; omega)))))⟩
  case round =>
    obtain ⟨k, hk, rfl, rfl, hf, hbr⟩ := hrel
    have HB := Lib.hid hbr
    have HF := Lib.hid hf
    have bd := sum24_bd (leftN m) (fun y => popTo_le _ _) k
    generalize hS : sumN k (fun y => ((leftN m y : Nat) : Int)) = S at bd
    have HS := Lib.hid hS
    clear hS hbr
    obtain ⟨bd1, bd2⟩ := bd
    by_cases hlt : k < 21
    · have c0 := hf.c k (by omega)
      have c1 := hf.c (k + 1) (by omega)
      have hk22 : (k : Int) + 1 < 22 := by omega
      have hk22' : (k : Int) < 22 := by omega
      have hk0 : (0 : Int) ≤ (k : Int) + 1 := by omega
      have hkn : (((k : Int) + 1).toNat) = k + 1 := by omega
      have hkw : IntKind.i64.wrap (k : Int) = (k : Int) := by rw [IntWalk.i64_left]; exact IntWalk.wrap64_in _ (by omega)
      have h0 := HM.out k
      have h1 := HM.out (k + 1)
      have hp : popTo (m (k + 1) ^^^ 2 * m (k + 1)) 24 ≤ 24 := popTo_le _ _
      have HG : Hid (leftN m k = popTo (m (k + 1) ^^^ 2 * m (k + 1)) 24) := Lib.hid rfl
      have hx : bits .xor .u32 ((m (k + 1) : Nat) : Int) (2 * (m (k + 1) : Int)) = ((m (k + 1) ^^^ 2 * m (k + 1) : Nat) : Int) := u32_xor_nat _ (2 * m (k + 1)) (by omega) (by omega)
      have hxl := xor_lt24 (a := m (k + 1)) (b := 2 * m (k + 1)) (by omega) (by omega)
      clear hf
      go_wp2_with fail
      go_quiet (first | (exact Calls.quiet_of_same (left_any _ _ _ h1)) | exact Calls.quiet_of (ones24_any _ _ hxl))
      go_wp2
      go_roundw
      case rel => exact ⟨k + 1, by omega, by go_num, by simp only [sumN]; rw [HS.out, HG.out], HF.out.drewN _, bel_drewN HB.out _⟩
      case measure => simp [intOf]; omega
    · have hkn : k = 21 := by omega
      subst hkn
      go_wp2
      go_ret
      exact ⟨ret_int HS.out.symm, HB.out⟩

set_option maxHeartbeats 2000000 in
set_option maxRecDepth 20000 in
theorem sidesD_any (m : Nat → Nat) (w : World) (hm : ∀ y, m y < 2 ^ 22) :
    Calls Try.prog 41 #[.agg (frC m), .func (.func 43) #[] #[]] w (SidesPost (lowN m) w) := by
  have HM := Lib.hid hm
  have HF0 := Lib.hid (Fm.new w m)
  clear hm
  go_enter Try.func41, Try.ntmps41
  go_wp2_with (refine wpList_box_row rfl 57 _ rfl _ rfl (frC m) rfl ?_)
  go_loopw [5, 6] (fun s i wr => ∃ k : Nat, k ≤ 21 ∧ i = .int .i64 ((k : Int) + 1) ∧ s = .int .i64 (sumN k (fun y => ((lowN m y : Nat) : Int))) ∧ Fm wr w.heap.size m ∧ Below w.heap.size w wr) (fun _ i _ => 22 - (intOf i).toNat)
  case atStart => exact ⟨0, Nat.zero_le _, rfl, rfl, HF0.out, by (repeat (first | with_reducible exact Below.refl _ _ | with_reducible assumption | ((with_reducible refine Below.alloc ?_ ?_ _); rotate_left; focus (first | with_reducible exact Nat.le_refl _ | omega | (simp; done) | (simp; omega))) | ((with_reducible refine Below.setCell ?_ ?_ _); rotate_left; focus (first | with_reducible exact Nat.le_refl _ | omega | (simp; done) | (simp; omega))) | (with_reducible refine Below.drew ?_) | ((with_reducible refine Below.trans ?_ (Below.mono (by with_reducible assumption) ?_)); rotate_left; focus (first | with_reducible exact Nat.le_refl _ | omega | (simp; done) | (simp; omega)))))⟩
  case round =>
    obtain ⟨k, hk, rfl, rfl, hf, hbr⟩ := hrel
    have HB := Lib.hid hbr
    have HF := Lib.hid hf
    have bd := sum24_bd (lowN m) (fun y => popTo_le _ _) k
    generalize hS : sumN k (fun y => ((lowN m y : Nat) : Int)) = S at bd
    have HS := Lib.hid hS
    clear hS hbr
    obtain ⟨bd1, bd2⟩ := bd
    by_cases hlt : k < 21
    · have c0 := hf.c k (by omega)
      have c1 := hf.c (k + 1) (by omega)
      have hk22 : (k : Int) + 1 < 22 := by omega
      have hk22' : (k : Int) < 22 := by omega
      have hk0 : (0 : Int) ≤ (k : Int) + 1 := by omega
      have hkn : (((k : Int) + 1).toNat) = k + 1 := by omega
      have hkw : IntKind.i64.wrap (k : Int) = (k : Int) := by rw [IntWalk.i64_left]; exact IntWalk.wrap64_in _ (by omega)
      have h0 := HM.out k
      have h1 := HM.out (k + 1)
      have hp : popTo (m (k + 1) ^^^ m k) 24 ≤ 24 := popTo_le _ _
      have HG : Hid (lowN m k = popTo (m (k + 1) ^^^ m k) 24) := Lib.hid rfl
      have hx : bits .xor .u32 ((m (k + 1) : Nat) : Int) (m k : Int) = ((m (k + 1) ^^^ m k : Nat) : Int) := u32_xor_nat _ (m k) (by omega) (by omega)
      have hxl := xor_lt24 (a := m (k + 1)) (b := m k) (by omega) (by omega)
      clear hf
      go_wp2_with fail
      go_quiet (first | (exact Calls.quiet_of_same (low_any _ _ _)) | exact Calls.quiet_of (ones24_any _ _ hxl))
      go_wp2
      go_roundw
      case rel => exact ⟨k + 1, by omega, by go_num, by simp only [sumN]; rw [HS.out, HG.out], HF.out.drewN _, bel_drewN HB.out _⟩
      case measure => simp [intOf]; omega
    · have hkn : k = 21 := by omega
      subst hkn
      go_wp2
      go_ret
      exact ⟨ret_int HS.out.symm, HB.out⟩
end Go.Proofs.Ytfdkkkdijgmbbaa
namespace Go.Proofs.Ytfdkkkdijgmbbaa
open Go.RowKit Go.Sort
set_option linter.unusedVariables false
set_option linter.unusedSimpArgs false
theorem pop_row (a b : Nat) (ha : a < 2 ^ 22) (hb : b < 2 ^ 22) : ((popTo (a ^^^ b) 24 : Nat) : Int) = sumN 22 fun x => one (a.testBit x != b.testBit x) := by
  rw [show 24 = 22 + 2 from rfl, popTo_small _ 22 (Nat.xor_lt_two_pow ha hb), popTo_sum]
  refine sumN_congr fun x _ => ?_
  rw [Nat.testBit_xor]
theorem frM_lt22 {f : Nat → Rt} {n : Nat} (h : okTo f n = true) (y : Nat) : frM f n y < 2 ^ 22 := Nat.lt_of_lt_of_le (frM_lt h y) (by decide)
theorem low_sum {f : Nat → Rt} {n : Nat} (h : okTo f n = true) : sumN 21 (fun y => ((lowN (frM f n) y : Nat) : Int)) = sumN 461 (fun a => one (mapG f n a != mapG f n (a + 22))) := by
  have e1 : sumN 21 (fun y => ((lowN (frM f n) y : Nat) : Int)) = sumN 21 fun y => sumN 22 fun x => one (mapG f n (22 * y + x) != mapG f n (22 * y + x + 22)) := by
    refine sumN_congr fun y hy => ?_
    unfold lowN
    rw [pop_row _ _ (frM_lt22 h _) (frM_lt22 h _)]
    refine sumN_congr fun x hx => ?_
    rw [frM_bit h x _ hx, frM_bit h x _ hx, show 22 * (y + 1) + x = 22 * y + x + 22 by omega]
    cases mapG f n (22 * y + x) <;> cases mapG f n (22 * y + x + 22) <;> rfl
  rw [e1, ← rows22 (fun a => one (mapG f n a != mapG f n (a + 22))) 21]
  show sumN 461 _ + one _ = _
  have hM := mapG_map f n
  rw [hM.hi (a := 461) (by omega), hM.hi (a := 461 + 22) (by omega)]
  exact Int.add_zero _
theorem left_sum {f : Nat → Rt} {n : Nat} (h : okTo f n = true) : sumN 21 (fun y => ((leftN (frM f n) y : Nat) : Int)) = sumN 461 (fun a => one (mapG f n a != mapG f n (a + 1))) := by
  have hM := mapG_map f n
  have e1 : sumN 21 (fun y => ((leftN (frM f n) y : Nat) : Int)) = sumN 21 fun y => sumN 22 fun x => one (mapG f n (22 * y + x + 21) != mapG f n (22 * y + x + 21 + 1)) := by
    refine sumN_congr fun y hy => ?_
    unfold leftN
    rw [pop_row _ _ (frM_lt22 h _) (by have := frM_lt h (y + 1); omega)]
    refine sumN_congr fun x hx => ?_
    rw [frM_bit h x _ hx, Nat.mul_comm 2]
    cases x with
    | zero =>
      rw [Nat.testBit_zero, show 22 * (y + 1) + 0 = 22 * (y + 1) by omega, hM.left (y + 1) (by omega), show 22 * y + 0 + 21 = 22 * y + 21 by omega, hM.right y (by omega), show 22 * y + 21 + 1 = 22 * (y + 1) by omega, hM.left (y + 1) (by omega), Nat.mul_mod_left]
      rfl
    | succ x =>
      rw [Nat.testBit_succ, Nat.mul_div_cancel _ (by omega), frM_bit h x _ (by omega), show 22 * (y + 1) + (x + 1) = 22 * y + (x + 1) + 21 + 1 by omega, show 22 * (y + 1) + x = 22 * y + (x + 1) + 21 by omega]
      cases mapG f n (22 * y + (x + 1) + 21) <;> cases mapG f n (22 * y + (x + 1) + 21 + 1) <;> rfl
  rw [e1, ← rows22 (fun a => one (mapG f n (a + 21) != mapG f n (a + 21 + 1))) 21]
  show sumN 461 _ + one _ = _
  rw [hM.hi (a := 461 + 21) (by omega), hM.hi (a := 461 + 21 + 1) (by omega)]
  have := sum_from (f := fun a => one (mapG f n a != mapG f n (a + 1))) 21 (fun a ha => by rw [hM.lo (a := a) (by omega), hM.lo (a := a + 1) (by omega)]; rfl) (fun a ha => by rw [hM.hi ha, hM.hi (a := a + 1) (by omega)]; rfl)
  rw [← this]
  exact Int.add_zero _
theorem sides_outl {f : Nat → Rt} {n : Nat} (h : okTo f n = true) : sumN 21 (fun y => ((leftN (frM f n) y : Nat) : Int)) + sumN 21 (fun y => ((lowN (frM f n) y : Nat) : Int)) = outl (mapG f n) := by
  rw [left_sum h, low_sum h, outl_eq (mapG_map f n)]
/-- A whole variable is loaded in a region that draws its order. -/
theorem wpQuiet_load {P : Program} {ops : Array Oper} {C : World → Prop} {Q : Act → Prop} {o : Oper} {rest : List Oper} {a : Act} (hw : Region.wanted o (yielded ops a.tmps) = true) (ty : TypeId) (x : Operand) (ho : o.op = .load ty x)
    (ad : Addr) (hx : a.eval x = .pointer (some ad)) (v : Value) (hl : ∀ w, C w → (loadVar ty ad).run P w = .ok v w) (h : wpQuiet P ops C Q rest (a.put o.dst v)) : wpQuiet P ops C Q (o :: rest) a := by
  show if _ then _ else _
  rw [if_pos hw]
  refine ⟨v, fun w hC => ?_, h⟩
  unfold Oper.quietAt execOp
  simp only [ho, hx]
  simp [Instr.loadAt, Instr.sureAddr, Sem.run_bind, hl w hC, Oper.quietUpon]
theorem load_framed {w : World} {g : Nat} {m : Nat → Nat} (h : Fm w g m) : (loadVar 57 ⟨g, 0, none⟩).run Try.prog w = .ok (.agg (frC m)) w :=
  run_loadVar_row w g 57 57 (frC m) (0, 0) _ h Try.underlying57 rfl (by rw [frC_size]; exact infoFr)

set_option maxHeartbeats 2000000 in
set_option maxRecDepth 20000 in
theorem iol_any (A : Option Addr) (n cap : Nat) (f : Nat → Rt) (w : World) (hn : n ≤ maxLen) (hr : Rs w A n f) :
    Calls Try.prog 17 #[.slice A n cap] w fun e w' => e = .returned (.int .i64 (olF f n)) ∧ Below w.heap.size w w' := by
  have Hn := Lib.hid hn
  have Hr := Lib.hid hr
  clear hn hr
  cases hl : laidF f n
  · have H : Hid (olF f n = -1) := Lib.hid (by unfold olF; rw [hl]; rfl)
    go_enter Try.func17, Try.ntmps17
    go_wp2_with fail
    refine (ilaid_val A n cap f false hl _ Hn.out Hr.out).mono ?_; rintro e w1 ⟨rfl, hb1⟩; have hz1 := hb1.size; (try simp at hz1)
    go_wp2
    go_ret
    exact ⟨ret_int (by rw [H.out]), by (repeat (first | with_reducible exact Below.refl _ _ | with_reducible assumption | ((with_reducible refine Below.alloc ?_ ?_ _); rotate_left; focus (first | with_reducible exact Nat.le_refl _ | omega | (simp; done) | (simp; omega))) | ((with_reducible refine Below.setCell ?_ ?_ _); rotate_left; focus (first | with_reducible exact Nat.le_refl _ | omega | (simp; done) | (simp; omega))) | (with_reducible refine Below.drew ?_) | ((with_reducible refine Below.trans ?_ (Below.mono (by with_reducible assumption) ?_)); rotate_left; focus (first | with_reducible exact Nat.le_refl _ | omega | (simp; done) | (simp; omega)))))⟩
  · obtain ⟨h7, hok⟩ := laidF_ok hl
    have Hok := Lib.hid hok
    clear hok
    have H : Hid (olF f n = sumN 21 (fun y => ((leftN (frM f n) y : Nat) : Int)) + sumN 21 (fun y => ((lowN (frM f n) y : Nat) : Int))) := Lib.hid (by rw [sides_outl Hok.out]; unfold olF; rw [hl]; rfl)
    have b1 := sum24_bd (leftN (frM f n)) (fun y => popTo_le _ _) 21
    have b2 := sum24_bd (lowN (frM f n)) (fun y => popTo_le _ _) 21
    generalize hP : sumN 21 (fun y => ((leftN (frM f n) y : Nat) : Int)) = P at H b1
    generalize hQ : sumN 21 (fun y => ((lowN (frM f n) y : Nat) : Int)) = Q at H b2
    have HP := Lib.hid hP
    have HQ := Lib.hid hQ
    clear hP hQ
    obtain ⟨p1, p2⟩ := b1
    obtain ⟨q1, q2⟩ := b2
    go_enter Try.func17, Try.ntmps17
    go_wp2_with fail
    refine (ilaid_val A n cap f true hl _ Hn.out Hr.out).mono ?_; rintro e w1 ⟨rfl, hb1⟩; have hz1 := hb1.size; (try simp at hz1)
    have Hr1 := Lib.hid (Hr.out.below hb1)
    go_wp2_with fail
    refine (framed_any A n cap f _ hl Hr1.out).mono ?_; rintro e w2 ⟨rfl, hb2⟩; have hz2 := hb2.size; (try simp at hz2)
    have hb3 : Below w2.heap.size w2 ((w2.alloc (.cells #[.int .u32 0, .int .u32 0, .int .u32 0, .int .u32 0, .int .u32 0, .int .u32 0, .int .u32 0, .int .u32 0, .int .u32 0, .int .u32 0, .int .u32 0, .int .u32 0, .int .u32 0, .int .u32 0, .int .u32 0, .int .u32 0, .int .u32 0, .int .u32 0, .int .u32 0, .int .u32 0, .int .u32 0, .int .u32 0] 57)).setRow w2.heap.size (frC (frM f n))) := below_setRow ((Below.refl _ _).alloc (Nat.le_refl _) _) (Nat.le_refl _) _
    have HZ := Lib.hid (Fm.zero w2)
    have HM3 := Lib.hid (HZ.out.row (m' := frM f n))
    have HB3 := Lib.hid ((hb1.trans (hb2.mono hz1)).trans (hb3.mono (by omega)))
    have hsz3 : w2.heap.size + 1 = ((w2.alloc (.cells #[.int .u32 0, .int .u32 0, .int .u32 0, .int .u32 0, .int .u32 0, .int .u32 0, .int .u32 0, .int .u32 0, .int .u32 0, .int .u32 0, .int .u32 0, .int .u32 0, .int .u32 0, .int .u32 0, .int .u32 0, .int .u32 0, .int .u32 0, .int .u32 0, .int .u32 0, .int .u32 0, .int .u32 0, .int .u32 0] 57)).setRow w2.heap.size (frC (frM f n))).heap.size := by simp [World.setRow]
    clear hb3 hb1 hb2
    go_wp2_with (refine wpList_store_rowTo rfl 57 (.tmp 3) (.tmp 8) rfl rfl w2.heap.size (frC (frM f n)) rfl rfl 57 (frC (fun _ => 0)) HZ.out (by rw [frC_size]; exact infoFr) (by rw [frC_size, frC_size]) (frC_one _) ?_)
    refine name_world (fun w3 hW => ?_)
    rw [hW] at HM3 HB3 hsz3
    clear hW
    have hld := fun d os => load_framed (HM3.out.below (below_regrown w3 d os))
    refine wp_region_quiet_below (by kernel_rfl) (by kernel_rfl) ?_
    refine wpQuiet_load rfl 57 (.tmp 3) rfl _ rfl (.agg (frC (frM f n))) (fun _ hC => by obtain ⟨p, rfl⟩ := hC; exact hld p.d p.os) ?_
    simp only [Act.put, List.setIfInBounds_toArray, List.set_cons_succ, List.set_cons_zero]
    go_big_quiet_step (exact Calls.regrown_of ((sidesL_any (frM f n) _ (frM_lt22 Hok.out)).mono (fun _ _ h => ⟨h.1.trans (by rw [HP.out]), h.2⟩)))
    refine wpQuiet_load rfl 57 (.tmp 3) rfl _ rfl (.agg (frC (frM f n))) (fun _ hC => by obtain ⟨p, rfl⟩ := hC; exact hld p.d p.os) ?_
    simp only [Act.put, List.setIfInBounds_toArray, List.set_cons_succ, List.set_cons_zero]
    go_big_quiet_step (exact Calls.regrown_of ((sidesD_any (frM f n) _ (frM_lt22 Hok.out)).mono (fun _ _ h => ⟨h.1.trans (by rw [HQ.out]), h.2⟩)))
    (repeat (go_big_quiet_step (fail)))
    refine wpQuiet_nil ?_
    intro _ hw'
    obtain ⟨⟨dq, osq⟩, hw''⟩ := hw'
    subst hw''
    have hb4 := below_regrown w3 dq osq
    generalize Sort.grow (redrawn w3 dq) osq = w4 at hb4 ⊢
    go_wp2
    go_ret
    exact ⟨ret_int (by rw [H.out]), HB3.out.trans (hb4.mono (by have := HB3.out.size; omega))⟩
end Go.Proofs.Ytfdkkkdijgmbbaa
