/- Chapter 3 of impl: DeepestOf, AtLeast. Chapter 3 of spec. -/
import Derived.Test.YtkfeeijiockdhaaDp
namespace Go.Proofs.Ytkfeeijiockdhaa
open Go.RowKit Go.Sort
set_option linter.unusedVariables false
/-- The deepest one of the first k cells, with 0 at the first cell to begin with. -/
def best0 (f : Nat → Rt) (n : Nat) : Nat → Int × Int × Int
  | 0 => (0, 0, 0)
  | k + 1 => if (best0 f n k).1 < cellK f n k then (cellK f n k, ((k % 20 : Nat) : Int), ((k / 20 : Nat) : Int)) else best0 f n k
theorem best0_same (f : Nat → Rt) (n : Nat) : ∀ k, 0 < k → best0 f n k = bestTo f n k
  | 0, h => by omega
  | k + 1, _ => by
    have hb := cellK_bd f n k
    by_cases h0 : k = 0
    · subst h0
      show (if (0 : Int) < cellK f n 0 then (cellK f n 0, (0 : Int), (0 : Int)) else (0, 0, 0)) = (if (-1 : Int) < cellK f n 0 then (cellK f n 0, (0 : Int), (0 : Int)) else (-1, -1, -1))
      rw [if_pos (show (-1 : Int) < cellK f n 0 by omega)]
      by_cases h : 0 < cellK f n 0
      · rw [if_pos h]
      · rw [if_neg h, show cellK f n 0 = 0 by omega]
    · simp only [best0, bestTo]
      rw [best0_same f n k (by omega)]
theorem best0_bd (f : Nat → Rt) (n k : Nat) (hk : k ≤ 400) : 0 ≤ (best0 f n k).1 ∧ (best0 f n k).1 ≤ n := by
  by_cases h0 : k = 0
  · subst h0; simp only [best0]; omega
  · obtain ⟨i, hi, he, _⟩ := bestTo_cell f n k (by omega)
    rw [best0_same f n k (by omega), he]; exact cellK_bd f n i
theorem best0_hit (f : Nat → Rt) (n k j : Nat) (hj : j < 20) (a b c d : Int) (hb : best0 f n (k * 20 + j) = (a, b, c)) (hd : cellK f n (k * 20 + j) = d) (h : a < d) : best0 f n (k * 20 + (j + 1)) = (d, (j : Int), (k : Int)) := by
  show best0 f n (k * 20 + j + 1) = _
  simp only [best0]
  rw [hb, hd, if_pos h, show (k * 20 + j) % 20 = j by omega, show (k * 20 + j) / 20 = k by omega]
theorem best0_miss (f : Nat → Rt) (n k j : Nat) (a b c d : Int) (hb : best0 f n (k * 20 + j) = (a, b, c)) (hd : cellK f n (k * 20 + j) = d) (h : ¬ a < d) : best0 f n (k * 20 + (j + 1)) = (a, b, c) := by
  show best0 f n (k * 20 + j + 1) = _
  simp only [best0]
  rw [hb, hd, if_neg h]

def tri (p : Int × Int × Int) : Value := .tuple #[.int .i64 p.1, .int .i64 p.2.1, .int .i64 p.2.2]
set_option maxHeartbeats 1000000 in
set_option maxRecDepth 20000 in
theorem deepest_any (f : Nat → Rt) (n : Nat) (w : World) (h7 : n ≤ 7) :
    Calls Try.prog 64 #[.agg (tbC 400 (cellK f n))] w fun e w' => e = .returned (tri (best0 f n 400)) ∧ Below w.heap.size w w' := by
  go_enter Try.func64, Try.ntmps64
  go_wp2_with (first | (refine wpList_box_row rfl 70 (.tmp 0) rfl (some 1) rfl (tbC 400 (cellK f n)) rfl ?_) | (refine wpList_load_row rfl 70 (.tmp 1) rfl w.heap.size rfl 70 (tbC 400 (cellK f n)) (0, 0) _ (Tb.new w 400 70 _) Try.underlying70 rfl (by rw [tbC_size]; exact info400) ?_))
  go_loopw [2, 3, 4, 10] (fun s2 s3 s4 y wr => ∃ (k : Nat) (a b c : Int), k ≤ 20 ∧ y = .int .i64 k ∧ s2 = .int .i64 a ∧ s3 = .int .i64 b ∧ s4 = .int .i64 c ∧ best0 f n (k * 20) = (a, b, c) ∧ Below w.heap.size w wr) (fun _ _ _ y _ => 20 - (intOf y).toNat)
  case atStart => exact ⟨0, 0, 0, 0, Nat.zero_le _, rfl, rfl, rfl, rfl, rfl, by (repeat (first | with_reducible exact Below.refl _ _ | with_reducible assumption | ((with_reducible refine Below.alloc ?_ ?_ _); rotate_left; focus (first | with_reducible exact Nat.le_refl _ | omega | (simp; done) | (simp; omega))) | ((with_reducible refine Below.setCell ?_ ?_ _); rotate_left; focus (first | with_reducible exact Nat.le_refl _ | omega | (simp; done) | (simp; omega))) | (with_reducible refine Below.drew ?_) | ((with_reducible refine Below.trans ?_ (Below.mono (by with_reducible assumption) ?_)); rotate_left; focus (first | with_reducible exact Nat.le_refl _ | omega | (simp; done) | (simp; omega)))))⟩
  case round =>
    obtain ⟨k, a, b, c, hk, rfl, rfl, rfl, rfl, hb, hbr⟩ := hrel
    have HB := Lib.hid hbr
    have HE := Lib.hid hb
    have hzr := hbr.size
    clear hbr hb
    by_cases hlt : k < 20
    · have hk20 : (k : Int) < 20 := by omega
      have i1 := ix_row (cellK f n) k hlt
      go_wp2_with (first | (refine wpList_alloc_row rfl 68 rfl (some 6) rfl (tbC 20 fun _ => 0) zero20 ?_) | (refine wpList_store_rowTo rfl 68 (.tmp 6) (.tmp 13) rfl rfl wr.heap.size (tbC 20 (fun i => cellK f n (k * 20 + i))) rfl rfl 68 (tbC 20 fun _ => 0) (Tb.new wr 20 68 _) (by rw [tbC_size]; exact info20) (by rw [tbC_size, tbC_size]) (tbC_one _ _) ?_) | (refine wpList_load_row rfl 68 (.tmp 6) rfl wr.heap.size rfl 68 (tbC 20 (fun i => cellK f n (k * 20 + i))) (0, 0) _ (Tb.new wr 20 68 (fun _ => 0)).row Try.underlying68 rfl (by rw [tbC_size]; exact info20) ?_))
      clear i1
      have hx : Below wr.heap.size wr ((wr.alloc (.cells (tbC 20 fun _ => 0) 68)).setRow wr.heap.size (tbC 20 (fun i => cellK f n (k * 20 + i)))) := below_setRow ((Below.refl _ _).alloc (Nat.le_refl _) _) (Nat.le_refl _) _
      have HX := Lib.hid hx
      clear hx
      obtain ⟨wo, ho⟩ : ∃ wo : World, wo = wr := ⟨_, rfl⟩
      go_loopw [2, 3, 4, 15] (fun s2 s3 s4 x wi => ∃ (j : Nat) (a b c : Int), j ≤ 20 ∧ x = .int .i64 j ∧ s2 = .int .i64 a ∧ s3 = .int .i64 b ∧ s4 = .int .i64 c ∧ best0 f n (k * 20 + j) = (a, b, c) ∧ Below w.heap.size w wi) (fun _ _ _ x _ => 20 - (intOf x).toNat)
      case atStart => exact ⟨0, a, b, c, Nat.zero_le _, rfl, rfl, rfl, rfl, HE.out, HB.out.trans (HX.out.mono hzr)⟩
      case round =>
        obtain ⟨j, a, b, c, hj, rfl, rfl, rfl, rfl, hb, hbi⟩ := hrel
        have HBI := Lib.hid hbi
        have HJ := Lib.hid hb
        clear hbi hb
        by_cases hlt2 : j < 20
        · have hj20 : (j : Int) < 20 := by omega
          have i2 := ix_int (fun i => cellK f n (k * 20 + i)) j hlt2
          obtain ⟨d, hd⟩ : ∃ d : Int, cellK f n (k * 20 + j) = d := ⟨_, rfl⟩
          simp only [hd] at i2
          have HD := Lib.hid hd
          clear hd
          by_cases hgt : a < d
          · go_wp2
            go_roundw
            case rel => exact ⟨j + 1, d, j, k, by omega, by go_num, rfl, rfl, rfl, best0_hit f n k j hlt2 a b c d HJ.out HD.out hgt, HBI.out⟩
            case measure => simp [intOf]; omega
          · go_wp2
            go_roundw
            case rel => exact ⟨j + 1, a, b, c, by omega, by go_num, rfl, rfl, rfl, best0_miss f n k j a b c d HJ.out HD.out hgt, HBI.out⟩
            case measure => simp [intOf]; omega
        · have hjn : j = 20 := by omega
          subst hjn
          go_wp2
          go_roundw
          case rel => exact ⟨k + 1, a, b, c, by omega, by go_num, rfl, rfl, rfl, by rw [show (k + 1) * 20 = k * 20 + 20 by omega]; exact HJ.out, HBI.out⟩
          case measure => simp [intOf]; omega
    · have hkn : k = 20 := by omega
      subst hkn
      go_wp2
      refine bodyPost_ret (v := .tuple #[.int .i64 a, .int .i64 b, .int .i64 c]) (by simp (maxDischargeDepth := 8) [results, Try.results64, go_sem, *]) rfl ⟨?_, HB.out⟩
      rw [show (400 : Nat) = 20 * 20 from rfl, HE.out]; rfl

/-- The deepest cell, -1 for others. -/
def deF (f : Nat → Rt) (n : Nat) : Int × Int × Int := if laidF f n then bestTo f n 400 else (-1, -1, -1)
def quad (p : Int × Int × Int) (b : Bool) : Value := .tuple #[.int .i64 p.1, .int .i64 p.2.1, .int .i64 p.2.2, .bool b]
set_option maxHeartbeats 400000 in
set_option maxRecDepth 20000 in
theorem ide_any (A : Option Addr) (n cap : Nat) (f : Nat → Rt) (w : World) (hn : n ≤ maxLen) (hr : Rs w A n f) :
    Calls Try.prog 29 #[.slice A n cap] w fun e w' => e = .returned (quad (deF f n) (laidF f n)) ∧ Below w.heap.size w w' := by
  have Hn := Lib.hid hn
  have Hr := Lib.hid hr
  clear hn hr
  cases hl : laidF f n
  · have H : Hid (deF f n = (-1, -1, -1)) := Lib.hid (by unfold deF; rw [hl]; rfl)
    go_enter Try.func29, Try.ntmps29
    go_wp2_with fail
    refine (ilaid_val A n cap f false hl _ Hn.out Hr.out).mono ?_; rintro e w1 ⟨rfl, hb1⟩; have hz1 := hb1.size; (try simp at hz1)
    go_wp2
    refine bodyPost_ret (v := .tuple #[.int .i64 (-1), .int .i64 (-1), .int .i64 (-1), .bool false]) (by simp (maxDischargeDepth := 8) [results, Try.results29, go_sem, *]) rfl ⟨?_, by (repeat (first | with_reducible exact Below.refl _ _ | with_reducible assumption | ((with_reducible refine Below.alloc ?_ ?_ _); rotate_left; focus (first | with_reducible exact Nat.le_refl _ | omega | (simp; done) | (simp; omega))) | ((with_reducible refine Below.setCell ?_ ?_ _); rotate_left; focus (first | with_reducible exact Nat.le_refl _ | omega | (simp; done) | (simp; omega))) | (with_reducible refine Below.drew ?_) | ((with_reducible refine Below.trans ?_ (Below.mono (by with_reducible assumption) ?_)); rotate_left; focus (first | with_reducible exact Nat.le_refl _ | omega | (simp; done) | (simp; omega)))))⟩
    rw [H.out]; rfl
  · have H : Hid (deF f n = best0 f n 400) := Lib.hid (by unfold deF; rw [hl, best0_same f n 400 (by omega)]; rfl)
    have h7 := (laidF_ok hl).1
    go_enter Try.func29, Try.ntmps29
    go_wp2_with fail
    refine (ilaid_val A n cap f true hl _ Hn.out Hr.out).mono ?_; rintro e w1 ⟨rfl, hb1⟩; have hz1 := hb1.size; (try simp at hz1)
    have Hr1 := Lib.hid (Hr.out.below hb1)
    go_wp2_with fail
    refine (depthsby_any A n cap f _ hl Hr1.out).mono ?_; rintro e w2 ⟨rfl, hb2⟩; have hz2 := hb2.size; (try simp at hz2)
    go_wp2_with fail
    refine (deepest_any f n _ h7).mono ?_; rintro e w3 ⟨rfl, hb3⟩; have hz3 := hb3.size; (try simp at hz3)
    unfold tri
    go_wp2
    refine bodyPost_ret (v := .tuple #[.int .i64 (best0 f n 400).1, .int .i64 (best0 f n 400).2.1, .int .i64 (best0 f n 400).2.2, .bool true]) (by simp (maxDischargeDepth := 8) [results, Try.results29, go_sem, *]) rfl ⟨?_, by (repeat (first | with_reducible exact Below.refl _ _ | with_reducible assumption | ((with_reducible refine Below.alloc ?_ ?_ _); rotate_left; focus (first | with_reducible exact Nat.le_refl _ | omega | (simp; done) | (simp; omega))) | ((with_reducible refine Below.setCell ?_ ?_ _); rotate_left; focus (first | with_reducible exact Nat.le_refl _ | omega | (simp; done) | (simp; omega))) | (with_reducible refine Below.drew ?_) | ((with_reducible refine Below.trans ?_ (Below.mono (by with_reducible assumption) ?_)); rotate_left; focus (first | with_reducible exact Nat.le_refl _ | omega | (simp; done) | (simp; omega)))))⟩
    rw [H.out]; rfl

/-- How many cells have at least the depth, -1 for others. -/
def alF (f : Nat → Rt) (n : Nat) (d : Int) : Int := if laidF f n && decide (0 ≤ d) then tailF f n d.toNat else -1
def fromF (f : Nat → Rt) (n K i : Nat) : Int := if K ≤ i then histF f n i else 0
theorem from_sum (f : Nat → Rt) (n K : Nat) : sumN (n + 1) (fromF f n K) = tailF f n K := by
  have H : ∀ m, sumN m (fromF f n K) = if K ≤ m then sumN (m - K) (fun i => histF f n ((K + i : Nat) : Int)) else 0 := by
    intro m
    induction m with
    | zero => simp only [sumN]; split <;> simp [sumN]
    | succ m ih =>
      simp only [sumN]
      rw [ih]
      unfold fromF
      by_cases h : K ≤ m
      · rw [if_pos h, if_pos h, if_pos (by omega), show m + 1 - K = (m - K) + 1 by omega]
        simp only [sumN]
        rw [show K + (m - K) = m by omega]
      · rw [if_neg h, if_neg h]
        by_cases h2 : K ≤ m + 1
        · rw [if_pos h2, show m + 1 - K = 0 by omega]; rfl
        · rw [if_neg h2]; rfl
  rw [H]
  by_cases h : K ≤ n + 1
  · rw [if_pos h, ← tail_sum f n K (n + 1 - K), tail_far f n _ (by omega)]; omega
  · rw [if_neg h, tail_far f n K (by omega)]
theorem from_bd (f : Nat → Rt) (n K k : Nat) : 0 ≤ sumN k (fromF f n K) ∧ sumN k (fromF f n K) ≤ 400 * k := by
  induction k with
  | zero => simp [sumN]
  | succ k ih =>
    simp only [sumN]
    have := histF_bd f n k
    unfold fromF at *
    split <;> omega
end Go.Proofs.Ytkfeeijiockdhaa
namespace Go.Proofs.Ytkfeeijiockdhaa
open Go.RowKit Go.Sort
set_option linter.unusedVariables false
theorem depF_cell (f : Nat → Rt) (n k j : Nat) (hj : j < 20) (d : Int) (h : cellK f n (k * 20 + j) = d) : depF f (j : Nat) (k : Nat) n = d := by
  rw [← h, show k * 20 + j = 20 * k + j by omega, cellK_at f n j k hj]

theorem bestTo_hit (f : Nat → Rt) (n k j : Nat) (hj : j < 20) (a b c d : Int) (hb : bestTo f n (k * 20 + j) = (a, b, c)) (hd : cellK f n (k * 20 + j) = d) (h : a < d) : bestTo f n (k * 20 + (j + 1)) = (d, (j : Int), (k : Int)) := by
  show bestTo f n (k * 20 + j + 1) = _
  simp only [bestTo]
  rw [hb, hd, if_pos h, show (k * 20 + j) % 20 = j by omega, show (k * 20 + j) / 20 = k by omega]
theorem bestTo_miss (f : Nat → Rt) (n k j : Nat) (a b c d : Int) (hb : bestTo f n (k * 20 + j) = (a, b, c)) (hd : cellK f n (k * 20 + j) = d) (h : ¬ a < d) : bestTo f n (k * 20 + (j + 1)) = (a, b, c) := by
  show bestTo f n (k * 20 + j + 1) = _
  simp only [bestTo]
  rw [hb, hd, if_neg h]
def tailP (f : Nat → Rt) (n K j : Nat) : Int := sumN j fun i => histF f n ((K + i : Nat) : Int)
theorem tailP_bd (f : Nat → Rt) (n K j : Nat) : 0 ≤ tailP f n K j ∧ tailP f n K j ≤ 400 * j := by
  unfold tailP
  induction j with
  | zero => simp [sumN]
  | succ j ih =>
    simp only [sumN]
    have := histF_bd f n ((K + j : Nat) : Int)
    omega
theorem tailP_all (f : Nat → Rt) (n K j : Nat) (h : n + 1 ≤ K + j) : tailP f n K j = tailF f n K := by
  unfold tailP; rw [← tail_sum f n K j, tail_far f n _ (by omega)]; omega
end Go.Proofs.Ytkfeeijiockdhaa
