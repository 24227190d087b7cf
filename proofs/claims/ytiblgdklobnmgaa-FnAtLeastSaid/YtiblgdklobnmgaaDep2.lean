
/- Chapter 3 of impl: DepthAt, DepthsOf. -/
import Derived.Test.YtiblgdklobnmgaaDep
import Derived.Test.YtiblgdklobnmgaaSum
namespace Go.Proofs.Ytiblgdklobnmgaa
open Go.RowKit Go.Sort
set_option linter.unusedVariables false
theorem ix_row (T : Nat → Int) (k : Nat) (hk : k < 20) (w : World) : (Instr.index 60 (.agg (tbC 400 T)) (.int .i64 (k : Nat))).run Try.prog w = .ok (.agg (tbC 20 (fun i => T (k * 20 + i)))) w :=
  run_index_row 60 58 _ 20 20 400 T k Try.underlying60 Try.underlying58 rfl info20 hk (by omega) w
theorem ix_int (T : Nat → Int) (k : Nat) (hk : k < 20) (w : World) : (Instr.index 58 (.agg (tbC 20 T)) (.int .i64 (k : Nat))).run Try.prog w = .ok (.int .i64 (T k)) w :=
  run_index_int 58 3 _ 20 20 T k Try.underlying58 Try.underlying3 rfl (by kernel_rfl) hk (by omega) w

theorem place_val (x : Int) (v : Bool) (h : inB x 0 19 = v) (w : World) :
    Calls Try.prog 39 #[.int .i64 x] w fun e w' => e = .returned (.bool v) ∧ w = w' := by
  subst h
  by_cases h1 : 0 ≤ x
  · by_cases h2 : x < 20
    · go_enter Try.func39, Try.ntmps39
      go_wp2
      go_ret
      exact ⟨ret_bool (inB_iff.2 (by omega)).symm, rfl⟩
    · go_enter Try.func39, Try.ntmps39
      go_wp2
      go_ret
      exact ⟨ret_bool (by rw [eq_comm, Bool.eq_false_iff]; intro h; have := inB_iff.1 h; omega), rfl⟩
  · go_enter Try.func39, Try.ntmps39
    go_wp2
    go_ret
    exact ⟨ret_bool (by rw [eq_comm, Bool.eq_false_iff]; intro h; have := inB_iff.1 h; omega), rfl⟩

/-- The depth of a cell, -1 for others. -/
def daF (f : Nat → Rt) (n : Nat) (x y : Int) : Int := if laidF f n && (inB x 0 19 && inB y 0 19) then depF f x y n else -1
set_option maxHeartbeats 400000 in
theorem ida_any (A : Option Addr) (n cap : Nat) (f : Nat → Rt) (x y : Int) (w : World) (hn : n ≤ maxLen) (hr : Rs w A n f) :
    Calls Try.prog 12 #[.slice A n cap, .int .i64 x, .int .i64 y] w fun e w' => e = .returned (.int .i64 (daF f n x y)) ∧ Below w.heap.size w w' := by
  have Hn := Lib.hid hn
  have Hr := Lib.hid hr
  clear hn hr
  cases hl : laidF f n
  · have H : Hid (daF f n x y = -1) := Lib.hid (by unfold daF; rw [hl]; rfl)
    go_enter Try.func12, Try.ntmps12
    go_wp2_with fail
    refine (ilaid_val A n cap f false hl _ Hn.out Hr.out).mono ?_; rintro e w1 ⟨rfl, hb1⟩; have hz1 := hb1.size; (try simp at hz1)
    go_wp2
    go_ret
    exact ⟨ret_int (by rw [H.out]), by (repeat (first | with_reducible exact Below.refl _ _ | with_reducible assumption | ((with_reducible refine Below.alloc ?_ ?_ _); rotate_left; focus (first | with_reducible exact Nat.le_refl _ | omega | (simp; done) | (simp; omega))) | ((with_reducible refine Below.setCell ?_ ?_ _); rotate_left; focus (first | with_reducible exact Nat.le_refl _ | omega | (simp; done) | (simp; omega))) | (with_reducible refine Below.drew ?_) | ((with_reducible refine Below.trans ?_ (Below.mono (by with_reducible assumption) ?_)); rotate_left; focus (first | with_reducible exact Nat.le_refl _ | omega | (simp; done) | (simp; omega)))))⟩
  · cases hx : inB x 0 19
    · have H : Hid (daF f n x y = -1) := Lib.hid (by unfold daF; rw [hl, hx]; rfl)
      go_enter Try.func12, Try.ntmps12
      go_wp2_with fail
      refine (ilaid_val A n cap f true hl _ Hn.out Hr.out).mono ?_; rintro e w1 ⟨rfl, hb1⟩; have hz1 := hb1.size; (try simp at hz1)
      go_wp2_with fail
      refine (place_val x false hx _).mono ?_; rintro e w' ⟨rfl, rfl⟩
      go_wp2
      go_ret
      exact ⟨ret_int (by rw [H.out]), by (repeat (first | with_reducible exact Below.refl _ _ | with_reducible assumption | ((with_reducible refine Below.alloc ?_ ?_ _); rotate_left; focus (first | with_reducible exact Nat.le_refl _ | omega | (simp; done) | (simp; omega))) | ((with_reducible refine Below.setCell ?_ ?_ _); rotate_left; focus (first | with_reducible exact Nat.le_refl _ | omega | (simp; done) | (simp; omega))) | (with_reducible refine Below.drew ?_) | ((with_reducible refine Below.trans ?_ (Below.mono (by with_reducible assumption) ?_)); rotate_left; focus (first | with_reducible exact Nat.le_refl _ | omega | (simp; done) | (simp; omega)))))⟩
    · cases hy : inB y 0 19
      · have H : Hid (daF f n x y = -1) := Lib.hid (by unfold daF; rw [hl, hx, hy]; rfl)
        go_enter Try.func12, Try.ntmps12
        go_wp2_with fail
        refine (ilaid_val A n cap f true hl _ Hn.out Hr.out).mono ?_; rintro e w1 ⟨rfl, hb1⟩; have hz1 := hb1.size; (try simp at hz1)
        go_wp2_with fail
        refine (place_val x true hx _).mono ?_; rintro e w' ⟨rfl, rfl⟩
        go_wp2_with fail
        refine (place_val y false hy _).mono ?_; rintro e w' ⟨rfl, rfl⟩
        go_wp2
        go_ret
        exact ⟨ret_int (by rw [H.out]), by (repeat (first | with_reducible exact Below.refl _ _ | with_reducible assumption | ((with_reducible refine Below.alloc ?_ ?_ _); rotate_left; focus (first | with_reducible exact Nat.le_refl _ | omega | (simp; done) | (simp; omega))) | ((with_reducible refine Below.setCell ?_ ?_ _); rotate_left; focus (first | with_reducible exact Nat.le_refl _ | omega | (simp; done) | (simp; omega))) | (with_reducible refine Below.drew ?_) | ((with_reducible refine Below.trans ?_ (Below.mono (by with_reducible assumption) ?_)); rotate_left; focus (first | with_reducible exact Nat.le_refl _ | omega | (simp; done) | (simp; omega)))))⟩
      · have bx := inB_iff.1 hx
        have b_y := inB_iff.1 hy
        obtain ⟨X, rfl⟩ : ∃ X : Nat, x = X := ⟨x.toNat, by omega⟩
        obtain ⟨Y, rfl⟩ : ∃ Y : Nat, y = Y := ⟨y.toNat, by omega⟩
        have H : Hid (daF f n X Y = cellK f n (Y * 20 + X)) := Lib.hid (by unfold daF; rw [hl, hx, hy, show Y * 20 + X = 20 * Y + X by omega, cellK_at f n X Y (by omega)]; rfl)
        have i1 := ix_row (cellK f n) Y (by omega)
        have i2 := ix_int (fun i => cellK f n (Y * 20 + i)) X (by omega)
        go_enter Try.func12, Try.ntmps12
        go_wp2_with fail
        refine (ilaid_val A n cap f true hl _ Hn.out Hr.out).mono ?_; rintro e w1 ⟨rfl, hb1⟩; have hz1 := hb1.size; (try simp at hz1)
        go_wp2_with fail
        refine (place_val X true hx _).mono ?_; rintro e w' ⟨rfl, rfl⟩
        go_wp2_with fail
        refine (place_val Y true hy _).mono ?_; rintro e w' ⟨rfl, rfl⟩
        have Hr1 := Lib.hid (Hr.out.below hb1)
        go_wp2_with fail
        refine (depthsby_any A n cap f _ hl Hr1.out).mono ?_; rintro e w2 ⟨rfl, hb2⟩; have hz2 := hb2.size; (try simp at hz2)
        go_wp2
        go_ret
        exact ⟨ret_int (by rw [H.out]), by (repeat (first | with_reducible exact Below.refl _ _ | with_reducible assumption | ((with_reducible refine Below.alloc ?_ ?_ _); rotate_left; focus (first | with_reducible exact Nat.le_refl _ | omega | (simp; done) | (simp; omega))) | ((with_reducible refine Below.setCell ?_ ?_ _); rotate_left; focus (first | with_reducible exact Nat.le_refl _ | omega | (simp; done) | (simp; omega))) | (with_reducible refine Below.drew ?_) | ((with_reducible refine Below.trans ?_ (Below.mono (by with_reducible assumption) ?_)); rotate_left; focus (first | with_reducible exact Nat.le_refl _ | omega | (simp; done) | (simp; omega)))))⟩
theorem ida_val (A : Option Addr) (n cap : Nat) (f : Nat → Rt) (x y v : Int) (h : daF f n x y = v) (w : World) (hn : n ≤ maxLen) (hr : Rs w A n f) :
    Calls Try.prog 12 #[.slice A n cap, .int .i64 x, .int .i64 y] w fun e w' => e = .returned (.int .i64 v) ∧ Below w.heap.size w w' := h ▸ ida_any A n cap f x y w hn hr

theorem make_ints1 (n : Nat) (hc : n ≤ 1999999) (w : World) :
    (Instr.makeSlice 34 (.int .i64 ((n : Int) + 1)) (.int .i64 ((n : Int) + 1))).run Try.prog w = .ok (.slice (some ⟨w.heap.size, 0, none⟩) (n + 1) (n + 1)) (w.alloc (.cells (madeCells #[.int .i64 0] (n + 1)) 3)) := by
  have := make_ints (n + 1) (n + 1) (Nat.le_refl _) (by omega) w
  rw [show ((n + 1 : Nat) : Int) = (n : Int) + 1 by omega] at this
  exact this
def histN (f : Nat → Rt) (n k d : Nat) : Int := histTo f n k d
theorem histN_step (f : Nat → Rt) (n k d : Nat) (hd : cellK f n k = d) (i : Nat) (hne : i ≠ d) : histN f n k i = histN f n (k + 1) i := by
  unfold histN
  rw [histTo_succ, show decide (cellK f n k = (i : Int)) = false by rw [hd]; simp; omega]; simp [one]
theorem histN_hit (f : Nat → Rt) (n k d : Nat) (hd : cellK f n k = d) : histN f n (k + 1) d = histN f n k d + 1 := by
  unfold histN
  rw [histTo_succ, show decide (cellK f n k = (d : Int)) = true by rw [hd]; simp]; rfl
theorem Iw.ltp {w : World} {A : Option Addr} {n g : Nat} {f : Nat → Int} (h : Iw w A n f g) (h0 : 0 < n) : g < w.heap.size := by
  rcases h with h | ⟨_, h, _⟩
  · omega
  · exact h
theorem Iw.c {w : World} {A : Option Addr} {n g k : Nat} {f : Nat → Int} (h : Iw w A n f g) (hk : k < n) : w.cell? ⟨g, k, none⟩ = some (.int .i64 (f k)) ∧ w.frozen? ⟨g, k, none⟩ = false := by
  rcases h with h | ⟨_, _, h1, h2⟩
  · omega
  · exact ⟨h1 k hk, h2 k hk⟩
theorem histN_bd (f : Nat → Rt) (n k d : Nat) : 0 ≤ histN f n k d ∧ histN f n k d ≤ k := histTo_bd f n k d
theorem cell_nat (f : Nat → Rt) (n k : Nat) : ∃ d : Nat, d ≤ n ∧ cellK f n k = d := ⟨(cellK f n k).toNat, by have := cellK_bd f n k; omega, by have := cellK_bd f n k; omega⟩
set_option maxHeartbeats 1000000 in
theorem idepths_yes (A : Option Addr) (n cap : Nat) (f : Nat → Rt) (w : World) (hn : n ≤ maxLen) (hr : Rs w A n f) (hl : laidF f n = true) :
    Calls Try.prog 17 #[.slice A n cap] w (IntsPost (n + 1) (fun d => histF f n d) w) := by
  have Hn := Lib.hid hn
  have Hr := Lib.hid hr
  have h7 := (laidF_ok hl).1
  have hmk := make_ints1 n (by omega)
  clear hn hr
  go_enter Try.func17, Try.ntmps17
  go_wp2_with fail
  refine (ilaid_val A n cap f true hl _ Hn.out Hr.out).mono ?_; rintro e w1 ⟨rfl, hb1⟩; have hz1 := hb1.size; (try simp at hz1)
  have Hr1 := Lib.hid (Hr.out.below hb1)
  have Hb1 := Lib.hid hb1
  clear hb1
  go_wp2_with fail
  clear hmk
  have hba : Below w1.heap.size w1 (w1.alloc (.cells (madeCells #[.int .i64 0] (n + 1)) 3)) := (Below.refl _ _).alloc (Nat.le_refl _) _
  have Hba := Lib.hid hba
  clear hba
  refine (depthsby_any A n cap f _ hl (Hr1.out.below Hba.out)).mono ?_; rintro e w2 ⟨rfl, hb2⟩; have hz2 := hb2.size; (try simp at hz2)
  have Hb2 := Lib.hid hb2
  clear hb2
  have I2 := Lib.hid ((Iw.made w1 (n + 1)).below Hb2.out)
  have B2 : Hid (Below w1.heap.size w1 w2) := Lib.hid (Hba.out.trans (Hb2.out.mono (by simp)))
  go_wp2
  go_loopw [17] (fun y wr => ∃ k : Nat, k ≤ 20 ∧ y = .int .i64 k ∧ Iw wr (some ⟨w1.heap.size, 0, none⟩) (n + 1) (histN f n (k * 20)) w1.heap.size ∧ Below w1.heap.size w1 wr) (fun y _ => 20 - (intOf y).toNat)
  case atStart => exact ⟨0, Nat.zero_le _, rfl, I2.out.congr (fun i _ => rfl), B2.out⟩
  case round =>
    obtain ⟨k, hk, rfl, hI, hbr⟩ := hrel
    have HI := Lib.hid hI
    have HB := Lib.hid hbr
    have hzr : w1.heap.size < wr.heap.size := hI.ltp (by omega)
    clear hI hbr
    by_cases hlt : k < 20
    · have hk20 : (k : Int) < 20 := by omega
      have i1 := ix_row (cellK f n) k hlt
      go_wp2_with (first | (refine wpList_alloc_row rfl 58 rfl (some 5) rfl (tbC 20 fun _ => 0) zero20 ?_) | (refine wpList_store_rowTo rfl 58 (.tmp 5) (.tmp 19) rfl rfl wr.heap.size (tbC 20 (fun i => cellK f n (k * 20 + i))) rfl rfl 58 (tbC 20 fun _ => 0) (Tb.new wr 20 58 _) (by rw [tbC_size]; exact info20) (by rw [tbC_size, tbC_size]) (tbC_one _ _) ?_) | (refine wpList_load_row rfl 58 (.tmp 5) rfl wr.heap.size rfl 58 (tbC 20 (fun i => cellK f n (k * 20 + i))) (0, 0) _ (Tb.new wr 20 58 (fun _ => 0)).row Try.underlying58 rfl (by rw [tbC_size]; exact info20) ?_))
      clear i1
      have hx : Below wr.heap.size wr ((wr.alloc (.cells (tbC 20 fun _ => 0) 58)).setRow wr.heap.size (tbC 20 (fun i => cellK f n (k * 20 + i)))) := below_setRow ((Below.refl _ _).alloc (Nat.le_refl _) _) (Nat.le_refl _) _
      have HX := Lib.hid hx
      clear hx
      obtain ⟨wo, ho⟩ : ∃ wo : World, wo = wr := ⟨_, rfl⟩
      go_loopw [21] (fun x wi => ∃ j : Nat, j ≤ 20 ∧ x = .int .i64 j ∧ Iw wi (some ⟨w1.heap.size, 0, none⟩) (n + 1) (histN f n (k * 20 + j)) w1.heap.size ∧ Below w1.heap.size w1 wi) (fun x _ => 20 - (intOf x).toNat)
      case atStart => exact ⟨0, Nat.zero_le _, rfl, HI.out.below HX.out, HB.out.trans (HX.out.mono (Nat.le_of_lt hzr))⟩
      case round =>
        obtain ⟨j, hj, rfl, hJ, hbi⟩ := hrel
        have HJ := Lib.hid hJ
        have HBI := Lib.hid hbi
        clear hJ hbi
        by_cases hlt2 : j < 20
        · have hj20 : (j : Int) < 20 := by omega
          have i2 := ix_int (fun i => cellK f n (k * 20 + i)) j hlt2
          obtain ⟨d, hd, hc⟩ := cell_nat f n (k * 20 + j)
          simp only [hc] at i2
          obtain ⟨c0, f0⟩ := HJ.out.c (show d < n + 1 by omega)
          obtain ⟨s1, s2⟩ := histN_bd f n (k * 20 + j) d
          have hs3 : histN f n (k * 20 + j) d ≤ 400 := by omega
          have e := histN_hit f n (k * 20 + j) d hc
          generalize hS : histN f n (k * 20 + j) d = S at c0 s1 s2 hs3 e
          have HC := Lib.hid (And.intro hc e)
          clear hc e hS s2
          have hdn : (d : Int) < n + 1 := by omega
          go_wp2
          go_roundw
          case rel =>
            refine ⟨j + 1, by omega, by go_num, ?_, bel_set HBI.out (Nat.le_refl _) _⟩
            have h := HJ.out.set (k := d) (f' := histN f n (k * 20 + (j + 1))) (by omega) (fun i _ hne => histN_step f n (k * 20 + j) d HC.out.1 i hne)
            rw [show histN f n (k * 20 + (j + 1)) d = S + 1 from HC.out.2] at h
            exact h
          case measure => simp [intOf]; omega
        · have hjn : j = 20 := by omega
          subst hjn
          go_wp2
          go_roundw
          case rel => exact ⟨k + 1, by omega, by go_num, by rw [show (k + 1) * 20 = k * 20 + 20 by omega]; exact HJ.out, HBI.out⟩
          case measure => simp [intOf]; omega
    · have hkn : k = 20 := by omega
      subst hkn
      go_wp2
      go_ret
      exact ⟨_, _, w1.heap.size, rfl, HI.out.congr (fun i _ => (hist_run f n i).symm), by omega, Hb1.out.trans (HB.out.mono (by omega))⟩
set_option maxHeartbeats 400000 in
theorem idepths_any (A : Option Addr) (n cap : Nat) (f : Nat → Rt) (w : World) (hn : n ≤ maxLen) (hr : Rs w A n f) :
    Calls Try.prog 17 #[.slice A n cap] w (IntsPost (cntF (laidF f n) (n + 1)) (fun d => histF f n d) w) := by
  cases hl : laidF f n
  · have Hn := Lib.hid hn
    have Hr := Lib.hid hr
    clear hn hr
    go_enter Try.func17, Try.ntmps17
    go_wp2_with fail
    refine (ilaid_val A n cap f false hl _ Hn.out Hr.out).mono ?_; rintro e w1 ⟨rfl, hb1⟩; have hz1 := hb1.size; (try simp at hz1)
    go_wp2
    go_ret
    exact ⟨_, 0, w.heap.size, rfl, Or.inl rfl, Nat.le_refl _, by (repeat (first | with_reducible exact Below.refl _ _ | with_reducible assumption | ((with_reducible refine Below.alloc ?_ ?_ _); rotate_left; focus (first | with_reducible exact Nat.le_refl _ | omega | (simp; done) | (simp; omega))) | ((with_reducible refine Below.setCell ?_ ?_ _); rotate_left; focus (first | with_reducible exact Nat.le_refl _ | omega | (simp; done) | (simp; omega))) | (with_reducible refine Below.drew ?_) | ((with_reducible refine Below.trans ?_ (Below.mono (by with_reducible assumption) ?_)); rotate_left; focus (first | with_reducible exact Nat.le_refl _ | omega | (simp; done) | (simp; omega)))))⟩
  · exact idepths_yes A n cap f w hn hr hl
theorem idepths_val (A : Option Addr) (n cap : Nat) (f : Nat → Rt) (M : Nat) (h : cntF (laidF f n) (n + 1) = M) (w : World) (hn : n ≤ maxLen) (hr : Rs w A n f) :
    Calls Try.prog 17 #[.slice A n cap] w (IntsPost M (fun d => histF f n d) w) := h ▸ idepths_any A n cap f w hn hr
end Go.Proofs.Ytiblgdklobnmgaa
