
/- Chapter 3 of impl: DepthAt, DepthsOf. -/
import Derived.Test.YthbmiibbnbbdgaaDep
import Derived.Test.YthbmiibbnbbdgaaSum
namespace Go.Proofs.Ythbmiibbnbbdgaa
open Go.RowKit Go.Sort
set_option linter.unusedVariables false
theorem ix_row (T : Nat → Int) (k : Nat) (hk : k < 20) (w : World) : (Instr.index 57 (.agg (tbC 400 T)) (.int .i64 (k : Nat))).run Try.prog w = .ok (.agg (tbC 20 (fun i => T (k * 20 + i)))) w :=
  run_index_row 57 55 _ 20 20 400 T k Try.underlying57 Try.underlying55 rfl info20 hk (by omega) w
theorem ix_int (T : Nat → Int) (k : Nat) (hk : k < 20) (w : World) : (Instr.index 55 (.agg (tbC 20 T)) (.int .i64 (k : Nat))).run Try.prog w = .ok (.int .i64 (T k)) w :=
  run_index_int 55 3 _ 20 20 T k Try.underlying55 Try.underlying3 rfl (by kernel_rfl) hk (by omega) w

theorem place_val (x : Int) (v : Bool) (h : inB x 0 19 = v) (w : World) :
    Calls Try.prog 38 #[.int .i64 x] w fun e w' => e = .returned (.bool v) ∧ w = w' := by
  subst h
  by_cases h1 : 0 ≤ x
  · by_cases h2 : x < 20
    · go_enter Try.func38, Try.ntmps38
      go_wp2
      go_ret
      exact ⟨ret_bool (inB_iff.2 (by omega)).symm, rfl⟩
    · go_enter Try.func38, Try.ntmps38
      go_wp2
      go_ret
      exact ⟨ret_bool (by rw [eq_comm, Bool.eq_false_iff]; intro h; have := inB_iff.1 h; omega), rfl⟩
  · go_enter Try.func38, Try.ntmps38
    go_wp2
    go_ret
    exact ⟨ret_bool (by rw [eq_comm, Bool.eq_false_iff]; intro h; have := inB_iff.1 h; omega), rfl⟩

/-- The depth of a cell, -1 for others. -/
def daF (f : Nat → Rt) (n : Nat) (x y : Int) : Int := if laidF f n && (inB x 0 19 && inB y 0 19) then depF f x y n else -1
set_option maxHeartbeats 400000 in
theorem ida_any (A : Option Addr) (n cap : Nat) (f : Nat → Rt) (x y : Int) (w : World) (hn : n ≤ maxLen) (hr : Rs w A n f) :
    Calls Try.prog 15 #[.slice A n cap, .int .i64 x, .int .i64 y] w fun e w' => e = .returned (.int .i64 (daF f n x y)) ∧ Below w.heap.size w w' := by
  have Hn := Lib.hid hn
  have Hr := Lib.hid hr
  clear hn hr
  cases hl : laidF f n
  · have H : Hid (daF f n x y = -1) := Lib.hid (by unfold daF; rw [hl]; rfl)
    go_enter Try.func15, Try.ntmps15
    go_wp2_with fail
    refine (ilaid_val A n cap f false hl _ Hn.out Hr.out).mono ?_; rintro e w1 ⟨rfl, hb1⟩; have hz1 := hb1.size; (try simp at hz1)
    go_wp2
    go_ret
    exact ⟨ret_int (by rw [H.out]), by (repeat (first | with_reducible exact Below.refl _ _ | with_reducible assumption | ((with_reducible refine Below.alloc ?_ ?_ _); rotate_left; focus (first | with_reducible exact Nat.le_refl _ | omega | (simp; done) | (simp; omega))) | ((with_reducible refine Below.setCell ?_ ?_ _); rotate_left; focus (first | with_reducible exact Nat.le_refl _ | omega | (simp; done) | (simp; omega))) | (with_reducible refine Below.drew ?_) | ((with_reducible refine Below.trans ?_ (Below.mono (by with_reducible assumption) ?_)); rotate_left; focus (first | with_reducible exact Nat.le_refl _ | omega | (simp; done) | (simp; omega)))))⟩
  · cases hx : inB x 0 19
    · have H : Hid (daF f n x y = -1) := Lib.hid (by unfold daF; rw [hl, hx]; rfl)
      go_enter Try.func15, Try.ntmps15
      go_wp2_with fail
      refine (ilaid_val A n cap f true hl _ Hn.out Hr.out).mono ?_; rintro e w1 ⟨rfl, hb1⟩; have hz1 := hb1.size; (try simp at hz1)
      go_wp2_with fail
      refine (place_val x false hx _).mono ?_; rintro e w' ⟨rfl, rfl⟩
      go_wp2
      go_ret
      exact ⟨ret_int (by rw [H.out]), by (repeat (first | with_reducible exact Below.refl _ _ | with_reducible assumption | ((with_reducible refine Below.alloc ?_ ?_ _); rotate_left; focus (first | with_reducible exact Nat.le_refl _ | omega | (simp; done) | (simp; omega))) | ((with_reducible refine Below.setCell ?_ ?_ _); rotate_left; focus (first | with_reducible exact Nat.le_refl _ | omega | (simp; done) | (simp; omega))) | (with_reducible refine Below.drew ?_) | ((with_reducible refine Below.trans ?_ (Below.mono (by with_reducible assumption) ?_)); rotate_left; focus (first | with_reducible exact Nat.le_refl _ | omega | (simp; done) | (simp; omega)))))⟩
    · cases hy : inB y 0 19
      · have H : Hid (daF f n x y = -1) := Lib.hid (by unfold daF; rw [hl, hx, hy]; rfl)
        go_enter Try.func15, Try.ntmps15
        go_wp2_with fail
        refine (ilaid_val A n cap f true hl _ Hn.out Hr.out).mono ?_; rintro e w1 ⟨rfl, hb1⟩; have hz1 := hb1.size; (try simp at hz1)
        go_wp2_with fail
        refine (place_val x true hx _).mono ?_; rintro e w' ⟨rfl, rfl⟩
        go_wp2_with fail
        refine (place_val y false hy _).mono ?_; rintro e w' ⟨rfl, rfl⟩
        go_wp2
        go_ret
        exact ⟨ret_int (by rw [H.out]), by (repeat (first | with_reducible exact Below.refl _ _ | with_reducible assumption | ((with_reducible refine Below.alloc ?_ ?_ _); rotate_left; focus (first | with_reducible exact Nat.le_refl _ | omega | (simp; done) | (simp; omega))) | ((with_reducible refine Below.setCell ?_ ?_ _); rotate_left; focus (first | with_reducible exact Nat.le_refl _ | omega | (simp; done) | (simp; omega))) | (with_reducible refine Below.drew ?_) | ((with_reducible refine Below.trans ?_ (Below.mono (by with_reducible assumption) ?_)); rotate_left; focus (first | with_reducible exact Nat.le_refl _ | omega | (simp; done) | (simp; omega)))))⟩
      · have bx := inB_iff.1 hx
        have b_y := inB_iff.1 hy
        obtain ⟨X, rfl⟩ : ∃ X : Nat, x = X := ⟨x.toNat, by omega⟩
        obtain ⟨Y, rfl⟩ : ∃ Y : Nat, y = Y := ⟨y.toNat, by omega⟩
        have H : Hid (daF f n X Y = cellK f n (Y * 20 + X)) := Lib.hid (by unfold daF; rw [hl, hx, hy, show Y * 20 + X = 20 * Y + X by omega, cellK_at f n X Y (by omega)]; rfl)
        have i1 := ix_row (cellK f n) Y (by omega)
        have i2 := ix_int (fun i => cellK f n (Y * 20 + i)) X (by omega)
        go_enter Try.func15, Try.ntmps15
        go_wp2_with fail
        refine (ilaid_val A n cap f true hl _ Hn.out Hr.out).mono ?_; rintro e w1 ⟨rfl, hb1⟩; have hz1 := hb1.size; (try simp at hz1)
        go_wp2_with fail
        refine (place_val X true hx _).mono ?_; rintro e w' ⟨rfl, rfl⟩
        go_wp2_with fail
        refine (place_val Y true hy _).mono ?_; rintro e w' ⟨rfl, rfl⟩
        have Hr1 := Lib.hid (Hr.out.below hb1)
        go_wp2_with fail
        refine (depthsby_any A n cap f _ hl Hr1.out).mono ?_; rintro e w2 ⟨rfl, hb2⟩; have hz2 := hb2.size; (try simp at hz2)
        go_wp2
        go_ret
        exact ⟨ret_int (by rw [H.out]), by (repeat (first | with_reducible exact Below.refl _ _ | with_reducible assumption | ((with_reducible refine Below.alloc ?_ ?_ _); rotate_left; focus (first | with_reducible exact Nat.le_refl _ | omega | (simp; done) | (simp; omega))) | ((with_reducible refine Below.setCell ?_ ?_ _); rotate_left; focus (first | with_reducible exact Nat.le_refl _ | omega | (simp; done) | (simp; omega))) | (with_reducible refine Below.drew ?_) | ((with_reducible refine Below.trans ?_ (Below.mono (by with_reducible assumption) ?_)); rotate_left; focus (first | with_reducible exact Nat.le_refl _ | omega | (simp; done) | (simp; omega)))))⟩
theorem ida_val (A : Option Addr) (n cap : Nat) (f : Nat → Rt) (x y v : Int) (h : daF f n x y = v) (w : World) (hn : n ≤ maxLen) (hr : Rs w A n f) :
    Calls Try.prog 15 #[.slice A n cap, .int .i64 x, .int .i64 y] w fun e w' => e = .returned (.int .i64 v) ∧ Below w.heap.size w w' := h ▸ ida_any A n cap f x y w hn hr

theorem make_ints1 (n : Nat) (hc : n ≤ 1999999) (w : World) :
    (Instr.makeSlice 66 (.int .i64 ((n : Int) + 1)) (.int .i64 ((n : Int) + 1))).run Try.prog w = .ok (.slice (some ⟨w.heap.size, 0, none⟩) (n + 1) (n + 1)) (w.alloc (.cells (madeCells #[.int .i64 0] (n + 1)) 3)) := by
  have := make_ints (n + 1) (n + 1) (Nat.le_refl _) (by omega) w
  rw [show ((n + 1 : Nat) : Int) = (n : Int) + 1 by omega] at this
  exact this
def histN (f : Nat → Rt) (n k d : Nat) : Int := histTo f n k d
theorem histN_step (f : Nat → Rt) (n k d : Nat) (hd : cellK f n k = d) (i : Nat) (hne : i ≠ d) : histN f n k i = histN f n (k + 1) i := by
  unfold histN
  rw [histTo_succ, show decide (cellK f n k = (i : Int)) = false by rw [hd]; simp; omega]; simp [one]
theorem histN_hit (f : Nat → Rt) (n k d : Nat) (hd : cellK f n k = d) : histN f n (k + 1) d = histN f n k d + 1 := by
  unfold histN
  rw [histTo_succ, show decide (cellK f n k = (d : Int)) = true by rw [hd]; simp]; rfl
theorem Iw.ltp {w : World} {A : Option Addr} {n g : Nat} {f : Nat → Int} (h : Iw w A n f g) (h0 : 0 < n) : g < w.heap.size := by
  rcases h with h | ⟨_, h, _⟩
  · omega
  · exact h
theorem Iw.c {w : World} {A : Option Addr} {n g k : Nat} {f : Nat → Int} (h : Iw w A n f g) (hk : k < n) : w.cell? ⟨g, k, none⟩ = some (.int .i64 (f k)) ∧ w.frozen? ⟨g, k, none⟩ = false := by
  rcases h with h | ⟨_, _, h1, h2⟩
  · omega
  · exact ⟨h1 k hk, h2 k hk⟩
theorem histN_bd (f : Nat → Rt) (n k d : Nat) : 0 ≤ histN f n k d ∧ histN f n k d ≤ k := histTo_bd f n k d
theorem cell_nat (f : Nat → Rt) (n k : Nat) : ∃ d : Nat, d ≤ n ∧ cellK f n k = d := ⟨(cellK f n k).toNat, by have := cellK_bd f n k; omega, by have := cellK_bd f n k; omega⟩
end Go.Proofs.Ythbmiibbnbbdgaa
