/- Chapter 3 of impl: the table of changes and the table of depths. Chapter 3 of impl: DepthAt, DepthsOf. -/
import Derived.Test.YtfdkkkdijgmbbaaTab
import Derived.Test.YtfdkkkdijgmbbaaMathTD
import Derived.StillTailTactics
import Derived.Test.YtfdkkkdijgmbbaaSum
namespace Go.Proofs.Ytfdkkkdijgmbbaa
open Go.RowKit Go.Sort
set_option linter.unusedVariables false
/-- The depths of the first k rows. -/
def depT (T : Nat → Int) (k : Nat) : Nat → Int := fun j => if j < k * 20 then boxT T (j / 20 + 1) (j % 20) else 0
def rowsT (T : Nat → Int) (k j : Nat) : Nat → Int := fun x => if x < j then boxT T (k + 1) x else boxT T k x
theorem depT_cell (f : Nat → Rt) (n : Nat) (h : okTo f n = true) : tbC 400 (depT (chT f n) 20) = tbC 400 (cellK f n) := tbC_congr fun k hk => by
  unfold depT cellK
  rw [if_pos (by omega), box_dep f n h (k / 20) (k % 20) (by omega) (by omega) n (Nat.le_refl _)]
end Go.Proofs.Ytfdkkkdijgmbbaa
namespace Go.Proofs.Ytfdkkkdijgmbbaa
open Go.RowKit Go.Sort
set_option linter.unusedVariables false
theorem place_val (x : Int) (v : Bool) (h : inB x 0 19 = v) (w : World) :
    Calls Try.prog 45 #[.int .i64 x] w fun e w' => e = .returned (.bool v) ∧ w = w' := by
  subst h
  by_cases h1 : 0 ≤ x
  · by_cases h2 : x < 20
    · go_enter Try.func45, Try.ntmps45
      go_wp2
      go_ret
      exact ⟨ret_bool (inB_iff.2 (by omega)).symm, rfl⟩
    · go_enter Try.func45, Try.ntmps45
      go_wp2
      go_ret
      exact ⟨ret_bool (by rw [eq_comm, Bool.eq_false_iff]; intro h; have := inB_iff.1 h; omega), rfl⟩
  · go_enter Try.func45, Try.ntmps45
    go_wp2
    go_ret
    exact ⟨ret_bool (by rw [eq_comm, Bool.eq_false_iff]; intro h; have := inB_iff.1 h; omega), rfl⟩

/-- The depth of a cell, -1 for others. -/
def daF (f : Nat → Rt) (n : Nat) (x y : Int) : Int := if laidF f n && (inB x 0 19 && inB y 0 19) then depF f x y n else -1
def histN (f : Nat → Rt) (n k d : Nat) : Int := histTo f n k d
theorem histN_step (f : Nat → Rt) (n k d : Nat) (hd : cellK f n k = d) (i : Nat) (hne : i ≠ d) : histN f n k i = histN f n (k + 1) i := by
  unfold histN
  rw [histTo_succ, show decide (cellK f n k = (i : Int)) = false by rw [hd]; simp; omega]; simp [one]
theorem histN_hit (f : Nat → Rt) (n k d : Nat) (hd : cellK f n k = d) : histN f n (k + 1) d = histN f n k d + 1 := by
  unfold histN
  rw [histTo_succ, show decide (cellK f n k = (d : Int)) = true by rw [hd]; simp]; rfl
theorem Iw.ltp {w : World} {A : Option Addr} {n g : Nat} {f : Nat → Int} (h : Iw w A n f g) (h0 : 0 < n) : g < w.heap.size := by
  rcases h with h | ⟨_, h, _⟩
  · omega
  · exact h
theorem Iw.c {w : World} {A : Option Addr} {n g k : Nat} {f : Nat → Int} (h : Iw w A n f g) (hk : k < n) : w.cell? ⟨g, k, none⟩ = some (.int .i64 (f k)) ∧ w.frozen? ⟨g, k, none⟩ = false := by
  rcases h with h | ⟨_, _, h1, h2⟩
  · omega
  · exact ⟨h1 k hk, h2 k hk⟩
theorem histN_bd (f : Nat → Rt) (n k d : Nat) : 0 ≤ histN f n k d ∧ histN f n k d ≤ k := histTo_bd f n k d
theorem cell_nat (f : Nat → Rt) (n k : Nat) : ∃ d : Nat, d ≤ n ∧ cellK f n k = d := ⟨(cellK f n k).toNat, by have := cellK_bd f n k; omega, by have := cellK_bd f n k; omega⟩
end Go.Proofs.Ytfdkkkdijgmbbaa
