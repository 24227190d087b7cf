
/- Slices of rectangles; LaidOk of impl and of spec. -/
import Derived.Test.YthbmiibbnbbdgaaRectB
import Derived.LoopTactic
namespace Go.Proofs.Ythbmiibbnbbdgaa
open Go.RowKit Go.Sort
set_option linter.unusedVariables false

/-- A rectangle's four cells. -/
def C4 (w : World) (b o : Nat) (r : Rt) : Prop :=
  w.cell? ⟨b, o, none⟩ = some (.int .i64 r.l) ∧ w.cell? ⟨b, o + 1, none⟩ = some (.int .i64 r.o) ∧ w.cell? ⟨b, o + 2, none⟩ = some (.int .i64 r.r) ∧ w.cell? ⟨b, o + 3, none⟩ = some (.int .i64 r.h)
/-- A slice of n rectangles, f 0 .. f (n - 1). -/
def Rs (w : World) (A : Option Addr) (n : Nat) (f : Nat → Rt) : Prop :=
  n = 0 ∨ ∃ b off, A = some ⟨b, off, none⟩ ∧ b < w.heap.size ∧ ∀ i, i < n → C4 w b (off + i * 4) (f i)
theorem C4.below {w w' : World} {b o : Nat} {r : Rt} (h : C4 w b o r) (hb : Below w.heap.size w w') (hl : b < w.heap.size) : C4 w' b o r := by
  obtain ⟨h0, h1, h2, h3⟩ := h
  exact ⟨(hb.cell (p := ⟨b, _, none⟩) hl).trans h0, (hb.cell (p := ⟨b, _, none⟩) hl).trans h1, (hb.cell (p := ⟨b, _, none⟩) hl).trans h2, (hb.cell (p := ⟨b, _, none⟩) hl).trans h3⟩
theorem Rs.below {w w' : World} {A : Option Addr} {n : Nat} {f : Nat → Rt} (h : Rs w A n f) (hb : Below w.heap.size w w') : Rs w' A n f := by
  rcases h with h | ⟨b, off, ha, hl, hc⟩
  · exact Or.inl h
  · exact Or.inr ⟨b, off, ha, Nat.lt_of_lt_of_le hl hb.size, fun i hi => (hc i hi).below hb hl⟩
theorem Rs.less {w : World} {A : Option Addr} {n m : Nat} {f : Nat → Rt} (h : Rs w A n f) (hm : m ≤ n) : Rs w A m f := by
  rcases h with h | ⟨b, off, ha, hl, hc⟩
  · exact Or.inl (by omega)
  · exact Or.inr ⟨b, off, ha, hl, fun i hi => hc i (by omega)⟩
theorem Rs.at_ {w : World} {A : Option Addr} {n k : Nat} {f : Nat → Rt} (h : Rs w A n f) (hk : k < n) : ∃ b off, A = some ⟨b, off, none⟩ ∧ b < w.heap.size ∧ C4 w b (off + k * 4) (f k) := by
  rcases h with h | ⟨b, off, ha, hl, hc⟩
  · omega
  · exact ⟨b, off, ha, hl, hc k hk⟩
def okTo (f : Nat → Rt) : Nat → Bool
  | 0 => true
  | k + 1 => okTo f k && okB (f k)
theorem okTo_le {f : Nat → Rt} {n k : Nat} (h : okTo f n = true) (hk : k < n) : okB (f k) = true := by
  induction n with
  | zero => omega
  | succ n ih =>
    simp only [okTo, Bool.and_eq_true] at h
    by_cases e : k = n
    · subst e; exact h.2
    · exact ih h.1 (by omega)
theorem okTo_no {f : Nat → Rt} {n k : Nat} (hk : k < n) (h : okB (f k) = false) : okTo f n = false := by
  rw [Bool.eq_false_iff]; intro hh; rw [okTo_le hh hk] at h; cases h
theorem okTo_all (f : Nat → Rt) (n : Nat) : (upTo f n).all okB = okTo f n := by
  induction n with
  | zero => rfl
  | succ n ih => simp [upTo, okTo, ih]
def laidF (f : Nat → Rt) (n : Nat) : Bool := decide (n ≤ 7) && okTo f n
theorem laidF_up (f : Nat → Rt) (n : Nat) : laidF f n = laidB (upTo f n) := by
  unfold laidF laidB; rw [upTo_len, okTo_all]

theorem iok_val (a : Rt) (v : Bool) (h : okB a = v) (w : World) :
    Calls Try.prog 37 #[rv a] w fun e w' => e = .returned (.bool v) ∧ Below w.heap.size w w' := h ▸ iok_any a w
theorem sok_val (a : Rt) (v : Bool) (h : okB a = v) (w : World) :
    Calls Try.prog 13 #[rv a] w fun e w' => e = .returned (.bool v) ∧ Below w.heap.size w w' := h ▸ sok_any a w

set_option maxHeartbeats 400000 in
theorem ilaid_any (A : Option Addr) (n cap : Nat) (f : Nat → Rt) (w : World) (hn : n ≤ maxLen) (hr : Rs w A n f) :
    Calls Try.prog 20 #[.slice A n cap] w fun e w' => e = .returned (.bool (laidF f n)) ∧ Below w.heap.size w w' := by
  unfold maxLen at hn
  have Hr := Lib.hid hr
  clear hr
  by_cases h7 : 7 < n
  · go_enter Try.func20, Try.ntmps20
    go_wp2
    go_ret
    exact ⟨ret_bool (by unfold laidF; simp; omega), Below.refl _ _⟩
  · go_enter Try.func20, Try.ntmps20
    go_wp2
    go_loopw [10] (fun i wr => ∃ k : Nat, k ≤ n ∧ i = .int .i64 k ∧ okTo f k = true ∧ Below w.heap.size w wr) (fun i _ => n - (intOf i).toNat)
    case atStart => exact ⟨0, Nat.zero_le _, rfl, rfl, Below.refl _ _⟩
    case round =>
      obtain ⟨k, hk, rfl, hok, hbr⟩ := hrel
      have hzr := hbr.size
      have Hk := Lib.hid hok
      clear hok
      by_cases hlt : k < n
      · obtain ⟨b, off, rfl, hl, c0, c1, c2, c3⟩ := (Hr.out.below hbr).at_ hlt
        cases ho : okB (f k)
        · go_wp2_with fail
          refine (iok_val (f k) false ho _).mono ?_; rintro e w1 ⟨rfl, hb1⟩; have hz1 := hb1.size; (try simp at hz1)
          go_wp2
          go_ret
          exact ⟨ret_bool (by unfold laidF; rw [okTo_no hlt ho, Bool.and_false]), by (repeat (first | with_reducible exact Below.refl _ _ | with_reducible assumption | ((with_reducible refine Below.alloc ?_ ?_ _); rotate_left; focus (first | with_reducible exact Nat.le_refl _ | omega | (simp; done) | (simp; omega))) | ((with_reducible refine Below.setCell ?_ ?_ _); rotate_left; focus (first | with_reducible exact Nat.le_refl _ | omega | (simp; done) | (simp; omega))) | (with_reducible refine Below.drew ?_) | ((with_reducible refine Below.trans ?_ (Below.mono (by with_reducible assumption) ?_)); rotate_left; focus (first | with_reducible exact Nat.le_refl _ | omega | (simp; done) | (simp; omega)))))⟩
        · go_wp2_with fail
          refine (iok_val (f k) true ho _).mono ?_; rintro e w1 ⟨rfl, hb1⟩; have hz1 := hb1.size; (try simp at hz1)
          go_wp2
          go_roundw
          case rel => exact ⟨k + 1, by omega, by go_num, by simp only [okTo]; rw [Hk.out, ho]; rfl, by (repeat (first | with_reducible exact Below.refl _ _ | with_reducible assumption | ((with_reducible refine Below.alloc ?_ ?_ _); rotate_left; focus (first | with_reducible exact Nat.le_refl _ | omega | (simp; done) | (simp; omega))) | ((with_reducible refine Below.setCell ?_ ?_ _); rotate_left; focus (first | with_reducible exact Nat.le_refl _ | omega | (simp; done) | (simp; omega))) | (with_reducible refine Below.drew ?_) | ((with_reducible refine Below.trans ?_ (Below.mono (by with_reducible assumption) ?_)); rotate_left; focus (first | with_reducible exact Nat.le_refl _ | omega | (simp; done) | (simp; omega)))))⟩
          case measure => simp [intOf]; omega
      · have hkn : k = n := by omega
        subst hkn
        go_wp2
        go_ret
        exact ⟨ret_bool (by unfold laidF; rw [Hk.out]; simp; omega), hbr⟩
end Go.Proofs.Ythbmiibbnbbdgaa
