
/- Chapter 2: LaidOk of spec, AllCommon of both. -/
import Derived.Test.YtbdpngjakccjjaaDoorBits
import Derived.StillTailTactics
namespace Go.Proofs.YtbdpngjakccjjaaDoor
open Go.RowKit Go.Sort
set_option linter.unusedVariables false
theorem laidF_ok {f : Nat → Rt} {n : Nat} (h : laidF f n = true) : n ≤ 7 ∧ okTo f n = true := by
  unfold laidF at h; simpa using h
theorem subset_last (f : Nat → Rt) (s k : Nat) : foldC (subTo f s (k + 1)) = if s.testBit k then commonR (foldC (subTo f s k)) (f k) else foldC (subTo f s k) := by
  simp only [subTo]
  by_cases h : s.testBit k = true
  · rw [if_pos h, if_pos h, foldC_snoc]
  · rw [if_neg h, if_neg h, List.append_nil]
/-- A rectangle in a block of the call's own. -/
def Bx (w : World) (b : Nat) (r : Rt) : Prop := b < w.heap.size ∧ C4 w b 0 r ∧ ∀ o, w.frozen? ⟨b, o, none⟩ = false
theorem Bx.below {w w' : World} {b : Nat} {r : Rt} (h : Bx w b r) (hb : Below w.heap.size w w') : Bx w' b r :=
  ⟨Nat.lt_of_lt_of_le h.1 hb.size, h.2.1.below hb h.1, fun o => (hb.frozen (p := ⟨b, o, none⟩) h.1).trans (h.2.2 o)⟩
theorem Bx.set {w : World} {b : Nat} {r r' : Rt} (h : Bx w b r) : Bx (set4 w b 0 r') b r' :=
  ⟨by rw [set4_size]; exact h.1, set4_same h.2.1, fun o => by rw [set4_frozen]; exact h.2.2 o⟩
theorem Bx.far {w : World} {b b' o : Nat} {r r' : Rt} (h : Bx w b r) (hn : b ≠ b') : Bx (set4 w b' o r') b r := by
  refine ⟨by rw [set4_size]; exact h.1, ?_, fun o => by rw [set4_frozen]; exact h.2.2 o⟩
  obtain ⟨_, ⟨h0, h1, h2, h3⟩, _⟩ := h
  have key : ∀ q v, w.cell? ⟨b, q, none⟩ = v → (set4 w b' o r').cell? ⟨b, q, none⟩ = v := by
    intro q v hv
    unfold set4
    rw [World.cell?_setCell_other _ ⟨b', o + 3, none⟩ ⟨b, q, none⟩ _ (fun e => by injection e with e; exact hn e.symm), World.cell?_setCell_other _ ⟨b', o + 2, none⟩ ⟨b, q, none⟩ _ (fun e => by injection e with e; exact hn e.symm), World.cell?_setCell_other _ ⟨b', o + 1, none⟩ ⟨b, q, none⟩ _ (fun e => by injection e with e; exact hn e.symm), World.cell?_setCell_other _ ⟨b', o, none⟩ ⟨b, q, none⟩ _ (fun e => by injection e with e; exact hn e.symm)]
    exact hv
  exact ⟨key _ _ h0, key _ _ h1, key _ _ h2, key _ _ h3⟩
theorem Bx.alloc (w : World) (t : TypeId) (r : Rt) : Bx (w.alloc (.cells #[.int .i64 r.l, .int .i64 r.o, .int .i64 r.r, .int .i64 r.h] t)) w.heap.size r := by
  refine ⟨by simp, ⟨?_, ?_, ?_, ?_⟩, fun o => ?_⟩
  · go_simp
  · go_simp
  · go_simp
  · go_simp
  · go_simp

set_option maxHeartbeats 400000 in
theorem slaid_any (A : Option Addr) (n cap : Nat) (f : Nat → Rt) (w : World) (hn : n ≤ maxLen) (hr : Rs w A n f) :
    Calls Tryd.prog 27 #[.slice A n cap] w fun e w' => e = .returned (.bool (laidF f n)) ∧ Below w.heap.size w w' := by
  unfold maxLen at hn
  have Hr := Lib.hid hr
  clear hr
  go_enter Tryd.func27, Tryd.ntmps27
  go_wp2
  go_loopw [3] (fun i wr => ∃ k : Nat, k ≤ n ∧ i = .int .i64 k ∧ okTo f k = true ∧ Below w.heap.size w wr) (fun i _ => n - (intOf i).toNat)
  case atStart => exact ⟨0, Nat.zero_le _, rfl, rfl, Below.refl _ _⟩
  case round =>
    obtain ⟨k, hk, rfl, hok, hbr⟩ := hrel
    have hzr := hbr.size
    have Hk := Lib.hid hok
    clear hok
    by_cases hlt : k < n
    · obtain ⟨b, off, rfl, hl, c0, c1, c2, c3⟩ := (Hr.out.below hbr).at_ hlt
      cases ho : okB (f k)
      · go_wp2_with fail
        refine (sok_val (f k) false ho _).mono ?_; rintro e w1 ⟨rfl, hb1⟩; have hz1 := hb1.size; (try simp at hz1)
        go_wp2
        go_ret
        exact ⟨ret_bool (by unfold laidF; rw [okTo_no hlt ho, Bool.and_false]), by (repeat (first | with_reducible exact Below.refl _ _ | with_reducible assumption | ((with_reducible refine Below.alloc ?_ ?_ _); rotate_left; focus (first | with_reducible exact Nat.le_refl _ | omega | (simp; done) | (simp; omega))) | ((with_reducible refine Below.setCell ?_ ?_ _); rotate_left; focus (first | with_reducible exact Nat.le_refl _ | omega | (simp; done) | (simp; omega))) | (with_reducible refine Below.drew ?_) | ((with_reducible refine Below.trans ?_ (Below.mono (by with_reducible assumption) ?_)); rotate_left; focus (first | with_reducible exact Nat.le_refl _ | omega | (simp; done) | (simp; omega)))))⟩
      · go_wp2_with fail
        refine (sok_val (f k) true ho _).mono ?_; rintro e w1 ⟨rfl, hb1⟩; have hz1 := hb1.size; (try simp at hz1)
        go_wp2
        go_roundw
        case rel => exact ⟨k + 1, by omega, by go_num, by simp only [okTo]; rw [Hk.out, ho]; rfl, by (repeat (first | with_reducible exact Below.refl _ _ | with_reducible assumption | ((with_reducible refine Below.alloc ?_ ?_ _); rotate_left; focus (first | with_reducible exact Nat.le_refl _ | omega | (simp; done) | (simp; omega))) | ((with_reducible refine Below.setCell ?_ ?_ _); rotate_left; focus (first | with_reducible exact Nat.le_refl _ | omega | (simp; done) | (simp; omega))) | (with_reducible refine Below.drew ?_) | ((with_reducible refine Below.trans ?_ (Below.mono (by with_reducible assumption) ?_)); rotate_left; focus (first | with_reducible exact Nat.le_refl _ | omega | (simp; done) | (simp; omega)))))⟩
        case measure => simp [intOf]; omega
    · have hkn : k = n := by omega
      subst hkn
      go_wp2
      go_ret
      exact ⟨ret_bool (by unfold laidF; rw [Hk.out]; simp; omega), hbr⟩
theorem ilaid_val (A : Option Addr) (n cap : Nat) (f : Nat → Rt) (v : Bool) (h : laidF f n = v) (w : World) (hn : n ≤ maxLen) (hr : Rs w A n f) :
    Calls Tryd.prog 17 #[.slice A n cap] w fun e w' => e = .returned (.bool v) ∧ Below w.heap.size w w' := h ▸ ilaid_any A n cap f w hn hr
theorem slaid_val (A : Option Addr) (n cap : Nat) (f : Nat → Rt) (v : Bool) (h : laidF f n = v) (w : World) (hn : n ≤ maxLen) (hr : Rs w A n f) :
    Calls Tryd.prog 27 #[.slice A n cap] w fun e w' => e = .returned (.bool v) ∧ Below w.heap.size w w' := h ▸ slaid_any A n cap f w hn hr
theorem sub_all (f : Nat → Rt) (n : Nat) : subTo f (2 ^ n - 1) n = upTo f n := by
  have H : ∀ k, k ≤ n → subTo f (2 ^ n - 1) k = upTo f k := by
    intro k
    induction k with
    | zero => intro _; rfl
    | succ k ih => intro h; simp only [subTo, upTo]; rw [ih (by omega), Nat.testBit_two_pow_sub_one]; simp; omega
  exact H n (Nat.le_refl _)
def acF (f : Nat → Rt) (n : Nat) : Bool := laidF f n && (!decide (n = 0) && okB (foldC (upTo f n)))
def acRF (f : Nat → Rt) (n : Nat) : Rt := if acF f n then foldC (upTo f n) else Rt.zero
theorem pow_lt (n : Nat) (h : n ≤ 7) : 2 ^ n - 1 < 128 := by
  have := Nat.pow_le_pow_right (n := 2) (by omega) h
  omega

theorem name_list {P : Program} {ops : Array Oper} {rest : List Oper} {Q : Exit → Act → World → Prop} {a : Act} {w : World} (h : ∀ w0, w = w0 → wpList P ops Q rest a w0) : wpList P ops Q rest a w := h w rfl
theorem up_one (f : Nat → Rt) (h : okB (f 0) = true) : foldC (upTo f 1) = f 0 := by
  show commonR full (f 0) = f 0
  exact common_full _ h
theorem up_succ (f : Nat → Rt) (k : Nat) : foldC (upTo f (k + 1)) = commonR (foldC (upTo f k)) (f k) := by simp only [upTo]; rw [foldC_snoc]
end Go.Proofs.YtbdpngjakccjjaaDoor
