/- Chapter 2: LaidOk of spec, AllCommon of both. Chapter 2: UnionArea of impl: rows of bits. Chapter 2: UnionArea of spec; the exact law's walk. -/
import Derived.Test.YtkfeeijiockdhaaMe
import Derived.StillTailTactics
import Derived.Great.BuildSlice
import Derived.Test.YtkfeeijiockdhaaRc
namespace Go.Proofs.Ytkfeeijiockdhaa
open Go.RowKit Go.Sort
set_option linter.unusedVariables false
theorem laidF_ok {f : Nat → Rt} {n : Nat} (h : laidF f n = true) : n ≤ 7 ∧ okTo f n = true := by
  unfold laidF at h; simpa using h
theorem subset_last (f : Nat → Rt) (s k : Nat) : foldC (subTo f s (k + 1)) = if s.testBit k then commonR (foldC (subTo f s k)) (f k) else foldC (subTo f s k) := by
  simp only [subTo]
  by_cases h : s.testBit k = true
  · rw [if_pos h, if_pos h, foldC_snoc]
  · rw [if_neg h, if_neg h, List.append_nil]
/-- A rectangle in a block of the call's own. -/
def Bx (w : World) (b : Nat) (r : Rt) : Prop := b < w.heap.size ∧ C4 w b 0 r ∧ ∀ o, w.frozen? ⟨b, o, none⟩ = false
theorem Bx.below {w w' : World} {b : Nat} {r : Rt} (h : Bx w b r) (hb : Below w.heap.size w w') : Bx w' b r :=
  ⟨Nat.lt_of_lt_of_le h.1 hb.size, h.2.1.below hb h.1, fun o => (hb.frozen (p := ⟨b, o, none⟩) h.1).trans (h.2.2 o)⟩
theorem Bx.set {w : World} {b : Nat} {r r' : Rt} (h : Bx w b r) : Bx (set4 w b 0 r') b r' :=
  ⟨by rw [set4_size]; exact h.1, set4_same h.2.1, fun o => by rw [set4_frozen]; exact h.2.2 o⟩
theorem Bx.far {w : World} {b b' o : Nat} {r r' : Rt} (h : Bx w b r) (hn : b ≠ b') : Bx (set4 w b' o r') b r := by
  refine ⟨by rw [set4_size]; exact h.1, ?_, fun o => by rw [set4_frozen]; exact h.2.2 o⟩
  obtain ⟨_, ⟨h0, h1, h2, h3⟩, _⟩ := h
  have key : ∀ q v, w.cell? ⟨b, q, none⟩ = v → (set4 w b' o r').cell? ⟨b, q, none⟩ = v := by
    intro q v hv
    unfold set4
    rw [World.cell?_setCell_other _ ⟨b', o + 3, none⟩ ⟨b, q, none⟩ _ (fun e => by injection e with e; exact hn e.symm), World.cell?_setCell_other _ ⟨b', o + 2, none⟩ ⟨b, q, none⟩ _ (fun e => by injection e with e; exact hn e.symm), World.cell?_setCell_other _ ⟨b', o + 1, none⟩ ⟨b, q, none⟩ _ (fun e => by injection e with e; exact hn e.symm), World.cell?_setCell_other _ ⟨b', o, none⟩ ⟨b, q, none⟩ _ (fun e => by injection e with e; exact hn e.symm)]
    exact hv
  exact ⟨key _ _ h0, key _ _ h1, key _ _ h2, key _ _ h3⟩
theorem Bx.alloc (w : World) (t : TypeId) (r : Rt) : Bx (w.alloc (.cells #[.int .i64 r.l, .int .i64 r.o, .int .i64 r.r, .int .i64 r.h] t)) w.heap.size r := by
  refine ⟨by simp, ⟨?_, ?_, ?_, ?_⟩, fun o => ?_⟩
  · go_simp
  · go_simp
  · go_simp
  · go_simp
  · go_simp

set_option maxHeartbeats 400000 in
set_option maxRecDepth 20000 in
theorem slaid_any (A : Option Addr) (n cap : Nat) (f : Nat → Rt) (w : World) (hn : n ≤ maxLen) (hr : Rs w A n f) :
    Calls Try.prog 50 #[.slice A n cap] w fun e w' => e = .returned (.bool (laidF f n)) ∧ Below w.heap.size w w' := by
  unfold maxLen at hn
  have Hr := Lib.hid hr
  clear hr
  go_enter Try.func50, Try.ntmps50
  go_wp2
  go_loopw [3] (fun i wr => ∃ k : Nat, k ≤ n ∧ i = .int .i64 k ∧ okTo f k = true ∧ Below w.heap.size w wr) (fun i _ => n - (intOf i).toNat)
  case atStart => exact ⟨0, Nat.zero_le _, rfl, rfl, Below.refl _ _⟩
  case round =>
    obtain ⟨k, hk, rfl, hok, hbr⟩ := hrel
    have hzr := hbr.size
    have Hk := Lib.hid hok
    clear hok
    by_cases hlt : k < n
    · obtain ⟨b, off, rfl, hl, c0, c1, c2, c3⟩ := (Hr.out.below hbr).at_ hlt
      cases ho : okB (f k)
      · go_wp2_with fail
        refine (sok_val (f k) false ho _).mono ?_; rintro e w1 ⟨rfl, hb1⟩; have hz1 := hb1.size; (try simp at hz1)
        go_wp2
        go_ret
        exact ⟨ret_bool (by unfold laidF; rw [okTo_no hlt ho, Bool.and_false]), by (repeat (first | with_reducible exact Below.refl _ _ | with_reducible assumption | ((with_reducible refine Below.alloc ?_ ?_ _); rotate_left; focus (first | with_reducible exact Nat.le_refl _ | omega | (simp; done) | (simp; omega))) | ((with_reducible refine Below.setCell ?_ ?_ _); rotate_left; focus (first | with_reducible exact Nat.le_refl _ | omega | (simp; done) | (simp; omega))) | (with_reducible refine Below.drew ?_) | ((with_reducible refine Below.trans ?_ (Below.mono (by with_reducible assumption) ?_)); rotate_left; focus (first | with_reducible exact Nat.le_refl _ | omega | (simp; done) | (simp; omega)))))⟩
      · go_wp2_with fail
        refine (sok_val (f k) true ho _).mono ?_; rintro e w1 ⟨rfl, hb1⟩; have hz1 := hb1.size; (try simp at hz1)
        go_wp2
        go_roundw
        case rel => exact ⟨k + 1, by omega, by go_num, by simp only [okTo]; rw [Hk.out, ho]; rfl, by (repeat (first | with_reducible exact Below.refl _ _ | with_reducible assumption | ((with_reducible refine Below.alloc ?_ ?_ _); rotate_left; focus (first | with_reducible exact Nat.le_refl _ | omega | (simp; done) | (simp; omega))) | ((with_reducible refine Below.setCell ?_ ?_ _); rotate_left; focus (first | with_reducible exact Nat.le_refl _ | omega | (simp; done) | (simp; omega))) | (with_reducible refine Below.drew ?_) | ((with_reducible refine Below.trans ?_ (Below.mono (by with_reducible assumption) ?_)); rotate_left; focus (first | with_reducible exact Nat.le_refl _ | omega | (simp; done) | (simp; omega)))))⟩
        case measure => simp [intOf]; omega
    · have hkn : k = n := by omega
      subst hkn
      go_wp2
      go_ret
      exact ⟨ret_bool (by unfold laidF; rw [Hk.out]; simp; omega), hbr⟩
theorem ilaid_val (A : Option Addr) (n cap : Nat) (f : Nat → Rt) (v : Bool) (h : laidF f n = v) (w : World) (hn : n ≤ maxLen) (hr : Rs w A n f) :
    Calls Try.prog 16 #[.slice A n cap] w fun e w' => e = .returned (.bool v) ∧ Below w.heap.size w w' := h ▸ ilaid_any A n cap f w hn hr
theorem slaid_val (A : Option Addr) (n cap : Nat) (f : Nat → Rt) (v : Bool) (h : laidF f n = v) (w : World) (hn : n ≤ maxLen) (hr : Rs w A n f) :
    Calls Try.prog 50 #[.slice A n cap] w fun e w' => e = .returned (.bool v) ∧ Below w.heap.size w w' := h ▸ slaid_any A n cap f w hn hr
theorem has_val (s i : Nat) (v : Bool) (h : s.testBit i = v) (w : World) (hs : s < 128) (hi : i < 7) :
    Calls Try.prog 79 #[.int .u64 s, .int .i64 i] w fun e w' => e = .returned (.bool v) ∧ w = w' := h ▸ has_any s i w hs hi

theorem sub_all (f : Nat → Rt) (n : Nat) : subTo f (2 ^ n - 1) n = upTo f n := by
  have H : ∀ k, k ≤ n → subTo f (2 ^ n - 1) k = upTo f k := by
    intro k
    induction k with
    | zero => intro _; rfl
    | succ k ih => intro h; simp only [subTo, upTo]; rw [ih (by omega), Nat.testBit_two_pow_sub_one]; simp; omega
  exact H n (Nat.le_refl _)
def acF (f : Nat → Rt) (n : Nat) : Bool := laidF f n && (!decide (n = 0) && okB (foldC (upTo f n)))
def acRF (f : Nat → Rt) (n : Nat) : Rt := if acF f n then foldC (upTo f n) else Rt.zero
theorem pow_lt (n : Nat) (h : n ≤ 7) : 2 ^ n - 1 < 128 := by
  have := Nat.pow_le_pow_right (n := 2) (by omega) h
  omega

theorem name_list {P : Program} {ops : Array Oper} {rest : List Oper} {Q : Exit → Act → World → Prop} {a : Act} {w : World} (h : ∀ w0, w = w0 → wpList P ops Q rest a w0) : wpList P ops Q rest a w := h w rfl
theorem up_one (f : Nat → Rt) (h : okB (f 0) = true) : foldC (upTo f 1) = f 0 := by
  show commonR full (f 0) = f 0
  exact common_full _ h
theorem up_succ (f : Nat → Rt) (k : Nat) : foldC (upTo f (k + 1)) = commonR (foldC (upTo f k)) (f k) := by simp only [upTo]; rw [foldC_snoc]
end Go.Proofs.Ytkfeeijiockdhaa
namespace Go.Proofs.Ytkfeeijiockdhaa
open Go.RowKit Go.Sort
set_option linter.unusedVariables false
def colM (L R : Nat) : Nat := 2 ^ R - 2 ^ L
theorem col_eq : ∀ R : Fin 21, ∀ L : Fin 21, L.val ≤ R.val → ((2 : Int) ^ R.val % 4294967296 - 2 ^ L.val % 4294967296) % 4294967296 = (colM L.val R.val : Nat) := by decide +kernel
theorem col_lt : ∀ R : Fin 21, ∀ L : Fin 21, colM L.val R.val < 2 ^ 20 := by decide +kernel
theorem col_bit : ∀ R : Fin 21, ∀ L : Fin 21, ∀ x : Fin 20, (colM L.val R.val).testBit x.val = decide (L.val ≤ x.val ∧ x.val < R.val) := by decide +kernel
/-- The rows behind one rectangle more. -/
def layM (m : Nat → Nat) (L O R H : Nat) (y : Nat) : Nat := if O ≤ y ∧ y < H then m y ||| colM L R else m y
/-- The cells of a bitmap. -/
def bmC (m : Nat → Nat) : Array Value := (Array.range 20).map fun y => Value.int .u32 (m y : Nat)
theorem bmC_size (m : Nat → Nat) : (bmC m).size = 20 := by simp [bmC]
theorem bmC_get (m : Nat → Nat) (y : Nat) (h : y < 20) : (bmC m)[y]? = some (.int .u32 (m y : Nat)) := by simp [bmC, h]
theorem bmC_set {m m' : Nat → Nat} {k : Nat} (hk : k < 20) (e : ∀ y, y < 20 → y ≠ k → m y = m' y) : (bmC m).setIfInBounds k (.int .u32 (m' k : Nat)) = bmC m' := by
  apply Array.ext
  · simp [bmC]
  · intro i h1 h2
    have hi : i < 20 := by rw [bmC_size] at h2; exact h2
    by_cases hik : k = i
    · subst hik; simp [bmC]
    · rw [Array.getElem_setIfInBounds_ne (by simpa [bmC] using hi) hik]; simp [bmC, e i hi (fun h => hik h.symm)]
theorem bmC_congr {m m' : Nat → Nat} (e : ∀ y, y < 20 → m y = m' y) : bmC m = bmC m' := by
  apply Array.ext
  · simp [bmC]
  · intro i h1 h2
    have hi : i < 20 := by rw [bmC_size] at h2; exact h2
    simp [bmC, e i hi]
theorem bmC_one (m : Nat → Nat) : (bmC m).all (·.oneCell') = true := by
  rw [Array.all_eq_true]; intro i hi; simp [bmC, Value.oneCell']
def SmallM (m : Nat → Nat) : Prop := ∀ y, m y < 2 ^ 20
theorem SmallM.lay {m : Nat → Nat} (h : SmallM m) {L R : Nat} (hL : L ≤ 20) (hR : R ≤ 20) (O H : Nat) : SmallM (layM m L O R H) := by
  intro y
  unfold layM
  split
  · exact Nat.or_lt_two_pow (h y) (col_lt ⟨R, by omega⟩ ⟨L, by omega⟩)
  · exact h y
theorem grown_drew {a w : World} {g : Nat} (h : a.grownBy w (some g)) : a.grownBy w.drew (some g) := ⟨h.os, h.tape, h.output, h.size, h.block⟩
/-- The rows of the rectangles f 0 .. f (k - 1). -/
def rowM (f : Nat → Rt) : Nat → Nat → Nat
  | 0 => fun _ => 0
  | k + 1 => layM (rowM f k) (f k).l.toNat (f k).o.toNat (f k).r.toNat (f k).h.toNat
theorem ok_nat {a : Rt} (h : okB a = true) : ∃ L O R H : Nat, a.l = L ∧ a.o = O ∧ a.r = R ∧ a.h = H ∧ L ≤ R ∧ R ≤ 20 ∧ O ≤ H ∧ H ≤ 20 := by
  have hk := okB_iff.1 h
  exact ⟨a.l.toNat, a.o.toNat, a.r.toNat, a.h.toNat, by omega, by omega, by omega, by omega, by omega, by omega, by omega, by omega⟩
theorem rowM_small (f : Nat → Rt) (n : Nat) (h : okTo f n = true) : ∀ k, k ≤ n → SmallM (rowM f k) := by
  intro k
  induction k with
  | zero => intro _ y; unfold rowM; decide
  | succ k ih =>
    intro hk
    obtain ⟨L, O, R, H, e0, e1, e2, e3, h1, h2, h3, h4⟩ := ok_nat (okTo_le h (by omega : k < n))
    unfold rowM
    exact (ih (by omega)).lay (by omega) (by omega) _ _
theorem bmC_zero : bmC (fun _ => 0) = #[.int .u32 0, .int .u32 0, .int .u32 0, .int .u32 0, .int .u32 0, .int .u32 0, .int .u32 0, .int .u32 0, .int .u32 0, .int .u32 0, .int .u32 0, .int .u32 0, .int .u32 0, .int .u32 0, .int .u32 0, .int .u32 0, .int .u32 0, .int .u32 0, .int .u32 0, .int .u32 0] := by kernel_rfl
theorem below_setRow {B : Nat} {a w : World} (h : Below B a w) {g : Nat} (hg : B ≤ g) (cs : Array Value) : Below B a (w.setRow g cs) :=
  h.trans ⟨rfl, rfl, rfl, by simp, fun k hk => setRow_other w g k _ (by omega)⟩

theorem popTo_sum (s k : Nat) : ((popTo s k : Nat) : Int) = sumN k fun x => one (s.testBit x) := by
  induction k with
  | zero => rfl
  | succ k ih => simp only [popTo, sumN]; rw [← ih]; cases s.testBit k <;> simp [one]
theorem row_bit (f : Nat → Rt) (n : Nat) (h : okTo f n = true) (x y : Nat) (hx : x < 20) : ∀ k, k ≤ n → (rowM f k y).testBit x = anyTo f x y k := by
  intro k
  induction k with
  | zero => intro _; simp [rowM, anyTo]
  | succ k ih =>
    intro hk
    obtain ⟨L, O, R, H, e0, e1, e2, e3, h1, h2, h3, h4⟩ := ok_nat (okTo_le h (by omega : k < n))
    have hb := col_bit ⟨R, by omega⟩ ⟨L, by omega⟩ ⟨x, hx⟩
    dsimp only at hb
    simp only [rowM, anyTo]
    rw [← ih (by omega), e0, e1, e2, e3]
    simp only [Int.toNat_natCast]
    unfold layM
    by_cases hy : O ≤ y ∧ y < H
    · rw [if_pos hy, Nat.testBit_or, hb]
      congr 1
      unfold hasB
      rw [e0, e1, e2, e3, Bool.eq_iff_iff, decide_eq_true_iff, decide_eq_true_iff]
      omega
    · rw [if_neg hy]
      have : hasB (f k) x y = false := by
        rw [Bool.eq_false_iff]; intro hh; have := hasB_iff.1 hh; omega
      rw [this, Bool.or_false]
def uaF (f : Nat → Rt) (n : Nat) : Int := if laidF f n then cells (fun x y => one (anyTo f x y n)) else -1
theorem row_cells (f : Nat → Rt) (n : Nat) (h : okTo f n = true) : sumN 20 (fun y => ((popTo (rowM f n y) 20 : Nat) : Int)) = cells (fun x y => one (anyTo f x y n)) := by
  unfold cells
  refine sumN_congr fun y _ => ?_
  rw [popTo_sum]
  exact sumN_congr fun x hx => by rw [row_bit f n h x y hx n (Nat.le_refl _)]
theorem sum_pop_bd (m : Nat → Nat) (k : Nat) : 0 ≤ sumN k (fun y => ((popTo (m y) 20 : Nat) : Int)) ∧ sumN k (fun y => ((popTo (m y) 20 : Nat) : Int)) ≤ 20 * k := by
  induction k with
  | zero => simp [sumN]
  | succ k ih => simp only [sumN]; have := popTo_le (m k) 20; omega

def CountPost (m : Nat → Nat) (w : World) (e : Ending) (w' : World) : Prop :=
  e = .returned (.int .i64 (sumN 20 (fun y => ((popTo (m y) 20 : Nat) : Int)))) ∧ Below w.heap.size w w'
end Go.Proofs.Ytkfeeijiockdhaa
namespace Go.Proofs.Ytkfeeijiockdhaa
open Go.RowKit Go.Sort
set_option linter.unusedVariables false
def depF (f : Nat → Rt) (x y : Int) : Nat → Int
  | 0 => 0
  | k + 1 => depF f x y k + one (hasB (f k) x y)
theorem depF_bd (f : Nat → Rt) (x y : Int) (k : Nat) : 0 ≤ depF f x y k ∧ depF f x y k ≤ k := by
  induction k with
  | zero => simp [depF]
  | succ k ih => simp only [depF]; have := one_nonneg (hasB (f k) x y); have := one_le (hasB (f k) x y); omega
theorem depF_any (f : Nat → Rt) (x y : Int) (k : Nat) : decide (0 < depF f x y k) = anyTo f x y k := by
  induction k with
  | zero => rfl
  | succ k ih =>
    simp only [depF, anyTo]
    rw [← ih]
    have := depF_bd f x y k
    have e : ∀ b : Bool, decide (0 < depF f x y k + one b) = (decide (0 < depF f x y k) || b) := by
      intro b; cases b <;> simp [one] <;> omega
    exact e _
theorem hasB_in (r : Rt) (x y : Int) : hasB r x y = (inB x r.l (r.r - 1) && inB y r.o (r.h - 1)) := by
  rw [Bool.eq_iff_iff, Bool.and_eq_true, hasB_iff, inB_iff, inB_iff]; omega
theorem in_val (n lo hi : Int) (v : Bool) (h : inB n lo hi = v) (w : World) :
    Calls Try.prog 76 #[.int .i64 n, .int .i64 lo, .int .i64 hi] w fun e w' => e = .returned (.bool v) ∧ Below w.heap.size w w' :=
  (in_any n lo hi w).mono fun _ _ hh => ⟨h ▸ hh.1, hh.2 ▸ Below.refl _ _⟩

def cellF (f : Nat → Rt) (n y x : Nat) : Int := one (anyTo f x y n)
def rowF (f : Nat → Rt) (n y : Nat) : Int := sumN 20 (cellF f n y)
theorem cellF_bd (f : Nat → Rt) (n y k : Nat) : 0 ≤ sumN k (cellF f n y) ∧ sumN k (cellF f n y) ≤ k := by
  induction k with
  | zero => simp [sumN]
  | succ k ih => simp only [sumN]; have := one_nonneg (anyTo f k y n); have := one_le (anyTo f k y n); unfold cellF at *; omega
theorem rowF_bd (f : Nat → Rt) (n k : Nat) : 0 ≤ sumN k (rowF f n) ∧ sumN k (rowF f n) ≤ 20 * k := by
  induction k with
  | zero => simp [sumN]
  | succ k ih => simp only [sumN]; have h := cellF_bd f n k 20; unfold rowF at *; omega
theorem uaF_yes (f : Nat → Rt) (n : Nat) (h : laidF f n = true) : uaF f n = sumN 20 (rowF f n) := by unfold uaF; rw [h]; rfl
end Go.Proofs.Ytkfeeijiockdhaa
