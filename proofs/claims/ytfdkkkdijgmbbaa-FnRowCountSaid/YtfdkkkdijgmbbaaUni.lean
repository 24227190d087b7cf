/- Chapter 2: LaidOk of spec, AllCommon of both. Chapter 2: UnionArea of impl: rows of bits. Chapter 2: UnionArea of spec; the exact law's walk. -/
import Derived.Test.YtfdkkkdijgmbbaaMe
import Derived.StillTailTactics
import Derived.Great.BuildSlice
import Derived.Test.YtfdkkkdijgmbbaaRc
namespace Go.Proofs.Ytfdkkkdijgmbbaa
open Go.RowKit Go.Sort
set_option linter.unusedVariables false
theorem laidF_ok {f : Nat → Rt} {n : Nat} (h : laidF f n = true) : n ≤ 7 ∧ okTo f n = true := by
  unfold laidF at h; simpa using h
theorem subset_last (f : Nat → Rt) (s k : Nat) : foldC (subTo f s (k + 1)) = if s.testBit k then commonR (foldC (subTo f s k)) (f k) else foldC (subTo f s k) := by
  simp only [subTo]
  by_cases h : s.testBit k = true
  · rw [if_pos h, if_pos h, foldC_snoc]
  · rw [if_neg h, if_neg h, List.append_nil]
/-- A rectangle in a block of the call's own. -/
def Bx (w : World) (b : Nat) (r : Rt) : Prop := b < w.heap.size ∧ C4 w b 0 r ∧ ∀ o, w.frozen? ⟨b, o, none⟩ = false
theorem Bx.below {w w' : World} {b : Nat} {r : Rt} (h : Bx w b r) (hb : Below w.heap.size w w') : Bx w' b r :=
  ⟨Nat.lt_of_lt_of_le h.1 hb.size, h.2.1.below hb h.1, fun o => (hb.frozen (p := ⟨b, o, none⟩) h.1).trans (h.2.2 o)⟩
theorem Bx.set {w : World} {b : Nat} {r r' : Rt} (h : Bx w b r) : Bx (set4 w b 0 r') b r' :=
  ⟨by rw [set4_size]; exact h.1, set4_same h.2.1, fun o => by rw [set4_frozen]; exact h.2.2 o⟩
theorem Bx.far {w : World} {b b' o : Nat} {r r' : Rt} (h : Bx w b r) (hn : b ≠ b') : Bx (set4 w b' o r') b r := by
  refine ⟨by rw [set4_size]; exact h.1, ?_, fun o => by rw [set4_frozen]; exact h.2.2 o⟩
  obtain ⟨_, ⟨h0, h1, h2, h3⟩, _⟩ := h
  have key : ∀ q v, w.cell? ⟨b, q, none⟩ = v → (set4 w b' o r').cell? ⟨b, q, none⟩ = v := by
    intro q v hv
    unfold set4
    rw [World.cell?_setCell_other _ ⟨b', o + 3, none⟩ ⟨b, q, none⟩ _ (fun e => by injection e with e; exact hn e.symm), World.cell?_setCell_other _ ⟨b', o + 2, none⟩ ⟨b, q, none⟩ _ (fun e => by injection e with e; exact hn e.symm), World.cell?_setCell_other _ ⟨b', o + 1, none⟩ ⟨b, q, none⟩ _ (fun e => by injection e with e; exact hn e.symm), World.cell?_setCell_other _ ⟨b', o, none⟩ ⟨b, q, none⟩ _ (fun e => by injection e with e; exact hn e.symm)]
    exact hv
  exact ⟨key _ _ h0, key _ _ h1, key _ _ h2, key _ _ h3⟩
theorem Bx.alloc (w : World) (t : TypeId) (r : Rt) : Bx (w.alloc (.cells #[.int .i64 r.l, .int .i64 r.o, .int .i64 r.r, .int .i64 r.h] t)) w.heap.size r := by
  refine ⟨by simp, ⟨?_, ?_, ?_, ?_⟩, fun o => ?_⟩
  · go_simp
  · go_simp
  · go_simp
  · go_simp
  · go_simp

set_option maxHeartbeats 400000 in
set_option maxRecDepth 20000 in
theorem slaid_any (A : Option Addr) (n cap : Nat) (f : Nat → Rt) (w : World) (hn : n ≤ maxLen) (hr : Rs w A n f) :
    Calls Try.prog 27 #[.slice A n cap] w fun e w' => e = .returned (.bool (laidF f n)) ∧ Below w.heap.size w w' := by
  unfold maxLen at hn
  have Hr := Lib.hid hr
  clear hr
  go_enter Try.func27, Try.ntmps27
  go_wp2
  go_loopw [3] (fun i wr => ∃ k : Nat, k ≤ n ∧ i = .int .i64 k ∧ okTo f k = true ∧ Below w.heap.size w wr) (fun i _ => n - (intOf i).toNat)
  case atStart => exact ⟨0, Nat.zero_le _, rfl, rfl, Below.refl _ _⟩
  case round =>
    obtain ⟨k, hk, rfl, hok, hbr⟩ := hrel
    have hzr := hbr.size
    have Hk := Lib.hid hok
    clear hok
    by_cases hlt : k < n
    · obtain ⟨b, off, rfl, hl, c0, c1, c2, c3⟩ := (Hr.out.below hbr).at_ hlt
      cases ho : okB (f k)
      · go_wp2_with fail
        refine (sok_val (f k) false ho _).mono ?_; rintro e w1 ⟨rfl, hb1⟩; have hz1 := hb1.size; (try simp at hz1)
        go_wp2
        go_ret
        exact ⟨ret_bool (by unfold laidF; rw [okTo_no hlt ho, Bool.and_false]), by (repeat (first | with_reducible exact Below.refl _ _ | with_reducible assumption | ((with_reducible refine Below.alloc ?_ ?_ _); rotate_left; focus (first | with_reducible exact Nat.le_refl _ | omega | (simp; done) | (simp; omega))) | ((with_reducible refine Below.setCell ?_ ?_ _); rotate_left; focus (first | with_reducible exact Nat.le_refl _ | omega | (simp; done) | (simp; omega))) | (with_reducible refine Below.drew ?_) | ((with_reducible refine Below.trans ?_ (Below.mono (by with_reducible assumption) ?_)); rotate_left; focus (first | with_reducible exact Nat.le_refl _ | omega | (simp; done) | (simp; omega)))))⟩
      · go_wp2_with fail
        refine (sok_val (f k) true ho _).mono ?_; rintro e w1 ⟨rfl, hb1⟩; have hz1 := hb1.size; (try simp at hz1)
        go_wp2
        go_roundw
        case rel => exact ⟨k + 1, by omega, by go_num, by simp only [okTo]; rw [Hk.out, ho]; rfl, by (repeat (first | with_reducible exact Below.refl _ _ | with_reducible assumption | ((with_reducible refine Below.alloc ?_ ?_ _); rotate_left; focus (first | with_reducible exact Nat.le_refl _ | omega | (simp; done) | (simp; omega))) | ((with_reducible refine Below.setCell ?_ ?_ _); rotate_left; focus (first | with_reducible exact Nat.le_refl _ | omega | (simp; done) | (simp; omega))) | (with_reducible refine Below.drew ?_) | ((with_reducible refine Below.trans ?_ (Below.mono (by with_reducible assumption) ?_)); rotate_left; focus (first | with_reducible exact Nat.le_refl _ | omega | (simp; done) | (simp; omega)))))⟩
        case measure => simp [intOf]; omega
    · have hkn : k = n := by omega
      subst hkn
      go_wp2
      go_ret
      exact ⟨ret_bool (by unfold laidF; rw [Hk.out]; simp; omega), hbr⟩
theorem ilaid_val (A : Option Addr) (n cap : Nat) (f : Nat → Rt) (v : Bool) (h : laidF f n = v) (w : World) (hn : n ≤ maxLen) (hr : Rs w A n f) :
    Calls Try.prog 33 #[.slice A n cap] w fun e w' => e = .returned (.bool v) ∧ Below w.heap.size w w' := h ▸ ilaid_any A n cap f w hn hr
theorem slaid_val (A : Option Addr) (n cap : Nat) (f : Nat → Rt) (v : Bool) (h : laidF f n = v) (w : World) (hn : n ≤ maxLen) (hr : Rs w A n f) :
    Calls Try.prog 27 #[.slice A n cap] w fun e w' => e = .returned (.bool v) ∧ Below w.heap.size w w' := h ▸ slaid_any A n cap f w hn hr
theorem sub_all (f : Nat → Rt) (n : Nat) : subTo f (2 ^ n - 1) n = upTo f n := by
  have H : ∀ k, k ≤ n → subTo f (2 ^ n - 1) k = upTo f k := by
    intro k
    induction k with
    | zero => intro _; rfl
    | succ k ih => intro h; simp only [subTo, upTo]; rw [ih (by omega), Nat.testBit_two_pow_sub_one]; simp; omega
  exact H n (Nat.le_refl _)
def acF (f : Nat → Rt) (n : Nat) : Bool := laidF f n && (!decide (n = 0) && okB (foldC (upTo f n)))
def acRF (f : Nat → Rt) (n : Nat) : Rt := if acF f n then foldC (upTo f n) else Rt.zero
theorem pow_lt (n : Nat) (h : n ≤ 7) : 2 ^ n - 1 < 128 := by
  have := Nat.pow_le_pow_right (n := 2) (by omega) h
  omega

theorem name_list {P : Program} {ops : Array Oper} {rest : List Oper} {Q : Exit → Act → World → Prop} {a : Act} {w : World} (h : ∀ w0, w = w0 → wpList P ops Q rest a w0) : wpList P ops Q rest a w := h w rfl
theorem up_one (f : Nat → Rt) (h : okB (f 0) = true) : foldC (upTo f 1) = f 0 := by
  show commonR full (f 0) = f 0
  exact common_full _ h
theorem up_succ (f : Nat → Rt) (k : Nat) : foldC (upTo f (k + 1)) = commonR (foldC (upTo f k)) (f k) := by simp only [upTo]; rw [foldC_snoc]
end Go.Proofs.Ytfdkkkdijgmbbaa
namespace Go.Proofs.Ytfdkkkdijgmbbaa
open Go.RowKit Go.Sort
set_option linter.unusedVariables false
def colM (L R : Nat) : Nat := 2 ^ R - 2 ^ L
theorem col_eq : ∀ R : Fin 21, ∀ L : Fin 21, L.val ≤ R.val → ((2 : Int) ^ R.val % 4294967296 - 2 ^ L.val % 4294967296) % 4294967296 = (colM L.val R.val : Nat) := by decide +kernel
theorem col_lt : ∀ R : Fin 21, ∀ L : Fin 21, colM L.val R.val < 2 ^ 20 := by decide +kernel
theorem col_bit : ∀ R : Fin 21, ∀ L : Fin 21, ∀ x : Fin 20, (colM L.val R.val).testBit x.val = decide (L.val ≤ x.val ∧ x.val < R.val) := by decide +kernel
/-- The rows behind one rectangle more. -/
def layM (m : Nat → Nat) (L O R H : Nat) (y : Nat) : Nat := if O ≤ y ∧ y < H then m y ||| colM L R else m y
/-- The cells of a bitmap. -/
def bmC (m : Nat → Nat) : Array Value := (Array.range 20).map fun y => Value.int .u32 (m y : Nat)
theorem bmC_size (m : Nat → Nat) : (bmC m).size = 20 := by simp [bmC]
theorem bmC_get (m : Nat → Nat) (y : Nat) (h : y < 20) : (bmC m)[y]? = some (.int .u32 (m y : Nat)) := by simp [bmC, h]
theorem bmC_set {m m' : Nat → Nat} {k : Nat} (hk : k < 20) (e : ∀ y, y < 20 → y ≠ k → m y = m' y) : (bmC m).setIfInBounds k (.int .u32 (m' k : Nat)) = bmC m' := by
  apply Array.ext
  · simp [bmC]
  · intro i h1 h2
    have hi : i < 20 := by rw [bmC_size] at h2; exact h2
    by_cases hik : k = i
    · subst hik; simp [bmC]
    · rw [Array.getElem_setIfInBounds_ne (by simpa [bmC] using hi) hik]; simp [bmC, e i hi (fun h => hik h.symm)]
theorem bmC_congr {m m' : Nat → Nat} (e : ∀ y, y < 20 → m y = m' y) : bmC m = bmC m' := by
  apply Array.ext
  · simp [bmC]
  · intro i h1 h2
    have hi : i < 20 := by rw [bmC_size] at h2; exact h2
    simp [bmC, e i hi]
theorem bmC_one (m : Nat → Nat) : (bmC m).all (·.oneCell') = true := by
  rw [Array.all_eq_true]; intro i hi; simp [bmC, Value.oneCell']
/-- A bitmap at block g. -/
def Bm (w : World) (g : Nat) (m : Nat → Nat) : Prop := w.heap[g]? = some (.cells (bmC m) 48 (0, 0))
theorem Bm.lt {w : World} {g : Nat} {m : Nat → Nat} (h : Bm w g m) : g < w.heap.size := by
  rcases Nat.lt_or_ge g w.heap.size with hlt | hge
  · exact hlt
  · unfold Bm at h; rw [Array.getElem?_eq_none hge] at h; cases h
theorem Bm.c {w : World} {g : Nat} {m : Nat → Nat} (h : Bm w g m) (y : Nat) (hy : y < 20) : w.cell? ⟨g, y, none⟩ = some (.int .u32 (m y : Nat)) := by
  rw [cell_of_row w g y _ _ _ h, bmC_get m y hy]
theorem Bm.fz {w : World} {g : Nat} {m : Nat → Nat} (h : Bm w g m) (y : Nat) : w.frozen? ⟨g, y, none⟩ = false := frozen_of_row w g y _ _ h
def SmallM (m : Nat → Nat) : Prop := ∀ y, m y < 2 ^ 20
theorem SmallM.lay {m : Nat → Nat} (h : SmallM m) {L R : Nat} (hL : L ≤ 20) (hR : R ≤ 20) (O H : Nat) : SmallM (layM m L O R H) := by
  intro y
  unfold layM
  split
  · exact Nat.or_lt_two_pow (h y) (col_lt ⟨R, by omega⟩ ⟨L, by omega⟩)
  · exact h y
theorem Bm.below {w w' : World} {g : Nat} {m : Nat → Nat} (h : Bm w g m) (hb : Below w.heap.size w w') : Bm w' g m := (hb.block g h.lt).trans h
theorem Bm.congr {w : World} {g : Nat} {m m' : Nat → Nat} (h : Bm w g m) (e : ∀ y, y < 20 → m y = m' y) : Bm w g m' := by
  unfold Bm at *; rw [← bmC_congr e]; exact h
theorem Bm.far {w : World} {g : Nat} {m : Nat → Nat} (h : Bm w g m) {w' : World} {g' : Nat} (hg : w.grownBy w' (some g')) (hn : g ≠ g') : Bm w' g m :=
  (hg.block g h.lt (by intro e; injection e with e; exact hn e)).trans h
theorem Bm.set {w : World} {g k : Nat} {m m' : Nat → Nat} (h : Bm w g m) (hk : k < 20) (e : ∀ y, y < 20 → y ≠ k → m y = m' y) : Bm (w.setCell ⟨g, k, none⟩ (.int .u32 (m' k : Nat))) g m' := by
  unfold Bm
  rw [heap_setCell_same w g k _ _ _ h, bmC_set hk e]
theorem Bm.new (w : World) (m : Nat → Nat) : Bm (w.alloc (.cells (bmC m) 48)) w.heap.size m := heap_alloc_new w _
theorem grown_drew {a w : World} {g : Nat} (h : a.grownBy w (some g)) : a.grownBy w.drew (some g) := ⟨h.os, h.tape, h.output, h.size, h.block⟩
theorem Bm.drew {w : World} {g : Nat} {m : Nat → Nat} (h : Bm w g m) : Bm w.drew g m := h
theorem Bm.drewN {w : World} {g : Nat} {m : Nat → Nat} (h : Bm w g m) (n : Nat) : Bm (w.drewN n) g m := h

set_option maxHeartbeats 1000000 in
set_option maxRecDepth 20000 in
theorem lay_any (g L O R H : Nat) (m : Nat → Nat) (w : World) (hL : L ≤ R) (hR : R ≤ 20) (hO : O ≤ H) (hH : H ≤ 20) (hm : SmallM m) (hb : Bm w g m) :
    Calls Try.prog 54 #[.pointer (some ⟨g, 0, none⟩), .agg #[.int .i64 (L : Nat), .int .i64 (O : Nat), .int .i64 (R : Nat), .int .i64 (H : Nat)]] w fun e w' => e = .returned (.tuple #[]) ∧ Bm w' g (layM m L O R H) ∧ w.grownBy w' (some g) := by
  have HM := Lib.hid hm
  have HB := Lib.hid hb
  have hgl := hb.lt
  clear hm hb
  have hcol := col_eq ⟨R, by omega⟩ ⟨L, by omega⟩ hL
  dsimp only at hcol
  have hc2 := col_lt ⟨R, by omega⟩ ⟨L, by omega⟩
  dsimp only at hc2
  generalize hC : colM L R = C at hcol hc2
  have HC := Lib.hid hC
  clear hC
  go_enter Try.func54, Try.ntmps54
  go_wp2
  go_quiet (fail)
  go_wp2
  simp only [hcol]
  clear hcol
  go_loopw [5] (fun i wr => ∃ k : Nat, O ≤ k ∧ k ≤ H ∧ i = .int .i64 k ∧ Bm wr g (layM m L O R k) ∧ w.grownBy wr (some g) ∧ w.heap.size < wr.heap.size ∧ (∀ o, wr.cell? ⟨w.heap.size, o, none⟩ = (w.alloc (.cells #[.int .i64 (L : Nat), .int .i64 (O : Nat), .int .i64 (R : Nat), .int .i64 (H : Nat)] 29)).cell? ⟨w.heap.size, o, none⟩)) (fun i _ => H - (intOf i).toNat)
  case atStart =>
    refine ⟨O, Nat.le_refl _, hO, rfl, ?_, ?_, by simp, fun o => rfl⟩
    · exact ((HB.out.below ((Below.refl _ _).alloc (Nat.le_refl _) _)).drewN _).congr (fun y _ => by unfold layM; rw [if_neg (by omega)])
    · exact grown_below (World.grownBy.refl w _) (bel_drewN ((Below.refl _ _).alloc (Nat.le_refl _) _) _)
  case round =>
    obtain ⟨k, hk1, hk, rfl, hbm, hg, hsz, hcell⟩ := hrel
    have HG := Lib.hid hg
    have HBM := Lib.hid hbm
    clear hg hbm
    by_cases hlt : k < H
    · have hk20 : (k : Int) < 20 := by omega
      have c0 := HBM.out.c k (by omega)
      have f0 := HBM.out.fz k
      have hmk : layM m L O R k k = m k := by unfold layM; rw [if_neg (by omega)]
      rw [hmk] at c0
      have hor : bits .or .u32 ((m k : Nat) : Int) ((C : Nat) : Int) = ((m k ||| C : Nat) : Int) := u32_or_nat (m k) C (by have := HM.out k; omega) (by omega)
      have Hmk := Lib.hid hmk
      clear hmk
      go_wp2_with fail
      go_still_tail 9, (by kernel_rfl)
      change wpList _ _ _ _ _ wr.drew
      go_wp2
      go_roundw
      case rel =>
        have hs := HBM.out.set (k := k) (m' := layM m L O R (k + 1)) (by omega) (fun y _ hne => by
          unfold layM
          by_cases h : O ≤ y ∧ y < k
          · rw [if_pos h, if_pos (by omega)]
          · rw [if_neg h, if_neg (by omega)])
        have hv : layM m L O R (k + 1) k = m k ||| C := by unfold layM; rw [if_pos (by omega), HC.out]
        rw [hv] at hs
        refine ⟨k + 1, by omega, by omega, by go_num, hs.drew, grown_drew (grown_setCell (o := k) HG.out _), ?_, ?_⟩
        · simpa [World.setCell] using hsz
        · intro o
          rw [← hcell o]
          exact World.cell?_setCell_other _ ⟨g, k, none⟩ ⟨w.heap.size, o, none⟩ _ (fun e => by injection e; omega)
      case measure => simp [intOf]; omega
    · have hkn : k = H := by omega
      subst hkn
      go_wp2
      go_end0
      exact ⟨rfl, HBM.out, HG.out⟩

/-- The rows of the rectangles f 0 .. f (k - 1). -/
def rowM (f : Nat → Rt) : Nat → Nat → Nat
  | 0 => fun _ => 0
  | k + 1 => layM (rowM f k) (f k).l.toNat (f k).o.toNat (f k).r.toNat (f k).h.toNat
theorem ok_nat {a : Rt} (h : okB a = true) : ∃ L O R H : Nat, a.l = L ∧ a.o = O ∧ a.r = R ∧ a.h = H ∧ L ≤ R ∧ R ≤ 20 ∧ O ≤ H ∧ H ≤ 20 := by
  have hk := okB_iff.1 h
  exact ⟨a.l.toNat, a.o.toNat, a.r.toNat, a.h.toNat, by omega, by omega, by omega, by omega, by omega, by omega, by omega, by omega⟩
theorem rowM_small (f : Nat → Rt) (n : Nat) (h : okTo f n = true) : ∀ k, k ≤ n → SmallM (rowM f k) := by
  intro k
  induction k with
  | zero => intro _ y; unfold rowM; decide
  | succ k ih =>
    intro hk
    obtain ⟨L, O, R, H, e0, e1, e2, e3, h1, h2, h3, h4⟩ := ok_nat (okTo_le h (by omega : k < n))
    unfold rowM
    exact (ih (by omega)).lay (by omega) (by omega) _ _
theorem bmC_zero : bmC (fun _ => 0) = #[.int .u32 0, .int .u32 0, .int .u32 0, .int .u32 0, .int .u32 0, .int .u32 0, .int .u32 0, .int .u32 0, .int .u32 0, .int .u32 0, .int .u32 0, .int .u32 0, .int .u32 0, .int .u32 0, .int .u32 0, .int .u32 0, .int .u32 0, .int .u32 0, .int .u32 0, .int .u32 0] := by kernel_rfl
theorem Bm.zero (w : World) : Bm (w.alloc (.cells #[.int .u32 0, .int .u32 0, .int .u32 0, .int .u32 0, .int .u32 0, .int .u32 0, .int .u32 0, .int .u32 0, .int .u32 0, .int .u32 0, .int .u32 0, .int .u32 0, .int .u32 0, .int .u32 0, .int .u32 0, .int .u32 0, .int .u32 0, .int .u32 0, .int .u32 0, .int .u32 0] 48)) w.heap.size (fun _ => 0) := by
  rw [← bmC_zero]; exact Bm.new w _
theorem infoB : (Try.prog.info? 48).map (·.size) = some 20 := by kernel_rfl
theorem Bm.row {w : World} {g : Nat} {m m' : Nat → Nat} (h : Bm w g m) : Bm (w.setRow g (bmC m')) g m' := setRow_heap w g _ _ _ _ h
theorem below_setRow {B : Nat} {a w : World} (h : Below B a w) {g : Nat} (hg : B ≤ g) (cs : Array Value) : Below B a (w.setRow g cs) :=
  h.trans ⟨rfl, rfl, rfl, by simp, fun k hk => setRow_other w g k _ (by omega)⟩

set_option maxHeartbeats 1000000 in
set_option maxRecDepth 20000 in
theorem unionof_any (A : Option Addr) (n cap : Nat) (f : Nat → Rt) (w : World) (hl : laidF f n = true) (hr : Rs w A n f) :
    Calls Try.prog 34 #[.slice A n cap] w fun e w' => e = .returned (.agg (bmC (rowM f n))) ∧ Below w.heap.size w w' := by
  obtain ⟨h7, hok⟩ := laidF_ok hl
  have Hok := Lib.hid hok
  have Hr := Lib.hid hr
  clear hr hok
  go_enter Try.func34, Try.ntmps34
  go_wp2
  go_loopw [8] (fun i wr => ∃ k : Nat, k ≤ n ∧ i = .int .i64 k ∧ Bm wr w.heap.size (fun _ => 0) ∧ Bm wr (w.heap.size + 1) (rowM f k) ∧ Below w.heap.size w wr) (fun i _ => n - (intOf i).toNat)
  case atStart =>
    refine ⟨0, Nat.zero_le _, rfl, ?_, ?_, by (repeat (first | with_reducible exact Below.refl _ _ | with_reducible assumption | ((with_reducible refine Below.alloc ?_ ?_ _); rotate_left; focus (first | with_reducible exact Nat.le_refl _ | omega | (simp; done) | (simp; omega))) | ((with_reducible refine Below.setCell ?_ ?_ _); rotate_left; focus (first | with_reducible exact Nat.le_refl _ | omega | (simp; done) | (simp; omega))) | (with_reducible refine Below.drew ?_) | ((with_reducible refine Below.trans ?_ (Below.mono (by with_reducible assumption) ?_)); rotate_left; focus (first | with_reducible exact Nat.le_refl _ | omega | (simp; done) | (simp; omega)))))⟩
    · exact (Bm.zero w).below ((Below.refl _ _).alloc (Nat.le_refl _) _)
    · have := Bm.zero (w.alloc (.cells #[.int .u32 0, .int .u32 0, .int .u32 0, .int .u32 0, .int .u32 0, .int .u32 0, .int .u32 0, .int .u32 0, .int .u32 0, .int .u32 0, .int .u32 0, .int .u32 0, .int .u32 0, .int .u32 0, .int .u32 0, .int .u32 0, .int .u32 0, .int .u32 0, .int .u32 0, .int .u32 0] 48))
      rw [World.size_alloc] at this
      exact this
  case round =>
    obtain ⟨k, hk, rfl, hx0, hx1, hbr⟩ := hrel
    have hzr := hbr.size
    have l0 := hx0.lt
    have l1 := hx1.lt
    have X0 := Lib.hid hx0
    have X1 := Lib.hid hx1
    have HB := Lib.hid hbr
    clear hx0 hx1
    by_cases hlt : k < n
    · obtain ⟨b, off, rfl, hbl, c0, c1, c2, c3⟩ := (Hr.out.below hbr).at_ hlt
      have hst : rowM f (k + 1) = layM (rowM f k) (f k).l.toNat (f k).o.toNat (f k).r.toNat (f k).h.toNat := rfl
      have HS := Lib.hid hst
      clear hst
      obtain ⟨L, O, R, H, e0, e1, e2, e3, h1, h2, h3, h4⟩ := ok_nat (okTo_le Hok.out hlt)
      rw [e0] at c0
      rw [e1] at c1
      rw [e2] at c2
      rw [e3] at c3
      have E := Lib.hid (And.intro e0 (And.intro e1 (And.intro e2 e3)))
      clear e0 e1 e2 e3
      have hba : Below wr.heap.size wr (wr.alloc (.cells #[.int .i64 (L : Nat), .int .i64 (O : Nat), .int .i64 (R : Nat), .int .i64 (H : Nat)] 29)) := (Below.refl _ _).alloc (Nat.le_refl _) _
      have HBA := Lib.hid hba
      clear hba
      go_wp2_with fail
      refine (lay_any (w.heap.size + 1) L O R H (rowM f k) _ h1 h2 h3 h4 (rowM_small f n Hok.out k (by omega)) (X1.out.below HBA.out)).mono ?_; rintro e w1 ⟨rfl, hm1, hg1⟩
      have M1 := Lib.hid hm1
      have G1 := Lib.hid hg1
      clear hm1 hg1
      go_wp2
      go_roundw
      case rel =>
        refine ⟨k + 1, by omega, by go_num, ?_, ?_, ?_⟩
        · exact (X0.out.below HBA.out).far G1.out (by omega)
        · rw [HS.out, E.out.1, E.out.2.1, E.out.2.2.1, E.out.2.2.2]
          exact M1.out
        · exact below_grown (HB.out.trans (HBA.out.mono hzr)) G1.out (by simp; omega) (by omega)
      case measure => simp [intOf]; omega
    · have hkn : k = n := by omega
      subst hkn
      have b1 := X1.out
      unfold Bm at b1
      have B1 := Lib.hid b1
      clear b1
      go_wp2_with (first | (refine wpList_load_row rfl 48 (.tmp 3) rfl (w.heap.size + 1) rfl 48 (bmC (rowM f k)) (0, 0) _ B1.out Try.underlying48 rfl (by rw [bmC_size]; exact infoB) ?_) | (refine wpList_store_rowTo rfl 48 (.tmp 2) (.tmp 15) rfl rfl w.heap.size (bmC (rowM f k)) rfl rfl 48 (bmC (fun _ => 0)) X0.out (by rw [bmC_size]; exact infoB) (by rw [bmC_size, bmC_size]) (bmC_one _) ?_))
      refine bodyPost_ret (v := .agg (bmC (rowM f k))) (results_cell_row rfl _ _ w.heap.size 48 (bmC (rowM f k)) (0, 0) _ rfl X0.out.row Try.underlying48 rfl (by rw [bmC_size]; exact infoB)) rfl ⟨rfl, ?_⟩
      exact below_setRow HB.out (Nat.le_refl _) _

theorem popTo_sum (s k : Nat) : ((popTo s k : Nat) : Int) = sumN k fun x => one (s.testBit x) := by
  induction k with
  | zero => rfl
  | succ k ih => simp only [popTo, sumN]; rw [← ih]; cases s.testBit k <;> simp [one]
theorem row_bit (f : Nat → Rt) (n : Nat) (h : okTo f n = true) (x y : Nat) (hx : x < 20) : ∀ k, k ≤ n → (rowM f k y).testBit x = anyTo f x y k := by
  intro k
  induction k with
  | zero => intro _; simp [rowM, anyTo]
  | succ k ih =>
    intro hk
    obtain ⟨L, O, R, H, e0, e1, e2, e3, h1, h2, h3, h4⟩ := ok_nat (okTo_le h (by omega : k < n))
    have hb := col_bit ⟨R, by omega⟩ ⟨L, by omega⟩ ⟨x, hx⟩
    dsimp only at hb
    simp only [rowM, anyTo]
    rw [← ih (by omega), e0, e1, e2, e3]
    simp only [Int.toNat_natCast]
    unfold layM
    by_cases hy : O ≤ y ∧ y < H
    · rw [if_pos hy, Nat.testBit_or, hb]
      congr 1
      unfold hasB
      rw [e0, e1, e2, e3, Bool.eq_iff_iff, decide_eq_true_iff, decide_eq_true_iff]
      omega
    · rw [if_neg hy]
      have : hasB (f k) x y = false := by
        rw [Bool.eq_false_iff]; intro hh; have := hasB_iff.1 hh; omega
      rw [this, Bool.or_false]
def uaF (f : Nat → Rt) (n : Nat) : Int := if laidF f n then cells (fun x y => one (anyTo f x y n)) else -1
theorem row_cells (f : Nat → Rt) (n : Nat) (h : okTo f n = true) : sumN 20 (fun y => ((popTo (rowM f n y) 20 : Nat) : Int)) = cells (fun x y => one (anyTo f x y n)) := by
  unfold cells
  refine sumN_congr fun y _ => ?_
  rw [popTo_sum]
  exact sumN_congr fun x hx => by rw [row_bit f n h x y hx n (Nat.le_refl _)]
theorem sum_pop_bd (m : Nat → Nat) (k : Nat) : 0 ≤ sumN k (fun y => ((popTo (m y) 20 : Nat) : Int)) ∧ sumN k (fun y => ((popTo (m y) 20 : Nat) : Int)) ≤ 20 * k := by
  induction k with
  | zero => simp [sumN]
  | succ k ih => simp only [sumN]; have := popTo_le (m k) 20; omega

def CountPost (m : Nat → Nat) (w : World) (e : Ending) (w' : World) : Prop :=
  e = .returned (.int .i64 (sumN 20 (fun y => ((popTo (m y) 20 : Nat) : Int)))) ∧ Below w.heap.size w w'
set_option maxHeartbeats 400000 in
set_option maxRecDepth 20000 in
theorem count_any (g : Nat) (m : Nat → Nat) (w : World) (hm : SmallM m) (hb : Bm w g m) :
    Calls Try.prog 39 #[.pointer (some ⟨g, 0, none⟩)] w (CountPost m w) := by
  have HM := Lib.hid hm
  have HB := Lib.hid hb
  clear hm hb
  go_enter Try.func39, Try.ntmps39
  go_wp2
  go_loopw [3, 7] (fun s i wr => ∃ k : Nat, k ≤ 20 ∧ i = .int .i64 k ∧ s = .int .i64 (sumN k (fun y => ((popTo (m y) 20 : Nat) : Int))) ∧ Below w.heap.size w wr) (fun _ i _ => 20 - (intOf i).toNat)
  case atStart => exact ⟨0, Nat.zero_le _, rfl, rfl, Below.refl _ _⟩
  case round =>
    obtain ⟨k, hk, rfl, rfl, hbr⟩ := hrel
    have HR := Lib.hid hbr
    have bd := sum_pop_bd m k
    generalize hS : sumN k (fun y => ((popTo (m y) 20 : Nat) : Int)) = S at bd
    have HS := Lib.hid hS
    clear hS
    obtain ⟨bd1, bd2⟩ := bd
    by_cases hlt : k < 20
    · have c0 := (HB.out.below hbr).c k hlt
      have hp := popTo_le (m k) 20
      have hk20 : (k : Int) < 20 := by omega
      clear hbr
      go_wp2_with fail
      refine (ones32_any (m k) _ (by have := HM.out k; omega)).mono ?_; rintro e w1 ⟨rfl, hd1⟩
      have HD := Lib.hid hd1
      clear hd1
      go_wp2
      go_roundw
      case rel =>
        obtain ⟨d, hd⟩ := HD.out
        refine ⟨k + 1, by omega, by go_num, by simp only [sumN]; rw [HS.out], ?_⟩
        rw [hd]
        exact bel_drewN HR.out d
      case measure => simp [intOf]; omega
    · have hkn : k = 20 := by omega
      subst hkn
      go_wp2
      go_ret
      exact ⟨ret_int HS.out.symm, HR.out⟩

set_option maxHeartbeats 400000 in
set_option maxRecDepth 20000 in
theorem iua_any (A : Option Addr) (n cap : Nat) (f : Nat → Rt) (w : World) (hn : n ≤ maxLen) (hr : Rs w A n f) :
    Calls Try.prog 16 #[.slice A n cap] w fun e w' => e = .returned (.int .i64 (uaF f n)) ∧ Below w.heap.size w w' := by
  have Hn := Lib.hid hn
  have Hr := Lib.hid hr
  clear hn hr
  cases hl : laidF f n
  · have H : Hid (uaF f n = -1) := Lib.hid (by unfold uaF; rw [hl]; rfl)
    go_enter Try.func16, Try.ntmps16
    go_wp2_with fail
    refine (ilaid_val A n cap f false hl _ Hn.out Hr.out).mono ?_; rintro e w1 ⟨rfl, hb1⟩; have hz1 := hb1.size; (try simp at hz1)
    go_wp2
    go_ret
    exact ⟨ret_int (by rw [H.out]), by (repeat (first | with_reducible exact Below.refl _ _ | with_reducible assumption | ((with_reducible refine Below.alloc ?_ ?_ _); rotate_left; focus (first | with_reducible exact Nat.le_refl _ | omega | (simp; done) | (simp; omega))) | ((with_reducible refine Below.setCell ?_ ?_ _); rotate_left; focus (first | with_reducible exact Nat.le_refl _ | omega | (simp; done) | (simp; omega))) | (with_reducible refine Below.drew ?_) | ((with_reducible refine Below.trans ?_ (Below.mono (by with_reducible assumption) ?_)); rotate_left; focus (first | with_reducible exact Nat.le_refl _ | omega | (simp; done) | (simp; omega)))))⟩
  · obtain ⟨h7, hok⟩ := laidF_ok hl
    have Hok := Lib.hid hok
    clear hok
    have HE : Hid (uaF f n = sumN 20 (fun y => ((popTo (rowM f n y) 20 : Nat) : Int))) := Lib.hid (by rw [row_cells f n Hok.out]; unfold uaF; rw [hl]; rfl)
    go_enter Try.func16, Try.ntmps16
    go_wp2_with fail
    refine (ilaid_val A n cap f true hl _ Hn.out Hr.out).mono ?_; rintro e w1 ⟨rfl, hb1⟩; have hz1 := hb1.size; (try simp at hz1)
    have Hr1 := Lib.hid (Hr.out.below hb1)
    go_wp2_with fail
    refine (unionof_any A n cap f _ hl Hr1.out).mono ?_; rintro e w2 ⟨rfl, hb2⟩; have hz2 := hb2.size; (try simp at hz2)
    have HZ := Lib.hid (Bm.zero w2)
    have hb3 : Below w2.heap.size w2 ((w2.alloc (.cells #[.int .u32 0, .int .u32 0, .int .u32 0, .int .u32 0, .int .u32 0, .int .u32 0, .int .u32 0, .int .u32 0, .int .u32 0, .int .u32 0, .int .u32 0, .int .u32 0, .int .u32 0, .int .u32 0, .int .u32 0, .int .u32 0, .int .u32 0, .int .u32 0, .int .u32 0, .int .u32 0] 48)).setRow w2.heap.size (bmC (rowM f n))) := below_setRow ((Below.refl _ _).alloc (Nat.le_refl _) _) (Nat.le_refl _) _
    have HB3 := Lib.hid hb3
    have HM3 := Lib.hid (HZ.out.row (m' := rowM f n))
    clear hb3
    go_wp2_with (refine wpList_store_rowTo rfl 48 (.tmp 3) (.tmp 8) rfl rfl w2.heap.size (bmC (rowM f n)) rfl rfl 48 (bmC (fun _ => 0)) HZ.out (by rw [bmC_size]; exact infoB) (by rw [bmC_size, bmC_size]) (bmC_one _) ?_)
    refine (count_any w2.heap.size (rowM f n) _ (rowM_small f n Hok.out n (Nat.le_refl _)) HM3.out).mono ?_; rintro e w3 ⟨rfl, hb3⟩
    go_wp2
    go_ret
    refine ⟨ret_int HE.out.symm, ?_⟩
    have h3 : Below w2.heap.size w2 w3 := HB3.out.trans (hb3.mono (by simp))
    exact (hb1.trans (hb2.mono hz1)).trans (h3.mono (by omega))
end Go.Proofs.Ytfdkkkdijgmbbaa
namespace Go.Proofs.Ytfdkkkdijgmbbaa
open Go.RowKit Go.Sort
set_option linter.unusedVariables false
def depF (f : Nat → Rt) (x y : Int) : Nat → Int
  | 0 => 0
  | k + 1 => depF f x y k + one (hasB (f k) x y)
theorem depF_bd (f : Nat → Rt) (x y : Int) (k : Nat) : 0 ≤ depF f x y k ∧ depF f x y k ≤ k := by
  induction k with
  | zero => simp [depF]
  | succ k ih => simp only [depF]; have := one_nonneg (hasB (f k) x y); have := one_le (hasB (f k) x y); omega
theorem depF_any (f : Nat → Rt) (x y : Int) (k : Nat) : decide (0 < depF f x y k) = anyTo f x y k := by
  induction k with
  | zero => rfl
  | succ k ih =>
    simp only [depF, anyTo]
    rw [← ih]
    have := depF_bd f x y k
    have e : ∀ b : Bool, decide (0 < depF f x y k + one b) = (decide (0 < depF f x y k) || b) := by
      intro b; cases b <;> simp [one] <;> omega
    exact e _
theorem hasB_in (r : Rt) (x y : Int) : hasB r x y = (inB x r.l (r.r - 1) && inB y r.o (r.h - 1)) := by
  rw [Bool.eq_iff_iff, Bool.and_eq_true, hasB_iff, inB_iff, inB_iff]; omega
theorem in_val (n lo hi : Int) (v : Bool) (h : inB n lo hi = v) (w : World) :
    Calls Try.prog 47 #[.int .i64 n, .int .i64 lo, .int .i64 hi] w fun e w' => e = .returned (.bool v) ∧ Below w.heap.size w w' :=
  (in_any n lo hi w).mono fun _ _ hh => ⟨h ▸ hh.1, hh.2 ▸ Below.refl _ _⟩

set_option maxHeartbeats 1000000 in
set_option maxRecDepth 20000 in
theorem depth_any (A : Option Addr) (n cap : Nat) (f : Nat → Rt) (x y : Int) (w : World) (h7 : n ≤ 7) (hok : okTo f n = true) (hr : Rs w A n f) :
    Calls Try.prog 36 #[.slice A n cap, .int .i64 x, .int .i64 y] w fun e w' => e = .returned (.int .i64 (depF f x y n)) ∧ Below w.heap.size w w' := by
  have Hr := Lib.hid hr
  have Hok := Lib.hid hok
  clear hr hok
  go_enter Try.func36, Try.ntmps36
  go_wp2
  go_loopw [7, 8] (fun d i wr => ∃ k : Nat, k ≤ n ∧ i = .int .i64 k ∧ d = .int .i64 (depF f x y k) ∧ Below w.heap.size w wr) (fun _ i _ => n - (intOf i).toNat)
  case atStart => exact ⟨0, Nat.zero_le _, rfl, rfl, Below.refl _ _⟩
  case round =>
    obtain ⟨k, hk, rfl, rfl, hbr⟩ := hrel
    have hzr := hbr.size
    obtain ⟨bd1, bd2⟩ := depF_bd f x y k
    by_cases hlt : k < n
    · obtain ⟨b, off, rfl, hbl, c0, c1, c2, c3⟩ := (Hr.out.below hbr).at_ hlt
      obtain ⟨⟨o1, o2, o3⟩, o4, o5, o6⟩ := okB_iff.1 (okTo_le Hok.out hlt)
      cases h1 : inB x (f k).l ((f k).r - 1)
      · go_wp2_with fail
        have hq : True := trivial; have hq := fun d os o => (below_regrown wr d os).cell (p := ⟨b, o, none⟩) (by first | (simp; done) | omega | (simp; omega)); refine wp_region_quiet_below (by kernel_rfl) (by kernel_rfl) ?_; (repeat (first | go_big_quiet_step (exact Calls.regrown_of (in_val _ _ _ _ (by assumption) _)) | quiet_step (exact Calls.regrown_of (in_val _ _ _ _ (by assumption) _)))); refine wpQuiet_nil ?_; intro _ hw'; obtain ⟨⟨dq, osq⟩, hw''⟩ := hw'; subst hw''; clear hq; have hb1 := below_regrown wr dq osq; generalize Sort.grow (redrawn wr dq) osq = w1 at hb1 ⊢; have hz1 := hb1.size; (try simp at hz1); have _ : b < w1.heap.size := (by first | (simp; done) | omega | (simp; omega)); have _ := fun o => hb1.cell (p := ⟨b, o, none⟩) (by first | (simp; done) | omega | (simp; omega))
        go_wp2
        go_roundw
        case rel => exact ⟨k + 1, by omega, by go_num, by simp only [depF]; rw [hasB_in, h1]; simp [one], by (repeat (first | with_reducible exact Below.refl _ _ | with_reducible assumption | ((with_reducible refine Below.alloc ?_ ?_ _); rotate_left; focus (first | with_reducible exact Nat.le_refl _ | omega | (simp; done) | (simp; omega))) | ((with_reducible refine Below.setCell ?_ ?_ _); rotate_left; focus (first | with_reducible exact Nat.le_refl _ | omega | (simp; done) | (simp; omega))) | (with_reducible refine Below.drew ?_) | ((with_reducible refine Below.trans ?_ (Below.mono (by with_reducible assumption) ?_)); rotate_left; focus (first | with_reducible exact Nat.le_refl _ | omega | (simp; done) | (simp; omega)))))⟩
        case measure => simp [intOf]; omega
      · cases h2 : inB y (f k).o ((f k).h - 1)
        · go_wp2_with fail
          have hq : True := trivial; have hq := fun d os o => (below_regrown wr d os).cell (p := ⟨b, o, none⟩) (by first | (simp; done) | omega | (simp; omega)); refine wp_region_quiet_below (by kernel_rfl) (by kernel_rfl) ?_; (repeat (first | go_big_quiet_step (exact Calls.regrown_of (in_val _ _ _ _ (by assumption) _)) | quiet_step (exact Calls.regrown_of (in_val _ _ _ _ (by assumption) _)))); refine wpQuiet_nil ?_; intro _ hw'; obtain ⟨⟨dq, osq⟩, hw''⟩ := hw'; subst hw''; clear hq; have hb1 := below_regrown wr dq osq; generalize Sort.grow (redrawn wr dq) osq = w1 at hb1 ⊢; have hz1 := hb1.size; (try simp at hz1); have _ : b < w1.heap.size := (by first | (simp; done) | omega | (simp; omega)); have _ := fun o => hb1.cell (p := ⟨b, o, none⟩) (by first | (simp; done) | omega | (simp; omega))
          go_wp2
          go_roundw
          case rel => exact ⟨k + 1, by omega, by go_num, by simp only [depF]; rw [hasB_in, h1, h2]; simp [one], by (repeat (first | with_reducible exact Below.refl _ _ | with_reducible assumption | ((with_reducible refine Below.alloc ?_ ?_ _); rotate_left; focus (first | with_reducible exact Nat.le_refl _ | omega | (simp; done) | (simp; omega))) | ((with_reducible refine Below.setCell ?_ ?_ _); rotate_left; focus (first | with_reducible exact Nat.le_refl _ | omega | (simp; done) | (simp; omega))) | (with_reducible refine Below.drew ?_) | ((with_reducible refine Below.trans ?_ (Below.mono (by with_reducible assumption) ?_)); rotate_left; focus (first | with_reducible exact Nat.le_refl _ | omega | (simp; done) | (simp; omega)))))⟩
          case measure => simp [intOf]; omega
        · go_wp2_with fail
          have hq : True := trivial; have hq := fun d os o => (below_regrown wr d os).cell (p := ⟨b, o, none⟩) (by first | (simp; done) | omega | (simp; omega)); refine wp_region_quiet_below (by kernel_rfl) (by kernel_rfl) ?_; (repeat (first | go_big_quiet_step (exact Calls.regrown_of (in_val _ _ _ _ (by assumption) _)) | quiet_step (exact Calls.regrown_of (in_val _ _ _ _ (by assumption) _)))); refine wpQuiet_nil ?_; intro _ hw'; obtain ⟨⟨dq, osq⟩, hw''⟩ := hw'; subst hw''; clear hq; have hb1 := below_regrown wr dq osq; generalize Sort.grow (redrawn wr dq) osq = w1 at hb1 ⊢; have hz1 := hb1.size; (try simp at hz1); have _ : b < w1.heap.size := (by first | (simp; done) | omega | (simp; omega)); have _ := fun o => hb1.cell (p := ⟨b, o, none⟩) (by first | (simp; done) | omega | (simp; omega))
          go_wp2
          go_roundw
          case rel => exact ⟨k + 1, by omega, by go_num, by simp only [depF]; rw [hasB_in, h1, h2]; rfl, by (repeat (first | with_reducible exact Below.refl _ _ | with_reducible assumption | ((with_reducible refine Below.alloc ?_ ?_ _); rotate_left; focus (first | with_reducible exact Nat.le_refl _ | omega | (simp; done) | (simp; omega))) | ((with_reducible refine Below.setCell ?_ ?_ _); rotate_left; focus (first | with_reducible exact Nat.le_refl _ | omega | (simp; done) | (simp; omega))) | (with_reducible refine Below.drew ?_) | ((with_reducible refine Below.trans ?_ (Below.mono (by with_reducible assumption) ?_)); rotate_left; focus (first | with_reducible exact Nat.le_refl _ | omega | (simp; done) | (simp; omega)))))⟩
          case measure => simp [intOf]; omega
    · have hkn : k = n := by omega
      subst hkn
      go_wp2
      go_ret
      exact ⟨rfl, hbr⟩

def cellF (f : Nat → Rt) (n y x : Nat) : Int := one (anyTo f x y n)
def rowF (f : Nat → Rt) (n y : Nat) : Int := sumN 20 (cellF f n y)
theorem cellF_bd (f : Nat → Rt) (n y k : Nat) : 0 ≤ sumN k (cellF f n y) ∧ sumN k (cellF f n y) ≤ k := by
  induction k with
  | zero => simp [sumN]
  | succ k ih => simp only [sumN]; have := one_nonneg (anyTo f k y n); have := one_le (anyTo f k y n); unfold cellF at *; omega
theorem rowF_bd (f : Nat → Rt) (n k : Nat) : 0 ≤ sumN k (rowF f n) ∧ sumN k (rowF f n) ≤ 20 * k := by
  induction k with
  | zero => simp [sumN]
  | succ k ih => simp only [sumN]; have h := cellF_bd f n k 20; unfold rowF at *; omega
theorem uaF_yes (f : Nat → Rt) (n : Nat) (h : laidF f n = true) : uaF f n = sumN 20 (rowF f n) := by unfold uaF; rw [h]; rfl
theorem depth_val (A : Option Addr) (n cap : Nat) (f : Nat → Rt) (x y : Int) (d : Int) (hd : depF f x y n = d) (w : World) (h7 : n ≤ 7) (hok : okTo f n = true) (hr : Rs w A n f) :
    Calls Try.prog 36 #[.slice A n cap, .int .i64 x, .int .i64 y] w fun e w' => e = .returned (.int .i64 d) ∧ Below w.heap.size w w' := hd ▸ depth_any A n cap f x y w h7 hok hr
end Go.Proofs.Ytfdkkkdijgmbbaa
