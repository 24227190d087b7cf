/- Slices of rectangles; LaidOk of impl and of spec. Slices that a call owns; what the exact laws call: copies, comparisons, marks. What the exact laws call on slices: copies, comparisons, marks. Bits: those of a choice of rectangles, and those of a row of cells. -/
import Derived.Test.YtfdkkkdijgmbbaaRc
import Derived.LoopTactic
import Derived.Laws.MakeOwn
import Derived.Laws.Entries
import Derived.Lib.BitFns
import Derived.Laws.BitsAllLaws
namespace Go.Proofs.Ytfdkkkdijgmbbaa
open Go.RowKit Go.Sort
set_option linter.unusedVariables false

/-- A rectangle's four cells. -/
def C4 (w : World) (b o : Nat) (r : Rt) : Prop :=
  w.cell? ⟨b, o, none⟩ = some (.int .i64 r.l) ∧ w.cell? ⟨b, o + 1, none⟩ = some (.int .i64 r.o) ∧ w.cell? ⟨b, o + 2, none⟩ = some (.int .i64 r.r) ∧ w.cell? ⟨b, o + 3, none⟩ = some (.int .i64 r.h)
/-- A slice of n rectangles, f 0 .. f (n - 1). -/
def Rs (w : World) (A : Option Addr) (n : Nat) (f : Nat → Rt) : Prop :=
  n = 0 ∨ ∃ b off, A = some ⟨b, off, none⟩ ∧ b < w.heap.size ∧ ∀ i, i < n → C4 w b (off + i * 4) (f i)
theorem C4.below {w w' : World} {b o : Nat} {r : Rt} (h : C4 w b o r) (hb : Below w.heap.size w w') (hl : b < w.heap.size) : C4 w' b o r := by
  obtain ⟨h0, h1, h2, h3⟩ := h
  exact ⟨(hb.cell (p := ⟨b, _, none⟩) hl).trans h0, (hb.cell (p := ⟨b, _, none⟩) hl).trans h1, (hb.cell (p := ⟨b, _, none⟩) hl).trans h2, (hb.cell (p := ⟨b, _, none⟩) hl).trans h3⟩
theorem Rs.below {w w' : World} {A : Option Addr} {n : Nat} {f : Nat → Rt} (h : Rs w A n f) (hb : Below w.heap.size w w') : Rs w' A n f := by
  rcases h with h | ⟨b, off, ha, hl, hc⟩
  · exact Or.inl h
  · exact Or.inr ⟨b, off, ha, Nat.lt_of_lt_of_le hl hb.size, fun i hi => (hc i hi).below hb hl⟩
theorem Rs.less {w : World} {A : Option Addr} {n m : Nat} {f : Nat → Rt} (h : Rs w A n f) (hm : m ≤ n) : Rs w A m f := by
  rcases h with h | ⟨b, off, ha, hl, hc⟩
  · exact Or.inl (by omega)
  · exact Or.inr ⟨b, off, ha, hl, fun i hi => hc i (by omega)⟩
theorem Rs.at_ {w : World} {A : Option Addr} {n k : Nat} {f : Nat → Rt} (h : Rs w A n f) (hk : k < n) : ∃ b off, A = some ⟨b, off, none⟩ ∧ b < w.heap.size ∧ C4 w b (off + k * 4) (f k) := by
  rcases h with h | ⟨b, off, ha, hl, hc⟩
  · omega
  · exact ⟨b, off, ha, hl, hc k hk⟩
def okTo (f : Nat → Rt) : Nat → Bool
  | 0 => true
  | k + 1 => okTo f k && okB (f k)
theorem okTo_le {f : Nat → Rt} {n k : Nat} (h : okTo f n = true) (hk : k < n) : okB (f k) = true := by
  induction n with
  | zero => omega
  | succ n ih =>
    simp only [okTo, Bool.and_eq_true] at h
    by_cases e : k = n
    · subst e; exact h.2
    · exact ih h.1 (by omega)
theorem okTo_no {f : Nat → Rt} {n k : Nat} (hk : k < n) (h : okB (f k) = false) : okTo f n = false := by
  rw [Bool.eq_false_iff]; intro hh; rw [okTo_le hh hk] at h; cases h
theorem okTo_all (f : Nat → Rt) (n : Nat) : (upTo f n).all okB = okTo f n := by
  induction n with
  | zero => rfl
  | succ n ih => simp [upTo, okTo, ih]
def laidF (f : Nat → Rt) (n : Nat) : Bool := decide (n ≤ 7) && okTo f n
theorem laidF_up (f : Nat → Rt) (n : Nat) : laidF f n = laidB (upTo f n) := by
  unfold laidF laidB; rw [upTo_len, okTo_all]

theorem iok_val (a : Rt) (v : Bool) (h : okB a = v) (w : World) :
    Calls Try.prog 37 #[rv a] w fun e w' => e = .returned (.bool v) ∧ Below w.heap.size w w' := h ▸ iok_any a w
theorem sok_val (a : Rt) (v : Bool) (h : okB a = v) (w : World) :
    Calls Try.prog 49 #[rv a] w fun e w' => e = .returned (.bool v) ∧ Below w.heap.size w w' := h ▸ sok_any a w

set_option maxHeartbeats 400000 in
set_option maxRecDepth 20000 in
theorem ilaid_any (A : Option Addr) (n cap : Nat) (f : Nat → Rt) (w : World) (hn : n ≤ maxLen) (hr : Rs w A n f) :
    Calls Try.prog 33 #[.slice A n cap] w fun e w' => e = .returned (.bool (laidF f n)) ∧ Below w.heap.size w w' := by
  unfold maxLen at hn
  have Hr := Lib.hid hr
  clear hr
  by_cases h7 : 7 < n
  · go_enter Try.func33, Try.ntmps33
    go_wp2
    go_ret
    exact ⟨ret_bool (by unfold laidF; simp; omega), Below.refl _ _⟩
  · go_enter Try.func33, Try.ntmps33
    go_wp2
    go_loopw [10] (fun i wr => ∃ k : Nat, k ≤ n ∧ i = .int .i64 k ∧ okTo f k = true ∧ Below w.heap.size w wr) (fun i _ => n - (intOf i).toNat)
    case atStart => exact ⟨0, Nat.zero_le _, rfl, rfl, Below.refl _ _⟩
    case round =>
      obtain ⟨k, hk, rfl, hok, hbr⟩ := hrel
      have hzr := hbr.size
      have Hk := Lib.hid hok
      clear hok
      by_cases hlt : k < n
      · obtain ⟨b, off, rfl, hl, c0, c1, c2, c3⟩ := (Hr.out.below hbr).at_ hlt
        cases ho : okB (f k)
        · go_wp2_with fail
          refine (iok_val (f k) false ho _).mono ?_; rintro e w1 ⟨rfl, hb1⟩; have hz1 := hb1.size; (try simp at hz1)
          go_wp2
          go_ret
          exact ⟨ret_bool (by unfold laidF; rw [okTo_no hlt ho, Bool.and_false]), by (repeat (first | with_reducible exact Below.refl _ _ | with_reducible assumption | ((with_reducible refine Below.alloc ?_ ?_ _); rotate_left; focus (first | with_reducible exact Nat.le_refl _ | omega | (simp; done) | (simp; omega))) | ((with_reducible refine Below.setCell ?_ ?_ _); rotate_left; focus (first | with_reducible exact Nat.le_refl _ | omega | (simp; done) | (simp; omega))) | (with_reducible refine Below.drew ?_) | ((with_reducible refine Below.trans ?_ (Below.mono (by with_reducible assumption) ?_)); rotate_left; focus (first | with_reducible exact Nat.le_refl _ | omega | (simp; done) | (simp; omega)))))⟩
        · go_wp2_with fail
          refine (iok_val (f k) true ho _).mono ?_; rintro e w1 ⟨rfl, hb1⟩; have hz1 := hb1.size; (try simp at hz1)
          go_wp2
          go_roundw
          case rel => exact ⟨k + 1, by omega, by go_num, by simp only [okTo]; rw [Hk.out, ho]; rfl, by (repeat (first | with_reducible exact Below.refl _ _ | with_reducible assumption | ((with_reducible refine Below.alloc ?_ ?_ _); rotate_left; focus (first | with_reducible exact Nat.le_refl _ | omega | (simp; done) | (simp; omega))) | ((with_reducible refine Below.setCell ?_ ?_ _); rotate_left; focus (first | with_reducible exact Nat.le_refl _ | omega | (simp; done) | (simp; omega))) | (with_reducible refine Below.drew ?_) | ((with_reducible refine Below.trans ?_ (Below.mono (by with_reducible assumption) ?_)); rotate_left; focus (first | with_reducible exact Nat.le_refl _ | omega | (simp; done) | (simp; omega)))))⟩
          case measure => simp [intOf]; omega
      · have hkn : k = n := by omega
        subst hkn
        go_wp2
        go_ret
        exact ⟨ret_bool (by unfold laidF; rw [Hk.out]; simp; omega), hbr⟩
end Go.Proofs.Ytfdkkkdijgmbbaa
namespace Go.Proofs.Ytfdkkkdijgmbbaa
open Go.RowKit Go.Sort
set_option linter.unusedVariables false
def zero4 : Value := .agg #[.int .i64 0, .int .i64 0, .int .i64 0, .int .i64 0]
def zero4c : Array Value := #[.int .i64 0, .int .i64 0, .int .i64 0, .int .i64 0]
theorem infoR : (Try.prog.info? 29).map (fun i => (i.zero, i.size, i.bytes)) = some (some zero4, 4, 32) := by kernel_rfl
theorem infoI : (Try.prog.info? 3).map (fun i => (i.zero, i.size, i.bytes)) = some (some (.int .i64 0), 1, 8) := by kernel_rfl
theorem make_rects (n c : Nat) (hn : n ≤ c) (hc : c ≤ 2000000) (w : World) :
    (Instr.makeSlice 23 (.int .i64 (n : Int)) (.int .i64 (c : Int))).run Try.prog w = .ok (.slice (some ⟨w.heap.size, 0, none⟩) n c) (w.alloc (.cells (madeCells zero4c (c * 4)) 29)) := by
  obtain ⟨i, hi, hz, hs, hb⟩ := info_parts infoR
  have := run_make (P := Try.prog) w 23 29 i zero4 Try.underlying23 hi hz .i64 .i64 n c (by omega) (by omega) (by rw [hb]; omega) (by omega)
  rw [hs] at this
  exact this
/-- A slice of n rectangles that lies at the head of a block g of the call's own. -/
def Ow (w : World) (A : Option Addr) (n : Nat) (f : Nat → Rt) (g : Nat) : Prop :=
  n = 0 ∨ A = some ⟨g, 0, none⟩ ∧ g < w.heap.size ∧ (∀ i, i < n → C4 w g (i * 4) (f i)) ∧ ∀ o, o < n * 4 → w.frozen? ⟨g, o, none⟩ = false
theorem Ow.rs {w : World} {A : Option Addr} {n g : Nat} {f : Nat → Rt} (h : Ow w A n f g) : Rs w A n f := by
  rcases h with h | ⟨ha, hl, hc, _⟩
  · exact Or.inl h
  · exact Or.inr ⟨g, 0, ha, hl, fun i hi => by rw [Nat.zero_add]; exact hc i hi⟩
theorem Ow.below {w w' : World} {A : Option Addr} {n g : Nat} {f : Nat → Rt} (h : Ow w A n f g) (hb : Below w.heap.size w w') : Ow w' A n f g := by
  rcases h with h | ⟨ha, hl, hc, hf⟩
  · exact Or.inl h
  · exact Or.inr ⟨ha, Nat.lt_of_lt_of_le hl hb.size, fun i hi => (hc i hi).below hb hl, fun o ho => (hb.frozen (p := ⟨g, o, none⟩) hl).trans (hf o ho)⟩
theorem Ow.less {w : World} {A : Option Addr} {n m g : Nat} {f : Nat → Rt} (h : Ow w A n f g) (hm : m ≤ n) : Ow w A m f g := by
  rcases h with h | ⟨ha, hl, hc, hf⟩
  · exact Or.inl (by omega)
  · exact Or.inr ⟨ha, hl, fun i hi => hc i (by omega), fun o ho => hf o (by omega)⟩
theorem Ow.congr {w : World} {A : Option Addr} {n g : Nat} {f f' : Nat → Rt} (h : Ow w A n f g) (hf : ∀ i, i < n → f i = f' i) : Ow w A n f' g := by
  rcases h with h | ⟨ha, hl, hc, hz⟩
  · exact Or.inl h
  · exact Or.inr ⟨ha, hl, fun i hi => by rw [← hf i hi]; exact hc i hi, hz⟩
theorem Rs.congr {w : World} {A : Option Addr} {n : Nat} {f f' : Nat → Rt} (h : Rs w A n f) (hf : ∀ i, i < n → f i = f' i) : Rs w A n f' := by
  rcases h with h | ⟨b, off, ha, hl, hc⟩
  · exact Or.inl h
  · exact Or.inr ⟨b, off, ha, hl, fun i hi => by rw [← hf i hi]; exact hc i hi⟩
theorem grown_cell {w w' : World} {g : Nat} (hg : w.grownBy w' (some g)) {b o : Nat} (hb : b < w.heap.size) (hn : b ≠ g) : w'.cell? ⟨b, o, none⟩ = w.cell? ⟨b, o, none⟩ :=
  World.cell?_of_block (w := w) (hg.block b hb (by intro e; injection e with e; exact hn e))
theorem grown_frozen {w w' : World} {g : Nat} (hg : w.grownBy w' (some g)) {b o : Nat} (hb : b < w.heap.size) (hn : b ≠ g) : w'.frozen? ⟨b, o, none⟩ = w.frozen? ⟨b, o, none⟩ :=
  World.frozen?_of_block (w := w) (hg.block b hb (by intro e; injection e with e; exact hn e))
/-- Another block of the call's own is written. -/
theorem Ow.grown {w w' : World} {A : Option Addr} {n g g' : Nat} {f : Nat → Rt} (h : Ow w A n f g) (hg : w.grownBy w' (some g')) (hn : g ≠ g') : Ow w' A n f g := by
  rcases h with h | ⟨ha, hl, hc, hf⟩
  · exact Or.inl h
  · refine Or.inr ⟨ha, Nat.lt_of_lt_of_le hl hg.size, fun i hi => ?_, fun o ho => (grown_frozen hg hl hn).trans (hf o ho)⟩
    obtain ⟨h0, h1, h2, h3⟩ := hc i hi
    exact ⟨(grown_cell hg hl hn).trans h0, (grown_cell hg hl hn).trans h1, (grown_cell hg hl hn).trans h2, (grown_cell hg hl hn).trans h3⟩
/-- One rectangle stored. -/
def set4 (w : World) (g o : Nat) (r : Rt) : World :=
  (((w.setCell ⟨g, o, none⟩ (.int .i64 r.l)).setCell ⟨g, o + 1, none⟩ (.int .i64 r.o)).setCell ⟨g, o + 2, none⟩ (.int .i64 r.r)).setCell ⟨g, o + 3, none⟩ (.int .i64 r.h)
theorem set4_size (w : World) (g o : Nat) (r : Rt) : (set4 w g o r).heap.size = w.heap.size := by simp [set4, World.setCell]
theorem set4_frozen (w : World) (g o : Nat) (r : Rt) (p : Addr) : (set4 w g o r).frozen? p = w.frozen? p := by simp only [set4, World.frozen?_setCell]
theorem set4_other {w : World} {g o o' : Nat} {r r' : Rt} (h : C4 w g o' r') (hn : o' + 4 ≤ o ∨ o + 4 ≤ o') : C4 (set4 w g o r) g o' r' := by
  obtain ⟨h0, h1, h2, h3⟩ := h
  have key : ∀ q v, w.cell? ⟨g, q, none⟩ = v → (q < o ∨ o + 3 < q) → (set4 w g o r).cell? ⟨g, q, none⟩ = v := by
    intro q v hv hq
    unfold set4
    rw [World.cell?_setCell_other _ ⟨g, o + 3, none⟩ ⟨g, q, none⟩ _ (fun e => by injection e; omega), World.cell?_setCell_other _ ⟨g, o + 2, none⟩ ⟨g, q, none⟩ _ (fun e => by injection e; omega), World.cell?_setCell_other _ ⟨g, o + 1, none⟩ ⟨g, q, none⟩ _ (fun e => by injection e; omega), World.cell?_setCell_other _ ⟨g, o, none⟩ ⟨g, q, none⟩ _ (fun e => by injection e; omega)]
    exact hv
  exact ⟨key _ _ h0 (by omega), key _ _ h1 (by omega), key _ _ h2 (by omega), key _ _ h3 (by omega)⟩
theorem set4_same {w : World} {g o : Nat} {r r' : Rt} (h : C4 w g o r') : C4 (set4 w g o r) g o r := by
  obtain ⟨h0, h1, h2, h3⟩ := h
  unfold set4
  refine ⟨?_, ?_, ?_, ?_⟩ <;> simp [World.cell?_setCell_same', World.cell?_setCell_other, h0, h1, h2, h3]
theorem Ow.set {w : World} {A : Option Addr} {n g k : Nat} {f f' : Nat → Rt} (h : Ow w A n f g) (hk : k < n) (hf : ∀ i, i < n → i ≠ k → f i = f' i) : Ow (set4 w g (k * 4) (f' k)) A n f' g := by
  rcases h with h | ⟨ha, hl, hc, hz⟩
  · omega
  · refine Or.inr ⟨ha, by rw [set4_size]; exact hl, fun i hi => ?_, fun o ho => by rw [set4_frozen]; exact hz o ho⟩
    by_cases e : i = k
    · subst e; exact set4_same (hc i hi)
    · rw [← hf i hi e]; exact set4_other (hc i hi) (by omega)
theorem Ow.made (w : World) (n c : Nat) (hn : n ≤ c) : Ow (w.alloc (.cells (madeCells zero4c (c * 4)) 29)) (some ⟨w.heap.size, 0, none⟩) n (fun _ => Rt.zero) w.heap.size := by
  have hcell : ∀ o, o < c * 4 → (w.alloc (.cells (madeCells zero4c (c * 4)) 29)).cell? ⟨w.heap.size, o, none⟩ = some (.int .i64 0) := by
    intro o ho
    have h1 := cell_of_row (w.alloc (.cells (madeCells zero4c (c * 4)) 29)) w.heap.size o (madeCells zero4c (c * 4)) 29 (0, 0) (heap_alloc_new w _)
    rw [h1]
    have : o % 4 = 0 ∨ o % 4 = 1 ∨ o % 4 = 2 ∨ o % 4 = 3 := by omega
    rcases this with h | h | h | h <;> simp [madeCells, ho, zero4c, h]
  refine Or.inr ⟨rfl, by simp, fun i hi => ⟨hcell _ (by omega), hcell _ (by omega), hcell _ (by omega), hcell _ (by omega)⟩, fun o ho => ?_⟩
  have h1 : (w.alloc (.cells (madeCells zero4c (c * 4)) 29)).heap[w.heap.size]? = some (.cells (madeCells zero4c (c * 4)) 29 (0, 0)) := heap_alloc_new w _
  unfold World.frozen?; rw [h1]; simp
theorem Below.set4 {B : Nat} {a w : World} (h : Below B a w) {g o : Nat} (hg : B ≤ g) (r : Rt) : Below B a (set4 w g o r) :=
  (((h.setCell (p := ⟨g, _, none⟩) hg _).setCell (p := ⟨g, _, none⟩) hg _).setCell (p := ⟨g, _, none⟩) hg _).setCell (p := ⟨g, _, none⟩) hg _
theorem grown_setCell {a w : World} {g o : Nat} (h : a.grownBy w (some g)) (u : Value) : a.grownBy (w.setCell ⟨g, o, none⟩ u) (some g) :=
  ⟨h.os, h.tape, h.output, by simpa [World.setCell] using h.size, fun i hi hne => (Below.heap_setCell w ⟨g, o, none⟩ u i (fun e => hne (by rw [e]))).trans (h.block i hi hne)⟩
theorem grown_below {a w w' : World} {g : Nat} (h : a.grownBy w (some g)) (hb : Below w.heap.size w w') : a.grownBy w' (some g) :=
  ⟨hb.os.trans h.os, hb.tape.trans h.tape, hb.output.trans h.output, Nat.le_trans h.size hb.size, fun i hi hn => (hb.block i (Nat.lt_of_lt_of_le hi h.size)).trans (h.block i hi hn)⟩
theorem below_grown {a w w' : World} {B g : Nat} (h : Below B a w) (hg : w.grownBy w' (some g)) (hB : B ≤ w.heap.size) (hr : B ≤ g) : Below B a w' :=
  h.grown hg hB (fun k e => by injection e with e; omega)

/-- A slice of n ints. -/
def Is (w : World) (A : Option Addr) (n : Nat) (f : Nat → Int) : Prop :=
  n = 0 ∨ ∃ b off, A = some ⟨b, off, none⟩ ∧ b < w.heap.size ∧ ∀ i, i < n → w.cell? ⟨b, off + i, none⟩ = some (.int .i64 (f i))
theorem Is.below {w w' : World} {A : Option Addr} {n : Nat} {f : Nat → Int} (h : Is w A n f) (hb : Below w.heap.size w w') : Is w' A n f := by
  rcases h with h | ⟨b, off, ha, hl, hc⟩
  · exact Or.inl h
  · exact Or.inr ⟨b, off, ha, Nat.lt_of_lt_of_le hl hb.size, fun i hi => (hb.cell (p := ⟨b, _, none⟩) hl).trans (hc i hi)⟩
theorem Is.at_ {w : World} {A : Option Addr} {n k : Nat} {f : Nat → Int} (h : Is w A n f) (hk : k < n) : ∃ b off, A = some ⟨b, off, none⟩ ∧ b < w.heap.size ∧ w.cell? ⟨b, off + k, none⟩ = some (.int .i64 (f k)) := by
  rcases h with h | ⟨b, off, ha, hl, hc⟩
  · omega
  · exact ⟨b, off, ha, hl, hc k hk⟩
theorem Is.congr {w : World} {A : Option Addr} {n : Nat} {f f' : Nat → Int} (h : Is w A n f) (hf : ∀ i, i < n → f i = f' i) : Is w A n f' := by
  rcases h with h | ⟨b, off, ha, hl, hc⟩
  · exact Or.inl h
  · exact Or.inr ⟨b, off, ha, hl, fun i hi => by rw [← hf i hi]; exact hc i hi⟩
/-- A slice of n ints that lies at the head of a block g of the call's own. -/
def Iw (w : World) (A : Option Addr) (n : Nat) (f : Nat → Int) (g : Nat) : Prop :=
  n = 0 ∨ A = some ⟨g, 0, none⟩ ∧ g < w.heap.size ∧ (∀ i, i < n → w.cell? ⟨g, i, none⟩ = some (.int .i64 (f i))) ∧ ∀ o, o < n → w.frozen? ⟨g, o, none⟩ = false
theorem Iw.is {w : World} {A : Option Addr} {n g : Nat} {f : Nat → Int} (h : Iw w A n f g) : Is w A n f := by
  rcases h with h | ⟨ha, hl, hc, _⟩
  · exact Or.inl h
  · exact Or.inr ⟨g, 0, ha, hl, fun i hi => by rw [Nat.zero_add]; exact hc i hi⟩
theorem Iw.below {w w' : World} {A : Option Addr} {n g : Nat} {f : Nat → Int} (h : Iw w A n f g) (hb : Below w.heap.size w w') : Iw w' A n f g := by
  rcases h with h | ⟨ha, hl, hc, hf⟩
  · exact Or.inl h
  · exact Or.inr ⟨ha, Nat.lt_of_lt_of_le hl hb.size, fun i hi => (hb.cell (p := ⟨g, _, none⟩) hl).trans (hc i hi), fun o ho => (hb.frozen (p := ⟨g, o, none⟩) hl).trans (hf o ho)⟩
theorem Iw.congr {w : World} {A : Option Addr} {n g : Nat} {f f' : Nat → Int} (h : Iw w A n f g) (hf : ∀ i, i < n → f i = f' i) : Iw w A n f' g := by
  rcases h with h | ⟨ha, hl, hc, hz⟩
  · exact Or.inl h
  · exact Or.inr ⟨ha, hl, fun i hi => by rw [← hf i hi]; exact hc i hi, hz⟩
theorem Iw.grown {w w' : World} {A : Option Addr} {n g g' : Nat} {f : Nat → Int} (h : Iw w A n f g) (hg : w.grownBy w' (some g')) (hn : g ≠ g') : Iw w' A n f g := by
  rcases h with h | ⟨ha, hl, hc, hf⟩
  · exact Or.inl h
  · exact Or.inr ⟨ha, Nat.lt_of_lt_of_le hl hg.size, fun i hi => (grown_cell hg hl hn).trans (hc i hi), fun o ho => (grown_frozen hg hl hn).trans (hf o ho)⟩
theorem Iw.set {w : World} {A : Option Addr} {n g k : Nat} {f f' : Nat → Int} (h : Iw w A n f g) (hk : k < n) (hf : ∀ i, i < n → i ≠ k → f i = f' i) : Iw (w.setCell ⟨g, k, none⟩ (.int .i64 (f' k))) A n f' g := by
  rcases h with h | ⟨ha, hl, hc, hz⟩
  · omega
  · refine Or.inr ⟨ha, by simp [World.setCell]; exact hl, fun i hi => ?_, fun o ho => by rw [World.frozen?_setCell]; exact hz o ho⟩
    by_cases e : i = k
    · subst e; exact World.cell?_setCell_same' _ _ _ (by rw [hc i hi]; rfl)
    · rw [World.cell?_setCell_other _ ⟨g, k, none⟩ ⟨g, i, none⟩ _ (fun e => by injection e; omega), ← hf i hi e]; exact hc i hi
theorem Iw.grownN {w w' : World} {A : Option Addr} {n g g' : Nat} {f : Nat → Int} (h : Iw w A n f g) (hg : w.grownBy w' (some g')) (hn : n = 0 ∨ g ≠ g') : Iw w' A n f g := by
  rcases hn with hn | hn
  · exact Or.inl hn
  · exact h.grown hg hn
theorem Iw.ltN {w : World} {A : Option Addr} {n g : Nat} {f : Nat → Int} (h : Iw w A n f g) : n = 0 ∨ g < w.heap.size := by
  rcases h with h | ⟨_, hl, _⟩
  · exact Or.inl h
  · exact Or.inr hl
theorem Iw.made (w : World) (n : Nat) : Iw (w.alloc (.cells (madeCells #[.int .i64 0] n) 3)) (some ⟨w.heap.size, 0, none⟩) n (fun _ => 0) w.heap.size := by
  have h1 : (w.alloc (.cells (madeCells #[.int .i64 0] n) 3)).heap[w.heap.size]? = some (.cells (madeCells #[.int .i64 0] n) 3 (0, 0)) := heap_alloc_new w _
  refine Or.inr ⟨rfl, by simp, fun o ho => ?_, fun o ho => by unfold World.frozen?; rw [h1]; simp⟩
  rw [cell_of_row (w.alloc (.cells (madeCells #[.int .i64 0] n) 3)) w.heap.size o (madeCells #[.int .i64 0] n) 3 (0, 0) h1]
  simp [madeCells, ho, Nat.mod_one]
end Go.Proofs.Ytfdkkkdijgmbbaa
namespace Go.Proofs.Ytfdkkkdijgmbbaa
open Go.RowKit Go.Sort
set_option linter.unusedVariables false
/-- the laws' marks -/
def mkR (k : Int) (i : Nat) : Rt := ⟨k + i * 4, k + i * 4 + 1, k + i * 4 + 2, k + i * 4 + 3⟩
def mkI (k : Int) (i : Nat) : Int := k + i
theorem name_world {P : Program} {c : Code} {Q : Exit → Act → World → Prop} {a : Act} {w : World} (h : ∀ w0, w = w0 → c.wp P Q a w0) : c.wp P Q a w := h w rfl
theorem below_of_eq {w w0 : World} (h : w = w0) : Below w.heap.size w w0 := h ▸ Below.refl _ _
theorem bel_drewN {B : Nat} {a w : World} (h : Below B a w) (n : Nat) : Below B a (w.drewN n) := ⟨h.os, h.tape, h.output, h.size, h.block⟩
/-- A slice of rectangles is handed back, in a block of the call's own. -/
def RectsPost (n : Nat) (f : Nat → Rt) (w : World) (e : Ending) (w' : World) : Prop :=
  ∃ A cap g, e = .returned (.slice A n cap) ∧ Ow w' A n f g ∧ w.heap.size ≤ g ∧ Below w.heap.size w w'

set_option maxHeartbeats 400000 in
set_option maxRecDepth 20000 in
theorem sz_yes (A : Option Addr) (n cap : Nat) (w : World) (hn : n ≤ 1048576) :
    Calls Try.prog 28 #[.slice A n cap, .int .i64 1048576] w fun e w' => e = .returned (.int .i64 (1048576 - n)) ∧ w = w' := by
  have h0 : ¬ (1048576 - (n : Int) < 0) := by omega
  go_enter Try.func28, Try.ntmps28
  go_wp2
  go_ret
  exact ⟨rfl, rfl⟩
set_option maxHeartbeats 400000 in
set_option maxRecDepth 20000 in
theorem sz_no (A : Option Addr) (n cap : Nat) (w : World) (hm : n ≤ maxLen) (hn : 1048576 < n) :
    Calls Try.prog 28 #[.slice A n cap, .int .i64 1048576] w fun e w' => e = .returned (.int .i64 (-1)) ∧ w = w' := by
  unfold maxLen at hm
  have h0 : 1048576 - (n : Int) < 0 := by omega
  go_enter Try.func28, Try.ntmps28
  go_wp2
  go_ret
  exact ⟨rfl, rfl⟩

set_option maxHeartbeats 400000 in
set_option maxRecDepth 20000 in
theorem torects_sz (A : Option Addr) (n cap : Nat) (f : Nat → Rt) (w : World) (hn : n ≤ 1048576) (hr : Rs w A n f) :
    Calls Try.prog 29 #[.slice A n cap] w fun e w' => e = .returned (.slice (some ⟨w.heap.size, 0, none⟩) n n) ∧ Ow w' (some ⟨w.heap.size, 0, none⟩) n f w.heap.size ∧ Below w.heap.size w w' ∧ w.heap.size < w'.heap.size := by
  have Hr := Lib.hid hr
  clear hr
  have hmk := make_rects n n (Nat.le_refl _) (by omega)
  go_enter Try.func29, Try.ntmps29
  go_wp2
  go_loopw [4] (fun i wr => ∃ k : Nat, k ≤ n ∧ i = .int .i64 k ∧ Ow wr (some ⟨w.heap.size, 0, none⟩) n (fun i => if i < k then f i else Rt.zero) w.heap.size ∧ Below w.heap.size w wr ∧ w.heap.size < wr.heap.size) (fun i _ => n - (intOf i).toNat)
  case atStart => exact ⟨0, Nat.zero_le _, rfl, (Ow.made w n n (Nat.le_refl _)).congr (fun i _ => by simp), (Below.refl _ _).alloc (Nat.le_refl _) _, by simp⟩
  case round =>
    obtain ⟨k, hk, rfl, hro, hbr, hlt9⟩ := hrel
    have hzr := hbr.size
    have Hro := Lib.hid hro
    clear hro
    by_cases hlt : k < n
    · obtain ⟨b, off, rfl, hl, c0, c1, c2, c3⟩ := (Hr.out.below hbr).at_ hlt
      rcases Hro.out with h0 | ⟨_, hlt0, hc, hz⟩
      · omega
      have d := hc k hlt
      obtain ⟨d0, d1, d2, d3⟩ := d
      have f0 := hz (k * 4) (by omega)
      have f1 := hz (k * 4 + 1) (by omega)
      have f2 := hz (k * 4 + 2) (by omega)
      have f3 := hz (k * 4 + 3) (by omega)
      clear hc hz
      go_wp2_with fail
      refine (torect_any (f k) _).mono ?_; rintro e w1 ⟨rfl, hb1⟩; have hz1 := hb1.size; (try simp at hz1); have _ : w.heap.size < w1.heap.size := (by first | (simp; done) | omega | (simp; omega)); have _ := fun o => hb1.cell (p := ⟨w.heap.size, o, none⟩) (by first | (simp; done) | omega | (simp; omega)); have _ := fun o => hb1.frozen (p := ⟨w.heap.size, o, none⟩) (by first | (simp; done) | omega | (simp; omega))
      go_wp2
      go_roundw
      case rel =>
        refine ⟨k + 1, by omega, by go_num, ?_, Below.set4 (hbr.trans (hb1.mono hzr)) (Nat.le_refl _) (f k), ?_⟩
        rotate_left
        · have := set4_size w1 w.heap.size (k * 4) (f k); unfold set4 at this; omega
        have := (Hro.out.below hb1).set (k := k) (f' := fun i => if i < k + 1 then f i else Rt.zero) hlt (fun i _ hne => by
          by_cases h : i < k
          · rw [if_pos h, if_pos (by omega)]
          · rw [if_neg h, if_neg (by omega)])
        rw [if_pos (by omega)] at this
        exact this
      case measure => simp [intOf]; omega
    · have hkn : k = n := by omega
      subst hkn
      go_wp2
      go_ret
      exact ⟨rfl, Hro.out.congr (fun i hi => by rw [if_pos hi]), hbr, hlt9⟩
theorem torects_any (A : Option Addr) (n cap : Nat) (f : Nat → Rt) (w : World) (hn : n ≤ 1048576) (hr : Rs w A n f) :
    Calls Try.prog 29 #[.slice A n cap] w fun e w' => e = .returned (.slice (some ⟨w.heap.size, 0, none⟩) n n) ∧ Ow w' (some ⟨w.heap.size, 0, none⟩) n f w.heap.size ∧ Below w.heap.size w w' :=
  (torects_sz A n cap f w hn hr).mono fun _ _ h => ⟨h.1, h.2.1, h.2.2.1⟩

set_option maxHeartbeats 400000 in
set_option maxRecDepth 20000 in
theorem eqrects_same (A B : Option Addr) (n c d : Nat) (f : Nat → Rt) (w : World) (hm : n ≤ maxLen) (hA : Rs w A n f) (hB : Rs w B n f) :
    Calls Try.prog 30 #[.slice A n c, .slice B n d] w fun e w' => e = .returned (.bool true) ∧ Below w.heap.size w w' := by
  have HA := Lib.hid hA
  have HB := Lib.hid hB
  clear hA hB
  unfold maxLen at hm
  go_enter Try.func30, Try.ntmps30
  go_wp2
  go_loopw [5] (fun i wr => ∃ k : Nat, k ≤ n ∧ i = .int .i64 k ∧ Below w.heap.size w wr) (fun i _ => n - (intOf i).toNat)
  case atStart => exact ⟨0, Nat.zero_le _, rfl, Below.refl _ _⟩
  case round =>
    obtain ⟨k, hk, rfl, hbr⟩ := hrel
    have hzr := hbr.size
    by_cases hlt : k < n
    · obtain ⟨b, off, rfl, hl, c0, c1, c2, c3⟩ := (HA.out.below hbr).at_ hlt
      obtain ⟨b2, off2, rfl, hl2, d0, d1, d2, d3⟩ := (HB.out.below hbr).at_ hlt
      go_wp2_with fail
      have hq : True := trivial; have hq := fun d os o => (below_regrown wr d os).cell (p := ⟨b, o, none⟩) (by first | (simp; done) | omega | (simp; omega)); have hq := fun d os o => (below_regrown wr d os).cell (p := ⟨b2, o, none⟩) (by first | (simp; done) | omega | (simp; omega)); refine wp_region_quiet_below (by kernel_rfl) (by kernel_rfl) ?_; (repeat (first | go_big_quiet_step (exact Calls.regrown_of (eqrect_same (f k) _)) | quiet_step (exact Calls.regrown_of (eqrect_same (f k) _)))); refine wpQuiet_nil ?_; intro _ hw'; obtain ⟨⟨dq, osq⟩, hw''⟩ := hw'; subst hw''; clear hq; have hb1 := below_regrown wr dq osq; generalize Sort.grow (redrawn wr dq) osq = w1 at hb1 ⊢; have hz1 := hb1.size; (try simp at hz1); have _ : b < w1.heap.size := (by first | (simp; done) | omega | (simp; omega)); have _ : b2 < w1.heap.size := (by first | (simp; done) | omega | (simp; omega)); have _ := fun o => hb1.cell (p := ⟨b, o, none⟩) (by first | (simp; done) | omega | (simp; omega)); have _ := fun o => hb1.cell (p := ⟨b2, o, none⟩) (by first | (simp; done) | omega | (simp; omega))
      go_wp2
      go_roundw
      case rel => exact ⟨k + 1, by omega, by go_num, by (repeat (first | with_reducible exact Below.refl _ _ | with_reducible assumption | ((with_reducible refine Below.alloc ?_ ?_ _); rotate_left; focus (first | with_reducible exact Nat.le_refl _ | omega | (simp; done) | (simp; omega))) | ((with_reducible refine Below.setCell ?_ ?_ _); rotate_left; focus (first | with_reducible exact Nat.le_refl _ | omega | (simp; done) | (simp; omega))) | (with_reducible refine Below.drew ?_) | ((with_reducible refine Below.trans ?_ (Below.mono (by with_reducible assumption) ?_)); rotate_left; focus (first | with_reducible exact Nat.le_refl _ | omega | (simp; done) | (simp; omega)))))⟩
      case measure => simp [intOf]; omega
    · go_wp2
      go_ret
      exact ⟨rfl, hbr⟩

theorem int4 (a : Int) (k : Nat) : a + (k : Int) * 4 + 1 + 1 + 1 + 1 = a + ((k + 1 : Nat) : Int) * 4 := by omega
theorem Ow.marked {w : World} {A : Option Addr} {n g k : Nat} {f : Nat → Rt} (h : Ow w A n (fun i => if i < k then mkR 1 i else f i) g) (hk : k < n) :
    Ow (set4 w g (k * 4) (mkR 1 k)) A n (fun i => if i < k + 1 then mkR 1 i else f i) g := by
  have := h.set (k := k) (f' := fun i => if i < k + 1 then mkR 1 i else f i) hk (fun i _ hne => by
    by_cases h : i < k
    · rw [if_pos h, if_pos (by omega)]
    · rw [if_neg h, if_neg (by omega)])
  rw [if_pos (by omega)] at this
  exact this
theorem int1 (a : Int) (k : Nat) : a + (k : Int) + 1 = a + ((k + 1 : Nat) : Int) := by omega
theorem Iw.marked {w : World} {A : Option Addr} {n g k : Nat} {f : Nat → Int} (h : Iw w A n (fun i => if i < k then mkI 1 i else f i) g) (hk : k < n) :
    Iw (w.setCell ⟨g, k, none⟩ (.int .i64 (1 + k))) A n (fun i => if i < k + 1 then mkI 1 i else f i) g := by
  have := h.set (k := k) (f' := fun i => if i < k + 1 then mkI 1 i else f i) hk (fun i _ hne => by
    by_cases h : i < k
    · rw [if_pos h, if_pos (by omega)]
    · rw [if_neg h, if_neg (by omega)])
  rw [if_pos (by omega)] at this
  exact this
end Go.Proofs.Ytfdkkkdijgmbbaa
namespace Go.Proofs.Ytfdkkkdijgmbbaa
open Go.RowKit Go.Sort
set_option linter.unusedVariables false
/-- how many bits below k are set -/
def popTo (s : Nat) : Nat → Nat
  | 0 => 0
  | k + 1 => popTo s k + (if s.testBit k then 1 else 0)
theorem has_eq : ∀ s : Fin 128, ∀ i : Fin 7, (bits .and .u64 (((s.val : Nat) : Int) / 2 ^ i.val) 1 == 1) = s.val.testBit i.val := by decide +kernel
theorem all_eq : ∀ n : Fin 8, IntKind.u64.wrap (IntKind.u64.wrap (2 ^ n.val) - 1) = ((2 ^ n.val - 1 : Nat) : Int) := by decide +kernel
def oc6 (x : Int) : Int := bits .and .i64 (wrap64 x) 127
def oc5 (x : Int) : Int := oc6 (IntKind.u64.wrap (x + x / 4294967296))
def oc4 (x : Int) : Int := oc5 (IntKind.u64.wrap (x + x / 65536))
def oc3 (x : Int) : Int := oc4 (IntKind.u64.wrap (x + x / 256))
def oc2 (x : Int) : Int := oc3 (bits .and .u64 (IntKind.u64.wrap (x / 16 + x)) 1085102592571150095)
def oc1 (x : Int) : Int := oc2 (IntKind.u64.wrap (bits .and .u64 (x / 4) 3689348814741910323 + bits .and .u64 x 3689348814741910323))
def oc0 (x : Int) : Int := oc1 (IntKind.u64.wrap (bits .and .u64 (x / 2) 6148914691236517205 + bits .and .u64 x 6148914691236517205))
theorem oc_eq : ∀ s : Fin 128, oc0 (s.val : Nat) = (popTo s.val 7 : Nat) := by decide +kernel

theorem pop8_to : ∀ n : Fin 256, Lib.pop8 ((n.val : Nat) : Int) = (popTo n.val 8 : Nat) := by decide +kernel
theorem popTo_le (s k : Nat) : popTo s k ≤ k := by
  induction k with
  | zero => exact Nat.le_refl _
  | succ k ih => simp only [popTo]; split <;> omega
theorem pop8_bd (n : Nat) (h : n < 256) : 0 ≤ Lib.pop8 (n : Int) ∧ Lib.pop8 (n : Int) ≤ 8 := by
  have e := pop8_to ⟨n, h⟩
  have := popTo_le n 8
  dsimp only at e
  rw [e]; omega
theorem popTo_congr {s t : Nat} : ∀ (k : Nat), (∀ i, i < k → s.testBit i = t.testBit i) → popTo s k = popTo t k
  | 0, _ => rfl
  | k + 1, h => by simp only [popTo]; rw [popTo_congr k (fun i hi => h i (by omega)), h k (by omega)]
theorem popTo_split (n j k : Nat) : popTo n (j + k) = popTo n j + popTo (n / 2 ^ j) k := by
  induction k with
  | zero => rfl
  | succ k ih => rw [show j + (k + 1) = (j + k) + 1 by omega]; simp only [popTo]; rw [ih, Nat.testBit_div_two_pow, Nat.add_comm k j]; omega
theorem popTo_mod (n k : Nat) : popTo (n % 2 ^ k) k = popTo n k :=
  popTo_congr k fun i hi => by rw [Nat.testBit_mod_two_pow]; simp [hi]
theorem popTo_small (n j : Nat) (h : n < 2 ^ j) (k : Nat) : popTo n (j + k) = popTo n j := by
  rw [popTo_split, Nat.div_eq_of_lt h]
  suffices popTo 0 k = 0 by omega
  induction k with
  | zero => rfl
  | succ k ih => simp only [popTo]; rw [ih]; simp
theorem ones32_eq (n a b c : Nat) (hn : n < 1048576) (ha : n / 65536 % 256 = a) (hb : n / 256 % 256 = b) (hc : n % 256 = c) :
    Lib.pop8 (a : Int) + Lib.pop8 (b : Int) + Lib.pop8 (c : Int) = (popTo n 20 : Nat) := by
  have ea := pop8_to ⟨a, by omega⟩
  have eb := pop8_to ⟨b, by omega⟩
  have ec := pop8_to ⟨c, by omega⟩
  dsimp only at ea eb ec
  rw [ea, eb, ec, ← popTo_small n 20 hn 4, show (20 + 4 : Nat) = 8 + (8 + 8) by omega, popTo_split n 8, popTo_split (n / 2 ^ 8) 8, Nat.div_div_eq_div_mul,
    ← popTo_mod n 8, ← popTo_mod (n / 2 ^ 8) 8, ← popTo_mod (n / (2 ^ 8 * 2 ^ 8)) 8]
  have e1 : n % 2 ^ 8 = c := hc
  have e2 : n / 2 ^ 8 % 2 ^ 8 = b := hb
  have e3 : n / (2 ^ 8 * 2 ^ 8) % 2 ^ 8 = a := ha
  rw [e1, e2, e3]
  omega
set_option maxHeartbeats 400000 in
set_option maxRecDepth 20000 in
theorem ones32_any (n : Nat) (w : World) (hn : n < 1048576) :
    Calls Try.prog 46 #[.int .u32 n] w fun e w' => e = .returned (.int .i64 (popTo n 20 : Nat)) ∧ ∃ d, w' = w.drewN d := by
  have h0 : (n : Int) / 16777216 = 0 := by omega
  have h1 : bits .and .u32 ((n : Int) / 65536) 255 = ((n / 65536 % 256 : Nat) : Int) := by
    have := u32_and_nat (n / 65536) 255 (by omega) (by omega)
    rw [Nat.and_two_pow_sub_one_eq_mod _ 8] at this
    exact this
  have h2 : bits .and .u32 ((n : Int) / 256) 255 = ((n / 256 % 256 : Nat) : Int) := by
    have := u32_and_nat (n / 256) 255 (by omega) (by omega)
    rw [Nat.and_two_pow_sub_one_eq_mod _ 8] at this
    exact this
  have h3 : bits .and .u32 (n : Int) 255 = ((n % 256 : Nat) : Int) := by
    have := u32_and_nat n 255 (by omega) (by omega)
    rw [Nat.and_two_pow_sub_one_eq_mod _ 8] at this
    exact this
  obtain ⟨a, ha⟩ : ∃ a, n / 65536 % 256 = a := ⟨_, rfl⟩
  obtain ⟨b, hb⟩ : ∃ b, n / 256 % 256 = b := ⟨_, rfl⟩
  obtain ⟨c, hc⟩ : ∃ c, n % 256 = c := ⟨_, rfl⟩
  rw [ha] at h1
  rw [hb] at h2
  rw [hc] at h3
  have a1 : (a : Int) ≤ 255 := by omega
  have b1 : (b : Int) ≤ 255 := by omega
  have c1 : (c : Int) ≤ 255 := by omega
  have p0 : Lib.pop8 0 = 0 := by decide +kernel
  obtain ⟨pa1, pa2⟩ := pop8_bd a (by omega)
  obtain ⟨pb1, pb2⟩ := pop8_bd b (by omega)
  obtain ⟨pc1, pc2⟩ := pop8_bd c (by omega)
  have Ha := Lib.hid ha
  have Hb := Lib.hid hb
  have Hc := Lib.hid hc
  clear ha hb hc
  go_enter Try.func46, Try.ntmps46
  go_wp2
  simp only [List.append, Lib.fold_pop8tab]
  refine wp_region_quiet_lit (by kernel_rfl) (by kernel_rfl) ?_
  (repeat (first | go_big_quiet_step (fail) | quiet_step (fail)))
  refine wpQuiet_nil ?_
  intro _ hw'
  obtain ⟨nq, hw''⟩ := hw'
  subst hw''
  go_wp2
  go_ret
  exact ⟨ret_int (ones32_eq n a b c hn Ha.out Hb.out Hc.out), nq, rfl⟩
end Go.Proofs.Ytfdkkkdijgmbbaa
