
/- Slices that a call owns; what the exact laws call: copies, comparisons, marks. -/
import Derived.Test.YthbmiibbnbbdgaaSl
import Derived.Test.YthbmiibbnbbdgaaRectC
import Derived.Laws.MakeOwn
import Derived.Laws.Entries
namespace Go.Proofs.Ythbmiibbnbbdgaa
open Go.RowKit Go.Sort
set_option linter.unusedVariables false
def zero4 : Value := .agg #[.int .i64 0, .int .i64 0, .int .i64 0, .int .i64 0]
def zero4c : Array Value := #[.int .i64 0, .int .i64 0, .int .i64 0, .int .i64 0]
theorem infoR : (Try.prog.info? 24).map (fun i => (i.zero, i.size, i.bytes)) = some (some zero4, 4, 32) := by kernel_rfl
theorem infoI : (Try.prog.info? 3).map (fun i => (i.zero, i.size, i.bytes)) = some (some (.int .i64 0), 1, 8) := by kernel_rfl
theorem make_rects (n c : Nat) (hn : n ≤ c) (hc : c ≤ 2000000) (w : World) :
    (Instr.makeSlice 31 (.int .i64 (n : Int)) (.int .i64 (c : Int))).run Try.prog w = .ok (.slice (some ⟨w.heap.size, 0, none⟩) n c) (w.alloc (.cells (madeCells zero4c (c * 4)) 24)) := by
  obtain ⟨i, hi, hz, hs, hb⟩ := info_parts infoR
  have := run_make (P := Try.prog) w 31 24 i zero4 Try.underlying31 hi hz .i64 .i64 n c (by omega) (by omega) (by rw [hb]; omega) (by omega)
  rw [hs] at this
  exact this
theorem make_ints (n c : Nat) (hn : n ≤ c) (hc : c ≤ 2000000) (w : World) :
    (Instr.makeSlice 66 (.int .i64 (n : Int)) (.int .i64 (c : Int))).run Try.prog w = .ok (.slice (some ⟨w.heap.size, 0, none⟩) n c) (w.alloc (.cells (madeCells #[.int .i64 0] c) 3)) := by
  obtain ⟨i, hi, hz, hs, hb⟩ := info_parts infoI
  have := run_make (P := Try.prog) w 66 3 i (.int .i64 0) Try.underlying66 hi hz .i64 .i64 n c (by omega) (by omega) (by rw [hb]; omega) (by omega)
  rw [hs, Nat.mul_one] at this
  exact this

/-- A slice of n rectangles that lies at the head of a block g of the call's own. -/
def Ow (w : World) (A : Option Addr) (n : Nat) (f : Nat → Rt) (g : Nat) : Prop :=
  n = 0 ∨ A = some ⟨g, 0, none⟩ ∧ g < w.heap.size ∧ (∀ i, i < n → C4 w g (i * 4) (f i)) ∧ ∀ o, o < n * 4 → w.frozen? ⟨g, o, none⟩ = false
theorem Ow.rs {w : World} {A : Option Addr} {n g : Nat} {f : Nat → Rt} (h : Ow w A n f g) : Rs w A n f := by
  rcases h with h | ⟨ha, hl, hc, _⟩
  · exact Or.inl h
  · exact Or.inr ⟨g, 0, ha, hl, fun i hi => by rw [Nat.zero_add]; exact hc i hi⟩
theorem Ow.below {w w' : World} {A : Option Addr} {n g : Nat} {f : Nat → Rt} (h : Ow w A n f g) (hb : Below w.heap.size w w') : Ow w' A n f g := by
  rcases h with h | ⟨ha, hl, hc, hf⟩
  · exact Or.inl h
  · exact Or.inr ⟨ha, Nat.lt_of_lt_of_le hl hb.size, fun i hi => (hc i hi).below hb hl, fun o ho => (hb.frozen (p := ⟨g, o, none⟩) hl).trans (hf o ho)⟩
theorem Ow.less {w : World} {A : Option Addr} {n m g : Nat} {f : Nat → Rt} (h : Ow w A n f g) (hm : m ≤ n) : Ow w A m f g := by
  rcases h with h | ⟨ha, hl, hc, hf⟩
  · exact Or.inl (by omega)
  · exact Or.inr ⟨ha, hl, fun i hi => hc i (by omega), fun o ho => hf o (by omega)⟩
theorem Ow.congr {w : World} {A : Option Addr} {n g : Nat} {f f' : Nat → Rt} (h : Ow w A n f g) (hf : ∀ i, i < n → f i = f' i) : Ow w A n f' g := by
  rcases h with h | ⟨ha, hl, hc, hz⟩
  · exact Or.inl h
  · exact Or.inr ⟨ha, hl, fun i hi => by rw [← hf i hi]; exact hc i hi, hz⟩
theorem Rs.congr {w : World} {A : Option Addr} {n : Nat} {f f' : Nat → Rt} (h : Rs w A n f) (hf : ∀ i, i < n → f i = f' i) : Rs w A n f' := by
  rcases h with h | ⟨b, off, ha, hl, hc⟩
  · exact Or.inl h
  · exact Or.inr ⟨b, off, ha, hl, fun i hi => by rw [← hf i hi]; exact hc i hi⟩
theorem grown_cell {w w' : World} {g : Nat} (hg : w.grownBy w' (some g)) {b o : Nat} (hb : b < w.heap.size) (hn : b ≠ g) : w'.cell? ⟨b, o, none⟩ = w.cell? ⟨b, o, none⟩ :=
  World.cell?_of_block (w := w) (hg.block b hb (by intro e; injection e with e; exact hn e))
theorem grown_frozen {w w' : World} {g : Nat} (hg : w.grownBy w' (some g)) {b o : Nat} (hb : b < w.heap.size) (hn : b ≠ g) : w'.frozen? ⟨b, o, none⟩ = w.frozen? ⟨b, o, none⟩ :=
  World.frozen?_of_block (w := w) (hg.block b hb (by intro e; injection e with e; exact hn e))
/-- Another block of the call's own is written. -/
theorem Ow.grown {w w' : World} {A : Option Addr} {n g g' : Nat} {f : Nat → Rt} (h : Ow w A n f g) (hg : w.grownBy w' (some g')) (hn : g ≠ g') : Ow w' A n f g := by
  rcases h with h | ⟨ha, hl, hc, hf⟩
  · exact Or.inl h
  · refine Or.inr ⟨ha, Nat.lt_of_lt_of_le hl hg.size, fun i hi => ?_, fun o ho => (grown_frozen hg hl hn).trans (hf o ho)⟩
    obtain ⟨h0, h1, h2, h3⟩ := hc i hi
    exact ⟨(grown_cell hg hl hn).trans h0, (grown_cell hg hl hn).trans h1, (grown_cell hg hl hn).trans h2, (grown_cell hg hl hn).trans h3⟩
/-- One rectangle stored. -/
def set4 (w : World) (g o : Nat) (r : Rt) : World :=
  (((w.setCell ⟨g, o, none⟩ (.int .i64 r.l)).setCell ⟨g, o + 1, none⟩ (.int .i64 r.o)).setCell ⟨g, o + 2, none⟩ (.int .i64 r.r)).setCell ⟨g, o + 3, none⟩ (.int .i64 r.h)
theorem set4_size (w : World) (g o : Nat) (r : Rt) : (set4 w g o r).heap.size = w.heap.size := by simp [set4, World.setCell]
theorem set4_frozen (w : World) (g o : Nat) (r : Rt) (p : Addr) : (set4 w g o r).frozen? p = w.frozen? p := by simp only [set4, World.frozen?_setCell]
theorem set4_other {w : World} {g o o' : Nat} {r r' : Rt} (h : C4 w g o' r') (hn : o' + 4 ≤ o ∨ o + 4 ≤ o') : C4 (set4 w g o r) g o' r' := by
  obtain ⟨h0, h1, h2, h3⟩ := h
  have key : ∀ q v, w.cell? ⟨g, q, none⟩ = v → (q < o ∨ o + 3 < q) → (set4 w g o r).cell? ⟨g, q, none⟩ = v := by
    intro q v hv hq
    unfold set4
    rw [World.cell?_setCell_other _ ⟨g, o + 3, none⟩ ⟨g, q, none⟩ _ (fun e => by injection e; omega), World.cell?_setCell_other _ ⟨g, o + 2, none⟩ ⟨g, q, none⟩ _ (fun e => by injection e; omega), World.cell?_setCell_other _ ⟨g, o + 1, none⟩ ⟨g, q, none⟩ _ (fun e => by injection e; omega), World.cell?_setCell_other _ ⟨g, o, none⟩ ⟨g, q, none⟩ _ (fun e => by injection e; omega)]
    exact hv
  exact ⟨key _ _ h0 (by omega), key _ _ h1 (by omega), key _ _ h2 (by omega), key _ _ h3 (by omega)⟩
theorem set4_same {w : World} {g o : Nat} {r r' : Rt} (h : C4 w g o r') : C4 (set4 w g o r) g o r := by
  obtain ⟨h0, h1, h2, h3⟩ := h
  unfold set4
  refine ⟨?_, ?_, ?_, ?_⟩ <;> simp [World.cell?_setCell_same', World.cell?_setCell_other, h0, h1, h2, h3]
theorem Ow.set {w : World} {A : Option Addr} {n g k : Nat} {f f' : Nat → Rt} (h : Ow w A n f g) (hk : k < n) (hf : ∀ i, i < n → i ≠ k → f i = f' i) : Ow (set4 w g (k * 4) (f' k)) A n f' g := by
  rcases h with h | ⟨ha, hl, hc, hz⟩
  · omega
  · refine Or.inr ⟨ha, by rw [set4_size]; exact hl, fun i hi => ?_, fun o ho => by rw [set4_frozen]; exact hz o ho⟩
    by_cases e : i = k
    · subst e; exact set4_same (hc i hi)
    · rw [← hf i hi e]; exact set4_other (hc i hi) (by omega)
theorem Ow.made (w : World) (n c : Nat) (hn : n ≤ c) : Ow (w.alloc (.cells (madeCells zero4c (c * 4)) 24)) (some ⟨w.heap.size, 0, none⟩) n (fun _ => Rt.zero) w.heap.size := by
  have hcell : ∀ o, o < c * 4 → (w.alloc (.cells (madeCells zero4c (c * 4)) 24)).cell? ⟨w.heap.size, o, none⟩ = some (.int .i64 0) := by
    intro o ho
    have h1 := cell_of_row (w.alloc (.cells (madeCells zero4c (c * 4)) 24)) w.heap.size o (madeCells zero4c (c * 4)) 24 (0, 0) (heap_alloc_new w _)
    rw [h1]
    have : o % 4 = 0 ∨ o % 4 = 1 ∨ o % 4 = 2 ∨ o % 4 = 3 := by omega
    rcases this with h | h | h | h <;> simp [madeCells, ho, zero4c, h]
  refine Or.inr ⟨rfl, by simp, fun i hi => ⟨hcell _ (by omega), hcell _ (by omega), hcell _ (by omega), hcell _ (by omega)⟩, fun o ho => ?_⟩
  have h1 : (w.alloc (.cells (madeCells zero4c (c * 4)) 24)).heap[w.heap.size]? = some (.cells (madeCells zero4c (c * 4)) 24 (0, 0)) := heap_alloc_new w _
  unfold World.frozen?; rw [h1]; simp
theorem Below.set4 {B : Nat} {a w : World} (h : Below B a w) {g o : Nat} (hg : B ≤ g) (r : Rt) : Below B a (set4 w g o r) :=
  (((h.setCell (p := ⟨g, _, none⟩) hg _).setCell (p := ⟨g, _, none⟩) hg _).setCell (p := ⟨g, _, none⟩) hg _).setCell (p := ⟨g, _, none⟩) hg _
theorem grown_setCell {a w : World} {g o : Nat} (h : a.grownBy w (some g)) (u : Value) : a.grownBy (w.setCell ⟨g, o, none⟩ u) (some g) :=
  ⟨h.os, h.tape, h.output, by simpa [World.setCell] using h.size, fun i hi hne => (Below.heap_setCell w ⟨g, o, none⟩ u i (fun e => hne (by rw [e]))).trans (h.block i hi hne)⟩
theorem grown_below {a w w' : World} {g : Nat} (h : a.grownBy w (some g)) (hb : Below w.heap.size w w') : a.grownBy w' (some g) :=
  ⟨hb.os.trans h.os, hb.tape.trans h.tape, hb.output.trans h.output, Nat.le_trans h.size hb.size, fun i hi hn => (hb.block i (Nat.lt_of_lt_of_le hi h.size)).trans (h.block i hi hn)⟩
theorem below_grown {a w w' : World} {B g : Nat} (h : Below B a w) (hg : w.grownBy w' (some g)) (hB : B ≤ w.heap.size) (hr : B ≤ g) : Below B a w' :=
  h.grown hg hB (fun k e => by injection e with e; omega)

/-- A slice of n ints. -/
def Is (w : World) (A : Option Addr) (n : Nat) (f : Nat → Int) : Prop :=
  n = 0 ∨ ∃ b off, A = some ⟨b, off, none⟩ ∧ b < w.heap.size ∧ ∀ i, i < n → w.cell? ⟨b, off + i, none⟩ = some (.int .i64 (f i))
theorem Is.below {w w' : World} {A : Option Addr} {n : Nat} {f : Nat → Int} (h : Is w A n f) (hb : Below w.heap.size w w') : Is w' A n f := by
  rcases h with h | ⟨b, off, ha, hl, hc⟩
  · exact Or.inl h
  · exact Or.inr ⟨b, off, ha, Nat.lt_of_lt_of_le hl hb.size, fun i hi => (hb.cell (p := ⟨b, _, none⟩) hl).trans (hc i hi)⟩
theorem Is.at_ {w : World} {A : Option Addr} {n k : Nat} {f : Nat → Int} (h : Is w A n f) (hk : k < n) : ∃ b off, A = some ⟨b, off, none⟩ ∧ b < w.heap.size ∧ w.cell? ⟨b, off + k, none⟩ = some (.int .i64 (f k)) := by
  rcases h with h | ⟨b, off, ha, hl, hc⟩
  · omega
  · exact ⟨b, off, ha, hl, hc k hk⟩
theorem Is.congr {w : World} {A : Option Addr} {n : Nat} {f f' : Nat → Int} (h : Is w A n f) (hf : ∀ i, i < n → f i = f' i) : Is w A n f' := by
  rcases h with h | ⟨b, off, ha, hl, hc⟩
  · exact Or.inl h
  · exact Or.inr ⟨b, off, ha, hl, fun i hi => by rw [← hf i hi]; exact hc i hi⟩
/-- A slice of n ints that lies at the head of a block g of the call's own. -/
def Iw (w : World) (A : Option Addr) (n : Nat) (f : Nat → Int) (g : Nat) : Prop :=
  n = 0 ∨ A = some ⟨g, 0, none⟩ ∧ g < w.heap.size ∧ (∀ i, i < n → w.cell? ⟨g, i, none⟩ = some (.int .i64 (f i))) ∧ ∀ o, o < n → w.frozen? ⟨g, o, none⟩ = false
theorem Iw.is {w : World} {A : Option Addr} {n g : Nat} {f : Nat → Int} (h : Iw w A n f g) : Is w A n f := by
  rcases h with h | ⟨ha, hl, hc, _⟩
  · exact Or.inl h
  · exact Or.inr ⟨g, 0, ha, hl, fun i hi => by rw [Nat.zero_add]; exact hc i hi⟩
theorem Iw.below {w w' : World} {A : Option Addr} {n g : Nat} {f : Nat → Int} (h : Iw w A n f g) (hb : Below w.heap.size w w') : Iw w' A n f g := by
  rcases h with h | ⟨ha, hl, hc, hf⟩
  · exact Or.inl h
  · exact Or.inr ⟨ha, Nat.lt_of_lt_of_le hl hb.size, fun i hi => (hb.cell (p := ⟨g, _, none⟩) hl).trans (hc i hi), fun o ho => (hb.frozen (p := ⟨g, o, none⟩) hl).trans (hf o ho)⟩
theorem Iw.congr {w : World} {A : Option Addr} {n g : Nat} {f f' : Nat → Int} (h : Iw w A n f g) (hf : ∀ i, i < n → f i = f' i) : Iw w A n f' g := by
  rcases h with h | ⟨ha, hl, hc, hz⟩
  · exact Or.inl h
  · exact Or.inr ⟨ha, hl, fun i hi => by rw [← hf i hi]; exact hc i hi, hz⟩
theorem Iw.grown {w w' : World} {A : Option Addr} {n g g' : Nat} {f : Nat → Int} (h : Iw w A n f g) (hg : w.grownBy w' (some g')) (hn : g ≠ g') : Iw w' A n f g := by
  rcases h with h | ⟨ha, hl, hc, hf⟩
  · exact Or.inl h
  · exact Or.inr ⟨ha, Nat.lt_of_lt_of_le hl hg.size, fun i hi => (grown_cell hg hl hn).trans (hc i hi), fun o ho => (grown_frozen hg hl hn).trans (hf o ho)⟩
theorem Iw.set {w : World} {A : Option Addr} {n g k : Nat} {f f' : Nat → Int} (h : Iw w A n f g) (hk : k < n) (hf : ∀ i, i < n → i ≠ k → f i = f' i) : Iw (w.setCell ⟨g, k, none⟩ (.int .i64 (f' k))) A n f' g := by
  rcases h with h | ⟨ha, hl, hc, hz⟩
  · omega
  · refine Or.inr ⟨ha, by simp [World.setCell]; exact hl, fun i hi => ?_, fun o ho => by rw [World.frozen?_setCell]; exact hz o ho⟩
    by_cases e : i = k
    · subst e; exact World.cell?_setCell_same' _ _ _ (by rw [hc i hi]; rfl)
    · rw [World.cell?_setCell_other _ ⟨g, k, none⟩ ⟨g, i, none⟩ _ (fun e => by injection e; omega), ← hf i hi e]; exact hc i hi
theorem Iw.made (w : World) (n : Nat) : Iw (w.alloc (.cells (madeCells #[.int .i64 0] n) 3)) (some ⟨w.heap.size, 0, none⟩) n (fun _ => 0) w.heap.size := by
  have h1 : (w.alloc (.cells (madeCells #[.int .i64 0] n) 3)).heap[w.heap.size]? = some (.cells (madeCells #[.int .i64 0] n) 3 (0, 0)) := heap_alloc_new w _
  refine Or.inr ⟨rfl, by simp, fun o ho => ?_, fun o ho => by unfold World.frozen?; rw [h1]; simp⟩
  rw [cell_of_row (w.alloc (.cells (madeCells #[.int .i64 0] n) 3)) w.heap.size o (madeCells #[.int .i64 0] n) 3 (0, 0) h1]
  simp [madeCells, ho, Nat.mod_one]
end Go.Proofs.Ythbmiibbnbbdgaa
