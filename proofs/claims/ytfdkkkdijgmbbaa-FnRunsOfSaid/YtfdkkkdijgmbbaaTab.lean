/- Tables of numbers in memory: a block of them, of which single numbers and rows are read and written. -/
import Derived.Test.YtfdkkkdijgmbbaaMathTD
namespace Go.Proofs.Ytfdkkkdijgmbbaa
open Go.RowKit Go.Sort
set_option linter.unusedVariables false
/-- The cells of a table. -/
def tbC (n : Nat) (T : Nat → Int) : Array Value := ((List.range n).map fun k => Value.int .i64 (T k)).toArray
theorem tbC_size (n : Nat) (T : Nat → Int) : (tbC n T).size = n := by simp [tbC]
theorem tbC_get (n : Nat) (T : Nat → Int) (k : Nat) (h : k < n) : (tbC n T)[k]? = some (.int .i64 (T k)) := by simp [tbC, h]
theorem tbC_ext {n : Nat} {A : Array Value} {T : Nat → Int} (hs : A.size = n) (h : ∀ k, k < n → A[k]? = some (.int .i64 (T k))) : A = tbC n T := by
  apply Array.ext
  · rw [hs, tbC_size]
  · intro i h1 h2
    have hi : i < n := by omega
    have e1 := h i hi
    have e2 := tbC_get n T i hi
    rw [Array.getElem?_eq_getElem h1] at e1
    rw [Array.getElem?_eq_getElem h2] at e2
    rw [← e2] at e1
    injection e1
theorem tbC_congr {n : Nat} {T T' : Nat → Int} (e : ∀ k, k < n → T k = T' k) : tbC n T = tbC n T' :=
  tbC_ext (tbC_size n T) fun k hk => by rw [tbC_get n T k hk, e k hk]
theorem tbC_set {n : Nat} {T T' : Nat → Int} {k : Nat} (e : ∀ j, j < n → j ≠ k → T j = T' j) : (tbC n T).setIfInBounds k (.int .i64 (T' k)) = tbC n T' := by
  refine tbC_ext (by simp [tbC]) fun j hj => ?_
  by_cases h : k = j
  · subst h; rw [Array.getElem?_setIfInBounds_self_of_lt (by rw [tbC_size]; exact hj)]
  · rw [Array.getElem?_setIfInBounds_ne h, tbC_get n T j hj, e j hj (fun e => h e.symm)]
theorem tbC_one (n : Nat) (T : Nat → Int) : (tbC n T).all (·.oneCell') = true := by
  rw [Array.all_eq_true]; intro i hi; simp [tbC, Value.oneCell']
theorem tbC_part (n m o : Nat) (T : Nat → Int) (h : o + m ≤ n) : (tbC n T).extract o (o + m) = tbC m (fun i => T (o + i)) := by
  refine tbC_ext (by rw [Array.size_extract, tbC_size]; omega) fun k hk => ?_
  have e := tbC_get n T (o + k) (by omega)
  rw [Array.getElem?_extract_of_lt (by rw [tbC_size]; omega)]
  rw [Array.getElem?_eq_getElem (by rw [tbC_size]; omega)] at e
  exact e
/-- A table at block g. -/
def Tb (w : World) (g n : Nat) (t : TypeId) (T : Nat → Int) : Prop := w.heap[g]? = some (.cells (tbC n T) t (0, 0))
section
variable {w w' : World} {g n : Nat} {t : TypeId} {T T' : Nat → Int}
theorem Tb.lt (h : Tb w g n t T) : g < w.heap.size := by
  rcases Nat.lt_or_ge g w.heap.size with hlt | hge
  · exact hlt
  · unfold Tb at h; rw [Array.getElem?_eq_none hge] at h; cases h
theorem Tb.c (h : Tb w g n t T) (k : Nat) (hk : k < n) : w.cell? ⟨g, k, none⟩ = some (.int .i64 (T k)) := by
  rw [cell_of_row w g k _ _ _ h, tbC_get n T k hk]
theorem Tb.fz (h : Tb w g n t T) (k : Nat) : w.frozen? ⟨g, k, none⟩ = false := frozen_of_row w g k _ _ h
theorem Tb.below (h : Tb w g n t T) (hb : Below w.heap.size w w') : Tb w' g n t T := (hb.block g h.lt).trans h
theorem Tb.congr (h : Tb w g n t T) (e : ∀ k, k < n → T k = T' k) : Tb w g n t T' := by
  unfold Tb at *; rw [← tbC_congr e]; exact h
theorem Tb.far (h : Tb w g n t T) {g' : Nat} (hg : w.grownBy w' (some g')) (hn : g ≠ g') : Tb w' g n t T :=
  (hg.block g h.lt (by intro e; injection e with e; exact hn e)).trans h
theorem Tb.set (h : Tb w g n t T) {k : Nat} (e : ∀ j, j < n → j ≠ k → T j = T' j) : Tb (w.setCell ⟨g, k, none⟩ (.int .i64 (T' k))) g n t T' := by
  unfold Tb
  rw [heap_setCell_same w g k _ _ _ h, tbC_set e]
theorem Tb.bumped (h : Tb w g n t T) (k : Nat) (d : Int) : Tb (w.setCell ⟨g, k, none⟩ (.int .i64 (T k + d))) g n t (bump T k d) := by
  have := h.set (k := k) (T' := bump T k d) (fun j _ hne => (bump_other T d hne).symm)
  rw [bump_same] at this
  exact this
theorem Tb.row (h : Tb w g n t T) : Tb (w.setRow g (tbC n T')) g n t T' := setRow_heap w g _ _ t _ h
theorem Tb.new (w : World) (n : Nat) (t : TypeId) (T : Nat → Int) : Tb (w.alloc (.cells (tbC n T) t)) w.heap.size n t T := heap_alloc_new w _
theorem Tb.drew (h : Tb w g n t T) : Tb w.drew g n t T := h
theorem Tb.drewN (h : Tb w g n t T) (m : Nat) : Tb (w.drewN m) g n t T := h
theorem Tb.setFar (h : Tb w g n t T) {a : Addr} {v : Value} (hn : g ≠ a.block) : Tb (w.setCell a v) g n t T := (heap_setCell_other w a g v hn).trans h
theorem Tb.rowFar (h : Tb w g n t T) {g' : Nat} {cs : Array Value} (hn : g ≠ g') : Tb (w.setRow g' cs) g n t T := (setRow_other w g' g cs hn).trans h
end
/-- A table of which a part is put anew. -/
def putT (T : Nat → Int) (o i m : Nat) (V : Nat → Int) : Nat → Int := fun k => if o + i ≤ k ∧ k < o + i + m then V (k - o) else T k
theorem setRow_same {w : World} {g n : Nat} {t : TypeId} {T : Nat → Int} (h : Tb w g n t T) : w.setRow g (tbC n T) = w := by
  unfold Tb at h
  unfold World.setRow
  have hlt : g < w.heap.size := (Array.getElem?_eq_some_iff.1 h).1
  have hv : w.heap[g] = .cells (tbC n T) t (0, 0) := (Array.getElem?_eq_some_iff.1 h).2
  cases w with
  | mk heap tape drawn os output =>
    congr 1
    apply Array.ext
    · simp
    · intro k h1 h2
      simp only [Array.getElem_modify]
      split
      · rename_i hk; subst hk; simp at hv; simp [hv]
      · rfl
section
variable {P : Program}
theorem run_storeInts (g o n : Nat) (t : TypeId) (V : Nat → Int) : ∀ (m i : Nat) (T : Nat → Int) (w : World), Tb w g n t T → o + i + m ≤ n →
    (storeCells ⟨g, o, none⟩ ((List.range' i m).map fun j => Value.int .i64 (V j)) i).run P w = .ok () (w.setRow g (tbC n (putT T o i m V)))
  | 0, i, T, w, h, hl => by
    have e : putT T o i 0 V = T := by funext k; unfold putT; rw [if_neg (by omega)]
    rw [e, setRow_same h]; rfl
  | m + 1, i, T, w, h, hl => by
    have hadd : (⟨g, o, none⟩ : Addr).add i = ⟨g, o + i, none⟩ := by unfold Addr.add; split <;> simp_all
    have hs := h.set (k := o + i) (T' := fun k => if k = o + i then V i else T k) (fun j _ hne => by rw [if_neg hne])
    simp only [if_true] at hs
    have hst : (store ((⟨g, o, none⟩ : Addr).add i) (.int .i64 (V i))).run P w = .ok () (w.setCell ⟨g, o + i, none⟩ (.int .i64 (V i))) := by
      rw [hadd, run_store P w _ _ _ rfl, h.c (o + i) (by omega)]
      simp [h.fz]
    have ih := run_storeInts g o n t V m (i + 1) _ _ hs (by omega)
    rw [List.range'_succ, List.map_cons]
    simp only [storeCells, Sem.run_bind, hst, Result.andThen_ok]
    rw [ih, setCell_eq_setRow w g (o + i) _ t (0, 0) _ h, setRow_setRow]
    congr 3
    funext k
    unfold putT
    dsimp only
    by_cases hk : k = o + i
    · subst hk; rw [if_neg (by omega), if_pos rfl, if_pos (by omega), Nat.add_sub_cancel_left]
    · by_cases h2 : o + (i + 1) ≤ k ∧ k < o + (i + 1) + m
      · rw [if_pos h2, if_pos (by omega)]
      · rw [if_neg h2, if_neg hk, if_neg (by omega)]
theorem run_storeVar_part (w : World) (g o m n : Nat) (t ty : TypeId) (T V : Nat → Int) (h : Tb w g n t T) (hl : o + m ≤ n) (hi : (P.info? ty).map (·.size) = some m) :
    (storeVar ty ⟨g, o, none⟩ (.agg (tbC m V))).run P w = .ok () (w.setRow g (tbC n (putT T o 0 m V))) := by
  have := run_storeInts (P := P) g o n t V m 0 T w h (by omega)
  cases hq : P.info? ty with
  | none => simp [hq] at hi
  | some i =>
    have hs : i.size = m := by simpa [hq] using hi
    have hc : (tbC m V).toList = (List.range' 0 m).map fun j => Value.int .i64 (V j) := by simp [tbC, List.range_eq_range']
    simp [storeVar, sizeOf, typeInfo, hq, Value.cells, hs, tbC_size, hc, this]
/-- A row is stored into a table. -/
theorem wpList_store_part {ops : Array Oper} {rest : List Oper} {o : Oper} {a : Act} {w : World} {Q : Exit → Act → World → Prop} (hgd : o.guard = none) (ty : TypeId) (x y : Operand) (ho : o.op = .store ty x y)
    (hd : o.dst = none) (g at_ m n : Nat) (t : TypeId) (T V : Nat → Int) (hx : a.eval x = .pointer (some ⟨g, at_, none⟩)) (hy : a.eval y = .agg (tbC m V)) (hg : Tb w g n t T) (hl : at_ + m ≤ n)
    (hi : (P.info? ty).map (·.size) = some m)
    (h : wpList P ops Q rest a (w.setRow g (tbC n (putT T at_ 0 m V)))) : wpList P ops Q (o :: rest) a w :=
  wpList_plain hgd fun _ hK => by
    unfold Oper.wp execOp
    simp only [ho, hx, hy, Instr.storeAt, Instr.sureAddr, Sem.run_bind, Sem.run_pure, Result.andThen_ok, run_storeVar_part w g at_ m n t ty T V hg hl hi]
    exact hK _ _ (by rw [hd]; exact h)
/-- A variable is made. -/
theorem wpList_alloc_row {ops : Array Oper} {rest : List Oper} {o : Oper} {a : Act} {w : World} {Q : Exit → Act → World → Prop} (hgd : o.guard = none) (ty : TypeId) (ho : o.op = .alloc ty) (d : Option Tmp) (hd : o.dst = d)
    (cells : Array Value) (hz : (P.info? ty).bind (·.zero) = some (.agg cells))
    (h : wpList P ops Q rest (a.put d (.pointer (some ⟨w.heap.size, 0, none⟩))) (w.alloc (.cells cells ty))) : wpList P ops Q (o :: rest) a w :=
  wpList_plain hgd fun _ hK => by
    cases hq : P.info? ty with
    | none => simp [hq] at hz
    | some i =>
      have hz' : i.zero = some (.agg cells) := by simpa [hq] using hz
      unfold Oper.wp execOp
      simp only [ho]
      simp [Instr.alloc, zeroValue, typeInfo, hq, hz', newVar, newRow, Value.cells, Sem.run_bind, Oper.upon_value]
      exact hK _ _ (by rw [hd]; exact h)
/-- A value goes into a box. -/
theorem wpList_box_row {ops : Array Oper} {rest : List Oper} {o : Oper} {a : Act} {w : World} {Q : Exit → Act → World → Prop} (hgd : o.guard = none) (ty : TypeId) (x : Operand) (ho : o.op = .box ty x) (d : Option Tmp) (hd : o.dst = d)
    (cells : Array Value) (hx : a.eval x = .agg cells)
    (h : wpList P ops Q rest (a.put d (.pointer (some ⟨w.heap.size, 0, none⟩))) (w.alloc (.cells cells ty))) : wpList P ops Q (o :: rest) a w :=
  wpList_plain hgd fun _ hK => by
    unfold Oper.wp execOp
    simp only [ho, hx]
    simp [Instr.box, newVar, newRow, Value.cells, Oper.upon_value]
    exact hK _ _ (by rw [hd]; exact h)
theorem run_index_row (t e : TypeId) (d : TypeDesc) (len m n : Nat) (T : Nat → Int) (k : Nat) (ht : P.underlying t = some (.array len e)) (he : P.underlying e = some d)
    (hd : (match d with | .struct _ | .array _ _ => true | _ => false) = true) (hs : (P.info? e).map (·.size) = some m) (hk : k < len) (hn : len * m ≤ n) (w : World) :
    (Instr.index t (.agg (tbC n T)) (.int .i64 k)).run P w = .ok (.agg (tbC m (fun i => T (k * m + i)))) w := by
  cases hq : P.info? e with
  | none => simp [hq] at hs
  | some i =>
    have hs' : i.size = m := by simpa [hq] using hs
    have hagg : (isAgg e).run P w = .ok true w := by
      unfold isAgg
      rw [Sem.run_bind, run_underlying he w]
      cases d <;> simp_all
    have hle : k * m + m ≤ n := by
      have h1 : (k + 1) * m ≤ len * m := Nat.mul_le_mul_right m (by omega)
      rw [Nat.add_mul, Nat.one_mul] at h1; omega
    simp [Instr.index, asIntOf, Sem.run_bind, run_underlying ht w, hk, sizeOf, typeInfo, hq, hs', part, hagg, tbC_part n m (k * m) T hle]
theorem run_index_int (t e : TypeId) (d : TypeDesc) (len n : Nat) (T : Nat → Int) (k : Nat) (ht : P.underlying t = some (.array len e)) (he : P.underlying e = some d)
    (hd : (match d with | .struct _ | .array _ _ => true | _ => false) = false) (hs : (P.info? e).map (·.size) = some 1) (hk : k < len) (hn : len ≤ n) (w : World) :
    (Instr.index t (.agg (tbC n T)) (.int .i64 k)).run P w = .ok (.int .i64 (T k)) w := by
  cases hq : P.info? e with
  | none => simp [hq] at hs
  | some i =>
    have hs' : i.size = 1 := by simpa [hq] using hs
    have hagg : (isAgg e).run P w = .ok false w := by
      unfold isAgg
      rw [Sem.run_bind, run_underlying he w]
      cases d <;> simp_all
    simp [Instr.index, asIntOf, Sem.run_bind, run_underlying ht w, hk, sizeOf, typeInfo, hq, hs', part, hagg, tbC_get n T k (by omega)]
end
end Go.Proofs.Ytfdkkkdijgmbbaa
