/- Chapter 2: WithOne of impl. Chapter 2: appending rectangles; WithOne of spec; the exact law's walk. -/
import Derived.Test.YtfdkkkdijgmbbaaUni
import Derived.Deep.AppendLies
import Derived.Maps.AppendAt
import Derived.Deep.RegionLaw
namespace Go.Proofs.Ytfdkkkdijgmbbaa
open Go.RowKit Go.Sort
set_option linter.unusedVariables false
abbrev four (r : Rt) : List Value := [.int .i64 r.l, .int .i64 r.o, .int .i64 r.r, .int .i64 r.h]
/-- The cells of a slice of rectangles. -/
def rowL (f : Nat → Rt) : Nat → List Value
  | 0 => []
  | k + 1 => rowL f k ++ four (f k)
theorem rowL_len (f : Nat → Rt) (k : Nat) : (rowL f k).length = k * 4 := by
  induction k with
  | zero => rfl
  | succ k ih => simp only [rowL, List.length_append, ih, four, List.length_cons, List.length_nil]; omega
theorem rowL_get (f : Nat → Rt) (j : Nat) : ∀ k i, i < k → j < 4 → (rowL f k)[i * 4 + j]? = (four (f i))[j]? := by
  intro k
  induction k with
  | zero => intro i h; omega
  | succ k ih =>
    intro i h hj
    simp only [rowL]
    by_cases e : i = k
    · subst e
      rw [List.getElem?_append_right (by rw [rowL_len]; omega), rowL_len]
      congr 1; omega
    · rw [List.getElem?_append_left (by rw [rowL_len]; omega)]
      exact ih i (by omega) hj
theorem rowL_one (f : Nat → Rt) (k : Nat) : ∀ u ∈ rowL f k, u.oneCell' = true := by
  induction k with
  | zero => intro u hu; simp [rowL] at hu
  | succ k ih =>
    intro u hu
    simp only [rowL, List.mem_append] at hu
    rcases hu with hu | hu
    · exact ih u hu
    · simp [four] at hu; rcases hu with rfl | rfl | rfl | rfl <;> rfl
theorem four_one (r : Rt) : ∀ u ∈ four r, u.oneCell' = true := by
  intro u hu; simp [four] at hu; rcases hu with rfl | rfl | rfl | rfl <;> rfl
theorem rowL_congr {f f' : Nat → Rt} (k : Nat) (h : ∀ i, i < k → f i = f' i) : rowL f k = rowL f' k := by
  induction k with
  | zero => rfl
  | succ k ih => simp only [rowL]; rw [ih (fun i hi => h i (by omega)), h k (by omega)]
theorem Rs.news {w : World} {A : Option Addr} {n : Nat} {f : Nat → Rt} (h : Rs w A n f) : ∀ ad, A = some ad → ∀ j u, (rowL f n)[j]? = some u → w.cell? (ad.add j) = some u := by
  intro ad hA j u hu
  have hj : j < n * 4 := by
    rcases Nat.lt_or_ge j (n * 4) with h | h
    · exact h
    · rw [List.getElem?_eq_none (by rw [rowL_len]; exact h)] at hu; cases hu
  rcases h with h | ⟨b, off, hA', hl, hc⟩
  · omega
  · rw [hA'] at hA
    injection hA with hA
    subst hA
    rw [Go.WideShapes.add_plain]
    obtain ⟨c0, c1, c2, c3⟩ := hc (j / 4) (by omega)
    have hg := rowL_get f (j % 4) n (j / 4) (by omega) (by omega)
    rw [show j / 4 * 4 + j % 4 = j by omega, hu] at hg
    have hm : j % 4 = 0 ∨ j % 4 = 1 ∨ j % 4 = 2 ∨ j % 4 = 3 := by omega
    rcases hm with e | e | e | e <;> rw [e] at hg <;> simp [four] at hg <;> subst hg
    · rw [show off + j = off + j / 4 * 4 by omega]; exact c0
    · rw [show off + j = off + j / 4 * 4 + 1 by omega]; exact c1
    · rw [show off + j = off + j / 4 * 4 + 2 by omega]; exact c2
    · rw [show off + j = off + j / 4 * 4 + 3 by omega]; exact c3
/-- What a slice's own header says. -/
def Hd (A : Option Addr) (n cap : Nat) : Prop := n ≤ cap ∧ (A = none → cap = 0)
theorem own_ow {w : World} {base : Nat} {v : Value} {n : Nat} {f : Nat → Rt} (h : w.ownsRow base 29 4 v n (rowL f n)) :
    ∃ A cap g, v = .slice A n cap ∧ Ow w A n f g ∧ base ≤ g ∧ Hd A n cap := by
  have h0 := h
  rcases h.2 with ⟨rfl, rfl⟩ | ⟨g, cap, cur, rfl, hb, hg, hnc, hcm, _, _⟩
  · exact ⟨none, 0, base, rfl, Or.inl rfl, Nat.le_refl _, Nat.le_refl _, fun _ => rfl⟩
  · refine ⟨some ⟨g, 0, none⟩, cap, g, rfl, Or.inr ⟨rfl, ?_, fun i hi => ?_, fun o _ => h0.frozenAt o⟩, hb, hnc, fun e => by cases e⟩
    · rcases Nat.lt_or_ge g w.heap.size with hlt | hge
      · exact hlt
      · rw [Array.getElem?_eq_none hge] at hg; cases hg
    · have key : ∀ j, j < 4 → w.cell? ⟨g, i * 4 + j, none⟩ = (four (f i))[j]? := fun j hj => by
        rw [h0.cellAt (i * 4 + j) (by omega)]; exact rowL_get f j n i hi hj
      exact ⟨key 0 (by omega), key 1 (by omega), key 2 (by omega), key 3 (by omega)⟩
/-- one more behind -/
def withF (f : Nat → Rt) (n : Nat) (r : Rt) (i : Nat) : Rt := if i < n then f i else r
theorem rowL_with (f : Nat → Rt) (n : Nat) (r : Rt) : rowL f n ++ four r = rowL (withF f n r) (n + 1) := by
  simp only [rowL]
  rw [rowL_congr (f := withF f n r) (f' := f) n (fun i hi => by unfold withF; rw [if_pos hi])]
  unfold withF
  rw [if_neg (by omega)]
theorem okTo_congr {f f' : Nat → Rt} (k : Nat) (h : ∀ i, i < k → f i = f' i) : okTo f k = okTo f' k := by
  induction k with
  | zero => rfl
  | succ k ih => simp only [okTo]; rw [ih (fun i hi => h i (by omega)), h k (by omega)]
def woB (f : Nat → Rt) (n : Nat) (r : Rt) : Bool := laidF (withF f n r) (n + 1)
theorem woB_eq (f : Nat → Rt) (n : Nat) (r : Rt) : woB f n r = (laidF f n && (okB r && !decide (n = 7))) := by
  unfold woB laidF
  simp only [okTo]
  rw [okTo_congr (f := withF f n r) (f' := f) n (fun i hi => by unfold withF; rw [if_pos hi]), show withF f n r n = r by unfold withF; rw [if_neg (by omega)]]
  by_cases h : n + 1 ≤ 7
  · rw [show decide (n + 1 ≤ 7) = true by simpa using h, show decide (n ≤ 7) = true by simp; omega, show decide (n = 7) = false by simp; omega]; simp
  · rw [show decide (n + 1 ≤ 7) = false by simpa using h]
    by_cases e : n = 7
    · rw [show decide (n = 7) = true by simpa using e]; simp
    · rw [show decide (n ≤ 7) = false by simp; omega]; simp
/-- How many: none if it isn't. -/
def cntF (b : Bool) (n : Nat) : Nat := if b then n else 0
/-- A slice of rectangles, and whether it is one. -/
def WoPost (b : Bool) (n : Nat) (f : Nat → Rt) (w : World) (e : Ending) (w' : World) : Prop :=
  ∃ A cap g, e = .returned (.tuple #[.slice A (cntF b n) cap, .bool b]) ∧ Ow w' A (cntF b n) f g ∧ w.heap.size ≤ g ∧ Hd A (cntF b n) cap ∧ Below w.heap.size w w'
theorem four_news (w : World) (r : Rt) : ∀ ad, (some (⟨w.heap.size, 0, none⟩ : Addr)) = some ad → ∀ j u, (four r)[j]? = some u → (w.alloc (.cells #[.int .i64 r.l, .int .i64 r.o, .int .i64 r.r, .int .i64 r.h] 29)).cell? (ad.add j) = some u := by
  intro ad e j u hu
  injection e with e
  subst e
  rw [Go.WideShapes.add_plain, Nat.zero_add, cell_of_row _ _ _ _ _ _ (heap_alloc_new w _)]
  simpa using hu
theorem make_rects1 (n : Nat) (hn : n ≤ 7) (w : World) :
    (Instr.makeSlice 23 (.int .i64 0) (.int .i64 ((n : Int) + 1))).run Try.prog w = .ok (.slice (some ⟨w.heap.size, 0, none⟩) 0 (n + 1)) (w.alloc (.cells (madeCells zero4c ((n + 1) * 4)) 29)) :=
  make_rects 0 (n + 1) (Nat.zero_le _) (by omega) w

end Go.Proofs.Ytfdkkkdijgmbbaa
namespace Go.Proofs.Ytfdkkkdijgmbbaa
open Go.RowKit Go.Sort
set_option linter.unusedVariables false
theorem own_below {w w' : World} {base : Nat} {e : TypeId} {size n : Nat} {v : Value} {xs : List Value} (hown : w.ownsRow base e size v n xs) (hg : w.grownBy w' v.ownBlock) (hb : base ≤ w.heap.size) : Below base w w' :=
  (Below.refl base w).grown hg hb (fun k e => (hown.lt k e).1)
theorem own_form {w : World} {base : Nat} {e : TypeId} {size n : Nat} {v : Value} {xs : List Value} (hown : w.ownsRow base e size v n xs) : ∃ A cap, v = .slice A n cap := by
  rcases hown.2 with ⟨rfl, rfl⟩ | ⟨g, cap, _, rfl, _⟩
  · exact ⟨_, _, rfl⟩
  · exact ⟨_, _, rfl⟩
/-- append of rectangles, whatever is appended. -/
theorem run_rects (w : World) (t : TypeId) (base : Nat) (v : Value) (n : Nat) (xs : List Value) (hown : w.ownsRow base 29 4 v n xs) (A : Option Addr) (m c : Nat) (news : List Value)
    (hl : news.length = m * 4) (hnone : A = none → m = 0 ∧ c = 0) (hnews : ∀ ad, A = some ad → ∀ j u, news[j]? = some u → w.cell? (ad.add j) = some u) (h1 : ∀ u ∈ news, u.oneCell' = true) (hsz : n + m ≤ 2000000) (hbase : base ≤ w.heap.size) :
    ∃ A' cap' w', (Builtin.append_ #[23, 23] t #[v, .slice A m c]).run Try.prog w = .ok (.slice A' (n + m) cap') w' ∧ w'.ownsRow base 29 4 (.slice A' (n + m) cap') (n + m) (xs ++ news) ∧ w.grownBy w' v.ownBlock := by
  obtain ⟨i0, hi, hz, hs, hby⟩ := info_parts infoR
  cases A with
  | none =>
    obtain ⟨rfl, rfl⟩ := hnone rfl
    have hn : news = [] := List.eq_nil_of_length_eq_zero (by simpa using hl)
    subst hn
    obtain ⟨A', cap', hv⟩ := own_form hown
    have hr := run_append_owned_none (P := Try.prog) w base 23 t 29 i0 4 Try.underlying23 hi v n xs hown
    subst hv
    exact ⟨A', cap', w, hr, by simpa using hown, World.grownBy.refl w _⟩
  | some ad =>
    obtain ⟨v', w', hr, h2, h3, _, _⟩ := run_append_own_at (P := Try.prog) w base 23 t 29 i0 zero4 4 32 Try.underlying23 hi hz hs hby rfl (by omega) v n xs hown ad m c news hl (hnews ad rfl) h1 (by unfold maxLen; omega) (by omega) hbase
    obtain ⟨A', cap', rfl⟩ := own_form h2
    exact ⟨A', cap', w', hr, h2, h3⟩
theorem wp_rects (w : World) {o : Oper} {a : Act} {K : Act → World → Prop} {Q : Exit → Act → World → Prop} (s x : Operand) (ho : o.op = .call { callee := .builtin .append, args := #[s, x], argTypes := #[23, 23] })
    (base : Nat) (v : Value) (n : Nat) (xs : List Value) (hs : a.eval s = v) (hown : w.ownsRow base 29 4 v n xs) (A : Option Addr) (m c : Nat) (news : List Value) (hx : a.eval x = .slice A m c)
    (hl : news.length = m * 4) (hnone : A = none → m = 0 ∧ c = 0) (hnews : ∀ ad, A = some ad → ∀ j u, news[j]? = some u → w.cell? (ad.add j) = some u) (h1 : ∀ u ∈ news, u.oneCell' = true) (hsz : n + m ≤ 2000000) (hbase : base ≤ w.heap.size)
    (h : ∀ A' cap' w', w'.ownsRow base 29 4 (.slice A' (n + m) cap') (n + m) (xs ++ news) → w.grownBy w' v.ownBlock → Below base w w' → K (a.put o.dst (.slice A' (n + m) cap')) w') : o.wp Try.prog a w K Q := by
  obtain ⟨A', cap', w', hr, h2, h3⟩ := run_rects w o.type base v n xs hown A m c news hl hnone hnews h1 hsz hbase
  unfold Oper.wp execOp
  simp only [ho, resolve, invoke, builtin, Sem.run_bind, Sem.run_pure, Result.andThen_ok, List.map_toArray, List.map_cons, List.map_nil, hs, hx, hr]
  exact h A' cap' w' h2 h3 (own_below hown h3 hbase)
theorem list_rects (w : World) {ops : Array Oper} {rest : List Oper} {o : Oper} {a : Act} {Q : Exit → Act → World → Prop} (hgd : o.guard = none) (s x : Operand) (ho : o.op = .call { callee := .builtin .append, args := #[s, x], argTypes := #[23, 23] })
    (base : Nat) (v : Value) (n : Nat) (xs : List Value) (hs : a.eval s = v) (hown : w.ownsRow base 29 4 v n xs) (A : Option Addr) (m c : Nat) (news : List Value) (hx : a.eval x = .slice A m c)
    (hl : news.length = m * 4) (hnone : A = none → m = 0 ∧ c = 0) (hnews : ∀ ad, A = some ad → ∀ j u, news[j]? = some u → w.cell? (ad.add j) = some u) (h1 : ∀ u ∈ news, u.oneCell' = true) (hsz : n + m ≤ 2000000) (hbase : base ≤ w.heap.size)
    (h : ∀ A' cap' w', w'.ownsRow base 29 4 (.slice A' (n + m) cap') (n + m) (xs ++ news) → w.grownBy w' v.ownBlock → Below base w w' → wpList Try.prog ops Q rest (a.put o.dst (.slice A' (n + m) cap')) w') : wpList Try.prog ops Q (o :: rest) a w :=
  wpList_plain hgd fun _ hK => wp_rects w s x ho base v n xs hs hown A m c news hx hl hnone hnews h1 hsz hbase fun A' cap' w' h2 h3 h4 => hK _ _ (h A' cap' w' h2 h3 h4)
theorem step_rects (w : World) {ops : Array Oper} {o : Oper} {a : Act} {K : Act → World → Prop} {Q : Exit → Act → World → Prop} {E : Prop} (hgd : o.guard = none) (s x : Operand) (ho : o.op = .call { callee := .builtin .append, args := #[s, x], argTypes := #[23, 23] })
    (base : Nat) (v : Value) (n : Nat) (xs : List Value) (hs : a.eval s = v) (hown : w.ownsRow base 29 4 v n xs) (A : Option Addr) (m c : Nat) (news : List Value) (hx : a.eval x = .slice A m c)
    (hl : news.length = m * 4) (hnone : A = none → m = 0 ∧ c = 0) (hnews : ∀ ad, A = some ad → ∀ j u, news[j]? = some u → w.cell? (ad.add j) = some u) (h1 : ∀ u ∈ news, u.oneCell' = true) (hsz : n + m ≤ 2000000) (hbase : base ≤ w.heap.size)
    (h : ∀ A' cap' w', w'.ownsRow base 29 4 (.slice A' (n + m) cap') (n + m) (xs ++ news) → w.grownBy w' v.ownBlock → Below base w w' → K (a.put o.dst (.slice A' (n + m) cap')) w') :
    if Region.wanted o (yielded ops a.tmps) = true then Oper.wp Try.prog o a w K Q else E := by
  have hw : Region.wanted o (yielded ops a.tmps) = true := by simp [Region.wanted, hgd]
  rw [if_pos hw]
  exact wp_rects w s x ho base v n xs hs hown A m c news hx hl hnone hnews h1 hsz hbase h
theorem own_ow' {w : World} {base : Nat} {A : Option Addr} {cap n : Nat} {f : Nat → Rt} (h : w.ownsRow base 29 4 (.slice A n cap) n (rowL f n)) : ∃ g, Ow w A n f g ∧ base ≤ g ∧ Hd A n cap := by
  obtain ⟨A', cap', g, hv, ho, hg, hh⟩ := own_ow h
  injection hv with h1 h2 h3
  subst h1 h3
  exact ⟨g, ho, hg, hh⟩
/-- An empty slice of the call's own. -/
theorem own_empty (w : World) (base g : Nat) (hg : w.heap.size = g) (hb : base ≤ g) : (w.alloc (.cells #[] 29)).ownsRow base 29 4 (.slice (some ⟨g, 0, none⟩) 0 0) 0 [] := by
  subst hg; exact World.ownsRow_lit w #[] 0 hb (Nat.zero_le _) rfl
def Four (w : World) (g : Nat) (r : Rt) : Prop := g < w.heap.size ∧ ∀ j u, (four r)[j]? = some u → w.cell? ((⟨g, 0, none⟩ : Addr).add j) = some u
theorem Four.new (w : World) (r : Rt) (g : Nat) (hg : w.heap.size = g) : Four (w.alloc (.cells #[.int .i64 r.l, .int .i64 r.o, .int .i64 r.r, .int .i64 r.h] 29)) g r := by
  subst hg; exact ⟨by simp, four_news w r _ rfl⟩
theorem Four.drew {w : World} {g : Nat} {r : Rt} (h : Four w g r) : Four w.drew g r := h
theorem own_drew {w : World} {base : Nat} {e : TypeId} {size n : Nat} {v : Value} {xs : List Value} (h : w.ownsRow base e size v n xs) : w.drew.ownsRow base e size v n xs := h
theorem Four.alloc {w : World} {g : Nat} {r : Rt} (h : Four w g r) (o : Obj) : Four (w.alloc o) g r :=
  ⟨by simp; have := h.1; omega, fun j u hu => by
    rw [Go.WideShapes.add_plain, ((Below.refl w.heap.size w).alloc (Nat.le_refl _) o).cell (p := ⟨g, 0 + j, none⟩) h.1, ← Go.WideShapes.add_plain]
    exact h.2 j u hu⟩
theorem Four.grown {w w' : World} {g e : Nat} {r : Rt} (h : Four w g r) (hg : w.grownBy w' (some e)) (hne : g ≠ e) : Four w' g r :=
  ⟨Nat.lt_of_lt_of_le h.1 hg.size, fun j u hu => by
    rw [Go.WideShapes.add_plain, grown_cell hg h.1 hne, ← Go.WideShapes.add_plain]
    exact h.2 j u hu⟩
theorem Four.ne {w : World} {g : Nat} {r : Rt} (h : Four w g r) : ∀ ad, (some (⟨g, 0, none⟩ : Addr)) = some ad → ∀ j u, (four r)[j]? = some u → w.cell? (ad.add j) = some u := by
  intro ad e; injection e with e; subst e; exact h.2

end Go.Proofs.Ytfdkkkdijgmbbaa
