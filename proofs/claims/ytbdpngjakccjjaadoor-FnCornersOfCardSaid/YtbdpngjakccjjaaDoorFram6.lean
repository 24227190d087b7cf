
/- Chapter 4 of impl: a piece is taken away, by a stack of places. -/
import Derived.Test.YtbdpngjakccjjaaDoorFram5
import Derived.Test.YtbdpngjakccjjaaDoorMathQ
import Derived.WalkSmall
import Derived.Maps.AppendAt
namespace Go.Proofs.YtbdpngjakccjjaaDoor
open Go.RowKit Go.Sort
set_option linter.unusedVariables false
set_option linter.unusedSimpArgs false
theorem infoP : (Tryd.prog.info? 75).map (fun i => (i.zero, i.size, i.bytes)) = some (some (.agg #[.int .i64 0, .int .i64 0]), 2, 16) := by kernel_rfl
/-- The cells of places. -/
def placeL : List Nat → List Value
  | [] => []
  | a :: r => .int .i64 (a % 22 : Nat) :: .int .i64 (a / 22 : Nat) :: placeL r
theorem placeL_len (st : List Nat) : (placeL st).length = st.length * 2 := by
  induction st with
  | nil => rfl
  | cons a r ih => simp only [placeL, List.length_cons, ih]; omega
theorem placeL_snoc (st : List Nat) (k : Nat) : placeL (st ++ [k]) = placeL st ++ [.int .i64 (k % 22 : Nat), .int .i64 (k / 22 : Nat)] := by
  induction st with
  | nil => rfl
  | cons a r ih => simp only [List.cons_append, placeL, ih]
/-- A stack of places of the call's own. -/
def StP (w : World) (base h cap : Nat) (st : List Nat) : Prop := w.ownsRow base 75 2 (.slice (some ⟨h, 0, none⟩) st.length cap) st.length (placeL st)
theorem StP.drewN {w : World} {base h cap : Nat} {st : List Nat} (H : StP w base h cap st) (n : Nat) : StP (w.drewN n) base h cap st := H
theorem StP.blk {w : World} {base h cap : Nat} {st : List Nat} (H : StP w base h cap st) : base ≤ h ∧ h < w.heap.size := World.ownsRow.lt H h rfl
theorem StP.same {w w' : World} {base h cap : Nat} {st : List Nat} (H : StP w base h cap st) (e : w'.heap[h]? = w.heap[h]?) : StP w' base h cap st := by
  refine ⟨H.1, ?_⟩
  rcases H.2 with h0 | ⟨g', cap', cur, hv, hg, hh, rest⟩
  · exact Or.inl h0
  · cases hv
    exact Or.inr ⟨h, cap, cur, rfl, hg, e.trans hh, rest⟩
theorem StP.below {w w' : World} {base h cap : Nat} {st : List Nat} (H : StP w base h cap st) (hb : Below w.heap.size w w') : StP w' base h cap st := H.same (hb.block h H.blk.2)
theorem StP.grown {w w' : World} {base h cap g : Nat} {st : List Nat} (H : StP w base h cap st) (hg : w.grownBy w' (some g)) (hn : g < base) : StP w' base h cap st :=
  H.same (hg.block h H.blk.2 (by intro e; injection e with e; have := H.blk.1; omega))
theorem StP.one (w : World) (base b : Nat) (hb : w.heap.size = b) (hh : base ≤ b) (k : Nat) : StP (w.alloc (.cells #[.int .i64 (k % 22 : Nat), .int .i64 (k / 22 : Nat)] 75)) base b 1 [k] := by
  subst hb; exact World.ownsRow_lit w #[.int .i64 (k % 22 : Nat), .int .i64 (k / 22 : Nat)] 1 hh (by unfold maxLen; omega) rfl
theorem StP.top {w : World} {base h cap k : Nat} {st : List Nat} (H : StP w base h cap (st ++ [k])) : w.cell? ⟨h, st.length * 2, none⟩ = some (.int .i64 (k % 22 : Nat)) ∧ w.cell? ⟨h, st.length * 2 + 1, none⟩ = some (.int .i64 (k / 22 : Nat)) := by
  have h0 := World.ownsRow.cellAt H (st.length * 2) (by simp <;> omega)
  have h1 := World.ownsRow.cellAt H (st.length * 2 + 1) (by simp <;> omega)
  refine ⟨?_, ?_⟩
  · rw [h0, placeL_snoc, List.getElem?_append_right (by rw [placeL_len]; exact Nat.le_refl _), placeL_len, Nat.sub_self]; rfl
  · rw [h1, placeL_snoc, List.getElem?_append_right (by rw [placeL_len]; omega), placeL_len, Nat.add_sub_cancel_left]; rfl
theorem StP.pop {w : World} {base h cap k : Nat} {st : List Nat} (H : StP w base h cap (st ++ [k])) : StP w base h cap st := by
  unfold StP at H
  rw [List.length_append, List.length_singleton, placeL_snoc] at H
  exact ownsRow_pop (by rw [placeL_len]) H
theorem StP.capLe {w : World} {base h cap : Nat} {st : List Nat} (H : StP w base h cap st) : st.length ≤ cap := by
  rcases H.2 with ⟨h0, _⟩ | ⟨g', cap', cur, hv, hg, hh, hn, hcap, hsz, htake⟩
  · cases h0
  · cases hv; exact hn
theorem list_place1 (w : World) {ops : Array Oper} {rest : List Oper} {o : Oper} {a : Act} {Q : Exit → Act → World → Prop} (hgd : o.guard = none) (s x : Operand) (ho : o.op = .call { callee := .builtin .append, args := #[s, x], argTypes := #[51, 51] })
    (base h cap : Nat) (st : List Nat) (hs : a.eval s = .slice (some ⟨h, 0, none⟩) st.length cap) (hown : StP w base h cap st) (b j : Nat) (hx : a.eval x = .slice (some ⟨b, 0, none⟩) 1 1)
    (hc0 : w.cell? ⟨b, 0, none⟩ = some (.int .i64 (j % 22 : Nat))) (hc1 : w.cell? ⟨b, 1, none⟩ = some (.int .i64 (j / 22 : Nat))) (hsz : st.length ≤ 1000000) (hbase : base ≤ w.heap.size)
    (hh : ∀ h' cap' w', StP w' base h' cap' (st ++ [j]) → Below base w w' → w.grownBy w' (some h) → (h' = h ∨ h' = w.heap.size) → wpList Tryd.prog ops Q rest (a.put o.dst (.slice (some ⟨h', 0, none⟩) (st.length + 1) cap')) w') : wpList Tryd.prog ops Q (o :: rest) a w := by
  obtain ⟨i0, hi, hz, hsi, hby⟩ := info_parts infoP
  refine wpList_append_own_at w hgd s x 51 ho base 75 i0 (.agg #[.int .i64 0, .int .i64 0]) 2 16 Tryd.underlying51 hi hz hsi hby rfl (by omega) _ st.length (placeL st) hs hown ⟨b, 0, none⟩ 1 1 [.int .i64 (j % 22 : Nat), .int .i64 (j / 22 : Nat)] hx rfl (fun i u hu => ?_) (fun u hu => by simp at hu; rcases hu with rfl | rfl <;> rfl) (by unfold maxLen; omega) (by omega) hbase (fun v' w' h2 h3 h4 h5 => ?_)
  · rw [Go.WideShapes.add_plain]
    cases i with
    | zero => simp at hu; subst hu; exact hc0
    | succ i =>
      cases i with
      | zero => simp at hu; subst hu; exact hc1
      | succ i => simp at hu
  · obtain ⟨g, c, hv, _, _⟩ := World.ownsRow.form h2 (by omega)
    subst hv
    refine hh g c w' ?_ (own_below hown h3 hbase) h3 ?_
    · unfold StP
      rw [List.length_append, List.length_singleton, placeL_snoc]
      exact h2
    · rcases h5 with h5 | h5
      · exact Or.inl (by simpa [Value.ownBlock] using h5)
      · exact Or.inr (by simpa [Value.ownBlock] using h5)
-- the steps
def dX (i : Nat) : Int := [1, -1, 0, 0, 1, 1, -1, -1].getD i 0
def dY (i : Nat) : Int := [0, 0, 1, -1, 1, -1, 1, -1].getD i 0
def stN (e8 : Bool) : Nat := if e8 then 8 else 4
theorem stN_le (e8 : Bool) : 0 < stN e8 ∧ stN e8 ≤ 8 := by cases e8 <;> decide
theorem dXY_bd (i : Nat) (hi : i < 8) : (-1 ≤ dX i ∧ dX i ≤ 1) ∧ (-1 ≤ dY i ∧ dY i ≤ 1) ∧ ¬ (dX i = 0 ∧ dY i = 0) ∧ (i < 4 → dX i = 0 ∨ dY i = 0) := by
  have key : ∀ i : Fin 8, (-1 ≤ dX i.val ∧ dX i.val ≤ 1) ∧ (-1 ≤ dY i.val ∧ dY i.val ≤ 1) ∧ ¬ (dX i.val = 0 ∧ dY i.val = 0) ∧ (i.val < 4 → dX i.val = 0 ∨ dY i.val = 0) := by decide
  exact key ⟨i, hi⟩
/-- b is where the step t leads from k. -/
def StepTo (k t b : Nat) : Prop := ((b % 22 : Nat) : Int) = ((k % 22 : Nat) : Int) + dX t ∧ ((b / 22 : Nat) : Int) = ((k / 22 : Nat) : Int) + dY t
theorem near_step {e8 c : Bool} {G : Nat → Bool} {k b : Nat} (h : EdE e8 c G k b) : ∃ t, t < stN e8 ∧ StepTo k t b := by
  have mk : ∀ t (x y : Int), dX t = x → dY t = y → ((b % 22 : Nat) : Int) = ((k % 22 : Nat) : Int) + x → ((b / 22 : Nat) : Int) = ((k / 22 : Nat) : Int) + y → StepTo k t b := fun t x y h1 h2 h3 h4 => ⟨by rw [h1]; exact h3, by rw [h2]; exact h4⟩
  have side : Side k b → ∃ t, t < 4 ∧ StepTo k t b := fun h => by
    unfold Side at h
    obtain ⟨h1, h2, h | h | h | h⟩ := h
    · exact ⟨0, by omega, mk 0 1 0 rfl rfl (by omega) (by omega)⟩
    · exact ⟨1, by omega, mk 1 (-1) 0 rfl rfl (by omega) (by omega)⟩
    · exact ⟨2, by omega, mk 2 0 1 rfl rfl (by omega) (by omega)⟩
    · exact ⟨3, by omega, mk 3 0 (-1) rfl rfl (by omega) (by omega)⟩
  obtain ⟨h, _⟩ := h
  cases e8
  · exact side h
  · rcases h with h | ⟨h1, h2, h | h | h | h⟩
    · obtain ⟨t, ht, hs⟩ := side h; exact ⟨t, Nat.lt_of_lt_of_le ht (by decide), hs⟩
    · exact ⟨4, by decide, mk 4 1 1 rfl rfl (by omega) (by omega)⟩
    · exact ⟨7, by decide, mk 7 (-1) (-1) rfl rfl (by omega) (by omega)⟩
    · exact ⟨6, by decide, mk 6 (-1) 1 rfl rfl (by omega) (by omega)⟩
    · exact ⟨5, by decide, mk 5 1 (-1) rfl rfl (by omega) (by omega)⟩
theorem step_edge {e8 c : Bool} {G : Nat → Bool} {k j t : Nat} (hk : k < 484) (hj : j < 484) (ht : t < stN e8) (hs : StepTo k t j) (hgk : G k = c) (hgj : G j = c) : EdE e8 c G k j := by
  obtain ⟨bx, by_, b0, b4⟩ := dXY_bd t (by have := (stN_le e8).2; omega)
  obtain ⟨e1, e2⟩ := hs
  have hne : j ≠ k := fun e => by subst e; exact b0 ⟨by omega, by omega⟩
  refine ⟨?_, hgk, hgj⟩
  cases e8
  · simpa using place_side hk hj bx by_ e2 e1 hne (b4 ht)
  · simpa using place_side8 hk hj bx by_ e2 e1 hne
/-- The steps of k from i on are still to look at. -/
def RmS (n k i a b : Nat) : Prop := a = k ∧ ∃ t, i ≤ t ∧ t < n ∧ StepTo k t b
/-- Where the step leads, if it stays in the grid. -/
theorem step_in {k t : Nat} (hk : k < 484) (hz : inZ (((k % 22 : Nat) : Int) + dX t) (((k / 22 : Nat) : Int) + dY t) = true) :
    ∃ j, 22 * (((k / 22 : Nat) : Int) + dY t).toNat + (((k % 22 : Nat) : Int) + dX t).toNat = j ∧ j < 484 ∧ StepTo k t j := by
  unfold inZ at hz
  rw [decide_eq_true_iff] at hz
  obtain ⟨x, hx⟩ := Int.eq_ofNat_of_zero_le hz.1
  obtain ⟨y, hy⟩ := Int.eq_ofNat_of_zero_le hz.2.2.1
  refine ⟨22 * y + x, by rw [hx, hy]; simp, by omega, ?_, ?_⟩
  · rw [hx]; omega
  · rw [hy]; omega
theorem step_same {k t b : Nat} (hb : b < 484) (h : StepTo k t b) : inZ (((k % 22 : Nat) : Int) + dX t) (((k / 22 : Nat) : Int) + dY t) = true ∧ 22 * (((k / 22 : Nat) : Int) + dY t).toNat + (((k % 22 : Nat) : Int) + dX t).toNat = b := by
  obtain ⟨e1, e2⟩ := h
  unfold inZ
  rw [← e1, ← e2, decide_eq_true_iff]
  refine ⟨by omega, ?_⟩
  rw [Int.toNat_natCast, Int.toNat_natCast]; omega
/-- The steps lie in memory. -/
def Ps (w : World) (sb n : Nat) : Prop := sb < w.heap.size ∧ ∀ i, i < n → w.cell? ⟨sb, i * 2, none⟩ = some (.int .i64 (dX i)) ∧ w.cell? ⟨sb, i * 2 + 1, none⟩ = some (.int .i64 (dY i))
theorem Ps.below {w w' : World} {sb n : Nat} (h : Ps w sb n) (hb : Below w.heap.size w w') : Ps w' sb n :=
  ⟨Nat.lt_of_lt_of_le h.1 hb.size, fun i hi => ⟨(hb.cell (p := ⟨sb, i * 2, none⟩) h.1).trans (h.2 i hi).1, (hb.cell (p := ⟨sb, i * 2 + 1, none⟩) h.1).trans (h.2 i hi).2⟩⟩
theorem Ps.under {w w' : World} {sb n B : Nat} (h : Ps w sb n) (hb : Below B w w') (hB : sb < B) : Ps w' sb n :=
  ⟨Nat.lt_of_lt_of_le h.1 hb.size, fun i hi => ⟨(World.cell?_of_block (w := w) (hb.block sb hB)).trans (h.2 i hi).1, (World.cell?_of_block (w := w) (hb.block sb hB)).trans (h.2 i hi).2⟩⟩
theorem Ps.grown {w w' : World} {sb n g : Nat} (h : Ps w sb n) (hg : w.grownBy w' (some g)) (hn : sb ≠ g) : Ps w' sb n :=
  ⟨Nat.lt_of_lt_of_le h.1 hg.size, fun i hi => ⟨(grown_cell hg h.1 hn).trans (h.2 i hi).1, (grown_cell hg h.1 hn).trans (h.2 i hi).2⟩⟩
/-- A place in a block of its own. -/
def Pl (w : World) (b : Nat) (x y : Int) : Prop := b < w.heap.size ∧ w.cell? ⟨b, 0, none⟩ = some (.int .i64 x) ∧ w.cell? ⟨b, 1, none⟩ = some (.int .i64 y)
theorem Pl.below {w w' : World} {b : Nat} {x y : Int} (h : Pl w b x y) (hb : Below w.heap.size w w') : Pl w' b x y :=
  ⟨Nat.lt_of_lt_of_le h.1 hb.size, (hb.cell (p := ⟨b, 0, none⟩) h.1).trans h.2.1, (hb.cell (p := ⟨b, 1, none⟩) h.1).trans h.2.2⟩
theorem Pl.under {w w' : World} {b B : Nat} {x y : Int} (h : Pl w b x y) (hb : Below B w w') (hB : b < B) : Pl w' b x y :=
  ⟨Nat.lt_of_lt_of_le h.1 hb.size, (World.cell?_of_block (w := w) (hb.block b hB)).trans h.2.1, (World.cell?_of_block (w := w) (hb.block b hB)).trans h.2.2⟩
theorem Pl.grown {w w' : World} {b g : Nat} {x y : Int} (h : Pl w b x y) (hg : w.grownBy w' (some g)) (hn : b ≠ g) : Pl w' b x y :=
  ⟨Nat.lt_of_lt_of_le h.1 hg.size, (grown_cell hg h.1 hn).trans h.2.1, (grown_cell hg h.1 hn).trans h.2.2⟩
theorem Pl.new (w : World) (x y : Int) {b : Nat} (hb : w.heap.size = b) : Pl (w.alloc (.cells #[.int .i64 x, .int .i64 y] 75)) b x y := by
  subst hb
  exact ⟨by simp, cell_of_row _ _ _ _ _ _ (heap_alloc_new w _), cell_of_row _ _ _ _ _ _ (heap_alloc_new w _)⟩
structure FillQ (w wr : World) (g sb : Nat) (e8 c : Bool) (G S : Nat → Bool) (o : Nat) (Rem : Nat → Nat → Prop) (h cap : Nat) (st : List Nat) (s : Nat → Bool) (m : Nat) : Prop where
  own : StP wr w.heap.size h cap st
  rb : RB wr g G c s
  ps : Ps wr sb (stN e8)
  gr : w.grownBy wr (some g)
  fl : Flood (EdE e8 c G) S o s (· ∈ st) Rem
  ms : st.length + 2 * restB 484 (fun a => !avB G c s a) ≤ m
  inn : ∀ a ∈ st, a < 484
section
variable {w wr wn : World} {g sb h cap o k : Nat} {e8 c : Bool} {G S s : Nat → Bool} {st : List Nat} {m : Nat}
theorem FillQ.below {Rem : Nat → Nat → Prop} (H : FillQ w wr g sb e8 c G S o Rem h cap st s m) (hb : Below wr.heap.size wr wn) : FillQ w wn g sb e8 c G S o Rem h cap st s m :=
  ⟨H.own.below hb, H.rb.below hb, H.ps.below hb, grown_below H.gr hb, H.fl, H.ms, H.inn⟩
/-- nothing was taken at the step -/
theorem FillQ.pass {t : Nat} (H : FillQ w wr g sb e8 c G S o (RmS (stN e8) k t) h cap st s m) (hf : tkB G c s (((k % 22 : Nat) : Int) + dX t) (((k / 22 : Nat) : Int) + dY t) = false)
    (hg : wr.grownBy wn (some g)) (hr : RB wn g G c s) (hgb : g < w.heap.size) (hn : sb ≠ g) : FillQ w wn g sb e8 c G S o (RmS (stN e8) k (t + 1)) h cap st s m := by
  refine ⟨H.own.grown hg hgb, hr, H.ps.grown hg hn, H.gr.trans hg, H.fl.skip fun a b _ he hrm => ?_, H.ms, H.inn⟩
  obtain ⟨rfl, t', h1, h2, h3⟩ := hrm
  by_cases e : t' = t
  · subst e
    obtain ⟨z1, z2⟩ := step_same he.lt.2 h3
    unfold tkB avB at hf
    rw [z1, z2, he.2.2, Bool.true_and, beq_self_eq_true, Bool.true_and] at hf
    exact Or.inr (by simpa using hf)
  · exact Or.inl ⟨rfl, t', by omega, h2, h3⟩
/-- the cell that the step leads to is taken, and comes onto the stack -/
theorem FillQ.push {t j h' cap' : Nat} {w6 : World} (H : FillQ w wr g sb e8 c G S o (RmS (stN e8) k t) h cap st s m) (hk : k < 484) (hgk : G k = c) (hrk : Rch (EdE e8 c G) o k) (ht : t < stN e8)
    (hj : j < 484) (hs : StepTo k t j) (hav : avB G c s j = true) (hg : wr.grownBy wn (some g)) (hr : RB wn g G c (putB s j)) (hgb : g < w.heap.size) (hn : sb ≠ g) (hsb : sb < w.heap.size)
    (hb5 : Below w.heap.size wn w6) (hI : StP w6 w.heap.size h' cap' (st ++ [j])) :
    FillQ w w6 g sb e8 c G S o (RmS (stN e8) k (t + 1)) h' cap' (st ++ [j]) (putB s j) m := by
  unfold avB at hav
  rw [Bool.and_eq_true] at hav
  have hgj : G j = c := by simpa using hav.1
  refine ⟨hI, hr.under hb5 hgb, (H.ps.grown hg hn).under hb5 hsb, grown_under (H.gr.trans hg) hb5, ?_, ?_, fun a ha => ?_⟩
  · refine H.fl.push hrk (step_edge hk hj ht hs hgk hgj) (fun a => by simp) fun a b he hrm => ?_
    obtain ⟨rfl, t', h1, h2, h3⟩ := hrm
    by_cases e : t' = t
    · subst e
      refine Or.inr ?_
      have e1 := h3.1.trans hs.1.symm
      have e2 := h3.2.trans hs.2.symm
      omega
    · exact Or.inl ⟨rfl, t', by omega, h2, h3⟩
  · have h1 := restB_put (n := 484) (s := fun a => !avB G c s a) hj (by unfold avB; simp only [Bool.not_eq_false', Bool.and_eq_true]; exact hav)
    rw [← av_put] at h1
    have h2 := H.ms
    rw [List.length_append, List.length_singleton]; omega
  · rcases List.mem_append.1 ha with ha | ha
    · exact H.inn a ha
    · rw [List.mem_singleton.1 ha]; exact hj
/-- all steps of the cell are done -/
theorem FillQ.fin {t m' : Nat} (H : FillQ w wr g sb e8 c G S o (RmS (stN e8) k t) h cap st s m) (ht : stN e8 ≤ t) (hm : m ≤ m') : FillQ w wr g sb e8 c G S o (fun _ _ => False) h cap st s m' :=
  ⟨H.own, H.rb, H.ps, H.gr, H.fl.skip fun a b _ _ hrm => by obtain ⟨rfl, t', h1, h2, h3⟩ := hrm; omega, Nat.le_trans H.ms hm, H.inn⟩
/-- a cell is taken off the stack -/
theorem FillQ.begin (H : FillQ w wr g sb e8 c G S o (fun _ _ => False) h cap (st ++ [k]) s m) {m' : Nat} (hm : st.length + 2 * restB 484 (fun a => !avB G c s a) ≤ m') : FillQ w wr g sb e8 c G S o (RmS (stN e8) k 0) h cap st s m' :=
  ⟨H.own.pop, H.rb, H.ps, H.gr, (H.fl.pop (k := k) (In' := (· ∈ st)) (fun a ha => by rcases List.mem_append.1 ha with x | x; exact Or.inr x; exact Or.inl (List.mem_singleton.1 x)) (fun a ha => List.mem_append.2 (Or.inl ha))).skip
      (fun a b _ he hr => by
        subst hr
        obtain ⟨t, ht, hs⟩ := near_step he
        exact Or.inl ⟨rfl, t, Nat.zero_le _, ht, hs⟩), hm, fun a ha => H.inn a (List.mem_append.2 (Or.inl ha))⟩
end
end Go.Proofs.YtbdpngjakccjjaaDoor
