
/- Chapter 4 of impl: pieces and holes. -/
import Derived.Test.YtbdpngjakccjjaaDoorFram7
namespace Go.Proofs.YtbdpngjakccjjaaDoor
open Go.RowKit Go.Sort
set_option linter.unusedVariables false
set_option linter.unusedSimpArgs false
theorem Ps.of_own {w : World} {base b n cap : Nat} {xs : List Value} (h : w.ownsRow base 75 2 (.slice (some ⟨b, 0, none⟩) n cap) n xs) (hx : ∀ i, i < n → xs[i * 2]? = some (.int .i64 (dX i)) ∧ xs[i * 2 + 1]? = some (.int .i64 (dY i))) (h0 : 0 < n) : Ps w b n := by
  refine ⟨(World.ownsRow.lt h b rfl).2, fun i hi => ⟨?_, ?_⟩⟩
  · rw [World.ownsRow.cellAt h (i * 2) (by omega), (hx i hi).1]
  · rw [World.ownsRow.cellAt h (i * 2 + 1) (by omega), (hx i hi).2]
def FourPost (w : World) (e : Ending) (w' : World) : Prop :=
  ∃ b, e = .returned (.slice (some ⟨b, 0, none⟩) 4 4) ∧ w'.ownsRow w.heap.size 75 2 (.slice (some ⟨b, 0, none⟩) 4 4) 4 [.int .i64 1, .int .i64 0, .int .i64 (-1), .int .i64 0, .int .i64 0, .int .i64 1, .int .i64 0, .int .i64 (-1)] ∧ Below w.heap.size w w'
def StepsPost (n : Nat) (w : World) (e : Ending) (w' : World) : Prop :=
  ∃ b cap, e = .returned (.slice (some ⟨b, 0, none⟩) n cap) ∧ Ps w' b n ∧ Below w.heap.size w w'
set_option maxHeartbeats 1000000 in
theorem bysides_any (w : World) : Calls Tryd.prog 31 #[] w (FourPost w) := by
  go_enter Tryd.func31, Tryd.ntmps31
  go_wp2
  refine bodyPost_ret (v := .slice (some ⟨w.heap.size, 0, none⟩) 4 4) (by simp (maxDischargeDepth := 8) [results, Tryd.results31, go_sem, *]) rfl ⟨w.heap.size, rfl, ?_, by (repeat (first | with_reducible exact Below.refl _ _ | with_reducible assumption | ((with_reducible refine Below.alloc ?_ ?_ _); rotate_left; focus (first | with_reducible exact Nat.le_refl _ | omega | (simp; done) | (simp; omega))) | ((with_reducible refine Below.setCell ?_ ?_ _); rotate_left; focus (first | with_reducible exact Nat.le_refl _ | omega | (simp; done) | (simp; omega))) | (with_reducible refine Below.drew ?_) | ((with_reducible refine Below.trans ?_ (Below.mono (by with_reducible assumption) ?_)); rotate_left; focus (first | with_reducible exact Nat.le_refl _ | omega | (simp; done) | (simp; omega)))))⟩
  exact World.ownsRow_lit w #[.int .i64 1, .int .i64 0, .int .i64 (-1), .int .i64 0, .int .i64 0, .int .i64 1, .int .i64 0, .int .i64 (-1)] 4 (Nat.le_refl _) (by unfold maxLen; omega) rfl
theorem four_steps {w : World} {base b : Nat} (h : w.ownsRow base 75 2 (.slice (some ⟨b, 0, none⟩) 4 4) 4 [.int .i64 1, .int .i64 0, .int .i64 (-1), .int .i64 0, .int .i64 0, .int .i64 1, .int .i64 0, .int .i64 (-1)]) : Ps w b 4 :=
  Ps.of_own h (fun i hi => by
    have : i = 0 ∨ i = 1 ∨ i = 2 ∨ i = 3 := by omega
    rcases this with rfl | rfl | rfl | rfl <;> exact ⟨rfl, rfl⟩) (by omega)

theorem list_corners (w : World) {ops : Array Oper} {rest : List Oper} {o : Oper} {a : Act} {Q : Exit → Act → World → Prop} (hgd : o.guard = none) (s x : Operand) (ho : o.op = .call { callee := .builtin .append, args := #[s, x], argTypes := #[51, 51] })
    (base b : Nat) (hs : a.eval s = .slice (some ⟨b, 0, none⟩) 4 4) (hown : w.ownsRow base 75 2 (.slice (some ⟨b, 0, none⟩) 4 4) 4 [.int .i64 1, .int .i64 0, .int .i64 (-1), .int .i64 0, .int .i64 0, .int .i64 1, .int .i64 0, .int .i64 (-1)]) (b2 : Nat) (hx : a.eval x = .slice (some ⟨b2, 0, none⟩) 4 4)
    (hc : ∀ (i : Nat) (u : Value), ([.int .i64 1, .int .i64 1, .int .i64 1, .int .i64 (-1), .int .i64 (-1), .int .i64 1, .int .i64 (-1), .int .i64 (-1)] : List Value)[i]? = some u → w.cell? ⟨b2, i, none⟩ = some u) (hbase : base ≤ w.heap.size)
    (hh : ∀ h' cap' w', w'.ownsRow base 75 2 (.slice (some ⟨h', 0, none⟩) 8 cap') 8 ([.int .i64 1, .int .i64 0, .int .i64 (-1), .int .i64 0, .int .i64 0, .int .i64 1, .int .i64 0, .int .i64 (-1)] ++ [.int .i64 1, .int .i64 1, .int .i64 1, .int .i64 (-1), .int .i64 (-1), .int .i64 1, .int .i64 (-1), .int .i64 (-1)]) → Below base w w' → wpList Tryd.prog ops Q rest (a.put o.dst (.slice (some ⟨h', 0, none⟩) 8 cap')) w') : wpList Tryd.prog ops Q (o :: rest) a w := by
  obtain ⟨i0, hi, hz, hsi, hby⟩ := info_parts infoP
  refine wpList_append_own_at w hgd s x 51 ho base 75 i0 (.agg #[.int .i64 0, .int .i64 0]) 2 16 Tryd.underlying51 hi hz hsi hby rfl (by omega) _ 4 [.int .i64 1, .int .i64 0, .int .i64 (-1), .int .i64 0, .int .i64 0, .int .i64 1, .int .i64 0, .int .i64 (-1)] hs hown ⟨b2, 0, none⟩ 4 4 [.int .i64 1, .int .i64 1, .int .i64 1, .int .i64 (-1), .int .i64 (-1), .int .i64 1, .int .i64 (-1), .int .i64 (-1)] hx rfl (fun i u hu => ?_) (fun u hu => ?_) (by unfold maxLen; omega) (by omega) hbase (fun v' w' h2 h3 h4 h5 => ?_)
  · rw [Go.WideShapes.add_plain, Nat.zero_add]; exact hc i u hu
  · simp only [List.mem_cons, List.not_mem_nil, or_false] at hu
    rcases hu with rfl | rfl | rfl | rfl | rfl | rfl | rfl | rfl <;> rfl
  · obtain ⟨g, c, hv, _, _⟩ := World.ownsRow.form h2 (by omega)
    subst hv
    exact hh g c w' h2 (own_below hown h3 hbase)

set_option maxHeartbeats 2000000 in
theorem bycorners_any (w : World) : Calls Tryd.prog 33 #[] w (StepsPost 8 w) := by
  go_enter Tryd.func33, Tryd.ntmps33
  go_wp2_with fail
  refine (bysides_any _).mono ?_; rintro e w1 ⟨b, rfl, ho, hb1⟩
  have hz1 := hb1.size
  have HO := Lib.hid (ho.alloc (.cells #[.int .i64 1, .int .i64 1, .int .i64 1, .int .i64 (-1), .int .i64 (-1), .int .i64 1, .int .i64 (-1), .int .i64 (-1)] 75))
  have HB := Lib.hid hb1
  have HN := Lib.hid (heap_alloc_new w1 (.cells #[.int .i64 1, .int .i64 1, .int .i64 1, .int .i64 (-1), .int .i64 (-1), .int .i64 1, .int .i64 (-1), .int .i64 (-1)] 75))
  have hz2 : w1.heap.size + 1 = (w1.alloc (.cells #[.int .i64 1, .int .i64 1, .int .i64 1, .int .i64 (-1), .int .i64 (-1), .int .i64 1, .int .i64 (-1), .int .i64 (-1)] 75)).heap.size := by simp
  clear ho hb1
  go_wp2_with (at_builtin; refine list_corners _ rfl (.tmp 1) (.tmp 6) rfl w.heap.size b rfl HO.out w1.heap.size rfl (fun i u hu => by rw [cell_of_row _ _ _ _ _ _ HN.out]; simpa using hu) (by omega) ?_)
  intro g c w2 h2 hb2
  have H2 := Lib.hid h2
  have HB2 := Lib.hid hb2
  clear h2 hb2
  go_wp2
  refine bodyPost_ret (v := .slice (some ⟨g, 0, none⟩) 8 c) (by simp (maxDischargeDepth := 8) [results, Tryd.results33, go_sem, *]) rfl ⟨g, c, rfl, ?_, ?_⟩
  · refine Ps.of_own H2.out (fun i hi => ?_) (by omega)
    have : i = 0 ∨ i = 1 ∨ i = 2 ∨ i = 3 ∨ i = 4 ∨ i = 5 ∨ i = 6 ∨ i = 7 := by omega
    rcases this with rfl | rfl | rfl | rfl | rfl | rfl | rfl | rfl <;> exact ⟨rfl, rfl⟩
  · exact (HB.out.trans (((Below.refl w1.heap.size w1).alloc (Nat.le_refl _) _).mono hz1)).trans HB2.out

/-- The cells that are not there, in the first k rows. -/
def othTo (m : Nat → Nat) (k y : Nat) : Nat := if y < k then m y ^^^ 4194303 else m y
def othM (m : Nat → Nat) : Nat → Nat := othTo m 22
theorem othM_lt {m : Nat → Nat} (h : ∀ y, m y < 2 ^ 22) (y : Nat) : othM m y < 2 ^ 22 := by
  unfold othM othTo
  split
  · exact Nat.xor_lt_two_pow (h y) (by decide)
  · exact h y
theorem othM_bit (m : Nat → Nat) (x y : Nat) (hx : x < 22) (hy : y < 22) : (othM m y).testBit x = !(m y).testBit x := by
  unfold othM othTo
  rw [if_pos hy, Nat.testBit_xor, show 4194303 = 2 ^ 22 - 1 from rfl, Nat.testBit_two_pow_sub_one, decide_eq_true hx]
  cases (m y).testBit x <;> rfl
set_option maxHeartbeats 2000000 in
theorem others_any (m : Nat → Nat) (w : World) (hm : ∀ y, m y < 2 ^ 22) :
    Calls Tryd.prog 32 #[.agg (frC m)] w fun e w' => e = .returned (.agg (frC (othM m))) ∧ Below w.heap.size w w' := by
  have HM := Lib.hid hm
  have hb1 : Below w.heap.size w (w.alloc (.cells (frC m) 42)) := (Below.refl _ _).alloc (Nat.le_refl _) _
  have HB1 := Lib.hid (hb1.alloc (by simp) (.cells #[.int .u32 0, .int .u32 0, .int .u32 0, .int .u32 0, .int .u32 0, .int .u32 0, .int .u32 0, .int .u32 0, .int .u32 0, .int .u32 0, .int .u32 0, .int .u32 0, .int .u32 0, .int .u32 0, .int .u32 0, .int .u32 0, .int .u32 0, .int .u32 0, .int .u32 0, .int .u32 0, .int .u32 0, .int .u32 0] 42))
  have X0 := Lib.hid ((Fm.new w m).below ((Below.refl _ _).alloc (Nat.le_refl _) (.cells #[.int .u32 0, .int .u32 0, .int .u32 0, .int .u32 0, .int .u32 0, .int .u32 0, .int .u32 0, .int .u32 0, .int .u32 0, .int .u32 0, .int .u32 0, .int .u32 0, .int .u32 0, .int .u32 0, .int .u32 0, .int .u32 0, .int .u32 0, .int .u32 0, .int .u32 0, .int .u32 0, .int .u32 0, .int .u32 0] 42)))
  have X1 := Lib.hid (show Fm ((w.alloc (.cells (frC m) 42)).alloc (.cells #[.int .u32 0, .int .u32 0, .int .u32 0, .int .u32 0, .int .u32 0, .int .u32 0, .int .u32 0, .int .u32 0, .int .u32 0, .int .u32 0, .int .u32 0, .int .u32 0, .int .u32 0, .int .u32 0, .int .u32 0, .int .u32 0, .int .u32 0, .int .u32 0, .int .u32 0, .int .u32 0, .int .u32 0, .int .u32 0] 42)) (w.heap.size + 1) (fun _ => 0) by
    have := Fm.zero (w.alloc (.cells (frC m) 42))
    rwa [World.size_alloc] at this)
  clear hm hb1
  go_enter Tryd.func32, Tryd.ntmps32
  go_wp2_with (refine wpList_box_row rfl 42 _ rfl _ rfl (frC m) rfl ?_)
  go_loopw [4] (fun i wr => ∃ k : Nat, k ≤ 22 ∧ i = .int .i64 k ∧ Fm wr w.heap.size (othTo m k) ∧ Fm wr (w.heap.size + 1) (fun _ => 0) ∧ Below w.heap.size w wr) (fun i _ => 22 - (intOf i).toNat)
  case atStart => exact ⟨0, Nat.zero_le _, rfl, X0.out.congr (fun y _ => by unfold othTo; rw [if_neg (by omega)]), X1.out, HB1.out⟩
  case round =>
    obtain ⟨k, hk, rfl, hx0, hx1, hbr⟩ := hrel
    have hzr := hbr.size
    have l0 := hx0.lt
    have l1 := hx1.lt
    have Z0 := Lib.hid hx0
    have Z1 := Lib.hid hx1
    have HB := Lib.hid hbr
    clear hx1 hbr
    by_cases hlt : k < 22
    · have hk22 : (k : Int) < 22 := by omega
      have c0 := hx0.c k hlt
      have f0 := hx0.fz k
      have e0 : othTo m k k = m k := by unfold othTo; rw [if_neg (by omega)]
      rw [e0] at c0
      have hmk := HM.out k
      have hx : bits .xor .u32 ((m k : Nat) : Int) 4194303 = ((m k ^^^ 4194303 : Nat) : Int) := u32_xor_nat (m k) 4194303 (by omega) (by omega)
      clear hx0 e0
      go_wp2
      go_roundw
      case rel =>
        refine ⟨k + 1, by omega, by go_num, ?_, Z1.out.setFar (by simp), HB.out.setCell (by simp) _⟩
        have := Z0.out.set (k := k) (m' := othTo m (k + 1)) hlt (fun y _ hne => by
          unfold othTo
          by_cases h : y < k
          · rw [if_pos h, if_pos (by omega)]
          · rw [if_neg h, if_neg (by omega)])
        have hv : othTo m (k + 1) k = m k ^^^ 4194303 := by unfold othTo; rw [if_pos (by omega)]
        rw [hv] at this
        exact this
      case measure => simp [intOf]; omega
    · have hkn : k = 22 := by omega
      subst hkn
      have b1 := Z0.out
      unfold Fm at b1
      have B1 := Lib.hid b1
      clear b1 hx0
      go_wp2_with (first | (refine wpList_load_row rfl 42 (.tmp 1) rfl w.heap.size rfl 42 (frC (othTo m 22)) (0, 0) _ B1.out Tryd.underlying42 rfl (by rw [frC_size]; exact infoFr) ?_) | (refine wpList_store_rowTo rfl 42 (.tmp 2) (.tmp 13) rfl rfl (w.heap.size + 1) (frC (othTo m 22)) rfl rfl 42 (frC (fun _ => 0)) Z1.out (by rw [frC_size]; exact infoFr) (by rw [frC_size, frC_size]) (frC_one _) ?_))
      refine bodyPost_ret (v := .agg (frC (othTo m 22))) (results_cell_row rfl _ _ (w.heap.size + 1) 42 (frC (othTo m 22)) (0, 0) _ rfl Z1.out.row Tryd.underlying42 rfl (by rw [frC_size]; exact infoFr)) rfl ⟨rfl, ?_⟩
      exact below_setRow HB.out (by omega) _

theorem Count.skips {E : Nat → Nat → Prop} {Q : Nat → Prop} {t : Nat} {s : Nat → Bool} {n : Int} (h : Count E Q t s n) (hc : ∀ a b, Rch E a b → (Q a ↔ Q b)) : ∀ d, (∀ b, t ≤ b → b < t + d → ¬ Q b ∨ s b = true) → Count E Q (t + d) s n
  | 0, _ => h
  | d + 1, hh => (Count.skips h hc d (fun b h1 h2 => hh b h1 (by omega))).skip hc (hh (t + d) (by omega) (by omega))
theorem Count.upTo {E : Nat → Nat → Prop} {Q : Nat → Prop} {t t' : Nat} {s : Nat → Bool} {n : Int} (h : Count E Q t s n) (hc : ∀ a b, Rch E a b → (Q a ↔ Q b)) (ht : t ≤ t') (hh : ∀ b, t ≤ b → b < t' → ¬ Q b ∨ s b = true) : Count E Q t' s n := by
  obtain ⟨d, rfl⟩ : ∃ d, t' = t + d := ⟨t' - t, by omega⟩
  exact h.skips hc d hh
theorem restB_mono {n : Nat} {s s' : Nat → Bool} (h : ∀ i, s i = true → s' i = true) : restB n s' ≤ restB n s := by
  induction n with
  | zero => exact Nat.le_refl _
  | succ n ih =>
    simp only [restB]
    cases hs : s n
    · simp only [Bool.false_eq_true, if_false]; split <;> omega
    · rw [h n hs]; simp only [if_true]; omega
theorem restB_less {n k : Nat} {s s' : Nat → Bool} (h : ∀ i, s i = true → s' i = true) (hk : k < n) (h0 : s k = false) (h1 : s' k = true) : restB n s' < restB n s := by
  induction n with
  | zero => omega
  | succ n ih =>
    simp only [restB]
    by_cases e : k = n
    · subst e
      have := restB_mono (n := k) h
      rw [h0, h1]; simp only [if_true, Bool.false_eq_true, if_false]; omega
    · have := ih (by omega)
      cases hs : s n
      · simp only [Bool.false_eq_true, if_false]; split <;> omega
      · rw [h n hs]; simp only [if_true]; omega
theorem takepiece_val (g sb scap o x y : Nat) (e8 c : Bool) (G S : Nat → Bool) (w : World) (hx : o % 22 = x) (hy : o / 22 = y) (ho : o < 484) (hG : G o = c) (hR : RB w g G c S) (hP : Ps w sb (stN e8)) (hne : sb ≠ g) (hS0 : S o = false) (hS : ∀ a b, EdE e8 c G a b → S a = true → S b = true) :
    Calls Tryd.prog 48 #[.pointer (some ⟨g, 0, none⟩), .agg #[.int .i64 (x : Nat), .int .i64 (y : Nat)], .slice (some ⟨sb, 0, none⟩) (stN e8) scap] w fun e w' => e = .returned (.tuple #[]) ∧ ∃ s, RB w' g G c s ∧ (∀ a, s a = true ↔ S a = true ∨ Rch (EdE e8 c G) o a) ∧ w.grownBy w' (some g) := by
  subst hx hy; exact takepiece_any g sb scap o e8 c G S w ho hG hR hP hne hS0 hS
/-- Behind some cells: pieces that begin there are taken away, and counted. -/
structure PieceP (w wr : World) (g : Nat) (e8 c : Bool) (G : Nat → Bool) (t : Nat) (s : Nat → Bool) (n : Int) : Prop where
  rb : RB wr g G c s
  ct : Count (EdE e8 c G) (fun a => G a = c) t s n
  bel : Below w.heap.size w wr
theorem PieceP.bd {w wr : World} {g t : Nat} {e8 c : Bool} {G s : Nat → Bool} {n : Int} (h : PieceP w wr g e8 c G t s n) : 0 ≤ n ∧ n ≤ t := by
  rw [h.ct.num]; exact cntP_bd t _
set_option maxHeartbeats 8000000 in
set_option maxRecDepth 100000 in
theorem pieces_any (m : Nat → Nat) (sb scap : Nat) (e8 c : Bool) (G : Nat → Bool) (w : World) (hm : ∀ y, y < 22 → m y < 2 ^ 22) (hb : ∀ y x, y < 22 → x < 22 → (m y).testBit x = (G (22 * y + x) == c)) (hP : Ps w sb (stN e8)) (hv : Vt w) :
    Calls Tryd.prog 30 #[.agg (frC m), .slice (some ⟨sb, 0, none⟩) (stN e8) scap] w fun e w' => e = .returned (.int .i64 (cntP 484 (fun a => G a = c ∧ Rep (Rch (EdE e8 c G)) a))) ∧ Below w.heap.size w w' := by
  have hsl := hP.1
  have HPs := Lib.hid hP
  have HV := Lib.hid hv
  have HR0 : Hid (RB (w.alloc (.cells (frC m) 42)) w.heap.size G c (fun _ => false)) := Lib.hid ⟨m, Fm.new w m, hm, fun y x hy hx => by rw [hb y x hy hx]; unfold avB; simp⟩
  have hc : ∀ a b, Rch (EdE e8 c G) a b → (G a = c ↔ G b = c) := fun _ _ => rchE_col
  have HC := Lib.hid hc
  clear hP hv hm hb hc
  go_enter Tryd.func30, Tryd.ntmps30
  go_wp2_with (refine wpList_box_row rfl 42 _ rfl _ rfl (frC m) rfl ?_)
  go_loopw [5, 7] (fun t5 t7 wr => ∃ (k : Nat) (s : Nat → Bool) (n : Int), k ≤ 22 ∧ t7 = .int .i64 (k : Nat) ∧ t5 = .int .i64 n ∧ PieceP w wr w.heap.size e8 c G (22 * k) s n) (fun _ t7 _ => 22 - (intOf t7).toNat)
  case atStart => exact ⟨0, fun _ => false, 0, Nat.zero_le _, rfl, rfl, HR0.out, Count.start _ _, (Below.refl _ _).alloc (Nat.le_refl _) _⟩
  case round =>
    obtain ⟨k, s, n, hk, rfl, rfl, hp⟩ := hrel
    have HP := Lib.hid hp
    clear hp
    by_cases hlt : k < 22
    · have hk22 : (k : Int) < 22 := by omega
      go_wp2
      obtain ⟨wo, ho⟩ : ∃ wo : World, wo = wr := ⟨_, rfl⟩
      go_loopw [5] (fun t5 wi => ∃ (t : Nat) (s : Nat → Bool) (n : Int), 22 * k ≤ t ∧ t ≤ 22 * (k + 1) ∧ t5 = .int .i64 n ∧ PieceP w wi w.heap.size e8 c G t s n) (fun _ wi => restB 484 (goneAt wi w.heap.size))
      case atStart => exact ⟨22 * k, s, n, Nat.le_refl _, by omega, rfl, HP.out⟩
      case round =>
        obtain ⟨t, s, n, ht1, ht2, rfl, hp⟩ := hrel
        have HPX := Lib.hid hp
        obtain ⟨n0, n1⟩ := hp.bd
        obtain ⟨m', hF, hr, hb⟩ := hp.rb.ex
        have c0 := hF.c k hlt
        have hmk := hr k hlt
        have HBt := Lib.hid (fun x hx => hb k x hlt hx)
        have hsw := hp.bel.size
        clear hp hF hr hb
        generalize hM : m' k = M at c0 hmk HBt
        clear hM
        by_cases h0 : M = 0
        · subst h0
          go_wp2
          go_roundw
          case rel =>
            refine ⟨k + 1, s, n, by omega, by go_num, rfl, HPX.out.rb, HPX.out.ct.upTo HC.out (by omega) (fun b h1 h2 => ?_), HPX.out.bel⟩
            have := HBt.out (b - 22 * k) (by omega)
            rw [show 22 * k + (b - 22 * k) = b by omega, Nat.zero_testBit] at this
            unfold avB at this
            by_cases hg : G b = c
            · rw [hg] at this; exact Or.inr (by simpa using this.symm)
            · exact Or.inl hg
          case measure => simp [intOf]; omega
        · obtain ⟨z1, z2, z3⟩ := ctz_bit M h0 hmk
          have hM0 : ((M : Int) == 0) = false := by simp; omega
          have hM1 : ((M : Int) != 0) = true := by simp; omega
          have hM2 : ¬ ((M : Int) = 0) := by omega
          have HT := Lib.hid (fun w hv => tz_any M (by omega) h0 w hv)
          generalize Lib.ctz 32 M = z at z1 z2 z3 HT
          rw [HBt.out z z3] at z1
          have Z2 := Lib.hid z2
          obtain ⟨o, ho⟩ : ∃ o, 22 * k + z = o := ⟨_, rfl⟩
          rw [ho] at z1
          obtain ⟨g1, s1⟩ : G o = c ∧ s o = false := by
            unfold avB at z1; rw [Bool.and_eq_true] at z1; exact ⟨by simpa using z1.1, by simpa using z1.2⟩
          have ho4 : o < 484 := by omega
          have hto : t ≤ o := by
            rcases Nat.lt_or_ge o t with h | h
            · have := (HPX.out.ct.seen o).2 ⟨g1, o, h, (Rch.eqv _).refl o⟩
              rw [s1] at this; cases this
            · exact h
          have HO := Lib.hid (And.intro ho (And.intro z1 hto))
          have HPi := Lib.hid (HPs.out.under HPX.out.bel hsl)
          have HVi := Lib.hid (HV.out.below HPX.out.bel)
          clear z1 z2 ho
          go_wp2_with fail
          refine (HT.out _ HVi.out).mono ?_; rintro e w' ⟨rfl, rfl⟩
          go_wp2_with fail
          refine (takepiece_val w.heap.size sb scap o z k e8 c G s _ (by have := HO.out.1; omega) (by have := HO.out.1; omega) ho4 g1 HPX.out.rb HPi.out (by omega) s1 (HPX.out.ct.shut HC.out)).mono ?_; rintro e w5 ⟨rfl, s5, hr5, hs5, hg5⟩
          have HR5 := Lib.hid hr5
          have HS5 := Lib.hid hs5
          have HG5 := Lib.hid hg5
          clear hr5 hs5 hg5
          go_wp2
          go_roundw
          case rel =>
            refine ⟨o + 1, s5, n + 1, by omega, by have := HO.out.1; omega, by go_num, HR5.out, ?_, below_grown HPX.out.bel HG5.out hsw (Nat.le_refl _)⟩
            refine (HPX.out.ct.upTo HC.out hto (fun b h1 h2 => ?_)).flood HC.out g1 s1 HS5.out
            have h3 := HO.out.1
            have := HBt.out (b - 22 * k) (by omega)
            rw [show 22 * k + (b - 22 * k) = b by omega, Z2.out (b - 22 * k) (by omega)] at this
            unfold avB at this
            by_cases hg : G b = c
            · rw [hg] at this; exact Or.inr (by simpa using this.symm)
            · exact Or.inl hg
          case measure =>
            rw [HR5.out.gone, HPX.out.rb.gone]
            refine restB_less (k := o) (fun a ha => ?_) ho4 ?_ ?_
            · unfold avB at *
              cases hsa : s a
              · rw [hsa] at ha
                cases hga : (G a == c)
                · rfl
                · rw [hga] at ha; cases ha
              · rw [(HS5.out a).2 (Or.inl hsa)]; simp
            · rw [HO.out.2.1]; rfl
            · unfold avB; rw [(HS5.out o).2 (Or.inr ((Rch.eqv _).refl o))]; simp
    · have hkn : k = 22 := by omega
      subst hkn
      go_wp2
      go_ret
      exact ⟨ret_int (by rw [HP.out.ct.num]), HP.out.bel⟩

theorem pieces_val (m : Nat → Nat) (sb scap : Nat) (e8 c : Bool) (G : Nat → Bool) (N : Int) (hN : cntP 484 (fun a => G a = c ∧ Rep (Rch (EdE e8 c G)) a) = N) (w : World) (hm : ∀ y, y < 22 → m y < 2 ^ 22) (hb : ∀ y x, y < 22 → x < 22 → (m y).testBit x = (G (22 * y + x) == c)) (hP : Ps w sb (stN e8)) (hv : Vt w) :
    Calls Tryd.prog 30 #[.agg (frC m), .slice (some ⟨sb, 0, none⟩) (stN e8) scap] w fun e w' => e = .returned (.int .i64 N) ∧ Below w.heap.size w w' := hN ▸ pieces_any m sb scap e8 c G w hm hb hP hv

set_option maxHeartbeats 2000000 in
theorem ipc_any (A : Option Addr) (n cap : Nat) (f : Nat → Rt) (w : World) (hn : n ≤ maxLen) (hr : Rs w A n f) (hv : Vt w) :
    Calls Tryd.prog 12 #[.slice A n cap] w fun e w' => e = .returned (.int .i64 (pcF f n)) ∧ Below w.heap.size w w' := by
  have Hn := Lib.hid hn
  have Hr := Lib.hid hr
  have Hv := Lib.hid hv
  clear hn hr hv
  cases hl : laidF f n
  · have H : Hid (pcF f n = -1) := Lib.hid (by unfold pcF; rw [hl]; rfl)
    go_enter Tryd.func12, Tryd.ntmps12
    go_wp2_with fail
    refine (ilaid_val A n cap f false hl _ Hn.out Hr.out).mono ?_; rintro e w1 ⟨rfl, hb1⟩; have hz1 := hb1.size; (try simp at hz1)
    go_wp2
    go_ret
    exact ⟨ret_int (by rw [H.out]), by (repeat (first | with_reducible exact Below.refl _ _ | with_reducible assumption | ((with_reducible refine Below.alloc ?_ ?_ _); rotate_left; focus (first | with_reducible exact Nat.le_refl _ | omega | (simp; done) | (simp; omega))) | ((with_reducible refine Below.setCell ?_ ?_ _); rotate_left; focus (first | with_reducible exact Nat.le_refl _ | omega | (simp; done) | (simp; omega))) | (with_reducible refine Below.drew ?_) | ((with_reducible refine Below.trans ?_ (Below.mono (by with_reducible assumption) ?_)); rotate_left; focus (first | with_reducible exact Nat.le_refl _ | omega | (simp; done) | (simp; omega)))))⟩
  · obtain ⟨h7, hok⟩ := laidF_ok hl
    have Hok := Lib.hid hok
    clear hok
    have H : Hid (pcF f n = cntP 484 (fun a => mapG f n a = true ∧ Rep (Rch (EdE false true (mapG f n))) a)) := Lib.hid (by unfold pcF; rw [hl]; rfl)
    go_enter Tryd.func12, Tryd.ntmps12
    go_wp2_with fail
    refine (ilaid_val A n cap f true hl _ Hn.out Hr.out).mono ?_; rintro e w1 ⟨rfl, hb1⟩; have hz1 := hb1.size; (try simp at hz1)
    have Hr1 := Lib.hid (Hr.out.below hb1)
    have Hv1 := Lib.hid (Hv.out.below hb1)
    go_wp2_with fail
    refine (framed_any A n cap f _ hl Hr1.out).mono ?_; rintro e w2 ⟨rfl, hb2⟩; have hz2 := hb2.size; (try simp at hz2)
    have Hv2 := Lib.hid (Hv1.out.below hb2)
    go_wp2_with fail
    refine (bysides_any _).mono ?_; rintro e w3 ⟨b, rfl, ho, hb3⟩; have hz3 := hb3.size; (try simp at hz3)
    have HPs := Lib.hid (four_steps ho)
    have Hv3 := Lib.hid (Hv2.out.below hb3)
    clear ho
    go_wp2_with fail
    refine (pieces_any (frM f n) b 4 false true (mapG f n) _ (fun y _ => frM_lt22 Hok.out y) (fun y x hy hx => by rw [frM_bit Hok.out x y hx]; cases mapG f n (22 * y + x) <;> rfl) HPs.out Hv3.out).mono ?_; rintro e w4 ⟨rfl, hb4⟩; have hz4 := hb4.size; (try simp at hz4)
    go_wp2
    go_ret
    exact ⟨ret_int (by rw [H.out]), by (repeat (first | with_reducible exact Below.refl _ _ | with_reducible assumption | ((with_reducible refine Below.alloc ?_ ?_ _); rotate_left; focus (first | with_reducible exact Nat.le_refl _ | omega | (simp; done) | (simp; omega))) | ((with_reducible refine Below.setCell ?_ ?_ _); rotate_left; focus (first | with_reducible exact Nat.le_refl _ | omega | (simp; done) | (simp; omega))) | (with_reducible refine Below.drew ?_) | ((with_reducible refine Below.trans ?_ (Below.mono (by with_reducible assumption) ?_)); rotate_left; focus (first | with_reducible exact Nat.le_refl _ | omega | (simp; done) | (simp; omega)))))⟩

set_option maxHeartbeats 2000000 in
theorem iho_any (A : Option Addr) (n cap : Nat) (f : Nat → Rt) (w : World) (hn : n ≤ maxLen) (hr : Rs w A n f) (hv : Vt w) :
    Calls Tryd.prog 13 #[.slice A n cap] w fun e w' => e = .returned (.int .i64 (hoF f n)) ∧ Below w.heap.size w w' := by
  have Hn := Lib.hid hn
  have Hr := Lib.hid hr
  have Hv := Lib.hid hv
  clear hn hr hv
  cases hl : laidF f n
  · have H : Hid (hoF f n = -1) := Lib.hid (by unfold hoF; rw [hl]; rfl)
    go_enter Tryd.func13, Tryd.ntmps13
    go_wp2_with fail
    refine (ilaid_val A n cap f false hl _ Hn.out Hr.out).mono ?_; rintro e w1 ⟨rfl, hb1⟩; have hz1 := hb1.size; (try simp at hz1)
    go_wp2
    go_ret
    exact ⟨ret_int (by rw [H.out]), by (repeat (first | with_reducible exact Below.refl _ _ | with_reducible assumption | ((with_reducible refine Below.alloc ?_ ?_ _); rotate_left; focus (first | with_reducible exact Nat.le_refl _ | omega | (simp; done) | (simp; omega))) | ((with_reducible refine Below.setCell ?_ ?_ _); rotate_left; focus (first | with_reducible exact Nat.le_refl _ | omega | (simp; done) | (simp; omega))) | (with_reducible refine Below.drew ?_) | ((with_reducible refine Below.trans ?_ (Below.mono (by with_reducible assumption) ?_)); rotate_left; focus (first | with_reducible exact Nat.le_refl _ | omega | (simp; done) | (simp; omega)))))⟩
  · obtain ⟨h7, hok⟩ := laidF_ok hl
    have Hok := Lib.hid hok
    clear hok
    have H : Hid (hoF f n = cntP 484 (fun a => mapG f n a = false ∧ Rep (Rch (EdE true false (mapG f n))) a) - 1) := Lib.hid (by unfold hoF; rw [hl]; rfl)
    obtain ⟨n0, n1⟩ := cntP_bd 484 (fun a => mapG f n a = false ∧ Rep (Rch (EdE true false (mapG f n))) a)
    generalize hK : cntP 484 (fun a => mapG f n a = false ∧ Rep (Rch (EdE true false (mapG f n))) a) = K at H n0 n1
    have HK := Lib.hid hK
    clear hK
    go_enter Tryd.func13, Tryd.ntmps13
    go_wp2_with fail
    refine (ilaid_val A n cap f true hl _ Hn.out Hr.out).mono ?_; rintro e w1 ⟨rfl, hb1⟩; have hz1 := hb1.size; (try simp at hz1)
    have Hr1 := Lib.hid (Hr.out.below hb1)
    have Hv1 := Lib.hid (Hv.out.below hb1)
    go_wp2_with fail
    refine (framed_any A n cap f _ hl Hr1.out).mono ?_; rintro e w2 ⟨rfl, hb2⟩; have hz2 := hb2.size; (try simp at hz2)
    have Hv2 := Lib.hid (Hv1.out.below hb2)
    go_wp2_with fail
    refine (others_any (frM f n) _ (frM_lt22 Hok.out)).mono ?_; rintro e w3 ⟨rfl, hb3⟩; have hz3 := hb3.size; (try simp at hz3)
    have Hv3 := Lib.hid (Hv2.out.below hb3)
    go_wp2_with fail
    refine (bycorners_any _).mono ?_; rintro e w4 ⟨b, bcap, rfl, ho, hb4⟩; have hz4 := hb4.size; (try simp at hz4)
    have HPs := Lib.hid ho
    have Hv4 := Lib.hid (Hv3.out.below hb4)
    clear ho
    go_wp2_with fail
    refine (pieces_val (othM (frM f n)) b bcap true false (mapG f n) K HK.out _ (fun y _ => othM_lt (frM_lt22 Hok.out) y) (fun y x hy hx => by rw [othM_bit _ x y hx hy, frM_bit Hok.out x y hx]; cases mapG f n (22 * y + x) <;> rfl) HPs.out Hv4.out).mono ?_; rintro e w5 ⟨rfl, hb5⟩; have hz5 := hb5.size; (try simp at hz5)
    go_wp2
    go_ret
    exact ⟨ret_int (by rw [H.out]), by (repeat (first | with_reducible exact Below.refl _ _ | with_reducible assumption | ((with_reducible refine Below.alloc ?_ ?_ _); rotate_left; focus (first | with_reducible exact Nat.le_refl _ | omega | (simp; done) | (simp; omega))) | ((with_reducible refine Below.setCell ?_ ?_ _); rotate_left; focus (first | with_reducible exact Nat.le_refl _ | omega | (simp; done) | (simp; omega))) | (with_reducible refine Below.drew ?_) | ((with_reducible refine Below.trans ?_ (Below.mono (by with_reducible assumption) ?_)); rotate_left; focus (first | with_reducible exact Nat.le_refl _ | omega | (simp; done) | (simp; omega)))))⟩
end Go.Proofs.YtbdpngjakccjjaaDoor
