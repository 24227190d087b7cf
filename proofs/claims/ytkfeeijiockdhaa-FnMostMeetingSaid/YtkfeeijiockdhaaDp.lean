/- Chapter 3 of impl: the table of changes and the table of depths. Chapter 3 of impl: DepthAt, DepthsOf. -/
import Derived.Test.YtkfeeijiockdhaaTab
import Derived.Test.YtkfeeijiockdhaaMathTD
import Derived.StillTailTactics
import Derived.Test.YtkfeeijiockdhaaSum
namespace Go.Proofs.Ytkfeeijiockdhaa
open Go.RowKit Go.Sort
set_option linter.unusedVariables false
/-- While a rectangle is laid: the table at g, and the rectangle's own copy. -/
structure LayP (w wr : World) (g L O R H : Nat) (T : Nat → Int) : Prop where
  tb : Tb wr g 441 93 T
  gr : w.grownBy wr (some g)
  sz : w.heap.size < wr.heap.size
  c : ∀ o, wr.cell? ⟨w.heap.size, o, none⟩ = (w.alloc (.cells #[.int .i64 (L : Nat), .int .i64 (O : Nat), .int .i64 (R : Nat), .int .i64 (H : Nat)] 29)).cell? ⟨w.heap.size, o, none⟩
theorem LayP.start {w : World} {g : Nat} (L O R H : Nat) {T : Nat → Int} (hb : Tb w g 441 93 T) : LayP w (w.alloc (.cells #[.int .i64 (L : Nat), .int .i64 (O : Nat), .int .i64 (R : Nat), .int .i64 (H : Nat)] 29)) g L O R H T :=
  ⟨hb.below ((Below.refl _ _).alloc (Nat.le_refl _) _), grown_below (World.grownBy.refl w _) ((Below.refl _ _).alloc (Nat.le_refl _) _), by simp, fun _ => rfl⟩
theorem LayP.step {w wr : World} {g L O R H : Nat} {T : Nat → Int} (h : LayP w wr g L O R H T) (hg : g < w.heap.size) (k : Nat) (d v : Int) (hv : v = T k + d) : LayP w (wr.setCell ⟨g, k, none⟩ (.int .i64 v)).drew g L O R H (bump T k d) := by
  subst hv
  exact ⟨(h.tb.bumped k d).drew, grown_drew (grown_setCell (o := k) h.gr _), by simpa [World.setCell] using h.sz, fun o => by
    rw [← h.c o]
    exact World.cell?_setCell_other _ ⟨g, k, none⟩ ⟨w.heap.size, o, none⟩ _ (fun e => by injection e; omega)⟩
theorem LayP.cells {w wr : World} {g L O R H : Nat} {T : Nat → Int} (h : LayP w wr g L O R H T) : wr.cell? ⟨w.heap.size, 0, none⟩ = some (.int .i64 (L : Nat)) ∧ wr.cell? ⟨w.heap.size, 1, none⟩ = some (.int .i64 (O : Nat)) ∧ wr.cell? ⟨w.heap.size, 2, none⟩ = some (.int .i64 (R : Nat)) ∧ wr.cell? ⟨w.heap.size, 3, none⟩ = some (.int .i64 (H : Nat)) := by
  refine ⟨?_, ?_, ?_, ?_⟩
  · rw [h.c]; go_simp
  · rw [h.c]; go_simp
  · rw [h.c]; go_simp
  · rw [h.c]; go_simp

set_option maxRecDepth 10000 in
set_option maxHeartbeats 1000000 in
theorem laytab_any (g L O R H : Nat) (T : Nat → Int) (w : World) (hL : L < R) (hR : R ≤ 20) (hO : O < H) (hH : H ≤ 20) (hT : BndT T 100) (hb : Tb w g 441 93 T) :
    Calls Try.prog 85 #[.pointer (some ⟨g, 0, none⟩), .agg #[.int .i64 (L : Nat), .int .i64 (O : Nat), .int .i64 (R : Nat), .int .i64 (H : Nat)]] w fun e w' => e = .returned (.tuple #[]) ∧ Tb w' g 441 93 (layT T L O R H) ∧ w.grownBy w' (some g) := by
  have HB := Lib.hid hb
  have hgl := hb.lt
  have B1 := Lib.hid hT
  clear hb hT
  go_enter Try.func85, Try.ntmps85
  have iL : (L : Int) < 21 := by omega
  have iO : (O : Int) < 21 := by omega
  have iR : (R : Int) < 21 := by omega
  have iH : (H : Int) < 21 := by omega
  go_wp2
  refine name_world (fun w1 hW => ?_)
  have P1 : Hid (LayP w w1 g L O R H (T)) := Lib.hid (by subst hW; exact LayP.start L O R H HB.out)
  clear hW
  obtain ⟨d0, d1, d2, d3⟩ := P1.out.cells
  have c0 := P1.out.tb.c (O * 21 + L) (by omega)
  have f0 := P1.out.tb.fz (O * 21 + L)
  obtain ⟨b1, b2⟩ := B1.out (O * 21 + L)
  generalize hX : (T) (O * 21 + L) = X at c0 b1 b2
  have HX := Lib.hid hX
  clear hX
  go_still_tail 13, (by kernel_rfl)
  change wpList _ _ _ _ _ w1.drew
  go_wp2
  have hX := HX.out
  subst hX
  clear HX
  have B2 := Lib.hid (B1.out.bump (O * 21 + L) (1) (by omega) (by omega))
  clear d0 d1 d2 d3 c0 f0 b1 b2
  refine name_world (fun w2 hW => ?_)
  have P2 : Hid (LayP w w2 g L O R H (bump T (O * 21 + L) 1)) := Lib.hid (by subst hW; exact P1.out.step hgl _ (1) _ (by omega))
  clear hW
  obtain ⟨d0, d1, d2, d3⟩ := P2.out.cells
  have c0 := P2.out.tb.c (O * 21 + R) (by omega)
  have f0 := P2.out.tb.fz (O * 21 + R)
  obtain ⟨b1, b2⟩ := B2.out (O * 21 + R)
  generalize hX : (bump T (O * 21 + L) 1) (O * 21 + R) = X at c0 b1 b2
  have HX := Lib.hid hX
  clear hX
  go_still_tail 13, (by kernel_rfl)
  change wpList _ _ _ _ _ w2.drew
  go_wp2
  have hX := HX.out
  subst hX
  clear HX
  have B3 := Lib.hid (B2.out.bump (O * 21 + R) (-1) (by omega) (by omega))
  clear d0 d1 d2 d3 c0 f0 b1 b2
  refine name_world (fun w3 hW => ?_)
  have P3 : Hid (LayP w w3 g L O R H (bump (bump T (O * 21 + L) 1) (O * 21 + R) (-1))) := Lib.hid (by subst hW; exact P2.out.step hgl _ (-1) _ (by omega))
  clear hW
  obtain ⟨d0, d1, d2, d3⟩ := P3.out.cells
  have c0 := P3.out.tb.c (H * 21 + L) (by omega)
  have f0 := P3.out.tb.fz (H * 21 + L)
  obtain ⟨b1, b2⟩ := B3.out (H * 21 + L)
  generalize hX : (bump (bump T (O * 21 + L) 1) (O * 21 + R) (-1)) (H * 21 + L) = X at c0 b1 b2
  have HX := Lib.hid hX
  clear hX
  go_still_tail 13, (by kernel_rfl)
  change wpList _ _ _ _ _ w3.drew
  go_wp2
  have hX := HX.out
  subst hX
  clear HX
  have B4 := Lib.hid (B3.out.bump (H * 21 + L) (-1) (by omega) (by omega))
  clear d0 d1 d2 d3 c0 f0 b1 b2
  refine name_world (fun w4 hW => ?_)
  have P4 : Hid (LayP w w4 g L O R H (bump (bump (bump T (O * 21 + L) 1) (O * 21 + R) (-1)) (H * 21 + L) (-1))) := Lib.hid (by subst hW; exact P3.out.step hgl _ (-1) _ (by omega))
  clear hW
  obtain ⟨d0, d1, d2, d3⟩ := P4.out.cells
  have c0 := P4.out.tb.c (H * 21 + R) (by omega)
  have f0 := P4.out.tb.fz (H * 21 + R)
  obtain ⟨b1, b2⟩ := B4.out (H * 21 + R)
  generalize hX : (bump (bump (bump T (O * 21 + L) 1) (O * 21 + R) (-1)) (H * 21 + L) (-1)) (H * 21 + R) = X at c0 b1 b2
  have HX := Lib.hid hX
  clear hX
  go_still_tail 13, (by kernel_rfl)
  change wpList _ _ _ _ _ w4.drew
  go_wp2
  have hX := HX.out
  subst hX
  clear HX
  have B5 := Lib.hid (B4.out.bump (H * 21 + R) (1) (by omega) (by omega))
  clear d0 d1 d2 d3 c0 f0 b1 b2
  go_end0
  have E := P4.out.step hgl (H * 21 + R) 1 _ rfl
  exact ⟨rfl, E.tb, E.gr⟩

theorem zero400 : (Try.prog.info? 70).bind (·.zero) = some (.agg (tbC 400 fun _ => 0)) := by kernel_rfl
theorem zero441 : (Try.prog.info? 93).bind (·.zero) = some (.agg (tbC 441 fun _ => 0)) := by kernel_rfl
theorem zero20 : (Try.prog.info? 68).bind (·.zero) = some (.agg (tbC 20 fun _ => 0)) := by kernel_rfl
theorem info400 : (Try.prog.info? 70).map (·.size) = some 400 := by kernel_rfl
theorem info20 : (Try.prog.info? 68).map (·.size) = some 20 := by kernel_rfl
/-- While the changes are summed. -/
structure SumP (w wr : World) (D R : Nat → Int) : Prop where
  r0 : Tb wr w.heap.size 400 70 (fun _ => 0)
  r1 : Tb wr (w.heap.size + 1) 400 70 D
  r2 : Tb wr (w.heap.size + 1 + 1) 20 68 R
  bl : Below w.heap.size w wr
theorem SumP.start (w : World) : SumP w (((w.alloc (.cells (tbC 400 fun _ => 0) 70)).alloc (.cells (tbC 400 fun _ => 0) 70)).alloc (.cells (tbC 20 fun _ => 0) 68)) (fun _ => 0) (fun _ => 0) := by
  have b1 : Below (w.alloc (.cells (tbC 400 fun _ => 0) 70)).heap.size (w.alloc (.cells (tbC 400 fun _ => 0) 70)) ((w.alloc (.cells (tbC 400 fun _ => 0) 70)).alloc (.cells (tbC 400 fun _ => 0) 70)) := (Below.refl _ _).alloc (Nat.le_refl _) _
  have b2 : Below ((w.alloc (.cells (tbC 400 fun _ => 0) 70)).alloc (.cells (tbC 400 fun _ => 0) 70)).heap.size ((w.alloc (.cells (tbC 400 fun _ => 0) 70)).alloc (.cells (tbC 400 fun _ => 0) 70)) (((w.alloc (.cells (tbC 400 fun _ => 0) 70)).alloc (.cells (tbC 400 fun _ => 0) 70)).alloc (.cells (tbC 20 fun _ => 0) 68)) := (Below.refl _ _).alloc (Nat.le_refl _) _
  refine ⟨((Tb.new w 400 70 _).below b1).below b2, ?_, ?_, by (repeat (first | with_reducible exact Below.refl _ _ | with_reducible assumption | ((with_reducible refine Below.alloc ?_ ?_ _); rotate_left; focus (first | with_reducible exact Nat.le_refl _ | omega | (simp; done) | (simp; omega))) | ((with_reducible refine Below.setCell ?_ ?_ _); rotate_left; focus (first | with_reducible exact Nat.le_refl _ | omega | (simp; done) | (simp; omega))) | (with_reducible refine Below.drew ?_) | ((with_reducible refine Below.trans ?_ (Below.mono (by with_reducible assumption) ?_)); rotate_left; focus (first | with_reducible exact Nat.le_refl _ | omega | (simp; done) | (simp; omega)))))⟩
  · have := (Tb.new (w.alloc (.cells (tbC 400 fun _ => 0) 70)) 400 70 (fun _ => 0)).below b2
    rw [World.size_alloc] at this; exact this
  · have := Tb.new ((w.alloc (.cells (tbC 400 fun _ => 0) 70)).alloc (.cells (tbC 400 fun _ => 0) 70)) 20 68 (fun _ => 0)
    rw [World.size_alloc, World.size_alloc] at this; exact this
theorem SumP.set {w wr : World} {D R R' : Nat → Int} (h : SumP w wr D R) {k : Nat} (e : ∀ j, j < 20 → j ≠ k → R j = R' j) : SumP w (wr.setCell ⟨w.heap.size + 1 + 1, k, none⟩ (.int .i64 (R' k))) D R' :=
  ⟨h.r0.setFar (by dsimp only; omega), h.r1.setFar (by dsimp only; omega), h.r2.set e, h.bl.setCell (by dsimp only; omega) _⟩
theorem SumP.rows {w wr : World} {D D' R : Nat → Int} (h : SumP w wr D R) {P : Nat → Int} (e : ∀ j, j < 400 → P j = D' j) : SumP w (wr.setRow (w.heap.size + 1) (tbC 400 P)) D' R :=
  ⟨h.r0.rowFar (by omega), h.r1.row.congr e, h.r2.rowFar (by omega), below_setRow h.bl (by omega) _⟩
theorem SumP.congr {w wr : World} {D R R' : Nat → Int} (h : SumP w wr D R) (e : ∀ x, x < 20 → R x = R' x) : SumP w wr D R' := ⟨h.r0, h.r1, h.r2.congr e, h.bl⟩
/-- The depths of the first k rows. -/
def depT (T : Nat → Int) (k : Nat) : Nat → Int := fun j => if j < k * 20 then boxT T (j / 20 + 1) (j % 20) else 0
def rowsT (T : Nat → Int) (k j : Nat) : Nat → Int := fun x => if x < j then boxT T (k + 1) x else boxT T k x
set_option maxRecDepth 10000 in
set_option maxHeartbeats 1000000 in
theorem summed_any (g : Nat) (T : Nat → Int) (w : World) (hr : ∀ y k, y < 20 → k ≤ 20 → -560 ≤ rowT T y k ∧ rowT T y k ≤ 560) (hx : ∀ m x, m ≤ 20 → x < 20 → 0 ≤ boxT T m x ∧ boxT T m x ≤ 7) (hB : BndT T 100) (hb : Tb w g 441 93 T) :
    Calls Try.prog 86 #[.pointer (some ⟨g, 0, none⟩)] w fun e w' => e = .returned (.agg (tbC 400 (depT T 20))) ∧ Below w.heap.size w w' := by
  have HB := Lib.hid hb
  have HR := Lib.hid hr
  have HX := Lib.hid hx
  have BT := Lib.hid hB
  have hgl := hb.lt
  clear hb hr hx hB
  go_enter Try.func86, Try.ntmps86
  go_wp2_with (first | (refine wpList_alloc_row rfl 70 rfl (some 2) rfl (tbC 400 fun _ => 0) zero400 ?_) | (refine wpList_alloc_row rfl 70 rfl (some 3) rfl (tbC 400 fun _ => 0) zero400 ?_) | (refine wpList_alloc_row rfl 68 rfl (some 4) rfl (tbC 20 fun _ => 0) zero20 ?_))
  go_loopw [8] (fun i wr => ∃ k : Nat, k ≤ 20 ∧ i = .int .i64 k ∧ SumP w wr (depT T k) (fun x => boxT T k x)) (fun i _ => 20 - (intOf i).toNat)
  case atStart =>
    refine ⟨0, Nat.zero_le _, rfl, ?_⟩
    have h := SumP.start w
    exact ⟨h.r0, h.r1.congr (fun j _ => by unfold depT; rw [if_neg (by omega)]), h.r2.congr (fun j _ => rfl), h.bl⟩
  case round =>
    obtain ⟨k, hk, rfl, hp⟩ := hrel
    have HP := Lib.hid hp
    have hzr := hp.bl.size
    have l2 := hp.r2.lt
    clear hp
    by_cases hlt : k < 20
    · have hk20 : (k : Int) < 20 := by omega
      go_wp2
      obtain ⟨wo, rfl⟩ : ∃ wo : World, wo = wr := ⟨_, rfl⟩
      go_loopw [6, 11] (fun c x wi => ∃ j : Nat, j ≤ 20 ∧ x = .int .i64 j ∧ c = .int .i64 (rowT T k j) ∧ SumP w wi (depT T k) (rowsT T k j)) (fun _ x _ => 20 - (intOf x).toNat)
      case atStart => 
        refine ⟨0, Nat.zero_le _, rfl, rfl, ?_⟩
        exact ⟨HP.out.r0, HP.out.r1, HP.out.r2.congr (fun x _ => by unfold rowsT; rw [if_neg (by omega)]), HP.out.bl⟩
      case round =>
        obtain ⟨j, hj, rfl, rfl, hpi⟩ := hrel
        have HI := Lib.hid hpi
        have hzi := hpi.bl.size
        clear hpi
        by_cases hlt2 : j < 20
        · have hj20 : (j : Int) < 20 := by omega
          have c0 := (HB.out.below HI.out.bl).c (k * 21 + j) (by omega)
          have c1 := HI.out.r2.c j hlt2
          have f1 := HI.out.r2.fz j
          have e1 : rowsT T k j j = boxT T k j := by unfold rowsT; rw [if_neg (by omega)]
          rw [e1] at c1
          obtain ⟨p1, p2⟩ := BT.out (k * 21 + j)
          obtain ⟨q1, q2⟩ := HR.out k j hlt (by omega)
          obtain ⟨s1, s2⟩ := HX.out k j (by omega) hlt2
          have e2 := boxT_succ T k j
          have e3 := rowT_succ T k j
          clear e1
          generalize hC : rowT T k j = C at q1 q2 e3
          generalize hS : boxT T k j = S at c1 s1 s2 e2
          generalize hV : T (k * 21 + j) = V at c0 p1 p2 e3
          have E := Lib.hid (And.intro e2 (And.intro e3 (And.intro hS hC)))
          clear e2 e3 hS hC hV
          go_wp2
          go_roundw
          case rel =>
            obtain ⟨e2, e3, hS, hC⟩ := E.out
            rw [e3] at e2
            refine ⟨j + 1, by omega, by go_num, by rw [e3], ?_⟩
            have h := HI.out.set (k := j) (R' := rowsT T k (j + 1)) (fun x _ hne => by
              unfold rowsT
              by_cases hx : x < j
              · rw [if_pos hx, if_pos (by omega)]
              · rw [if_neg hx, if_neg (by omega)])
            rw [show rowsT T k (j + 1) j = S + (C + V) by unfold rowsT; rw [if_pos (by omega), e2]] at h
            exact h
          case measure => simp [intOf]; omega
        · have hjn : j = 20 := by omega
          subst hjn
          go_wp2_with (first | (refine wpList_load_row rfl 68 (.tmp 4) rfl (w.heap.size + 1 + 1) rfl 68 (tbC 20 (rowsT T k 20)) (0, 0) _ HI.out.r2 Try.underlying68 rfl (by rw [tbC_size]; exact info20) ?_) | (refine wpList_store_part rfl 68 (.tmp 32) (.tmp 31) rfl rfl (w.heap.size + 1) (k * 20) 20 400 70 (depT T k) (rowsT T k 20) rfl rfl HI.out.r1 (by omega) info20 ?_))
          go_roundw
          case rel =>
            refine ⟨k + 1, by omega, by go_num, ?_⟩
            refine (HI.out.rows (D' := depT T (k + 1)) (fun i hi => ?_)).congr (fun x hx => by unfold rowsT; rw [if_pos hx])
            unfold putT depT rowsT
            by_cases h1 : i < k * 20
            · rw [if_neg (by omega), if_pos h1, if_pos (by omega)]
            · by_cases h2 : i < (k + 1) * 20
              · rw [if_pos (by omega), if_pos (by omega), if_pos h2]
                rw [show i / 20 = k by omega, show i - k * 20 = i % 20 by omega]
              · rw [if_neg (by omega), if_neg h1, if_neg h2]
          case measure => simp [intOf]; omega
    · have hkn : k = 20 := by omega
      subst hkn
      go_wp2_with (first | (refine wpList_load_row rfl 70 (.tmp 3) rfl (w.heap.size + 1) rfl 70 (tbC 400 (depT T 20)) (0, 0) _ HP.out.r1 Try.underlying70 rfl (by rw [tbC_size]; exact info400) ?_) | (refine wpList_store_rowTo rfl 70 (.tmp 2) (.tmp 34) rfl rfl w.heap.size (tbC 400 (depT T 20)) rfl rfl 70 (tbC 400 (fun _ => 0)) HP.out.r0 (by rw [tbC_size]; exact info400) (by rw [tbC_size, tbC_size]) (tbC_one _ _) ?_))
      refine bodyPost_ret (v := .agg (tbC 400 (depT T 20))) (results_cell_row rfl _ _ w.heap.size 70 (tbC 400 (depT T 20)) (0, 0) _ rfl HP.out.r0.row Try.underlying70 rfl (by rw [tbC_size]; exact info400)) rfl ⟨rfl, ?_⟩
      exact below_setRow HP.out.bl (Nat.le_refl _) _

theorem depT_cell (f : Nat → Rt) (n : Nat) (h : okTo f n = true) : tbC 400 (depT (chT f n) 20) = tbC 400 (cellK f n) := tbC_congr fun k hk => by
  unfold depT cellK
  rw [if_pos (by omega), box_dep f n h (k / 20) (k % 20) (by omega) (by omega) n (Nat.le_refl _)]
theorem two_new (w : World) : Tb ((w.alloc (.cells (tbC 400 fun _ => 0) 70)).alloc (.cells (tbC 441 fun _ => 0) 93)) w.heap.size 400 70 (fun _ => 0) ∧ Tb ((w.alloc (.cells (tbC 400 fun _ => 0) 70)).alloc (.cells (tbC 441 fun _ => 0) 93)) (w.heap.size + 1) 441 93 (fun _ => 0) := by
  have b : Below (w.alloc (.cells (tbC 400 fun _ => 0) 70)).heap.size (w.alloc (.cells (tbC 400 fun _ => 0) 70)) ((w.alloc (.cells (tbC 400 fun _ => 0) 70)).alloc (.cells (tbC 441 fun _ => 0) 93)) := (Below.refl _ _).alloc (Nat.le_refl _) _
  refine ⟨(Tb.new w 400 70 _).below b, ?_⟩
  have := Tb.new (w.alloc (.cells (tbC 400 fun _ => 0) 70)) 441 93 (fun _ => 0)
  rw [World.size_alloc] at this; exact this
set_option maxRecDepth 10000 in
set_option maxHeartbeats 1000000 in
theorem depthsby_any (A : Option Addr) (n cap : Nat) (f : Nat → Rt) (w : World) (hl : laidF f n = true) (hr : Rs w A n f) :
    Calls Try.prog 63 #[.slice A n cap] w fun e w' => e = .returned (.agg (tbC 400 (cellK f n))) ∧ Below w.heap.size w w' := by
  obtain ⟨h7, hok⟩ := laidF_ok hl
  have Hok := Lib.hid hok
  have Hr := Lib.hid hr
  have HE := Lib.hid (depT_cell f n hok)
  clear hr hok
  go_enter Try.func63, Try.ntmps63
  go_wp2_with (first | (refine wpList_alloc_row rfl 70 rfl (some 2) rfl (tbC 400 fun _ => 0) zero400 ?_) | (refine wpList_alloc_row rfl 93 rfl (some 3) rfl (tbC 441 fun _ => 0) zero441 ?_))
  go_loopw [8] (fun i wr => ∃ k : Nat, k ≤ n ∧ i = .int .i64 k ∧ Tb wr w.heap.size 400 70 (fun _ => 0) ∧ Tb wr (w.heap.size + 1) 441 93 (chT f k) ∧ Below w.heap.size w wr) (fun i _ => n - (intOf i).toNat)
  case atStart =>
    exact ⟨0, Nat.zero_le _, rfl, (two_new w).1, (two_new w).2, by (repeat (first | with_reducible exact Below.refl _ _ | with_reducible assumption | ((with_reducible refine Below.alloc ?_ ?_ _); rotate_left; focus (first | with_reducible exact Nat.le_refl _ | omega | (simp; done) | (simp; omega))) | ((with_reducible refine Below.setCell ?_ ?_ _); rotate_left; focus (first | with_reducible exact Nat.le_refl _ | omega | (simp; done) | (simp; omega))) | (with_reducible refine Below.drew ?_) | ((with_reducible refine Below.trans ?_ (Below.mono (by with_reducible assumption) ?_)); rotate_left; focus (first | with_reducible exact Nat.le_refl _ | omega | (simp; done) | (simp; omega)))))⟩
  case round =>
    obtain ⟨k, hk, rfl, hx0, hx1, hbr⟩ := hrel
    have hzr := hbr.size
    have l0 := hx0.lt
    have l1 := hx1.lt
    have X0 := Lib.hid hx0
    have X1 := Lib.hid hx1
    have HB := Lib.hid hbr
    clear hx0 hx1
    by_cases hlt : k < n
    · obtain ⟨b, off, rfl, hbl, c0, c1, c2, c3⟩ := (Hr.out.below hbr).at_ hlt
      have hst : chT f (k + 1) = layT (chT f k) (f k).l.toNat (f k).o.toNat (f k).r.toNat (f k).h.toNat := rfl
      have HS := Lib.hid hst
      clear hst
      have hBT : BndT (chT f k) 100 := fun j => by have := chT_bnd f k j; omega
      have BT := Lib.hid hBT
      clear hBT
      obtain ⟨⟨p1, p2, p3⟩, q1, q2, q3⟩ := okB_iff.1 (okTo_le Hok.out hlt)
      obtain ⟨L, e0⟩ : ∃ L : Nat, (f k).l = L := ⟨(f k).l.toNat, by omega⟩
      obtain ⟨O, e1⟩ : ∃ O : Nat, (f k).o = O := ⟨(f k).o.toNat, by omega⟩
      obtain ⟨R, e2⟩ : ∃ R : Nat, (f k).r = R := ⟨(f k).r.toNat, by omega⟩
      obtain ⟨H, e3⟩ : ∃ H : Nat, (f k).h = H := ⟨(f k).h.toNat, by omega⟩
      have h1 : L < R := by omega
      have h2 : R ≤ 20 := by omega
      have h3 : O < H := by omega
      have h4 : H ≤ 20 := by omega
      rw [e0] at c0
      rw [e1] at c1
      rw [e2] at c2
      rw [e3] at c3
      have E := Lib.hid (And.intro e0 (And.intro e1 (And.intro e2 e3)))
      clear e0 e1 e2 e3 p1 p2 p3 q1 q2 q3
      have hba : Below wr.heap.size wr (wr.alloc (.cells #[.int .i64 (L : Nat), .int .i64 (O : Nat), .int .i64 (R : Nat), .int .i64 (H : Nat)] 29)) := (Below.refl _ _).alloc (Nat.le_refl _) _
      have HBA := Lib.hid hba
      clear hba
      go_wp2_with fail
      refine (laytab_any (w.heap.size + 1) L O R H (chT f k) _ h1 h2 h3 h4 BT.out (X1.out.below HBA.out)).mono ?_; rintro e w1 ⟨rfl, hm1, hg1⟩
      have M1 := Lib.hid hm1
      have G1 := Lib.hid hg1
      clear hm1 hg1
      go_wp2
      go_roundw
      case rel =>
        refine ⟨k + 1, by omega, by go_num, ?_, ?_, ?_⟩
        · exact (X0.out.below HBA.out).far G1.out (by omega)
        · rw [HS.out, E.out.1, E.out.2.1, E.out.2.2.1, E.out.2.2.2]
          exact M1.out
        · exact below_grown (HB.out.trans (HBA.out.mono hzr)) G1.out (by simp; omega) (by omega)
      case measure => simp [intOf]; omega
    · have hkn : k = n := by omega
      subst hkn
      go_wp2_with fail
      refine (summed_any (w.heap.size + 1) (chT f k) _ (fun y j _ hj => row_bd f k y j h7 hj) (fun m x hm hx => by have := box_bd f k Hok.out m x hm hx; omega) (fun j => by have := chT_bnd f k j; omega) X1.out).mono ?_; rintro e w1 ⟨rfl, hb1⟩
      have HB1 := Lib.hid hb1
      clear hb1
      go_wp2_with (refine wpList_store_rowTo rfl 70 (.tmp 2) (.tmp 15) rfl rfl w.heap.size (tbC 400 (depT (chT f k) 20)) rfl rfl 70 (tbC 400 (fun _ => 0)) (X0.out.below HB1.out) (by rw [tbC_size]; exact info400) (by rw [tbC_size, tbC_size]) (tbC_one _ _) ?_)
      refine bodyPost_ret (v := .agg (tbC 400 (depT (chT f k) 20))) (results_cell_row rfl _ _ w.heap.size 70 (tbC 400 (depT (chT f k) 20)) (0, 0) _ rfl (X0.out.below HB1.out).row Try.underlying70 rfl (by rw [tbC_size]; exact info400)) rfl ⟨by rw [HE.out], ?_⟩
      exact below_setRow (HB.out.trans (HB1.out.mono hzr)) (Nat.le_refl _) _
end Go.Proofs.Ytkfeeijiockdhaa
namespace Go.Proofs.Ytkfeeijiockdhaa
open Go.RowKit Go.Sort
set_option linter.unusedVariables false
theorem ix_row (T : Nat → Int) (k : Nat) (hk : k < 20) (w : World) : (Instr.index 70 (.agg (tbC 400 T)) (.int .i64 (k : Nat))).run Try.prog w = .ok (.agg (tbC 20 (fun i => T (k * 20 + i)))) w :=
  run_index_row 70 68 _ 20 20 400 T k Try.underlying70 Try.underlying68 rfl info20 hk (by omega) w
theorem ix_int (T : Nat → Int) (k : Nat) (hk : k < 20) (w : World) : (Instr.index 68 (.agg (tbC 20 T)) (.int .i64 (k : Nat))).run Try.prog w = .ok (.int .i64 (T k)) w :=
  run_index_int 68 3 _ 20 20 T k Try.underlying68 Try.underlying3 rfl (by kernel_rfl) hk (by omega) w

/-- The depth of a cell, -1 for others. -/
def daF (f : Nat → Rt) (n : Nat) (x y : Int) : Int := if laidF f n && (inB x 0 19 && inB y 0 19) then depF f x y n else -1
theorem make_ints1 (n : Nat) (hc : n ≤ 1999999) (w : World) :
    (Instr.makeSlice 34 (.int .i64 ((n : Int) + 1)) (.int .i64 ((n : Int) + 1))).run Try.prog w = .ok (.slice (some ⟨w.heap.size, 0, none⟩) (n + 1) (n + 1)) (w.alloc (.cells (madeCells #[.int .i64 0] (n + 1)) 3)) := by
  have := make_ints (n + 1) (n + 1) (Nat.le_refl _) (by omega) w
  rw [show ((n + 1 : Nat) : Int) = (n : Int) + 1 by omega] at this
  exact this
def histN (f : Nat → Rt) (n k d : Nat) : Int := histTo f n k d
theorem histN_step (f : Nat → Rt) (n k d : Nat) (hd : cellK f n k = d) (i : Nat) (hne : i ≠ d) : histN f n k i = histN f n (k + 1) i := by
  unfold histN
  rw [histTo_succ, show decide (cellK f n k = (i : Int)) = false by rw [hd]; simp; omega]; simp [one]
theorem histN_hit (f : Nat → Rt) (n k d : Nat) (hd : cellK f n k = d) : histN f n (k + 1) d = histN f n k d + 1 := by
  unfold histN
  rw [histTo_succ, show decide (cellK f n k = (d : Int)) = true by rw [hd]; simp]; rfl
theorem Iw.ltp {w : World} {A : Option Addr} {n g : Nat} {f : Nat → Int} (h : Iw w A n f g) (h0 : 0 < n) : g < w.heap.size := by
  rcases h with h | ⟨_, h, _⟩
  · omega
  · exact h
theorem Iw.c {w : World} {A : Option Addr} {n g k : Nat} {f : Nat → Int} (h : Iw w A n f g) (hk : k < n) : w.cell? ⟨g, k, none⟩ = some (.int .i64 (f k)) ∧ w.frozen? ⟨g, k, none⟩ = false := by
  rcases h with h | ⟨_, _, h1, h2⟩
  · omega
  · exact ⟨h1 k hk, h2 k hk⟩
theorem histN_bd (f : Nat → Rt) (n k d : Nat) : 0 ≤ histN f n k d ∧ histN f n k d ≤ k := histTo_bd f n k d
theorem cell_nat (f : Nat → Rt) (n k : Nat) : ∃ d : Nat, d ≤ n ∧ cellK f n k = d := ⟨(cellK f n k).toNat, by have := cellK_bd f n k; omega, by have := cellK_bd f n k; omega⟩
end Go.Proofs.Ytkfeeijiockdhaa
