/- The laws of chapter 7: their walks. -/
import Derived.Test.YtfdkkkdijgmbbaaEx10
import Derived.Test.YtfdkkkdijgmbbaaWi
namespace Go.Proofs.Ytfdkkkdijgmbbaa
open Go.RowKit Go.Sort Go.BigFrame
set_option linter.unusedVariables false
/-- What OutlineOf and UnionArea of impl answer. -/
structure ImpOl : Prop where
  ol : ∀ (A : Option Addr) (n cap : Nat) (f : Nat → Rt) (w : World), n ≤ maxLen → Rs w A n f → Calls Try.prog 17 #[.slice A n cap] w fun e w' => e = .returned (.int .i64 (olF f n)) ∧ Below w.heap.size w w'
structure ImpUa : Prop where
  ua : ∀ (A : Option Addr) (n cap : Nat) (f : Nat → Rt) (w : World), n ≤ maxLen → Rs w A n f → Calls Try.prog 16 #[.slice A n cap] w fun e w' => e = .returned (.int .i64 (uaF f n)) ∧ Below w.heap.size w w'
theorem ImpOl.olv (K : ImpOl) (A : Option Addr) (n cap : Nat) (f : Nat → Rt) (v : Int) (h : olF f n = v) (w : World) (hn : n ≤ maxLen) (hr : Rs w A n f) :
    Calls Try.prog 17 #[.slice A n cap] w fun e w' => e = .returned (.int .i64 v) ∧ Below w.heap.size w w' := h ▸ K.ol A n cap f w hn hr
theorem ImpUa.uav (K : ImpUa) (A : Option Addr) (n cap : Nat) (f : Nat → Rt) (v : Int) (h : uaF f n = v) (w : World) (hn : n ≤ maxLen) (hr : Rs w A n f) :
    Calls Try.prog 16 #[.slice A n cap] w fun e w' => e = .returned (.int .i64 v) ∧ Below w.heap.size w w' := h ▸ K.ua A n cap f w hn hr
theorem iov_v7 (a r : Rt) (h : ovR a = r) (w : World) :
    Calls Try.prog 15 #[rv a] w fun e w' => e = .returned (rv r) ∧ Below w.heap.size w w' := h ▸ iov_any a w
theorem own_below7 {w w' : World} {base : Nat} {e : TypeId} {size n : Nat} {v : Value} {xs : List Value} (H : w.ownsRow base e size v n xs) (hb : Below w.heap.size w w') : w'.ownsRow base e size v n xs := by
  refine ⟨H.1, ?_⟩
  rcases H.2 with h0 | ⟨g, c, cur, h1, h2, h3, h4⟩
  · exact Or.inl h0
  · refine Or.inr ⟨g, c, cur, h1, h2, ?_, h4⟩
    rw [hb.block g ((Array.getElem?_eq_some_iff.1 h3).choose)]; exact h3
theorem ua_arU {f : Nat → Rt} {n : Nat} (hl : laidF f n = true) : uaF f n = arU (uniB f n) := by unfold uaF; rw [hl]; rfl
theorem mul_400 {X Y : Int} (h1 : 0 ≤ X ∧ X ≤ 20) (h2 : 0 ≤ Y ∧ Y ≤ 20) : 0 ≤ X * Y ∧ X * Y ≤ 400 := by
  refine ⟨Int.mul_nonneg h1.1 h2.1, ?_⟩
  have := Int.mul_le_mul h1.2 h2.2 h2.1 (by omega : (0 : Int) ≤ 20)
  omega
theorem over_ok7 {a : Rt} (h : okB a = true) : okB (ovR a) = true := by
  have := okB_iff.1 h
  unfold ovR; rw [h]; exact okB_iff.2 ⟨this.2, this.1⟩
theorem over_has {a : Rt} (h : okB a = true) (x y : Int) : hasB (ovR a) x y = hasB a y x := by
  rw [Bool.eq_iff_iff, hasB_iff, hasB_iff]; unfold ovR; rw [h]; simp only [if_true, overR]; omega
theorem over_laid7 {f f' : Nat → Rt} {m : Nat} (hl : laidF f m = true) (hf : ∀ i, i < m → f' i = ovR (f i)) : laidF f' m = true := by
  obtain ⟨h7, hok⟩ := laidF_ok hl
  have H : ∀ k, k ≤ m → okTo f' k = true := by
    intro k
    induction k with
    | zero => intro _; rfl
    | succ k ih => intro hk; simp only [okTo]; rw [ih (by omega), hf k (by omega), over_ok7 (okTo_le hok (by omega))]; rfl
  unfold laidF; rw [H m (Nat.le_refl _), decide_eq_true h7]; rfl
theorem over_uni {f f' : Nat → Rt} {m : Nat} (hl : laidF f m = true) (hf : ∀ i, i < m → f' i = ovR (f i)) : uniB f' m = fun a b => uniB f m b a := by
  obtain ⟨h7, hok⟩ := laidF_ok hl
  funext a b
  unfold uniB
  have H : ∀ k, k ≤ m → anyTo f' a b k = anyTo f b a k := by
    intro k
    induction k with
    | zero => intro _; rfl
    | succ k ih => intro hk; simp only [anyTo]; rw [ih (by omega), hf k (by omega), over_has (okTo_le hok (by omega))]
  exact H m (Nat.le_refl _)
theorem over_shadow {f f' : Nat → Rt} {m : Nat} (hl : laidF f m = true) (hf : ∀ i, i < m → f' i = ovR (f i)) : onU shX f' m = onU shY f m ∧ onU shY f' m = onU shX f m ∧ laidF f' m = true := by
  have hl' := over_laid7 hl hf
  rw [onU_yes hl', onU_yes hl', onU_yes hl, onU_yes hl, over_uni hl hf]
  exact ⟨rfl, rfl, hl'⟩
theorem rc_yes {f : Nat → Rt} {n k : Nat} (hl : laidF f n = true) (hk : k < 20) : rcF f n k = rowC (uniB f n) k := by
  unfold rcF; rw [hl, show inB (k : Int) 0 19 = true from inB_iff.2 (by omega)]; rfl
theorem rc_no {f : Nat → Rt} {n : Nat} {y : Int} (h : laidF f n = false ∨ inB y 0 19 = false) : rcF f n y = -1 := by
  unfold rcF
  rcases h with h | h
  · rw [h]; rfl
  · rw [h, Bool.and_false]; rfl
def rowsTo (f : Nat → Rt) (n k : Nat) : Int := sumN k (rowC (uniB f n))
theorem rowC_bd (U : Nat → Nat → Bool) (y : Nat) : 0 ≤ rowC U y ∧ rowC U y ≤ 20 := part_bd (fun x => U x y) 20
theorem rowsTo_bd (f : Nat → Rt) (n k : Nat) : 0 ≤ rowsTo f n k ∧ rowsTo f n k ≤ 20 * k := by
  unfold rowsTo
  induction k with
  | zero => simp [sumN]
  | succ k ih => simp only [sumN]; have := rowC_bd (uniB f n) k; omega

set_option maxHeartbeats 8000000 in
set_option maxRecDepth 100000 in
theorem walkRunsOf (K : ImpOl) (I_sh : ISh7) (I_rn : IRn7) (a : Option Addr) (len cap : Nat) (w : World) (hc : Came w a len cap) :
    Calls Try.prog 5 #[.slice a len cap] w fun e w' => e = .returned (.bool true) ∧ Below w.heap.size w w' := by
  have hm := hc.len_le
  by_cases hl : 1048576 < len
  · go_enter Try.func5, Try.ntmps5
    go_wp2
    go_ret
    exact ⟨rfl, Below.refl _ _⟩
  · go_enter Try.func5, Try.ntmps5
    go_wp2_with fail
    refine (dRunsOf _ _ _ _ hc).mono ?_; rintro e w1 hp; have HP1 := Lib.hid hp; clear hp; obtain ⟨A, m, lcap, g, f, rfl, hm8, ho1, hg1, hh1, hb1⟩ := HP1.out; have hz1 := hb1.size; (try simp at hz1); have HO1 := Lib.hid ho1; have HH1 := Lib.hid hh1; clear ho1 hh1; have hmm : m ≤ maxLen := (by unfold maxLen; omega); have Hmm := Lib.hid hmm; clear hmm
    cases hL : laidF f m
    · have HN : Hid (onU runX f m = -1 ∧ onU runY f m = -1) := Lib.hid ⟨onU_no hL, onU_no hL⟩
      go_wp2_with fail
      refine (I_rn.rnv A m lcap f (-1) (-1) false HN.out.1 HN.out.2 hL _ Hmm.out HO1.out.rs).mono ?_; rintro e w2 ⟨rfl, hb2⟩; have hz2 := hb2.size; (try simp at hz2); have HO2 := Lib.hid (HO1.out.below hb2)
      go_wp2_with fail
      refine (srn_val A m lcap f (-1) (-1) false HN.out.1 HN.out.2 hL _ Hmm.out HO2.out.rs).mono ?_; rintro e w3 ⟨rfl, hb3⟩; have hz3 := hb3.size; (try simp at hz3); have HO3 := Lib.hid (HO2.out.below hb3)
      go_wp2_with fail
      refine (alive_any _).mono ?_; rintro e w4 ⟨rfl, hb4⟩; have hz4 := hb4.size; (try simp at hz4)
      go_wp2
      go_ret
      exact ⟨rfl, by (repeat (first | with_reducible exact Below.refl _ _ | with_reducible assumption | ((with_reducible refine Below.alloc ?_ ?_ _); rotate_left; focus (first | with_reducible exact Nat.le_refl _ | omega | (simp; done) | (simp; omega))) | ((with_reducible refine Below.setCell ?_ ?_ _); rotate_left; focus (first | with_reducible exact Nat.le_refl _ | omega | (simp; done) | (simp; omega))) | (with_reducible refine Below.drew ?_) | ((with_reducible refine Below.trans ?_ (Below.mono (by with_reducible assumption) ?_)); rotate_left; focus (first | with_reducible exact Nat.le_refl _ | omega | (simp; done) | (simp; omega)))))⟩
    · obtain ⟨l1, l2, l3⟩ := runs_outline hL
      obtain ⟨_, _, _, s4, s5, s6⟩ := shadows_say hL
      obtain ⟨o1, o2⟩ := olF_bd hL
      generalize hX : onU runX f m = X at l1 l2
      generalize hY : onU runY f m = Y at l1 l3
      generalize hS : onU shX f m = S at l3 s4 s5
      generalize hT : onU shY f m = T at l2 s4 s6
      generalize hO : olF f m = OL at l1 s4 o1 o2
      have HX := Lib.hid (And.intro hX hY)
      have HS := Lib.hid (And.intro hS hT)
      have HOL := Lib.hid hO
      subst l1
      clear hX hY hS hT hO
      go_wp2_with fail
      refine (I_rn.rnv A m lcap f X Y true HX.out.1 HX.out.2 hL _ Hmm.out HO1.out.rs).mono ?_; rintro e w2 ⟨rfl, hb2⟩; have hz2 := hb2.size; (try simp at hz2); have HO2 := Lib.hid (HO1.out.below hb2)
      go_wp2_with fail
      refine (srn_val A m lcap f X Y true HX.out.1 HX.out.2 hL _ Hmm.out HO2.out.rs).mono ?_; rintro e w3 ⟨rfl, hb3⟩; have hz3 := hb3.size; (try simp at hz3); have HO3 := Lib.hid (HO2.out.below hb3)
      go_wp2_with fail
      refine (I_sh.shv A m lcap f S T true HS.out.1 HS.out.2 hL _ Hmm.out HO3.out.rs).mono ?_; rintro e w4 ⟨rfl, hb4⟩; have hz4 := hb4.size; (try simp at hz4); have HO4 := Lib.hid (HO3.out.below hb4)
      go_wp2_with fail
      refine (K.olv A m lcap f (2 * (X + Y)) HOL.out _ Hmm.out HO4.out.rs).mono ?_; rintro e w5 ⟨rfl, hb5⟩; have hz5 := hb5.size; (try simp at hz5)
      go_wp2_with fail
      refine (alive_any _).mono ?_; rintro e w6 ⟨rfl, hb6⟩; have hz6 := hb6.size; (try simp at hz6)
      go_wp2
      go_ret
      exact ⟨rfl, by (repeat (first | with_reducible exact Below.refl _ _ | with_reducible assumption | ((with_reducible refine Below.alloc ?_ ?_ _); rotate_left; focus (first | with_reducible exact Nat.le_refl _ | omega | (simp; done) | (simp; omega))) | ((with_reducible refine Below.setCell ?_ ?_ _); rotate_left; focus (first | with_reducible exact Nat.le_refl _ | omega | (simp; done) | (simp; omega))) | (with_reducible refine Below.drew ?_) | ((with_reducible refine Below.trans ?_ (Below.mono (by with_reducible assumption) ?_)); rotate_left; focus (first | with_reducible exact Nat.le_refl _ | omega | (simp; done) | (simp; omega)))))⟩

set_option maxHeartbeats 8000000 in
set_option maxRecDepth 100000 in
theorem walkGapFreeOk (K : ImpOl) (I_sh : ISh7) (I_gf : IGf7) (a : Option Addr) (len cap : Nat) (w : World) (hc : Came w a len cap) :
    Calls Try.prog 6 #[.slice a len cap] w fun e w' => e = .returned (.bool true) ∧ Below w.heap.size w w' := by
  have hm := hc.len_le
  by_cases hl : 1048576 < len
  · go_enter Try.func6, Try.ntmps6
    go_wp2
    go_ret
    exact ⟨rfl, Below.refl _ _⟩
  · go_enter Try.func6, Try.ntmps6
    go_wp2_with fail
    refine (dGapFreeOk _ _ _ _ hc).mono ?_; rintro e w1 hp; have HP1 := Lib.hid hp; clear hp; obtain ⟨A, m, lcap, g, f, rfl, hm8, ho1, hg1, hh1, hb1⟩ := HP1.out; have hz1 := hb1.size; (try simp at hz1); have HO1 := Lib.hid ho1; have HH1 := Lib.hid hh1; clear ho1 hh1; have hmm : m ≤ maxLen := (by unfold maxLen; omega); have Hmm := Lib.hid hmm; clear hmm
    cases hL : laidF f m
    · have HN : Hid (gapF f m = false) := Lib.hid (by unfold gapF; rw [hL]; rfl)
      go_wp2_with fail
      refine (I_gf.gfv A m lcap f false HN.out _ Hmm.out HO1.out.rs).mono ?_; rintro e w2 ⟨rfl, hb2⟩; have hz2 := hb2.size; (try simp at hz2); have HO2 := Lib.hid (HO1.out.below hb2)
      go_wp2_with fail
      refine (sgf_val A m lcap f false HN.out _ Hmm.out HO2.out.rs).mono ?_; rintro e w3 ⟨rfl, hb3⟩; have hz3 := hb3.size; (try simp at hz3); have HO3 := Lib.hid (HO2.out.below hb3)
      go_wp2_with fail
      refine (slaid_val A m lcap f false hL _ Hmm.out HO3.out.rs).mono ?_; rintro e w4 ⟨rfl, hb4⟩; have hz4 := hb4.size; (try simp at hz4)
      go_wp2_with fail
      refine (alive_any _).mono ?_; rintro e w5 ⟨rfl, hb5⟩; have hz5 := hb5.size; (try simp at hz5)
      go_wp2
      go_ret
      exact ⟨rfl, by (repeat (first | with_reducible exact Below.refl _ _ | with_reducible assumption | ((with_reducible refine Below.alloc ?_ ?_ _); rotate_left; focus (first | with_reducible exact Nat.le_refl _ | omega | (simp; done) | (simp; omega))) | ((with_reducible refine Below.setCell ?_ ?_ _); rotate_left; focus (first | with_reducible exact Nat.le_refl _ | omega | (simp; done) | (simp; omega))) | (with_reducible refine Below.drew ?_) | ((with_reducible refine Below.trans ?_ (Below.mono (by with_reducible assumption) ?_)); rotate_left; focus (first | with_reducible exact Nat.le_refl _ | omega | (simp; done) | (simp; omega)))))⟩
    · have g1 := gap_outline hL
      have g2 : m = 1 → gapF f m = true := fun e => by rw [e] at hL ⊢; exact gap_one hL
      obtain ⟨_, _, _, s4, s5, s6⟩ := shadows_say hL
      obtain ⟨o1, o2⟩ := olF_bd hL
      generalize hS : onU shX f m = S at g1 s4 s5
      generalize hT : onU shY f m = T at g1 s4 s6
      generalize hO : olF f m = OL at g1 s4 o1 o2
      have HS := Lib.hid (And.intro hS hT)
      have HOL := Lib.hid hO
      clear hS hT hO
      cases hV : gapF f m
      · have hm1 : ((m : Int) == 1) = false := by
          have : m ≠ 1 := fun e => by have := g2 e; rw [hV] at this; cases this
          simp; omega
        have hm2 : ((m : Int) != 1) = true := by
          have : m ≠ 1 := fun e => by have := g2 e; rw [hV] at this; cases this
          simp; omega
        clear g2
        have g2 : True := trivial
        rw [hV] at g1
        have g3 := g1.symm
        clear g1
        have HV := Lib.hid hV
        clear hV
        go_wp2_with fail
        refine (I_gf.gfv A m lcap f false HV.out _ Hmm.out HO1.out.rs).mono ?_; rintro e w2 ⟨rfl, hb2⟩; have hz2 := hb2.size; (try simp at hz2); have HO2 := Lib.hid (HO1.out.below hb2)
        go_wp2_with fail
        refine (sgf_val A m lcap f false HV.out _ Hmm.out HO2.out.rs).mono ?_; rintro e w3 ⟨rfl, hb3⟩; have hz3 := hb3.size; (try simp at hz3); have HO3 := Lib.hid (HO2.out.below hb3)
        go_wp2_with fail
        refine (slaid_val A m lcap f true hL _ Hmm.out HO3.out.rs).mono ?_; rintro e w4 ⟨rfl, hb4⟩; have hz4 := hb4.size; (try simp at hz4); have HO4 := Lib.hid (HO3.out.below hb4)
        go_wp2_with fail
        refine (I_sh.shv A m lcap f S T true HS.out.1 HS.out.2 hL _ Hmm.out HO4.out.rs).mono ?_; rintro e w5 ⟨rfl, hb5⟩; have hz5 := hb5.size; (try simp at hz5); have HO5 := Lib.hid (HO4.out.below hb5)
        go_wp2_with fail
        refine (K.olv A m lcap f OL HOL.out _ Hmm.out HO5.out.rs).mono ?_; rintro e w6 ⟨rfl, hb6⟩; have hz6 := hb6.size; (try simp at hz6)
        go_wp2_with fail
        refine (alive_any _).mono ?_; rintro e w7 ⟨rfl, hb7⟩; have hz7 := hb7.size; (try simp at hz7)
        go_wp2
        go_ret
        exact ⟨rfl, by (repeat (first | with_reducible exact Below.refl _ _ | with_reducible assumption | ((with_reducible refine Below.alloc ?_ ?_ _); rotate_left; focus (first | with_reducible exact Nat.le_refl _ | omega | (simp; done) | (simp; omega))) | ((with_reducible refine Below.setCell ?_ ?_ _); rotate_left; focus (first | with_reducible exact Nat.le_refl _ | omega | (simp; done) | (simp; omega))) | (with_reducible refine Below.drew ?_) | ((with_reducible refine Below.trans ?_ (Below.mono (by with_reducible assumption) ?_)); rotate_left; focus (first | with_reducible exact Nat.le_refl _ | omega | (simp; done) | (simp; omega)))))⟩
      · clear g2
        have g2 : True := trivial
        by_cases h1 : m = 1
        · subst h1
          rw [hV] at g1
          have g3 := g1.symm
          clear g1
          have HV := Lib.hid hV
          clear hV
          go_wp2_with fail
          refine (I_gf.gfv A 1 lcap f true HV.out _ Hmm.out HO1.out.rs).mono ?_; rintro e w2 ⟨rfl, hb2⟩; have hz2 := hb2.size; (try simp at hz2); have HO2 := Lib.hid (HO1.out.below hb2)
          go_wp2_with fail
          refine (sgf_val A 1 lcap f true HV.out _ Hmm.out HO2.out.rs).mono ?_; rintro e w3 ⟨rfl, hb3⟩; have hz3 := hb3.size; (try simp at hz3); have HO3 := Lib.hid (HO2.out.below hb3)
          go_wp2_with fail
          refine (slaid_val A 1 lcap f true hL _ Hmm.out HO3.out.rs).mono ?_; rintro e w4 ⟨rfl, hb4⟩; have hz4 := hb4.size; (try simp at hz4); have HO4 := Lib.hid (HO3.out.below hb4)
          go_wp2_with fail
          refine (I_sh.shv A 1 lcap f S T true HS.out.1 HS.out.2 hL _ Hmm.out HO4.out.rs).mono ?_; rintro e w5 ⟨rfl, hb5⟩; have hz5 := hb5.size; (try simp at hz5); have HO5 := Lib.hid (HO4.out.below hb5)
          go_wp2_with fail
          refine (K.olv A 1 lcap f OL HOL.out _ Hmm.out HO5.out.rs).mono ?_; rintro e w6 ⟨rfl, hb6⟩; have hz6 := hb6.size; (try simp at hz6)
          go_wp2_with fail
          refine (alive_any _).mono ?_; rintro e w7 ⟨rfl, hb7⟩; have hz7 := hb7.size; (try simp at hz7)
          go_wp2
          go_ret
          exact ⟨rfl, by (repeat (first | with_reducible exact Below.refl _ _ | with_reducible assumption | ((with_reducible refine Below.alloc ?_ ?_ _); rotate_left; focus (first | with_reducible exact Nat.le_refl _ | omega | (simp; done) | (simp; omega))) | ((with_reducible refine Below.setCell ?_ ?_ _); rotate_left; focus (first | with_reducible exact Nat.le_refl _ | omega | (simp; done) | (simp; omega))) | (with_reducible refine Below.drew ?_) | ((with_reducible refine Below.trans ?_ (Below.mono (by with_reducible assumption) ?_)); rotate_left; focus (first | with_reducible exact Nat.le_refl _ | omega | (simp; done) | (simp; omega)))))⟩
        · have hm1 : ((m : Int) == 1) = false := by simp; omega
          have hm2 : ((m : Int) != 1) = true := by simp; omega
          rw [hV] at g1
          have g3 := g1.symm
          clear g1
          have HV := Lib.hid hV
          clear hV
          go_wp2_with fail
          refine (I_gf.gfv A m lcap f true HV.out _ Hmm.out HO1.out.rs).mono ?_; rintro e w2 ⟨rfl, hb2⟩; have hz2 := hb2.size; (try simp at hz2); have HO2 := Lib.hid (HO1.out.below hb2)
          go_wp2_with fail
          refine (sgf_val A m lcap f true HV.out _ Hmm.out HO2.out.rs).mono ?_; rintro e w3 ⟨rfl, hb3⟩; have hz3 := hb3.size; (try simp at hz3); have HO3 := Lib.hid (HO2.out.below hb3)
          go_wp2_with fail
          refine (slaid_val A m lcap f true hL _ Hmm.out HO3.out.rs).mono ?_; rintro e w4 ⟨rfl, hb4⟩; have hz4 := hb4.size; (try simp at hz4); have HO4 := Lib.hid (HO3.out.below hb4)
          go_wp2_with fail
          refine (I_sh.shv A m lcap f S T true HS.out.1 HS.out.2 hL _ Hmm.out HO4.out.rs).mono ?_; rintro e w5 ⟨rfl, hb5⟩; have hz5 := hb5.size; (try simp at hz5); have HO5 := Lib.hid (HO4.out.below hb5)
          go_wp2_with fail
          refine (K.olv A m lcap f OL HOL.out _ Hmm.out HO5.out.rs).mono ?_; rintro e w6 ⟨rfl, hb6⟩; have hz6 := hb6.size; (try simp at hz6)
          go_wp2_with fail
          refine (alive_any _).mono ?_; rintro e w7 ⟨rfl, hb7⟩; have hz7 := hb7.size; (try simp at hz7)
          go_wp2
          go_ret
          exact ⟨rfl, by (repeat (first | with_reducible exact Below.refl _ _ | with_reducible assumption | ((with_reducible refine Below.alloc ?_ ?_ _); rotate_left; focus (first | with_reducible exact Nat.le_refl _ | omega | (simp; done) | (simp; omega))) | ((with_reducible refine Below.setCell ?_ ?_ _); rotate_left; focus (first | with_reducible exact Nat.le_refl _ | omega | (simp; done) | (simp; omega))) | (with_reducible refine Below.drew ?_) | ((with_reducible refine Below.trans ?_ (Below.mono (by with_reducible assumption) ?_)); rotate_left; focus (first | with_reducible exact Nat.le_refl _ | omega | (simp; done) | (simp; omega)))))⟩

set_option maxHeartbeats 8000000 in
set_option maxRecDepth 100000 in
theorem walkRowCount (K : ImpUa) (I_sh : ISh7) (I_rc : IRc7) (a : Option Addr) (len cap : Nat) (w : World) (hc : Came w a len cap) :
    Calls Try.prog 4 #[.slice a len cap] w fun e w' => e = .returned (.bool true) ∧ Below w.heap.size w w' := by
  have hm := hc.len_le
  by_cases hl : 1048576 < len
  · go_enter Try.func4, Try.ntmps4
    go_wp2
    go_ret
    exact ⟨rfl, Below.refl _ _⟩
  · go_enter Try.func4, Try.ntmps4
    go_wp2_with fail
    refine (dRowCount _ _ _ _ hc).mono ?_; rintro e w1 hp; have HP1 := Lib.hid hp; clear hp; obtain ⟨A, m, lcap, g, f, y, rfl, hm8, by1, ho1, hg1, hh1, hb1⟩ := HP1.out; have hz1 := hb1.size; (try simp at hz1); have HO1 := Lib.hid ho1; have HH1 := Lib.hid hh1; clear ho1 hh1; have hmm : m ≤ maxLen := (by unfold maxLen; omega); have Hmm := Lib.hid hmm; clear hmm
    by_cases hD : laidF f m = true ∧ inB y 0 19 = true
    · obtain ⟨hL, hy⟩ := hD
      have hyb := inB_iff.1 hy
      obtain ⟨Y, hY⟩ : ∃ Y : Nat, y = Y := ⟨y.toNat, by omega⟩
      subst hY
      have HR := Lib.hid (rc_yes hL (show Y < 20 by omega))
      obtain ⟨b1, b2, b3⟩ := row_le (uniB f m) (show Y < 20 by omega)
      obtain ⟨_, _, _, _, s5, s6⟩ := shadows_say hL
      have e1 : onU shX f m = shX (uniB f m) := onU_yes hL
      rw [← e1] at b2
      generalize hS : onU shX f m = S at b2 s5
      obtain ⟨T, hT⟩ : ∃ T, onU shY f m = T := ⟨_, rfl⟩
      have HS := Lib.hid (And.intro hS hT)
      generalize hN : rowC (uniB f m) Y = N at b1 b2 b3 HR
      have HRC := Lib.hid (fun k (hk : k < 20) => rc_yes (f := f) (n := m) hL hk)
      have HUA : Hid (uaF f m = rowsTo f m 20) := Lib.hid (by rw [ua_arU hL]; rfl)
      clear hS hN hy hT e1 s6
      go_wp2_with fail
      refine (I_rc.rcv A m lcap f Y N HR.out _ Hmm.out HO1.out.rs).mono ?_; rintro e w2 ⟨rfl, hb2⟩; have hz2 := hb2.size; (try simp at hz2); have HO2 := Lib.hid (HO1.out.below hb2)
      go_wp2_with fail
      refine (src_val A m lcap f Y N HR.out _ Hmm.out HO2.out.rs).mono ?_; rintro e w3 ⟨rfl, hb3⟩; have hz3 := hb3.size; (try simp at hz3); have HO3 := Lib.hid (HO2.out.below hb3)
      have HB3 : Hid (Below w.heap.size w w3) := Lib.hid (by (repeat (first | with_reducible exact Below.refl _ _ | with_reducible assumption | ((with_reducible refine Below.alloc ?_ ?_ _); rotate_left; focus (first | with_reducible exact Nat.le_refl _ | omega | (simp; done) | (simp; omega))) | ((with_reducible refine Below.setCell ?_ ?_ _); rotate_left; focus (first | with_reducible exact Nat.le_refl _ | omega | (simp; done) | (simp; omega))) | (with_reducible refine Below.drew ?_) | ((with_reducible refine Below.trans ?_ (Below.mono (by with_reducible assumption) ?_)); rotate_left; focus (first | with_reducible exact Nat.le_refl _ | omega | (simp; done) | (simp; omega))))))
      have hle3 : w.heap.size ≤ w3.heap.size := HB3.out.size
      clear hb1 hb2 hb3
      go_wp2
      go_loopw [6, 7] (fun s t wr => ∃ k : Nat, k ≤ 20 ∧ t = .int .i64 k ∧ s = .int .i64 (rowsTo f m k) ∧ Below w3.heap.size w3 wr) (fun _ t _ => 20 - (intOf t).toNat)
      case atStart => exact ⟨0, Nat.zero_le _, rfl, rfl, Below.refl _ _⟩
      case round =>
        obtain ⟨k, hk, rfl, rfl, hbr⟩ := hrel
        have HBr := Lib.hid hbr
        have hzr := hbr.size
        have HRs : Hid (rowsTo f m (k + 1) = rowsTo f m k + rowC (uniB f m) k) := Lib.hid rfl
        obtain ⟨r1, r2⟩ := rowsTo_bd f m k
        obtain ⟨c1, c2⟩ := rowC_bd (uniB f m) k
        obtain ⟨Z, hZ⟩ : ∃ Z, rowsTo f m k = Z := ⟨_, rfl⟩
        obtain ⟨C, hC⟩ : ∃ C, rowC (uniB f m) k = C := ⟨_, rfl⟩
        rw [hZ] at r1 r2 HRs ⊢
        rw [hC] at c1 c2 HRs
        have HO4 := Lib.hid (HO3.out.below hbr)
        clear hbr
        by_cases hlt : k < 20
        · have hk20 : (k : Int) < 20 := by omega
          have hkv : rcF f m k = C := by rw [HRC.out k hlt, hC]
          have HKV := Lib.hid hkv
          clear hZ hC hkv
          go_wp2_with fail
          refine (I_rc.rcv A m lcap f k C HKV.out _ Hmm.out HO4.out.rs).mono ?_; rintro e w5 ⟨rfl, hb5⟩; have hz5 := hb5.size; (try simp at hz5)
          go_wp2
          go_roundw
          case rel => exact ⟨k + 1, by omega, by go_num, by rw [HRs.out], HBr.out.trans (hb5.mono hzr)⟩
          case measure => simp [intOf]; omega
        · obtain rfl : k = 20 := by omega
          have HUZ : Hid (uaF f m = Z) := Lib.hid (by rw [HUA.out, hZ])
          clear hZ hC
          go_wp2_with fail
          refine (I_sh.shv A m lcap f S T true HS.out.1 HS.out.2 hL _ Hmm.out HO4.out.rs).mono ?_; rintro e w5 ⟨rfl, hb5⟩; have hz5 := hb5.size; (try simp at hz5)
          have HO5 := Lib.hid (HO4.out.below hb5)
          go_wp2_with fail
          refine (K.uav A m lcap f Z HUZ.out _ Hmm.out HO5.out.rs).mono ?_; rintro e w6 ⟨rfl, hb6⟩; have hz6 := hb6.size; (try simp at hz6)
          go_wp2_with fail
          refine (alive_any _).mono ?_; rintro e w7 ⟨rfl, hb7⟩; have hz7 := hb7.size; (try simp at hz7)
          go_wp2
          go_ret
          exact ⟨rfl, HB3.out.trans ((HBr.out.trans (Below.mono (by (repeat (first | with_reducible exact Below.refl _ _ | with_reducible assumption | ((with_reducible refine Below.alloc ?_ ?_ _); rotate_left; focus (first | with_reducible exact Nat.le_refl _ | omega | (simp; done) | (simp; omega))) | ((with_reducible refine Below.setCell ?_ ?_ _); rotate_left; focus (first | with_reducible exact Nat.le_refl _ | omega | (simp; done) | (simp; omega))) | (with_reducible refine Below.drew ?_) | ((with_reducible refine Below.trans ?_ (Below.mono (by with_reducible assumption) ?_)); rotate_left; focus (first | with_reducible exact Nat.le_refl _ | omega | (simp; done) | (simp; omega)))))) hzr)).mono hle3)⟩
    · have HN : Hid (rcF f m y = -1) := Lib.hid (rc_no (by
        cases h1 : laidF f m
        · exact Or.inl rfl
        · cases h2 : inB y 0 19
          · exact Or.inr rfl
          · exact absurd ⟨h1, h2⟩ hD))
      clear hD
      go_wp2_with fail
      refine (I_rc.rcv A m lcap f y (-1) HN.out _ Hmm.out HO1.out.rs).mono ?_; rintro e w2 ⟨rfl, hb2⟩; have hz2 := hb2.size; (try simp at hz2); have HO2 := Lib.hid (HO1.out.below hb2)
      go_wp2_with fail
      refine (src_val A m lcap f y (-1) HN.out _ Hmm.out HO2.out.rs).mono ?_; rintro e w3 ⟨rfl, hb3⟩; have hz3 := hb3.size; (try simp at hz3); have HO3 := Lib.hid (HO2.out.below hb3)
      go_wp2_with fail
      refine (alive_any _).mono ?_; rintro e w4 ⟨rfl, hb4⟩; have hz4 := hb4.size; (try simp at hz4)
      go_wp2
      go_ret
      exact ⟨rfl, by (repeat (first | with_reducible exact Below.refl _ _ | with_reducible assumption | ((with_reducible refine Below.alloc ?_ ?_ _); rotate_left; focus (first | with_reducible exact Nat.le_refl _ | omega | (simp; done) | (simp; omega))) | ((with_reducible refine Below.setCell ?_ ?_ _); rotate_left; focus (first | with_reducible exact Nat.le_refl _ | omega | (simp; done) | (simp; omega))) | (with_reducible refine Below.drew ?_) | ((with_reducible refine Below.trans ?_ (Below.mono (by with_reducible assumption) ?_)); rotate_left; focus (first | with_reducible exact Nat.le_refl _ | omega | (simp; done) | (simp; omega)))))⟩

set_option maxHeartbeats 8000000 in
set_option maxRecDepth 100000 in
theorem walkShadowsOf (K : ImpOl) (J : ImpUa) (I_sh : ISh7) (a : Option Addr) (len cap : Nat) (w : World) (hc : Came w a len cap) :
    Calls Try.prog 3 #[.slice a len cap] w fun e w' => e = .returned (.bool true) ∧ Below w.heap.size w w' := by
  have hm := hc.len_le
  by_cases hl : 1048576 < len
  · go_enter Try.func3, Try.ntmps3
    go_wp2
    go_ret
    exact ⟨rfl, Below.refl _ _⟩
  · go_enter Try.func3, Try.ntmps3
    go_wp2_with fail
    refine (dShadowsOf _ _ _ _ hc).mono ?_; rintro e w1 hp; have HP1 := Lib.hid hp; clear hp; obtain ⟨A, m, lcap, g, f, rfl, hm8, ho1, hg1, hh1, hb1⟩ := HP1.out; have hz1 := hb1.size; (try simp at hz1); have HO1 := Lib.hid ho1; have HH1 := Lib.hid hh1; clear ho1 hh1; have hmm : m ≤ maxLen := (by unfold maxLen; omega); have Hmm := Lib.hid hmm; clear hmm
    cases hL : laidF f m
    · have HN : Hid (onU shX f m = -1 ∧ onU shY f m = -1) := Lib.hid ⟨onU_no hL, onU_no hL⟩
      go_wp2_with fail
      refine (I_sh.shv A m lcap f (-1) (-1) false HN.out.1 HN.out.2 hL _ Hmm.out HO1.out.rs).mono ?_; rintro e w2 ⟨rfl, hb2⟩; have hz2 := hb2.size; (try simp at hz2); have HO2 := Lib.hid (HO1.out.below hb2)
      go_wp2_with fail
      refine (ssh_val A m lcap f (-1) (-1) false HN.out.1 HN.out.2 hL _ Hmm.out HO2.out.rs).mono ?_; rintro e w3 ⟨rfl, hb3⟩; have hz3 := hb3.size; (try simp at hz3); have HO3 := Lib.hid (HO2.out.below hb3)
      go_wp2_with fail
      refine (alive_any _).mono ?_; rintro e w4 ⟨rfl, hb4⟩; have hz4 := hb4.size; (try simp at hz4)
      go_wp2
      go_ret
      exact ⟨rfl, by (repeat (first | with_reducible exact Below.refl _ _ | with_reducible assumption | ((with_reducible refine Below.alloc ?_ ?_ _); rotate_left; focus (first | with_reducible exact Nat.le_refl _ | omega | (simp; done) | (simp; omega))) | ((with_reducible refine Below.setCell ?_ ?_ _); rotate_left; focus (first | with_reducible exact Nat.le_refl _ | omega | (simp; done) | (simp; omega))) | (with_reducible refine Below.drew ?_) | ((with_reducible refine Below.trans ?_ (Below.mono (by with_reducible assumption) ?_)); rotate_left; focus (first | with_reducible exact Nat.le_refl _ | omega | (simp; done) | (simp; omega)))))⟩
    · obtain ⟨s1, s2, s3, s4, s5, s6⟩ := shadows_say hL
      obtain ⟨o1, o2⟩ := olF_bd hL
      have HOV := Lib.hid (fun (G : Nat → Rt) (h : ∀ i, i < m → G i = ovR (f i)) => over_shadow hL h)
      have hua := ua_arU hL
      rw [← hua] at s1 s2 s3
      generalize hS : onU shX f m = X at s1 s2 s4 s5 HOV
      generalize hT : onU shY f m = Y at s1 s3 s4 s6 HOV
      generalize hO : olF f m = OL at s4 o1 o2
      generalize hU : uaF f m = UA at s1 s2 s3
      have hXY := mul_400 s5 s6
      have HS := Lib.hid (And.intro hS hT)
      have HOL := Lib.hid hO
      have HUA := Lib.hid hU
      clear hS hT hO hU hua
      go_wp2_with fail
      refine (I_sh.shv A m lcap f X Y true HS.out.1 HS.out.2 hL _ Hmm.out HO1.out.rs).mono ?_; rintro e w2 ⟨rfl, hb2⟩; have hz2 := hb2.size; (try simp at hz2); have HO2 := Lib.hid (HO1.out.below hb2)
      go_wp2_with fail
      refine (ssh_val A m lcap f X Y true HS.out.1 HS.out.2 hL _ Hmm.out HO2.out.rs).mono ?_; rintro e w3 ⟨rfl, hb3⟩; have hz3 := hb3.size; (try simp at hz3); have HO3 := Lib.hid (HO2.out.below hb3)
      have HB3 : Hid (Below w.heap.size w w3) := Lib.hid (by (repeat (first | with_reducible exact Below.refl _ _ | with_reducible assumption | ((with_reducible refine Below.alloc ?_ ?_ _); rotate_left; focus (first | with_reducible exact Nat.le_refl _ | omega | (simp; done) | (simp; omega))) | ((with_reducible refine Below.setCell ?_ ?_ _); rotate_left; focus (first | with_reducible exact Nat.le_refl _ | omega | (simp; done) | (simp; omega))) | (with_reducible refine Below.drew ?_) | ((with_reducible refine Below.trans ?_ (Below.mono (by with_reducible assumption) ?_)); rotate_left; focus (first | with_reducible exact Nat.le_refl _ | omega | (simp; done) | (simp; omega))))))
      have hle3 : w.heap.size ≤ w3.heap.size := HB3.out.size
      clear hb1 hb2 hb3
      go_wp2
      go_loopw [10, 11] (fun s5 s6 wr => ∃ (k : Nat) (A5 : Option Addr) (c5 : Nat) (G : Nat → Rt), k ≤ m ∧ s6 = .int .i64 k ∧ s5 = .slice A5 k c5 ∧ (∀ i, i < k → G i = ovR (f i)) ∧ wr.ownsRow w3.heap.size 29 4 (.slice A5 k c5) k (rowL G k) ∧ Below w3.heap.size w3 wr) (fun _ s6 _ => m - (intOf s6).toNat)
      case atStart => exact ⟨0, _, 0, fun _ => Rt.zero, Nat.zero_le _, rfl, rfl, fun i hi => by omega, own_empty w3 w3.heap.size w3.heap.size rfl (Nat.le_refl _), (Below.refl _ _).alloc (Nat.le_refl _) _⟩
      case round =>
        obtain ⟨k, A5, c5, G, hk, rfl, rfl, hG, hown, hbr⟩ := hrel
        have HG := Lib.hid hG
        have HW := Lib.hid hown
        have hzr := hbr.size
        have HBi := Lib.hid hbr
        clear hG hown hbr
        by_cases hlt : k < m
        · obtain ⟨b, off, hA, hbl, c0, c1, c2, c3⟩ := (HO3.out.below HBi.out).rs.at_ hlt
          subst hA
          obtain ⟨RR, hRR⟩ : ∃ RR, ovR (f k) = RR := ⟨_, rfl⟩
          have HRR := Lib.hid hRR
          clear hRR
          go_wp2_with fail
          refine (iov_v7 (f k) RR HRR.out _).mono ?_; rintro e w4 ⟨rfl, hb4⟩; have hz4 := hb4.size; (try simp at hz4)
          have Hown := Lib.hid ((own_below7 HW.out hb4).alloc (.cells #[.int .i64 RR.l, .int .i64 RR.o, .int .i64 RR.r, .int .i64 RR.h] 29))
          have HB4 := Lib.hid (HBi.out.trans (hb4.mono hzr))
          have hle4 : w3.heap.size ≤ w4.heap.size := HB4.out.size
          clear hb4
          go_wp2_with (refine list_rects _ rfl (.tmp 64) (.tmp 70) rfl w3.heap.size _ k (rowL G k) rfl Hown.out _ 1 1 (four RR) rfl rfl (fun e => by cases e) (Four.new w4 RR _ rfl).ne (four_one RR) (by omega) (by simp; omega) ?_; intro A6 c6 wz hown6 hg6 hb6; rw [rowL_with] at hown6; have HO6 := Lib.hid hown6; have HB6 := Lib.hid hb6; clear hown6 hg6 hb6)
          go_roundw
          case rel =>
            refine ⟨k + 1, A6, c6, withF G k RR, by omega, by go_num, by simp, fun i hi => ?_, HO6.out, HB4.out.trans (Below.trans ((Below.refl _ _).alloc hle4 _) HB6.out)⟩
            unfold withF
            by_cases e : i < k
            · rw [if_pos e]; exact HG.out i e
            · rw [if_neg e, show i = k by omega]; exact HRR.out.symm
          case measure => simp [intOf]; omega
        · obtain rfl : k = m := by omega
          obtain ⟨g5, o5, hg5, _⟩ := own_ow' HW.out
          have Hov := Lib.hid o5
          have HGA := Lib.hid (HOV.out G HG.out)
          have HOr := Lib.hid (HO3.out.below HBi.out)
          have HBr := Lib.hid (HB3.out.trans (HBi.out.mono hle3))
          clear o5
          go_wp2_with fail
          refine (I_sh.shv A5 k c5 G Y X true HGA.out.1 HGA.out.2.1 HGA.out.2.2 _ Hmm.out Hov.out.rs).mono ?_; rintro e w4 ⟨rfl, hb4⟩; have hz4 := hb4.size; (try simp at hz4)
          have HO4 := Lib.hid (HOr.out.below hb4)
          go_wp2_with fail
          refine (J.uav A k lcap f UA HUA.out _ Hmm.out HO4.out.rs).mono ?_; rintro e w5 ⟨rfl, hb5⟩; have hz5 := hb5.size; (try simp at hz5)
          have HO5 := Lib.hid (HO4.out.below hb5)
          go_wp2_with fail
          refine (K.olv A k lcap f OL HOL.out _ Hmm.out HO5.out.rs).mono ?_; rintro e w6 ⟨rfl, hb6⟩; have hz6 := hb6.size; (try simp at hz6)
          go_wp2_with fail
          refine (alive_any _).mono ?_; rintro e w7 ⟨rfl, hb7⟩; have hz7 := hb7.size; (try simp at hz7)
          go_wp2
          go_ret
          exact ⟨rfl, HBr.out.trans (Below.mono (by (repeat (first | with_reducible exact Below.refl _ _ | with_reducible assumption | ((with_reducible refine Below.alloc ?_ ?_ _); rotate_left; focus (first | with_reducible exact Nat.le_refl _ | omega | (simp; done) | (simp; omega))) | ((with_reducible refine Below.setCell ?_ ?_ _); rotate_left; focus (first | with_reducible exact Nat.le_refl _ | omega | (simp; done) | (simp; omega))) | (with_reducible refine Below.drew ?_) | ((with_reducible refine Below.trans ?_ (Below.mono (by with_reducible assumption) ?_)); rotate_left; focus (first | with_reducible exact Nat.le_refl _ | omega | (simp; done) | (simp; omega)))))) HBr.out.size)⟩
end Go.Proofs.Ytfdkkkdijgmbbaa
