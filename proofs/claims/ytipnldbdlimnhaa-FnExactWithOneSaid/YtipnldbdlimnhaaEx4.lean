
/- The exact law of WithOne: its walk. -/
import Derived.Test.YtipnldbdlimnhaaWith2
import Derived.Deep.RegionHeld3
import Derived.Deep.DeepCutAuto
namespace Go.Proofs.Ytipnldbdlimnhaa
open Go.RowKit Go.Sort Go.BigFrame
set_option linter.unusedVariables false

theorem Ow.grown2 {w w' : World} {A : Option Addr} {n g g' : Nat} {f : Nat → Rt} (h : Ow w A n f g) (hg : w.grownBy w' (some g')) (hn : n = 0 ∨ g ≠ g') : Ow w' A n f g := by
  rcases hn with hn | hn
  · exact Or.inl hn
  · exact h.grown hg hn
theorem rs_up {W0 w' : World} {N n : Nat} {A : Option Addr} {f : Nat → Rt} (h : Rs W0 A n f) (hN : W0.heap.size = N) (hb : Below N W0 w') : Rs w' A n f := by
  subst hN; exact h.below hb
theorem Ow.lt {w : World} {A : Option Addr} {n g : Nat} {f : Nat → Rt} (h : Ow w A n f g) : n = 0 ∨ g < w.heap.size := by
  rcases h with h | ⟨_, hl, _⟩
  · exact Or.inl h
  · exact Or.inr hl

def WoPost2 (M : Nat) (B : Bool) (f : Nat → Rt) (w : World) (e : Ending) (w' : World) : Prop :=
  ∃ A cap g, e = .returned (.tuple #[.slice A M cap, .bool B]) ∧ Ow w' A M f g ∧ w.heap.size ≤ g ∧ Hd A M cap ∧ Below w.heap.size w w'
theorem iwo_val (A : Option Addr) (n cap : Nat) (f : Nat → Rt) (r : Rt) (M : Nat) (B : Bool) (hM : cntF (woB f n r) (n + 1) = M) (hB : woB f n r = B) (w : World) (hn : n ≤ maxLen) (hr : Rs w A n f) (hh : Hd A n cap) :
    Calls Try.prog 30 #[.slice A n cap, rv r] w (WoPost2 M B (withF f n r) w) := by
  subst hM hB; exact iwo_any A n cap f r w hn hr hh
set_option maxHeartbeats 4000000 in
set_option maxRecDepth 100000 in
theorem walkExactWithOne (A : Option Addr) (n cap : Nat) (f : Nat → Rt) (r : Rt) (w : World) (hm : n ≤ maxLen) (hr : Rs w A n f) :
    Calls Try.prog 12 #[.slice A n cap, rv r] w fun e w' => e = .returned (.bool true) ∧ Below w.heap.size w w' := by
  have Hr := Lib.hid hr
  clear hr
  by_cases hl : 1048576 < n
  · go_enter Try.func12, Try.ntmps12
    go_wp2_with fail
    refine (sz_no _ _ _ _ hm (by omega)).mono ?_; rintro e w' ⟨rfl, rfl⟩
    go_wp2
    go_ret
    exact ⟨rfl, (Below.refl _ _).alloc (Nat.le_refl _) _⟩
  · have Hm := Lib.hid hm
    clear hm
    have HR := Lib.hid (Hr.out.below (w' := (w.alloc (.cells #[.int .i64 r.l, .int .i64 r.o, .int .i64 r.r, .int .i64 r.h] 49))) ((Below.refl _ _).alloc (Nat.le_refl _) _))
    go_enter Try.func12, Try.ntmps12
    go_upto_region 5 with (go_at_call 32; refine (sz_yes _ _ _ _ (by omega)).mono ?_; rintro e w' ⟨rfl, rfl⟩)
    go_cut [6, 7] (fun s6 s7 wx => ∃ (A1 : Option Addr) (c1 g1 : Nat), s6 = .slice A1 (cntF (woB f n r) (n + 1)) c1 ∧ s7 = .bool (woB f n r) ∧ Ow wx A1 (cntF (woB f n r) (n + 1)) (withF f n r) g1 ∧ Below (w.heap.size + 1) (w.alloc (.cells #[.int .i64 r.l, .int .i64 r.o, .int .i64 r.r, .int .i64 r.h] 49)) wx)
    case first =>
      go_region_with (first | (go_at_call 33; refine (torects_any A n cap f _ (by omega) (HR.out.below (by (repeat (first | with_reducible exact Below.refl _ _ | with_reducible assumption | ((with_reducible refine Below.alloc ?_ ?_ _); rotate_left; focus (first | with_reducible exact Nat.le_refl _ | omega | (simp; done) | (simp; omega))) | ((with_reducible refine Below.setCell ?_ ?_ _); rotate_left; focus (first | with_reducible exact Nat.le_refl _ | omega | (simp; done) | (simp; omega))) | (with_reducible refine Below.drew ?_) | ((with_reducible refine Below.trans ?_ (Below.mono (by with_reducible assumption) ?_)); rotate_left; focus (first | with_reducible exact Nat.le_refl _ | omega | (simp; done) | (simp; omega)))))))).mono ?_; rintro e wA ⟨rfl, hoA, hbA⟩; have hzA := hbA.size; (try simp at hzA); (try simp at hoA); have HoA := Lib.hid hoA; clear hoA; (try (have _ := fun o => hbA.cell (p := ⟨w.heap.size, o, none⟩) (by first | omega | (simp; done) | (simp; omega))))) | (go_at_call 40; refine (torect_any r _).mono ?_; rintro e wB ⟨rfl, hbB⟩; have hzB := hbB.size; (try simp at hzB); (try (have _ := fun o => hbB.cell (p := ⟨w.heap.size, o, none⟩) (by first | omega | (simp; done) | (simp; omega))))) | (go_at_call 31; refine (swo_any _ n n f r _ (by first | omega | exact Hm.out) (by first | exact HoA.out.rs | exact (HoA.out.below hbB).rs | exact (HoA.out.below (by (repeat (first | with_reducible exact Below.refl _ _ | with_reducible assumption | ((with_reducible refine Below.alloc ?_ ?_ _); rotate_left; focus (first | with_reducible exact Nat.le_refl _ | omega | (simp; done) | (simp; omega))) | ((with_reducible refine Below.setCell ?_ ?_ _); rotate_left; focus (first | with_reducible exact Nat.le_refl _ | omega | (simp; done) | (simp; omega))) | (with_reducible refine Below.drew ?_) | ((with_reducible refine Below.trans ?_ (Below.mono (by with_reducible assumption) ?_)); rotate_left; focus (first | with_reducible exact Nat.le_refl _ | omega | (simp; done) | (simp; omega))))))).rs) ⟨Nat.le_refl _, fun e => by cases e⟩).mono ?_; rintro e wC hpC; have HpC := Lib.hid hpC; clear hpC; obtain ⟨AC, cC, gC, rfl, hoC, hgC, hdC, hbC⟩ := HpC.out; have hzC := hbC.size; (try simp at hzC); have HoC := Lib.hid hoC; have HgC := Lib.hid hgC; clear hoC hgC hdC))
      all_goals (go_wp2_with fail; go_meet; exact ⟨AC, cC, gC, rfl, rfl, HoC.out, by (repeat (first | with_reducible exact Below.refl _ _ | with_reducible assumption | ((with_reducible refine Below.alloc ?_ ?_ _); rotate_left; focus (first | with_reducible exact Nat.le_refl _ | omega | (simp; done) | (simp; omega))) | ((with_reducible refine Below.setCell ?_ ?_ _); rotate_left; focus (first | with_reducible exact Nat.le_refl _ | omega | (simp; done) | (simp; omega))) | (with_reducible refine Below.drew ?_) | ((with_reducible refine Below.trans ?_ (Below.mono (by with_reducible assumption) ?_)); rotate_left; focus (first | with_reducible exact Nat.le_refl _ | omega | (simp; done) | (simp; omega)))))⟩)
    case rest =>
      obtain ⟨A1, c1, g1, rfl, rfl, ho1, hb0⟩ := hcut
      have hM : cntF (woB f n r) (n + 1) ≤ 1048577 := by unfold cntF; split <;> omega
      generalize hMe : cntF (woB f n r) (n + 1) = M at ho1 hM ⊢
      generalize hBe : woB f n r = B
      have HMe := Lib.hid hMe
      have HBe := Lib.hid hBe
      clear hMe hBe
      have HB0 := Lib.hid hb0
      have hs0 : w.heap.size + 1 ≤ wc.heap.size := by have h := hb0.size; simp at h; omega
      have hl1 := ho1.lt
      have Hl1 := Lib.hid hl1
      clear hl1
      have O10 := Lib.hid ho1
      clear ho1 hb0
      have _ := fun o => HB0.out.cell (p := ⟨w.heap.size, o, none⟩) (by first | omega | (simp; done) | (simp; omega))
      have hmm : M ≤ maxLen := by unfold maxLen; omega
      have Hmm := Lib.hid hmm
      clear hmm
      go_wp2_with fail
      refine (torects_sz A n cap f _ (by omega) (rs_up HR.out (by simp) HB0.out)).mono ?_; rintro e w1 ⟨rfl, hx1, hb1, hlt1⟩; have X1 := Lib.hid hx1; clear hx1; have HB1 : Hid (Below (w.heap.size + 1) (w.alloc (.cells #[.int .i64 r.l, .int .i64 r.o, .int .i64 r.r, .int .i64 r.h] 49)) w1) := Lib.hid (HB0.out.trans (hb1.mono hs0)); have hs1 : w.heap.size + 1 ≤ w1.heap.size := Nat.le_trans hs0 hb1.size; have hq1 : wc.heap.size ≤ w1.heap.size := hb1.size; have O11 := Lib.hid (O10.out.below hb1); have _ := fun o => HB1.out.cell (p := ⟨w.heap.size, o, none⟩) (by first | omega | (simp; done) | (simp; omega))
      go_wp2_with fail
      refine (torect_any r _).mono ?_; rintro e w2 ⟨rfl, hb2⟩; have HB2 : Hid (Below (w.heap.size + 1) (w.alloc (.cells #[.int .i64 r.l, .int .i64 r.o, .int .i64 r.r, .int .i64 r.h] 49)) w2) := Lib.hid (HB1.out.trans (hb2.mono hs1)); have hs2 : w.heap.size + 1 ≤ w2.heap.size := Nat.le_trans hs1 hb2.size; have hq2 : w1.heap.size ≤ w2.heap.size := hb2.size; have O12 := Lib.hid (O11.out.below hb2); have X2 := Lib.hid (X1.out.below hb2); have _ := fun o => HB2.out.cell (p := ⟨w.heap.size, o, none⟩) (by first | omega | (simp; done) | (simp; omega))
      go_wp2_with fail
      refine (iwo_any _ n n f r _ Hm.out X2.out.rs ⟨Nat.le_refl _, fun e => by cases e⟩).mono ?_; rintro e w3 hp3; have HP3 := Lib.hid hp3; clear hp3
      obtain ⟨A2, c2, g2, rfl, ho2, hg2, _, hb3⟩ := HP3.out
      rw [HMe.out] at ho2
      rw [HMe.out, HBe.out]
      have O23 := Lib.hid ho2; clear ho2; have HB3 : Hid (Below (w.heap.size + 1) (w.alloc (.cells #[.int .i64 r.l, .int .i64 r.o, .int .i64 r.r, .int .i64 r.h] 49)) w3) := Lib.hid (HB2.out.trans (hb3.mono hs2)); have hs3 : w.heap.size + 1 ≤ w3.heap.size := Nat.le_trans hs2 hb3.size; have hq3 : w2.heap.size ≤ w3.heap.size := hb3.size; have O13 := Lib.hid (O12.out.below hb3); have X3 := Lib.hid (X2.out.below hb3); have _ := fun o => HB3.out.cell (p := ⟨w.heap.size, o, none⟩) (by first | omega | (simp; done) | (simp; omega))
      go_wp2_with fail
      refine (eqrects_same A2 A1 M c2 c1 (withF f n r) _ Hmm.out O23.out.rs O13.out.rs).mono ?_; rintro e w4 ⟨rfl, hb4⟩; have HB4 : Hid (Below (w.heap.size + 1) (w.alloc (.cells #[.int .i64 r.l, .int .i64 r.o, .int .i64 r.r, .int .i64 r.h] 49)) w4) := Lib.hid (HB3.out.trans (hb4.mono hs3)); have hs4 : w.heap.size + 1 ≤ w4.heap.size := Nat.le_trans hs3 hb4.size; have hq4 : w3.heap.size ≤ w4.heap.size := hb4.size; have O14 := Lib.hid (O13.out.below hb4); have O24 := Lib.hid (O23.out.below hb4); have X4 := Lib.hid (X3.out.below hb4); have _ := fun o => HB4.out.cell (p := ⟨w.heap.size, o, none⟩) (by first | omega | (simp; done) | (simp; omega))
      go_wp2_with fail
      refine (torects_any A n cap f _ (by omega) (rs_up HR.out (by simp) HB4.out)).mono ?_; rintro e w5 ⟨rfl, hy5, hb5⟩; have Y5 := Lib.hid hy5; clear hy5; have HB5 : Hid (Below (w.heap.size + 1) (w.alloc (.cells #[.int .i64 r.l, .int .i64 r.o, .int .i64 r.r, .int .i64 r.h] 49)) w5) := Lib.hid (HB4.out.trans (hb5.mono hs4)); have hs5 : w.heap.size + 1 ≤ w5.heap.size := Nat.le_trans hs4 hb5.size; have hq5 : w4.heap.size ≤ w5.heap.size := hb5.size; have O15 := Lib.hid (O14.out.below hb5); have O25 := Lib.hid (O24.out.below hb5); have X5 := Lib.hid (X4.out.below hb5); have _ := fun o => HB5.out.cell (p := ⟨w.heap.size, o, none⟩) (by first | omega | (simp; done) | (simp; omega))
      go_wp2_with fail
      refine (eqrects_same _ _ n n n f _ Hm.out X5.out.rs Y5.out.rs).mono ?_; rintro e w6 ⟨rfl, hb6⟩; have HB6 : Hid (Below (w.heap.size + 1) (w.alloc (.cells #[.int .i64 r.l, .int .i64 r.o, .int .i64 r.r, .int .i64 r.h] 49)) w6) := Lib.hid (HB5.out.trans (hb6.mono hs5)); have hs6 : w.heap.size + 1 ≤ w6.heap.size := Nat.le_trans hs5 hb6.size; have hq6 : w5.heap.size ≤ w6.heap.size := hb6.size; have O16 := Lib.hid (O15.out.below hb6); have O26 := Lib.hid (O25.out.below hb6); have X6 := Lib.hid (X5.out.below hb6); have _ := fun o => HB6.out.cell (p := ⟨w.heap.size, o, none⟩) (by first | omega | (simp; done) | (simp; omega))
      go_wp2_with fail
      refine (markrects_any _ n n wc.heap.size f _ (by omega) X6.out).mono ?_; rintro e w7 ⟨rfl, _, hg7⟩; have HB7 : Hid (Below (w.heap.size + 1) (w.alloc (.cells #[.int .i64 r.l, .int .i64 r.o, .int .i64 r.r, .int .i64 r.h] 49)) w7) := Lib.hid (below_grown HB6.out hg7 hs6 (by omega)); have hs7 : w.heap.size + 1 ≤ w7.heap.size := Nat.le_trans hs6 hg7.size; have hq7 : w6.heap.size ≤ w7.heap.size := hg7.size; have O17 := Lib.hid (O16.out.grown2 hg7 (by have := Hl1.out; omega)); have O27 := Lib.hid (O26.out.grown2 hg7 (by omega)); have _ := fun o => HB7.out.cell (p := ⟨w.heap.size, o, none⟩) (by first | omega | (simp; done) | (simp; omega))
      go_wp2_with fail
      refine (eqrects_same A2 A1 M c2 c1 (withF f n r) _ Hmm.out O27.out.rs O17.out.rs).mono ?_; rintro e w8 ⟨rfl, hb8⟩; have HB8 : Hid (Below (w.heap.size + 1) (w.alloc (.cells #[.int .i64 r.l, .int .i64 r.o, .int .i64 r.r, .int .i64 r.h] 49)) w8) := Lib.hid (HB7.out.trans (hb8.mono hs7)); have hs8 : w.heap.size + 1 ≤ w8.heap.size := Nat.le_trans hs7 hb8.size; have hq8 : w7.heap.size ≤ w8.heap.size := hb8.size; have O18 := Lib.hid (O17.out.below hb8); have O28 := Lib.hid (O27.out.below hb8); have _ := fun o => HB8.out.cell (p := ⟨w.heap.size, o, none⟩) (by first | omega | (simp; done) | (simp; omega))
      go_wp2_with fail
      refine (markrects_any A2 M c2 g2 (withF f n r) _ (by omega) O28.out).mono ?_; rintro e w9 ⟨rfl, hm9, hg9⟩; have O29 := Lib.hid hm9; clear hm9; have HB9 : Hid (Below (w.heap.size + 1) (w.alloc (.cells #[.int .i64 r.l, .int .i64 r.o, .int .i64 r.r, .int .i64 r.h] 49)) w9) := Lib.hid (below_grown HB8.out hg9 hs8 (by omega)); have hs9 : w.heap.size + 1 ≤ w9.heap.size := Nat.le_trans hs8 hg9.size; have hq9 : w8.heap.size ≤ w9.heap.size := hg9.size; have O19 := Lib.hid (O18.out.grown2 hg9 (by have := Hl1.out; omega)); have _ := fun o => HB9.out.cell (p := ⟨w.heap.size, o, none⟩) (by first | omega | (simp; done) | (simp; omega))
      go_wp2_with fail
      refine (heldrects_any A2 M c2 _ (by omega) O29.out.rs).mono ?_; rintro e w' ⟨rfl, rfl⟩
      go_upto_region 24 with fail
      go_cut [14, 15] (fun s14 s15 wx => ∃ (A3 : Option Addr) (c3 g3 : Nat), s14 = .slice A3 M c3 ∧ s15 = .bool B ∧ Ow wx A3 M (withF f n r) g3 ∧ Below w9.heap.size w9 wx)
      case first =>
        go_region_with (first | (go_at_call 33; refine (torects_any A n cap f _ (by omega) ((rs_up HR.out (by simp) HB9.out).below (by (repeat (first | with_reducible exact Below.refl _ _ | with_reducible assumption | ((with_reducible refine Below.alloc ?_ ?_ _); rotate_left; focus (first | with_reducible exact Nat.le_refl _ | omega | (simp; done) | (simp; omega))) | ((with_reducible refine Below.setCell ?_ ?_ _); rotate_left; focus (first | with_reducible exact Nat.le_refl _ | omega | (simp; done) | (simp; omega))) | (with_reducible refine Below.drew ?_) | ((with_reducible refine Below.trans ?_ (Below.mono (by with_reducible assumption) ?_)); rotate_left; focus (first | with_reducible exact Nat.le_refl _ | omega | (simp; done) | (simp; omega)))))))).mono ?_; rintro e wA ⟨rfl, hoA, hbA⟩; have hzA := hbA.size; (try simp at hzA); (try simp at hoA); have HoA := Lib.hid hoA; clear hoA; (try (have _ := fun o => hbA.cell (p := ⟨w.heap.size, o, none⟩) (by first | omega | (simp; done) | (simp; omega))))) | (go_at_call 40; refine (torect_any r _).mono ?_; rintro e wB ⟨rfl, hbB⟩; have hzB := hbB.size; (try simp at hzB); (try (have _ := fun o => hbB.cell (p := ⟨w.heap.size, o, none⟩) (by first | omega | (simp; done) | (simp; omega))))) | (go_at_call 30; refine (iwo_val _ n n f r M B HMe.out HBe.out _ (by first | omega | exact Hm.out) (by first | exact HoA.out.rs | exact (HoA.out.below hbB).rs | exact (HoA.out.below (by (repeat (first | with_reducible exact Below.refl _ _ | with_reducible assumption | ((with_reducible refine Below.alloc ?_ ?_ _); rotate_left; focus (first | with_reducible exact Nat.le_refl _ | omega | (simp; done) | (simp; omega))) | ((with_reducible refine Below.setCell ?_ ?_ _); rotate_left; focus (first | with_reducible exact Nat.le_refl _ | omega | (simp; done) | (simp; omega))) | (with_reducible refine Below.drew ?_) | ((with_reducible refine Below.trans ?_ (Below.mono (by with_reducible assumption) ?_)); rotate_left; focus (first | with_reducible exact Nat.le_refl _ | omega | (simp; done) | (simp; omega))))))).rs) ⟨Nat.le_refl _, fun e => by cases e⟩).mono ?_; rintro e wC hpC; have HpC := Lib.hid hpC; clear hpC; obtain ⟨AC, cC, gC, rfl, hoC, hgC, hdC, hbC⟩ := HpC.out; have hzC := hbC.size; (try simp at hzC); have HoC := Lib.hid hoC; have HgC := Lib.hid hgC; clear hoC hgC hdC))
        all_goals (go_wp2_with fail; go_meet; exact ⟨AC, cC, gC, rfl, rfl, HoC.out, by (repeat (first | with_reducible exact Below.refl _ _ | with_reducible assumption | ((with_reducible refine Below.alloc ?_ ?_ _); rotate_left; focus (first | with_reducible exact Nat.le_refl _ | omega | (simp; done) | (simp; omega))) | ((with_reducible refine Below.setCell ?_ ?_ _); rotate_left; focus (first | with_reducible exact Nat.le_refl _ | omega | (simp; done) | (simp; omega))) | (with_reducible refine Below.drew ?_) | ((with_reducible refine Below.trans ?_ (Below.mono (by with_reducible assumption) ?_)); rotate_left; focus (first | with_reducible exact Nat.le_refl _ | omega | (simp; done) | (simp; omega)))))⟩)
      case rest =>
        obtain ⟨A3, c3, g3, rfl, rfl, ho3, hb10⟩ := hcut
        have O310 := Lib.hid ho3
        clear ho3
        have HB10 : Hid (Below (w.heap.size + 1) (w.alloc (.cells #[.int .i64 r.l, .int .i64 r.o, .int .i64 r.r, .int .i64 r.h] 49)) wc) := Lib.hid (HB9.out.trans (hb10.mono hs9))
        have hs10 : w.heap.size + 1 ≤ wc.heap.size := Nat.le_trans hs9 hb10.size
        have O110 := Lib.hid (O19.out.below hb10)
        have O210 := Lib.hid (O29.out.below hb10)
        go_wp2_with fail
        refine (eqrects_same A3 A1 M c3 c1 (withF f n r) _ Hmm.out O310.out.rs O110.out.rs).mono ?_; rintro e w11 ⟨rfl, hb11⟩; have HB11 : Hid (Below (w.heap.size + 1) (w.alloc (.cells #[.int .i64 r.l, .int .i64 r.o, .int .i64 r.r, .int .i64 r.h] 49)) w11) := Lib.hid (HB10.out.trans (hb11.mono hs10)); have O211 := Lib.hid (O210.out.below hb11)
        go_wp2_with fail
        refine (heldrects_any A2 M c2 _ (by omega) O211.out.rs).mono ?_; rintro e w' ⟨rfl, rfl⟩
        go_wp2
        go_ret
        refine ⟨rfl, ?_⟩
        have h1 : Below w.heap.size w (w.alloc (.cells #[.int .i64 r.l, .int .i64 r.o, .int .i64 r.r, .int .i64 r.h] 49)) := (Below.refl _ _).alloc (Nat.le_refl _) _
        exact h1.trans (HB11.out.mono (by omega))
end Go.Proofs.Ytipnldbdlimnhaa
