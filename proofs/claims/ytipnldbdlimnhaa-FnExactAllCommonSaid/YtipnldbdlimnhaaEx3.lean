
/- The exact laws of LaidOk and AllCommon: their walks. -/
import Derived.Test.YtipnldbdlimnhaaUn
namespace Go.Proofs.Ytipnldbdlimnhaa
open Go.RowKit Go.Sort
set_option linter.unusedVariables false

set_option maxHeartbeats 1000000 in
theorem walkExactLaidOk (A : Option Addr) (n cap : Nat) (f : Nat → Rt) (w : World) (hm : n ≤ maxLen) (hr : Rs w A n f) :
    Calls Try.prog 8 #[.slice A n cap] w fun e w' => e = .returned (.bool true) ∧ Below w.heap.size w w' := by
  have Hr := Lib.hid hr
  clear hr
  by_cases hl : 1048576 < n
  · go_enter Try.func8, Try.ntmps8
    go_wp2_with fail
    refine (sz_no _ _ _ _ hm (by omega)).mono ?_; rintro e w' ⟨rfl, rfl⟩
    go_wp2
    go_ret
    exact ⟨rfl, Below.refl _ _⟩
  · have Hm := Lib.hid hm
    clear hm
    go_enter Try.func8, Try.ntmps8
    go_wp2_with fail
    refine (sz_yes _ _ _ _ (by omega)).mono ?_; rintro e w' ⟨rfl, rfl⟩
    go_wp2_with fail
    refine (torects_any A n cap f _ (by omega) (Hr.out)).mono ?_; rintro e w1 ⟨rfl, ho1, hb1⟩; have hz1 := hb1.size; (try simp at hz1); (try simp only [World.size_alloc] at ho1); have Ho1 := Lib.hid ho1; clear ho1; have Hr1 := Lib.hid ((Hr.out).below hb1)
    go_wp2_with fail
    refine (slaid_any _ n n f _ Hm.out Ho1.out.rs).mono ?_; rintro e w2 ⟨rfl, hb2⟩; have hz2 := hb2.size; (try simp at hz2); have Hr2 := Lib.hid (Hr1.out.below hb2)
    go_wp2_with fail
    refine (torects_any A n cap f _ (by omega) (Hr2.out)).mono ?_; rintro e w3 ⟨rfl, ho3, hb3⟩; have hz3 := hb3.size; (try simp at hz3); (try simp only [World.size_alloc] at ho3); have Ho3 := Lib.hid ho3; clear ho3; have Hr3 := Lib.hid ((Hr2.out).below hb3)
    go_wp2_with fail
    refine (ilaid_any _ n n f _ Hm.out Ho3.out.rs).mono ?_; rintro e w4 ⟨rfl, hb4⟩; have hz4 := hb4.size; (try simp at hz4); have Hr4 := Lib.hid (Hr3.out.below hb4); have Ho4 := Lib.hid (Ho3.out.below hb4)
    go_wp2_with fail
    refine (torects_any A n cap f _ (by omega) (Hr4.out)).mono ?_; rintro e w5 ⟨rfl, ho5, hb5⟩; have hz5 := hb5.size; (try simp at hz5); (try simp only [World.size_alloc] at ho5); have Ho5 := Lib.hid ho5; clear ho5; have Hr5 := Lib.hid ((Hr4.out).below hb5); have Hx := Lib.hid (Ho4.out.below hb5)
    go_wp2_with fail
    refine (eqrects_same _ _ n n n f _ Hm.out Hx.out.rs Ho5.out.rs).mono ?_; rintro e w6 ⟨rfl, hb6⟩; have hz6 := hb6.size; (try simp at hz6)
    go_wp2
    go_ret
    exact ⟨rfl, by (repeat (first | with_reducible exact Below.refl _ _ | with_reducible assumption | ((with_reducible refine Below.alloc ?_ ?_ _); rotate_left; focus (first | with_reducible exact Nat.le_refl _ | omega | (simp; done) | (simp; omega))) | ((with_reducible refine Below.setCell ?_ ?_ _); rotate_left; focus (first | with_reducible exact Nat.le_refl _ | omega | (simp; done) | (simp; omega))) | (with_reducible refine Below.drew ?_) | ((with_reducible refine Below.trans ?_ (Below.mono (by with_reducible assumption) ?_)); rotate_left; focus (first | with_reducible exact Nat.le_refl _ | omega | (simp; done) | (simp; omega)))))⟩

set_option maxHeartbeats 1000000 in
theorem walkExactAllCommon (A : Option Addr) (n cap : Nat) (f : Nat → Rt) (w : World) (hm : n ≤ maxLen) (hr : Rs w A n f) :
    Calls Try.prog 10 #[.slice A n cap] w fun e w' => e = .returned (.bool true) ∧ Below w.heap.size w w' := by
  have Hr := Lib.hid hr
  clear hr
  by_cases hl : 1048576 < n
  · go_enter Try.func10, Try.ntmps10
    go_wp2_with fail
    refine (sz_no _ _ _ _ hm (by omega)).mono ?_; rintro e w' ⟨rfl, rfl⟩
    go_wp2
    go_ret
    exact ⟨rfl, Below.refl _ _⟩
  · have Hm := Lib.hid hm
    clear hm
    go_enter Try.func10, Try.ntmps10
    go_wp2_with fail
    refine (sz_yes _ _ _ _ (by omega)).mono ?_; rintro e w' ⟨rfl, rfl⟩
    go_wp2_with fail
    refine (torects_any A n cap f _ (by omega) (Hr.out)).mono ?_; rintro e w1 ⟨rfl, ho1, hb1⟩; have hz1 := hb1.size; (try simp at hz1); (try simp only [World.size_alloc] at ho1); have Ho1 := Lib.hid ho1; clear ho1; have Hr1 := Lib.hid ((Hr.out).below hb1)
    go_wp2_with fail
    refine (sac_any _ n n f _ Hm.out Ho1.out.rs).mono ?_; rintro e w2 ⟨rfl, hb2⟩; have hz2 := hb2.size; (try simp at hz2); have Hr2 := Lib.hid (Hr1.out.below hb2)
    go_wp2_with fail
    refine (torects_any A n cap f _ (by omega) (Hr2.out.below ((Below.refl _ _).alloc (Nat.le_refl _) _))).mono ?_; rintro e w3 ⟨rfl, ho3, hb3⟩; have hz3 := hb3.size; (try simp at hz3); (try simp only [World.size_alloc] at ho3); have Ho3 := Lib.hid ho3; clear ho3; have Hr3 := Lib.hid ((Hr2.out.below ((Below.refl _ _).alloc (Nat.le_refl _) _)).below hb3); have _ : w2.heap.size < w3.heap.size := (by first | (simp; done) | omega | (simp; omega)); have _ := fun o => hb3.cell (p := ⟨w2.heap.size, o, none⟩) (by first | (simp; done) | omega | (simp; omega))
    go_wp2_with fail
    refine (iac_any _ n n f _ Hm.out Ho3.out.rs).mono ?_; rintro e w4 ⟨rfl, hb4⟩; have hz4 := hb4.size; (try simp at hz4); have _ : w2.heap.size < w4.heap.size := (by first | (simp; done) | omega | (simp; omega)); have _ := fun o => hb4.cell (p := ⟨w2.heap.size, o, none⟩) (by first | (simp; done) | omega | (simp; omega)); have Hr4 := Lib.hid (Hr3.out.below hb4); have Ho4 := Lib.hid (Ho3.out.below hb4)
    go_wp2_with fail
    refine (eqrect_same (acRF f n) _).mono ?_; rintro e w5 ⟨rfl, hb5⟩; have hz5 := hb5.size; (try simp at hz5); have Hr5 := Lib.hid ((Hr4.out.below ((Below.refl _ _).alloc (Nat.le_refl _) _)).below hb5); have Ho5 := Lib.hid ((Ho4.out.below ((Below.refl _ _).alloc (Nat.le_refl _) _)).below hb5)
    go_wp2_with fail
    refine (torects_any A n cap f _ (by omega) (Hr5.out)).mono ?_; rintro e w6 ⟨rfl, ho6, hb6⟩; have hz6 := hb6.size; (try simp at hz6); (try simp only [World.size_alloc] at ho6); have Ho6 := Lib.hid ho6; clear ho6; have Hr6 := Lib.hid ((Hr5.out).below hb6); have Hx := Lib.hid (Ho5.out.below hb6)
    go_wp2_with fail
    refine (eqrects_same _ _ n n n f _ Hm.out Hx.out.rs Ho6.out.rs).mono ?_; rintro e w7 ⟨rfl, hb7⟩; have hz7 := hb7.size; (try simp at hz7)
    go_wp2
    go_ret
    exact ⟨rfl, by (repeat (first | with_reducible exact Below.refl _ _ | with_reducible assumption | ((with_reducible refine Below.alloc ?_ ?_ _); rotate_left; focus (first | with_reducible exact Nat.le_refl _ | omega | (simp; done) | (simp; omega))) | ((with_reducible refine Below.setCell ?_ ?_ _); rotate_left; focus (first | with_reducible exact Nat.le_refl _ | omega | (simp; done) | (simp; omega))) | (with_reducible refine Below.drew ?_) | ((with_reducible refine Below.trans ?_ (Below.mono (by with_reducible assumption) ?_)); rotate_left; focus (first | with_reducible exact Nat.le_refl _ | omega | (simp; done) | (simp; omega)))))⟩
end Go.Proofs.Ytipnldbdlimnhaa
