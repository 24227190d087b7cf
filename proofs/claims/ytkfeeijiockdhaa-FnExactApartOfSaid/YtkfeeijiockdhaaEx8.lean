/- The exact laws of chapter 5: their walks. -/
import Derived.Test.YtkfeeijiockdhaaPi
namespace Go.Proofs.Ytkfeeijiockdhaa
open Go.RowKit Go.Sort Go.BigFrame
set_option linter.unusedVariables false
structure IMt5 : Prop where
  mt : ∀ (a b : Rt) (w : World), Calls Try.prog 25 #[rv a, rv b] w fun e w' => e = .returned (.bool (cmB a b)) ∧ Below w.heap.size w w'
structure IAm5 : Prop where
  am : ∀ (A : Option Addr) (n cap : Nat) (f : Nat → Rt) (w : World), n ≤ maxLen → Rs w A n f → Calls Try.prog 30 #[.slice A n cap] w fun e w' => e = .returned (.bool (amF f n)) ∧ Below w.heap.size w w'
structure IPr5 : Prop where
  pr : ∀ (A : Option Addr) (n cap : Nat) (f : Nat → Rt) (w : World), n ≤ maxLen → Rs w A n f → Calls Try.prog 14 #[.slice A n cap] w fun e w' => e = .returned (.int .i64 (prF f n)) ∧ Below w.heap.size w w'
structure IAp5 : Prop where
  ap : ∀ (A : Option Addr) (n cap : Nat) (f : Nat → Rt) (w : World), n ≤ maxLen → Rs w A n f → Calls Try.prog 18 #[.slice A n cap] w fun e w' => e = .returned (.int .i64 (apF f n)) ∧ Below w.heap.size w w'
theorem IMt5.mtv (I_mt : IMt5) (a b : Rt) (v : Bool) (h : cmB a b = v) (w : World) :
    Calls Try.prog 25 #[rv a, rv b] w fun e w' => e = .returned (.bool v) ∧ Below w.heap.size w w' := h ▸ I_mt.mt a b w
theorem IAm5.amv (I_am : IAm5) (A : Option Addr) (n cap : Nat) (f : Nat → Rt) (v : Bool) (h : amF f n = v) (w : World) (hn : n ≤ maxLen) (hr : Rs w A n f) :
    Calls Try.prog 30 #[.slice A n cap] w fun e w' => e = .returned (.bool v) ∧ Below w.heap.size w w' := h ▸ I_am.am A n cap f w hn hr
theorem IPr5.prv (I_pr : IPr5) (A : Option Addr) (n cap : Nat) (f : Nat → Rt) (v : Int) (h : prF f n = v) (w : World) (hn : n ≤ maxLen) (hr : Rs w A n f) :
    Calls Try.prog 14 #[.slice A n cap] w fun e w' => e = .returned (.int .i64 v) ∧ Below w.heap.size w w' := h ▸ I_pr.pr A n cap f w hn hr
theorem IAp5.apv (I_ap : IAp5) (A : Option Addr) (n cap : Nat) (f : Nat → Rt) (v : Int) (h : apF f n = v) (w : World) (hn : n ≤ maxLen) (hr : Rs w A n f) :
    Calls Try.prog 18 #[.slice A n cap] w fun e w' => e = .returned (.int .i64 v) ∧ Below w.heap.size w w' := h ▸ I_ap.ap A n cap f w hn hr

set_option maxHeartbeats 4000000 in
set_option maxRecDepth 100000 in
theorem walkExactApartOf (I_ap : IAp5) (A : Option Addr) (n cap : Nat) (f : Nat → Rt) (w : World) (hm : n ≤ maxLen) (hr : Rs w A n f) :
    Calls Try.prog 8 #[.slice A n cap] w fun e w' => e = .returned (.bool true) ∧ Below w.heap.size w w' := by
  have Hr := Lib.hid hr
  clear hr
  by_cases hl : 1048576 < n
  · go_enter Try.func8, Try.ntmps8
    go_wp2_with fail
    refine (sz_no _ _ _ _ hm (by omega)).mono ?_; rintro e w' ⟨rfl, rfl⟩
    go_wp2
    go_ret
    exact ⟨rfl, Below.refl _ _⟩
  · have Hm := Lib.hid hm
    clear hm
    obtain ⟨v, HV⟩ : ∃ v, Hid (apF f n = v) := ⟨_, Lib.hid rfl⟩
    go_enter Try.func8, Try.ntmps8
    go_wp2_with fail
    refine (sz_yes _ _ _ _ (by omega)).mono ?_; rintro e w' ⟨rfl, rfl⟩
    go_wp2_with fail
    refine (torects_any A n cap f _ (by omega) (Hr.out)).mono ?_; rintro e w1 ⟨rfl, ho1, hb1⟩; have hz1 := hb1.size; (try simp at hz1); (try simp only [World.size_alloc] at ho1); have Ho1 := Lib.hid ho1; clear ho1; have Hr1 := Lib.hid ((Hr.out).below hb1)
    go_wp2_with fail
    refine (sap_val _ n n f v HV.out _ Hm.out Ho1.out.rs).mono ?_; rintro e w2 ⟨rfl, hb2⟩; have hz2 := hb2.size; (try simp at hz2); have Hr2 := Lib.hid (Hr1.out.below hb2)
    go_wp2_with fail
    refine (torects_any A n cap f _ (by omega) (Hr2.out)).mono ?_; rintro e w3 ⟨rfl, ho3, hb3⟩; have hz3 := hb3.size; (try simp at hz3); (try simp only [World.size_alloc] at ho3); have Ho3 := Lib.hid ho3; clear ho3; have Hr3 := Lib.hid ((Hr2.out).below hb3)
    go_wp2_with fail
    refine (I_ap.apv _ n n f v HV.out _ Hm.out Ho3.out.rs).mono ?_; rintro e w4 ⟨rfl, hb4⟩; have hz4 := hb4.size; (try simp at hz4); have Hr4 := Lib.hid (Hr3.out.below hb4); have Ho4 := Lib.hid (Ho3.out.below hb4)
    go_wp2_with fail
    refine (torects_any A n cap f _ (by omega) (Hr4.out)).mono ?_; rintro e w5 ⟨rfl, ho5, hb5⟩; have hz5 := hb5.size; (try simp at hz5); (try simp only [World.size_alloc] at ho5); have Ho5 := Lib.hid ho5; clear ho5; have Hr5 := Lib.hid ((Hr4.out).below hb5); have Hx := Lib.hid (Ho4.out.below hb5)
    go_wp2_with fail
    refine (eqrects_same _ _ n n n f _ Hm.out Hx.out.rs Ho5.out.rs).mono ?_; rintro e w6 ⟨rfl, hb6⟩; have hz6 := hb6.size; (try simp at hz6)
    go_wp2
    go_ret
    exact ⟨rfl, by (repeat (first | with_reducible exact Below.refl _ _ | with_reducible assumption | ((with_reducible refine Below.alloc ?_ ?_ _); rotate_left; focus (first | with_reducible exact Nat.le_refl _ | omega | (simp; done) | (simp; omega))) | ((with_reducible refine Below.setCell ?_ ?_ _); rotate_left; focus (first | with_reducible exact Nat.le_refl _ | omega | (simp; done) | (simp; omega))) | (with_reducible refine Below.drew ?_) | ((with_reducible refine Below.trans ?_ (Below.mono (by with_reducible assumption) ?_)); rotate_left; focus (first | with_reducible exact Nat.le_refl _ | omega | (simp; done) | (simp; omega)))))⟩
end Go.Proofs.Ytkfeeijiockdhaa
