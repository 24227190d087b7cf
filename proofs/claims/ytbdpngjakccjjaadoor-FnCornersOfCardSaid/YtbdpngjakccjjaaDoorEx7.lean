
/- The exact laws of chapter 4: their walks. -/
import Derived.Test.YtbdpngjakccjjaaDoorPieces
import Derived.Test.YtbdpngjakccjjaaDoorVt
namespace Go.Proofs.YtbdpngjakccjjaaDoor
open Go.RowKit Go.Sort
set_option linter.unusedVariables false
-- What chapter 4 of impl answers.
structure IOl4 : Prop where
  ol : ∀ (A : Option Addr) (n cap : Nat) (f : Nat → Rt) (w : World), n ≤ maxLen → Rs w A n f → Calls Tryd.prog 14 #[.slice A n cap] w fun e w' => e = .returned (.int .i64 (olF f n)) ∧ Below w.heap.size w w'
structure ICo4 : Prop where
  co : ∀ (A : Option Addr) (n cap : Nat) (f : Nat → Rt) (w : World), n ≤ maxLen → Rs w A n f → Calls Tryd.prog 9 #[.slice A n cap] w fun e w' => e = .returned (.tuple #[.int .i64 (coF f n), .int .i64 (ciF f n), .bool (laidF f n)]) ∧ Below w.heap.size w w'
structure IPc4 : Prop where
  pc : ∀ (A : Option Addr) (n cap : Nat) (f : Nat → Rt) (w : World), n ≤ maxLen → Rs w A n f → Vt w → Calls Tryd.prog 12 #[.slice A n cap] w fun e w' => e = .returned (.int .i64 (pcF f n)) ∧ Below w.heap.size w w'
structure IHo4 : Prop where
  ho : ∀ (A : Option Addr) (n cap : Nat) (f : Nat → Rt) (w : World), n ≤ maxLen → Rs w A n f → Vt w → Calls Tryd.prog 13 #[.slice A n cap] w fun e w' => e = .returned (.int .i64 (hoF f n)) ∧ Below w.heap.size w w'

theorem IOl4.olv (I : IOl4) (A : Option Addr) (n cap : Nat) (f : Nat → Rt) (v : Int) (h : olF f n = v) (w : World) (hn : n ≤ maxLen) (hr : Rs w A n f) :
    Calls Tryd.prog 14 #[.slice A n cap] w fun e w' => e = .returned (.int .i64 v) ∧ Below w.heap.size w w' := h ▸ I.ol A n cap f w hn hr
theorem IPc4.pcv (I : IPc4) (A : Option Addr) (n cap : Nat) (f : Nat → Rt) (v : Int) (h : pcF f n = v) (w : World) (hn : n ≤ maxLen) (hr : Rs w A n f) (hv : Vt w) :
    Calls Tryd.prog 12 #[.slice A n cap] w fun e w' => e = .returned (.int .i64 v) ∧ Below w.heap.size w w' := h ▸ I.pc A n cap f w hn hr hv
theorem spc_val (A : Option Addr) (n cap : Nat) (f : Nat → Rt) (v : Int) (h : pcF f n = v) (w : World) (hn : n ≤ maxLen) (hr : Rs w A n f) :
    Calls Tryd.prog 16 #[.slice A n cap] w fun e w' => e = .returned (.int .i64 v) ∧ Below w.heap.size w w' := h ▸ spc_any A n cap f w hn hr

theorem IHo4.hov (I : IHo4) (A : Option Addr) (n cap : Nat) (f : Nat → Rt) (v : Int) (h : hoF f n = v) (w : World) (hn : n ≤ maxLen) (hr : Rs w A n f) (hv : Vt w) :
    Calls Tryd.prog 13 #[.slice A n cap] w fun e w' => e = .returned (.int .i64 v) ∧ Below w.heap.size w w' := h ▸ I.ho A n cap f w hn hr hv
theorem sho_val (A : Option Addr) (n cap : Nat) (f : Nat → Rt) (v : Int) (h : hoF f n = v) (w : World) (hn : n ≤ maxLen) (hr : Rs w A n f) :
    Calls Tryd.prog 19 #[.slice A n cap] w fun e w' => e = .returned (.int .i64 v) ∧ Below w.heap.size w w' := h ▸ sho_any A n cap f w hn hr

theorem ICo4.cov (I : ICo4) (A : Option Addr) (n cap : Nat) (f : Nat → Rt) (a b : Int) (v : Bool) (h1 : coF f n = a) (h2 : ciF f n = b) (h3 : laidF f n = v) (w : World) (hn : n ≤ maxLen) (hr : Rs w A n f) :
    Calls Tryd.prog 9 #[.slice A n cap] w fun e w' => e = .returned (.tuple #[.int .i64 a, .int .i64 b, .bool v]) ∧ Below w.heap.size w w' := by
  subst h1 h2 h3; exact I.co A n cap f w hn hr

theorem sco_val (A : Option Addr) (n cap : Nat) (f : Nat → Rt) (a b : Int) (v : Bool) (h1 : coF f n = a) (h2 : ciF f n = b) (h3 : laidF f n = v) (w : World) (hn : n ≤ maxLen) (hr : Rs w A n f) :
    Calls Tryd.prog 10 #[.slice A n cap] w fun e w' => e = .returned (.tuple #[.int .i64 a, .int .i64 b, .bool v]) ∧ Below w.heap.size w w' := by
  subst h1 h2 h3; exact sco_any A n cap f w hn hr

set_option maxHeartbeats 4000000 in
set_option maxRecDepth 100000 in
theorem walkExactPiecesOf (I : IPc4) (A : Option Addr) (n cap : Nat) (f : Nat → Rt) (w : World) (hm : n ≤ maxLen) (hr : Rs w A n f) (hv : Vt w) :
    Calls Tryd.prog 6 #[.slice A n cap] w fun e w' => e = .returned (.bool true) ∧ Below w.heap.size w w' := by
  have Hr := Lib.hid hr
  clear hr
  have Hv := Lib.hid hv
  clear hv
  by_cases hl : 1048576 < n
  · go_enter Tryd.func6, Tryd.ntmps6
    go_wp2_with fail
    refine (sz_no _ _ _ _ hm (by omega)).mono ?_; rintro e w' ⟨rfl, rfl⟩
    go_wp2
    go_ret
    exact ⟨rfl, Below.refl _ _⟩
  · have Hm := Lib.hid hm
    clear hm
    obtain ⟨v, HV⟩ : ∃ v, Hid (pcF f n = v) := ⟨_, Lib.hid rfl⟩
    go_enter Tryd.func6, Tryd.ntmps6
    go_wp2_with fail
    refine (sz_yes _ _ _ _ (by omega)).mono ?_; rintro e w' ⟨rfl, rfl⟩
    go_wp2_with fail
    refine (torects_any A n cap f _ (by omega) (Hr.out)).mono ?_; rintro e w1 ⟨rfl, ho1, hb1⟩; have hz1 := hb1.size; (try simp at hz1); (try simp only [World.size_alloc] at ho1); have Ho1 := Lib.hid ho1; clear ho1; have Hr1 := Lib.hid ((Hr.out).below hb1)
    go_wp2_with fail
    refine (spc_val _ n n f v HV.out _ Hm.out Ho1.out.rs).mono ?_; rintro e w2 ⟨rfl, hb2⟩; have hz2 := hb2.size; (try simp at hz2); have Hr2 := Lib.hid (Hr1.out.below hb2)
    go_wp2_with fail
    refine (torects_any A n cap f _ (by omega) (Hr2.out)).mono ?_; rintro e w3 ⟨rfl, ho3, hb3⟩; have hz3 := hb3.size; (try simp at hz3); (try simp only [World.size_alloc] at ho3); have Ho3 := Lib.hid ho3; clear ho3; have Hr3 := Lib.hid ((Hr2.out).below hb3)
    go_wp2_with fail
    refine (I.pcv _ n n f v HV.out _ Hm.out Ho3.out.rs (Hv.out.below (by (repeat (first | with_reducible exact Below.refl _ _ | with_reducible assumption | ((with_reducible refine Below.alloc ?_ ?_ _); rotate_left; focus (first | with_reducible exact Nat.le_refl _ | omega | (simp; done) | (simp; omega))) | ((with_reducible refine Below.setCell ?_ ?_ _); rotate_left; focus (first | with_reducible exact Nat.le_refl _ | omega | (simp; done) | (simp; omega))) | (with_reducible refine Below.drew ?_) | ((with_reducible refine Below.trans ?_ (Below.mono (by with_reducible assumption) ?_)); rotate_left; focus (first | with_reducible exact Nat.le_refl _ | omega | (simp; done) | (simp; omega)))))))).mono ?_; rintro e w4 ⟨rfl, hb4⟩; have hz4 := hb4.size; (try simp at hz4); have Hr4 := Lib.hid (Hr3.out.below hb4); have Ho4 := Lib.hid (Ho3.out.below hb4)
    go_wp2_with fail
    refine (torects_any A n cap f _ (by omega) (Hr4.out)).mono ?_; rintro e w5 ⟨rfl, ho5, hb5⟩; have hz5 := hb5.size; (try simp at hz5); (try simp only [World.size_alloc] at ho5); have Ho5 := Lib.hid ho5; clear ho5; have Hr5 := Lib.hid ((Hr4.out).below hb5); have Hx := Lib.hid (Ho4.out.below hb5)
    go_wp2_with fail
    refine (eqrects_same _ _ n n n f _ Hm.out Hx.out.rs Ho5.out.rs).mono ?_; rintro e w6 ⟨rfl, hb6⟩; have hz6 := hb6.size; (try simp at hz6)
    go_wp2
    go_ret
    exact ⟨rfl, by (repeat (first | with_reducible exact Below.refl _ _ | with_reducible assumption | ((with_reducible refine Below.alloc ?_ ?_ _); rotate_left; focus (first | with_reducible exact Nat.le_refl _ | omega | (simp; done) | (simp; omega))) | ((with_reducible refine Below.setCell ?_ ?_ _); rotate_left; focus (first | with_reducible exact Nat.le_refl _ | omega | (simp; done) | (simp; omega))) | (with_reducible refine Below.drew ?_) | ((with_reducible refine Below.trans ?_ (Below.mono (by with_reducible assumption) ?_)); rotate_left; focus (first | with_reducible exact Nat.le_refl _ | omega | (simp; done) | (simp; omega)))))⟩

set_option maxHeartbeats 4000000 in
set_option maxRecDepth 100000 in
theorem walkExactHolesOf (I : IHo4) (A : Option Addr) (n cap : Nat) (f : Nat → Rt) (w : World) (hm : n ≤ maxLen) (hr : Rs w A n f) (hv : Vt w) :
    Calls Tryd.prog 7 #[.slice A n cap] w fun e w' => e = .returned (.bool true) ∧ Below w.heap.size w w' := by
  have Hr := Lib.hid hr
  clear hr
  have Hv := Lib.hid hv
  clear hv
  by_cases hl : 1048576 < n
  · go_enter Tryd.func7, Tryd.ntmps7
    go_wp2_with fail
    refine (sz_no _ _ _ _ hm (by omega)).mono ?_; rintro e w' ⟨rfl, rfl⟩
    go_wp2
    go_ret
    exact ⟨rfl, Below.refl _ _⟩
  · have Hm := Lib.hid hm
    clear hm
    obtain ⟨v, HV⟩ : ∃ v, Hid (hoF f n = v) := ⟨_, Lib.hid rfl⟩
    go_enter Tryd.func7, Tryd.ntmps7
    go_wp2_with fail
    refine (sz_yes _ _ _ _ (by omega)).mono ?_; rintro e w' ⟨rfl, rfl⟩
    go_wp2_with fail
    refine (torects_any A n cap f _ (by omega) (Hr.out)).mono ?_; rintro e w1 ⟨rfl, ho1, hb1⟩; have hz1 := hb1.size; (try simp at hz1); (try simp only [World.size_alloc] at ho1); have Ho1 := Lib.hid ho1; clear ho1; have Hr1 := Lib.hid ((Hr.out).below hb1)
    go_wp2_with fail
    refine (sho_val _ n n f v HV.out _ Hm.out Ho1.out.rs).mono ?_; rintro e w2 ⟨rfl, hb2⟩; have hz2 := hb2.size; (try simp at hz2); have Hr2 := Lib.hid (Hr1.out.below hb2)
    go_wp2_with fail
    refine (torects_any A n cap f _ (by omega) (Hr2.out)).mono ?_; rintro e w3 ⟨rfl, ho3, hb3⟩; have hz3 := hb3.size; (try simp at hz3); (try simp only [World.size_alloc] at ho3); have Ho3 := Lib.hid ho3; clear ho3; have Hr3 := Lib.hid ((Hr2.out).below hb3)
    go_wp2_with fail
    refine (I.hov _ n n f v HV.out _ Hm.out Ho3.out.rs (Hv.out.below (by (repeat (first | with_reducible exact Below.refl _ _ | with_reducible assumption | ((with_reducible refine Below.alloc ?_ ?_ _); rotate_left; focus (first | with_reducible exact Nat.le_refl _ | omega | (simp; done) | (simp; omega))) | ((with_reducible refine Below.setCell ?_ ?_ _); rotate_left; focus (first | with_reducible exact Nat.le_refl _ | omega | (simp; done) | (simp; omega))) | (with_reducible refine Below.drew ?_) | ((with_reducible refine Below.trans ?_ (Below.mono (by with_reducible assumption) ?_)); rotate_left; focus (first | with_reducible exact Nat.le_refl _ | omega | (simp; done) | (simp; omega)))))))).mono ?_; rintro e w4 ⟨rfl, hb4⟩; have hz4 := hb4.size; (try simp at hz4); have Hr4 := Lib.hid (Hr3.out.below hb4); have Ho4 := Lib.hid (Ho3.out.below hb4)
    go_wp2_with fail
    refine (torects_any A n cap f _ (by omega) (Hr4.out)).mono ?_; rintro e w5 ⟨rfl, ho5, hb5⟩; have hz5 := hb5.size; (try simp at hz5); (try simp only [World.size_alloc] at ho5); have Ho5 := Lib.hid ho5; clear ho5; have Hr5 := Lib.hid ((Hr4.out).below hb5); have Hx := Lib.hid (Ho4.out.below hb5)
    go_wp2_with fail
    refine (eqrects_same _ _ n n n f _ Hm.out Hx.out.rs Ho5.out.rs).mono ?_; rintro e w6 ⟨rfl, hb6⟩; have hz6 := hb6.size; (try simp at hz6)
    go_wp2
    go_ret
    exact ⟨rfl, by (repeat (first | with_reducible exact Below.refl _ _ | with_reducible assumption | ((with_reducible refine Below.alloc ?_ ?_ _); rotate_left; focus (first | with_reducible exact Nat.le_refl _ | omega | (simp; done) | (simp; omega))) | ((with_reducible refine Below.setCell ?_ ?_ _); rotate_left; focus (first | with_reducible exact Nat.le_refl _ | omega | (simp; done) | (simp; omega))) | (with_reducible refine Below.drew ?_) | ((with_reducible refine Below.trans ?_ (Below.mono (by with_reducible assumption) ?_)); rotate_left; focus (first | with_reducible exact Nat.le_refl _ | omega | (simp; done) | (simp; omega)))))⟩

end Go.Proofs.YtbdpngjakccjjaaDoor
