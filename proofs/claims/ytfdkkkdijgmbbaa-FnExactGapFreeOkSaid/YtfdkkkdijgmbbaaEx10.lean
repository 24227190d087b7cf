/- The exact laws of chapter 7: their walks. -/
import Derived.Test.YtfdkkkdijgmbbaaSh
import Derived.Test.YtfdkkkdijgmbbaaFrame
namespace Go.Proofs.Ytfdkkkdijgmbbaa
open Go.RowKit Go.Sort Go.BigFrame
set_option linter.unusedVariables false
structure ISh7 : Prop where
  sh : ∀ (A : Option Addr) (n cap : Nat) (f : Nat → Rt) (w : World), n ≤ maxLen → Rs w A n f → Calls Try.prog 12 #[.slice A n cap] w fun e w' => e = .returned (.tuple #[.int .i64 (onU shX f n), .int .i64 (onU shY f n), .bool (laidF f n)]) ∧ Below w.heap.size w w'
structure IRc7 : Prop where
  rc : ∀ (A : Option Addr) (n cap : Nat) (f : Nat → Rt) (y : Int) (w : World), n ≤ maxLen → Rs w A n f → Calls Try.prog 19 #[.slice A n cap, .int .i64 y] w fun e w' => e = .returned (.int .i64 (rcF f n y)) ∧ Below w.heap.size w w'
structure IRn7 : Prop where
  rn : ∀ (A : Option Addr) (n cap : Nat) (f : Nat → Rt) (w : World), n ≤ maxLen → Rs w A n f → Calls Try.prog 22 #[.slice A n cap] w fun e w' => e = .returned (.tuple #[.int .i64 (onU runX f n), .int .i64 (onU runY f n), .bool (laidF f n)]) ∧ Below w.heap.size w w'
structure IGf7 : Prop where
  gf : ∀ (A : Option Addr) (n cap : Nat) (f : Nat → Rt) (w : World), n ≤ maxLen → Rs w A n f → Calls Try.prog 25 #[.slice A n cap] w fun e w' => e = .returned (.bool (gapF f n)) ∧ Below w.heap.size w w'
theorem ISh7.shv (I_sh : ISh7) (A : Option Addr) (n cap : Nat) (f : Nat → Rt) (a b : Int) (v : Bool) (h1 : onU shX f n = a) (h2 : onU shY f n = b) (h3 : laidF f n = v) (w : World) (hn : n ≤ maxLen) (hr : Rs w A n f) :
    Calls Try.prog 12 #[.slice A n cap] w fun e w' => e = .returned (.tuple #[.int .i64 a, .int .i64 b, .bool v]) ∧ Below w.heap.size w w' := by
  subst h1 h2 h3; exact I_sh.sh A n cap f w hn hr
theorem IRn7.rnv (I_rn : IRn7) (A : Option Addr) (n cap : Nat) (f : Nat → Rt) (a b : Int) (v : Bool) (h1 : onU runX f n = a) (h2 : onU runY f n = b) (h3 : laidF f n = v) (w : World) (hn : n ≤ maxLen) (hr : Rs w A n f) :
    Calls Try.prog 22 #[.slice A n cap] w fun e w' => e = .returned (.tuple #[.int .i64 a, .int .i64 b, .bool v]) ∧ Below w.heap.size w w' := by
  subst h1 h2 h3; exact I_rn.rn A n cap f w hn hr
theorem IRc7.rcv (I_rc : IRc7) (A : Option Addr) (n cap : Nat) (f : Nat → Rt) (y v : Int) (h : rcF f n y = v) (w : World) (hn : n ≤ maxLen) (hr : Rs w A n f) :
    Calls Try.prog 19 #[.slice A n cap, .int .i64 y] w fun e w' => e = .returned (.int .i64 v) ∧ Below w.heap.size w w' := h ▸ I_rc.rc A n cap f y w hn hr
theorem IGf7.gfv (I_gf : IGf7) (A : Option Addr) (n cap : Nat) (f : Nat → Rt) (v : Bool) (h : gapF f n = v) (w : World) (hn : n ≤ maxLen) (hr : Rs w A n f) :
    Calls Try.prog 25 #[.slice A n cap] w fun e w' => e = .returned (.bool v) ∧ Below w.heap.size w w' := h ▸ I_gf.gf A n cap f w hn hr

set_option maxHeartbeats 4000000 in
set_option maxRecDepth 100000 in
theorem walkExactShadowsOf (I_sh : ISh7) (A : Option Addr) (n cap : Nat) (f : Nat → Rt) (w : World) (hm : n ≤ maxLen) (hr : Rs w A n f) :
    Calls Try.prog 7 #[.slice A n cap] w fun e w' => e = .returned (.bool true) ∧ Below w.heap.size w w' := by
  have Hr := Lib.hid hr
  clear hr
  by_cases hl : 1048576 < n
  · go_enter Try.func7, Try.ntmps7
    go_wp2_with fail
    refine (sz_no _ _ _ _ hm (by omega)).mono ?_; rintro e w' ⟨rfl, rfl⟩
    go_wp2
    go_ret
    exact ⟨rfl, Below.refl _ _⟩
  · have Hm := Lib.hid hm
    clear hm
    obtain ⟨a, HA⟩ : ∃ a, Hid (onU shX f n = a) := ⟨_, Lib.hid rfl⟩
    obtain ⟨b, HB⟩ : ∃ b, Hid (onU shY f n = b) := ⟨_, Lib.hid rfl⟩
    obtain ⟨v, HL⟩ : ∃ v, Hid (laidF f n = v) := ⟨_, Lib.hid rfl⟩
    go_enter Try.func7, Try.ntmps7
    go_wp2_with fail
    refine (sz_yes _ _ _ _ (by omega)).mono ?_; rintro e w' ⟨rfl, rfl⟩
    go_wp2_with fail
    refine (torects_any A n cap f _ (by omega) (Hr.out)).mono ?_; rintro e w1 ⟨rfl, ho1, hb1⟩; have hz1 := hb1.size; (try simp at hz1); (try simp only [World.size_alloc] at ho1); have Ho1 := Lib.hid ho1; clear ho1; have Hr1 := Lib.hid ((Hr.out).below hb1)
    go_wp2_with fail
    refine (ssh_val _ n n f a b v HA.out HB.out HL.out _ Hm.out Ho1.out.rs).mono ?_; rintro e w2 ⟨rfl, hb2⟩; have hz2 := hb2.size; (try simp at hz2); have Hr2 := Lib.hid (Hr1.out.below hb2)
    go_wp2_with fail
    refine (torects_any A n cap f _ (by omega) (Hr2.out)).mono ?_; rintro e w3 ⟨rfl, ho3, hb3⟩; have hz3 := hb3.size; (try simp at hz3); (try simp only [World.size_alloc] at ho3); have Ho3 := Lib.hid ho3; clear ho3; have Hr3 := Lib.hid ((Hr2.out).below hb3)
    go_wp2_with fail
    refine (I_sh.shv _ n n f a b v HA.out HB.out HL.out _ Hm.out Ho3.out.rs).mono ?_; rintro e w4 ⟨rfl, hb4⟩; have hz4 := hb4.size; (try simp at hz4); have Hr4 := Lib.hid (Hr3.out.below hb4); have Ho4 := Lib.hid (Ho3.out.below hb4)
    go_wp2_with fail
    refine (torects_any A n cap f _ (by omega) (Hr4.out)).mono ?_; rintro e w5 ⟨rfl, ho5, hb5⟩; have hz5 := hb5.size; (try simp at hz5); (try simp only [World.size_alloc] at ho5); have Ho5 := Lib.hid ho5; clear ho5; have Hr5 := Lib.hid ((Hr4.out).below hb5); have Hx := Lib.hid (Ho4.out.below hb5)
    go_wp2_with fail
    refine (eqrects_same _ _ n n n f _ Hm.out Hx.out.rs Ho5.out.rs).mono ?_; rintro e w6 ⟨rfl, hb6⟩; have hz6 := hb6.size; (try simp at hz6)
    go_wp2
    go_ret
    exact ⟨rfl, by (repeat (first | with_reducible exact Below.refl _ _ | with_reducible assumption | ((with_reducible refine Below.alloc ?_ ?_ _); rotate_left; focus (first | with_reducible exact Nat.le_refl _ | omega | (simp; done) | (simp; omega))) | ((with_reducible refine Below.setCell ?_ ?_ _); rotate_left; focus (first | with_reducible exact Nat.le_refl _ | omega | (simp; done) | (simp; omega))) | (with_reducible refine Below.drew ?_) | ((with_reducible refine Below.trans ?_ (Below.mono (by with_reducible assumption) ?_)); rotate_left; focus (first | with_reducible exact Nat.le_refl _ | omega | (simp; done) | (simp; omega)))))⟩

set_option maxHeartbeats 4000000 in
set_option maxRecDepth 100000 in
theorem walkExactRunsOf (I_rn : IRn7) (A : Option Addr) (n cap : Nat) (f : Nat → Rt) (w : World) (hm : n ≤ maxLen) (hr : Rs w A n f) :
    Calls Try.prog 9 #[.slice A n cap] w fun e w' => e = .returned (.bool true) ∧ Below w.heap.size w w' := by
  have Hr := Lib.hid hr
  clear hr
  by_cases hl : 1048576 < n
  · go_enter Try.func9, Try.ntmps9
    go_wp2_with fail
    refine (sz_no _ _ _ _ hm (by omega)).mono ?_; rintro e w' ⟨rfl, rfl⟩
    go_wp2
    go_ret
    exact ⟨rfl, Below.refl _ _⟩
  · have Hm := Lib.hid hm
    clear hm
    obtain ⟨a, HA⟩ : ∃ a, Hid (onU runX f n = a) := ⟨_, Lib.hid rfl⟩
    obtain ⟨b, HB⟩ : ∃ b, Hid (onU runY f n = b) := ⟨_, Lib.hid rfl⟩
    obtain ⟨v, HL⟩ : ∃ v, Hid (laidF f n = v) := ⟨_, Lib.hid rfl⟩
    go_enter Try.func9, Try.ntmps9
    go_wp2_with fail
    refine (sz_yes _ _ _ _ (by omega)).mono ?_; rintro e w' ⟨rfl, rfl⟩
    go_wp2_with fail
    refine (torects_any A n cap f _ (by omega) (Hr.out)).mono ?_; rintro e w1 ⟨rfl, ho1, hb1⟩; have hz1 := hb1.size; (try simp at hz1); (try simp only [World.size_alloc] at ho1); have Ho1 := Lib.hid ho1; clear ho1; have Hr1 := Lib.hid ((Hr.out).below hb1)
    go_wp2_with fail
    refine (srn_val _ n n f a b v HA.out HB.out HL.out _ Hm.out Ho1.out.rs).mono ?_; rintro e w2 ⟨rfl, hb2⟩; have hz2 := hb2.size; (try simp at hz2); have Hr2 := Lib.hid (Hr1.out.below hb2)
    go_wp2_with fail
    refine (torects_any A n cap f _ (by omega) (Hr2.out)).mono ?_; rintro e w3 ⟨rfl, ho3, hb3⟩; have hz3 := hb3.size; (try simp at hz3); (try simp only [World.size_alloc] at ho3); have Ho3 := Lib.hid ho3; clear ho3; have Hr3 := Lib.hid ((Hr2.out).below hb3)
    go_wp2_with fail
    refine (I_rn.rnv _ n n f a b v HA.out HB.out HL.out _ Hm.out Ho3.out.rs).mono ?_; rintro e w4 ⟨rfl, hb4⟩; have hz4 := hb4.size; (try simp at hz4); have Hr4 := Lib.hid (Hr3.out.below hb4); have Ho4 := Lib.hid (Ho3.out.below hb4)
    go_wp2_with fail
    refine (torects_any A n cap f _ (by omega) (Hr4.out)).mono ?_; rintro e w5 ⟨rfl, ho5, hb5⟩; have hz5 := hb5.size; (try simp at hz5); (try simp only [World.size_alloc] at ho5); have Ho5 := Lib.hid ho5; clear ho5; have Hr5 := Lib.hid ((Hr4.out).below hb5); have Hx := Lib.hid (Ho4.out.below hb5)
    go_wp2_with fail
    refine (eqrects_same _ _ n n n f _ Hm.out Hx.out.rs Ho5.out.rs).mono ?_; rintro e w6 ⟨rfl, hb6⟩; have hz6 := hb6.size; (try simp at hz6)
    go_wp2
    go_ret
    exact ⟨rfl, by (repeat (first | with_reducible exact Below.refl _ _ | with_reducible assumption | ((with_reducible refine Below.alloc ?_ ?_ _); rotate_left; focus (first | with_reducible exact Nat.le_refl _ | omega | (simp; done) | (simp; omega))) | ((with_reducible refine Below.setCell ?_ ?_ _); rotate_left; focus (first | with_reducible exact Nat.le_refl _ | omega | (simp; done) | (simp; omega))) | (with_reducible refine Below.drew ?_) | ((with_reducible refine Below.trans ?_ (Below.mono (by with_reducible assumption) ?_)); rotate_left; focus (first | with_reducible exact Nat.le_refl _ | omega | (simp; done) | (simp; omega)))))⟩

set_option maxHeartbeats 4000000 in
set_option maxRecDepth 100000 in
theorem walkExactRowCount (I_rc : IRc7) (A : Option Addr) (n cap : Nat) (f : Nat → Rt) (y : Int) (w : World) (hm : n ≤ maxLen) (hr : Rs w A n f) :
    Calls Try.prog 8 #[.slice A n cap, .int .i64 y] w fun e w' => e = .returned (.bool true) ∧ Below w.heap.size w w' := by
  have Hr := Lib.hid hr
  clear hr
  by_cases hl : 1048576 < n
  · go_enter Try.func8, Try.ntmps8
    go_wp2_with fail
    refine (sz_no _ _ _ _ hm (by omega)).mono ?_; rintro e w' ⟨rfl, rfl⟩
    go_wp2
    go_ret
    exact ⟨rfl, Below.refl _ _⟩
  · have Hm := Lib.hid hm
    clear hm
    obtain ⟨v, HV⟩ : ∃ v, Hid (rcF f n y = v) := ⟨_, Lib.hid rfl⟩
    go_enter Try.func8, Try.ntmps8
    go_wp2_with fail
    refine (sz_yes _ _ _ _ (by omega)).mono ?_; rintro e w' ⟨rfl, rfl⟩
    go_wp2_with fail
    refine (torects_any A n cap f _ (by omega) (Hr.out)).mono ?_; rintro e w1 ⟨rfl, ho1, hb1⟩; have hz1 := hb1.size; (try simp at hz1); (try simp only [World.size_alloc] at ho1); have Ho1 := Lib.hid ho1; clear ho1; have Hr1 := Lib.hid ((Hr.out).below hb1)
    go_wp2_with fail
    refine (src_val _ n n f y v HV.out _ Hm.out Ho1.out.rs).mono ?_; rintro e w2 ⟨rfl, hb2⟩; have hz2 := hb2.size; (try simp at hz2); have Hr2 := Lib.hid (Hr1.out.below hb2)
    go_wp2_with fail
    refine (torects_any A n cap f _ (by omega) (Hr2.out)).mono ?_; rintro e w3 ⟨rfl, ho3, hb3⟩; have hz3 := hb3.size; (try simp at hz3); (try simp only [World.size_alloc] at ho3); have Ho3 := Lib.hid ho3; clear ho3; have Hr3 := Lib.hid ((Hr2.out).below hb3)
    go_wp2_with fail
    refine (I_rc.rcv _ n n f y v HV.out _ Hm.out Ho3.out.rs).mono ?_; rintro e w4 ⟨rfl, hb4⟩; have hz4 := hb4.size; (try simp at hz4); have Hr4 := Lib.hid (Hr3.out.below hb4); have Ho4 := Lib.hid (Ho3.out.below hb4)
    go_wp2_with fail
    refine (torects_any A n cap f _ (by omega) (Hr4.out)).mono ?_; rintro e w5 ⟨rfl, ho5, hb5⟩; have hz5 := hb5.size; (try simp at hz5); (try simp only [World.size_alloc] at ho5); have Ho5 := Lib.hid ho5; clear ho5; have Hr5 := Lib.hid ((Hr4.out).below hb5); have Hx := Lib.hid (Ho4.out.below hb5)
    go_wp2_with fail
    refine (eqrects_same _ _ n n n f _ Hm.out Hx.out.rs Ho5.out.rs).mono ?_; rintro e w6 ⟨rfl, hb6⟩; have hz6 := hb6.size; (try simp at hz6)
    go_wp2
    go_ret
    exact ⟨rfl, by (repeat (first | with_reducible exact Below.refl _ _ | with_reducible assumption | ((with_reducible refine Below.alloc ?_ ?_ _); rotate_left; focus (first | with_reducible exact Nat.le_refl _ | omega | (simp; done) | (simp; omega))) | ((with_reducible refine Below.setCell ?_ ?_ _); rotate_left; focus (first | with_reducible exact Nat.le_refl _ | omega | (simp; done) | (simp; omega))) | (with_reducible refine Below.drew ?_) | ((with_reducible refine Below.trans ?_ (Below.mono (by with_reducible assumption) ?_)); rotate_left; focus (first | with_reducible exact Nat.le_refl _ | omega | (simp; done) | (simp; omega)))))⟩

set_option maxHeartbeats 4000000 in
set_option maxRecDepth 100000 in
theorem walkExactGapFreeOk (I_gf : IGf7) (A : Option Addr) (n cap : Nat) (f : Nat → Rt) (w : World) (hm : n ≤ maxLen) (hr : Rs w A n f) :
    Calls Try.prog 10 #[.slice A n cap] w fun e w' => e = .returned (.bool true) ∧ Below w.heap.size w w' := by
  have Hr := Lib.hid hr
  clear hr
  by_cases hl : 1048576 < n
  · go_enter Try.func10, Try.ntmps10
    go_wp2_with fail
    refine (sz_no _ _ _ _ hm (by omega)).mono ?_; rintro e w' ⟨rfl, rfl⟩
    go_wp2
    go_ret
    exact ⟨rfl, Below.refl _ _⟩
  · have Hm := Lib.hid hm
    clear hm
    obtain ⟨v, HV⟩ : ∃ v, Hid (gapF f n = v) := ⟨_, Lib.hid rfl⟩
    go_enter Try.func10, Try.ntmps10
    go_wp2_with fail
    refine (sz_yes _ _ _ _ (by omega)).mono ?_; rintro e w' ⟨rfl, rfl⟩
    go_wp2_with fail
    refine (torects_any A n cap f _ (by omega) (Hr.out)).mono ?_; rintro e w1 ⟨rfl, ho1, hb1⟩; have hz1 := hb1.size; (try simp at hz1); (try simp only [World.size_alloc] at ho1); have Ho1 := Lib.hid ho1; clear ho1; have Hr1 := Lib.hid ((Hr.out).below hb1)
    go_wp2_with fail
    refine (sgf_val _ n n f v HV.out _ Hm.out Ho1.out.rs).mono ?_; rintro e w2 ⟨rfl, hb2⟩; have hz2 := hb2.size; (try simp at hz2); have Hr2 := Lib.hid (Hr1.out.below hb2)
    go_wp2_with fail
    refine (torects_any A n cap f _ (by omega) (Hr2.out)).mono ?_; rintro e w3 ⟨rfl, ho3, hb3⟩; have hz3 := hb3.size; (try simp at hz3); (try simp only [World.size_alloc] at ho3); have Ho3 := Lib.hid ho3; clear ho3; have Hr3 := Lib.hid ((Hr2.out).below hb3)
    go_wp2_with fail
    refine (I_gf.gfv _ n n f v HV.out _ Hm.out Ho3.out.rs).mono ?_; rintro e w4 ⟨rfl, hb4⟩; have hz4 := hb4.size; (try simp at hz4); have Hr4 := Lib.hid (Hr3.out.below hb4); have Ho4 := Lib.hid (Ho3.out.below hb4)
    go_wp2_with fail
    refine (torects_any A n cap f _ (by omega) (Hr4.out)).mono ?_; rintro e w5 ⟨rfl, ho5, hb5⟩; have hz5 := hb5.size; (try simp at hz5); (try simp only [World.size_alloc] at ho5); have Ho5 := Lib.hid ho5; clear ho5; have Hr5 := Lib.hid ((Hr4.out).below hb5); have Hx := Lib.hid (Ho4.out.below hb5)
    go_wp2_with fail
    refine (eqrects_same _ _ n n n f _ Hm.out Hx.out.rs Ho5.out.rs).mono ?_; rintro e w6 ⟨rfl, hb6⟩; have hz6 := hb6.size; (try simp at hz6)
    go_wp2
    go_ret
    exact ⟨rfl, by (repeat (first | with_reducible exact Below.refl _ _ | with_reducible assumption | ((with_reducible refine Below.alloc ?_ ?_ _); rotate_left; focus (first | with_reducible exact Nat.le_refl _ | omega | (simp; done) | (simp; omega))) | ((with_reducible refine Below.setCell ?_ ?_ _); rotate_left; focus (first | with_reducible exact Nat.le_refl _ | omega | (simp; done) | (simp; omega))) | (with_reducible refine Below.drew ?_) | ((with_reducible refine Below.trans ?_ (Below.mono (by with_reducible assumption) ?_)); rotate_left; focus (first | with_reducible exact Nat.le_refl _ | omega | (simp; done) | (simp; omega)))))⟩

def RectsInt7 (w : World) (e : Ending) (w' : World) : Prop :=
  ∃ (A : Option Addr) (n cap g : Nat) (f : Nat → Rt) (x : Int), e = .returned (.tuple #[.slice A n cap, .int .i64 x]) ∧ n ≤ 8 ∧ (-100 ≤ x ∧ x ≤ 100) ∧ Ow w' A n f g ∧ w.heap.size ≤ g ∧ Hd A n cap ∧ Below w.heap.size w w'
set_option maxHeartbeats 1000000 in
set_option maxRecDepth 20000 in
theorem dRowCount (a : Option Addr) (len cap : Nat) (w : World) (hc : Came w a len cap) :
    Calls Try.prog 18 #[.slice a len cap] w (RectsInt7 w) := by
  go_enter Try.func18, Try.ntmps18
  go_wp2_with fail
  refine (open_any _ _ _ _ (hc)).mono ?_; rintro e w1 hp; obtain ⟨rfl, hb1, hr1⟩ := hp; have hz1 := hb1.size; (try simp at hz1); have hB := hr1.lt; skip
  go_wp2_with fail
  refine (frame_any (w.heap.size) 0 _ _ hr1 (by omega) (by omega)).mono ?_; rintro e w2 ⟨A, m, cap, g, f, rfl, hm, ho2, hg2, hh2, hs2, hr2⟩
  have HB2 := Lib.hid (Sole.below hb1 hs2 (Nat.le_refl _))
  have HO2 := Lib.hid ho2
  have HH2 := Lib.hid hh2
  have HR2 := Lib.hid hr2
  have hgs : w.heap.size < g := by have := hb1.size; have := hs2.size; omega
  clear ho2 hh2 hr2 hs2
  go_wp2_with fail
  refine (pick_any (w.heap.size) (200) _ _ (HR2.out) (by omega) (by omega)).mono ?_; rintro e w3 hp; obtain ⟨v3, rfl, p3, q3, _, hs3, hr3⟩ := hp; have hz3 := hs3.size; (try simp at hz3)
  have HB3 := Lib.hid (Sole.below HB2.out hs3 (Nat.le_refl _))
  have HO3 := Lib.hid (HO2.out.sole hs3 (by omega))
  have HR3 := Lib.hid hr3
  have q3' := q3 (by omega)
  clear hs3 hr3 q3
  go_wp2_with fail
  refine (pick_any (w.heap.size) (201) _ _ (HR3.out) (by omega) (by omega)).mono ?_; rintro e w4 hp; obtain ⟨v4, rfl, p4, q4, _, hs4, hr4⟩ := hp; have hz4 := hs4.size; (try simp at hz4)
  have HB4 := Lib.hid (Sole.below HB3.out hs4 (Nat.le_refl _))
  have HO4 := Lib.hid (HO3.out.sole hs4 (by omega))
  have HR4 := Lib.hid hr4
  have q4' := q4 (by omega)
  clear hs4 hr4 q4
  go_wp2_with fail
  refine (pick_any (w.heap.size) (202) _ _ (HR4.out) (by omega) (by omega)).mono ?_; rintro e w5 hp; obtain ⟨v5, rfl, p5, q5, _, hs5, hr5⟩ := hp; have hz5 := hs5.size; (try simp at hz5)
  have HB5 := Lib.hid (Sole.below HB4.out hs5 (Nat.le_refl _))
  have HO5 := Lib.hid (HO4.out.sole hs5 (by omega))
  have HR5 := Lib.hid hr5
  have q5' := q5 (by omega)
  clear hs5 hr5 q5
  go_wp2
  refine bodyPost_ret (v := .tuple #[.slice A m cap, .int .i64 (v3 + v4 / 19 * 9 - v5 / 29 * 12)]) (by simp (maxDischargeDepth := 8) [results, Try.results18, go_sem, *]) rfl ?_
  exact ⟨A, m, _, g, f, _, rfl, hm, by omega, HO5.out, by omega, HH2.out, HB5.out⟩
end Go.Proofs.Ytfdkkkdijgmbbaa
