/- The exact laws of chapter 6: their walks. -/
import Derived.Test.YtkfeeijiockdhaaMee
import Derived.Test.YtkfeeijiockdhaaEx6
namespace Go.Proofs.Ytkfeeijiockdhaa
open Go.RowKit Go.Sort
set_option linter.unusedVariables false
structure IMs6 : Prop where
  ms : ∀ (A : Option Addr) (n cap : Nat) (f : Nat → Rt) (w : World), n ≤ maxLen → Rs w A n f → Calls Try.prog 22 #[.slice A n cap] w (IntsPost (cntF (laidF f n) n) (fun k => ((dgF f n k : Nat) : Int)) w)
structure IMo6 : Prop where
  mo : ∀ (A : Option Addr) (n cap : Nat) (f : Nat → Rt) (w : World), n ≤ maxLen → Rs w A n f → Calls Try.prog 27 #[.slice A n cap] w fun e w' => e = .returned (.int .i64 (moF f n)) ∧ Below w.heap.size w w'
structure ICl6 : Prop where
  cl : ∀ (A : Option Addr) (n cap : Nat) (f : Nat → Rt) (w : World), n ≤ maxLen → Rs w A n f → Calls Try.prog 32 #[.slice A n cap] w fun e w' => e = .returned (.int .i64 (clF f n)) ∧ Below w.heap.size w w'
structure IPb6 : Prop where
  pb : ∀ (A : Option Addr) (n cap : Nat) (f : Nat → Rt) (w : World), n ≤ maxLen → Rs w A n f → Calls Try.prog 35 #[.slice A n cap] w (IntsPost (cntF (laidF f n) n) (fun k => ((gcN f k : Nat) : Int)) w)
theorem IMo6.mov (I_mo : IMo6) (A : Option Addr) (n cap : Nat) (f : Nat → Rt) (v : Int) (h : moF f n = v) (w : World) (hn : n ≤ maxLen) (hr : Rs w A n f) :
    Calls Try.prog 27 #[.slice A n cap] w fun e w' => e = .returned (.int .i64 v) ∧ Below w.heap.size w w' := h ▸ I_mo.mo A n cap f w hn hr
theorem ICl6.clv (I_cl : ICl6) (A : Option Addr) (n cap : Nat) (f : Nat → Rt) (v : Int) (h : clF f n = v) (w : World) (hn : n ≤ maxLen) (hr : Rs w A n f) :
    Calls Try.prog 32 #[.slice A n cap] w fun e w' => e = .returned (.int .i64 v) ∧ Below w.heap.size w w' := h ▸ I_cl.cl A n cap f w hn hr
theorem IMs6.msv (I_ms : IMs6) (A : Option Addr) (n cap : Nat) (f : Nat → Rt) (M : Nat) (h : cntF (laidF f n) n = M) (w : World) (hn : n ≤ maxLen) (hr : Rs w A n f) :
    Calls Try.prog 22 #[.slice A n cap] w (IntsPost M (fun k => ((dgF f n k : Nat) : Int)) w) := h ▸ I_ms.ms A n cap f w hn hr
theorem smeets_val (A : Option Addr) (n cap : Nat) (f : Nat → Rt) (M : Nat) (h : cntF (laidF f n) n = M) (w : World) (hn : n ≤ maxLen) (hr : Rs w A n f) :
    Calls Try.prog 24 #[.slice A n cap] w (IntsPost M (fun k => ((dgF f n k : Nat) : Int)) w) := h ▸ smeets_any A n cap f w hn hr
theorem IPb6.pbv (I_pb : IPb6) (A : Option Addr) (n cap : Nat) (f : Nat → Rt) (M : Nat) (h : cntF (laidF f n) n = M) (w : World) (hn : n ≤ maxLen) (hr : Rs w A n f) :
    Calls Try.prog 35 #[.slice A n cap] w (IntsPost M (fun k => ((gcN f k : Nat) : Int)) w) := h ▸ I_pb.pb A n cap f w hn hr
theorem spb_val (A : Option Addr) (n cap : Nat) (f : Nat → Rt) (M : Nat) (h : cntF (laidF f n) n = M) (w : World) (hn : n ≤ maxLen) (hr : Rs w A n f) :
    Calls Try.prog 36 #[.slice A n cap] w (IntsPost M (fun k => ((gcN f k : Nat) : Int)) w) := h ▸ spb_any A n cap f w hn hr

set_option maxHeartbeats 4000000 in
set_option maxRecDepth 100000 in
theorem walkExactMostMeeting (I_mo : IMo6) (A : Option Addr) (n cap : Nat) (f : Nat → Rt) (w : World) (hm : n ≤ maxLen) (hr : Rs w A n f) :
    Calls Try.prog 10 #[.slice A n cap] w fun e w' => e = .returned (.bool true) ∧ Below w.heap.size w w' := by
  have Hr := Lib.hid hr
  clear hr
  by_cases hl : 1048576 < n
  · go_enter Try.func10, Try.ntmps10
    go_wp2_with fail
    refine (sz_no _ _ _ _ hm (by omega)).mono ?_; rintro e w' ⟨rfl, rfl⟩
    go_wp2
    go_ret
    exact ⟨rfl, Below.refl _ _⟩
  · have Hm := Lib.hid hm
    clear hm
    obtain ⟨v, HV⟩ : ∃ v, Hid (moF f n = v) := ⟨_, Lib.hid rfl⟩
    go_enter Try.func10, Try.ntmps10
    go_wp2_with fail
    refine (sz_yes _ _ _ _ (by omega)).mono ?_; rintro e w' ⟨rfl, rfl⟩
    go_wp2_with fail
    refine (torects_any A n cap f _ (by omega) (Hr.out)).mono ?_; rintro e w1 ⟨rfl, ho1, hb1⟩; have hz1 := hb1.size; (try simp at hz1); (try simp only [World.size_alloc] at ho1); have Ho1 := Lib.hid ho1; clear ho1; have Hr1 := Lib.hid ((Hr.out).below hb1)
    go_wp2_with fail
    refine (smo_val _ n n f v HV.out _ Hm.out Ho1.out.rs).mono ?_; rintro e w2 ⟨rfl, hb2⟩; have hz2 := hb2.size; (try simp at hz2); have Hr2 := Lib.hid (Hr1.out.below hb2)
    go_wp2_with fail
    refine (torects_any A n cap f _ (by omega) (Hr2.out)).mono ?_; rintro e w3 ⟨rfl, ho3, hb3⟩; have hz3 := hb3.size; (try simp at hz3); (try simp only [World.size_alloc] at ho3); have Ho3 := Lib.hid ho3; clear ho3; have Hr3 := Lib.hid ((Hr2.out).below hb3)
    go_wp2_with fail
    refine (I_mo.mov _ n n f v HV.out _ Hm.out Ho3.out.rs).mono ?_; rintro e w4 ⟨rfl, hb4⟩; have hz4 := hb4.size; (try simp at hz4); have Hr4 := Lib.hid (Hr3.out.below hb4); have Ho4 := Lib.hid (Ho3.out.below hb4)
    go_wp2_with fail
    refine (torects_any A n cap f _ (by omega) (Hr4.out)).mono ?_; rintro e w5 ⟨rfl, ho5, hb5⟩; have hz5 := hb5.size; (try simp at hz5); (try simp only [World.size_alloc] at ho5); have Ho5 := Lib.hid ho5; clear ho5; have Hr5 := Lib.hid ((Hr4.out).below hb5); have Hx := Lib.hid (Ho4.out.below hb5)
    go_wp2_with fail
    refine (eqrects_same _ _ n n n f _ Hm.out Hx.out.rs Ho5.out.rs).mono ?_; rintro e w6 ⟨rfl, hb6⟩; have hz6 := hb6.size; (try simp at hz6)
    go_wp2
    go_ret
    exact ⟨rfl, by (repeat (first | with_reducible exact Below.refl _ _ | with_reducible assumption | ((with_reducible refine Below.alloc ?_ ?_ _); rotate_left; focus (first | with_reducible exact Nat.le_refl _ | omega | (simp; done) | (simp; omega))) | ((with_reducible refine Below.setCell ?_ ?_ _); rotate_left; focus (first | with_reducible exact Nat.le_refl _ | omega | (simp; done) | (simp; omega))) | (with_reducible refine Below.drew ?_) | ((with_reducible refine Below.trans ?_ (Below.mono (by with_reducible assumption) ?_)); rotate_left; focus (first | with_reducible exact Nat.le_refl _ | omega | (simp; done) | (simp; omega)))))⟩

set_option maxHeartbeats 4000000 in
set_option maxRecDepth 100000 in
theorem walkExactColoursOf (I_cl : ICl6) (A : Option Addr) (n cap : Nat) (f : Nat → Rt) (w : World) (hm : n ≤ maxLen) (hr : Rs w A n f) :
    Calls Try.prog 11 #[.slice A n cap] w fun e w' => e = .returned (.bool true) ∧ Below w.heap.size w w' := by
  have Hr := Lib.hid hr
  clear hr
  by_cases hl : 1048576 < n
  · go_enter Try.func11, Try.ntmps11
    go_wp2_with fail
    refine (sz_no _ _ _ _ hm (by omega)).mono ?_; rintro e w' ⟨rfl, rfl⟩
    go_wp2
    go_ret
    exact ⟨rfl, Below.refl _ _⟩
  · have Hm := Lib.hid hm
    clear hm
    obtain ⟨v, HV⟩ : ∃ v, Hid (clF f n = v) := ⟨_, Lib.hid rfl⟩
    go_enter Try.func11, Try.ntmps11
    go_wp2_with fail
    refine (sz_yes _ _ _ _ (by omega)).mono ?_; rintro e w' ⟨rfl, rfl⟩
    go_wp2_with fail
    refine (torects_any A n cap f _ (by omega) (Hr.out)).mono ?_; rintro e w1 ⟨rfl, ho1, hb1⟩; have hz1 := hb1.size; (try simp at hz1); (try simp only [World.size_alloc] at ho1); have Ho1 := Lib.hid ho1; clear ho1; have Hr1 := Lib.hid ((Hr.out).below hb1)
    go_wp2_with fail
    refine (scl_val _ n n f v HV.out _ Hm.out Ho1.out.rs).mono ?_; rintro e w2 ⟨rfl, hb2⟩; have hz2 := hb2.size; (try simp at hz2); have Hr2 := Lib.hid (Hr1.out.below hb2)
    go_wp2_with fail
    refine (torects_any A n cap f _ (by omega) (Hr2.out)).mono ?_; rintro e w3 ⟨rfl, ho3, hb3⟩; have hz3 := hb3.size; (try simp at hz3); (try simp only [World.size_alloc] at ho3); have Ho3 := Lib.hid ho3; clear ho3; have Hr3 := Lib.hid ((Hr2.out).below hb3)
    go_wp2_with fail
    refine (I_cl.clv _ n n f v HV.out _ Hm.out Ho3.out.rs).mono ?_; rintro e w4 ⟨rfl, hb4⟩; have hz4 := hb4.size; (try simp at hz4); have Hr4 := Lib.hid (Hr3.out.below hb4); have Ho4 := Lib.hid (Ho3.out.below hb4)
    go_wp2_with fail
    refine (torects_any A n cap f _ (by omega) (Hr4.out)).mono ?_; rintro e w5 ⟨rfl, ho5, hb5⟩; have hz5 := hb5.size; (try simp at hz5); (try simp only [World.size_alloc] at ho5); have Ho5 := Lib.hid ho5; clear ho5; have Hr5 := Lib.hid ((Hr4.out).below hb5); have Hx := Lib.hid (Ho4.out.below hb5)
    go_wp2_with fail
    refine (eqrects_same _ _ n n n f _ Hm.out Hx.out.rs Ho5.out.rs).mono ?_; rintro e w6 ⟨rfl, hb6⟩; have hz6 := hb6.size; (try simp at hz6)
    go_wp2
    go_ret
    exact ⟨rfl, by (repeat (first | with_reducible exact Below.refl _ _ | with_reducible assumption | ((with_reducible refine Below.alloc ?_ ?_ _); rotate_left; focus (first | with_reducible exact Nat.le_refl _ | omega | (simp; done) | (simp; omega))) | ((with_reducible refine Below.setCell ?_ ?_ _); rotate_left; focus (first | with_reducible exact Nat.le_refl _ | omega | (simp; done) | (simp; omega))) | (with_reducible refine Below.drew ?_) | ((with_reducible refine Below.trans ?_ (Below.mono (by with_reducible assumption) ?_)); rotate_left; focus (first | with_reducible exact Nat.le_refl _ | omega | (simp; done) | (simp; omega)))))⟩

set_option maxHeartbeats 4000000 in
set_option maxRecDepth 100000 in
theorem walkExactMeetsOf (I_ms : IMs6) (A : Option Addr) (n cap : Nat) (f : Nat → Rt) (w : World) (hm : n ≤ maxLen) (hr : Rs w A n f) :
    Calls Try.prog 9 #[.slice A n cap] w fun e w' => e = .returned (.bool true) ∧ Below w.heap.size w w' := by
  have Hr := Lib.hid hr
  clear hr
  by_cases hl : 1048576 < n
  · go_enter Try.func9, Try.ntmps9
    go_wp2_with fail
    refine (sz_no _ _ _ _ hm (by omega)).mono ?_; rintro e w' ⟨rfl, rfl⟩
    go_wp2
    go_ret
    exact ⟨rfl, Below.refl _ _⟩
  · have Hm := Lib.hid hm
    clear hm
    obtain ⟨M, HM⟩ : ∃ M, Hid (cntF (laidF f n) n = M) := ⟨_, Lib.hid rfl⟩
    have hM : M ≤ 1048577 := by rw [← HM.out]; unfold cntF; split <;> omega
    have hmm : M ≤ maxLen := by unfold maxLen; omega
    have Hmm := Lib.hid hmm
    clear hmm
    go_enter Try.func9, Try.ntmps9
    go_wp2_with fail
    refine (sz_yes _ _ _ _ (by omega)).mono ?_; rintro e w' ⟨rfl, rfl⟩
    go_wp2_with fail
    refine (torects_sz A n cap f _ (by omega) Hr.out).mono ?_; rintro e w1 ⟨rfl, hx, hb1, hlt1⟩; have X1 := Lib.hid hx; clear hx; have HB1 : Hid (Below w.heap.size w w1) := Lib.hid ((Below.refl _ _).trans (hb1.mono (Nat.le_refl _))); have hs1 : w.heap.size ≤ w1.heap.size := HB1.out.size; have hq1 : w.heap.size ≤ w1.heap.size := hb1.size
    go_wp2_with fail
    refine (smeets_val _ n n f M HM.out _ Hm.out X1.out.rs).mono ?_; rintro e w2 hp; have HP2 := Lib.hid hp; clear hp; obtain ⟨A1, c1, g1, rfl, hi, hgg1, hb2⟩ := HP2.out; have P2 := Lib.hid hi; clear hi; have HB2 : Hid (Below w.heap.size w w2) := Lib.hid (HB1.out.trans (hb2.mono hs1)); have hs2 : w.heap.size ≤ w2.heap.size := HB2.out.size; have hq2 : w1.heap.size ≤ w2.heap.size := hb2.size
    go_wp2_with fail
    refine (torects_sz A n cap f _ (by omega) (Hr.out.below HB2.out)).mono ?_; rintro e w3 ⟨rfl, hx, hb3, hlt3⟩; have X3 := Lib.hid hx; clear hx; have HB3 : Hid (Below w.heap.size w w3) := Lib.hid (HB2.out.trans (hb3.mono hs2)); have hs3 : w.heap.size ≤ w3.heap.size := HB3.out.size; have hq3 : w2.heap.size ≤ w3.heap.size := hb3.size; have P3 := Lib.hid (P2.out.below hb3)
    go_wp2_with fail
    refine (I_ms.msv _ n n f M HM.out _ Hm.out X3.out.rs).mono ?_; rintro e w4 hp; have HP4 := Lib.hid hp; clear hp; obtain ⟨A2, c2, g2, rfl, hi, hgg2, hb4⟩ := HP4.out; have S4 := Lib.hid hi; clear hi; have HB4 : Hid (Below w.heap.size w w4) := Lib.hid (HB3.out.trans (hb4.mono hs3)); have hs4 : w.heap.size ≤ w4.heap.size := HB4.out.size; have hq4 : w3.heap.size ≤ w4.heap.size := hb4.size; have P4 := Lib.hid (P3.out.below hb4); have X4 := Lib.hid (X3.out.below hb4)
    go_wp2_with fail
    refine (eqints_same A2 A1 M c2 c1 (fun k => ((dgF f n k : Nat) : Int)) _ Hmm.out S4.out.is P4.out.is).mono ?_; rintro e w5 ⟨rfl, hb5⟩; have HB5 : Hid (Below w.heap.size w w5) := Lib.hid (HB4.out.trans (hb5.mono hs4)); have hs5 : w.heap.size ≤ w5.heap.size := HB5.out.size; have hq5 : w4.heap.size ≤ w5.heap.size := hb5.size; have P5 := Lib.hid (P4.out.below hb5); have X5 := Lib.hid (X4.out.below hb5); have S5 := Lib.hid (S4.out.below hb5)
    go_wp2_with fail
    refine (torects_sz A n cap f _ (by omega) (Hr.out.below HB5.out)).mono ?_; rintro e w6 ⟨rfl, hx, hb6, hlt6⟩; have Y6 := Lib.hid hx; clear hx; have HB6 : Hid (Below w.heap.size w w6) := Lib.hid (HB5.out.trans (hb6.mono hs5)); have hs6 : w.heap.size ≤ w6.heap.size := HB6.out.size; have hq6 : w5.heap.size ≤ w6.heap.size := hb6.size; have P6 := Lib.hid (P5.out.below hb6); have X6 := Lib.hid (X5.out.below hb6); have S6 := Lib.hid (S5.out.below hb6)
    go_wp2_with fail
    refine (eqrects_same _ _ n n n f _ Hm.out X6.out.rs Y6.out.rs).mono ?_; rintro e w7 ⟨rfl, hb7⟩; have HB7 : Hid (Below w.heap.size w w7) := Lib.hid (HB6.out.trans (hb7.mono hs6)); have hs7 : w.heap.size ≤ w7.heap.size := HB7.out.size; have hq7 : w6.heap.size ≤ w7.heap.size := hb7.size; have P7 := Lib.hid (P6.out.below hb7); have X7 := Lib.hid (X6.out.below hb7); have S7 := Lib.hid (S6.out.below hb7)
    go_wp2_with fail
    refine (markrects_any _ n n w2.heap.size f _ (by omega) X7.out).mono ?_; rintro e w8 ⟨rfl, _, hg8⟩; have HB8 : Hid (Below w.heap.size w w8) := Lib.hid (below_grown HB7.out hg8 hs7 (by omega)); have hs8 : w.heap.size ≤ w8.heap.size := HB8.out.size; have hq8 : w7.heap.size ≤ w8.heap.size := hg8.size; have P8 := Lib.hid (P7.out.grownN hg8 (by have := P2.out.ltN; omega)); have S8 := Lib.hid (S7.out.grownN hg8 (by omega))
    go_wp2_with fail
    refine (eqints_same A2 A1 M c2 c1 (fun k => ((dgF f n k : Nat) : Int)) _ Hmm.out S8.out.is P8.out.is).mono ?_; rintro e w9 ⟨rfl, hb9⟩; have HB9 : Hid (Below w.heap.size w w9) := Lib.hid (HB8.out.trans (hb9.mono hs8)); have hs9 : w.heap.size ≤ w9.heap.size := HB9.out.size; have hq9 : w8.heap.size ≤ w9.heap.size := hb9.size; have P9 := Lib.hid (P8.out.below hb9); have S9 := Lib.hid (S8.out.below hb9)
    go_wp2_with fail
    refine (markints_any A2 M c2 g2 (fun k => ((dgF f n k : Nat) : Int)) _ (by omega) S9.out).mono ?_; rintro e w10 ⟨rfl, hm10, hg10⟩; have S10 := Lib.hid hm10; clear hm10; have HB10 : Hid (Below w.heap.size w w10) := Lib.hid (below_grown HB9.out hg10 hs9 (by omega)); have hs10 : w.heap.size ≤ w10.heap.size := HB10.out.size; have hq10 : w9.heap.size ≤ w10.heap.size := hg10.size; have P10 := Lib.hid (P9.out.grownN hg10 (by have := P2.out.ltN; omega))
    go_wp2_with fail
    refine (heldints_any A2 M c2 _ (by omega) S10.out.is).mono ?_; rintro e w' ⟨rfl, rfl⟩
    go_wp2_with fail
    refine (torects_sz A n cap f _ (by omega) (Hr.out.below HB10.out)).mono ?_; rintro e w11 ⟨rfl, hx, hb11, hlt11⟩; have Z11 := Lib.hid hx; clear hx; have HB11 : Hid (Below w.heap.size w w11) := Lib.hid (HB10.out.trans (hb11.mono hs10)); have hs11 : w.heap.size ≤ w11.heap.size := HB11.out.size; have hq11 : w10.heap.size ≤ w11.heap.size := hb11.size; have P11 := Lib.hid (P10.out.below hb11); have S11 := Lib.hid (S10.out.below hb11)
    go_wp2_with fail
    refine (I_ms.msv _ n n f M HM.out _ Hm.out Z11.out.rs).mono ?_; rintro e w12 hp; have HP12 := Lib.hid hp; clear hp; obtain ⟨A3, c3, g3, rfl, hi, hgg3, hb12⟩ := HP12.out; have T12 := Lib.hid hi; clear hi; have HB12 : Hid (Below w.heap.size w w12) := Lib.hid (HB11.out.trans (hb12.mono hs11)); have hs12 : w.heap.size ≤ w12.heap.size := HB12.out.size; have hq12 : w11.heap.size ≤ w12.heap.size := hb12.size; have P12 := Lib.hid (P11.out.below hb12); have S12 := Lib.hid (S11.out.below hb12)
    go_wp2_with fail
    refine (eqints_same A3 A1 M c3 c1 (fun k => ((dgF f n k : Nat) : Int)) _ Hmm.out T12.out.is P12.out.is).mono ?_; rintro e w13 ⟨rfl, hb13⟩; have HB13 : Hid (Below w.heap.size w w13) := Lib.hid (HB12.out.trans (hb13.mono hs12)); have hs13 : w.heap.size ≤ w13.heap.size := HB13.out.size; have hq13 : w12.heap.size ≤ w13.heap.size := hb13.size; have S13 := Lib.hid (S12.out.below hb13)
    go_wp2_with fail
    refine (heldints_any A2 M c2 _ (by omega) S13.out.is).mono ?_; rintro e w' ⟨rfl, rfl⟩
    go_wp2
    go_ret
    exact ⟨rfl, HB13.out⟩

set_option maxHeartbeats 4000000 in
set_option maxRecDepth 100000 in
theorem walkExactPaintedBy (I_pb : IPb6) (A : Option Addr) (n cap : Nat) (f : Nat → Rt) (w : World) (hm : n ≤ maxLen) (hr : Rs w A n f) :
    Calls Try.prog 12 #[.slice A n cap] w fun e w' => e = .returned (.bool true) ∧ Below w.heap.size w w' := by
  have Hr := Lib.hid hr
  clear hr
  by_cases hl : 1048576 < n
  · go_enter Try.func12, Try.ntmps12
    go_wp2_with fail
    refine (sz_no _ _ _ _ hm (by omega)).mono ?_; rintro e w' ⟨rfl, rfl⟩
    go_wp2
    go_ret
    exact ⟨rfl, Below.refl _ _⟩
  · have Hm := Lib.hid hm
    clear hm
    obtain ⟨M, HM⟩ : ∃ M, Hid (cntF (laidF f n) n = M) := ⟨_, Lib.hid rfl⟩
    have hM : M ≤ 1048577 := by rw [← HM.out]; unfold cntF; split <;> omega
    have hmm : M ≤ maxLen := by unfold maxLen; omega
    have Hmm := Lib.hid hmm
    clear hmm
    go_enter Try.func12, Try.ntmps12
    go_wp2_with fail
    refine (sz_yes _ _ _ _ (by omega)).mono ?_; rintro e w' ⟨rfl, rfl⟩
    go_wp2_with fail
    refine (torects_sz A n cap f _ (by omega) Hr.out).mono ?_; rintro e w1 ⟨rfl, hx, hb1, hlt1⟩; have X1 := Lib.hid hx; clear hx; have HB1 : Hid (Below w.heap.size w w1) := Lib.hid ((Below.refl _ _).trans (hb1.mono (Nat.le_refl _))); have hs1 : w.heap.size ≤ w1.heap.size := HB1.out.size; have hq1 : w.heap.size ≤ w1.heap.size := hb1.size
    go_wp2_with fail
    refine (spb_val _ n n f M HM.out _ Hm.out X1.out.rs).mono ?_; rintro e w2 hp; have HP2 := Lib.hid hp; clear hp; obtain ⟨A1, c1, g1, rfl, hi, hgg1, hb2⟩ := HP2.out; have P2 := Lib.hid hi; clear hi; have HB2 : Hid (Below w.heap.size w w2) := Lib.hid (HB1.out.trans (hb2.mono hs1)); have hs2 : w.heap.size ≤ w2.heap.size := HB2.out.size; have hq2 : w1.heap.size ≤ w2.heap.size := hb2.size
    go_wp2_with fail
    refine (torects_sz A n cap f _ (by omega) (Hr.out.below HB2.out)).mono ?_; rintro e w3 ⟨rfl, hx, hb3, hlt3⟩; have X3 := Lib.hid hx; clear hx; have HB3 : Hid (Below w.heap.size w w3) := Lib.hid (HB2.out.trans (hb3.mono hs2)); have hs3 : w.heap.size ≤ w3.heap.size := HB3.out.size; have hq3 : w2.heap.size ≤ w3.heap.size := hb3.size; have P3 := Lib.hid (P2.out.below hb3)
    go_wp2_with fail
    refine (I_pb.pbv _ n n f M HM.out _ Hm.out X3.out.rs).mono ?_; rintro e w4 hp; have HP4 := Lib.hid hp; clear hp; obtain ⟨A2, c2, g2, rfl, hi, hgg2, hb4⟩ := HP4.out; have S4 := Lib.hid hi; clear hi; have HB4 : Hid (Below w.heap.size w w4) := Lib.hid (HB3.out.trans (hb4.mono hs3)); have hs4 : w.heap.size ≤ w4.heap.size := HB4.out.size; have hq4 : w3.heap.size ≤ w4.heap.size := hb4.size; have P4 := Lib.hid (P3.out.below hb4); have X4 := Lib.hid (X3.out.below hb4)
    go_wp2_with fail
    refine (eqints_same A2 A1 M c2 c1 (fun k => ((gcN f k : Nat) : Int)) _ Hmm.out S4.out.is P4.out.is).mono ?_; rintro e w5 ⟨rfl, hb5⟩; have HB5 : Hid (Below w.heap.size w w5) := Lib.hid (HB4.out.trans (hb5.mono hs4)); have hs5 : w.heap.size ≤ w5.heap.size := HB5.out.size; have hq5 : w4.heap.size ≤ w5.heap.size := hb5.size; have P5 := Lib.hid (P4.out.below hb5); have X5 := Lib.hid (X4.out.below hb5); have S5 := Lib.hid (S4.out.below hb5)
    go_wp2_with fail
    refine (torects_sz A n cap f _ (by omega) (Hr.out.below HB5.out)).mono ?_; rintro e w6 ⟨rfl, hx, hb6, hlt6⟩; have Y6 := Lib.hid hx; clear hx; have HB6 : Hid (Below w.heap.size w w6) := Lib.hid (HB5.out.trans (hb6.mono hs5)); have hs6 : w.heap.size ≤ w6.heap.size := HB6.out.size; have hq6 : w5.heap.size ≤ w6.heap.size := hb6.size; have P6 := Lib.hid (P5.out.below hb6); have X6 := Lib.hid (X5.out.below hb6); have S6 := Lib.hid (S5.out.below hb6)
    go_wp2_with fail
    refine (eqrects_same _ _ n n n f _ Hm.out X6.out.rs Y6.out.rs).mono ?_; rintro e w7 ⟨rfl, hb7⟩; have HB7 : Hid (Below w.heap.size w w7) := Lib.hid (HB6.out.trans (hb7.mono hs6)); have hs7 : w.heap.size ≤ w7.heap.size := HB7.out.size; have hq7 : w6.heap.size ≤ w7.heap.size := hb7.size; have P7 := Lib.hid (P6.out.below hb7); have X7 := Lib.hid (X6.out.below hb7); have S7 := Lib.hid (S6.out.below hb7)
    go_wp2_with fail
    refine (markrects_any _ n n w2.heap.size f _ (by omega) X7.out).mono ?_; rintro e w8 ⟨rfl, _, hg8⟩; have HB8 : Hid (Below w.heap.size w w8) := Lib.hid (below_grown HB7.out hg8 hs7 (by omega)); have hs8 : w.heap.size ≤ w8.heap.size := HB8.out.size; have hq8 : w7.heap.size ≤ w8.heap.size := hg8.size; have P8 := Lib.hid (P7.out.grownN hg8 (by have := P2.out.ltN; omega)); have S8 := Lib.hid (S7.out.grownN hg8 (by omega))
    go_wp2_with fail
    refine (eqints_same A2 A1 M c2 c1 (fun k => ((gcN f k : Nat) : Int)) _ Hmm.out S8.out.is P8.out.is).mono ?_; rintro e w9 ⟨rfl, hb9⟩; have HB9 : Hid (Below w.heap.size w w9) := Lib.hid (HB8.out.trans (hb9.mono hs8)); have hs9 : w.heap.size ≤ w9.heap.size := HB9.out.size; have hq9 : w8.heap.size ≤ w9.heap.size := hb9.size; have P9 := Lib.hid (P8.out.below hb9); have S9 := Lib.hid (S8.out.below hb9)
    go_wp2_with fail
    refine (markints_any A2 M c2 g2 (fun k => ((gcN f k : Nat) : Int)) _ (by omega) S9.out).mono ?_; rintro e w10 ⟨rfl, hm10, hg10⟩; have S10 := Lib.hid hm10; clear hm10; have HB10 : Hid (Below w.heap.size w w10) := Lib.hid (below_grown HB9.out hg10 hs9 (by omega)); have hs10 : w.heap.size ≤ w10.heap.size := HB10.out.size; have hq10 : w9.heap.size ≤ w10.heap.size := hg10.size; have P10 := Lib.hid (P9.out.grownN hg10 (by have := P2.out.ltN; omega))
    go_wp2_with fail
    refine (heldints_any A2 M c2 _ (by omega) S10.out.is).mono ?_; rintro e w' ⟨rfl, rfl⟩
    go_wp2_with fail
    refine (torects_sz A n cap f _ (by omega) (Hr.out.below HB10.out)).mono ?_; rintro e w11 ⟨rfl, hx, hb11, hlt11⟩; have Z11 := Lib.hid hx; clear hx; have HB11 : Hid (Below w.heap.size w w11) := Lib.hid (HB10.out.trans (hb11.mono hs10)); have hs11 : w.heap.size ≤ w11.heap.size := HB11.out.size; have hq11 : w10.heap.size ≤ w11.heap.size := hb11.size; have P11 := Lib.hid (P10.out.below hb11); have S11 := Lib.hid (S10.out.below hb11)
    go_wp2_with fail
    refine (I_pb.pbv _ n n f M HM.out _ Hm.out Z11.out.rs).mono ?_; rintro e w12 hp; have HP12 := Lib.hid hp; clear hp; obtain ⟨A3, c3, g3, rfl, hi, hgg3, hb12⟩ := HP12.out; have T12 := Lib.hid hi; clear hi; have HB12 : Hid (Below w.heap.size w w12) := Lib.hid (HB11.out.trans (hb12.mono hs11)); have hs12 : w.heap.size ≤ w12.heap.size := HB12.out.size; have hq12 : w11.heap.size ≤ w12.heap.size := hb12.size; have P12 := Lib.hid (P11.out.below hb12); have S12 := Lib.hid (S11.out.below hb12)
    go_wp2_with fail
    refine (eqints_same A3 A1 M c3 c1 (fun k => ((gcN f k : Nat) : Int)) _ Hmm.out T12.out.is P12.out.is).mono ?_; rintro e w13 ⟨rfl, hb13⟩; have HB13 : Hid (Below w.heap.size w w13) := Lib.hid (HB12.out.trans (hb13.mono hs12)); have hs13 : w.heap.size ≤ w13.heap.size := HB13.out.size; have hq13 : w12.heap.size ≤ w13.heap.size := hb13.size; have S13 := Lib.hid (S12.out.below hb13)
    go_wp2_with fail
    refine (heldints_any A2 M c2 _ (by omega) S13.out.is).mono ?_; rintro e w' ⟨rfl, rfl⟩
    go_wp2
    go_ret
    exact ⟨rfl, HB13.out⟩
end Go.Proofs.Ytkfeeijiockdhaa
