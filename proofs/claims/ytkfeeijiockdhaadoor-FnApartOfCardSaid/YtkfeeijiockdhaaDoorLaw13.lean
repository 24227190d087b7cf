/- The laws of chapter 5: their walks. -/
import Derived.Test.YtkfeeijiockdhaaDoorMathV
import Derived.Test.YtkfeeijiockdhaaDoorEx8
import Derived.Test.YtkfeeijiockdhaaDoorEx7
import Derived.Test.YtkfeeijiockdhaaDoorClose
import Derived.Test.YtkfeeijiockdhaaDoorDr
import Derived.Test.YtkfeeijiockdhaaDoorWi
namespace Go.Proofs.YtkfeeijiockdhaaDoor
open Go.RowKit Go.Sort Go.BigFrame
set_option linter.unusedVariables false
theorem Rs.two5 (w : World) (r s : Rt) (g : Nat) (hg : w.heap.size = g) : Rs (w.alloc (.cells #[.int .i64 r.l, .int .i64 r.o, .int .i64 r.r, .int .i64 r.h, .int .i64 s.l, .int .i64 s.o, .int .i64 s.r, .int .i64 s.h] 29)) (some ⟨g, 0, none⟩) 2 (twoR r s) := by
  subst hg
  refine Or.inr ⟨w.heap.size, 0, rfl, by simp, fun i hi => ?_⟩
  rcases (show i = 0 ∨ i = 1 by omega) with rfl | rfl
  · rw [show twoR r s 0 = r from rfl]; refine ⟨?_, ?_, ?_, ?_⟩ <;> go_simp
  · rw [show twoR r s 1 = s from rfl]; refine ⟨?_, ?_, ?_, ?_⟩ <;> go_simp
def WoPost5 (M : Nat) (B : Bool) (f : Nat → Rt) (w : World) (e : Ending) (w' : World) : Prop :=
  ∃ A cap g, e = .returned (.tuple #[.slice A M cap, .bool B]) ∧ Ow w' A M f g ∧ w.heap.size ≤ g ∧ Hd A M cap ∧ Below w.heap.size w w'
theorem iov_v5 (a r : Rt) (h : ovR a = r) (w : World) :
    Calls Tryd.prog 9 #[rv a] w fun e w' => e = .returned (rv r) ∧ Below w.heap.size w w' := h ▸ iov_any a w
theorem own_belowS {w w' : World} {base : Nat} {e : TypeId} {size n : Nat} {v : Value} {xs : List Value} (H : w.ownsRow base e size v n xs) (hb : Below w.heap.size w w') : w'.ownsRow base e size v n xs := by
  refine ⟨H.1, ?_⟩
  rcases H.2 with h0 | ⟨g, c, cur, h1, h2, h3, h4⟩
  · exact Or.inl h0
  · refine Or.inr ⟨g, c, cur, h1, h2, ?_, h4⟩
    rw [hb.block g ((Array.getElem?_eq_some_iff.1 h3).choose)]; exact h3
-- what PiecesOf of impl answers: IPc4

set_option maxHeartbeats 8000000 in
set_option maxRecDepth 100000 in
theorem walkApartOf (K : IPc4) (I_am : IAm5) (I_ap : IAp5) (a : Option Addr) (len cap : Nat) (w : World) (hc : Came w a len cap) (hv : Vt w) :
    Calls Tryd.prog 3 #[.slice a len cap] w fun e w' => e = .returned (.bool true) ∧ Below w.heap.size w w' := by
  have Hv := Lib.hid hv
  clear hv
  have hm := hc.len_le
  by_cases hl : 1048576 < len
  · go_enter Tryd.func3, Tryd.ntmps3
    go_wp2
    go_ret
    exact ⟨rfl, Below.refl _ _⟩
  · go_enter Tryd.func3, Tryd.ntmps3
    go_wp2_with fail
    refine (dApartOf _ _ _ _ hc).mono ?_; rintro e w1 hp; have HP1 := Lib.hid hp; clear hp; obtain ⟨A, m, lcap, g, f, rfl, hm8, ho1, hg1, hh1, hb1⟩ := HP1.out; have hz1 := hb1.size; (try simp at hz1); have HO1 := Lib.hid ho1; have HH1 := Lib.hid hh1; clear ho1 hh1; have hmm : m ≤ maxLen := (by unfold maxLen; omega); have Hmm := Lib.hid hmm; clear hmm
    cases hL : laidF f m
    · have HN : Hid (apF f m = -1) := Lib.hid (by unfold apF; rw [hL]; rfl)
      go_wp2_with fail
      refine (I_ap.apv A m lcap f (-1) HN.out _ Hmm.out HO1.out.rs).mono ?_; rintro e w2 ⟨rfl, hb2⟩; have hz2 := hb2.size; (try simp at hz2); have HO2 := Lib.hid (HO1.out.below hb2)
      go_wp2_with fail
      refine (sap_val A m lcap f (-1) HN.out _ Hmm.out HO2.out.rs).mono ?_; rintro e w3 ⟨rfl, hb3⟩; have hz3 := hb3.size; (try simp at hz3); have HO3 := Lib.hid (HO2.out.below hb3)
      go_wp2_with fail
      refine (ilaid_val A m lcap f false hL _ Hmm.out HO3.out.rs).mono ?_; rintro e w4 ⟨rfl, hb4⟩; have hz4 := hb4.size; (try simp at hz4)
      go_wp2_with fail
      refine (alive_any _).mono ?_; rintro e w5 ⟨rfl, hb5⟩; have hz5 := hb5.size; (try simp at hz5)
      go_wp2
      go_ret
      exact ⟨rfl, by (repeat (first | with_reducible exact Below.refl _ _ | with_reducible assumption | ((with_reducible refine Below.alloc ?_ ?_ _); rotate_left; focus (first | with_reducible exact Nat.le_refl _ | omega | (simp; done) | (simp; omega))) | ((with_reducible refine Below.setCell ?_ ?_ _); rotate_left; focus (first | with_reducible exact Nat.le_refl _ | omega | (simp; done) | (simp; omega))) | (with_reducible refine Below.drew ?_) | ((with_reducible refine Below.trans ?_ (Below.mono (by with_reducible assumption) ?_)); rotate_left; focus (first | with_reducible exact Nat.le_refl _ | omega | (simp; done) | (simp; omega)))))⟩
    · have l1 := apart_one hL
      have l2 := apart_pieces hL
      obtain ⟨q1, q2⟩ := apF_bd hL
      obtain ⟨pb1, pb2⟩ := pcF_bd hL
      have HOL := Lib.hid (fun (G : Nat → Rt) (h : ∀ i, i < m → G i = ovR (f i)) => apart_over hL h)
      generalize hAP : apF f m = AP at l1 l2 q1 q2 HOL
      generalize hPC : pcF f m = PC at l2 pb1 pb2
      have HAP := Lib.hid hAP
      have HPC := Lib.hid hPC
      have HL1 := Lib.hid l1
      clear hAP hPC l1
      go_wp2_with fail
      refine (I_ap.apv A m lcap f AP HAP.out _ Hmm.out HO1.out.rs).mono ?_; rintro e w2 ⟨rfl, hb2⟩; have hz2 := hb2.size; (try simp at hz2); have HO2 := Lib.hid (HO1.out.below hb2)
      go_wp2_with fail
      refine (sap_val A m lcap f AP HAP.out _ Hmm.out HO2.out.rs).mono ?_; rintro e w3 ⟨rfl, hb3⟩; have hz3 := hb3.size; (try simp at hz3); have HO3 := Lib.hid (HO2.out.below hb3)
      have HB3 : Hid (Below w.heap.size w w3) := Lib.hid (by (repeat (first | with_reducible exact Below.refl _ _ | with_reducible assumption | ((with_reducible refine Below.alloc ?_ ?_ _); rotate_left; focus (first | with_reducible exact Nat.le_refl _ | omega | (simp; done) | (simp; omega))) | ((with_reducible refine Below.setCell ?_ ?_ _); rotate_left; focus (first | with_reducible exact Nat.le_refl _ | omega | (simp; done) | (simp; omega))) | (with_reducible refine Below.drew ?_) | ((with_reducible refine Below.trans ?_ (Below.mono (by with_reducible assumption) ?_)); rotate_left; focus (first | with_reducible exact Nat.le_refl _ | omega | (simp; done) | (simp; omega))))))
      have hle3 : w.heap.size ≤ w3.heap.size := HB3.out.size
      clear hb1 hb2 hb3
      go_wp2
      go_loopw [5, 6] (fun s5 s6 wr => ∃ (k : Nat) (A5 : Option Addr) (c5 : Nat) (G : Nat → Rt), k ≤ m ∧ s6 = .int .i64 k ∧ s5 = .slice A5 k c5 ∧ (∀ i, i < k → G i = ovR (f i)) ∧ wr.ownsRow w3.heap.size 29 4 (.slice A5 k c5) k (rowL G k) ∧ Below w3.heap.size w3 wr) (fun _ s6 _ => m - (intOf s6).toNat)
      case atStart => exact ⟨0, _, 0, fun _ => Rt.zero, Nat.zero_le _, rfl, rfl, fun i hi => by omega, own_empty w3 w3.heap.size w3.heap.size rfl (Nat.le_refl _), (Below.refl _ _).alloc (Nat.le_refl _) _⟩
      case round =>
        obtain ⟨k, A5, c5, G, hk, rfl, rfl, hG, hown, hbr⟩ := hrel
        have HG := Lib.hid hG
        have HW := Lib.hid hown
        have hzr := hbr.size
        have HBi := Lib.hid hbr
        clear hG hown hbr
        by_cases hlt : k < m
        · obtain ⟨b, off, hA, hbl, c0, c1, c2, c3⟩ := (HO3.out.below HBi.out).rs.at_ hlt
          subst hA
          obtain ⟨RR, hRR⟩ : ∃ RR, ovR (f k) = RR := ⟨_, rfl⟩
          have HRR := Lib.hid hRR
          clear hRR
          go_wp2_with fail
          refine (iov_v5 (f k) RR HRR.out _).mono ?_; rintro e w4 ⟨rfl, hb4⟩; have hz4 := hb4.size; (try simp at hz4)
          have Hown := Lib.hid ((own_belowS HW.out hb4).alloc (.cells #[.int .i64 RR.l, .int .i64 RR.o, .int .i64 RR.r, .int .i64 RR.h] 29))
          have HB4 := Lib.hid (HBi.out.trans (hb4.mono hzr))
          have hle4 : w3.heap.size ≤ w4.heap.size := HB4.out.size
          clear hb4
          go_wp2_with (refine list_rects _ rfl (.tmp 37) (.tmp 43) rfl w3.heap.size _ k (rowL G k) rfl Hown.out _ 1 1 (four RR) rfl rfl (fun e => by cases e) (Four.new w4 RR _ rfl).ne (four_one RR) (by omega) (by simp; omega) ?_; intro A6 c6 wz hown6 hg6 hb6; rw [rowL_with] at hown6; have HO6 := Lib.hid hown6; have HB6 := Lib.hid hb6; clear hown6 hg6 hb6)
          go_roundw
          case rel =>
            refine ⟨k + 1, A6, c6, withF G k RR, by omega, by go_num, by simp, fun i hi => ?_, HO6.out, HB4.out.trans (Below.trans ((Below.refl _ _).alloc hle4 _) HB6.out)⟩
            unfold withF
            by_cases e : i < k
            · rw [if_pos e]; exact HG.out i e
            · rw [if_neg e, show i = k by omega]; exact HRR.out.symm
          case measure => simp [intOf]; omega
        · obtain rfl : k = m := by omega
          obtain ⟨g5, o5, hg5, _⟩ := own_ow' HW.out
          have Hov := Lib.hid o5
          have HGA := Lib.hid (HOL.out G HG.out)
          have HOr := Lib.hid (HO3.out.below HBi.out)
          have HBr := Lib.hid (HB3.out.trans (HBi.out.mono hle3))
          clear o5
          by_cases h0 : k = 0
          · subst h0
            have hap : (AP == 1) = false := by rw [HL1.out]; rfl
            have HO4 := HOr
            have Hov4 := Hov
            have Hv4 := Lib.hid (Hv.out.below HBr.out)
            go_wp2_with fail
            refine (K.pcv A 0 lcap f PC HPC.out _ Hmm.out HO4.out.rs Hv4.out).mono ?_; rintro e w5 ⟨rfl, hb5⟩; have hz5 := hb5.size; (try simp at hz5)
            have Hov5 := Lib.hid (Hov4.out.below hb5)
            go_wp2_with fail
            refine (I_ap.apv A5 0 c5 G AP HGA.out _ Hmm.out Hov5.out.rs).mono ?_; rintro e w6 ⟨rfl, hb6⟩; have hz6 := hb6.size; (try simp at hz6)
            go_wp2_with fail
            refine (alive_any _).mono ?_; rintro e w7 ⟨rfl, hb7⟩; have hz7 := hb7.size; (try simp at hz7)
            go_wp2
            go_ret
            exact ⟨rfl, HBr.out.trans (Below.mono (by (repeat (first | with_reducible exact Below.refl _ _ | with_reducible assumption | ((with_reducible refine Below.alloc ?_ ?_ _); rotate_left; focus (first | with_reducible exact Nat.le_refl _ | omega | (simp; done) | (simp; omega))) | ((with_reducible refine Below.setCell ?_ ?_ _); rotate_left; focus (first | with_reducible exact Nat.le_refl _ | omega | (simp; done) | (simp; omega))) | (with_reducible refine Below.drew ?_) | ((with_reducible refine Below.trans ?_ (Below.mono (by with_reducible assumption) ?_)); rotate_left; focus (first | with_reducible exact Nat.le_refl _ | omega | (simp; done) | (simp; omega)))))) HBr.out.size)⟩
          · have hk0 : 0 < (k : Int) := by omega
            cases ham : amF f k
            · have hap : (AP == 1) = false := by rw [HL1.out, ham, Bool.and_false]
              have HAm := Lib.hid ham
              clear ham
              go_wp2_with fail
              refine (I_am.amv A k lcap f false HAm.out _ Hmm.out HOr.out.rs).mono ?_; rintro e w4 ⟨rfl, hb4⟩; have hz4 := hb4.size; (try simp at hz4)
              have HO4 := Lib.hid (HOr.out.below hb4)
              have Hov4 := Lib.hid (Hov.out.below hb4)
              have Hv4 := Lib.hid ((Hv.out.below HBr.out).below hb4)
              go_wp2_with fail
              refine (K.pcv A k lcap f PC HPC.out _ Hmm.out HO4.out.rs Hv4.out).mono ?_; rintro e w5 ⟨rfl, hb5⟩; have hz5 := hb5.size; (try simp at hz5)
              have Hov5 := Lib.hid (Hov4.out.below hb5)
              go_wp2_with fail
              refine (I_ap.apv A5 k c5 G AP HGA.out _ Hmm.out Hov5.out.rs).mono ?_; rintro e w6 ⟨rfl, hb6⟩; have hz6 := hb6.size; (try simp at hz6)
              go_wp2_with fail
              refine (alive_any _).mono ?_; rintro e w7 ⟨rfl, hb7⟩; have hz7 := hb7.size; (try simp at hz7)
              go_wp2
              go_ret
              exact ⟨rfl, HBr.out.trans (Below.mono (by (repeat (first | with_reducible exact Below.refl _ _ | with_reducible assumption | ((with_reducible refine Below.alloc ?_ ?_ _); rotate_left; focus (first | with_reducible exact Nat.le_refl _ | omega | (simp; done) | (simp; omega))) | ((with_reducible refine Below.setCell ?_ ?_ _); rotate_left; focus (first | with_reducible exact Nat.le_refl _ | omega | (simp; done) | (simp; omega))) | (with_reducible refine Below.drew ?_) | ((with_reducible refine Below.trans ?_ (Below.mono (by with_reducible assumption) ?_)); rotate_left; focus (first | with_reducible exact Nat.le_refl _ | omega | (simp; done) | (simp; omega)))))) HBr.out.size)⟩
            · have hap : (AP == 1) = true := by rw [HL1.out, ham, decide_eq_true (by omega)]; rfl
              have HAm := Lib.hid ham
              clear ham
              go_wp2_with fail
              refine (I_am.amv A k lcap f true HAm.out _ Hmm.out HOr.out.rs).mono ?_; rintro e w4 ⟨rfl, hb4⟩; have hz4 := hb4.size; (try simp at hz4)
              have HO4 := Lib.hid (HOr.out.below hb4)
              have Hov4 := Lib.hid (Hov.out.below hb4)
              have Hv4 := Lib.hid ((Hv.out.below HBr.out).below hb4)
              go_wp2_with fail
              refine (K.pcv A k lcap f PC HPC.out _ Hmm.out HO4.out.rs Hv4.out).mono ?_; rintro e w5 ⟨rfl, hb5⟩; have hz5 := hb5.size; (try simp at hz5)
              have Hov5 := Lib.hid (Hov4.out.below hb5)
              go_wp2_with fail
              refine (I_ap.apv A5 k c5 G AP HGA.out _ Hmm.out Hov5.out.rs).mono ?_; rintro e w6 ⟨rfl, hb6⟩; have hz6 := hb6.size; (try simp at hz6)
              go_wp2_with fail
              refine (alive_any _).mono ?_; rintro e w7 ⟨rfl, hb7⟩; have hz7 := hb7.size; (try simp at hz7)
              go_wp2
              go_ret
              exact ⟨rfl, HBr.out.trans (Below.mono (by (repeat (first | with_reducible exact Below.refl _ _ | with_reducible assumption | ((with_reducible refine Below.alloc ?_ ?_ _); rotate_left; focus (first | with_reducible exact Nat.le_refl _ | omega | (simp; done) | (simp; omega))) | ((with_reducible refine Below.setCell ?_ ?_ _); rotate_left; focus (first | with_reducible exact Nat.le_refl _ | omega | (simp; done) | (simp; omega))) | (with_reducible refine Below.drew ?_) | ((with_reducible refine Below.trans ?_ (Below.mono (by with_reducible assumption) ?_)); rotate_left; focus (first | with_reducible exact Nat.le_refl _ | omega | (simp; done) | (simp; omega)))))) HBr.out.size)⟩
end Go.Proofs.YtkfeeijiockdhaaDoor
