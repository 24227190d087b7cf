
/- Chapter 4 of impl: a piece is taken away. -/
import Derived.Test.YtbdpngjakccjjaaDoorFram6
namespace Go.Proofs.YtbdpngjakccjjaaDoor
open Go.RowKit Go.Sort
set_option linter.unusedVariables false
set_option linter.unusedSimpArgs false
theorem tk_own {G S : Nat → Bool} {c : Bool} {o : Nat} (ho : o < 484) (hG : G o = c) (hS : S o = false) : tkS G c S ((o % 22 : Nat) : Int) ((o / 22 : Nat) : Int) = putB S o := by
  have hz : inZ ((o % 22 : Nat) : Int) ((o / 22 : Nat) : Int) = true := by unfold inZ; rw [decide_eq_true_iff]; omega
  have e : 22 * ((o / 22 : Nat) : Int).toNat + ((o % 22 : Nat) : Int).toNat = o := by rw [Int.toNat_natCast, Int.toNat_natCast]; omega
  unfold tkS tkB avB
  rw [hz, e, hG, hS]; simp
theorem tkS_no {G S : Nat → Bool} {c : Bool} {P Q : Int} (h : tkB G c S P Q = false) : tkS G c S P Q = S := by unfold tkS; rw [h]; rfl
theorem tkS_yes {G S : Nat → Bool} {c : Bool} {P Q : Int} (h : tkB G c S P Q = true) : tkS G c S P Q = putB S (22 * Q.toNat + P.toNat) := by unfold tkS; rw [h]; rfl
set_option maxHeartbeats 8000000 in
set_option maxRecDepth 100000 in
theorem takepiece_any (g sb scap o : Nat) (e8 c : Bool) (G S : Nat → Bool) (w : World) (ho : o < 484) (hG : G o = c) (hR : RB w g G c S) (hP : Ps w sb (stN e8)) (hne : sb ≠ g) (hS0 : S o = false) (hS : ∀ a b, EdE e8 c G a b → S a = true → S b = true) :
    Calls Tryd.prog 48 #[.pointer (some ⟨g, 0, none⟩), .agg #[.int .i64 (o % 22 : Nat), .int .i64 (o / 22 : Nat)], .slice (some ⟨sb, 0, none⟩) (stN e8) scap] w fun e w' => e = .returned (.tuple #[]) ∧ ∃ s, RB w' g G c s ∧ (∀ a, s a = true ↔ S a = true ∨ Rch (EdE e8 c G) o a) ∧ w.grownBy w' (some g) := by
  have hgl := hR.lt
  have hsl := hP.1
  have HS := Lib.hid hS
  have hb0 : Below w.heap.size w (w.alloc (.cells #[.int .i64 (o % 22 : Nat), .int .i64 (o / 22 : Nat)] 75)) := (Below.refl _ _).alloc (Nat.le_refl _) _
  have HR := Lib.hid (hR.below hb0)
  have HPs := Lib.hid (hP.below hb0)
  have HPl := Lib.hid (Pl.new w (o % 22 : Nat) (o / 22 : Nat) rfl)
  have HG0 := Lib.hid (grown_below (World.grownBy.refl w (some g)) hb0)
  have HN : Hid (stN e8 ≤ 8) := Lib.hid (stN_le e8).2
  obtain ⟨N, hN⟩ : ∃ N, stN e8 = N := ⟨_, rfl⟩
  have HNN := Lib.hid hN
  rw [hN]
  clear hR hP hS hb0 hN
  go_enter Tryd.func48, Tryd.ntmps48
  go_wp2_with fail
  refine (take_rb g ((o % 22 : Nat) : Int) ((o / 22 : Nat) : Int) G S c _ HR.out).mono ?_; rintro e w1 ⟨rfl, hr1, hg1⟩
  rw [tk_own ho hG hS0] at hr1
  have HR1 := Lib.hid hr1
  have HG1 := Lib.hid (HG0.out.trans hg1)
  have HP1 := Lib.hid (HPs.out.grown hg1 hne)
  obtain ⟨q0, q1, q2⟩ := HPl.out.grown hg1 (by omega)
  have hz1 : w.heap.size ≤ w1.heap.size := HG1.out.size
  clear hr1 hg1
  go_wp2
  go_loopw [6] (fun t6 wr => ∃ (h cap : Nat) (st : List Nat) (s : Nat → Bool), t6 = .slice (some ⟨h, 0, none⟩) st.length cap ∧ FillQ w wr g sb e8 c G S o (fun _ _ => False) h cap st s 969) (fun t6 wr => lenOf t6 + 2 * restB 484 (goneAt wr g))
  case atStart =>
    have hb : Below w1.heap.size w1 (w1.alloc (.cells #[.int .i64 (o % 22 : Nat), .int .i64 (o / 22 : Nat)] 75)) := (Below.refl _ _).alloc (Nat.le_refl _) _
    refine ⟨w1.heap.size, 1, [o], putB S o, rfl, StP.one _ _ _ rfl hz1 o, HR1.out.below hb, HP1.out.below hb, grown_below HG1.out hb, (Flood.start _ S o).in_congr (fun a => by simp), ?_, ?_⟩
    · have := restB_le 484 (fun a => !avB G c (putB S o) a)
      simp only [List.length_singleton]; omega
    · intro a ha; rw [List.mem_singleton.1 ha]; exact ho
  case round =>
    obtain ⟨h, cap, st, s, rfl, hp⟩ := hrel
    have HP := Lib.hid hp
    clear hp
    rcases List.eq_nil_or_concat st with rfl | ⟨st', k, hst⟩
    · go_wp2
      go_end0
      exact ⟨rfl, s, HP.out.rb, HP.out.fl.ended (fun a => by simp) (fun _ _ => id) (fun _ _ => EdE.symm) HS.out, HP.out.gr⟩
    · rw [List.concat_eq_append] at hst
      subst hst
      have hms := HP.out.ms
      have hk := HP.out.inn k (by simp)
      obtain ⟨htop0, htop1⟩ := HP.out.own.top
      have hcap := HP.out.own.capLe
      have HK := Lib.hid (HP.out.fl.todo k (by simp))
      have HGK : Hid (G k = c) := Lib.hid ((rchE_col HK.out.2).1 hG)
      obtain ⟨M, HM⟩ : ∃ M, Hid (M = st'.length + 2 * restB 484 (fun a => !avB G c s a) ∧ restB 484 (goneAt wr g) = restB 484 (fun a => !avB G c s a)) := ⟨_, Lib.hid ⟨rfl, HP.out.rb.gone⟩⟩
      have HB := Lib.hid (HP.out.begin (Nat.le_of_eq HM.out.1.symm))
      simp only [List.length_append, List.length_singleton] at hms hcap ⊢
      generalize hL : st'.length = L at hms htop0 htop1 hcap ⊢
      have HL := Lib.hid hL
      have hL0 : 0 < (L : Int) + 1 := by omega
      obtain ⟨X, hX⟩ : ∃ X : Int, ((k % 22 : Nat) : Int) = X := ⟨_, rfl⟩
      obtain ⟨Y, hY⟩ : ∃ Y : Int, ((k / 22 : Nat) : Int) = Y := ⟨_, rfl⟩
      rw [hX] at htop0
      rw [hY] at htop1
      have hX1 : 0 ≤ X ∧ X < 22 := by omega
      have hY1 : 0 ≤ Y ∧ Y < 22 := by omega
      have HX := Lib.hid (And.intro hX hY)
      clear hL hX hY
      go_wp2
      obtain ⟨b7, hb7⟩ : ∃ b, wr.heap.size = b := ⟨_, rfl⟩
      have HB7 := Lib.hid hb7
      have hba : Below wr.heap.size wr (wr.alloc (.cells #[.int .i64 X, .int .i64 Y] 75)) := (Below.refl _ _).alloc (Nat.le_refl _) _
      have HBa := Lib.hid (HB.out.below hba)
      have HPL := Lib.hid (Pl.new wr X Y hb7)
      have hwb : w.heap.size ≤ b7 := by rw [← hb7]; exact HP.out.gr.size
      have hh7 : h ≠ b7 := by have := HB.out.own.blk.2; omega
      rw [hb7]
      clear hb7 hba
      go_loopw [6, 32] (fun t6 t32 wi => ∃ (i h cap : Nat) (st : List Nat) (s : Nat → Bool), i ≤ N ∧ t32 = .int .i64 (i : Nat) ∧ t6 = .slice (some ⟨h, 0, none⟩) st.length cap ∧ h ≠ b7 ∧ Pl wi b7 X Y ∧ FillQ w wi g sb e8 c G S o (RmS (stN e8) k i) h cap st s M) (fun _ t32 _ => N - (intOf t32).toNat)
      case atStart => exact ⟨0, h, cap, st', s, Nat.zero_le _, rfl, by rw [HL.out], hh7, HPL.out, HBa.out⟩
      case round =>
        obtain ⟨i, h, cap, st, s, hi, rfl, rfl, hh7, hpl, hp⟩ := hrel
        have HPX := Lib.hid hp
        have HPLX := Lib.hid hpl
        have hst6 : st.length ≤ 1000000 := by have := hp.ms; have := HM.out.1; have := HL.out; omega
        have hsw : w.heap.size ≤ wr.heap.size := hp.gr.size
        obtain ⟨q0, q1, q2⟩ := hpl
        clear hp
        by_cases hlt : i < N
        · have hiN : (i : Int) < (N : Int) := by omega
          have hi8 : i < 8 := by have := HN.out; have := HNN.out; omega
          have hit : i < stN e8 := by rw [HNN.out]; exact hlt
          obtain ⟨p0, p1⟩ := HPX.out.ps.2 i hit
          have hps := HPX.out.ps.1
          obtain ⟨⟨u1, u2⟩, ⟨v1, v2⟩, _, _⟩ := dXY_bd i hi8
          have HST := Lib.hid (fun (j : Nat) (hh : StepTo k i j) => (show ((j % 22 : Nat) : Int) = X + dX i ∧ ((j / 22 : Nat) : Int) = Y + dY i from ⟨by rw [← HX.out.1]; exact hh.1, by rw [← HX.out.2]; exact hh.2⟩))
          have HIN := Lib.hid (fun hz => step_in (k := k) (t := i) hk hz)
          have HPASS := Lib.hid (fun (wn : World) hf hg hr => HPX.out.pass (wn := wn) (t := i) hf hg hr hgl hne)
          rw [HX.out.1, HX.out.2] at HIN HPASS
          generalize dX i = U at p0 u1 u2 HIN HPASS HST
          generalize dY i = V at p1 v1 v2 HIN HPASS HST
          have hbx : Below wr.heap.size wr ((wr.alloc (.cells #[.int .i64 U, .int .i64 V] 75)).alloc (.cells #[.int .i64 (X + U), .int .i64 (Y + V)] 75)) := by (repeat (first | with_reducible exact Below.refl _ _ | with_reducible assumption | ((with_reducible refine Below.alloc ?_ ?_ _); rotate_left; focus (first | with_reducible exact Nat.le_refl _ | omega | (simp; done) | (simp; omega))) | ((with_reducible refine Below.setCell ?_ ?_ _); rotate_left; focus (first | with_reducible exact Nat.le_refl _ | omega | (simp; done) | (simp; omega))) | (with_reducible refine Below.drew ?_) | ((with_reducible refine Below.trans ?_ (Below.mono (by with_reducible assumption) ?_)); rotate_left; focus (first | with_reducible exact Nat.le_refl _ | omega | (simp; done) | (simp; omega)))))
          have HBX := Lib.hid hbx
          have HRX := Lib.hid (HPX.out.rb.below hbx)
          have HPN : Hid (Pl ((wr.alloc (.cells #[.int .i64 U, .int .i64 V] 75)).alloc (.cells #[.int .i64 (X + U), .int .i64 (Y + V)] 75)) (wr.heap.size + 1) (X + U) (Y + V)) := Lib.hid (Pl.new _ _ _ (by simp))
          clear hbx
          go_wp2_with fail
          refine (take_rb g (X + U) (Y + V) G s c _ HRX.out).mono ?_; rintro e w2 ⟨rfl, hr2, hg2⟩
          have HR2 := Lib.hid hr2
          have HG2 := Lib.hid hg2
          have HPN2 := Lib.hid (HPN.out.grown hg2 (by omega))
          clear hr2 hg2
          have HGB := Lib.hid ((grown_below (World.grownBy.refl wr (some g)) HBX.out).trans HG2.out)
          have hw2 : b7 < w2.heap.size := (HPLX.out.grown HGB.out (by omega)).1
          cases hT : tkB G c s (X + U) (Y + V)
          · go_wp2
            go_roundw
            case rel =>
              have hr2 := HR2.out
              rw [tkS_no hT] at hr2
              exact ⟨i + 1, h, cap, st, s, by omega, by go_num, rfl, hh7, HPLX.out.grown HGB.out (by omega), HPASS.out w2 hT HGB.out hr2⟩
            case measure => simp [intOf]; omega
          · obtain ⟨hz, hav⟩ : inZ (X + U) (Y + V) = true ∧ avB G c s (22 * (Y + V).toNat + (X + U).toNat) = true := by
              unfold tkB at hT; rw [Bool.and_eq_true] at hT; exact hT
            obtain ⟨j, hj, hj4, hjs⟩ := HIN.out hz
            obtain ⟨j1, j2⟩ := HST.out j hjs
            rw [hj] at hav
            have hr2 := HR2.out
            rw [tkS_yes hT, hj] at hr2
            have HR3 := Lib.hid hr2
            obtain ⟨_, n1, n2⟩ := HPN2.out
            have hbn : Below w2.heap.size w2 (w2.alloc (.cells #[.int .i64 (X + U), .int .i64 (Y + V)] 75)) := (Below.refl _ _).alloc (Nat.le_refl _) _
            have HOW := Lib.hid ((HPX.out.own.grown HGB.out hgl).below hbn)
            have HNP := Lib.hid (Pl.new w2 (X + U) (Y + V) rfl)
            have HBN := Lib.hid hbn
            have HJ := Lib.hid (And.intro hjs (And.intro j1 j2))
            have HAV := Lib.hid hav
            have HPB := Lib.hid ((HPLX.out.grown HGB.out (by omega)).below hbn)
            clear hr2 hbn hz hj hjs hav
            go_wp2_with (at_builtin; refine list_place1 _ rfl (.tmp 50) (.tmp 52) rfl w.heap.size h cap st rfl HOW.out w2.heap.size j rfl (by rw [HJ.out.2.1]; exact HNP.out.2.1) (by rw [HJ.out.2.2]; exact HNP.out.2.2) hst6 (by simp; omega) ?_)
            intro h' cap' w6 hI6 hb6 hg6 hh6
            have HI6 := Lib.hid hI6
            have HB6 := Lib.hid hb6
            have HPB6 := Lib.hid (HPB.out.grown hg6 (fun e => hh7 e.symm))
            have hne6 : h' ≠ b7 := by
              rcases hh6 with e | e
              · rw [e]; exact hh7
              · rw [e]; simp; omega
            clear hI6 hb6 hg6 hh6
            go_wp2
            go_roundw
            case rel =>
              refine ⟨i + 1, h', cap', st ++ [j], putB s j, by omega, by go_num, by rw [List.length_append, List.length_singleton], hne6, HPB6.out, ?_⟩
              exact HPX.out.push hk HGK.out HK.out.2 hit hj4 HJ.out.1 HAV.out HGB.out HR3.out hgl hne hsl ((HBN.out.mono (by omega)).trans HB6.out) HI6.out
            case measure => simp [intOf]; omega
        · have hin : i = N := by omega
          subst hin
          go_wp2
          refine ⟨⟨h, cap, st, s, rfl, HPX.out.fin (by rw [HNN.out]; exact Nat.le_refl _) (by have := HM.out.1; have := HL.out; omega)⟩, ?_⟩
          have m1 := HPX.out.ms
          have m2 := HPX.out.rb.gone
          obtain ⟨m3, m4⟩ := HM.out
          have m5 := HL.out
          simp only [lenOf]
          omega
end Go.Proofs.YtbdpngjakccjjaaDoor
