
/- Chapter 2: sums over choices; SumsOf of spec. -/
import Derived.Test.YtipnldbdlimnhaaWith2
import Derived.Test.YtipnldbdlimnhaaUn3
import Derived.Deep.RegionHeld3
import Derived.Deep.DeepCutAuto
namespace Go.Proofs.Ytipnldbdlimnhaa
open Go.RowKit Go.Sort Go.BigFrame
set_option linter.unusedVariables false
/-- what the choice t adds to the sum at place j -/
def addF (f : Nat → Rt) (n j t : Nat) : Int := if (subTo f t n).length = j + 1 then areaC (subTo f t n) else 0
/-- the sums when the choices below s are done -/
def accF (f : Nat → Rt) (n s j : Nat) : Int := sumN s (addF f n j)
theorem accF_all (f : Nat → Rt) (n j : Nat) : accF f n (2 ^ n) j = sumsAt f n j := rfl
theorem subTo_zero (f : Nat → Rt) (n : Nat) : subTo f 0 n = [] := by
  induction n with
  | zero => rfl
  | succ n ih => simp only [subTo]; rw [ih]; simp
theorem accF_one (f : Nat → Rt) (n j : Nat) : accF f n 1 j = 0 := by
  unfold accF addF
  simp only [sumN]
  rw [subTo_zero]
  simp
theorem sub_len (f : Nat → Rt) (s k : Nat) : (subTo f s k).length = popTo s k := by
  induction k with
  | zero => rfl
  | succ k ih => simp only [subTo, popTo, List.length_append, ih]; split <;> simp
theorem popTo_pos {s n : Nat} (h1 : 1 ≤ s) (h2 : s < 2 ^ n) : 0 < popTo s n := by
  induction n with
  | zero => omega
  | succ n ih =>
    simp only [popTo]
    by_cases h : s < 2 ^ n
    · have := ih h; omega
    · have : s.testBit n = true := by
        have h3 : s = 2 ^ n + (s - 2 ^ n) := by omega
        have h4 : s - 2 ^ n < 2 ^ n := by have := Nat.pow_succ 2 n; omega
        rw [h3, Nat.testBit_two_pow_add_eq, Nat.testBit_lt_two_pow h4]; rfl
      rw [this]; simp
theorem accF_step (f : Nat → Rt) (n s j : Nat) : accF f n (s + 1) j = accF f n s j + addF f n j s := rfl
theorem addF_bd (f : Nat → Rt) (n j t : Nat) : 0 ≤ addF f n j t ∧ addF f n j t ≤ 400 := by
  unfold addF
  split
  · exact ⟨areaC_nonneg _, areaC_le _⟩
  · omega
theorem accF_bd (f : Nat → Rt) (n s j : Nat) : 0 ≤ accF f n s j ∧ accF f n s j ≤ 400 * s := by
  induction s with
  | zero => simp [accF, sumN]
  | succ s ih => rw [accF_step]; have := addF_bd f n j s; omega
theorem pow_le7 (n : Nat) (h : n ≤ 7) : 2 ^ n ≤ 128 := by
  have := Nat.pow_le_pow_right (n := 2) (by omega) h
  omega
theorem shl_eq : ∀ n : Fin 8, IntKind.i64.wrap ((2 : Int) ^ n.val) = ((2 ^ n.val : Nat) : Int) := by decide +kernel
theorem bit_eq : ∀ s : Fin 128, ∀ i : Fin 7, ((((s.val : Nat) : Int) / 2 ^ i.val).tmod 2 == 1) = s.val.testBit i.val := by decide +kernel

theorem up_snoc (f : Nat → Rt) (n : Nat) (r : Rt) : upTo (withF f n r) (n + 1) = upTo f n ++ [r] := by
  have : ∀ k, k ≤ n → upTo (withF f n r) k = upTo f k := by
    intro k
    induction k with
    | zero => intro _; rfl
    | succ k ih => intro h; simp only [upTo]; rw [ih (by omega)]; unfold withF; rw [if_pos (by omega)]
  simp only [upTo]
  rw [this n (Nat.le_refl _)]
  unfold withF
  rw [if_neg (by omega)]
theorem okTo_with (f : Nat → Rt) (n : Nat) (r : Rt) : okTo (withF f n r) (n + 1) = (okTo f n && okB r) := by
  simp only [okTo]
  rw [okTo_congr (f := withF f n r) (f' := f) n (fun i hi => by unfold withF; rw [if_pos hi]), show withF f n r n = r by unfold withF; rw [if_neg (by omega)]]
/-- what the chosen ones, laid beside each other, have in common -/
theorem ac_some {G f : Nat → Rt} {L t n : Nat} (h7 : L ≤ 7) (h0 : 0 < L) (hok : okTo G L = true) (hu : upTo G L = subTo f t n) :
    acF G L = okB (foldC (subTo f t n)) ∧ acRF G L = onlyR (foldC (subTo f t n)) := by
  have h1 : acF G L = okB (foldC (subTo f t n)) := by
    unfold acF laidF; rw [hok, hu, show decide (L ≤ 7) = true by simpa using h7, show decide (L = 0) = false by simp; omega]; simp
  exact ⟨h1, by unfold acRF onlyR; rw [h1, hu]⟩
theorem sac_val8 (A : Option Addr) (n cap : Nat) (f : Nat → Rt) (r : Rt) (b : Bool) (h1 : acRF f n = r) (h2 : acF f n = b) (w : World) (hn : n ≤ maxLen) (hr : Rs w A n f) :
    Calls Try.prog 24 #[.slice A n cap] w fun e w' => e = .returned (.tuple #[rv r, .bool b]) ∧ Below w.heap.size w w' := by
  subst h1 h2; exact sac_any A n cap f w hn hr
theorem sarea_val8 (a : Rt) (v : Int) (h : areaM a = v) (w : World) :
    Calls Try.prog 59 #[rv a] w fun e w' => e = .returned (.int .i64 v) ∧ Below w.heap.size w w' := h ▸ sarea_any a w
/-- Ints are handed back, in a block of the call's own. -/
def IntsPost (n : Nat) (f : Nat → Int) (w : World) (e : Ending) (w' : World) : Prop :=
  ∃ A cap g, e = .returned (.slice A n cap) ∧ Iw w' A n f g ∧ w.heap.size ≤ g ∧ Below w.heap.size w w'
theorem add_not (f : Nat → Rt) (n j t : Nat) (h : okB (foldC (subTo f t n)) = false) : addF f n j t = 0 := by
  unfold addF areaC; rw [h]; simp
theorem add_yes (f : Nat → Rt) (n j t : Nat) (h : okB (foldC (subTo f t n)) = true) : addF f n j t = if popTo t n = j + 1 then areaM (foldC (subTo f t n)) else 0 := by
  unfold addF areaC; rw [h, sub_len]; rfl
theorem bel_set {B : Nat} {a w : World} (h : Below B a w) {g o : Nat} (hg : B ≤ g) (u : Value) : Below B a (w.setCell ⟨g, o, none⟩ u) := h.setCell (p := ⟨g, o, none⟩) hg u

set_option maxHeartbeats 4000000 in
theorem ssums_any (A : Option Addr) (n cap : Nat) (f : Nat → Rt) (w : World) (hn : n ≤ maxLen) (hr : Rs w A n f) :
    Calls Try.prog 28 #[.slice A n cap] w (IntsPost (cntF (laidF f n) n) (sumsAt f n) w) := by
  have Hn := Lib.hid hn
  have Hr := Lib.hid hr
  clear hn hr
  cases hl : laidF f n
  · go_enter Try.func28, Try.ntmps28
    go_wp2_with fail
    refine (slaid_val A n cap f false hl _ Hn.out Hr.out).mono ?_; rintro e w1 ⟨rfl, hb1⟩; have hz1 := hb1.size; (try simp at hz1)
    go_wp2
    go_ret
    exact ⟨_, 0, w.heap.size, rfl, Or.inl rfl, Nat.le_refl _, by (repeat (first | with_reducible exact Below.refl _ _ | with_reducible assumption | ((with_reducible refine Below.alloc ?_ ?_ _); rotate_left; focus (first | with_reducible exact Nat.le_refl _ | omega | (simp; done) | (simp; omega))) | ((with_reducible refine Below.setCell ?_ ?_ _); rotate_left; focus (first | with_reducible exact Nat.le_refl _ | omega | (simp; done) | (simp; omega))) | (with_reducible refine Below.drew ?_) | ((with_reducible refine Below.trans ?_ (Below.mono (by with_reducible assumption) ?_)); rotate_left; focus (first | with_reducible exact Nat.le_refl _ | omega | (simp; done) | (simp; omega)))))⟩
  · obtain ⟨h7, hok⟩ := laidF_ok hl
    have Hok := Lib.hid hok
    clear hok
    have hmk := make_ints n n (Nat.le_refl _) (by omega)
    have hsh := shl_eq ⟨n, by omega⟩
    dsimp only at hsh
    have hP1 := pow_le7 n h7
    have hP2 : 0 < 2 ^ n := Nat.two_pow_pos n
    generalize hP : 2 ^ n = P at hsh hP1 hP2
    have HP := Lib.hid hP
    clear hP
    go_enter Try.func28, Try.ntmps28
    go_wp2_with fail
    refine (slaid_val A n cap f true hl _ Hn.out Hr.out).mono ?_; rintro e w1 ⟨rfl, hb1⟩; have hz1 := hb1.size; (try simp at hz1)
    have Hr1 := Lib.hid (Hr.out.below hb1)
    have Hb1 := Lib.hid hb1
    clear hb1
    go_wp2
    clear hmk
    go_loopw [4] (fun s wr => ∃ t : Nat, 1 ≤ t ∧ t ≤ P ∧ s = .int .i64 t ∧ Iw wr (some ⟨w1.heap.size, 0, none⟩) n (accF f n t) w1.heap.size ∧ Below w1.heap.size w1 wr) (fun s _ => P - (intOf s).toNat)
    case atStart => exact ⟨1, Nat.le_refl _, hP2, rfl, (Iw.made w1 n).congr (fun i _ => (accF_one f n i).symm), (Below.refl _ _).alloc (Nat.le_refl _) _⟩
    case round =>
      obtain ⟨t, ht1, ht, rfl, hI, hbr⟩ := hrel
      have HI := Lib.hid hI
      have HB := Lib.hid hbr
      have hzr : w1.heap.size ≤ wr.heap.size := hbr.size
      clear hI hbr
      by_cases hlt : t < P
      · have hlo : n = 0 ∨ w1.heap.size < wr.heap.size := by
          rcases HI.out with h | ⟨_, h, _⟩
          · exact Or.inl h
          · exact Or.inr h
        go_wp2
        obtain ⟨wo, rfl⟩ : ∃ wo : World, wo = wr := ⟨_, rfl⟩
        go_loopw [5, 6] (fun s5 s6 wr => ∃ (k L : Nat) (A5 : Option Addr) (c5 : Nat) (G : Nat → Rt), k ≤ n ∧ s6 = .int .i64 k ∧ s5 = .slice A5 L c5 ∧ L = popTo t k ∧ upTo G L = subTo f t k ∧ okTo G L = true ∧ wr.ownsRow wo.heap.size 27 4 (.slice A5 L c5) L (rowL G L) ∧ Below wo.heap.size wo wr) (fun _ s6 _ => n - (intOf s6).toNat)
        case atStart => exact ⟨0, 0, _, 0, fun _ => Rt.zero, Nat.zero_le _, rfl, rfl, rfl, rfl, rfl, own_empty wo wo.heap.size wo.heap.size rfl (Nat.le_refl _), (Below.refl _ _).alloc (Nat.le_refl _) _⟩
        case round =>
          obtain ⟨k, L, A5, c5, G, hk, rfl, rfl, hL, hu, hG, hown, hbi⟩ := hrel
          have HL := Lib.hid hL
          have HU := Lib.hid hu
          have HG := Lib.hid hG
          have HO := Lib.hid hown
          have HBI := Lib.hid hbi
          have hzi : wo.heap.size ≤ wr.heap.size := hbi.size
          have hLk := popTo_le t k
          rw [← hL] at hLk
          clear hL hu hG hown hbi
          by_cases hlt2 : k < n
          · obtain ⟨b, off, rfl, hbl, c0, c1, c2, c3⟩ := (Hr1.out.below (HB.out.trans (HBI.out.mono hzr))).at_ hlt2
            have hbit := bit_eq ⟨t, by omega⟩ ⟨k, by omega⟩
            dsimp only at hbit
            have HS : Hid (subTo f t (k + 1) = subTo f t k ++ (if t.testBit k then [f k] else [])) := Lib.hid rfl
            have HPp : Hid (popTo t (k + 1) = popTo t k + (if t.testBit k then 1 else 0)) := Lib.hid rfl
            cases htb : t.testBit k
            · rw [htb] at hbit
              go_wp2
              go_roundw
              case rel => exact ⟨k + 1, L, _, c5, G, by omega, by go_num, rfl, by rw [HPp.out, htb, HL.out]; rfl, by rw [HS.out, htb, HU.out]; simp, HG.out, HO.out, HBI.out⟩
              case measure => simp [intOf]; omega
            · rw [htb] at hbit
              have hokk := okTo_le Hok.out hlt2
              have Hown := Lib.hid (HO.out.alloc (.cells #[.int .i64 (f k).l, .int .i64 (f k).o, .int .i64 (f k).r, .int .i64 (f k).h] 27))
              go_wp2_with (refine list_rects _ rfl (.tmp 35) (.tmp 40) rfl wo.heap.size _ L (rowL G L) rfl Hown.out _ 1 1 (four (f k)) rfl rfl (fun e => by cases e) (Four.new wr (f k) _ rfl).ne (four_one (f k)) (by omega) (by simp; omega) ?_; intro A3 c3' w3 hown3 hg3 hb3; rw [rowL_with] at hown3; have HO3 := Lib.hid hown3; have HB3 := Lib.hid hb3; clear hown3 hg3 hb3)
              go_roundw
              case rel =>
                refine ⟨k + 1, L + 1, A3, c3', withF G L (f k), by omega, by go_num, rfl, by rw [HPp.out, htb, HL.out]; rfl, ?_, ?_, HO3.out, ?_⟩
                · rw [up_snoc, HU.out, HS.out, htb]; rfl
                · rw [okTo_with, HG.out, hokk]; rfl
                · exact HBI.out.trans (Below.trans ((Below.refl _ _).alloc hzi _) HB3.out)
              case measure => simp [intOf]; omega
          · obtain rfl : k = n := by omega
            have hLp : 0 < L := by rw [HL.out]; exact popTo_pos ht1 (by rw [HP.out]; exact hlt)
            obtain ⟨g5, o5, hg5, hd5⟩ := own_ow' HO.out
            obtain ⟨ha1, ha2⟩ := ac_some (G := G) (f := f) (t := t) (n := k) (by omega) hLp HG.out HU.out
            have hI2 := HI.out.below HBI.out
            have hlo2 : w1.heap.size < wo.heap.size := by omega
            have HI2 := Lib.hid hI2
            have HO5 := Lib.hid o5
            clear hI2 o5 hd5
            cases hO : okB (foldC (subTo f t k))
            · rw [hO] at ha1
              rw [show onlyR (foldC (subTo f t k)) = Rt.zero by unfold onlyR; rw [hO]; rfl] at ha2
              have HA2 := Lib.hid ha2
              clear ha2
              go_wp2_with fail
              refine (sac_val8 A5 L c5 G Rt.zero false HA2.out ha1 _ (by unfold maxLen; omega) HO5.out.rs).mono ?_; rintro e w4 ⟨rfl, hb4⟩; have hz4 := hb4.size; (try simp at hz4)
              go_wp2
              go_roundw
              case rel =>
                have hb5 : Below wr.heap.size wr (w4.alloc (.cells #[.int .i64 Rt.zero.l, .int .i64 Rt.zero.o, .int .i64 Rt.zero.r, .int .i64 Rt.zero.h] 27)) := by (repeat (first | with_reducible exact Below.refl _ _ | with_reducible assumption | ((with_reducible refine Below.alloc ?_ ?_ _); rotate_left; focus (first | with_reducible exact Nat.le_refl _ | omega | (simp; done) | (simp; omega))) | ((with_reducible refine Below.setCell ?_ ?_ _); rotate_left; focus (first | with_reducible exact Nat.le_refl _ | omega | (simp; done) | (simp; omega))) | (with_reducible refine Below.drew ?_) | ((with_reducible refine Below.trans ?_ (Below.mono (by with_reducible assumption) ?_)); rotate_left; focus (first | with_reducible exact Nat.le_refl _ | omega | (simp; done) | (simp; omega)))))
                have hb6 : Below wo.heap.size wo (w4.alloc (.cells #[.int .i64 Rt.zero.l, .int .i64 Rt.zero.o, .int .i64 Rt.zero.r, .int .i64 Rt.zero.h] 27)) := HBI.out.trans (hb5.mono hzi)
                refine ⟨t + 1, by omega, by omega, by go_num, ?_, HB.out.trans (hb6.mono hzr)⟩
                exact (HI.out.below hb6).congr (fun j _ => by rw [accF_step, add_not f k j t hO, Int.add_zero])
              case measure => simp [intOf]; omega
            · rw [hO] at ha1
              rw [show onlyR (foldC (subTo f t k)) = foldC (subTo f t k) by unfold onlyR; rw [hO]; rfl] at ha2
              generalize hC : foldC (subTo f t k) = C at ha2
              have HC := Lib.hid hC
              have HA2 := Lib.hid ha2
              clear hC ha2
              obtain ⟨V, hV⟩ : ∃ V, areaM C = V := ⟨_, rfl⟩
              have hVb := addF_bd f k (L - 1) t
              rw [add_yes f k (L - 1) t hO, ← HL.out, if_pos (by omega), HC.out, hV] at hVb
              obtain ⟨v1, v2⟩ := hVb
              obtain ⟨s1, s2⟩ := accF_bd f k t (L - 1)
              have hLi : ((L : Int) - 1).toNat = L - 1 := by omega
              have hi1 : (0 : Int) ≤ (L : Int) - 1 := by omega
              have hi2 : (L : Int) - 1 < (k : Int) := by omega
              go_wp2_with fail
              refine (sac_val8 A5 L c5 G C true HA2.out ha1 _ (by unfold maxLen; omega) HO5.out.rs).mono ?_; rintro e w4 ⟨rfl, hb4⟩; have hz4 := hb4.size; (try simp at hz4)
              have hI4 := HI2.out.below hb4
              have HI4 := Lib.hid hI4
              have hz14 : w1.heap.size < w4.heap.size := by omega
              rcases hI4 with h0 | ⟨_, hg1, hcc, hff⟩
              · omega
              have d0 := hcc (L - 1) (by omega)
              have e0 := hff (L - 1) (by omega)
              generalize hS : accF f k t (L - 1) = S0 at d0 s1 s2
              have HS0 := Lib.hid hS
              clear hcc hff hS
              go_wp2
              have hw1 : IntKind.i64.wrap ((L : Int) - 1) = (L : Int) - 1 := IntWalk.i64_in _ (by omega)
              have hw2 : IntKind.i64.wrap (S0 + V) = S0 + V := IntWalk.i64_in _ (by omega)
              go_region_with (go_at_call 59; refine (sarea_val8 C V hV _).mono ?_; rintro e wD ⟨rfl, hbD⟩; have hzD := hbD.size; (try simp at hzD); (try (have _ := fun o => hbD.cell (p := ⟨w1.heap.size, o, none⟩) (by first | omega | (simp; done) | (simp; omega)))); (try (have _ := fun o => hbD.frozen (p := ⟨w1.heap.size, o, none⟩) (by first | omega | (simp; done) | (simp; omega)))); (try (have _ := fun o => hbD.cell (p := ⟨w4.heap.size, o, none⟩) (by first | omega | (simp; done) | (simp; omega)))))
              all_goals
                clear hw1 hw2
                go_wp2
                go_roundw
                case rel =>
                  have hbE : Below w4.heap.size w4 wD := by (repeat (first | with_reducible exact Below.refl _ _ | with_reducible assumption | ((with_reducible refine Below.alloc ?_ ?_ _); rotate_left; focus (first | with_reducible exact Nat.le_refl _ | omega | (simp; done) | (simp; omega))) | ((with_reducible refine Below.setCell ?_ ?_ _); rotate_left; focus (first | with_reducible exact Nat.le_refl _ | omega | (simp; done) | (simp; omega))) | (with_reducible refine Below.drew ?_) | ((with_reducible refine Below.trans ?_ (Below.mono (by with_reducible assumption) ?_)); rotate_left; focus (first | with_reducible exact Nat.le_refl _ | omega | (simp; done) | (simp; omega)))))
                  have hb5 : Below wr.heap.size wr wD := hb4.trans (hbE.mono hz4)
                  have hb6 : Below wo.heap.size wo wD := HBI.out.trans (hb5.mono hzi)
                  have hset := ((HI2.out.below hb4).below hbE).set (k := L - 1) (f' := accF f k (t + 1)) (by omega) (fun i _ hne => by rw [accF_step, add_yes f k i t hO, ← HL.out, if_neg (by omega), Int.add_zero])
                  rw [accF_step, add_yes f k (L - 1) t hO, ← HL.out, if_pos (by omega), HC.out, hV, HS0.out] at hset
                  exact ⟨t + 1, by omega, by omega, by go_num, hset, bel_set (HB.out.trans (hb6.mono hzr)) (Nat.le_refl _) _⟩
                case measure => simp [intOf]; omega
      · obtain rfl : t = P := by omega
        have HI3 := Lib.hid (HI.out.congr (f' := sumsAt f n) (fun j _ => by rw [← HP.out]; rfl))
        go_wp2
        go_ret
        exact ⟨_, n, w1.heap.size, rfl, HI3.out, Hb1.out.size, Hb1.out.trans (HB.out.mono hz1)⟩
end Go.Proofs.Ytipnldbdlimnhaa
