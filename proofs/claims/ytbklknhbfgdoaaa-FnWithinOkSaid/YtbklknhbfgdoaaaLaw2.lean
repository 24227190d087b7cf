/- The laws of chapter 1 on rectangles within others and on moving: their walks. -/
import Derived.Test.YtbklknhbfgdoaaaLaw1
namespace Go.Proofs.Ytbklknhbfgdoaaa
open Go.RowKit Go.Sort Go.BigFrame
set_option linter.unusedVariables false
theorem Rt.ext' {a b : Rt} (h1 : a.l = b.l) (h2 : a.o = b.o) (h3 : a.r = b.r) (h4 : a.h = b.h) : a = b := by
  cases a; cases b; simp_all
theorem wiB_iff {a b : Rt} : wiB a b = true ↔ okB a = true ∧ okB b = true ∧ b.l ≤ a.l ∧ b.o ≤ a.o ∧ a.r ≤ b.r ∧ a.h ≤ b.h := by
  unfold wiB bothB
  rw [Bool.and_eq_true, Bool.and_eq_true, insideB_iff]
  constructor
  · rintro ⟨⟨h1, h2⟩, h3⟩; exact ⟨h1, h2, h3⟩
  · rintro ⟨h1, h2, h3⟩; exact ⟨⟨h1, h2⟩, h3⟩
theorem cmB_iff {a b : Rt} : cmB a b = true ↔ okB a = true ∧ okB b = true ∧ okB (commonR a b) = true := by
  unfold cmB bothB
  rw [Bool.and_eq_true, Bool.and_eq_true]
  constructor
  · rintro ⟨⟨h1, h2⟩, h3⟩; exact ⟨h1, h2, h3⟩
  · rintro ⟨h1, h2, h3⟩; exact ⟨⟨h1, h2⟩, h3⟩
theorem cmR_yes {a b : Rt} (h : cmB a b = true) : cmR a b = commonR a b := by unfold cmR; rw [h]; rfl
theorem cmR_no {a b : Rt} (h : cmB a b = false) : cmR a b = Rt.zero := by unfold cmR; rw [h]; rfl
theorem wi_self {a : Rt} (h : okB a = true) : wiB a a = true := wiB_iff.2 ⟨h, h, by omega⟩
theorem wi_anti {a b : Rt} (h : wiB a b = true) (k : wiB b a = true) : a = b := by
  have h1 := (wiB_iff.1 h).2.2
  have h2 := (wiB_iff.1 k).2.2
  exact Rt.ext' (by omega) (by omega) (by omega) (by omega)
theorem wi_common {a b : Rt} (h : wiB a b = true) : commonR a b = a := by
  have h1 := (wiB_iff.1 h).2.2
  unfold commonR
  exact Rt.ext' (by dsimp only; omega) (by dsimp only; omega) (by dsimp only; omega) (by dsimp only; omega)
theorem wi_cm {a b : Rt} (h : wiB a b = true) : cmB a b = true := by
  have h1 := wiB_iff.1 h
  exact cmB_iff.2 ⟨h1.1, h1.2.1, by rw [wi_common h]; exact h1.1⟩
theorem wi_cmR {a b : Rt} (h : wiB a b = true) : cmR a b = a := by rw [cmR_yes (wi_cm h), wi_common h]
theorem cm_wi {a b : Rt} (h : cmB a b = true) (k : cmR a b = a) : wiB a b = true := by
  have h1 := cmB_iff.1 h
  rw [cmR_yes h] at k
  have e1 := congrArg Rt.l k
  have e2 := congrArg Rt.o k
  have e3 := congrArg Rt.r k
  have e4 := congrArg Rt.h k
  unfold commonR at e1 e2 e3 e4
  dsimp only at e1 e2 e3 e4
  exact wiB_iff.2 ⟨h1.1, h1.2.1, by omega⟩

set_option maxHeartbeats 4000000 in
theorem walkWithinOk (a : Option Addr) (len cap : Nat) (w : World) (hc : Came w a len cap) :
    Calls Try.prog 7 #[.slice a len cap] w fun e w' => e = .returned (.bool true) ∧ Below w.heap.size w w' := by
  have hm := hc.len_le
  by_cases hl : 1048576 < len
  · go_enter Try.func7, Try.ntmps7
    go_wp2
    go_ret
    exact ⟨rfl, Below.refl _ _⟩
  · go_enter Try.func7, Try.ntmps7
    go_wp2_with fail
    refine (dWithinOk _ _ _ _ hc).mono ?_; rintro e w1 hp; obtain ⟨r, s, rfl, nr, ns, hb1⟩ := hp; have hz1 := hb1.size; (try simp at hz1)
    cases h1 : okB r
    · have h3 : wiB r s = false := by unfold wiB bothB; rw [h1]; rfl
      go_wp2_with fail
      refine (iwi_any r s _).mono ?_; rintro e w2 ⟨rfl, hb2⟩; have hz2 := hb2.size; (try simp at hz2); have _ : w1.heap.size < w2.heap.size := (by first | (simp; done) | omega | (simp; omega)); have _ : w1.heap.size + 1 < w2.heap.size := (by first | (simp; done) | omega | (simp; omega)); have _ := fun o => hb2.cell (p := ⟨w1.heap.size, o, none⟩) (by first | (simp; done) | omega | (simp; omega)); have _ := fun o => hb2.cell (p := ⟨w1.heap.size + 1, o, none⟩) (by first | (simp; done) | omega | (simp; omega))
      go_wp2_with fail
      refine (swi_any r s _).mono ?_; rintro e w3 ⟨rfl, hb3⟩; have hz3 := hb3.size; (try simp at hz3); have _ : w1.heap.size < w3.heap.size := (by first | (simp; done) | omega | (simp; omega)); have _ : w1.heap.size + 1 < w3.heap.size := (by first | (simp; done) | omega | (simp; omega)); have _ := fun o => hb3.cell (p := ⟨w1.heap.size, o, none⟩) (by first | (simp; done) | omega | (simp; omega)); have _ := fun o => hb3.cell (p := ⟨w1.heap.size + 1, o, none⟩) (by first | (simp; done) | omega | (simp; omega))
      go_wp2_with fail
      refine (sok_any r _).mono ?_; rintro e w4 ⟨rfl, hb4⟩; have hz4 := hb4.size; (try simp at hz4); have _ : w1.heap.size < w4.heap.size := (by first | (simp; done) | omega | (simp; omega)); have _ : w1.heap.size + 1 < w4.heap.size := (by first | (simp; done) | omega | (simp; omega)); have _ := fun o => hb4.cell (p := ⟨w1.heap.size, o, none⟩) (by first | (simp; done) | omega | (simp; omega)); have _ := fun o => hb4.cell (p := ⟨w1.heap.size + 1, o, none⟩) (by first | (simp; done) | omega | (simp; omega))
      go_wp2_with fail
      refine (alive_any _).mono ?_; rintro e w5 ⟨rfl, hb5⟩; have hz5 := hb5.size; (try simp at hz5)
      go_wp2
      go_ret
      exact ⟨rfl, by (repeat (first | with_reducible exact Below.refl _ _ | with_reducible assumption | ((with_reducible refine Below.alloc ?_ ?_ _); rotate_left; focus (first | with_reducible exact Nat.le_refl _ | omega | (simp; done) | (simp; omega))) | ((with_reducible refine Below.setCell ?_ ?_ _); rotate_left; focus (first | with_reducible exact Nat.le_refl _ | omega | (simp; done) | (simp; omega))) | (with_reducible refine Below.drew ?_) | ((with_reducible refine Below.trans ?_ (Below.mono (by with_reducible assumption) ?_)); rotate_left; focus (first | with_reducible exact Nat.le_refl _ | omega | (simp; done) | (simp; omega)))))⟩
    · cases h2 : okB s
      · have h3 : wiB r s = false := by unfold wiB bothB; rw [h1, h2]; rfl
        go_wp2_with fail
        refine (iwi_any r s _).mono ?_; rintro e w2 ⟨rfl, hb2⟩; have hz2 := hb2.size; (try simp at hz2); have _ : w1.heap.size < w2.heap.size := (by first | (simp; done) | omega | (simp; omega)); have _ : w1.heap.size + 1 < w2.heap.size := (by first | (simp; done) | omega | (simp; omega)); have _ := fun o => hb2.cell (p := ⟨w1.heap.size, o, none⟩) (by first | (simp; done) | omega | (simp; omega)); have _ := fun o => hb2.cell (p := ⟨w1.heap.size + 1, o, none⟩) (by first | (simp; done) | omega | (simp; omega))
        go_wp2_with fail
        refine (swi_any r s _).mono ?_; rintro e w3 ⟨rfl, hb3⟩; have hz3 := hb3.size; (try simp at hz3); have _ : w1.heap.size < w3.heap.size := (by first | (simp; done) | omega | (simp; omega)); have _ : w1.heap.size + 1 < w3.heap.size := (by first | (simp; done) | omega | (simp; omega)); have _ := fun o => hb3.cell (p := ⟨w1.heap.size, o, none⟩) (by first | (simp; done) | omega | (simp; omega)); have _ := fun o => hb3.cell (p := ⟨w1.heap.size + 1, o, none⟩) (by first | (simp; done) | omega | (simp; omega))
        go_wp2_with fail
        refine (sok_any r _).mono ?_; rintro e w4 ⟨rfl, hb4⟩; have hz4 := hb4.size; (try simp at hz4); have _ : w1.heap.size < w4.heap.size := (by first | (simp; done) | omega | (simp; omega)); have _ : w1.heap.size + 1 < w4.heap.size := (by first | (simp; done) | omega | (simp; omega)); have _ := fun o => hb4.cell (p := ⟨w1.heap.size, o, none⟩) (by first | (simp; done) | omega | (simp; omega)); have _ := fun o => hb4.cell (p := ⟨w1.heap.size + 1, o, none⟩) (by first | (simp; done) | omega | (simp; omega))
        go_wp2_with fail
        refine (sok_any s _).mono ?_; rintro e w5 ⟨rfl, hb5⟩; have hz5 := hb5.size; (try simp at hz5); have _ : w1.heap.size < w5.heap.size := (by first | (simp; done) | omega | (simp; omega)); have _ : w1.heap.size + 1 < w5.heap.size := (by first | (simp; done) | omega | (simp; omega)); have _ := fun o => hb5.cell (p := ⟨w1.heap.size, o, none⟩) (by first | (simp; done) | omega | (simp; omega)); have _ := fun o => hb5.cell (p := ⟨w1.heap.size + 1, o, none⟩) (by first | (simp; done) | omega | (simp; omega))
        go_wp2_with fail
        refine (alive_any _).mono ?_; rintro e w6 ⟨rfl, hb6⟩; have hz6 := hb6.size; (try simp at hz6)
        go_wp2
        go_ret
        exact ⟨rfl, by (repeat (first | with_reducible exact Below.refl _ _ | with_reducible assumption | ((with_reducible refine Below.alloc ?_ ?_ _); rotate_left; focus (first | with_reducible exact Nat.le_refl _ | omega | (simp; done) | (simp; omega))) | ((with_reducible refine Below.setCell ?_ ?_ _); rotate_left; focus (first | with_reducible exact Nat.le_refl _ | omega | (simp; done) | (simp; omega))) | (with_reducible refine Below.drew ?_) | ((with_reducible refine Below.trans ?_ (Below.mono (by with_reducible assumption) ?_)); rotate_left; focus (first | with_reducible exact Nat.le_refl _ | omega | (simp; done) | (simp; omega)))))⟩
      · have h4 := wi_self h1
        cases h3 : wiB r s
        · cases h5 : cmB r s
          · skip
            go_wp2_with fail
            refine (iwi_any r s _).mono ?_; rintro e w2 ⟨rfl, hb2⟩; have hz2 := hb2.size; (try simp at hz2); have _ : w1.heap.size < w2.heap.size := (by first | (simp; done) | omega | (simp; omega)); have _ : w1.heap.size + 1 < w2.heap.size := (by first | (simp; done) | omega | (simp; omega)); have _ := fun o => hb2.cell (p := ⟨w1.heap.size, o, none⟩) (by first | (simp; done) | omega | (simp; omega)); have _ := fun o => hb2.cell (p := ⟨w1.heap.size + 1, o, none⟩) (by first | (simp; done) | omega | (simp; omega))
            go_wp2_with fail
            refine (swi_any r s _).mono ?_; rintro e w3 ⟨rfl, hb3⟩; have hz3 := hb3.size; (try simp at hz3); have _ : w1.heap.size < w3.heap.size := (by first | (simp; done) | omega | (simp; omega)); have _ : w1.heap.size + 1 < w3.heap.size := (by first | (simp; done) | omega | (simp; omega)); have _ := fun o => hb3.cell (p := ⟨w1.heap.size, o, none⟩) (by first | (simp; done) | omega | (simp; omega)); have _ := fun o => hb3.cell (p := ⟨w1.heap.size + 1, o, none⟩) (by first | (simp; done) | omega | (simp; omega))
            go_wp2_with fail
            refine (sok_any r _).mono ?_; rintro e w4 ⟨rfl, hb4⟩; have hz4 := hb4.size; (try simp at hz4); have _ : w1.heap.size < w4.heap.size := (by first | (simp; done) | omega | (simp; omega)); have _ : w1.heap.size + 1 < w4.heap.size := (by first | (simp; done) | omega | (simp; omega)); have _ := fun o => hb4.cell (p := ⟨w1.heap.size, o, none⟩) (by first | (simp; done) | omega | (simp; omega)); have _ := fun o => hb4.cell (p := ⟨w1.heap.size + 1, o, none⟩) (by first | (simp; done) | omega | (simp; omega))
            go_wp2_with fail
            refine (sok_any s _).mono ?_; rintro e w5 ⟨rfl, hb5⟩; have hz5 := hb5.size; (try simp at hz5); have _ : w1.heap.size < w5.heap.size := (by first | (simp; done) | omega | (simp; omega)); have _ : w1.heap.size + 1 < w5.heap.size := (by first | (simp; done) | omega | (simp; omega)); have _ := fun o => hb5.cell (p := ⟨w1.heap.size, o, none⟩) (by first | (simp; done) | omega | (simp; omega)); have _ := fun o => hb5.cell (p := ⟨w1.heap.size + 1, o, none⟩) (by first | (simp; done) | omega | (simp; omega))
            go_wp2_with fail
            refine (icm_any r s _).mono ?_; rintro e w6 ⟨rfl, hb6⟩; have hz6 := hb6.size; (try simp at hz6); have _ : w1.heap.size < w6.heap.size := (by first | (simp; done) | omega | (simp; omega)); have _ : w1.heap.size + 1 < w6.heap.size := (by first | (simp; done) | omega | (simp; omega)); have _ := fun o => hb6.cell (p := ⟨w1.heap.size, o, none⟩) (by first | (simp; done) | omega | (simp; omega)); have _ := fun o => hb6.cell (p := ⟨w1.heap.size + 1, o, none⟩) (by first | (simp; done) | omega | (simp; omega))
            go_wp2_with fail
            refine (iwi_any r r _).mono ?_; rintro e w7 ⟨rfl, hb7⟩; have hz7 := hb7.size; (try simp at hz7); have _ : w1.heap.size < w7.heap.size := (by first | (simp; done) | omega | (simp; omega)); have _ : w1.heap.size + 1 < w7.heap.size := (by first | (simp; done) | omega | (simp; omega)); have _ : w6.heap.size < w7.heap.size := (by first | (simp; done) | omega | (simp; omega)); have _ := fun o => hb7.cell (p := ⟨w1.heap.size, o, none⟩) (by first | (simp; done) | omega | (simp; omega)); have _ := fun o => hb7.cell (p := ⟨w1.heap.size + 1, o, none⟩) (by first | (simp; done) | omega | (simp; omega)); have _ := fun o => hb7.cell (p := ⟨w6.heap.size, o, none⟩) (by first | (simp; done) | omega | (simp; omega))
            go_wp2
            go_ret
            exact ⟨rfl, by (repeat (first | with_reducible exact Below.refl _ _ | with_reducible assumption | ((with_reducible refine Below.alloc ?_ ?_ _); rotate_left; focus (first | with_reducible exact Nat.le_refl _ | omega | (simp; done) | (simp; omega))) | ((with_reducible refine Below.setCell ?_ ?_ _); rotate_left; focus (first | with_reducible exact Nat.le_refl _ | omega | (simp; done) | (simp; omega))) | (with_reducible refine Below.drew ?_) | ((with_reducible refine Below.trans ?_ (Below.mono (by with_reducible assumption) ?_)); rotate_left; focus (first | with_reducible exact Nat.le_refl _ | omega | (simp; done) | (simp; omega)))))⟩
          · have h6 : ¬ cmR r s = r := fun e => by rw [cm_wi h5 e] at h3; cases h3
            go_wp2_with fail
            refine (iwi_any r s _).mono ?_; rintro e w2 ⟨rfl, hb2⟩; have hz2 := hb2.size; (try simp at hz2); have _ : w1.heap.size < w2.heap.size := (by first | (simp; done) | omega | (simp; omega)); have _ : w1.heap.size + 1 < w2.heap.size := (by first | (simp; done) | omega | (simp; omega)); have _ := fun o => hb2.cell (p := ⟨w1.heap.size, o, none⟩) (by first | (simp; done) | omega | (simp; omega)); have _ := fun o => hb2.cell (p := ⟨w1.heap.size + 1, o, none⟩) (by first | (simp; done) | omega | (simp; omega))
            go_wp2_with fail
            refine (swi_any r s _).mono ?_; rintro e w3 ⟨rfl, hb3⟩; have hz3 := hb3.size; (try simp at hz3); have _ : w1.heap.size < w3.heap.size := (by first | (simp; done) | omega | (simp; omega)); have _ : w1.heap.size + 1 < w3.heap.size := (by first | (simp; done) | omega | (simp; omega)); have _ := fun o => hb3.cell (p := ⟨w1.heap.size, o, none⟩) (by first | (simp; done) | omega | (simp; omega)); have _ := fun o => hb3.cell (p := ⟨w1.heap.size + 1, o, none⟩) (by first | (simp; done) | omega | (simp; omega))
            go_wp2_with fail
            refine (sok_any r _).mono ?_; rintro e w4 ⟨rfl, hb4⟩; have hz4 := hb4.size; (try simp at hz4); have _ : w1.heap.size < w4.heap.size := (by first | (simp; done) | omega | (simp; omega)); have _ : w1.heap.size + 1 < w4.heap.size := (by first | (simp; done) | omega | (simp; omega)); have _ := fun o => hb4.cell (p := ⟨w1.heap.size, o, none⟩) (by first | (simp; done) | omega | (simp; omega)); have _ := fun o => hb4.cell (p := ⟨w1.heap.size + 1, o, none⟩) (by first | (simp; done) | omega | (simp; omega))
            go_wp2_with fail
            refine (sok_any s _).mono ?_; rintro e w5 ⟨rfl, hb5⟩; have hz5 := hb5.size; (try simp at hz5); have _ : w1.heap.size < w5.heap.size := (by first | (simp; done) | omega | (simp; omega)); have _ : w1.heap.size + 1 < w5.heap.size := (by first | (simp; done) | omega | (simp; omega)); have _ := fun o => hb5.cell (p := ⟨w1.heap.size, o, none⟩) (by first | (simp; done) | omega | (simp; omega)); have _ := fun o => hb5.cell (p := ⟨w1.heap.size + 1, o, none⟩) (by first | (simp; done) | omega | (simp; omega))
            go_wp2_with fail
            refine (icm_any r s _).mono ?_; rintro e w6 ⟨rfl, hb6⟩; have hz6 := hb6.size; (try simp at hz6); have _ : w1.heap.size < w6.heap.size := (by first | (simp; done) | omega | (simp; omega)); have _ : w1.heap.size + 1 < w6.heap.size := (by first | (simp; done) | omega | (simp; omega)); have _ := fun o => hb6.cell (p := ⟨w1.heap.size, o, none⟩) (by first | (simp; done) | omega | (simp; omega)); have _ := fun o => hb6.cell (p := ⟨w1.heap.size + 1, o, none⟩) (by first | (simp; done) | omega | (simp; omega))
            go_wp2_with fail
            refine (iwi_any r r _).mono ?_; rintro e w7 ⟨rfl, hb7⟩; have hz7 := hb7.size; (try simp at hz7); have _ : w1.heap.size < w7.heap.size := (by first | (simp; done) | omega | (simp; omega)); have _ : w1.heap.size + 1 < w7.heap.size := (by first | (simp; done) | omega | (simp; omega)); have _ : w6.heap.size < w7.heap.size := (by first | (simp; done) | omega | (simp; omega)); have _ := fun o => hb7.cell (p := ⟨w1.heap.size, o, none⟩) (by first | (simp; done) | omega | (simp; omega)); have _ := fun o => hb7.cell (p := ⟨w1.heap.size + 1, o, none⟩) (by first | (simp; done) | omega | (simp; omega)); have _ := fun o => hb7.cell (p := ⟨w6.heap.size, o, none⟩) (by first | (simp; done) | omega | (simp; omega))
            go_wp2
            all_goals go_ret
            all_goals first
              | exact ⟨rfl, by (repeat (first | with_reducible exact Below.refl _ _ | with_reducible assumption | ((with_reducible refine Below.alloc ?_ ?_ _); rotate_left; focus (first | with_reducible exact Nat.le_refl _ | omega | (simp; done) | (simp; omega))) | ((with_reducible refine Below.setCell ?_ ?_ _); rotate_left; focus (first | with_reducible exact Nat.le_refl _ | omega | (simp; done) | (simp; omega))) | (with_reducible refine Below.drew ?_) | ((with_reducible refine Below.trans ?_ (Below.mono (by with_reducible assumption) ?_)); rotate_left; focus (first | with_reducible exact Nat.le_refl _ | omega | (simp; done) | (simp; omega)))))⟩
              | exact absurd (Rt.ext' (by first | assumption | (simp_all; done) | (simp_all; omega)) (by first | assumption | (simp_all; done)) (by first | assumption | (simp_all; done)) (by first | assumption | (simp_all; done))) h6
        · have h7 := wi_cm h3
          have h8 := wi_cmR h3
          cases h9 : wiB s r
          · skip
            go_wp2_with fail
            refine (iwi_any r s _).mono ?_; rintro e w2 ⟨rfl, hb2⟩; have hz2 := hb2.size; (try simp at hz2); have _ : w1.heap.size < w2.heap.size := (by first | (simp; done) | omega | (simp; omega)); have _ : w1.heap.size + 1 < w2.heap.size := (by first | (simp; done) | omega | (simp; omega)); have _ := fun o => hb2.cell (p := ⟨w1.heap.size, o, none⟩) (by first | (simp; done) | omega | (simp; omega)); have _ := fun o => hb2.cell (p := ⟨w1.heap.size + 1, o, none⟩) (by first | (simp; done) | omega | (simp; omega))
            go_wp2_with fail
            refine (swi_any r s _).mono ?_; rintro e w3 ⟨rfl, hb3⟩; have hz3 := hb3.size; (try simp at hz3); have _ : w1.heap.size < w3.heap.size := (by first | (simp; done) | omega | (simp; omega)); have _ : w1.heap.size + 1 < w3.heap.size := (by first | (simp; done) | omega | (simp; omega)); have _ := fun o => hb3.cell (p := ⟨w1.heap.size, o, none⟩) (by first | (simp; done) | omega | (simp; omega)); have _ := fun o => hb3.cell (p := ⟨w1.heap.size + 1, o, none⟩) (by first | (simp; done) | omega | (simp; omega))
            go_wp2_with fail
            refine (sok_any r _).mono ?_; rintro e w4 ⟨rfl, hb4⟩; have hz4 := hb4.size; (try simp at hz4); have _ : w1.heap.size < w4.heap.size := (by first | (simp; done) | omega | (simp; omega)); have _ : w1.heap.size + 1 < w4.heap.size := (by first | (simp; done) | omega | (simp; omega)); have _ := fun o => hb4.cell (p := ⟨w1.heap.size, o, none⟩) (by first | (simp; done) | omega | (simp; omega)); have _ := fun o => hb4.cell (p := ⟨w1.heap.size + 1, o, none⟩) (by first | (simp; done) | omega | (simp; omega))
            go_wp2_with fail
            refine (sok_any s _).mono ?_; rintro e w5 ⟨rfl, hb5⟩; have hz5 := hb5.size; (try simp at hz5); have _ : w1.heap.size < w5.heap.size := (by first | (simp; done) | omega | (simp; omega)); have _ : w1.heap.size + 1 < w5.heap.size := (by first | (simp; done) | omega | (simp; omega)); have _ := fun o => hb5.cell (p := ⟨w1.heap.size, o, none⟩) (by first | (simp; done) | omega | (simp; omega)); have _ := fun o => hb5.cell (p := ⟨w1.heap.size + 1, o, none⟩) (by first | (simp; done) | omega | (simp; omega))
            go_wp2_with fail
            refine (icm_any r s _).mono ?_; rintro e w6 ⟨rfl, hb6⟩; have hz6 := hb6.size; (try simp at hz6); have _ : w1.heap.size < w6.heap.size := (by first | (simp; done) | omega | (simp; omega)); have _ : w1.heap.size + 1 < w6.heap.size := (by first | (simp; done) | omega | (simp; omega)); have _ := fun o => hb6.cell (p := ⟨w1.heap.size, o, none⟩) (by first | (simp; done) | omega | (simp; omega)); have _ := fun o => hb6.cell (p := ⟨w1.heap.size + 1, o, none⟩) (by first | (simp; done) | omega | (simp; omega))
            go_wp2_with fail
            refine (iwi_any r r _).mono ?_; rintro e w7 ⟨rfl, hb7⟩; have hz7 := hb7.size; (try simp at hz7); have _ : w1.heap.size < w7.heap.size := (by first | (simp; done) | omega | (simp; omega)); have _ : w1.heap.size + 1 < w7.heap.size := (by first | (simp; done) | omega | (simp; omega)); have _ : w6.heap.size < w7.heap.size := (by first | (simp; done) | omega | (simp; omega)); have _ := fun o => hb7.cell (p := ⟨w1.heap.size, o, none⟩) (by first | (simp; done) | omega | (simp; omega)); have _ := fun o => hb7.cell (p := ⟨w1.heap.size + 1, o, none⟩) (by first | (simp; done) | omega | (simp; omega)); have _ := fun o => hb7.cell (p := ⟨w6.heap.size, o, none⟩) (by first | (simp; done) | omega | (simp; omega))
            go_wp2_with fail
            refine (iwi_any s r _).mono ?_; rintro e w8 ⟨rfl, hb8⟩; have hz8 := hb8.size; (try simp at hz8); have _ : w1.heap.size < w8.heap.size := (by first | (simp; done) | omega | (simp; omega)); have _ : w1.heap.size + 1 < w8.heap.size := (by first | (simp; done) | omega | (simp; omega)); have _ : w6.heap.size < w8.heap.size := (by first | (simp; done) | omega | (simp; omega)); have _ := fun o => hb8.cell (p := ⟨w1.heap.size, o, none⟩) (by first | (simp; done) | omega | (simp; omega)); have _ := fun o => hb8.cell (p := ⟨w1.heap.size + 1, o, none⟩) (by first | (simp; done) | omega | (simp; omega)); have _ := fun o => hb8.cell (p := ⟨w6.heap.size, o, none⟩) (by first | (simp; done) | omega | (simp; omega))
            go_wp2
            go_ret
            exact ⟨rfl, by (repeat (first | with_reducible exact Below.refl _ _ | with_reducible assumption | ((with_reducible refine Below.alloc ?_ ?_ _); rotate_left; focus (first | with_reducible exact Nat.le_refl _ | omega | (simp; done) | (simp; omega))) | ((with_reducible refine Below.setCell ?_ ?_ _); rotate_left; focus (first | with_reducible exact Nat.le_refl _ | omega | (simp; done) | (simp; omega))) | (with_reducible refine Below.drew ?_) | ((with_reducible refine Below.trans ?_ (Below.mono (by with_reducible assumption) ?_)); rotate_left; focus (first | with_reducible exact Nat.le_refl _ | omega | (simp; done) | (simp; omega)))))⟩
          · have e := wi_anti h3 h9
            subst e
            clear h9
            go_wp2_with fail
            refine (iwi_any r r _).mono ?_; rintro e w2 ⟨rfl, hb2⟩; have hz2 := hb2.size; (try simp at hz2); have _ : w1.heap.size < w2.heap.size := (by first | (simp; done) | omega | (simp; omega)); have _ : w1.heap.size + 1 < w2.heap.size := (by first | (simp; done) | omega | (simp; omega)); have _ := fun o => hb2.cell (p := ⟨w1.heap.size, o, none⟩) (by first | (simp; done) | omega | (simp; omega)); have _ := fun o => hb2.cell (p := ⟨w1.heap.size + 1, o, none⟩) (by first | (simp; done) | omega | (simp; omega))
            go_wp2_with fail
            refine (swi_any r r _).mono ?_; rintro e w3 ⟨rfl, hb3⟩; have hz3 := hb3.size; (try simp at hz3); have _ : w1.heap.size < w3.heap.size := (by first | (simp; done) | omega | (simp; omega)); have _ : w1.heap.size + 1 < w3.heap.size := (by first | (simp; done) | omega | (simp; omega)); have _ := fun o => hb3.cell (p := ⟨w1.heap.size, o, none⟩) (by first | (simp; done) | omega | (simp; omega)); have _ := fun o => hb3.cell (p := ⟨w1.heap.size + 1, o, none⟩) (by first | (simp; done) | omega | (simp; omega))
            go_wp2_with fail
            refine (sok_any r _).mono ?_; rintro e w4 ⟨rfl, hb4⟩; have hz4 := hb4.size; (try simp at hz4); have _ : w1.heap.size < w4.heap.size := (by first | (simp; done) | omega | (simp; omega)); have _ : w1.heap.size + 1 < w4.heap.size := (by first | (simp; done) | omega | (simp; omega)); have _ := fun o => hb4.cell (p := ⟨w1.heap.size, o, none⟩) (by first | (simp; done) | omega | (simp; omega)); have _ := fun o => hb4.cell (p := ⟨w1.heap.size + 1, o, none⟩) (by first | (simp; done) | omega | (simp; omega))
            go_wp2_with fail
            refine (sok_any r _).mono ?_; rintro e w5 ⟨rfl, hb5⟩; have hz5 := hb5.size; (try simp at hz5); have _ : w1.heap.size < w5.heap.size := (by first | (simp; done) | omega | (simp; omega)); have _ : w1.heap.size + 1 < w5.heap.size := (by first | (simp; done) | omega | (simp; omega)); have _ := fun o => hb5.cell (p := ⟨w1.heap.size, o, none⟩) (by first | (simp; done) | omega | (simp; omega)); have _ := fun o => hb5.cell (p := ⟨w1.heap.size + 1, o, none⟩) (by first | (simp; done) | omega | (simp; omega))
            go_wp2_with fail
            refine (icm_any r r _).mono ?_; rintro e w6 ⟨rfl, hb6⟩; have hz6 := hb6.size; (try simp at hz6); have _ : w1.heap.size < w6.heap.size := (by first | (simp; done) | omega | (simp; omega)); have _ : w1.heap.size + 1 < w6.heap.size := (by first | (simp; done) | omega | (simp; omega)); have _ := fun o => hb6.cell (p := ⟨w1.heap.size, o, none⟩) (by first | (simp; done) | omega | (simp; omega)); have _ := fun o => hb6.cell (p := ⟨w1.heap.size + 1, o, none⟩) (by first | (simp; done) | omega | (simp; omega))
            go_wp2_with fail
            refine (iwi_any r r _).mono ?_; rintro e w7 ⟨rfl, hb7⟩; have hz7 := hb7.size; (try simp at hz7); have _ : w1.heap.size < w7.heap.size := (by first | (simp; done) | omega | (simp; omega)); have _ : w1.heap.size + 1 < w7.heap.size := (by first | (simp; done) | omega | (simp; omega)); have _ : w6.heap.size < w7.heap.size := (by first | (simp; done) | omega | (simp; omega)); have _ := fun o => hb7.cell (p := ⟨w1.heap.size, o, none⟩) (by first | (simp; done) | omega | (simp; omega)); have _ := fun o => hb7.cell (p := ⟨w1.heap.size + 1, o, none⟩) (by first | (simp; done) | omega | (simp; omega)); have _ := fun o => hb7.cell (p := ⟨w6.heap.size, o, none⟩) (by first | (simp; done) | omega | (simp; omega))
            go_wp2_with fail
            refine (iwi_any r r _).mono ?_; rintro e w8 ⟨rfl, hb8⟩; have hz8 := hb8.size; (try simp at hz8); have _ : w1.heap.size < w8.heap.size := (by first | (simp; done) | omega | (simp; omega)); have _ : w1.heap.size + 1 < w8.heap.size := (by first | (simp; done) | omega | (simp; omega)); have _ : w6.heap.size < w8.heap.size := (by first | (simp; done) | omega | (simp; omega)); have _ := fun o => hb8.cell (p := ⟨w1.heap.size, o, none⟩) (by first | (simp; done) | omega | (simp; omega)); have _ := fun o => hb8.cell (p := ⟨w1.heap.size + 1, o, none⟩) (by first | (simp; done) | omega | (simp; omega)); have _ := fun o => hb8.cell (p := ⟨w6.heap.size, o, none⟩) (by first | (simp; done) | omega | (simp; omega))
            go_wp2
            go_ret
            exact ⟨rfl, by (repeat (first | with_reducible exact Below.refl _ _ | with_reducible assumption | ((with_reducible refine Below.alloc ?_ ?_ _); rotate_left; focus (first | with_reducible exact Nat.le_refl _ | omega | (simp; done) | (simp; omega))) | ((with_reducible refine Below.setCell ?_ ?_ _); rotate_left; focus (first | with_reducible exact Nat.le_refl _ | omega | (simp; done) | (simp; omega))) | (with_reducible refine Below.drew ?_) | ((with_reducible refine Below.trans ?_ (Below.mono (by with_reducible assumption) ?_)); rotate_left; focus (first | with_reducible exact Nat.le_refl _ | omega | (simp; done) | (simp; omega)))))⟩

theorem mvR_no {a : Rt} {x y : Int} (h : mvB a x y = false) : mvR a x y = Rt.zero := by unfold mvR; rw [h]; rfl
theorem mvR_yes {a : Rt} {x y : Int} (h : mvB a x y = true) : mvR a x y = movedR a x y := by unfold mvR; rw [h]; rfl
theorem mvB_iff {a : Rt} {x y : Int} : mvB a x y = true ↔ okB a = true ∧ (-20 ≤ x ∧ x ≤ 20) ∧ (-20 ≤ y ∧ y ≤ 20) ∧ okB (movedR a x y) = true := by
  unfold mvB stepsB
  simp only [Bool.and_eq_true, stepB_iff]
  constructor
  · rintro ⟨⟨h1, h2, h3⟩, h4⟩; exact ⟨h1, h2, h3, h4⟩
  · rintro ⟨h1, h2, h3, h4⟩; exact ⟨⟨h1, h2, h3⟩, h4⟩
theorem moved_back (a : Rt) (x y : Int) : movedR (movedR a x y) (-x) (-y) = a := by
  unfold movedR; exact Rt.ext' (by dsimp only; omega) (by dsimp only; omega) (by dsimp only; omega) (by dsimp only; omega)
theorem moved_two (a : Rt) (x y : Int) : movedR (movedR a x 0) 0 y = movedR a x y := by
  unfold movedR; exact Rt.ext' (by dsimp only; omega) (by dsimp only; omega) (by dsimp only; omega) (by dsimp only; omega)
theorem mv_back {a : Rt} {x y : Int} (h : mvB a x y = true) : mvB (mvR a x y) (-x) (-y) = true ∧ mvR (mvR a x y) (-x) (-y) = a := by
  have h1 := mvB_iff.1 h
  have h2 : mvB (mvR a x y) (-x) (-y) = true := mvB_iff.2 ⟨by rw [mvR_yes h]; exact h1.2.2.2, by omega, by omega, by rw [mvR_yes h, moved_back]; exact h1.1⟩
  exact ⟨h2, by rw [mvR_yes h2, mvR_yes h, moved_back]⟩
theorem mv_two {a : Rt} {x y : Int} (h : mvB a x y = true) (k : mvB a x 0 = true) : mvB (mvR a x 0) 0 y = true ∧ mvR (mvR a x 0) 0 y = mvR a x y := by
  have h1 := mvB_iff.1 h
  have k1 := mvB_iff.1 k
  have h2 : mvB (mvR a x 0) 0 y = true := mvB_iff.2 ⟨by rw [mvR_yes k]; exact k1.2.2.2, by omega, by omega, by rw [mvR_yes k, moved_two]; exact h1.2.2.2⟩
  exact ⟨h2, by rw [mvR_yes h2, mvR_yes k, mvR_yes h, moved_two]⟩

set_option maxHeartbeats 4000000 in
theorem walkMovedBy (a : Option Addr) (len cap : Nat) (w : World) (hc : Came w a len cap) :
    Calls Try.prog 8 #[.slice a len cap] w fun e w' => e = .returned (.bool true) ∧ Below w.heap.size w w' := by
  have hm := hc.len_le
  by_cases hl : 1048576 < len
  · go_enter Try.func8, Try.ntmps8
    go_wp2
    go_ret
    exact ⟨rfl, Below.refl _ _⟩
  · go_enter Try.func8, Try.ntmps8
    go_wp2_with fail
    refine (dMovedBy _ _ _ _ hc).mono ?_; rintro e w1 hp; obtain ⟨r, x, y, rfl, nr, bx1, bx2, by1, by2, hb1⟩ := hp; have hz1 := hb1.size; (try simp at hz1)
    cases h1 : mvB r x y
    · have ez := mvR_no h1
      have z1 : (mvR r x y).l = 0 := by rw [ez]; rfl
      have z2 : (mvR r x y).o = 0 := by rw [ez]; rfl
      have z3 : (mvR r x y).r = 0 := by rw [ez]; rfl
      have z4 : (mvR r x y).h = 0 := by rw [ez]; rfl
      clear ez
      go_wp2_with fail
      refine (imv_any r x y _).mono ?_; rintro e w2 ⟨rfl, hb2⟩; have hz2 := hb2.size; (try simp at hz2); have _ : w1.heap.size < w2.heap.size := (by first | (simp; done) | omega | (simp; omega)); have _ := fun o => hb2.cell (p := ⟨w1.heap.size, o, none⟩) (by first | (simp; done) | omega | (simp; omega))
      go_wp2_with fail
      refine (smv_any r x y _).mono ?_; rintro e w3 ⟨rfl, hb3⟩; have hz3 := hb3.size; (try simp at hz3); have _ : w1.heap.size < w3.heap.size := (by first | (simp; done) | omega | (simp; omega)); have _ : w2.heap.size < w3.heap.size := (by first | (simp; done) | omega | (simp; omega)); have _ := fun o => hb3.cell (p := ⟨w1.heap.size, o, none⟩) (by first | (simp; done) | omega | (simp; omega)); have _ := fun o => hb3.cell (p := ⟨w2.heap.size, o, none⟩) (by first | (simp; done) | omega | (simp; omega))
      go_wp2_with fail
      refine (alive_any _).mono ?_; rintro e w4 ⟨rfl, hb4⟩; have hz4 := hb4.size; (try simp at hz4)
      go_wp2
      go_ret
      exact ⟨rfl, by (repeat (first | with_reducible exact Below.refl _ _ | with_reducible assumption | ((with_reducible refine Below.alloc ?_ ?_ _); rotate_left; focus (first | with_reducible exact Nat.le_refl _ | omega | (simp; done) | (simp; omega))) | ((with_reducible refine Below.setCell ?_ ?_ _); rotate_left; focus (first | with_reducible exact Nat.le_refl _ | omega | (simp; done) | (simp; omega))) | (with_reducible refine Below.drew ?_) | ((with_reducible refine Below.trans ?_ (Below.mono (by with_reducible assumption) ?_)); rotate_left; focus (first | with_reducible exact Nat.le_refl _ | omega | (simp; done) | (simp; omega)))))⟩
    · obtain ⟨k1, k2⟩ := mv_back h1
      cases h2 : mvB r x 0
      · skip
        go_wp2_with fail
        refine (imv_any r x y _).mono ?_; rintro e w2 ⟨rfl, hb2⟩; have hz2 := hb2.size; (try simp at hz2); have _ : w1.heap.size < w2.heap.size := (by first | (simp; done) | omega | (simp; omega)); have _ := fun o => hb2.cell (p := ⟨w1.heap.size, o, none⟩) (by first | (simp; done) | omega | (simp; omega))
        go_wp2_with fail
        refine (smv_any r x y _).mono ?_; rintro e w3 ⟨rfl, hb3⟩; have hz3 := hb3.size; (try simp at hz3); have _ : w1.heap.size < w3.heap.size := (by first | (simp; done) | omega | (simp; omega)); have _ : w2.heap.size < w3.heap.size := (by first | (simp; done) | omega | (simp; omega)); have _ := fun o => hb3.cell (p := ⟨w1.heap.size, o, none⟩) (by first | (simp; done) | omega | (simp; omega)); have _ := fun o => hb3.cell (p := ⟨w2.heap.size, o, none⟩) (by first | (simp; done) | omega | (simp; omega))
        go_wp2_with fail
        refine (imv_any (mvR r x y) (-x) (-y) _).mono ?_; rintro e w4 ⟨rfl, hb4⟩; have hz4 := hb4.size; (try simp at hz4); have _ : w1.heap.size < w4.heap.size := (by first | (simp; done) | omega | (simp; omega)); have _ : w2.heap.size < w4.heap.size := (by first | (simp; done) | omega | (simp; omega)); have _ : w3.heap.size < w4.heap.size := (by first | (simp; done) | omega | (simp; omega)); have _ := fun o => hb4.cell (p := ⟨w1.heap.size, o, none⟩) (by first | (simp; done) | omega | (simp; omega)); have _ := fun o => hb4.cell (p := ⟨w2.heap.size, o, none⟩) (by first | (simp; done) | omega | (simp; omega)); have _ := fun o => hb4.cell (p := ⟨w3.heap.size, o, none⟩) (by first | (simp; done) | omega | (simp; omega))
        go_wp2_with fail
        refine (imv_any r x 0 _).mono ?_; rintro e w5 ⟨rfl, hb5⟩; have hz5 := hb5.size; (try simp at hz5); have _ : w1.heap.size < w5.heap.size := (by first | (simp; done) | omega | (simp; omega)); have _ : w2.heap.size < w5.heap.size := (by first | (simp; done) | omega | (simp; omega)); have _ : w3.heap.size < w5.heap.size := (by first | (simp; done) | omega | (simp; omega)); have _ : w4.heap.size < w5.heap.size := (by first | (simp; done) | omega | (simp; omega)); have _ := fun o => hb5.cell (p := ⟨w1.heap.size, o, none⟩) (by first | (simp; done) | omega | (simp; omega)); have _ := fun o => hb5.cell (p := ⟨w2.heap.size, o, none⟩) (by first | (simp; done) | omega | (simp; omega)); have _ := fun o => hb5.cell (p := ⟨w3.heap.size, o, none⟩) (by first | (simp; done) | omega | (simp; omega)); have _ := fun o => hb5.cell (p := ⟨w4.heap.size, o, none⟩) (by first | (simp; done) | omega | (simp; omega))
        go_wp2_with fail
        refine (imv_any (mvR r x 0) 0 y _).mono ?_; rintro e w6 ⟨rfl, hb6⟩; have hz6 := hb6.size; (try simp at hz6); have _ : w1.heap.size < w6.heap.size := (by first | (simp; done) | omega | (simp; omega)); have _ : w2.heap.size < w6.heap.size := (by first | (simp; done) | omega | (simp; omega)); have _ : w3.heap.size < w6.heap.size := (by first | (simp; done) | omega | (simp; omega)); have _ : w4.heap.size < w6.heap.size := (by first | (simp; done) | omega | (simp; omega)); have _ : w5.heap.size < w6.heap.size := (by first | (simp; done) | omega | (simp; omega)); have _ := fun o => hb6.cell (p := ⟨w1.heap.size, o, none⟩) (by first | (simp; done) | omega | (simp; omega)); have _ := fun o => hb6.cell (p := ⟨w2.heap.size, o, none⟩) (by first | (simp; done) | omega | (simp; omega)); have _ := fun o => hb6.cell (p := ⟨w3.heap.size, o, none⟩) (by first | (simp; done) | omega | (simp; omega)); have _ := fun o => hb6.cell (p := ⟨w4.heap.size, o, none⟩) (by first | (simp; done) | omega | (simp; omega)); have _ := fun o => hb6.cell (p := ⟨w5.heap.size, o, none⟩) (by first | (simp; done) | omega | (simp; omega))
        go_wp2
        go_ret
        exact ⟨rfl, by (repeat (first | with_reducible exact Below.refl _ _ | with_reducible assumption | ((with_reducible refine Below.alloc ?_ ?_ _); rotate_left; focus (first | with_reducible exact Nat.le_refl _ | omega | (simp; done) | (simp; omega))) | ((with_reducible refine Below.setCell ?_ ?_ _); rotate_left; focus (first | with_reducible exact Nat.le_refl _ | omega | (simp; done) | (simp; omega))) | (with_reducible refine Below.drew ?_) | ((with_reducible refine Below.trans ?_ (Below.mono (by with_reducible assumption) ?_)); rotate_left; focus (first | with_reducible exact Nat.le_refl _ | omega | (simp; done) | (simp; omega)))))⟩
      · obtain ⟨k3, k4⟩ := mv_two h1 h2
        go_wp2_with fail
        refine (imv_any r x y _).mono ?_; rintro e w2 ⟨rfl, hb2⟩; have hz2 := hb2.size; (try simp at hz2); have _ : w1.heap.size < w2.heap.size := (by first | (simp; done) | omega | (simp; omega)); have _ := fun o => hb2.cell (p := ⟨w1.heap.size, o, none⟩) (by first | (simp; done) | omega | (simp; omega))
        go_wp2_with fail
        refine (smv_any r x y _).mono ?_; rintro e w3 ⟨rfl, hb3⟩; have hz3 := hb3.size; (try simp at hz3); have _ : w1.heap.size < w3.heap.size := (by first | (simp; done) | omega | (simp; omega)); have _ : w2.heap.size < w3.heap.size := (by first | (simp; done) | omega | (simp; omega)); have _ := fun o => hb3.cell (p := ⟨w1.heap.size, o, none⟩) (by first | (simp; done) | omega | (simp; omega)); have _ := fun o => hb3.cell (p := ⟨w2.heap.size, o, none⟩) (by first | (simp; done) | omega | (simp; omega))
        go_wp2_with fail
        refine (imv_any (mvR r x y) (-x) (-y) _).mono ?_; rintro e w4 ⟨rfl, hb4⟩; have hz4 := hb4.size; (try simp at hz4); have _ : w1.heap.size < w4.heap.size := (by first | (simp; done) | omega | (simp; omega)); have _ : w2.heap.size < w4.heap.size := (by first | (simp; done) | omega | (simp; omega)); have _ : w3.heap.size < w4.heap.size := (by first | (simp; done) | omega | (simp; omega)); have _ := fun o => hb4.cell (p := ⟨w1.heap.size, o, none⟩) (by first | (simp; done) | omega | (simp; omega)); have _ := fun o => hb4.cell (p := ⟨w2.heap.size, o, none⟩) (by first | (simp; done) | omega | (simp; omega)); have _ := fun o => hb4.cell (p := ⟨w3.heap.size, o, none⟩) (by first | (simp; done) | omega | (simp; omega))
        go_wp2_with fail
        refine (imv_any r x 0 _).mono ?_; rintro e w5 ⟨rfl, hb5⟩; have hz5 := hb5.size; (try simp at hz5); have _ : w1.heap.size < w5.heap.size := (by first | (simp; done) | omega | (simp; omega)); have _ : w2.heap.size < w5.heap.size := (by first | (simp; done) | omega | (simp; omega)); have _ : w3.heap.size < w5.heap.size := (by first | (simp; done) | omega | (simp; omega)); have _ : w4.heap.size < w5.heap.size := (by first | (simp; done) | omega | (simp; omega)); have _ := fun o => hb5.cell (p := ⟨w1.heap.size, o, none⟩) (by first | (simp; done) | omega | (simp; omega)); have _ := fun o => hb5.cell (p := ⟨w2.heap.size, o, none⟩) (by first | (simp; done) | omega | (simp; omega)); have _ := fun o => hb5.cell (p := ⟨w3.heap.size, o, none⟩) (by first | (simp; done) | omega | (simp; omega)); have _ := fun o => hb5.cell (p := ⟨w4.heap.size, o, none⟩) (by first | (simp; done) | omega | (simp; omega))
        go_wp2_with fail
        refine (imv_any (mvR r x 0) 0 y _).mono ?_; rintro e w6 ⟨rfl, hb6⟩; have hz6 := hb6.size; (try simp at hz6); have _ : w1.heap.size < w6.heap.size := (by first | (simp; done) | omega | (simp; omega)); have _ : w2.heap.size < w6.heap.size := (by first | (simp; done) | omega | (simp; omega)); have _ : w3.heap.size < w6.heap.size := (by first | (simp; done) | omega | (simp; omega)); have _ : w4.heap.size < w6.heap.size := (by first | (simp; done) | omega | (simp; omega)); have _ : w5.heap.size < w6.heap.size := (by first | (simp; done) | omega | (simp; omega)); have _ := fun o => hb6.cell (p := ⟨w1.heap.size, o, none⟩) (by first | (simp; done) | omega | (simp; omega)); have _ := fun o => hb6.cell (p := ⟨w2.heap.size, o, none⟩) (by first | (simp; done) | omega | (simp; omega)); have _ := fun o => hb6.cell (p := ⟨w3.heap.size, o, none⟩) (by first | (simp; done) | omega | (simp; omega)); have _ := fun o => hb6.cell (p := ⟨w4.heap.size, o, none⟩) (by first | (simp; done) | omega | (simp; omega)); have _ := fun o => hb6.cell (p := ⟨w5.heap.size, o, none⟩) (by first | (simp; done) | omega | (simp; omega))
        go_wp2
        go_ret
        exact ⟨rfl, by (repeat (first | with_reducible exact Below.refl _ _ | with_reducible assumption | ((with_reducible refine Below.alloc ?_ ?_ _); rotate_left; focus (first | with_reducible exact Nat.le_refl _ | omega | (simp; done) | (simp; omega))) | ((with_reducible refine Below.setCell ?_ ?_ _); rotate_left; focus (first | with_reducible exact Nat.le_refl _ | omega | (simp; done) | (simp; omega))) | (with_reducible refine Below.drew ?_) | ((with_reducible refine Below.trans ?_ (Below.mono (by with_reducible assumption) ?_)); rotate_left; focus (first | with_reducible exact Nat.le_refl _ | omega | (simp; done) | (simp; omega)))))⟩
end Go.Proofs.Ytbklknhbfgdoaaa
