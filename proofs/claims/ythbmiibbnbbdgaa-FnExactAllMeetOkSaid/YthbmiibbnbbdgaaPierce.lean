
/- Chapter 5 of spec: who meets; how many are apart. -/
import Derived.Test.YthbmiibbnbbdgaaFill
import Derived.Test.YthbmiibbnbbdgaaMathU
namespace Go.Proofs.Ythbmiibbnbbdgaa
open Go.RowKit Go.Sort
set_option linter.unusedVariables false
theorem Rs.pair {w : World} {A : Option Addr} {n k j : Nat} {f : Nat → Rt} (h : Rs w A n f) (hk : k < n) (hj : j < n) : ∃ b off, A = some ⟨b, off, none⟩ ∧ b < w.heap.size ∧ C4 w b (off + k * 4) (f k) ∧ C4 w b (off + j * 4) (f j) := by
  rcases h with h | ⟨b, off, ha, hl, hc⟩
  · omega
  · exact ⟨b, off, ha, hl, hc k hk, hc j hj⟩
/-- a bit that is not -/
theorem bit_no : ∀ s : Fin 128, ∀ i : Fin 7, ((((s.val : Nat) : Int) / 2 ^ i.val).tmod 2 == 0) = !s.val.testBit i.val := by decide +kernel


set_option maxHeartbeats 400000 in
theorem smt_any (a b : Rt) (w : World) :
    Calls Try.prog 12 #[rv a, rv b] w fun e w' => e = .returned (.bool (cmB a b)) ∧ Below w.heap.size w w' := by
  go_enter Try.func12, Try.ntmps12
  go_wp2_with fail
  refine (scm_any a b _).mono ?_; rintro e w1 ⟨rfl, hb1⟩; have hz1 := hb1.size; (try simp at hz1); have _ : w.heap.size < w1.heap.size := (by first | (simp; done) | omega | (simp; omega)); have _ : w.heap.size + 1 < w1.heap.size := (by first | (simp; done) | omega | (simp; omega)); have _ := fun o => hb1.cell (p := ⟨w.heap.size, o, none⟩) (by first | (simp; done) | omega | (simp; omega)); have _ := fun o => hb1.cell (p := ⟨w.heap.size + 1, o, none⟩) (by first | (simp; done) | omega | (simp; omega))
  go_wp2
  go_ret
  exact ⟨rfl, by (repeat (first | with_reducible exact Below.refl _ _ | with_reducible assumption | ((with_reducible refine Below.alloc ?_ ?_ _); rotate_left; focus (first | with_reducible exact Nat.le_refl _ | omega | (simp; done) | (simp; omega))) | ((with_reducible refine Below.setCell ?_ ?_ _); rotate_left; focus (first | with_reducible exact Nat.le_refl _ | omega | (simp; done) | (simp; omega))) | (with_reducible refine Below.drew ?_) | ((with_reducible refine Below.trans ?_ (Below.mono (by with_reducible assumption) ?_)); rotate_left; focus (first | with_reducible exact Nat.le_refl _ | omega | (simp; done) | (simp; omega)))))⟩
theorem smt_val (a b : Rt) (v : Bool) (h : cmB a b = v) (w : World) :
    Calls Try.prog 12 #[rv a, rv b] w fun e w' => e = .returned (.bool v) ∧ Below w.heap.size w w' := h ▸ smt_any a b w


set_option maxHeartbeats 1000000 in
theorem sam_any (A : Option Addr) (n cap : Nat) (f : Nat → Rt) (w : World) (hn : n ≤ maxLen) (hr : Rs w A n f) :
    Calls Try.prog 18 #[.slice A n cap] w fun e w' => e = .returned (.bool (amF f n)) ∧ Below w.heap.size w w' := by
  have Hn := Lib.hid hn
  unfold maxLen at hn
  have Hr := Lib.hid hr
  clear hr
  go_enter Try.func18, Try.ntmps18
  go_wp2
  go_loopw [3] (fun s wr => ∃ k : Nat, k ≤ n ∧ s = .int .i64 k ∧ mall f k = true ∧ Below w.heap.size w wr) (fun s _ => n - (intOf s).toNat)
  case atStart => exact ⟨0, Nat.zero_le _, rfl, rfl, Below.refl _ _⟩
  case round =>
    obtain ⟨k, hk, rfl, hm, hbr⟩ := hrel
    have HM := Lib.hid hm
    have HB := Lib.hid hbr
    clear hm hbr
    by_cases hlt : k < n
    · go_wp2
      obtain ⟨wo, ho⟩ : ∃ wo : World, wo = wr := ⟨_, rfl⟩
      go_loopw [4] (fun s wi => ∃ j : Nat, j ≤ k ∧ s = .int .i64 j ∧ mrow f k j = true ∧ Below w.heap.size w wi) (fun s _ => k - (intOf s).toNat)
      case atStart => exact ⟨0, Nat.zero_le _, rfl, rfl, HB.out⟩
      case round =>
        obtain ⟨j, hj, rfl, hmr, hbi⟩ := hrel
        have HMR := Lib.hid hmr
        have hzi := hbi.size
        clear hmr
        by_cases hlt2 : j < k
        · obtain ⟨b, off, rfl, hbl, ⟨c0, c1, c2, c3⟩, d0, d1, d2, d3⟩ := (Hr.out.below hbi).pair hlt (show j < n by omega)
          cases hc : cmB (f j) (f k)
          · have H : Hid (amF f n = false) := Lib.hid (by unfold amF; rw [mall_no hlt2 hlt hc]; rfl)
            go_wp2_with fail
            have hq : True := trivial; have hq := fun d os o => (below_regrown wr d os).cell (p := ⟨b, o, none⟩) (by first | (simp; done) | omega | (simp; omega)); refine wp_region_quiet_below (by kernel_rfl) (by kernel_rfl) ?_; (repeat (first | go_big_quiet_step (exact Calls.regrown_of (smt_val (f j) (f k) _ (by assumption) _)) | quiet_step (exact Calls.regrown_of (smt_val (f j) (f k) _ (by assumption) _)))); refine wpQuiet_nil ?_; intro _ hw'; obtain ⟨⟨dq, osq⟩, hw''⟩ := hw'; subst hw''; clear hq; have hb1 := below_regrown wr dq osq; generalize Sort.grow (redrawn wr dq) osq = w1 at hb1 ⊢; have hz1 := hb1.size; (try simp at hz1); have _ : b < w1.heap.size := (by first | (simp; done) | omega | (simp; omega)); have _ := fun o => hb1.cell (p := ⟨b, o, none⟩) (by first | (simp; done) | omega | (simp; omega))
            go_wp2
            go_ret
            exact ⟨ret_bool (by rw [H.out]), by (repeat (first | with_reducible exact Below.refl _ _ | with_reducible assumption | ((with_reducible refine Below.alloc ?_ ?_ _); rotate_left; focus (first | with_reducible exact Nat.le_refl _ | omega | (simp; done) | (simp; omega))) | ((with_reducible refine Below.setCell ?_ ?_ _); rotate_left; focus (first | with_reducible exact Nat.le_refl _ | omega | (simp; done) | (simp; omega))) | (with_reducible refine Below.drew ?_) | ((with_reducible refine Below.trans ?_ (Below.mono (by with_reducible assumption) ?_)); rotate_left; focus (first | with_reducible exact Nat.le_refl _ | omega | (simp; done) | (simp; omega)))))⟩
          · go_wp2_with fail
            have hq : True := trivial; have hq := fun d os o => (below_regrown wr d os).cell (p := ⟨b, o, none⟩) (by first | (simp; done) | omega | (simp; omega)); refine wp_region_quiet_below (by kernel_rfl) (by kernel_rfl) ?_; (repeat (first | go_big_quiet_step (exact Calls.regrown_of (smt_val (f j) (f k) _ (by assumption) _)) | quiet_step (exact Calls.regrown_of (smt_val (f j) (f k) _ (by assumption) _)))); refine wpQuiet_nil ?_; intro _ hw'; obtain ⟨⟨dq, osq⟩, hw''⟩ := hw'; subst hw''; clear hq; have hb1 := below_regrown wr dq osq; generalize Sort.grow (redrawn wr dq) osq = w1 at hb1 ⊢; have hz1 := hb1.size; (try simp at hz1); have _ : b < w1.heap.size := (by first | (simp; done) | omega | (simp; omega)); have _ := fun o => hb1.cell (p := ⟨b, o, none⟩) (by first | (simp; done) | omega | (simp; omega))
            go_wp2
            go_roundw
            case rel => exact ⟨j + 1, by omega, by go_num, by simp only [mrow]; rw [HMR.out, hc]; rfl, by (repeat (first | with_reducible exact Below.refl _ _ | with_reducible assumption | ((with_reducible refine Below.alloc ?_ ?_ _); rotate_left; focus (first | with_reducible exact Nat.le_refl _ | omega | (simp; done) | (simp; omega))) | ((with_reducible refine Below.setCell ?_ ?_ _); rotate_left; focus (first | with_reducible exact Nat.le_refl _ | omega | (simp; done) | (simp; omega))) | (with_reducible refine Below.drew ?_) | ((with_reducible refine Below.trans ?_ (Below.mono (by with_reducible assumption) ?_)); rotate_left; focus (first | with_reducible exact Nat.le_refl _ | omega | (simp; done) | (simp; omega)))))⟩
            case measure => simp [intOf]; omega
        · obtain rfl : j = k := by omega
          go_wp2
          go_roundw
          case rel => exact ⟨j + 1, by omega, by go_num, by simp only [mall]; rw [HM.out, HMR.out]; rfl, hbi⟩
          case measure => simp [intOf]; omega
    · obtain rfl : k = n := by omega
      go_wp2_with fail
      refine (slaid_any A k cap f _ Hn.out (Hr.out.below HB.out)).mono ?_; rintro e w1 ⟨rfl, hb1⟩; have hz1 := hb1.size; (try simp at hz1)
      go_wp2
      go_ret
      exact ⟨ret_bool (by unfold amF; rw [HM.out]; rfl), HB.out.trans (hb1.mono HB.out.size)⟩
theorem sam_val (A : Option Addr) (n cap : Nat) (f : Nat → Rt) (v : Bool) (h : amF f n = v) (w : World) (hn : n ≤ maxLen) (hr : Rs w A n f) :
    Calls Try.prog 18 #[.slice A n cap] w fun e w' => e = .returned (.bool v) ∧ Below w.heap.size w w' := h ▸ sam_any A n cap f w hn hr


theorem and_step (p a b c : Bool) (h : (p && a) = false) : (p && (a && (!b || !c))) = false := by cases p <;> simp_all
set_option maxHeartbeats 2000000 in
theorem sap_any (A : Option Addr) (n cap : Nat) (f : Nat → Rt) (w : World) (hn : n ≤ maxLen) (hr : Rs w A n f) :
    Calls Try.prog 32 #[.slice A n cap] w fun e w' => e = .returned (.int .i64 (apF f n)) ∧ Below w.heap.size w w' := by
  have Hn := Lib.hid hn
  have Hr := Lib.hid hr
  clear hn hr
  cases hl : laidF f n
  · have H : Hid (apF f n = -1) := Lib.hid (by unfold apF; rw [hl]; rfl)
    go_enter Try.func32, Try.ntmps32
    go_wp2_with fail
    refine (slaid_val A n cap f false hl _ Hn.out Hr.out).mono ?_; rintro e w1 ⟨rfl, hb1⟩; have hz1 := hb1.size; (try simp at hz1)
    go_wp2
    go_ret
    exact ⟨ret_int (by rw [H.out]), by (repeat (first | with_reducible exact Below.refl _ _ | with_reducible assumption | ((with_reducible refine Below.alloc ?_ ?_ _); rotate_left; focus (first | with_reducible exact Nat.le_refl _ | omega | (simp; done) | (simp; omega))) | ((with_reducible refine Below.setCell ?_ ?_ _); rotate_left; focus (first | with_reducible exact Nat.le_refl _ | omega | (simp; done) | (simp; omega))) | (with_reducible refine Below.drew ?_) | ((with_reducible refine Below.trans ?_ (Below.mono (by with_reducible assumption) ?_)); rotate_left; focus (first | with_reducible exact Nat.le_refl _ | omega | (simp; done) | (simp; omega)))))⟩
  · obtain ⟨h7, hok⟩ := laidF_ok hl
    have hsh := shl_eq ⟨n, by omega⟩
    dsimp only at hsh
    have hP1 := pow_le7 n h7
    generalize hP : 2 ^ n = P at hsh hP1
    have H : Hid (apF f n = bestA f n P) := Lib.hid (by unfold apF; rw [hl, ← hP, bestA_all]; rfl)
    clear hP
    go_enter Try.func32, Try.ntmps32
    go_wp2_with fail
    refine (slaid_val A n cap f true hl _ Hn.out Hr.out).mono ?_; rintro e w1 ⟨rfl, hb1⟩; have hz1 := hb1.size; (try simp at hz1)
    have Hr1 := Lib.hid (Hr.out.below hb1)
    have Hb1 := Lib.hid hb1
    clear hb1
    go_wp2
    go_loopw [3, 4] (fun s3 s4 wr => ∃ t : Nat, t ≤ P ∧ s4 = .int .i64 t ∧ s3 = .int .i64 (bestA f n t : Nat) ∧ Below w1.heap.size w1 wr) (fun _ s4 _ => P - (intOf s4).toNat)
    case atStart => exact ⟨0, Nat.zero_le _, rfl, rfl, Below.refl _ _⟩
    case round =>
      obtain ⟨t, ht, rfl, rfl, hbr⟩ := hrel
      have HB := Lib.hid hbr
      have hbd := bestA_bd f n t
      clear hbr
      generalize hS : bestA f n t = S at hbd
      have HS := Lib.hid hS
      clear hS
      by_cases hlt : t < P
      · go_wp2
        obtain ⟨wo, ho⟩ : ∃ wo : World, wo = wr := ⟨_, rfl⟩
        go_loopw [5, 6, 7] (fun s5 s6 s7 wi => ∃ k : Nat, k ≤ n ∧ s7 = .int .i64 k ∧ s5 = .int .i64 (popTo t k : Nat) ∧ s6 = .bool (aall f t k) ∧ Below w1.heap.size w1 wi) (fun _ _ s7 _ => n - (intOf s7).toNat)
        case atStart => exact ⟨0, Nat.zero_le _, rfl, rfl, rfl, HB.out⟩
        case round =>
          obtain ⟨k, hk, rfl, rfl, rfl, hbi⟩ := hrel
          have HBI := Lib.hid hbi
          clear hbi
          have hpl := popTo_le t k
          by_cases hlt2 : k < n
          · have hbk := bit_no ⟨t, by omega⟩ ⟨k, by omega⟩
            dsimp only at hbk
            have HPp : Hid (popTo t (k + 1) = popTo t k + (if t.testBit k then 1 else 0)) := Lib.hid rfl
            have HAa : Hid (aall f t (k + 1) = (aall f t k && (!t.testBit k || arow f t k k))) := Lib.hid rfl
            generalize hL : popTo t k = L at hpl
            generalize hp : aall f t k = p
            have HL := Lib.hid hL
            have Hp := Lib.hid hp
            clear hL hp
            cases htk : t.testBit k
            · rw [htk] at hbk
              simp only [Bool.not_false] at hbk
              go_wp2
              go_roundw
              case rel => exact ⟨k + 1, by omega, by go_num, by rw [HPp.out, htk, HL.out]; rfl, by rw [HAa.out, htk, Hp.out]; simp, HBI.out⟩
              case measure => simp [intOf]; omega
            · rw [htk] at hbk
              simp only [Bool.not_true] at hbk
              go_wp2
              obtain ⟨wq, hq⟩ : ∃ wq : World, wq = wr := ⟨_, rfl⟩
              go_loopw [6, 8] (fun s6 s8 wi => ∃ j : Nat, j ≤ k ∧ s8 = .int .i64 j ∧ s6 = .bool (p && arow f t k j) ∧ Below w1.heap.size w1 wi) (fun _ s8 _ => k - (intOf s8).toNat)
              case atStart => exact ⟨0, Nat.zero_le _, rfl, by simp [arow], HBI.out⟩
              case round =>
                obtain ⟨j, hj, rfl, rfl, hbj⟩ := hrel
                have hzj := hbj.size
                have HAr : Hid (arow f t k (j + 1) = (arow f t k j && (!t.testBit j || !cmB (f j) (f k)))) := Lib.hid rfl
                by_cases hlt3 : j < k
                · have hbj2 := bit_no ⟨t, by omega⟩ ⟨j, by omega⟩
                  dsimp only at hbj2
                  obtain ⟨b, off, rfl, hbl, ⟨c0, c1, c2, c3⟩, d0, d1, d2, d3⟩ := (Hr1.out.below hbj).pair hlt2 (show j < n by omega)
                  cases hpa : (p && arow f t k j)
                  · go_wp2_with fail
                    have hq : True := trivial; have hq := fun d os o => (below_regrown wr d os).cell (p := ⟨b, o, none⟩) (by first | (simp; done) | omega | (simp; omega)); refine wp_region_quiet_below (by kernel_rfl) (by kernel_rfl) ?_; (repeat (first | go_big_quiet_step (fail) | quiet_step (fail))); refine wpQuiet_nil ?_; intro _ hw'; obtain ⟨⟨dq, osq⟩, hw''⟩ := hw'; subst hw''; clear hq; have hb1 := below_regrown wr dq osq; generalize Sort.grow (redrawn wr dq) osq = w1 at hb1 ⊢; have hz1 := hb1.size; (try simp at hz1); have _ : b < w1.heap.size := (by first | (simp; done) | omega | (simp; omega)); have _ := fun o => hb1.cell (p := ⟨b, o, none⟩) (by first | (simp; done) | omega | (simp; omega))
                    go_wp2
                    go_roundw
                    case rel => exact ⟨j + 1, by omega, by go_num, by rw [HAr.out, and_step _ _ _ _ hpa], by (repeat (first | with_reducible exact Below.refl _ _ | with_reducible assumption | ((with_reducible refine Below.alloc ?_ ?_ _); rotate_left; focus (first | with_reducible exact Nat.le_refl _ | omega | (simp; done) | (simp; omega))) | ((with_reducible refine Below.setCell ?_ ?_ _); rotate_left; focus (first | with_reducible exact Nat.le_refl _ | omega | (simp; done) | (simp; omega))) | (with_reducible refine Below.drew ?_) | ((with_reducible refine Below.trans ?_ (Below.mono (by with_reducible assumption) ?_)); rotate_left; focus (first | with_reducible exact Nat.le_refl _ | omega | (simp; done) | (simp; omega)))))⟩
                    case measure => simp [intOf]; omega
                  · obtain ⟨hp1, hp2⟩ := Bool.and_eq_true_iff.1 hpa
                    have Hpp : Hid (p = true ∧ arow f t k j = true) := Lib.hid ⟨hp1, hp2⟩
                    clear hp1 hp2
                    cases htj : t.testBit j
                    · rw [htj] at hbj2
                      simp only [Bool.not_false] at hbj2
                      go_wp2_with fail
                      have hq : True := trivial; have hq := fun d os o => (below_regrown wr d os).cell (p := ⟨b, o, none⟩) (by first | (simp; done) | omega | (simp; omega)); refine wp_region_quiet_below (by kernel_rfl) (by kernel_rfl) ?_; (repeat (first | go_big_quiet_step (fail) | quiet_step (fail))); refine wpQuiet_nil ?_; intro _ hw'; obtain ⟨⟨dq, osq⟩, hw''⟩ := hw'; subst hw''; clear hq; have hb1 := below_regrown wr dq osq; generalize Sort.grow (redrawn wr dq) osq = w1 at hb1 ⊢; have hz1 := hb1.size; (try simp at hz1); have _ : b < w1.heap.size := (by first | (simp; done) | omega | (simp; omega)); have _ := fun o => hb1.cell (p := ⟨b, o, none⟩) (by first | (simp; done) | omega | (simp; omega))
                      go_wp2
                      go_roundw
                      case rel => exact ⟨j + 1, by omega, by go_num, by rw [HAr.out, Hpp.out.1, Hpp.out.2, htj]; rfl, by (repeat (first | with_reducible exact Below.refl _ _ | with_reducible assumption | ((with_reducible refine Below.alloc ?_ ?_ _); rotate_left; focus (first | with_reducible exact Nat.le_refl _ | omega | (simp; done) | (simp; omega))) | ((with_reducible refine Below.setCell ?_ ?_ _); rotate_left; focus (first | with_reducible exact Nat.le_refl _ | omega | (simp; done) | (simp; omega))) | (with_reducible refine Below.drew ?_) | ((with_reducible refine Below.trans ?_ (Below.mono (by with_reducible assumption) ?_)); rotate_left; focus (first | with_reducible exact Nat.le_refl _ | omega | (simp; done) | (simp; omega)))))⟩
                      case measure => simp [intOf]; omega
                    · rw [htj] at hbj2
                      simp only [Bool.not_true] at hbj2
                      cases hc : cmB (f j) (f k)
                      · go_wp2_with fail
                        have hq : True := trivial; have hq := fun d os o => (below_regrown wr d os).cell (p := ⟨b, o, none⟩) (by first | (simp; done) | omega | (simp; omega)); refine wp_region_quiet_below (by kernel_rfl) (by kernel_rfl) ?_; (repeat (first | go_big_quiet_step (exact Calls.regrown_of (smt_val (f j) (f k) _ (by assumption) _)) | quiet_step (exact Calls.regrown_of (smt_val (f j) (f k) _ (by assumption) _)))); refine wpQuiet_nil ?_; intro _ hw'; obtain ⟨⟨dq, osq⟩, hw''⟩ := hw'; subst hw''; clear hq; have hb1 := below_regrown wr dq osq; generalize Sort.grow (redrawn wr dq) osq = w1 at hb1 ⊢; have hz1 := hb1.size; (try simp at hz1); have _ : b < w1.heap.size := (by first | (simp; done) | omega | (simp; omega)); have _ := fun o => hb1.cell (p := ⟨b, o, none⟩) (by first | (simp; done) | omega | (simp; omega))
                        go_wp2
                        go_roundw
                        case rel => exact ⟨j + 1, by omega, by go_num, by rw [HAr.out, Hpp.out.1, Hpp.out.2, htj, hc]; rfl, by (repeat (first | with_reducible exact Below.refl _ _ | with_reducible assumption | ((with_reducible refine Below.alloc ?_ ?_ _); rotate_left; focus (first | with_reducible exact Nat.le_refl _ | omega | (simp; done) | (simp; omega))) | ((with_reducible refine Below.setCell ?_ ?_ _); rotate_left; focus (first | with_reducible exact Nat.le_refl _ | omega | (simp; done) | (simp; omega))) | (with_reducible refine Below.drew ?_) | ((with_reducible refine Below.trans ?_ (Below.mono (by with_reducible assumption) ?_)); rotate_left; focus (first | with_reducible exact Nat.le_refl _ | omega | (simp; done) | (simp; omega)))))⟩
                        case measure => simp [intOf]; omega
                      · go_wp2_with fail
                        have hq : True := trivial; have hq := fun d os o => (below_regrown wr d os).cell (p := ⟨b, o, none⟩) (by first | (simp; done) | omega | (simp; omega)); refine wp_region_quiet_below (by kernel_rfl) (by kernel_rfl) ?_; (repeat (first | go_big_quiet_step (exact Calls.regrown_of (smt_val (f j) (f k) _ (by assumption) _)) | quiet_step (exact Calls.regrown_of (smt_val (f j) (f k) _ (by assumption) _)))); refine wpQuiet_nil ?_; intro _ hw'; obtain ⟨⟨dq, osq⟩, hw''⟩ := hw'; subst hw''; clear hq; have hb1 := below_regrown wr dq osq; generalize Sort.grow (redrawn wr dq) osq = w1 at hb1 ⊢; have hz1 := hb1.size; (try simp at hz1); have _ : b < w1.heap.size := (by first | (simp; done) | omega | (simp; omega)); have _ := fun o => hb1.cell (p := ⟨b, o, none⟩) (by first | (simp; done) | omega | (simp; omega))
                        go_wp2
                        go_roundw
                        case rel => exact ⟨j + 1, by omega, by go_num, by rw [HAr.out, Hpp.out.1, Hpp.out.2, htj, hc]; rfl, by (repeat (first | with_reducible exact Below.refl _ _ | with_reducible assumption | ((with_reducible refine Below.alloc ?_ ?_ _); rotate_left; focus (first | with_reducible exact Nat.le_refl _ | omega | (simp; done) | (simp; omega))) | ((with_reducible refine Below.setCell ?_ ?_ _); rotate_left; focus (first | with_reducible exact Nat.le_refl _ | omega | (simp; done) | (simp; omega))) | (with_reducible refine Below.drew ?_) | ((with_reducible refine Below.trans ?_ (Below.mono (by with_reducible assumption) ?_)); rotate_left; focus (first | with_reducible exact Nat.le_refl _ | omega | (simp; done) | (simp; omega)))))⟩
                        case measure => simp [intOf]; omega
                · obtain rfl : j = k := by omega
                  go_wp2
                  go_roundw
                  case rel => exact ⟨j + 1, by omega, by go_num, by rw [HPp.out, htk, HL.out]; go_num, by rw [HAa.out, htk, Hp.out]; rfl, hbj⟩
                  case measure => simp [intOf]; omega
          · obtain rfl : k = n := by omega
            have HA : Hid (bestA f k (t + 1) = if aall f t k then max S (popTo t k) else S) := Lib.hid (by simp only [bestA]; rw [HS.out])
            generalize hL : popTo t k = L at hpl
            have HL := Lib.hid hL
            clear hL
            cases hp : aall f t k
            · go_wp2
              go_roundw
              case rel => exact ⟨t + 1, by omega, by go_num, by rw [HA.out, hp]; rfl, HBI.out⟩
              case measure => simp [intOf]; omega
            · go_wp2
              go_roundw
              case rel => exact ⟨t + 1, by omega, by go_num, by rw [HA.out, hp, HL.out]; simp; omega, HBI.out⟩
              case measure => simp [intOf]; omega
      · obtain rfl : t = P := by omega
        go_wp2
        go_ret
        exact ⟨ret_int (by rw [H.out, HS.out]), Hb1.out.trans (HB.out.mono Hb1.out.size)⟩
theorem sap_val (A : Option Addr) (n cap : Nat) (f : Nat → Rt) (v : Int) (h : apF f n = v) (w : World) (hn : n ≤ maxLen) (hr : Rs w A n f) :
    Calls Try.prog 32 #[.slice A n cap] w fun e w' => e = .returned (.int .i64 v) ∧ Below w.heap.size w w' := h ▸ sap_any A n cap f w hn hr

end Go.Proofs.Ythbmiibbnbbdgaa
