/- Chapter 5 of spec: who meets; how many are apart. Chapter 5 of spec: how many cells pierce all. -/
import Derived.Test.YtkfeeijiockdhaaDoorMa
import Derived.Test.YtkfeeijiockdhaaDoorMathSU
namespace Go.Proofs.YtkfeeijiockdhaaDoor
open Go.RowKit Go.Sort
set_option linter.unusedVariables false
theorem Rs.pair {w : World} {A : Option Addr} {n k j : Nat} {f : Nat → Rt} (h : Rs w A n f) (hk : k < n) (hj : j < n) : ∃ b off, A = some ⟨b, off, none⟩ ∧ b < w.heap.size ∧ C4 w b (off + k * 4) (f k) ∧ C4 w b (off + j * 4) (f j) := by
  rcases h with h | ⟨b, off, ha, hl, hc⟩
  · omega
  · exact ⟨b, off, ha, hl, hc k hk, hc j hj⟩
/-- a bit that is not -/
theorem bit_no : ∀ s : Fin 128, ∀ i : Fin 7, ((((s.val : Nat) : Int) / 2 ^ i.val).tmod 2 == 0) = !s.val.testBit i.val := by decide +kernel


set_option maxHeartbeats 400000 in
set_option maxRecDepth 20000 in
theorem smt_any (a b : Rt) (w : World) :
    Calls Tryd.prog 17 #[rv a, rv b] w fun e w' => e = .returned (.bool (cmB a b)) ∧ Below w.heap.size w w' := by
  go_enter Tryd.func17, Tryd.ntmps17
  go_wp2_with fail
  refine (scm_any a b _).mono ?_; rintro e w1 ⟨rfl, hb1⟩; have hz1 := hb1.size; (try simp at hz1); have _ : w.heap.size < w1.heap.size := (by first | (simp; done) | omega | (simp; omega)); have _ : w.heap.size + 1 < w1.heap.size := (by first | (simp; done) | omega | (simp; omega)); have _ := fun o => hb1.cell (p := ⟨w.heap.size, o, none⟩) (by first | (simp; done) | omega | (simp; omega)); have _ := fun o => hb1.cell (p := ⟨w.heap.size + 1, o, none⟩) (by first | (simp; done) | omega | (simp; omega))
  go_wp2
  go_ret
  exact ⟨rfl, by (repeat (first | with_reducible exact Below.refl _ _ | with_reducible assumption | ((with_reducible refine Below.alloc ?_ ?_ _); rotate_left; focus (first | with_reducible exact Nat.le_refl _ | omega | (simp; done) | (simp; omega))) | ((with_reducible refine Below.setCell ?_ ?_ _); rotate_left; focus (first | with_reducible exact Nat.le_refl _ | omega | (simp; done) | (simp; omega))) | (with_reducible refine Below.drew ?_) | ((with_reducible refine Below.trans ?_ (Below.mono (by with_reducible assumption) ?_)); rotate_left; focus (first | with_reducible exact Nat.le_refl _ | omega | (simp; done) | (simp; omega)))))⟩
theorem smt_val (a b : Rt) (v : Bool) (h : cmB a b = v) (w : World) :
    Calls Tryd.prog 17 #[rv a, rv b] w fun e w' => e = .returned (.bool v) ∧ Below w.heap.size w w' := h ▸ smt_any a b w


theorem and_step (p a b c : Bool) (h : (p && a) = false) : (p && (a && (!b || !c))) = false := by cases p <;> simp_all
set_option maxHeartbeats 2000000 in
set_option maxRecDepth 20000 in
theorem sap_any (A : Option Addr) (n cap : Nat) (f : Nat → Rt) (w : World) (hn : n ≤ maxLen) (hr : Rs w A n f) :
    Calls Tryd.prog 6 #[.slice A n cap] w fun e w' => e = .returned (.int .i64 (apF f n)) ∧ Below w.heap.size w w' := by
  have Hn := Lib.hid hn
  have Hr := Lib.hid hr
  clear hn hr
  cases hl : laidF f n
  · have H : Hid (apF f n = -1) := Lib.hid (by unfold apF; rw [hl]; rfl)
    go_enter Tryd.func6, Tryd.ntmps6
    go_wp2_with fail
    refine (slaid_val A n cap f false hl _ Hn.out Hr.out).mono ?_; rintro e w1 ⟨rfl, hb1⟩; have hz1 := hb1.size; (try simp at hz1)
    go_wp2
    go_ret
    exact ⟨ret_int (by rw [H.out]), by (repeat (first | with_reducible exact Below.refl _ _ | with_reducible assumption | ((with_reducible refine Below.alloc ?_ ?_ _); rotate_left; focus (first | with_reducible exact Nat.le_refl _ | omega | (simp; done) | (simp; omega))) | ((with_reducible refine Below.setCell ?_ ?_ _); rotate_left; focus (first | with_reducible exact Nat.le_refl _ | omega | (simp; done) | (simp; omega))) | (with_reducible refine Below.drew ?_) | ((with_reducible refine Below.trans ?_ (Below.mono (by with_reducible assumption) ?_)); rotate_left; focus (first | with_reducible exact Nat.le_refl _ | omega | (simp; done) | (simp; omega)))))⟩
  · obtain ⟨h7, hok⟩ := laidF_ok hl
    have hsh := shl_eq ⟨n, by omega⟩
    dsimp only at hsh
    have hP1 := pow_le7 n h7
    generalize hP : 2 ^ n = P at hsh hP1
    have H : Hid (apF f n = bestA f n P) := Lib.hid (by unfold apF; rw [hl, ← hP, bestA_all]; rfl)
    clear hP
    go_enter Tryd.func6, Tryd.ntmps6
    go_wp2_with fail
    refine (slaid_val A n cap f true hl _ Hn.out Hr.out).mono ?_; rintro e w1 ⟨rfl, hb1⟩; have hz1 := hb1.size; (try simp at hz1)
    have Hr1 := Lib.hid (Hr.out.below hb1)
    have Hb1 := Lib.hid hb1
    clear hb1
    go_wp2
    go_loopw [3, 4] (fun s3 s4 wr => ∃ t : Nat, t ≤ P ∧ s4 = .int .i64 t ∧ s3 = .int .i64 (bestA f n t : Nat) ∧ Below w1.heap.size w1 wr) (fun _ s4 _ => P - (intOf s4).toNat)
    case atStart => exact ⟨0, Nat.zero_le _, rfl, rfl, Below.refl _ _⟩
    case round =>
      obtain ⟨t, ht, rfl, rfl, hbr⟩ := hrel
      have HB := Lib.hid hbr
      have hbd := bestA_bd f n t
      clear hbr
      generalize hS : bestA f n t = S at hbd
      have HS := Lib.hid hS
      clear hS
      by_cases hlt : t < P
      · go_wp2
        obtain ⟨wo, ho⟩ : ∃ wo : World, wo = wr := ⟨_, rfl⟩
        go_loopw [5, 6, 7] (fun s5 s6 s7 wi => ∃ k : Nat, k ≤ n ∧ s7 = .int .i64 k ∧ s5 = .int .i64 (popTo t k : Nat) ∧ s6 = .bool (aall f t k) ∧ Below w1.heap.size w1 wi) (fun _ _ s7 _ => n - (intOf s7).toNat)
        case atStart => exact ⟨0, Nat.zero_le _, rfl, rfl, rfl, HB.out⟩
        case round =>
          obtain ⟨k, hk, rfl, rfl, rfl, hbi⟩ := hrel
          have HBI := Lib.hid hbi
          clear hbi
          have hpl := popTo_le t k
          by_cases hlt2 : k < n
          · have hbk := bit_no ⟨t, by omega⟩ ⟨k, by omega⟩
            dsimp only at hbk
            have HPp : Hid (popTo t (k + 1) = popTo t k + (if t.testBit k then 1 else 0)) := Lib.hid rfl
            have HAa : Hid (aall f t (k + 1) = (aall f t k && (!t.testBit k || arow f t k k))) := Lib.hid rfl
            generalize hL : popTo t k = L at hpl
            generalize hp : aall f t k = p
            have HL := Lib.hid hL
            have Hp := Lib.hid hp
            clear hL hp
            cases htk : t.testBit k
            · rw [htk] at hbk
              simp only [Bool.not_false] at hbk
              go_wp2
              go_roundw
              case rel => exact ⟨k + 1, by omega, by go_num, by rw [HPp.out, htk, HL.out]; rfl, by rw [HAa.out, htk, Hp.out]; simp, HBI.out⟩
              case measure => simp [intOf]; omega
            · rw [htk] at hbk
              simp only [Bool.not_true] at hbk
              go_wp2
              obtain ⟨wq, hq⟩ : ∃ wq : World, wq = wr := ⟨_, rfl⟩
              go_loopw [6, 8] (fun s6 s8 wi => ∃ j : Nat, j ≤ k ∧ s8 = .int .i64 j ∧ s6 = .bool (p && arow f t k j) ∧ Below w1.heap.size w1 wi) (fun _ s8 _ => k - (intOf s8).toNat)
              case atStart => exact ⟨0, Nat.zero_le _, rfl, by simp [arow], HBI.out⟩
              case round =>
                obtain ⟨j, hj, rfl, rfl, hbj⟩ := hrel
                have hzj := hbj.size
                have HAr : Hid (arow f t k (j + 1) = (arow f t k j && (!t.testBit j || !cmB (f j) (f k)))) := Lib.hid rfl
                by_cases hlt3 : j < k
                · have hbj2 := bit_no ⟨t, by omega⟩ ⟨j, by omega⟩
                  dsimp only at hbj2
                  obtain ⟨b, off, rfl, hbl, ⟨c0, c1, c2, c3⟩, d0, d1, d2, d3⟩ := (Hr1.out.below hbj).pair hlt2 (show j < n by omega)
                  cases hpa : (p && arow f t k j)
                  · go_wp2_with fail
                    have hq : True := trivial; have hq := fun d os o => (below_regrown wr d os).cell (p := ⟨b, o, none⟩) (by first | (simp; done) | omega | (simp; omega)); refine wp_region_quiet_below (by kernel_rfl) (by kernel_rfl) ?_; (repeat (first | go_big_quiet_step (fail) | quiet_step (fail))); refine wpQuiet_nil ?_; intro _ hw'; obtain ⟨⟨dq, osq⟩, hw''⟩ := hw'; subst hw''; clear hq; have hb1 := below_regrown wr dq osq; generalize Sort.grow (redrawn wr dq) osq = w1 at hb1 ⊢; have hz1 := hb1.size; (try simp at hz1); have _ : b < w1.heap.size := (by first | (simp; done) | omega | (simp; omega)); have _ := fun o => hb1.cell (p := ⟨b, o, none⟩) (by first | (simp; done) | omega | (simp; omega))
                    go_wp2
                    go_roundw
                    case rel => exact ⟨j + 1, by omega, by go_num, by rw [HAr.out, and_step _ _ _ _ hpa], by (repeat (first | with_reducible exact Below.refl _ _ | with_reducible assumption | ((with_reducible refine Below.alloc ?_ ?_ _); rotate_left; focus (first | with_reducible exact Nat.le_refl _ | omega | (simp; done) | (simp; omega))) | ((with_reducible refine Below.setCell ?_ ?_ _); rotate_left; focus (first | with_reducible exact Nat.le_refl _ | omega | (simp; done) | (simp; omega))) | (with_reducible refine Below.drew ?_) | ((with_reducible refine Below.trans ?_ (Below.mono (by with_reducible assumption) ?_)); rotate_left; focus (first | with_reducible exact Nat.le_refl _ | omega | (simp; done) | (simp; omega)))))⟩
                    case measure => simp [intOf]; omega
                  · obtain ⟨hp1, hp2⟩ := Bool.and_eq_true_iff.1 hpa
                    have Hpp : Hid (p = true ∧ arow f t k j = true) := Lib.hid ⟨hp1, hp2⟩
                    clear hp1 hp2
                    cases htj : t.testBit j
                    · rw [htj] at hbj2
                      simp only [Bool.not_false] at hbj2
                      go_wp2_with fail
                      have hq : True := trivial; have hq := fun d os o => (below_regrown wr d os).cell (p := ⟨b, o, none⟩) (by first | (simp; done) | omega | (simp; omega)); refine wp_region_quiet_below (by kernel_rfl) (by kernel_rfl) ?_; (repeat (first | go_big_quiet_step (fail) | quiet_step (fail))); refine wpQuiet_nil ?_; intro _ hw'; obtain ⟨⟨dq, osq⟩, hw''⟩ := hw'; subst hw''; clear hq; have hb1 := below_regrown wr dq osq; generalize Sort.grow (redrawn wr dq) osq = w1 at hb1 ⊢; have hz1 := hb1.size; (try simp at hz1); have _ : b < w1.heap.size := (by first | (simp; done) | omega | (simp; omega)); have _ := fun o => hb1.cell (p := ⟨b, o, none⟩) (by first | (simp; done) | omega | (simp; omega))
                      go_wp2
                      go_roundw
                      case rel => exact ⟨j + 1, by omega, by go_num, by rw [HAr.out, Hpp.out.1, Hpp.out.2, htj]; rfl, by (repeat (first | with_reducible exact Below.refl _ _ | with_reducible assumption | ((with_reducible refine Below.alloc ?_ ?_ _); rotate_left; focus (first | with_reducible exact Nat.le_refl _ | omega | (simp; done) | (simp; omega))) | ((with_reducible refine Below.setCell ?_ ?_ _); rotate_left; focus (first | with_reducible exact Nat.le_refl _ | omega | (simp; done) | (simp; omega))) | (with_reducible refine Below.drew ?_) | ((with_reducible refine Below.trans ?_ (Below.mono (by with_reducible assumption) ?_)); rotate_left; focus (first | with_reducible exact Nat.le_refl _ | omega | (simp; done) | (simp; omega)))))⟩
                      case measure => simp [intOf]; omega
                    · rw [htj] at hbj2
                      simp only [Bool.not_true] at hbj2
                      cases hc : cmB (f j) (f k)
                      · go_wp2_with fail
                        have hq : True := trivial; have hq := fun d os o => (below_regrown wr d os).cell (p := ⟨b, o, none⟩) (by first | (simp; done) | omega | (simp; omega)); refine wp_region_quiet_below (by kernel_rfl) (by kernel_rfl) ?_; (repeat (first | go_big_quiet_step (exact Calls.regrown_of (smt_val (f j) (f k) _ (by assumption) _)) | quiet_step (exact Calls.regrown_of (smt_val (f j) (f k) _ (by assumption) _)))); refine wpQuiet_nil ?_; intro _ hw'; obtain ⟨⟨dq, osq⟩, hw''⟩ := hw'; subst hw''; clear hq; have hb1 := below_regrown wr dq osq; generalize Sort.grow (redrawn wr dq) osq = w1 at hb1 ⊢; have hz1 := hb1.size; (try simp at hz1); have _ : b < w1.heap.size := (by first | (simp; done) | omega | (simp; omega)); have _ := fun o => hb1.cell (p := ⟨b, o, none⟩) (by first | (simp; done) | omega | (simp; omega))
                        go_wp2
                        go_roundw
                        case rel => exact ⟨j + 1, by omega, by go_num, by rw [HAr.out, Hpp.out.1, Hpp.out.2, htj, hc]; rfl, by (repeat (first | with_reducible exact Below.refl _ _ | with_reducible assumption | ((with_reducible refine Below.alloc ?_ ?_ _); rotate_left; focus (first | with_reducible exact Nat.le_refl _ | omega | (simp; done) | (simp; omega))) | ((with_reducible refine Below.setCell ?_ ?_ _); rotate_left; focus (first | with_reducible exact Nat.le_refl _ | omega | (simp; done) | (simp; omega))) | (with_reducible refine Below.drew ?_) | ((with_reducible refine Below.trans ?_ (Below.mono (by with_reducible assumption) ?_)); rotate_left; focus (first | with_reducible exact Nat.le_refl _ | omega | (simp; done) | (simp; omega)))))⟩
                        case measure => simp [intOf]; omega
                      · go_wp2_with fail
                        have hq : True := trivial; have hq := fun d os o => (below_regrown wr d os).cell (p := ⟨b, o, none⟩) (by first | (simp; done) | omega | (simp; omega)); refine wp_region_quiet_below (by kernel_rfl) (by kernel_rfl) ?_; (repeat (first | go_big_quiet_step (exact Calls.regrown_of (smt_val (f j) (f k) _ (by assumption) _)) | quiet_step (exact Calls.regrown_of (smt_val (f j) (f k) _ (by assumption) _)))); refine wpQuiet_nil ?_; intro _ hw'; obtain ⟨⟨dq, osq⟩, hw''⟩ := hw'; subst hw''; clear hq; have hb1 := below_regrown wr dq osq; generalize Sort.grow (redrawn wr dq) osq = w1 at hb1 ⊢; have hz1 := hb1.size; (try simp at hz1); have _ : b < w1.heap.size := (by first | (simp; done) | omega | (simp; omega)); have _ := fun o => hb1.cell (p := ⟨b, o, none⟩) (by first | (simp; done) | omega | (simp; omega))
                        go_wp2
                        go_roundw
                        case rel => exact ⟨j + 1, by omega, by go_num, by rw [HAr.out, Hpp.out.1, Hpp.out.2, htj, hc]; rfl, by (repeat (first | with_reducible exact Below.refl _ _ | with_reducible assumption | ((with_reducible refine Below.alloc ?_ ?_ _); rotate_left; focus (first | with_reducible exact Nat.le_refl _ | omega | (simp; done) | (simp; omega))) | ((with_reducible refine Below.setCell ?_ ?_ _); rotate_left; focus (first | with_reducible exact Nat.le_refl _ | omega | (simp; done) | (simp; omega))) | (with_reducible refine Below.drew ?_) | ((with_reducible refine Below.trans ?_ (Below.mono (by with_reducible assumption) ?_)); rotate_left; focus (first | with_reducible exact Nat.le_refl _ | omega | (simp; done) | (simp; omega)))))⟩
                        case measure => simp [intOf]; omega
                · obtain rfl : j = k := by omega
                  go_wp2
                  go_roundw
                  case rel => exact ⟨j + 1, by omega, by go_num, by rw [HPp.out, htk, HL.out]; go_num, by rw [HAa.out, htk, Hp.out]; rfl, hbj⟩
                  case measure => simp [intOf]; omega
          · obtain rfl : k = n := by omega
            have HA : Hid (bestA f k (t + 1) = if aall f t k then max S (popTo t k) else S) := Lib.hid (by simp only [bestA]; rw [HS.out])
            generalize hL : popTo t k = L at hpl
            have HL := Lib.hid hL
            clear hL
            cases hp : aall f t k
            · go_wp2
              go_roundw
              case rel => exact ⟨t + 1, by omega, by go_num, by rw [HA.out, hp]; rfl, HBI.out⟩
              case measure => simp [intOf]; omega
            · go_wp2
              go_roundw
              case rel => exact ⟨t + 1, by omega, by go_num, by rw [HA.out, hp, HL.out]; simp; omega, HBI.out⟩
              case measure => simp [intOf]; omega
      · obtain rfl : t = P := by omega
        go_wp2
        go_ret
        exact ⟨ret_int (by rw [H.out, HS.out]), Hb1.out.trans (HB.out.mono Hb1.out.size)⟩
theorem sap_val (A : Option Addr) (n cap : Nat) (f : Nat → Rt) (v : Int) (h : apF f n = v) (w : World) (hn : n ≤ maxLen) (hr : Rs w A n f) :
    Calls Tryd.prog 6 #[.slice A n cap] w fun e w' => e = .returned (.int .i64 v) ∧ Below w.heap.size w w' := h ▸ sap_any A n cap f w hn hr

end Go.Proofs.YtkfeeijiockdhaaDoor
namespace Go.Proofs.YtkfeeijiockdhaaDoor
open Go.RowKit Go.Sort
set_option linter.unusedVariables false
theorem Rs.trio {w : World} {A : Option Addr} {n i j k : Nat} {f : Nat → Rt} (h : Rs w A n f) (hk : k < n) (hj : j < n) (hi : i < n) : ∃ b off, A = some ⟨b, off, none⟩ ∧ b < w.heap.size ∧ C4 w b (off + k * 4) (f k) ∧ C4 w b (off + j * 4) (f j) ∧ C4 w b (off + i * 4) (f i) := by
  rcases h with h | ⟨b, off, ha, hl, hc⟩
  · omega
  · exact ⟨b, off, ha, hl, hc k hk, hc j hj, hc i hi⟩
theorem StI.empty (w : World) (base b : Nat) (hb : w.heap.size = b) (hh : base ≤ b) : StI (w.alloc (.cells #[] 3)) base b 0 [] := by
  subst hb; exact World.ownsRow_lit w #[] 0 hh (Nat.zero_le _) rfl
theorem StI.below {w w' : World} {base h cap : Nat} {st : List Nat} (H : StI w base h cap st) (hb : Below w.heap.size w w') : StI w' base h cap st := by
  refine ⟨H.1, ?_⟩
  rcases H.2 with h0 | ⟨g, c, cur, h1, h2, h3, h4⟩
  · exact Or.inl h0
  · refine Or.inr ⟨g, c, cur, h1, h2, ?_, h4⟩
    rw [hb.block g ((Array.getElem?_eq_some_iff.1 h3).choose)]; exact h3
theorem StI.at_ {w : World} {base h cap k s : Nat} {st : List Nat} (H : StI w base h cap st) (hk : st[k]? = some s) : w.cell? ⟨h, k, none⟩ = some (.int .i64 (s : Nat)) := by
  have hl : k < st.length := (List.getElem?_eq_some_iff.1 hk).choose
  rw [World.ownsRow.cellAt H k (by omega)]
  unfold intL
  rw [List.getElem?_map, hk]; rfl
theorem or_top : ∀ i : Fin 7, ∀ M : Fin 64, M.val < 2 ^ i.val → bits .or .i64 ((M.val : Nat) : Int) ((2 ^ i.val : Nat) : Int) = ((M.val + 2 ^ i.val : Nat) : Int) := by decide +kernel
theorem dif_eq (a b : Nat) (ha : a < 128) (hb : b < 128) : bits .andNot .i64 (a : Int) (b : Int) = ((difN a b : Nat) : Int) := by
  have e : ∀ X Y : BitVec 64, X &&& ~~~Y = X ^^^ (X &&& Y) := fun X Y => by
    refine BitVec.eq_of_getLsbD_eq fun i hi => ?_
    simp only [BitVec.getLsbD_and, BitVec.getLsbD_not, BitVec.getLsbD_xor, hi, decide_true, Bool.true_and]
    cases X.getLsbD i <;> cases Y.getLsbD i <;> rfl
  have hd : difN a b < 2 ^ 7 := difN_lt (by omega)
  show IntKind.i64.wrap ((BitVec.ofInt 64 (a : Int) &&& ~~~BitVec.ofInt 64 (b : Int)).toNat : Int) = _
  rw [e, BitVec.toNat_xor, BitVec.toNat_and, ofInt_u64 a (by omega), ofInt_u64 b (by omega), IntKind.wrap_i64]
  show (((difN a b : Nat) : Int) + _) % _ - _ = _
  omega
theorem low_bit {a : Nat} (h : a ≠ 0) (ha : a < 128) : ∃ i, i < 7 ∧ a.testBit i = true ∧ ∀ j, j < i → a.testBit j = false := by
  have ex : ∃ i, a.testBit i = true := Classical.byContradiction fun hn => h (Nat.eq_of_testBit_eq fun i => by
    rw [Nat.zero_testBit]
    cases hb : a.testBit i
    · rfl
    · exact absurd ⟨i, hb⟩ hn)
  obtain ⟨i, hi⟩ := ex
  obtain ⟨m, hm, h1, h2⟩ := least_ex (P := fun i => a.testBit i = true) i hi
  refine ⟨m, ?_, h1, fun j hj => ?_⟩
  · rcases Nat.lt_or_ge m 7 with x | x
    · exact x
    · rw [Nat.testBit_lt_two_pow (Nat.lt_of_lt_of_le (show a < 2 ^ 7 by omega) (Nat.pow_le_pow_right (by omega) x))] at h1; cases h1
  · cases hb : a.testBit j
    · rfl
    · have := h2 j hb; omega
/-- it is there, before the i-th place -/
def inTo (st : List Nat) (x i : Nat) : Bool := decide (x ∈ st.take i)
theorem inTo_zero (st : List Nat) (x : Nat) : inTo st x 0 = false := by simp [inTo]
theorem inTo_step {st : List Nat} {x i s : Nat} (h : st[i]? = some s) : inTo st x (i + 1) = (inTo st x i || decide (s = x)) := by
  unfold inTo
  rw [List.take_add_one, h, Bool.eq_iff_iff]
  simp only [Option.toList, List.mem_append, List.mem_singleton, decide_eq_true_eq, Bool.or_eq_true]
  exact ⟨fun h => h.imp id Eq.symm, fun h => h.imp id Eq.symm⟩
theorem inTo_all (st : List Nat) (x : Nat) : inTo st x st.length = decide (x ∈ st) := by unfold inTo; rw [List.take_length]
/-- The sets of the cells at the first k left sides, and at k's and the first j low sides. -/
structure SetsTo (f : Nat → Rt) (n k j : Nat) (st : List Nat) : Prop where
  of : ∀ s, s ∈ st → ∃ a b, a < n ∧ b < n ∧ s = hitN f n a b
  all : ∀ a b, a < n → b < n → a < k ∨ (a = k ∧ b < j) → hitN f n a b ∈ st
  len : st.length ≤ 7 * k + j
theorem SetsTo.start (f : Nat → Rt) (n : Nat) : SetsTo f n 0 0 [] := ⟨fun s h => (by cases h), fun a b _ _ h => by omega, Nat.zero_le _⟩
theorem SetsTo.skip {f : Nat → Rt} {n k j : Nat} {st : List Nat} (H : SetsTo f n k j st) (h : hitN f n k j ∈ st) : SetsTo f n k (j + 1) st :=
  ⟨H.of, fun a b ha hb hab => by
    by_cases e : a = k ∧ b = j
    · rw [e.1, e.2]; exact h
    · exact H.all a b ha hb (by omega), by have := H.len; omega⟩
theorem SetsTo.more {f : Nat → Rt} {n k j : Nat} {st : List Nat} (H : SetsTo f n k j st) (hk : k < n) (hj : j < n) : SetsTo f n k (j + 1) (st ++ [hitN f n k j]) :=
  ⟨fun s hs => (List.mem_append.1 hs).elim (H.of s) (fun h => ⟨k, j, hk, hj, List.mem_singleton.1 h⟩), fun a b ha hb hab => by
    by_cases e : a = k ∧ b = j
    · rw [e.1, e.2]; exact List.mem_append.2 (Or.inr (List.mem_singleton.2 rfl))
    · exact List.mem_append.2 (Or.inl (H.all a b ha hb (by omega))), by rw [List.length_append, List.length_singleton]; have := H.len; omega⟩
theorem SetsTo.row {f : Nat → Rt} {n k : Nat} {st : List Nat} (H : SetsTo f n k n st) (hn : n ≤ 7) : SetsTo f n (k + 1) 0 st :=
  ⟨H.of, fun a b ha hb hab => H.all a b ha hb (by omega), by have := H.len; omega⟩
theorem SetsTo.fin {f : Nat → Rt} {n : Nat} {st : List Nat} (H : SetsTo f n n 0 st) : Sets f n st := ⟨H.of, fun k j hk hj => H.all k j hk hj (Or.inl hk)⟩
theorem Sets.lt {f : Nat → Rt} {n s : Nat} {st : List Nat} (H : Sets f n st) (hn : n ≤ 7) (hs : s ∈ st) : s < 128 := by
  obtain ⟨k, j, _, _, rfl⟩ := H.of s hs
  exact Nat.lt_of_lt_of_le (maskI_lt _ n) (pow_le7 n hn)


theorem pow_full (n : Nat) : (2 ^ n - 1) < 2 ^ n := by have := Nat.two_pow_pos n; omega
end Go.Proofs.YtkfeeijiockdhaaDoor
