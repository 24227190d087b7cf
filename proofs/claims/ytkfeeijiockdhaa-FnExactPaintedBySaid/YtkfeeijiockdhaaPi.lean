/- Chapter 5 of spec: who meets; how many are apart. Chapter 5 of spec: how many cells pierce all. -/
import Derived.Test.YtkfeeijiockdhaaMa
import Derived.Test.YtkfeeijiockdhaaMathSU
namespace Go.Proofs.Ytkfeeijiockdhaa
open Go.RowKit Go.Sort
set_option linter.unusedVariables false
theorem Rs.pair {w : World} {A : Option Addr} {n k j : Nat} {f : Nat → Rt} (h : Rs w A n f) (hk : k < n) (hj : j < n) : ∃ b off, A = some ⟨b, off, none⟩ ∧ b < w.heap.size ∧ C4 w b (off + k * 4) (f k) ∧ C4 w b (off + j * 4) (f j) := by
  rcases h with h | ⟨b, off, ha, hl, hc⟩
  · omega
  · exact ⟨b, off, ha, hl, hc k hk, hc j hj⟩
/-- a bit that is not -/
theorem bit_no : ∀ s : Fin 128, ∀ i : Fin 7, ((((s.val : Nat) : Int) / 2 ^ i.val).tmod 2 == 0) = !s.val.testBit i.val := by decide +kernel


set_option maxHeartbeats 400000 in
set_option maxRecDepth 20000 in
theorem smt_any (a b : Rt) (w : World) :
    Calls Try.prog 68 #[rv a, rv b] w fun e w' => e = .returned (.bool (cmB a b)) ∧ Below w.heap.size w w' := by
  go_enter Try.func68, Try.ntmps68
  go_wp2_with fail
  refine (scm_any a b _).mono ?_; rintro e w1 ⟨rfl, hb1⟩; have hz1 := hb1.size; (try simp at hz1); have _ : w.heap.size < w1.heap.size := (by first | (simp; done) | omega | (simp; omega)); have _ : w.heap.size + 1 < w1.heap.size := (by first | (simp; done) | omega | (simp; omega)); have _ := fun o => hb1.cell (p := ⟨w.heap.size, o, none⟩) (by first | (simp; done) | omega | (simp; omega)); have _ := fun o => hb1.cell (p := ⟨w.heap.size + 1, o, none⟩) (by first | (simp; done) | omega | (simp; omega))
  go_wp2
  go_ret
  exact ⟨rfl, by (repeat (first | with_reducible exact Below.refl _ _ | with_reducible assumption | ((with_reducible refine Below.alloc ?_ ?_ _); rotate_left; focus (first | with_reducible exact Nat.le_refl _ | omega | (simp; done) | (simp; omega))) | ((with_reducible refine Below.setCell ?_ ?_ _); rotate_left; focus (first | with_reducible exact Nat.le_refl _ | omega | (simp; done) | (simp; omega))) | (with_reducible refine Below.drew ?_) | ((with_reducible refine Below.trans ?_ (Below.mono (by with_reducible assumption) ?_)); rotate_left; focus (first | with_reducible exact Nat.le_refl _ | omega | (simp; done) | (simp; omega)))))⟩
theorem smt_val (a b : Rt) (v : Bool) (h : cmB a b = v) (w : World) :
    Calls Try.prog 68 #[rv a, rv b] w fun e w' => e = .returned (.bool v) ∧ Below w.heap.size w w' := h ▸ smt_any a b w


theorem and_step (p a b c : Bool) (h : (p && a) = false) : (p && (a && (!b || !c))) = false := by cases p <;> simp_all
set_option maxHeartbeats 2000000 in
set_option maxRecDepth 20000 in
theorem sap_any (A : Option Addr) (n cap : Nat) (f : Nat → Rt) (w : World) (hn : n ≤ maxLen) (hr : Rs w A n f) :
    Calls Try.prog 38 #[.slice A n cap] w fun e w' => e = .returned (.int .i64 (apF f n)) ∧ Below w.heap.size w w' := by
  have Hn := Lib.hid hn
  have Hr := Lib.hid hr
  clear hn hr
  cases hl : laidF f n
  · have H : Hid (apF f n = -1) := Lib.hid (by unfold apF; rw [hl]; rfl)
    go_enter Try.func38, Try.ntmps38
    go_wp2_with fail
    refine (slaid_val A n cap f false hl _ Hn.out Hr.out).mono ?_; rintro e w1 ⟨rfl, hb1⟩; have hz1 := hb1.size; (try simp at hz1)
    go_wp2
    go_ret
    exact ⟨ret_int (by rw [H.out]), by (repeat (first | with_reducible exact Below.refl _ _ | with_reducible assumption | ((with_reducible refine Below.alloc ?_ ?_ _); rotate_left; focus (first | with_reducible exact Nat.le_refl _ | omega | (simp; done) | (simp; omega))) | ((with_reducible refine Below.setCell ?_ ?_ _); rotate_left; focus (first | with_reducible exact Nat.le_refl _ | omega | (simp; done) | (simp; omega))) | (with_reducible refine Below.drew ?_) | ((with_reducible refine Below.trans ?_ (Below.mono (by with_reducible assumption) ?_)); rotate_left; focus (first | with_reducible exact Nat.le_refl _ | omega | (simp; done) | (simp; omega)))))⟩
  · obtain ⟨h7, hok⟩ := laidF_ok hl
    have hsh := shl_eq ⟨n, by omega⟩
    dsimp only at hsh
    have hP1 := pow_le7 n h7
    generalize hP : 2 ^ n = P at hsh hP1
    have H : Hid (apF f n = bestA f n P) := Lib.hid (by unfold apF; rw [hl, ← hP, bestA_all]; rfl)
    clear hP
    go_enter Try.func38, Try.ntmps38
    go_wp2_with fail
    refine (slaid_val A n cap f true hl _ Hn.out Hr.out).mono ?_; rintro e w1 ⟨rfl, hb1⟩; have hz1 := hb1.size; (try simp at hz1)
    have Hr1 := Lib.hid (Hr.out.below hb1)
    have Hb1 := Lib.hid hb1
    clear hb1
    go_wp2
    go_loopw [3, 4] (fun s3 s4 wr => ∃ t : Nat, t ≤ P ∧ s4 = .int .i64 t ∧ s3 = .int .i64 (bestA f n t : Nat) ∧ Below w1.heap.size w1 wr) (fun _ s4 _ => P - (intOf s4).toNat)
    case atStart => exact ⟨0, Nat.zero_le _, rfl, rfl, Below.refl _ _⟩
    case round =>
      obtain ⟨t, ht, rfl, rfl, hbr⟩ := hrel
      have HB := Lib.hid hbr
      have hbd := bestA_bd f n t
      clear hbr
      generalize hS : bestA f n t = S at hbd
      have HS := Lib.hid hS
      clear hS
      by_cases hlt : t < P
      · go_wp2
        obtain ⟨wo, ho⟩ : ∃ wo : World, wo = wr := ⟨_, rfl⟩
        go_loopw [5, 6, 7] (fun s5 s6 s7 wi => ∃ k : Nat, k ≤ n ∧ s7 = .int .i64 k ∧ s5 = .int .i64 (popTo t k : Nat) ∧ s6 = .bool (aall f t k) ∧ Below w1.heap.size w1 wi) (fun _ _ s7 _ => n - (intOf s7).toNat)
        case atStart => exact ⟨0, Nat.zero_le _, rfl, rfl, rfl, HB.out⟩
        case round =>
          obtain ⟨k, hk, rfl, rfl, rfl, hbi⟩ := hrel
          have HBI := Lib.hid hbi
          clear hbi
          have hpl := popTo_le t k
          by_cases hlt2 : k < n
          · have hbk := bit_no ⟨t, by omega⟩ ⟨k, by omega⟩
            dsimp only at hbk
            have HPp : Hid (popTo t (k + 1) = popTo t k + (if t.testBit k then 1 else 0)) := Lib.hid rfl
            have HAa : Hid (aall f t (k + 1) = (aall f t k && (!t.testBit k || arow f t k k))) := Lib.hid rfl
            generalize hL : popTo t k = L at hpl
            generalize hp : aall f t k = p
            have HL := Lib.hid hL
            have Hp := Lib.hid hp
            clear hL hp
            cases htk : t.testBit k
            · rw [htk] at hbk
              simp only [Bool.not_false] at hbk
              go_wp2
              go_roundw
              case rel => exact ⟨k + 1, by omega, by go_num, by rw [HPp.out, htk, HL.out]; rfl, by rw [HAa.out, htk, Hp.out]; simp, HBI.out⟩
              case measure => simp [intOf]; omega
            · rw [htk] at hbk
              simp only [Bool.not_true] at hbk
              go_wp2
              obtain ⟨wq, hq⟩ : ∃ wq : World, wq = wr := ⟨_, rfl⟩
              go_loopw [6, 8] (fun s6 s8 wi => ∃ j : Nat, j ≤ k ∧ s8 = .int .i64 j ∧ s6 = .bool (p && arow f t k j) ∧ Below w1.heap.size w1 wi) (fun _ s8 _ => k - (intOf s8).toNat)
              case atStart => exact ⟨0, Nat.zero_le _, rfl, by simp [arow], HBI.out⟩
              case round =>
                obtain ⟨j, hj, rfl, rfl, hbj⟩ := hrel
                have hzj := hbj.size
                have HAr : Hid (arow f t k (j + 1) = (arow f t k j && (!t.testBit j || !cmB (f j) (f k)))) := Lib.hid rfl
                by_cases hlt3 : j < k
                · have hbj2 := bit_no ⟨t, by omega⟩ ⟨j, by omega⟩
                  dsimp only at hbj2
                  obtain ⟨b, off, rfl, hbl, ⟨c0, c1, c2, c3⟩, d0, d1, d2, d3⟩ := (Hr1.out.below hbj).pair hlt2 (show j < n by omega)
                  cases hpa : (p && arow f t k j)
                  · go_wp2_with fail
                    have hq : True := trivial; have hq := fun d os o => (below_regrown wr d os).cell (p := ⟨b, o, none⟩) (by first | (simp; done) | omega | (simp; omega)); refine wp_region_quiet_below (by kernel_rfl) (by kernel_rfl) ?_; (repeat (first | go_big_quiet_step (fail) | quiet_step (fail))); refine wpQuiet_nil ?_; intro _ hw'; obtain ⟨⟨dq, osq⟩, hw''⟩ := hw'; subst hw''; clear hq; have hb1 := below_regrown wr dq osq; generalize Sort.grow (redrawn wr dq) osq = w1 at hb1 ⊢; have hz1 := hb1.size; (try simp at hz1); have _ : b < w1.heap.size := (by first | (simp; done) | omega | (simp; omega)); have _ := fun o => hb1.cell (p := ⟨b, o, none⟩) (by first | (simp; done) | omega | (simp; omega))
                    go_wp2
                    go_roundw
                    case rel => exact ⟨j + 1, by omega, by go_num, by rw [HAr.out, and_step _ _ _ _ hpa], by (repeat (first | with_reducible exact Below.refl _ _ | with_reducible assumption | ((with_reducible refine Below.alloc ?_ ?_ _); rotate_left; focus (first | with_reducible exact Nat.le_refl _ | omega | (simp; done) | (simp; omega))) | ((with_reducible refine Below.setCell ?_ ?_ _); rotate_left; focus (first | with_reducible exact Nat.le_refl _ | omega | (simp; done) | (simp; omega))) | (with_reducible refine Below.drew ?_) | ((with_reducible refine Below.trans ?_ (Below.mono (by with_reducible assumption) ?_)); rotate_left; focus (first | with_reducible exact Nat.le_refl _ | omega | (simp; done) | (simp; omega)))))⟩
                    case measure => simp [intOf]; omega
                  · obtain ⟨hp1, hp2⟩ := Bool.and_eq_true_iff.1 hpa
                    have Hpp : Hid (p = true ∧ arow f t k j = true) := Lib.hid ⟨hp1, hp2⟩
                    clear hp1 hp2
                    cases htj : t.testBit j
                    · rw [htj] at hbj2
                      simp only [Bool.not_false] at hbj2
                      go_wp2_with fail
                      have hq : True := trivial; have hq := fun d os o => (below_regrown wr d os).cell (p := ⟨b, o, none⟩) (by first | (simp; done) | omega | (simp; omega)); refine wp_region_quiet_below (by kernel_rfl) (by kernel_rfl) ?_; (repeat (first | go_big_quiet_step (fail) | quiet_step (fail))); refine wpQuiet_nil ?_; intro _ hw'; obtain ⟨⟨dq, osq⟩, hw''⟩ := hw'; subst hw''; clear hq; have hb1 := below_regrown wr dq osq; generalize Sort.grow (redrawn wr dq) osq = w1 at hb1 ⊢; have hz1 := hb1.size; (try simp at hz1); have _ : b < w1.heap.size := (by first | (simp; done) | omega | (simp; omega)); have _ := fun o => hb1.cell (p := ⟨b, o, none⟩) (by first | (simp; done) | omega | (simp; omega))
                      go_wp2
                      go_roundw
                      case rel => exact ⟨j + 1, by omega, by go_num, by rw [HAr.out, Hpp.out.1, Hpp.out.2, htj]; rfl, by (repeat (first | with_reducible exact Below.refl _ _ | with_reducible assumption | ((with_reducible refine Below.alloc ?_ ?_ _); rotate_left; focus (first | with_reducible exact Nat.le_refl _ | omega | (simp; done) | (simp; omega))) | ((with_reducible refine Below.setCell ?_ ?_ _); rotate_left; focus (first | with_reducible exact Nat.le_refl _ | omega | (simp; done) | (simp; omega))) | (with_reducible refine Below.drew ?_) | ((with_reducible refine Below.trans ?_ (Below.mono (by with_reducible assumption) ?_)); rotate_left; focus (first | with_reducible exact Nat.le_refl _ | omega | (simp; done) | (simp; omega)))))⟩
                      case measure => simp [intOf]; omega
                    · rw [htj] at hbj2
                      simp only [Bool.not_true] at hbj2
                      cases hc : cmB (f j) (f k)
                      · go_wp2_with fail
                        have hq : True := trivial; have hq := fun d os o => (below_regrown wr d os).cell (p := ⟨b, o, none⟩) (by first | (simp; done) | omega | (simp; omega)); refine wp_region_quiet_below (by kernel_rfl) (by kernel_rfl) ?_; (repeat (first | go_big_quiet_step (exact Calls.regrown_of (smt_val (f j) (f k) _ (by assumption) _)) | quiet_step (exact Calls.regrown_of (smt_val (f j) (f k) _ (by assumption) _)))); refine wpQuiet_nil ?_; intro _ hw'; obtain ⟨⟨dq, osq⟩, hw''⟩ := hw'; subst hw''; clear hq; have hb1 := below_regrown wr dq osq; generalize Sort.grow (redrawn wr dq) osq = w1 at hb1 ⊢; have hz1 := hb1.size; (try simp at hz1); have _ : b < w1.heap.size := (by first | (simp; done) | omega | (simp; omega)); have _ := fun o => hb1.cell (p := ⟨b, o, none⟩) (by first | (simp; done) | omega | (simp; omega))
                        go_wp2
                        go_roundw
                        case rel => exact ⟨j + 1, by omega, by go_num, by rw [HAr.out, Hpp.out.1, Hpp.out.2, htj, hc]; rfl, by (repeat (first | with_reducible exact Below.refl _ _ | with_reducible assumption | ((with_reducible refine Below.alloc ?_ ?_ _); rotate_left; focus (first | with_reducible exact Nat.le_refl _ | omega | (simp; done) | (simp; omega))) | ((with_reducible refine Below.setCell ?_ ?_ _); rotate_left; focus (first | with_reducible exact Nat.le_refl _ | omega | (simp; done) | (simp; omega))) | (with_reducible refine Below.drew ?_) | ((with_reducible refine Below.trans ?_ (Below.mono (by with_reducible assumption) ?_)); rotate_left; focus (first | with_reducible exact Nat.le_refl _ | omega | (simp; done) | (simp; omega)))))⟩
                        case measure => simp [intOf]; omega
                      · go_wp2_with fail
                        have hq : True := trivial; have hq := fun d os o => (below_regrown wr d os).cell (p := ⟨b, o, none⟩) (by first | (simp; done) | omega | (simp; omega)); refine wp_region_quiet_below (by kernel_rfl) (by kernel_rfl) ?_; (repeat (first | go_big_quiet_step (exact Calls.regrown_of (smt_val (f j) (f k) _ (by assumption) _)) | quiet_step (exact Calls.regrown_of (smt_val (f j) (f k) _ (by assumption) _)))); refine wpQuiet_nil ?_; intro _ hw'; obtain ⟨⟨dq, osq⟩, hw''⟩ := hw'; subst hw''; clear hq; have hb1 := below_regrown wr dq osq; generalize Sort.grow (redrawn wr dq) osq = w1 at hb1 ⊢; have hz1 := hb1.size; (try simp at hz1); have _ : b < w1.heap.size := (by first | (simp; done) | omega | (simp; omega)); have _ := fun o => hb1.cell (p := ⟨b, o, none⟩) (by first | (simp; done) | omega | (simp; omega))
                        go_wp2
                        go_roundw
                        case rel => exact ⟨j + 1, by omega, by go_num, by rw [HAr.out, Hpp.out.1, Hpp.out.2, htj, hc]; rfl, by (repeat (first | with_reducible exact Below.refl _ _ | with_reducible assumption | ((with_reducible refine Below.alloc ?_ ?_ _); rotate_left; focus (first | with_reducible exact Nat.le_refl _ | omega | (simp; done) | (simp; omega))) | ((with_reducible refine Below.setCell ?_ ?_ _); rotate_left; focus (first | with_reducible exact Nat.le_refl _ | omega | (simp; done) | (simp; omega))) | (with_reducible refine Below.drew ?_) | ((with_reducible refine Below.trans ?_ (Below.mono (by with_reducible assumption) ?_)); rotate_left; focus (first | with_reducible exact Nat.le_refl _ | omega | (simp; done) | (simp; omega)))))⟩
                        case measure => simp [intOf]; omega
                · obtain rfl : j = k := by omega
                  go_wp2
                  go_roundw
                  case rel => exact ⟨j + 1, by omega, by go_num, by rw [HPp.out, htk, HL.out]; go_num, by rw [HAa.out, htk, Hp.out]; rfl, hbj⟩
                  case measure => simp [intOf]; omega
          · obtain rfl : k = n := by omega
            have HA : Hid (bestA f k (t + 1) = if aall f t k then max S (popTo t k) else S) := Lib.hid (by simp only [bestA]; rw [HS.out])
            generalize hL : popTo t k = L at hpl
            have HL := Lib.hid hL
            clear hL
            cases hp : aall f t k
            · go_wp2
              go_roundw
              case rel => exact ⟨t + 1, by omega, by go_num, by rw [HA.out, hp]; rfl, HBI.out⟩
              case measure => simp [intOf]; omega
            · go_wp2
              go_roundw
              case rel => exact ⟨t + 1, by omega, by go_num, by rw [HA.out, hp, HL.out]; simp; omega, HBI.out⟩
              case measure => simp [intOf]; omega
      · obtain rfl : t = P := by omega
        go_wp2
        go_ret
        exact ⟨ret_int (by rw [H.out, HS.out]), Hb1.out.trans (HB.out.mono Hb1.out.size)⟩
theorem sap_val (A : Option Addr) (n cap : Nat) (f : Nat → Rt) (v : Int) (h : apF f n = v) (w : World) (hn : n ≤ maxLen) (hr : Rs w A n f) :
    Calls Try.prog 38 #[.slice A n cap] w fun e w' => e = .returned (.int .i64 v) ∧ Below w.heap.size w w' := h ▸ sap_any A n cap f w hn hr

end Go.Proofs.Ytkfeeijiockdhaa
namespace Go.Proofs.Ytkfeeijiockdhaa
open Go.RowKit Go.Sort
set_option linter.unusedVariables false
theorem Rs.trio {w : World} {A : Option Addr} {n i j k : Nat} {f : Nat → Rt} (h : Rs w A n f) (hk : k < n) (hj : j < n) (hi : i < n) : ∃ b off, A = some ⟨b, off, none⟩ ∧ b < w.heap.size ∧ C4 w b (off + k * 4) (f k) ∧ C4 w b (off + j * 4) (f j) ∧ C4 w b (off + i * 4) (f i) := by
  rcases h with h | ⟨b, off, ha, hl, hc⟩
  · omega
  · exact ⟨b, off, ha, hl, hc k hk, hc j hj, hc i hi⟩
theorem StI.empty (w : World) (base b : Nat) (hb : w.heap.size = b) (hh : base ≤ b) : StI (w.alloc (.cells #[] 3)) base b 0 [] := by
  subst hb; exact World.ownsRow_lit w #[] 0 hh (Nat.zero_le _) rfl
theorem StI.below {w w' : World} {base h cap : Nat} {st : List Nat} (H : StI w base h cap st) (hb : Below w.heap.size w w') : StI w' base h cap st := by
  refine ⟨H.1, ?_⟩
  rcases H.2 with h0 | ⟨g, c, cur, h1, h2, h3, h4⟩
  · exact Or.inl h0
  · refine Or.inr ⟨g, c, cur, h1, h2, ?_, h4⟩
    rw [hb.block g ((Array.getElem?_eq_some_iff.1 h3).choose)]; exact h3
theorem StI.at_ {w : World} {base h cap k s : Nat} {st : List Nat} (H : StI w base h cap st) (hk : st[k]? = some s) : w.cell? ⟨h, k, none⟩ = some (.int .i64 (s : Nat)) := by
  have hl : k < st.length := (List.getElem?_eq_some_iff.1 hk).choose
  rw [World.ownsRow.cellAt H k (by omega)]
  unfold intL
  rw [List.getElem?_map, hk]; rfl
theorem or_top : ∀ i : Fin 7, ∀ M : Fin 64, M.val < 2 ^ i.val → bits .or .i64 ((M.val : Nat) : Int) ((2 ^ i.val : Nat) : Int) = ((M.val + 2 ^ i.val : Nat) : Int) := by decide +kernel
theorem dif_eq (a b : Nat) (ha : a < 128) (hb : b < 128) : bits .andNot .i64 (a : Int) (b : Int) = ((difN a b : Nat) : Int) := by
  have e : ∀ X Y : BitVec 64, X &&& ~~~Y = X ^^^ (X &&& Y) := fun X Y => by
    refine BitVec.eq_of_getLsbD_eq fun i hi => ?_
    simp only [BitVec.getLsbD_and, BitVec.getLsbD_not, BitVec.getLsbD_xor, hi, decide_true, Bool.true_and]
    cases X.getLsbD i <;> cases Y.getLsbD i <;> rfl
  have hd : difN a b < 2 ^ 7 := difN_lt (by omega)
  show IntKind.i64.wrap ((BitVec.ofInt 64 (a : Int) &&& ~~~BitVec.ofInt 64 (b : Int)).toNat : Int) = _
  rw [e, BitVec.toNat_xor, BitVec.toNat_and, ofInt_u64 a (by omega), ofInt_u64 b (by omega), IntKind.wrap_i64]
  show (((difN a b : Nat) : Int) + _) % _ - _ = _
  omega
theorem low_bit {a : Nat} (h : a ≠ 0) (ha : a < 128) : ∃ i, i < 7 ∧ a.testBit i = true ∧ ∀ j, j < i → a.testBit j = false := by
  have ex : ∃ i, a.testBit i = true := Classical.byContradiction fun hn => h (Nat.eq_of_testBit_eq fun i => by
    rw [Nat.zero_testBit]
    cases hb : a.testBit i
    · rfl
    · exact absurd ⟨i, hb⟩ hn)
  obtain ⟨i, hi⟩ := ex
  obtain ⟨m, hm, h1, h2⟩ := least_ex (P := fun i => a.testBit i = true) i hi
  refine ⟨m, ?_, h1, fun j hj => ?_⟩
  · rcases Nat.lt_or_ge m 7 with x | x
    · exact x
    · rw [Nat.testBit_lt_two_pow (Nat.lt_of_lt_of_le (show a < 2 ^ 7 by omega) (Nat.pow_le_pow_right (by omega) x))] at h1; cases h1
  · cases hb : a.testBit j
    · rfl
    · have := h2 j hb; omega
/-- it is there, before the i-th place -/
def inTo (st : List Nat) (x i : Nat) : Bool := decide (x ∈ st.take i)
theorem inTo_zero (st : List Nat) (x : Nat) : inTo st x 0 = false := by simp [inTo]
theorem inTo_step {st : List Nat} {x i s : Nat} (h : st[i]? = some s) : inTo st x (i + 1) = (inTo st x i || decide (s = x)) := by
  unfold inTo
  rw [List.take_add_one, h, Bool.eq_iff_iff]
  simp only [Option.toList, List.mem_append, List.mem_singleton, decide_eq_true_eq, Bool.or_eq_true]
  exact ⟨fun h => h.imp id Eq.symm, fun h => h.imp id Eq.symm⟩
theorem inTo_all (st : List Nat) (x : Nat) : inTo st x st.length = decide (x ∈ st) := by unfold inTo; rw [List.take_length]
/-- The sets of the cells at the first k left sides, and at k's and the first j low sides. -/
structure SetsTo (f : Nat → Rt) (n k j : Nat) (st : List Nat) : Prop where
  of : ∀ s, s ∈ st → ∃ a b, a < n ∧ b < n ∧ s = hitN f n a b
  all : ∀ a b, a < n → b < n → a < k ∨ (a = k ∧ b < j) → hitN f n a b ∈ st
  len : st.length ≤ 7 * k + j
theorem SetsTo.start (f : Nat → Rt) (n : Nat) : SetsTo f n 0 0 [] := ⟨fun s h => (by cases h), fun a b _ _ h => by omega, Nat.zero_le _⟩
theorem SetsTo.skip {f : Nat → Rt} {n k j : Nat} {st : List Nat} (H : SetsTo f n k j st) (h : hitN f n k j ∈ st) : SetsTo f n k (j + 1) st :=
  ⟨H.of, fun a b ha hb hab => by
    by_cases e : a = k ∧ b = j
    · rw [e.1, e.2]; exact h
    · exact H.all a b ha hb (by omega), by have := H.len; omega⟩
theorem SetsTo.more {f : Nat → Rt} {n k j : Nat} {st : List Nat} (H : SetsTo f n k j st) (hk : k < n) (hj : j < n) : SetsTo f n k (j + 1) (st ++ [hitN f n k j]) :=
  ⟨fun s hs => (List.mem_append.1 hs).elim (H.of s) (fun h => ⟨k, j, hk, hj, List.mem_singleton.1 h⟩), fun a b ha hb hab => by
    by_cases e : a = k ∧ b = j
    · rw [e.1, e.2]; exact List.mem_append.2 (Or.inr (List.mem_singleton.2 rfl))
    · exact List.mem_append.2 (Or.inl (H.all a b ha hb (by omega))), by rw [List.length_append, List.length_singleton]; have := H.len; omega⟩
theorem SetsTo.row {f : Nat → Rt} {n k : Nat} {st : List Nat} (H : SetsTo f n k n st) (hn : n ≤ 7) : SetsTo f n (k + 1) 0 st :=
  ⟨H.of, fun a b ha hb hab => H.all a b ha hb (by omega), by have := H.len; omega⟩
theorem SetsTo.fin {f : Nat → Rt} {n : Nat} {st : List Nat} (H : SetsTo f n n 0 st) : Sets f n st := ⟨H.of, fun k j hk hj => H.all k j hk hj (Or.inl hk)⟩
theorem Sets.lt {f : Nat → Rt} {n s : Nat} {st : List Nat} (H : Sets f n st) (hn : n ≤ 7) (hs : s ∈ st) : s < 128 := by
  obtain ⟨k, j, _, _, rfl⟩ := H.of s hs
  exact Nat.lt_of_lt_of_le (maskI_lt _ n) (pow_le7 n hn)


set_option maxHeartbeats 2000000 in
set_option maxRecDepth 20000 in
theorem spi_any (h cap base : Nat) (st : List Nat) (hst : ∀ s, s ∈ st → s < 128) (hlen : st.length ≤ 49) : ∀ (m : Nat) (left : Nat) (mi li : Int) (w : World), mi = m → li = left → m ≤ 7 → left < 128 → StI w base h cap st →
    Calls Try.prog 52 #[.slice (some ⟨h, 0, none⟩) st.length cap, .int .i64 li, .int .i64 mi] w fun e w' => ∃ b : Bool, e = .returned (.bool b) ∧ (b = true ↔ Pc st m left) ∧ w = w' := by
  have Hst := Lib.hid hst
  clear hst
  intro m
  induction m with
  | zero =>
    intro left mi li w h1 h2 hm hl hS
    subst h1 h2
    by_cases h0 : left = 0
    · subst h0
      go_enter Try.func52, Try.ntmps52
      go_wp2
      go_ret
      exact ⟨true, rfl, ⟨fun _ => Pc.none _, fun _ => rfl⟩, rfl⟩
    · have hl0 : ((left : Int) == 0) = false := by simp; omega
      go_enter Try.func52, Try.ntmps52
      go_wp2
      go_ret
      exact ⟨false, rfl, ⟨fun hh => (by cases hh), fun hh => absurd hh (Pc.zero h0)⟩, rfl⟩
  | succ m ih =>
    intro left mi li w h1 h2 hm hl hS
    have Hih := Lib.hid ih
    have HS := Lib.hid hS
    clear ih hS
    subst h2
    by_cases h0 : left = 0
    · subst h0
      go_enter Try.func52, Try.ntmps52
      go_wp2
      go_ret
      exact ⟨true, rfl, ⟨fun _ => Pc.none _, fun _ => rfl⟩, rfl⟩
    · have hl0 : ((left : Int) == 0) = false := by simp; omega
      have hm0 : (mi == 0) = false := by simp; omega
      have hm1 : mi ≤ 7 := by omega
      have hm2 : 1 ≤ mi := by omega
      obtain ⟨i0, hi7, hi0, hlow⟩ := low_bit h0 hl
      have HL := Lib.hid hlow
      have H1 := Lib.hid h1
      clear hlow h1
      go_enter Try.func52, Try.ntmps52
      go_wp2
      go_loopw [7] (fun s7 wr => ∃ i : Nat, i ≤ i0 ∧ s7 = .int .i64 i ∧ w = wr) (fun s7 _ => i0 - (intOf s7).toNat)
      case atStart => exact ⟨0, Nat.zero_le _, rfl, by trivial⟩
      case round =>
        obtain ⟨i, hi, rfl, rfl⟩ := hrel
        have hb := bit_no ⟨left, hl⟩ ⟨i, by omega⟩
        dsimp only at hb
        by_cases hlt : i < i0
        · rw [HL.out i hlt] at hb
          simp only [Bool.not_false] at hb
          go_wp2
          go_roundw
          case rel => exact ⟨i + 1, by omega, by go_num, by trivial⟩
          case measure => simp [intOf]; omega
        · obtain rfl : i = i0 := by omega
          rw [hi0] at hb
          simp only [Bool.not_true] at hb
          go_wp2
          clear hb
          go_loopw [8] (fun s8 wr => ∃ k : Nat, k ≤ st.length ∧ s8 = .int .i64 k ∧ (∀ j s, j < k → st[j]? = some s → s.testBit i = true → ¬ Pc st m (difN left s)) ∧ w = wr) (fun s8 _ => st.length - (intOf s8).toNat)
          case atStart => exact ⟨0, Nat.zero_le _, rfl, fun j s hj => by omega, by trivial⟩
          case round =>
            obtain ⟨k, hk, rfl, hno, rfl⟩ := hrel
            have HN := Lib.hid hno
            clear hno
            by_cases hlt2 : k < st.length
            · obtain ⟨s, hs⟩ : ∃ s, st[k]? = some s := ⟨_, List.getElem?_eq_getElem hlt2⟩
              have hsm := List.mem_of_getElem? hs
              have hs7 := Hst.out s hsm
              have hc := HS.out.at_ hs
              have hcap := HS.out.capLe
              have hb := bit_eq ⟨s, hs7⟩ ⟨i, hi7⟩
              dsimp only at hb
              have Hs := Lib.hid hs
              have Hsm := Lib.hid hsm
              clear hs hsm
              cases hsb : s.testBit i
              · rw [hsb] at hb
                go_wp2
                go_roundw
                case rel =>
                  refine ⟨k + 1, by omega, by go_num, fun j t hj ht hb' => ?_, by trivial⟩
                  by_cases e : j = k
                  · subst e; rw [Hs.out] at ht; cases ht; rw [hsb] at hb'; cases hb'
                  · exact HN.out j t (by omega) ht hb'
                case measure => simp [intOf]; omega
              · rw [hsb] at hb
                have hd := dif_eq left s hl hs7
                have hdl : difN left s < 128 := difN_lt (n := 7) hl
                go_wp2_with fail
                refine (Hih.out (difN left s) _ _ _ (by have := H1.out; omega) (by first | rfl | assumption) (by omega) hdl HS.out).mono ?_; rintro e w' ⟨b, rfl, hb', rfl⟩
                have Hb := Lib.hid hb'
                clear hb'
                cases b
                · go_wp2
                  go_roundw
                  case rel =>
                    refine ⟨k + 1, by omega, by go_num, fun j t hj ht hb' => ?_, by trivial⟩
                    by_cases e : j = k
                    · subst e; rw [Hs.out] at ht; cases ht; exact fun hp => by cases Hb.out.2 hp
                    · exact HN.out j t (by omega) ht hb'
                  case measure => simp [intOf]; omega
                · go_wp2
                  go_ret
                  exact ⟨true, rfl, ⟨fun _ => Pc.step Hsm.out (Hb.out.1 (by trivial)), fun _ => rfl⟩, rfl⟩
            · obtain rfl : k = st.length := by omega
              go_wp2
              go_ret
              refine ⟨false, rfl, ⟨fun hh => (by cases hh), fun hp => ?_⟩, rfl⟩
              obtain ⟨s, hs, hsb, hpc⟩ := Pc.first hi0 hp
              obtain ⟨j, hj⟩ := List.getElem?_of_mem hs
              exact absurd hpc (HN.out j s (List.getElem?_eq_some_iff.1 hj).choose hj hsb)


set_option maxHeartbeats 4000000 in
set_option maxRecDepth 100000 in
theorem ssets_any (A : Option Addr) (n cap : Nat) (f : Nat → Rt) (w : World) (h7 : n ≤ 7) (hok : okTo f n = true) (hr : Rs w A n f) :
    Calls Try.prog 51 #[.slice A n cap] w fun e w' => ∃ (h c : Nat) (st : List Nat), e = .returned (.slice (some ⟨h, 0, none⟩) st.length c) ∧ StI w' w.heap.size h c st ∧ Sets f n st ∧ st.length ≤ 49 ∧ Below w.heap.size w w' := by
  have Hr := Lib.hid hr
  have Hok := Lib.hid hok
  clear hr hok
  go_enter Try.func51, Try.ntmps51
  go_wp2
  go_loopw [3, 4] (fun s3 s4 wr => ∃ (k h c : Nat) (st : List Nat), k ≤ n ∧ s4 = .int .i64 k ∧ s3 = .slice (some ⟨h, 0, none⟩) st.length c ∧ StI wr w.heap.size h c st ∧ SetsTo f n k 0 st ∧ Below w.heap.size w wr) (fun _ s4 _ => n - (intOf s4).toNat)
  case atStart => exact ⟨0, w.heap.size, 0, [], Nat.zero_le _, rfl, rfl, StI.empty _ _ _ rfl (Nat.le_refl _), SetsTo.start f n, (Below.refl _ _).alloc (Nat.le_refl _) _⟩
  case round =>
    obtain ⟨k, h0, c0, st0, hk, rfl, rfl, hS0, hT0, hbr⟩ := hrel
    have HS0 := Lib.hid hS0
    have HT0 := Lib.hid hT0
    have HB := Lib.hid hbr
    have hlen0 := hT0.len
    clear hS0 hT0 hbr
    by_cases hlt : k < n
    · go_wp2
      obtain ⟨wo, ho⟩ : ∃ wo : World, wo = wr := ⟨_, rfl⟩
      go_loopw [3, 5] (fun s3 s5 wr => ∃ (j h c : Nat) (st : List Nat), j ≤ n ∧ s5 = .int .i64 j ∧ s3 = .slice (some ⟨h, 0, none⟩) st.length c ∧ StI wr w.heap.size h c st ∧ SetsTo f n k j st ∧ Below w.heap.size w wr) (fun _ s5 _ => n - (intOf s5).toNat)
      case atStart => exact ⟨0, h0, c0, st0, Nat.zero_le _, rfl, rfl, HS0.out, HT0.out, HB.out⟩
      case round =>
        obtain ⟨j, h, c, st, hj, rfl, rfl, hS, hT, hbj⟩ := hrel
        have HS := Lib.hid hS
        have HT := Lib.hid hT
        have HBJ := Lib.hid hbj
        have hlen := hT.len
        clear hS hT hbj
        by_cases hlt2 : j < n
        · obtain ⟨I, hI⟩ : ∃ I : Nat → Bool, I = fun i => hasB (f i) (f k).l (f j).o := ⟨_, rfl⟩
          have HI := Lib.hid hI
          clear hI
          go_wp2
          obtain ⟨wq, hq⟩ : ∃ wq : World, wq = wr := ⟨_, rfl⟩
          have HSq : Hid (StI wq w.heap.size h c st) := Lib.hid (by rw [hq]; exact HS.out)
          have HBq : Hid (Below w.heap.size w wq) := Lib.hid (by rw [hq]; exact HBJ.out)
          have hwq : w.heap.size ≤ wq.heap.size := HBq.out.size
          go_loopw [6, 7] (fun s6 s7 wr => ∃ i : Nat, i ≤ n ∧ s7 = .int .i64 i ∧ s6 = .int .i64 (maskI I i : Nat) ∧ Below wq.heap.size wq wr) (fun _ s7 _ => n - (intOf s7).toNat)
          case atStart => exact ⟨0, Nat.zero_le _, rfl, rfl, by rw [hq]; exact Below.refl _ _⟩
          case round =>
            obtain ⟨i, hi, rfl, rfl, hbi⟩ := hrel
            have hzi := hbi.size
            have HBI := Lib.hid (HBq.out.trans (hbi.mono hwq))
            by_cases hlt3 : i < n
            · obtain ⟨b, off, rfl, hbl, ⟨c0, c1, c2, c3⟩, ⟨d0, d1, d2, d3⟩, e0, e1, e2, e3⟩ := (Hr.out.below HBI.out).trio hlt hlt2 hlt3
              obtain ⟨⟨o1, o2, o3⟩, o4, o5, o6⟩ := okB_iff.1 (okTo_le Hok.out hlt3)
              have hM := maskI_lt I i
              have hP := pow_le7 i (by omega)
              have hP2 : 2 ^ i ≤ 64 := by have := Nat.pow_le_pow_right (n := 2) (by omega) (show i ≤ 6 by omega); omega
              have hor := or_top ⟨i, by omega⟩ ⟨maskI I i, by omega⟩ hM
              have hsh := shl_eq ⟨i, by omega⟩
              dsimp only at hor hsh
              have HMs : Hid (maskI I (i + 1) = maskI I i + (if I i = true then 2 ^ i else 0)) := Lib.hid rfl
              have HIi : Hid (I i = (inB (f k).l (f i).l ((f i).r - 1) && inB (f j).o (f i).o ((f i).h - 1))) := Lib.hid (by rw [HI.out]; exact hasB_in _ _ _)
              generalize hMM : maskI I i = M at hM hor
              have HMM := Lib.hid hMM
              clear hMM
              generalize hPP : 2 ^ i = P at hM hor hsh hP hP2
              have HPP := Lib.hid hPP
              clear hPP
              cases h1 : inB (f k).l (f i).l ((f i).r - 1)
              · go_wp2_with fail
                have hq : True := trivial; have hq := fun d os o => (below_regrown wr d os).cell (p := ⟨b, o, none⟩) (by first | (simp; done) | omega | (simp; omega)); refine wp_region_quiet_below (by kernel_rfl) (by kernel_rfl) ?_; (repeat (first | go_big_quiet_step (exact Calls.regrown_of (in_val _ _ _ _ (by assumption) _)) | quiet_step (exact Calls.regrown_of (in_val _ _ _ _ (by assumption) _)))); refine wpQuiet_nil ?_; intro _ hw'; obtain ⟨⟨dq, osq⟩, hw''⟩ := hw'; subst hw''; clear hq; have hb1 := below_regrown wr dq osq; generalize Sort.grow (redrawn wr dq) osq = w1 at hb1 ⊢; have hz1 := hb1.size; (try simp at hz1); have _ : b < w1.heap.size := (by first | (simp; done) | omega | (simp; omega)); have _ := fun o => hb1.cell (p := ⟨b, o, none⟩) (by first | (simp; done) | omega | (simp; omega))
                go_wp2
                go_roundw
                case rel => exact ⟨i + 1, by omega, by go_num, by rw [HMs.out, HIi.out, h1, HMM.out]; rfl, by (repeat (first | with_reducible exact Below.refl _ _ | with_reducible assumption | ((with_reducible refine Below.alloc ?_ ?_ _); rotate_left; focus (first | with_reducible exact Nat.le_refl _ | omega | (simp; done) | (simp; omega))) | ((with_reducible refine Below.setCell ?_ ?_ _); rotate_left; focus (first | with_reducible exact Nat.le_refl _ | omega | (simp; done) | (simp; omega))) | (with_reducible refine Below.drew ?_) | ((with_reducible refine Below.trans ?_ (Below.mono (by with_reducible assumption) ?_)); rotate_left; focus (first | with_reducible exact Nat.le_refl _ | omega | (simp; done) | (simp; omega)))))⟩
                case measure => simp [intOf]; omega
              · cases h2 : inB (f j).o (f i).o ((f i).h - 1)
                · go_wp2_with fail
                  have hq : True := trivial; have hq := fun d os o => (below_regrown wr d os).cell (p := ⟨b, o, none⟩) (by first | (simp; done) | omega | (simp; omega)); refine wp_region_quiet_below (by kernel_rfl) (by kernel_rfl) ?_; (repeat (first | go_big_quiet_step (exact Calls.regrown_of (in_val _ _ _ _ (by assumption) _)) | quiet_step (exact Calls.regrown_of (in_val _ _ _ _ (by assumption) _)))); refine wpQuiet_nil ?_; intro _ hw'; obtain ⟨⟨dq, osq⟩, hw''⟩ := hw'; subst hw''; clear hq; have hb1 := below_regrown wr dq osq; generalize Sort.grow (redrawn wr dq) osq = w1 at hb1 ⊢; have hz1 := hb1.size; (try simp at hz1); have _ : b < w1.heap.size := (by first | (simp; done) | omega | (simp; omega)); have _ := fun o => hb1.cell (p := ⟨b, o, none⟩) (by first | (simp; done) | omega | (simp; omega))
                  go_wp2
                  go_roundw
                  case rel => exact ⟨i + 1, by omega, by go_num, by rw [HMs.out, HIi.out, h1, h2, HMM.out]; rfl, by (repeat (first | with_reducible exact Below.refl _ _ | with_reducible assumption | ((with_reducible refine Below.alloc ?_ ?_ _); rotate_left; focus (first | with_reducible exact Nat.le_refl _ | omega | (simp; done) | (simp; omega))) | ((with_reducible refine Below.setCell ?_ ?_ _); rotate_left; focus (first | with_reducible exact Nat.le_refl _ | omega | (simp; done) | (simp; omega))) | (with_reducible refine Below.drew ?_) | ((with_reducible refine Below.trans ?_ (Below.mono (by with_reducible assumption) ?_)); rotate_left; focus (first | with_reducible exact Nat.le_refl _ | omega | (simp; done) | (simp; omega)))))⟩
                  case measure => simp [intOf]; omega
                · go_wp2_with fail
                  have hq : True := trivial; have hq := fun d os o => (below_regrown wr d os).cell (p := ⟨b, o, none⟩) (by first | (simp; done) | omega | (simp; omega)); refine wp_region_quiet_below (by kernel_rfl) (by kernel_rfl) ?_; (repeat (first | go_big_quiet_step (exact Calls.regrown_of (in_val _ _ _ _ (by assumption) _)) | quiet_step (exact Calls.regrown_of (in_val _ _ _ _ (by assumption) _)))); refine wpQuiet_nil ?_; intro _ hw'; obtain ⟨⟨dq, osq⟩, hw''⟩ := hw'; subst hw''; clear hq; have hb1 := below_regrown wr dq osq; generalize Sort.grow (redrawn wr dq) osq = w1 at hb1 ⊢; have hz1 := hb1.size; (try simp at hz1); have _ : b < w1.heap.size := (by first | (simp; done) | omega | (simp; omega)); have _ := fun o => hb1.cell (p := ⟨b, o, none⟩) (by first | (simp; done) | omega | (simp; omega))
                  go_wp2
                  go_roundw
                  case rel => exact ⟨i + 1, by omega, by go_num, by rw [HMs.out, HIi.out, h1, h2, HMM.out, HPP.out]; rfl, by (repeat (first | with_reducible exact Below.refl _ _ | with_reducible assumption | ((with_reducible refine Below.alloc ?_ ?_ _); rotate_left; focus (first | with_reducible exact Nat.le_refl _ | omega | (simp; done) | (simp; omega))) | ((with_reducible refine Below.setCell ?_ ?_ _); rotate_left; focus (first | with_reducible exact Nat.le_refl _ | omega | (simp; done) | (simp; omega))) | (with_reducible refine Below.drew ?_) | ((with_reducible refine Below.trans ?_ (Below.mono (by with_reducible assumption) ?_)); rotate_left; focus (first | with_reducible exact Nat.le_refl _ | omega | (simp; done) | (simp; omega)))))⟩
                  case measure => simp [intOf]; omega
            · obtain rfl : i = n := by omega
              obtain ⟨x, hx⟩ : ∃ x, maskI I i = x := ⟨_, rfl⟩
              have HX : Hid (hitN f i k j = x) := Lib.hid (by rw [← hx, HI.out]; rfl)
              have hx7 : x < 128 := by rw [← hx]; exact Nat.lt_of_lt_of_le (maskI_lt _ _) (pow_le7 i h7)
              have HSi := Lib.hid (HSq.out.below hbi)
              have hcap := HSi.out.capLe
              rw [hx]
              clear hx
              go_wp2
              go_loopw [8, 9] (fun s8 s9 wn => ∃ t : Nat, t ≤ st.length ∧ s9 = .int .i64 t ∧ s8 = .bool (inTo st x t) ∧ wr = wn) (fun _ s9 _ => st.length - (intOf s9).toNat)
              case atStart => exact ⟨0, Nat.zero_le _, rfl, by rw [inTo_zero], by trivial⟩
              case round =>
                obtain ⟨t, ht, rfl, rfl, rfl⟩ := hrel
                by_cases hlt4 : t < st.length
                · obtain ⟨s, hs⟩ : ∃ s, st[t]? = some s := ⟨_, List.getElem?_eq_getElem hlt4⟩
                  have hc := HSi.out.at_ hs
                  have Hst := Lib.hid (inTo_step (x := x) hs)
                  clear hs
                  cases hp : inTo st x t
                  · by_cases hsx : s = x
                    · subst hsx
                      go_wp2
                      go_roundw
                      case rel => exact ⟨t + 1, by omega, by go_num, by rw [Hst.out]; simp, by trivial⟩
                      case measure => simp [intOf]; omega
                    · have hne : ((s : Int) == (x : Int)) = false := by simp; omega
                      go_wp2
                      go_roundw
                      case rel => exact ⟨t + 1, by omega, by go_num, by rw [Hst.out, hp]; simp [hsx], by trivial⟩
                      case measure => simp [intOf]; omega
                  · go_wp2
                    go_roundw
                    case rel => exact ⟨t + 1, by omega, by go_num, by rw [Hst.out, hp]; rfl, by trivial⟩
                    case measure => simp [intOf]; omega
                · obtain rfl : t = st.length := by omega
                  rw [inTo_all]
                  by_cases hin : x ∈ st
                  · have hd : decide (x ∈ st) = true := decide_eq_true hin
                    rw [hd]
                    have Hin := Lib.hid hin
                    clear hin hd
                    go_wp2
                    go_roundw
                    case rel => exact ⟨j + 1, h, c, st, by omega, by go_num, rfl, HSi.out, HT.out.skip (by rw [HX.out]; exact Hin.out), HBI.out⟩
                    case measure => simp [intOf]; omega
                  · have hd : decide (x ∈ st) = false := decide_eq_false hin
                    rw [hd]
                    clear hin hd
                    go_wp2_with (at_builtin; refine list_int1 _ rfl (.tmp 86) (.tmp 88) rfl w.heap.size h c st rfl (HSi.out.alloc _) wr.heap.size x rfl (new_cell _ _ _ rfl) (by omega) (by simp; omega) ?_)
                    intro h' cap' w6 hI6 hb6
                    have HI6 := Lib.hid hI6
                    have HB6 := Lib.hid hb6
                    clear hI6 hb6
                    go_wp2
                    go_roundw
                    case rel => exact ⟨j + 1, h', cap', st ++ [x], by omega, by go_num, by simp, HI6.out, by rw [← HX.out]; exact HT.out.more hlt hlt2, HBI.out.trans (((Below.refl _ _).alloc HBI.out.size _).trans HB6.out)⟩
                    case measure => simp [intOf]; omega
        · obtain rfl : j = n := by omega
          go_wp2
          go_roundw
          case rel => exact ⟨k + 1, h, c, st, by omega, by go_num, rfl, HS.out, HT.out.row h7, HBJ.out⟩
          case measure => simp [intOf]; omega
    · obtain rfl : k = n := by omega
      go_wp2
      go_ret
      exact ⟨h0, c0, st0, rfl, HS0.out, HT0.out.fin, by omega, HB.out⟩


theorem pow_full (n : Nat) : (2 ^ n - 1) < 2 ^ n := by have := Nat.two_pow_pos n; omega
set_option maxHeartbeats 1000000 in
set_option maxRecDepth 20000 in
theorem spr_any (A : Option Addr) (n cap : Nat) (f : Nat → Rt) (w : World) (hn : n ≤ maxLen) (hr : Rs w A n f) :
    Calls Try.prog 15 #[.slice A n cap] w fun e w' => e = .returned (.int .i64 (prF f n)) ∧ Below w.heap.size w w' := by
  have Hn := Lib.hid hn
  have Hr := Lib.hid hr
  clear hn hr
  cases hl : laidF f n
  · have H : Hid (prF f n = -1) := Lib.hid (by unfold prF; rw [hl]; rfl)
    go_enter Try.func15, Try.ntmps15
    go_wp2_with fail
    refine (slaid_val A n cap f false hl _ Hn.out Hr.out).mono ?_; rintro e w1 ⟨rfl, hb1⟩; have hz1 := hb1.size; (try simp at hz1)
    go_wp2
    go_ret
    exact ⟨ret_int (by rw [H.out]), by (repeat (first | with_reducible exact Below.refl _ _ | with_reducible assumption | ((with_reducible refine Below.alloc ?_ ?_ _); rotate_left; focus (first | with_reducible exact Nat.le_refl _ | omega | (simp; done) | (simp; omega))) | ((with_reducible refine Below.setCell ?_ ?_ _); rotate_left; focus (first | with_reducible exact Nat.le_refl _ | omega | (simp; done) | (simp; omega))) | (with_reducible refine Below.drew ?_) | ((with_reducible refine Below.trans ?_ (Below.mono (by with_reducible assumption) ?_)); rotate_left; focus (first | with_reducible exact Nat.le_refl _ | omega | (simp; done) | (simp; omega)))))⟩
  · obtain ⟨h7, hok⟩ := laidF_ok hl
    have H : Hid (prF f n = prN f n) := Lib.hid (by unfold prF; rw [hl]; rfl)
    have Hok := Lib.hid (fun i (hi : i < n) => okTo_le hok hi)
    have hsh := shl_eq ⟨n, by omega⟩
    dsimp only at hsh
    have hP1 := pow_le7 n h7
    have hP2 : 0 < 2 ^ n := Nat.two_pow_pos n
    generalize hP : 2 ^ n = P at hsh hP1 hP2
    have HP := Lib.hid hP
    clear hP
    go_enter Try.func15, Try.ntmps15
    go_wp2_with fail
    refine (slaid_val A n cap f true hl _ Hn.out Hr.out).mono ?_; rintro e w1 ⟨rfl, hb1⟩; have hz1 := hb1.size; (try simp at hz1)
    have Hr1 := Lib.hid (Hr.out.below hb1)
    have Hb1 := Lib.hid hb1
    clear hb1
    go_wp2_with fail
    refine (ssets_any A n cap f _ h7 hok Hr1.out).mono ?_; rintro e w2 ⟨h, c, st, rfl, hS, hT, hlen, hb2⟩
    have HS := Lib.hid hS
    have HT := Lib.hid hT
    have HB : Hid (Below w.heap.size w w2) := Lib.hid (Hb1.out.trans (hb2.mono Hb1.out.size))
    clear hS hT hb2 hok
    go_wp2
    go_loopw [4] (fun s4 wr => ∃ m : Nat, m ≤ n ∧ s4 = .int .i64 m ∧ (∀ k, k < m → ¬ Pc st k (P - 1)) ∧ w2 = wr) (fun s4 _ => n - (intOf s4).toNat)
    case atStart => exact ⟨0, Nat.zero_le _, rfl, fun k hk => by omega, by trivial⟩
    case round =>
      obtain ⟨m, hm, rfl, hno, rfl⟩ := hrel
      have HN := Lib.hid hno
      clear hno
      go_wp2_with fail
      refine (spi_any h c w1.heap.size st (fun s hs => HT.out.lt h7 hs) hlen m (P - 1) _ _ _ rfl (by omega) (by omega) (by omega) HS.out).mono ?_; rintro e w' ⟨b, rfl, hb', rfl⟩
      have Hb := Lib.hid hb'
      clear hb'
      cases b
      · have hlt : m < n := by
          rcases Nat.lt_or_ge m n with x | x
          · exact x
          · obtain rfl : m = n := by omega
            have := Hb.out.2 (HP.out ▸ pc_own HT.out Hok.out)
            cases this
        go_wp2
        go_roundw
        case rel =>
          refine ⟨m + 1, by omega, by go_num, fun k hk => ?_, by trivial⟩
          by_cases e : k = m
          · subst e; exact fun hp => by cases Hb.out.2 hp
          · exact HN.out k (by omega)
        case measure => simp [intOf]; omega
      · go_wp2
        go_ret
        exact ⟨ret_int (by rw [H.out, pc_least HT.out Hok.out (HP.out.symm ▸ Hb.out.1 (by trivial)) (HP.out.symm ▸ HN.out)]), HB.out⟩
theorem spr_val (A : Option Addr) (n cap : Nat) (f : Nat → Rt) (v : Int) (h : prF f n = v) (w : World) (hn : n ≤ maxLen) (hr : Rs w A n f) :
    Calls Try.prog 15 #[.slice A n cap] w fun e w' => e = .returned (.int .i64 v) ∧ Below w.heap.size w w' := h ▸ spr_any A n cap f w hn hr

end Go.Proofs.Ytkfeeijiockdhaa
