/- Chapter 6 of spec: who meets how many; the most that meet. Chapter 6 of spec: colours. Chapter 6 of spec: how many colours. -/
import Derived.Test.YtkfeeijiockdhaaPi
import Derived.Test.YtkfeeijiockdhaaMathW
namespace Go.Proofs.Ytkfeeijiockdhaa
open Go.RowKit Go.Sort
set_option linter.unusedVariables false
/-- the numbers of the first k -/
def natL (g : Nat → Nat) : Nat → List Nat
  | 0 => []
  | k + 1 => natL g k ++ [g k]
theorem natL_len (g : Nat → Nat) (k : Nat) : (natL g k).length = k := by
  induction k with
  | zero => rfl
  | succ k ih => simp only [natL, List.length_append, ih]; rfl
theorem natL_at (g : Nat → Nat) : ∀ k i, i < k → (natL g k)[i]? = some (g i)
  | 0, i, h => by omega
  | k + 1, i, h => by
    simp only [natL]
    by_cases e : i = k
    · subst e; rw [List.getElem?_append_right (by rw [natL_len]; exact Nat.le_refl _), natL_len, Nat.sub_self]; rfl
    · rw [List.getElem?_append_left (by rw [natL_len]; omega)]; exact natL_at g k i (by omega)
theorem StI.iw {w : World} {base h cap k : Nat} {g : Nat → Nat} (H : StI w base h cap (natL g k)) : Iw w (some ⟨h, 0, none⟩) k (fun i => ((g i : Nat) : Int)) h :=
  Or.inr ⟨rfl, H.blk.2, fun i hi => H.at_ (natL_at g k i hi), fun o _ => World.ownsRow.frozenAt H o⟩
theorem half_bit : ∀ s : Fin 128, ∀ i : Fin 7, (((s.val / 2 ^ i.val : Nat) : Int)).tmod 2 = ((s.val.testBit i.val).toNat : Int) := by decide +kernel
theorem half_div (s i : Nat) : (((s / 2 ^ i : Nat) : Int)).tdiv 2 = ((s / 2 ^ (i + 1) : Nat) : Int) := by
  have e : ∀ x : Nat, ((x : Nat) : Int).tdiv 2 = ((x / 2 : Nat) : Int) := fun x => by rw [Int.tdiv_eq_ediv_of_nonneg (by omega)]; omega
  rw [e, Nat.pow_succ, Nat.div_div_eq_div_mul]
theorem popTo_far {s : Nat} : ∀ k i, s < 2 ^ i → i ≤ k → popTo s k = popTo s i
  | 0, i, h, hk => by rw [show i = 0 by omega]
  | k + 1, i, h, hk => by
    by_cases e : i = k + 1
    · rw [e]
    · simp only [popTo]
      rw [popTo_far k i h (by omega), Nat.testBit_lt_two_pow (Nat.lt_of_lt_of_le h (Nat.pow_le_pow_right (by omega) (by omega)))]; rfl
theorem popTo_bd (s k : Nat) : popTo s k ≤ k := popTo_le s k
theorem rowN_lt (f : Nat → Rt) {n : Nat} (k : Nat) (hn : n ≤ 7) : rowN f n k < 128 := Nat.lt_of_lt_of_le (maskI_lt _ n) (pow_le7 n hn)


set_option maxHeartbeats 400000 in
set_option maxRecDepth 20000 in
theorem smany_any (s : Nat) (hs : s < 128) (w : World) :
    Calls Try.prog 59 #[.int .i64 (s : Nat)] w fun e w' => e = .returned (.int .i64 (popTo s 7 : Nat)) ∧ w = w' := by
  go_enter Try.func59, Try.ntmps59
  go_wp2
  go_loopw [0, 3] (fun s0 s3 wr => ∃ (i x : Nat), i ≤ 7 ∧ s0 = .int .i64 x ∧ x = s / 2 ^ i ∧ s3 = .int .i64 (popTo s i : Nat) ∧ w = wr) (fun s0 _ _ => (intOf s0).toNat)
  case atStart => exact ⟨0, s, Nat.zero_le _, rfl, by simp, rfl, by trivial⟩
  case round =>
    obtain ⟨i, x, hi, rfl, hx, rfl, rfl⟩ := hrel
    have hb := popTo_bd s i
    have HP : Hid (popTo s (i + 1) = popTo s i + (if s.testBit i then 1 else 0)) := Lib.hid rfl
    have hx7 : x < 128 := by rw [hx]; exact Nat.lt_of_le_of_lt (Nat.div_le_self _ _) hs
    have HX := Lib.hid hx
    by_cases h0 : 0 < x
    · have hi7 : i < 7 := by
        rcases Nat.lt_or_ge i 7 with y | y
        · exact y
        · rw [hx, Nat.div_eq_of_lt (Nat.lt_of_lt_of_le hs (show 128 ≤ 2 ^ i from Nat.pow_le_pow_right (n := 2) (by omega) y))] at h0; omega
      have hm := half_bit ⟨s, hs⟩ ⟨i, hi7⟩
      have hd := half_div s i
      dsimp only at hm
      rw [← hx] at hm hd
      obtain ⟨y, hy⟩ : ∃ y, s / 2 ^ (i + 1) = y := ⟨_, rfl⟩
      rw [hy] at hd
      have HY := Lib.hid hy
      have hyx : y < x := by have : ((x : Nat) : Int).tdiv 2 = (x : Int) / 2 := Int.tdiv_eq_ediv_of_nonneg (by omega); omega
      have ht : (s.testBit i).toNat ≤ 1 := Bool.toNat_le _
      have HT : Hid ((if s.testBit i then 1 else 0) = (s.testBit i).toNat) := Lib.hid (by cases s.testBit i <;> rfl)
      generalize hT : (s.testBit i).toNat = T at hm ht HT
      generalize hP : popTo s i = P at hb HP
      have HPP := Lib.hid hP
      have hx0 : (0 : Int) < x := by omega
      clear hx hy hT hP
      go_wp2
      go_roundw
      case rel => exact ⟨i + 1, y, by omega, rfl, HY.out.symm, by rw [HP.out, HT.out]; go_num, by trivial⟩
      case measure => simp [intOf]; omega
    · have hx0 : x = 0 := by omega
      subst hx0
      have hlt : s < 2 ^ i := by
        have := Nat.div_add_mod s (2 ^ i)
        have hp := Nat.mod_lt s (Nat.two_pow_pos i)
        rw [← hx] at this
        omega
      have H : Hid (popTo s 7 = popTo s i) := Lib.hid (popTo_far 7 i hlt hi)
      clear hx
      go_wp2
      go_ret
      exact ⟨ret_int (by rw [H.out]), rfl⟩
theorem smany_val (s v : Nat) (hs : s < 128) (h : popTo s 7 = v) (w : World) :
    Calls Try.prog 59 #[.int .i64 (s : Nat)] w fun e w' => e = .returned (.int .i64 (v : Nat)) ∧ w = w' := h ▸ smany_any s hs w


set_option maxHeartbeats 1000000 in
set_option maxRecDepth 20000 in
theorem srow_any (A : Option Addr) (n cap k : Nat) (f : Nat → Rt) (w : World) (h7 : n ≤ 7) (hk : k < n) (hr : Rs w A n f) :
    Calls Try.prog 60 #[.slice A n cap, .int .i64 (k : Nat)] w fun e w' => e = .returned (.int .i64 (rowN f n k : Nat)) ∧ Below w.heap.size w w' := by
  have Hr := Lib.hid hr
  clear hr
  go_enter Try.func60, Try.ntmps60
  go_wp2
  go_loopw [5, 6] (fun s5 s6 wr => ∃ j : Nat, j ≤ n ∧ s6 = .int .i64 j ∧ s5 = .int .i64 (maskI (nbr f k) j : Nat) ∧ Below w.heap.size w wr) (fun _ s6 _ => n - (intOf s6).toNat)
  case atStart => exact ⟨0, Nat.zero_le _, rfl, rfl, Below.refl _ _⟩
  case round =>
    obtain ⟨j, hj, rfl, rfl, hbr⟩ := hrel
    have hzr := hbr.size
    by_cases hlt : j < n
    · obtain ⟨b, off, rfl, hbl, ⟨c0, c1, c2, c3⟩, d0, d1, d2, d3⟩ := (Hr.out.below hbr).pair hk hlt
      have hM := maskI_lt (nbr f k) j
      have hP := pow_le7 j (by omega)
      have hP2 : 2 ^ j ≤ 64 := by have := Nat.pow_le_pow_right (n := 2) (by omega) (show j ≤ 6 by omega); omega
      have hor := or_top ⟨j, by omega⟩ ⟨maskI (nbr f k) j, by omega⟩ hM
      have hsh := shl_eq ⟨j, by omega⟩
      dsimp only at hor hsh
      have HMs : Hid (maskI (nbr f k) (j + 1) = maskI (nbr f k) j + (if nbr f k j = true then 2 ^ j else 0)) := Lib.hid rfl
      generalize hMM : maskI (nbr f k) j = M at hM hor
      have HMM := Lib.hid hMM
      clear hMM
      generalize hPP : 2 ^ j = P at hM hor hsh hP hP2
      have HPP := Lib.hid hPP
      clear hPP
      by_cases hjk : j = k
      · have Hn : Hid (nbr f k j = false) := Lib.hid (by rw [hjk]; exact nbr_self f k)
        subst hjk
        go_wp2_with fail
        have hq : True := trivial; have hq := fun d os o => (below_regrown wr d os).cell (p := ⟨b, o, none⟩) (by first | (simp; done) | omega | (simp; omega)); refine wp_region_quiet_below (by kernel_rfl) (by kernel_rfl) ?_; (repeat (first | go_big_quiet_step (fail) | quiet_step (fail))); refine wpQuiet_nil ?_; intro _ hw'; obtain ⟨⟨dq, osq⟩, hw''⟩ := hw'; subst hw''; clear hq; have hb1 := below_regrown wr dq osq; generalize Sort.grow (redrawn wr dq) osq = w1 at hb1 ⊢; have hz1 := hb1.size; (try simp at hz1); have _ : b < w1.heap.size := (by first | (simp; done) | omega | (simp; omega)); have _ := fun o => hb1.cell (p := ⟨b, o, none⟩) (by first | (simp; done) | omega | (simp; omega))
        go_wp2
        go_roundw
        case rel => exact ⟨j + 1, by omega, by go_num, by rw [HMs.out, Hn.out, HMM.out]; rfl, by (repeat (first | with_reducible exact Below.refl _ _ | with_reducible assumption | ((with_reducible refine Below.alloc ?_ ?_ _); rotate_left; focus (first | with_reducible exact Nat.le_refl _ | omega | (simp; done) | (simp; omega))) | ((with_reducible refine Below.setCell ?_ ?_ _); rotate_left; focus (first | with_reducible exact Nat.le_refl _ | omega | (simp; done) | (simp; omega))) | (with_reducible refine Below.drew ?_) | ((with_reducible refine Below.trans ?_ (Below.mono (by with_reducible assumption) ?_)); rotate_left; focus (first | with_reducible exact Nat.le_refl _ | omega | (simp; done) | (simp; omega)))))⟩
        case measure => simp [intOf]; omega
      · have hne : ((j : Int) == (k : Int)) = false := by simp; omega
        have hne2 : ((j : Int) != (k : Int)) = true := by simp; omega
        have hne3 : ¬ ((j : Int) = (k : Int)) := by omega
        have hne4 : decide ((j : Int) = (k : Int)) = false := decide_eq_false hne3
        have Hn : Hid (nbr f k j = cmB (f j) (f k)) := Lib.hid (by unfold nbr; rw [decide_eq_false hjk]; rfl)
        cases hc : cmB (f j) (f k)
        · go_wp2_with fail
          have hq : True := trivial; have hq := fun d os o => (below_regrown wr d os).cell (p := ⟨b, o, none⟩) (by first | (simp; done) | omega | (simp; omega)); refine wp_region_quiet_below (by kernel_rfl) (by kernel_rfl) ?_; (repeat (first | go_big_quiet_step (exact Calls.regrown_of (smt_val (f j) (f k) _ (by assumption) _)) | quiet_step (exact Calls.regrown_of (smt_val (f j) (f k) _ (by assumption) _)))); refine wpQuiet_nil ?_; intro _ hw'; obtain ⟨⟨dq, osq⟩, hw''⟩ := hw'; subst hw''; clear hq; have hb1 := below_regrown wr dq osq; generalize Sort.grow (redrawn wr dq) osq = w1 at hb1 ⊢; have hz1 := hb1.size; (try simp at hz1); have _ : b < w1.heap.size := (by first | (simp; done) | omega | (simp; omega)); have _ := fun o => hb1.cell (p := ⟨b, o, none⟩) (by first | (simp; done) | omega | (simp; omega))
          go_wp2
          go_roundw
          case rel => exact ⟨j + 1, by omega, by go_num, by rw [HMs.out, Hn.out, hc, HMM.out]; rfl, by (repeat (first | with_reducible exact Below.refl _ _ | with_reducible assumption | ((with_reducible refine Below.alloc ?_ ?_ _); rotate_left; focus (first | with_reducible exact Nat.le_refl _ | omega | (simp; done) | (simp; omega))) | ((with_reducible refine Below.setCell ?_ ?_ _); rotate_left; focus (first | with_reducible exact Nat.le_refl _ | omega | (simp; done) | (simp; omega))) | (with_reducible refine Below.drew ?_) | ((with_reducible refine Below.trans ?_ (Below.mono (by with_reducible assumption) ?_)); rotate_left; focus (first | with_reducible exact Nat.le_refl _ | omega | (simp; done) | (simp; omega)))))⟩
          case measure => simp [intOf]; omega
        · go_wp2_with fail
          have hq : True := trivial; have hq := fun d os o => (below_regrown wr d os).cell (p := ⟨b, o, none⟩) (by first | (simp; done) | omega | (simp; omega)); refine wp_region_quiet_below (by kernel_rfl) (by kernel_rfl) ?_; (repeat (first | go_big_quiet_step (exact Calls.regrown_of (smt_val (f j) (f k) _ (by assumption) _)) | quiet_step (exact Calls.regrown_of (smt_val (f j) (f k) _ (by assumption) _)))); refine wpQuiet_nil ?_; intro _ hw'; obtain ⟨⟨dq, osq⟩, hw''⟩ := hw'; subst hw''; clear hq; have hb1 := below_regrown wr dq osq; generalize Sort.grow (redrawn wr dq) osq = w1 at hb1 ⊢; have hz1 := hb1.size; (try simp at hz1); have _ : b < w1.heap.size := (by first | (simp; done) | omega | (simp; omega)); have _ := fun o => hb1.cell (p := ⟨b, o, none⟩) (by first | (simp; done) | omega | (simp; omega))
          go_wp2
          go_roundw
          case rel => exact ⟨j + 1, by omega, by go_num, by rw [HMs.out, Hn.out, hc, HMM.out, HPP.out]; rfl, by (repeat (first | with_reducible exact Below.refl _ _ | with_reducible assumption | ((with_reducible refine Below.alloc ?_ ?_ _); rotate_left; focus (first | with_reducible exact Nat.le_refl _ | omega | (simp; done) | (simp; omega))) | ((with_reducible refine Below.setCell ?_ ?_ _); rotate_left; focus (first | with_reducible exact Nat.le_refl _ | omega | (simp; done) | (simp; omega))) | (with_reducible refine Below.drew ?_) | ((with_reducible refine Below.trans ?_ (Below.mono (by with_reducible assumption) ?_)); rotate_left; focus (first | with_reducible exact Nat.le_refl _ | omega | (simp; done) | (simp; omega)))))⟩
          case measure => simp [intOf]; omega
    · obtain rfl : j = n := by omega
      go_wp2
      go_ret
      exact ⟨rfl, hbr⟩
theorem srow_val (A : Option Addr) (n cap k v : Nat) (f : Nat → Rt) (h : rowN f n k = v) (w : World) (h7 : n ≤ 7) (hk : k < n) (hr : Rs w A n f) :
    Calls Try.prog 60 #[.slice A n cap, .int .i64 (k : Nat)] w fun e w' => e = .returned (.int .i64 (v : Nat)) ∧ Below w.heap.size w w' := h ▸ srow_any A n cap k f w h7 hk hr


theorem row_many (f : Nat → Rt) {n k : Nat} (h7 : n ≤ 7) : popTo (rowN f n k) 7 = dgF f n k := by
  rw [popTo_far 7 n (show rowN f n k < 2 ^ n from maskI_lt _ n) h7]; exact row_pop f n k
set_option maxHeartbeats 2000000 in
set_option maxRecDepth 20000 in
theorem smeets_any (A : Option Addr) (n cap : Nat) (f : Nat → Rt) (w : World) (hn : n ≤ maxLen) (hr : Rs w A n f) :
    Calls Try.prog 24 #[.slice A n cap] w (IntsPost (cntF (laidF f n) n) (fun k => ((dgF f n k : Nat) : Int)) w) := by
  have Hn := Lib.hid hn
  unfold maxLen at hn
  have Hr := Lib.hid hr
  clear hr
  cases hl : laidF f n
  · go_enter Try.func24, Try.ntmps24
    go_wp2
    go_loopw [3, 4] (fun s3 s4 wr => s4 = .int .i64 (0 : Nat) ∧ s3 = .slice (some ⟨w.heap.size, 0, none⟩) 0 0 ∧ Below w.heap.size w wr) (fun _ _ _ => 0)
    case atStart => exact ⟨rfl, rfl, (Below.refl _ _).alloc (Nat.le_refl _) _⟩
    case round =>
      obtain ⟨rfl, rfl, hbr⟩ := hrel
      have HB := Lib.hid hbr
      clear hbr
      by_cases h0 : n = 0
      · subst h0
        go_wp2
        go_ret
        exact ⟨_, 0, w.heap.size, rfl, Or.inl rfl, Nat.le_refl _, HB.out⟩
      · have hn0 : (0 : Int) < n := by omega
        go_wp2_with fail
        refine (slaid_val A n cap f false hl _ Hn.out (Hr.out.below HB.out)).mono ?_; rintro e w1 ⟨rfl, hb1⟩; have hz1 := hb1.size; (try simp at hz1)
        go_wp2
        go_ret
        exact ⟨_, 0, w.heap.size, rfl, Or.inl rfl, Nat.le_refl _, HB.out.trans (hb1.mono HB.out.size)⟩
  · obtain ⟨h7, hok⟩ := laidF_ok hl
    go_enter Try.func24, Try.ntmps24
    go_wp2
    go_loopw [3, 4] (fun s3 s4 wr => ∃ (k h c : Nat) (st : List Nat), k ≤ n ∧ s4 = .int .i64 k ∧ s3 = .slice (some ⟨h, 0, none⟩) st.length c ∧ StI wr w.heap.size h c st ∧ st = natL (dgF f n) k ∧ Below w.heap.size w wr) (fun _ s4 _ => n - (intOf s4).toNat)
    case atStart => exact ⟨0, w.heap.size, 0, [], Nat.zero_le _, rfl, rfl, StI.empty _ _ _ rfl (Nat.le_refl _), rfl, (Below.refl _ _).alloc (Nat.le_refl _) _⟩
    case round =>
      obtain ⟨k, h, c, st, hk, rfl, rfl, hS, hst, hbr⟩ := hrel
      have hlen : st.length = k := by rw [hst]; exact natL_len _ k
      have HS := Lib.hid hS
      have HST := Lib.hid hst
      have HL := Lib.hid hlen
      have HB := Lib.hid hbr
      have hlen2 : st.length ≤ 7 := by omega
      clear hS hst hbr hlen
      by_cases hlt : k < n
      · have hlt' : (k : Int) < n := by omega
        obtain ⟨R, hR⟩ : ∃ R, rowN f n k = R := ⟨_, rfl⟩
        obtain ⟨D, hD⟩ : ∃ D, dgF f n k = D := ⟨_, rfl⟩
        have hR7 : R < 128 := by rw [← hR]; exact rowN_lt f k h7
        have hRD : popTo R 7 = D := by rw [← hR, ← hD]; exact row_many f h7
        have HR := Lib.hid hR
        have HD := Lib.hid hD
        clear hR hD
        go_wp2_with fail
        refine (slaid_val A n cap f true hl _ Hn.out (Hr.out.below HB.out)).mono ?_; rintro e w1 ⟨rfl, hb1⟩; have hz1 := hb1.size; (try simp at hz1)
        have HB1 := Lib.hid (HB.out.trans (hb1.mono HB.out.size))
        have HS1 := Lib.hid (HS.out.below hb1)
        clear hb1
        go_wp2_with fail
        refine (srow_val A n cap k R f HR.out _ h7 hlt (Hr.out.below HB1.out)).mono ?_; rintro e w2 ⟨rfl, hb2⟩; have hz2 := hb2.size; (try simp at hz2)
        have HB2 := Lib.hid (HB1.out.trans (hb2.mono HB1.out.size))
        have HS2 := Lib.hid (HS1.out.below hb2)
        have hle2 : w.heap.size ≤ w2.heap.size := HB2.out.size
        clear hb2
        go_wp2_with fail
        refine (smany_val R D hR7 hRD _).mono ?_; rintro e w' ⟨rfl, rfl⟩
        have hcap := HS2.out.capLe
        clear hRD
        go_wp2_with (at_builtin; refine list_int1 _ rfl (.tmp 16) (.tmp 21) rfl w.heap.size h c st rfl (HS2.out.alloc _) w2.heap.size D rfl (new_cell _ _ _ rfl) (by omega) (by simp; omega) ?_)
        intro h' cap' w6 hI6 hb6
        have HI6 := Lib.hid hI6
        have HB6 := Lib.hid hb6
        clear hI6 hb6
        go_wp2
        go_roundw
        case rel => exact ⟨k + 1, h', cap', st ++ [D], by omega, by go_num, by simp, HI6.out, by rw [HST.out, ← HD.out]; rfl, HB2.out.trans (((Below.refl _ _).alloc hle2 _).trans HB6.out)⟩
        case measure => simp [intOf]; omega
      · obtain rfl : k = n := by omega
        go_wp2
        go_ret
        refine ⟨_, c, h, by rw [HL.out]; rfl, ?_, HS.out.blk.1, HB.out⟩
        have := HS.out
        rw [HST.out] at this
        exact this.iw


theorem ms_step (p b : Bool) (h : p = false) : (p && (!b || false)) = false := by subst h; rfl
set_option maxHeartbeats 2000000 in
set_option maxRecDepth 20000 in
theorem smo_any (A : Option Addr) (n cap : Nat) (f : Nat → Rt) (w : World) (hn : n ≤ maxLen) (hr : Rs w A n f) :
    Calls Try.prog 28 #[.slice A n cap] w fun e w' => e = .returned (.int .i64 (moF f n)) ∧ Below w.heap.size w w' := by
  have Hn := Lib.hid hn
  have Hr := Lib.hid hr
  clear hn hr
  cases hl : laidF f n
  · have H : Hid (moF f n = -1) := Lib.hid (by unfold moF; rw [hl]; rfl)
    go_enter Try.func28, Try.ntmps28
    go_wp2_with fail
    refine (slaid_val A n cap f false hl _ Hn.out Hr.out).mono ?_; rintro e w1 ⟨rfl, hb1⟩; have hz1 := hb1.size; (try simp at hz1)
    go_wp2
    go_ret
    exact ⟨ret_int (by rw [H.out]), by (repeat (first | with_reducible exact Below.refl _ _ | with_reducible assumption | ((with_reducible refine Below.alloc ?_ ?_ _); rotate_left; focus (first | with_reducible exact Nat.le_refl _ | omega | (simp; done) | (simp; omega))) | ((with_reducible refine Below.setCell ?_ ?_ _); rotate_left; focus (first | with_reducible exact Nat.le_refl _ | omega | (simp; done) | (simp; omega))) | (with_reducible refine Below.drew ?_) | ((with_reducible refine Below.trans ?_ (Below.mono (by with_reducible assumption) ?_)); rotate_left; focus (first | with_reducible exact Nat.le_refl _ | omega | (simp; done) | (simp; omega)))))⟩
  · obtain ⟨h7, hok⟩ := laidF_ok hl
    have hsh := shl_eq ⟨n, by omega⟩
    dsimp only at hsh
    have hP1 := pow_le7 n h7
    have HPn : Hid (∀ P, 2 ^ n = P → ∀ t, t < P → popTo t n = popTo t 7) := Lib.hid (fun P e t ht => (popTo_far 7 n (by omega) h7).symm)
    generalize hP : 2 ^ n = P at hsh hP1
    have H : Hid (moF f n = bestM f n P) := Lib.hid (by rw [moF_yes hl, ← hP, bestM_all])
    have HP := Lib.hid hP
    clear hP
    go_enter Try.func28, Try.ntmps28
    go_wp2_with fail
    refine (slaid_val A n cap f true hl _ Hn.out Hr.out).mono ?_; rintro e w1 ⟨rfl, hb1⟩; have hz1 := hb1.size; (try simp at hz1)
    have Hr1 := Lib.hid (Hr.out.below hb1)
    have Hb1 := Lib.hid hb1
    clear hb1
    go_wp2
    go_loopw [3, 4] (fun s3 s4 wr => ∃ t : Nat, t ≤ P ∧ s4 = .int .i64 t ∧ s3 = .int .i64 (bestM f n t : Nat) ∧ Below w1.heap.size w1 wr) (fun _ s4 _ => P - (intOf s4).toNat)
    case atStart => exact ⟨0, Nat.zero_le _, rfl, rfl, Below.refl _ _⟩
    case round =>
      obtain ⟨t, ht, rfl, rfl, hbr⟩ := hrel
      have HB := Lib.hid hbr
      have hbd := bestM_bd f n t (by rw [HP.out]; exact ht)
      have HBs : Hid (bestM f n (t + 1) = if msTo f n t n then max (bestM f n t) (popTo t n) else bestM f n t) := Lib.hid rfl
      clear hbr
      generalize hS : bestM f n t = S at hbd HBs
      have HS := Lib.hid hS
      clear hS
      by_cases hlt : t < P
      · go_wp2
        obtain ⟨wo, ho⟩ : ∃ wo : World, wo = wr := ⟨_, rfl⟩
        go_loopw [5, 6] (fun s5 s6 wi => ∃ k : Nat, k ≤ n ∧ s6 = .int .i64 k ∧ s5 = .bool (msTo f n t k) ∧ Below w1.heap.size w1 wi) (fun _ s6 _ => n - (intOf s6).toNat)
        case atStart => exact ⟨0, Nat.zero_le _, rfl, rfl, HB.out⟩
        case round =>
          obtain ⟨k, hk, rfl, rfl, hbi⟩ := hrel
          have HBI := Lib.hid hbi
          have hzi := hbi.size
          by_cases hlt2 : k < n
          · have hbk := bit_no ⟨t, by omega⟩ ⟨k, by omega⟩
            have hsk := shl_eq ⟨k, by omega⟩
            dsimp only at hbk hsk
            have HMs : Hid (msTo f n t (k + 1) = (msTo f n t k && (!t.testBit k || decide (difN t (rowN f n k) = 2 ^ k)))) := Lib.hid rfl
            cases hp : msTo f n t k
            · go_wp2_with fail
              have hq : True := trivial; refine wp_region_quiet_below (by kernel_rfl) (by kernel_rfl) ?_; (repeat (first | go_big_quiet_step (fail) | quiet_step (fail))); refine wpQuiet_nil ?_; intro _ hw'; obtain ⟨⟨dq, osq⟩, hw''⟩ := hw'; subst hw''; clear hq; have hb1 := below_regrown wr dq osq; generalize Sort.grow (redrawn wr dq) osq = w1 at hb1 ⊢; have hz1 := hb1.size; (try simp at hz1)
              go_wp2
              go_roundw
              case rel => exact ⟨k + 1, by omega, by go_num, by rw [HMs.out, hp]; rfl, by (repeat (first | with_reducible exact Below.refl _ _ | with_reducible assumption | ((with_reducible refine Below.alloc ?_ ?_ _); rotate_left; focus (first | with_reducible exact Nat.le_refl _ | omega | (simp; done) | (simp; omega))) | ((with_reducible refine Below.setCell ?_ ?_ _); rotate_left; focus (first | with_reducible exact Nat.le_refl _ | omega | (simp; done) | (simp; omega))) | (with_reducible refine Below.drew ?_) | ((with_reducible refine Below.trans ?_ (Below.mono (by with_reducible assumption) ?_)); rotate_left; focus (first | with_reducible exact Nat.le_refl _ | omega | (simp; done) | (simp; omega)))))⟩
              case measure => simp [intOf]; omega
            · cases htk : t.testBit k
              · rw [htk] at hbk
                simp only [Bool.not_false] at hbk
                go_wp2_with fail
                have hq : True := trivial; refine wp_region_quiet_below (by kernel_rfl) (by kernel_rfl) ?_; (repeat (first | go_big_quiet_step (fail) | quiet_step (fail))); refine wpQuiet_nil ?_; intro _ hw'; obtain ⟨⟨dq, osq⟩, hw''⟩ := hw'; subst hw''; clear hq; have hb1 := below_regrown wr dq osq; generalize Sort.grow (redrawn wr dq) osq = w1 at hb1 ⊢; have hz1 := hb1.size; (try simp at hz1)
                go_wp2
                go_roundw
                case rel => exact ⟨k + 1, by omega, by go_num, by rw [HMs.out, hp, htk]; rfl, by (repeat (first | with_reducible exact Below.refl _ _ | with_reducible assumption | ((with_reducible refine Below.alloc ?_ ?_ _); rotate_left; focus (first | with_reducible exact Nat.le_refl _ | omega | (simp; done) | (simp; omega))) | ((with_reducible refine Below.setCell ?_ ?_ _); rotate_left; focus (first | with_reducible exact Nat.le_refl _ | omega | (simp; done) | (simp; omega))) | (with_reducible refine Below.drew ?_) | ((with_reducible refine Below.trans ?_ (Below.mono (by with_reducible assumption) ?_)); rotate_left; focus (first | with_reducible exact Nat.le_refl _ | omega | (simp; done) | (simp; omega)))))⟩
                case measure => simp [intOf]; omega
              · rw [htk] at hbk
                simp only [Bool.not_true] at hbk
                obtain ⟨R, hR⟩ : ∃ R, rowN f n k = R := ⟨_, rfl⟩
                have hR7 : R < 128 := by rw [← hR]; exact rowN_lt f k h7
                have hdf := dif_eq t R (by omega) hR7
                have HR := Lib.hid hR
                have HRr : Hid (Rs wr A n f) := Lib.hid (Hr1.out.below hbi)
                generalize hD : difN t R = D at hdf
                generalize hK : 2 ^ k = K2 at hsk
                have HMs2 : Hid (msTo f n t (k + 1) = decide (D = K2)) := Lib.hid (by rw [HMs.out, hp, htk, hR, hD, hK]; rfl)
                clear hR hD hK
                by_cases hdk : D = K2
                · subst hdk
                  go_wp2_with fail
                  have hq : True := trivial; refine wp_region_quiet_below (by kernel_rfl) (by kernel_rfl) ?_; (repeat (first | go_big_quiet_step (exact Calls.regrown_of (srow_val A n cap k R f HR.out _ h7 hlt2 (HRr.out.below (below_regrown wr _ _)))) | quiet_step (exact Calls.regrown_of (srow_val A n cap k R f HR.out _ h7 hlt2 (HRr.out.below (below_regrown wr _ _)))))); refine wpQuiet_nil ?_; intro _ hw'; obtain ⟨⟨dq, osq⟩, hw''⟩ := hw'; subst hw''; clear hq; have hb1 := below_regrown wr dq osq; generalize Sort.grow (redrawn wr dq) osq = w1 at hb1 ⊢; have hz1 := hb1.size; (try simp at hz1)
                  go_wp2
                  go_roundw
                  case rel => exact ⟨k + 1, by omega, by go_num, by rw [HMs2.out]; simp, by (repeat (first | with_reducible exact Below.refl _ _ | with_reducible assumption | ((with_reducible refine Below.alloc ?_ ?_ _); rotate_left; focus (first | with_reducible exact Nat.le_refl _ | omega | (simp; done) | (simp; omega))) | ((with_reducible refine Below.setCell ?_ ?_ _); rotate_left; focus (first | with_reducible exact Nat.le_refl _ | omega | (simp; done) | (simp; omega))) | (with_reducible refine Below.drew ?_) | ((with_reducible refine Below.trans ?_ (Below.mono (by with_reducible assumption) ?_)); rotate_left; focus (first | with_reducible exact Nat.le_refl _ | omega | (simp; done) | (simp; omega)))))⟩
                  case measure => simp [intOf]; omega
                · have hne : ((D : Int) == (K2 : Int)) = false := by simp; omega
                  have Hdk := Lib.hid hdk
                  clear hdk
                  go_wp2_with fail
                  have hq : True := trivial; refine wp_region_quiet_below (by kernel_rfl) (by kernel_rfl) ?_; (repeat (first | go_big_quiet_step (exact Calls.regrown_of (srow_val A n cap k R f HR.out _ h7 hlt2 (HRr.out.below (below_regrown wr _ _)))) | quiet_step (exact Calls.regrown_of (srow_val A n cap k R f HR.out _ h7 hlt2 (HRr.out.below (below_regrown wr _ _)))))); refine wpQuiet_nil ?_; intro _ hw'; obtain ⟨⟨dq, osq⟩, hw''⟩ := hw'; subst hw''; clear hq; have hb1 := below_regrown wr dq osq; generalize Sort.grow (redrawn wr dq) osq = w1 at hb1 ⊢; have hz1 := hb1.size; (try simp at hz1)
                  go_wp2
                  go_roundw
                  case rel => exact ⟨k + 1, by omega, by go_num, by rw [HMs2.out, decide_eq_false Hdk.out], by (repeat (first | with_reducible exact Below.refl _ _ | with_reducible assumption | ((with_reducible refine Below.alloc ?_ ?_ _); rotate_left; focus (first | with_reducible exact Nat.le_refl _ | omega | (simp; done) | (simp; omega))) | ((with_reducible refine Below.setCell ?_ ?_ _); rotate_left; focus (first | with_reducible exact Nat.le_refl _ | omega | (simp; done) | (simp; omega))) | (with_reducible refine Below.drew ?_) | ((with_reducible refine Below.trans ?_ (Below.mono (by with_reducible assumption) ?_)); rotate_left; focus (first | with_reducible exact Nat.le_refl _ | omega | (simp; done) | (simp; omega)))))⟩
                  case measure => simp [intOf]; omega
          · obtain rfl : k = n := by omega
            clear hbi
            cases hp : msTo f k t k
            · go_wp2
              go_roundw
              case rel => exact ⟨t + 1, by omega, by go_num, by rw [HBs.out, hp]; rfl, HBI.out⟩
              case measure => simp [intOf]; omega
            · obtain ⟨L, hL⟩ : ∃ L, popTo t 7 = L := ⟨_, rfl⟩
              have hLb : L ≤ 7 := by rw [← hL]; exact popTo_le t 7
              have HLn : Hid (popTo t k = L) := Lib.hid (by rw [HPn.out P HP.out t hlt]; exact hL)
              go_wp2_with fail
              refine (smany_val t L (by omega) hL _).mono ?_; rintro e w' ⟨rfl, rfl⟩
              clear hL
              go_wp2
              go_roundw
              case rel => exact ⟨t + 1, by omega, by go_num, by rw [HBs.out, hp, HLn.out]; simp; omega, HBI.out⟩
              case measure => simp [intOf]; omega
      · obtain rfl : t = P := by omega
        go_wp2
        go_ret
        exact ⟨ret_int (by rw [H.out, HS.out]), Hb1.out.trans (HB.out.mono Hb1.out.size)⟩
theorem smo_val (A : Option Addr) (n cap : Nat) (f : Nat → Rt) (v : Int) (h : moF f n = v) (w : World) (hn : n ≤ maxLen) (hr : Rs w A n f) :
    Calls Try.prog 28 #[.slice A n cap] w fun e w' => e = .returned (.int .i64 v) ∧ Below w.heap.size w w' := h ▸ smo_any A n cap f w hn hr

end Go.Proofs.Ytkfeeijiockdhaa
namespace Go.Proofs.Ytkfeeijiockdhaa
open Go.RowKit Go.Sort
set_option linter.unusedVariables false
theorem or_any : ∀ U : Fin 128, ∀ c : Fin 7, bits .or .i64 ((U.val : Nat) : Int) ((2 ^ c.val : Nat) : Int) = ((U.val ||| 2 ^ c.val : Nat) : Int) := by decide +kernel
/-- the colours of those before j that meet the k-th one, as bits -/
def usedN (f : Nat → Rt) (c : Nat → Nat) (k : Nat) : Nat → Nat
  | 0 => 0
  | j + 1 => if cmB (f j) (f k) = true then usedN f c k j ||| 2 ^ c j else usedN f c k j
theorem usedN_lt {f : Nat → Rt} {c : Nat → Nat} {k : Nat} : ∀ j, (∀ i, i < j → c i < 7) → usedN f c k j < 128
  | 0, _ => by show 0 < 128; omega
  | j + 1, h => by
    have ih := usedN_lt (f := f) (k := k) j fun i hi => h i (by omega)
    simp only [usedN]
    split
    · exact Nat.or_lt_two_pow (n := 7) ih (Nat.pow_lt_pow_right (by omega) (h j (by omega)))
    · exact ih
theorem usedN_bit (f : Nat → Rt) (c : Nat → Nat) (k x : Nat) : ∀ j, (usedN f c k j).testBit x = true ↔ ∃ i, i < j ∧ cmB (f i) (f k) = true ∧ c i = x
  | 0 => ⟨fun h => (by rw [show usedN f c k 0 = 0 from rfl, Nat.zero_testBit] at h; cases h), fun ⟨i, hi, _⟩ => by omega⟩
  | j + 1 => by
    have ih := usedN_bit f c k x j
    simp only [usedN]
    cases hc : cmB (f j) (f k)
    · rw [if_neg (by decide), ih]
      refine ⟨fun ⟨i, hi, h⟩ => ⟨i, by omega, h⟩, fun ⟨i, hi, h⟩ => ⟨i, ?_, h⟩⟩
      by_cases e : i = j
      · subst e; rw [hc] at h; cases h.1
      · omega
    · rw [if_pos rfl, Nat.testBit_or, Bool.or_eq_true, ih, Nat.testBit_two_pow, decide_eq_true_eq]
      constructor
      · rintro (⟨i, hi, h⟩ | h)
        · exact ⟨i, by omega, h⟩
        · exact ⟨j, by omega, hc, h⟩
      · rintro ⟨i, hi, h⟩
        by_cases e : i = j
        · subst e; exact Or.inr h.2
        · exact Or.inl ⟨i, by omega, h⟩
theorem usedN_no {f : Nat → Rt} {c : Nat → Nat} {k x j : Nat} (h : (usedN f c k j).testBit x = false) : ∀ i, i < j → cmB (f i) (f k) = true → c i ≠ x := fun i hi hm e => by
  have := (usedN_bit f c k x j).2 ⟨i, hi, hm, e⟩
  rw [h] at this; cases this
theorem bit_yes {s : Nat} : ∀ x, s < 2 ^ x → s.testBit x = false := fun x h => Nat.testBit_lt_two_pow h


set_option maxHeartbeats 4000000 in
set_option maxRecDepth 20000 in
theorem spb_any (A : Option Addr) (n cap : Nat) (f : Nat → Rt) (w : World) (hn : n ≤ maxLen) (hr : Rs w A n f) :
    Calls Try.prog 36 #[.slice A n cap] w (IntsPost (cntF (laidF f n) n) (fun k => ((gcN f k : Nat) : Int)) w) := by
  have Hn := Lib.hid hn
  unfold maxLen at hn
  have Hr := Lib.hid hr
  clear hr
  cases hl : laidF f n
  · go_enter Try.func36, Try.ntmps36
    go_wp2
    go_loopw [3, 4] (fun s3 s4 wr => s4 = .int .i64 (0 : Nat) ∧ s3 = .slice (some ⟨w.heap.size, 0, none⟩) 0 0 ∧ Below w.heap.size w wr) (fun _ _ _ => 0)
    case atStart => exact ⟨rfl, rfl, (Below.refl _ _).alloc (Nat.le_refl _) _⟩
    case round =>
      obtain ⟨rfl, rfl, hbr⟩ := hrel
      have HB := Lib.hid hbr
      clear hbr
      by_cases h0 : n = 0
      · subst h0
        go_wp2
        go_ret
        exact ⟨_, 0, w.heap.size, rfl, Or.inl rfl, Nat.le_refl _, HB.out⟩
      · have hn0 : (0 : Int) < n := by omega
        go_wp2_with fail
        refine (slaid_val A n cap f false hl _ Hn.out (Hr.out.below HB.out)).mono ?_; rintro e w1 ⟨rfl, hb1⟩; have hz1 := hb1.size; (try simp at hz1)
        go_wp2
        go_ret
        exact ⟨_, 0, w.heap.size, rfl, Or.inl rfl, Nat.le_refl _, HB.out.trans (hb1.mono HB.out.size)⟩
  · obtain ⟨h7, hok⟩ := laidF_ok hl
    go_enter Try.func36, Try.ntmps36
    go_wp2
    go_loopw [3, 4] (fun s3 s4 wr => ∃ (k h c : Nat) (st : List Nat), k ≤ n ∧ s4 = .int .i64 k ∧ s3 = .slice (some ⟨h, 0, none⟩) st.length c ∧ StI wr w.heap.size h c st ∧ st = natL (gcN f) k ∧ Below w.heap.size w wr) (fun _ s4 _ => n - (intOf s4).toNat)
    case atStart => exact ⟨0, w.heap.size, 0, [], Nat.zero_le _, rfl, rfl, StI.empty _ _ _ rfl (Nat.le_refl _), rfl, (Below.refl _ _).alloc (Nat.le_refl _) _⟩
    case round =>
      obtain ⟨k, h, c, st, hk, rfl, rfl, hS, hst, hbr⟩ := hrel
      have hlen : st.length = k := by rw [hst]; exact natL_len _ k
      have HS := Lib.hid hS
      have HST := Lib.hid hst
      have HL := Lib.hid hlen
      have HB := Lib.hid hbr
      have hlen2 : st.length ≤ 7 := by omega
      clear hS hst hbr
      by_cases hlt : k < n
      · have hlt' : (k : Int) < n := by omega
        clear hlen
        go_wp2_with fail
        refine (slaid_val A n cap f true hl _ Hn.out (Hr.out.below HB.out)).mono ?_; rintro e w1 ⟨rfl, hb1⟩; have hz1 := hb1.size; (try simp at hz1)
        have HB1 := Lib.hid (HB.out.trans (hb1.mono HB.out.size))
        have HS1 := Lib.hid (HS.out.below hb1)
        have hle1 : w.heap.size ≤ w1.heap.size := HB1.out.size
        clear hb1
        go_wp2
        go_loopw [5, 6] (fun s5 s6 wr => ∃ j : Nat, j ≤ k ∧ s6 = .int .i64 j ∧ s5 = .int .i64 (usedN f (gcN f) k j : Nat) ∧ Below w1.heap.size w1 wr) (fun _ s6 _ => k - (intOf s6).toNat)
        case atStart => exact ⟨0, Nat.zero_le _, rfl, rfl, Below.refl _ _⟩
        case round =>
          obtain ⟨j, hj, rfl, rfl, hbj⟩ := hrel
          have hzj := hbj.size
          have HBJ := Lib.hid (HB1.out.trans (hbj.mono hle1))
          have HSJ := Lib.hid (HS1.out.below hbj)
          have hcap := HSJ.out.capLe
          have hU := usedN_lt (f := f) (c := gcN f) (k := k) j fun i hi => by have := gc_lt f i; omega
          have HUs : Hid (usedN f (gcN f) k (j + 1) = if cmB (f j) (f k) = true then usedN f (gcN f) k j ||| 2 ^ gcN f j else usedN f (gcN f) k j) := Lib.hid rfl
          by_cases hlt2 : j < k
          · have hjl : j < st.length := by rw [HL.out]; exact hlt2
            have hg7 : gcN f j < 7 := by have := gc_lt f j; omega
            obtain ⟨b, off, rfl, hbl, ⟨c0, c1, c2, c3⟩, d0, d1, d2, d3⟩ := (Hr.out.below HBJ.out).pair hlt (show j < n by omega)
            have hor := or_any ⟨usedN f (gcN f) k j, hU⟩ ⟨gcN f j, hg7⟩
            have hsh := shl_eq ⟨gcN f j, by omega⟩
            have hcj := HSJ.out.at_ (k := j) (s := gcN f j) (by rw [HST.out]; exact natL_at _ k j hlt2)
            dsimp only at hor hsh
            generalize hUU : usedN f (gcN f) k j = U at hU hor HUs
            generalize hG : gcN f j = G at hg7 hor hsh hcj HUs
            generalize hPP : 2 ^ G = P at hor hsh HUs
            have HUU := Lib.hid hUU
            clear hUU hG hPP
            have hh : h < wr.heap.size := HSJ.out.blk.2
            cases hc : cmB (f j) (f k)
            · go_wp2_with fail
              have hq : True := trivial; have hq := fun d os o => (below_regrown wr d os).cell (p := ⟨b, o, none⟩) (by first | (simp; done) | omega | (simp; omega)); refine wp_region_quiet_below (by kernel_rfl) (by kernel_rfl) ?_; (repeat (first | go_big_quiet_step (exact Calls.regrown_of (smt_val (f j) (f k) _ (by assumption) _)) | quiet_step (exact Calls.regrown_of (smt_val (f j) (f k) _ (by assumption) _)))); refine wpQuiet_nil ?_; intro _ hw'; obtain ⟨⟨dq, osq⟩, hw''⟩ := hw'; subst hw''; clear hq; have hb1 := below_regrown wr dq osq; generalize Sort.grow (redrawn wr dq) osq = w1 at hb1 ⊢; have hz1 := hb1.size; (try simp at hz1); have _ : b < w1.heap.size := (by first | (simp; done) | omega | (simp; omega)); have _ := fun o => hb1.cell (p := ⟨b, o, none⟩) (by first | (simp; done) | omega | (simp; omega))
              go_wp2
              go_roundw
              case rel => exact ⟨j + 1, by omega, by go_num, by rw [HUs.out, hc]; rfl, by (repeat (first | with_reducible exact Below.refl _ _ | with_reducible assumption | ((with_reducible refine Below.alloc ?_ ?_ _); rotate_left; focus (first | with_reducible exact Nat.le_refl _ | omega | (simp; done) | (simp; omega))) | ((with_reducible refine Below.setCell ?_ ?_ _); rotate_left; focus (first | with_reducible exact Nat.le_refl _ | omega | (simp; done) | (simp; omega))) | (with_reducible refine Below.drew ?_) | ((with_reducible refine Below.trans ?_ (Below.mono (by with_reducible assumption) ?_)); rotate_left; focus (first | with_reducible exact Nat.le_refl _ | omega | (simp; done) | (simp; omega)))))⟩
              case measure => simp [intOf]; omega
            · go_wp2_with fail
              have hq : True := trivial; have hq := fun d os o => (below_regrown wr d os).cell (p := ⟨b, o, none⟩) (by first | (simp; done) | omega | (simp; omega)); have hq := fun d os o => (below_regrown wr d os).cell (p := ⟨h, o, none⟩) (by first | (simp; done) | omega | (simp; omega)); refine wp_region_quiet_below (by kernel_rfl) (by kernel_rfl) ?_; (repeat (first | go_big_quiet_step (exact Calls.regrown_of (smt_val (f j) (f k) _ (by assumption) _)) | quiet_step (exact Calls.regrown_of (smt_val (f j) (f k) _ (by assumption) _)))); refine wpQuiet_nil ?_; intro _ hw'; obtain ⟨⟨dq, osq⟩, hw''⟩ := hw'; subst hw''; clear hq; have hb1 := below_regrown wr dq osq; generalize Sort.grow (redrawn wr dq) osq = w1 at hb1 ⊢; have hz1 := hb1.size; (try simp at hz1); have _ : b < w1.heap.size := (by first | (simp; done) | omega | (simp; omega)); have _ : h < w1.heap.size := (by first | (simp; done) | omega | (simp; omega)); have _ := fun o => hb1.cell (p := ⟨b, o, none⟩) (by first | (simp; done) | omega | (simp; omega)); have _ := fun o => hb1.cell (p := ⟨h, o, none⟩) (by first | (simp; done) | omega | (simp; omega))
              go_wp2
              go_roundw
              case rel => exact ⟨j + 1, by omega, by go_num, by rw [HUs.out, hc, if_pos rfl], by (repeat (first | with_reducible exact Below.refl _ _ | with_reducible assumption | ((with_reducible refine Below.alloc ?_ ?_ _); rotate_left; focus (first | with_reducible exact Nat.le_refl _ | omega | (simp; done) | (simp; omega))) | ((with_reducible refine Below.setCell ?_ ?_ _); rotate_left; focus (first | with_reducible exact Nat.le_refl _ | omega | (simp; done) | (simp; omega))) | (with_reducible refine Below.drew ?_) | ((with_reducible refine Below.trans ?_ (Below.mono (by with_reducible assumption) ?_)); rotate_left; focus (first | with_reducible exact Nat.le_refl _ | omega | (simp; done) | (simp; omega)))))⟩
              case measure => simp [intOf]; omega
          · obtain rfl : j = k := by omega
            generalize hUU : usedN f (gcN f) j j = U at hU
            have HUU := Lib.hid hUU
            clear hUU
            go_wp2
            go_loopw [7] (fun s7 wn => ∃ x : Nat, x ≤ 7 ∧ s7 = .int .i64 x ∧ (∀ y, y < x → U.testBit y = true) ∧ wr = wn) (fun s7 _ => 7 - (intOf s7).toNat)
            case atStart => exact ⟨0, Nat.zero_le _, rfl, fun y hy => by omega, by trivial⟩
            case round =>
              obtain ⟨x, hx, rfl, hall, rfl⟩ := hrel
              have HA := Lib.hid hall
              clear hall
              have hx7 : x < 7 := by
                refine Nat.lt_of_not_le fun h7x => ?_
                have h6 : ∀ y, y < 7 → ∃ i, i < j ∧ cmB (f i) (f j) = true ∧ gcN f i = y := fun y hy => (usedN_bit f (gcN f) j y j).1 (by rw [HUU.out]; exact HA.out y (by omega))
                obtain ⟨i, hi, _, e⟩ := h6 6 (by omega)
                have := gc_lt f i
                omega
              have hb := bit_eq ⟨U, hU⟩ ⟨x, hx7⟩
              dsimp only at hb
              cases hub : U.testBit x
              · rw [hub] at hb
                have HG : Hid (gcN f j = x) := Lib.hid (gc_one (usedN_no (by rw [HUU.out]; exact hub)) fun y hy => (usedN_bit f (gcN f) j y j).1 (by rw [HUU.out]; exact HA.out y hy))
                clear hub
                go_wp2_with (at_builtin; refine list_int1 _ rfl (.tmp 47) (.tmp 49) rfl w.heap.size h c st rfl (HSJ.out.alloc _) wr.heap.size x rfl (new_cell _ _ _ rfl) (by omega) (by simp; omega) ?_)
                intro h' cap' w6 hI6 hb6
                have HI6 := Lib.hid hI6
                have HB6 := Lib.hid hb6
                clear hI6 hb6
                go_wp2
                go_roundw
                case rel => exact ⟨j + 1, h', cap', st ++ [x], by omega, by go_num, by simp, HI6.out, by rw [HST.out, ← HG.out]; rfl, HBJ.out.trans (((Below.refl _ _).alloc HBJ.out.size _).trans HB6.out)⟩
                case measure => simp [intOf]; omega
              · rw [hub] at hb
                go_wp2
                go_roundw
                case rel =>
                  refine ⟨x + 1, by omega, by go_num, fun y hy => ?_, by trivial⟩
                  by_cases e : y = x
                  · rw [e]; exact hub
                  · exact HA.out y (by omega)
                case measure => simp [intOf]; omega
      · obtain rfl : k = n := by omega
        clear hlen
        go_wp2
        go_ret
        refine ⟨_, c, h, by rw [HL.out]; rfl, ?_, HS.out.blk.1, HB.out⟩
        have := HS.out
        rw [HST.out] at this
        exact this.iw

end Go.Proofs.Ytkfeeijiockdhaa
namespace Go.Proofs.Ytkfeeijiockdhaa
open Go.RowKit Go.Sort
set_option linter.unusedVariables false
def colL (cs : List Nat) (i : Nat) : Nat := (cs[i]?).getD 0
theorem colL_at {cs : List Nat} {i : Nat} (h : i < cs.length) : cs[i]? = some (colL cs i) := by
  unfold colL; rw [List.getElem?_eq_getElem h]; rfl
theorem colL_put {cs : List Nat} {x i : Nat} (h : i < cs.length) : colL (cs ++ [x]) i = colL cs i := by
  unfold colL; rw [List.getElem?_append_left h]
theorem colL_new (cs : List Nat) (x : Nat) : colL (cs ++ [x]) cs.length = x := by
  unfold colL; rw [List.getElem?_append_right (Nat.le_refl _), Nat.sub_self]; rfl
theorem colL_lt {cs : List Nat} {m : Nat} (h : ∀ x, x ∈ cs → x < m) (i : Nat) (hi : i < cs.length) : colL cs i < m := h _ (List.mem_of_getElem? (colL_at hi))
/-- the colours go on to the end -/
def Ext (f : Nat → Rt) (n m : Nat) (cs : List Nat) : Prop := ∃ c : Nat → Nat, (∀ i, i < cs.length → c i = colL cs i) ∧ (∀ i, i < n → cs.length ≤ i → c i < m) ∧ ∀ i j, i < j → j < n → cs.length ≤ j → cmB (f i) (f j) = true → c i ≠ c j
theorem Ext.done {f : Nat → Rt} {n m : Nat} {cs : List Nat} (h : cs.length = n) : Ext f n m cs := ⟨colL cs, fun i _ => rfl, fun i hi hl => by omega, fun i j _ hj hl => by omega⟩
theorem Ext.first {f : Nat → Rt} {n m : Nat} {cs : List Nat} (hk : cs.length < n) (h : Ext f n m cs) : ∃ x, x < m ∧ (∀ i, i < cs.length → cmB (f i) (f cs.length) = true → colL cs i ≠ x) ∧ Ext f n m (cs ++ [x]) := by
  obtain ⟨c, h1, h2, h3⟩ := h
  refine ⟨c cs.length, h2 _ hk (Nat.le_refl _), fun i hi hm => by rw [← h1 i hi]; exact h3 i _ hi hk (Nat.le_refl _) hm, c, fun i hi => ?_, fun i hi hl => ?_, fun i j hij hj hl => ?_⟩
  · rw [List.length_append, List.length_singleton] at hi
    by_cases e : i = cs.length
    · rw [e, colL_new]
    · rw [colL_put (by omega)]; exact h1 i (by omega)
  · rw [List.length_append, List.length_singleton] at hl; exact h2 i hi (by omega)
  · rw [List.length_append, List.length_singleton] at hl; exact h3 i j hij hj (by omega)
theorem Ext.step {f : Nat → Rt} {n m x : Nat} {cs : List Nat} (hx : x < m) (hno : ∀ i, i < cs.length → cmB (f i) (f cs.length) = true → colL cs i ≠ x) (h : Ext f n m (cs ++ [x])) : Ext f n m cs := by
  obtain ⟨c, h1, h2, h3⟩ := h
  rw [List.length_append, List.length_singleton] at h1 h2 h3
  have hn : c cs.length = x := by rw [h1 _ (by omega), colL_new]
  have ho : ∀ i, i < cs.length → c i = colL cs i := fun i hi => by rw [h1 i (by omega), colL_put hi]
  refine ⟨c, ho, fun i hi hl => ?_, fun i j hij hj hl hm => ?_⟩
  · by_cases e : i = cs.length
    · rw [e, hn]; exact hx
    · exact h2 i hi (by omega)
  · by_cases e : j = cs.length
    · subst e; rw [hn, ho i hij]; exact hno i hij hm
    · exact h3 i j hij hj (by omega) hm
theorem ext_co (f : Nat → Rt) (n m : Nat) : Ext f n m [] ↔ ∃ c, Co f n m c :=
  ⟨fun ⟨c, _, h2, h3⟩ => ⟨c, fun i hi => h2 i hi (Nat.zero_le _), fun i j hij hj hm => h3 i j hij hj (Nat.zero_le _) hm⟩, fun ⟨c, h2, h3⟩ => ⟨c, fun i hi => absurd hi (Nat.not_lt_zero i), fun i hi _ => h2 i hi, fun i j hij hj _ hm => h3 i j hij hj hm⟩⟩
theorem wpList_live {P : Program} {ops : Array Oper} {Q : Exit → Act → World → Prop} {a : Act} {w : World} {rest : List Oper} {o : Oper} (hw : Region.wanted o (yielded ops a.tmps) = true)
    (h : ∀ K : Act → World → Prop, (∀ a w, wpList P ops Q rest a w → K a w) → o.wp P a w K Q) : wpList P ops Q (o :: rest) a w :=
  wpList_step fun K hK => by rw [if_pos hw]; exact h K hK
/-- append of a stack's numbers, where it is asked for -/
theorem list_ints (w : World) {ops : Array Oper} {rest : List Oper} {o : Oper} {a : Act} {Q : Exit → Act → World → Prop} (hw : Region.wanted o (yielded ops a.tmps) = true) (s x : Operand) (ho : o.op = .call { callee := .builtin .append, args := #[s, x], argTypes := #[34, 34] })
    (base h cap : Nat) (st : List Nat) (hs : a.eval s = .slice (some ⟨h, 0, none⟩) st.length cap) (hown : StI w base h cap st) (b c2 base2 : Nat) (xs : List Nat) (hx : a.eval x = .slice (some ⟨b, 0, none⟩) xs.length c2)
    (hc : StI w base2 b c2 xs) (ys : List Nat) (hys : st ++ xs = ys) (hsz : st.length + xs.length ≤ 1000000) (hbase : base ≤ w.heap.size)
    (hh : ∀ h' cap' w', StI w' base h' cap' ys → Below base w w' → wpList Try.prog ops Q rest (a.put o.dst (.slice (some ⟨h', 0, none⟩) ys.length cap')) w') : wpList Try.prog ops Q (o :: rest) a w := by
  subst hys
  obtain ⟨i0, hi, hz, hsi, hby⟩ := info_parts infoI
  obtain ⟨v', w', hr, h2, h3, h4, h5⟩ := run_append_own_at (P := Try.prog) w base 34 o.type 3 i0 (.int .i64 0) 1 8 Try.underlying34 hi hz hsi hby rfl (by omega) _ st.length (intL st) hown ⟨b, 0, none⟩ xs.length c2 (intL xs) (by rw [intL_len]; omega) (fun i u hu => by
    have hil : i < xs.length := by
      have := (List.getElem?_eq_some_iff.1 hu).choose
      rwa [intL_len] at this
    have e := hc.at_ (k := i) (s := xs[i]) (List.getElem?_eq_getElem hil)
    unfold intL at hu
    rw [List.getElem?_map, List.getElem?_eq_getElem hil] at hu
    cases hu
    rw [show ((⟨b, 0, none⟩ : Addr).add i) = ⟨b, i, none⟩ by cases i <;> simp [Addr.add]]; exact e) (fun u hu => by
    unfold intL at hu
    obtain ⟨x, _, rfl⟩ := List.mem_map.1 hu
    rfl) (by unfold maxLen; omega) (by omega) hbase
  have hform : ∃ g c, v' = .slice (some ⟨g, 0, none⟩) (st.length + xs.length) c := by
    rcases h2.2 with ⟨rfl, _⟩ | ⟨g, c, cur, hv, _⟩
    · have := (h4.1 rfl).1; cases this
    · exact ⟨g, c, hv⟩
  obtain ⟨g, c, hv⟩ := hform
  subst hv
  refine wpList_live hw fun K hK => ?_
  unfold Oper.wp execOp
  simp only [ho, resolve, invoke, builtin, Sem.run_bind, Sem.run_pure, Result.andThen_ok, List.map_toArray, List.map_cons, List.map_nil, hs, hx, hr]
  rw [← List.length_append] at h2 ⊢
  refine hK _ _ (hh g c w' ?_ (own_below hown h3 hbase))
  unfold StI
  rw [show intL (st ++ xs) = intL st ++ intL xs by unfold intL; rw [List.map_append]]
  exact h2


set_option maxHeartbeats 4000000 in
set_option maxRecDepth 100000 in
theorem spt_any (A : Option Addr) (n cap m : Nat) (f : Nat → Rt) (h7 : n ≤ 7) (hm : m ≤ 7) : ∀ (d : Nat) (cs : List Nat) (base h c : Nat) (w : World), cs.length + d = n → (∀ x, x ∈ cs → x < m) → Rs w A n f → StI w base h c cs →
    Calls Try.prog 66 #[.slice A n cap, .slice (some ⟨h, 0, none⟩) cs.length c, .int .i64 (m : Nat)] w fun e w' => ∃ b : Bool, e = .returned (.bool b) ∧ (b = true ↔ Ext f n m cs) ∧ Below w.heap.size w w' := by
  intro d
  induction d with
  | zero =>
    intro cs base h c w hd hcs hr hS
    have hln : cs.length = n := by omega
    have HE : Hid (Ext f n m cs) := Lib.hid (Ext.done hln)
    clear hcs hr hS
    subst hln
    go_enter Try.func66, Try.ntmps66
    go_wp2
    go_ret
    exact ⟨true, rfl, ⟨fun _ => HE.out, fun _ => rfl⟩, Below.refl _ _⟩
  | succ d ih =>
    intro cs base h c w hd hcs hr hS
    have hlt : cs.length < n := by omega
    have HI := Lib.hid ih
    have HCS := Lib.hid hcs
    have Hr := Lib.hid hr
    have HS := Lib.hid hS
    have hcap := hS.capLe
    have hlen : cs.length ≤ 6 := by omega
    have hne : ((cs.length : Int) == (n : Int)) = false := by simp; omega
    clear ih hcs hr hS
    go_enter Try.func66, Try.ntmps66
    go_wp2
    go_loopw [8, 9] (fun s8 s9 wr => ∃ j : Nat, j ≤ cs.length ∧ s9 = .int .i64 j ∧ s8 = .int .i64 (usedN f (colL cs) cs.length j : Nat) ∧ Below w.heap.size w wr) (fun _ s9 _ => cs.length - (intOf s9).toNat)
    case atStart => exact ⟨0, Nat.zero_le _, rfl, rfl, Below.refl _ _⟩
    case round =>
      obtain ⟨j, hj, rfl, rfl, hbj⟩ := hrel
      have hzj := hbj.size
      have HSJ := Lib.hid (HS.out.below hbj)
      have hU := usedN_lt (f := f) (c := colL cs) (k := cs.length) j fun i hi => by have := colL_lt HCS.out i (by omega); omega
      have HUs : Hid (usedN f (colL cs) cs.length (j + 1) = if cmB (f j) (f cs.length) = true then usedN f (colL cs) cs.length j ||| 2 ^ colL cs j else usedN f (colL cs) cs.length j) := Lib.hid rfl
      by_cases hlt2 : j < cs.length
      · have hg7 : colL cs j < 7 := by have := colL_lt HCS.out j hlt2; omega
        obtain ⟨b, off, rfl, hbl, ⟨c0, c1, c2, c3⟩, d0, d1, d2, d3⟩ := (Hr.out.below hbj).pair hlt (show j < n by omega)
        have hor := or_any ⟨usedN f (colL cs) cs.length j, hU⟩ ⟨colL cs j, hg7⟩
        have hsh := shl_eq ⟨colL cs j, by omega⟩
        have hcj := HSJ.out.at_ (colL_at hlt2)
        dsimp only at hor hsh
        generalize hUU : usedN f (colL cs) cs.length j = U at hU hor HUs
        generalize hG : colL cs j = G at hg7 hor hsh hcj HUs
        generalize hPP : 2 ^ G = P at hor hsh HUs
        have HUU := Lib.hid hUU
        clear hUU hG hPP
        have hh : h < wr.heap.size := HSJ.out.blk.2
        cases hc : cmB (f j) (f cs.length)
        · go_wp2_with fail
          have hq : True := trivial; have hq := fun d os o => (below_regrown wr d os).cell (p := ⟨b, o, none⟩) (by first | (simp; done) | omega | (simp; omega)); have hq := fun d os o => (below_regrown wr d os).cell (p := ⟨h, o, none⟩) (by first | (simp; done) | omega | (simp; omega)); refine wp_region_quiet_below (by kernel_rfl) (by kernel_rfl) ?_; (repeat (first | go_big_quiet_step (exact Calls.regrown_of (smt_val (f j) (f cs.length) _ (by assumption) _)) | quiet_step (exact Calls.regrown_of (smt_val (f j) (f cs.length) _ (by assumption) _)))); refine wpQuiet_nil ?_; intro _ hw'; obtain ⟨⟨dq, osq⟩, hw''⟩ := hw'; subst hw''; clear hq; have hb1 := below_regrown wr dq osq; generalize Sort.grow (redrawn wr dq) osq = w1 at hb1 ⊢; have hz1 := hb1.size; (try simp at hz1); have _ : b < w1.heap.size := (by first | (simp; done) | omega | (simp; omega)); have _ : h < w1.heap.size := (by first | (simp; done) | omega | (simp; omega)); have _ := fun o => hb1.cell (p := ⟨b, o, none⟩) (by first | (simp; done) | omega | (simp; omega)); have _ := fun o => hb1.cell (p := ⟨h, o, none⟩) (by first | (simp; done) | omega | (simp; omega))
          go_wp2
          go_roundw
          case rel => exact ⟨j + 1, by omega, by go_num, by rw [HUs.out, hc]; rfl, by (repeat (first | with_reducible exact Below.refl _ _ | with_reducible assumption | ((with_reducible refine Below.alloc ?_ ?_ _); rotate_left; focus (first | with_reducible exact Nat.le_refl _ | omega | (simp; done) | (simp; omega))) | ((with_reducible refine Below.setCell ?_ ?_ _); rotate_left; focus (first | with_reducible exact Nat.le_refl _ | omega | (simp; done) | (simp; omega))) | (with_reducible refine Below.drew ?_) | ((with_reducible refine Below.trans ?_ (Below.mono (by with_reducible assumption) ?_)); rotate_left; focus (first | with_reducible exact Nat.le_refl _ | omega | (simp; done) | (simp; omega)))))⟩
          case measure => simp [intOf]; omega
        · go_wp2_with fail
          have hq : True := trivial; have hq := fun d os o => (below_regrown wr d os).cell (p := ⟨b, o, none⟩) (by first | (simp; done) | omega | (simp; omega)); have hq := fun d os o => (below_regrown wr d os).cell (p := ⟨h, o, none⟩) (by first | (simp; done) | omega | (simp; omega)); refine wp_region_quiet_below (by kernel_rfl) (by kernel_rfl) ?_; (repeat (first | go_big_quiet_step (exact Calls.regrown_of (smt_val (f j) (f cs.length) _ (by assumption) _)) | quiet_step (exact Calls.regrown_of (smt_val (f j) (f cs.length) _ (by assumption) _)))); refine wpQuiet_nil ?_; intro _ hw'; obtain ⟨⟨dq, osq⟩, hw''⟩ := hw'; subst hw''; clear hq; have hb1 := below_regrown wr dq osq; generalize Sort.grow (redrawn wr dq) osq = w1 at hb1 ⊢; have hz1 := hb1.size; (try simp at hz1); have _ : b < w1.heap.size := (by first | (simp; done) | omega | (simp; omega)); have _ : h < w1.heap.size := (by first | (simp; done) | omega | (simp; omega)); have _ := fun o => hb1.cell (p := ⟨b, o, none⟩) (by first | (simp; done) | omega | (simp; omega)); have _ := fun o => hb1.cell (p := ⟨h, o, none⟩) (by first | (simp; done) | omega | (simp; omega))
          go_wp2
          go_roundw
          case rel => exact ⟨j + 1, by omega, by go_num, by rw [HUs.out, hc, if_pos rfl], by (repeat (first | with_reducible exact Below.refl _ _ | with_reducible assumption | ((with_reducible refine Below.alloc ?_ ?_ _); rotate_left; focus (first | with_reducible exact Nat.le_refl _ | omega | (simp; done) | (simp; omega))) | ((with_reducible refine Below.setCell ?_ ?_ _); rotate_left; focus (first | with_reducible exact Nat.le_refl _ | omega | (simp; done) | (simp; omega))) | (with_reducible refine Below.drew ?_) | ((with_reducible refine Below.trans ?_ (Below.mono (by with_reducible assumption) ?_)); rotate_left; focus (first | with_reducible exact Nat.le_refl _ | omega | (simp; done) | (simp; omega)))))⟩
          case measure => simp [intOf]; omega
      · obtain rfl : j = cs.length := by omega
        have HBw := Lib.hid hbj
        generalize hUU : usedN f (colL cs) cs.length cs.length = U at hU
        have HUU := Lib.hid hUU
        clear hUU hbj HSJ
        go_wp2
        obtain ⟨wq, hq⟩ : ∃ wq : World, wq = wr := ⟨_, rfl⟩
        go_loopw [10] (fun s10 wn => ∃ x : Nat, x ≤ m ∧ s10 = .int .i64 x ∧ (∀ y, y < x → U.testBit y = false → ¬ Ext f n m (cs ++ [y])) ∧ Below w.heap.size w wn) (fun s10 _ => m - (intOf s10).toNat)
        case atStart => exact ⟨0, Nat.zero_le _, rfl, fun y hy => by omega, HBw.out⟩
        case round =>
          obtain ⟨x, hx, rfl, hall, hbx⟩ := hrel
          have HA := Lib.hid hall
          have HBX := Lib.hid hbx
          have HSX := Lib.hid (HS.out.below hbx)
          have HrX := Lib.hid (Hr.out.below hbx)
          have hzx : w.heap.size ≤ wr.heap.size := hbx.size
          clear hall hbx
          by_cases hlt3 : x < m
          · have hb := bit_no ⟨U, hU⟩ ⟨x, by omega⟩
            dsimp only at hb
            cases hub : U.testBit x
            · rw [hub] at hb
              simp only [Bool.not_false] at hb
              have HNo : Hid (∀ i, i < cs.length → cmB (f i) (f cs.length) = true → colL cs i ≠ x) := Lib.hid (usedN_no (by rw [HUU.out]; exact hub))
              have hwx := HBX.out.size
              go_wp2_with ((at_builtin; refine list_ints _ (by first | rfl | kernel_rfl) (.tmp 50) (.tmp 51) rfl w.heap.size wr.heap.size 0 [] rfl (StI.empty _ _ _ rfl hwx) h c base cs rfl (HSX.out.alloc _) cs rfl (by simp; omega) (by simp; omega) ?_))
              intro h1 cap1 w1 hI1 hB1
              have HI1 := Lib.hid hI1
              have HB1 : Hid (Below w.heap.size w w1) := Lib.hid (HBX.out.trans (((Below.refl _ _).alloc hwx _).trans hB1))
              have hle1 : w.heap.size ≤ w1.heap.size := HB1.out.size
              clear hI1 hB1
              go_wp2_with ((at_builtin; refine list_ints _ (by first | rfl | kernel_rfl) (.tmp 52) (.tmp 54) rfl w.heap.size h1 cap1 cs rfl (HI1.out.alloc _) w1.heap.size 1 w1.heap.size [x] rfl (StI.one _ _ _ rfl (Nat.le_refl _) x) (cs ++ [x]) rfl (by simp; omega) (by simp; omega) ?_))
              intro h2 cap2 w2 hI2 hB2
              have HI2 := Lib.hid hI2
              have HB2 : Hid (Below w.heap.size w w2) := Lib.hid (HB1.out.trans (((Below.refl _ _).alloc hle1 _).trans hB2))
              have hle2 : w.heap.size ≤ w2.heap.size := HB2.out.size
              clear hI2 hB2
              go_wp2_with fail
              have hcall := HI.out (cs ++ [x]) w.heap.size h2 cap2 w2 (by rw [List.length_append, List.length_singleton]; omega) (fun y hy => (List.mem_append.1 hy).elim (HCS.out y) (fun h => by rw [List.mem_singleton.1 h]; exact hlt3)) (Hr.out.below HB2.out) HI2.out
              rw [List.length_append, List.length_singleton] at hcall
              refine hcall.mono ?_; rintro e w3 ⟨b, rfl, hbe, hb3⟩
              clear hcall
              have HBE := Lib.hid hbe
              have HB3 := Lib.hid (HB2.out.trans (hb3.mono hle2))
              clear hbe hb3
              cases b
              · go_wp2
                go_roundw
                case rel =>
                  refine ⟨x + 1, by omega, by go_num, fun y hy hyb => ?_, HB3.out⟩
                  by_cases e : y = x
                  · rw [e]; exact fun hp => by cases HBE.out.2 hp
                  · exact HA.out y (by omega) hyb
                case measure => simp [intOf]; omega
              · go_wp2
                go_ret
                exact ⟨true, rfl, ⟨fun _ => Ext.step hlt3 HNo.out (HBE.out.1 (by trivial)), fun _ => rfl⟩, HB3.out⟩
            · rw [hub] at hb
              simp only [Bool.not_true] at hb
              go_wp2
              go_roundw
              case rel =>
                refine ⟨x + 1, by omega, by go_num, fun y hy hyb => ?_, HBX.out⟩
                by_cases e : y = x
                · rw [e, hub] at hyb; cases hyb
                · exact HA.out y (by omega) hyb
              case measure => simp [intOf]; omega
          · obtain rfl : x = m := by omega
            go_wp2
            go_ret
            refine ⟨false, rfl, ⟨fun hh => (by cases hh), fun hp => ?_⟩, HBX.out⟩
            obtain ⟨y, hy, hno, he⟩ := Ext.first hlt hp
            refine absurd he (HA.out y hy ?_)
            cases hyb : U.testBit y
            · rfl
            · obtain ⟨i, hi, hm', e⟩ := (usedN_bit f (colL cs) cs.length y cs.length).1 (by rw [HUU.out]; exact hyb)
              exact absurd e (hno i hi hm')


set_option maxHeartbeats 1000000 in
set_option maxRecDepth 20000 in
theorem scl_any (A : Option Addr) (n cap : Nat) (f : Nat → Rt) (w : World) (hn : n ≤ maxLen) (hr : Rs w A n f) :
    Calls Try.prog 33 #[.slice A n cap] w fun e w' => e = .returned (.int .i64 (clF f n)) ∧ Below w.heap.size w w' := by
  have Hn := Lib.hid hn
  have Hr := Lib.hid hr
  clear hn hr
  cases hl : laidF f n
  · have H : Hid (clF f n = -1) := Lib.hid (by unfold clF; rw [hl]; rfl)
    go_enter Try.func33, Try.ntmps33
    go_wp2_with fail
    refine (slaid_val A n cap f false hl _ Hn.out Hr.out).mono ?_; rintro e w1 ⟨rfl, hb1⟩; have hz1 := hb1.size; (try simp at hz1)
    go_wp2
    go_ret
    exact ⟨ret_int (by rw [H.out]), by (repeat (first | with_reducible exact Below.refl _ _ | with_reducible assumption | ((with_reducible refine Below.alloc ?_ ?_ _); rotate_left; focus (first | with_reducible exact Nat.le_refl _ | omega | (simp; done) | (simp; omega))) | ((with_reducible refine Below.setCell ?_ ?_ _); rotate_left; focus (first | with_reducible exact Nat.le_refl _ | omega | (simp; done) | (simp; omega))) | (with_reducible refine Below.drew ?_) | ((with_reducible refine Below.trans ?_ (Below.mono (by with_reducible assumption) ?_)); rotate_left; focus (first | with_reducible exact Nat.le_refl _ | omega | (simp; done) | (simp; omega)))))⟩
  · have h7 := (laidF_ok hl).1
    have H : Hid (clF f n = coN f n) := Lib.hid (clF_yes hl)
    go_enter Try.func33, Try.ntmps33
    go_wp2_with fail
    refine (slaid_val A n cap f true hl _ Hn.out Hr.out).mono ?_; rintro e w1 ⟨rfl, hb1⟩; have hz1 := hb1.size; (try simp at hz1)
    have Hb1 := Lib.hid hb1
    have hle1 : w.heap.size ≤ w1.heap.size := Hb1.out.size
    clear hb1
    go_wp2
    go_loopw [3] (fun s3 wr => ∃ m : Nat, m ≤ n ∧ s3 = .int .i64 m ∧ (∀ k, k < m → ¬ Ext f n k []) ∧ Below w.heap.size w wr) (fun s3 _ => n - (intOf s3).toNat)
    case atStart => exact ⟨0, Nat.zero_le _, rfl, fun k hk => by omega, Hb1.out⟩
    case round =>
      obtain ⟨m, hm, rfl, hno, hbr⟩ := hrel
      have HN := Lib.hid hno
      have HB := Lib.hid hbr
      have hler : w.heap.size ≤ wr.heap.size := hbr.size
      clear hno hbr
      go_wp2_with fail
      refine (spt_any A n cap m f h7 (by omega) n [] w.heap.size wr.heap.size 0 _ (by simp) (fun x hx => by cases hx) ((Hr.out.below HB.out).below ((Below.refl _ _).alloc (Nat.le_refl _) _)) (StI.empty _ _ _ rfl hler)).mono ?_; rintro e w2 ⟨b, rfl, hbe, hb2⟩
      have HBE := Lib.hid hbe
      have HB2 : Hid (Below w.heap.size w w2) := Lib.hid (HB.out.trans (Below.trans ((Below.refl _ _).alloc hler _) (hb2.mono (by simp; omega))))
      clear hbe hb2
      cases b
      · have hlt : m < n := by
          rcases Nat.lt_or_ge m n with x | x
          · exact x
          · obtain rfl : m = n := by omega
            have := HBE.out.2 ((ext_co f m m).2 ⟨fun i => i, fun i hi => hi, fun i j hij _ _ => by show i ≠ j; omega⟩)
            cases this
        go_wp2
        go_roundw
        case rel =>
          refine ⟨m + 1, by omega, by go_num, fun k hk => ?_, HB2.out⟩
          by_cases e : k = m
          · subst e; exact fun hp => by cases HBE.out.2 hp
          · exact HN.out k (by omega)
        case measure => simp [intOf]; omega
      · have hco : coN f n = m := coN_eq ⟨(ext_co f n m).1 (HBE.out.1 (by trivial)), fun k c hc => Nat.le_of_not_lt fun hkm => HN.out k hkm ((ext_co f n k).2 ⟨c, hc⟩)⟩
        have HCo := Lib.hid hco
        clear hco
        go_wp2
        go_ret
        exact ⟨ret_int (by rw [H.out, HCo.out]), HB2.out⟩
theorem scl_val (A : Option Addr) (n cap : Nat) (f : Nat → Rt) (v : Int) (h : clF f n = v) (w : World) (hn : n ≤ maxLen) (hr : Rs w A n f) :
    Calls Try.prog 33 #[.slice A n cap] w fun e w' => e = .returned (.int .i64 v) ∧ Below w.heap.size w w' := h ▸ scl_any A n cap f w hn hr

end Go.Proofs.Ytkfeeijiockdhaa
