
/- Chapter 2: LaidOk of spec, AllCommon of both. -/
import Derived.Test.YthbmiibbnbbdgaaBits
import Derived.StillTailTactics
namespace Go.Proofs.Ythbmiibbnbbdgaa
open Go.RowKit Go.Sort
set_option linter.unusedVariables false
theorem laidF_ok {f : Nat → Rt} {n : Nat} (h : laidF f n = true) : n ≤ 7 ∧ okTo f n = true := by
  unfold laidF at h; simpa using h
theorem subset_last (f : Nat → Rt) (s k : Nat) : foldC (subTo f s (k + 1)) = if s.testBit k then commonR (foldC (subTo f s k)) (f k) else foldC (subTo f s k) := by
  simp only [subTo]
  by_cases h : s.testBit k = true
  · rw [if_pos h, if_pos h, foldC_snoc]
  · rw [if_neg h, if_neg h, List.append_nil]
/-- A rectangle in a block of the call's own. -/
def Bx (w : World) (b : Nat) (r : Rt) : Prop := b < w.heap.size ∧ C4 w b 0 r ∧ ∀ o, w.frozen? ⟨b, o, none⟩ = false
theorem Bx.below {w w' : World} {b : Nat} {r : Rt} (h : Bx w b r) (hb : Below w.heap.size w w') : Bx w' b r :=
  ⟨Nat.lt_of_lt_of_le h.1 hb.size, h.2.1.below hb h.1, fun o => (hb.frozen (p := ⟨b, o, none⟩) h.1).trans (h.2.2 o)⟩
theorem Bx.set {w : World} {b : Nat} {r r' : Rt} (h : Bx w b r) : Bx (set4 w b 0 r') b r' :=
  ⟨by rw [set4_size]; exact h.1, set4_same h.2.1, fun o => by rw [set4_frozen]; exact h.2.2 o⟩
theorem Bx.far {w : World} {b b' o : Nat} {r r' : Rt} (h : Bx w b r) (hn : b ≠ b') : Bx (set4 w b' o r') b r := by
  refine ⟨by rw [set4_size]; exact h.1, ?_, fun o => by rw [set4_frozen]; exact h.2.2 o⟩
  obtain ⟨_, ⟨h0, h1, h2, h3⟩, _⟩ := h
  have key : ∀ q v, w.cell? ⟨b, q, none⟩ = v → (set4 w b' o r').cell? ⟨b, q, none⟩ = v := by
    intro q v hv
    unfold set4
    rw [World.cell?_setCell_other _ ⟨b', o + 3, none⟩ ⟨b, q, none⟩ _ (fun e => by injection e with e; exact hn e.symm), World.cell?_setCell_other _ ⟨b', o + 2, none⟩ ⟨b, q, none⟩ _ (fun e => by injection e with e; exact hn e.symm), World.cell?_setCell_other _ ⟨b', o + 1, none⟩ ⟨b, q, none⟩ _ (fun e => by injection e with e; exact hn e.symm), World.cell?_setCell_other _ ⟨b', o, none⟩ ⟨b, q, none⟩ _ (fun e => by injection e with e; exact hn e.symm)]
    exact hv
  exact ⟨key _ _ h0, key _ _ h1, key _ _ h2, key _ _ h3⟩
theorem Bx.alloc (w : World) (t : TypeId) (r : Rt) : Bx (w.alloc (.cells #[.int .i64 r.l, .int .i64 r.o, .int .i64 r.r, .int .i64 r.h] t)) w.heap.size r := by
  refine ⟨by simp, ⟨?_, ?_, ?_, ?_⟩, fun o => ?_⟩
  · go_simp
  · go_simp
  · go_simp
  · go_simp
  · go_simp

set_option maxHeartbeats 400000 in
theorem slaid_any (A : Option Addr) (n cap : Nat) (f : Nat → Rt) (w : World) (hn : n ≤ maxLen) (hr : Rs w A n f) :
    Calls Try.prog 19 #[.slice A n cap] w fun e w' => e = .returned (.bool (laidF f n)) ∧ Below w.heap.size w w' := by
  unfold maxLen at hn
  have Hr := Lib.hid hr
  clear hr
  go_enter Try.func19, Try.ntmps19
  go_wp2
  go_loopw [3] (fun i wr => ∃ k : Nat, k ≤ n ∧ i = .int .i64 k ∧ okTo f k = true ∧ Below w.heap.size w wr) (fun i _ => n - (intOf i).toNat)
  case atStart => exact ⟨0, Nat.zero_le _, rfl, rfl, Below.refl _ _⟩
  case round =>
    obtain ⟨k, hk, rfl, hok, hbr⟩ := hrel
    have hzr := hbr.size
    have Hk := Lib.hid hok
    clear hok
    by_cases hlt : k < n
    · obtain ⟨b, off, rfl, hl, c0, c1, c2, c3⟩ := (Hr.out.below hbr).at_ hlt
      cases ho : okB (f k)
      · go_wp2_with fail
        refine (sok_val (f k) false ho _).mono ?_; rintro e w1 ⟨rfl, hb1⟩; have hz1 := hb1.size; (try simp at hz1)
        go_wp2
        go_ret
        exact ⟨ret_bool (by unfold laidF; rw [okTo_no hlt ho, Bool.and_false]), by (repeat (first | with_reducible exact Below.refl _ _ | with_reducible assumption | ((with_reducible refine Below.alloc ?_ ?_ _); rotate_left; focus (first | with_reducible exact Nat.le_refl _ | omega | (simp; done) | (simp; omega))) | ((with_reducible refine Below.setCell ?_ ?_ _); rotate_left; focus (first | with_reducible exact Nat.le_refl _ | omega | (simp; done) | (simp; omega))) | (with_reducible refine Below.drew ?_) | ((with_reducible refine Below.trans ?_ (Below.mono (by with_reducible assumption) ?_)); rotate_left; focus (first | with_reducible exact Nat.le_refl _ | omega | (simp; done) | (simp; omega)))))⟩
      · go_wp2_with fail
        refine (sok_val (f k) true ho _).mono ?_; rintro e w1 ⟨rfl, hb1⟩; have hz1 := hb1.size; (try simp at hz1)
        go_wp2
        go_roundw
        case rel => exact ⟨k + 1, by omega, by go_num, by simp only [okTo]; rw [Hk.out, ho]; rfl, by (repeat (first | with_reducible exact Below.refl _ _ | with_reducible assumption | ((with_reducible refine Below.alloc ?_ ?_ _); rotate_left; focus (first | with_reducible exact Nat.le_refl _ | omega | (simp; done) | (simp; omega))) | ((with_reducible refine Below.setCell ?_ ?_ _); rotate_left; focus (first | with_reducible exact Nat.le_refl _ | omega | (simp; done) | (simp; omega))) | (with_reducible refine Below.drew ?_) | ((with_reducible refine Below.trans ?_ (Below.mono (by with_reducible assumption) ?_)); rotate_left; focus (first | with_reducible exact Nat.le_refl _ | omega | (simp; done) | (simp; omega)))))⟩
        case measure => simp [intOf]; omega
    · have hkn : k = n := by omega
      subst hkn
      go_wp2
      go_ret
      exact ⟨ret_bool (by unfold laidF; rw [Hk.out]; simp; omega), hbr⟩
theorem ilaid_val (A : Option Addr) (n cap : Nat) (f : Nat → Rt) (v : Bool) (h : laidF f n = v) (w : World) (hn : n ≤ maxLen) (hr : Rs w A n f) :
    Calls Try.prog 20 #[.slice A n cap] w fun e w' => e = .returned (.bool v) ∧ Below w.heap.size w w' := h ▸ ilaid_any A n cap f w hn hr
theorem slaid_val (A : Option Addr) (n cap : Nat) (f : Nat → Rt) (v : Bool) (h : laidF f n = v) (w : World) (hn : n ≤ maxLen) (hr : Rs w A n f) :
    Calls Try.prog 19 #[.slice A n cap] w fun e w' => e = .returned (.bool v) ∧ Below w.heap.size w w' := h ▸ slaid_any A n cap f w hn hr
theorem has_val (s i : Nat) (v : Bool) (h : s.testBit i = v) (w : World) (hs : s < 128) (hi : i < 7) :
    Calls Try.prog 62 #[.int .u64 s, .int .i64 i] w fun e w' => e = .returned (.bool v) ∧ w = w' := h ▸ has_any s i w hs hi

set_option maxHeartbeats 1000000 in
theorem commonin_any (s : Nat) (A : Option Addr) (n cap : Nat) (f : Nat → Rt) (w : World) (hs : s < 128) (hn : n ≤ 7) (hr : Rs w A n f) :
    Calls Try.prog 43 #[.int .u64 s, .slice A n cap] w fun e w' => e = .returned (.tuple #[rv (onlyR (foldC (subTo f s n))), .bool (okB (foldC (subTo f s n)))]) ∧ Below w.heap.size w w' := by
  have Hr := Lib.hid hr
  clear hr
  go_enter Try.func43, Try.ntmps43
  go_wp2
  go_loopw [12] (fun i wr => ∃ k : Nat, k ≤ n ∧ i = .int .i64 k ∧ Bx wr w.heap.size Rt.zero ∧ Bx wr (w.heap.size + 1) (foldC (subTo f s k)) ∧ Below w.heap.size w wr) (fun i _ => n - (intOf i).toNat)
  case atStart =>
    refine ⟨0, Nat.zero_le _, rfl, ?_, ?_, by (repeat (first | with_reducible exact Below.refl _ _ | with_reducible assumption | ((with_reducible refine Below.alloc ?_ ?_ _); rotate_left; focus (first | with_reducible exact Nat.le_refl _ | omega | (simp; done) | (simp; omega))) | ((with_reducible refine Below.setCell ?_ ?_ _); rotate_left; focus (first | with_reducible exact Nat.le_refl _ | omega | (simp; done) | (simp; omega))) | (with_reducible refine Below.drew ?_) | ((with_reducible refine Below.trans ?_ (Below.mono (by with_reducible assumption) ?_)); rotate_left; focus (first | with_reducible exact Nat.le_refl _ | omega | (simp; done) | (simp; omega)))))⟩
    · exact (Bx.alloc w _ Rt.zero).below ((Below.refl _ _).alloc (Nat.le_refl _) _)
    · have := Bx.alloc (w.alloc (.cells #[.int .i64 0, .int .i64 0, .int .i64 0, .int .i64 0] 24)) 24 full
      rw [World.size_alloc] at this
      exact this
  case round =>
    obtain ⟨k, hk, rfl, hx0, hx1, hbr⟩ := hrel
    have hzr := hbr.size
    have l0 := hx0.1
    have l1 := hx1.1
    have X0 := Lib.hid hx0
    have X1 := Lib.hid hx1
    obtain ⟨_, ⟨d0, d1, d2, d3⟩, df⟩ := hx1
    simp only [Nat.zero_add] at d0 d1 d2 d3
    clear hx0
    by_cases hlt : k < n
    · obtain ⟨b, off, rfl, hl, c0, c1, c2, c3⟩ := (Hr.out.below hbr).at_ hlt
      have HS := Lib.hid (subset_last f s k)
      cases hb : s.testBit k
      · go_wp2_with fail
        refine (has_val s k false hb _ hs (by omega)).mono ?_; rintro e w' ⟨rfl, rfl⟩
        go_wp2
        go_roundw
        case rel =>
          have hb1 : Below wr.heap.size wr (wr.alloc (.cells #[.int .i64 (f k).l, .int .i64 (f k).o, .int .i64 (f k).r, .int .i64 (f k).h] 24)) := (Below.refl _ _).alloc (Nat.le_refl _) _
          exact ⟨k + 1, by omega, by go_num, X0.out.below hb1, by rw [HS.out, hb]; exact X1.out.below hb1, by (repeat (first | with_reducible exact Below.refl _ _ | with_reducible assumption | ((with_reducible refine Below.alloc ?_ ?_ _); rotate_left; focus (first | with_reducible exact Nat.le_refl _ | omega | (simp; done) | (simp; omega))) | ((with_reducible refine Below.setCell ?_ ?_ _); rotate_left; focus (first | with_reducible exact Nat.le_refl _ | omega | (simp; done) | (simp; omega))) | (with_reducible refine Below.drew ?_) | ((with_reducible refine Below.trans ?_ (Below.mono (by with_reducible assumption) ?_)); rotate_left; focus (first | with_reducible exact Nat.le_refl _ | omega | (simp; done) | (simp; omega)))))⟩
        case measure => simp [intOf]; omega
      · go_wp2_with fail
        refine (has_val s k true hb _ hs (by omega)).mono ?_; rintro e w' ⟨rfl, rfl⟩
        go_wp2_with fail
        refine (icommon_any (foldC (subTo f s k)) (f k) _).mono ?_; rintro e w1 ⟨rfl, hb1⟩; have hz1 := hb1.size; (try simp at hz1); have _ : w.heap.size < w1.heap.size := (by first | (simp; done) | omega | (simp; omega)); have _ : w.heap.size + 1 < w1.heap.size := (by first | (simp; done) | omega | (simp; omega)); have _ := fun o => hb1.cell (p := ⟨w.heap.size, o, none⟩) (by first | (simp; done) | omega | (simp; omega)); have _ := fun o => hb1.cell (p := ⟨w.heap.size + 1, o, none⟩) (by first | (simp; done) | omega | (simp; omega)); have _ := fun o => hb1.frozen (p := ⟨w.heap.size + 1, o, none⟩) (by first | (simp; done) | omega | (simp; omega))
        go_wp2
        go_roundw
        case rel =>
          have hb2 : Below wr.heap.size wr w1 := by (repeat (first | with_reducible exact Below.refl _ _ | with_reducible assumption | ((with_reducible refine Below.alloc ?_ ?_ _); rotate_left; focus (first | with_reducible exact Nat.le_refl _ | omega | (simp; done) | (simp; omega))) | ((with_reducible refine Below.setCell ?_ ?_ _); rotate_left; focus (first | with_reducible exact Nat.le_refl _ | omega | (simp; done) | (simp; omega))) | (with_reducible refine Below.drew ?_) | ((with_reducible refine Below.trans ?_ (Below.mono (by with_reducible assumption) ?_)); rotate_left; focus (first | with_reducible exact Nat.le_refl _ | omega | (simp; done) | (simp; omega)))))
          refine ⟨k + 1, by omega, by go_num, ?_, ?_, ?_⟩
          · exact (X0.out.below hb2).far (by omega)
          · rw [HS.out, if_pos hb]
            have := (X1.out.below hb2).set (r' := commonR (foldC (subTo f s k)) (f k))
            simpa only [set4, Nat.zero_add] using this
          · exact Below.set4 (hbr.trans (hb2.mono hzr)) (by omega) _
        case measure => simp [intOf]; omega
    · have hkn : k = n := by omega
      subst hkn
      obtain ⟨_, ⟨e0, e1, e2, e3⟩, ef⟩ := X0.out
      simp only [Nat.zero_add] at e0 e1 e2 e3
      go_wp2_with fail
      refine (only_any (foldC (subTo f s k)) _).mono ?_; rintro e w1 ⟨rfl, hb1⟩; have hz1 := hb1.size; (try simp at hz1); have _ : w.heap.size < w1.heap.size := (by first | (simp; done) | omega | (simp; omega)); have _ := fun o => hb1.cell (p := ⟨w.heap.size, o, none⟩) (by first | (simp; done) | omega | (simp; omega)); have _ := fun o => hb1.frozen (p := ⟨w.heap.size, o, none⟩) (by first | (simp; done) | omega | (simp; omega))
      go_wp2
      refine bodyPost_ret (v := .tuple #[rv (onlyR (foldC (subTo f s k))), .bool (okB (foldC (subTo f s k)))]) (by simp (maxDischargeDepth := 8) [results, Try.results43, go_sem, *]) rfl ⟨rfl, ?_⟩
      (repeat (first | with_reducible exact Below.refl _ _ | with_reducible assumption | ((with_reducible refine Below.alloc ?_ ?_ _); rotate_left; focus (first | with_reducible exact Nat.le_refl _ | omega | (simp; done) | (simp; omega))) | ((with_reducible refine Below.setCell ?_ ?_ _); rotate_left; focus (first | with_reducible exact Nat.le_refl _ | omega | (simp; done) | (simp; omega))) | (with_reducible refine Below.drew ?_) | ((with_reducible refine Below.trans ?_ (Below.mono (by with_reducible assumption) ?_)); rotate_left; focus (first | with_reducible exact Nat.le_refl _ | omega | (simp; done) | (simp; omega)))))

theorem sub_all (f : Nat → Rt) (n : Nat) : subTo f (2 ^ n - 1) n = upTo f n := by
  have H : ∀ k, k ≤ n → subTo f (2 ^ n - 1) k = upTo f k := by
    intro k
    induction k with
    | zero => intro _; rfl
    | succ k ih => intro h; simp only [subTo, upTo]; rw [ih (by omega), Nat.testBit_two_pow_sub_one]; simp; omega
  exact H n (Nat.le_refl _)
def acF (f : Nat → Rt) (n : Nat) : Bool := laidF f n && (!decide (n = 0) && okB (foldC (upTo f n)))
def acRF (f : Nat → Rt) (n : Nat) : Rt := if acF f n then foldC (upTo f n) else Rt.zero
theorem pow_lt (n : Nat) (h : n ≤ 7) : 2 ^ n - 1 < 128 := by
  have := Nat.pow_le_pow_right (n := 2) (by omega) h
  omega

set_option maxHeartbeats 1000000 in
theorem iac_any (A : Option Addr) (n cap : Nat) (f : Nat → Rt) (w : World) (hn : n ≤ maxLen) (hr : Rs w A n f) :
    Calls Try.prog 21 #[.slice A n cap] w fun e w' => e = .returned (.tuple #[rv (acRF f n), .bool (acF f n)]) ∧ Below w.heap.size w w' := by
  have Hn := Lib.hid hn
  unfold maxLen at hn
  have Hr := Lib.hid hr
  clear hr
  have hba : Below w.heap.size w (w.alloc (.cells #[.int .i64 0, .int .i64 0, .int .i64 0, .int .i64 0] 24)) := (Below.refl _ _).alloc (Nat.le_refl _) _
  have Hb := Lib.hid hba
  clear hba
  cases hl : laidF f n
  · have H : Hid (acRF f n = Rt.zero ∧ acF f n = false) := Lib.hid (by unfold acRF acF; rw [hl]; exact ⟨rfl, rfl⟩)
    go_enter Try.func21, Try.ntmps21
    go_wp2_with fail
    refine (ilaid_val A n cap f false hl _ Hn.out (Hr.out.below Hb.out)).mono ?_; rintro e w1 ⟨rfl, hb1⟩; have hz1 := hb1.size; (try simp at hz1); have _ : w.heap.size < w1.heap.size := (by first | (simp; done) | omega | (simp; omega)); have _ := fun o => hb1.cell (p := ⟨w.heap.size, o, none⟩) (by first | (simp; done) | omega | (simp; omega)); have _ := fun o => hb1.frozen (p := ⟨w.heap.size, o, none⟩) (by first | (simp; done) | omega | (simp; omega))
    go_wp2
    refine bodyPost_ret (v := .tuple #[rv Rt.zero, .bool false]) (by simp (maxDischargeDepth := 8) [Rt.zero, results, Try.results21, go_sem, *]) rfl ⟨?_, ?_⟩
    · rw [H.out.1, H.out.2]
    · (repeat (first | with_reducible exact Below.refl _ _ | with_reducible assumption | ((with_reducible refine Below.alloc ?_ ?_ _); rotate_left; focus (first | with_reducible exact Nat.le_refl _ | omega | (simp; done) | (simp; omega))) | ((with_reducible refine Below.setCell ?_ ?_ _); rotate_left; focus (first | with_reducible exact Nat.le_refl _ | omega | (simp; done) | (simp; omega))) | (with_reducible refine Below.drew ?_) | ((with_reducible refine Below.trans ?_ (Below.mono (by with_reducible assumption) ?_)); rotate_left; focus (first | with_reducible exact Nat.le_refl _ | omega | (simp; done) | (simp; omega)))))
  · obtain ⟨h7, hok⟩ := laidF_ok hl
    have Hok := Lib.hid hok
    clear hok
    by_cases h0 : n = 0
    · subst h0
      have H : Hid (acRF f 0 = Rt.zero ∧ acF f 0 = false) := Lib.hid (by unfold acRF acF; rw [hl]; exact ⟨rfl, rfl⟩)
      go_enter Try.func21, Try.ntmps21
      go_wp2_with fail
      refine (ilaid_val A 0 cap f true hl _ Hn.out (Hr.out.below Hb.out)).mono ?_; rintro e w1 ⟨rfl, hb1⟩; have hz1 := hb1.size; (try simp at hz1); have _ : w.heap.size < w1.heap.size := (by first | (simp; done) | omega | (simp; omega)); have _ := fun o => hb1.cell (p := ⟨w.heap.size, o, none⟩) (by first | (simp; done) | omega | (simp; omega)); have _ := fun o => hb1.frozen (p := ⟨w.heap.size, o, none⟩) (by first | (simp; done) | omega | (simp; omega))
      go_wp2
      refine bodyPost_ret (v := .tuple #[rv Rt.zero, .bool false]) (by simp (maxDischargeDepth := 8) [Rt.zero, results, Try.results21, go_sem, *]) rfl ⟨?_, ?_⟩
      · rw [H.out.1, H.out.2]
      · (repeat (first | with_reducible exact Below.refl _ _ | with_reducible assumption | ((with_reducible refine Below.alloc ?_ ?_ _); rotate_left; focus (first | with_reducible exact Nat.le_refl _ | omega | (simp; done) | (simp; omega))) | ((with_reducible refine Below.setCell ?_ ?_ _); rotate_left; focus (first | with_reducible exact Nat.le_refl _ | omega | (simp; done) | (simp; omega))) | (with_reducible refine Below.drew ?_) | ((with_reducible refine Below.trans ?_ (Below.mono (by with_reducible assumption) ?_)); rotate_left; focus (first | with_reducible exact Nat.le_refl _ | omega | (simp; done) | (simp; omega)))))
    · have H : Hid (acRF f n = onlyR (foldC (subTo f (2 ^ n - 1) n)) ∧ acF f n = okB (foldC (subTo f (2 ^ n - 1) n))) := Lib.hid (by
        rw [sub_all]; unfold acRF acF onlyR; rw [hl, show decide (n = 0) = false by simpa using h0]; exact ⟨rfl, rfl⟩)
      go_enter Try.func21, Try.ntmps21
      go_wp2_with fail
      refine (ilaid_val A n cap f true hl _ Hn.out (Hr.out.below Hb.out)).mono ?_; rintro e w1 ⟨rfl, hb1⟩; have hz1 := hb1.size; (try simp at hz1); have _ : w.heap.size < w1.heap.size := (by first | (simp; done) | omega | (simp; omega)); have _ := fun o => hb1.cell (p := ⟨w.heap.size, o, none⟩) (by first | (simp; done) | omega | (simp; omega)); have _ := fun o => hb1.frozen (p := ⟨w.heap.size, o, none⟩) (by first | (simp; done) | omega | (simp; omega))
      have Hb1 := Lib.hid hb1
      go_wp2_with fail
      refine (allof_any n _ h7).mono ?_; rintro e w' ⟨rfl, rfl⟩
      go_wp2_with fail
      refine (commonin_any (2 ^ n - 1) A n cap f _ (pow_lt n h7) h7 ((Hr.out.below Hb.out).below Hb1.out)).mono ?_; rintro e w2 ⟨rfl, hb2⟩; have hz2 := hb2.size; (try simp at hz2); have _ : w.heap.size < w2.heap.size := (by first | (simp; done) | omega | (simp; omega)); have _ := fun o => hb2.cell (p := ⟨w.heap.size, o, none⟩) (by first | (simp; done) | omega | (simp; omega)); have _ := fun o => hb2.frozen (p := ⟨w.heap.size, o, none⟩) (by first | (simp; done) | omega | (simp; omega))
      go_wp2
      refine bodyPost_ret (v := .tuple #[rv (onlyR (foldC (subTo f (2 ^ n - 1) n))), .bool (okB (foldC (subTo f (2 ^ n - 1) n)))]) (by simp (maxDischargeDepth := 8) [results, Try.results21, go_sem, *]) rfl ⟨?_, ?_⟩
      · rw [H.out.1, H.out.2]
      · (repeat (first | with_reducible exact Below.refl _ _ | with_reducible assumption | ((with_reducible refine Below.alloc ?_ ?_ _); rotate_left; focus (first | with_reducible exact Nat.le_refl _ | omega | (simp; done) | (simp; omega))) | ((with_reducible refine Below.setCell ?_ ?_ _); rotate_left; focus (first | with_reducible exact Nat.le_refl _ | omega | (simp; done) | (simp; omega))) | (with_reducible refine Below.drew ?_) | ((with_reducible refine Below.trans ?_ (Below.mono (by with_reducible assumption) ?_)); rotate_left; focus (first | with_reducible exact Nat.le_refl _ | omega | (simp; done) | (simp; omega)))))

theorem name_list {P : Program} {ops : Array Oper} {rest : List Oper} {Q : Exit → Act → World → Prop} {a : Act} {w : World} (h : ∀ w0, w = w0 → wpList P ops Q rest a w0) : wpList P ops Q rest a w := h w rfl
theorem up_one (f : Nat → Rt) (h : okB (f 0) = true) : foldC (upTo f 1) = f 0 := by
  show commonR full (f 0) = f 0
  exact common_full _ h
theorem up_succ (f : Nat → Rt) (k : Nat) : foldC (upTo f (k + 1)) = commonR (foldC (upTo f k)) (f k) := by simp only [upTo]; rw [foldC_snoc]
end Go.Proofs.Ythbmiibbnbbdgaa
