
/- Chapter 4 of impl: the lowest set bit; a cell is taken out of a framed bitmap. -/
import Derived.Test.YtbdpngjakccjjaaDoorFram4
import Derived.Test.YtbdpngjakccjjaaDoorPieces
import Derived.Test.YtbdpngjakccjjaaDoorVt
namespace Go.Proofs.YtbdpngjakccjjaaDoor
open Go.RowKit Go.Sort
set_option linter.unusedVariables false
set_option linter.unusedSimpArgs false
theorem tz_key (x a : Nat) (hx : x < 4294967296) (hx0 : x ≠ 0) (hlow : x &&& (4294967296 - x) = a) :
    bits BinOp.and IntKind.u32 (x : Int) (-(x : Int) % 4294967296) * 125613361 % 4294967296 / 134217728 = ((a * 125613361 % 4294967296 / 134217728 : Nat) : Int) := by
  have e1 : -(x : Int) % 4294967296 = ((4294967296 - x : Nat) : Int) := by omega
  have e2 := u32_and_nat x (4294967296 - x) hx (by omega)
  rw [e1, e2, hlow]
  omega
set_option maxHeartbeats 1000000 in
theorem tz_core (x k idx : Nat) (w : World) (hx0 : ((x : Int) == 0) = false) (key : bits BinOp.and IntKind.u32 (x : Int) (-(x : Int) % 4294967296) * 125613361 % 4294967296 / 134217728 = (idx : Int))
    (hi : idx < 32) (hk : k < 32) (hcell : w.cell? ⟨0, idx, none⟩ = some (.int .u8 (k : Nat))) :
    Calls Tryd.prog 49 #[.int .u32 (x : Nat)] w fun e w' => e = .returned (.int .i64 (k : Nat)) ∧ w' = w := by
  go_enter Tryd.func49, Tryd.ntmps49
  go_wp2_with (simp only [key])
  go_ret
  exact ⟨rfl, rfl⟩
theorem tz_any (x : Nat) (hx : x < 4294967296) (hx0 : x ≠ 0) (w : World) (hT : Vt w) :
    Calls Tryd.prog 49 #[.int .u32 (x : Nat)] w fun e w' => e = .returned (.int .i64 (Lib.ctz 32 x : Nat)) ∧ w' = w := by
  obtain ⟨hlow, hk⟩ := Lib.lowest_bit 32 x hx0 hx
  obtain ⟨hi, htab⟩ := Lib.deBruijn32_at _ hk
  have hcell := hT _ hi
  rw [htab] at hcell
  exact tz_core x _ _ w (by simp; omega) (tz_key x _ hx hx0 hlow) hi hk hcell
theorem ctz_bit (x : Nat) (h0 : x ≠ 0) (hx : x < 2 ^ 22) : x.testBit (Lib.ctz 32 x) = true ∧ (∀ i, i < Lib.ctz 32 x → x.testBit i = false) ∧ Lib.ctz 32 x < 22 := by
  obtain ⟨m, hm, hk⟩ := Lib.ctzFrom_spec 32 x (by omega) (Nat.lt_of_lt_of_le hx (by decide))
  have e : Lib.ctz 32 x = Lib.ctzFrom 32 x := by simp [Lib.ctz, h0]
  rw [e]
  generalize Lib.ctzFrom 32 x = k at hm hk
  have hb : ∀ i, x.testBit i = (decide (k ≤ i) && (2 * m + 1).testBit (i - k)) := fun i => by rw [hm, Nat.mul_comm, Nat.testBit_mul_two_pow]
  have h1 : x.testBit k = true := by
    rw [hb k, Nat.sub_self, Nat.testBit_zero]; simp
  refine ⟨h1, fun i hi => by rw [hb i, decide_eq_false (by omega)]; rfl, ?_⟩
  rcases Nat.lt_or_ge k 22 with h | h
  · exact h
  · have := Nat.testBit_lt_two_pow (Nat.lt_of_lt_of_le hx (Nat.pow_le_pow_right (n := 2) (by omega) h))
    rw [this] at h1; cases h1
theorem grown_drewN {a w : World} {g : Nat} (h : a.grownBy w (some g)) (n : Nat) : a.grownBy (w.drewN n) (some g) := ⟨h.os, h.tape, h.output, h.size, h.block⟩

set_option maxHeartbeats 1000000 in
theorem take_out (g : Nat) (P Q : Int) (w : World) (h : ¬ (0 ≤ P ∧ P < 22 ∧ 0 ≤ Q ∧ Q < 22)) :
    Calls Tryd.prog 54 #[.pointer (some ⟨g, 0, none⟩), .agg #[.int .i64 P, .int .i64 Q]] w fun e w' => e = .returned (.bool false) ∧ Below w.heap.size w w' := by
  by_cases h1 : P < 0
  · clear h
    go_enter Tryd.func54, Tryd.ntmps54
    go_wp2
    go_ret
    exact ⟨rfl, by (repeat (first | with_reducible exact Below.refl _ _ | with_reducible assumption | ((with_reducible refine Below.alloc ?_ ?_ _); rotate_left; focus (first | with_reducible exact Nat.le_refl _ | omega | (simp; done) | (simp; omega))) | ((with_reducible refine Below.setCell ?_ ?_ _); rotate_left; focus (first | with_reducible exact Nat.le_refl _ | omega | (simp; done) | (simp; omega))) | (with_reducible refine Below.drew ?_) | ((with_reducible refine Below.trans ?_ (Below.mono (by with_reducible assumption) ?_)); rotate_left; focus (first | with_reducible exact Nat.le_refl _ | omega | (simp; done) | (simp; omega)))))⟩
  by_cases h2 : 22 ≤ P
  · clear h
    go_enter Tryd.func54, Tryd.ntmps54
    go_wp2
    go_ret
    exact ⟨rfl, by (repeat (first | with_reducible exact Below.refl _ _ | with_reducible assumption | ((with_reducible refine Below.alloc ?_ ?_ _); rotate_left; focus (first | with_reducible exact Nat.le_refl _ | omega | (simp; done) | (simp; omega))) | ((with_reducible refine Below.setCell ?_ ?_ _); rotate_left; focus (first | with_reducible exact Nat.le_refl _ | omega | (simp; done) | (simp; omega))) | (with_reducible refine Below.drew ?_) | ((with_reducible refine Below.trans ?_ (Below.mono (by with_reducible assumption) ?_)); rotate_left; focus (first | with_reducible exact Nat.le_refl _ | omega | (simp; done) | (simp; omega)))))⟩
  by_cases h3 : Q < 0
  · clear h
    go_enter Tryd.func54, Tryd.ntmps54
    go_wp2
    go_ret
    exact ⟨rfl, by (repeat (first | with_reducible exact Below.refl _ _ | with_reducible assumption | ((with_reducible refine Below.alloc ?_ ?_ _); rotate_left; focus (first | with_reducible exact Nat.le_refl _ | omega | (simp; done) | (simp; omega))) | ((with_reducible refine Below.setCell ?_ ?_ _); rotate_left; focus (first | with_reducible exact Nat.le_refl _ | omega | (simp; done) | (simp; omega))) | (with_reducible refine Below.drew ?_) | ((with_reducible refine Below.trans ?_ (Below.mono (by with_reducible assumption) ?_)); rotate_left; focus (first | with_reducible exact Nat.le_refl _ | omega | (simp; done) | (simp; omega)))))⟩
  have h4 : 22 ≤ Q := by omega
  clear h
  go_enter Tryd.func54, Tryd.ntmps54
  go_wp2
  go_ret
  exact ⟨rfl, by (repeat (first | with_reducible exact Below.refl _ _ | with_reducible assumption | ((with_reducible refine Below.alloc ?_ ?_ _); rotate_left; focus (first | with_reducible exact Nat.le_refl _ | omega | (simp; done) | (simp; omega))) | ((with_reducible refine Below.setCell ?_ ?_ _); rotate_left; focus (first | with_reducible exact Nat.le_refl _ | omega | (simp; done) | (simp; omega))) | (with_reducible refine Below.drew ?_) | ((with_reducible refine Below.trans ?_ (Below.mono (by with_reducible assumption) ?_)); rotate_left; focus (first | with_reducible exact Nat.le_refl _ | omega | (simp; done) | (simp; omega)))))⟩
/-- The cell x of row y is taken out. -/
def clrM (m : Nat → Nat) (x y : Nat) : Nat → Nat := fun j => if j = y then m y &&& (4294967295 - 2 ^ x) else m j
theorem bit_row (M x : Nat) (hM : M < 2 ^ 22) : (bits .and .u32 ((M : Nat) / 2 ^ x) 1 == 1) = M.testBit x := by
  have : bits .and .u32 (((M / 2 ^ x : Nat)) : Int) 1 = ((M / 2 ^ x &&& 1 : Nat) : Int) := u32_and_nat (M / 2 ^ x) 1 (Nat.lt_of_le_of_lt (Nat.div_le_self _ _) (by omega)) (by omega)
  have e : (((M / 2 ^ x : Nat)) : Int) = ((M : Nat) : Int) / 2 ^ x := by simp
  rw [e] at this
  rw [this, Nat.and_one_is_mod, Nat.testBit_eq_decide_div_mod_eq]
  generalize M / 2 ^ x = X
  by_cases h : X % 2 = 1
  · rw [h]; rfl
  · have : X % 2 = 0 := by omega
    rw [this]; rfl
set_option maxHeartbeats 1000000 in
theorem take_in (g x y : Nat) (m : Nat → Nat) (w : World) (hx : x < 22) (hy : y < 22) (hm : m y < 2 ^ 22) (hF : Fm w g m) :
    Calls Tryd.prog 54 #[.pointer (some ⟨g, 0, none⟩), .agg #[.int .i64 (x : Nat), .int .i64 (y : Nat)]] w fun e w' => e = .returned (.bool ((m y).testBit x)) ∧ Fm w' g (clrM m x y) ∧ w.grownBy w' (some g) := by
  have hgl := hF.lt
  have HF := Lib.hid hF
  have h1 : (x : Int) < 22 := by omega
  have h2 : (y : Int) < 22 := by omega
  have h3 : ¬ (22 : Int) ≤ (x : Int) := by omega
  have h4 : ¬ (22 : Int) ≤ (y : Int) := by omega
  have HX := Lib.hid (hF.below (w' := (w.alloc (.cells #[.int .i64 (x : Nat), .int .i64 (y : Nat)] 75))) ((Below.refl _ _).alloc (Nat.le_refl _) _))
  have HG := Lib.hid (grown_below (World.grownBy.refl w (some g)) (w' := (w.alloc (.cells #[.int .i64 (x : Nat), .int .i64 (y : Nat)] 75))) ((Below.refl _ _).alloc (Nat.le_refl _) _))
  have a0 := fun b (hb : b = w.heap.size) => (show (w.alloc (.cells #[.int .i64 (x : Nat), .int .i64 (y : Nat)] 75)).cell? ⟨b, 0, none⟩ = some (.int .i64 (x : Nat)) by subst hb; go_simp)
  have a1 := fun b (hb : b = w.heap.size) => (show (w.alloc (.cells #[.int .i64 (x : Nat), .int .i64 (y : Nat)] 75)).cell? ⟨b, 1, none⟩ = some (.int .i64 (y : Nat)) by subst hb; go_simp)
  have c0 := HX.out.c y hy
  have f0 := HX.out.fz y
  have hb := bit_row (m y) x hm
  obtain ⟨B, hB⟩ : ∃ B : Nat, 2 ^ x = B := ⟨_, rfl⟩
  have hBl : B < 4194304 := by rw [← hB]; exact Nat.pow_lt_pow_right (by omega) hx
  have e1 : (2 : Int) ^ x % 4294967296 = (B : Int) := by
    have : ((2 ^ x : Nat) : Int) = (2 : Int) ^ x := by simp
    rw [← this, hB]; omega
  have e2 : bits .andNot .u32 ((m y : Nat) : Int) (B : Int) = ((m y &&& (4294967295 - B) : Nat) : Int) := u32_andNot_nat _ _ (by omega) (by omega)
  have HB := Lib.hid hB
  clear hF hB
  go_enter Tryd.func54, Tryd.ntmps54
  go_wp2_with fail
  go_quiet (fail)
  go_wp2_with fail
  refine name_world (fun w2 hW => ?_)
  have k0 : ∀ ad, w2.cell? ad = (w.alloc (.cells #[.int .i64 (x : Nat), .int .i64 (y : Nat)] 75)).cell? ad := fun ad => by rw [← hW]; rfl
  have k1 : ∀ ad, w2.frozen? ad = (w.alloc (.cells #[.int .i64 (x : Nat), .int .i64 (y : Nat)] 75)).frozen? ad := fun ad => by rw [← hW]; rfl
  have c2 := (k0 ⟨g, y, none⟩).trans c0
  have f2 := (k1 ⟨g, y, none⟩).trans f0
  have p2 := (k0 ⟨w.heap.size, 0, none⟩).trans (a0 w.heap.size rfl)
  have p3 := (k0 ⟨w.heap.size, 1, none⟩).trans (a1 w.heap.size rfl)
  have HW := Lib.hid hW
  clear k0 k1 c0 f0 a0 a1 hW
  go_still_tail 12, (by kernel_rfl)
  change wpList _ _ _ _ _ w2.drew
  go_wp2
  go_ret
  have hs := HX.out.set (k := y) (m' := clrM m x y) hy (fun j _ hne => by unfold clrM; rw [if_neg hne])
  have hv : clrM m x y y = m y &&& (4294967295 - B) := by unfold clrM; rw [if_pos rfl, HB.out]
  rw [hv] at hs
  rw [← HW.out, e1, e2]
  exact ⟨rfl, hs, grown_drew (grown_drewN (grown_setCell (o := y) HG.out _) nq)⟩
/-- Which cells of the colour c are still there. -/
def avB (G : Nat → Bool) (c : Bool) (s : Nat → Bool) (a : Nat) : Bool := (G a == c) && !s a
structure RB (w : World) (g : Nat) (G : Nat → Bool) (c : Bool) (s : Nat → Bool) : Prop where
  ex : ∃ m, Fm w g m ∧ (∀ y, y < 22 → m y < 2 ^ 22) ∧ ∀ y x, y < 22 → x < 22 → (m y).testBit x = avB G c s (22 * y + x)
theorem RB.lt {w : World} {g : Nat} {G s : Nat → Bool} {c : Bool} (h : RB w g G c s) : g < w.heap.size := by
  obtain ⟨m, h, _⟩ := h.ex; exact h.lt
theorem RB.below {w w' : World} {g : Nat} {G s : Nat → Bool} {c : Bool} (h : RB w g G c s) (hb : Below w.heap.size w w') : RB w' g G c s := by
  obtain ⟨m, h, r⟩ := h.ex; exact ⟨m, h.below hb, r⟩
theorem RB.under {w w' : World} {g B : Nat} {G s : Nat → Bool} {c : Bool} (h : RB w g G c s) (hb : Below B w w') (hg : g < B) : RB w' g G c s := by
  obtain ⟨m, h, r⟩ := h.ex; exact ⟨m, h.under hb hg, r⟩
theorem RB.congr {w : World} {g : Nat} {G s s' : Nat → Bool} {c : Bool} (h : RB w g G c s) (e : ∀ a, a < 484 → avB G c s a = avB G c s' a) : RB w g G c s' := by
  obtain ⟨m, h, r, b⟩ := h.ex; exact ⟨m, h, r, fun y x hy hx => by rw [b y x hy hx]; exact e _ (by omega)⟩
/-- How many cells are there, as the world has them. -/
def rowAt32 (w : World) (g y : Nat) : Nat := match w.cell? ⟨g, y, none⟩ with | some (.int _ n) => n.toNat | _ => 0
def goneAt (w : World) (g a : Nat) : Bool := !(rowAt32 w g (a / 22)).testBit (a % 22)
theorem RB.gone {w : World} {g : Nat} {G s : Nat → Bool} {c : Bool} (h : RB w g G c s) : restB 484 (goneAt w g) = restB 484 (fun a => !avB G c s a) := by
  obtain ⟨m, h, r, b⟩ := h.ex
  refine restB_congr fun a ha => ?_
  unfold goneAt rowAt32
  rw [h.c (a / 22) (by omega)]
  show (!((m (a / 22) : Int).toNat).testBit (a % 22)) = _
  rw [Int.toNat_natCast, b (a / 22) (a % 22) (by omega) (by omega), show 22 * (a / 22) + a % 22 = a by omega]
theorem av_put (G : Nat → Bool) (c : Bool) (s : Nat → Bool) (j : Nat) : (fun a => !avB G c (putB s j) a) = putB (fun a => !avB G c s a) j := by
  funext a
  unfold avB putB
  by_cases h : a = j
  · simp [h]
  · simp [h]
def inZ (P Q : Int) : Bool := decide (0 ≤ P ∧ P < 22 ∧ 0 ≤ Q ∧ Q < 22)
def tkB (G : Nat → Bool) (c : Bool) (s : Nat → Bool) (P Q : Int) : Bool := inZ P Q && avB G c s (22 * Q.toNat + P.toNat)
def tkS (G : Nat → Bool) (c : Bool) (s : Nat → Bool) (P Q : Int) : Nat → Bool := if tkB G c s P Q then putB s (22 * Q.toNat + P.toNat) else s
theorem clr_bit (M x i : Nat) (hx : x < 22) (hi : i < 22) : (M &&& (4294967295 - 2 ^ x)).testBit i = (M.testBit i && !decide (i = x)) := by
  have h1 : 2 ^ x < 2 ^ 32 := Nat.pow_lt_pow_right (by omega) (by omega)
  have h2 : 4294967295 - 2 ^ x = 2 ^ 32 - (2 ^ x + 1) := by omega
  rw [Nat.testBit_and, h2, Nat.testBit_two_pow_sub_succ h1, Nat.testBit_two_pow, decide_eq_true (p := i < 32) (by omega), Bool.true_and]
  congr 2
  rw [Bool.eq_iff_iff, decide_eq_true_iff, decide_eq_true_iff]
  exact ⟨fun h => h.symm, fun h => h.symm⟩
theorem take_rb (g : Nat) (P Q : Int) (G s : Nat → Bool) (c : Bool) (w : World) (h : RB w g G c s) :
    Calls Tryd.prog 54 #[.pointer (some ⟨g, 0, none⟩), .agg #[.int .i64 P, .int .i64 Q]] w fun e w' => e = .returned (.bool (tkB G c s P Q)) ∧ RB w' g G c (tkS G c s P Q) ∧ w.grownBy w' (some g) := by
  by_cases hz : 0 ≤ P ∧ P < 22 ∧ 0 ≤ Q ∧ Q < 22
  · obtain ⟨x, rfl⟩ := Int.eq_ofNat_of_zero_le hz.1
    obtain ⟨y, rfl⟩ := Int.eq_ofNat_of_zero_le hz.2.2.1
    have hx : x < 22 := by omega
    have hy : y < 22 := by omega
    obtain ⟨m, hF, hr, hb⟩ := h.ex
    refine (take_in g x y m w hx hy (hr y hy) hF).mono ?_
    rintro e w' ⟨rfl, hf, hg⟩
    have e1 : tkB G c s (x : Nat) (y : Nat) = (m y).testBit x := by
      unfold tkB inZ
      rw [decide_eq_true hz, Bool.true_and, Int.toNat_natCast, Int.toNat_natCast, hb y x hy hx]
    refine ⟨by rw [e1], ⟨clrM m x y, hf, fun j hj => ?_, fun j i hj hi => ?_⟩, hg⟩
    · unfold clrM
      split
      · exact Nat.lt_of_le_of_lt Nat.and_le_left (hr y hy)
      · exact hr j hj
    · have key : avB G c (tkS G c s (x : Nat) (y : Nat)) (22 * j + i) = (avB G c s (22 * j + i) && !decide (j = y ∧ i = x)) := by
        unfold tkS
        by_cases ht : tkB G c s (x : Nat) (y : Nat) = true
        · rw [if_pos ht, Int.toNat_natCast, Int.toNat_natCast]
          unfold avB putB
          by_cases hji : j = y ∧ i = x
          · obtain ⟨rfl, rfl⟩ := hji; simp
          · rw [if_neg (by omega), decide_eq_false hji]; simp
        · rw [if_neg ht]
          by_cases hji : j = y ∧ i = x
          · obtain ⟨rfl, rfl⟩ := hji
            rw [e1, hb j i hj hi] at ht
            rw [Bool.not_eq_true] at ht
            rw [ht]; rfl
          · rw [decide_eq_false hji]; simp
      rw [key, ← hb j i hj hi]
      unfold clrM
      by_cases hjy : j = y
      · subst hjy
        rw [if_pos rfl, clr_bit _ _ _ hx hi]
        congr 2
        simp
      · rw [if_neg hjy, decide_eq_false (by omega)]; simp
  · refine (take_out g P Q w hz).mono ?_
    rintro e w' ⟨rfl, hb⟩
    have e1 : tkB G c s P Q = false := by unfold tkB inZ; rw [decide_eq_false hz]; rfl
    refine ⟨by rw [e1], ?_, grown_below (World.grownBy.refl w _) hb⟩
    unfold tkS; rw [e1]
    exact h.below hb
end Go.Proofs.YtbdpngjakccjjaaDoor
