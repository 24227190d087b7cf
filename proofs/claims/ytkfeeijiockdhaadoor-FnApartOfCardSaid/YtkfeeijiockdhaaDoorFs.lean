/- Chapter 4 of impl: the lowest set bit; a cell is taken out of a framed bitmap. Chapter 4 of impl: a piece is taken away, by a stack of places. Chapter 4 of impl: a piece is taken away. Chapter 4 of impl: pieces and holes. -/
import Derived.Test.YtkfeeijiockdhaaDoorFram4
import Derived.Test.YtkfeeijiockdhaaDoorPieces
import Derived.Test.YtkfeeijiockdhaaDoorVt
import Derived.Test.YtkfeeijiockdhaaDoorMathQ
import Derived.WalkSmall
import Derived.Maps.AppendAt
namespace Go.Proofs.YtkfeeijiockdhaaDoor
open Go.RowKit Go.Sort
set_option linter.unusedVariables false
set_option linter.unusedSimpArgs false
theorem tz_key (x a : Nat) (hx : x < 4294967296) (hx0 : x ≠ 0) (hlow : x &&& (4294967296 - x) = a) :
    bits BinOp.and IntKind.u32 (x : Int) (-(x : Int) % 4294967296) * 125613361 % 4294967296 / 134217728 = ((a * 125613361 % 4294967296 / 134217728 : Nat) : Int) := by
  have e1 : -(x : Int) % 4294967296 = ((4294967296 - x : Nat) : Int) := by omega
  have e2 := u32_and_nat x (4294967296 - x) hx (by omega)
  rw [e1, e2, hlow]
  omega
set_option maxHeartbeats 1000000 in
set_option maxRecDepth 20000 in
theorem tz_core (x k idx : Nat) (w : World) (hx0 : ((x : Int) == 0) = false) (key : bits BinOp.and IntKind.u32 (x : Int) (-(x : Int) % 4294967296) * 125613361 % 4294967296 / 134217728 = (idx : Int))
    (hi : idx < 32) (hk : k < 32) (hcell : w.cell? ⟨0, idx, none⟩ = some (.int .u8 (k : Nat))) :
    Calls Tryd.prog 36 #[.int .u32 (x : Nat)] w fun e w' => e = .returned (.int .i64 (k : Nat)) ∧ w' = w := by
  go_enter Tryd.func36, Tryd.ntmps36
  go_wp2_with (simp only [key])
  go_ret
  exact ⟨rfl, rfl⟩
theorem tz_any (x : Nat) (hx : x < 4294967296) (hx0 : x ≠ 0) (w : World) (hT : Vt w) :
    Calls Tryd.prog 36 #[.int .u32 (x : Nat)] w fun e w' => e = .returned (.int .i64 (Lib.ctz 32 x : Nat)) ∧ w' = w := by
  obtain ⟨hlow, hk⟩ := Lib.lowest_bit 32 x hx0 hx
  obtain ⟨hi, htab⟩ := Lib.deBruijn32_at _ hk
  have hcell := hT _ hi
  rw [htab] at hcell
  exact tz_core x _ _ w (by simp; omega) (tz_key x _ hx hx0 hlow) hi hk hcell
theorem ctz_bit (x : Nat) (h0 : x ≠ 0) (hx : x < 2 ^ 22) : x.testBit (Lib.ctz 32 x) = true ∧ (∀ i, i < Lib.ctz 32 x → x.testBit i = false) ∧ Lib.ctz 32 x < 22 := by
  obtain ⟨m, hm, hk⟩ := Lib.ctzFrom_spec 32 x (by omega) (Nat.lt_of_lt_of_le hx (by decide))
  have e : Lib.ctz 32 x = Lib.ctzFrom 32 x := by simp [Lib.ctz, h0]
  rw [e]
  generalize Lib.ctzFrom 32 x = k at hm hk
  have hb : ∀ i, x.testBit i = (decide (k ≤ i) && (2 * m + 1).testBit (i - k)) := fun i => by rw [hm, Nat.mul_comm, Nat.testBit_mul_two_pow]
  have h1 : x.testBit k = true := by
    rw [hb k, Nat.sub_self, Nat.testBit_zero]; simp
  refine ⟨h1, fun i hi => by rw [hb i, decide_eq_false (by omega)]; rfl, ?_⟩
  rcases Nat.lt_or_ge k 22 with h | h
  · exact h
  · have := Nat.testBit_lt_two_pow (Nat.lt_of_lt_of_le hx (Nat.pow_le_pow_right (n := 2) (by omega) h))
    rw [this] at h1; cases h1
theorem grown_drewN {a w : World} {g : Nat} (h : a.grownBy w (some g)) (n : Nat) : a.grownBy (w.drewN n) (some g) := ⟨h.os, h.tape, h.output, h.size, h.block⟩

set_option maxHeartbeats 1000000 in
set_option maxRecDepth 20000 in
theorem take_out (g : Nat) (P Q : Int) (w : World) (h : ¬ (0 ≤ P ∧ P < 22 ∧ 0 ≤ Q ∧ Q < 22)) :
    Calls Tryd.prog 44 #[.pointer (some ⟨g, 0, none⟩), .agg #[.int .i64 P, .int .i64 Q]] w fun e w' => e = .returned (.bool false) ∧ Below w.heap.size w w' := by
  by_cases h1 : P < 0
  · clear h
    go_enter Tryd.func44, Tryd.ntmps44
    go_wp2
    go_ret
    exact ⟨rfl, by (repeat (first | with_reducible exact Below.refl _ _ | with_reducible assumption | ((with_reducible refine Below.alloc ?_ ?_ _); rotate_left; focus (first | with_reducible exact Nat.le_refl _ | omega | (simp; done) | (simp; omega))) | ((with_reducible refine Below.setCell ?_ ?_ _); rotate_left; focus (first | with_reducible exact Nat.le_refl _ | omega | (simp; done) | (simp; omega))) | (with_reducible refine Below.drew ?_) | ((with_reducible refine Below.trans ?_ (Below.mono (by with_reducible assumption) ?_)); rotate_left; focus (first | with_reducible exact Nat.le_refl _ | omega | (simp; done) | (simp; omega)))))⟩
  by_cases h2 : 22 ≤ P
  · clear h
    go_enter Tryd.func44, Tryd.ntmps44
    go_wp2
    go_ret
    exact ⟨rfl, by (repeat (first | with_reducible exact Below.refl _ _ | with_reducible assumption | ((with_reducible refine Below.alloc ?_ ?_ _); rotate_left; focus (first | with_reducible exact Nat.le_refl _ | omega | (simp; done) | (simp; omega))) | ((with_reducible refine Below.setCell ?_ ?_ _); rotate_left; focus (first | with_reducible exact Nat.le_refl _ | omega | (simp; done) | (simp; omega))) | (with_reducible refine Below.drew ?_) | ((with_reducible refine Below.trans ?_ (Below.mono (by with_reducible assumption) ?_)); rotate_left; focus (first | with_reducible exact Nat.le_refl _ | omega | (simp; done) | (simp; omega)))))⟩
  by_cases h3 : Q < 0
  · clear h
    go_enter Tryd.func44, Tryd.ntmps44
    go_wp2
    go_ret
    exact ⟨rfl, by (repeat (first | with_reducible exact Below.refl _ _ | with_reducible assumption | ((with_reducible refine Below.alloc ?_ ?_ _); rotate_left; focus (first | with_reducible exact Nat.le_refl _ | omega | (simp; done) | (simp; omega))) | ((with_reducible refine Below.setCell ?_ ?_ _); rotate_left; focus (first | with_reducible exact Nat.le_refl _ | omega | (simp; done) | (simp; omega))) | (with_reducible refine Below.drew ?_) | ((with_reducible refine Below.trans ?_ (Below.mono (by with_reducible assumption) ?_)); rotate_left; focus (first | with_reducible exact Nat.le_refl _ | omega | (simp; done) | (simp; omega)))))⟩
  have h4 : 22 ≤ Q := by omega
  clear h
  go_enter Tryd.func44, Tryd.ntmps44
  go_wp2
  go_ret
  exact ⟨rfl, by (repeat (first | with_reducible exact Below.refl _ _ | with_reducible assumption | ((with_reducible refine Below.alloc ?_ ?_ _); rotate_left; focus (first | with_reducible exact Nat.le_refl _ | omega | (simp; done) | (simp; omega))) | ((with_reducible refine Below.setCell ?_ ?_ _); rotate_left; focus (first | with_reducible exact Nat.le_refl _ | omega | (simp; done) | (simp; omega))) | (with_reducible refine Below.drew ?_) | ((with_reducible refine Below.trans ?_ (Below.mono (by with_reducible assumption) ?_)); rotate_left; focus (first | with_reducible exact Nat.le_refl _ | omega | (simp; done) | (simp; omega)))))⟩
/-- The cell x of row y is taken out. -/
def clrM (m : Nat → Nat) (x y : Nat) : Nat → Nat := fun j => if j = y then m y &&& (4294967295 - 2 ^ x) else m j
theorem bit_row (M x : Nat) (hM : M < 2 ^ 22) : (bits .and .u32 ((M : Nat) / 2 ^ x) 1 == 1) = M.testBit x := by
  have : bits .and .u32 (((M / 2 ^ x : Nat)) : Int) 1 = ((M / 2 ^ x &&& 1 : Nat) : Int) := u32_and_nat (M / 2 ^ x) 1 (Nat.lt_of_le_of_lt (Nat.div_le_self _ _) (by omega)) (by omega)
  have e : (((M / 2 ^ x : Nat)) : Int) = ((M : Nat) : Int) / 2 ^ x := by simp
  rw [e] at this
  rw [this, Nat.and_one_is_mod, Nat.testBit_eq_decide_div_mod_eq]
  generalize M / 2 ^ x = X
  by_cases h : X % 2 = 1
  · rw [h]; rfl
  · have : X % 2 = 0 := by omega
    rw [this]; rfl
set_option maxHeartbeats 1000000 in
set_option maxRecDepth 20000 in
theorem take_in (g x y : Nat) (m : Nat → Nat) (w : World) (hx : x < 22) (hy : y < 22) (hm : m y < 2 ^ 22) (hF : Fm w g m) :
    Calls Tryd.prog 44 #[.pointer (some ⟨g, 0, none⟩), .agg #[.int .i64 (x : Nat), .int .i64 (y : Nat)]] w fun e w' => e = .returned (.bool ((m y).testBit x)) ∧ Fm w' g (clrM m x y) ∧ w.grownBy w' (some g) := by
  have hgl := hF.lt
  have HF := Lib.hid hF
  have h1 : (x : Int) < 22 := by omega
  have h2 : (y : Int) < 22 := by omega
  have h3 : ¬ (22 : Int) ≤ (x : Int) := by omega
  have h4 : ¬ (22 : Int) ≤ (y : Int) := by omega
  have HX := Lib.hid (hF.below (w' := (w.alloc (.cells #[.int .i64 (x : Nat), .int .i64 (y : Nat)] 70))) ((Below.refl _ _).alloc (Nat.le_refl _) _))
  have HG := Lib.hid (grown_below (World.grownBy.refl w (some g)) (w' := (w.alloc (.cells #[.int .i64 (x : Nat), .int .i64 (y : Nat)] 70))) ((Below.refl _ _).alloc (Nat.le_refl _) _))
  have a0 := fun b (hb : b = w.heap.size) => (show (w.alloc (.cells #[.int .i64 (x : Nat), .int .i64 (y : Nat)] 70)).cell? ⟨b, 0, none⟩ = some (.int .i64 (x : Nat)) by subst hb; go_simp)
  have a1 := fun b (hb : b = w.heap.size) => (show (w.alloc (.cells #[.int .i64 (x : Nat), .int .i64 (y : Nat)] 70)).cell? ⟨b, 1, none⟩ = some (.int .i64 (y : Nat)) by subst hb; go_simp)
  have c0 := HX.out.c y hy
  have f0 := HX.out.fz y
  have hb := bit_row (m y) x hm
  obtain ⟨B, hB⟩ : ∃ B : Nat, 2 ^ x = B := ⟨_, rfl⟩
  have hBl : B < 4194304 := by rw [← hB]; exact Nat.pow_lt_pow_right (by omega) hx
  have e1 : (2 : Int) ^ x % 4294967296 = (B : Int) := by
    have : ((2 ^ x : Nat) : Int) = (2 : Int) ^ x := by simp
    rw [← this, hB]; omega
  have e2 : bits .andNot .u32 ((m y : Nat) : Int) (B : Int) = ((m y &&& (4294967295 - B) : Nat) : Int) := u32_andNot_nat _ _ (by omega) (by omega)
  have HB := Lib.hid hB
  clear hF hB
  go_enter Tryd.func44, Tryd.ntmps44
  go_wp2_with fail
  go_quiet (fail)
  go_wp2_with fail
  refine name_world (fun w2 hW => ?_)
  have k0 : ∀ ad, w2.cell? ad = (w.alloc (.cells #[.int .i64 (x : Nat), .int .i64 (y : Nat)] 70)).cell? ad := fun ad => by rw [← hW]; rfl
  have k1 : ∀ ad, w2.frozen? ad = (w.alloc (.cells #[.int .i64 (x : Nat), .int .i64 (y : Nat)] 70)).frozen? ad := fun ad => by rw [← hW]; rfl
  have c2 := (k0 ⟨g, y, none⟩).trans c0
  have f2 := (k1 ⟨g, y, none⟩).trans f0
  have p2 := (k0 ⟨w.heap.size, 0, none⟩).trans (a0 w.heap.size rfl)
  have p3 := (k0 ⟨w.heap.size, 1, none⟩).trans (a1 w.heap.size rfl)
  have HW := Lib.hid hW
  clear k0 k1 c0 f0 a0 a1 hW
  go_still_tail 12, (by kernel_rfl)
  change wpList _ _ _ _ _ w2.drew
  go_wp2
  go_ret
  have hs := HX.out.set (k := y) (m' := clrM m x y) hy (fun j _ hne => by unfold clrM; rw [if_neg hne])
  have hv : clrM m x y y = m y &&& (4294967295 - B) := by unfold clrM; rw [if_pos rfl, HB.out]
  rw [hv] at hs
  rw [← HW.out, e1, e2]
  exact ⟨rfl, hs, grown_drew (grown_drewN (grown_setCell (o := y) HG.out _) nq)⟩
/-- Which cells of the colour c are still there. -/
def avB (G : Nat → Bool) (c : Bool) (s : Nat → Bool) (a : Nat) : Bool := (G a == c) && !s a
structure RB (w : World) (g : Nat) (G : Nat → Bool) (c : Bool) (s : Nat → Bool) : Prop where
  ex : ∃ m, Fm w g m ∧ (∀ y, y < 22 → m y < 2 ^ 22) ∧ ∀ y x, y < 22 → x < 22 → (m y).testBit x = avB G c s (22 * y + x)
theorem RB.lt {w : World} {g : Nat} {G s : Nat → Bool} {c : Bool} (h : RB w g G c s) : g < w.heap.size := by
  obtain ⟨m, h, _⟩ := h.ex; exact h.lt
theorem RB.below {w w' : World} {g : Nat} {G s : Nat → Bool} {c : Bool} (h : RB w g G c s) (hb : Below w.heap.size w w') : RB w' g G c s := by
  obtain ⟨m, h, r⟩ := h.ex; exact ⟨m, h.below hb, r⟩
theorem RB.under {w w' : World} {g B : Nat} {G s : Nat → Bool} {c : Bool} (h : RB w g G c s) (hb : Below B w w') (hg : g < B) : RB w' g G c s := by
  obtain ⟨m, h, r⟩ := h.ex; exact ⟨m, h.under hb hg, r⟩
theorem RB.congr {w : World} {g : Nat} {G s s' : Nat → Bool} {c : Bool} (h : RB w g G c s) (e : ∀ a, a < 484 → avB G c s a = avB G c s' a) : RB w g G c s' := by
  obtain ⟨m, h, r, b⟩ := h.ex; exact ⟨m, h, r, fun y x hy hx => by rw [b y x hy hx]; exact e _ (by omega)⟩
/-- How many cells are there, as the world has them. -/
def rowAt32 (w : World) (g y : Nat) : Nat := match w.cell? ⟨g, y, none⟩ with | some (.int _ n) => n.toNat | _ => 0
def goneAt (w : World) (g a : Nat) : Bool := !(rowAt32 w g (a / 22)).testBit (a % 22)
theorem RB.gone {w : World} {g : Nat} {G s : Nat → Bool} {c : Bool} (h : RB w g G c s) : restB 484 (goneAt w g) = restB 484 (fun a => !avB G c s a) := by
  obtain ⟨m, h, r, b⟩ := h.ex
  refine restB_congr fun a ha => ?_
  unfold goneAt rowAt32
  rw [h.c (a / 22) (by omega)]
  show (!((m (a / 22) : Int).toNat).testBit (a % 22)) = _
  rw [Int.toNat_natCast, b (a / 22) (a % 22) (by omega) (by omega), show 22 * (a / 22) + a % 22 = a by omega]
theorem av_put (G : Nat → Bool) (c : Bool) (s : Nat → Bool) (j : Nat) : (fun a => !avB G c (putB s j) a) = putB (fun a => !avB G c s a) j := by
  funext a
  unfold avB putB
  by_cases h : a = j
  · simp [h]
  · simp [h]
def inZ (P Q : Int) : Bool := decide (0 ≤ P ∧ P < 22 ∧ 0 ≤ Q ∧ Q < 22)
def tkB (G : Nat → Bool) (c : Bool) (s : Nat → Bool) (P Q : Int) : Bool := inZ P Q && avB G c s (22 * Q.toNat + P.toNat)
def tkS (G : Nat → Bool) (c : Bool) (s : Nat → Bool) (P Q : Int) : Nat → Bool := if tkB G c s P Q then putB s (22 * Q.toNat + P.toNat) else s
theorem clr_bit (M x i : Nat) (hx : x < 22) (hi : i < 22) : (M &&& (4294967295 - 2 ^ x)).testBit i = (M.testBit i && !decide (i = x)) := by
  have h1 : 2 ^ x < 2 ^ 32 := Nat.pow_lt_pow_right (by omega) (by omega)
  have h2 : 4294967295 - 2 ^ x = 2 ^ 32 - (2 ^ x + 1) := by omega
  rw [Nat.testBit_and, h2, Nat.testBit_two_pow_sub_succ h1, Nat.testBit_two_pow, decide_eq_true (p := i < 32) (by omega), Bool.true_and]
  congr 2
  rw [Bool.eq_iff_iff, decide_eq_true_iff, decide_eq_true_iff]
  exact ⟨fun h => h.symm, fun h => h.symm⟩
theorem take_rb (g : Nat) (P Q : Int) (G s : Nat → Bool) (c : Bool) (w : World) (h : RB w g G c s) :
    Calls Tryd.prog 44 #[.pointer (some ⟨g, 0, none⟩), .agg #[.int .i64 P, .int .i64 Q]] w fun e w' => e = .returned (.bool (tkB G c s P Q)) ∧ RB w' g G c (tkS G c s P Q) ∧ w.grownBy w' (some g) := by
  by_cases hz : 0 ≤ P ∧ P < 22 ∧ 0 ≤ Q ∧ Q < 22
  · obtain ⟨x, rfl⟩ := Int.eq_ofNat_of_zero_le hz.1
    obtain ⟨y, rfl⟩ := Int.eq_ofNat_of_zero_le hz.2.2.1
    have hx : x < 22 := by omega
    have hy : y < 22 := by omega
    obtain ⟨m, hF, hr, hb⟩ := h.ex
    refine (take_in g x y m w hx hy (hr y hy) hF).mono ?_
    rintro e w' ⟨rfl, hf, hg⟩
    have e1 : tkB G c s (x : Nat) (y : Nat) = (m y).testBit x := by
      unfold tkB inZ
      rw [decide_eq_true hz, Bool.true_and, Int.toNat_natCast, Int.toNat_natCast, hb y x hy hx]
    refine ⟨by rw [e1], ⟨clrM m x y, hf, fun j hj => ?_, fun j i hj hi => ?_⟩, hg⟩
    · unfold clrM
      split
      · exact Nat.lt_of_le_of_lt Nat.and_le_left (hr y hy)
      · exact hr j hj
    · have key : avB G c (tkS G c s (x : Nat) (y : Nat)) (22 * j + i) = (avB G c s (22 * j + i) && !decide (j = y ∧ i = x)) := by
        unfold tkS
        by_cases ht : tkB G c s (x : Nat) (y : Nat) = true
        · rw [if_pos ht, Int.toNat_natCast, Int.toNat_natCast]
          unfold avB putB
          by_cases hji : j = y ∧ i = x
          · obtain ⟨rfl, rfl⟩ := hji; simp
          · rw [if_neg (by omega), decide_eq_false hji]; simp
        · rw [if_neg ht]
          by_cases hji : j = y ∧ i = x
          · obtain ⟨rfl, rfl⟩ := hji
            rw [e1, hb j i hj hi] at ht
            rw [Bool.not_eq_true] at ht
            rw [ht]; rfl
          · rw [decide_eq_false hji]; simp
      rw [key, ← hb j i hj hi]
      unfold clrM
      by_cases hjy : j = y
      · subst hjy
        rw [if_pos rfl, clr_bit _ _ _ hx hi]
        congr 2
        simp
      · rw [if_neg hjy, decide_eq_false (by omega)]; simp
  · refine (take_out g P Q w hz).mono ?_
    rintro e w' ⟨rfl, hb⟩
    have e1 : tkB G c s P Q = false := by unfold tkB inZ; rw [decide_eq_false hz]; rfl
    refine ⟨by rw [e1], ?_, grown_below (World.grownBy.refl w _) hb⟩
    unfold tkS; rw [e1]
    exact h.below hb
end Go.Proofs.YtkfeeijiockdhaaDoor
namespace Go.Proofs.YtkfeeijiockdhaaDoor
open Go.RowKit Go.Sort
set_option linter.unusedVariables false
set_option linter.unusedSimpArgs false
theorem infoP : (Tryd.prog.info? 70).map (fun i => (i.zero, i.size, i.bytes)) = some (some (.agg #[.int .i64 0, .int .i64 0]), 2, 16) := by kernel_rfl
/-- The cells of places. -/
def placeL : List Nat → List Value
  | [] => []
  | a :: r => .int .i64 (a % 22 : Nat) :: .int .i64 (a / 22 : Nat) :: placeL r
theorem placeL_len (st : List Nat) : (placeL st).length = st.length * 2 := by
  induction st with
  | nil => rfl
  | cons a r ih => simp only [placeL, List.length_cons, ih]; omega
theorem placeL_snoc (st : List Nat) (k : Nat) : placeL (st ++ [k]) = placeL st ++ [.int .i64 (k % 22 : Nat), .int .i64 (k / 22 : Nat)] := by
  induction st with
  | nil => rfl
  | cons a r ih => simp only [List.cons_append, placeL, ih]
/-- A stack of places of the call's own. -/
def StP (w : World) (base h cap : Nat) (st : List Nat) : Prop := w.ownsRow base 70 2 (.slice (some ⟨h, 0, none⟩) st.length cap) st.length (placeL st)
theorem StP.drewN {w : World} {base h cap : Nat} {st : List Nat} (H : StP w base h cap st) (n : Nat) : StP (w.drewN n) base h cap st := H
theorem StP.blk {w : World} {base h cap : Nat} {st : List Nat} (H : StP w base h cap st) : base ≤ h ∧ h < w.heap.size := World.ownsRow.lt H h rfl
theorem StP.same {w w' : World} {base h cap : Nat} {st : List Nat} (H : StP w base h cap st) (e : w'.heap[h]? = w.heap[h]?) : StP w' base h cap st := by
  refine ⟨H.1, ?_⟩
  rcases H.2 with h0 | ⟨g', cap', cur, hv, hg, hh, rest⟩
  · exact Or.inl h0
  · cases hv
    exact Or.inr ⟨h, cap, cur, rfl, hg, e.trans hh, rest⟩
theorem StP.below {w w' : World} {base h cap : Nat} {st : List Nat} (H : StP w base h cap st) (hb : Below w.heap.size w w') : StP w' base h cap st := H.same (hb.block h H.blk.2)
theorem StP.grown {w w' : World} {base h cap g : Nat} {st : List Nat} (H : StP w base h cap st) (hg : w.grownBy w' (some g)) (hn : g < base) : StP w' base h cap st :=
  H.same (hg.block h H.blk.2 (by intro e; injection e with e; have := H.blk.1; omega))
theorem StP.one (w : World) (base b : Nat) (hb : w.heap.size = b) (hh : base ≤ b) (k : Nat) : StP (w.alloc (.cells #[.int .i64 (k % 22 : Nat), .int .i64 (k / 22 : Nat)] 70)) base b 1 [k] := by
  subst hb; exact World.ownsRow_lit w #[.int .i64 (k % 22 : Nat), .int .i64 (k / 22 : Nat)] 1 hh (by unfold maxLen; omega) rfl
theorem StP.top {w : World} {base h cap k : Nat} {st : List Nat} (H : StP w base h cap (st ++ [k])) : w.cell? ⟨h, st.length * 2, none⟩ = some (.int .i64 (k % 22 : Nat)) ∧ w.cell? ⟨h, st.length * 2 + 1, none⟩ = some (.int .i64 (k / 22 : Nat)) := by
  have h0 := World.ownsRow.cellAt H (st.length * 2) (by simp <;> omega)
  have h1 := World.ownsRow.cellAt H (st.length * 2 + 1) (by simp <;> omega)
  refine ⟨?_, ?_⟩
  · rw [h0, placeL_snoc, List.getElem?_append_right (by rw [placeL_len]; exact Nat.le_refl _), placeL_len, Nat.sub_self]; rfl
  · rw [h1, placeL_snoc, List.getElem?_append_right (by rw [placeL_len]; omega), placeL_len, Nat.add_sub_cancel_left]; rfl
theorem StP.pop {w : World} {base h cap k : Nat} {st : List Nat} (H : StP w base h cap (st ++ [k])) : StP w base h cap st := by
  unfold StP at H
  rw [List.length_append, List.length_singleton, placeL_snoc] at H
  exact ownsRow_pop (by rw [placeL_len]) H
theorem StP.capLe {w : World} {base h cap : Nat} {st : List Nat} (H : StP w base h cap st) : st.length ≤ cap := by
  rcases H.2 with ⟨h0, _⟩ | ⟨g', cap', cur, hv, hg, hh, hn, hcap, hsz, htake⟩
  · cases h0
  · cases hv; exact hn
theorem list_place1 (w : World) {ops : Array Oper} {rest : List Oper} {o : Oper} {a : Act} {Q : Exit → Act → World → Prop} (hgd : o.guard = none) (s x : Operand) (ho : o.op = .call { callee := .builtin .append, args := #[s, x], argTypes := #[51, 51] })
    (base h cap : Nat) (st : List Nat) (hs : a.eval s = .slice (some ⟨h, 0, none⟩) st.length cap) (hown : StP w base h cap st) (b j : Nat) (hx : a.eval x = .slice (some ⟨b, 0, none⟩) 1 1)
    (hc0 : w.cell? ⟨b, 0, none⟩ = some (.int .i64 (j % 22 : Nat))) (hc1 : w.cell? ⟨b, 1, none⟩ = some (.int .i64 (j / 22 : Nat))) (hsz : st.length ≤ 1000000) (hbase : base ≤ w.heap.size)
    (hh : ∀ h' cap' w', StP w' base h' cap' (st ++ [j]) → Below base w w' → w.grownBy w' (some h) → (h' = h ∨ h' = w.heap.size) → wpList Tryd.prog ops Q rest (a.put o.dst (.slice (some ⟨h', 0, none⟩) (st.length + 1) cap')) w') : wpList Tryd.prog ops Q (o :: rest) a w := by
  obtain ⟨i0, hi, hz, hsi, hby⟩ := info_parts infoP
  refine wpList_append_own_at w hgd s x 51 ho base 70 i0 (.agg #[.int .i64 0, .int .i64 0]) 2 16 Tryd.underlying51 hi hz hsi hby rfl (by omega) _ st.length (placeL st) hs hown ⟨b, 0, none⟩ 1 1 [.int .i64 (j % 22 : Nat), .int .i64 (j / 22 : Nat)] hx rfl (fun i u hu => ?_) (fun u hu => by simp at hu; rcases hu with rfl | rfl <;> rfl) (by unfold maxLen; omega) (by omega) hbase (fun v' w' h2 h3 h4 h5 => ?_)
  · rw [Go.WideShapes.add_plain]
    cases i with
    | zero => simp at hu; subst hu; exact hc0
    | succ i =>
      cases i with
      | zero => simp at hu; subst hu; exact hc1
      | succ i => simp at hu
  · obtain ⟨g, c, hv, _, _⟩ := World.ownsRow.form h2 (by omega)
    subst hv
    refine hh g c w' ?_ (own_below hown h3 hbase) h3 ?_
    · unfold StP
      rw [List.length_append, List.length_singleton, placeL_snoc]
      exact h2
    · rcases h5 with h5 | h5
      · exact Or.inl (by simpa [Value.ownBlock] using h5)
      · exact Or.inr (by simpa [Value.ownBlock] using h5)
-- the steps
def dX (i : Nat) : Int := [1, -1, 0, 0, 1, 1, -1, -1].getD i 0
def dY (i : Nat) : Int := [0, 0, 1, -1, 1, -1, 1, -1].getD i 0
def stN (e8 : Bool) : Nat := if e8 then 8 else 4
theorem stN_le (e8 : Bool) : 0 < stN e8 ∧ stN e8 ≤ 8 := by cases e8 <;> decide
theorem dXY_bd (i : Nat) (hi : i < 8) : (-1 ≤ dX i ∧ dX i ≤ 1) ∧ (-1 ≤ dY i ∧ dY i ≤ 1) ∧ ¬ (dX i = 0 ∧ dY i = 0) ∧ (i < 4 → dX i = 0 ∨ dY i = 0) := by
  have key : ∀ i : Fin 8, (-1 ≤ dX i.val ∧ dX i.val ≤ 1) ∧ (-1 ≤ dY i.val ∧ dY i.val ≤ 1) ∧ ¬ (dX i.val = 0 ∧ dY i.val = 0) ∧ (i.val < 4 → dX i.val = 0 ∨ dY i.val = 0) := by decide
  exact key ⟨i, hi⟩
/-- b is where the step t leads from k. -/
def StepTo (k t b : Nat) : Prop := ((b % 22 : Nat) : Int) = ((k % 22 : Nat) : Int) + dX t ∧ ((b / 22 : Nat) : Int) = ((k / 22 : Nat) : Int) + dY t
theorem near_step {e8 c : Bool} {G : Nat → Bool} {k b : Nat} (h : EdE e8 c G k b) : ∃ t, t < stN e8 ∧ StepTo k t b := by
  have mk : ∀ t (x y : Int), dX t = x → dY t = y → ((b % 22 : Nat) : Int) = ((k % 22 : Nat) : Int) + x → ((b / 22 : Nat) : Int) = ((k / 22 : Nat) : Int) + y → StepTo k t b := fun t x y h1 h2 h3 h4 => ⟨by rw [h1]; exact h3, by rw [h2]; exact h4⟩
  have side : Side k b → ∃ t, t < 4 ∧ StepTo k t b := fun h => by
    unfold Side at h
    obtain ⟨h1, h2, h | h | h | h⟩ := h
    · exact ⟨0, by omega, mk 0 1 0 rfl rfl (by omega) (by omega)⟩
    · exact ⟨1, by omega, mk 1 (-1) 0 rfl rfl (by omega) (by omega)⟩
    · exact ⟨2, by omega, mk 2 0 1 rfl rfl (by omega) (by omega)⟩
    · exact ⟨3, by omega, mk 3 0 (-1) rfl rfl (by omega) (by omega)⟩
  obtain ⟨h, _⟩ := h
  cases e8
  · exact side h
  · rcases h with h | ⟨h1, h2, h | h | h | h⟩
    · obtain ⟨t, ht, hs⟩ := side h; exact ⟨t, Nat.lt_of_lt_of_le ht (by decide), hs⟩
    · exact ⟨4, by decide, mk 4 1 1 rfl rfl (by omega) (by omega)⟩
    · exact ⟨7, by decide, mk 7 (-1) (-1) rfl rfl (by omega) (by omega)⟩
    · exact ⟨6, by decide, mk 6 (-1) 1 rfl rfl (by omega) (by omega)⟩
    · exact ⟨5, by decide, mk 5 1 (-1) rfl rfl (by omega) (by omega)⟩
theorem step_edge {e8 c : Bool} {G : Nat → Bool} {k j t : Nat} (hk : k < 484) (hj : j < 484) (ht : t < stN e8) (hs : StepTo k t j) (hgk : G k = c) (hgj : G j = c) : EdE e8 c G k j := by
  obtain ⟨bx, by_, b0, b4⟩ := dXY_bd t (by have := (stN_le e8).2; omega)
  obtain ⟨e1, e2⟩ := hs
  have hne : j ≠ k := fun e => by subst e; exact b0 ⟨by omega, by omega⟩
  refine ⟨?_, hgk, hgj⟩
  cases e8
  · simpa using place_side hk hj bx by_ e2 e1 hne (b4 ht)
  · simpa using place_side8 hk hj bx by_ e2 e1 hne
/-- The steps of k from i on are still to look at. -/
def RmS (n k i a b : Nat) : Prop := a = k ∧ ∃ t, i ≤ t ∧ t < n ∧ StepTo k t b
/-- Where the step leads, if it stays in the grid. -/
theorem step_in {k t : Nat} (hk : k < 484) (hz : inZ (((k % 22 : Nat) : Int) + dX t) (((k / 22 : Nat) : Int) + dY t) = true) :
    ∃ j, 22 * (((k / 22 : Nat) : Int) + dY t).toNat + (((k % 22 : Nat) : Int) + dX t).toNat = j ∧ j < 484 ∧ StepTo k t j := by
  unfold inZ at hz
  rw [decide_eq_true_iff] at hz
  obtain ⟨x, hx⟩ := Int.eq_ofNat_of_zero_le hz.1
  obtain ⟨y, hy⟩ := Int.eq_ofNat_of_zero_le hz.2.2.1
  refine ⟨22 * y + x, by rw [hx, hy]; simp, by omega, ?_, ?_⟩
  · rw [hx]; omega
  · rw [hy]; omega
theorem step_same {k t b : Nat} (hb : b < 484) (h : StepTo k t b) : inZ (((k % 22 : Nat) : Int) + dX t) (((k / 22 : Nat) : Int) + dY t) = true ∧ 22 * (((k / 22 : Nat) : Int) + dY t).toNat + (((k % 22 : Nat) : Int) + dX t).toNat = b := by
  obtain ⟨e1, e2⟩ := h
  unfold inZ
  rw [← e1, ← e2, decide_eq_true_iff]
  refine ⟨by omega, ?_⟩
  rw [Int.toNat_natCast, Int.toNat_natCast]; omega
/-- The steps lie in memory. -/
def Ps (w : World) (sb n : Nat) : Prop := sb < w.heap.size ∧ ∀ i, i < n → w.cell? ⟨sb, i * 2, none⟩ = some (.int .i64 (dX i)) ∧ w.cell? ⟨sb, i * 2 + 1, none⟩ = some (.int .i64 (dY i))
theorem Ps.below {w w' : World} {sb n : Nat} (h : Ps w sb n) (hb : Below w.heap.size w w') : Ps w' sb n :=
  ⟨Nat.lt_of_lt_of_le h.1 hb.size, fun i hi => ⟨(hb.cell (p := ⟨sb, i * 2, none⟩) h.1).trans (h.2 i hi).1, (hb.cell (p := ⟨sb, i * 2 + 1, none⟩) h.1).trans (h.2 i hi).2⟩⟩
theorem Ps.under {w w' : World} {sb n B : Nat} (h : Ps w sb n) (hb : Below B w w') (hB : sb < B) : Ps w' sb n :=
  ⟨Nat.lt_of_lt_of_le h.1 hb.size, fun i hi => ⟨(World.cell?_of_block (w := w) (hb.block sb hB)).trans (h.2 i hi).1, (World.cell?_of_block (w := w) (hb.block sb hB)).trans (h.2 i hi).2⟩⟩
theorem Ps.grown {w w' : World} {sb n g : Nat} (h : Ps w sb n) (hg : w.grownBy w' (some g)) (hn : sb ≠ g) : Ps w' sb n :=
  ⟨Nat.lt_of_lt_of_le h.1 hg.size, fun i hi => ⟨(grown_cell hg h.1 hn).trans (h.2 i hi).1, (grown_cell hg h.1 hn).trans (h.2 i hi).2⟩⟩
/-- A place in a block of its own. -/
def Pl (w : World) (b : Nat) (x y : Int) : Prop := b < w.heap.size ∧ w.cell? ⟨b, 0, none⟩ = some (.int .i64 x) ∧ w.cell? ⟨b, 1, none⟩ = some (.int .i64 y)
theorem Pl.below {w w' : World} {b : Nat} {x y : Int} (h : Pl w b x y) (hb : Below w.heap.size w w') : Pl w' b x y :=
  ⟨Nat.lt_of_lt_of_le h.1 hb.size, (hb.cell (p := ⟨b, 0, none⟩) h.1).trans h.2.1, (hb.cell (p := ⟨b, 1, none⟩) h.1).trans h.2.2⟩
theorem Pl.under {w w' : World} {b B : Nat} {x y : Int} (h : Pl w b x y) (hb : Below B w w') (hB : b < B) : Pl w' b x y :=
  ⟨Nat.lt_of_lt_of_le h.1 hb.size, (World.cell?_of_block (w := w) (hb.block b hB)).trans h.2.1, (World.cell?_of_block (w := w) (hb.block b hB)).trans h.2.2⟩
theorem Pl.grown {w w' : World} {b g : Nat} {x y : Int} (h : Pl w b x y) (hg : w.grownBy w' (some g)) (hn : b ≠ g) : Pl w' b x y :=
  ⟨Nat.lt_of_lt_of_le h.1 hg.size, (grown_cell hg h.1 hn).trans h.2.1, (grown_cell hg h.1 hn).trans h.2.2⟩
theorem Pl.new (w : World) (x y : Int) {b : Nat} (hb : w.heap.size = b) : Pl (w.alloc (.cells #[.int .i64 x, .int .i64 y] 70)) b x y := by
  subst hb
  exact ⟨by simp, cell_of_row _ _ _ _ _ _ (heap_alloc_new w _), cell_of_row _ _ _ _ _ _ (heap_alloc_new w _)⟩
structure FillQ (w wr : World) (g sb : Nat) (e8 c : Bool) (G S : Nat → Bool) (o : Nat) (Rem : Nat → Nat → Prop) (h cap : Nat) (st : List Nat) (s : Nat → Bool) (m : Nat) : Prop where
  own : StP wr w.heap.size h cap st
  rb : RB wr g G c s
  ps : Ps wr sb (stN e8)
  gr : w.grownBy wr (some g)
  fl : Flood (EdE e8 c G) S o s (· ∈ st) Rem
  ms : st.length + 2 * restB 484 (fun a => !avB G c s a) ≤ m
  inn : ∀ a ∈ st, a < 484
section
variable {w wr wn : World} {g sb h cap o k : Nat} {e8 c : Bool} {G S s : Nat → Bool} {st : List Nat} {m : Nat}
theorem FillQ.below {Rem : Nat → Nat → Prop} (H : FillQ w wr g sb e8 c G S o Rem h cap st s m) (hb : Below wr.heap.size wr wn) : FillQ w wn g sb e8 c G S o Rem h cap st s m :=
  ⟨H.own.below hb, H.rb.below hb, H.ps.below hb, grown_below H.gr hb, H.fl, H.ms, H.inn⟩
/-- nothing was taken at the step -/
theorem FillQ.pass {t : Nat} (H : FillQ w wr g sb e8 c G S o (RmS (stN e8) k t) h cap st s m) (hf : tkB G c s (((k % 22 : Nat) : Int) + dX t) (((k / 22 : Nat) : Int) + dY t) = false)
    (hg : wr.grownBy wn (some g)) (hr : RB wn g G c s) (hgb : g < w.heap.size) (hn : sb ≠ g) : FillQ w wn g sb e8 c G S o (RmS (stN e8) k (t + 1)) h cap st s m := by
  refine ⟨H.own.grown hg hgb, hr, H.ps.grown hg hn, H.gr.trans hg, H.fl.skip fun a b _ he hrm => ?_, H.ms, H.inn⟩
  obtain ⟨rfl, t', h1, h2, h3⟩ := hrm
  by_cases e : t' = t
  · subst e
    obtain ⟨z1, z2⟩ := step_same he.lt.2 h3
    unfold tkB avB at hf
    rw [z1, z2, he.2.2, Bool.true_and, beq_self_eq_true, Bool.true_and] at hf
    exact Or.inr (by simpa using hf)
  · exact Or.inl ⟨rfl, t', by omega, h2, h3⟩
/-- the cell that the step leads to is taken, and comes onto the stack -/
theorem FillQ.push {t j h' cap' : Nat} {w6 : World} (H : FillQ w wr g sb e8 c G S o (RmS (stN e8) k t) h cap st s m) (hk : k < 484) (hgk : G k = c) (hrk : Rch (EdE e8 c G) o k) (ht : t < stN e8)
    (hj : j < 484) (hs : StepTo k t j) (hav : avB G c s j = true) (hg : wr.grownBy wn (some g)) (hr : RB wn g G c (putB s j)) (hgb : g < w.heap.size) (hn : sb ≠ g) (hsb : sb < w.heap.size)
    (hb5 : Below w.heap.size wn w6) (hI : StP w6 w.heap.size h' cap' (st ++ [j])) :
    FillQ w w6 g sb e8 c G S o (RmS (stN e8) k (t + 1)) h' cap' (st ++ [j]) (putB s j) m := by
  unfold avB at hav
  rw [Bool.and_eq_true] at hav
  have hgj : G j = c := by simpa using hav.1
  refine ⟨hI, hr.under hb5 hgb, (H.ps.grown hg hn).under hb5 hsb, grown_under (H.gr.trans hg) hb5, ?_, ?_, fun a ha => ?_⟩
  · refine H.fl.push hrk (step_edge hk hj ht hs hgk hgj) (fun a => by simp) fun a b he hrm => ?_
    obtain ⟨rfl, t', h1, h2, h3⟩ := hrm
    by_cases e : t' = t
    · subst e
      refine Or.inr ?_
      have e1 := h3.1.trans hs.1.symm
      have e2 := h3.2.trans hs.2.symm
      omega
    · exact Or.inl ⟨rfl, t', by omega, h2, h3⟩
  · have h1 := restB_put (n := 484) (s := fun a => !avB G c s a) hj (by unfold avB; simp only [Bool.not_eq_false', Bool.and_eq_true]; exact hav)
    rw [← av_put] at h1
    have h2 := H.ms
    rw [List.length_append, List.length_singleton]; omega
  · rcases List.mem_append.1 ha with ha | ha
    · exact H.inn a ha
    · rw [List.mem_singleton.1 ha]; exact hj
/-- all steps of the cell are done -/
theorem FillQ.fin {t m' : Nat} (H : FillQ w wr g sb e8 c G S o (RmS (stN e8) k t) h cap st s m) (ht : stN e8 ≤ t) (hm : m ≤ m') : FillQ w wr g sb e8 c G S o (fun _ _ => False) h cap st s m' :=
  ⟨H.own, H.rb, H.ps, H.gr, H.fl.skip fun a b _ _ hrm => by obtain ⟨rfl, t', h1, h2, h3⟩ := hrm; omega, Nat.le_trans H.ms hm, H.inn⟩
/-- a cell is taken off the stack -/
theorem FillQ.begin (H : FillQ w wr g sb e8 c G S o (fun _ _ => False) h cap (st ++ [k]) s m) {m' : Nat} (hm : st.length + 2 * restB 484 (fun a => !avB G c s a) ≤ m') : FillQ w wr g sb e8 c G S o (RmS (stN e8) k 0) h cap st s m' :=
  ⟨H.own.pop, H.rb, H.ps, H.gr, (H.fl.pop (k := k) (In' := (· ∈ st)) (fun a ha => by rcases List.mem_append.1 ha with x | x; exact Or.inr x; exact Or.inl (List.mem_singleton.1 x)) (fun a ha => List.mem_append.2 (Or.inl ha))).skip
      (fun a b _ he hr => by
        subst hr
        obtain ⟨t, ht, hs⟩ := near_step he
        exact Or.inl ⟨rfl, t, Nat.zero_le _, ht, hs⟩), hm, fun a ha => H.inn a (List.mem_append.2 (Or.inl ha))⟩
end
end Go.Proofs.YtkfeeijiockdhaaDoor
namespace Go.Proofs.YtkfeeijiockdhaaDoor
open Go.RowKit Go.Sort
set_option linter.unusedVariables false
set_option linter.unusedSimpArgs false
theorem tk_own {G S : Nat → Bool} {c : Bool} {o : Nat} (ho : o < 484) (hG : G o = c) (hS : S o = false) : tkS G c S ((o % 22 : Nat) : Int) ((o / 22 : Nat) : Int) = putB S o := by
  have hz : inZ ((o % 22 : Nat) : Int) ((o / 22 : Nat) : Int) = true := by unfold inZ; rw [decide_eq_true_iff]; omega
  have e : 22 * ((o / 22 : Nat) : Int).toNat + ((o % 22 : Nat) : Int).toNat = o := by rw [Int.toNat_natCast, Int.toNat_natCast]; omega
  unfold tkS tkB avB
  rw [hz, e, hG, hS]; simp
theorem tkS_no {G S : Nat → Bool} {c : Bool} {P Q : Int} (h : tkB G c S P Q = false) : tkS G c S P Q = S := by unfold tkS; rw [h]; rfl
theorem tkS_yes {G S : Nat → Bool} {c : Bool} {P Q : Int} (h : tkB G c S P Q = true) : tkS G c S P Q = putB S (22 * Q.toNat + P.toNat) := by unfold tkS; rw [h]; rfl
set_option maxHeartbeats 8000000 in
set_option maxRecDepth 100000 in
theorem takepiece_any (g sb scap o : Nat) (e8 c : Bool) (G S : Nat → Bool) (w : World) (ho : o < 484) (hG : G o = c) (hR : RB w g G c S) (hP : Ps w sb (stN e8)) (hne : sb ≠ g) (hS0 : S o = false) (hS : ∀ a b, EdE e8 c G a b → S a = true → S b = true) :
    Calls Tryd.prog 35 #[.pointer (some ⟨g, 0, none⟩), .agg #[.int .i64 (o % 22 : Nat), .int .i64 (o / 22 : Nat)], .slice (some ⟨sb, 0, none⟩) (stN e8) scap] w fun e w' => e = .returned (.tuple #[]) ∧ ∃ s, RB w' g G c s ∧ (∀ a, s a = true ↔ S a = true ∨ Rch (EdE e8 c G) o a) ∧ w.grownBy w' (some g) := by
  have hgl := hR.lt
  have hsl := hP.1
  have HS := Lib.hid hS
  have hb0 : Below w.heap.size w (w.alloc (.cells #[.int .i64 (o % 22 : Nat), .int .i64 (o / 22 : Nat)] 70)) := (Below.refl _ _).alloc (Nat.le_refl _) _
  have HR := Lib.hid (hR.below hb0)
  have HPs := Lib.hid (hP.below hb0)
  have HPl := Lib.hid (Pl.new w (o % 22 : Nat) (o / 22 : Nat) rfl)
  have HG0 := Lib.hid (grown_below (World.grownBy.refl w (some g)) hb0)
  have HN : Hid (stN e8 ≤ 8) := Lib.hid (stN_le e8).2
  obtain ⟨N, hN⟩ : ∃ N, stN e8 = N := ⟨_, rfl⟩
  have HNN := Lib.hid hN
  rw [hN]
  clear hR hP hS hb0 hN
  go_enter Tryd.func35, Tryd.ntmps35
  go_wp2_with fail
  refine (take_rb g ((o % 22 : Nat) : Int) ((o / 22 : Nat) : Int) G S c _ HR.out).mono ?_; rintro e w1 ⟨rfl, hr1, hg1⟩
  rw [tk_own ho hG hS0] at hr1
  have HR1 := Lib.hid hr1
  have HG1 := Lib.hid (HG0.out.trans hg1)
  have HP1 := Lib.hid (HPs.out.grown hg1 hne)
  obtain ⟨q0, q1, q2⟩ := HPl.out.grown hg1 (by omega)
  have hz1 : w.heap.size ≤ w1.heap.size := HG1.out.size
  clear hr1 hg1
  go_wp2
  go_loopw [6] (fun t6 wr => ∃ (h cap : Nat) (st : List Nat) (s : Nat → Bool), t6 = .slice (some ⟨h, 0, none⟩) st.length cap ∧ FillQ w wr g sb e8 c G S o (fun _ _ => False) h cap st s 969) (fun t6 wr => lenOf t6 + 2 * restB 484 (goneAt wr g))
  case atStart =>
    have hb : Below w1.heap.size w1 (w1.alloc (.cells #[.int .i64 (o % 22 : Nat), .int .i64 (o / 22 : Nat)] 70)) := (Below.refl _ _).alloc (Nat.le_refl _) _
    refine ⟨w1.heap.size, 1, [o], putB S o, rfl, StP.one _ _ _ rfl hz1 o, HR1.out.below hb, HP1.out.below hb, grown_below HG1.out hb, (Flood.start _ S o).in_congr (fun a => by simp), ?_, ?_⟩
    · have := restB_le 484 (fun a => !avB G c (putB S o) a)
      simp only [List.length_singleton]; omega
    · intro a ha; rw [List.mem_singleton.1 ha]; exact ho
  case round =>
    obtain ⟨h, cap, st, s, rfl, hp⟩ := hrel
    have HP := Lib.hid hp
    clear hp
    rcases List.eq_nil_or_concat st with rfl | ⟨st', k, hst⟩
    · go_wp2
      go_end0
      exact ⟨rfl, s, HP.out.rb, HP.out.fl.ended (fun a => by simp) (fun _ _ => id) (fun _ _ => EdE.symm) HS.out, HP.out.gr⟩
    · rw [List.concat_eq_append] at hst
      subst hst
      have hms := HP.out.ms
      have hk := HP.out.inn k (by simp)
      obtain ⟨htop0, htop1⟩ := HP.out.own.top
      have hcap := HP.out.own.capLe
      have HK := Lib.hid (HP.out.fl.todo k (by simp))
      have HGK : Hid (G k = c) := Lib.hid ((rchE_col HK.out.2).1 hG)
      obtain ⟨M, HM⟩ : ∃ M, Hid (M = st'.length + 2 * restB 484 (fun a => !avB G c s a) ∧ restB 484 (goneAt wr g) = restB 484 (fun a => !avB G c s a)) := ⟨_, Lib.hid ⟨rfl, HP.out.rb.gone⟩⟩
      have HB := Lib.hid (HP.out.begin (Nat.le_of_eq HM.out.1.symm))
      simp only [List.length_append, List.length_singleton] at hms hcap ⊢
      generalize hL : st'.length = L at hms htop0 htop1 hcap ⊢
      have HL := Lib.hid hL
      have hL0 : 0 < (L : Int) + 1 := by omega
      obtain ⟨X, hX⟩ : ∃ X : Int, ((k % 22 : Nat) : Int) = X := ⟨_, rfl⟩
      obtain ⟨Y, hY⟩ : ∃ Y : Int, ((k / 22 : Nat) : Int) = Y := ⟨_, rfl⟩
      rw [hX] at htop0
      rw [hY] at htop1
      have hX1 : 0 ≤ X ∧ X < 22 := by omega
      have hY1 : 0 ≤ Y ∧ Y < 22 := by omega
      have HX := Lib.hid (And.intro hX hY)
      clear hL hX hY
      go_wp2
      obtain ⟨b7, hb7⟩ : ∃ b, wr.heap.size = b := ⟨_, rfl⟩
      have HB7 := Lib.hid hb7
      have hba : Below wr.heap.size wr (wr.alloc (.cells #[.int .i64 X, .int .i64 Y] 70)) := (Below.refl _ _).alloc (Nat.le_refl _) _
      have HBa := Lib.hid (HB.out.below hba)
      have HPL := Lib.hid (Pl.new wr X Y hb7)
      have hwb : w.heap.size ≤ b7 := by rw [← hb7]; exact HP.out.gr.size
      have hh7 : h ≠ b7 := by have := HB.out.own.blk.2; omega
      rw [hb7]
      clear hb7 hba
      go_loopw [6, 32] (fun t6 t32 wi => ∃ (i h cap : Nat) (st : List Nat) (s : Nat → Bool), i ≤ N ∧ t32 = .int .i64 (i : Nat) ∧ t6 = .slice (some ⟨h, 0, none⟩) st.length cap ∧ h ≠ b7 ∧ Pl wi b7 X Y ∧ FillQ w wi g sb e8 c G S o (RmS (stN e8) k i) h cap st s M) (fun _ t32 _ => N - (intOf t32).toNat)
      case atStart => exact ⟨0, h, cap, st', s, Nat.zero_le _, rfl, by rw [HL.out], hh7, HPL.out, HBa.out⟩
      case round =>
        obtain ⟨i, h, cap, st, s, hi, rfl, rfl, hh7, hpl, hp⟩ := hrel
        have HPX := Lib.hid hp
        have HPLX := Lib.hid hpl
        have hst6 : st.length ≤ 1000000 := by have := hp.ms; have := HM.out.1; have := HL.out; omega
        have hsw : w.heap.size ≤ wr.heap.size := hp.gr.size
        obtain ⟨q0, q1, q2⟩ := hpl
        clear hp
        by_cases hlt : i < N
        · have hiN : (i : Int) < (N : Int) := by omega
          have hi8 : i < 8 := by have := HN.out; have := HNN.out; omega
          have hit : i < stN e8 := by rw [HNN.out]; exact hlt
          obtain ⟨p0, p1⟩ := HPX.out.ps.2 i hit
          have hps := HPX.out.ps.1
          obtain ⟨⟨u1, u2⟩, ⟨v1, v2⟩, _, _⟩ := dXY_bd i hi8
          have HST := Lib.hid (fun (j : Nat) (hh : StepTo k i j) => (show ((j % 22 : Nat) : Int) = X + dX i ∧ ((j / 22 : Nat) : Int) = Y + dY i from ⟨by rw [← HX.out.1]; exact hh.1, by rw [← HX.out.2]; exact hh.2⟩))
          have HIN := Lib.hid (fun hz => step_in (k := k) (t := i) hk hz)
          have HPASS := Lib.hid (fun (wn : World) hf hg hr => HPX.out.pass (wn := wn) (t := i) hf hg hr hgl hne)
          rw [HX.out.1, HX.out.2] at HIN HPASS
          generalize dX i = U at p0 u1 u2 HIN HPASS HST
          generalize dY i = V at p1 v1 v2 HIN HPASS HST
          have hbx : Below wr.heap.size wr ((wr.alloc (.cells #[.int .i64 U, .int .i64 V] 70)).alloc (.cells #[.int .i64 (X + U), .int .i64 (Y + V)] 70)) := by (repeat (first | with_reducible exact Below.refl _ _ | with_reducible assumption | ((with_reducible refine Below.alloc ?_ ?_ _); rotate_left; focus (first | with_reducible exact Nat.le_refl _ | omega | (simp; done) | (simp; omega))) | ((with_reducible refine Below.setCell ?_ ?_ _); rotate_left; focus (first | with_reducible exact Nat.le_refl _ | omega | (simp; done) | (simp; omega))) | (with_reducible refine Below.drew ?_) | ((with_reducible refine Below.trans ?_ (Below.mono (by with_reducible assumption) ?_)); rotate_left; focus (first | with_reducible exact Nat.le_refl _ | omega | (simp; done) | (simp; omega)))))
          have HBX := Lib.hid hbx
          have HRX := Lib.hid (HPX.out.rb.below hbx)
          have HPN : Hid (Pl ((wr.alloc (.cells #[.int .i64 U, .int .i64 V] 70)).alloc (.cells #[.int .i64 (X + U), .int .i64 (Y + V)] 70)) (wr.heap.size + 1) (X + U) (Y + V)) := Lib.hid (Pl.new _ _ _ (by simp))
          clear hbx
          go_wp2_with fail
          refine (take_rb g (X + U) (Y + V) G s c _ HRX.out).mono ?_; rintro e w2 ⟨rfl, hr2, hg2⟩
          have HR2 := Lib.hid hr2
          have HG2 := Lib.hid hg2
          have HPN2 := Lib.hid (HPN.out.grown hg2 (by omega))
          clear hr2 hg2
          have HGB := Lib.hid ((grown_below (World.grownBy.refl wr (some g)) HBX.out).trans HG2.out)
          have hw2 : b7 < w2.heap.size := (HPLX.out.grown HGB.out (by omega)).1
          cases hT : tkB G c s (X + U) (Y + V)
          · go_wp2
            go_roundw
            case rel =>
              have hr2 := HR2.out
              rw [tkS_no hT] at hr2
              exact ⟨i + 1, h, cap, st, s, by omega, by go_num, rfl, hh7, HPLX.out.grown HGB.out (by omega), HPASS.out w2 hT HGB.out hr2⟩
            case measure => simp [intOf]; omega
          · obtain ⟨hz, hav⟩ : inZ (X + U) (Y + V) = true ∧ avB G c s (22 * (Y + V).toNat + (X + U).toNat) = true := by
              unfold tkB at hT; rw [Bool.and_eq_true] at hT; exact hT
            obtain ⟨j, hj, hj4, hjs⟩ := HIN.out hz
            obtain ⟨j1, j2⟩ := HST.out j hjs
            rw [hj] at hav
            have hr2 := HR2.out
            rw [tkS_yes hT, hj] at hr2
            have HR3 := Lib.hid hr2
            obtain ⟨_, n1, n2⟩ := HPN2.out
            have hbn : Below w2.heap.size w2 (w2.alloc (.cells #[.int .i64 (X + U), .int .i64 (Y + V)] 70)) := (Below.refl _ _).alloc (Nat.le_refl _) _
            have HOW := Lib.hid ((HPX.out.own.grown HGB.out hgl).below hbn)
            have HNP := Lib.hid (Pl.new w2 (X + U) (Y + V) rfl)
            have HBN := Lib.hid hbn
            have HJ := Lib.hid (And.intro hjs (And.intro j1 j2))
            have HAV := Lib.hid hav
            have HPB := Lib.hid ((HPLX.out.grown HGB.out (by omega)).below hbn)
            clear hr2 hbn hz hj hjs hav
            go_wp2_with (at_builtin; refine list_place1 _ rfl (.tmp 50) (.tmp 52) rfl w.heap.size h cap st rfl HOW.out w2.heap.size j rfl (by rw [HJ.out.2.1]; exact HNP.out.2.1) (by rw [HJ.out.2.2]; exact HNP.out.2.2) hst6 (by simp; omega) ?_)
            intro h' cap' w6 hI6 hb6 hg6 hh6
            have HI6 := Lib.hid hI6
            have HB6 := Lib.hid hb6
            have HPB6 := Lib.hid (HPB.out.grown hg6 (fun e => hh7 e.symm))
            have hne6 : h' ≠ b7 := by
              rcases hh6 with e | e
              · rw [e]; exact hh7
              · rw [e]; simp; omega
            clear hI6 hb6 hg6 hh6
            go_wp2
            go_roundw
            case rel =>
              refine ⟨i + 1, h', cap', st ++ [j], putB s j, by omega, by go_num, by rw [List.length_append, List.length_singleton], hne6, HPB6.out, ?_⟩
              exact HPX.out.push hk HGK.out HK.out.2 hit hj4 HJ.out.1 HAV.out HGB.out HR3.out hgl hne hsl ((HBN.out.mono (by omega)).trans HB6.out) HI6.out
            case measure => simp [intOf]; omega
        · have hin : i = N := by omega
          subst hin
          go_wp2
          refine ⟨⟨h, cap, st, s, rfl, HPX.out.fin (by rw [HNN.out]; exact Nat.le_refl _) (by have := HM.out.1; have := HL.out; omega)⟩, ?_⟩
          have m1 := HPX.out.ms
          have m2 := HPX.out.rb.gone
          obtain ⟨m3, m4⟩ := HM.out
          have m5 := HL.out
          simp only [lenOf]
          omega
end Go.Proofs.YtkfeeijiockdhaaDoor
namespace Go.Proofs.YtkfeeijiockdhaaDoor
open Go.RowKit Go.Sort
set_option linter.unusedVariables false
set_option linter.unusedSimpArgs false
theorem Ps.of_own {w : World} {base b n cap : Nat} {xs : List Value} (h : w.ownsRow base 70 2 (.slice (some ⟨b, 0, none⟩) n cap) n xs) (hx : ∀ i, i < n → xs[i * 2]? = some (.int .i64 (dX i)) ∧ xs[i * 2 + 1]? = some (.int .i64 (dY i))) (h0 : 0 < n) : Ps w b n := by
  refine ⟨(World.ownsRow.lt h b rfl).2, fun i hi => ⟨?_, ?_⟩⟩
  · rw [World.ownsRow.cellAt h (i * 2) (by omega), (hx i hi).1]
  · rw [World.ownsRow.cellAt h (i * 2 + 1) (by omega), (hx i hi).2]
def FourPost (w : World) (e : Ending) (w' : World) : Prop :=
  ∃ b, e = .returned (.slice (some ⟨b, 0, none⟩) 4 4) ∧ w'.ownsRow w.heap.size 70 2 (.slice (some ⟨b, 0, none⟩) 4 4) 4 [.int .i64 1, .int .i64 0, .int .i64 (-1), .int .i64 0, .int .i64 0, .int .i64 1, .int .i64 0, .int .i64 (-1)] ∧ Below w.heap.size w w'
def StepsPost (n : Nat) (w : World) (e : Ending) (w' : World) : Prop :=
  ∃ b cap, e = .returned (.slice (some ⟨b, 0, none⟩) n cap) ∧ Ps w' b n ∧ Below w.heap.size w w'
set_option maxHeartbeats 1000000 in
set_option maxRecDepth 20000 in
theorem bysides_any (w : World) : Calls Tryd.prog 24 #[] w (FourPost w) := by
  go_enter Tryd.func24, Tryd.ntmps24
  go_wp2
  refine bodyPost_ret (v := .slice (some ⟨w.heap.size, 0, none⟩) 4 4) (by simp (maxDischargeDepth := 8) [results, Tryd.results24, go_sem, *]) rfl ⟨w.heap.size, rfl, ?_, by (repeat (first | with_reducible exact Below.refl _ _ | with_reducible assumption | ((with_reducible refine Below.alloc ?_ ?_ _); rotate_left; focus (first | with_reducible exact Nat.le_refl _ | omega | (simp; done) | (simp; omega))) | ((with_reducible refine Below.setCell ?_ ?_ _); rotate_left; focus (first | with_reducible exact Nat.le_refl _ | omega | (simp; done) | (simp; omega))) | (with_reducible refine Below.drew ?_) | ((with_reducible refine Below.trans ?_ (Below.mono (by with_reducible assumption) ?_)); rotate_left; focus (first | with_reducible exact Nat.le_refl _ | omega | (simp; done) | (simp; omega)))))⟩
  exact World.ownsRow_lit w #[.int .i64 1, .int .i64 0, .int .i64 (-1), .int .i64 0, .int .i64 0, .int .i64 1, .int .i64 0, .int .i64 (-1)] 4 (Nat.le_refl _) (by unfold maxLen; omega) rfl
theorem four_steps {w : World} {base b : Nat} (h : w.ownsRow base 70 2 (.slice (some ⟨b, 0, none⟩) 4 4) 4 [.int .i64 1, .int .i64 0, .int .i64 (-1), .int .i64 0, .int .i64 0, .int .i64 1, .int .i64 0, .int .i64 (-1)]) : Ps w b 4 :=
  Ps.of_own h (fun i hi => by
    have : i = 0 ∨ i = 1 ∨ i = 2 ∨ i = 3 := by omega
    rcases this with rfl | rfl | rfl | rfl <;> exact ⟨rfl, rfl⟩) (by omega)

theorem list_corners (w : World) {ops : Array Oper} {rest : List Oper} {o : Oper} {a : Act} {Q : Exit → Act → World → Prop} (hgd : o.guard = none) (s x : Operand) (ho : o.op = .call { callee := .builtin .append, args := #[s, x], argTypes := #[51, 51] })
    (base b : Nat) (hs : a.eval s = .slice (some ⟨b, 0, none⟩) 4 4) (hown : w.ownsRow base 70 2 (.slice (some ⟨b, 0, none⟩) 4 4) 4 [.int .i64 1, .int .i64 0, .int .i64 (-1), .int .i64 0, .int .i64 0, .int .i64 1, .int .i64 0, .int .i64 (-1)]) (b2 : Nat) (hx : a.eval x = .slice (some ⟨b2, 0, none⟩) 4 4)
    (hc : ∀ (i : Nat) (u : Value), ([.int .i64 1, .int .i64 1, .int .i64 1, .int .i64 (-1), .int .i64 (-1), .int .i64 1, .int .i64 (-1), .int .i64 (-1)] : List Value)[i]? = some u → w.cell? ⟨b2, i, none⟩ = some u) (hbase : base ≤ w.heap.size)
    (hh : ∀ h' cap' w', w'.ownsRow base 70 2 (.slice (some ⟨h', 0, none⟩) 8 cap') 8 ([.int .i64 1, .int .i64 0, .int .i64 (-1), .int .i64 0, .int .i64 0, .int .i64 1, .int .i64 0, .int .i64 (-1)] ++ [.int .i64 1, .int .i64 1, .int .i64 1, .int .i64 (-1), .int .i64 (-1), .int .i64 1, .int .i64 (-1), .int .i64 (-1)]) → Below base w w' → wpList Tryd.prog ops Q rest (a.put o.dst (.slice (some ⟨h', 0, none⟩) 8 cap')) w') : wpList Tryd.prog ops Q (o :: rest) a w := by
  obtain ⟨i0, hi, hz, hsi, hby⟩ := info_parts infoP
  refine wpList_append_own_at w hgd s x 51 ho base 70 i0 (.agg #[.int .i64 0, .int .i64 0]) 2 16 Tryd.underlying51 hi hz hsi hby rfl (by omega) _ 4 [.int .i64 1, .int .i64 0, .int .i64 (-1), .int .i64 0, .int .i64 0, .int .i64 1, .int .i64 0, .int .i64 (-1)] hs hown ⟨b2, 0, none⟩ 4 4 [.int .i64 1, .int .i64 1, .int .i64 1, .int .i64 (-1), .int .i64 (-1), .int .i64 1, .int .i64 (-1), .int .i64 (-1)] hx rfl (fun i u hu => ?_) (fun u hu => ?_) (by unfold maxLen; omega) (by omega) hbase (fun v' w' h2 h3 h4 h5 => ?_)
  · rw [Go.WideShapes.add_plain, Nat.zero_add]; exact hc i u hu
  · simp only [List.mem_cons, List.not_mem_nil, or_false] at hu
    rcases hu with rfl | rfl | rfl | rfl | rfl | rfl | rfl | rfl <;> rfl
  · obtain ⟨g, c, hv, _, _⟩ := World.ownsRow.form h2 (by omega)
    subst hv
    exact hh g c w' h2 (own_below hown h3 hbase)

/-- The cells that are not there, in the first k rows. -/
def othTo (m : Nat → Nat) (k y : Nat) : Nat := if y < k then m y ^^^ 4194303 else m y
def othM (m : Nat → Nat) : Nat → Nat := othTo m 22
theorem othM_lt {m : Nat → Nat} (h : ∀ y, m y < 2 ^ 22) (y : Nat) : othM m y < 2 ^ 22 := by
  unfold othM othTo
  split
  · exact Nat.xor_lt_two_pow (h y) (by decide)
  · exact h y
theorem othM_bit (m : Nat → Nat) (x y : Nat) (hx : x < 22) (hy : y < 22) : (othM m y).testBit x = !(m y).testBit x := by
  unfold othM othTo
  rw [if_pos hy, Nat.testBit_xor, show 4194303 = 2 ^ 22 - 1 from rfl, Nat.testBit_two_pow_sub_one, decide_eq_true hx]
  cases (m y).testBit x <;> rfl
theorem Count.skips {E : Nat → Nat → Prop} {Q : Nat → Prop} {t : Nat} {s : Nat → Bool} {n : Int} (h : Count E Q t s n) (hc : ∀ a b, Rch E a b → (Q a ↔ Q b)) : ∀ d, (∀ b, t ≤ b → b < t + d → ¬ Q b ∨ s b = true) → Count E Q (t + d) s n
  | 0, _ => h
  | d + 1, hh => (Count.skips h hc d (fun b h1 h2 => hh b h1 (by omega))).skip hc (hh (t + d) (by omega) (by omega))
theorem Count.upTo {E : Nat → Nat → Prop} {Q : Nat → Prop} {t t' : Nat} {s : Nat → Bool} {n : Int} (h : Count E Q t s n) (hc : ∀ a b, Rch E a b → (Q a ↔ Q b)) (ht : t ≤ t') (hh : ∀ b, t ≤ b → b < t' → ¬ Q b ∨ s b = true) : Count E Q t' s n := by
  obtain ⟨d, rfl⟩ : ∃ d, t' = t + d := ⟨t' - t, by omega⟩
  exact h.skips hc d hh
theorem restB_mono {n : Nat} {s s' : Nat → Bool} (h : ∀ i, s i = true → s' i = true) : restB n s' ≤ restB n s := by
  induction n with
  | zero => exact Nat.le_refl _
  | succ n ih =>
    simp only [restB]
    cases hs : s n
    · simp only [Bool.false_eq_true, if_false]; split <;> omega
    · rw [h n hs]; simp only [if_true]; omega
theorem restB_less {n k : Nat} {s s' : Nat → Bool} (h : ∀ i, s i = true → s' i = true) (hk : k < n) (h0 : s k = false) (h1 : s' k = true) : restB n s' < restB n s := by
  induction n with
  | zero => omega
  | succ n ih =>
    simp only [restB]
    by_cases e : k = n
    · subst e
      have := restB_mono (n := k) h
      rw [h0, h1]; simp only [if_true, Bool.false_eq_true, if_false]; omega
    · have := ih (by omega)
      cases hs : s n
      · simp only [Bool.false_eq_true, if_false]; split <;> omega
      · rw [h n hs]; simp only [if_true]; omega
theorem takepiece_val (g sb scap o x y : Nat) (e8 c : Bool) (G S : Nat → Bool) (w : World) (hx : o % 22 = x) (hy : o / 22 = y) (ho : o < 484) (hG : G o = c) (hR : RB w g G c S) (hP : Ps w sb (stN e8)) (hne : sb ≠ g) (hS0 : S o = false) (hS : ∀ a b, EdE e8 c G a b → S a = true → S b = true) :
    Calls Tryd.prog 35 #[.pointer (some ⟨g, 0, none⟩), .agg #[.int .i64 (x : Nat), .int .i64 (y : Nat)], .slice (some ⟨sb, 0, none⟩) (stN e8) scap] w fun e w' => e = .returned (.tuple #[]) ∧ ∃ s, RB w' g G c s ∧ (∀ a, s a = true ↔ S a = true ∨ Rch (EdE e8 c G) o a) ∧ w.grownBy w' (some g) := by
  subst hx hy; exact takepiece_any g sb scap o e8 c G S w ho hG hR hP hne hS0 hS
/-- Behind some cells: pieces that begin there are taken away, and counted. -/
structure PieceP (w wr : World) (g : Nat) (e8 c : Bool) (G : Nat → Bool) (t : Nat) (s : Nat → Bool) (n : Int) : Prop where
  rb : RB wr g G c s
  ct : Count (EdE e8 c G) (fun a => G a = c) t s n
  bel : Below w.heap.size w wr
theorem PieceP.bd {w wr : World} {g t : Nat} {e8 c : Bool} {G s : Nat → Bool} {n : Int} (h : PieceP w wr g e8 c G t s n) : 0 ≤ n ∧ n ≤ t := by
  rw [h.ct.num]; exact cntP_bd t _
set_option maxHeartbeats 8000000 in
set_option maxRecDepth 100000 in
theorem pieces_any (m : Nat → Nat) (sb scap : Nat) (e8 c : Bool) (G : Nat → Bool) (w : World) (hm : ∀ y, y < 22 → m y < 2 ^ 22) (hb : ∀ y x, y < 22 → x < 22 → (m y).testBit x = (G (22 * y + x) == c)) (hP : Ps w sb (stN e8)) (hv : Vt w) :
    Calls Tryd.prog 23 #[.agg (frC m), .slice (some ⟨sb, 0, none⟩) (stN e8) scap] w fun e w' => e = .returned (.int .i64 (cntP 484 (fun a => G a = c ∧ Rep (Rch (EdE e8 c G)) a))) ∧ Below w.heap.size w w' := by
  have hsl := hP.1
  have HPs := Lib.hid hP
  have HV := Lib.hid hv
  have HR0 : Hid (RB (w.alloc (.cells (frC m) 48)) w.heap.size G c (fun _ => false)) := Lib.hid ⟨m, Fm.new w m, hm, fun y x hy hx => by rw [hb y x hy hx]; unfold avB; simp⟩
  have hc : ∀ a b, Rch (EdE e8 c G) a b → (G a = c ↔ G b = c) := fun _ _ => rchE_col
  have HC := Lib.hid hc
  clear hP hv hm hb hc
  go_enter Tryd.func23, Tryd.ntmps23
  go_wp2_with (refine wpList_box_row rfl 48 _ rfl _ rfl (frC m) rfl ?_)
  go_loopw [5, 7] (fun t5 t7 wr => ∃ (k : Nat) (s : Nat → Bool) (n : Int), k ≤ 22 ∧ t7 = .int .i64 (k : Nat) ∧ t5 = .int .i64 n ∧ PieceP w wr w.heap.size e8 c G (22 * k) s n) (fun _ t7 _ => 22 - (intOf t7).toNat)
  case atStart => exact ⟨0, fun _ => false, 0, Nat.zero_le _, rfl, rfl, HR0.out, Count.start _ _, (Below.refl _ _).alloc (Nat.le_refl _) _⟩
  case round =>
    obtain ⟨k, s, n, hk, rfl, rfl, hp⟩ := hrel
    have HP := Lib.hid hp
    clear hp
    by_cases hlt : k < 22
    · have hk22 : (k : Int) < 22 := by omega
      go_wp2
      obtain ⟨wo, ho⟩ : ∃ wo : World, wo = wr := ⟨_, rfl⟩
      go_loopw [5] (fun t5 wi => ∃ (t : Nat) (s : Nat → Bool) (n : Int), 22 * k ≤ t ∧ t ≤ 22 * (k + 1) ∧ t5 = .int .i64 n ∧ PieceP w wi w.heap.size e8 c G t s n) (fun _ wi => restB 484 (goneAt wi w.heap.size))
      case atStart => exact ⟨22 * k, s, n, Nat.le_refl _, by omega, rfl, HP.out⟩
      case round =>
        obtain ⟨t, s, n, ht1, ht2, rfl, hp⟩ := hrel
        have HPX := Lib.hid hp
        obtain ⟨n0, n1⟩ := hp.bd
        obtain ⟨m', hF, hr, hb⟩ := hp.rb.ex
        have c0 := hF.c k hlt
        have hmk := hr k hlt
        have HBt := Lib.hid (fun x hx => hb k x hlt hx)
        have hsw := hp.bel.size
        clear hp hF hr hb
        generalize hM : m' k = M at c0 hmk HBt
        clear hM
        by_cases h0 : M = 0
        · subst h0
          go_wp2
          go_roundw
          case rel =>
            refine ⟨k + 1, s, n, by omega, by go_num, rfl, HPX.out.rb, HPX.out.ct.upTo HC.out (by omega) (fun b h1 h2 => ?_), HPX.out.bel⟩
            have := HBt.out (b - 22 * k) (by omega)
            rw [show 22 * k + (b - 22 * k) = b by omega, Nat.zero_testBit] at this
            unfold avB at this
            by_cases hg : G b = c
            · rw [hg] at this; exact Or.inr (by simpa using this.symm)
            · exact Or.inl hg
          case measure => simp [intOf]; omega
        · obtain ⟨z1, z2, z3⟩ := ctz_bit M h0 hmk
          have hM0 : ((M : Int) == 0) = false := by simp; omega
          have hM1 : ((M : Int) != 0) = true := by simp; omega
          have hM2 : ¬ ((M : Int) = 0) := by omega
          have HT := Lib.hid (fun w hv => tz_any M (by omega) h0 w hv)
          generalize Lib.ctz 32 M = z at z1 z2 z3 HT
          rw [HBt.out z z3] at z1
          have Z2 := Lib.hid z2
          obtain ⟨o, ho⟩ : ∃ o, 22 * k + z = o := ⟨_, rfl⟩
          rw [ho] at z1
          obtain ⟨g1, s1⟩ : G o = c ∧ s o = false := by
            unfold avB at z1; rw [Bool.and_eq_true] at z1; exact ⟨by simpa using z1.1, by simpa using z1.2⟩
          have ho4 : o < 484 := by omega
          have hto : t ≤ o := by
            rcases Nat.lt_or_ge o t with h | h
            · have := (HPX.out.ct.seen o).2 ⟨g1, o, h, (Rch.eqv _).refl o⟩
              rw [s1] at this; cases this
            · exact h
          have HO := Lib.hid (And.intro ho (And.intro z1 hto))
          have HPi := Lib.hid (HPs.out.under HPX.out.bel hsl)
          have HVi := Lib.hid (HV.out.below HPX.out.bel)
          clear z1 z2 ho
          go_wp2_with fail
          refine (HT.out _ HVi.out).mono ?_; rintro e w' ⟨rfl, rfl⟩
          go_wp2_with fail
          refine (takepiece_val w.heap.size sb scap o z k e8 c G s _ (by have := HO.out.1; omega) (by have := HO.out.1; omega) ho4 g1 HPX.out.rb HPi.out (by omega) s1 (HPX.out.ct.shut HC.out)).mono ?_; rintro e w5 ⟨rfl, s5, hr5, hs5, hg5⟩
          have HR5 := Lib.hid hr5
          have HS5 := Lib.hid hs5
          have HG5 := Lib.hid hg5
          clear hr5 hs5 hg5
          go_wp2
          go_roundw
          case rel =>
            refine ⟨o + 1, s5, n + 1, by omega, by have := HO.out.1; omega, by go_num, HR5.out, ?_, below_grown HPX.out.bel HG5.out hsw (Nat.le_refl _)⟩
            refine (HPX.out.ct.upTo HC.out hto (fun b h1 h2 => ?_)).flood HC.out g1 s1 HS5.out
            have h3 := HO.out.1
            have := HBt.out (b - 22 * k) (by omega)
            rw [show 22 * k + (b - 22 * k) = b by omega, Z2.out (b - 22 * k) (by omega)] at this
            unfold avB at this
            by_cases hg : G b = c
            · rw [hg] at this; exact Or.inr (by simpa using this.symm)
            · exact Or.inl hg
          case measure =>
            rw [HR5.out.gone, HPX.out.rb.gone]
            refine restB_less (k := o) (fun a ha => ?_) ho4 ?_ ?_
            · unfold avB at *
              cases hsa : s a
              · rw [hsa] at ha
                cases hga : (G a == c)
                · rfl
                · rw [hga] at ha; cases ha
              · rw [(HS5.out a).2 (Or.inl hsa)]; simp
            · rw [HO.out.2.1]; rfl
            · unfold avB; rw [(HS5.out o).2 (Or.inr ((Rch.eqv _).refl o))]; simp
    · have hkn : k = 22 := by omega
      subst hkn
      go_wp2
      go_ret
      exact ⟨ret_int (by rw [HP.out.ct.num]), HP.out.bel⟩

theorem pieces_val (m : Nat → Nat) (sb scap : Nat) (e8 c : Bool) (G : Nat → Bool) (N : Int) (hN : cntP 484 (fun a => G a = c ∧ Rep (Rch (EdE e8 c G)) a) = N) (w : World) (hm : ∀ y, y < 22 → m y < 2 ^ 22) (hb : ∀ y x, y < 22 → x < 22 → (m y).testBit x = (G (22 * y + x) == c)) (hP : Ps w sb (stN e8)) (hv : Vt w) :
    Calls Tryd.prog 23 #[.agg (frC m), .slice (some ⟨sb, 0, none⟩) (stN e8) scap] w fun e w' => e = .returned (.int .i64 N) ∧ Below w.heap.size w w' := hN ▸ pieces_any m sb scap e8 c G w hm hb hP hv

set_option maxHeartbeats 2000000 in
set_option maxRecDepth 20000 in
theorem ipc_any (A : Option Addr) (n cap : Nat) (f : Nat → Rt) (w : World) (hn : n ≤ maxLen) (hr : Rs w A n f) (hv : Vt w) :
    Calls Tryd.prog 11 #[.slice A n cap] w fun e w' => e = .returned (.int .i64 (pcF f n)) ∧ Below w.heap.size w w' := by
  have Hn := Lib.hid hn
  have Hr := Lib.hid hr
  have Hv := Lib.hid hv
  clear hn hr hv
  cases hl : laidF f n
  · have H : Hid (pcF f n = -1) := Lib.hid (by unfold pcF; rw [hl]; rfl)
    go_enter Tryd.func11, Tryd.ntmps11
    go_wp2_with fail
    refine (ilaid_val A n cap f false hl _ Hn.out Hr.out).mono ?_; rintro e w1 ⟨rfl, hb1⟩; have hz1 := hb1.size; (try simp at hz1)
    go_wp2
    go_ret
    exact ⟨ret_int (by rw [H.out]), by (repeat (first | with_reducible exact Below.refl _ _ | with_reducible assumption | ((with_reducible refine Below.alloc ?_ ?_ _); rotate_left; focus (first | with_reducible exact Nat.le_refl _ | omega | (simp; done) | (simp; omega))) | ((with_reducible refine Below.setCell ?_ ?_ _); rotate_left; focus (first | with_reducible exact Nat.le_refl _ | omega | (simp; done) | (simp; omega))) | (with_reducible refine Below.drew ?_) | ((with_reducible refine Below.trans ?_ (Below.mono (by with_reducible assumption) ?_)); rotate_left; focus (first | with_reducible exact Nat.le_refl _ | omega | (simp; done) | (simp; omega)))))⟩
  · obtain ⟨h7, hok⟩ := laidF_ok hl
    have Hok := Lib.hid hok
    clear hok
    have H : Hid (pcF f n = cntP 484 (fun a => mapG f n a = true ∧ Rep (Rch (EdE false true (mapG f n))) a)) := Lib.hid (by unfold pcF; rw [hl]; rfl)
    go_enter Tryd.func11, Tryd.ntmps11
    go_wp2_with fail
    refine (ilaid_val A n cap f true hl _ Hn.out Hr.out).mono ?_; rintro e w1 ⟨rfl, hb1⟩; have hz1 := hb1.size; (try simp at hz1)
    have Hr1 := Lib.hid (Hr.out.below hb1)
    have Hv1 := Lib.hid (Hv.out.below hb1)
    go_wp2_with fail
    refine (framed_any A n cap f _ hl Hr1.out).mono ?_; rintro e w2 ⟨rfl, hb2⟩; have hz2 := hb2.size; (try simp at hz2)
    have Hv2 := Lib.hid (Hv1.out.below hb2)
    go_wp2_with fail
    refine (bysides_any _).mono ?_; rintro e w3 ⟨b, rfl, ho, hb3⟩; have hz3 := hb3.size; (try simp at hz3)
    have HPs := Lib.hid (four_steps ho)
    have Hv3 := Lib.hid (Hv2.out.below hb3)
    clear ho
    go_wp2_with fail
    refine (pieces_any (frM f n) b 4 false true (mapG f n) _ (fun y _ => frM_lt22 Hok.out y) (fun y x hy hx => by rw [frM_bit Hok.out x y hx]; cases mapG f n (22 * y + x) <;> rfl) HPs.out Hv3.out).mono ?_; rintro e w4 ⟨rfl, hb4⟩; have hz4 := hb4.size; (try simp at hz4)
    go_wp2
    go_ret
    exact ⟨ret_int (by rw [H.out]), by (repeat (first | with_reducible exact Below.refl _ _ | with_reducible assumption | ((with_reducible refine Below.alloc ?_ ?_ _); rotate_left; focus (first | with_reducible exact Nat.le_refl _ | omega | (simp; done) | (simp; omega))) | ((with_reducible refine Below.setCell ?_ ?_ _); rotate_left; focus (first | with_reducible exact Nat.le_refl _ | omega | (simp; done) | (simp; omega))) | (with_reducible refine Below.drew ?_) | ((with_reducible refine Below.trans ?_ (Below.mono (by with_reducible assumption) ?_)); rotate_left; focus (first | with_reducible exact Nat.le_refl _ | omega | (simp; done) | (simp; omega)))))⟩

end Go.Proofs.YtkfeeijiockdhaaDoor
