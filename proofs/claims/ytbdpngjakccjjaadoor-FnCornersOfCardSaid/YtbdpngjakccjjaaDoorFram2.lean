
/- Chapter 4 of impl: the outline. -/
import Derived.Test.YtbdpngjakccjjaaDoorFram
namespace Go.Proofs.YtbdpngjakccjjaaDoor
open Go.RowKit Go.Sort
set_option linter.unusedVariables false
set_option linter.unusedSimpArgs false
theorem ones24_eq (n a b c : Nat) (hn : n < 16777216) (ha : n / 65536 % 256 = a) (hb : n / 256 % 256 = b) (hc : n % 256 = c) :
    Lib.pop8 (a : Int) + Lib.pop8 (b : Int) + Lib.pop8 (c : Int) = (popTo n 24 : Nat) := by
  have ea := pop8_to ⟨a, by omega⟩
  have eb := pop8_to ⟨b, by omega⟩
  have ec := pop8_to ⟨c, by omega⟩
  dsimp only at ea eb ec
  rw [ea, eb, ec, show (24 : Nat) = 8 + (8 + 8) by omega, popTo_split n 8, popTo_split (n / 2 ^ 8) 8, Nat.div_div_eq_div_mul,
    ← popTo_mod n 8, ← popTo_mod (n / 2 ^ 8) 8, ← popTo_mod (n / (2 ^ 8 * 2 ^ 8)) 8]
  have e1 : n % 2 ^ 8 = c := hc
  have e2 : n / 2 ^ 8 % 2 ^ 8 = b := hb
  have e3 : n / (2 ^ 8 * 2 ^ 8) % 2 ^ 8 = a := ha
  rw [e1, e2, e3]
  omega
set_option maxHeartbeats 400000 in
theorem ones24_any (n : Nat) (w : World) (hn : n < 16777216) :
    Calls Tryd.prog 50 #[.int .u32 n] w fun e w' => e = .returned (.int .i64 (popTo n 24 : Nat)) ∧ ∃ d, w' = w.drewN d := by
  have h0 : (n : Int) / 16777216 = 0 := by omega
  have h1 : bits .and .u32 ((n : Int) / 65536) 255 = ((n / 65536 % 256 : Nat) : Int) := by
    have := u32_and_nat (n / 65536) 255 (by omega) (by omega)
    rw [Nat.and_two_pow_sub_one_eq_mod _ 8] at this
    exact this
  have h2 : bits .and .u32 ((n : Int) / 256) 255 = ((n / 256 % 256 : Nat) : Int) := by
    have := u32_and_nat (n / 256) 255 (by omega) (by omega)
    rw [Nat.and_two_pow_sub_one_eq_mod _ 8] at this
    exact this
  have h3 : bits .and .u32 (n : Int) 255 = ((n % 256 : Nat) : Int) := by
    have := u32_and_nat n 255 (by omega) (by omega)
    rw [Nat.and_two_pow_sub_one_eq_mod _ 8] at this
    exact this
  obtain ⟨a, ha⟩ : ∃ a, n / 65536 % 256 = a := ⟨_, rfl⟩
  obtain ⟨b, hb⟩ : ∃ b, n / 256 % 256 = b := ⟨_, rfl⟩
  obtain ⟨c, hc⟩ : ∃ c, n % 256 = c := ⟨_, rfl⟩
  rw [ha] at h1
  rw [hb] at h2
  rw [hc] at h3
  have a1 : (a : Int) ≤ 255 := by omega
  have b1 : (b : Int) ≤ 255 := by omega
  have c1 : (c : Int) ≤ 255 := by omega
  have p0 : Lib.pop8 0 = 0 := by decide +kernel
  obtain ⟨pa1, pa2⟩ := pop8_bd a (by omega)
  obtain ⟨pb1, pb2⟩ := pop8_bd b (by omega)
  obtain ⟨pc1, pc2⟩ := pop8_bd c (by omega)
  have Ha := Lib.hid ha
  have Hb := Lib.hid hb
  have Hc := Lib.hid hc
  clear ha hb hc
  go_enter Tryd.func50, Tryd.ntmps50
  go_wp2
  simp only [List.append, Lib.fold_pop8tab]
  refine wp_region_quiet_lit (by kernel_rfl) (by kernel_rfl) ?_
  (repeat (first | go_big_quiet_step (fail) | quiet_step (fail)))
  refine wpQuiet_nil ?_
  intro _ hw'
  obtain ⟨nq, hw''⟩ := hw'
  subst hw''
  go_wp2
  go_ret
  exact ⟨ret_int (ones24_eq n a b c hn Ha.out Hb.out Hc.out), nq, rfl⟩
set_option maxHeartbeats 400000 in
theorem left_any (a b : Nat) (w : World) (ha : a < 2 ^ 22) :
    Calls Tryd.prog 35 #[.int .u32 (a : Nat), .int .u32 (b : Nat)] w fun e w' => e = .returned (.int .u32 ((2 * a : Nat) : Int)) ∧ w' = w := by
  go_enter Tryd.func35, Tryd.ntmps35
  go_wp2
  go_ret
  exact ⟨ret_int (k := .u32) (by omega), rfl⟩
set_option maxHeartbeats 400000 in
theorem low_any (a b : Nat) (w : World) :
    Calls Tryd.prog 36 #[.int .u32 (a : Nat), .int .u32 (b : Nat)] w fun e w' => e = .returned (.int .u32 (b : Nat)) ∧ w' = w := by
  go_enter Tryd.func36, Tryd.ntmps36
  go_wp2
  go_ret
  exact ⟨rfl, rfl⟩
def leftN (m : Nat → Nat) (y : Nat) : Nat := popTo (m (y + 1) ^^^ 2 * m (y + 1)) 24
def lowN (m : Nat → Nat) (y : Nat) : Nat := popTo (m (y + 1) ^^^ m y) 24
theorem xor_lt24 {a b : Nat} (ha : a < 2 ^ 24) (hb : b < 2 ^ 24) : a ^^^ b < 16777216 := Nat.xor_lt_two_pow (n := 24) ha hb
theorem sum24_bd (g : Nat → Nat) (h : ∀ y, g y ≤ 24) (k : Nat) : 0 ≤ sumN k (fun y => ((g y : Nat) : Int)) ∧ sumN k (fun y => ((g y : Nat) : Int)) ≤ 24 * k := by
  induction k with
  | zero => simp [sumN]
  | succ k ih => simp only [sumN]; have := h k; omega
def SidesPost (g : Nat → Nat) (w : World) (e : Ending) (w' : World) : Prop :=
  e = .returned (.int .i64 (sumN 21 (fun y => ((g y : Nat) : Int)))) ∧ Below w.heap.size w w'

set_option maxHeartbeats 2000000 in
theorem sidesL_any (m : Nat → Nat) (w : World) (hm : ∀ y, m y < 2 ^ 22) :
    Calls Tryd.prog 34 #[.agg (frC m), .func (.func 35) #[] #[]] w (SidesPost (leftN m) w) := by
  have HM := Lib.hid hm
  have HF0 := Lib.hid (Fm.new w m)
  clear hm
  go_enter Tryd.func34, Tryd.ntmps34
  go_wp2_with (refine wpList_box_row rfl 42 _ rfl _ rfl (frC m) rfl ?_)
  go_loopw [5, 6] (fun s i wr => ∃ k : Nat, k ≤ 21 ∧ i = .int .i64 ((k : Int) + 1) ∧ s = .int .i64 (sumN k (fun y => ((leftN m y : Nat) : Int))) ∧ Fm wr w.heap.size m ∧ Below w.heap.size w wr) (fun _ i _ => 22 - (intOf i).toNat)
  case atStart => exact ⟨0, Nat.zero_le _, rfl, rfl, HF0.out, by (repeat (first | with_reducible exact Below.refl _ _ | with_reducible assumption | ((with_reducible refine Below.alloc ?_ ?_ _); rotate_left; focus (first | with_reducible exact Nat.le_refl _ | omega | (simp; done) | (simp; omega))) | ((with_reducible refine Below.setCell ?_ ?_ _); rotate_left; focus (first | with_reducible exact Nat.le_refl _ | omega | (simp; done) | (simp; omega))) | (with_reducible refine Below.drew ?_) | ((with_reducible refine Below.trans ?_ (Below.mono (by with_reducible assumption) ?_)); rotate_left; focus (first | with_reducible exact Nat.le_refl _ | omega | (simp; done) | (simp; omega)))))⟩
  case round =>
    obtain ⟨k, hk, rfl, rfl, hf, hbr⟩ := hrel
    have HB := Lib.hid hbr
    have HF := Lib.hid hf
    have bd := sum24_bd (leftN m) (fun y => popTo_le _ _) k
    generalize hS : sumN k (fun y => ((leftN m y : Nat) : Int)) = S at bd
    have HS := Lib.hid hS
    clear hS hbr
    obtain ⟨bd1, bd2⟩ := bd
    by_cases hlt : k < 21
    · have c0 := hf.c k (by omega)
      have c1 := hf.c (k + 1) (by omega)
      have hk22 : (k : Int) + 1 < 22 := by omega
      have hk22' : (k : Int) < 22 := by omega
      have hk0 : (0 : Int) ≤ (k : Int) + 1 := by omega
      have hkn : (((k : Int) + 1).toNat) = k + 1 := by omega
      have hkw : IntKind.i64.wrap (k : Int) = (k : Int) := by rw [IntWalk.i64_left]; exact IntWalk.wrap64_in _ (by omega)
      have h0 := HM.out k
      have h1 := HM.out (k + 1)
      have hp : popTo (m (k + 1) ^^^ 2 * m (k + 1)) 24 ≤ 24 := popTo_le _ _
      have HG : Hid (leftN m k = popTo (m (k + 1) ^^^ 2 * m (k + 1)) 24) := Lib.hid rfl
      have hx : bits .xor .u32 ((m (k + 1) : Nat) : Int) (2 * (m (k + 1) : Int)) = ((m (k + 1) ^^^ 2 * m (k + 1) : Nat) : Int) := u32_xor_nat _ (2 * m (k + 1)) (by omega) (by omega)
      have hxl := xor_lt24 (a := m (k + 1)) (b := 2 * m (k + 1)) (by omega) (by omega)
      clear hf
      go_wp2_with fail
      go_quiet (first | (exact Calls.quiet_of_same (left_any _ _ _ h1)) | exact Calls.quiet_of (ones24_any _ _ hxl))
      go_wp2
      go_roundw
      case rel => exact ⟨k + 1, by omega, by go_num, by simp only [sumN]; rw [HS.out, HG.out], HF.out.drewN _, bel_drewN HB.out _⟩
      case measure => simp [intOf]; omega
    · have hkn : k = 21 := by omega
      subst hkn
      go_wp2
      go_ret
      exact ⟨ret_int HS.out.symm, HB.out⟩

set_option maxHeartbeats 2000000 in
theorem sidesD_any (m : Nat → Nat) (w : World) (hm : ∀ y, m y < 2 ^ 22) :
    Calls Tryd.prog 34 #[.agg (frC m), .func (.func 36) #[] #[]] w (SidesPost (lowN m) w) := by
  have HM := Lib.hid hm
  have HF0 := Lib.hid (Fm.new w m)
  clear hm
  go_enter Tryd.func34, Tryd.ntmps34
  go_wp2_with (refine wpList_box_row rfl 42 _ rfl _ rfl (frC m) rfl ?_)
  go_loopw [5, 6] (fun s i wr => ∃ k : Nat, k ≤ 21 ∧ i = .int .i64 ((k : Int) + 1) ∧ s = .int .i64 (sumN k (fun y => ((lowN m y : Nat) : Int))) ∧ Fm wr w.heap.size m ∧ Below w.heap.size w wr) (fun _ i _ => 22 - (intOf i).toNat)
  case atStart => exact ⟨0, Nat.zero_le _, rfl, rfl, HF0.out, by (repeat (first | with_reducible exact Below.refl _ _ | with_reducible assumption | ((with_reducible refine Below.alloc ?_ ?_ _); rotate_left; focus (first | with_reducible exact Nat.le_refl _ | omega | (simp; done) | (simp; omega))) | ((with_reducible refine Below.setCell ?_ ?_ _); rotate_left; focus (first | with_reducible exact Nat.le_refl _ | omega | (simp; done) | (simp; omega))) | (with_reducible refine Below.drew ?_) | ((with_reducible refine Below.trans ?_ (Below.mono (by with_reducible assumption) ?_)); rotate_left; focus (first | with_reducible exact Nat.le_refl _ | omega | (simp; done) | (simp; omega)))))⟩
  case round =>
    obtain ⟨k, hk, rfl, rfl, hf, hbr⟩ := hrel
    have HB := Lib.hid hbr
    have HF := Lib.hid hf
    have bd := sum24_bd (lowN m) (fun y => popTo_le _ _) k
    generalize hS : sumN k (fun y => ((lowN m y : Nat) : Int)) = S at bd
    have HS := Lib.hid hS
    clear hS hbr
    obtain ⟨bd1, bd2⟩ := bd
    by_cases hlt : k < 21
    · have c0 := hf.c k (by omega)
      have c1 := hf.c (k + 1) (by omega)
      have hk22 : (k : Int) + 1 < 22 := by omega
      have hk22' : (k : Int) < 22 := by omega
      have hk0 : (0 : Int) ≤ (k : Int) + 1 := by omega
      have hkn : (((k : Int) + 1).toNat) = k + 1 := by omega
      have hkw : IntKind.i64.wrap (k : Int) = (k : Int) := by rw [IntWalk.i64_left]; exact IntWalk.wrap64_in _ (by omega)
      have h0 := HM.out k
      have h1 := HM.out (k + 1)
      have hp : popTo (m (k + 1) ^^^ m k) 24 ≤ 24 := popTo_le _ _
      have HG : Hid (lowN m k = popTo (m (k + 1) ^^^ m k) 24) := Lib.hid rfl
      have hx : bits .xor .u32 ((m (k + 1) : Nat) : Int) (m k : Int) = ((m (k + 1) ^^^ m k : Nat) : Int) := u32_xor_nat _ (m k) (by omega) (by omega)
      have hxl := xor_lt24 (a := m (k + 1)) (b := m k) (by omega) (by omega)
      clear hf
      go_wp2_with fail
      go_quiet (first | (exact Calls.quiet_of_same (low_any _ _ _)) | exact Calls.quiet_of (ones24_any _ _ hxl))
      go_wp2
      go_roundw
      case rel => exact ⟨k + 1, by omega, by go_num, by simp only [sumN]; rw [HS.out, HG.out], HF.out.drewN _, bel_drewN HB.out _⟩
      case measure => simp [intOf]; omega
    · have hkn : k = 21 := by omega
      subst hkn
      go_wp2
      go_ret
      exact ⟨ret_int HS.out.symm, HB.out⟩
end Go.Proofs.YtbdpngjakccjjaaDoor
