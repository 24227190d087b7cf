
/- Bits: those of a choice of rectangles, and those of a row of cells. -/
import Derived.Test.YthbmiibbnbbdgaaHelp
import Derived.Lib.BitFns
import Derived.Laws.BitsAllLaws
namespace Go.Proofs.Ythbmiibbnbbdgaa
open Go.RowKit Go.Sort
set_option linter.unusedVariables false
/-- how many bits below k are set -/
def popTo (s : Nat) : Nat → Nat
  | 0 => 0
  | k + 1 => popTo s k + (if s.testBit k then 1 else 0)
theorem has_eq : ∀ s : Fin 128, ∀ i : Fin 7, (bits .and .u64 (((s.val : Nat) : Int) / 2 ^ i.val) 1 == 1) = s.val.testBit i.val := by decide +kernel
theorem all_eq : ∀ n : Fin 8, IntKind.u64.wrap (IntKind.u64.wrap (2 ^ n.val) - 1) = ((2 ^ n.val - 1 : Nat) : Int) := by decide +kernel
def oc6 (x : Int) : Int := bits .and .i64 (wrap64 x) 127
def oc5 (x : Int) : Int := oc6 (IntKind.u64.wrap (x + x / 4294967296))
def oc4 (x : Int) : Int := oc5 (IntKind.u64.wrap (x + x / 65536))
def oc3 (x : Int) : Int := oc4 (IntKind.u64.wrap (x + x / 256))
def oc2 (x : Int) : Int := oc3 (bits .and .u64 (IntKind.u64.wrap (x / 16 + x)) 1085102592571150095)
def oc1 (x : Int) : Int := oc2 (IntKind.u64.wrap (bits .and .u64 (x / 4) 3689348814741910323 + bits .and .u64 x 3689348814741910323))
def oc0 (x : Int) : Int := oc1 (IntKind.u64.wrap (bits .and .u64 (x / 2) 6148914691236517205 + bits .and .u64 x 6148914691236517205))
theorem oc_eq : ∀ s : Fin 128, oc0 (s.val : Nat) = (popTo s.val 7 : Nat) := by decide +kernel

set_option maxHeartbeats 400000 in
theorem has_any (s i : Nat) (w : World) (hs : s < 128) (hi : i < 7) :
    Calls Try.prog 62 #[.int .u64 s, .int .i64 i] w fun e w' => e = .returned (.bool (s.testBit i)) ∧ w = w' := by
  have H := Lib.hid (has_eq ⟨s, hs⟩ ⟨i, hi⟩)
  go_enter Try.func62, Try.ntmps62
  go_wp2
  go_ret
  exact ⟨ret_bool H.out, rfl⟩

set_option maxHeartbeats 400000 in
theorem allof_any (n : Nat) (w : World) (hn : n ≤ 7) :
    Calls Try.prog 42 #[.int .i64 n] w fun e w' => e = .returned (.int .u64 ((2 ^ n - 1 : Nat) : Int)) ∧ w = w' := by
  have H := Lib.hid (all_eq ⟨n, by omega⟩)
  go_enter Try.func42, Try.ntmps42
  go_wp2
  go_ret
  exact ⟨ret_int H.out, rfl⟩

set_option maxHeartbeats 400000 in
theorem ones64_any (n : Nat) (w : World) (hn : n < 128) :
    Calls Try.prog 73 #[.int .u64 n] w fun e w' => e = .returned (.int .i64 (popTo n 7 : Nat)) ∧ w = w' := by
  have H := Lib.hid (oc_eq ⟨n, hn⟩)
  go_enter Try.func73, Try.ntmps73
  go_wp2
  go_ret
  exact ⟨ret_int H.out, rfl⟩

set_option maxHeartbeats 400000 in
theorem ones_any (n : Nat) (w : World) (hn : n < 128) :
    Calls Try.prog 67 #[.int .u64 n] w fun e w' => e = .returned (.int .i64 (popTo n 7 : Nat)) ∧ w = w' := by
  go_enter Try.func67, Try.ntmps67
  go_wp2_with fail
  refine (ones64_any _ _ hn).mono ?_; rintro e w' ⟨rfl, rfl⟩
  go_wp2
  go_ret
  exact ⟨rfl, rfl⟩

set_option maxHeartbeats 400000 in
theorem size_any (n : Nat) (w : World) (hn : n < 128) :
    Calls Try.prog 50 #[.int .u64 n] w fun e w' => e = .returned (.int .i64 (popTo n 7 : Nat)) ∧ w = w' := by
  go_enter Try.func50, Try.ntmps50
  go_wp2_with fail
  refine (ones_any _ _ hn).mono ?_; rintro e w' ⟨rfl, rfl⟩
  go_wp2
  go_ret
  exact ⟨rfl, rfl⟩

theorem pop8_to : ∀ n : Fin 256, Lib.pop8 ((n.val : Nat) : Int) = (popTo n.val 8 : Nat) := by decide +kernel
theorem popTo_le (s k : Nat) : popTo s k ≤ k := by
  induction k with
  | zero => exact Nat.le_refl _
  | succ k ih => simp only [popTo]; split <;> omega
theorem pop8_bd (n : Nat) (h : n < 256) : 0 ≤ Lib.pop8 (n : Int) ∧ Lib.pop8 (n : Int) ≤ 8 := by
  have e := pop8_to ⟨n, h⟩
  have := popTo_le n 8
  dsimp only at e
  rw [e]; omega
theorem popTo_congr {s t : Nat} : ∀ (k : Nat), (∀ i, i < k → s.testBit i = t.testBit i) → popTo s k = popTo t k
  | 0, _ => rfl
  | k + 1, h => by simp only [popTo]; rw [popTo_congr k (fun i hi => h i (by omega)), h k (by omega)]
theorem popTo_split (n j k : Nat) : popTo n (j + k) = popTo n j + popTo (n / 2 ^ j) k := by
  induction k with
  | zero => rfl
  | succ k ih => rw [show j + (k + 1) = (j + k) + 1 by omega]; simp only [popTo]; rw [ih, Nat.testBit_div_two_pow, Nat.add_comm k j]; omega
theorem popTo_mod (n k : Nat) : popTo (n % 2 ^ k) k = popTo n k :=
  popTo_congr k fun i hi => by rw [Nat.testBit_mod_two_pow]; simp [hi]
theorem popTo_small (n j : Nat) (h : n < 2 ^ j) (k : Nat) : popTo n (j + k) = popTo n j := by
  rw [popTo_split, Nat.div_eq_of_lt h]
  suffices popTo 0 k = 0 by omega
  induction k with
  | zero => rfl
  | succ k ih => simp only [popTo]; rw [ih]; simp
theorem ones32_eq (n a b c : Nat) (hn : n < 1048576) (ha : n / 65536 % 256 = a) (hb : n / 256 % 256 = b) (hc : n % 256 = c) :
    Lib.pop8 (a : Int) + Lib.pop8 (b : Int) + Lib.pop8 (c : Int) = (popTo n 20 : Nat) := by
  have ea := pop8_to ⟨a, by omega⟩
  have eb := pop8_to ⟨b, by omega⟩
  have ec := pop8_to ⟨c, by omega⟩
  dsimp only at ea eb ec
  rw [ea, eb, ec, ← popTo_small n 20 hn 4, show (20 + 4 : Nat) = 8 + (8 + 8) by omega, popTo_split n 8, popTo_split (n / 2 ^ 8) 8, Nat.div_div_eq_div_mul,
    ← popTo_mod n 8, ← popTo_mod (n / 2 ^ 8) 8, ← popTo_mod (n / (2 ^ 8 * 2 ^ 8)) 8]
  have e1 : n % 2 ^ 8 = c := hc
  have e2 : n / 2 ^ 8 % 2 ^ 8 = b := hb
  have e3 : n / (2 ^ 8 * 2 ^ 8) % 2 ^ 8 = a := ha
  rw [e1, e2, e3]
  omega
set_option maxHeartbeats 400000 in
theorem ones32_any (n : Nat) (w : World) (hn : n < 1048576) :
    Calls Try.prog 72 #[.int .u32 n] w fun e w' => e = .returned (.int .i64 (popTo n 20 : Nat)) ∧ ∃ d, w' = w.drewN d := by
  have h0 : (n : Int) / 16777216 = 0 := by omega
  have h1 : bits .and .u32 ((n : Int) / 65536) 255 = ((n / 65536 % 256 : Nat) : Int) := by
    have := u32_and_nat (n / 65536) 255 (by omega) (by omega)
    rw [Nat.and_two_pow_sub_one_eq_mod _ 8] at this
    exact this
  have h2 : bits .and .u32 ((n : Int) / 256) 255 = ((n / 256 % 256 : Nat) : Int) := by
    have := u32_and_nat (n / 256) 255 (by omega) (by omega)
    rw [Nat.and_two_pow_sub_one_eq_mod _ 8] at this
    exact this
  have h3 : bits .and .u32 (n : Int) 255 = ((n % 256 : Nat) : Int) := by
    have := u32_and_nat n 255 (by omega) (by omega)
    rw [Nat.and_two_pow_sub_one_eq_mod _ 8] at this
    exact this
  obtain ⟨a, ha⟩ : ∃ a, n / 65536 % 256 = a := ⟨_, rfl⟩
  obtain ⟨b, hb⟩ : ∃ b, n / 256 % 256 = b := ⟨_, rfl⟩
  obtain ⟨c, hc⟩ : ∃ c, n % 256 = c := ⟨_, rfl⟩
  rw [ha] at h1
  rw [hb] at h2
  rw [hc] at h3
  have a1 : (a : Int) ≤ 255 := by omega
  have b1 : (b : Int) ≤ 255 := by omega
  have c1 : (c : Int) ≤ 255 := by omega
  have p0 : Lib.pop8 0 = 0 := by decide +kernel
  obtain ⟨pa1, pa2⟩ := pop8_bd a (by omega)
  obtain ⟨pb1, pb2⟩ := pop8_bd b (by omega)
  obtain ⟨pc1, pc2⟩ := pop8_bd c (by omega)
  have Ha := Lib.hid ha
  have Hb := Lib.hid hb
  have Hc := Lib.hid hc
  clear ha hb hc
  go_enter Try.func72, Try.ntmps72
  go_wp2
  simp only [List.append, Lib.fold_pop8tab]
  refine wp_region_quiet_lit (by kernel_rfl) (by kernel_rfl) ?_
  (repeat (first | go_big_quiet_step (fail) | quiet_step (fail)))
  refine wpQuiet_nil ?_
  intro _ hw'
  obtain ⟨nq, hw''⟩ := hw'
  subst hw''
  go_wp2
  go_ret
  exact ⟨ret_int (ones32_eq n a b c hn Ha.out Hb.out Hc.out), nq, rfl⟩
end Go.Proofs.Ythbmiibbnbbdgaa
