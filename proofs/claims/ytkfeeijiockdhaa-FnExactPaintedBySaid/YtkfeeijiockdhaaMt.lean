/- Chapter 5 of impl: sets of rectangles that are met. Chapter 5 of impl: the sets of rectangles that cells have; how many cells pierce all. -/
import Derived.Test.YtkfeeijiockdhaaPi
import Derived.Test.YtkfeeijiockdhaaMathV
import Derived.Test.YtkfeeijiockdhaaMe
import Derived.Test.YtkfeeijiockdhaaUni
import Derived.StillTailTactics
import Derived.Maps.AppendAt
import Derived.WalkSmall
namespace Go.Proofs.Ytkfeeijiockdhaa
open Go.RowKit Go.Sort
set_option linter.unusedVariables false
/-- Sets that lie at the head of a block g of the call's own. -/
def Us (w : World) (A : Option Addr) (n : Nat) (f : Nat → Nat) (g : Nat) : Prop :=
  n = 0 ∨ A = some ⟨g, 0, none⟩ ∧ g < w.heap.size ∧ (∀ i, i < n → w.cell? ⟨g, i, none⟩ = some (.int .u64 (f i : Nat))) ∧ ∀ o, o < n → w.frozen? ⟨g, o, none⟩ = false
theorem Us.below {w w' : World} {A : Option Addr} {n g : Nat} {f : Nat → Nat} (h : Us w A n f g) (hb : Below w.heap.size w w') : Us w' A n f g := by
  rcases h with h | ⟨ha, hl, hc, hf⟩
  · exact Or.inl h
  · exact Or.inr ⟨ha, Nat.lt_of_lt_of_le hl hb.size, fun i hi => (hb.cell (p := ⟨g, _, none⟩) hl).trans (hc i hi), fun o ho => (hb.frozen (p := ⟨g, o, none⟩) hl).trans (hf o ho)⟩
theorem Us.congr {w : World} {A : Option Addr} {n g : Nat} {f f' : Nat → Nat} (h : Us w A n f g) (hf : ∀ i, i < n → f i = f' i) : Us w A n f' g := by
  rcases h with h | ⟨ha, hl, hc, hz⟩
  · exact Or.inl h
  · exact Or.inr ⟨ha, hl, fun i hi => by rw [← hf i hi]; exact hc i hi, hz⟩
theorem Us.grown {w w' : World} {A : Option Addr} {n g g' : Nat} {f : Nat → Nat} (h : Us w A n f g) (hg : w.grownBy w' (some g')) (hn : g ≠ g') : Us w' A n f g := by
  rcases h with h | ⟨ha, hl, hc, hf⟩
  · exact Or.inl h
  · exact Or.inr ⟨ha, Nat.lt_of_lt_of_le hl hg.size, fun i hi => (grown_cell hg hl hn).trans (hc i hi), fun o ho => (grown_frozen hg hl hn).trans (hf o ho)⟩
theorem Us.set {w : World} {A : Option Addr} {n g k : Nat} {f f' : Nat → Nat} (h : Us w A n f g) (hk : k < n) (hf : ∀ i, i < n → i ≠ k → f i = f' i) : Us (w.setCell ⟨g, k, none⟩ (.int .u64 (f' k : Nat))) A n f' g := by
  rcases h with h | ⟨ha, hl, hc, hz⟩
  · omega
  · refine Or.inr ⟨ha, by simp [World.setCell]; exact hl, fun i hi => ?_, fun o ho => by rw [World.frozen?_setCell]; exact hz o ho⟩
    by_cases e : i = k
    · subst e; exact World.cell?_setCell_same' _ _ _ (by rw [hc i hi]; rfl)
    · rw [World.cell?_setCell_other _ ⟨g, k, none⟩ ⟨g, i, none⟩ _ (fun e => by injection e; omega), ← hf i hi e]; exact hc i hi
theorem Us.at_ {w : World} {A : Option Addr} {n g k : Nat} {f : Nat → Nat} (h : Us w A n f g) (hk : k < n) : A = some ⟨g, 0, none⟩ ∧ g < w.heap.size ∧ w.cell? ⟨g, k, none⟩ = some (.int .u64 (f k : Nat)) ∧ w.frozen? ⟨g, k, none⟩ = false := by
  rcases h with h | ⟨ha, hl, hc, hz⟩
  · omega
  · exact ⟨ha, hl, hc k hk, hz k hk⟩
theorem Bx.grownB {w w' : World} {b g : Nat} {r : Rt} (h : Bx w b r) (hg : w.grownBy w' (some g)) (hn : b ≠ g) : Bx w' b r := by
  obtain ⟨h1, ⟨c0, c1, c2, c3⟩, h3⟩ := h
  exact ⟨Nat.lt_of_lt_of_le h1 hg.size, ⟨(grown_cell hg h1 hn).trans c0, (grown_cell hg h1 hn).trans c1, (grown_cell hg h1 hn).trans c2, (grown_cell hg h1 hn).trans c3⟩, fun o => (grown_frozen hg h1 hn).trans (h3 o)⟩
theorem infoU : (Try.prog.info? 55).map (fun i => (i.zero, i.size, i.bytes)) = some (some (.int .u64 0), 1, 8) := by kernel_rfl
theorem make_sets (n c : Nat) (hn : n ≤ c) (hc : c ≤ 2000000) (w : World) :
    (Instr.makeSlice 51 (.int .i64 (n : Int)) (.int .i64 (c : Int))).run Try.prog w = .ok (.slice (some ⟨w.heap.size, 0, none⟩) n c) (w.alloc (.cells (madeCells #[.int .u64 0] c) 55)) := by
  obtain ⟨i, hi, hz, hs, hb⟩ := info_parts infoU
  have := run_make (P := Try.prog) w 51 55 i (.int .u64 0) Try.underlying51 hi hz .i64 .i64 n c (by omega) (by omega) (by rw [hb]; omega) (by omega)
  rw [hs, Nat.mul_one] at this
  exact this
theorem Us.made (w : World) (n : Nat) : Us (w.alloc (.cells (madeCells #[.int .u64 0] n) 55)) (some ⟨w.heap.size, 0, none⟩) n (fun _ => 0) w.heap.size := by
  have h1 : (w.alloc (.cells (madeCells #[.int .u64 0] n) 55)).heap[w.heap.size]? = some (.cells (madeCells #[.int .u64 0] n) 55 (0, 0)) := heap_alloc_new w _
  refine Or.inr ⟨rfl, by simp, fun o ho => ?_, fun o ho => by unfold World.frozen?; rw [h1]; simp⟩
  rw [cell_of_row (w.alloc (.cells (madeCells #[.int .u64 0] n) 55)) w.heap.size o (madeCells #[.int .u64 0] n) 55 (0, 0) h1]
  simp [madeCells, ho, Nat.mod_one]
theorem or_top_u : ∀ i : Fin 7, ∀ M : Fin 64, M.val < 2 ^ i.val → bits .or .u64 ((M.val : Nat) : Int) ((2 ^ i.val : Nat) : Int) = ((M.val + 2 ^ i.val : Nat) : Int) := by decide +kernel
theorem shl_u : ∀ n : Fin 8, IntKind.u64.wrap ((2 : Int) ^ n.val) = ((2 ^ n.val : Nat) : Int) := by decide +kernel
/-- which ones meet the i-th one -/
def metN (f : Nat → Rt) (n i : Nat) : Nat := maskI (fun j => cmB (f i) (f j)) n
theorem metN_lt (f : Nat → Rt) (n i : Nat) : metN f n i < 2 ^ n := maskI_lt _ _
/-- the table while the i-th row has its first j places -/
def metW (f : Nat → Rt) (n i j a : Nat) : Nat := if a < i then metN f n a else if a = i then maskI (fun j => cmB (f i) (f j)) j else 0
theorem metW_row (f : Nat → Rt) (n i a : Nat) : metW f n i n a = metW f n (i + 1) 0 a := by
  unfold metW
  rcases Nat.lt_trichotomy a i with h | h | h
  · rw [if_pos h, if_pos (by omega)]
  · subst h; rw [if_neg (by omega), if_pos rfl, if_pos (by omega)]; rfl
  · rw [if_neg (by omega), if_neg (by omega)]
    by_cases e : a = i + 1
    · rw [if_neg (by omega), if_pos e]; rfl
    · rw [if_neg (by omega), if_neg e]
theorem metW_no (f : Nat → Rt) (n i j a : Nat) (h : cmB (f i) (f j) = false) : metW f n i j a = metW f n i (j + 1) a := by
  unfold metW
  split
  · rfl
  · split
    · simp [maskI, h]
    · rfl
theorem metW_at (f : Nat → Rt) (n i j : Nat) : metW f n i j i = maskI (fun j => cmB (f i) (f j)) j := by unfold metW; rw [if_neg (by omega), if_pos rfl]
theorem metW_other (f : Nat → Rt) (n i j k a : Nat) (h : a ≠ i) : metW f n i j a = metW f n i k a := by
  unfold metW
  rw [if_neg h, if_neg h]
theorem metW_start (f : Nat → Rt) (n a : Nat) : 0 = metW f n 0 0 a := by
  unfold metW
  rw [if_neg (by omega)]
  split <;> rfl
theorem metW_all (f : Nat → Rt) (n a : Nat) (h : a < n) : metW f n n 0 a = metN f n a := by unfold metW; rw [if_pos h]
theorem allof_eq (n Q : Nat) (h : 2 ^ n - 1 = Q) (w : World) (hn : n ≤ 7) :
    Calls Try.prog 49 #[.int .i64 n] w fun e w' => e = .returned (.int .u64 (Q : Nat)) ∧ w = w' := h ▸ allof_any n w hn
theorem full_bits {s n : Nat} (h : s < 2 ^ n) : s = 2 ^ n - 1 ↔ ∀ i, i < n → s.testBit i = true := by
  constructor
  · intro e i hi; rw [e, Nat.testBit_two_pow_sub_one]; exact decide_eq_true hi
  · intro hh
    refine Nat.eq_of_testBit_eq fun i => ?_
    rw [Nat.testBit_two_pow_sub_one]
    by_cases hi : i < n
    · rw [hh i hi, decide_eq_true hi]
    · rw [decide_eq_false hi, Nat.testBit_lt_two_pow (Nat.lt_of_lt_of_le h (Nat.pow_le_pow_right (by omega) (by omega)))]
theorem met_full (f : Nat → Rt) (n i : Nat) : metN f n i = 2 ^ n - 1 ↔ ∀ j, j < n → cmB (f i) (f j) = true := by
  rw [full_bits (metN_lt f n i)]
  exact forall_congr' fun j => forall_congr' fun hj => by unfold metN; rw [maskI_bit _ n j hj]
theorem am_full {f : Nat → Rt} {n : Nat} (hl : laidF f n = true) : amF f n = true ↔ ∀ i, i < n → metN f n i = 2 ^ n - 1 := by
  obtain ⟨_, hok⟩ := laidF_ok hl
  rw [amF_iff]
  refine ⟨fun ⟨h, _⟩ i hi => (met_full f n i).2 fun j hj => ?_, fun h => ⟨fun i j hij hj => (met_full f n i).1 (h i (by omega)) j hj, hl⟩⟩
  rcases Nat.lt_trichotomy i j with e | e | e
  · exact h i j e hj
  · subst e; exact meet_self (okTo_le hok hi)
  · rw [meet_comm]; exact h j i e hi
/-- no two of a set meet, as the sets of those that are met have it -/
def apU (f : Nat → Rt) (n s : Nat) : Nat → Bool
  | 0 => true
  | k + 1 => apU f n s k && (!s.testBit k || decide (s &&& metN f n k = 2 ^ k))
theorem apU_no {f : Nat → Rt} {n s k : Nat} (h : s.testBit k = true) (h1 : s &&& metN f n k ≠ 2 ^ k) : ∀ m, k < m → apU f n s m = false := by
  intro m hm
  induction m with
  | zero => omega
  | succ m ih =>
    simp only [apU]
    by_cases e : k = m
    · subst e; rw [h, decide_eq_false h1]; simp
    · rw [ih (by omega)]; rfl
theorem apU_iff (f : Nat → Rt) (n s m : Nat) : apU f n s m = true ↔ ∀ k, k < m → s.testBit k = true → s &&& metN f n k = 2 ^ k := by
  induction m with
  | zero => exact ⟨fun _ k hk => by omega, fun _ => rfl⟩
  | succ m ih =>
    simp only [apU, Bool.and_eq_true, Bool.or_eq_true, Bool.not_eq_true', decide_eq_true_eq]; rw [ih]
    refine ⟨fun ⟨h1, h2⟩ k hk hb => ?_, fun h => ⟨fun k hk => h k (by omega), ?_⟩⟩
    · by_cases e : k = m
      · subst e
        rcases h2 with h2 | h2
        · rw [hb] at h2; cases h2
        · exact h2
      · exact h1 k (by omega) hb
    · cases hb : s.testBit m
      · exact Or.inl rfl
      · exact Or.inr (h m (by omega) hb)
theorem apU_all {f : Nat → Rt} {n s : Nat} (hok : okTo f n = true) (hs : s < 2 ^ n) : apU f n s n = aall f s n := by
  rw [Bool.eq_iff_iff, apU_iff, aall_iff]
  have far : ∀ i, n ≤ i → s.testBit i = false := fun i hi => Nat.testBit_lt_two_pow (Nat.lt_of_lt_of_le hs (Nat.pow_le_pow_right (by omega) hi))
  constructor
  · intro h i j hij hj hi hj'
    have e := h i (by omega) hi
    have := congrArg (·.testBit j) e
    simp only [Nat.testBit_and, Nat.testBit_two_pow] at this
    unfold metN at this
    rw [show s.testBit j = true from hj', maskI_bit _ n j hj, decide_eq_false (by omega)] at this
    simpa using this
  · intro h k hk hb
    refine Nat.eq_of_testBit_eq fun i => ?_
    rw [Nat.testBit_and, Nat.testBit_two_pow]
    by_cases hi : i < n
    · unfold metN
      rw [maskI_bit _ n i hi]
      rcases Nat.lt_trichotomy i k with e | e | e
      · rw [decide_eq_false (by omega)]
        cases hbi : s.testBit i
        · rfl
        · rw [meet_comm, h i k e hk hbi hb]; rfl
      · subst e; rw [hb, meet_self (okTo_le hok hk), decide_eq_true rfl]; rfl
      · rw [decide_eq_false (by omega)]
        cases hbi : s.testBit i
        · rfl
        · rw [h k i e hi hb hbi]; rfl
    · rw [far i (by omega), decide_eq_false (by omega)]; rfl

set_option maxHeartbeats 400000 in
set_option maxRecDepth 20000 in
theorem imt_any (a b : Rt) (w : World) :
    Calls Try.prog 25 #[rv a, rv b] w fun e w' => e = .returned (.bool (cmB a b)) ∧ Below w.heap.size w w' := by
  go_enter Try.func25, Try.ntmps25
  go_wp2_with fail
  refine (icm_any a b _).mono ?_; rintro e w1 ⟨rfl, hb1⟩; have hz1 := hb1.size; (try simp at hz1); have _ : w.heap.size < w1.heap.size := (by first | (simp; done) | omega | (simp; omega)); have _ : w.heap.size + 1 < w1.heap.size := (by first | (simp; done) | omega | (simp; omega)); have _ := fun o => hb1.cell (p := ⟨w.heap.size, o, none⟩) (by first | (simp; done) | omega | (simp; omega)); have _ := fun o => hb1.cell (p := ⟨w.heap.size + 1, o, none⟩) (by first | (simp; done) | omega | (simp; omega))
  go_wp2
  go_ret
  exact ⟨rfl, by (repeat (first | with_reducible exact Below.refl _ _ | with_reducible assumption | ((with_reducible refine Below.alloc ?_ ?_ _); rotate_left; focus (first | with_reducible exact Nat.le_refl _ | omega | (simp; done) | (simp; omega))) | ((with_reducible refine Below.setCell ?_ ?_ _); rotate_left; focus (first | with_reducible exact Nat.le_refl _ | omega | (simp; done) | (simp; omega))) | (with_reducible refine Below.drew ?_) | ((with_reducible refine Below.trans ?_ (Below.mono (by with_reducible assumption) ?_)); rotate_left; focus (first | with_reducible exact Nat.le_refl _ | omega | (simp; done) | (simp; omega)))))⟩
theorem imt_val (a b : Rt) (v : Bool) (h : cmB a b = v) (w : World) :
    Calls Try.prog 25 #[rv a, rv b] w fun e w' => e = .returned (.bool v) ∧ Below w.heap.size w w' := h ▸ imt_any a b w

/-- While the table is made: it lies at g; nothing of before has changed. -/
structure MetP (w wr : World) (g n : Nat) (T : Nat → Nat) : Prop where
  us : Us wr (some ⟨g, 0, none⟩) n T g
  bel : Below w.heap.size w wr
  lt : g < wr.heap.size
theorem MetP.below {w wr w' : World} {g n : Nat} {T : Nat → Nat} (h : MetP w wr g n T) (hb : Below wr.heap.size wr w') : MetP w w' g n T :=
  ⟨h.us.below hb, h.bel.trans (hb.mono h.bel.size), Nat.lt_of_lt_of_le h.lt hb.size⟩
set_option maxHeartbeats 2000000 in
set_option maxRecDepth 10000 in
theorem met_any (A : Option Addr) (n cap : Nat) (f : Nat → Rt) (w : World) (h7 : n ≤ 7) (hr : Rs w A n f) :
    Calls Try.prog 57 #[.slice A n cap] w fun e w' => ∃ g, e = .returned (.slice (some ⟨g, 0, none⟩) n n) ∧ w.heap.size ≤ g ∧ Us w' (some ⟨g, 0, none⟩) n (metN f n) g ∧ Below w.heap.size w w' ∧ g < w'.heap.size := by
  have Hr := Lib.hid hr
  clear hr
  have hmk := make_sets n n (Nat.le_refl _) (by omega)
  go_enter Try.func57, Try.ntmps57
  go_wp2
  go_loopw [13] (fun s wr => ∃ i : Nat, i ≤ n ∧ s = .int .i64 i ∧ MetP w wr w.heap.size n (metW f n i 0)) (fun s _ => n - (intOf s).toNat)
  case atStart => exact ⟨0, Nat.zero_le _, rfl, (Us.made w n).congr (fun a _ => metW_start f n a), (Below.refl _ _).alloc (Nat.le_refl _) _, by simp⟩
  case round =>
    obtain ⟨i, hi, rfl, hmp⟩ := hrel
    have HMP := Lib.hid hmp
    have hbr := hmp.bel
    have hzr := hbr.size
    clear hmp
    rename World => wo
    by_cases hlt : i < n
    · obtain ⟨b, off, rfl, hbl, c0, c1, c2, c3⟩ := (Hr.out.below hbr).at_ hlt
      go_wp2
      refine name_world (fun wp hW => ?_)
      have hbp : Below wo.heap.size wo wp := by subst hW; exact (Below.refl _ _).alloc (Nat.le_refl _) _
      have HBX : Hid (Bx wp wo.heap.size (f i)) := Lib.hid (by subst hW; exact Bx.alloc wo _ (f i))
      have HMQ := Lib.hid (HMP.out.below hbp)
      have hzp := hbp.size
      clear hW
      go_loopw [20] (fun s wi => ∃ j : Nat, j ≤ n ∧ s = .int .i64 j ∧ MetP w wi w.heap.size n (metW f n i j) ∧ Bx wi wo.heap.size (f i)) (fun s _ => n - (intOf s).toNat)
      case atStart => exact ⟨0, Nat.zero_le _, rfl, HMQ.out, HBX.out⟩
      case round =>
        obtain ⟨j, hj, rfl, hmj, hbx⟩ := hrel
        have HMJ := Lib.hid hmj
        have HBX2 := Lib.hid hbx
        have hbi := hmj.bel
        have hzi := hbi.size
        obtain ⟨q0, ⟨q1, q2, q3, q4⟩, _⟩ := hbx
        simp only [Nat.zero_add] at q1 q2 q3 q4
        clear hmj
        by_cases hlt2 : j < n
        · obtain ⟨_, _, hAA, hbl2, d0, d1, d2, d3⟩ := (Hr.out.below hbi).at_ hlt2
          cases hAA
          cases hc : cmB (f i) (f j)
          · go_wp2_with fail
            refine (imt_val (f i) (f j) false hc _).mono ?_; rintro e w1 ⟨rfl, hb1⟩; have hz1 := hb1.size; (try simp at hz1); have _ : wo.heap.size < w1.heap.size := (by first | (simp; done) | omega | (simp; omega)); have _ := fun o => hb1.cell (p := ⟨wo.heap.size, o, none⟩) (by first | (simp; done) | omega | (simp; omega))
            have hB1 : Below wr.heap.size wr w1 := by (repeat (first | with_reducible exact Below.refl _ _ | with_reducible assumption | ((with_reducible refine Below.alloc ?_ ?_ _); rotate_left; focus (first | with_reducible exact Nat.le_refl _ | omega | (simp; done) | (simp; omega))) | ((with_reducible refine Below.setCell ?_ ?_ _); rotate_left; focus (first | with_reducible exact Nat.le_refl _ | omega | (simp; done) | (simp; omega))) | (with_reducible refine Below.drew ?_) | ((with_reducible refine Below.trans ?_ (Below.mono (by with_reducible assumption) ?_)); rotate_left; focus (first | with_reducible exact Nat.le_refl _ | omega | (simp; done) | (simp; omega)))))
            go_wp2
            go_roundw
            case rel => exact ⟨j + 1, by omega, by go_num, ⟨(HMJ.out.us.below hB1).congr (fun a _ => metW_no f n i j a hc), HMJ.out.bel.trans (hB1.mono HMJ.out.bel.size), Nat.lt_of_lt_of_le HMJ.out.lt hB1.size⟩, HBX2.out.below hB1⟩
            case measure => simp [intOf]; omega
          · go_wp2_with fail
            refine (imt_val (f i) (f j) true hc _).mono ?_; rintro e w1 ⟨rfl, hb1⟩; have hz1 := hb1.size; (try simp at hz1); have _ : wo.heap.size < w1.heap.size := (by first | (simp; done) | omega | (simp; omega)); have _ := fun o => hb1.cell (p := ⟨wo.heap.size, o, none⟩) (by first | (simp; done) | omega | (simp; omega))
            have hB1 : Below wr.heap.size wr w1 := by (repeat (first | with_reducible exact Below.refl _ _ | with_reducible assumption | ((with_reducible refine Below.alloc ?_ ?_ _); rotate_left; focus (first | with_reducible exact Nat.le_refl _ | omega | (simp; done) | (simp; omega))) | ((with_reducible refine Below.setCell ?_ ?_ _); rotate_left; focus (first | with_reducible exact Nat.le_refl _ | omega | (simp; done) | (simp; omega))) | (with_reducible refine Below.drew ?_) | ((with_reducible refine Below.trans ?_ (Below.mono (by with_reducible assumption) ?_)); rotate_left; focus (first | with_reducible exact Nat.le_refl _ | omega | (simp; done) | (simp; omega)))))
            have HB1 := Lib.hid hB1
            have hg1 : w.heap.size < w1.heap.size := Nat.lt_of_lt_of_le HMJ.out.lt hB1.size
            obtain ⟨_, _, e0, e1⟩ := (HMJ.out.us.below hB1).at_ hlt
            rw [metW_at] at e0
            clear hB1
            have hM := maskI_lt (fun j => cmB (f i) (f j)) j
            have hP := pow_le7 j (by omega)
            have hP2 : 2 ^ j ≤ 64 := by have := Nat.pow_le_pow_right (n := 2) (by omega) (show j ≤ 6 by omega); omega
            have hor := or_top_u ⟨j, by omega⟩ ⟨maskI (fun j => cmB (f i) (f j)) j, by omega⟩ hM
            have hsh := shl_u ⟨j, by omega⟩
            dsimp only at hor hsh
            have HMs : Hid (maskI (fun j => cmB (f i) (f j)) (j + 1) = maskI (fun j => cmB (f i) (f j)) j + 2 ^ j) := Lib.hid (by simp [maskI, hc])
            generalize hMM : maskI (fun j => cmB (f i) (f j)) j = M at hM hor e0
            have HMM := Lib.hid hMM
            clear hMM
            generalize hPP : 2 ^ j = P at hM hor hsh hP hP2
            have HPP := Lib.hid hPP
            clear hPP
            go_wp2
            go_still_tail 8, (by kernel_rfl)
            go_wp2
            go_roundw
            case rel =>
              have hs := (HMJ.out.us.below HB1.out).set (k := i) (f' := metW f n i (j + 1)) hlt (fun a _ hne => metW_other f n i j (j + 1) a hne)
              rw [metW_at, HMs.out, HMM.out, HPP.out, Int.natCast_add] at hs
              have hb9 : Below w.heap.size w w1 := HMJ.out.bel.trans (HB1.out.mono HMJ.out.bel.size)
              refine ⟨j + 1, by omega, by go_num, ⟨hs, by (repeat (first | with_reducible exact Below.refl _ _ | with_reducible assumption | ((with_reducible refine Below.alloc ?_ ?_ _); rotate_left; focus (first | with_reducible exact Nat.le_refl _ | omega | (simp; done) | (simp; omega))) | ((with_reducible refine Below.setCell ?_ ?_ _); rotate_left; focus (first | with_reducible exact Nat.le_refl _ | omega | (simp; done) | (simp; omega))) | (with_reducible refine Below.drew ?_) | ((with_reducible refine Below.trans ?_ (Below.mono (by with_reducible assumption) ?_)); rotate_left; focus (first | with_reducible exact Nat.le_refl _ | omega | (simp; done) | (simp; omega))))), by simpa [World.setCell] using hg1⟩, ?_⟩
              exact (HBX2.out.below HB1.out).grownB (grown_drew (grown_setCell (o := i) (World.grownBy.refl _ _) _)) (by have := HMP.out.lt; omega)
            case measure => simp [intOf]; omega
        · obtain rfl : j = n := by omega
          go_wp2
          go_roundw
          case rel => exact ⟨i + 1, by omega, by go_num, HMJ.out.us.congr (fun a _ => metW_row f j i a), HMJ.out.bel, HMJ.out.lt⟩
          case measure => simp [intOf]; omega
    · obtain rfl : i = n := by omega
      go_wp2
      go_ret
      exact ⟨_, rfl, Nat.le_refl _, HMP.out.us.congr (fun a ha => metW_all f i a ha), HMP.out.bel, HMP.out.lt⟩

set_option maxHeartbeats 2000000 in
set_option maxRecDepth 20000 in
theorem iam_any (A : Option Addr) (n cap : Nat) (f : Nat → Rt) (w : World) (hn : n ≤ maxLen) (hr : Rs w A n f) :
    Calls Try.prog 30 #[.slice A n cap] w fun e w' => e = .returned (.bool (amF f n)) ∧ Below w.heap.size w w' := by
  have Hn := Lib.hid hn
  have Hr := Lib.hid hr
  clear hn hr
  cases hl : laidF f n
  · have H : Hid (amF f n = false) := Lib.hid (by unfold amF; rw [hl, Bool.and_false])
    go_enter Try.func30, Try.ntmps30
    go_wp2_with fail
    refine (ilaid_val A n cap f false hl _ Hn.out Hr.out).mono ?_; rintro e w1 ⟨rfl, hb1⟩; have hz1 := hb1.size; (try simp at hz1)
    go_wp2
    go_ret
    exact ⟨ret_bool (by rw [H.out]), by (repeat (first | with_reducible exact Below.refl _ _ | with_reducible assumption | ((with_reducible refine Below.alloc ?_ ?_ _); rotate_left; focus (first | with_reducible exact Nat.le_refl _ | omega | (simp; done) | (simp; omega))) | ((with_reducible refine Below.setCell ?_ ?_ _); rotate_left; focus (first | with_reducible exact Nat.le_refl _ | omega | (simp; done) | (simp; omega))) | (with_reducible refine Below.drew ?_) | ((with_reducible refine Below.trans ?_ (Below.mono (by with_reducible assumption) ?_)); rotate_left; focus (first | with_reducible exact Nat.le_refl _ | omega | (simp; done) | (simp; omega)))))⟩
  · obtain ⟨h7, hok⟩ := laidF_ok hl
    go_enter Try.func30, Try.ntmps30
    go_wp2_with fail
    refine (ilaid_val A n cap f true hl _ Hn.out Hr.out).mono ?_; rintro e w1 ⟨rfl, hb1⟩; have hz1 := hb1.size; (try simp at hz1)
    go_wp2_with fail
    refine (met_any A n cap f _ h7 (Hr.out.below hb1)).mono ?_; rintro e w2 ⟨g, rfl, hg, hus, hb2, hgl⟩
    have HU := Lib.hid hus
    have HB : Hid (Below w.heap.size w w2) := Lib.hid (hb1.trans (hb2.mono hb1.size))
    clear hus hb1 hb2 hok
    go_wp2
    go_loopw [11] (fun s wr => ∃ i : Nat, i ≤ n ∧ s = .int .i64 i ∧ (∀ k, k < i → metN f n k = 2 ^ n - 1) ∧ w2 = wr) (fun s _ => n - (intOf s).toNat)
    case atStart => exact ⟨0, Nat.zero_le _, rfl, fun k hk => by omega, by trivial⟩
    case round =>
      obtain ⟨i, hi, rfl, hall, rfl⟩ := hrel
      have HA := Lib.hid hall
      clear hall
      by_cases hlt : i < n
      · obtain ⟨_, _, e0, _⟩ := HU.out.at_ hlt
        have HL : Hid (laidF f n = true) := Lib.hid hl
        by_cases hm : metN f n i = 2 ^ n - 1
        · have Hm := Lib.hid hm
          rw [hm] at e0
          clear hm
          go_wp2_with fail
          refine (allof_any n _ h7).mono ?_; rintro e w' ⟨rfl, rfl⟩
          go_wp2
          go_roundw
          case rel => exact ⟨i + 1, by omega, by go_num, fun k hk => by
            by_cases e : k = i
            · subst e; exact Hm.out
            · exact HA.out k (by omega), by trivial⟩
          case measure => simp [intOf]; omega
        · have H : Hid (amF f n = false) := Lib.hid (by rw [← Bool.not_eq_true, am_full hl]; exact fun h => hm (h i hlt))
          generalize hX : metN f n i = X at e0 hm
          generalize hY : 2 ^ n - 1 = Y at hm
          have HY := Lib.hid hY
          clear hX hY
          go_wp2_with fail
          refine (allof_eq n Y HY.out _ h7).mono ?_; rintro e w' ⟨rfl, rfl⟩
          have hne : ((X : Int) == (Y : Int)) = false := by simp; omega
          go_wp2
          go_ret
          exact ⟨ret_bool (by rw [H.out]), HB.out⟩
      · obtain rfl : i = n := by omega
        have H : Hid (amF f i = true) := Lib.hid ((am_full hl).2 HA.out)
        go_wp2
        go_ret
        exact ⟨ret_bool (by rw [H.out]), HB.out⟩
theorem iam_val (A : Option Addr) (n cap : Nat) (f : Nat → Rt) (v : Bool) (h : amF f n = v) (w : World) (hn : n ≤ maxLen) (hr : Rs w A n f) :
    Calls Try.prog 30 #[.slice A n cap] w fun e w' => e = .returned (.bool v) ∧ Below w.heap.size w w' := h ▸ iam_any A n cap f w hn hr

theorem and_u (a b : Nat) (ha : a < 128) (hb : b < 128) : bits .and .u64 (a : Int) (b : Int) = ((a &&& b : Nat) : Int) := u64_and_nat a b (by omega) (by omega)
theorem has_bel (s i : Nat) (v : Bool) (h : s.testBit i = v) (w : World) (hs : s < 128) (hi : i < 7) :
    Calls Try.prog 79 #[.int .u64 s, .int .i64 i] w fun e w' => e = .returned (.bool v) ∧ Below w.heap.size w w' :=
  (has_val s i v h w hs hi).mono (by rintro e w' ⟨rfl, rfl⟩; exact ⟨rfl, Below.refl _ _⟩)
set_option maxHeartbeats 2000000 in
set_option maxRecDepth 20000 in
theorem apart_any (s : Nat) (A : Option Addr) (n cap g : Nat) (f : Nat → Rt) (w : World) (h7 : n ≤ 7) (hs : s < 128) (hu : Us w A n (metN f n) g) :
    Calls Try.prog 55 #[.int .u64 s, .slice A n cap] w fun e w' => e = .returned (.bool (apU f n s n)) ∧ Below w.heap.size w w' := by
  have HU := Lib.hid hu
  clear hu
  go_enter Try.func55, Try.ntmps55
  go_wp2
  go_loopw [8] (fun t wr => ∃ i : Nat, i ≤ n ∧ t = .int .i64 i ∧ apU f n s i = true ∧ Below w.heap.size w wr) (fun t _ => n - (intOf t).toNat)
  case atStart => exact ⟨0, Nat.zero_le _, rfl, rfl, Below.refl _ _⟩
  case round =>
    obtain ⟨i, hi, rfl, hap, hbr⟩ := hrel
    have HA := Lib.hid hap
    have hzr := hbr.size
    clear hap
    by_cases hlt : i < n
    · obtain ⟨rfl, hgl, e0, _⟩ := (HU.out.below hbr).at_ hlt
      have hmb : metN f n i < 128 := Nat.lt_of_lt_of_le (metN_lt f n i) (pow_le7 n h7)
      have hst : Hid (apU f n s (i + 1) = (apU f n s i && (!s.testBit i || decide (s &&& metN f n i = 2 ^ i)))) := Lib.hid rfl
      cases hb : s.testBit i
      · go_wp2_with fail
        have hq : True := trivial; have hq := fun d os o => (below_regrown wr d os).cell (p := ⟨g, o, none⟩) (by first | (simp; done) | omega | (simp; omega)); refine wp_region_quiet_below (by kernel_rfl) (by kernel_rfl) ?_; (repeat (first | go_big_quiet_step (exact Calls.regrown_of (has_bel s i false (by assumption) _ hs (by omega))) | quiet_step (exact Calls.regrown_of (has_bel s i false (by assumption) _ hs (by omega))))); refine wpQuiet_nil ?_; intro _ hw'; obtain ⟨⟨dq, osq⟩, hw''⟩ := hw'; subst hw''; clear hq; have hb1 := below_regrown wr dq osq; generalize Sort.grow (redrawn wr dq) osq = w1 at hb1 ⊢; have hz1 := hb1.size; (try simp at hz1); have _ : g < w1.heap.size := (by first | (simp; done) | omega | (simp; omega)); have _ := fun o => hb1.cell (p := ⟨g, o, none⟩) (by first | (simp; done) | omega | (simp; omega))
        go_wp2
        go_roundw
        case rel => exact ⟨i + 1, by omega, by go_num, by rw [hst.out, HA.out, hb]; rfl, by (repeat (first | with_reducible exact Below.refl _ _ | with_reducible assumption | ((with_reducible refine Below.alloc ?_ ?_ _); rotate_left; focus (first | with_reducible exact Nat.le_refl _ | omega | (simp; done) | (simp; omega))) | ((with_reducible refine Below.setCell ?_ ?_ _); rotate_left; focus (first | with_reducible exact Nat.le_refl _ | omega | (simp; done) | (simp; omega))) | (with_reducible refine Below.drew ?_) | ((with_reducible refine Below.trans ?_ (Below.mono (by with_reducible assumption) ?_)); rotate_left; focus (first | with_reducible exact Nat.le_refl _ | omega | (simp; done) | (simp; omega)))))⟩
        case measure => simp [intOf]; omega
      · have hand := and_u s (metN f n i) hs hmb
        have hsh := shl_u ⟨i, by omega⟩
        have hP2 : 2 ^ i ≤ 64 := by have := Nat.pow_le_pow_right (n := 2) (by omega) (show i ≤ 6 by omega); omega
        dsimp only at hsh
        by_cases he : s &&& metN f n i = 2 ^ i
        · have He := Lib.hid he
          rw [he] at hand
          generalize hPP : 2 ^ i = P at hsh hP2 hand
          generalize hMM : metN f n i = M at e0 hmb hand
          clear hPP hMM he
          go_wp2_with fail
          have hq : True := trivial; have hq := fun d os o => (below_regrown wr d os).cell (p := ⟨g, o, none⟩) (by first | (simp; done) | omega | (simp; omega)); refine wp_region_quiet_below (by kernel_rfl) (by kernel_rfl) ?_; (repeat (first | go_big_quiet_step (exact Calls.regrown_of (has_bel s i true (by assumption) _ hs (by omega))) | quiet_step (exact Calls.regrown_of (has_bel s i true (by assumption) _ hs (by omega))))); refine wpQuiet_nil ?_; intro _ hw'; obtain ⟨⟨dq, osq⟩, hw''⟩ := hw'; subst hw''; clear hq; have hb1 := below_regrown wr dq osq; generalize Sort.grow (redrawn wr dq) osq = w1 at hb1 ⊢; have hz1 := hb1.size; (try simp at hz1); have _ : g < w1.heap.size := (by first | (simp; done) | omega | (simp; omega)); have _ := fun o => hb1.cell (p := ⟨g, o, none⟩) (by first | (simp; done) | omega | (simp; omega))
          go_wp2
          go_roundw
          case rel => exact ⟨i + 1, by omega, by go_num, by rw [hst.out, HA.out, hb, decide_eq_true He.out]; rfl, by (repeat (first | with_reducible exact Below.refl _ _ | with_reducible assumption | ((with_reducible refine Below.alloc ?_ ?_ _); rotate_left; focus (first | with_reducible exact Nat.le_refl _ | omega | (simp; done) | (simp; omega))) | ((with_reducible refine Below.setCell ?_ ?_ _); rotate_left; focus (first | with_reducible exact Nat.le_refl _ | omega | (simp; done) | (simp; omega))) | (with_reducible refine Below.drew ?_) | ((with_reducible refine Below.trans ?_ (Below.mono (by with_reducible assumption) ?_)); rotate_left; focus (first | with_reducible exact Nat.le_refl _ | omega | (simp; done) | (simp; omega)))))⟩
          case measure => simp [intOf]; omega
        · have H := Lib.hid (apU_no hb he n hlt)
          generalize hPP : 2 ^ i = P at hsh hP2 he
          generalize hXX : s &&& metN f n i = X at hand he
          generalize hMM : metN f n i = M at e0 hmb hand
          clear hPP hMM hXX
          have hne : ((X : Int) == (P : Int)) = false := by simp; omega
          go_wp2_with fail
          have hq : True := trivial; have hq := fun d os o => (below_regrown wr d os).cell (p := ⟨g, o, none⟩) (by first | (simp; done) | omega | (simp; omega)); refine wp_region_quiet_below (by kernel_rfl) (by kernel_rfl) ?_; (repeat (first | go_big_quiet_step (exact Calls.regrown_of (has_bel s i true (by assumption) _ hs (by omega))) | quiet_step (exact Calls.regrown_of (has_bel s i true (by assumption) _ hs (by omega))))); refine wpQuiet_nil ?_; intro _ hw'; obtain ⟨⟨dq, osq⟩, hw''⟩ := hw'; subst hw''; clear hq; have hb1 := below_regrown wr dq osq; generalize Sort.grow (redrawn wr dq) osq = w1 at hb1 ⊢; have hz1 := hb1.size; (try simp at hz1); have _ : g < w1.heap.size := (by first | (simp; done) | omega | (simp; omega)); have _ := fun o => hb1.cell (p := ⟨g, o, none⟩) (by first | (simp; done) | omega | (simp; omega))
          go_wp2
          go_ret
          exact ⟨ret_bool (by rw [H.out]), by (repeat (first | with_reducible exact Below.refl _ _ | with_reducible assumption | ((with_reducible refine Below.alloc ?_ ?_ _); rotate_left; focus (first | with_reducible exact Nat.le_refl _ | omega | (simp; done) | (simp; omega))) | ((with_reducible refine Below.setCell ?_ ?_ _); rotate_left; focus (first | with_reducible exact Nat.le_refl _ | omega | (simp; done) | (simp; omega))) | (with_reducible refine Below.drew ?_) | ((with_reducible refine Below.trans ?_ (Below.mono (by with_reducible assumption) ?_)); rotate_left; focus (first | with_reducible exact Nat.le_refl _ | omega | (simp; done) | (simp; omega)))))⟩
    · obtain rfl : i = n := by omega
      go_wp2
      go_ret
      exact ⟨ret_bool (by rw [HA.out]), hbr⟩
end Go.Proofs.Ytkfeeijiockdhaa
namespace Go.Proofs.Ytkfeeijiockdhaa
open Go.RowKit Go.Sort
set_option linter.unusedVariables false
/-- A list of sets in a slice that can be read. -/
def Ur (w : World) (A : Option Addr) (st : List Nat) : Prop :=
  st = [] ∨ ∃ b, A = some ⟨b, 0, none⟩ ∧ b < w.heap.size ∧ ∀ k s, st[k]? = some s → w.cell? ⟨b, k, none⟩ = some (.int .u64 (s : Nat))
theorem Ur.below {w w' : World} {A : Option Addr} {st : List Nat} (h : Ur w A st) (hb : Below w.heap.size w w') : Ur w' A st := by
  rcases h with h | ⟨b, ha, hl, hc⟩
  · exact Or.inl h
  · exact Or.inr ⟨b, ha, Nat.lt_of_lt_of_le hl hb.size, fun k s hk => (hb.cell (p := ⟨b, _, none⟩) hl).trans (hc k s hk)⟩
theorem Ur.at_ {w : World} {A : Option Addr} {st : List Nat} {k s : Nat} (h : Ur w A st) (hk : st[k]? = some s) : ∃ b, A = some ⟨b, 0, none⟩ ∧ b < w.heap.size ∧ w.cell? ⟨b, k, none⟩ = some (.int .u64 (s : Nat)) := by
  rcases h with h | ⟨b, ha, hl, hc⟩
  · subst h; cases hk
  · exact ⟨b, ha, hl, hc k s hk⟩
def setL (st : List Nat) : List Value := st.map fun a => Value.int .u64 (a : Nat)
theorem setL_len (st : List Nat) : (setL st).length = st.length := by simp [setL]
theorem setL_snoc (st : List Nat) (k : Nat) : setL (st ++ [k]) = setL st ++ [.int .u64 (k : Nat)] := by simp [setL]
/-- A list of sets in a slice of the call's own. -/
def StU (w : World) (base : Nat) (v : Value) (st : List Nat) : Prop := w.ownsRow base 55 1 v st.length (setL st)
theorem StU.nil (w : World) (base : Nat) : StU w base (.slice none 0 0) [] := ⟨rfl, Or.inl ⟨rfl, rfl⟩⟩
theorem StU.below {w w' : World} {base : Nat} {v : Value} {st : List Nat} (H : StU w base v st) (hb : Below w.heap.size w w') : StU w' base v st := by
  refine ⟨H.1, ?_⟩
  rcases H.2 with h0 | ⟨g, c, cur, h1, h2, h3, h4⟩
  · exact Or.inl h0
  · refine Or.inr ⟨g, c, cur, h1, h2, ?_, h4⟩
    rw [hb.block g ((Array.getElem?_eq_some_iff.1 h3).choose)]; exact h3
theorem StU.alloc {w : World} {base : Nat} {v : Value} {st : List Nat} (H : StU w base v st) (o : Obj) : StU (w.alloc o) base v st := H.below ((Below.refl _ _).alloc (Nat.le_refl _) _)
theorem StU.ur {w : World} {base : Nat} {v : Value} {st : List Nat} (H : StU w base v st) : ∃ A cap, v = .slice A st.length cap ∧ Ur w A st := by
  rcases H.2 with ⟨h0, h1⟩ | ⟨g, c, cur, h1, h2, h3, h4⟩
  · exact ⟨none, 0, by rw [h0, h1], Or.inl (List.eq_nil_of_length_eq_zero h1)⟩
  · subst h1
    refine ⟨_, c, rfl, Or.inr ⟨g, rfl, (Array.getElem?_eq_some_iff.1 h3).choose, fun k s hk => ?_⟩⟩
    have hl : k < st.length := (List.getElem?_eq_some_iff.1 hk).choose
    rw [World.ownsRow.cellAt H k (by omega)]
    unfold setL
    rw [List.getElem?_map, hk]; rfl
/-- A set is appended. -/
theorem list_set1 (w : World) {ops : Array Oper} {rest : List Oper} {o : Oper} {a : Act} {Q : Exit → Act → World → Prop} (hgd : o.guard = none) (s x : Operand) (ho : o.op = .call { callee := .builtin .append, args := #[s, x], argTypes := #[51, 51] })
    (base : Nat) (v : Value) (st : List Nat) (hs : a.eval s = v) (hown : StU w base v st) (b j : Nat) (hx : a.eval x = .slice (some ⟨b, 0, none⟩) 1 1)
    (hc : w.cell? ⟨b, 0, none⟩ = some (.int .u64 (j : Nat))) (hsz : st.length ≤ 1000000) (hbase : base ≤ w.heap.size)
    (hh : ∀ v' w', StU w' base v' (st ++ [j]) → Below base w w' → w.grownBy w' v.ownBlock → (v'.ownBlock = v.ownBlock ∨ v'.ownBlock = some w.heap.size) → wpList Try.prog ops Q rest (a.put o.dst v') w') : wpList Try.prog ops Q (o :: rest) a w := by
  obtain ⟨i0, hi, hz, hsi, hby⟩ := info_parts infoU
  refine wpList_append_own_at w hgd s x 51 ho base 55 i0 (.int .u64 0) 1 8 Try.underlying51 hi hz hsi hby rfl (by omega) v st.length (setL st) hs hown ⟨b, 0, none⟩ 1 1 [.int .u64 (j : Nat)] hx rfl (fun i u hu => ?_) (fun u hu => by simp at hu; subst hu; rfl) (by unfold maxLen; omega) (by omega) hbase (fun v' w' h2 h3 h4 h5 => ?_)
  · cases i with
    | zero => simp at hu; subst hu; exact hc
    | succ i => simp at hu
  · refine hh v' w' ?_ (own_below hown h3 hbase) h3 h5
    unfold StU
    rw [List.length_append, List.length_singleton, setL_snoc]
    exact h2

theorem Bx.grownV {w w' : World} {b : Nat} {row : Option Nat} {r : Rt} (h : Bx w b r) (hg : w.grownBy w' row) (hn : row ≠ some b) : Bx w' b r := by
  have hb := hg.block b h.1 (fun e => hn (by first | exact e | exact e.symm))
  obtain ⟨h1, ⟨c0, c1, c2, c3⟩, h3⟩ := h
  exact ⟨Nat.lt_of_lt_of_le h1 hg.size, ⟨(World.cell?_of_block (w := w) hb).trans c0, (World.cell?_of_block (w := w) hb).trans c1, (World.cell?_of_block (w := w) hb).trans c2, (World.cell?_of_block (w := w) hb).trans c3⟩, fun o => (World.frozen?_of_block (w := w) hb).trans (h3 o)⟩
theorem hav_bit {r : Rt} {x y : Int} : insideB ⟨x, y, x + 1, y + 1⟩ r = hasB r x y := by
  rw [Bool.eq_iff_iff, hasB_iff]; unfold insideB; rw [decide_eq_true_iff]; dsimp only; omega
theorem within_val (a b : Rt) (v : Bool) (h : insideB a b = v) (w : World) :
    Calls Try.prog 88 #[rv a, rv b] w fun e w' => e = .returned (.bool v) ∧ Below w.heap.size w w' := h ▸ within_any a b w
set_option maxHeartbeats 2000000 in
set_option maxRecDepth 20000 in
theorem hav_any (A : Option Addr) (n cap : Nat) (f : Nat → Rt) (x y : Int) (w : World) (h7 : n ≤ 7) (hx : 0 ≤ x ∧ x ≤ 20) (hy : 0 ≤ y ∧ y ≤ 20) (hr : Rs w A n f) :
    Calls Try.prog 73 #[.slice A n cap, .int .i64 x, .int .i64 y] w fun e w' => e = .returned (.int .u64 (maskI (fun i => hasB (f i) x y) n : Nat)) ∧ Below w.heap.size w w' := by
  have Hr := Lib.hid hr
  clear hr
  obtain ⟨x0, x1⟩ := hx
  obtain ⟨y0, y1⟩ := hy
  have HB0 := Lib.hid (Bx.alloc w 29 ⟨x, y, x + 1, y + 1⟩)
  go_enter Try.func73, Try.ntmps73
  go_wp2
  go_loopw [8, 20] (fun s8 s wr => ∃ i : Nat, i ≤ n ∧ s = .int .i64 i ∧ s8 = .int .u64 (maskI (fun i => hasB (f i) x y) i : Nat) ∧ Bx wr w.heap.size ⟨x, y, x + 1, y + 1⟩ ∧ Below w.heap.size w wr) (fun _ s _ => n - (intOf s).toNat)
  case atStart => exact ⟨0, Nat.zero_le _, rfl, rfl, HB0.out, (Below.refl _ _).alloc (Nat.le_refl _) _⟩
  case round =>
    obtain ⟨i, hi, rfl, rfl, hbx, hbr⟩ := hrel
    have HBX := Lib.hid hbx
    have hzr := hbr.size
    obtain ⟨q0, ⟨q1, q2, q3, q4⟩, _⟩ := hbx
    simp only [Nat.zero_add] at q1 q2 q3 q4
    by_cases hlt : i < n
    · obtain ⟨b, off, rfl, hbl, c0, c1, c2, c3⟩ := (Hr.out.below hbr).at_ hlt
      have hMs : Hid (maskI (fun i => hasB (f i) x y) (i + 1) = maskI (fun i => hasB (f i) x y) i + (if hasB (f i) x y = true then 2 ^ i else 0)) := Lib.hid rfl
      have hM := maskI_lt (fun i => hasB (f i) x y) i
      have hP := pow_le7 i (by omega)
      have hP2 : 2 ^ i ≤ 64 := by have := Nat.pow_le_pow_right (n := 2) (by omega) (show i ≤ 6 by omega); omega
      have hor := or_top_u ⟨i, by omega⟩ ⟨maskI (fun i => hasB (f i) x y) i, by omega⟩ hM
      have hsh := shl_u ⟨i, by omega⟩
      dsimp only at hor hsh
      generalize hMM : maskI (fun i => hasB (f i) x y) i = M at hM hor
      have HMM := Lib.hid hMM
      clear hMM
      generalize hPP : 2 ^ i = P at hM hor hsh hP hP2
      have HPP := Lib.hid hPP
      clear hPP
      cases hh : hasB (f i) x y
      · go_wp2_with fail
        refine (within_val ⟨x, y, x + 1, y + 1⟩ (f i) false (hav_bit.trans hh) _).mono ?_; rintro e w1 ⟨rfl, hb1⟩; have hz1 := hb1.size; (try simp at hz1)
        have hB1 : Below wr.heap.size wr w1 := by (repeat (first | with_reducible exact Below.refl _ _ | with_reducible assumption | ((with_reducible refine Below.alloc ?_ ?_ _); rotate_left; focus (first | with_reducible exact Nat.le_refl _ | omega | (simp; done) | (simp; omega))) | ((with_reducible refine Below.setCell ?_ ?_ _); rotate_left; focus (first | with_reducible exact Nat.le_refl _ | omega | (simp; done) | (simp; omega))) | (with_reducible refine Below.drew ?_) | ((with_reducible refine Below.trans ?_ (Below.mono (by with_reducible assumption) ?_)); rotate_left; focus (first | with_reducible exact Nat.le_refl _ | omega | (simp; done) | (simp; omega)))))
        go_wp2
        go_roundw
        case rel => exact ⟨i + 1, by omega, by go_num, by rw [hMs.out, hh, HMM.out]; rfl, HBX.out.below hB1, by (repeat (first | with_reducible exact Below.refl _ _ | with_reducible assumption | ((with_reducible refine Below.alloc ?_ ?_ _); rotate_left; focus (first | with_reducible exact Nat.le_refl _ | omega | (simp; done) | (simp; omega))) | ((with_reducible refine Below.setCell ?_ ?_ _); rotate_left; focus (first | with_reducible exact Nat.le_refl _ | omega | (simp; done) | (simp; omega))) | (with_reducible refine Below.drew ?_) | ((with_reducible refine Below.trans ?_ (Below.mono (by with_reducible assumption) ?_)); rotate_left; focus (first | with_reducible exact Nat.le_refl _ | omega | (simp; done) | (simp; omega)))))⟩
        case measure => simp [intOf]; omega
      · go_wp2_with fail
        refine (within_val ⟨x, y, x + 1, y + 1⟩ (f i) true (hav_bit.trans hh) _).mono ?_; rintro e w1 ⟨rfl, hb1⟩; have hz1 := hb1.size; (try simp at hz1)
        have hB1 : Below wr.heap.size wr w1 := by (repeat (first | with_reducible exact Below.refl _ _ | with_reducible assumption | ((with_reducible refine Below.alloc ?_ ?_ _); rotate_left; focus (first | with_reducible exact Nat.le_refl _ | omega | (simp; done) | (simp; omega))) | ((with_reducible refine Below.setCell ?_ ?_ _); rotate_left; focus (first | with_reducible exact Nat.le_refl _ | omega | (simp; done) | (simp; omega))) | (with_reducible refine Below.drew ?_) | ((with_reducible refine Below.trans ?_ (Below.mono (by with_reducible assumption) ?_)); rotate_left; focus (first | with_reducible exact Nat.le_refl _ | omega | (simp; done) | (simp; omega)))))
        go_wp2
        go_roundw
        case rel => exact ⟨i + 1, by omega, by go_num, by rw [hMs.out, hh, HMM.out, if_pos rfl, HPP.out, Int.natCast_add], HBX.out.below hB1, by (repeat (first | with_reducible exact Below.refl _ _ | with_reducible assumption | ((with_reducible refine Below.alloc ?_ ?_ _); rotate_left; focus (first | with_reducible exact Nat.le_refl _ | omega | (simp; done) | (simp; omega))) | ((with_reducible refine Below.setCell ?_ ?_ _); rotate_left; focus (first | with_reducible exact Nat.le_refl _ | omega | (simp; done) | (simp; omega))) | (with_reducible refine Below.drew ?_) | ((with_reducible refine Below.trans ?_ (Below.mono (by with_reducible assumption) ?_)); rotate_left; focus (first | with_reducible exact Nat.le_refl _ | omega | (simp; done) | (simp; omega)))))⟩
        case measure => simp [intOf]; omega
    · obtain rfl : i = n := by omega
      go_wp2
      go_ret
      exact ⟨rfl, hbr⟩
theorem hav_val (A : Option Addr) (n cap : Nat) (f : Nat → Rt) (x y : Int) (v : Nat) (hv : maskI (fun i => hasB (f i) x y) n = v) (w : World) (h7 : n ≤ 7) (hx : 0 ≤ x ∧ x ≤ 20) (hy : 0 ≤ y ∧ y ≤ 20) (hr : Rs w A n f) :
    Calls Try.prog 73 #[.slice A n cap, .int .i64 x, .int .i64 y] w fun e w' => e = .returned (.int .u64 (v : Nat)) ∧ Below w.heap.size w w' := hv ▸ hav_any A n cap f x y w h7 hx hy hr

set_option maxHeartbeats 1000000 in
set_option maxRecDepth 20000 in
theorem idx_any (A : Option Addr) (cap : Nat) (st : List Nat) (x : Nat) (w : World) (hsz : st.length ≤ 1000000) (hr : Ur w A st) :
    Calls Try.prog 89 #[.slice A st.length cap, .int .u64 (x : Nat)] w fun e w' => ∃ z : Int, e = .returned (.int .i64 z) ∧ (decide (0 ≤ z) = decide (x ∈ st)) ∧ -1 ≤ z ∧ z ≤ 1000000 ∧ w = w' := by
  have Hr := Lib.hid hr
  clear hr
  go_enter Try.func89, Try.ntmps89
  go_wp2
  go_loopw [8] (fun s wr => ∃ i : Nat, i ≤ st.length ∧ s = .int .i64 i ∧ inTo st x i = false ∧ w = wr) (fun s _ => st.length - (intOf s).toNat)
  case atStart => exact ⟨0, Nat.zero_le _, rfl, inTo_zero _ _, by trivial⟩
  case round =>
    obtain ⟨i, hi, rfl, hno, rfl⟩ := hrel
    have HN := Lib.hid hno
    clear hno
    by_cases hlt : i < st.length
    · obtain ⟨s, hs⟩ : ∃ s, st[i]? = some s := ⟨_, List.getElem?_eq_getElem hlt⟩
      obtain ⟨b, rfl, hbl, hc⟩ := Hr.out.at_ hs
      have Hs := Lib.hid hs
      clear hs
      by_cases he : x = s
      · subst he
        go_wp2
        go_ret
        exact ⟨i, rfl, by rw [decide_eq_true (show (0 : Int) ≤ (i : Int) by omega), decide_eq_true (List.mem_of_getElem? Hs.out)], by omega, by omega, rfl⟩
      · have hne : ((x : Int) == (s : Int)) = false := by simp; omega
        go_wp2
        go_roundw
        case rel => exact ⟨i + 1, by omega, by go_num, by rw [inTo_step Hs.out, HN.out, decide_eq_false (fun e => he e.symm)]; rfl, by trivial⟩
        case measure => simp [intOf]; omega
    · obtain rfl : i = st.length := by omega
      have := HN.out
      rw [inTo_all] at this
      have HX := Lib.hid this
      clear this
      go_wp2
      go_ret
      exact ⟨-1, rfl, by rw [HX.out]; rfl, by omega, by omega, rfl⟩

set_option maxHeartbeats 1000000 in
set_option maxRecDepth 20000 in
theorem con_any (A : Option Addr) (cap : Nat) (st : List Nat) (x : Nat) (w : World) (hsz : st.length ≤ 1000000) (hr : Ur w A st) :
    Calls Try.prog 74 #[.slice A st.length cap, .int .u64 (x : Nat)] w fun e w' => e = .returned (.bool (decide (x ∈ st))) ∧ w = w' := by
  go_enter Try.func74, Try.ntmps74
  go_wp2_with fail
  refine (idx_any A cap st x _ hsz hr).mono ?_; rintro e w' ⟨z, rfl, hz, hz1, hz2, rfl⟩
  have HZ := Lib.hid hz
  clear hz
  go_wp2
  go_ret
  exact ⟨ret_bool (by rw [← HZ.out]), rfl⟩
theorem con_val (A : Option Addr) (cap : Nat) (st : List Nat) (x : Nat) (v : Bool) (h : decide (x ∈ st) = v) (w : World) (hsz : st.length ≤ 1000000) (hr : Ur w A st) :
    Calls Try.prog 74 #[.slice A st.length cap, .int .u64 (x : Nat)] w fun e w' => e = .returned (.bool v) ∧ w = w' := h ▸ con_any A cap st x w hsz hr

set_option maxHeartbeats 4000000 in
set_option maxRecDepth 100000 in
theorem cells_any (A : Option Addr) (n cap : Nat) (f : Nat → Rt) (w : World) (h7 : n ≤ 7) (hok : okTo f n = true) (hr : Rs w A n f) :
    Calls Try.prog 47 #[.slice A n cap] w fun e w' => ∃ (v : Value) (st : List Nat), e = .returned v ∧ StU w' w.heap.size v st ∧ Sets f n st ∧ st.length ≤ 49 ∧ Below w.heap.size w w' := by
  have Hr := Lib.hid hr
  have Hok := Lib.hid hok
  clear hr hok
  go_enter Try.func47, Try.ntmps47
  go_wp2
  go_loopw [3, 11] (fun s3 s wr => ∃ (i : Nat) (st : List Nat), i ≤ n ∧ s = .int .i64 i ∧ StU wr w.heap.size s3 st ∧ SetsTo f n i 0 st ∧ Below w.heap.size w wr) (fun _ s _ => n - (intOf s).toNat)
  case atStart => exact ⟨0, [], Nat.zero_le _, rfl, StU.nil _ _, SetsTo.start f n, Below.refl _ _⟩
  case round =>
    obtain ⟨i, st0, hi, rfl, hS0, hT0, hbr⟩ := hrel
    have HS0 := Lib.hid hS0
    have HT0 := Lib.hid hT0
    have HB := Lib.hid hbr
    have hlen0 := hT0.len
    clear hS0 hT0 hbr
    rename World => wo
    by_cases hlt : i < n
    · obtain ⟨b, off, rfl, hbl, c0, c1, c2, c3⟩ := (Hr.out.below HB.out).at_ hlt
      go_wp2
      refine name_world (fun wp hW => ?_)
      have hbp : Below wo.heap.size wo wp := by subst hW; exact (Below.refl _ _).alloc (Nat.le_refl _) _
      have HBX : Hid (Bx wp wo.heap.size (f i)) := Lib.hid (by subst hW; exact Bx.alloc wo _ (f i))
      have HBP : Hid (Below w.heap.size w wp) := Lib.hid (HB.out.trans (hbp.mono HB.out.size))
      have HSP := Lib.hid (HS0.out.below hbp)
      have hzo := HB.out.size
      have hzp := hbp.size
      clear hW
      go_loopw [3, 17] (fun s3 s wr => ∃ (j : Nat) (st : List Nat), j ≤ n ∧ s = .int .i64 j ∧ StU wr w.heap.size s3 st ∧ SetsTo f n i j st ∧ Below w.heap.size w wr ∧ Bx wr wo.heap.size (f i) ∧ s3.ownBlock ≠ some wo.heap.size) (fun _ s _ => n - (intOf s).toNat)
      case atStart => exact ⟨0, st0, Nat.zero_le _, rfl, HSP.out, HT0.out, HBP.out, HBX.out, fun e => by have := (World.ownsRow.lt HS0.out _ e).2; omega⟩
      case round =>
        obtain ⟨j, st, hj, rfl, hS, hT, hbj, hbxj, hown⟩ := hrel
        obtain ⟨A2, c2, rfl, hur⟩ := hS.ur
        have HXJ := Lib.hid hbxj
        have HOW := Lib.hid hown
        obtain ⟨q0, ⟨q1, q2, q3, q4⟩, _⟩ := hbxj
        simp only [Nat.zero_add] at q1 q2 q3 q4
        have HS := Lib.hid hS
        have HT := Lib.hid hT
        have HBJ := Lib.hid hbj
        have HU := Lib.hid hur
        have hlen := hT.len
        have hzj := hbj.size
        clear hS hT hbj hown hur
        by_cases hlt2 : j < n
        · obtain ⟨_, _, hAA, hbl2, d0, d1, d2, d3⟩ := (Hr.out.below HBJ.out).at_ hlt2
          cases hAA
          have HRL := Lib.hid ((Hr.out.below HBJ.out).below (w' := wr.alloc (.cells #[.int .i64 (f j).l, .int .i64 (f j).o, .int .i64 (f j).r, .int .i64 (f j).h] 29)) ((Below.refl _ _).alloc (Nat.le_refl _) _))
          obtain ⟨⟨o1, o2, o3⟩, o4, o5, o6⟩ := okB_iff.1 (okTo_le Hok.out hlt)
          obtain ⟨⟨p1, p2, p3⟩, p4, p5, p6⟩ := okB_iff.1 (okTo_le Hok.out hlt2)
          obtain ⟨x, hx⟩ : ∃ x, hitN f n i j = x := ⟨_, rfl⟩
          have HX := Lib.hid hx
          have hx7 : x < 128 := by rw [← hx]; exact Nat.lt_of_lt_of_le (maskI_lt _ _) (pow_le7 n h7)
          clear hx
          go_wp2_with fail
          refine (hav_val _ n cap f (f i).l (f j).o x HX.out _ h7 (by omega) (by omega) HRL.out).mono ?_; rintro e w1 ⟨rfl, hb1⟩; have hz1 := hb1.size; (try simp at hz1)
          have hB1 : Below wr.heap.size wr w1 := by (repeat (first | with_reducible exact Below.refl _ _ | with_reducible assumption | ((with_reducible refine Below.alloc ?_ ?_ _); rotate_left; focus (first | with_reducible exact Nat.le_refl _ | omega | (simp; done) | (simp; omega))) | ((with_reducible refine Below.setCell ?_ ?_ _); rotate_left; focus (first | with_reducible exact Nat.le_refl _ | omega | (simp; done) | (simp; omega))) | (with_reducible refine Below.drew ?_) | ((with_reducible refine Below.trans ?_ (Below.mono (by with_reducible assumption) ?_)); rotate_left; focus (first | with_reducible exact Nat.le_refl _ | omega | (simp; done) | (simp; omega)))))
          have HB1 := Lib.hid hB1
          have HW1 : Hid (Below w.heap.size w w1) := Lib.hid (HBJ.out.trans (hB1.mono hzj))
          have hz1' := HW1.out.size
          have HS1 := Lib.hid (HS.out.below hB1)
          clear hB1 hb1
          by_cases hin : x ∈ st
          · have hd : decide (x ∈ st) = true := decide_eq_true hin
            have Hin := Lib.hid hin
            clear hin
            go_wp2_with fail
            refine (con_val A2 c2 st x true hd _ (by omega) (HU.out.below HB1.out)).mono ?_; rintro e w' ⟨rfl, rfl⟩
            go_wp2
            go_roundw
            case rel => exact ⟨j + 1, st, by omega, by go_num, HS1.out, HT.out.skip (by rw [HX.out]; exact Hin.out), HW1.out, HXJ.out.below HB1.out, HOW.out⟩
            case measure => simp [intOf]; omega
          · have hd : decide (x ∈ st) = false := decide_eq_false hin
            clear hin
            go_wp2_with fail
            refine (con_val A2 c2 st x false hd _ (by omega) (HU.out.below HB1.out)).mono ?_; rintro e w' ⟨rfl, rfl⟩
            go_wp2_with (at_builtin; refine list_set1 _ rfl (.tmp 31) (.tmp 33) rfl w.heap.size _ st rfl (HS1.out.alloc _) w1.heap.size x rfl (new_cell _ _ _ rfl) (by omega) (by simp; omega) ?_)
            intro v' w6 hI6 hb6 hg6 ho6
            have HG6 := Lib.hid hg6
            have HO6 := Lib.hid ho6
            clear hg6 ho6
            have HI6 := Lib.hid hI6
            have HB6 := Lib.hid hb6
            clear hI6 hb6
            go_wp2
            go_roundw
            case rel =>
              have h6 : Below w.heap.size w w6 := HW1.out.trans (((Below.refl _ _).alloc HW1.out.size _).trans HB6.out)
              refine ⟨j + 1, st ++ [x], by omega, by go_num, HI6.out, by rw [← HX.out]; exact HT.out.more hlt hlt2, h6, ((HXJ.out.below HB1.out).below ((Below.refl _ _).alloc (Nat.le_refl _) _)).grownV HG6.out HOW.out, ?_⟩
              rcases HO6.out with e | e
              · rw [e]; exact HOW.out
              · rw [e]; intro e2; injection e2 with e2; (try simp at e2); have := HB1.out.size; omega
            case measure => simp [intOf]; omega
        · obtain rfl : j = n := by omega
          go_wp2
          go_roundw
          case rel => exact ⟨i + 1, st, by omega, by go_num, HS.out, HT.out.row h7, HBJ.out⟩
          case measure => simp [intOf]; omega
    · obtain rfl : i = n := by omega
      go_wp2
      go_ret
      exact ⟨_, st0, rfl, HS0.out, HT0.out.fin, by omega, HB.out⟩

theorem low_u : ∀ a : Fin 128, ∀ i : Fin 7, a.val.testBit i.val = true → (∀ j : Fin 7, j.val < i.val → a.val.testBit j.val = false) → bits .and .u64 ((a.val : Nat) : Int) (IntKind.u64.wrap (-((a.val : Nat) : Int))) = ((2 ^ i.val : Nat) : Int) := by decide +kernel
theorem bit_u : ∀ s : Fin 128, ∀ i : Fin 7, bits .and .u64 ((s.val : Nat) : Int) ((2 ^ i.val : Nat) : Int) = if s.val.testBit i.val then ((2 ^ i.val : Nat) : Int) else 0 := by decide +kernel
theorem dif_u (a b : Nat) (ha : a < 128) (hb : b < 128) : bits .andNot .u64 (a : Int) (b : Int) = ((difN a b : Nat) : Int) := by
  have e : ∀ X Y : BitVec 64, X &&& ~~~Y = X ^^^ (X &&& Y) := fun X Y => by
    refine BitVec.eq_of_getLsbD_eq fun i hi => ?_
    simp only [BitVec.getLsbD_and, BitVec.getLsbD_not, BitVec.getLsbD_xor, hi, decide_true, Bool.true_and]
    cases X.getLsbD i <;> cases Y.getLsbD i <;> rfl
  have hd : difN a b < 2 ^ 7 := difN_lt (by omega)
  show IntKind.u64.wrap ((BitVec.ofInt 64 (a : Int) &&& ~~~BitVec.ofInt 64 (b : Int)).toNat : Int) = _
  rw [e, BitVec.toNat_xor, BitVec.toNat_and, ofInt_u64 a (by omega), ofInt_u64 b (by omega), IntKind.wrap_u64]
  show (((difN a b : Nat) : Int)) % _ = _
  omega
set_option maxHeartbeats 2000000 in
set_option maxRecDepth 20000 in
theorem ipi_any (A : Option Addr) (cap : Nat) (st : List Nat) (hst : ∀ s, s ∈ st → s < 128) (hlen : st.length ≤ 49) : ∀ (m : Nat) (left : Nat) (mi li : Int) (w : World), mi = m → li = left → m ≤ 7 → left < 128 → Ur w A st →
    Calls Try.prog 48 #[.slice A st.length cap, .int .u64 li, .int .i64 mi] w fun e w' => ∃ b : Bool, e = .returned (.bool b) ∧ (b = true ↔ Pc st m left) ∧ w = w' := by
  have Hst := Lib.hid hst
  clear hst
  intro m
  induction m with
  | zero =>
    intro left mi li w h1 h2 hm hl hS
    subst h1 h2
    by_cases h0 : left = 0
    · subst h0
      go_enter Try.func48, Try.ntmps48
      go_wp2
      go_ret
      exact ⟨true, rfl, ⟨fun _ => Pc.none _, fun _ => rfl⟩, rfl⟩
    · have hl0 : ((left : Int) == 0) = false := by simp; omega
      go_enter Try.func48, Try.ntmps48
      go_wp2
      go_ret
      exact ⟨false, rfl, ⟨fun hh => (by cases hh), fun hh => absurd hh (Pc.zero h0)⟩, rfl⟩
  | succ m ih =>
    intro left mi li w h1 h2 hm hl hS
    have Hih := Lib.hid ih
    have HS := Lib.hid hS
    clear ih hS
    subst h2
    by_cases h0 : left = 0
    · subst h0
      go_enter Try.func48, Try.ntmps48
      go_wp2
      go_ret
      exact ⟨true, rfl, ⟨fun _ => Pc.none _, fun _ => rfl⟩, rfl⟩
    · have hl0 : ((left : Int) == 0) = false := by simp; omega
      have hm0 : (mi == 0) = false := by simp; omega
      have hm1 : mi ≤ 7 := by omega
      have hm2 : 1 ≤ mi := by omega
      obtain ⟨i, hi7, hi0, hlow⟩ := low_bit h0 hl
      have hlo := low_u ⟨left, hl⟩ ⟨i, hi7⟩ hi0 (fun j hj => hlow j hj)
      dsimp only at hlo
      have HI0 := Lib.hid hi0
      obtain ⟨P, hP⟩ : ∃ P, 2 ^ i = P := ⟨_, rfl⟩
      rw [hP] at hlo
      have HP := Lib.hid hP
      have hP0 : 0 < P := by rw [← hP]; exact Nat.two_pow_pos i
      have hP7 : P ≤ 64 := by rw [← hP]; exact Nat.pow_le_pow_right (n := 2) (by omega) (show i ≤ 6 by omega)
      clear hi0 hlow hP
      have H1 : Hid (mi = ((m + 1 : Nat) : Int)) := Lib.hid h1
      clear h1
      go_enter Try.func48, Try.ntmps48
      go_wp2
      go_loopw [20] (fun s8 wr => ∃ k : Nat, k ≤ st.length ∧ s8 = .int .i64 k ∧ (∀ j s, j < k → st[j]? = some s → s.testBit i = true → ¬ Pc st m (difN left s)) ∧ w = wr) (fun s8 _ => st.length - (intOf s8).toNat)
      case atStart => exact ⟨0, Nat.zero_le _, rfl, fun j s hj => by omega, by trivial⟩
      case round =>
        obtain ⟨k, hk, rfl, hno, rfl⟩ := hrel
        have HN := Lib.hid hno
        clear hno
        by_cases hlt2 : k < st.length
        · obtain ⟨s, hs⟩ : ∃ s, st[k]? = some s := ⟨_, List.getElem?_eq_getElem hlt2⟩
          have hsm := List.mem_of_getElem? hs
          have hs7 := Hst.out s hsm
          obtain ⟨b0, rfl, hbl, hc⟩ := HS.out.at_ hs
          have hb := bit_u ⟨s, hs7⟩ ⟨i, hi7⟩
          dsimp only at hb
          rw [HP.out] at hb
          have Hs := Lib.hid hs
          have Hsm := Lib.hid hsm
          clear hs hsm
          cases hsb : s.testBit i
          · rw [hsb] at hb
            simp only [Bool.false_eq_true, if_false] at hb
            go_wp2
            go_roundw
            case rel =>
              refine ⟨k + 1, by omega, by go_num, fun j t hj ht hb' => ?_, by trivial⟩
              by_cases e : j = k
              · subst e; rw [Hs.out] at ht; cases ht; rw [hsb] at hb'; cases hb'
              · exact HN.out j t (by omega) ht hb'
            case measure => simp [intOf]; omega
          · rw [hsb] at hb
            simp only [if_true] at hb
            have hd := dif_u left s hl hs7
            have hdl : difN left s < 128 := difN_lt (n := 7) hl
            have hp0 : ((P : Int) == 0) = false := by simp; omega
            go_wp2_with fail
            refine (Hih.out (difN left s) _ _ _ (by have := H1.out; omega) (by first | rfl | assumption) (by omega) hdl HS.out).mono ?_; rintro e w' ⟨b, rfl, hb', rfl⟩
            have Hb := Lib.hid hb'
            clear hb'
            cases b
            · go_wp2
              go_roundw
              case rel =>
                refine ⟨k + 1, by omega, by go_num, fun j t hj ht hb' => ?_, by trivial⟩
                by_cases e : j = k
                · subst e; rw [Hs.out] at ht; cases ht; exact fun hp => by cases Hb.out.2 hp
                · exact HN.out j t (by omega) ht hb'
              case measure => simp [intOf]; omega
            · go_wp2
              go_ret
              exact ⟨true, rfl, ⟨fun _ => Pc.step Hsm.out (Hb.out.1 (by trivial)), fun _ => rfl⟩, rfl⟩
        · obtain rfl : k = st.length := by omega
          go_wp2
          go_ret
          refine ⟨false, rfl, ⟨fun hh => (by cases hh), fun hp => ?_⟩, rfl⟩
          obtain ⟨s, hs, hsb, hpc⟩ := Pc.first HI0.out hp
          obtain ⟨j, hj⟩ := List.getElem?_of_mem hs
          exact absurd hpc (HN.out j s (List.getElem?_eq_some_iff.1 hj).choose hj hsb)

set_option maxHeartbeats 1000000 in
set_option maxRecDepth 20000 in
theorem ipr_any (A : Option Addr) (n cap : Nat) (f : Nat → Rt) (w : World) (hn : n ≤ maxLen) (hr : Rs w A n f) :
    Calls Try.prog 14 #[.slice A n cap] w fun e w' => e = .returned (.int .i64 (prF f n)) ∧ Below w.heap.size w w' := by
  have Hn := Lib.hid hn
  have Hr := Lib.hid hr
  clear hn hr
  cases hl : laidF f n
  · have H : Hid (prF f n = -1) := Lib.hid (by unfold prF; rw [hl]; rfl)
    go_enter Try.func14, Try.ntmps14
    go_wp2_with fail
    refine (ilaid_val A n cap f false hl _ Hn.out Hr.out).mono ?_; rintro e w1 ⟨rfl, hb1⟩; have hz1 := hb1.size; (try simp at hz1)
    go_wp2
    go_ret
    exact ⟨ret_int (by rw [H.out]), by (repeat (first | with_reducible exact Below.refl _ _ | with_reducible assumption | ((with_reducible refine Below.alloc ?_ ?_ _); rotate_left; focus (first | with_reducible exact Nat.le_refl _ | omega | (simp; done) | (simp; omega))) | ((with_reducible refine Below.setCell ?_ ?_ _); rotate_left; focus (first | with_reducible exact Nat.le_refl _ | omega | (simp; done) | (simp; omega))) | (with_reducible refine Below.drew ?_) | ((with_reducible refine Below.trans ?_ (Below.mono (by with_reducible assumption) ?_)); rotate_left; focus (first | with_reducible exact Nat.le_refl _ | omega | (simp; done) | (simp; omega)))))⟩
  · obtain ⟨h7, hok⟩ := laidF_ok hl
    have H : Hid (prF f n = prN f n) := Lib.hid (by unfold prF; rw [hl]; rfl)
    have Hok := Lib.hid (fun i (hi : i < n) => okTo_le hok hi)
    obtain ⟨Q, hQ⟩ : ∃ Q, 2 ^ n - 1 = Q := ⟨_, rfl⟩
    have HQ := Lib.hid hQ
    have hQ7 : Q < 128 := by have := pow_le7 n h7; have := Nat.two_pow_pos n; omega
    clear hQ
    go_enter Try.func14, Try.ntmps14
    go_wp2_with fail
    refine (ilaid_val A n cap f true hl _ Hn.out Hr.out).mono ?_; rintro e w1 ⟨rfl, hb1⟩; have hz1 := hb1.size; (try simp at hz1)
    have Hr1 := Lib.hid (Hr.out.below hb1)
    have Hb1 := Lib.hid hb1
    clear hb1
    go_wp2_with fail
    refine (cells_any A n cap f _ h7 hok Hr1.out).mono ?_; rintro e w2 ⟨v, st, rfl, hS, hT, hlen, hb2⟩
    obtain ⟨A2, c2, rfl, hur⟩ := hS.ur
    have HU := Lib.hid hur
    have HT := Lib.hid hT
    have HB : Hid (Below w.heap.size w w2) := Lib.hid (Hb1.out.trans (hb2.mono Hb1.out.size))
    clear hS hT hb2 hok hur
    go_wp2
    go_loopw [12] (fun s4 wr => ∃ m : Nat, m ≤ n ∧ s4 = .int .i64 m ∧ (∀ k, k < m → ¬ Pc st k Q) ∧ w2 = wr) (fun s4 _ => n - (intOf s4).toNat)
    case atStart => exact ⟨0, Nat.zero_le _, rfl, fun k hk => by omega, by trivial⟩
    case round =>
      obtain ⟨m, hm, rfl, hno, rfl⟩ := hrel
      have HN := Lib.hid hno
      clear hno
      by_cases hlt : m < n
      · go_wp2_with fail
        refine (allof_eq n Q HQ.out _ h7).mono ?_; rintro e w' ⟨rfl, rfl⟩
        go_wp2_with fail
        refine (ipi_any A2 c2 st (fun s hs => HT.out.lt h7 hs) hlen m Q _ _ _ rfl rfl (by omega) hQ7 HU.out).mono ?_; rintro e w' ⟨b, rfl, hb', rfl⟩
        have Hb := Lib.hid hb'
        clear hb'
        cases b
        · go_wp2
          go_roundw
          case rel =>
            refine ⟨m + 1, by omega, by go_num, fun k hk => ?_, by trivial⟩
            by_cases e : k = m
            · subst e; exact fun hp => by cases Hb.out.2 hp
            · exact HN.out k (by omega)
          case measure => simp [intOf]; omega
        · go_wp2
          go_ret
          exact ⟨ret_int (by rw [H.out, pc_least HT.out Hok.out (HQ.out.symm ▸ Hb.out.1 (by trivial)) (HQ.out.symm ▸ HN.out)]), HB.out⟩
      · obtain rfl : m = n := by omega
        go_wp2
        go_ret
        exact ⟨ret_int (by rw [H.out, pc_least HT.out Hok.out (pc_own HT.out Hok.out) (HQ.out.symm ▸ HN.out)]), HB.out⟩
theorem ipr_val (A : Option Addr) (n cap : Nat) (f : Nat → Rt) (v : Int) (h : prF f n = v) (w : World) (hn : n ≤ maxLen) (hr : Rs w A n f) :
    Calls Try.prog 14 #[.slice A n cap] w fun e w' => e = .returned (.int .i64 v) ∧ Below w.heap.size w w' := h ▸ ipr_any A n cap f w hn hr
end Go.Proofs.Ytkfeeijiockdhaa
