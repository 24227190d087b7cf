/- Chapter 5 of impl: sets of rectangles that are met. Chapter 5 of impl: the sets of rectangles that cells have; how many cells pierce all. -/
import Derived.Test.YtkfeeijiockdhaaDoorPi
import Derived.Test.YtkfeeijiockdhaaDoorMathV
import Derived.Test.YtkfeeijiockdhaaDoorMe
import Derived.Test.YtkfeeijiockdhaaDoorUni
import Derived.StillTailTactics
import Derived.Maps.AppendAt
import Derived.WalkSmall
namespace Go.Proofs.YtkfeeijiockdhaaDoor
open Go.RowKit Go.Sort
set_option linter.unusedVariables false
/-- Sets that lie at the head of a block g of the call's own. -/
def Us (w : World) (A : Option Addr) (n : Nat) (f : Nat → Nat) (g : Nat) : Prop :=
  n = 0 ∨ A = some ⟨g, 0, none⟩ ∧ g < w.heap.size ∧ (∀ i, i < n → w.cell? ⟨g, i, none⟩ = some (.int .u64 (f i : Nat))) ∧ ∀ o, o < n → w.frozen? ⟨g, o, none⟩ = false
theorem Us.below {w w' : World} {A : Option Addr} {n g : Nat} {f : Nat → Nat} (h : Us w A n f g) (hb : Below w.heap.size w w') : Us w' A n f g := by
  rcases h with h | ⟨ha, hl, hc, hf⟩
  · exact Or.inl h
  · exact Or.inr ⟨ha, Nat.lt_of_lt_of_le hl hb.size, fun i hi => (hb.cell (p := ⟨g, _, none⟩) hl).trans (hc i hi), fun o ho => (hb.frozen (p := ⟨g, o, none⟩) hl).trans (hf o ho)⟩
theorem Us.congr {w : World} {A : Option Addr} {n g : Nat} {f f' : Nat → Nat} (h : Us w A n f g) (hf : ∀ i, i < n → f i = f' i) : Us w A n f' g := by
  rcases h with h | ⟨ha, hl, hc, hz⟩
  · exact Or.inl h
  · exact Or.inr ⟨ha, hl, fun i hi => by rw [← hf i hi]; exact hc i hi, hz⟩
theorem Us.grown {w w' : World} {A : Option Addr} {n g g' : Nat} {f : Nat → Nat} (h : Us w A n f g) (hg : w.grownBy w' (some g')) (hn : g ≠ g') : Us w' A n f g := by
  rcases h with h | ⟨ha, hl, hc, hf⟩
  · exact Or.inl h
  · exact Or.inr ⟨ha, Nat.lt_of_lt_of_le hl hg.size, fun i hi => (grown_cell hg hl hn).trans (hc i hi), fun o ho => (grown_frozen hg hl hn).trans (hf o ho)⟩
theorem Us.set {w : World} {A : Option Addr} {n g k : Nat} {f f' : Nat → Nat} (h : Us w A n f g) (hk : k < n) (hf : ∀ i, i < n → i ≠ k → f i = f' i) : Us (w.setCell ⟨g, k, none⟩ (.int .u64 (f' k : Nat))) A n f' g := by
  rcases h with h | ⟨ha, hl, hc, hz⟩
  · omega
  · refine Or.inr ⟨ha, by simp [World.setCell]; exact hl, fun i hi => ?_, fun o ho => by rw [World.frozen?_setCell]; exact hz o ho⟩
    by_cases e : i = k
    · subst e; exact World.cell?_setCell_same' _ _ _ (by rw [hc i hi]; rfl)
    · rw [World.cell?_setCell_other _ ⟨g, k, none⟩ ⟨g, i, none⟩ _ (fun e => by injection e; omega), ← hf i hi e]; exact hc i hi
theorem Us.at_ {w : World} {A : Option Addr} {n g k : Nat} {f : Nat → Nat} (h : Us w A n f g) (hk : k < n) : A = some ⟨g, 0, none⟩ ∧ g < w.heap.size ∧ w.cell? ⟨g, k, none⟩ = some (.int .u64 (f k : Nat)) ∧ w.frozen? ⟨g, k, none⟩ = false := by
  rcases h with h | ⟨ha, hl, hc, hz⟩
  · omega
  · exact ⟨ha, hl, hc k hk, hz k hk⟩
theorem Bx.grownB {w w' : World} {b g : Nat} {r : Rt} (h : Bx w b r) (hg : w.grownBy w' (some g)) (hn : b ≠ g) : Bx w' b r := by
  obtain ⟨h1, ⟨c0, c1, c2, c3⟩, h3⟩ := h
  exact ⟨Nat.lt_of_lt_of_le h1 hg.size, ⟨(grown_cell hg h1 hn).trans c0, (grown_cell hg h1 hn).trans c1, (grown_cell hg h1 hn).trans c2, (grown_cell hg h1 hn).trans c3⟩, fun o => (grown_frozen hg h1 hn).trans (h3 o)⟩
theorem infoU : (Tryd.prog.info? 39).map (fun i => (i.zero, i.size, i.bytes)) = some (some (.int .u64 0), 1, 8) := by kernel_rfl
theorem make_sets (n c : Nat) (hn : n ≤ c) (hc : c ≤ 2000000) (w : World) :
    (Instr.makeSlice 43 (.int .i64 (n : Int)) (.int .i64 (c : Int))).run Tryd.prog w = .ok (.slice (some ⟨w.heap.size, 0, none⟩) n c) (w.alloc (.cells (madeCells #[.int .u64 0] c) 39)) := by
  obtain ⟨i, hi, hz, hs, hb⟩ := info_parts infoU
  have := run_make (P := Tryd.prog) w 43 39 i (.int .u64 0) Tryd.underlying43 hi hz .i64 .i64 n c (by omega) (by omega) (by rw [hb]; omega) (by omega)
  rw [hs, Nat.mul_one] at this
  exact this
theorem Us.made (w : World) (n : Nat) : Us (w.alloc (.cells (madeCells #[.int .u64 0] n) 39)) (some ⟨w.heap.size, 0, none⟩) n (fun _ => 0) w.heap.size := by
  have h1 : (w.alloc (.cells (madeCells #[.int .u64 0] n) 39)).heap[w.heap.size]? = some (.cells (madeCells #[.int .u64 0] n) 39 (0, 0)) := heap_alloc_new w _
  refine Or.inr ⟨rfl, by simp, fun o ho => ?_, fun o ho => by unfold World.frozen?; rw [h1]; simp⟩
  rw [cell_of_row (w.alloc (.cells (madeCells #[.int .u64 0] n) 39)) w.heap.size o (madeCells #[.int .u64 0] n) 39 (0, 0) h1]
  simp [madeCells, ho, Nat.mod_one]
theorem or_top_u : ∀ i : Fin 7, ∀ M : Fin 64, M.val < 2 ^ i.val → bits .or .u64 ((M.val : Nat) : Int) ((2 ^ i.val : Nat) : Int) = ((M.val + 2 ^ i.val : Nat) : Int) := by decide +kernel
theorem shl_u : ∀ n : Fin 8, IntKind.u64.wrap ((2 : Int) ^ n.val) = ((2 ^ n.val : Nat) : Int) := by decide +kernel
/-- which ones meet the i-th one -/
def metN (f : Nat → Rt) (n i : Nat) : Nat := maskI (fun j => cmB (f i) (f j)) n
theorem metN_lt (f : Nat → Rt) (n i : Nat) : metN f n i < 2 ^ n := maskI_lt _ _
/-- the table while the i-th row has its first j places -/
def metW (f : Nat → Rt) (n i j a : Nat) : Nat := if a < i then metN f n a else if a = i then maskI (fun j => cmB (f i) (f j)) j else 0
theorem metW_row (f : Nat → Rt) (n i a : Nat) : metW f n i n a = metW f n (i + 1) 0 a := by
  unfold metW
  rcases Nat.lt_trichotomy a i with h | h | h
  · rw [if_pos h, if_pos (by omega)]
  · subst h; rw [if_neg (by omega), if_pos rfl, if_pos (by omega)]; rfl
  · rw [if_neg (by omega), if_neg (by omega)]
    by_cases e : a = i + 1
    · rw [if_neg (by omega), if_pos e]; rfl
    · rw [if_neg (by omega), if_neg e]
theorem metW_no (f : Nat → Rt) (n i j a : Nat) (h : cmB (f i) (f j) = false) : metW f n i j a = metW f n i (j + 1) a := by
  unfold metW
  split
  · rfl
  · split
    · simp [maskI, h]
    · rfl
theorem metW_at (f : Nat → Rt) (n i j : Nat) : metW f n i j i = maskI (fun j => cmB (f i) (f j)) j := by unfold metW; rw [if_neg (by omega), if_pos rfl]
theorem metW_other (f : Nat → Rt) (n i j k a : Nat) (h : a ≠ i) : metW f n i j a = metW f n i k a := by
  unfold metW
  rw [if_neg h, if_neg h]
theorem metW_start (f : Nat → Rt) (n a : Nat) : 0 = metW f n 0 0 a := by
  unfold metW
  rw [if_neg (by omega)]
  split <;> rfl
theorem metW_all (f : Nat → Rt) (n a : Nat) (h : a < n) : metW f n n 0 a = metN f n a := by unfold metW; rw [if_pos h]
theorem allof_eq (n Q : Nat) (h : 2 ^ n - 1 = Q) (w : World) (hn : n ≤ 7) :
    Calls Tryd.prog 21 #[.int .i64 n] w fun e w' => e = .returned (.int .u64 (Q : Nat)) ∧ w = w' := h ▸ allof_any n w hn
theorem full_bits {s n : Nat} (h : s < 2 ^ n) : s = 2 ^ n - 1 ↔ ∀ i, i < n → s.testBit i = true := by
  constructor
  · intro e i hi; rw [e, Nat.testBit_two_pow_sub_one]; exact decide_eq_true hi
  · intro hh
    refine Nat.eq_of_testBit_eq fun i => ?_
    rw [Nat.testBit_two_pow_sub_one]
    by_cases hi : i < n
    · rw [hh i hi, decide_eq_true hi]
    · rw [decide_eq_false hi, Nat.testBit_lt_two_pow (Nat.lt_of_lt_of_le h (Nat.pow_le_pow_right (by omega) (by omega)))]
theorem met_full (f : Nat → Rt) (n i : Nat) : metN f n i = 2 ^ n - 1 ↔ ∀ j, j < n → cmB (f i) (f j) = true := by
  rw [full_bits (metN_lt f n i)]
  exact forall_congr' fun j => forall_congr' fun hj => by unfold metN; rw [maskI_bit _ n j hj]
theorem am_full {f : Nat → Rt} {n : Nat} (hl : laidF f n = true) : amF f n = true ↔ ∀ i, i < n → metN f n i = 2 ^ n - 1 := by
  obtain ⟨_, hok⟩ := laidF_ok hl
  rw [amF_iff]
  refine ⟨fun ⟨h, _⟩ i hi => (met_full f n i).2 fun j hj => ?_, fun h => ⟨fun i j hij hj => (met_full f n i).1 (h i (by omega)) j hj, hl⟩⟩
  rcases Nat.lt_trichotomy i j with e | e | e
  · exact h i j e hj
  · subst e; exact meet_self (okTo_le hok hi)
  · rw [meet_comm]; exact h j i e hi
/-- no two of a set meet, as the sets of those that are met have it -/
def apU (f : Nat → Rt) (n s : Nat) : Nat → Bool
  | 0 => true
  | k + 1 => apU f n s k && (!s.testBit k || decide (s &&& metN f n k = 2 ^ k))
theorem apU_no {f : Nat → Rt} {n s k : Nat} (h : s.testBit k = true) (h1 : s &&& metN f n k ≠ 2 ^ k) : ∀ m, k < m → apU f n s m = false := by
  intro m hm
  induction m with
  | zero => omega
  | succ m ih =>
    simp only [apU]
    by_cases e : k = m
    · subst e; rw [h, decide_eq_false h1]; simp
    · rw [ih (by omega)]; rfl
theorem apU_iff (f : Nat → Rt) (n s m : Nat) : apU f n s m = true ↔ ∀ k, k < m → s.testBit k = true → s &&& metN f n k = 2 ^ k := by
  induction m with
  | zero => exact ⟨fun _ k hk => by omega, fun _ => rfl⟩
  | succ m ih =>
    simp only [apU, Bool.and_eq_true, Bool.or_eq_true, Bool.not_eq_true', decide_eq_true_eq]; rw [ih]
    refine ⟨fun ⟨h1, h2⟩ k hk hb => ?_, fun h => ⟨fun k hk => h k (by omega), ?_⟩⟩
    · by_cases e : k = m
      · subst e
        rcases h2 with h2 | h2
        · rw [hb] at h2; cases h2
        · exact h2
      · exact h1 k (by omega) hb
    · cases hb : s.testBit m
      · exact Or.inl rfl
      · exact Or.inr (h m (by omega) hb)
theorem apU_all {f : Nat → Rt} {n s : Nat} (hok : okTo f n = true) (hs : s < 2 ^ n) : apU f n s n = aall f s n := by
  rw [Bool.eq_iff_iff, apU_iff, aall_iff]
  have far : ∀ i, n ≤ i → s.testBit i = false := fun i hi => Nat.testBit_lt_two_pow (Nat.lt_of_lt_of_le hs (Nat.pow_le_pow_right (by omega) hi))
  constructor
  · intro h i j hij hj hi hj'
    have e := h i (by omega) hi
    have := congrArg (·.testBit j) e
    simp only [Nat.testBit_and, Nat.testBit_two_pow] at this
    unfold metN at this
    rw [show s.testBit j = true from hj', maskI_bit _ n j hj, decide_eq_false (by omega)] at this
    simpa using this
  · intro h k hk hb
    refine Nat.eq_of_testBit_eq fun i => ?_
    rw [Nat.testBit_and, Nat.testBit_two_pow]
    by_cases hi : i < n
    · unfold metN
      rw [maskI_bit _ n i hi]
      rcases Nat.lt_trichotomy i k with e | e | e
      · rw [decide_eq_false (by omega)]
        cases hbi : s.testBit i
        · rfl
        · rw [meet_comm, h i k e hk hbi hb]; rfl
      · subst e; rw [hb, meet_self (okTo_le hok hk), decide_eq_true rfl]; rfl
      · rw [decide_eq_false (by omega)]
        cases hbi : s.testBit i
        · rfl
        · rw [h k i e hi hb hbi]; rfl
    · rw [far i (by omega), decide_eq_false (by omega)]; rfl

set_option maxHeartbeats 400000 in
set_option maxRecDepth 20000 in
theorem imt_any (a b : Rt) (w : World) :
    Calls Tryd.prog 33 #[rv a, rv b] w fun e w' => e = .returned (.bool (cmB a b)) ∧ Below w.heap.size w w' := by
  go_enter Tryd.func33, Tryd.ntmps33
  go_wp2_with fail
  refine (icm_any a b _).mono ?_; rintro e w1 ⟨rfl, hb1⟩; have hz1 := hb1.size; (try simp at hz1); have _ : w.heap.size < w1.heap.size := (by first | (simp; done) | omega | (simp; omega)); have _ : w.heap.size + 1 < w1.heap.size := (by first | (simp; done) | omega | (simp; omega)); have _ := fun o => hb1.cell (p := ⟨w.heap.size, o, none⟩) (by first | (simp; done) | omega | (simp; omega)); have _ := fun o => hb1.cell (p := ⟨w.heap.size + 1, o, none⟩) (by first | (simp; done) | omega | (simp; omega))
  go_wp2
  go_ret
  exact ⟨rfl, by (repeat (first | with_reducible exact Below.refl _ _ | with_reducible assumption | ((with_reducible refine Below.alloc ?_ ?_ _); rotate_left; focus (first | with_reducible exact Nat.le_refl _ | omega | (simp; done) | (simp; omega))) | ((with_reducible refine Below.setCell ?_ ?_ _); rotate_left; focus (first | with_reducible exact Nat.le_refl _ | omega | (simp; done) | (simp; omega))) | (with_reducible refine Below.drew ?_) | ((with_reducible refine Below.trans ?_ (Below.mono (by with_reducible assumption) ?_)); rotate_left; focus (first | with_reducible exact Nat.le_refl _ | omega | (simp; done) | (simp; omega)))))⟩
theorem imt_val (a b : Rt) (v : Bool) (h : cmB a b = v) (w : World) :
    Calls Tryd.prog 33 #[rv a, rv b] w fun e w' => e = .returned (.bool v) ∧ Below w.heap.size w w' := h ▸ imt_any a b w

/-- While the table is made: it lies at g; nothing of before has changed. -/
structure MetP (w wr : World) (g n : Nat) (T : Nat → Nat) : Prop where
  us : Us wr (some ⟨g, 0, none⟩) n T g
  bel : Below w.heap.size w wr
  lt : g < wr.heap.size
theorem MetP.below {w wr w' : World} {g n : Nat} {T : Nat → Nat} (h : MetP w wr g n T) (hb : Below wr.heap.size wr w') : MetP w w' g n T :=
  ⟨h.us.below hb, h.bel.trans (hb.mono h.bel.size), Nat.lt_of_lt_of_le h.lt hb.size⟩
set_option maxHeartbeats 2000000 in
set_option maxRecDepth 10000 in
theorem met_any (A : Option Addr) (n cap : Nat) (f : Nat → Rt) (w : World) (h7 : n ≤ 7) (hr : Rs w A n f) :
    Calls Tryd.prog 20 #[.slice A n cap] w fun e w' => ∃ g, e = .returned (.slice (some ⟨g, 0, none⟩) n n) ∧ w.heap.size ≤ g ∧ Us w' (some ⟨g, 0, none⟩) n (metN f n) g ∧ Below w.heap.size w w' ∧ g < w'.heap.size := by
  have Hr := Lib.hid hr
  clear hr
  have hmk := make_sets n n (Nat.le_refl _) (by omega)
  go_enter Tryd.func20, Tryd.ntmps20
  go_wp2
  go_loopw [13] (fun s wr => ∃ i : Nat, i ≤ n ∧ s = .int .i64 i ∧ MetP w wr w.heap.size n (metW f n i 0)) (fun s _ => n - (intOf s).toNat)
  case atStart => exact ⟨0, Nat.zero_le _, rfl, (Us.made w n).congr (fun a _ => metW_start f n a), (Below.refl _ _).alloc (Nat.le_refl _) _, by simp⟩
  case round =>
    obtain ⟨i, hi, rfl, hmp⟩ := hrel
    have HMP := Lib.hid hmp
    have hbr := hmp.bel
    have hzr := hbr.size
    clear hmp
    rename World => wo
    by_cases hlt : i < n
    · obtain ⟨b, off, rfl, hbl, c0, c1, c2, c3⟩ := (Hr.out.below hbr).at_ hlt
      go_wp2
      refine name_world (fun wp hW => ?_)
      have hbp : Below wo.heap.size wo wp := by subst hW; exact (Below.refl _ _).alloc (Nat.le_refl _) _
      have HBX : Hid (Bx wp wo.heap.size (f i)) := Lib.hid (by subst hW; exact Bx.alloc wo _ (f i))
      have HMQ := Lib.hid (HMP.out.below hbp)
      have hzp := hbp.size
      clear hW
      go_loopw [20] (fun s wi => ∃ j : Nat, j ≤ n ∧ s = .int .i64 j ∧ MetP w wi w.heap.size n (metW f n i j) ∧ Bx wi wo.heap.size (f i)) (fun s _ => n - (intOf s).toNat)
      case atStart => exact ⟨0, Nat.zero_le _, rfl, HMQ.out, HBX.out⟩
      case round =>
        obtain ⟨j, hj, rfl, hmj, hbx⟩ := hrel
        have HMJ := Lib.hid hmj
        have HBX2 := Lib.hid hbx
        have hbi := hmj.bel
        have hzi := hbi.size
        obtain ⟨q0, ⟨q1, q2, q3, q4⟩, _⟩ := hbx
        simp only [Nat.zero_add] at q1 q2 q3 q4
        clear hmj
        by_cases hlt2 : j < n
        · obtain ⟨_, _, hAA, hbl2, d0, d1, d2, d3⟩ := (Hr.out.below hbi).at_ hlt2
          cases hAA
          cases hc : cmB (f i) (f j)
          · go_wp2_with fail
            refine (imt_val (f i) (f j) false hc _).mono ?_; rintro e w1 ⟨rfl, hb1⟩; have hz1 := hb1.size; (try simp at hz1); have _ : wo.heap.size < w1.heap.size := (by first | (simp; done) | omega | (simp; omega)); have _ := fun o => hb1.cell (p := ⟨wo.heap.size, o, none⟩) (by first | (simp; done) | omega | (simp; omega))
            have hB1 : Below wr.heap.size wr w1 := by (repeat (first | with_reducible exact Below.refl _ _ | with_reducible assumption | ((with_reducible refine Below.alloc ?_ ?_ _); rotate_left; focus (first | with_reducible exact Nat.le_refl _ | omega | (simp; done) | (simp; omega))) | ((with_reducible refine Below.setCell ?_ ?_ _); rotate_left; focus (first | with_reducible exact Nat.le_refl _ | omega | (simp; done) | (simp; omega))) | (with_reducible refine Below.drew ?_) | ((with_reducible refine Below.trans ?_ (Below.mono (by with_reducible assumption) ?_)); rotate_left; focus (first | with_reducible exact Nat.le_refl _ | omega | (simp; done) | (simp; omega)))))
            go_wp2
            go_roundw
            case rel => exact ⟨j + 1, by omega, by go_num, ⟨(HMJ.out.us.below hB1).congr (fun a _ => metW_no f n i j a hc), HMJ.out.bel.trans (hB1.mono HMJ.out.bel.size), Nat.lt_of_lt_of_le HMJ.out.lt hB1.size⟩, HBX2.out.below hB1⟩
            case measure => simp [intOf]; omega
          · go_wp2_with fail
            refine (imt_val (f i) (f j) true hc _).mono ?_; rintro e w1 ⟨rfl, hb1⟩; have hz1 := hb1.size; (try simp at hz1); have _ : wo.heap.size < w1.heap.size := (by first | (simp; done) | omega | (simp; omega)); have _ := fun o => hb1.cell (p := ⟨wo.heap.size, o, none⟩) (by first | (simp; done) | omega | (simp; omega))
            have hB1 : Below wr.heap.size wr w1 := by (repeat (first | with_reducible exact Below.refl _ _ | with_reducible assumption | ((with_reducible refine Below.alloc ?_ ?_ _); rotate_left; focus (first | with_reducible exact Nat.le_refl _ | omega | (simp; done) | (simp; omega))) | ((with_reducible refine Below.setCell ?_ ?_ _); rotate_left; focus (first | with_reducible exact Nat.le_refl _ | omega | (simp; done) | (simp; omega))) | (with_reducible refine Below.drew ?_) | ((with_reducible refine Below.trans ?_ (Below.mono (by with_reducible assumption) ?_)); rotate_left; focus (first | with_reducible exact Nat.le_refl _ | omega | (simp; done) | (simp; omega)))))
            have HB1 := Lib.hid hB1
            have hg1 : w.heap.size < w1.heap.size := Nat.lt_of_lt_of_le HMJ.out.lt hB1.size
            obtain ⟨_, _, e0, e1⟩ := (HMJ.out.us.below hB1).at_ hlt
            rw [metW_at] at e0
            clear hB1
            have hM := maskI_lt (fun j => cmB (f i) (f j)) j
            have hP := pow_le7 j (by omega)
            have hP2 : 2 ^ j ≤ 64 := by have := Nat.pow_le_pow_right (n := 2) (by omega) (show j ≤ 6 by omega); omega
            have hor := or_top_u ⟨j, by omega⟩ ⟨maskI (fun j => cmB (f i) (f j)) j, by omega⟩ hM
            have hsh := shl_u ⟨j, by omega⟩
            dsimp only at hor hsh
            have HMs : Hid (maskI (fun j => cmB (f i) (f j)) (j + 1) = maskI (fun j => cmB (f i) (f j)) j + 2 ^ j) := Lib.hid (by simp [maskI, hc])
            generalize hMM : maskI (fun j => cmB (f i) (f j)) j = M at hM hor e0
            have HMM := Lib.hid hMM
            clear hMM
            generalize hPP : 2 ^ j = P at hM hor hsh hP hP2
            have HPP := Lib.hid hPP
            clear hPP
            go_wp2
            go_still_tail 8, (by kernel_rfl)
            go_wp2
            go_roundw
            case rel =>
              have hs := (HMJ.out.us.below HB1.out).set (k := i) (f' := metW f n i (j + 1)) hlt (fun a _ hne => metW_other f n i j (j + 1) a hne)
              rw [metW_at, HMs.out, HMM.out, HPP.out, Int.natCast_add] at hs
              have hb9 : Below w.heap.size w w1 := HMJ.out.bel.trans (HB1.out.mono HMJ.out.bel.size)
              refine ⟨j + 1, by omega, by go_num, ⟨hs, by (repeat (first | with_reducible exact Below.refl _ _ | with_reducible assumption | ((with_reducible refine Below.alloc ?_ ?_ _); rotate_left; focus (first | with_reducible exact Nat.le_refl _ | omega | (simp; done) | (simp; omega))) | ((with_reducible refine Below.setCell ?_ ?_ _); rotate_left; focus (first | with_reducible exact Nat.le_refl _ | omega | (simp; done) | (simp; omega))) | (with_reducible refine Below.drew ?_) | ((with_reducible refine Below.trans ?_ (Below.mono (by with_reducible assumption) ?_)); rotate_left; focus (first | with_reducible exact Nat.le_refl _ | omega | (simp; done) | (simp; omega))))), by simpa [World.setCell] using hg1⟩, ?_⟩
              exact (HBX2.out.below HB1.out).grownB (grown_drew (grown_setCell (o := i) (World.grownBy.refl _ _) _)) (by have := HMP.out.lt; omega)
            case measure => simp [intOf]; omega
        · obtain rfl : j = n := by omega
          go_wp2
          go_roundw
          case rel => exact ⟨i + 1, by omega, by go_num, HMJ.out.us.congr (fun a _ => metW_row f j i a), HMJ.out.bel, HMJ.out.lt⟩
          case measure => simp [intOf]; omega
    · obtain rfl : i = n := by omega
      go_wp2
      go_ret
      exact ⟨_, rfl, Nat.le_refl _, HMP.out.us.congr (fun a ha => metW_all f i a ha), HMP.out.bel, HMP.out.lt⟩

set_option maxHeartbeats 2000000 in
set_option maxRecDepth 20000 in
theorem iam_any (A : Option Addr) (n cap : Nat) (f : Nat → Rt) (w : World) (hn : n ≤ maxLen) (hr : Rs w A n f) :
    Calls Tryd.prog 10 #[.slice A n cap] w fun e w' => e = .returned (.bool (amF f n)) ∧ Below w.heap.size w w' := by
  have Hn := Lib.hid hn
  have Hr := Lib.hid hr
  clear hn hr
  cases hl : laidF f n
  · have H : Hid (amF f n = false) := Lib.hid (by unfold amF; rw [hl, Bool.and_false])
    go_enter Tryd.func10, Tryd.ntmps10
    go_wp2_with fail
    refine (ilaid_val A n cap f false hl _ Hn.out Hr.out).mono ?_; rintro e w1 ⟨rfl, hb1⟩; have hz1 := hb1.size; (try simp at hz1)
    go_wp2
    go_ret
    exact ⟨ret_bool (by rw [H.out]), by (repeat (first | with_reducible exact Below.refl _ _ | with_reducible assumption | ((with_reducible refine Below.alloc ?_ ?_ _); rotate_left; focus (first | with_reducible exact Nat.le_refl _ | omega | (simp; done) | (simp; omega))) | ((with_reducible refine Below.setCell ?_ ?_ _); rotate_left; focus (first | with_reducible exact Nat.le_refl _ | omega | (simp; done) | (simp; omega))) | (with_reducible refine Below.drew ?_) | ((with_reducible refine Below.trans ?_ (Below.mono (by with_reducible assumption) ?_)); rotate_left; focus (first | with_reducible exact Nat.le_refl _ | omega | (simp; done) | (simp; omega)))))⟩
  · obtain ⟨h7, hok⟩ := laidF_ok hl
    go_enter Tryd.func10, Tryd.ntmps10
    go_wp2_with fail
    refine (ilaid_val A n cap f true hl _ Hn.out Hr.out).mono ?_; rintro e w1 ⟨rfl, hb1⟩; have hz1 := hb1.size; (try simp at hz1)
    go_wp2_with fail
    refine (met_any A n cap f _ h7 (Hr.out.below hb1)).mono ?_; rintro e w2 ⟨g, rfl, hg, hus, hb2, hgl⟩
    have HU := Lib.hid hus
    have HB : Hid (Below w.heap.size w w2) := Lib.hid (hb1.trans (hb2.mono hb1.size))
    clear hus hb1 hb2 hok
    go_wp2
    go_loopw [11] (fun s wr => ∃ i : Nat, i ≤ n ∧ s = .int .i64 i ∧ (∀ k, k < i → metN f n k = 2 ^ n - 1) ∧ w2 = wr) (fun s _ => n - (intOf s).toNat)
    case atStart => exact ⟨0, Nat.zero_le _, rfl, fun k hk => by omega, by trivial⟩
    case round =>
      obtain ⟨i, hi, rfl, hall, rfl⟩ := hrel
      have HA := Lib.hid hall
      clear hall
      by_cases hlt : i < n
      · obtain ⟨_, _, e0, _⟩ := HU.out.at_ hlt
        have HL : Hid (laidF f n = true) := Lib.hid hl
        by_cases hm : metN f n i = 2 ^ n - 1
        · have Hm := Lib.hid hm
          rw [hm] at e0
          clear hm
          go_wp2_with fail
          refine (allof_any n _ h7).mono ?_; rintro e w' ⟨rfl, rfl⟩
          go_wp2
          go_roundw
          case rel => exact ⟨i + 1, by omega, by go_num, fun k hk => by
            by_cases e : k = i
            · subst e; exact Hm.out
            · exact HA.out k (by omega), by trivial⟩
          case measure => simp [intOf]; omega
        · have H : Hid (amF f n = false) := Lib.hid (by rw [← Bool.not_eq_true, am_full hl]; exact fun h => hm (h i hlt))
          generalize hX : metN f n i = X at e0 hm
          generalize hY : 2 ^ n - 1 = Y at hm
          have HY := Lib.hid hY
          clear hX hY
          go_wp2_with fail
          refine (allof_eq n Y HY.out _ h7).mono ?_; rintro e w' ⟨rfl, rfl⟩
          have hne : ((X : Int) == (Y : Int)) = false := by simp; omega
          go_wp2
          go_ret
          exact ⟨ret_bool (by rw [H.out]), HB.out⟩
      · obtain rfl : i = n := by omega
        have H : Hid (amF f i = true) := Lib.hid ((am_full hl).2 HA.out)
        go_wp2
        go_ret
        exact ⟨ret_bool (by rw [H.out]), HB.out⟩
theorem iam_val (A : Option Addr) (n cap : Nat) (f : Nat → Rt) (v : Bool) (h : amF f n = v) (w : World) (hn : n ≤ maxLen) (hr : Rs w A n f) :
    Calls Tryd.prog 10 #[.slice A n cap] w fun e w' => e = .returned (.bool v) ∧ Below w.heap.size w w' := h ▸ iam_any A n cap f w hn hr

theorem and_u (a b : Nat) (ha : a < 128) (hb : b < 128) : bits .and .u64 (a : Int) (b : Int) = ((a &&& b : Nat) : Int) := u64_and_nat a b (by omega) (by omega)
theorem has_bel (s i : Nat) (v : Bool) (h : s.testBit i = v) (w : World) (hs : s < 128) (hi : i < 7) :
    Calls Tryd.prog 29 #[.int .u64 s, .int .i64 i] w fun e w' => e = .returned (.bool v) ∧ Below w.heap.size w w' :=
  (has_val s i v h w hs hi).mono (by rintro e w' ⟨rfl, rfl⟩; exact ⟨rfl, Below.refl _ _⟩)
set_option maxHeartbeats 2000000 in
set_option maxRecDepth 20000 in
theorem apart_any (s : Nat) (A : Option Addr) (n cap g : Nat) (f : Nat → Rt) (w : World) (h7 : n ≤ 7) (hs : s < 128) (hu : Us w A n (metN f n) g) :
    Calls Tryd.prog 15 #[.int .u64 s, .slice A n cap] w fun e w' => e = .returned (.bool (apU f n s n)) ∧ Below w.heap.size w w' := by
  have HU := Lib.hid hu
  clear hu
  go_enter Tryd.func15, Tryd.ntmps15
  go_wp2
  go_loopw [8] (fun t wr => ∃ i : Nat, i ≤ n ∧ t = .int .i64 i ∧ apU f n s i = true ∧ Below w.heap.size w wr) (fun t _ => n - (intOf t).toNat)
  case atStart => exact ⟨0, Nat.zero_le _, rfl, rfl, Below.refl _ _⟩
  case round =>
    obtain ⟨i, hi, rfl, hap, hbr⟩ := hrel
    have HA := Lib.hid hap
    have hzr := hbr.size
    clear hap
    by_cases hlt : i < n
    · obtain ⟨rfl, hgl, e0, _⟩ := (HU.out.below hbr).at_ hlt
      have hmb : metN f n i < 128 := Nat.lt_of_lt_of_le (metN_lt f n i) (pow_le7 n h7)
      have hst : Hid (apU f n s (i + 1) = (apU f n s i && (!s.testBit i || decide (s &&& metN f n i = 2 ^ i)))) := Lib.hid rfl
      cases hb : s.testBit i
      · go_wp2_with fail
        have hq : True := trivial; have hq := fun d os o => (below_regrown wr d os).cell (p := ⟨g, o, none⟩) (by first | (simp; done) | omega | (simp; omega)); refine wp_region_quiet_below (by kernel_rfl) (by kernel_rfl) ?_; (repeat (first | go_big_quiet_step (exact Calls.regrown_of (has_bel s i false (by assumption) _ hs (by omega))) | quiet_step (exact Calls.regrown_of (has_bel s i false (by assumption) _ hs (by omega))))); refine wpQuiet_nil ?_; intro _ hw'; obtain ⟨⟨dq, osq⟩, hw''⟩ := hw'; subst hw''; clear hq; have hb1 := below_regrown wr dq osq; generalize Sort.grow (redrawn wr dq) osq = w1 at hb1 ⊢; have hz1 := hb1.size; (try simp at hz1); have _ : g < w1.heap.size := (by first | (simp; done) | omega | (simp; omega)); have _ := fun o => hb1.cell (p := ⟨g, o, none⟩) (by first | (simp; done) | omega | (simp; omega))
        go_wp2
        go_roundw
        case rel => exact ⟨i + 1, by omega, by go_num, by rw [hst.out, HA.out, hb]; rfl, by (repeat (first | with_reducible exact Below.refl _ _ | with_reducible assumption | ((with_reducible refine Below.alloc ?_ ?_ _); rotate_left; focus (first | with_reducible exact Nat.le_refl _ | omega | (simp; done) | (simp; omega))) | ((with_reducible refine Below.setCell ?_ ?_ _); rotate_left; focus (first | with_reducible exact Nat.le_refl _ | omega | (simp; done) | (simp; omega))) | (with_reducible refine Below.drew ?_) | ((with_reducible refine Below.trans ?_ (Below.mono (by with_reducible assumption) ?_)); rotate_left; focus (first | with_reducible exact Nat.le_refl _ | omega | (simp; done) | (simp; omega)))))⟩
        case measure => simp [intOf]; omega
      · have hand := and_u s (metN f n i) hs hmb
        have hsh := shl_u ⟨i, by omega⟩
        have hP2 : 2 ^ i ≤ 64 := by have := Nat.pow_le_pow_right (n := 2) (by omega) (show i ≤ 6 by omega); omega
        dsimp only at hsh
        by_cases he : s &&& metN f n i = 2 ^ i
        · have He := Lib.hid he
          rw [he] at hand
          generalize hPP : 2 ^ i = P at hsh hP2 hand
          generalize hMM : metN f n i = M at e0 hmb hand
          clear hPP hMM he
          go_wp2_with fail
          have hq : True := trivial; have hq := fun d os o => (below_regrown wr d os).cell (p := ⟨g, o, none⟩) (by first | (simp; done) | omega | (simp; omega)); refine wp_region_quiet_below (by kernel_rfl) (by kernel_rfl) ?_; (repeat (first | go_big_quiet_step (exact Calls.regrown_of (has_bel s i true (by assumption) _ hs (by omega))) | quiet_step (exact Calls.regrown_of (has_bel s i true (by assumption) _ hs (by omega))))); refine wpQuiet_nil ?_; intro _ hw'; obtain ⟨⟨dq, osq⟩, hw''⟩ := hw'; subst hw''; clear hq; have hb1 := below_regrown wr dq osq; generalize Sort.grow (redrawn wr dq) osq = w1 at hb1 ⊢; have hz1 := hb1.size; (try simp at hz1); have _ : g < w1.heap.size := (by first | (simp; done) | omega | (simp; omega)); have _ := fun o => hb1.cell (p := ⟨g, o, none⟩) (by first | (simp; done) | omega | (simp; omega))
          go_wp2
          go_roundw
          case rel => exact ⟨i + 1, by omega, by go_num, by rw [hst.out, HA.out, hb, decide_eq_true He.out]; rfl, by (repeat (first | with_reducible exact Below.refl _ _ | with_reducible assumption | ((with_reducible refine Below.alloc ?_ ?_ _); rotate_left; focus (first | with_reducible exact Nat.le_refl _ | omega | (simp; done) | (simp; omega))) | ((with_reducible refine Below.setCell ?_ ?_ _); rotate_left; focus (first | with_reducible exact Nat.le_refl _ | omega | (simp; done) | (simp; omega))) | (with_reducible refine Below.drew ?_) | ((with_reducible refine Below.trans ?_ (Below.mono (by with_reducible assumption) ?_)); rotate_left; focus (first | with_reducible exact Nat.le_refl _ | omega | (simp; done) | (simp; omega)))))⟩
          case measure => simp [intOf]; omega
        · have H := Lib.hid (apU_no hb he n hlt)
          generalize hPP : 2 ^ i = P at hsh hP2 he
          generalize hXX : s &&& metN f n i = X at hand he
          generalize hMM : metN f n i = M at e0 hmb hand
          clear hPP hMM hXX
          have hne : ((X : Int) == (P : Int)) = false := by simp; omega
          go_wp2_with fail
          have hq : True := trivial; have hq := fun d os o => (below_regrown wr d os).cell (p := ⟨g, o, none⟩) (by first | (simp; done) | omega | (simp; omega)); refine wp_region_quiet_below (by kernel_rfl) (by kernel_rfl) ?_; (repeat (first | go_big_quiet_step (exact Calls.regrown_of (has_bel s i true (by assumption) _ hs (by omega))) | quiet_step (exact Calls.regrown_of (has_bel s i true (by assumption) _ hs (by omega))))); refine wpQuiet_nil ?_; intro _ hw'; obtain ⟨⟨dq, osq⟩, hw''⟩ := hw'; subst hw''; clear hq; have hb1 := below_regrown wr dq osq; generalize Sort.grow (redrawn wr dq) osq = w1 at hb1 ⊢; have hz1 := hb1.size; (try simp at hz1); have _ : g < w1.heap.size := (by first | (simp; done) | omega | (simp; omega)); have _ := fun o => hb1.cell (p := ⟨g, o, none⟩) (by first | (simp; done) | omega | (simp; omega))
          go_wp2
          go_ret
          exact ⟨ret_bool (by rw [H.out]), by (repeat (first | with_reducible exact Below.refl _ _ | with_reducible assumption | ((with_reducible refine Below.alloc ?_ ?_ _); rotate_left; focus (first | with_reducible exact Nat.le_refl _ | omega | (simp; done) | (simp; omega))) | ((with_reducible refine Below.setCell ?_ ?_ _); rotate_left; focus (first | with_reducible exact Nat.le_refl _ | omega | (simp; done) | (simp; omega))) | (with_reducible refine Below.drew ?_) | ((with_reducible refine Below.trans ?_ (Below.mono (by with_reducible assumption) ?_)); rotate_left; focus (first | with_reducible exact Nat.le_refl _ | omega | (simp; done) | (simp; omega)))))⟩
    · obtain rfl : i = n := by omega
      go_wp2
      go_ret
      exact ⟨ret_bool (by rw [HA.out]), hbr⟩
end Go.Proofs.YtkfeeijiockdhaaDoor
namespace Go.Proofs.YtkfeeijiockdhaaDoor
open Go.RowKit Go.Sort
set_option linter.unusedVariables false
/-- A list of sets in a slice that can be read. -/
def Ur (w : World) (A : Option Addr) (st : List Nat) : Prop :=
  st = [] ∨ ∃ b, A = some ⟨b, 0, none⟩ ∧ b < w.heap.size ∧ ∀ k s, st[k]? = some s → w.cell? ⟨b, k, none⟩ = some (.int .u64 (s : Nat))
theorem Ur.below {w w' : World} {A : Option Addr} {st : List Nat} (h : Ur w A st) (hb : Below w.heap.size w w') : Ur w' A st := by
  rcases h with h | ⟨b, ha, hl, hc⟩
  · exact Or.inl h
  · exact Or.inr ⟨b, ha, Nat.lt_of_lt_of_le hl hb.size, fun k s hk => (hb.cell (p := ⟨b, _, none⟩) hl).trans (hc k s hk)⟩
theorem Ur.at_ {w : World} {A : Option Addr} {st : List Nat} {k s : Nat} (h : Ur w A st) (hk : st[k]? = some s) : ∃ b, A = some ⟨b, 0, none⟩ ∧ b < w.heap.size ∧ w.cell? ⟨b, k, none⟩ = some (.int .u64 (s : Nat)) := by
  rcases h with h | ⟨b, ha, hl, hc⟩
  · subst h; cases hk
  · exact ⟨b, ha, hl, hc k s hk⟩
def setL (st : List Nat) : List Value := st.map fun a => Value.int .u64 (a : Nat)
theorem setL_len (st : List Nat) : (setL st).length = st.length := by simp [setL]
theorem setL_snoc (st : List Nat) (k : Nat) : setL (st ++ [k]) = setL st ++ [.int .u64 (k : Nat)] := by simp [setL]
/-- A list of sets in a slice of the call's own. -/
def StU (w : World) (base : Nat) (v : Value) (st : List Nat) : Prop := w.ownsRow base 39 1 v st.length (setL st)
theorem StU.nil (w : World) (base : Nat) : StU w base (.slice none 0 0) [] := ⟨rfl, Or.inl ⟨rfl, rfl⟩⟩
theorem StU.below {w w' : World} {base : Nat} {v : Value} {st : List Nat} (H : StU w base v st) (hb : Below w.heap.size w w') : StU w' base v st := by
  refine ⟨H.1, ?_⟩
  rcases H.2 with h0 | ⟨g, c, cur, h1, h2, h3, h4⟩
  · exact Or.inl h0
  · refine Or.inr ⟨g, c, cur, h1, h2, ?_, h4⟩
    rw [hb.block g ((Array.getElem?_eq_some_iff.1 h3).choose)]; exact h3
theorem StU.alloc {w : World} {base : Nat} {v : Value} {st : List Nat} (H : StU w base v st) (o : Obj) : StU (w.alloc o) base v st := H.below ((Below.refl _ _).alloc (Nat.le_refl _) _)
theorem StU.ur {w : World} {base : Nat} {v : Value} {st : List Nat} (H : StU w base v st) : ∃ A cap, v = .slice A st.length cap ∧ Ur w A st := by
  rcases H.2 with ⟨h0, h1⟩ | ⟨g, c, cur, h1, h2, h3, h4⟩
  · exact ⟨none, 0, by rw [h0, h1], Or.inl (List.eq_nil_of_length_eq_zero h1)⟩
  · subst h1
    refine ⟨_, c, rfl, Or.inr ⟨g, rfl, (Array.getElem?_eq_some_iff.1 h3).choose, fun k s hk => ?_⟩⟩
    have hl : k < st.length := (List.getElem?_eq_some_iff.1 hk).choose
    rw [World.ownsRow.cellAt H k (by omega)]
    unfold setL
    rw [List.getElem?_map, hk]; rfl
/-- A set is appended. -/
theorem list_set1 (w : World) {ops : Array Oper} {rest : List Oper} {o : Oper} {a : Act} {Q : Exit → Act → World → Prop} (hgd : o.guard = none) (s x : Operand) (ho : o.op = .call { callee := .builtin .append, args := #[s, x], argTypes := #[43, 43] })
    (base : Nat) (v : Value) (st : List Nat) (hs : a.eval s = v) (hown : StU w base v st) (b j : Nat) (hx : a.eval x = .slice (some ⟨b, 0, none⟩) 1 1)
    (hc : w.cell? ⟨b, 0, none⟩ = some (.int .u64 (j : Nat))) (hsz : st.length ≤ 1000000) (hbase : base ≤ w.heap.size)
    (hh : ∀ v' w', StU w' base v' (st ++ [j]) → Below base w w' → w.grownBy w' v.ownBlock → (v'.ownBlock = v.ownBlock ∨ v'.ownBlock = some w.heap.size) → wpList Tryd.prog ops Q rest (a.put o.dst v') w') : wpList Tryd.prog ops Q (o :: rest) a w := by
  obtain ⟨i0, hi, hz, hsi, hby⟩ := info_parts infoU
  refine wpList_append_own_at w hgd s x 43 ho base 39 i0 (.int .u64 0) 1 8 Tryd.underlying43 hi hz hsi hby rfl (by omega) v st.length (setL st) hs hown ⟨b, 0, none⟩ 1 1 [.int .u64 (j : Nat)] hx rfl (fun i u hu => ?_) (fun u hu => by simp at hu; subst hu; rfl) (by unfold maxLen; omega) (by omega) hbase (fun v' w' h2 h3 h4 h5 => ?_)
  · cases i with
    | zero => simp at hu; subst hu; exact hc
    | succ i => simp at hu
  · refine hh v' w' ?_ (own_below hown h3 hbase) h3 h5
    unfold StU
    rw [List.length_append, List.length_singleton, setL_snoc]
    exact h2

theorem Bx.grownV {w w' : World} {b : Nat} {row : Option Nat} {r : Rt} (h : Bx w b r) (hg : w.grownBy w' row) (hn : row ≠ some b) : Bx w' b r := by
  have hb := hg.block b h.1 (fun e => hn (by first | exact e | exact e.symm))
  obtain ⟨h1, ⟨c0, c1, c2, c3⟩, h3⟩ := h
  exact ⟨Nat.lt_of_lt_of_le h1 hg.size, ⟨(World.cell?_of_block (w := w) hb).trans c0, (World.cell?_of_block (w := w) hb).trans c1, (World.cell?_of_block (w := w) hb).trans c2, (World.cell?_of_block (w := w) hb).trans c3⟩, fun o => (World.frozen?_of_block (w := w) hb).trans (h3 o)⟩
theorem hav_bit {r : Rt} {x y : Int} : insideB ⟨x, y, x + 1, y + 1⟩ r = hasB r x y := by
  rw [Bool.eq_iff_iff, hasB_iff]; unfold insideB; rw [decide_eq_true_iff]; dsimp only; omega
theorem low_u : ∀ a : Fin 128, ∀ i : Fin 7, a.val.testBit i.val = true → (∀ j : Fin 7, j.val < i.val → a.val.testBit j.val = false) → bits .and .u64 ((a.val : Nat) : Int) (IntKind.u64.wrap (-((a.val : Nat) : Int))) = ((2 ^ i.val : Nat) : Int) := by decide +kernel
theorem bit_u : ∀ s : Fin 128, ∀ i : Fin 7, bits .and .u64 ((s.val : Nat) : Int) ((2 ^ i.val : Nat) : Int) = if s.val.testBit i.val then ((2 ^ i.val : Nat) : Int) else 0 := by decide +kernel
theorem dif_u (a b : Nat) (ha : a < 128) (hb : b < 128) : bits .andNot .u64 (a : Int) (b : Int) = ((difN a b : Nat) : Int) := by
  have e : ∀ X Y : BitVec 64, X &&& ~~~Y = X ^^^ (X &&& Y) := fun X Y => by
    refine BitVec.eq_of_getLsbD_eq fun i hi => ?_
    simp only [BitVec.getLsbD_and, BitVec.getLsbD_not, BitVec.getLsbD_xor, hi, decide_true, Bool.true_and]
    cases X.getLsbD i <;> cases Y.getLsbD i <;> rfl
  have hd : difN a b < 2 ^ 7 := difN_lt (by omega)
  show IntKind.u64.wrap ((BitVec.ofInt 64 (a : Int) &&& ~~~BitVec.ofInt 64 (b : Int)).toNat : Int) = _
  rw [e, BitVec.toNat_xor, BitVec.toNat_and, ofInt_u64 a (by omega), ofInt_u64 b (by omega), IntKind.wrap_u64]
  show (((difN a b : Nat) : Int)) % _ = _
  omega
end Go.Proofs.YtkfeeijiockdhaaDoor
