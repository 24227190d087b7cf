
/- Chapter 5, as loops over places and over bits have it. -/
import Derived.Test.YthbmiibbnbbdgaaMathS
namespace Go.Proofs.Ythbmiibbnbbdgaa
set_option linter.unusedVariables false
/-- all before j meet the k-th one -/
def mrow (f : Nat → Rt) (k : Nat) : Nat → Bool
  | 0 => true
  | j + 1 => mrow f k j && cmB (f j) (f k)
/-- each two of the first k meet -/
def mall (f : Nat → Rt) : Nat → Bool
  | 0 => true
  | k + 1 => mall f k && mrow f k k
theorem mrow_iff (f : Nat → Rt) (k j : Nat) : mrow f k j = true ↔ ∀ i, i < j → cmB (f i) (f k) = true := by
  induction j with
  | zero => exact ⟨fun _ i hi => by omega, fun _ => rfl⟩
  | succ j ih =>
    simp only [mrow, Bool.and_eq_true]; rw [ih]
    refine ⟨fun ⟨h1, h2⟩ i hi => ?_, fun h => ⟨fun i hi => h i (by omega), h j (by omega)⟩⟩
    by_cases e : i = j
    · subst e; exact h2
    · exact h1 i (by omega)
theorem mall_iff (f : Nat → Rt) (n : Nat) : mall f n = true ↔ allM f n := by
  induction n with
  | zero => exact ⟨fun _ i j _ hj => by omega, fun _ => rfl⟩
  | succ n ih =>
    simp only [mall, Bool.and_eq_true]; rw [ih, mrow_iff]
    refine ⟨fun ⟨h1, h2⟩ i j hij hj => ?_, fun h => ⟨fun i j hij hj => h i j hij (by omega), fun i hi => h i n hi (by omega)⟩⟩
    by_cases e : j = n
    · subst e; exact h2 i hij
    · exact h1 i j hij (by omega)
theorem mall_no {f : Nat → Rt} {n j k : Nat} (hj : j < k) (hk : k < n) (h : cmB (f j) (f k) = false) : mall f n = false := by
  rw [← Bool.not_eq_true, mall_iff]; intro hh; rw [hh j k hj hk] at h; cases h
def amF (f : Nat → Rt) (n : Nat) : Bool := mall f n && laidF f n
theorem amF_iff (f : Nat → Rt) (n : Nat) : amF f n = true ↔ allM f n ∧ laidF f n = true := by unfold amF; rw [Bool.and_eq_true, mall_iff]
/-- How many cells pierce all, and how many are apart; -1 for others. -/
noncomputable def prF (f : Nat → Rt) (n : Nat) : Int := if laidF f n then prN f n else -1
noncomputable def apF (f : Nat → Rt) (n : Nat) : Int := if laidF f n then apN f n else -1
-- sets of bits
/-- none of the set before j meets the k-th one -/
def arow (f : Nat → Rt) (s k : Nat) : Nat → Bool
  | 0 => true
  | j + 1 => arow f s k j && (!s.testBit j || !cmB (f j) (f k))
/-- no two of the set's first k meet -/
def aall (f : Nat → Rt) (s : Nat) : Nat → Bool
  | 0 => true
  | k + 1 => aall f s k && (!s.testBit k || arow f s k k)
theorem arow_iff (f : Nat → Rt) (s k j : Nat) : arow f s k j = true ↔ ∀ i, i < j → s.testBit i = true → cmB (f i) (f k) = false := by
  induction j with
  | zero => exact ⟨fun _ i hi => by omega, fun _ => rfl⟩
  | succ j ih =>
    simp only [arow, Bool.and_eq_true, Bool.or_eq_true, Bool.not_eq_true']; rw [ih]
    refine ⟨fun ⟨h1, h2⟩ i hi hb => ?_, fun h => ⟨fun i hi => h i (by omega), ?_⟩⟩
    · by_cases e : i = j
      · subst e
        rcases h2 with h2 | h2
        · rw [hb] at h2; cases h2
        · exact h2
      · exact h1 i (by omega) hb
    · cases hb : s.testBit j
      · exact Or.inl rfl
      · exact Or.inr (h j (by omega) hb)
theorem aall_iff (f : Nat → Rt) (s n : Nat) : aall f s n = true ↔ Ap f n (fun i => s.testBit i) := by
  induction n with
  | zero => exact ⟨fun _ i j _ hj => by omega, fun _ => rfl⟩
  | succ n ih =>
    simp only [aall, Bool.and_eq_true, Bool.or_eq_true, Bool.not_eq_true']; rw [ih, arow_iff]
    refine ⟨fun ⟨h1, h2⟩ i j hij hj hi hj' => ?_, fun h => ⟨fun i j hij hj => h i j hij (by omega), ?_⟩⟩
    · by_cases e : j = n
      · subst e
        rcases h2 with h2 | h2
        · exact absurd hj' (by simp [h2])
        · exact h2 i hij hi
      · exact h1 i j hij (by omega) hi hj'
    · cases hb : s.testBit n
      · exact Or.inl rfl
      · exact Or.inr fun i hi hb' => h i n hi (by omega) hb' hb
theorem popTo_cnt (s n : Nat) : popTo s n = cntI n (fun i => s.testBit i) := by
  induction n with
  | zero => rfl
  | succ n ih => simp only [popTo, cntI]; rw [ih]; cases s.testBit n <;> rfl
/-- the number of a set -/
def maskI (I : Nat → Bool) : Nat → Nat
  | 0 => 0
  | n + 1 => maskI I n + (if I n = true then 2 ^ n else 0)
theorem maskI_lt (I : Nat → Bool) (n : Nat) : maskI I n < 2 ^ n := by
  induction n with
  | zero => exact Nat.one_pos
  | succ n ih => simp only [maskI]; have := Nat.pow_succ 2 n; split <;> omega
theorem maskI_bit (I : Nat → Bool) (n : Nat) : ∀ i, i < n → (maskI I n).testBit i = I i := by
  induction n with
  | zero => intro i hi; omega
  | succ n ih =>
    intro i hi
    simp only [maskI]
    have hlt := maskI_lt I n
    by_cases e : i = n
    · subst e
      cases h : I i
      · simp only [Bool.false_eq_true, if_false, Nat.add_zero]; exact Nat.testBit_lt_two_pow hlt
      · simp only [if_true]; rw [Nat.add_comm, Nat.testBit_two_pow_add_eq, Nat.testBit_lt_two_pow hlt]; rfl
    · cases h : I n
      · simp only [Bool.false_eq_true, if_false, Nat.add_zero]; exact ih i (by omega)
      · simp only [if_true]; rw [Nat.add_comm, Nat.testBit_two_pow_add_gt (by omega)]; exact ih i (by omega)
theorem maskI_far (I : Nat → Bool) (n : Nat) {i : Nat} (hi : n ≤ i) : (maskI I n).testBit i = false :=
  Nat.testBit_lt_two_pow (Nat.lt_of_lt_of_le (maskI_lt I n) (Nat.pow_le_pow_right (by omega) hi))
/-- the best of the sets below s -/
def bestA (f : Nat → Rt) (n : Nat) : Nat → Nat
  | 0 => 0
  | s + 1 => if aall f s n then max (bestA f n s) (popTo s n) else bestA f n s
theorem bestA_le (f : Nat → Rt) (n : Nat) : ∀ s t, t < s → aall f t n = true → popTo t n ≤ bestA f n s
  | 0, t, h, _ => by omega
  | s + 1, t, h, ha => by
    simp only [bestA]
    by_cases e : t = s
    · subst e; rw [if_pos ha]; omega
    · have := bestA_le f n s t (by omega) ha
      split <;> omega
theorem bestA_at (f : Nat → Rt) (n : Nat) : ∀ s, ∃ I, Ap f n I ∧ cntI n I = bestA f n s
  | 0 => ⟨fun _ => false, fun i j _ _ h => absurd (show false = true from h) (by decide), cntI_none fun _ _ => rfl⟩
  | s + 1 => by
    simp only [bestA]
    by_cases ha : aall f s n = true
    · rw [if_pos ha]
      by_cases h : bestA f n s ≤ popTo s n
      · exact ⟨fun i => s.testBit i, (aall_iff f s n).1 ha, by rw [← popTo_cnt]; omega⟩
      · obtain ⟨I, h1, h2⟩ := bestA_at f n s
        exact ⟨I, h1, by omega⟩
    · rw [if_neg ha]; exact bestA_at f n s
theorem bestA_all (f : Nat → Rt) (n : Nat) : bestA f n (2 ^ n) = apN f n := by
  refine (apN_eq ⟨bestA_at f n _, fun I hI => ?_⟩).symm
  have := bestA_le f n (2 ^ n) (maskI I n) (maskI_lt I n) ((aall_iff _ _ _).2 fun i j hij hj hi hj' => hI i j hij hj (by rw [← maskI_bit I n i (by omega)]; exact hi) (by rw [← maskI_bit I n j hj]; exact hj'))
  rw [popTo_cnt, cntI_congr (J := I) (fun i hi => maskI_bit I n i hi)] at this
  exact this
theorem bestA_bd (f : Nat → Rt) (n s : Nat) : bestA f n s ≤ n := by
  obtain ⟨I, _, h⟩ := bestA_at f n s
  rw [← h]; exact cntI_le n I

-- what cells at left and low sides pierce
/-- The set of those that have the cell at the k-th one's left and the j-th one's low side. -/
def hitN (f : Nat → Rt) (n k j : Nat) : Nat := maskI (fun i => hasB (f i) (f k).l (f j).o) n
/-- so many of the sets have all that are left -/
def Pc (st : List Nat) (m left : Nat) : Prop := ∃ cs : List Nat, cs.length ≤ m ∧ (∀ s, s ∈ cs → s ∈ st) ∧ ∀ i, left.testBit i = true → ∃ s, s ∈ cs ∧ s.testBit i = true
theorem Pc.none {st : List Nat} (m : Nat) : Pc st m 0 := ⟨[], Nat.zero_le _, fun s h => absurd h List.not_mem_nil, fun i h => by simp at h⟩
theorem Pc.zero {st : List Nat} {left : Nat} (h : left ≠ 0) : ¬ Pc st 0 left := fun ⟨cs, h1, _, h3⟩ => by
  have : cs = [] := List.eq_nil_of_length_eq_zero (by omega)
  subst this
  apply h
  refine Nat.eq_of_testBit_eq fun i => ?_
  rw [Nat.zero_testBit]
  cases hb : left.testBit i
  · rfl
  · obtain ⟨s, hs, _⟩ := h3 i hb; cases hs
/-- what is left behind a set -/
def difN (a b : Nat) : Nat := a ^^^ (a &&& b)
theorem difN_bit (a b i : Nat) : (difN a b).testBit i = (a.testBit i && !b.testBit i) := by
  unfold difN; rw [Nat.testBit_xor, Nat.testBit_and]; cases a.testBit i <;> cases b.testBit i <;> rfl
theorem difN_lt {a b n : Nat} (h : a < 2 ^ n) : difN a b < 2 ^ n := by
  unfold difN; exact Nat.xor_lt_two_pow h (Nat.lt_of_le_of_lt Nat.and_le_left h)
theorem Pc.step {st : List Nat} {m left s : Nat} (hs : s ∈ st) (h : Pc st m (difN left s)) : Pc st (m + 1) left := by
  obtain ⟨cs, h1, h2, h3⟩ := h
  refine ⟨s :: cs, by rw [List.length_cons]; omega, fun t ht => ?_, fun i hi => ?_⟩
  · rcases List.mem_cons.1 ht with e | ht
    · rw [e]; exact hs
    · exact h2 t ht
  · cases hb : s.testBit i
    · obtain ⟨t, ht, h⟩ := h3 i (by rw [difN_bit, hi, hb]; rfl)
      exact ⟨t, List.mem_cons.2 (Or.inr ht), h⟩
    · exact ⟨s, List.mem_cons.2 (Or.inl rfl), hb⟩
theorem Pc.first {st : List Nat} {m left i : Nat} (hi : left.testBit i = true) (h : Pc st (m + 1) left) : ∃ s, s ∈ st ∧ s.testBit i = true ∧ Pc st m (difN left s) := by
  obtain ⟨cs, h1, h2, h3⟩ := h
  obtain ⟨s, hs, hb⟩ := h3 i hi
  refine ⟨s, h2 s hs, hb, cs.erase s, ?_, fun t ht => h2 t (List.mem_of_mem_erase ht), fun k hk => ?_⟩
  · have := List.length_erase_of_mem hs
    have := List.length_pos_of_mem hs
    omega
  · rw [difN_bit, Bool.and_eq_true, Bool.not_eq_true'] at hk
    obtain ⟨t, ht, hb'⟩ := h3 k hk.1
    refine ⟨t, (List.mem_erase_of_ne fun e => ?_).2 ht, hb'⟩
    subst e; rw [hb'] at hk; cases hk.2
/-- The sets are just those of cells at left and low sides. -/
structure Sets (f : Nat → Rt) (n : Nat) (st : List Nat) : Prop where
  of : ∀ s, s ∈ st → ∃ k j, k < n ∧ j < n ∧ s = hitN f n k j
  all : ∀ k j, k < n → j < n → hitN f n k j ∈ st
theorem argmax (g : Nat → Int) (n : Nat) (P : Nat → Bool) (h : ∃ i, i < n ∧ P i = true) : ∃ i, i < n ∧ P i = true ∧ ∀ j, j < n → P j = true → g j ≤ g i := by
  obtain ⟨i, h1, h2, h3⟩ := least_at (n := n) (I := P) (fun i => - g i) h
  exact ⟨i, h1, h2, fun j hj hp => by have := h3 j hj hp; omega⟩
theorem pc_cells {f : Nat → Rt} {n : Nat} {st : List Nat} (hS : Sets f n st) (hok : ∀ i, i < n → okB (f i) = true) (m : Nat) : Pc st m (2 ^ n - 1) ↔ ∃ cs : List (Int × Int), cs.length ≤ m ∧ PrI f n (fun _ => true) cs := by
  have full : ∀ i, (2 ^ n - 1).testBit i = decide (i < n) := fun i => Nat.testBit_two_pow_sub_one n i
  constructor
  · rintro ⟨cs, h1, h2, h3⟩
    have pick : ∀ s, ∃ c : Int × Int, s ∈ cs → ∀ i, i < n → s.testBit i = true → hasB (f i) c.1 c.2 = true := fun s => by
      by_cases hs : s ∈ cs
      · obtain ⟨k, j, hk, hj, e⟩ := hS.of s (h2 s hs)
        exact ⟨((f k).l, (f j).o), fun _ i hi hb => by rw [e] at hb; unfold hitN at hb; rw [maskI_bit _ n i hi] at hb; exact hb⟩
      · exact ⟨(0, 0), fun h => absurd h hs⟩
    refine ⟨cs.map fun s => Classical.choose (pick s), by rw [List.length_map]; exact h1, fun i hi _ => ?_⟩
    obtain ⟨s, hs, hb⟩ := h3 i (by rw [full]; exact decide_eq_true hi)
    exact ⟨_, List.mem_map.2 ⟨s, hs, rfl⟩, Classical.choose_spec (pick s) hs i hi hb⟩
  · rintro ⟨cs, h1, h2⟩
    by_cases h0 : n = 0
    · subst h0; exact ⟨[], by simp, fun s h => (by cases h), fun i h => by simp at h⟩
    · have pick : ∀ c : Int × Int, ∃ s, s ∈ st ∧ ∀ i, i < n → hasB (f i) c.1 c.2 = true → s.testBit i = true := fun c => by
        by_cases hx : ∃ i, i < n ∧ hasB (f i) c.1 c.2 = true
        · obtain ⟨k, hk, hk1, hk2⟩ := argmax (fun i => (f i).l) n (fun i => hasB (f i) c.1 c.2) hx
          obtain ⟨j, hj, hj1, hj2⟩ := argmax (fun i => (f i).o) n (fun i => hasB (f i) c.1 c.2) hx
          refine ⟨hitN f n k j, hS.all k j hk hj, fun i hi hb => ?_⟩
          unfold hitN; rw [maskI_bit _ n i hi]
          have a1 := hasB_iff.1 hk1
          have a2 := hasB_iff.1 hj1
          have a3 := hasB_iff.1 hb
          have a4 := hk2 i hi hb
          have a5 := hj2 i hi hb
          exact hasB_iff.2 (by omega)
        · exact ⟨hitN f n 0 0, hS.all 0 0 (by omega) (by omega), fun i hi hb => absurd ⟨i, hi, hb⟩ hx⟩
      refine ⟨cs.map fun c => Classical.choose (pick c), by rw [List.length_map]; exact h1, fun s hs => ?_, fun i hi => ?_⟩
      · obtain ⟨c, _, e⟩ := List.mem_map.1 hs
        rw [← e]; exact (Classical.choose_spec (pick c)).1
      · rw [full] at hi
        obtain ⟨c, hc, hb⟩ := h2 i (of_decide_eq_true hi) rfl
        exact ⟨_, List.mem_map.2 ⟨c, hc, rfl⟩, (Classical.choose_spec (pick c)).2 i (of_decide_eq_true hi) hb⟩
/-- the least number of sets is the least number of cells -/
theorem pc_least {f : Nat → Rt} {n : Nat} {st : List Nat} (hS : Sets f n st) (hok : ∀ i, i < n → okB (f i) = true) {m : Nat} (h : Pc st m (2 ^ n - 1)) (hl : ∀ k, k < m → ¬ Pc st k (2 ^ n - 1)) : prN f n = m := by
  obtain ⟨cs, h1, h2⟩ := (pc_cells hS hok m).1 h
  have low : ∀ cs : List (Int × Int), PrI f n (fun _ => true) cs → m ≤ cs.length := fun cs hc => by
    rcases Nat.lt_or_ge cs.length m with x | x
    · exact absurd ((pc_cells hS hok _).2 ⟨cs, Nat.le_refl _, hc⟩) (hl _ x)
    · exact x
  have := low cs h2
  exact prN_eq ⟨⟨cs, by omega, h2⟩, low⟩
theorem pc_own {f : Nat → Rt} {n : Nat} {st : List Nat} (hS : Sets f n st) (hok : ∀ i, i < n → okB (f i) = true) : Pc st n (2 ^ n - 1) :=
  (pc_cells hS hok n).2 ⟨ownCs f n, Nat.le_of_eq (ownCs_len f n), ownCs_pr hok _⟩
end Go.Proofs.Ythbmiibbnbbdgaa
