/- Chapter 6: who meets whom; cliques and colours. -/
import Derived.Test.YtkfeeijiockdhaaMathV
namespace Go.Proofs.Ytkfeeijiockdhaa
set_option linter.unusedVariables false
theorem cntP_cntI (n : Nat) (I : Nat → Bool) : cntP n (fun a => I a = true) = (cntI n I : Nat) := by
  induction n with
  | zero => unfold cntP; simp [sumN, cntI]
  | succ n ih =>
    simp only [cntI]
    cases h : I n
    · rw [cntP_no (by rw [h]; decide), ih]; simp
    · rw [cntP_yes h, ih]; simp
/-- an injection counts, between sets of places -/
theorem inj_le {n m : Nat} {I J : Nat → Bool} (g : Nat → Nat) (h : ∀ a, a < n → I a = true → g a < m ∧ J (g a) = true) (hi : ∀ a b, a < n → b < n → I a = true → I b = true → g a = g b → a = b) : cntI n I ≤ cntI m J := by
  have := cnt_inj g n (fun a => I a = true) J h hi
  rw [cntP_cntI] at this; omega
theorem cntI_true (n : Nat) : cntI n (fun _ => true) = n := by
  induction n with
  | zero => rfl
  | succ n ih => simp only [cntI]; rw [ih]; rfl
theorem cntI_full {n : Nat} {I : Nat → Bool} (h : cntI n I = n) : ∀ i, i < n → I i = true := by
  induction n with
  | zero => intro i hi; omega
  | succ n ih =>
    intro i hi
    simp only [cntI] at h
    have hle := cntI_le n I
    cases hb : I n
    · rw [hb] at h; simp at h; omega
    · rw [hb] at h
      by_cases e : i = n
      · rw [e, hb]
      · exact ih (by simpa using h) i (by omega)
-- cliques
/-- each two of the set meet -/
def Clq (f : Nat → Rt) (n : Nat) (I : Nat → Bool) : Prop := ∀ i j, i < j → j < n → I i = true → I j = true → cmB (f i) (f j) = true
theorem Clq.any {f : Nat → Rt} {n : Nat} {I : Nat → Bool} (hok : ∀ i, i < n → okB (f i) = true) (h : Clq f n I) {i j : Nat} (hi : i < n) (hj : j < n) (hI : I i = true) (hJ : I j = true) : cmB (f i) (f j) = true := by
  rcases Nat.lt_trichotomy i j with x | x | x
  · exact h i j x hj hI hJ
  · rw [x]; exact meet_self (hok j hj)
  · rw [meet_comm]; exact h j i x hi hJ hI
/-- m is how many there are at most of which each two meet -/
def IsMo (f : Nat → Rt) (n m : Nat) : Prop := (∃ I, Clq f n I ∧ cntI n I = m) ∧ ∀ I, Clq f n I → cntI n I ≤ m
theorem IsMo.one {f : Nat → Rt} {n m m' : Nat} (h : IsMo f n m) (h' : IsMo f n m') : m = m' := by
  obtain ⟨⟨I, a, e⟩, l⟩ := h
  obtain ⟨⟨I', a', e'⟩, l'⟩ := h'
  have := l I' a'
  have := l' I a
  omega
theorem mo_ex (f : Nat → Rt) (n : Nat) : ∃ m, m ≤ n ∧ IsMo f n m := by
  obtain ⟨m, ⟨I, h1, h2⟩, h3⟩ := most_ex (P := fun k => ∃ I, Clq f n I ∧ cntI n I = k) n (fun k hk => by obtain ⟨I, _, e⟩ := hk; rw [← e]; exact cntI_le n I) ⟨0, fun _ => false, fun i j _ _ h => absurd (show false = true from h) (by decide), cntI_none fun _ _ => rfl⟩
  exact ⟨m, by rw [← h2]; exact cntI_le n I, ⟨I, h1, h2⟩, fun J hJ => h3 _ ⟨J, hJ, rfl⟩⟩
open Classical in
noncomputable def moN (f : Nat → Rt) (n : Nat) : Nat := if h : ∃ m, IsMo f n m then Classical.choose h else 0
theorem moN_is (f : Nat → Rt) (n : Nat) : IsMo f n (moN f n) := by
  obtain ⟨m, _, h⟩ := mo_ex f n
  unfold moN; rw [dif_pos ⟨m, h⟩]; exact Classical.choose_spec (⟨m, h⟩ : ∃ m, IsMo f n m)
theorem moN_eq {f : Nat → Rt} {n m : Nat} (h : IsMo f n m) : moN f n = m := (moN_is f n).one h
theorem moN_le (f : Nat → Rt) (n : Nat) : moN f n ≤ n := by obtain ⟨m, h1, h⟩ := mo_ex f n; rw [moN_eq h]; exact h1
/-- How many there are at most of which each two meet; -1 for others. -/
noncomputable def moF (f : Nat → Rt) (n : Nat) : Int := if laidF f n then moN f n else -1
theorem moF_yes {f : Nat → Rt} {n : Nat} (hl : laidF f n = true) : moF f n = moN f n := by unfold moF; rw [hl]; rfl
theorem depth_cnt (f : Nat → Rt) (x y : Int) (n : Nat) : depF f x y n = (cntI n (fun i => hasB (f i) x y) : Nat) := by
  induction n with
  | zero => rfl
  | succ n ih => simp only [depF, cntI]; rw [ih]; cases hasB (f n) x y <;> simp [one]
/-- the most that meet are the deepest -/
theorem mo_depth {f : Nat → Rt} {n : Nat} (hok : ∀ i, i < n → okB (f i) = true) {d x y : Nat} (h1 : depF f x y n = d) (h2 : ∀ a b : Nat, a < 20 → b < 20 → depF f a b n ≤ d) : moN f n = d := by
  rw [depth_cnt] at h1
  refine moN_eq ⟨⟨fun i => hasB (f i) x y, fun i j hij hj a b => meet_cell (hok i (by omega)) (hok j hj) a b, by omega⟩, fun I hI => ?_⟩
  by_cases hx : ∃ i, i < n ∧ I i = true
  · obtain ⟨a, ha, hIa, hla⟩ := argmax (fun i => (f i).l) n I hx
    obtain ⟨b, hb, hIb, hlb⟩ := argmax (fun i => (f i).o) n I hx
    have oa := okB_iff.1 (hok a ha)
    have ob := okB_iff.1 (hok b hb)
    have hm := cntI_mono (n := n) (I := I) (J := fun i => hasB (f i) (f a).l (f b).o) fun i hi hIi => hasB_iff.2 (by
      have m1 := (meet_iff (hok i hi) (hok a ha)).1 (hI.any hok hi ha hIi hIa)
      have m2 := (meet_iff (hok i hi) (hok b hb)).1 (hI.any hok hi hb hIi hIb)
      have m3 : (f i).l ≤ (f a).l := hla i hi hIi
      have m4 : (f i).o ≤ (f b).o := hlb i hi hIi
      omega)
    have h3 := h2 (f a).l.toNat (f b).o.toNat (by omega) (by omega)
    rw [show (((f a).l.toNat : Nat) : Int) = (f a).l by omega, show (((f b).o.toNat : Nat) : Int) = (f b).o by omega, depth_cnt] at h3
    omega
  · rw [cntI_none fun i hi => by
      cases h : I i
      · rfl
      · exact absurd ⟨i, hi, h⟩ hx]
    omega
theorem mo_all (f : Nat → Rt) (n : Nat) : moN f n = n ↔ allM f n := by
  have h := moN_is f n
  constructor
  · intro e
    obtain ⟨⟨I, h1, h2⟩, _⟩ := h
    have hf := cntI_full (h2.trans e)
    exact fun i j hij hj => h1 i j hij hj (hf i (by omega)) (hf j hj)
  · intro ha
    have h1 := h.2 (fun _ => true) fun i j hij hj _ _ => ha i j hij hj
    rw [cntI_true] at h1
    have := moN_le f n
    omega
-- as bits have it
def nbr (f : Nat → Rt) (k j : Nat) : Bool := !decide (j = k) && cmB (f j) (f k)
/-- who meets the k-th one, as bits -/
def rowN (f : Nat → Rt) (n k : Nat) : Nat := maskI (nbr f k) n
def msTo (f : Nat → Rt) (n s : Nat) : Nat → Bool
  | 0 => true
  | k + 1 => msTo f n s k && (!s.testBit k || decide (difN s (rowN f n k) = 2 ^ k))
theorem dif_row {f : Nat → Rt} {n s k : Nat} (hs : s < 2 ^ n) (hk : k < n) (hb : s.testBit k = true) : difN s (rowN f n k) = 2 ^ k ↔ ∀ i, i < n → i ≠ k → s.testBit i = true → cmB (f i) (f k) = true := by
  have hrow : ∀ i, i < n → (rowN f n k).testBit i = nbr f k i := fun i hi => maskI_bit _ n i hi
  constructor
  · intro e i hi hne hbi
    have h1 : (difN s (rowN f n k)).testBit i = (2 ^ k).testBit i := by rw [e]
    rw [difN_bit, hbi, hrow i hi, Nat.testBit_two_pow] at h1
    unfold nbr at h1
    rw [decide_eq_false hne] at h1
    rw [show decide (k = i) = false from decide_eq_false fun e => hne e.symm] at h1
    cases hc : cmB (f i) (f k)
    · rw [hc] at h1; simp at h1
    · rfl
  · intro h
    refine Nat.eq_of_testBit_eq fun i => ?_
    rw [difN_bit, Nat.testBit_two_pow]
    by_cases e : i = k
    · subst e
      rw [hb, hrow i hk]
      unfold nbr; simp
    · rw [show decide (k = i) = false from decide_eq_false fun x => e x.symm]
      rcases Nat.lt_or_ge i n with hi | hi
      · cases hbi : s.testBit i
        · rfl
        · rw [hrow i hi]; unfold nbr; rw [h i hi e hbi, decide_eq_false e]; rfl
      · rw [Nat.testBit_lt_two_pow (Nat.lt_of_lt_of_le hs (Nat.pow_le_pow_right (by omega) hi))]; rfl
theorem msTo_iff {f : Nat → Rt} {n s : Nat} (hs : s < 2 ^ n) : ∀ k, k ≤ n → (msTo f n s k = true ↔ ∀ j, j < k → s.testBit j = true → ∀ i, i < n → i ≠ j → s.testBit i = true → cmB (f i) (f j) = true)
  | 0, _ => ⟨fun _ j hj => by omega, fun _ => rfl⟩
  | k + 1, hk => by
    simp only [msTo, Bool.and_eq_true, Bool.or_eq_true, Bool.not_eq_true', decide_eq_true_eq]
    rw [msTo_iff hs k (by omega)]
    constructor
    · rintro ⟨h1, h2⟩ j hj hb
      by_cases e : j = k
      · subst e
        rcases h2 with h2 | h2
        · rw [h2] at hb; cases hb
        · exact (dif_row hs (by omega) hb).1 h2
      · exact h1 j (by omega) hb
    · intro h
      refine ⟨fun j hj hb => h j (by omega) hb, ?_⟩
      cases hb : s.testBit k
      · exact Or.inl rfl
      · exact Or.inr ((dif_row hs (by omega) hb).2 (h k (by omega) hb))
theorem ms_cl {f : Nat → Rt} {n s : Nat} (hs : s < 2 ^ n) : msTo f n s n = true ↔ Clq f n (fun i => s.testBit i) := by
  rw [msTo_iff hs n (Nat.le_refl _)]
  refine ⟨fun h i j hij hj hi hj' => h j hj hj' i (by omega) (by omega) hi, fun h j hj hb i hi hne hbi => ?_⟩
  rcases Nat.lt_or_ge i j with x | x
  · exact h i j x hj hbi hb
  · rw [meet_comm]; exact h j i (by omega) hi hb hbi
def bestM (f : Nat → Rt) (n : Nat) : Nat → Nat
  | 0 => 0
  | s + 1 => if msTo f n s n then max (bestM f n s) (popTo s n) else bestM f n s
theorem bestM_le (f : Nat → Rt) (n : Nat) : ∀ s t, t < s → msTo f n t n = true → popTo t n ≤ bestM f n s
  | 0, t, h, _ => by omega
  | s + 1, t, h, ha => by
    simp only [bestM]
    by_cases e : t = s
    · subst e; rw [if_pos ha]; omega
    · have := bestM_le f n s t (by omega) ha
      split <;> omega
theorem bestM_at (f : Nat → Rt) (n : Nat) : ∀ s, s ≤ 2 ^ n → ∃ I, Clq f n I ∧ cntI n I = bestM f n s
  | 0, _ => ⟨fun _ => false, fun i j _ _ h => absurd (show false = true from h) (by decide), cntI_none fun _ _ => rfl⟩
  | s + 1, hs => by
    simp only [bestM]
    by_cases ha : msTo f n s n = true
    · rw [if_pos ha]
      by_cases h : bestM f n s ≤ popTo s n
      · exact ⟨fun i => s.testBit i, (ms_cl (by omega)).1 ha, by rw [← popTo_cnt]; omega⟩
      · obtain ⟨I, h1, h2⟩ := bestM_at f n s (by omega)
        exact ⟨I, h1, by omega⟩
    · rw [if_neg ha]; exact bestM_at f n s (by omega)
theorem bestM_all (f : Nat → Rt) (n : Nat) : bestM f n (2 ^ n) = moN f n := by
  refine (moN_eq ⟨bestM_at f n _ (Nat.le_refl _), fun I hI => ?_⟩).symm
  have hlt := maskI_lt I n
  have := bestM_le f n (2 ^ n) (maskI I n) hlt ((ms_cl hlt).2 fun i j hij hj hi hj' => hI i j hij hj (by rw [← maskI_bit I n i (by omega)]; exact hi) (by rw [← maskI_bit I n j hj]; exact hj'))
  rw [popTo_cnt, cntI_congr (J := I) (fun i hi => maskI_bit I n i hi)] at this
  exact this
theorem bestM_bd (f : Nat → Rt) (n s : Nat) (hs : s ≤ 2 ^ n) : bestM f n s ≤ n := by
  obtain ⟨I, _, h⟩ := bestM_at f n s hs
  rw [← h]; exact cntI_le n I
-- degrees
/-- how many others the k-th one meets -/
def dgF (f : Nat → Rt) (n k : Nat) : Nat := cntI n (nbr f k)
theorem row_pop (f : Nat → Rt) (n k : Nat) : popTo (rowN f n k) n = dgF f n k := by
  rw [popTo_cnt]; exact cntI_congr fun i hi => maskI_bit _ n i hi
theorem nbr_self (f : Nat → Rt) (k : Nat) : nbr f k k = false := by unfold nbr; simp
theorem dg_put {f : Nat → Rt} {n k : Nat} (hk : k < n) : cntI n (putB (nbr f k) k) = dgF f n k + 1 := cntI_add hk (nbr_self f k)
theorem dg_lt {f : Nat → Rt} {n k : Nat} (hk : k < n) : dgF f n k < n := by
  have h := dg_put (f := f) hk
  have := cntI_le n (putB (nbr f k) k)
  omega
theorem dg_all {f : Nat → Rt} {n k : Nat} (hok : ∀ i, i < n → okB (f i) = true) (hk : k < n) : dgF f n k + 1 = n ↔ ∀ j, j < n → cmB (f j) (f k) = true := by
  rw [← dg_put hk]
  constructor
  · intro e j hj
    have h := cntI_full e j hj
    by_cases x : j = k
    · rw [x]; exact meet_self (hok k hk)
    · rw [putB_other _ x] at h; unfold nbr at h; rw [Bool.and_eq_true] at h; exact h.2
  · intro h
    rw [cntI_congr (J := fun _ => true) fun i hi => by
      by_cases x : i = k
      · rw [x]; exact putB_same _ _
      · rw [putB_other _ x]; unfold nbr; rw [h i hi, decide_eq_false x]; rfl]
    exact cntI_true n
def sumK (g : Nat → Nat) : Nat → Nat
  | 0 => 0
  | k + 1 => sumK g k + g k
theorem sumK_congr {g h : Nat → Nat} {n : Nat} (e : ∀ i, i < n → g i = h i) : sumK g n = sumK h n := by
  induction n with
  | zero => rfl
  | succ n ih => simp only [sumK]; rw [ih fun i hi => e i (by omega), e n (by omega)]
theorem sumK_add (g h : Nat → Nat) (n : Nat) : sumK (fun k => g k + h k) n = sumK g n + sumK h n := by
  induction n with
  | zero => rfl
  | succ n ih => simp only [sumK]; rw [ih]; omega
theorem cntI_sum (n : Nat) (I : Nat → Bool) : cntI n I = sumK (fun k => (I k).toNat) n := by
  induction n with
  | zero => rfl
  | succ n ih => simp only [cntI, sumK]; rw [ih]
/-- each meeting counts twice -/
theorem shake (f : Nat → Rt) : ∀ n, sumK (dgF f n) n % 2 = 0
  | 0 => rfl
  | n + 1 => by
    have h1 : sumK (dgF f (n + 1)) n = sumK (dgF f n) n + sumK (fun k => (cmB (f n) (f k)).toNat) n := by
      rw [← sumK_add]
      refine sumK_congr fun k hk => ?_
      show cntI n (nbr f k) + (nbr f k n).toNat = _
      rw [show nbr f k n = cmB (f n) (f k) by unfold nbr; rw [decide_eq_false (by omega : ¬ n = k)]; rfl]
      rfl
    have h2 : dgF f (n + 1) n = sumK (fun k => (cmB (f n) (f k)).toNat) n := by
      show cntI n (nbr f n) + (nbr f n n).toNat = _
      rw [nbr_self, cntI_sum]
      show _ + 0 = _
      refine sumK_congr fun k hk => ?_
      unfold nbr; rw [decide_eq_false (by omega : ¬ k = n), meet_comm]; rfl
    have := shake f n
    simp only [sumK]; rw [h1, h2]; omega
-- colours
/-- a painting by m colours -/
def Co (f : Nat → Rt) (n m : Nat) (c : Nat → Nat) : Prop := (∀ i, i < n → c i < m) ∧ ∀ i j, i < j → j < n → cmB (f i) (f j) = true → c i ≠ c j
def IsCo (f : Nat → Rt) (n m : Nat) : Prop := (∃ c, Co f n m c) ∧ ∀ k c, Co f n k c → m ≤ k
theorem IsCo.one {f : Nat → Rt} {n m m' : Nat} (h : IsCo f n m) (h' : IsCo f n m') : m = m' := by
  obtain ⟨⟨c, a⟩, l⟩ := h
  obtain ⟨⟨c', a'⟩, l'⟩ := h'
  have := l _ c' a'
  have := l' _ c a
  omega
theorem co_ex (f : Nat → Rt) (n : Nat) : ∃ m, m ≤ n ∧ IsCo f n m := by
  obtain ⟨m, h1, h2, h3⟩ := least_ex (P := fun m => ∃ c, Co f n m c) n ⟨fun i => i, fun i hi => hi, fun i j hij _ _ => by show i ≠ j; omega⟩
  exact ⟨m, h1, h2, fun k c hc => h3 k ⟨c, hc⟩⟩
open Classical in
noncomputable def coN (f : Nat → Rt) (n : Nat) : Nat := if h : ∃ m, IsCo f n m then Classical.choose h else 0
theorem coN_is (f : Nat → Rt) (n : Nat) : IsCo f n (coN f n) := by
  obtain ⟨m, _, h⟩ := co_ex f n
  unfold coN; rw [dif_pos ⟨m, h⟩]; exact Classical.choose_spec (⟨m, h⟩ : ∃ m, IsCo f n m)
theorem coN_eq {f : Nat → Rt} {n m : Nat} (h : IsCo f n m) : coN f n = m := (coN_is f n).one h
theorem coN_le (f : Nat → Rt) (n : Nat) : coN f n ≤ n := by obtain ⟨m, h1, h⟩ := co_ex f n; rw [coN_eq h]; exact h1
/-- The least number of colours; -1 for others. -/
noncomputable def clF (f : Nat → Rt) (n : Nat) : Int := if laidF f n then coN f n else -1
theorem clF_yes {f : Nat → Rt} {n : Nat} (hl : laidF f n = true) : clF f n = coN f n := by unfold clF; rw [hl]; rfl
theorem mo_le_co {f : Nat → Rt} {n : Nat} (hok : ∀ i, i < n → okB (f i) = true) : moN f n ≤ coN f n := by
  obtain ⟨⟨I, h1, h2⟩, _⟩ := moN_is f n
  obtain ⟨⟨c, h3, h4⟩, _⟩ := coN_is f n
  have := inj_le (m := coN f n) (J := fun _ => true) c (I := I) (n := n) (fun a ha _ => ⟨h3 a ha, rfl⟩) (fun a b ha hb hI hJ e => by
    rcases Nat.lt_trichotomy a b with x | x | x
    · exact absurd e (h4 a b x hb (h1 a b x hb hI hJ))
    · exact x
    · exact absurd e.symm (h4 b a x ha (h1 b a x ha hJ hI)))
  rw [cntI_true] at this
  omega
/-- among more colours than places one is free -/
theorem free_colour {n m : Nat} {N : Nat → Bool} (c : Nat → Nat) (h : cntI n N < m) : ∃ x, x < m ∧ ∀ j, j < n → N j = true → c j ≠ x := by
  refine Classical.byContradiction fun hn => ?_
  have hall : ∀ x, ∃ j, x < m → j < n ∧ N j = true ∧ c j = x := fun x => by
    by_cases hx : x < m
    · have := Classical.byContradiction (p := ∃ j, j < n ∧ N j = true ∧ c j = x) fun hh => hn ⟨x, hx, fun j hj hN e => hh ⟨j, hj, hN, e⟩⟩
      obtain ⟨j, hj⟩ := this
      exact ⟨j, fun _ => hj⟩
    · exact ⟨0, fun h => absurd h hx⟩
  have sp : ∀ x, x < m → Classical.choose (hall x) < n ∧ N (Classical.choose (hall x)) = true ∧ c (Classical.choose (hall x)) = x := fun x => Classical.choose_spec (hall x)
  have := inj_le (n := m) (m := n) (I := fun _ => true) (J := N) (fun x => Classical.choose (hall x)) (fun a ha _ => ⟨(sp a ha).1, (sp a ha).2.1⟩) (fun a b ha hb _ _ e => by
    have h1 := (sp a ha).2.2
    have h2 := (sp b hb).2.2
    rw [e, h2] at h1; exact h1.symm)
  rw [cntI_true] at this
  omega
/-- With the same low and high sides as many colours do as there are at most that meet. -/
theorem paint_same {f : Nat → Rt} {n : Nat} (hok : ∀ i, i < n → okB (f i) = true) {o h : Int} (hs : ∀ i, i < n → (f i).o = o ∧ (f i).h = h) :
    ∀ (t : Nat) (I : Nat → Bool), cntI n I ≤ t → ∃ c : Nat → Nat, (∀ i, i < n → I i = true → c i < moN f n) ∧ ∀ i j, i < n → j < n → I i = true → I j = true → i ≠ j → cmB (f i) (f j) = true → c i ≠ c j
  | 0, I, hm => by
    have none : ∀ i, i < n → I i = true → False := fun i hi hI => by
      have h1 := cntI_mono (n := n) (I := oneI i) (J := I) (fun j _ hj => by unfold oneI at hj; rw [of_decide_eq_true hj]; exact hI)
      rw [cntI_one hi] at h1; omega
    exact ⟨fun _ => 0, fun i hi hI => (none i hi hI).elim, fun i j hi _ hI => (none i hi hI).elim⟩
  | t + 1, I, hm => by
    by_cases hx : ∃ i, i < n ∧ I i = true
    · obtain ⟨i, hi, hI, hl⟩ := argmax (fun i => (f i).l) n I hx
      have hput : cntI n (putB (fun j => I j && !oneI i j) i) = cntI n I := cntI_congr fun j _ => by
        unfold putB oneI
        by_cases e : j = i
        · rw [if_pos e, e, hI]
        · rw [if_neg e]; show (I j && !decide (j = i)) = I j; rw [decide_eq_false e]; simp
      rw [cntI_add hi (by unfold oneI; simp)] at hput
      obtain ⟨c, hc1, hc2⟩ := paint_same hok hs t (fun j => I j && !oneI i j) (by omega)
      have hJ : ∀ j, I j = true → j ≠ i → (I j && !oneI i j) = true := fun j hj hne => by rw [hj]; unfold oneI; rw [decide_eq_false hne]; rfl
      -- those that meet the i-th one all have its cell
      have hN : cntI n (fun j => (I j && !oneI i j) && cmB (f i) (f j)) < moN f n := by
        have hcl := (moN_is f n).2 (putB (fun j => (I j && !oneI i j) && cmB (f i) (f j)) i) (fun a b hab hb ha hb' => by
          have cell : ∀ j, j < n → putB (fun j => (I j && !oneI i j) && cmB (f i) (f j)) i j = true → hasB (f j) (f i).l o = true := fun j hj hp => by
            have oi := okB_iff.1 (hok i hi)
            have oj := okB_iff.1 (hok j hj)
            have si := hs i hi
            have sj := hs j hj
            rcases putB_iff.1 hp with e | hp
            · subst e; exact hasB_iff.2 (by omega)
            · rw [Bool.and_eq_true, Bool.and_eq_true] at hp
              have m1 := (meet_iff (hok i hi) (hok j hj)).1 hp.2
              have m2 : (f j).l ≤ (f i).l := hl j hj hp.1.1
              exact hasB_iff.2 (by omega)
          exact meet_cell (hok a (by omega)) (hok b hb) (cell a (by omega) ha) (cell b hb hb'))
        rw [cntI_add hi (by unfold oneI; simp)] at hcl
        omega
      obtain ⟨x, hx1, hx2⟩ := free_colour c hN
      refine ⟨fun j => if j = i then x else c j, fun j hj hIj => ?_, fun a b ha hb hIa hIb hne hm' => ?_⟩
      · dsimp only
        split
        · exact hx1
        · next e => exact hc1 j hj (hJ j hIj e)
      · dsimp only
        by_cases e1 : a = i
        · have e2 : b ≠ i := fun e => hne (e1.trans e.symm)
          rw [if_pos e1, if_neg e2]
          subst e1
          exact fun e => hx2 b hb (by rw [hJ b hIb e2, hm']; rfl) e.symm
        · rw [if_neg e1]
          by_cases e2 : b = i
          · rw [if_pos e2]; subst e2
            exact hx2 a ha (by rw [hJ a hIa e1, meet_comm, hm']; rfl)
          · rw [if_neg e2]; exact hc2 a b ha hb (hJ a hIa e1) (hJ b hIb e2) hne hm'
    · exact ⟨fun _ => 0, fun i hi hI => absurd ⟨i, hi, hI⟩ hx, fun i j hi _ hI => absurd ⟨i, hi, hI⟩ hx⟩
theorem co_same {f : Nat → Rt} {n : Nat} (hok : ∀ i, i < n → okB (f i) = true) {o h : Int} (hs : ∀ i, i < n → (f i).o = o ∧ (f i).h = h) : coN f n = moN f n := by
  obtain ⟨c, h1, h2⟩ := paint_same hok hs n (fun _ => true) (cntI_le _ _)
  have h3 := (coN_is f n).2 (moN f n) c ⟨fun i hi => h1 i hi rfl, fun i j hij hj hm => h2 i j (by omega) hj rfl rfl (by omega) hm⟩
  have h4 := mo_le_co hok
  omega
-- painted in their order
/-- the least number that none has -/
theorem mex_ex (P : Nat → Prop) (h : ∃ x, ¬ P x) : ∃ x, ¬ P x ∧ ∀ y, y < x → P y := by
  obtain ⟨x, hx⟩ := h
  obtain ⟨m, _, h1, h2⟩ := least_ex (P := fun x => ¬ P x) x hx
  refine ⟨m, h1, fun y hy => Classical.byContradiction fun hn => ?_⟩
  have := h2 y hn
  omega
theorem unused (c : Nat → Nat) : ∀ k, ∃ B, ∀ j, j < k → c j < B
  | 0 => ⟨0, fun j hj => by omega⟩
  | k + 1 => by
    obtain ⟨B, hB⟩ := unused c k
    refine ⟨B + c k + 1, fun j hj => ?_⟩
    by_cases e : j = k
    · subst e; omega
    · have := hB j (by omega); omega
theorem col_ex (f : Nat → Rt) (c : Nat → Nat) (k : Nat) : ∃ x, (∀ j, j < k → cmB (f j) (f k) = true → c j ≠ x) ∧ ∀ y, y < x → ∃ j, j < k ∧ cmB (f j) (f k) = true ∧ c j = y := by
  obtain ⟨B, hB⟩ := unused c k
  obtain ⟨x, h1, h2⟩ := mex_ex (fun x => ∃ j, j < k ∧ cmB (f j) (f k) = true ∧ c j = x) ⟨B, fun ⟨j, hj, _, e⟩ => by have := hB j hj; omega⟩
  exact ⟨x, fun j hj hm e => h1 ⟨j, hj, hm, e⟩, h2⟩
noncomputable def colT (f : Nat → Rt) : Nat → Nat → Nat
  | 0 => fun _ => 0
  | k + 1 => fun i => if i = k then Classical.choose (col_ex f (colT f k) k) else colT f k i
/-- the k-th colour -/
noncomputable def gcN (f : Nat → Rt) (k : Nat) : Nat := colT f (k + 1) k
theorem colT_at (f : Nat → Rt) : ∀ k i, i < k → colT f k i = gcN f i
  | 0, i, h => by omega
  | k + 1, i, h => by
    by_cases e : i = k
    · subst e; rfl
    · show (if i = k then _ else colT f k i) = _
      rw [if_neg e]; exact colT_at f k i (by omega)
theorem gc_spec (f : Nat → Rt) (k : Nat) : (∀ j, j < k → cmB (f j) (f k) = true → gcN f j ≠ gcN f k) ∧ ∀ y, y < gcN f k → ∃ j, j < k ∧ cmB (f j) (f k) = true ∧ gcN f j = y := by
  have h := Classical.choose_spec (col_ex f (colT f k) k)
  have e : gcN f k = Classical.choose (col_ex f (colT f k) k) := by
    show (if k = k then _ else colT f k k) = _
    rw [if_pos rfl]
  rw [e]
  refine ⟨fun j hj hm => by rw [← colT_at f k j hj]; exact h.1 j hj hm, fun y hy => ?_⟩
  obtain ⟨j, hj, hm, hc⟩ := h.2 y hy
  exact ⟨j, hj, hm, by rw [← colT_at f k j hj]; exact hc⟩
theorem gc_one {f : Nat → Rt} {k x : Nat} (h1 : ∀ j, j < k → cmB (f j) (f k) = true → gcN f j ≠ x) (h2 : ∀ y, y < x → ∃ j, j < k ∧ cmB (f j) (f k) = true ∧ gcN f j = y) : gcN f k = x := by
  obtain ⟨a, b⟩ := gc_spec f k
  rcases Nat.lt_trichotomy (gcN f k) x with h | h | h
  · obtain ⟨j, hj, hm, e⟩ := h2 _ h; exact absurd e (a j hj hm)
  · exact h
  · obtain ⟨j, hj, hm, e⟩ := b _ h; exact absurd e (h1 j hj hm)
theorem gc_le {f : Nat → Rt} {n k : Nat} (hk : k < n) : gcN f k ≤ dgF f n k := by
  refine Nat.le_of_not_lt fun hlt => ?_
  obtain ⟨x, hx, hno⟩ := free_colour (n := n) (N := fun j => nbr f k j && decide (j < k)) (m := gcN f k) (gcN f) (Nat.lt_of_le_of_lt (cntI_mono fun i _ h => by rw [Bool.and_eq_true] at h; exact h.1) hlt)
  obtain ⟨j, hj, hm, e⟩ := (gc_spec f k).2 x hx
  exact hno j (by omega) (by unfold nbr; rw [hm, decide_eq_false (by omega : ¬ j = k), decide_eq_true hj]; rfl) e
theorem gc_lt (f : Nat → Rt) (k : Nat) : gcN f k ≤ k := by
  have h1 := gc_le (f := f) (n := k + 1) (k := k) (by omega)
  have h2 := dg_lt (f := f) (n := k + 1) (k := k) (by omega)
  omega
theorem co_le {f : Nat → Rt} {n B : Nat} (h : ∀ i, i < n → gcN f i ≤ B) : coN f n ≤ B + 1 :=
  (coN_is f n).2 (B + 1) (gcN f) ⟨fun i hi => by have := h i hi; omega, fun i j hij hj hm => (gc_spec f j).1 i hij hm⟩
end Go.Proofs.Ytkfeeijiockdhaa
