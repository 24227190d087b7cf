/- Rectangles that meet, cells that pierce, rectangles that are apart. Chapter 5, as loops over places and over bits have it. -/
import Derived.Test.YtkfeeijiockdhaaMathR
namespace Go.Proofs.Ytkfeeijiockdhaa
set_option linter.unusedVariables false

theorem meet_iff {a b : Rt} (ha : okB a = true) (hb : okB b = true) : cmB a b = true ↔ a.l < b.r ∧ b.l < a.r ∧ a.o < b.h ∧ b.o < a.h := by
  have h1 := okB_iff.1 ha
  have h2 := okB_iff.1 hb
  unfold cmB bothB
  rw [ha, hb, Bool.true_and, Bool.true_and, okB_iff]
  unfold commonR; dsimp only; omega
theorem meet_no {a b : Rt} (ha : okB a = true) (hb : okB b = true) : cmB a b = false ↔ ¬ (a.l < b.r ∧ b.l < a.r ∧ a.o < b.h ∧ b.o < a.h) := by
  rw [← meet_iff ha hb, Bool.not_eq_true]
theorem meet_comm (a b : Rt) : cmB a b = cmB b a := by
  unfold cmB bothB
  rw [Bool.and_comm (okB a)]
  congr 1
  rw [Bool.eq_iff_iff, okB_iff, okB_iff]; unfold commonR; dsimp only; omega
/-- a cell that both have -/
theorem meet_cell {a b : Rt} (ha : okB a = true) (hb : okB b = true) {x y : Int} (h1 : hasB a x y = true) (h2 : hasB b x y = true) : cmB a b = true := by
  rw [hasB_iff] at h1 h2; rw [meet_iff ha hb]; omega
/-- Sets of places. -/
def cntI : Nat → (Nat → Bool) → Nat
  | 0, _ => 0
  | n + 1, I => cntI n I + (I n).toNat
theorem cntI_congr {n : Nat} {I J : Nat → Bool} (h : ∀ i, i < n → I i = J i) : cntI n I = cntI n J := by
  induction n with
  | zero => rfl
  | succ n ih => simp only [cntI]; rw [ih (fun i hi => h i (by omega)), h n (by omega)]
theorem cntI_le (n : Nat) (I : Nat → Bool) : cntI n I ≤ n := by
  induction n with
  | zero => exact Nat.le_refl _
  | succ n ih => simp only [cntI]; have := Bool.toNat_le (I n); omega
theorem cntI_none {n : Nat} {I : Nat → Bool} (h : ∀ i, i < n → I i = false) : cntI n I = 0 := by
  induction n with
  | zero => rfl
  | succ n ih => simp only [cntI]; rw [ih (fun i hi => h i (by omega)), h n (by omega)]; rfl
theorem cntI_pos {n : Nat} {I : Nat → Bool} (h : 0 < cntI n I) : ∃ i, i < n ∧ I i = true := by
  induction n with
  | zero => simp [cntI] at h
  | succ n ih =>
    simp only [cntI] at h
    cases hi : I n
    · rw [hi] at h
      obtain ⟨i, h1, h2⟩ := ih (by simpa using h)
      exact ⟨i, by omega, h2⟩
    · exact ⟨n, by omega, hi⟩
theorem cntI_mono {n : Nat} {I J : Nat → Bool} (h : ∀ i, i < n → I i = true → J i = true) : cntI n I ≤ cntI n J := by
  induction n with
  | zero => exact Nat.le_refl _
  | succ n ih =>
    simp only [cntI]
    have h1 := ih (fun i hi => h i (by omega))
    have h2 := h n (by omega)
    cases hi : I n
    · have : (false : Bool).toNat = 0 := rfl
      omega
    · rw [h2 hi]; omega
/-- at most one is struck -/
theorem cntI_strike {n : Nat} {I : Nat → Bool} {P : Nat → Bool} (h : ∀ i j, i < n → j < n → I i = true → I j = true → P i = true → P j = true → i = j) : cntI n I ≤ cntI n (fun i => I i && !P i) + 1 := by
  induction n with
  | zero => simp [cntI]
  | succ n ih =>
    simp only [cntI]
    have h1 := ih (fun i j hi hj => h i j (by omega) (by omega))
    by_cases hx : I n = true ∧ P n = true
    · have e : cntI n I = cntI n (fun i => I i && !P i) := cntI_congr fun i hi => by
        cases hp : P i
        · simp
        · cases hI : I i
          · rfl
          · have := h i n (by omega) (by omega) hI hx.1 hp hx.2; omega
      rw [hx.1, hx.2, e]; simp
    · cases hI : I n
      · simp; omega
      · have hp : P n = false := by
          cases hp : P n
          · rfl
          · exact absurd ⟨hI, hp⟩ hx
        rw [hp]; simp; omega
/-- one is put to them -/
theorem cntI_add {n k : Nat} {I : Nat → Bool} (hk : k < n) (h : I k = false) : cntI n (putB I k) = cntI n I + 1 := by
  have same : ∀ m, m ≤ k → cntI m (putB I k) = cntI m I := fun m hm => cntI_congr fun i hi => putB_other I (by omega)
  induction n with
  | zero => omega
  | succ n ih =>
    simp only [cntI]
    by_cases e : n = k
    · subst e; rw [same n (Nat.le_refl _), putB_same, h]; rfl
    · rw [putB_other I e, ih (by omega)]; omega
def oneI (k : Nat) (i : Nat) : Bool := decide (i = k)
theorem cntI_one {n k : Nat} (hk : k < n) : cntI n (oneI k) = 1 := by
  have e : oneI k = putB (fun _ => false) k := by funext i; unfold oneI putB; by_cases h : i = k <;> simp [h]
  rw [e, cntI_add hk rfl, cntI_none (fun _ _ => rfl)]
/-- no two of them meet -/
def Ap (f : Nat → Rt) (n : Nat) (I : Nat → Bool) : Prop := ∀ i j, i < j → j < n → I i = true → I j = true → cmB (f i) (f j) = false
theorem Ap.ne {f : Nat → Rt} {n : Nat} {I : Nat → Bool} (h : Ap f n I) {i j : Nat} (hi : i < n) (hj : j < n) (hI : I i = true) (hJ : I j = true) (hm : cmB (f i) (f j) = true) : i = j := by
  rcases Nat.lt_trichotomy i j with x | x | x
  · rw [h i j x hj hI hJ] at hm; cases hm
  · exact x
  · rw [meet_comm, h j i x hi hJ hI] at hm; cases hm
/-- the cells pierce those of I -/
def PrI (f : Nat → Rt) (n : Nat) (I : Nat → Bool) (cs : List (Int × Int)) : Prop := ∀ i, i < n → I i = true → ∃ c, c ∈ cs ∧ hasB (f i) c.1 c.2 = true
/-- as many cells as rectangles that are apart, at least -/
theorem ap_le_pr {f : Nat → Rt} {n : Nat} (hok : ∀ i, i < n → okB (f i) = true) : ∀ (cs : List (Int × Int)) (I : Nat → Bool), Ap f n I → PrI f n I cs → cntI n I ≤ cs.length
  | [], I, _, hp => by
    rw [cntI_none (fun i hi => by
      cases h : I i
      · rfl
      · obtain ⟨c, hc, _⟩ := hp i hi h; cases hc)]; exact Nat.le_refl _
  | c :: cs, I, ha, hp => by
    have h1 := cntI_strike (n := n) (I := I) (P := fun i => hasB (f i) c.1 c.2) (fun i j hi hj hI hJ h1 h2 => ha.ne hi hj hI hJ (meet_cell (hok i hi) (hok j hj) h1 h2))
    have h2 := ap_le_pr hok cs (fun i => I i && !hasB (f i) c.1 c.2) (fun i j hij hj hI hJ => ha i j hij hj (Bool.and_eq_true _ _ ▸ hI : _ ∧ _).1 (Bool.and_eq_true _ _ ▸ hJ : _ ∧ _).1) (fun i hi hI => by
      rw [Bool.and_eq_true, Bool.not_eq_true'] at hI
      obtain ⟨d, hd, hh⟩ := hp i hi hI.1
      rcases List.mem_cons.1 hd with e | hd
      · subst e; rw [hh] at hI; cases hI.2
      · exact ⟨d, hd, hh⟩)
    rw [List.length_cons]; omega
/-- one of the places with the least value -/
theorem least_at {n : Nat} {I : Nat → Bool} (g : Nat → Int) (h : ∃ i, i < n ∧ I i = true) : ∃ i, i < n ∧ I i = true ∧ ∀ j, j < n → I j = true → g i ≤ g j := by
  induction n with
  | zero => obtain ⟨i, hi, _⟩ := h; omega
  | succ n ih =>
    by_cases hx : ∃ i, i < n ∧ I i = true
    · obtain ⟨i, h1, h2, h3⟩ := ih hx
      by_cases hn : I n = true ∧ g n < g i
      · refine ⟨n, by omega, hn.1, fun j hj hJ => ?_⟩
        by_cases e : j = n
        · subst e; exact Int.le_refl _
        · have := h3 j (by omega) hJ; omega
      · refine ⟨i, by omega, h2, fun j hj hJ => ?_⟩
        by_cases e : j = n
        · subst e
          by_cases hlt : g j < g i
          · exact absurd ⟨hJ, hlt⟩ hn
          · omega
        · exact h3 j (by omega) hJ
    · obtain ⟨i, h1, h2⟩ := h
      have e : i = n := by
        by_cases e : i = n
        · exact e
        · exact absurd ⟨i, by omega, h2⟩ hx
      subst e
      refine ⟨i, h1, h2, fun j hj hJ => ?_⟩
      by_cases e : j = i
      · subst e; exact Int.le_refl _
      · exact absurd ⟨j, by omega, hJ⟩ hx
/-- With the same low and high sides as many cells pierce as rectangles are apart. -/
theorem dual_same {f : Nat → Rt} {n : Nat} (hok : ∀ i, i < n → okB (f i) = true) {o h : Int} (hs : ∀ i, i < n → (f i).o = o ∧ (f i).h = h) :
    ∀ (m : Nat) (I : Nat → Bool), cntI n I ≤ m → ∃ (J : Nat → Bool) (cs : List (Int × Int)), (∀ i, J i = true → I i = true) ∧ Ap f n J ∧ PrI f n I cs ∧ cs.length = cntI n J
  | 0, I, hm => by
    refine ⟨fun _ => false, [], fun i h => absurd (show false = true from h) (by decide), fun i j _ _ h => absurd (show false = true from h) (by decide), fun i hi hI => ?_, (cntI_none (fun _ _ => rfl)).symm⟩
    exfalso
    have h1 := cntI_mono (n := n) (I := oneI i) (J := I) (fun j _ hj => by unfold oneI at hj; rw [of_decide_eq_true hj]; exact hI)
    rw [cntI_one hi] at h1; omega
  | m + 1, I, hm => by
    by_cases hx : ∃ i, i < n ∧ I i = true
    · obtain ⟨i, hi, hI, hl⟩ := least_at (fun i => (f i).r) hx
      have oi := okB_iff.1 (hok i hi)
      have own : hasB (f i) ((f i).r - 1) (f i).o = true := hasB_iff.2 (by omega)
      obtain ⟨J, cs, h1, h2, h3, h4⟩ := dual_same hok hs m (fun j => I j && !hasB (f j) ((f i).r - 1) (f i).o) (by
        have hsub := cntI_mono (n := n) (I := putB (fun j => I j && !hasB (f j) ((f i).r - 1) (f i).o) i) (J := I) (fun j _ hj => by
          rcases putB_iff.1 hj with e | hj
          · rw [e]; exact hI
          · rw [Bool.and_eq_true] at hj; exact hj.1)
        rw [cntI_add hi (by rw [own]; simp)] at hsub
        omega)
      have hJi : J i = false := by
        cases hj : J i
        · rfl
        · have := h1 i hj; rw [own] at this; simp at this
      have far : ∀ j, j < n → J j = true → cmB (f i) (f j) = false ∧ cmB (f j) (f i) = false := fun j hj hJ => by
        have hh := h1 j hJ
        rw [Bool.and_eq_true, Bool.not_eq_true'] at hh
        have hr := hl j hj hh.1
        have oj := okB_iff.1 (hok j hj)
        have si := hs i hi
        have sj := hs j hj
        have nh : ¬ hasB (f j) ((f i).r - 1) (f i).o = true := by rw [hh.2]; decide
        rw [hasB_iff] at nh
        have : cmB (f i) (f j) = false := (meet_no (hok i hi) (hok j hj)).2 (by omega)
        exact ⟨this, by rw [meet_comm]; exact this⟩
      refine ⟨putB J i, ((f i).r - 1, (f i).o) :: cs, fun j hj => ?_, fun a b hab hb ha hb' => ?_, fun j hj hJ => ?_, ?_⟩
      · rcases putB_iff.1 hj with e | hj
        · rw [e]; exact hI
        · have := h1 j hj; rw [Bool.and_eq_true] at this; exact this.1
      · rcases putB_iff.1 ha with e | ha
        · rcases putB_iff.1 hb' with e' | hb'
          · omega
          · rw [e]; exact (far b hb hb').1
        · rcases putB_iff.1 hb' with e' | hb'
          · rw [e']; exact (far a (by omega) ha).2
          · exact h2 a b hab hb ha hb'
      · cases hh : hasB (f j) ((f i).r - 1) (f i).o
        · obtain ⟨c, hc, hcc⟩ := h3 j hj (by show (I j && !hasB (f j) ((f i).r - 1) (f i).o) = true; rw [hJ, hh]; rfl)
          exact ⟨c, List.mem_cons.2 (Or.inr hc), hcc⟩
        · exact ⟨_, List.mem_cons.2 (Or.inl rfl), hh⟩
      · rw [List.length_cons, h4, cntI_add hi hJi]
    · refine ⟨fun _ => false, [], fun i h => absurd (show false = true from h) (by decide), fun i j _ _ h => absurd (show false = true from h) (by decide), fun i hi hI => absurd ⟨i, hi, hI⟩ hx, (cntI_none (fun _ _ => rfl)).symm⟩

/-- the least number of cells that pierce all -/
def IsPr (f : Nat → Rt) (n m : Nat) : Prop := (∃ cs : List (Int × Int), cs.length = m ∧ PrI f n (fun _ => true) cs) ∧ ∀ cs : List (Int × Int), PrI f n (fun _ => true) cs → m ≤ cs.length
/-- the greatest number that are apart -/
def IsAp (f : Nat → Rt) (n m : Nat) : Prop := (∃ I, Ap f n I ∧ cntI n I = m) ∧ ∀ I, Ap f n I → cntI n I ≤ m
theorem IsPr.one {f : Nat → Rt} {n m m' : Nat} (h : IsPr f n m) (h' : IsPr f n m') : m = m' := by
  obtain ⟨cs, e, hp⟩ := h.1
  obtain ⟨cs', e', hp'⟩ := h'.1
  have := h.2 cs' hp'
  have := h'.2 cs hp
  omega
theorem IsAp.one {f : Nat → Rt} {n m m' : Nat} (h : IsAp f n m) (h' : IsAp f n m') : m = m' := by
  obtain ⟨I, hp, e⟩ := h.1
  obtain ⟨I', hp', e'⟩ := h'.1
  have := h.2 I' hp'
  have := h'.2 I hp
  omega
/-- each by a cell of its own -/
def ownCs (f : Nat → Rt) : Nat → List (Int × Int)
  | 0 => []
  | n + 1 => ownCs f n ++ [((f n).l, (f n).o)]
theorem ownCs_len (f : Nat → Rt) (n : Nat) : (ownCs f n).length = n := by
  induction n with
  | zero => rfl
  | succ n ih => simp [ownCs, ih]
theorem own_has {r : Rt} (h : okB r = true) : hasB r r.l r.o = true := by
  have := okB_iff.1 h; exact hasB_iff.2 (by omega)
theorem ownCs_pr {f : Nat → Rt} {n : Nat} (hok : ∀ i, i < n → okB (f i) = true) (I : Nat → Bool) : PrI f n I (ownCs f n) := by
  induction n with
  | zero => intro i hi; omega
  | succ n ih =>
    intro i hi hI
    simp only [ownCs]
    by_cases e : i = n
    · subst e; exact ⟨_, List.mem_append.2 (Or.inr (List.mem_singleton.2 rfl)), own_has (hok i hi)⟩
    · obtain ⟨c, hc, h⟩ := ih (fun j hj => hok j (by omega)) i (by omega) hI
      exact ⟨c, List.mem_append.2 (Or.inl hc), h⟩
/-- there is a least number with a property -/
theorem least_ex {P : Nat → Prop} : ∀ n, P n → ∃ m, m ≤ n ∧ P m ∧ ∀ k, P k → m ≤ k := by
  intro n
  induction n using Nat.strongRecOn with
  | ind n ih =>
    intro hn
    by_cases hx : ∃ k, k < n ∧ P k
    · obtain ⟨k, hk, hp⟩ := hx
      obtain ⟨m, h1, h2, h3⟩ := ih k hk hp
      exact ⟨m, by omega, h2, h3⟩
    · refine ⟨n, Nat.le_refl _, hn, fun k hk => ?_⟩
      rcases Nat.lt_or_ge k n with h | h
      · exact absurd ⟨k, h, hk⟩ hx
      · exact h
theorem most_ex {P : Nat → Prop} : ∀ n, (∀ k, P k → k ≤ n) → (∃ k, P k) → ∃ m, P m ∧ ∀ k, P k → k ≤ m
  | 0, h, ⟨k, hk⟩ => ⟨k, hk, fun j hj => by have := h j hj; omega⟩
  | n + 1, h, hx => by
    by_cases hn : P (n + 1)
    · exact ⟨n + 1, hn, h⟩
    · exact most_ex n (fun k hk => by
        have := h k hk
        by_cases e : k = n + 1
        · subst e; exact absurd hk hn
        · omega) hx
theorem pr_ex {f : Nat → Rt} {n : Nat} (hok : ∀ i, i < n → okB (f i) = true) : ∃ m, m ≤ n ∧ IsPr f n m := by
  obtain ⟨m, h1, ⟨cs, e, h2⟩, h3⟩ := least_ex (P := fun m => ∃ cs : List (Int × Int), cs.length = m ∧ PrI f n (fun _ => true) cs) n ⟨ownCs f n, ownCs_len f n, ownCs_pr hok _⟩
  exact ⟨m, h1, ⟨cs, e, h2⟩, fun cs hp => h3 _ ⟨cs, rfl, hp⟩⟩
theorem ap_ex (f : Nat → Rt) (n : Nat) : ∃ m, m ≤ n ∧ IsAp f n m := by
  obtain ⟨m, ⟨I, h1, h2⟩, h3⟩ := most_ex (P := fun m => ∃ I, Ap f n I ∧ cntI n I = m) n (fun k ⟨I, _, e⟩ => by rw [← e]; exact cntI_le n I) ⟨_, fun _ => false, fun i j _ _ h => absurd (show false = true from h) (by decide), rfl⟩
  exact ⟨m, by rw [← h2]; exact cntI_le n I, ⟨I, h1, h2⟩, fun I hI => h3 _ ⟨I, hI, rfl⟩⟩
open Classical in
noncomputable def prN (f : Nat → Rt) (n : Nat) : Nat := if h : ∃ m, IsPr f n m then Classical.choose h else 0
open Classical in
noncomputable def apN (f : Nat → Rt) (n : Nat) : Nat := if h : ∃ m, IsAp f n m then Classical.choose h else 0
theorem prN_is {f : Nat → Rt} {n : Nat} (hok : ∀ i, i < n → okB (f i) = true) : IsPr f n (prN f n) := by
  obtain ⟨m, _, h⟩ := pr_ex hok
  unfold prN; rw [dif_pos ⟨m, h⟩]; exact Classical.choose_spec _
theorem apN_is (f : Nat → Rt) (n : Nat) : IsAp f n (apN f n) := by
  obtain ⟨m, _, h⟩ := ap_ex f n
  unfold apN; rw [dif_pos ⟨m, h⟩]; exact Classical.choose_spec _
theorem prN_eq {f : Nat → Rt} {n m : Nat} (h : IsPr f n m) : prN f n = m := by
  have hx : IsPr f n (prN f n) := by unfold prN; rw [dif_pos ⟨m, h⟩]; exact Classical.choose_spec _
  exact hx.one h
theorem apN_eq {f : Nat → Rt} {n m : Nat} (h : IsAp f n m) : apN f n = m := (apN_is f n).one h
section
variable {f : Nat → Rt} {n : Nat} (hok : ∀ i, i < n → okB (f i) = true)
include hok
theorem prN_le : prN f n ≤ n := by
  obtain ⟨m, h1, h⟩ := pr_ex hok; rw [prN_eq h]; exact h1
theorem apN_le_prN : apN f n ≤ prN f n := by
  obtain ⟨⟨I, h1, h2⟩, _⟩ := apN_is f n
  obtain ⟨⟨cs, e, h3⟩, _⟩ := prN_is hok
  rw [← h2, ← e]; exact ap_le_pr hok cs I h1 (fun i hi _ => h3 i hi rfl)
theorem prN_same {o h : Int} (hs : ∀ i, i < n → (f i).o = o ∧ (f i).h = h) : prN f n = apN f n := by
  obtain ⟨J, cs, _, h2, h3, h4⟩ := dual_same hok hs n (fun _ => true) (cntI_le _ _)
  have a1 := (apN_is f n).2 J h2
  have a2 := (prN_is hok).2 cs h3
  have a3 := apN_le_prN hok
  omega
end
theorem apN_le (f : Nat → Rt) (n : Nat) : apN f n ≤ n := by obtain ⟨m, h1, h⟩ := ap_ex f n; rw [apN_eq h]; exact h1
/-- One rectangle more needs at most one cell more, and not less. -/
theorem prN_more {f : Nat → Rt} {n : Nat} (hok : ∀ i, i < n + 1 → okB (f i) = true) : prN f n ≤ prN f (n + 1) ∧ prN f (n + 1) ≤ prN f n + 1 := by
  have h1 := prN_is (f := f) (n := n) (fun i hi => hok i (by omega))
  have h2 := prN_is hok
  obtain ⟨⟨cs, e, p⟩, l⟩ := h1
  obtain ⟨⟨cs', e', p'⟩, l'⟩ := h2
  constructor
  · rw [← e']; exact l cs' fun i hi _ => p' i (by omega) rfl
  · have := l' (((f n).l, (f n).o) :: cs) (fun i hi _ => by
      by_cases e : i = n
      · subst e; exact ⟨_, List.mem_cons.2 (Or.inl rfl), own_has (hok i (by omega))⟩
      · obtain ⟨c, hc, h⟩ := p i (by omega) rfl
        exact ⟨c, List.mem_cons.2 (Or.inr hc), h⟩)
    rw [List.length_cons] at this; omega
theorem prN_congr {f f' : Nat → Rt} {n : Nat} (hok : ∀ i, i < n → okB (f i) = true) (h : ∀ i, i < n → f i = f' i) : prN f' n = prN f n := by
  have hp := prN_is hok
  refine prN_eq ⟨?_, fun cs hc => hp.2 cs fun i hi hI => by rw [h i hi]; exact hc i hi hI⟩
  obtain ⟨⟨cs, e, p⟩, _⟩ := hp
  exact ⟨cs, e, fun i hi hI => by rw [← h i hi]; exact p i hi hI⟩
theorem apN_congr {f f' : Nat → Rt} {n : Nat} (h : ∀ i j, i < j → j < n → cmB (f i) (f j) = cmB (f' i) (f' j)) : apN f' n = apN f n := by
  have hp := apN_is f n
  refine apN_eq ⟨?_, fun I hI => hp.2 I fun i j hij hj a b => by rw [h i j hij hj]; exact hI i j hij hj a b⟩
  obtain ⟨⟨I, p, e⟩, _⟩ := hp
  exact ⟨I, fun i j hij hj a b => by rw [← h i j hij hj]; exact p i j hij hj a b, e⟩
/-- each two of the first n meet -/
def allM (f : Nat → Rt) (n : Nat) : Prop := ∀ i j, i < j → j < n → cmB (f i) (f j) = true
theorem apN_one (f : Nat → Rt) (n : Nat) : apN f n = 1 ↔ 0 < n ∧ allM f n := by
  have hp := apN_is f n
  constructor
  · intro e
    rw [e] at hp
    refine ⟨by have := apN_le f n; omega, fun i j hij hj => ?_⟩
    cases hm : cmB (f i) (f j)
    · exfalso
      have := hp.2 (putB (oneI i) j) (fun a b hab hb ha hb' => by
        have ha' : a = j ∨ a = i := (putB_iff.1 ha).imp id (fun x => of_decide_eq_true x)
        have hb'' : b = j ∨ b = i := (putB_iff.1 hb').imp id (fun x => of_decide_eq_true x)
        have : a = i := by omega
        have : b = j := by omega
        subst_vars; exact hm)
      rw [cntI_add hj (by unfold oneI; exact decide_eq_false (by omega)), cntI_one (by omega)] at this
      omega
    · rfl
  · rintro ⟨h0, hm⟩
    refine apN_eq ⟨⟨oneI 0, fun i j hij hj hi hj' => ?_, cntI_one h0⟩, fun I hI => ?_⟩
    · have : i = 0 := of_decide_eq_true hi
      have : j = 0 := of_decide_eq_true hj'
      omega
    · by_cases hx : 0 < cntI n I
      · obtain ⟨i, hi, hIi⟩ := cntI_pos hx
        have := cntI_mono (n := n) (I := I) (J := oneI i) (fun j hj hJ => decide_eq_true (by
          rcases Nat.lt_trichotomy i j with x | x | x
          · have a := hI i j x hj hIi hJ; rw [hm i j x hj] at a; cases a
          · exact x.symm
          · have a := hI j i x hi hJ hIi; rw [hm j i x hi] at a; cases a))
        rw [cntI_one hi] at this; exact this
      · omega
/-- Sides of what all have in common are sides of some. -/
theorem fold_sides (f : Nat → Rt) : ∀ n, 0 < n → (∀ i, i < n → okB (f i) = true) → (∃ i, i < n ∧ (foldC (upTo f n)).l = (f i).l) ∧ (∃ i, i < n ∧ (foldC (upTo f n)).o = (f i).o) ∧ (∃ i, i < n ∧ (foldC (upTo f n)).r = (f i).r) ∧ (∃ i, i < n ∧ (foldC (upTo f n)).h = (f i).h)
  | 0, h, _ => by omega
  | n + 1, _, hok => by
    have e : foldC (upTo f (n + 1)) = commonR (foldC (upTo f n)) (f n) := by simp only [upTo]; rw [foldC_snoc]
    rw [e]
    have on := okB_iff.1 (hok n (by omega))
    by_cases h0 : n = 0
    · subst h0
      have : foldC (upTo f 0) = full := rfl
      rw [this]
      unfold commonR full
      exact ⟨⟨0, by omega, by dsimp only; omega⟩, ⟨0, by omega, by dsimp only; omega⟩, ⟨0, by omega, by dsimp only; omega⟩, ⟨0, by omega, by dsimp only; omega⟩⟩
    · obtain ⟨⟨i1, a1, b1⟩, ⟨i2, a2, b2⟩, ⟨i3, a3, b3⟩, ⟨i4, a4, b4⟩⟩ := fold_sides f n (by omega) (fun i hi => hok i (by omega))
      unfold commonR
      dsimp only
      refine ⟨?_, ?_, ?_, ?_⟩
      · by_cases h : (foldC (upTo f n)).l ≤ (f n).l
        · exact ⟨n, by omega, by omega⟩
        · exact ⟨i1, by omega, by omega⟩
      · by_cases h : (foldC (upTo f n)).o ≤ (f n).o
        · exact ⟨n, by omega, by omega⟩
        · exact ⟨i2, by omega, by omega⟩
      · by_cases h : (f n).r ≤ (foldC (upTo f n)).r
        · exact ⟨n, by omega, by omega⟩
        · exact ⟨i3, by omega, by omega⟩
      · by_cases h : (f n).h ≤ (foldC (upTo f n)).h
        · exact ⟨n, by omega, by omega⟩
        · exact ⟨i4, by omega, by omega⟩
theorem fold_in (f : Nat → Rt) (x y : Int) : ∀ n, 0 < n → (∀ i, i < n → okB (f i) = true) → (hasB (foldC (upTo f n)) x y = true ↔ ∀ i, i < n → hasB (f i) x y = true)
  | 0, h, _ => by omega
  | n + 1, _, hok => by
    have e : foldC (upTo f (n + 1)) = commonR (foldC (upTo f n)) (f n) := by simp only [upTo]; rw [foldC_snoc]
    rw [e, hasB_iff]
    have on := okB_iff.1 (hok n (by omega))
    by_cases h0 : n = 0
    · subst h0
      have : foldC (upTo f 0) = full := rfl
      rw [this]; unfold commonR full; dsimp only
      constructor
      · intro h i hi; rw [show i = 0 by omega]; exact hasB_iff.2 (by omega)
      · intro h; have := hasB_iff.1 (h 0 (by omega)); omega
    · have ih := fold_in f x y n (by omega) (fun i hi => hok i (by omega))
      rw [hasB_iff] at ih
      unfold commonR; dsimp only
      constructor
      · intro h i hi
        by_cases e : i = n
        · subst e; exact hasB_iff.2 (by omega)
        · exact ih.1 (by omega) i (by omega)
      · intro h
        have h1 := ih.2 (fun i hi => h i (by omega))
        have h2 := hasB_iff.1 (h n (by omega))
        omega
/-- If each two meet, all do: one cell pierces all. -/
theorem helly {f : Nat → Rt} {n : Nat} (hn : 0 < n) (hok : ∀ i, i < n → okB (f i) = true) : (allM f n ↔ okB (foldC (upTo f n)) = true) ∧ (allM f n ↔ prN f n = 1) := by
  have hp := prN_is hok
  have A : allM f n → okB (foldC (upTo f n)) = true := fun h => by
    obtain ⟨⟨i1, a1, b1⟩, ⟨i2, a2, b2⟩, ⟨i3, a3, b3⟩, ⟨i4, a4, b4⟩⟩ := fold_sides f n hn hok
    have key : ∀ i j, i < n → j < n → (f i).l < (f j).r ∧ (f i).o < (f j).h := fun i j hi hj => by
      rcases Nat.lt_trichotomy i j with x | x | x
      · have := (meet_iff (hok i hi) (hok j hj)).1 (h i j x hj); omega
      · subst x; have := okB_iff.1 (hok i hi); omega
      · have := (meet_iff (hok j hj) (hok i hi)).1 (h j i x hi); omega
    have k1 := key i1 i3 a1 a3
    have k2 := key i2 i4 a2 a4
    have bd := foldC_bd (upTo f n)
    rw [okB_iff]; omega
  have B : okB (foldC (upTo f n)) = true → prN f n = 1 := fun h => by
    have hin := (fold_in f _ _ n hn hok).1 (own_has h)
    refine prN_eq ⟨⟨[((foldC (upTo f n)).l, (foldC (upTo f n)).o)], rfl, fun i hi _ => ⟨_, List.mem_singleton.2 rfl, hin i hi⟩⟩, fun cs hc => ?_⟩
    obtain ⟨c, hcm, _⟩ := hc 0 hn rfl
    cases cs with
    | nil => cases hcm
    | cons => simp
  have C : prN f n = 1 → allM f n := fun e i j hij hj => by
    rw [e] at hp
    obtain ⟨⟨cs, hl, hc⟩, _⟩ := hp
    match cs, hl with
    | [c], _ =>
      obtain ⟨c1, m1, h1⟩ := hc i (by omega) rfl
      obtain ⟨c2, m2, h2⟩ := hc j hj rfl
      rw [List.mem_singleton.1 m1] at h1
      rw [List.mem_singleton.1 m2] at h2
      exact meet_cell (hok i (by omega)) (hok j hj) h1 h2
  exact ⟨⟨A, fun h => C (B h)⟩, ⟨fun h => B (A h), C⟩⟩
/-- The cell at the greater left and the greater low side tells whether two meet. -/
theorem meet_depth {r s : Rt} (hr : okB r = true) (hs : okB s = true) : cmB r s = (hasB r (max r.l s.l) (max r.o s.o) && hasB s (max r.l s.l) (max r.o s.o)) := by
  have h1 := okB_iff.1 hr
  have h2 := okB_iff.1 hs
  rw [Bool.eq_iff_iff, meet_iff hr hs, Bool.and_eq_true, hasB_iff, hasB_iff]; omega
/-- an injection counts -/
theorem cnt_inj {n : Nat} (g : Nat → Nat) : ∀ (t : Nat) (P : Nat → Prop) (I : Nat → Bool), (∀ a, a < t → P a → g a < n ∧ I (g a) = true) → (∀ a b, a < t → b < t → P a → P b → g a = g b → a = b) → cntP t P ≤ cntI n I
  | 0, P, I, _, _ => by unfold cntP; simp [sumN]
  | t + 1, P, I, h, hi => by
    by_cases hp : P t
    · obtain ⟨g1, g2⟩ := h t (by omega) hp
      rw [cntP_yes hp]
      have ih := cnt_inj (n := n) g t P (fun i => I i && !oneI (g t) i) (fun a ha hpa => by
        obtain ⟨x, y⟩ := h a (by omega) hpa
        refine ⟨x, ?_⟩
        rw [y, Bool.true_and, Bool.not_eq_true']
        unfold oneI
        exact decide_eq_false (fun e => by have := hi a t (by omega) (by omega) hpa hp e; omega)) (fun a b ha hb => hi a b (by omega) (by omega))
      have e : cntI n (putB (fun i => I i && !oneI (g t) i) (g t)) = cntI n I := cntI_congr fun i _ => by
        unfold putB oneI
        by_cases e : i = g t
        · rw [if_pos e, e, g2]
        · rw [if_neg e]
          show (I i && !decide (i = g t)) = I i
          rw [decide_eq_false e]; simp
      rw [cntI_add g1 (by unfold oneI; simp)] at e
      omega
    · rw [cntP_no hp]; exact cnt_inj g t P I (fun a ha => h a (by omega)) (fun a b ha hb => hi a b (by omega) (by omega))
theorem mapG_rect {f : Nat → Rt} {n a : Nat} (h : mapG f n a = true) : ∃ i x y : Nat, i < n ∧ a = 22 * (y + 1) + (x + 1) ∧ hasB (f i) x y = true := by
  have hin := mapG_inner h
  unfold mapG at h
  rw [Bool.and_eq_true] at h
  obtain ⟨i, hi, hh⟩ := (any_iff f _ _ n).1 h.2
  refine ⟨i, a % 22 - 1, a / 22 - 1, hi, by omega, ?_⟩
  rw [show ((a % 22 - 1 : Nat) : Int) = ((a % 22 : Nat) : Int) - 1 by omega, show ((a / 22 - 1 : Nat) : Int) = ((a / 22 : Nat) : Int) - 1 by omega]
  exact hh
open Classical in
/-- the places that are met -/
noncomputable def imgI (t : Nat) (P : Nat → Prop) (g : Nat → Nat) (i : Nat) : Bool := decide (∃ a, a < t ∧ P a ∧ g a = i)
open Classical in
theorem imgI_iff {t : Nat} {P : Nat → Prop} {g : Nat → Nat} {i : Nat} : imgI t P g i = true ↔ ∃ a, a < t ∧ P a ∧ g a = i := by unfold imgI; exact decide_eq_true_iff
/-- As many are apart as there are pieces, at least. -/
theorem pieces_apart {f : Nat → Rt} {n : Nat} {R : Nat → Nat → Prop} (hR : Lst (mapG f n) R) (hok : ∀ i, i < n → okB (f i) = true) : pcs (mapG f n) R 484 ≤ apN f n := by
  have pick : ∀ a, ∃ i, mapG f n a = true → i < n ∧ ∃ x y : Nat, a = 22 * (y + 1) + (x + 1) ∧ hasB (f i) x y = true := fun a => by
    by_cases h : mapG f n a = true
    · obtain ⟨i, x, y, hi, e, hh⟩ := mapG_rect h; exact ⟨i, fun _ => ⟨hi, x, y, e, hh⟩⟩
    · exact ⟨0, fun hh => absurd hh h⟩
  have hg := fun a => Classical.choose_spec (pick a)
  generalize hG : (fun a => Classical.choose (pick a)) = g at hg
  have hg' : ∀ a, mapG f n a = true → g a < n ∧ ∃ x y : Nat, a = 22 * (y + 1) + (x + 1) ∧ hasB (f (g a)) x y = true := fun a ha => by rw [← hG]; exact Classical.choose_spec (pick a) ha
  clear hg
  -- cells whose rectangles meet are linked
  have link : ∀ a b, mapG f n a = true → mapG f n b = true → cmB (f (g a)) (f (g b)) = true → R a b := fun a b ha hb hm => by
    obtain ⟨h1, x1, y1, e1, p1⟩ := hg' a ha
    obtain ⟨h2, x2, y2, e2, p2⟩ := hg' b hb
    have o1 := okB_iff.1 (hok _ h1)
    have o2 := okB_iff.1 (hok _ h2)
    have q1 := hasB_iff.1 p1
    have q2 := hasB_iff.1 p2
    rw [meet_iff (hok _ h1) (hok _ h2)] at hm
    obtain ⟨x, hx⟩ : ∃ x : Nat, (x : Int) = max (f (g a)).l (f (g b)).l := ⟨(max (f (g a)).l (f (g b)).l).toNat, by omega⟩
    obtain ⟨y, hy⟩ : ∃ y : Nat, (y : Int) = max (f (g a)).o (f (g b)).o := ⟨(max (f (g a)).o (f (g b)).o).toNat, by omega⟩
    have r1 := rect_linked hR h1 (hok _ h1) (x := x1) (y := y1) ⟨q1.1, q1.2.1⟩ ⟨q1.2.2.1, q1.2.2.2⟩
    have r2 := rect_linked hR h2 (hok _ h2) (x := x2) (y := y2) ⟨q2.1, q2.2.1⟩ ⟨q2.2.2.1, q2.2.2.2⟩
    have r3 := rect_linked hR h1 (hok _ h1) (x := x) (y := y) (by omega) (by omega)
    have r4 := rect_linked hR h2 (hok _ h2) (x := x) (y := y) (by omega) (by omega)
    have e := hR.eqv
    rw [← e1] at r1
    rw [← e2] at r2
    exact e.trans _ _ _ (e.symm _ _ r1) (e.trans _ _ _ r3 (e.trans _ _ _ (e.symm _ _ r4) r2))
  have hA : Ap f n (imgI 484 (fun a => mapG f n a = true ∧ Rep R a) g) := fun i j hij hj hi hj' => by
    obtain ⟨a, _, ⟨ga, ra⟩, ea⟩ := imgI_iff.1 hi
    obtain ⟨b, _, ⟨gb, rb⟩, eb⟩ := imgI_iff.1 hj'
    cases hm : cmB (f i) (f j)
    · rfl
    · exfalso
      rw [← ea, ← eb] at hm
      have := rep_one hR.eqv ra rb (link a b ga gb hm)
      rw [this, eb] at ea; omega
  refine Int.le_trans ?_ (Int.ofNat_le.2 ((apN_is f n).2 _ hA))
  unfold pcs
  refine cnt_inj g 484 _ _ (fun a ha hp => ⟨(hg' a hp.1).1, imgI_iff.2 ⟨a, ha, hp, rfl⟩⟩) (fun a b ha hb pa pb e => ?_)
  refine rep_one hR.eqv pa.2 pb.2 (link a b pa.1 pb.1 ?_)
  rw [e]
  have h1 := (hg' b pb.1).1
  have := okB_iff.1 (hok _ h1)
  exact (meet_iff (hok _ h1) (hok _ h1)).2 (by omega)
end Go.Proofs.Ytkfeeijiockdhaa
namespace Go.Proofs.Ytkfeeijiockdhaa
set_option linter.unusedVariables false
/-- all before j meet the k-th one -/
def mrow (f : Nat → Rt) (k : Nat) : Nat → Bool
  | 0 => true
  | j + 1 => mrow f k j && cmB (f j) (f k)
/-- each two of the first k meet -/
def mall (f : Nat → Rt) : Nat → Bool
  | 0 => true
  | k + 1 => mall f k && mrow f k k
theorem mrow_iff (f : Nat → Rt) (k j : Nat) : mrow f k j = true ↔ ∀ i, i < j → cmB (f i) (f k) = true := by
  induction j with
  | zero => exact ⟨fun _ i hi => by omega, fun _ => rfl⟩
  | succ j ih =>
    simp only [mrow, Bool.and_eq_true]; rw [ih]
    refine ⟨fun ⟨h1, h2⟩ i hi => ?_, fun h => ⟨fun i hi => h i (by omega), h j (by omega)⟩⟩
    by_cases e : i = j
    · subst e; exact h2
    · exact h1 i (by omega)
theorem mall_iff (f : Nat → Rt) (n : Nat) : mall f n = true ↔ allM f n := by
  induction n with
  | zero => exact ⟨fun _ i j _ hj => by omega, fun _ => rfl⟩
  | succ n ih =>
    simp only [mall, Bool.and_eq_true]; rw [ih, mrow_iff]
    refine ⟨fun ⟨h1, h2⟩ i j hij hj => ?_, fun h => ⟨fun i j hij hj => h i j hij (by omega), fun i hi => h i n hi (by omega)⟩⟩
    by_cases e : j = n
    · subst e; exact h2 i hij
    · exact h1 i j hij (by omega)
theorem mall_no {f : Nat → Rt} {n j k : Nat} (hj : j < k) (hk : k < n) (h : cmB (f j) (f k) = false) : mall f n = false := by
  rw [← Bool.not_eq_true, mall_iff]; intro hh; rw [hh j k hj hk] at h; cases h
def amF (f : Nat → Rt) (n : Nat) : Bool := mall f n && laidF f n
theorem amF_iff (f : Nat → Rt) (n : Nat) : amF f n = true ↔ allM f n ∧ laidF f n = true := by unfold amF; rw [Bool.and_eq_true, mall_iff]
/-- How many cells pierce all, and how many are apart; -1 for others. -/
noncomputable def prF (f : Nat → Rt) (n : Nat) : Int := if laidF f n then prN f n else -1
noncomputable def apF (f : Nat → Rt) (n : Nat) : Int := if laidF f n then apN f n else -1
-- sets of bits
/-- none of the set before j meets the k-th one -/
def arow (f : Nat → Rt) (s k : Nat) : Nat → Bool
  | 0 => true
  | j + 1 => arow f s k j && (!s.testBit j || !cmB (f j) (f k))
/-- no two of the set's first k meet -/
def aall (f : Nat → Rt) (s : Nat) : Nat → Bool
  | 0 => true
  | k + 1 => aall f s k && (!s.testBit k || arow f s k k)
theorem arow_iff (f : Nat → Rt) (s k j : Nat) : arow f s k j = true ↔ ∀ i, i < j → s.testBit i = true → cmB (f i) (f k) = false := by
  induction j with
  | zero => exact ⟨fun _ i hi => by omega, fun _ => rfl⟩
  | succ j ih =>
    simp only [arow, Bool.and_eq_true, Bool.or_eq_true, Bool.not_eq_true']; rw [ih]
    refine ⟨fun ⟨h1, h2⟩ i hi hb => ?_, fun h => ⟨fun i hi => h i (by omega), ?_⟩⟩
    · by_cases e : i = j
      · subst e
        rcases h2 with h2 | h2
        · rw [hb] at h2; cases h2
        · exact h2
      · exact h1 i (by omega) hb
    · cases hb : s.testBit j
      · exact Or.inl rfl
      · exact Or.inr (h j (by omega) hb)
theorem aall_iff (f : Nat → Rt) (s n : Nat) : aall f s n = true ↔ Ap f n (fun i => s.testBit i) := by
  induction n with
  | zero => exact ⟨fun _ i j _ hj => by omega, fun _ => rfl⟩
  | succ n ih =>
    simp only [aall, Bool.and_eq_true, Bool.or_eq_true, Bool.not_eq_true']; rw [ih, arow_iff]
    refine ⟨fun ⟨h1, h2⟩ i j hij hj hi hj' => ?_, fun h => ⟨fun i j hij hj => h i j hij (by omega), ?_⟩⟩
    · by_cases e : j = n
      · subst e
        rcases h2 with h2 | h2
        · exact absurd hj' (by simp [h2])
        · exact h2 i hij hi
      · exact h1 i j hij (by omega) hi hj'
    · cases hb : s.testBit n
      · exact Or.inl rfl
      · exact Or.inr fun i hi hb' => h i n hi (by omega) hb' hb
theorem popTo_cnt (s n : Nat) : popTo s n = cntI n (fun i => s.testBit i) := by
  induction n with
  | zero => rfl
  | succ n ih => simp only [popTo, cntI]; rw [ih]; cases s.testBit n <;> rfl
/-- the number of a set -/
def maskI (I : Nat → Bool) : Nat → Nat
  | 0 => 0
  | n + 1 => maskI I n + (if I n = true then 2 ^ n else 0)
theorem maskI_lt (I : Nat → Bool) (n : Nat) : maskI I n < 2 ^ n := by
  induction n with
  | zero => exact Nat.one_pos
  | succ n ih => simp only [maskI]; have := Nat.pow_succ 2 n; split <;> omega
theorem maskI_bit (I : Nat → Bool) (n : Nat) : ∀ i, i < n → (maskI I n).testBit i = I i := by
  induction n with
  | zero => intro i hi; omega
  | succ n ih =>
    intro i hi
    simp only [maskI]
    have hlt := maskI_lt I n
    by_cases e : i = n
    · subst e
      cases h : I i
      · simp only [Bool.false_eq_true, if_false, Nat.add_zero]; exact Nat.testBit_lt_two_pow hlt
      · simp only [if_true]; rw [Nat.add_comm, Nat.testBit_two_pow_add_eq, Nat.testBit_lt_two_pow hlt]; rfl
    · cases h : I n
      · simp only [Bool.false_eq_true, if_false, Nat.add_zero]; exact ih i (by omega)
      · simp only [if_true]; rw [Nat.add_comm, Nat.testBit_two_pow_add_gt (by omega)]; exact ih i (by omega)
theorem maskI_far (I : Nat → Bool) (n : Nat) {i : Nat} (hi : n ≤ i) : (maskI I n).testBit i = false :=
  Nat.testBit_lt_two_pow (Nat.lt_of_lt_of_le (maskI_lt I n) (Nat.pow_le_pow_right (by omega) hi))
/-- the best of the sets below s -/
def bestA (f : Nat → Rt) (n : Nat) : Nat → Nat
  | 0 => 0
  | s + 1 => if aall f s n then max (bestA f n s) (popTo s n) else bestA f n s
theorem bestA_le (f : Nat → Rt) (n : Nat) : ∀ s t, t < s → aall f t n = true → popTo t n ≤ bestA f n s
  | 0, t, h, _ => by omega
  | s + 1, t, h, ha => by
    simp only [bestA]
    by_cases e : t = s
    · subst e; rw [if_pos ha]; omega
    · have := bestA_le f n s t (by omega) ha
      split <;> omega
theorem bestA_at (f : Nat → Rt) (n : Nat) : ∀ s, ∃ I, Ap f n I ∧ cntI n I = bestA f n s
  | 0 => ⟨fun _ => false, fun i j _ _ h => absurd (show false = true from h) (by decide), cntI_none fun _ _ => rfl⟩
  | s + 1 => by
    simp only [bestA]
    by_cases ha : aall f s n = true
    · rw [if_pos ha]
      by_cases h : bestA f n s ≤ popTo s n
      · exact ⟨fun i => s.testBit i, (aall_iff f s n).1 ha, by rw [← popTo_cnt]; omega⟩
      · obtain ⟨I, h1, h2⟩ := bestA_at f n s
        exact ⟨I, h1, by omega⟩
    · rw [if_neg ha]; exact bestA_at f n s
theorem bestA_all (f : Nat → Rt) (n : Nat) : bestA f n (2 ^ n) = apN f n := by
  refine (apN_eq ⟨bestA_at f n _, fun I hI => ?_⟩).symm
  have := bestA_le f n (2 ^ n) (maskI I n) (maskI_lt I n) ((aall_iff _ _ _).2 fun i j hij hj hi hj' => hI i j hij hj (by rw [← maskI_bit I n i (by omega)]; exact hi) (by rw [← maskI_bit I n j hj]; exact hj'))
  rw [popTo_cnt, cntI_congr (J := I) (fun i hi => maskI_bit I n i hi)] at this
  exact this
theorem bestA_bd (f : Nat → Rt) (n s : Nat) : bestA f n s ≤ n := by
  obtain ⟨I, _, h⟩ := bestA_at f n s
  rw [← h]; exact cntI_le n I

-- what cells at left and low sides pierce
/-- The set of those that have the cell at the k-th one's left and the j-th one's low side. -/
def hitN (f : Nat → Rt) (n k j : Nat) : Nat := maskI (fun i => hasB (f i) (f k).l (f j).o) n
/-- so many of the sets have all that are left -/
def Pc (st : List Nat) (m left : Nat) : Prop := ∃ cs : List Nat, cs.length ≤ m ∧ (∀ s, s ∈ cs → s ∈ st) ∧ ∀ i, left.testBit i = true → ∃ s, s ∈ cs ∧ s.testBit i = true
theorem Pc.none {st : List Nat} (m : Nat) : Pc st m 0 := ⟨[], Nat.zero_le _, fun s h => absurd h List.not_mem_nil, fun i h => by simp at h⟩
theorem Pc.zero {st : List Nat} {left : Nat} (h : left ≠ 0) : ¬ Pc st 0 left := fun ⟨cs, h1, _, h3⟩ => by
  have : cs = [] := List.eq_nil_of_length_eq_zero (by omega)
  subst this
  apply h
  refine Nat.eq_of_testBit_eq fun i => ?_
  rw [Nat.zero_testBit]
  cases hb : left.testBit i
  · rfl
  · obtain ⟨s, hs, _⟩ := h3 i hb; cases hs
/-- what is left behind a set -/
def difN (a b : Nat) : Nat := a ^^^ (a &&& b)
theorem difN_bit (a b i : Nat) : (difN a b).testBit i = (a.testBit i && !b.testBit i) := by
  unfold difN; rw [Nat.testBit_xor, Nat.testBit_and]; cases a.testBit i <;> cases b.testBit i <;> rfl
theorem difN_lt {a b n : Nat} (h : a < 2 ^ n) : difN a b < 2 ^ n := by
  unfold difN; exact Nat.xor_lt_two_pow h (Nat.lt_of_le_of_lt Nat.and_le_left h)
theorem Pc.step {st : List Nat} {m left s : Nat} (hs : s ∈ st) (h : Pc st m (difN left s)) : Pc st (m + 1) left := by
  obtain ⟨cs, h1, h2, h3⟩ := h
  refine ⟨s :: cs, by rw [List.length_cons]; omega, fun t ht => ?_, fun i hi => ?_⟩
  · rcases List.mem_cons.1 ht with e | ht
    · rw [e]; exact hs
    · exact h2 t ht
  · cases hb : s.testBit i
    · obtain ⟨t, ht, h⟩ := h3 i (by rw [difN_bit, hi, hb]; rfl)
      exact ⟨t, List.mem_cons.2 (Or.inr ht), h⟩
    · exact ⟨s, List.mem_cons.2 (Or.inl rfl), hb⟩
theorem Pc.first {st : List Nat} {m left i : Nat} (hi : left.testBit i = true) (h : Pc st (m + 1) left) : ∃ s, s ∈ st ∧ s.testBit i = true ∧ Pc st m (difN left s) := by
  obtain ⟨cs, h1, h2, h3⟩ := h
  obtain ⟨s, hs, hb⟩ := h3 i hi
  refine ⟨s, h2 s hs, hb, cs.erase s, ?_, fun t ht => h2 t (List.mem_of_mem_erase ht), fun k hk => ?_⟩
  · have := List.length_erase_of_mem hs
    have := List.length_pos_of_mem hs
    omega
  · rw [difN_bit, Bool.and_eq_true, Bool.not_eq_true'] at hk
    obtain ⟨t, ht, hb'⟩ := h3 k hk.1
    refine ⟨t, (List.mem_erase_of_ne fun e => ?_).2 ht, hb'⟩
    subst e; rw [hb'] at hk; cases hk.2
/-- The sets are just those of cells at left and low sides. -/
structure Sets (f : Nat → Rt) (n : Nat) (st : List Nat) : Prop where
  of : ∀ s, s ∈ st → ∃ k j, k < n ∧ j < n ∧ s = hitN f n k j
  all : ∀ k j, k < n → j < n → hitN f n k j ∈ st
theorem argmax (g : Nat → Int) (n : Nat) (P : Nat → Bool) (h : ∃ i, i < n ∧ P i = true) : ∃ i, i < n ∧ P i = true ∧ ∀ j, j < n → P j = true → g j ≤ g i := by
  obtain ⟨i, h1, h2, h3⟩ := least_at (n := n) (I := P) (fun i => - g i) h
  exact ⟨i, h1, h2, fun j hj hp => by have := h3 j hj hp; omega⟩
theorem pc_cells {f : Nat → Rt} {n : Nat} {st : List Nat} (hS : Sets f n st) (hok : ∀ i, i < n → okB (f i) = true) (m : Nat) : Pc st m (2 ^ n - 1) ↔ ∃ cs : List (Int × Int), cs.length ≤ m ∧ PrI f n (fun _ => true) cs := by
  have full : ∀ i, (2 ^ n - 1).testBit i = decide (i < n) := fun i => Nat.testBit_two_pow_sub_one n i
  constructor
  · rintro ⟨cs, h1, h2, h3⟩
    have pick : ∀ s, ∃ c : Int × Int, s ∈ cs → ∀ i, i < n → s.testBit i = true → hasB (f i) c.1 c.2 = true := fun s => by
      by_cases hs : s ∈ cs
      · obtain ⟨k, j, hk, hj, e⟩ := hS.of s (h2 s hs)
        exact ⟨((f k).l, (f j).o), fun _ i hi hb => by rw [e] at hb; unfold hitN at hb; rw [maskI_bit _ n i hi] at hb; exact hb⟩
      · exact ⟨(0, 0), fun h => absurd h hs⟩
    refine ⟨cs.map fun s => Classical.choose (pick s), by rw [List.length_map]; exact h1, fun i hi _ => ?_⟩
    obtain ⟨s, hs, hb⟩ := h3 i (by rw [full]; exact decide_eq_true hi)
    exact ⟨_, List.mem_map.2 ⟨s, hs, rfl⟩, Classical.choose_spec (pick s) hs i hi hb⟩
  · rintro ⟨cs, h1, h2⟩
    by_cases h0 : n = 0
    · subst h0; exact ⟨[], by simp, fun s h => (by cases h), fun i h => by simp at h⟩
    · have pick : ∀ c : Int × Int, ∃ s, s ∈ st ∧ ∀ i, i < n → hasB (f i) c.1 c.2 = true → s.testBit i = true := fun c => by
        by_cases hx : ∃ i, i < n ∧ hasB (f i) c.1 c.2 = true
        · obtain ⟨k, hk, hk1, hk2⟩ := argmax (fun i => (f i).l) n (fun i => hasB (f i) c.1 c.2) hx
          obtain ⟨j, hj, hj1, hj2⟩ := argmax (fun i => (f i).o) n (fun i => hasB (f i) c.1 c.2) hx
          refine ⟨hitN f n k j, hS.all k j hk hj, fun i hi hb => ?_⟩
          unfold hitN; rw [maskI_bit _ n i hi]
          have a1 := hasB_iff.1 hk1
          have a2 := hasB_iff.1 hj1
          have a3 := hasB_iff.1 hb
          have a4 := hk2 i hi hb
          have a5 := hj2 i hi hb
          exact hasB_iff.2 (by omega)
        · exact ⟨hitN f n 0 0, hS.all 0 0 (by omega) (by omega), fun i hi hb => absurd ⟨i, hi, hb⟩ hx⟩
      refine ⟨cs.map fun c => Classical.choose (pick c), by rw [List.length_map]; exact h1, fun s hs => ?_, fun i hi => ?_⟩
      · obtain ⟨c, _, e⟩ := List.mem_map.1 hs
        rw [← e]; exact (Classical.choose_spec (pick c)).1
      · rw [full] at hi
        obtain ⟨c, hc, hb⟩ := h2 i (of_decide_eq_true hi) rfl
        exact ⟨_, List.mem_map.2 ⟨c, hc, rfl⟩, (Classical.choose_spec (pick c)).2 i (of_decide_eq_true hi) hb⟩
/-- the least number of sets is the least number of cells -/
theorem pc_least {f : Nat → Rt} {n : Nat} {st : List Nat} (hS : Sets f n st) (hok : ∀ i, i < n → okB (f i) = true) {m : Nat} (h : Pc st m (2 ^ n - 1)) (hl : ∀ k, k < m → ¬ Pc st k (2 ^ n - 1)) : prN f n = m := by
  obtain ⟨cs, h1, h2⟩ := (pc_cells hS hok m).1 h
  have low : ∀ cs : List (Int × Int), PrI f n (fun _ => true) cs → m ≤ cs.length := fun cs hc => by
    rcases Nat.lt_or_ge cs.length m with x | x
    · exact absurd ((pc_cells hS hok _).2 ⟨cs, Nat.le_refl _, hc⟩) (hl _ x)
    · exact x
  have := low cs h2
  exact prN_eq ⟨⟨cs, by omega, h2⟩, low⟩
theorem pc_own {f : Nat → Rt} {n : Nat} {st : List Nat} (hS : Sets f n st) (hok : ∀ i, i < n → okB (f i) = true) : Pc st n (2 ^ n - 1) :=
  (pc_cells hS hok n).2 ⟨ownCs f n, Nat.le_of_eq (ownCs_len f n), ownCs_pr hok _⟩
end Go.Proofs.Ytkfeeijiockdhaa
