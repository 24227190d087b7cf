
/- Pieces less holes, and the corners. -/
import Derived.Test.YtbdpngjakccjjaaDoorMathI
namespace Go.Proofs.YtbdpngjakccjjaaDoor

theorem run_all {G : Nat → Bool} (hB : Bare G) : Run G 21 21 := by
  have row : ∀ y, 1 ≤ y → y ≤ 21 → Run G y 0 → ∀ x, x ≤ 21 → Run G y x := fun y h1 h2 h0 x => by
    induction x with
    | zero => intro _; exact h0
    | succ x ih => intro hx; exact run_next (ih (by omega)) h1 h2 (by omega)
  have start : ∀ y, y ≤ 20 → Run G (y + 1) 0 := fun y => by
    induction y with
    | zero => intro _; exact run_start hB
    | succ y ih => intro hy; exact run_row hB (row (y + 1) (by omega) (by omega) (ih (by omega)) 21 (by omega)) (by omega) (by omega)
  exact row 21 (by omega) (by omega) (start 20 (by omega)) 21 (by omega)
/-- Neighbours of one colour: by a side, and if they are empty by a corner too. -/
def Nbr (G : Nat → Bool) (a b : Nat) : Prop :=
  ((b = a + 1 ∨ b = a + 22) ∧ G a = G b) ∨ ((b = a + 21 ∨ b = a + 23) ∧ G a = false ∧ G b = false)
/-- Empty classes. -/
noncomputable def whs (G : Nat → Bool) (R : Nat → Nat → Prop) (t : Nat) : Int := cntP t fun a => G a = false ∧ Rep R a
/-- Pieces, less the holes, are what the cells add up to. -/
theorem euler {G : Nat → Bool} (hB : Bare G) : ∃ R, Eqv R ∧ (∀ a b, R a b → G a = G b) ∧ (∀ a b, b < 484 → Nbr G a b → R a b) ∧
    (∀ L, Eqv L → (∀ a b, b < 484 → Nbr G a b → L a b) → ∀ a b, R a b → L a b) ∧ (∀ a, a < 22 → R 0 a) ∧ pcs G R 484 - (whs G R 484 - 1) = chi G 484 := by
  obtain ⟨R, M, S, hE, hM⟩ := run_all hB
  have e := S.lk.eqv
  have gf : ∀ i, i ≤ 22 → G (fr 21 21 i) = false := fun i hi => by
    by_cases h : i = 22
    · rw [h]; exact hB.right 20 (by omega)
    · rw [fr_end _ _ (by omega)]; exact hB.last _ (by omega) (by omega)
  have noD : ∀ e, ¬ Dg G 21 21 e := fun e he => he.2 (by rw [gf _ (by have := he.1; omega), gf _ (by have := he.1; omega)])
  have all : ∀ i j, i ≤ 22 → j ≤ 22 → R (fr 21 21 i) (fr 21 21 j) := fun i j hi hj => (S.inv i j hi hj).2 fun e he => absurd he (noD e)
  have hN : ∀ a b, b < 484 → Nbr G a b → R a b := by
    rintro a b hb (⟨h | h, g⟩ | ⟨h | h, g, g'⟩)
    · exact hE b a b (by omega) (Or.inl ⟨rfl, Or.inl (by omega), g⟩)
    · exact hE b a b (by omega) (Or.inl ⟨rfl, Or.inr (by omega), g⟩)
    · by_cases h483 : b = 483
      · have := all 0 21 (by omega) (by omega)
        rw [fr_end _ _ (by omega), fr_end _ _ (by omega)] at this
        rw [show a = 22 * 21 + 0 by omega, show b = 22 * 21 + 21 by omega]; exact this
      · exact hE (b + 1) a b (by omega) (Or.inr (Or.inr ⟨by omega, rfl, g, g'⟩))
    · exact hE b a b (by omega) (Or.inr (Or.inl ⟨rfl, by omega, g, g'⟩))
  refine ⟨R, e, S.lk.col, hN, ?_, ?_, ?_⟩
  · intro L hL hl
    refine hM L hL fun c a b hc hat => ?_
    rcases hat with ⟨r, s | s, g⟩ | ⟨r, s, g1, g2⟩ | ⟨r, s, g1, g2⟩
    · exact hl a b (by omega) (Or.inl ⟨Or.inl (by omega), g⟩)
    · exact hl a b (by omega) (Or.inl ⟨Or.inr (by omega), g⟩)
    · exact hl a b (by omega) (Or.inr ⟨Or.inr (by omega), g1, g2⟩)
    · exact hl a b (by omega) (Or.inr ⟨Or.inl (by omega), g1, g2⟩)
  · intro a ha
    induction a with
    | zero => exact e.refl _
    | succ a ih => exact e.trans _ _ _ (ih (by omega)) (hN a (a + 1) (by omega) (Or.inl ⟨Or.inl rfl, by rw [hB.first a (by omega), hB.first _ ha]⟩))
  · obtain ⟨k, k1, k2, k3⟩ := rep_ex e (fr 21 21 0)
    have hle := fr_le (y := 21) (x := 21) (j := 0) (by omega)
    have hc := S.cnt
    have hd := cntP_drop (t := 484) (k := k) (P := fun a => G a = false ∧ Rep R a) (Q := fun a => (G a = false ∧ Cl 21 21 R a) ∧ Rep R a) (by omega)
      ⟨(S.lk.col _ _ k2).trans (gf 0 (by omega)), k3⟩ (fun a _ => by
        constructor
        · rintro ⟨⟨u, v⟩, z⟩
          refine ⟨⟨u, z⟩, ?_⟩
          rintro rfl; exact v 0 (by omega) (e.symm _ _ k2)
        · rintro ⟨⟨u, z⟩, ne⟩
          refine ⟨⟨u, fun i hi hr => ?_⟩, z⟩
          exact ne (rep_one e k3 z (e.trans _ _ _ k2 (e.trans _ _ _ (all 0 i (by omega) hi) hr))).symm)
    have h1 : cls G 21 21 R 484 = whs G R 484 - 1 := hd
    rw [← h1]; exact hc

-- sums over the map
theorem sum_none {n : Nat} {f : Nat → Int} (h : ∀ i, i < n → f i = 0) : sumN n f = 0 := by
  rw [sumN_congr (g := fun _ => 0) h, sumN_zero]
theorem sum_moved {f : Nat → Int} (d : Nat) (hd : d ≤ 23) (h0 : ∀ a, a < 23 → f a = 0) (h1 : ∀ a, 461 ≤ a → f a = 0) : sumN 461 (fun a => f (a + d)) = sumN 484 f := by
  have e : sumN 484 f = sumN d f + sumN (484 - d) (fun i => f (d + i)) := by rw [← sumN_split, show d + (484 - d) = 484 by omega]
  have e2 : sumN (484 - d) (fun i => f (d + i)) = sumN 461 (fun i => f (d + i)) + sumN (23 - d) (fun i => f (d + (461 + i))) := by
    rw [← sumN_split, show 461 + (23 - d) = 484 - d by omega]
  rw [e, e2, sum_none (fun i hi => h0 i (by omega)), sum_none (f := fun i => f (d + (461 + i))) (fun i hi => h1 _ (by omega)),
    sumN_congr (f := fun i => f (d + i)) (g := fun a => f (a + d)) (fun i _ => by rw [Nat.add_comm])]
  omega
theorem sum_back {f g : Nat → Int} (d : Nat) (hd : d ≤ 23) (hg : ∀ a, g (a + d) = f a) (h0 : ∀ a, a < d → g a = 0) (h1 : ∀ a, 461 ≤ a → f a = 0) : sumN 484 g = sumN 484 f := by
  have e : sumN 484 g = sumN d g + sumN (484 - d) (fun i => g (d + i)) := by rw [← sumN_split, show d + (484 - d) = 484 by omega]
  have e2 : sumN 484 f = sumN (484 - d) f + sumN d (fun i => f (484 - d + i)) := by rw [← sumN_split, show 484 - d + d = 484 by omega]
  rw [e, e2, sum_none h0, sum_none (f := fun i => f (484 - d + i)) (fun i hi => h1 _ (by omega)),
    sumN_congr (f := fun i => g (d + i)) (g := f) (fun i _ => by rw [Nat.add_comm, hg])]
  omega
/-- What the corner where four cells meet tells: outwards less inwards. -/
def cor (p q r s : Bool) : Int :=
  let n := one p + one q + one r + one s
  if n = 1 then 1 else if n = 3 then -1 else if n = 2 ∧ p = s then 2 else 0
theorem cor_eq (p q r s : Bool) : cor p q r s = one p + one q + one r + one s - 2 * (one p * one q + one r * one s + one p * one r + one q * one s) + 4 * (one p * one q * one r * one s) := by
  cases p <;> cases q <;> cases r <;> cases s <;> decide
def corAt (G : Nat → Bool) (a : Nat) : Int := cor (G a) (G (a + 1)) (G (a + 22)) (G (a + 23))
theorem cor_sum {G : Nat → Bool} (hB : Bare G) (ho : ∀ a, 484 ≤ a → G a = false) : sumN 461 (corAt G) = 4 * chi G 484 := by
  have z0 : ∀ a, a < 23 → one (G a) = 0 := fun a ha => by
    by_cases e : a = 22
    · rw [e, hB.left 1 (by omega)]; rfl
    · rw [hB.first a (by omega)]; rfl
  have z1 : ∀ a, 461 ≤ a → one (G a) = 0 := fun a ha => by
    by_cases e : a = 461
    · rw [e, hB.right 20 (by omega)]; rfl
    by_cases e2 : a < 484
    · rw [hB.last a (by omega) e2]; rfl
    · rw [ho a (by omega)]; rfl
  have vv : ∀ d, d ≤ 23 → sumN 461 (fun a => one (G (a + d))) = sumN 484 (fun a => one (G a)) := fun d hd => sum_moved (f := fun a => one (G a)) d hd z0 z1
  have hh : ∀ d, d ≤ 23 → sumN 461 (fun a => one (G (a + d)) * one (G (a + d + 1))) = sumN 484 (fun a => one (G a) * one (G (a + 1))) := fun d hd =>
    sum_moved (f := fun a => one (G a) * one (G (a + 1))) d hd (fun a ha => by rw [z0 a ha, Int.zero_mul]) (fun a ha => by rw [z1 a ha, Int.zero_mul])
  have uu : ∀ d, d ≤ 23 → sumN 461 (fun a => one (G (a + d)) * one (G (a + d + 22))) = sumN 484 (fun a => one (G a) * one (G (a + 22))) := fun d hd =>
    sum_moved (f := fun a => one (G a) * one (G (a + 22))) d hd (fun a ha => by rw [z0 a ha, Int.zero_mul]) (fun a ha => by rw [z1 a ha, Int.zero_mul])
  have ff : sumN 461 (fun a => one (G a) * one (G (a + 1)) * one (G (a + 22)) * one (G (a + 23))) = sumN 484 (fun a => one (G a) * one (G (a + 1)) * one (G (a + 22)) * one (G (a + 23))) :=
    sum_moved (f := fun a => one (G a) * one (G (a + 1)) * one (G (a + 22)) * one (G (a + 23))) 0 (by omega) (fun a ha => by rw [z0 a ha]; simp) (fun a ha => by rw [z1 a ha]; simp)
  have c1 : sumN 484 (fun c => one (G c) * one (G (c - 1))) = sumN 484 (fun a => one (G a) * one (G (a + 1))) :=
    sum_back 1 (by omega) (fun a => by rw [Nat.add_sub_cancel, Int.mul_comm]) (fun a ha => by rw [z0 a (by omega), Int.zero_mul]) (fun a ha => by rw [z1 a ha, Int.zero_mul])
  have c2 : sumN 484 (fun c => one (G c) * one (G (c - 22))) = sumN 484 (fun a => one (G a) * one (G (a + 22))) :=
    sum_back 22 (by omega) (fun a => by rw [Nat.add_sub_cancel, Int.mul_comm]) (fun a ha => by rw [z0 a (by omega), Int.zero_mul]) (fun a ha => by rw [z1 a ha, Int.zero_mul])
  have c3 : sumN 484 (fun c => one (G c) * (one (G (c - 1)) * one (G (c - 22)) * one (G (c - 23)))) = sumN 484 (fun a => one (G a) * one (G (a + 1)) * one (G (a + 22)) * one (G (a + 23))) :=
    sum_back 23 (by omega) (fun a => by
      rw [show a + 23 - 1 = a + 22 by omega, show a + 23 - 22 = a + 1 by omega, Nat.add_sub_cancel]
      cases G a <;> cases G (a + 1) <;> cases G (a + 22) <;> cases G (a + 23) <;> decide) (fun a ha => by rw [z0 a (by omega), Int.zero_mul]) (fun a ha => by rw [z1 a ha]; simp)
  have l : sumN 461 (corAt G) = sumN 461 (fun a => one (G (a + 0))) + sumN 461 (fun a => one (G (a + 1))) + sumN 461 (fun a => one (G (a + 22))) + sumN 461 (fun a => one (G (a + 23)))
      - 2 * (sumN 461 (fun a => one (G (a + 0)) * one (G (a + 0 + 1))) + sumN 461 (fun a => one (G (a + 22)) * one (G (a + 22 + 1))) + sumN 461 (fun a => one (G (a + 0)) * one (G (a + 0 + 22))) + sumN 461 (fun a => one (G (a + 1)) * one (G (a + 1 + 22))))
      + 4 * sumN 461 (fun a => one (G a) * one (G (a + 1)) * one (G (a + 22)) * one (G (a + 23))) := by
    rw [← sumN_mul, ← sumN_add, ← sumN_add, ← sumN_add, ← sumN_add, ← sumN_add, ← sumN_add, ← sumN_mul, ← sumN_sub, ← sumN_add]
    refine sumN_congr fun a _ => ?_
    unfold corAt
    rw [cor_eq]
    rfl
  have r : chi G 484 = sumN 484 (fun a => one (G a)) - sumN 484 (fun c => one (G c) * one (G (c - 1))) - sumN 484 (fun c => one (G c) * one (G (c - 22))) + sumN 484 (fun c => one (G c) * (one (G (c - 1)) * one (G (c - 22)) * one (G (c - 23)))) := by
    unfold chi
    rw [← sumN_sub, ← sumN_sub, ← sumN_add]
    refine sumN_congr fun c _ => ?_
    unfold dchi
    cases G c <;> cases G (c - 1) <;> cases G (c - 22) <;> cases G (c - 23) <;> decide
  rw [l, r, vv 0 (by omega), vv 1 (by omega), vv 22 (by omega), vv 23 (by omega), hh 0 (by omega), hh 22 (by omega), uu 0 (by omega), uu 1 (by omega), ff, c1, c2, c3]
  omega
end Go.Proofs.YtbdpngjakccjjaaDoor
