
/- The functions that draw: rectangles. -/
import Derived.Test.YthbmiibbnbbdgaaDraw
namespace Go.Proofs.Ythbmiibbnbbdgaa
open Go.RowKit Go.Sort Go.BigFrame
set_option linter.unusedVariables false

theorem Rd.below {w w' : World} {B N X : Nat} (h : Rd w B N) (hb : Below X w w') (hX : B < X) : Rd w' B N := by
  obtain ⟨a, len, cap, k, hc, hl, hk, hB, c0, c1, fz⟩ := h
  refine ⟨a, len, cap, k, ?_, hl, hk, Nat.lt_of_lt_of_le hB hb.size, ?_, ?_, ?_⟩
  · rcases hc with hc | ⟨b, off, z, ha, hbB, hz⟩
    · exact Or.inl hc
    · exact Or.inr ⟨b, off, z, ha, hbB, fun i hi => by rw [hb.cell (p := ⟨b, off + i, none⟩) (Nat.lt_trans hbB hX)]; exact hz i hi⟩
  · rw [hb.cell (p := ⟨B, 0, none⟩) hX]; exact c0
  · rw [hb.cell (p := ⟨B, 1, none⟩) hX]; exact c1
  · rw [hb.frozen (p := ⟨B, 1, none⟩) hX]; exact fz
theorem Rd.lt {w : World} {B N : Nat} (h : Rd w B N) : B < w.heap.size := by
  obtain ⟨a, len, cap, k, hc, hl, hk, hB, _⟩ := h; exact hB
theorem Rd.le {w : World} {B N M : Nat} (h : Rd w B N) (hM : N ≤ M) : Rd w B M := by
  obtain ⟨a, len, cap, k, hc, hl, hk, r⟩ := h; exact ⟨a, len, cap, k, hc, hl, Nat.le_trans hk hM, r⟩
theorem Rd.alloc {w : World} {B N : Nat} (h : Rd w B N) (o : Obj) : Rd (w.alloc o) B N := h.below ((Below.refl w.heap.size w).alloc (Nat.le_refl _) o) h.lt

def OddPost (B N : Nat) (n : Int) (w : World) (e : Ending) (w' : World) : Prop :=
  ∃ b : Bool, e = .returned (.bool b) ∧ (n ≤ 0 → b = false) ∧ Sole B w w' ∧ Rd w' B (N + 1)

set_option maxHeartbeats 400000 in
theorem odd_any (B N : Nat) (n : Int) (w : World) (hr : Rd w B N) (hN : N ≤ 1000000) (hn : n ≤ 1000) :
    Calls Try.prog 68 #[.pointer (some ⟨B, 0, none⟩), .int .i64 n] w (OddPost B N n w) := by
  by_cases h : 0 < n
  · go_enter Try.func68, Try.ntmps68
    go_wp2_with fail
    refine (pick_any B (N) _ _ (hr) (by omega) (by omega)).mono ?_; rintro e w1 hp; obtain ⟨v1, rfl, p1, q1, _, hs1, hr1⟩ := hp; have hz1 := hs1.size; (try simp at hz1)
    go_wp2
    go_ret
    exact ⟨_, rfl, fun h' => absurd h (by omega), hs1, hr1⟩
  · go_enter Try.func68, Try.ntmps68
    go_wp2
    go_ret
    exact ⟨false, rfl, fun _ => rfl, Sole.refl _ _, hr.le (by omega)⟩

/-- A code that came in. -/
def Came (w : World) (a : Option Addr) (len cap : Nat) : Prop :=
  len = 0 ∨ ∃ b off, ∃ z : Nat → Int, a = some ⟨b, off, none⟩ ∧ len ≤ cap ∧ cap ≤ maxLen ∧ ∀ i, i < len → w.cell? ⟨b, off + i, none⟩ = some (.int .u8 (z i)) ∧ 0 ≤ z i ∧ z i ≤ 255
theorem Came.len_le {w : World} {a : Option Addr} {len cap : Nat} (h : Came w a len cap) : len ≤ 9223372036854775807 := by
  rcases h with h | ⟨b, off, z, ha, h1, h2, _⟩
  · omega
  · unfold maxLen at h2; omega
theorem Came.below {w w' : World} {a : Option Addr} {len cap : Nat} (h : Came w a len cap) (hb : Below w.heap.size w w') : Came w' a len cap := by
  rcases h with h | ⟨b, off, z, ha, h1, h2, hz⟩
  · exact Or.inl h
  · exact Or.inr ⟨b, off, z, ha, h1, h2, fun i hi => by rw [hb.cell (p := ⟨b, off + i, none⟩) (World.block_lt_of_cell? w _ (hz i hi).1)]; exact hz i hi⟩
def OpenPost (w : World) (e : Ending) (w' : World) : Prop :=
  e = .returned (.pointer (some ⟨w.heap.size, 0, none⟩)) ∧ Below w.heap.size w w' ∧ Rd w' w.heap.size 0
theorem Rd.made {w : World} {a : Option Addr} {len cap : Nat} (h : Came w a len cap) (hl : len ≤ 2000) (cap' : Nat) (t : TypeId) : Rd (w.alloc (.cells #[.slice a len cap', .int .i64 0] t)) w.heap.size 0 := by
  refine ⟨a, len, cap', 0, ?_, hl, Nat.le_refl _, by simp, by go_simp, by go_simp, by go_simp⟩
  rcases h with h | ⟨b, off, z, ha, h1, h2, hz⟩
  · exact Or.inl h
  · by_cases h0 : len = 0
    · exact Or.inl h0
    · exact Or.inr ⟨b, off, z, ha, World.block_lt_of_cell? w _ (hz 0 (by omega)).1, fun i hi => by
        rw [((Below.refl w.heap.size w).alloc (Nat.le_refl _) _).cell (p := ⟨b, off + i, none⟩) (World.block_lt_of_cell? w _ (hz i hi).1)]
        exact hz i hi⟩

set_option maxHeartbeats 400000 in
theorem open_any (a : Option Addr) (len cap : Nat) (w : World) (hc : Came w a len cap) :
    Calls Try.prog 34 #[.slice a len cap] w (OpenPost w) := by
  have hm := hc.len_le
  have hc' := Lib.hid hc
  by_cases h : len ≤ 2000
  · go_enter Try.func34, Try.ntmps34
    go_wp2
    go_ret
    exact ⟨rfl, (Below.refl _ _).alloc (Nat.le_refl _) _, Rd.made hc'.out h cap 76⟩
  · rcases hc with hc | ⟨b, off, z, rfl, h1, h2, hz⟩
    · omega
    · go_enter Try.func34, Try.ntmps34
      go_wp2
      go_ret
      exact ⟨rfl, (Below.refl _ _).alloc (Nat.le_refl _) _, Rd.made (Or.inr ⟨b, off, z, rfl, (by omega : 2000 ≤ cap), h2, fun i hi => hz i (by omega)⟩) (Nat.le_refl _) cap 76⟩

def RectPost (B N : Nat) (n : Int) (w : World) (e : Ending) (w' : World) : Prop :=
  ∃ r : Rt, e = .returned (rv r) ∧ (-1 ≤ r.l ∧ r.l ≤ 7 ∧ 0 ≤ r.o ∧ r.o ≤ 7 ∧ 0 ≤ r.r ∧ r.r ≤ 21 ∧ 0 ≤ r.h ∧ r.h ≤ 15) ∧ (n ≤ 0 → okB r = true) ∧ Sole B w w' ∧ Rd w' B (N + 7)

set_option maxHeartbeats 4000000 in
set_option maxRecDepth 100000 in
theorem rect_any (B N : Nat) (n : Int) (w : World) (hr : Rd w B N) (hN : N ≤ 999000) (hn : n ≤ 1000) :
    Calls Try.prog 51 #[.pointer (some ⟨B, 0, none⟩), .int .i64 n] w (RectPost B N n w) := by
  have hB := hr.lt
  go_enter Try.func51, Try.ntmps51
  go_wp2_with fail
  refine (pick_any B (N) _ _ (hr.alloc _) (by omega) (by omega)).mono ?_; rintro e w1 hp; obtain ⟨v1, rfl, p1, q1, _, hs1, hr1⟩ := hp; have hz1 := hs1.size; (try simp at hz1); have _ : w.heap.size < w1.heap.size := (by first | (simp; done) | omega | (simp; omega)); have _ := fun o => hs1.cell (p := ⟨w.heap.size, o, none⟩) (by first | (simp; done) | omega | (simp; omega)) (by first | (simp; done) | omega | (simp; omega)); have _ := fun o => hs1.frozen (p := ⟨w.heap.size, o, none⟩) (by first | (simp; done) | omega | (simp; omega)) (by first | (simp; done) | omega | (simp; omega))
  go_wp2_with fail
  refine (pick_any B (N + 1) _ _ (hr1) (by omega) (by omega)).mono ?_; rintro e w2 hp; obtain ⟨v2, rfl, p2, q2, _, hs2, hr2⟩ := hp; have hz2 := hs2.size; (try simp at hz2); have _ : w.heap.size < w2.heap.size := (by first | (simp; done) | omega | (simp; omega)); have _ := fun o => hs2.cell (p := ⟨w.heap.size, o, none⟩) (by first | (simp; done) | omega | (simp; omega)) (by first | (simp; done) | omega | (simp; omega)); have _ := fun o => hs2.frozen (p := ⟨w.heap.size, o, none⟩) (by first | (simp; done) | omega | (simp; omega)) (by first | (simp; done) | omega | (simp; omega))
  go_wp2_with fail
  refine (pick_any B (N + 2) _ _ (hr2) (by omega) (by omega)).mono ?_; rintro e w3 hp; obtain ⟨v3, rfl, p3, q3, _, hs3, hr3⟩ := hp; have hz3 := hs3.size; (try simp at hz3); have _ : w.heap.size < w3.heap.size := (by first | (simp; done) | omega | (simp; omega)); have _ := fun o => hs3.cell (p := ⟨w.heap.size, o, none⟩) (by first | (simp; done) | omega | (simp; omega)) (by first | (simp; done) | omega | (simp; omega)); have _ := fun o => hs3.frozen (p := ⟨w.heap.size, o, none⟩) (by first | (simp; done) | omega | (simp; omega)) (by first | (simp; done) | omega | (simp; omega))
  go_wp2_with fail
  refine (pick_any B (N + 3) _ _ (hr3) (by omega) (by omega)).mono ?_; rintro e w4 hp; obtain ⟨v4, rfl, p4, q4, _, hs4, hr4⟩ := hp; have hz4 := hs4.size; (try simp at hz4); have _ : w.heap.size < w4.heap.size := (by first | (simp; done) | omega | (simp; omega)); have _ := fun o => hs4.cell (p := ⟨w.heap.size, o, none⟩) (by first | (simp; done) | omega | (simp; omega)) (by first | (simp; done) | omega | (simp; omega)); have _ := fun o => hs4.frozen (p := ⟨w.heap.size, o, none⟩) (by first | (simp; done) | omega | (simp; omega)) (by first | (simp; done) | omega | (simp; omega))
  go_wp2_with fail
  refine (pick_any B (N + 4) _ _ (hr4) (by omega) (by omega)).mono ?_; rintro e w5 hp; obtain ⟨v5, rfl, p5, q5, _, hs5, hr5⟩ := hp; have hz5 := hs5.size; (try simp at hz5); have _ : w.heap.size < w5.heap.size := (by first | (simp; done) | omega | (simp; omega)); have _ := fun o => hs5.cell (p := ⟨w.heap.size, o, none⟩) (by first | (simp; done) | omega | (simp; omega)) (by first | (simp; done) | omega | (simp; omega)); have _ := fun o => hs5.frozen (p := ⟨w.heap.size, o, none⟩) (by first | (simp; done) | omega | (simp; omega)) (by first | (simp; done) | omega | (simp; omega))
  have q1' := q1 (by omega)
  have q2' := q2 (by omega)
  have q3' := q3 (by omega)
  have q4' := q4 (by omega)
  have q5' := q5 (by omega)
  clear q1 q2 q3 q4 q5
  go_wp2_with fail
  refine (odd_any B (N + 5) _ _ (hr5.alloc _) (by omega) (by omega)).mono ?_; rintro e w6 hp; obtain ⟨b, rfl, ob, hs6, hr6⟩ := hp; have hz6 := hs6.size; (try simp at hz6); have _ : w.heap.size < w6.heap.size := (by first | (simp; done) | omega | (simp; omega)); have _ := fun o => hs6.cell (p := ⟨w.heap.size, o, none⟩) (by first | (simp; done) | omega | (simp; omega)) (by first | (simp; done) | omega | (simp; omega)); have _ : w5.heap.size < w6.heap.size := (by first | (simp; done) | omega | (simp; omega)); have _ := fun o => hs6.cell (p := ⟨w5.heap.size, o, none⟩) (by first | (simp; done) | omega | (simp; omega)) (by first | (simp; done) | omega | (simp; omega)); have _ := fun o => hs6.frozen (p := ⟨w.heap.size, o, none⟩) (by first | (simp; done) | omega | (simp; omega)) (by first | (simp; done) | omega | (simp; omega))
  cases b
  · go_wp2
    refine bodyPost_ret (v := rv ⟨v2, v3, v2 + 1 + v4, v3 + 1 + v5⟩) (by simp [results, Try.results51, go_sem, *]) rfl ?_
    refine ⟨_, rfl, ⟨by dsimp only; omega, by dsimp only; omega, by dsimp only; omega, by dsimp only; omega, by dsimp only; omega, by dsimp only; omega, by dsimp only; omega, by dsimp only; omega⟩, fun _ => okB_iff.2 (by dsimp only; omega), by (repeat (first | with_reducible exact Sole.refl _ _ | with_reducible assumption | ((with_reducible refine Sole.setCell_new ?_ ?_ _); rotate_left; focus (first | with_reducible exact Nat.le_refl _ | omega | (simp; done) | (simp; omega))) | (with_reducible refine Sole.alloc ?_ _) | (with_reducible refine Sole.trans ?_ (by with_reducible assumption)) | (with_reducible refine Sole.trans ?_ (Sole.of_below (by with_reducible assumption))))), ?_⟩
    exact (hr6.below (X := B + 1) (by (repeat (first | with_reducible exact Below.refl _ _ | with_reducible assumption | ((with_reducible refine Below.alloc ?_ ?_ _); rotate_left; focus (first | with_reducible exact Nat.le_refl _ | omega | (simp; done) | (simp; omega))) | ((with_reducible refine Below.setCell ?_ ?_ _); rotate_left; focus (first | with_reducible exact Nat.le_refl _ | omega | (simp; done) | (simp; omega))) | (with_reducible refine Below.drew ?_) | ((with_reducible refine Below.trans ?_ (Below.mono (by with_reducible assumption) ?_)); rotate_left; focus (first | with_reducible exact Nat.le_refl _ | omega | (simp; done) | (simp; omega)))))) (by omega)).le (by omega)
  · have hn1 : ¬ n ≤ 0 := fun h => absurd (ob h) (by simp)
    clear ob
    go_wp2_with fail
    refine (pick_any B (N + 6) _ _ (hr6.alloc _) (by omega) (by omega)).mono ?_; rintro e w7 hp; obtain ⟨v7, rfl, p7, q7, _, hs7, hr7⟩ := hp; have hz7 := hs7.size; (try simp at hz7); have _ : w.heap.size < w7.heap.size := (by first | (simp; done) | omega | (simp; omega)); have _ := fun o => hs7.cell (p := ⟨w.heap.size, o, none⟩) (by first | (simp; done) | omega | (simp; omega)) (by first | (simp; done) | omega | (simp; omega)); have _ : w6.heap.size < w7.heap.size := (by first | (simp; done) | omega | (simp; omega)); have _ := fun o => hs7.cell (p := ⟨w6.heap.size, o, none⟩) (by first | (simp; done) | omega | (simp; omega)) (by first | (simp; done) | omega | (simp; omega)); have _ := fun o => hs7.frozen (p := ⟨w.heap.size, o, none⟩) (by first | (simp; done) | omega | (simp; omega)) (by first | (simp; done) | omega | (simp; omega))
    have q7' := q7 (by omega)
    clear q7
    have h4 : v7 = 0 ∨ v7 = 1 ∨ v7 = 2 ∨ v7 = 3 := by omega
    clear q7' p7
    have HS : Sole B w w7 := by (repeat (first | with_reducible exact Sole.refl _ _ | with_reducible assumption | ((with_reducible refine Sole.setCell_new ?_ ?_ _); rotate_left; focus (first | with_reducible exact Nat.le_refl _ | omega | (simp; done) | (simp; omega))) | (with_reducible refine Sole.alloc ?_ _) | (with_reducible refine Sole.trans ?_ (by with_reducible assumption)) | (with_reducible refine Sole.trans ?_ (Sole.of_below (by with_reducible assumption)))))
    have HR : Rd w7 B (N + 7) := hr7
    rcases h4 with rfl | rfl | rfl | rfl
    · go_wp2
      refine bodyPost_ret (v := rv ⟨0, 0, 0, 0⟩) (by simp [results, Try.results51, go_sem, *]) rfl ?_
      exact ⟨_, rfl, by decide, fun h => absurd hn1 (by omega), by (repeat (first | with_reducible exact Sole.refl _ _ | with_reducible assumption | ((with_reducible refine Sole.setCell_new ?_ ?_ _); rotate_left; focus (first | with_reducible exact Nat.le_refl _ | omega | (simp; done) | (simp; omega))) | (with_reducible refine Sole.alloc ?_ _) | (with_reducible refine Sole.trans ?_ (by with_reducible assumption)) | (with_reducible refine Sole.trans ?_ (Sole.of_below (by with_reducible assumption))))), HR.below (X := B + 1) (by (repeat (first | with_reducible exact Below.refl _ _ | with_reducible assumption | ((with_reducible refine Below.alloc ?_ ?_ _); rotate_left; focus (first | with_reducible exact Nat.le_refl _ | omega | (simp; done) | (simp; omega))) | ((with_reducible refine Below.setCell ?_ ?_ _); rotate_left; focus (first | with_reducible exact Nat.le_refl _ | omega | (simp; done) | (simp; omega))) | (with_reducible refine Below.drew ?_) | ((with_reducible refine Below.trans ?_ (Below.mono (by with_reducible assumption) ?_)); rotate_left; focus (first | with_reducible exact Nat.le_refl _ | omega | (simp; done) | (simp; omega)))))) (by omega)⟩
    · go_wp2
      refine bodyPost_ret (v := rv ⟨0, 0, 21, 1⟩) (by simp [results, Try.results51, go_sem, *]) rfl ?_
      exact ⟨_, rfl, by decide, fun h => absurd hn1 (by omega), by (repeat (first | with_reducible exact Sole.refl _ _ | with_reducible assumption | ((with_reducible refine Sole.setCell_new ?_ ?_ _); rotate_left; focus (first | with_reducible exact Nat.le_refl _ | omega | (simp; done) | (simp; omega))) | (with_reducible refine Sole.alloc ?_ _) | (with_reducible refine Sole.trans ?_ (by with_reducible assumption)) | (with_reducible refine Sole.trans ?_ (Sole.of_below (by with_reducible assumption))))), HR.below (X := B + 1) (by (repeat (first | with_reducible exact Below.refl _ _ | with_reducible assumption | ((with_reducible refine Below.alloc ?_ ?_ _); rotate_left; focus (first | with_reducible exact Nat.le_refl _ | omega | (simp; done) | (simp; omega))) | ((with_reducible refine Below.setCell ?_ ?_ _); rotate_left; focus (first | with_reducible exact Nat.le_refl _ | omega | (simp; done) | (simp; omega))) | (with_reducible refine Below.drew ?_) | ((with_reducible refine Below.trans ?_ (Below.mono (by with_reducible assumption) ?_)); rotate_left; focus (first | with_reducible exact Nat.le_refl _ | omega | (simp; done) | (simp; omega)))))) (by omega)⟩
    · go_wp2
      refine bodyPost_ret (v := rv ⟨3, 0, 3, 2⟩) (by simp [results, Try.results51, go_sem, *]) rfl ?_
      exact ⟨_, rfl, by decide, fun h => absurd hn1 (by omega), by (repeat (first | with_reducible exact Sole.refl _ _ | with_reducible assumption | ((with_reducible refine Sole.setCell_new ?_ ?_ _); rotate_left; focus (first | with_reducible exact Nat.le_refl _ | omega | (simp; done) | (simp; omega))) | (with_reducible refine Sole.alloc ?_ _) | (with_reducible refine Sole.trans ?_ (by with_reducible assumption)) | (with_reducible refine Sole.trans ?_ (Sole.of_below (by with_reducible assumption))))), HR.below (X := B + 1) (by (repeat (first | with_reducible exact Below.refl _ _ | with_reducible assumption | ((with_reducible refine Below.alloc ?_ ?_ _); rotate_left; focus (first | with_reducible exact Nat.le_refl _ | omega | (simp; done) | (simp; omega))) | ((with_reducible refine Below.setCell ?_ ?_ _); rotate_left; focus (first | with_reducible exact Nat.le_refl _ | omega | (simp; done) | (simp; omega))) | (with_reducible refine Below.drew ?_) | ((with_reducible refine Below.trans ?_ (Below.mono (by with_reducible assumption) ?_)); rotate_left; focus (first | with_reducible exact Nat.le_refl _ | omega | (simp; done) | (simp; omega)))))) (by omega)⟩
    · go_wp2
      refine bodyPost_ret (v := rv ⟨-1, 0, 1, 1⟩) (by simp [results, Try.results51, go_sem, *]) rfl ?_
      exact ⟨_, rfl, by decide, fun h => absurd hn1 (by omega), by (repeat (first | with_reducible exact Sole.refl _ _ | with_reducible assumption | ((with_reducible refine Sole.setCell_new ?_ ?_ _); rotate_left; focus (first | with_reducible exact Nat.le_refl _ | omega | (simp; done) | (simp; omega))) | (with_reducible refine Sole.alloc ?_ _) | (with_reducible refine Sole.trans ?_ (by with_reducible assumption)) | (with_reducible refine Sole.trans ?_ (Sole.of_below (by with_reducible assumption))))), HR.below (X := B + 1) (by (repeat (first | with_reducible exact Below.refl _ _ | with_reducible assumption | ((with_reducible refine Below.alloc ?_ ?_ _); rotate_left; focus (first | with_reducible exact Nat.le_refl _ | omega | (simp; done) | (simp; omega))) | ((with_reducible refine Below.setCell ?_ ?_ _); rotate_left; focus (first | with_reducible exact Nat.le_refl _ | omega | (simp; done) | (simp; omega))) | (with_reducible refine Below.drew ?_) | ((with_reducible refine Below.trans ?_ (Below.mono (by with_reducible assumption) ?_)); rotate_left; focus (first | with_reducible exact Nat.le_refl _ | omega | (simp; done) | (simp; omega)))))) (by omega)⟩
end Go.Proofs.Ythbmiibbnbbdgaa
