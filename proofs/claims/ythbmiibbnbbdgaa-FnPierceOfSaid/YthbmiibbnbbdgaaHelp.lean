
/- What the exact laws call on slices: copies, comparisons, marks. -/
import Derived.Test.YthbmiibbnbbdgaaMem
namespace Go.Proofs.Ythbmiibbnbbdgaa
open Go.RowKit Go.Sort
set_option linter.unusedVariables false
/-- the laws' marks -/
def mkR (k : Int) (i : Nat) : Rt := ⟨k + i * 4, k + i * 4 + 1, k + i * 4 + 2, k + i * 4 + 3⟩
def mkI (k : Int) (i : Nat) : Int := k + i
theorem name_world {P : Program} {c : Code} {Q : Exit → Act → World → Prop} {a : Act} {w : World} (h : ∀ w0, w = w0 → c.wp P Q a w0) : c.wp P Q a w := h w rfl
theorem below_of_eq {w w0 : World} (h : w = w0) : Below w.heap.size w w0 := h ▸ Below.refl _ _
theorem bel_drewN {B : Nat} {a w : World} (h : Below B a w) (n : Nat) : Below B a (w.drewN n) := ⟨h.os, h.tape, h.output, h.size, h.block⟩
/-- A slice of rectangles is handed back, in a block of the call's own. -/
def RectsPost (n : Nat) (f : Nat → Rt) (w : World) (e : Ending) (w' : World) : Prop :=
  ∃ A cap g, e = .returned (.slice A n cap) ∧ Ow w' A n f g ∧ w.heap.size ≤ g ∧ Below w.heap.size w w'

set_option maxHeartbeats 400000 in
theorem sz_yes (A : Option Addr) (n cap : Nat) (w : World) (hn : n ≤ 1048576) :
    Calls Try.prog 29 #[.slice A n cap, .int .i64 1048576] w fun e w' => e = .returned (.int .i64 (1048576 - n)) ∧ w = w' := by
  have h0 : ¬ (1048576 - (n : Int) < 0) := by omega
  go_enter Try.func29, Try.ntmps29
  go_wp2
  go_ret
  exact ⟨rfl, rfl⟩
set_option maxHeartbeats 400000 in
theorem sz_no (A : Option Addr) (n cap : Nat) (w : World) (hm : n ≤ maxLen) (hn : 1048576 < n) :
    Calls Try.prog 29 #[.slice A n cap, .int .i64 1048576] w fun e w' => e = .returned (.int .i64 (-1)) ∧ w = w' := by
  unfold maxLen at hm
  have h0 : 1048576 - (n : Int) < 0 := by omega
  go_enter Try.func29, Try.ntmps29
  go_wp2
  go_ret
  exact ⟨rfl, rfl⟩

set_option maxHeartbeats 400000 in
theorem torects_sz (A : Option Addr) (n cap : Nat) (f : Nat → Rt) (w : World) (hn : n ≤ 1048576) (hr : Rs w A n f) :
    Calls Try.prog 30 #[.slice A n cap] w fun e w' => e = .returned (.slice (some ⟨w.heap.size, 0, none⟩) n n) ∧ Ow w' (some ⟨w.heap.size, 0, none⟩) n f w.heap.size ∧ Below w.heap.size w w' ∧ w.heap.size < w'.heap.size := by
  have Hr := Lib.hid hr
  clear hr
  have hmk := make_rects n n (Nat.le_refl _) (by omega)
  go_enter Try.func30, Try.ntmps30
  go_wp2
  go_loopw [4] (fun i wr => ∃ k : Nat, k ≤ n ∧ i = .int .i64 k ∧ Ow wr (some ⟨w.heap.size, 0, none⟩) n (fun i => if i < k then f i else Rt.zero) w.heap.size ∧ Below w.heap.size w wr ∧ w.heap.size < wr.heap.size) (fun i _ => n - (intOf i).toNat)
  case atStart => exact ⟨0, Nat.zero_le _, rfl, (Ow.made w n n (Nat.le_refl _)).congr (fun i _ => by simp), (Below.refl _ _).alloc (Nat.le_refl _) _, by simp⟩
  case round =>
    obtain ⟨k, hk, rfl, hro, hbr, hlt9⟩ := hrel
    have hzr := hbr.size
    have Hro := Lib.hid hro
    clear hro
    by_cases hlt : k < n
    · obtain ⟨b, off, rfl, hl, c0, c1, c2, c3⟩ := (Hr.out.below hbr).at_ hlt
      rcases Hro.out with h0 | ⟨_, hlt0, hc, hz⟩
      · omega
      have d := hc k hlt
      obtain ⟨d0, d1, d2, d3⟩ := d
      have f0 := hz (k * 4) (by omega)
      have f1 := hz (k * 4 + 1) (by omega)
      have f2 := hz (k * 4 + 2) (by omega)
      have f3 := hz (k * 4 + 3) (by omega)
      clear hc hz
      go_wp2_with fail
      refine (torect_any (f k) _).mono ?_; rintro e w1 ⟨rfl, hb1⟩; have hz1 := hb1.size; (try simp at hz1); have _ : w.heap.size < w1.heap.size := (by first | (simp; done) | omega | (simp; omega)); have _ := fun o => hb1.cell (p := ⟨w.heap.size, o, none⟩) (by first | (simp; done) | omega | (simp; omega)); have _ := fun o => hb1.frozen (p := ⟨w.heap.size, o, none⟩) (by first | (simp; done) | omega | (simp; omega))
      go_wp2
      go_roundw
      case rel =>
        refine ⟨k + 1, by omega, by go_num, ?_, Below.set4 (hbr.trans (hb1.mono hzr)) (Nat.le_refl _) (f k), ?_⟩
        rotate_left
        · have := set4_size w1 w.heap.size (k * 4) (f k); unfold set4 at this; omega
        have := (Hro.out.below hb1).set (k := k) (f' := fun i => if i < k + 1 then f i else Rt.zero) hlt (fun i _ hne => by
          by_cases h : i < k
          · rw [if_pos h, if_pos (by omega)]
          · rw [if_neg h, if_neg (by omega)])
        rw [if_pos (by omega)] at this
        exact this
      case measure => simp [intOf]; omega
    · have hkn : k = n := by omega
      subst hkn
      go_wp2
      go_ret
      exact ⟨rfl, Hro.out.congr (fun i hi => by rw [if_pos hi]), hbr, hlt9⟩
theorem torects_any (A : Option Addr) (n cap : Nat) (f : Nat → Rt) (w : World) (hn : n ≤ 1048576) (hr : Rs w A n f) :
    Calls Try.prog 30 #[.slice A n cap] w fun e w' => e = .returned (.slice (some ⟨w.heap.size, 0, none⟩) n n) ∧ Ow w' (some ⟨w.heap.size, 0, none⟩) n f w.heap.size ∧ Below w.heap.size w w' :=
  (torects_sz A n cap f w hn hr).mono fun _ _ h => ⟨h.1, h.2.1, h.2.2.1⟩

set_option maxHeartbeats 400000 in
theorem eqrects_same (A B : Option Addr) (n c d : Nat) (f : Nat → Rt) (w : World) (hm : n ≤ maxLen) (hA : Rs w A n f) (hB : Rs w B n f) :
    Calls Try.prog 31 #[.slice A n c, .slice B n d] w fun e w' => e = .returned (.bool true) ∧ Below w.heap.size w w' := by
  have HA := Lib.hid hA
  have HB := Lib.hid hB
  clear hA hB
  unfold maxLen at hm
  go_enter Try.func31, Try.ntmps31
  go_wp2
  go_loopw [5] (fun i wr => ∃ k : Nat, k ≤ n ∧ i = .int .i64 k ∧ Below w.heap.size w wr) (fun i _ => n - (intOf i).toNat)
  case atStart => exact ⟨0, Nat.zero_le _, rfl, Below.refl _ _⟩
  case round =>
    obtain ⟨k, hk, rfl, hbr⟩ := hrel
    have hzr := hbr.size
    by_cases hlt : k < n
    · obtain ⟨b, off, rfl, hl, c0, c1, c2, c3⟩ := (HA.out.below hbr).at_ hlt
      obtain ⟨b2, off2, rfl, hl2, d0, d1, d2, d3⟩ := (HB.out.below hbr).at_ hlt
      go_wp2_with fail
      have hq : True := trivial; have hq := fun d os o => (below_regrown wr d os).cell (p := ⟨b, o, none⟩) (by first | (simp; done) | omega | (simp; omega)); have hq := fun d os o => (below_regrown wr d os).cell (p := ⟨b2, o, none⟩) (by first | (simp; done) | omega | (simp; omega)); refine wp_region_quiet_below (by kernel_rfl) (by kernel_rfl) ?_; (repeat (first | go_big_quiet_step (exact Calls.regrown_of (eqrect_same (f k) _)) | quiet_step (exact Calls.regrown_of (eqrect_same (f k) _)))); refine wpQuiet_nil ?_; intro _ hw'; obtain ⟨⟨dq, osq⟩, hw''⟩ := hw'; subst hw''; clear hq; have hb1 := below_regrown wr dq osq; generalize Sort.grow (redrawn wr dq) osq = w1 at hb1 ⊢; have hz1 := hb1.size; (try simp at hz1); have _ : b < w1.heap.size := (by first | (simp; done) | omega | (simp; omega)); have _ : b2 < w1.heap.size := (by first | (simp; done) | omega | (simp; omega)); have _ := fun o => hb1.cell (p := ⟨b, o, none⟩) (by first | (simp; done) | omega | (simp; omega)); have _ := fun o => hb1.cell (p := ⟨b2, o, none⟩) (by first | (simp; done) | omega | (simp; omega))
      go_wp2
      go_roundw
      case rel => exact ⟨k + 1, by omega, by go_num, by (repeat (first | with_reducible exact Below.refl _ _ | with_reducible assumption | ((with_reducible refine Below.alloc ?_ ?_ _); rotate_left; focus (first | with_reducible exact Nat.le_refl _ | omega | (simp; done) | (simp; omega))) | ((with_reducible refine Below.setCell ?_ ?_ _); rotate_left; focus (first | with_reducible exact Nat.le_refl _ | omega | (simp; done) | (simp; omega))) | (with_reducible refine Below.drew ?_) | ((with_reducible refine Below.trans ?_ (Below.mono (by with_reducible assumption) ?_)); rotate_left; focus (first | with_reducible exact Nat.le_refl _ | omega | (simp; done) | (simp; omega)))))⟩
      case measure => simp [intOf]; omega
    · go_wp2
      go_ret
      exact ⟨rfl, hbr⟩

theorem int4 (a : Int) (k : Nat) : a + (k : Int) * 4 + 1 + 1 + 1 + 1 = a + ((k + 1 : Nat) : Int) * 4 := by omega
theorem Ow.marked {w : World} {A : Option Addr} {n g k : Nat} {f : Nat → Rt} (h : Ow w A n (fun i => if i < k then mkR 1 i else f i) g) (hk : k < n) :
    Ow (set4 w g (k * 4) (mkR 1 k)) A n (fun i => if i < k + 1 then mkR 1 i else f i) g := by
  have := h.set (k := k) (f' := fun i => if i < k + 1 then mkR 1 i else f i) hk (fun i _ hne => by
    by_cases h : i < k
    · rw [if_pos h, if_pos (by omega)]
    · rw [if_neg h, if_neg (by omega)])
  rw [if_pos (by omega)] at this
  exact this
theorem int1 (a : Int) (k : Nat) : a + (k : Int) + 1 = a + ((k + 1 : Nat) : Int) := by omega
theorem Iw.marked {w : World} {A : Option Addr} {n g k : Nat} {f : Nat → Int} (h : Iw w A n (fun i => if i < k then mkI 1 i else f i) g) (hk : k < n) :
    Iw (w.setCell ⟨g, k, none⟩ (.int .i64 (1 + k))) A n (fun i => if i < k + 1 then mkI 1 i else f i) g := by
  have := h.set (k := k) (f' := fun i => if i < k + 1 then mkI 1 i else f i) hk (fun i _ hne => by
    by_cases h : i < k
    · rw [if_pos h, if_pos (by omega)]
    · rw [if_neg h, if_neg (by omega)])
  rw [if_pos (by omega)] at this
  exact this
end Go.Proofs.Ythbmiibbnbbdgaa
