/- Chapters 5 and 6 of impl: how many there are at most of which none, or each two, meet. -/
import Derived.Test.YtkfeeijiockdhaaMt
import Derived.Test.YtkfeeijiockdhaaMathW
import Derived.Test.YtkfeeijiockdhaaSum2
namespace Go.Proofs.Ytkfeeijiockdhaa
open Go.RowKit Go.Shelf Go.BigFrame
set_option linter.unusedVariables false
attribute [local go_sem] Oper.semAt_some
/-- the best of the choices so far that K allows -/
def bestC (K : Nat → Bool) (n : Nat) {Q : Nat} (pre : List (Ch Q)) : Nat := pre.foldl (fun b x => if K x.1 then max b (popTo x.1 n) else b) 0
def bestKx (K : Nat → Bool) (n : Nat) : Nat → Nat
  | 0 => 0
  | s + 1 => if K s then max (bestKx K n s) (popTo s n) else bestKx K n s
theorem bestC_snoc (K : Nat → Bool) (n : Nat) {Q : Nat} (pre : List (Ch Q)) (x : Ch Q) : bestC K n (pre ++ [x]) = if K x.1 then max (bestC K n pre) (popTo x.1 n) else bestC K n pre := by unfold bestC; rw [List.foldl_append]; rfl
theorem popTo_none (n : Nat) : popTo 0 n = 0 := by
  induction n with
  | zero => rfl
  | succ n ih => simp only [popTo]; rw [ih]; simp
theorem bestC_ch (K : Nat → Bool) (n Q : Nat) : ∀ k, k ≤ Q → bestC K n (chTo Q k) = bestKx K n (k + 1) := by
  intro k
  induction k with
  | zero => intro _; simp only [bestKx]; rw [popTo_none]; simp; rfl
  | succ k ih => intro h; rw [chTo_succ h, bestC_snoc, ih (by omega)]; rfl
theorem bestC_bd (K : Nat → Bool) (n : Nat) {Q : Nat} (pre : List (Ch Q)) : bestC K n pre ≤ n := by
  have H : ∀ (xs : List (Ch Q)) (b : Nat), b ≤ n → xs.foldl (fun b x => if K x.1 then max b (popTo x.1 n) else b) b ≤ n := by
    intro xs
    induction xs with
    | nil => intro b hb; exact hb
    | cons x xs ih => intro b hb; rw [List.foldl_cons]; refine ih _ ?_; have := popTo_le x.1 n; split <;> omega
  exact H pre 0 (Nat.zero_le _)
theorem bestKx_A (f : Nat → Rt) (n : Nat) : ∀ s, bestKx (fun s => aall f s n) n s = bestA f n s
  | 0 => rfl
  | s + 1 => by simp only [bestKx, bestA]; rw [bestKx_A f n s]
theorem bestKx_M (f : Nat → Rt) (n : Nat) : ∀ s, bestKx (fun s => msTo f n s n) n s = bestM f n s
  | 0 => rfl
  | s + 1 => by simp only [bestKx, bestM]; rw [bestKx_M f n s]
def InA (K : Nat → Bool) (n Q mb : Nat) (W0 : World) (pre : List (Ch Q)) (W : World) : Prop := Iw W (some ⟨mb, 0, none⟩) 1 (fun _ => (bestC K n pre : Nat)) mb ∧ W0.grownBy W (some mb)
theorem InA.own (K : Nat → Bool) (n Q mb : Nat) (W0 : World) (hg : mb < W0.heap.size) : OwnFrom W0.heap.size (InA K n Q mb W0) := by
  intro s W W' row hs hgr hr
  cases row with
  | none => exact ⟨hs.1.grown (grown_weak hgr (mb + 1)) (by omega), grown_join hs.2 (grown_weak hgr W0.heap.size) (Nat.le_refl _)⟩
  | some r =>
    have hB := (hr r rfl).1
    exact ⟨hs.1.grown hgr (by omega), grown_join hs.2 hgr hB⟩
theorem bodyA_end {K : Nat → Bool} {n Q mb cb : Nat} {W0 W W' : World} {pre : List (Ch Q)} {x : Ch Q} (hg : W0.grownBy W (some mb)) (hgl : mb < W0.heap.size) (hcb : cb < W0.heap.size) (hne : cb ≠ mb) (hG : W.grownBy W' (some mb))
    (hI : Iw W' (some ⟨mb, 0, none⟩) 1 (fun _ => (bestC K n (pre ++ [x]) : Nat)) mb) : KeepsFrom W0.heap.size W W' ∧ KpC cb W W' ∧ InA K n Q mb W0 (pre ++ [x]) W' :=
  ⟨KeepsFrom.of_grownBy hG (fun j e => by injection e with e; omega), grown_cell hG (Nat.lt_of_lt_of_le hcb hg.size) hne, hI, grown_chain hg hG⟩
theorem apart_val (s : Nat) (A : Option Addr) (n cap g : Nat) (f : Nat → Rt) (v : Bool) (h : apU f n s n = v) (w : World) (h7 : n ≤ 7) (hs : s < 128) (hu : Us w A n (metN f n) g) :
    Calls Try.prog 55 #[.int .u64 s, .slice A n cap] w fun e w' => e = .returned (.bool v) ∧ Below w.heap.size w w' := h ▸ apart_any s A n cap g f w h7 hs hu

/-- each of a set meets all of them, as the sets of those that are met have it -/
def toU (f : Nat → Rt) (n s : Nat) : Nat → Bool
  | 0 => true
  | k + 1 => toU f n s k && (!s.testBit k || decide (difN s (metN f n k) = 0))
theorem toU_no {f : Nat → Rt} {n s k : Nat} (h : s.testBit k = true) (h1 : difN s (metN f n k) ≠ 0) : ∀ m, k < m → toU f n s m = false := by
  intro m hm
  induction m with
  | zero => omega
  | succ m ih =>
    simp only [toU]
    by_cases e : k = m
    · subst e; rw [h, decide_eq_false h1]; simp
    · rw [ih (by omega)]; rfl
theorem toU_iff (f : Nat → Rt) (n s m : Nat) : toU f n s m = true ↔ ∀ k, k < m → s.testBit k = true → difN s (metN f n k) = 0 := by
  induction m with
  | zero => exact ⟨fun _ k hk => by omega, fun _ => rfl⟩
  | succ m ih =>
    simp only [toU, Bool.and_eq_true, Bool.or_eq_true, Bool.not_eq_true', decide_eq_true_eq]; rw [ih]
    refine ⟨fun ⟨h1, h2⟩ k hk hb => ?_, fun h => ⟨fun k hk => h k (by omega), ?_⟩⟩
    · by_cases e : k = m
      · subst e
        rcases h2 with h2 | h2
        · rw [hb] at h2; cases h2
        · exact h2
      · exact h1 k (by omega) hb
    · cases hb : s.testBit m
      · exact Or.inl rfl
      · exact Or.inr (h m (by omega) hb)
theorem toU_all {f : Nat → Rt} {n s : Nat} (hok : okTo f n = true) (hs : s < 2 ^ n) : toU f n s n = msTo f n s n := by
  rw [Bool.eq_iff_iff, toU_iff, ms_cl hs]
  have far : ∀ i, n ≤ i → s.testBit i = false := fun i hi => Nat.testBit_lt_two_pow (Nat.lt_of_lt_of_le hs (Nat.pow_le_pow_right (by omega) hi))
  constructor
  · intro h i j hij hj hi hj'
    have e := h i (by omega) hi
    have h1 : (difN s (metN f n i)).testBit j = (0 : Nat).testBit j := by rw [e]
    rw [difN_bit, Nat.zero_testBit, show s.testBit j = true from hj'] at h1
    unfold metN at h1
    rw [maskI_bit _ n j hj] at h1
    simpa using h1
  · intro h k hk hb
    refine Nat.eq_of_testBit_eq fun i => ?_
    rw [difN_bit, Nat.zero_testBit]
    by_cases hi : i < n
    · unfold metN
      rw [maskI_bit _ n i hi]
      cases hbi : s.testBit i
      · rfl
      · rcases Nat.lt_trichotomy i k with e | e | e
        · rw [meet_comm, h i k e hk hbi hb]; rfl
        · subst e; rw [meet_self (okTo_le hok hk)]; rfl
        · rw [h k i e hi hb hbi]; rfl
    · rw [far i (by omega)]; rfl
set_option maxHeartbeats 2000000 in
set_option maxRecDepth 20000 in
theorem tog_any (s : Nat) (A : Option Addr) (n cap g : Nat) (f : Nat → Rt) (w : World) (h7 : n ≤ 7) (hs : s < 128) (hu : Us w A n (metN f n) g) :
    Calls Try.prog 62 #[.int .u64 s, .slice A n cap] w fun e w' => e = .returned (.bool (toU f n s n)) ∧ Below w.heap.size w w' := by
  have HU := Lib.hid hu
  clear hu
  go_enter Try.func62, Try.ntmps62
  go_wp2
  go_loopw [8] (fun t wr => ∃ i : Nat, i ≤ n ∧ t = .int .i64 i ∧ toU f n s i = true ∧ Below w.heap.size w wr) (fun t _ => n - (intOf t).toNat)
  case atStart => exact ⟨0, Nat.zero_le _, rfl, rfl, Below.refl _ _⟩
  case round =>
    obtain ⟨i, hi, rfl, hap, hbr⟩ := hrel
    have HA := Lib.hid hap
    have hzr := hbr.size
    clear hap
    by_cases hlt : i < n
    · obtain ⟨rfl, hgl, e0, _⟩ := (HU.out.below hbr).at_ hlt
      have hmb : metN f n i < 128 := Nat.lt_of_lt_of_le (metN_lt f n i) (pow_le7 n h7)
      have hst : Hid (toU f n s (i + 1) = (toU f n s i && (!s.testBit i || decide (difN s (metN f n i) = 0)))) := Lib.hid rfl
      cases hb : s.testBit i
      · go_wp2_with fail
        refine (has_bel s i false (by assumption) _ hs (by omega)).mono ?_; rintro e w1 ⟨rfl, hb1⟩; have hz1 := hb1.size; (try simp at hz1); have _ : g < w1.heap.size := (by first | (simp; done) | omega | (simp; omega)); have _ := fun o => hb1.cell (p := ⟨g, o, none⟩) (by first | (simp; done) | omega | (simp; omega))
        go_wp2
        go_roundw
        case rel => exact ⟨i + 1, by omega, by go_num, by rw [hst.out, HA.out, hb]; rfl, by (repeat (first | with_reducible exact Below.refl _ _ | with_reducible assumption | ((with_reducible refine Below.alloc ?_ ?_ _); rotate_left; focus (first | with_reducible exact Nat.le_refl _ | omega | (simp; done) | (simp; omega))) | ((with_reducible refine Below.setCell ?_ ?_ _); rotate_left; focus (first | with_reducible exact Nat.le_refl _ | omega | (simp; done) | (simp; omega))) | (with_reducible refine Below.drew ?_) | ((with_reducible refine Below.trans ?_ (Below.mono (by with_reducible assumption) ?_)); rotate_left; focus (first | with_reducible exact Nat.le_refl _ | omega | (simp; done) | (simp; omega)))))⟩
        case measure => simp [intOf]; omega
      · have hand := dif_u s (metN f n i) hs hmb
        by_cases he : difN s (metN f n i) = 0
        · have He := Lib.hid he
          rw [he] at hand
          generalize hMM : metN f n i = M at e0 hmb hand
          clear hMM he
          go_wp2_with fail
          refine (has_bel s i true (by assumption) _ hs (by omega)).mono ?_; rintro e w1 ⟨rfl, hb1⟩; have hz1 := hb1.size; (try simp at hz1); have _ : g < w1.heap.size := (by first | (simp; done) | omega | (simp; omega)); have _ := fun o => hb1.cell (p := ⟨g, o, none⟩) (by first | (simp; done) | omega | (simp; omega))
          go_wp2
          go_roundw
          case rel => exact ⟨i + 1, by omega, by go_num, by rw [hst.out, HA.out, hb, decide_eq_true He.out]; rfl, by (repeat (first | with_reducible exact Below.refl _ _ | with_reducible assumption | ((with_reducible refine Below.alloc ?_ ?_ _); rotate_left; focus (first | with_reducible exact Nat.le_refl _ | omega | (simp; done) | (simp; omega))) | ((with_reducible refine Below.setCell ?_ ?_ _); rotate_left; focus (first | with_reducible exact Nat.le_refl _ | omega | (simp; done) | (simp; omega))) | (with_reducible refine Below.drew ?_) | ((with_reducible refine Below.trans ?_ (Below.mono (by with_reducible assumption) ?_)); rotate_left; focus (first | with_reducible exact Nat.le_refl _ | omega | (simp; done) | (simp; omega)))))⟩
          case measure => simp [intOf]; omega
        · have H := Lib.hid (toU_no hb he n hlt)
          generalize hXX : difN s (metN f n i) = X at hand he
          generalize hMM : metN f n i = M at e0 hmb hand
          clear hMM hXX
          have hne : ((X : Int) == 0) = false := by simp; omega
          go_wp2_with fail
          refine (has_bel s i true (by assumption) _ hs (by omega)).mono ?_; rintro e w1 ⟨rfl, hb1⟩; have hz1 := hb1.size; (try simp at hz1); have _ : g < w1.heap.size := (by first | (simp; done) | omega | (simp; omega)); have _ := fun o => hb1.cell (p := ⟨g, o, none⟩) (by first | (simp; done) | omega | (simp; omega))
          go_wp2
          go_ret
          exact ⟨ret_bool (by rw [H.out]), by (repeat (first | with_reducible exact Below.refl _ _ | with_reducible assumption | ((with_reducible refine Below.alloc ?_ ?_ _); rotate_left; focus (first | with_reducible exact Nat.le_refl _ | omega | (simp; done) | (simp; omega))) | ((with_reducible refine Below.setCell ?_ ?_ _); rotate_left; focus (first | with_reducible exact Nat.le_refl _ | omega | (simp; done) | (simp; omega))) | (with_reducible refine Below.drew ?_) | ((with_reducible refine Below.trans ?_ (Below.mono (by with_reducible assumption) ?_)); rotate_left; focus (first | with_reducible exact Nat.le_refl _ | omega | (simp; done) | (simp; omega)))))⟩
    · obtain rfl : i = n := by omega
      go_wp2
      go_ret
      exact ⟨ret_bool (by rw [HA.out]), hbr⟩
theorem tog_val (s : Nat) (A : Option Addr) (n cap g : Nat) (f : Nat → Rt) (v : Bool) (h : toU f n s n = v) (w : World) (h7 : n ≤ 7) (hs : s < 128) (hu : Us w A n (metN f n) g) :
    Calls Try.prog 62 #[.int .u64 s, .slice A n cap] w fun e w' => e = .returned (.bool v) ∧ Below w.heap.size w w' := h ▸ tog_any s A n cap g f w h7 hs hu

set_option maxRecDepth 100000 in
set_option maxHeartbeats 4000000 in
theorem mca_any (A : Option Addr) (n cap : Nat) (f : Nat → Rt) (w : World) (h7 : n ≤ 7) (hok : okTo f n = true) (hr : Rs w A n f) :
    Calls Try.prog 54 #[.slice A n cap, .func (.func 55) #[] #[]] w fun e w' => e = .returned (.int .i64 (bestKx (fun s => aall f s n) n (2 ^ n) : Nat)) ∧ Below w.heap.size w w' := by
  have Hr := Lib.hid hr
  clear hr
  have Hok := Lib.hid hok
  clear hok
  have hP1 := pow_le7 n h7
  have hP2 : 0 < 2 ^ n := Nat.two_pow_pos n
  obtain ⟨Q, HQ⟩ : ∃ Q, Hid (2 ^ n - 1 = Q) := ⟨_, Lib.hid rfl⟩
  have hQ1 : Q ≤ 127 := by have := HQ.out; omega
  have HP : Hid (2 ^ n = Q + 1) := Lib.hid (by have := HQ.out; omega)
  clear hP1 hP2
  have hbA : Below w.heap.size w (w.alloc (.cells #[.func (.func 55) #[] #[]] 60)) := (Below.refl _ _).alloc (Nat.le_refl _) _
  refine (callsIn_wide (n := 3)).1 ?_
  refine callsIn_of_wp_marks Try.func54 rfl trivial ?_ rfl
  simp only [Try.ntmps54, List.size_toArray, List.length_cons, List.length_nil, Nat.reduceAdd, Nat.reduceSub, Array.replicate_succ, Array.replicate_zero, List.push_toArray, List.append_toArray, List.nil_append, List.cons_append]
  gi_wp2_with (first | (refine ⟨trivial, ?_⟩; gi_at_call 57; refine (callsIn_wide.2 (met_any A n cap f _ h7 (Hr.out.below hbA))).mono ?_; rintro e w2 ⟨g, rfl, hg, hus, hb2, hgl⟩; have hz2 := hb2.size) | (refine ⟨trivial, ?_⟩; gi_at_call 78; refine (callsIn_wide.2 (subsetsof_any n _)).mono ?_; rintro e w' ⟨rfl, rfl⟩))
  have hz2' : w.heap.size + 1 ≤ w2.heap.size := by simpa using hz2
  have HU0 := Lib.hid hus
  clear hus
  have hI0 : Iw (((w2.alloc (.cells #[.slice (some ⟨g, 0, none⟩) n n] 51)).alloc (.cells #[.int .i64 0] 3)).alloc (.cells #[.int .i64 (n : Nat)] 3)) (some ⟨w2.heap.size + 1, 0, none⟩) 1 (fun _ => (bestC (fun s => aall f s n) n (Q := Q) [] : Nat)) (w2.heap.size + 1) := by
    refine Or.inr ⟨rfl, by simp, fun i hi => ?_, fun i hi => ?_⟩
    · obtain rfl : i = 0 := by omega
      go_simp; rfl
    · obtain rfl : i = 0 := by omega
      go_simp
  have HI0 := Lib.hid hI0
  clear hI0
  have HGL : Hid (w2.heap.size + 1 < (((w2.alloc (.cells #[.slice (some ⟨g, 0, none⟩) n n] 51)).alloc (.cells #[.int .i64 0] 3)).alloc (.cells #[.int .i64 (n : Nat)] 3)).heap.size) := Lib.hid (by simp)
  have HCL : Hid (w2.heap.size + 1 + 1 < (((w2.alloc (.cells #[.slice (some ⟨g, 0, none⟩) n n] 51)).alloc (.cells #[.int .i64 0] 3)).alloc (.cells #[.int .i64 (n : Nat)] 3)).heap.size) := Lib.hid (by simp)
  have HC0 : Hid ((((w2.alloc (.cells #[.slice (some ⟨g, 0, none⟩) n n] 51)).alloc (.cells #[.int .i64 0] 3)).alloc (.cells #[.int .i64 (n : Nat)] 3)).cell? ⟨w2.heap.size + 1 + 1, 0, none⟩ = some (.int .i64 (n : Nat))) := Lib.hid (by go_simp)
  have HT3 : Hid ((((w2.alloc (.cells #[.slice (some ⟨g, 0, none⟩) n n] 51)).alloc (.cells #[.int .i64 0] 3)).alloc (.cells #[.int .i64 (n : Nat)] 3)).cell? ⟨w2.heap.size, 0, none⟩ = some (.slice (some ⟨g, 0, none⟩) n n)) := Lib.hid (by go_simp)
  have hb20 : Below w2.heap.size w2 (((w2.alloc (.cells #[.slice (some ⟨g, 0, none⟩) n n] 51)).alloc (.cells #[.int .i64 0] 3)).alloc (.cells #[.int .i64 (n : Nat)] 3)) := by (repeat (first | with_reducible exact Below.refl _ _ | with_reducible assumption | ((with_reducible refine Below.alloc ?_ ?_ _); rotate_left; focus (first | with_reducible exact Nat.le_refl _ | omega | (simp; done) | (simp; omega))) | ((with_reducible refine Below.setCell ?_ ?_ _); rotate_left; focus (first | with_reducible exact Nat.le_refl _ | omega | (simp; done) | (simp; omega))) | (with_reducible refine Below.drew ?_) | ((with_reducible refine Below.trans ?_ (Below.mono (by with_reducible assumption) ?_)); rotate_left; focus (first | with_reducible exact Nat.le_refl _ | omega | (simp; done) | (simp; omega)))))
  have HT2 : Hid ((((w2.alloc (.cells #[.slice (some ⟨g, 0, none⟩) n n] 51)).alloc (.cells #[.int .i64 0] 3)).alloc (.cells #[.int .i64 (n : Nat)] 3)).cell? ⟨w.heap.size, 0, none⟩ = some (.func (.func 55) #[] #[])) := Lib.hid (((hb20.cell (p := ⟨w.heap.size, 0, none⟩) (by simp; omega)).trans (hb2.cell (p := ⟨w.heap.size, 0, none⟩) (by simp))).trans (new_cell _ _ _ rfl))
  have HUW := Lib.hid (HU0.out.below hb20)
  have HB2 : Hid (Below w.heap.size w w2) := Lib.hid (hbA.trans (hb2.mono (by simp)))
  have hzz : w.heap.size ≤ w2.heap.size := HB2.out.size
  clear hb20 hbA hb2
  refine wpIn_rangeFunc_ownG rfl (by omega) (gf := 90) (lb := #[.pointer (some ⟨w2.heap.size + 1 + 1, 0, none⟩)]) rfl trivial (enters_of Try.func90 (by kernel_rfl) rfl)
    (encs := fun x : Ch Q => #[Value.int .u64 (x.1 : Nat)]) (Kp := KpC (w2.heap.size + 1 + 1)) (S := fun ys => ys = chTo Q Q) (Sp := fun _ => True) (N := Q) (w0 := (((w2.alloc (.cells #[.slice (some ⟨g, 0, none⟩) n n] 51)).alloc (.cells #[.int .i64 0] 3)).alloc (.cells #[.int .i64 (n : Nat)] 3)))
    (fun l J Jx W hW _ _ hY h0 => yields_in (3 - 1) (by omega) l (w2.heap.size + 1 + 1) n Q h7 HQ.out hQ1 J Jx hY W ((hW.cell (p := ⟨w2.heap.size + 1 + 1, 0, none⟩) HCL.out).trans HC0.out) h0)
    (fun h k => Eq.trans k h) (fun W l o o' hl h1 h2 h3 => KpC.put HCL.out W l o o' hl h1 h2 h3) (Below.refl _ _) (fun _ => rfl)
    (InA (fun s => aall f s n) n Q (w2.heap.size + 1) (((w2.alloc (.cells #[.slice (some ⟨g, 0, none⟩) n n] 51)).alloc (.cells #[.int .i64 0] 3)).alloc (.cells #[.int .i64 (n : Nat)] 3))) (fun _ _ _ => False) (InA.own (fun s => aall f s n) n Q (w2.heap.size + 1) (((w2.alloc (.cells #[.slice (some ⟨g, 0, none⟩) n n] 51)).alloc (.cells #[.int .i64 0] 3)).alloc (.cells #[.int .i64 (n : Nat)] 3)) HGL.out) (fun _ _ _ _ _ hs _ _ => hs)
    ⟨HI0.out, World.grownBy.refl _ _⟩ (fun x : Ch Q => { tmps := #[.slice A n cap, .func (.func 55) #[] #[], undef, .pointer (some ⟨w.heap.size, 0, none⟩), .int .i64 0, .pointer (some ⟨w2.heap.size, 0, none⟩), .pointer (some ⟨w2.heap.size + 1, 0, none⟩), .int .u64 (x.1 : Nat), .slice A n cap, .slice (some ⟨g, 0, none⟩) n n, .slice A n cap, .int .i64 (n : Nat), .func (.func 90) #[] #[.pointer (some ⟨w2.heap.size + 1 + 1, 0, none⟩)], .int .u64 (x.1 : Nat), undef, undef, undef, undef, undef, undef, undef, undef, undef], defers := [] }) ?assign ?body ?done ?stop
  case assign =>
    intro l x W K hK
    gi_wp2
    exact hK
  case body =>
    rintro l pre x W ⟨hIw, hgr⟩ hlen
    obtain ⟨s, hs1, hs2⟩ := x
    have hs3 : s < 128 := by omega
    have hsP : s < 2 ^ n := by rw [HP.out]; omega
    have hzW : w2.heap.size + 1 + 1 + 1 ≤ W.heap.size := by have h := hgr.size; simp at h; omega
    have hT3 := (grown_cell (b := w2.heap.size) (o := 0) hgr (by simp; omega) (by omega)).trans HT3.out
    have hT2 := (grown_cell (b := w.heap.size) (o := 0) hgr (by simp; omega) (by omega)).trans HT2.out
    have HUX := Lib.hid (HUW.out.grown hgr (by omega))
    have hsn := bestC_snoc (fun s => aall f s n) n pre ⟨s, hs1, hs2⟩
    dsimp only at hsn
    have HSN := Lib.hid hsn
    have hbd := bestC_bd (fun s => aall f s n) n pre
    have HIw := Lib.hid hIw
    have HGr := Lib.hid hgr
    clear hIw hgr hsn
    dsimp only
    have hap := apU_all Hok.out hsP
    cases ha : aall f s n
    · rw [ha] at hap
      gi_wp2_with (refine ⟨trivial, ?_⟩; gi_at_call 55; refine (CallsIn.inRound l (callsIn_wide.2 (apart_val s _ n n g f false hap _ h7 hs3 HUX.out))).mono ?_; rintro e w3 ⟨rfl, hb3⟩; have hz3 := hb3.size)
      refine bodyA_end HGr.out HGL.out HCL.out (by omega) (grown_below (World.grownBy.refl W _) hb3) ?_
      have h := HIw.out.below hb3
      rw [HSN.out, ha]
      exact h
    · rw [ha] at hap
      obtain ⟨L, hL⟩ : ∃ L, popTo s n = L := ⟨_, rfl⟩
      have hL7 : popTo s 7 = L := by
        have h := popTo_small s n hsP (7 - n)
        rw [show n + (7 - n) = 7 by omega] at h
        rw [h, hL]
      have hLn : L ≤ n := by rw [← hL]; exact popTo_le s n
      obtain ⟨B, hB⟩ : ∃ B, bestC (fun s => aall f s n) n pre = B := ⟨_, rfl⟩
      rw [hB] at hbd
      have HL := Lib.hid hL
      have HB := Lib.hid hB
      clear hL hB
      gi_wp2_with (refine ⟨trivial, ?_⟩; gi_at_call 55; refine (CallsIn.inRound l (callsIn_wide.2 (apart_val s _ n n g f true hap _ h7 hs3 HUX.out))).mono ?_; rintro e w3 ⟨rfl, hb3⟩; have hz3 := hb3.size)
      have hI3 := HIw.out.below hb3
      have HI3 := Lib.hid hI3
      rcases hI3 with h0 | ⟨_, hg1, hcc, hff⟩
      · omega
      have d0 := hcc 0 (by omega)
      have e0 := hff 0 (by omega)
      rw [HB.out] at d0
      clear hcc hff
      have hleaf : ∀ wD : World, Below w3.heap.size w3 wD → (KeepsFrom (((w2.alloc (.cells #[.slice (some ⟨g, 0, none⟩) n n] 51)).alloc (.cells #[.int .i64 0] 3)).alloc (.cells #[.int .i64 (n : Nat)] 3)).heap.size W (wD.setCell ⟨w2.heap.size + 1, 0, none⟩ (.int .i64 (max (B : Int) (L : Int)))) ∧ KpC (w2.heap.size + 1 + 1) W (wD.setCell ⟨w2.heap.size + 1, 0, none⟩ (.int .i64 (max (B : Int) (L : Int)))) ∧ InA (fun s => aall f s n) n Q (w2.heap.size + 1) (((w2.alloc (.cells #[.slice (some ⟨g, 0, none⟩) n n] 51)).alloc (.cells #[.int .i64 0] 3)).alloc (.cells #[.int .i64 (n : Nat)] 3)) (pre ++ [⟨s, hs1, hs2⟩]) (wD.setCell ⟨w2.heap.size + 1, 0, none⟩ (.int .i64 (max (B : Int) (L : Int))))) ∧ (KeepsFrom (((w2.alloc (.cells #[.slice (some ⟨g, 0, none⟩) n n] 51)).alloc (.cells #[.int .i64 0] 3)).alloc (.cells #[.int .i64 (n : Nat)] 3)).heap.size W (wD.setCell ⟨w2.heap.size + 1, 0, none⟩ (.int .i64 (max (B : Int) (L : Int)))).drew ∧ KpC (w2.heap.size + 1 + 1) W (wD.setCell ⟨w2.heap.size + 1, 0, none⟩ (.int .i64 (max (B : Int) (L : Int)))).drew ∧ InA (fun s => aall f s n) n Q (w2.heap.size + 1) (((w2.alloc (.cells #[.slice (some ⟨g, 0, none⟩) n n] 51)).alloc (.cells #[.int .i64 0] 3)).alloc (.cells #[.int .i64 (n : Nat)] 3)) (pre ++ [⟨s, hs1, hs2⟩]) (wD.setCell ⟨w2.heap.size + 1, 0, none⟩ (.int .i64 (max (B : Int) (L : Int)))).drew) := by
        intro wD hbE
        have hset := (HI3.out.below hbE).set (k := 0) (f' := fun _ => (bestC (fun s => aall f s n) n (pre ++ [(⟨s, hs1, hs2⟩ : Ch Q)]) : Nat)) (by omega) (fun i _ hne => by omega)
        rw [HSN.out, ha, if_pos rfl, HB.out, HL.out, show ((max B L : Nat) : Int) = max (B : Int) (L : Int) by omega] at hset
        have hset2 : Iw (wD.setCell ⟨w2.heap.size + 1, 0, none⟩ (.int .i64 (max (B : Int) (L : Int)))) (some ⟨w2.heap.size + 1, 0, none⟩) 1 (fun _ => (bestC (fun s => aall f s n) n (pre ++ [(⟨s, hs1, hs2⟩ : Ch Q)]) : Nat)) (w2.heap.size + 1) := by
          rw [HSN.out, ha, if_pos rfl, HB.out, HL.out, show ((max B L : Nat) : Int) = max (B : Int) (L : Int) by omega]
          exact hset
        have hg9 := grown_setCell (o := 0) (grown_below (World.grownBy.refl W (some (w2.heap.size + 1))) (hb3.trans (hbE.mono hz3))) (.int .i64 (max (B : Int) (L : Int)))
        exact ⟨bodyA_end HGr.out HGL.out HCL.out (by omega) hg9 hset2, bodyA_end HGr.out HGL.out HCL.out (by omega) (grown_drew hg9) hset2⟩
      have HLeaf := Lib.hid hleaf
      clear hleaf
      have hmx : Try.prog.follows .mixedOrders = true := by kernel_rfl
      gi_region_with_o (refine ⟨trivial, ?_⟩; gi_at_call 58; refine (CallsIn.inRound l (callsIn_wide.2 (size_val s L hL7 _ hs3))).mono ?_; rintro e w' ⟨rfl, rfl⟩)
      all_goals gi_wp2
      all_goals first | exact (HLeaf.out w3 (Below.refl _ _)).1 | exact (HLeaf.out w3 (Below.refl _ _)).2 | exact (HLeaf.out _ (by (repeat (first | with_reducible exact Below.refl _ _ | with_reducible assumption | ((with_reducible refine Below.alloc ?_ ?_ _); rotate_left; focus (first | with_reducible exact Nat.le_refl _ | omega | (simp; done) | (simp; omega))) | ((with_reducible refine Below.setCell ?_ ?_ _); rotate_left; focus (first | with_reducible exact Nat.le_refl _ | omega | (simp; done) | (simp; omega))) | (with_reducible refine Below.drew ?_) | ((with_reducible refine Below.trans ?_ (Below.mono (by with_reducible assumption) ?_)); rotate_left; focus (first | with_reducible exact Nat.le_refl _ | omega | (simp; done) | (simp; omega))))))).1 | exact (HLeaf.out _ (by (repeat (first | with_reducible exact Below.refl _ _ | with_reducible assumption | ((with_reducible refine Below.alloc ?_ ?_ _); rotate_left; focus (first | with_reducible exact Nat.le_refl _ | omega | (simp; done) | (simp; omega))) | ((with_reducible refine Below.setCell ?_ ?_ _); rotate_left; focus (first | with_reducible exact Nat.le_refl _ | omega | (simp; done) | (simp; omega))) | (with_reducible refine Below.drew ?_) | ((with_reducible refine Below.trans ?_ (Below.mono (by with_reducible assumption) ?_)); rotate_left; focus (first | with_reducible exact Nat.le_refl _ | omega | (simp; done) | (simp; omega))))))).2
  case done =>
    rintro D ys W hD rfl ⟨hIw, hgr⟩ hK
    have hBW : Below w.heap.size w W := below_grown (HB2.out.trans (by (repeat (first | with_reducible exact Below.refl _ _ | with_reducible assumption | ((with_reducible refine Below.alloc ?_ ?_ _); rotate_left; focus (first | with_reducible exact Nat.le_refl _ | omega | (simp; done) | (simp; omega))) | ((with_reducible refine Below.setCell ?_ ?_ _); rotate_left; focus (first | with_reducible exact Nat.le_refl _ | omega | (simp; done) | (simp; omega))) | (with_reducible refine Below.drew ?_) | ((with_reducible refine Below.trans ?_ (Below.mono (by with_reducible assumption) ?_)); rotate_left; focus (first | with_reducible exact Nat.le_refl _ | omega | (simp; done) | (simp; omega))))))) hgr (by simp; omega) (by omega)
    have HBW := Lib.hid hBW
    rw [bestC_ch (fun s => aall f s n) n Q Q (Nat.le_refl _), ← HP.out] at hIw
    rcases hIw with h0 | ⟨_, hg1, hcc, hff⟩
    · omega
    have d0 := hcc 0 (by omega)
    clear hgr hBW hcc hff
    gi_wp2
    refine ⟨by simp, .inl ⟨_, _, rfl, run_takeDeferred hK, ?_⟩⟩
    refine ⟨_, results_tmp rfl _ _ _, ?_⟩
    have hD2 : w2.heap.size + 1 + 1 + 1 ≤ D := by simpa using hD
    exact ⟨rfl, HBW.out.trans (belowK_b (w := w) (Nat.le_refl _) W D _ _ (by omega) hK rfl rfl)⟩
  case stop =>
    rintro D c pre W _ _ h _
    exact h.elim

set_option maxRecDepth 100000 in
set_option maxHeartbeats 4000000 in
theorem mct_any (A : Option Addr) (n cap : Nat) (f : Nat → Rt) (w : World) (h7 : n ≤ 7) (hok : okTo f n = true) (hr : Rs w A n f) :
    Calls Try.prog 54 #[.slice A n cap, .func (.func 62) #[] #[]] w fun e w' => e = .returned (.int .i64 (bestKx (fun s => msTo f n s n) n (2 ^ n) : Nat)) ∧ Below w.heap.size w w' := by
  have Hr := Lib.hid hr
  clear hr
  have Hok := Lib.hid hok
  clear hok
  have hP1 := pow_le7 n h7
  have hP2 : 0 < 2 ^ n := Nat.two_pow_pos n
  obtain ⟨Q, HQ⟩ : ∃ Q, Hid (2 ^ n - 1 = Q) := ⟨_, Lib.hid rfl⟩
  have hQ1 : Q ≤ 127 := by have := HQ.out; omega
  have HP : Hid (2 ^ n = Q + 1) := Lib.hid (by have := HQ.out; omega)
  clear hP1 hP2
  have hbA : Below w.heap.size w (w.alloc (.cells #[.func (.func 62) #[] #[]] 60)) := (Below.refl _ _).alloc (Nat.le_refl _) _
  refine (callsIn_wide (n := 3)).1 ?_
  refine callsIn_of_wp_marks Try.func54 rfl trivial ?_ rfl
  simp only [Try.ntmps54, List.size_toArray, List.length_cons, List.length_nil, Nat.reduceAdd, Nat.reduceSub, Array.replicate_succ, Array.replicate_zero, List.push_toArray, List.append_toArray, List.nil_append, List.cons_append]
  gi_wp2_with (first | (refine ⟨trivial, ?_⟩; gi_at_call 57; refine (callsIn_wide.2 (met_any A n cap f _ h7 (Hr.out.below hbA))).mono ?_; rintro e w2 ⟨g, rfl, hg, hus, hb2, hgl⟩; have hz2 := hb2.size) | (refine ⟨trivial, ?_⟩; gi_at_call 78; refine (callsIn_wide.2 (subsetsof_any n _)).mono ?_; rintro e w' ⟨rfl, rfl⟩))
  have hz2' : w.heap.size + 1 ≤ w2.heap.size := by simpa using hz2
  have HU0 := Lib.hid hus
  clear hus
  have hI0 : Iw (((w2.alloc (.cells #[.slice (some ⟨g, 0, none⟩) n n] 51)).alloc (.cells #[.int .i64 0] 3)).alloc (.cells #[.int .i64 (n : Nat)] 3)) (some ⟨w2.heap.size + 1, 0, none⟩) 1 (fun _ => (bestC (fun s => msTo f n s n) n (Q := Q) [] : Nat)) (w2.heap.size + 1) := by
    refine Or.inr ⟨rfl, by simp, fun i hi => ?_, fun i hi => ?_⟩
    · obtain rfl : i = 0 := by omega
      go_simp; rfl
    · obtain rfl : i = 0 := by omega
      go_simp
  have HI0 := Lib.hid hI0
  clear hI0
  have HGL : Hid (w2.heap.size + 1 < (((w2.alloc (.cells #[.slice (some ⟨g, 0, none⟩) n n] 51)).alloc (.cells #[.int .i64 0] 3)).alloc (.cells #[.int .i64 (n : Nat)] 3)).heap.size) := Lib.hid (by simp)
  have HCL : Hid (w2.heap.size + 1 + 1 < (((w2.alloc (.cells #[.slice (some ⟨g, 0, none⟩) n n] 51)).alloc (.cells #[.int .i64 0] 3)).alloc (.cells #[.int .i64 (n : Nat)] 3)).heap.size) := Lib.hid (by simp)
  have HC0 : Hid ((((w2.alloc (.cells #[.slice (some ⟨g, 0, none⟩) n n] 51)).alloc (.cells #[.int .i64 0] 3)).alloc (.cells #[.int .i64 (n : Nat)] 3)).cell? ⟨w2.heap.size + 1 + 1, 0, none⟩ = some (.int .i64 (n : Nat))) := Lib.hid (by go_simp)
  have HT3 : Hid ((((w2.alloc (.cells #[.slice (some ⟨g, 0, none⟩) n n] 51)).alloc (.cells #[.int .i64 0] 3)).alloc (.cells #[.int .i64 (n : Nat)] 3)).cell? ⟨w2.heap.size, 0, none⟩ = some (.slice (some ⟨g, 0, none⟩) n n)) := Lib.hid (by go_simp)
  have hb20 : Below w2.heap.size w2 (((w2.alloc (.cells #[.slice (some ⟨g, 0, none⟩) n n] 51)).alloc (.cells #[.int .i64 0] 3)).alloc (.cells #[.int .i64 (n : Nat)] 3)) := by (repeat (first | with_reducible exact Below.refl _ _ | with_reducible assumption | ((with_reducible refine Below.alloc ?_ ?_ _); rotate_left; focus (first | with_reducible exact Nat.le_refl _ | omega | (simp; done) | (simp; omega))) | ((with_reducible refine Below.setCell ?_ ?_ _); rotate_left; focus (first | with_reducible exact Nat.le_refl _ | omega | (simp; done) | (simp; omega))) | (with_reducible refine Below.drew ?_) | ((with_reducible refine Below.trans ?_ (Below.mono (by with_reducible assumption) ?_)); rotate_left; focus (first | with_reducible exact Nat.le_refl _ | omega | (simp; done) | (simp; omega)))))
  have HT2 : Hid ((((w2.alloc (.cells #[.slice (some ⟨g, 0, none⟩) n n] 51)).alloc (.cells #[.int .i64 0] 3)).alloc (.cells #[.int .i64 (n : Nat)] 3)).cell? ⟨w.heap.size, 0, none⟩ = some (.func (.func 62) #[] #[])) := Lib.hid (((hb20.cell (p := ⟨w.heap.size, 0, none⟩) (by simp; omega)).trans (hb2.cell (p := ⟨w.heap.size, 0, none⟩) (by simp))).trans (new_cell _ _ _ rfl))
  have HUW := Lib.hid (HU0.out.below hb20)
  have HB2 : Hid (Below w.heap.size w w2) := Lib.hid (hbA.trans (hb2.mono (by simp)))
  have hzz : w.heap.size ≤ w2.heap.size := HB2.out.size
  clear hb20 hbA hb2
  refine wpIn_rangeFunc_ownG rfl (by omega) (gf := 90) (lb := #[.pointer (some ⟨w2.heap.size + 1 + 1, 0, none⟩)]) rfl trivial (enters_of Try.func90 (by kernel_rfl) rfl)
    (encs := fun x : Ch Q => #[Value.int .u64 (x.1 : Nat)]) (Kp := KpC (w2.heap.size + 1 + 1)) (S := fun ys => ys = chTo Q Q) (Sp := fun _ => True) (N := Q) (w0 := (((w2.alloc (.cells #[.slice (some ⟨g, 0, none⟩) n n] 51)).alloc (.cells #[.int .i64 0] 3)).alloc (.cells #[.int .i64 (n : Nat)] 3)))
    (fun l J Jx W hW _ _ hY h0 => yields_in (3 - 1) (by omega) l (w2.heap.size + 1 + 1) n Q h7 HQ.out hQ1 J Jx hY W ((hW.cell (p := ⟨w2.heap.size + 1 + 1, 0, none⟩) HCL.out).trans HC0.out) h0)
    (fun h k => Eq.trans k h) (fun W l o o' hl h1 h2 h3 => KpC.put HCL.out W l o o' hl h1 h2 h3) (Below.refl _ _) (fun _ => rfl)
    (InA (fun s => msTo f n s n) n Q (w2.heap.size + 1) (((w2.alloc (.cells #[.slice (some ⟨g, 0, none⟩) n n] 51)).alloc (.cells #[.int .i64 0] 3)).alloc (.cells #[.int .i64 (n : Nat)] 3))) (fun _ _ _ => False) (InA.own (fun s => msTo f n s n) n Q (w2.heap.size + 1) (((w2.alloc (.cells #[.slice (some ⟨g, 0, none⟩) n n] 51)).alloc (.cells #[.int .i64 0] 3)).alloc (.cells #[.int .i64 (n : Nat)] 3)) HGL.out) (fun _ _ _ _ _ hs _ _ => hs)
    ⟨HI0.out, World.grownBy.refl _ _⟩ (fun x : Ch Q => { tmps := #[.slice A n cap, .func (.func 62) #[] #[], undef, .pointer (some ⟨w.heap.size, 0, none⟩), .int .i64 0, .pointer (some ⟨w2.heap.size, 0, none⟩), .pointer (some ⟨w2.heap.size + 1, 0, none⟩), .int .u64 (x.1 : Nat), .slice A n cap, .slice (some ⟨g, 0, none⟩) n n, .slice A n cap, .int .i64 (n : Nat), .func (.func 90) #[] #[.pointer (some ⟨w2.heap.size + 1 + 1, 0, none⟩)], .int .u64 (x.1 : Nat), undef, undef, undef, undef, undef, undef, undef, undef, undef], defers := [] }) ?assign ?body ?done ?stop
  case assign =>
    intro l x W K hK
    gi_wp2
    exact hK
  case body =>
    rintro l pre x W ⟨hIw, hgr⟩ hlen
    obtain ⟨s, hs1, hs2⟩ := x
    have hs3 : s < 128 := by omega
    have hsP : s < 2 ^ n := by rw [HP.out]; omega
    have hzW : w2.heap.size + 1 + 1 + 1 ≤ W.heap.size := by have h := hgr.size; simp at h; omega
    have hT3 := (grown_cell (b := w2.heap.size) (o := 0) hgr (by simp; omega) (by omega)).trans HT3.out
    have hT2 := (grown_cell (b := w.heap.size) (o := 0) hgr (by simp; omega) (by omega)).trans HT2.out
    have HUX := Lib.hid (HUW.out.grown hgr (by omega))
    have hsn := bestC_snoc (fun s => msTo f n s n) n pre ⟨s, hs1, hs2⟩
    dsimp only at hsn
    have HSN := Lib.hid hsn
    have hbd := bestC_bd (fun s => msTo f n s n) n pre
    have HIw := Lib.hid hIw
    have HGr := Lib.hid hgr
    clear hIw hgr hsn
    dsimp only
    have hap := toU_all Hok.out hsP
    cases ha : msTo f n s n
    · rw [ha] at hap
      gi_wp2_with (refine ⟨trivial, ?_⟩; gi_at_call 62; refine (CallsIn.inRound l (callsIn_wide.2 (tog_val s _ n n g f false hap _ h7 hs3 HUX.out))).mono ?_; rintro e w3 ⟨rfl, hb3⟩; have hz3 := hb3.size)
      refine bodyA_end HGr.out HGL.out HCL.out (by omega) (grown_below (World.grownBy.refl W _) hb3) ?_
      have h := HIw.out.below hb3
      rw [HSN.out, ha]
      exact h
    · rw [ha] at hap
      obtain ⟨L, hL⟩ : ∃ L, popTo s n = L := ⟨_, rfl⟩
      have hL7 : popTo s 7 = L := by
        have h := popTo_small s n hsP (7 - n)
        rw [show n + (7 - n) = 7 by omega] at h
        rw [h, hL]
      have hLn : L ≤ n := by rw [← hL]; exact popTo_le s n
      obtain ⟨B, hB⟩ : ∃ B, bestC (fun s => msTo f n s n) n pre = B := ⟨_, rfl⟩
      rw [hB] at hbd
      have HL := Lib.hid hL
      have HB := Lib.hid hB
      clear hL hB
      gi_wp2_with (refine ⟨trivial, ?_⟩; gi_at_call 62; refine (CallsIn.inRound l (callsIn_wide.2 (tog_val s _ n n g f true hap _ h7 hs3 HUX.out))).mono ?_; rintro e w3 ⟨rfl, hb3⟩; have hz3 := hb3.size)
      have hI3 := HIw.out.below hb3
      have HI3 := Lib.hid hI3
      rcases hI3 with h0 | ⟨_, hg1, hcc, hff⟩
      · omega
      have d0 := hcc 0 (by omega)
      have e0 := hff 0 (by omega)
      rw [HB.out] at d0
      clear hcc hff
      have hleaf : ∀ wD : World, Below w3.heap.size w3 wD → (KeepsFrom (((w2.alloc (.cells #[.slice (some ⟨g, 0, none⟩) n n] 51)).alloc (.cells #[.int .i64 0] 3)).alloc (.cells #[.int .i64 (n : Nat)] 3)).heap.size W (wD.setCell ⟨w2.heap.size + 1, 0, none⟩ (.int .i64 (max (B : Int) (L : Int)))) ∧ KpC (w2.heap.size + 1 + 1) W (wD.setCell ⟨w2.heap.size + 1, 0, none⟩ (.int .i64 (max (B : Int) (L : Int)))) ∧ InA (fun s => msTo f n s n) n Q (w2.heap.size + 1) (((w2.alloc (.cells #[.slice (some ⟨g, 0, none⟩) n n] 51)).alloc (.cells #[.int .i64 0] 3)).alloc (.cells #[.int .i64 (n : Nat)] 3)) (pre ++ [⟨s, hs1, hs2⟩]) (wD.setCell ⟨w2.heap.size + 1, 0, none⟩ (.int .i64 (max (B : Int) (L : Int))))) ∧ (KeepsFrom (((w2.alloc (.cells #[.slice (some ⟨g, 0, none⟩) n n] 51)).alloc (.cells #[.int .i64 0] 3)).alloc (.cells #[.int .i64 (n : Nat)] 3)).heap.size W (wD.setCell ⟨w2.heap.size + 1, 0, none⟩ (.int .i64 (max (B : Int) (L : Int)))).drew ∧ KpC (w2.heap.size + 1 + 1) W (wD.setCell ⟨w2.heap.size + 1, 0, none⟩ (.int .i64 (max (B : Int) (L : Int)))).drew ∧ InA (fun s => msTo f n s n) n Q (w2.heap.size + 1) (((w2.alloc (.cells #[.slice (some ⟨g, 0, none⟩) n n] 51)).alloc (.cells #[.int .i64 0] 3)).alloc (.cells #[.int .i64 (n : Nat)] 3)) (pre ++ [⟨s, hs1, hs2⟩]) (wD.setCell ⟨w2.heap.size + 1, 0, none⟩ (.int .i64 (max (B : Int) (L : Int)))).drew) := by
        intro wD hbE
        have hset := (HI3.out.below hbE).set (k := 0) (f' := fun _ => (bestC (fun s => msTo f n s n) n (pre ++ [(⟨s, hs1, hs2⟩ : Ch Q)]) : Nat)) (by omega) (fun i _ hne => by omega)
        rw [HSN.out, ha, if_pos rfl, HB.out, HL.out, show ((max B L : Nat) : Int) = max (B : Int) (L : Int) by omega] at hset
        have hset2 : Iw (wD.setCell ⟨w2.heap.size + 1, 0, none⟩ (.int .i64 (max (B : Int) (L : Int)))) (some ⟨w2.heap.size + 1, 0, none⟩) 1 (fun _ => (bestC (fun s => msTo f n s n) n (pre ++ [(⟨s, hs1, hs2⟩ : Ch Q)]) : Nat)) (w2.heap.size + 1) := by
          rw [HSN.out, ha, if_pos rfl, HB.out, HL.out, show ((max B L : Nat) : Int) = max (B : Int) (L : Int) by omega]
          exact hset
        have hg9 := grown_setCell (o := 0) (grown_below (World.grownBy.refl W (some (w2.heap.size + 1))) (hb3.trans (hbE.mono hz3))) (.int .i64 (max (B : Int) (L : Int)))
        exact ⟨bodyA_end HGr.out HGL.out HCL.out (by omega) hg9 hset2, bodyA_end HGr.out HGL.out HCL.out (by omega) (grown_drew hg9) hset2⟩
      have HLeaf := Lib.hid hleaf
      clear hleaf
      have hmx : Try.prog.follows .mixedOrders = true := by kernel_rfl
      gi_region_with_o (refine ⟨trivial, ?_⟩; gi_at_call 58; refine (CallsIn.inRound l (callsIn_wide.2 (size_val s L hL7 _ hs3))).mono ?_; rintro e w' ⟨rfl, rfl⟩)
      all_goals gi_wp2
      all_goals first | exact (HLeaf.out w3 (Below.refl _ _)).1 | exact (HLeaf.out w3 (Below.refl _ _)).2 | exact (HLeaf.out _ (by (repeat (first | with_reducible exact Below.refl _ _ | with_reducible assumption | ((with_reducible refine Below.alloc ?_ ?_ _); rotate_left; focus (first | with_reducible exact Nat.le_refl _ | omega | (simp; done) | (simp; omega))) | ((with_reducible refine Below.setCell ?_ ?_ _); rotate_left; focus (first | with_reducible exact Nat.le_refl _ | omega | (simp; done) | (simp; omega))) | (with_reducible refine Below.drew ?_) | ((with_reducible refine Below.trans ?_ (Below.mono (by with_reducible assumption) ?_)); rotate_left; focus (first | with_reducible exact Nat.le_refl _ | omega | (simp; done) | (simp; omega))))))).1 | exact (HLeaf.out _ (by (repeat (first | with_reducible exact Below.refl _ _ | with_reducible assumption | ((with_reducible refine Below.alloc ?_ ?_ _); rotate_left; focus (first | with_reducible exact Nat.le_refl _ | omega | (simp; done) | (simp; omega))) | ((with_reducible refine Below.setCell ?_ ?_ _); rotate_left; focus (first | with_reducible exact Nat.le_refl _ | omega | (simp; done) | (simp; omega))) | (with_reducible refine Below.drew ?_) | ((with_reducible refine Below.trans ?_ (Below.mono (by with_reducible assumption) ?_)); rotate_left; focus (first | with_reducible exact Nat.le_refl _ | omega | (simp; done) | (simp; omega))))))).2
  case done =>
    rintro D ys W hD rfl ⟨hIw, hgr⟩ hK
    have hBW : Below w.heap.size w W := below_grown (HB2.out.trans (by (repeat (first | with_reducible exact Below.refl _ _ | with_reducible assumption | ((with_reducible refine Below.alloc ?_ ?_ _); rotate_left; focus (first | with_reducible exact Nat.le_refl _ | omega | (simp; done) | (simp; omega))) | ((with_reducible refine Below.setCell ?_ ?_ _); rotate_left; focus (first | with_reducible exact Nat.le_refl _ | omega | (simp; done) | (simp; omega))) | (with_reducible refine Below.drew ?_) | ((with_reducible refine Below.trans ?_ (Below.mono (by with_reducible assumption) ?_)); rotate_left; focus (first | with_reducible exact Nat.le_refl _ | omega | (simp; done) | (simp; omega))))))) hgr (by simp; omega) (by omega)
    have HBW := Lib.hid hBW
    rw [bestC_ch (fun s => msTo f n s n) n Q Q (Nat.le_refl _), ← HP.out] at hIw
    rcases hIw with h0 | ⟨_, hg1, hcc, hff⟩
    · omega
    have d0 := hcc 0 (by omega)
    clear hgr hBW hcc hff
    gi_wp2
    refine ⟨by simp, .inl ⟨_, _, rfl, run_takeDeferred hK, ?_⟩⟩
    refine ⟨_, results_tmp rfl _ _ _, ?_⟩
    have hD2 : w2.heap.size + 1 + 1 + 1 ≤ D := by simpa using hD
    exact ⟨rfl, HBW.out.trans (belowK_b (w := w) (Nat.le_refl _) W D _ _ (by omega) hK rfl rfl)⟩
  case stop =>
    rintro D c pre W _ _ h _
    exact h.elim

set_option maxHeartbeats 1000000 in
set_option maxRecDepth 20000 in
theorem iap_any (A : Option Addr) (n cap : Nat) (f : Nat → Rt) (w : World) (hn : n ≤ maxLen) (hr : Rs w A n f) :
    Calls Try.prog 18 #[.slice A n cap] w fun e w' => e = .returned (.int .i64 (apF f n)) ∧ Below w.heap.size w w' := by
  have Hn := Lib.hid hn
  have Hr := Lib.hid hr
  clear hn hr
  cases hl : laidF f n
  · have H : Hid (apF f n = -1) := Lib.hid (by unfold apF; rw [hl]; rfl)
    go_enter Try.func18, Try.ntmps18
    go_wp2_with fail
    refine (ilaid_val A n cap f false hl _ Hn.out Hr.out).mono ?_; rintro e w1 ⟨rfl, hb1⟩; have hz1 := hb1.size; (try simp at hz1)
    go_wp2
    go_ret
    exact ⟨ret_int (by rw [H.out]), by (repeat (first | with_reducible exact Below.refl _ _ | with_reducible assumption | ((with_reducible refine Below.alloc ?_ ?_ _); rotate_left; focus (first | with_reducible exact Nat.le_refl _ | omega | (simp; done) | (simp; omega))) | ((with_reducible refine Below.setCell ?_ ?_ _); rotate_left; focus (first | with_reducible exact Nat.le_refl _ | omega | (simp; done) | (simp; omega))) | (with_reducible refine Below.drew ?_) | ((with_reducible refine Below.trans ?_ (Below.mono (by with_reducible assumption) ?_)); rotate_left; focus (first | with_reducible exact Nat.le_refl _ | omega | (simp; done) | (simp; omega)))))⟩
  · obtain ⟨h7, hok⟩ := laidF_ok hl
    have H : Hid (apF f n = (bestKx (fun s => aall f s n) n (2 ^ n) : Nat)) := Lib.hid (by unfold apF; rw [hl, bestKx_A, bestA_all]; rfl)
    have Hok := Lib.hid hok
    clear hok
    go_enter Try.func18, Try.ntmps18
    go_wp2_with fail
    refine (ilaid_val A n cap f true hl _ Hn.out Hr.out).mono ?_; rintro e w1 ⟨rfl, hb1⟩; have hz1 := hb1.size; (try simp at hz1)
    have Hr1 := Lib.hid (Hr.out.below hb1)
    go_wp2_with fail
    refine (mca_any A n cap f _ h7 Hok.out Hr1.out).mono ?_; rintro e w2 ⟨rfl, hb2⟩; have hz2 := hb2.size; (try simp at hz2)
    go_wp2
    go_ret
    exact ⟨ret_int (by rw [H.out]), by (repeat (first | with_reducible exact Below.refl _ _ | with_reducible assumption | ((with_reducible refine Below.alloc ?_ ?_ _); rotate_left; focus (first | with_reducible exact Nat.le_refl _ | omega | (simp; done) | (simp; omega))) | ((with_reducible refine Below.setCell ?_ ?_ _); rotate_left; focus (first | with_reducible exact Nat.le_refl _ | omega | (simp; done) | (simp; omega))) | (with_reducible refine Below.drew ?_) | ((with_reducible refine Below.trans ?_ (Below.mono (by with_reducible assumption) ?_)); rotate_left; focus (first | with_reducible exact Nat.le_refl _ | omega | (simp; done) | (simp; omega)))))⟩

set_option maxHeartbeats 1000000 in
set_option maxRecDepth 20000 in
theorem imo_any (A : Option Addr) (n cap : Nat) (f : Nat → Rt) (w : World) (hn : n ≤ maxLen) (hr : Rs w A n f) :
    Calls Try.prog 27 #[.slice A n cap] w fun e w' => e = .returned (.int .i64 (moF f n)) ∧ Below w.heap.size w w' := by
  have Hn := Lib.hid hn
  have Hr := Lib.hid hr
  clear hn hr
  cases hl : laidF f n
  · have H : Hid (moF f n = -1) := Lib.hid (by unfold moF; rw [hl]; rfl)
    go_enter Try.func27, Try.ntmps27
    go_wp2_with fail
    refine (ilaid_val A n cap f false hl _ Hn.out Hr.out).mono ?_; rintro e w1 ⟨rfl, hb1⟩; have hz1 := hb1.size; (try simp at hz1)
    go_wp2
    go_ret
    exact ⟨ret_int (by rw [H.out]), by (repeat (first | with_reducible exact Below.refl _ _ | with_reducible assumption | ((with_reducible refine Below.alloc ?_ ?_ _); rotate_left; focus (first | with_reducible exact Nat.le_refl _ | omega | (simp; done) | (simp; omega))) | ((with_reducible refine Below.setCell ?_ ?_ _); rotate_left; focus (first | with_reducible exact Nat.le_refl _ | omega | (simp; done) | (simp; omega))) | (with_reducible refine Below.drew ?_) | ((with_reducible refine Below.trans ?_ (Below.mono (by with_reducible assumption) ?_)); rotate_left; focus (first | with_reducible exact Nat.le_refl _ | omega | (simp; done) | (simp; omega)))))⟩
  · obtain ⟨h7, hok⟩ := laidF_ok hl
    have H : Hid (moF f n = (bestKx (fun s => msTo f n s n) n (2 ^ n) : Nat)) := Lib.hid (by rw [moF_yes hl, bestKx_M, bestM_all])
    have Hok := Lib.hid hok
    clear hok
    go_enter Try.func27, Try.ntmps27
    go_wp2_with fail
    refine (ilaid_val A n cap f true hl _ Hn.out Hr.out).mono ?_; rintro e w1 ⟨rfl, hb1⟩; have hz1 := hb1.size; (try simp at hz1)
    have Hr1 := Lib.hid (Hr.out.below hb1)
    go_wp2_with fail
    refine (mct_any A n cap f _ h7 Hok.out Hr1.out).mono ?_; rintro e w2 ⟨rfl, hb2⟩; have hz2 := hb2.size; (try simp at hz2)
    go_wp2
    go_ret
    exact ⟨ret_int (by rw [H.out]), by (repeat (first | with_reducible exact Below.refl _ _ | with_reducible assumption | ((with_reducible refine Below.alloc ?_ ?_ _); rotate_left; focus (first | with_reducible exact Nat.le_refl _ | omega | (simp; done) | (simp; omega))) | ((with_reducible refine Below.setCell ?_ ?_ _); rotate_left; focus (first | with_reducible exact Nat.le_refl _ | omega | (simp; done) | (simp; omega))) | (with_reducible refine Below.drew ?_) | ((with_reducible refine Below.trans ?_ (Below.mono (by with_reducible assumption) ?_)); rotate_left; focus (first | with_reducible exact Nat.le_refl _ | omega | (simp; done) | (simp; omega)))))⟩
end Go.Proofs.Ytkfeeijiockdhaa
