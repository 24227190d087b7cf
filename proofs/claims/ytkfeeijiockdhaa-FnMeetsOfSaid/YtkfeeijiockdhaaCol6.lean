/- Chapter 6 of impl: meetings and colours. -/
import Derived.Test.YtkfeeijiockdhaaMet3
import Derived.Test.YtkfeeijiockdhaaMee
namespace Go.Proofs.Ytkfeeijiockdhaa
open Go.RowKit Go.Sort
set_option linter.unusedVariables false
theorem Iw.put {w : World} {A : Option Addr} {n g k : Nat} {f f' : Nat → Int} {v : Int} (h : Iw w A n f g) (hk : k < n) (hv : f' k = v) (hf : ∀ i, i < n → i ≠ k → f i = f' i) : Iw (w.setCell ⟨g, k, none⟩ (.int .i64 v)) A n f' g := by
  subst hv; exact h.set hk hf
theorem Us.put {w : World} {A : Option Addr} {n g k : Nat} {f f' : Nat → Nat} {v : Int} (h : Us w A n f g) (hk : k < n) (hv : ((f' k : Nat) : Int) = v) (hf : ∀ i, i < n → i ≠ k → f i = f' i) : Us (w.setCell ⟨g, k, none⟩ (.int .u64 v)) A n f' g := by
  subst hv; exact h.set hk hf
theorem upto_step (g : Nat → Nat) {i a : Nat} (h : a ≠ i) : (if a < i then ((g a : Nat) : Int) else 0) = (if a < i + 1 then ((g a : Nat) : Int) else 0) := by
  by_cases e : a < i
  · rw [if_pos e, if_pos (by omega)]
  · rw [if_neg e, if_neg (by omega)]
theorem Iw.c6 {w : World} {A : Option Addr} {n g k : Nat} {f : Nat → Int} (h : Iw w A n f g) (hk : k < n) : w.cell? ⟨g, k, none⟩ = some (.int .i64 (f k)) ∧ w.frozen? ⟨g, k, none⟩ = false ∧ g < w.heap.size := by
  rcases h with h | ⟨_, hl, hc, hf⟩
  · omega
  · exact ⟨hc k hk, hf k hk, hl⟩
theorem met_pop {f : Nat → Rt} {n k : Nat} (h7 : n ≤ 7) (hok : okTo f n = true) (hk : k < n) : popTo (metN f n k) 7 = dgF f n k + 1 := by
  have h := popTo_small (metN f n k) n (metN_lt f n k) (7 - n)
  rw [show n + (7 - n) = 7 by omega] at h
  rw [h, popTo_cnt, ← dg_put hk]
  refine cntI_congr fun i hi => ?_
  unfold metN
  rw [maskI_bit _ n i hi]
  unfold putB nbr
  by_cases e : i = k
  · rw [if_pos e, e]; exact meet_self (okTo_le hok hk)
  · rw [if_neg e, decide_eq_false e, meet_comm]; rfl
theorem or_anyu : ∀ U : Fin 128, ∀ c : Fin 7, bits .or .u64 ((U.val : Nat) : Int) ((2 ^ c.val : Nat) : Int) = ((U.val ||| 2 ^ c.val : Nat) : Int) := by decide +kernel
theorem and_none {a b : Nat} (h : a &&& b = 0) (i : Nat) (ha : a.testBit i = true) : b.testBit i = false := by
  have := congrArg (·.testBit i) h
  simp only [Nat.testBit_and, Nat.zero_testBit, ha, Bool.true_and] at this
  exact this
theorem none_and {a b : Nat} (h : ∀ i, a.testBit i = true → b.testBit i = false) : a &&& b = 0 := by
  refine Nat.eq_of_testBit_eq fun i => ?_
  rw [Nat.testBit_and, Nat.zero_testBit]
  cases ha : a.testBit i
  · rfl
  · rw [h i ha]; rfl
theorem met_bit {f : Nat → Rt} {n k i : Nat} (hi : i < n) : (metN f n k).testBit i = cmB (f k) (f i) := by unfold metN; exact maskI_bit _ n i hi
theorem met_far {f : Nat → Rt} {n k i : Nat} (hi : n ≤ i) : (metN f n k).testBit i = false := Nat.testBit_lt_two_pow (Nat.lt_of_lt_of_le (metN_lt f n k) (Nat.pow_le_pow_right (by omega) hi))
theorem mask_far {I : Nat → Bool} {n i : Nat} (hi : n ≤ i) : (maskI I n).testBit i = false := Nat.testBit_lt_two_pow (Nat.lt_of_lt_of_le (maskI_lt I n) (Nat.pow_le_pow_right (by omega) hi))
/-- which of the first i ones have the colour c -/
noncomputable def pnT (f : Nat → Rt) (i c : Nat) : Nat := maskI (fun j => decide (gcN f j = c)) i
theorem pn_free {f : Nat → Rt} {n i : Nat} (hi : i < n) : pnT f i (gcN f i) &&& metN f n i = 0 := by
  refine none_and fun j hj => ?_
  unfold pnT at hj
  rcases Nat.lt_or_ge j i with h | h
  · rw [maskI_bit _ i j h, decide_eq_true_eq] at hj
    rw [met_bit (by omega)]
    cases hc : cmB (f i) (f j)
    · rfl
    · rw [meet_comm] at hc; exact absurd hj ((gc_spec f i).1 j h hc)
  · rw [mask_far h] at hj; cases hj
theorem pn_taken {f : Nat → Rt} {n i c : Nat} (hi : i < n) (hc : c < gcN f i) : pnT f i c &&& metN f n i ≠ 0 := by
  obtain ⟨j, hj, hm, e⟩ := (gc_spec f i).2 c hc
  intro h0
  have h1 := and_none h0 j (by unfold pnT; rw [maskI_bit _ i j hj]; exact decide_eq_true e)
  rw [met_bit (by omega), meet_comm, hm] at h1
  cases h1
theorem pn_lt {f : Nat → Rt} {i c : Nat} (hi : i ≤ 7) : pnT f i c < 128 := Nat.lt_of_lt_of_le (maskI_lt _ _) (pow_le7 i hi)
theorem pn_put (f : Nat → Rt) (i : Nat) : pnT f (i + 1) (gcN f i) = pnT f i (gcN f i) ||| 2 ^ i := by
  unfold pnT
  have h := Nat.two_pow_add_eq_or_of_lt (maskI_lt (fun j => decide (gcN f j = gcN f i)) i) 1
  rw [Nat.mul_one] at h
  rw [Nat.or_comm, ← h]
  simp only [maskI, decide_true, if_true]
  omega
/-- the colours' sets while the k-th one gets the colour x -/
def putP (T : Nat → Nat) (k x c : Nat) : Nat := if c = x then T c ||| 2 ^ k else T c
theorem putP_lt {T : Nat → Nat} {k x m : Nat} (hk : k < 7) (h : ∀ c, c < m → T c < 128) : ∀ c, c < m → putP T k x c < 128 := by
  intro c hc
  unfold putP
  split
  · exact Nat.or_lt_two_pow (n := 7) (h c hc) (Nat.pow_lt_pow_right (by omega) hk)
  · exact h c hc
/-- the colours of those from the k-th one on: T tells which ones ahead have each -/
def PExt (f : Nat → Rt) (n m : Nat) (T : Nat → Nat) (k : Nat) : Prop := ∃ c : Nat → Nat, (∀ i, k ≤ i → i < n → c i < m) ∧ (∀ i, k ≤ i → i < n → T (c i) &&& metN f n i = 0) ∧ ∀ i j, k ≤ i → i < j → j < n → cmB (f i) (f j) = true → c i ≠ c j
theorem PExt.done {f : Nat → Rt} {n m : Nat} {T : Nat → Nat} : PExt f n m T n := ⟨fun _ => 0, fun i h1 h2 => by omega, fun i h1 h2 => by omega, fun i j h1 h2 h3 => by omega⟩
theorem or_free {a b k : Nat} (h : a &&& b = 0) (hk : b.testBit k = false) : (a ||| 2 ^ k) &&& b = 0 := by
  refine none_and fun i hi => ?_
  rw [Nat.testBit_or, Bool.or_eq_true, Nat.testBit_two_pow, decide_eq_true_eq] at hi
  rcases hi with hi | hi
  · exact and_none h i hi
  · rw [← hi]; exact hk
theorem or_left {a b k : Nat} (h : (a ||| 2 ^ k) &&& b = 0) : a &&& b = 0 := none_and fun i hi => and_none h i (by rw [Nat.testBit_or, hi]; rfl)
theorem or_right {a b k : Nat} (h : (a ||| 2 ^ k) &&& b = 0) : b.testBit k = false := and_none h k (by rw [Nat.testBit_or, Nat.testBit_two_pow, decide_eq_true rfl, Bool.or_true])
theorem PExt.first {f : Nat → Rt} {n m k : Nat} {T : Nat → Nat} (hk : k < n) (h : PExt f n m T k) : ∃ x, x < m ∧ T x &&& metN f n k = 0 ∧ PExt f n m (putP T k x) (k + 1) := by
  obtain ⟨c, h1, h2, h3⟩ := h
  refine ⟨c k, h1 k (Nat.le_refl _) hk, h2 k (Nat.le_refl _) hk, c, fun i hi hn => h1 i (by omega) hn, fun i hi hn => ?_, fun i j hi hij hj => h3 i j (by omega) hij hj⟩
  unfold putP
  have h0 := h2 i (by omega) hn
  split
  · next e =>
    refine or_free h0 ?_
    rw [met_bit hk]
    cases hc : cmB (f i) (f k)
    · rfl
    · rw [meet_comm] at hc; exact absurd e.symm (h3 k i (Nat.le_refl _) (by omega) hn hc)
  · exact h0
theorem PExt.step {f : Nat → Rt} {n m k x : Nat} {T : Nat → Nat} (hk : k < n) (hx : x < m) (h0 : T x &&& metN f n k = 0) (h : PExt f n m (putP T k x) (k + 1)) : PExt f n m T k := by
  obtain ⟨c, h1, h2, h3⟩ := h
  refine ⟨fun i => if i = k then x else c i, fun i hi hn => ?_, fun i hi hn => ?_, fun i j hi hij hj hc => ?_⟩
  · by_cases e : i = k
    · simp only [e, if_true]; exact hx
    · simp only [e, if_false]; exact h1 i (by omega) hn
  · by_cases e : i = k
    · subst e; simp only [if_true]; exact h0
    · simp only [e, if_false]
      have := h2 i (by omega) hn
      unfold putP at this
      split at this
      · exact or_left this
      · exact this
  · have hjk : ¬ j = k := by omega
    by_cases e : i = k
    · subst e
      simp only [if_true, hjk, if_false]
      intro e2
      have := h2 j (by omega) hj
      unfold putP at this
      rw [if_pos e2.symm] at this
      have hb := or_right this
      rw [met_bit hk, meet_comm, hc] at hb
      cases hb
    · simp only [e, if_false, hjk]
      exact h3 i j (by omega) hij hj hc
theorem pext_co (f : Nat → Rt) (n m : Nat) : PExt f n m (fun _ => 0) 0 ↔ ∃ c, Co f n m c :=
  ⟨fun ⟨c, h1, _, h3⟩ => ⟨c, fun i hi => h1 i (Nat.zero_le _) hi, fun i j hij hj hm => h3 i j (Nat.zero_le _) hij hj hm⟩, fun ⟨c, h1, h3⟩ => ⟨c, fun i _ hi => h1 i hi, fun i _ _ => Nat.zero_and _, fun i j _ hij hj hm => h3 i j hij hj hm⟩⟩

set_option maxHeartbeats 2000000 in
set_option maxRecDepth 20000 in
theorem ims_any (A : Option Addr) (n cap : Nat) (f : Nat → Rt) (w : World) (hn : n ≤ maxLen) (hr : Rs w A n f) :
    Calls Try.prog 22 #[.slice A n cap] w (IntsPost (cntF (laidF f n) n) (fun k => ((dgF f n k : Nat) : Int)) w) := by
  have Hn := Lib.hid hn
  have Hr := Lib.hid hr
  clear hn hr
  cases hl : laidF f n
  · go_enter Try.func22, Try.ntmps22
    go_wp2_with fail
    refine (ilaid_val A n cap f false hl _ Hn.out Hr.out).mono ?_; rintro e w1 ⟨rfl, hb1⟩; have hz1 := hb1.size; (try simp at hz1)
    go_wp2
    go_ret
    exact ⟨_, _, w.heap.size, rfl, Or.inl rfl, Nat.le_refl _, by (repeat (first | with_reducible exact Below.refl _ _ | with_reducible assumption | ((with_reducible refine Below.alloc ?_ ?_ _); rotate_left; focus (first | with_reducible exact Nat.le_refl _ | omega | (simp; done) | (simp; omega))) | ((with_reducible refine Below.setCell ?_ ?_ _); rotate_left; focus (first | with_reducible exact Nat.le_refl _ | omega | (simp; done) | (simp; omega))) | (with_reducible refine Below.drew ?_) | ((with_reducible refine Below.trans ?_ (Below.mono (by with_reducible assumption) ?_)); rotate_left; focus (first | with_reducible exact Nat.le_refl _ | omega | (simp; done) | (simp; omega)))))⟩
  · obtain ⟨h7, hok⟩ := laidF_ok hl
    have Hok := Lib.hid hok
    have hmk := make_ints n n (Nat.le_refl _) (by omega)
    clear hok
    go_enter Try.func22, Try.ntmps22
    go_wp2_with fail
    refine (ilaid_val A n cap f true hl _ Hn.out Hr.out).mono ?_; rintro e w1 ⟨rfl, hb1⟩; have hz1 := hb1.size; (try simp at hz1)
    have hbm : Below w.heap.size w (w1.alloc (.cells (madeCells #[.int .i64 0] n) 3)) := by (repeat (first | with_reducible exact Below.refl _ _ | with_reducible assumption | ((with_reducible refine Below.alloc ?_ ?_ _); rotate_left; focus (first | with_reducible exact Nat.le_refl _ | omega | (simp; done) | (simp; omega))) | ((with_reducible refine Below.setCell ?_ ?_ _); rotate_left; focus (first | with_reducible exact Nat.le_refl _ | omega | (simp; done) | (simp; omega))) | (with_reducible refine Below.drew ?_) | ((with_reducible refine Below.trans ?_ (Below.mono (by with_reducible assumption) ?_)); rotate_left; focus (first | with_reducible exact Nat.le_refl _ | omega | (simp; done) | (simp; omega)))))
    go_wp2_with fail
    refine (met_any A n cap f _ h7 (Hr.out.below hbm)).mono ?_; rintro e w2 ⟨g, rfl, hg, hus, hb2, hgl⟩
    clear hmk
    have hg' : w1.heap.size + 1 ≤ g := by simpa using hg
    have HU := Lib.hid hus
    have HB : Hid (Below w.heap.size w w2) := Lib.hid (hbm.trans (hb2.mono (by simp; omega)))
    have HI := Lib.hid ((Iw.made w1 n).below hb2)
    clear hus hb1 hb2 hbm
    go_wp2
    go_loopw [15] (fun s wr => ∃ i : Nat, i ≤ n ∧ s = .int .i64 i ∧ Iw wr (some ⟨w1.heap.size, 0, none⟩) n (fun a => if a < i then ((dgF f n a : Nat) : Int) else 0) w1.heap.size ∧ Us wr (some ⟨g, 0, none⟩) n (metN f n) g ∧ Below w.heap.size w wr) (fun s _ => n - (intOf s).toNat)
    case atStart => exact ⟨0, Nat.zero_le _, rfl, HI.out.congr (fun a _ => by rw [if_neg (by omega)]), HU.out, HB.out⟩
    case round =>
      obtain ⟨i, hi, rfl, hI, hU, hB⟩ := hrel
      have HI := Lib.hid hI
      have HU := Lib.hid hU
      have HB := Lib.hid hB
      clear hI hU hB
      by_cases hlt : i < n
      · obtain ⟨_, _, e0, _⟩ := HU.out.at_ hlt
        obtain ⟨c0, z0, _⟩ := HI.out.c6 hlt
        have hM : metN f n i < 128 := Nat.lt_of_lt_of_le (metN_lt f n i) (pow_le7 n h7)
        obtain ⟨L, hL⟩ : ∃ L, dgF f n i + 1 = L := ⟨_, rfl⟩
        have hL7 : popTo (metN f n i) 7 = L := (met_pop h7 Hok.out hlt).trans hL
        have hLn := dg_lt (f := f) hlt
        have HL := Lib.hid hL
        have hLb : L ≤ 7 := by omega
        generalize hMM : metN f n i = M at e0 hM hL7
        clear hMM hL
        go_wp2_with fail
        refine (size_val M L hL7 _ hM).mono ?_; rintro e w' ⟨rfl, rfl⟩
        go_wp2
        go_roundw
        case rel => exact ⟨i + 1, by omega, by go_num, HI.out.put hlt (by rw [if_pos (Nat.lt_succ_self i)]; have := HL.out; omega) (fun a _ ha => upto_step (dgF f n) ha), HU.out.grown (grown_setCell (World.grownBy.refl _ _) _) (by omega), HB.out.setCell (by dsimp only; omega) _⟩
        case measure => simp [intOf]; omega
      · obtain rfl : i = n := by omega
        go_wp2
        go_ret
        exact ⟨_, _, w1.heap.size, rfl, HI.out.congr (fun a ha => by rw [if_pos ha]), by omega, HB.out⟩

set_option maxHeartbeats 1000000 in
set_option maxRecDepth 20000 in
theorem ifc_any (n cap g : Nat) (T : Nat → Nat) (M c0 : Nat) (w : World) (h7 : n ≤ 7) (hT : ∀ c, c < n → T c < 128) (hM : M < 128) (hc : c0 < n) (h0 : T c0 &&& M = 0) (hne : ∀ c, c < c0 → T c &&& M ≠ 0) (hu : Us w (some ⟨g, 0, none⟩) n T g) :
    Calls Try.prog 67 #[.slice (some ⟨g, 0, none⟩) n cap, .int .u64 M] w fun e w' => e = .returned (.int .i64 (c0 : Nat)) ∧ w = w' := by
  have HU := Lib.hid hu
  have HN := Lib.hid hne
  have H0 := Lib.hid h0
  have HT := Lib.hid hT
  clear hu hne h0 hT
  go_enter Try.func67, Try.ntmps67
  go_wp2
  go_loopw [5] (fun s wr => ∃ c : Nat, c ≤ c0 ∧ s = .int .i64 c ∧ w = wr) (fun s _ => c0 + 1 - (intOf s).toNat)
  case atStart => exact ⟨0, Nat.zero_le _, rfl, by trivial⟩
  case round =>
    obtain ⟨c, hcc, rfl, rfl⟩ := hrel
    have hcn : c < n := by omega
    obtain ⟨_, _, e0, _⟩ := HU.out.at_ hcn
    have hTc := HT.out c hcn
    have hand := and_u (T c) M hTc hM
    by_cases hlt : c < c0
    · have hx := HN.out c hlt
      generalize hXX : T c &&& M = X at hand hx
      generalize hTT : T c = Y at e0 hand hTc
      clear hXX hTT
      have hz : ((X : Int) == 0) = false := by simp; omega
      go_wp2
      go_roundw
      case rel => exact ⟨c + 1, by omega, by go_num, by trivial⟩
      case measure => simp [intOf]; omega
    · obtain rfl : c = c0 := by omega
      rw [H0.out] at hand
      generalize hTT : T c = Y at e0 hand hTc
      clear hTT
      go_wp2
      go_ret
      exact ⟨rfl, by trivial⟩

set_option maxHeartbeats 4000000 in
set_option maxRecDepth 20000 in
theorem ipb_any (A : Option Addr) (n cap : Nat) (f : Nat → Rt) (w : World) (hn : n ≤ maxLen) (hr : Rs w A n f) :
    Calls Try.prog 35 #[.slice A n cap] w (IntsPost (cntF (laidF f n) n) (fun k => ((gcN f k : Nat) : Int)) w) := by
  have Hn := Lib.hid hn
  have Hr := Lib.hid hr
  clear hn hr
  cases hl : laidF f n
  · go_enter Try.func35, Try.ntmps35
    go_wp2_with fail
    refine (ilaid_val A n cap f false hl _ Hn.out Hr.out).mono ?_; rintro e w1 ⟨rfl, hb1⟩; have hz1 := hb1.size; (try simp at hz1)
    go_wp2
    go_ret
    exact ⟨_, _, w.heap.size, rfl, Or.inl rfl, Nat.le_refl _, by (repeat (first | with_reducible exact Below.refl _ _ | with_reducible assumption | ((with_reducible refine Below.alloc ?_ ?_ _); rotate_left; focus (first | with_reducible exact Nat.le_refl _ | omega | (simp; done) | (simp; omega))) | ((with_reducible refine Below.setCell ?_ ?_ _); rotate_left; focus (first | with_reducible exact Nat.le_refl _ | omega | (simp; done) | (simp; omega))) | (with_reducible refine Below.drew ?_) | ((with_reducible refine Below.trans ?_ (Below.mono (by with_reducible assumption) ?_)); rotate_left; focus (first | with_reducible exact Nat.le_refl _ | omega | (simp; done) | (simp; omega)))))⟩
  · obtain ⟨h7, hok⟩ := laidF_ok hl
    have Hok := Lib.hid hok
    have hmk := make_ints n n (Nat.le_refl _) (by omega)
    have hmk2 := make_sets n n (Nat.le_refl _) (by omega)
    clear hok
    go_enter Try.func35, Try.ntmps35
    go_wp2_with fail
    refine (ilaid_val A n cap f true hl _ Hn.out Hr.out).mono ?_; rintro e w1 ⟨rfl, hb1⟩; have hz1 := hb1.size; (try simp at hz1)
    have hbm : Below w.heap.size w ((w1.alloc (.cells (madeCells #[.int .i64 0] n) 3)).alloc (.cells (madeCells #[.int .u64 0] n) 55)) := by (repeat (first | with_reducible exact Below.refl _ _ | with_reducible assumption | ((with_reducible refine Below.alloc ?_ ?_ _); rotate_left; focus (first | with_reducible exact Nat.le_refl _ | omega | (simp; done) | (simp; omega))) | ((with_reducible refine Below.setCell ?_ ?_ _); rotate_left; focus (first | with_reducible exact Nat.le_refl _ | omega | (simp; done) | (simp; omega))) | (with_reducible refine Below.drew ?_) | ((with_reducible refine Below.trans ?_ (Below.mono (by with_reducible assumption) ?_)); rotate_left; focus (first | with_reducible exact Nat.le_refl _ | omega | (simp; done) | (simp; omega)))))
    go_wp2_with fail
    refine (met_any A n cap f _ h7 (Hr.out.below hbm)).mono ?_; rintro e w2 ⟨g, rfl, hg, hus, hb2, hgl⟩
    clear hmk hmk2
    have hg' : w1.heap.size + 1 + 1 ≤ g := by simpa using hg
    have HU := Lib.hid hus
    have HB : Hid (Below w.heap.size w w2) := Lib.hid (hbm.trans (hb2.mono (by simp; omega)))
    have HI := Lib.hid (((Iw.made w1 n).below ((Below.refl _ _).alloc (Nat.le_refl _) (.cells (madeCells #[.int .u64 0] n) 55))).below hb2)
    have hps := (Us.made (w1.alloc (.cells (madeCells #[.int .i64 0] n) 3)) n).below hb2
    rw [World.size_alloc] at hps
    have HP := Lib.hid hps
    clear hus hb1 hb2 hbm hps
    go_wp2
    go_loopw [19] (fun s wr => ∃ i : Nat, i ≤ n ∧ s = .int .i64 i ∧ Iw wr (some ⟨w1.heap.size, 0, none⟩) n (fun a => if a < i then ((gcN f a : Nat) : Int) else 0) w1.heap.size ∧ Us wr (some ⟨w1.heap.size + 1, 0, none⟩) n (pnT f i) (w1.heap.size + 1) ∧ Us wr (some ⟨g, 0, none⟩) n (metN f n) g ∧ Below w.heap.size w wr) (fun s _ => n - (intOf s).toNat)
    case atStart => exact ⟨0, Nat.zero_le _, rfl, HI.out.congr (fun a _ => by rw [if_neg (by omega)]), HP.out.congr (fun a _ => rfl), HU.out, HB.out⟩
    case round =>
      obtain ⟨i, hi, rfl, hI, hP, hU, hB⟩ := hrel
      have HI := Lib.hid hI
      have HP := Lib.hid hP
      have HU := Lib.hid hU
      have HB := Lib.hid hB
      clear hI hP hU hB
      by_cases hlt : i < n
      · obtain ⟨_, _, e0, _⟩ := HU.out.at_ hlt
        obtain ⟨c0, z0, l0⟩ := HI.out.c6 hlt
        have hM : metN f n i < 128 := Nat.lt_of_lt_of_le (metN_lt f n i) (pow_le7 n h7)
        have hgl := gc_lt f i
        obtain ⟨C, hC⟩ : ∃ C, gcN f i = C := ⟨_, rfl⟩
        have hC0 : pnT f i C &&& metN f n i = 0 := hC ▸ pn_free hlt
        have hC1 : ∀ c, c < C → pnT f i c &&& metN f n i ≠ 0 := fun c hc => pn_taken hlt (hC ▸ hc)
        have hCn : C < n := by omega
        have hC7 : C < 7 := by omega
        have HC := Lib.hid hC
        have HC0 := Lib.hid hC0
        have HC1 := Lib.hid hC1
        generalize hMM : metN f n i = M at e0 hM
        have HMM := Lib.hid hMM
        clear hMM hC hC0 hC1 hgl
        go_wp2_with fail
        refine (ifc_any n n (w1.heap.size + 1) (pnT f i) M C _ h7 (fun c _ => pn_lt (by omega)) hM hCn (HMM.out ▸ HC0.out) (HMM.out ▸ HC1.out) HP.out).mono ?_; rintro e w' ⟨rfl, rfl⟩
        have hI2 : Iw (wr.setCell ⟨w1.heap.size, i, none⟩ (.int .i64 (C : Nat))) (some ⟨w1.heap.size, 0, none⟩) n (fun a => if a < i + 1 then ((gcN f a : Nat) : Int) else 0) w1.heap.size :=
          HI.out.put hlt (by rw [if_pos (Nat.lt_succ_self i), HC.out]) (fun a _ ha => upto_step (gcN f) ha)
        have hG : wr.grownBy (wr.setCell ⟨w1.heap.size, i, none⟩ (.int .i64 (C : Nat))) (some w1.heap.size) := grown_setCell (World.grownBy.refl _ _) _
        have hP2 := HP.out.grown hG (by omega)
        have HU2 := Lib.hid (HU.out.grown hG (by omega))
        have HB2 : Hid (Below w.heap.size w (wr.setCell ⟨w1.heap.size, i, none⟩ (.int .i64 (C : Nat)))) := Lib.hid (HB.out.setCell (by dsimp only; omega) _)
        have HI2 := Lib.hid hI2
        have HP2 := Lib.hid hP2
        clear hI2 hP2 hG
        go_wp2
        refine name_world (fun wp hW => ?_)
        have HI3 : Hid (Iw wp (some ⟨w1.heap.size, 0, none⟩) n (fun a => if a < i + 1 then ((gcN f a : Nat) : Int) else 0) w1.heap.size) := Lib.hid (by subst hW; exact HI2.out)
        have HP3 : Hid (Us wp (some ⟨w1.heap.size + 1, 0, none⟩) n (pnT f i) (w1.heap.size + 1)) := Lib.hid (by subst hW; exact HP2.out)
        have HU3 : Hid (Us wp (some ⟨g, 0, none⟩) n (metN f n) g) := Lib.hid (by subst hW; exact HU2.out)
        have HB3 : Hid (Below w.heap.size w wp) := Lib.hid (by subst hW; exact HB2.out)
        clear hW
        obtain ⟨c1, z1, l1⟩ := HI3.out.c6 hlt
        obtain ⟨_, l2, p1, q1⟩ := HP3.out.at_ hCn
        rw [if_pos (Nat.lt_succ_self i), HC.out] at c1
        have hsh := shl_u ⟨i, by omega⟩
        have hor := or_anyu ⟨pnT f i C, pn_lt (by omega)⟩ ⟨i, by omega⟩
        have hV : ∀ c, c < n → c ≠ C → pnT f i c = pnT f (i + 1) c := fun c _ hc => by unfold pnT; simp only [maskI]; rw [if_neg (by rw [decide_eq_true_eq, HC.out]; exact fun e => hc e.symm)]; rfl
        have hV2 : pnT f (i + 1) C = pnT f i C ||| 2 ^ i := HC.out ▸ pn_put f i
        have HV := Lib.hid hV
        have HV2 := Lib.hid hV2
        dsimp only at hsh hor
        have hT7 : pnT f i C < 128 := pn_lt (by omega)
        have hP64 : 2 ^ i ≤ 64 := by have := Nat.pow_le_pow_right (n := 2) (by omega) (show i ≤ 6 by omega); omega
        have hO7 : pnT f i C ||| 2 ^ i < 128 := Nat.or_lt_two_pow (n := 7) hT7 (Nat.pow_lt_pow_right (by omega) (by omega))
        generalize hXX : pnT f i C ||| 2 ^ i = X at hor hO7
        generalize hTT : pnT f i C = Y at p1 hor hT7
        generalize hPP : 2 ^ i = P at hsh hor hP64
        have HXX := Lib.hid hXX
        clear hTT hPP hV hV2 hXX
        go_wp2
        go_still_tail 11, (by kernel_rfl)
        go_wp2
        go_roundw
        case rel =>
          have hg9 : wp.grownBy (wp.setCell ⟨w1.heap.size + 1, C, none⟩ (.int .u64 (X : Nat))).drew (some (w1.heap.size + 1)) := grown_drew (grown_setCell (World.grownBy.refl _ _) _)
          refine ⟨i + 1, by omega, by go_num, HI3.out.grown hg9 (by omega), ?_, HU3.out.grown hg9 (by omega), below_grown HB3.out hg9 (by omega) (by omega)⟩
          exact HP3.out.put hCn (by rw [HV2.out, HXX.out]) HV.out
        case measure => simp [intOf]; omega
      · obtain rfl : i = n := by omega
        go_wp2
        go_ret
        exact ⟨_, _, w1.heap.size, rfl, HI.out.congr (fun a ha => by rw [if_pos ha]), by omega, HB.out⟩

set_option maxHeartbeats 4000000 in
set_option maxRecDepth 10000 in
theorem ipt_any (n c1 g1 m c2 g2 : Nat) (f : Nat → Rt) (h7 : n ≤ 7) (hm : m ≤ 7) (hg : g1 ≠ g2) : ∀ (d k : Nat) (T : Nat → Nat) (w : World), k + d = n → (∀ c, c < m → T c < 128) → Us w (some ⟨g1, 0, none⟩) n (metN f n) g1 → Us w (some ⟨g2, 0, none⟩) m T g2 →
    Calls Try.prog 65 #[.slice (some ⟨g1, 0, none⟩) n c1, .slice (some ⟨g2, 0, none⟩) m c2, .int .i64 (k : Nat)] w fun e w' => ∃ b : Bool, e = .returned (.bool b) ∧ (b = true ↔ PExt f n m T k) ∧ (b = false → Us w' (some ⟨g2, 0, none⟩) m T g2) ∧ w.grownBy w' (some g2) := by
  intro d
  induction d with
  | zero =>
    intro k T w hd hT hU hP
    obtain rfl : k = n := by omega
    go_enter Try.func65, Try.ntmps65
    go_wp2
    go_ret
    exact ⟨true, rfl, ⟨fun _ => PExt.done, fun _ => rfl⟩, fun h => (by cases h), World.grownBy.refl _ _⟩
  | succ d ih =>
    intro k T w hd hT hU hP
    have hk : k < n := by omega
    have Hih := Lib.hid ih
    have HT := Lib.hid hT
    have HU := Lib.hid hU
    have HP := Lib.hid hP
    have hne : ((k : Int) == (n : Int)) = false := by simp; omega
    clear ih hT hU hP
    go_enter Try.func65, Try.ntmps65
    go_wp2
    go_loopw [15] (fun s wr => ∃ x : Nat, x ≤ m ∧ s = .int .i64 x ∧ (∀ y, y < x → T y &&& metN f n k = 0 → ¬ PExt f n m (putP T k y) (k + 1)) ∧ Us wr (some ⟨g2, 0, none⟩) m T g2 ∧ w.grownBy wr (some g2)) (fun s _ => m - (intOf s).toNat)
    case atStart => exact ⟨0, Nat.zero_le _, rfl, fun y hy => by omega, HP.out, World.grownBy.refl _ _⟩
    case round =>
      obtain ⟨x, hx, rfl, hno, hP, hG⟩ := hrel
      have HN := Lib.hid hno
      have HP := Lib.hid hP
      have HG := Lib.hid hG
      have HUr := Lib.hid (HU.out.grown hG hg)
      clear hno hP hG
      by_cases hlt : x < m
      · obtain ⟨_, _, e0, _⟩ := HUr.out.at_ hk
        obtain ⟨_, l2, p1, q1⟩ := HP.out.at_ hlt
        have hM : metN f n k < 128 := Nat.lt_of_lt_of_le (metN_lt f n k) (pow_le7 n h7)
        have hTx := HT.out x hlt
        have hand := and_u (T x) (metN f n k) hTx hM
        by_cases hz : T x &&& metN f n k = 0
        · have HZ := Lib.hid hz
          rw [hz] at hand
          have hsh := shl_u ⟨k, by omega⟩
          have hor := or_anyu ⟨T x, hTx⟩ ⟨k, by omega⟩
          dsimp only at hsh hor
          have hP64 : 2 ^ k ≤ 64 := by have := Nat.pow_le_pow_right (n := 2) (by omega) (show k ≤ 6 by omega); omega
          have hO7 : T x ||| 2 ^ k < 128 := Nat.or_lt_two_pow (n := 7) hTx (Nat.pow_lt_pow_right (by omega) (by omega))
          have hV : putP T k x x = T x ||| 2 ^ k := by unfold putP; rw [if_pos rfl]
          have hV2 : ∀ c, c < m → c ≠ x → T c = putP T k x c := fun c _ hc => by unfold putP; rw [if_neg hc]
          obtain ⟨X, hXX⟩ : ∃ X, T x ||| 2 ^ k = X := ⟨_, rfl⟩
          rw [hXX] at hor hO7 hV
          obtain ⟨Y, hYY⟩ : ∃ Y, T x = Y := ⟨_, rfl⟩
          have HY := Lib.hid hYY
          rw [hYY] at hor p1 hand hTx
          obtain ⟨M, hMM⟩ : ∃ M, metN f n k = M := ⟨_, rfl⟩
          rw [hMM] at e0 hM hand
          have HMM := Lib.hid hMM
          generalize hPP : 2 ^ k = P at hsh hor hP64
          have HV := Lib.hid hV
          have HV2 := Lib.hid hV2
          clear hMM hPP hz hV hV2 hXX hYY
          have hPn := HP.out.put (f' := putP T k x) (v := ((X : Nat) : Int)) hlt (by rw [HV.out]) HV2.out
          have hGn : wr.grownBy (wr.setCell ⟨g2, x, none⟩ (.int .u64 ((X : Nat) : Int))) (some g2) := grown_setCell (World.grownBy.refl _ _) _
          have hUn := HUr.out.grown hGn hg
          have HPn := Lib.hid hPn
          have HGn := Lib.hid hGn
          have HUn := Lib.hid hUn
          clear hPn hGn hUn
          go_wp2_with fail
          refine (Hih.out (k + 1) (putP T k x) _ (by omega) (putP_lt (by omega) HT.out) HUn.out HPn.out).mono ?_
          rintro e w3 ⟨b, rfl, hbe, hbf, hg3⟩
          have HBE := Lib.hid hbe
          have HBF := Lib.hid hbf
          have HG3 := Lib.hid ((HG.out.trans HGn.out).trans hg3)
          clear hbe hbf hg3
          cases b
          · have hPb := HBF.out rfl
            obtain ⟨_, l3, p3, q3⟩ := hPb.at_ hlt
            have HPb := Lib.hid hPb
            clear hPb
            go_wp2
            go_roundw
            case rel =>
              refine ⟨x + 1, by omega, by go_num, fun y hy h0 => ?_, HPb.out.put hlt (by rw [HY.out]) (fun c hc he => (HV2.out c hc he).symm), HG3.out.trans (grown_setCell (World.grownBy.refl _ _) _)⟩
              by_cases e : y = x
              · subst e; exact fun hp => by cases HBE.out.2 hp
              · exact HN.out y (by omega) h0
            case measure => simp [intOf]; omega
          · go_wp2
            go_ret
            exact ⟨true, rfl, ⟨fun _ => PExt.step hk hlt HZ.out (HBE.out.1 (by trivial)), fun _ => rfl⟩, fun h => (by cases h), HG3.out⟩
        · have HZ := Lib.hid hz
          obtain ⟨X, hXX⟩ : ∃ X, T x &&& metN f n k = X := ⟨_, rfl⟩
          rw [hXX] at hand hz
          obtain ⟨Y, hYY⟩ : ∃ Y, T x = Y := ⟨_, rfl⟩
          rw [hYY] at p1 hand hTx
          obtain ⟨M, hMM⟩ : ∃ M, metN f n k = M := ⟨_, rfl⟩
          rw [hMM] at e0 hM hand
          have HMM := Lib.hid hMM
          clear hXX hYY hMM
          have hz2 : ((X : Int) == 0) = false := by simp; omega
          go_wp2
          go_roundw
          case rel =>
            refine ⟨x + 1, by omega, by go_num, fun y hy h0 => ?_, HP.out, HG.out⟩
            by_cases e : y = x
            · subst e; exact absurd h0 HZ.out
            · exact HN.out y (by omega) h0
          case measure => simp [intOf]; omega
      · obtain rfl : x = m := by omega
        go_wp2
        go_ret
        refine ⟨false, rfl, ⟨fun hh => (by cases hh), fun hp => ?_⟩, fun _ => HP.out, HG.out⟩
        obtain ⟨y, hy, h0, he⟩ := PExt.first hk hp
        exact absurd he (HN.out y hy h0)

set_option maxHeartbeats 2000000 in
set_option maxRecDepth 20000 in
theorem icl_any (A : Option Addr) (n cap : Nat) (f : Nat → Rt) (w : World) (hn : n ≤ maxLen) (hr : Rs w A n f) :
    Calls Try.prog 32 #[.slice A n cap] w fun e w' => e = .returned (.int .i64 (clF f n)) ∧ Below w.heap.size w w' := by
  have Hn := Lib.hid hn
  have Hr := Lib.hid hr
  clear hn hr
  cases hl : laidF f n
  · have H : Hid (clF f n = -1) := Lib.hid (by unfold clF; rw [hl]; rfl)
    go_enter Try.func32, Try.ntmps32
    go_wp2_with fail
    refine (ilaid_val A n cap f false hl _ Hn.out Hr.out).mono ?_; rintro e w1 ⟨rfl, hb1⟩; have hz1 := hb1.size; (try simp at hz1)
    go_wp2
    go_ret
    exact ⟨ret_int (by rw [H.out]), by (repeat (first | with_reducible exact Below.refl _ _ | with_reducible assumption | ((with_reducible refine Below.alloc ?_ ?_ _); rotate_left; focus (first | with_reducible exact Nat.le_refl _ | omega | (simp; done) | (simp; omega))) | ((with_reducible refine Below.setCell ?_ ?_ _); rotate_left; focus (first | with_reducible exact Nat.le_refl _ | omega | (simp; done) | (simp; omega))) | (with_reducible refine Below.drew ?_) | ((with_reducible refine Below.trans ?_ (Below.mono (by with_reducible assumption) ?_)); rotate_left; focus (first | with_reducible exact Nat.le_refl _ | omega | (simp; done) | (simp; omega)))))⟩
  · have h7 := (laidF_ok hl).1
    have H : Hid (clF f n = coN f n) := Lib.hid (clF_yes hl)
    go_enter Try.func32, Try.ntmps32
    go_wp2_with fail
    refine (ilaid_val A n cap f true hl _ Hn.out Hr.out).mono ?_; rintro e w1 ⟨rfl, hb1⟩; have hz1 := hb1.size; (try simp at hz1)
    go_wp2_with fail
    refine (met_any A n cap f _ h7 (Hr.out.below hb1)).mono ?_; rintro e w2 ⟨g, rfl, hg, hus, hb2, hgl⟩
    have HU := Lib.hid hus
    have HB : Hid (Below w.heap.size w w2) := Lib.hid (hb1.trans (hb2.mono hb1.size))
    have hz2 : w.heap.size ≤ w2.heap.size := HB.out.size
    clear hus hb1 hb2
    go_wp2
    go_loopw [12] (fun s wr => ∃ m : Nat, m ≤ n ∧ s = .int .i64 m ∧ (∀ k, k < m → ¬ ∃ c, Co f n k c) ∧ Us wr (some ⟨g, 0, none⟩) n (metN f n) g ∧ Below w.heap.size w wr ∧ g < wr.heap.size) (fun s _ => n - (intOf s).toNat)
    case atStart => exact ⟨0, Nat.zero_le _, rfl, fun k hk => by omega, HU.out, HB.out, hgl⟩
    case round =>
      obtain ⟨m, hm, rfl, hno, hU, hB, hgr⟩ := hrel
      have HN := Lib.hid hno
      have HU := Lib.hid hU
      have HB := Lib.hid hB
      have hzr : w.heap.size ≤ wr.heap.size := hB.size
      clear hno hU hB
      by_cases hlt : m < n
      · have hmk := make_sets m m (Nat.le_refl _) (by omega)
        have hba : Below wr.heap.size wr (wr.alloc (.cells (madeCells #[.int .u64 0] m) 55)) := (Below.refl _ _).alloc (Nat.le_refl _) _
        have HBA := Lib.hid hba
        clear hba
        go_wp2_with fail
        refine (ipt_any n n g m m wr.heap.size f h7 (by omega) (by omega) n 0 (fun _ => 0) _ (by omega) (fun _ _ => (by omega)) (HU.out.below HBA.out) (Us.made wr m)).mono ?_
        rintro e w3 ⟨b, rfl, hbe, _, hg3⟩
        have HBE := Lib.hid hbe
        have hB3 : Below w.heap.size w w3 := below_grown (HB.out.trans (HBA.out.mono hzr)) hg3 (by simp; omega) hzr
        have HB3 := Lib.hid hB3
        have HU3 := Lib.hid ((HU.out.below HBA.out).grown hg3 (by omega))
        have hg4 : g < w3.heap.size := Nat.lt_of_lt_of_le (by simp; omega) hg3.size
        clear hbe hB3 hg3 hmk
        cases b
        · go_wp2
          go_roundw
          case rel =>
            refine ⟨m + 1, by omega, by go_num, fun k hk => ?_, HU3.out, HB3.out, hg4⟩
            by_cases e : k = m
            · subst e; exact fun hp => by cases HBE.out.2 ((pext_co f n k).2 hp)
            · exact HN.out k (by omega)
          case measure => simp [intOf]; omega
        · have hco : coN f n = m := coN_eq ⟨(pext_co f n m).1 (HBE.out.1 (by trivial)), fun k c hc => Nat.le_of_not_lt fun hkm => HN.out k hkm ⟨c, hc⟩⟩
          have HCo := Lib.hid hco
          clear hco
          go_wp2
          go_ret
          exact ⟨ret_int (by rw [H.out, HCo.out]), HB3.out⟩
      · obtain rfl : m = n := by omega
        have hco : coN f m = m := Nat.le_antisymm (coN_le f m) (Nat.le_of_not_lt fun hc => HN.out _ hc (coN_is f m).1)
        have HCo := Lib.hid hco
        clear hco
        go_wp2
        go_ret
        exact ⟨ret_int (by rw [H.out, HCo.out]), HB.out⟩
end Go.Proofs.Ytkfeeijiockdhaa
