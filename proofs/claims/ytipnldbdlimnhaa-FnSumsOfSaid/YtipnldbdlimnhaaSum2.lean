
/- Chapter 2: SumsOf of impl: its choices come from a function that yields them. -/
import Derived.RangeFuncNested
import Derived.RangeFuncBound
import Derived.RangeFuncCalls
import Derived.RangeFuncLeaves
import Derived.Shelf.Abstract
import Derived.Shelf.RegionOpen
import Derived.OwnWalkIn
import Derived.TacticsInMore
import Derived.LoopNIn
import Derived.LoopIn
import Derived.Test.YtipnldbdlimnhaaSum
namespace Go.Proofs.Ytipnldbdlimnhaa
open Go.RowKit Go.Shelf Go.BigFrame
set_option linter.unusedVariables false
attribute [local go_sem] Oper.semAt_some
/-- A choice that is yielded. -/
abbrev Ch (Q : Nat) : Type := { s : Nat // 1 ≤ s ∧ s ≤ Q }
/-- The first k choices. -/
def chTo (Q : Nat) : Nat → List (Ch Q)
  | 0 => []
  | k + 1 => chTo Q k ++ (if h : k + 1 ≤ Q then [⟨k + 1, by omega, h⟩] else [])
theorem chTo_succ {Q k : Nat} (h : k + 1 ≤ Q) : chTo Q (k + 1) = chTo Q k ++ [⟨k + 1, by omega, h⟩] := by simp only [chTo]; rw [dif_pos h]
theorem chTo_len {Q : Nat} : ∀ {k : Nat}, k ≤ Q → (chTo Q k).length = k
  | 0, _ => rfl
  | k + 1, h => by rw [chTo_succ h, List.length_append, chTo_len (by omega : k ≤ Q)]; rfl
/-- What the cell of the count holds is kept. -/
def KpC (cb : Nat) (W W' : World) : Prop := W'.cell? ⟨cb, 0, none⟩ = W.cell? ⟨cb, 0, none⟩

theorem allof_val (n Q : Nat) (h : 2 ^ n - 1 = Q) (w : World) (hn : n ≤ 7) :
    Calls Try.prog 55 #[.int .i64 n] w fun e w' => e = .returned (.int .u64 (Q : Nat)) ∧ w = w' := h ▸ allof_any n w hn
set_option maxRecDepth 100000 in
set_option maxHeartbeats 1000000 in
theorem yields_in (n : Nat) (hn : 1 ≤ n) (l cb c Q : Nat) (h7 : c ≤ 7) (hQ : 2 ^ c - 1 = Q) (hQ1 : Q ≤ 127) (J Jx : List (Ch Q) → World → Prop)
    (hY : ∀ pre (x : Ch Q) W, J pre W → pre.length < Q → YieldAt Fence.wide (n - 1) Try.prog l #[.int .u64 (x.1 : Nat)] W fun e W' =>
      (e = .returned (.bool true) ∧ J (pre ++ [x]) W' ∧ KpC cb W W') ∨ (e = .returned (.bool false) ∧ Jx (pre ++ [x]) W'))
    (W : World) (hc : W.cell? ⟨cb, 0, none⟩ = some (.int .i64 (c : Nat))) (h0 : J [] W) :
    CallsIn Fence.wide n Try.prog 66 #[.func (.yield l) #[] #[], .pointer (some ⟨cb, 0, none⟩)] W fun e W' => (∃ v, e = .returned v) ∧
      ((∃ ys, ys = chTo Q Q ∧ J ys W') ∨ (∃ pre, True ∧ Jx pre W')) := by
  have HQ := Lib.hid hQ
  have HY := Lib.hid hY
  clear hQ hY
  refine callsIn_of_wp Try.func66 rfl trivial ?_ rfl
  simp only [Try.ntmps66, List.size_toArray, List.length_cons, List.length_nil, Nat.reduceAdd, Nat.reduceSub, Array.replicate_succ, Array.replicate_zero, List.push_toArray, List.append_toArray, List.nil_append, List.cons_append]
  gi_wp2
  gi_loopw [3] (fun s wr => ∃ j : Nat, 1 ≤ j ∧ j ≤ Q + 1 ∧ s = .int .u64 (j : Nat) ∧ J (chTo Q (j - 1)) wr ∧ wr.cell? ⟨cb, 0, none⟩ = some (.int .i64 (c : Nat))) (fun s _ => 200 - (intOf s).toNat)
  case atStart => exact ⟨1, Nat.le_refl _, by omega, rfl, h0, hc⟩
  case round =>
    obtain ⟨j, hj1, hj, rfl, hJ, hcc⟩ := hrel
    have HJ := Lib.hid hJ
    clear hJ
    by_cases hlt : j ≤ Q
    · obtain ⟨fn, tmps, assign, body, hy, hR⟩ := HY.out (chTo Q (j - 1)) ⟨j, hj1, hlt⟩ wr HJ.out (by rw [chTo_len (by omega)]; omega)
      dsimp only at hy
      have hch : chTo Q j = chTo Q (j - 1) ++ [⟨j, hj1, hlt⟩] := by
        have := chTo_succ (Q := Q) (k := j - 1) (by omega)
        simp only [Nat.sub_add_cancel hj1] at this
        exact this
      have HC := Lib.hid hch
      have HR := Lib.hid hR
      clear hR hch
      gi_wp2_with (refine ⟨trivial, ?_⟩; gi_at_call 55; refine (callsIn_wide.2 (allof_val c Q HQ.out _ h7)).mono ?_; rintro e w' ⟨rfl, rfl⟩)
      refine HR.out.mono ?_
      rintro e W3 (⟨rfl, hJ3, hk3⟩ | ⟨rfl, hJx3⟩)
      · have hc3 : W3.cell? ⟨cb, 0, none⟩ = some (.int .i64 (c : Nat)) := Eq.trans hk3 hcc
        have HJ3 := Lib.hid hJ3
        clear hJ3 hk3
        gi_wp2
        go_roundw
        case rel => exact ⟨j + 1, by omega, by omega, by go_num, by rw [Nat.add_sub_cancel, HC.out]; exact HJ3.out, hc3⟩
        case measure => simp [intOf]; omega
      · gi_wp2
        refine bodyPost_ret (results_none rfl _ _ _) rfl ?_
        exact ⟨⟨_, rfl⟩, .inr ⟨_, trivial, hJx3⟩⟩
    · have hjQ : j = Q + 1 := by omega
      have HjQ := Lib.hid hjQ
      clear hjQ
      gi_wp2_with (refine ⟨trivial, ?_⟩; gi_at_call 55; refine (callsIn_wide.2 (allof_val c Q HQ.out _ h7)).mono ?_; rintro e w' ⟨rfl, rfl⟩)
      go_end0
      exact ⟨⟨_, rfl⟩, .inl ⟨chTo Q Q, rfl, by have h := HJ.out; rw [HjQ.out, Nat.add_sub_cancel] at h; exact h⟩⟩

theorem grown_weak {w w' : World} (h : w.grownBy w' none) (r : Nat) : w.grownBy w' (some r) := ⟨h.os, h.tape, h.output, h.size, fun k hk _ => h.block k hk (by simp)⟩
theorem grown_join {a b c : World} {g r : Nat} (h : a.grownBy b (some g)) (k : b.grownBy c (some r)) (hr : a.heap.size ≤ r) : a.grownBy c (some g) :=
  ⟨k.os.trans h.os, k.tape.trans h.tape, k.output.trans h.output, Nat.le_trans h.size k.size, fun i hi hn => (k.block i (Nat.lt_of_lt_of_le hi h.size) (by intro e; injection e with e; omega)).trans (h.block i hi hn)⟩
theorem grown_chain {a b c : World} {g : Nat} (h : a.grownBy b (some g)) (k : b.grownBy c (some g)) : a.grownBy c (some g) := World.grownBy.trans h k
def accL (f : Nat → Rt) (n : Nat) {Q : Nat} (pre : List (Ch Q)) (j : Nat) : Int := pre.foldl (fun s x => s + addF f n j x.1) 0
theorem accL_snoc (f : Nat → Rt) (n : Nat) {Q : Nat} (pre : List (Ch Q)) (x : Ch Q) (j : Nat) : accL f n (pre ++ [x]) j = accL f n pre j + addF f n j x.1 := by unfold accL; simp
theorem accL_bd (f : Nat → Rt) (n : Nat) {Q : Nat} (pre : List (Ch Q)) (j : Nat) : 0 ≤ accL f n pre j ∧ accL f n pre j ≤ 400 * pre.length := by
  have H : ∀ (xs : List (Ch Q)) (s : Int), s ≤ xs.foldl (fun s x => s + addF f n j x.1) s ∧ xs.foldl (fun s x => s + addF f n j x.1) s ≤ s + 400 * xs.length := by
    intro xs
    induction xs with
    | nil => intro s; simp
    | cons x xs ih => intro s; have := ih (s + addF f n j x.1); have h := addF_bd f n j x.1; simp only [List.foldl_cons, List.length_cons]; omega
  have := H pre 0
  unfold accL
  omega
theorem accL_ch (f : Nat → Rt) (n Q j : Nat) : ∀ k, k ≤ Q → accL f n (chTo Q k) j = accF f n (k + 1) j := by
  intro k
  induction k with
  | zero => intro _; rw [accF_one]; rfl
  | succ k ih => intro h; rw [chTo_succ h, accL_snoc, ih (by omega)]; rfl
def Ins (f : Nat → Rt) (n Q g : Nat) (W0 : World) (pre : List (Ch Q)) (W : World) : Prop := Iw W (some ⟨g, 0, none⟩) n (accL f n pre) g ∧ W0.grownBy W (some g)
theorem Ins.own (f : Nat → Rt) (n Q g : Nat) (W0 : World) (hg : g < W0.heap.size) : OwnFrom W0.heap.size (Ins f n Q g W0) := by
  intro s W W' row hs hgr hr
  cases row with
  | none => exact ⟨hs.1.grown (grown_weak hgr (g + 1)) (by omega), grown_join hs.2 (grown_weak hgr W0.heap.size) (Nat.le_refl _)⟩
  | some r =>
    have hB := (hr r rfl).1
    exact ⟨hs.1.grown hgr (by omega), grown_join hs.2 hgr hB⟩
theorem body_end {f : Nat → Rt} {n Q g cb : Nat} {W0 W W' : World} {pre : List (Ch Q)} {x : Ch Q} (hg : W0.grownBy W (some g)) (hgl : g < W0.heap.size) (hcb : cb < W0.heap.size) (hne : cb ≠ g) (hG : W.grownBy W' (some g))
    (hI : Iw W' (some ⟨g, 0, none⟩) n (accL f n (pre ++ [x])) g) : KeepsFrom W0.heap.size W W' ∧ KpC cb W W' ∧ Ins f n Q g W0 (pre ++ [x]) W' :=
  ⟨KeepsFrom.of_grownBy hG (fun j e => by injection e with e; omega), grown_cell hG (Nat.lt_of_lt_of_le hcb hg.size) hne, hI, grown_chain hg hG⟩
theorem commonin_val (s : Nat) (A : Option Addr) (n cap : Nat) (f : Nat → Rt) (C : Rt) (b : Bool) (h1 : onlyR (foldC (subTo f s n)) = C) (h2 : okB (foldC (subTo f s n)) = b) (w : World) (hs : s < 128) (hn : n ≤ 7) (hr : Rs w A n f) :
    Calls Try.prog 50 #[.int .u64 s, .slice A n cap] w fun e w' => e = .returned (.tuple #[rv C, .bool b]) ∧ Below w.heap.size w w' := by
  subst h1 h2; exact commonin_any s A n cap f w hs hn hr
theorem size_val (s L : Nat) (h : popTo s 7 = L) (w : World) (hs : s < 128) :
    Calls Try.prog 51 #[.int .u64 s] w fun e w' => e = .returned (.int .i64 (L : Nat)) ∧ w = w' := h ▸ size_any s w hs
theorem iarea_val9 (a : Rt) (v : Int) (h : areaM a = v) (w : World) :
    Calls Try.prog 21 #[rv a] w fun e w' => e = .returned (.int .i64 v) ∧ Below w.heap.size w w' := h ▸ iarea_any a w
theorem KpC.put {cb B : Nat} (hcb : cb < B) (W : World) (l : Nat) (o o' : Obj) (hl : B ≤ l) (_ : W.heap[l]? = some o) (_ : o.isCells = false) (_ : o.isWalk = false) : KpC cb W (W.putObj l o') :=
  World.cell?_of_block (World.putObj_heap_other (by dsimp only; omega))

set_option maxHeartbeats 400000 in
theorem subsetsof_any (c : Nat) (w : World) :
    Calls Try.prog 49 #[.int .i64 c] w fun e w' => e = .returned (.func (.func 66) #[] #[.pointer (some ⟨w.heap.size, 0, none⟩)]) ∧ w' = w.alloc (.cells #[.int .i64 c] 3) := by
  go_enter Try.func49, Try.ntmps49
  go_wp2
  go_ret
  exact ⟨rfl, rfl⟩

set_option maxRecDepth 100000 in
set_option maxHeartbeats 40000000 in
theorem isums_yes (A : Option Addr) (n cap : Nat) (f : Nat → Rt) (w : World) (hn : n ≤ maxLen) (hr : Rs w A n f) (hl : laidF f n = true) :
    Calls Try.prog 20 #[.slice A n cap] w (IntsPost n (sumsAt f n) w) := by
  have Hn := Lib.hid hn
  have Hr := Lib.hid hr
  clear hn hr
  have HBA := Lib.hid ((Below.refl w.heap.size w).alloc (Nat.le_refl _) (.cells #[.slice A n cap] 23))
  obtain ⟨h7, hok⟩ := laidF_ok hl
  have Hok := Lib.hid hok
  clear hok
  have hmk := make_ints n n (Nat.le_refl _) (by omega)
  have hP1 := pow_le7 n h7
  have hP2 : 0 < 2 ^ n := Nat.two_pow_pos n
  obtain ⟨Q, HQ⟩ : ∃ Q, Hid (2 ^ n - 1 = Q) := ⟨_, Lib.hid rfl⟩
  have hQ1 : Q ≤ 127 := by have := HQ.out; omega
  have HP : Hid (2 ^ n = Q + 1) := Lib.hid (by have := HQ.out; omega)
  clear hP1 hP2
  refine (callsIn_wide (n := 3)).1 ?_
  refine callsIn_of_wp_marks Try.func20 rfl trivial ?_ rfl
  simp only [Try.ntmps20, List.size_toArray, List.length_cons, List.length_nil, Nat.reduceAdd, Nat.reduceSub, Array.replicate_succ, Array.replicate_zero, List.push_toArray, List.append_toArray, List.nil_append, List.cons_append]
  gi_wp2_with (first | (refine ⟨trivial, ?_⟩; gi_at_call 14; refine (callsIn_wide.2 (ilaid_val A n cap f true hl _ Hn.out (Hr.out.below HBA.out))).mono ?_; rintro e w1 ⟨rfl, hb1⟩; have hz1 := hb1.size; (try simp at hz1); have _ : w.heap.size < w1.heap.size := (by first | (simp; done) | omega | (simp; omega)); have _ := fun o => hb1.cell (p := ⟨w.heap.size, o, none⟩) (by first | (simp; done) | omega | (simp; omega))) | (refine ⟨trivial, ?_⟩; gi_at_call 49; refine (callsIn_wide.2 (subsetsof_any n _)).mono ?_; rintro e w' ⟨rfl, rfl⟩))
  have hI0 : Iw (((w1.alloc (.cells (madeCells #[.int .i64 0] n) 3)).alloc (.cells #[.slice (some ⟨w1.heap.size, 0, none⟩) n n] 31)).alloc (.cells #[.int .i64 (n : Nat)] 3)) (some ⟨w1.heap.size, 0, none⟩) n (accL f n (Q := Q) []) w1.heap.size := (((Iw.made w1 n).below ((Below.refl _ _).alloc (Nat.le_refl _) _)).below ((Below.refl _ _).alloc (Nat.le_refl _) _)).congr (fun i _ => rfl)
  have HI0 := Lib.hid hI0
  clear hI0
  have hgl : w1.heap.size < (((w1.alloc (.cells (madeCells #[.int .i64 0] n) 3)).alloc (.cells #[.slice (some ⟨w1.heap.size, 0, none⟩) n n] 31)).alloc (.cells #[.int .i64 (n : Nat)] 3)).heap.size := by simp; omega
  have hcl : w1.heap.size + 1 + 1 < (((w1.alloc (.cells (madeCells #[.int .i64 0] n) 3)).alloc (.cells #[.slice (some ⟨w1.heap.size, 0, none⟩) n n] 31)).alloc (.cells #[.int .i64 (n : Nat)] 3)).heap.size := by simp
  have HGL := Lib.hid hgl
  have HCL := Lib.hid hcl
  clear hgl hcl
  have HC0 : Hid ((((w1.alloc (.cells (madeCells #[.int .i64 0] n) 3)).alloc (.cells #[.slice (some ⟨w1.heap.size, 0, none⟩) n n] 31)).alloc (.cells #[.int .i64 (n : Nat)] 3)).cell? ⟨w1.heap.size + 1 + 1, 0, none⟩ = some (.int .i64 (n : Nat))) := Lib.hid (by go_simp)
  have hb10 : Below w1.heap.size w1 (((w1.alloc (.cells (madeCells #[.int .i64 0] n) 3)).alloc (.cells #[.slice (some ⟨w1.heap.size, 0, none⟩) n n] 31)).alloc (.cells #[.int .i64 (n : Nat)] 3)) := by (repeat (first | with_reducible exact Below.refl _ _ | with_reducible assumption | ((with_reducible refine Below.alloc ?_ ?_ _); rotate_left; focus (first | with_reducible exact Nat.le_refl _ | omega | (simp; done) | (simp; omega))) | ((with_reducible refine Below.setCell ?_ ?_ _); rotate_left; focus (first | with_reducible exact Nat.le_refl _ | omega | (simp; done) | (simp; omega))) | (with_reducible refine Below.drew ?_) | ((with_reducible refine Below.trans ?_ (Below.mono (by with_reducible assumption) ?_)); rotate_left; focus (first | with_reducible exact Nat.le_refl _ | omega | (simp; done) | (simp; omega)))))
  have HT1 : Hid ((((w1.alloc (.cells (madeCells #[.int .i64 0] n) 3)).alloc (.cells #[.slice (some ⟨w1.heap.size, 0, none⟩) n n] 31)).alloc (.cells #[.int .i64 (n : Nat)] 3)).cell? ⟨w.heap.size, 0, none⟩ = some (.slice A n cap)) := Lib.hid ((hb10.cell (p := ⟨w.heap.size, 0, none⟩) (by dsimp only; omega)).trans ((hb1.cell (p := ⟨w.heap.size, 0, none⟩) (by simp)).trans (by go_simp)))
  have HT3 : Hid ((((w1.alloc (.cells (madeCells #[.int .i64 0] n) 3)).alloc (.cells #[.slice (some ⟨w1.heap.size, 0, none⟩) n n] 31)).alloc (.cells #[.int .i64 (n : Nat)] 3)).cell? ⟨w1.heap.size + 1, 0, none⟩ = some (.slice (some ⟨w1.heap.size, 0, none⟩) n n)) := Lib.hid (by go_simp)
  clear hb10
  refine wpIn_rangeFunc_ownG rfl (by omega) (gf := 66) (lb := #[.pointer (some ⟨w1.heap.size + 1 + 1, 0, none⟩)]) rfl trivial (enters_of Try.func66 (by kernel_rfl) rfl)
    (encs := fun x : Ch Q => #[Value.int .u64 (x.1 : Nat)]) (Kp := KpC (w1.heap.size + 1 + 1)) (S := fun ys => ys = chTo Q Q) (Sp := fun _ => True) (N := Q) (w0 := (((w1.alloc (.cells (madeCells #[.int .i64 0] n) 3)).alloc (.cells #[.slice (some ⟨w1.heap.size, 0, none⟩) n n] 31)).alloc (.cells #[.int .i64 (n : Nat)] 3)))
    (fun l J Jx W hW _ _ hY h0 => yields_in (3 - 1) (by omega) l (w1.heap.size + 1 + 1) n Q h7 HQ.out hQ1 J Jx hY W ((hW.cell (p := ⟨w1.heap.size + 1 + 1, 0, none⟩) HCL.out).trans HC0.out) h0)
    (fun h k => Eq.trans k h) (fun W l o o' hl h1 h2 h3 => KpC.put HCL.out W l o o' hl h1 h2 h3) (Below.refl _ _) (fun _ => rfl)
    (Ins f n Q w1.heap.size (((w1.alloc (.cells (madeCells #[.int .i64 0] n) 3)).alloc (.cells #[.slice (some ⟨w1.heap.size, 0, none⟩) n n] 31)).alloc (.cells #[.int .i64 (n : Nat)] 3))) (fun _ _ _ => False) (Ins.own f n Q w1.heap.size (((w1.alloc (.cells (madeCells #[.int .i64 0] n) 3)).alloc (.cells #[.slice (some ⟨w1.heap.size, 0, none⟩) n n] 31)).alloc (.cells #[.int .i64 (n : Nat)] 3)) HGL.out) (fun _ _ _ _ _ hs _ _ => hs)
    ⟨HI0.out, World.grownBy.refl _ _⟩ (fun x : Ch Q => { tmps := #[.slice A n cap, .pointer (some ⟨w.heap.size, 0, none⟩), .slice none 0 0, .pointer (some ⟨w1.heap.size + 1, 0, none⟩), .int .u64 (x.1 : Nat), undef, undef, .slice A n cap, .bool true, .bool false, .slice A n cap, .int .i64 (n : Nat), .slice (some ⟨w1.heap.size, 0, none⟩) n n, .slice A n cap, .int .i64 (n : Nat), .func (.func 66) #[] #[.pointer (some ⟨w1.heap.size + 1 + 1, 0, none⟩)], .int .u64 (x.1 : Nat), undef, undef, undef, undef, undef, undef, undef, undef, undef, undef, undef, undef, undef, undef, undef, undef, undef, undef], defers := [] }) ?assign ?body ?done ?stop
  case assign =>
    intro l x W K hK
    gi_wp2
    exact hK
  case body =>
    rintro l pre x W ⟨hIw, hgr⟩ hlen
    obtain ⟨s, hs1, hs2⟩ := x
    have hs3 : s < 128 := by omega
    have HIw := Lib.hid hIw
    have HGr := Lib.hid hgr
    have hBW : Below w.heap.size w W := below_grown (by (repeat (first | with_reducible exact Below.refl _ _ | with_reducible assumption | ((with_reducible refine Below.alloc ?_ ?_ _); rotate_left; focus (first | with_reducible exact Nat.le_refl _ | omega | (simp; done) | (simp; omega))) | ((with_reducible refine Below.setCell ?_ ?_ _); rotate_left; focus (first | with_reducible exact Nat.le_refl _ | omega | (simp; done) | (simp; omega))) | (with_reducible refine Below.drew ?_) | ((with_reducible refine Below.trans ?_ (Below.mono (by with_reducible assumption) ?_)); rotate_left; focus (first | with_reducible exact Nat.le_refl _ | omega | (simp; done) | (simp; omega)))))) hgr (by simp; omega) (by omega)
    have HBW := Lib.hid hBW
    have hzW : w1.heap.size + 1 + 1 + 1 ≤ W.heap.size := by have h := hgr.size; simp at h; omega
    have hT1 := (grown_cell (b := w.heap.size) (o := 0) hgr (by simp; omega) (by omega)).trans HT1.out
    have hT3 := (grown_cell (b := w1.heap.size + 1) (o := 0) hgr (by simp) (by omega)).trans HT3.out
    have HRW := Lib.hid (Hr.out.below hBW)
    clear hIw hgr hBW
    dsimp only
    cases hO : okB (foldC (subTo f s n))
    · have hC : onlyR (foldC (subTo f s n)) = Rt.zero := by unfold onlyR; rw [hO]; rfl
      gi_wp2_with (refine ⟨trivial, ?_⟩; gi_at_call 50; refine (CallsIn.inRound l (callsIn_wide.2 (commonin_val s A n cap f Rt.zero false hC hO _ hs3 h7 HRW.out))).mono ?_; rintro e w2 ⟨rfl, hb2⟩; have hz2 := hb2.size)
      refine body_end HGr.out HGL.out HCL.out (by omega) (grown_below (World.grownBy.refl W _) (hb2.alloc hz2 _)) ?_
      exact (HIw.out.below (hb2.alloc hz2 _)).congr (fun j _ => by rw [accL_snoc, add_not f n j s hO, Int.add_zero])
    · have hC : onlyR (foldC (subTo f s n)) = foldC (subTo f s n) := by unfold onlyR; rw [hO]; rfl
      generalize hCe : foldC (subTo f s n) = C at hC
      have HCe := Lib.hid hCe
      have hO' : okB C = true := by rw [← hCe]; exact hO
      have hC2 : onlyR (foldC (subTo f s n)) = C := by rw [hCe]; exact hC
      have HO' := Lib.hid hO
      have hOC : okB (foldC (subTo f s n)) = true := hO
      have HC2 := Lib.hid hC2
      obtain ⟨V, hV⟩ : ∃ V, areaM C = V := ⟨_, rfl⟩
      obtain ⟨L, hL⟩ : ∃ L, popTo s n = L := ⟨_, rfl⟩
      have hLp : 0 < L := by rw [← hL]; exact popTo_pos hs1 (by rw [HP.out]; omega)
      have hLn : L ≤ n := by rw [← hL]; exact popTo_le s n
      have hL7 : popTo s 7 = L := by
        have h := popTo_small s n (by rw [HP.out]; omega) (7 - n)
        rw [show n + (7 - n) = 7 by omega] at h
        rw [h, hL]
      have hVb := addF_bd f n (L - 1) s
      rw [add_yes f n (L - 1) s hOC, hL, if_pos (by omega), hCe, hV] at hVb
      obtain ⟨v1, v2⟩ := hVb
      obtain ⟨a1, a2⟩ := accL_bd f n pre (L - 1)
      have hLi : ((L : Int) - 1).toNat = L - 1 := by omega
      have hi1 : (0 : Int) ≤ (L : Int) - 1 := by omega
      have hi2 : (L : Int) - 1 < (n : Int) := by omega
      have hi3 : L ≤ n := hLn
      have HL := Lib.hid hL
      have HV := Lib.hid hV
      clear hCe hC hO hO' hC2 hOC hL hV
      gi_wp2_with (refine ⟨trivial, ?_⟩; gi_at_call 50; refine (CallsIn.inRound l (callsIn_wide.2 (commonin_val s A n cap f C true HC2.out HO'.out _ hs3 h7 HRW.out))).mono ?_; rintro e w2 ⟨rfl, hb2⟩; have hz2 := hb2.size)
      have hI2 := HIw.out.below hb2
      have HI2 := Lib.hid hI2
      rcases hI2 with h0 | ⟨_, hg1, hcc, hff⟩
      · omega
      have d0 := hcc (L - 1) (by omega)
      have e0 := hff (L - 1) (by omega)
      generalize hS : accL f n pre (L - 1) = S0 at d0 a1 a2
      have HS0 := Lib.hid hS
      clear hcc hff hS
      have hleaf : ∀ wD : World, Below w2.heap.size w2 wD → KeepsFrom (((w1.alloc (.cells (madeCells #[.int .i64 0] n) 3)).alloc (.cells #[.slice (some ⟨w1.heap.size, 0, none⟩) n n] 31)).alloc (.cells #[.int .i64 (n : Nat)] 3)).heap.size W (wD.setCell ⟨w1.heap.size, L - 1, none⟩ (.int .i64 (S0 + V))) ∧ KpC (w1.heap.size + 1 + 1) W (wD.setCell ⟨w1.heap.size, L - 1, none⟩ (.int .i64 (S0 + V))) ∧ Ins f n Q w1.heap.size (((w1.alloc (.cells (madeCells #[.int .i64 0] n) 3)).alloc (.cells #[.slice (some ⟨w1.heap.size, 0, none⟩) n n] 31)).alloc (.cells #[.int .i64 (n : Nat)] 3)) (pre ++ [⟨s, hs1, hs2⟩]) (wD.setCell ⟨w1.heap.size, L - 1, none⟩ (.int .i64 (S0 + V))) := by
        intro wD hbE
        refine body_end HGr.out HGL.out HCL.out (by omega) (grown_setCell (grown_below (World.grownBy.refl W _) (hb2.trans (hbE.mono hz2))) _) ?_
        have hset := (HI2.out.below hbE).set (k := L - 1) (f' := accL f n (pre ++ [(⟨s, hs1, hs2⟩ : Ch Q)])) (by omega) (fun i _ hne => by rw [accL_snoc, add_yes f n i s HO'.out, HL.out, if_neg (by omega), Int.add_zero])
        rw [accL_snoc, add_yes f n (L - 1) s HO'.out, HL.out, if_pos (by omega), HCe.out, HV.out, HS0.out] at hset
        exact hset
      have HLeaf := Lib.hid hleaf
      clear hleaf
      have hmx : Try.prog.follows .mixedOrders = true := by kernel_rfl
      have hT3' := (hb2.cell (p := ⟨w1.heap.size + 1, 0, none⟩) (by dsimp only; omega)).trans hT3
      have hl3 : w1.heap.size + 1 < w2.heap.size := by omega
      have hl4 : w1.heap.size < w2.heap.size := by omega
      have hw1 : IntKind.i64.wrap ((L : Int) - 1) = (L : Int) - 1 := IntWalk.i64_in _ (by omega)
      have hw2 : IntKind.i64.wrap (S0 + V) = S0 + V := IntWalk.i64_in _ (by omega)
      gi_region_with_o (first | (refine ⟨trivial, ?_⟩; gi_at_call 51; refine (CallsIn.inRound l (callsIn_wide.2 (size_val s L hL7 _ hs3))).mono ?_; rintro e w' ⟨rfl, rfl⟩) | (refine ⟨trivial, ?_⟩; gi_at_call 21; refine (CallsIn.inRound l (callsIn_wide.2 (iarea_val9 C V HV.out _))).mono ?_; rintro e wD ⟨rfl, hbD⟩; have hzD := hbD.size; (try simp at hzD); (try (have _ := fun o => hbD.cell (p := ⟨w1.heap.size, o, none⟩) (by first | omega | (simp; done) | (simp; omega)))); (try (have _ := fun o => hbD.frozen (p := ⟨w1.heap.size, o, none⟩) (by first | omega | (simp; done) | (simp; omega)))); (try (have _ := fun o => hbD.cell (p := ⟨w1.heap.size + 1, o, none⟩) (by first | omega | (simp; done) | (simp; omega)))); (try (have _ := fun o => hbD.frozen (p := ⟨w1.heap.size + 1, o, none⟩) (by first | omega | (simp; done) | (simp; omega)))); (try (have _ := fun o => hbD.cell (p := ⟨w2.heap.size, o, none⟩) (by first | omega | (simp; done) | (simp; omega)))); (try (have _ := fun o => hbD.frozen (p := ⟨w2.heap.size, o, none⟩) (by first | omega | (simp; done) | (simp; omega))))))
      all_goals gi_wp2
      all_goals exact HLeaf.out wD (by (repeat (first | with_reducible exact Below.refl _ _ | with_reducible assumption | ((with_reducible refine Below.alloc ?_ ?_ _); rotate_left; focus (first | with_reducible exact Nat.le_refl _ | omega | (simp; done) | (simp; omega))) | ((with_reducible refine Below.setCell ?_ ?_ _); rotate_left; focus (first | with_reducible exact Nat.le_refl _ | omega | (simp; done) | (simp; omega))) | (with_reducible refine Below.drew ?_) | ((with_reducible refine Below.trans ?_ (Below.mono (by with_reducible assumption) ?_)); rotate_left; focus (first | with_reducible exact Nat.le_refl _ | omega | (simp; done) | (simp; omega))))))
  case done =>
    rintro D ys W hD rfl ⟨hIw, hgr⟩ hK
    have hT3 := (grown_cell (b := w1.heap.size + 1) (o := 0) hgr (by simp) (by omega)).trans HT3.out
    have hBW : Below w.heap.size w W := below_grown (by (repeat (first | with_reducible exact Below.refl _ _ | with_reducible assumption | ((with_reducible refine Below.alloc ?_ ?_ _); rotate_left; focus (first | with_reducible exact Nat.le_refl _ | omega | (simp; done) | (simp; omega))) | ((with_reducible refine Below.setCell ?_ ?_ _); rotate_left; focus (first | with_reducible exact Nat.le_refl _ | omega | (simp; done) | (simp; omega))) | (with_reducible refine Below.drew ?_) | ((with_reducible refine Below.trans ?_ (Below.mono (by with_reducible assumption) ?_)); rotate_left; focus (first | with_reducible exact Nat.le_refl _ | omega | (simp; done) | (simp; omega)))))) hgr (by simp; omega) (by omega)
    have hD2 : w1.heap.size + 1 + 1 + 1 ≤ D := by simpa using hD
    have hI2 : Iw W (some ⟨w1.heap.size, 0, none⟩) n (sumsAt f n) w1.heap.size := hIw.congr (fun j _ => by rw [accL_ch f n Q j Q (Nat.le_refl _), ← accF_all, HP.out])
    have HI2 := Lib.hid hI2
    have HBW := Lib.hid hBW
    clear hIw hgr hI2 hBW
    gi_wp2
    refine ⟨by simp, .inl ⟨_, _, rfl, run_takeDeferred hK, ?_⟩⟩
    refine ⟨_, results_tmp rfl _ _ _, ?_⟩
    exact ⟨_, _, w1.heap.size, rfl, HI2.out.grown (grownBy_putObj' W D _) (by omega), by omega, HBW.out.trans (belowK_b (w := w) (Nat.le_refl _) W D _ _ (by omega) hK rfl rfl)⟩
  case stop =>
    rintro D c pre W _ _ h _
    exact h.elim
theorem isums_any (A : Option Addr) (n cap : Nat) (f : Nat → Rt) (w : World) (hn : n ≤ maxLen) (hr : Rs w A n f) :
    Calls Try.prog 20 #[.slice A n cap] w (IntsPost (cntF (laidF f n) n) (sumsAt f n) w) := by
  cases hl : laidF f n
  · have Hn := Lib.hid hn
    have Hr := Lib.hid (hr.below (w' := (w.alloc (.cells #[.slice A n cap] 23))) ((Below.refl _ _).alloc (Nat.le_refl _) _))
    clear hn hr
    go_enter Try.func20, Try.ntmps20
    go_wp2_with fail
    refine (ilaid_val A n cap f false hl _ Hn.out Hr.out).mono ?_; rintro e w1 ⟨rfl, hb1⟩; have hz1 := hb1.size; (try simp at hz1)
    go_wp2
    go_ret
    exact ⟨_, 0, w.heap.size, rfl, Or.inl rfl, Nat.le_refl _, by (repeat (first | with_reducible exact Below.refl _ _ | with_reducible assumption | ((with_reducible refine Below.alloc ?_ ?_ _); rotate_left; focus (first | with_reducible exact Nat.le_refl _ | omega | (simp; done) | (simp; omega))) | ((with_reducible refine Below.setCell ?_ ?_ _); rotate_left; focus (first | with_reducible exact Nat.le_refl _ | omega | (simp; done) | (simp; omega))) | (with_reducible refine Below.drew ?_) | ((with_reducible refine Below.trans ?_ (Below.mono (by with_reducible assumption) ?_)); rotate_left; focus (first | with_reducible exact Nat.le_refl _ | omega | (simp; done) | (simp; omega)))))⟩
  · exact isums_yes A n cap f w hn hr hl
end Go.Proofs.Ytipnldbdlimnhaa
