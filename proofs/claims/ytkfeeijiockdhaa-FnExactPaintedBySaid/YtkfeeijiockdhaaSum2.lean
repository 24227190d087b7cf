/- Chapter 2: SumsOf of impl: its choices come from a function that yields them. -/
import Derived.RangeFuncNested
import Derived.RangeFuncBound
import Derived.RangeFuncCalls
import Derived.RangeFuncLeaves
import Derived.Shelf.Abstract
import Derived.Shelf.RegionOpen
import Derived.OwnWalkIn
import Derived.TacticsInMore
import Derived.LoopNIn
import Derived.LoopIn
import Derived.Test.YtkfeeijiockdhaaSum
namespace Go.Proofs.Ytkfeeijiockdhaa
open Go.RowKit Go.Shelf Go.BigFrame
set_option linter.unusedVariables false
attribute [local go_sem] Oper.semAt_some
/-- A choice that is yielded. -/
abbrev Ch (Q : Nat) : Type := { s : Nat // 1 ≤ s ∧ s ≤ Q }
/-- The first k choices. -/
def chTo (Q : Nat) : Nat → List (Ch Q)
  | 0 => []
  | k + 1 => chTo Q k ++ (if h : k + 1 ≤ Q then [⟨k + 1, by omega, h⟩] else [])
theorem chTo_succ {Q k : Nat} (h : k + 1 ≤ Q) : chTo Q (k + 1) = chTo Q k ++ [⟨k + 1, by omega, h⟩] := by simp only [chTo]; rw [dif_pos h]
theorem chTo_len {Q : Nat} : ∀ {k : Nat}, k ≤ Q → (chTo Q k).length = k
  | 0, _ => rfl
  | k + 1, h => by rw [chTo_succ h, List.length_append, chTo_len (by omega : k ≤ Q)]; rfl
/-- What the cell of the count holds is kept. -/
def KpC (cb : Nat) (W W' : World) : Prop := W'.cell? ⟨cb, 0, none⟩ = W.cell? ⟨cb, 0, none⟩

theorem allof_val (n Q : Nat) (h : 2 ^ n - 1 = Q) (w : World) (hn : n ≤ 7) :
    Calls Try.prog 49 #[.int .i64 n] w fun e w' => e = .returned (.int .u64 (Q : Nat)) ∧ w = w' := h ▸ allof_any n w hn
set_option maxRecDepth 100000 in
set_option maxHeartbeats 1000000 in
theorem yields_in (n : Nat) (hn : 1 ≤ n) (l cb c Q : Nat) (h7 : c ≤ 7) (hQ : 2 ^ c - 1 = Q) (hQ1 : Q ≤ 127) (J Jx : List (Ch Q) → World → Prop)
    (hY : ∀ pre (x : Ch Q) W, J pre W → pre.length < Q → YieldAt Fence.wide (n - 1) Try.prog l #[.int .u64 (x.1 : Nat)] W fun e W' =>
      (e = .returned (.bool true) ∧ J (pre ++ [x]) W' ∧ KpC cb W W') ∨ (e = .returned (.bool false) ∧ Jx (pre ++ [x]) W'))
    (W : World) (hc : W.cell? ⟨cb, 0, none⟩ = some (.int .i64 (c : Nat))) (h0 : J [] W) :
    CallsIn Fence.wide n Try.prog 90 #[.func (.yield l) #[] #[], .pointer (some ⟨cb, 0, none⟩)] W fun e W' => (∃ v, e = .returned v) ∧
      ((∃ ys, ys = chTo Q Q ∧ J ys W') ∨ (∃ pre, True ∧ Jx pre W')) := by
  have HQ := Lib.hid hQ
  have HY := Lib.hid hY
  clear hQ hY
  refine callsIn_of_wp Try.func90 rfl trivial ?_ rfl
  simp only [Try.ntmps90, List.size_toArray, List.length_cons, List.length_nil, Nat.reduceAdd, Nat.reduceSub, Array.replicate_succ, Array.replicate_zero, List.push_toArray, List.append_toArray, List.nil_append, List.cons_append]
  gi_wp2
  gi_loopw [3] (fun s wr => ∃ j : Nat, 1 ≤ j ∧ j ≤ Q + 1 ∧ s = .int .u64 (j : Nat) ∧ J (chTo Q (j - 1)) wr ∧ wr.cell? ⟨cb, 0, none⟩ = some (.int .i64 (c : Nat))) (fun s _ => 200 - (intOf s).toNat)
  case atStart => exact ⟨1, Nat.le_refl _, by omega, rfl, h0, hc⟩
  case round =>
    obtain ⟨j, hj1, hj, rfl, hJ, hcc⟩ := hrel
    have HJ := Lib.hid hJ
    clear hJ
    by_cases hlt : j ≤ Q
    · obtain ⟨fn, tmps, assign, body, hy, hR⟩ := HY.out (chTo Q (j - 1)) ⟨j, hj1, hlt⟩ wr HJ.out (by rw [chTo_len (by omega)]; omega)
      dsimp only at hy
      have hch : chTo Q j = chTo Q (j - 1) ++ [⟨j, hj1, hlt⟩] := by
        have := chTo_succ (Q := Q) (k := j - 1) (by omega)
        simp only [Nat.sub_add_cancel hj1] at this
        exact this
      have HC := Lib.hid hch
      have HR := Lib.hid hR
      clear hR hch
      gi_wp2_with (refine ⟨trivial, ?_⟩; gi_at_call 49; refine (callsIn_wide.2 (allof_val c Q HQ.out _ h7)).mono ?_; rintro e w' ⟨rfl, rfl⟩)
      refine HR.out.mono ?_
      rintro e W3 (⟨rfl, hJ3, hk3⟩ | ⟨rfl, hJx3⟩)
      · have hc3 : W3.cell? ⟨cb, 0, none⟩ = some (.int .i64 (c : Nat)) := Eq.trans hk3 hcc
        have HJ3 := Lib.hid hJ3
        clear hJ3 hk3
        gi_wp2
        go_roundw
        case rel => exact ⟨j + 1, by omega, by omega, by go_num, by rw [Nat.add_sub_cancel, HC.out]; exact HJ3.out, hc3⟩
        case measure => simp [intOf]; omega
      · gi_wp2
        refine bodyPost_ret (results_none rfl _ _ _) rfl ?_
        exact ⟨⟨_, rfl⟩, .inr ⟨_, trivial, hJx3⟩⟩
    · have hjQ : j = Q + 1 := by omega
      have HjQ := Lib.hid hjQ
      clear hjQ
      gi_wp2_with (refine ⟨trivial, ?_⟩; gi_at_call 49; refine (callsIn_wide.2 (allof_val c Q HQ.out _ h7)).mono ?_; rintro e w' ⟨rfl, rfl⟩)
      go_end0
      exact ⟨⟨_, rfl⟩, .inl ⟨chTo Q Q, rfl, by have h := HJ.out; rw [HjQ.out, Nat.add_sub_cancel] at h; exact h⟩⟩

theorem grown_weak {w w' : World} (h : w.grownBy w' none) (r : Nat) : w.grownBy w' (some r) := ⟨h.os, h.tape, h.output, h.size, fun k hk _ => h.block k hk (by simp)⟩
theorem grown_join {a b c : World} {g r : Nat} (h : a.grownBy b (some g)) (k : b.grownBy c (some r)) (hr : a.heap.size ≤ r) : a.grownBy c (some g) :=
  ⟨k.os.trans h.os, k.tape.trans h.tape, k.output.trans h.output, Nat.le_trans h.size k.size, fun i hi hn => (k.block i (Nat.lt_of_lt_of_le hi h.size) (by intro e; injection e with e; omega)).trans (h.block i hi hn)⟩
theorem grown_chain {a b c : World} {g : Nat} (h : a.grownBy b (some g)) (k : b.grownBy c (some g)) : a.grownBy c (some g) := World.grownBy.trans h k
def accL (f : Nat → Rt) (n : Nat) {Q : Nat} (pre : List (Ch Q)) (j : Nat) : Int := pre.foldl (fun s x => s + addF f n j x.1) 0
theorem accL_snoc (f : Nat → Rt) (n : Nat) {Q : Nat} (pre : List (Ch Q)) (x : Ch Q) (j : Nat) : accL f n (pre ++ [x]) j = accL f n pre j + addF f n j x.1 := by unfold accL; simp
theorem accL_bd (f : Nat → Rt) (n : Nat) {Q : Nat} (pre : List (Ch Q)) (j : Nat) : 0 ≤ accL f n pre j ∧ accL f n pre j ≤ 400 * pre.length := by
  have H : ∀ (xs : List (Ch Q)) (s : Int), s ≤ xs.foldl (fun s x => s + addF f n j x.1) s ∧ xs.foldl (fun s x => s + addF f n j x.1) s ≤ s + 400 * xs.length := by
    intro xs
    induction xs with
    | nil => intro s; simp
    | cons x xs ih => intro s; have := ih (s + addF f n j x.1); have h := addF_bd f n j x.1; simp only [List.foldl_cons, List.length_cons]; omega
  have := H pre 0
  unfold accL
  omega
theorem accL_ch (f : Nat → Rt) (n Q j : Nat) : ∀ k, k ≤ Q → accL f n (chTo Q k) j = accF f n (k + 1) j := by
  intro k
  induction k with
  | zero => intro _; rw [accF_one]; rfl
  | succ k ih => intro h; rw [chTo_succ h, accL_snoc, ih (by omega)]; rfl
def Ins (f : Nat → Rt) (n Q g : Nat) (W0 : World) (pre : List (Ch Q)) (W : World) : Prop := Iw W (some ⟨g, 0, none⟩) n (accL f n pre) g ∧ W0.grownBy W (some g)
theorem Ins.own (f : Nat → Rt) (n Q g : Nat) (W0 : World) (hg : g < W0.heap.size) : OwnFrom W0.heap.size (Ins f n Q g W0) := by
  intro s W W' row hs hgr hr
  cases row with
  | none => exact ⟨hs.1.grown (grown_weak hgr (g + 1)) (by omega), grown_join hs.2 (grown_weak hgr W0.heap.size) (Nat.le_refl _)⟩
  | some r =>
    have hB := (hr r rfl).1
    exact ⟨hs.1.grown hgr (by omega), grown_join hs.2 hgr hB⟩
theorem body_end {f : Nat → Rt} {n Q g cb : Nat} {W0 W W' : World} {pre : List (Ch Q)} {x : Ch Q} (hg : W0.grownBy W (some g)) (hgl : g < W0.heap.size) (hcb : cb < W0.heap.size) (hne : cb ≠ g) (hG : W.grownBy W' (some g))
    (hI : Iw W' (some ⟨g, 0, none⟩) n (accL f n (pre ++ [x])) g) : KeepsFrom W0.heap.size W W' ∧ KpC cb W W' ∧ Ins f n Q g W0 (pre ++ [x]) W' :=
  ⟨KeepsFrom.of_grownBy hG (fun j e => by injection e with e; omega), grown_cell hG (Nat.lt_of_lt_of_le hcb hg.size) hne, hI, grown_chain hg hG⟩
theorem size_val (s L : Nat) (h : popTo s 7 = L) (w : World) (hs : s < 128) :
    Calls Try.prog 58 #[.int .u64 s] w fun e w' => e = .returned (.int .i64 (L : Nat)) ∧ w = w' := h ▸ size_any s w hs
theorem KpC.put {cb B : Nat} (hcb : cb < B) (W : World) (l : Nat) (o o' : Obj) (hl : B ≤ l) (_ : W.heap[l]? = some o) (_ : o.isCells = false) (_ : o.isWalk = false) : KpC cb W (W.putObj l o') :=
  World.cell?_of_block (World.putObj_heap_other (by dsimp only; omega))

set_option maxHeartbeats 400000 in
set_option maxRecDepth 20000 in
theorem subsetsof_any (c : Nat) (w : World) :
    Calls Try.prog 78 #[.int .i64 c] w fun e w' => e = .returned (.func (.func 90) #[] #[.pointer (some ⟨w.heap.size, 0, none⟩)]) ∧ w' = w.alloc (.cells #[.int .i64 c] 3) := by
  go_enter Try.func78, Try.ntmps78
  go_wp2
  go_ret
  exact ⟨rfl, rfl⟩

end Go.Proofs.Ytkfeeijiockdhaa
