/- Chapter 4 of spec: PiecesOf, HolesOf. -/
import Derived.Test.YtfdkkkdijgmbbaaMa
namespace Go.Proofs.Ytfdkkkdijgmbbaa
open Go.RowKit Go.Sort
set_option linter.unusedVariables false
theorem infoBool : (Try.prog.info? 4).map (fun i => (i.zero, i.size, i.bytes)) = some (some (.bool false), 1, 1) := by kernel_rfl
theorem Bw.made (w : World) (n : Nat) : Bw (w.alloc (.cells (madeCells #[.bool false] n) 4)) w.heap.size n (fun _ => false) := by
  have h1 : (w.alloc (.cells (madeCells #[.bool false] n) 4)).heap[w.heap.size]? = some (.cells (madeCells #[.bool false] n) 4 (0, 0)) := heap_alloc_new w _
  refine ⟨by simp, fun o ho => ?_, fun o ho => by unfold World.frozen?; rw [h1]; simp⟩
  rw [cell_of_row (w.alloc (.cells (madeCells #[.bool false] n) 4)) w.heap.size o (madeCells #[.bool false] n) 4 (0, 0) h1]
  simp [madeCells, ho, Nat.mod_one]
open Classical in
theorem cntP_bd (t : Nat) (P : Nat → Prop) : 0 ≤ cntP t P ∧ cntP t P ≤ t := by
  unfold cntP
  induction t with
  | zero => simp [sumN]
  | succ t ih =>
    simp only [sumN]
    refine ⟨by have := one_nonneg (decide (P t)); omega, by have := one_le (decide (P t)); omega⟩
/-- How many pieces, and how many holes; -1 for others. -/
noncomputable def pcF (f : Nat → Rt) (n : Nat) : Int := if laidF f n then cntP 484 (fun a => mapG f n a = true ∧ Rep (Rch (EdE false true (mapG f n))) a) else -1
noncomputable def hoF (f : Nat → Rt) (n : Nat) : Int := if laidF f n then cntP 484 (fun a => mapG f n a = false ∧ Rep (Rch (EdE true false (mapG f n))) a) - 1 else -1

end Go.Proofs.Ytfdkkkdijgmbbaa
