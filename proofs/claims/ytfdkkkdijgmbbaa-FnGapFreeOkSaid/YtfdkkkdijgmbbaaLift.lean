/- How the arguments of the laws read. -/
import Derived.Test.YtfdkkkdijgmbbaaDr
import Derived.Test.YtfdkkkdijgmbbaaMe
import Derived.Deep.Slices
import Derived.Deep.Fields
import Derived.ProofKit
import Derived.OpenShut
import Derived.ShutString
import Derived.ChangeOld
import Derived.Carry
import Derived.Lib.SmallJoins
namespace Go.Proofs.Ytfdkkkdijgmbbaa
open Go.ChangeShapes Go.WideShapes Go.ChangeAt Go.RowKit Go.Joins
set_option linter.unusedVariables false

theorem own : ownKnob Try.prog.godebug = none := by kernel_rfl
theorem laidOut : laidOutB Try.prog = true := by kernel_rfl
theorem cellsRect : Try.prog.cellsOf 66 = 4 := by kernel_rfl
theorem getD_u8 {zs : List Int} (h : ∀ n ∈ zs, (Lit.int .u8 n).wf = true) (i : Nat) : 0 ≤ zs.getD i 0 ∧ zs.getD i 0 ≤ 255 := by
  by_cases hi : i < zs.length
  · have h1 := h _ (List.getElem_mem hi)
    rw [List.getD_eq_getElem?_getD, List.getElem?_eq_getElem hi]
    simpa [Lit.wf, IntKind.min, IntKind.max, IntKind.signed, IntKind.bits] using h1
  · rw [List.getD_eq_getElem?_getD, List.getElem?_eq_none (by omega)]
    simp
theorem came_open {H : Type} {enc : TypeId × Value → H} {W : World} {a : Option Addr} {len cap : Nat} {sp : Nat → Bool} {d : DataW H} {p : List MemPlace}
    (h : DataW.Trod enc Try.prog W 0 sp true 22 (.slice a len cap) d p) : Came W a len cap := by
  obtain ⟨fuel, hf⟩ := h
  rcases open_ints Try.underlying22 Try.underlying5 (by kernel_rfl) hf with ⟨hcs, _⟩ | ⟨x, l, c, zs, hcs, _, hl, hm, hz, _, hcell, hwz⟩
  · simp [Value.cells] at hcs
    obtain ⟨rfl, rfl, rfl⟩ := hcs
    exact Or.inl rfl
  · simp [Value.cells] at hcs
    obtain ⟨rfl, rfl, rfl⟩ := hcs
    by_cases h0 : len = 0
    · exact Or.inl h0
    · have hl2 : len ≤ zs.length := by
        first | omega | (split at hz <;> omega)
      obtain ⟨b, off, rfl, hc⟩ := ints_at hcell (by omega)
      exact Or.inr ⟨b, off, fun i => zs.getD i 0, rfl, hl, hm, fun i hi => ⟨hc i (by omega), getD_u8 hwz i⟩⟩
theorem rect_open {H : Type} {enc : TypeId × Value → H} {W : World} {r : Reach} {b0 : Nat} {v : Value} {sp : Nat → Bool} {d : DataW H} {p : List MemPlace}
    (hv : Value.okWide Try.prog W r b0 66 v) (h : DataW.Trod enc Try.prog W 0 sp true 66 v d p) : ∃ a : Rt, v = rv a := by
  obtain ⟨c0, c1, c2, c3, y0, y1, y2, y3, m, rfl, rfl, rfl, hy0, hy1, hy2, hy3⟩ := open_agg4 Try.underlying66 (by kernel_rfl) cellsRect hv h
  obtain ⟨a, e0, _, wa⟩ := DataW.trod_int Try.underlying3 hy0
  obtain ⟨b, e1, _, wb⟩ := DataW.trod_int Try.underlying3 hy1
  obtain ⟨c, e2, _, wc⟩ := DataW.trod_int Try.underlying3 hy2
  obtain ⟨e, e3, _, we⟩ := DataW.trod_int Try.underlying3 hy3
  simp at e0 e1 e2 e3
  subst e0 e1 e2 e3
  exact ⟨⟨a, b, c, e⟩, rfl⟩
theorem rectStruct : ∃ fs : Array Field, Try.prog.underlying 66 = some (.struct fs) ∧ Go.Deep.oneCellFields Try.prog fs = true ∧ fs.size = 4 ∧ fs.all (fun ff => ff.type == 3) = true :=
  ⟨_, Try.underlying66, by kernel_rfl, by kernel_rfl, by kernel_rfl⟩
theorem rects_open {H : Type} {enc : TypeId × Value → H} {W : World} {a : Option Addr} {len cap : Nat} {sp : Nat → Bool} {d : DataW H} {p : List MemPlace}
    (h : DataW.Trod enc Try.prog W 0 sp true 37 (.slice a len cap) d p) : ∃ f : Nat → Rt, Rs W a len f ∧ len ≤ maxLen ∧ len ≤ cap ∧ (a = none → cap = 0) := by
  obtain ⟨fs, hfs, hone1, hsz, hall⟩ := rectStruct
  obtain ⟨fuel, hf⟩ := h
  rcases Go.Deep.open_slice Try.underlying37 hf with ⟨hcs, _⟩ | ⟨x, l, c, m, n', D, Pl, hcs, _, hl, hm, hmm, _, hi⟩
  · simp [Value.cells] at hcs
    obtain ⟨rfl, rfl, rfl⟩ := hcs
    exact ⟨fun _ => Rt.zero, Or.inl rfl, Nat.zero_le _, Nat.le_refl _, fun _ => rfl⟩
  · simp [Value.cells] at hcs
    obtain ⟨rfl, rfl, rfl⟩ := hcs
    have hlm : len ≤ m := by rw [hmm]; split <;> omega
    rw [cellsRect] at hi
    have one : ∀ i, i < len → ∃ r : Rt, W.cell? (x.add (i * 4)) = some (.int .i64 r.l) ∧ W.cell? (x.add (i * 4 + 1)) = some (.int .i64 r.o) ∧ W.cell? (x.add (i * 4 + 2)) = some (.int .i64 r.r) ∧ W.cell? (x.add (i * 4 + 3)) = some (.int .i64 r.h) := by
      intro i hil
      obtain ⟨cs', hc, ht⟩ := hi i (by omega)
      obtain ⟨ys, n2, _, _, hlen, hyl, hf2⟩ := DataW.trod_struct hfs ht
      obtain ⟨_, hcl, hat⟩ := World.cells?_some hc
      have hone := Go.Deep.hone_of (P := Try.prog) (fs := fs) hone1
      have key : ∀ j, j < 4 → ∃ q : Int, W.cell? (x.add (i * 4 + j)) = some (.int .i64 q) := by
        intro j hj
        have hff : ∃ ff, fs[j]? = some ff ∧ ff.type = 3 := by
          have hj2 : j < fs.size := by omega
          exact ⟨fs[j], Array.getElem?_eq_getElem hj2, by simpa using (Array.all_eq_true.1 hall) j hj2⟩
        obtain ⟨ff, hff, hft⟩ := hff
        obtain ⟨ho, hk⟩ := hone j ff hff
        have h1 := hf2 j ff hff
        rw [ho, hk, hft] at h1
        have hcj : cs'[j]? = some (cs'[j]'(by omega)) := List.getElem?_eq_getElem (by omega)
        have h2 : (cs'.drop j).take 1 = [cs'[j]'(by omega)] := by
          rw [List.drop_eq_getElem_cons (by omega)]; rfl
        rw [h2] at h1
        have hys : ys[j]? = some (ys[j]'(by rw [hyl, hsz]; exact hj)) := List.getElem?_eq_getElem _
        rw [hys] at h1
        obtain ⟨q, hq, _⟩ := DataW.trod_int Try.underlying3 h1
        have hc3 := hat j hj
        rw [← Go.Deep.add_add, hc3, hcj]
        simp only [List.cons.injEq, and_true] at hq
        exact ⟨q, by rw [hq]⟩
      obtain ⟨q0, h0⟩ := key 0 (by omega)
      obtain ⟨q1, h1⟩ := key 1 (by omega)
      obtain ⟨q2, h2⟩ := key 2 (by omega)
      obtain ⟨q3, h3⟩ := key 3 (by omega)
      exact ⟨⟨q0, q1, q2, q3⟩, h0, h1, h2, h3⟩
    have hf : ∃ f : Nat → Rt, ∀ i, i < len → W.cell? (x.add (i * 4)) = some (.int .i64 (f i).l) ∧ W.cell? (x.add (i * 4 + 1)) = some (.int .i64 (f i).o) ∧ W.cell? (x.add (i * 4 + 2)) = some (.int .i64 (f i).r) ∧ W.cell? (x.add (i * 4 + 3)) = some (.int .i64 (f i).h) :=
      ⟨fun i => if hil : i < len then Classical.choose (one i hil) else Rt.zero, fun i hil => by
        dsimp only
        rw [dif_pos hil]
        exact Classical.choose_spec (one i hil)⟩
    obtain ⟨f, hf⟩ := hf
    refine ⟨f, ?_, by omega, hl, fun h => by cases h⟩
    by_cases h0 : len = 0
    · exact Or.inl h0
    · obtain ⟨b, off, spot⟩ := x
      have hspot : spot = none := by simpa [Addr.add] using World.cell?_spot (hf 0 (by omega)).1
      subst hspot
      have hb : b < W.heap.size := World.block_lt_of_cell? W _ (hf 0 (by omega)).1
      refine Or.inr ⟨b, off, rfl, hb, fun i hil => ?_⟩
      obtain ⟨c0, c1, c2, c3⟩ := hf i hil
      rw [Go.WideShapes.add_plain] at c0 c1 c2 c3
      exact ⟨c0, c1, c2, c3⟩
end Go.Proofs.Ytfdkkkdijgmbbaa
