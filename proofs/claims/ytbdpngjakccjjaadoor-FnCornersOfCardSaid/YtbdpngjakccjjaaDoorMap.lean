
/- Chapter 4 of spec: the map with a border, OutlineOf, CornersOf. -/
import Derived.Test.YtbdpngjakccjjaaDoorMathO
import Derived.Test.YtbdpngjakccjjaaDoorUn3
import Derived.Test.YtbdpngjakccjjaaDoorSum
namespace Go.Proofs.YtbdpngjakccjjaaDoor
open Go.RowKit Go.Sort
set_option linter.unusedVariables false
/-- The map when the first k cells of the field are done. -/
def mapTo (f : Nat → Rt) (n k a : Nat) : Bool := mapG f n a && decide (20 * (a / 22 - 1) + (a % 22 - 1) < k)
theorem mapG_inner {f : Nat → Rt} {n a : Nat} (h : mapG f n a = true) : 1 ≤ a % 22 ∧ a % 22 ≤ 20 ∧ 1 ≤ a / 22 ∧ a / 22 ≤ 20 := by
  unfold mapG at h; rw [Bool.and_eq_true, decide_eq_true_iff] at h; exact h.1
theorem mapTo_none (f : Nat → Rt) (n a : Nat) : one (mapTo f n 0 a) = 0 := by unfold mapTo; simp [one]
theorem mapTo_all (f : Nat → Rt) (n a : Nat) : mapTo f n 400 a = mapG f n a := by
  unfold mapTo
  cases h : mapG f n a
  · rfl
  · have := mapG_inner h
    rw [Bool.true_and]; exact decide_eq_true (by omega)
theorem mapTo_step (f : Nat → Rt) (n y x a : Nat) (hy : y < 20) (hx : x < 20) (ha : a ≠ (y + 1) * 22 + x + 1) : mapTo f n (20 * y + x) a = mapTo f n (20 * y + (x + 1)) a := by
  unfold mapTo
  cases h : mapG f n a
  · rfl
  · have := mapG_inner h
    rw [Bool.true_and, Bool.true_and, decide_eq_decide]; omega
theorem mapTo_hit (f : Nat → Rt) (n y x : Nat) (hy : y < 20) (hx : x < 20) : mapTo f n (20 * y + (x + 1)) ((y + 1) * 22 + x + 1) = anyTo f x y n := by
  unfold mapTo
  rw [show (y + 1) * 22 + x + 1 = 22 * (y + 1) + (x + 1) by omega, mapG_at f n (x + 1) (y + 1) (by omega), decide_eq_true (p := 20 * ((22 * (y + 1) + (x + 1)) / 22 - 1) + ((22 * (y + 1) + (x + 1)) % 22 - 1) < 20 * y + (x + 1)) (by omega), Bool.and_true,
    decide_eq_true (p := 1 ≤ x + 1 ∧ x + 1 ≤ 20 ∧ 1 ≤ y + 1 ∧ y + 1 ≤ 20) (by omega), Bool.true_and]
  rw [show ((x + 1 : Nat) : Int) - 1 = x by omega, show ((y + 1 : Nat) : Int) - 1 = y by omega]
theorem mapTo_old (f : Nat → Rt) (n y x : Nat) (hy : y < 20) (hx : x < 20) : mapTo f n (20 * y + x) ((y + 1) * 22 + x + 1) = false := by
  unfold mapTo
  rw [show (y + 1) * 22 + x + 1 = 22 * (y + 1) + (x + 1) by omega, decide_eq_false (p := 20 * ((22 * (y + 1) + (x + 1)) / 22 - 1) + ((22 * (y + 1) + (x + 1)) % 22 - 1) < 20 * y + x) (by omega), Bool.and_false]
theorem Iw.c4 {w : World} {A : Option Addr} {n g k : Nat} {f : Nat → Int} (h : Iw w A n f g) (hk : k < n) : w.cell? ⟨g, k, none⟩ = some (.int .i64 (f k)) ∧ w.frozen? ⟨g, k, none⟩ = false ∧ g < w.heap.size := by
  rcases h with h | ⟨_, h0, h1, h2⟩
  · omega
  · exact ⟨h1 k hk, h2 k hk, h0⟩

/-- A map is handed back, in a block of the call's own. -/
def MapPost (G : Nat → Bool) (w : World) (e : Ending) (w' : World) : Prop :=
  ∃ g, e = .returned (.slice (some ⟨g, 0, none⟩) 484 484) ∧ Iw w' (some ⟨g, 0, none⟩) 484 (fun a => one (G a)) g ∧ w.heap.size ≤ g ∧ Below w.heap.size w w'
set_option maxHeartbeats 1000000 in
theorem smap_any (A : Option Addr) (n cap : Nat) (f : Nat → Rt) (w : World) (hl : laidF f n = true) (hr : Rs w A n f) :
    Calls Tryd.prog 28 #[.slice A n cap] w (MapPost (mapG f n) w) := by
  have Hr := Lib.hid hr
  obtain ⟨h7, hok⟩ := laidF_ok hl
  have Hok := Lib.hid hok
  have hmk : ∀ W : World, (Instr.makeSlice 45 (.int .i64 484) (.int .i64 484)).run Tryd.prog W = .ok (.slice (some ⟨W.heap.size, 0, none⟩) 484 484) (W.alloc (.cells (madeCells #[.int .i64 0] 484) 3)) := fun W => make_ints 484 484 (Nat.le_refl _) (by omega) W
  clear hr hok
  go_enter Tryd.func28, Tryd.ntmps28
  go_wp2
  clear hmk
  go_loopw [5] (fun y wr => ∃ k : Nat, k ≤ 20 ∧ y = .int .i64 k ∧ Iw wr (some ⟨w.heap.size, 0, none⟩) 484 (fun a => one (mapTo f n (20 * k) a)) w.heap.size ∧ Below w.heap.size w wr) (fun y _ => 20 - (intOf y).toNat)
  case atStart => exact ⟨0, Nat.zero_le _, rfl, (Iw.made w 484).congr (fun i _ => (mapTo_none f n i).symm), (Below.refl _ _).alloc (Nat.le_refl _) _⟩
  case round =>
    obtain ⟨k, hk, rfl, hI, hbr⟩ := hrel
    have HI := Lib.hid hI
    have HB := Lib.hid hbr
    clear hI hbr
    by_cases hlt : k < 20
    · have hk20 : (k : Int) < 20 := by omega
      go_wp2
      obtain ⟨wo, ho⟩ : ∃ wo : World, wo = wr := ⟨_, rfl⟩
      go_loopw [6] (fun x wi => ∃ j : Nat, j ≤ 20 ∧ x = .int .i64 j ∧ Iw wi (some ⟨w.heap.size, 0, none⟩) 484 (fun a => one (mapTo f n (20 * k + j) a)) w.heap.size ∧ Below w.heap.size w wi) (fun x _ => 20 - (intOf x).toNat)
      case atStart => exact ⟨0, Nat.zero_le _, rfl, HI.out, HB.out⟩
      case round =>
        obtain ⟨j, hj, rfl, hJ, hbi⟩ := hrel
        have HJ := Lib.hid hJ
        have HBI := Lib.hid hbi
        have hzi := hbi.size
        clear hJ hbi
        by_cases hlt2 : j < 20
        · have hj20 : (j : Int) < 20 := by omega
          have hda := depF_any f j k n
          obtain ⟨db1, db2⟩ := depF_bd f j k n
          generalize hD : depF f j k n = D at hda db1 db2
          have HA := Lib.hid hda
          have HR2 : Hid (Rs wr A n f) := Lib.hid (Hr.out.below HBI.out)
          clear hda
          by_cases hpos : 0 < D
          · go_wp2_with fail
            refine (depth_val A n cap f j k D hD _ h7 Hok.out HR2.out).mono ?_; rintro e w2 ⟨rfl, hb2⟩; have hz2 := hb2.size; (try simp at hz2)
            have I2 := Lib.hid (HJ.out.below hb2)
            have B2 : Hid (Below w.heap.size w w2) := Lib.hid (HBI.out.trans (hb2.mono hzi))
            clear hb2
            obtain ⟨c0, f0, l0⟩ := I2.out.c4 (show (k + 1) * 22 + j + 1 < 484 by omega)
            have hix : ((k : Int) + 1) * 22 + j + 1 < 484 := by omega
            have hix0 : 0 ≤ ((k : Int) + 1) * 22 + j + 1 := by omega
            have hto : (((k : Int) + 1) * 22 + j + 1).toNat = (k + 1) * 22 + j + 1 := by omega
            go_wp2
            go_roundw
            case rel =>
              refine ⟨j + 1, by omega, by go_num, ?_, bel_set B2.out (Nat.le_refl _) _⟩
              have h := I2.out.set (k := (k + 1) * 22 + j + 1) (f' := fun a => one (mapTo f n (20 * k + (j + 1)) a)) (by omega) (fun i _ hne => by rw [mapTo_step f n k j i hlt hlt2 hne])
              have hv : one (mapTo f n (20 * k + (j + 1)) ((k + 1) * 22 + j + 1)) = 1 := by
                rw [mapTo_hit f n k j hlt hlt2, ← HA.out, show decide (0 < D) = true by simpa using hpos]; rfl
              simp only [hv] at h
              exact h
            case measure => simp [intOf]; omega
          · go_wp2_with fail
            refine (depth_val A n cap f j k D hD _ h7 Hok.out HR2.out).mono ?_; rintro e w2 ⟨rfl, hb2⟩; have hz2 := hb2.size; (try simp at hz2)
            have I2 := Lib.hid (HJ.out.below hb2)
            have B2 : Hid (Below w.heap.size w w2) := Lib.hid (HBI.out.trans (hb2.mono hzi))
            clear hb2
            go_wp2
            go_roundw
            case rel =>
              refine ⟨j + 1, by omega, by go_num, I2.out.congr (fun i _ => ?_), B2.out⟩
              by_cases hi : i = (k + 1) * 22 + j + 1
              · subst hi
                rw [mapTo_old f n k j hlt hlt2, mapTo_hit f n k j hlt hlt2, ← HA.out, show decide (0 < D) = false by simpa using hpos]
              · rw [mapTo_step f n k j i hlt hlt2 hi]
            case measure => simp [intOf]; omega
        · have hjn : j = 20 := by omega
          subst hjn
          go_wp2
          go_roundw
          case rel => exact ⟨k + 1, by omega, by go_num, HJ.out, HBI.out⟩
          case measure => simp [intOf]; omega
    · have hkn : k = 20 := by omega
      subst hkn
      go_wp2
      go_ret
      exact ⟨w.heap.size, rfl, HI.out.congr (fun i _ => by rw [mapTo_all]), Nat.le_refl _, HB.out⟩
end Go.Proofs.YtbdpngjakccjjaaDoor
