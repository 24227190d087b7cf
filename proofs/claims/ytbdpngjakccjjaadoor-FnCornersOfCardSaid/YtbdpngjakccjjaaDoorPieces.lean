
/- Chapter 4 of spec: PiecesOf, HolesOf. -/
import Derived.Test.YtbdpngjakccjjaaDoorFill
namespace Go.Proofs.YtbdpngjakccjjaaDoor
open Go.RowKit Go.Sort
set_option linter.unusedVariables false
theorem infoBool : (Tryd.prog.info? 4).map (fun i => (i.zero, i.size, i.bytes)) = some (some (.bool false), 1, 1) := by kernel_rfl
theorem make_bools (n c : Nat) (hn : n ≤ c) (hc : c ≤ 2000000) (w : World) :
    (Instr.makeSlice 56 (.int .i64 (n : Int)) (.int .i64 (c : Int))).run Tryd.prog w = .ok (.slice (some ⟨w.heap.size, 0, none⟩) n c) (w.alloc (.cells (madeCells #[.bool false] c) 4)) := by
  obtain ⟨i, hi, hz, hs, hb⟩ := info_parts infoBool
  have := run_make (P := Tryd.prog) w 56 4 i (.bool false) Tryd.underlying56 hi hz .i64 .i64 n c (by omega) (by omega) (by rw [hb]; omega) (by omega)
  rw [hs, Nat.mul_one] at this
  exact this
theorem Bw.made (w : World) (n : Nat) : Bw (w.alloc (.cells (madeCells #[.bool false] n) 4)) w.heap.size n (fun _ => false) := by
  have h1 : (w.alloc (.cells (madeCells #[.bool false] n) 4)).heap[w.heap.size]? = some (.cells (madeCells #[.bool false] n) 4 (0, 0)) := heap_alloc_new w _
  refine ⟨by simp, fun o ho => ?_, fun o ho => by unfold World.frozen?; rw [h1]; simp⟩
  rw [cell_of_row (w.alloc (.cells (madeCells #[.bool false] n) 4)) w.heap.size o (madeCells #[.bool false] n) 4 (0, 0) h1]
  simp [madeCells, ho, Nat.mod_one]
open Classical in
theorem cntP_bd (t : Nat) (P : Nat → Prop) : 0 ≤ cntP t P ∧ cntP t P ≤ t := by
  unfold cntP
  induction t with
  | zero => simp [sumN]
  | succ t ih =>
    simp only [sumN]
    refine ⟨by have := one_nonneg (decide (P t)); omega, by have := one_le (decide (P t)); omega⟩
/-- How many pieces, and how many holes; -1 for others. -/
noncomputable def pcF (f : Nat → Rt) (n : Nat) : Int := if laidF f n then cntP 484 (fun a => mapG f n a = true ∧ Rep (Rch (EdE false true (mapG f n))) a) else -1
noncomputable def hoF (f : Nat → Rt) (n : Nat) : Int := if laidF f n then cntP 484 (fun a => mapG f n a = false ∧ Rep (Rch (EdE true false (mapG f n))) a) - 1 else -1

set_option maxHeartbeats 4000000 in
set_option maxRecDepth 100000 in
theorem spc_any (A : Option Addr) (n cap : Nat) (f : Nat → Rt) (w : World) (hn : n ≤ maxLen) (hr : Rs w A n f) :
    Calls Tryd.prog 16 #[.slice A n cap] w fun e w' => e = .returned (.int .i64 (pcF f n)) ∧ Below w.heap.size w w' := by
  have Hn := Lib.hid hn
  have Hr := Lib.hid hr
  clear hn hr
  cases hl : laidF f n
  · have H : Hid (pcF f n = -1) := Lib.hid (by unfold pcF; rw [hl]; rfl)
    go_enter Tryd.func16, Tryd.ntmps16
    go_wp2_with fail
    refine (slaid_val A n cap f false hl _ Hn.out Hr.out).mono ?_; rintro e w1 ⟨rfl, hb1⟩; have hz1 := hb1.size; (try simp at hz1)
    go_wp2
    go_ret
    exact ⟨ret_int (by rw [H.out]), by (repeat (first | with_reducible exact Below.refl _ _ | with_reducible assumption | ((with_reducible refine Below.alloc ?_ ?_ _); rotate_left; focus (first | with_reducible exact Nat.le_refl _ | omega | (simp; done) | (simp; omega))) | ((with_reducible refine Below.setCell ?_ ?_ _); rotate_left; focus (first | with_reducible exact Nat.le_refl _ | omega | (simp; done) | (simp; omega))) | (with_reducible refine Below.drew ?_) | ((with_reducible refine Below.trans ?_ (Below.mono (by with_reducible assumption) ?_)); rotate_left; focus (first | with_reducible exact Nat.le_refl _ | omega | (simp; done) | (simp; omega)))))⟩
  · have H : Hid (pcF f n = cntP 484 (fun a => mapG f n a = true ∧ Rep (Rch (EdE false true (mapG f n))) a)) := Lib.hid (by unfold pcF; rw [hl]; rfl)
    have hmk : ∀ W : World, (Instr.makeSlice 56 (.int .i64 484) (.int .i64 484)).run Tryd.prog W = .ok (.slice (some ⟨W.heap.size, 0, none⟩) 484 484) (W.alloc (.cells (madeCells #[.bool false] 484) 4)) := fun W => make_bools 484 484 (Nat.le_refl _) (by omega) W
    go_enter Tryd.func16, Tryd.ntmps16
    go_wp2_with fail
    refine (slaid_val A n cap f true hl _ Hn.out Hr.out).mono ?_; rintro e w1 ⟨rfl, hb1⟩; have hz1 := hb1.size; (try simp at hz1)
    have Hr1 := Lib.hid (Hr.out.below hb1)
    have Hb1 := Lib.hid hb1
    clear hb1
    go_wp2_with fail
    refine (smap_any A n cap f _ hl Hr1.out).mono ?_; rintro e w2 ⟨g, rfl, hI, hg, hb2⟩
    have HI := Lib.hid hI
    have hgl := (hI.c4 (show 0 < 484 by omega)).2.2
    have HB2 : Hid (Below w.heap.size w w2) := Lib.hid (Hb1.out.trans (hb2.mono (by omega)))
    clear hI hb2
    have hsz2 : w.heap.size ≤ w2.heap.size := HB2.out.size
    go_wp2
    clear hmk
    go_loopw [5, 6] (fun t i wr => ∃ (k : Nat) (s : Nat → Bool) (c : Int), k ≤ 484 ∧ i = .int .i64 k ∧ t = .int .i64 (c) ∧ Bw wr w2.heap.size 484 s ∧ Count (EdE false true (mapG f n)) (fun a => mapG f n a = true) k s c ∧ Below w2.heap.size w2 wr) (fun _ i _ => 484 - (intOf i).toNat)
    case atStart => exact ⟨0, fun _ => false, 0, Nat.zero_le _, rfl, rfl, Bw.made w2 484, Count.start _ _, (Below.refl _ _).alloc (Nat.le_refl _) _⟩
    case round =>
      obtain ⟨k, s, c, hk0, rfl, rfl, hbw, hct, hbr⟩ := hrel
      have HBW := Lib.hid hbw
      have HCT := Lib.hid hct
      have HB := Lib.hid hbr
      have hzr := hbr.size
      obtain ⟨s1, s2⟩ := cntP_bd k (fun a => mapG f n a = true ∧ Rep (Rch (EdE false true (mapG f n))) a)
      rw [← hct.num] at s1 s2
      clear hbw hct hbr
      by_cases hlt : k < 484
      · have hk484 : (k : Int) < 484 := by omega
        have HIr := Lib.hid (HI.out.below HB.out)
        obtain ⟨c0, _, _⟩ := HIr.out.c4 hlt
        have cs := HBW.out.c k hlt
        cases hgk : mapG f n k
        · rw [hgk] at c0
          simp only [one] at c0
          go_wp2
          go_roundw
          case rel => exact ⟨k + 1, s, c, by omega, by go_num, rfl, HBW.out, HCT.out.skip (fun _ _ => rchE_col) (Or.inl (by rw [hgk]; decide)), HB.out⟩
          case measure => simp [intOf]; omega
        · rw [hgk] at c0
          simp only [one, if_true] at c0
          cases hsk : s k
          · rw [hsk] at cs
            go_wp2_with fail
            refine (sfill_any g w2.heap.size k false true (mapG f n) s _ hlt hgk HIr.out HBW.out (by omega) hsk (HCT.out.shut (fun _ _ => rchE_col))).mono ?_; rintro e w5 ⟨rfl, s5, hb5, hs5, hg5⟩
            have HB5 := Lib.hid hb5
            have HS5 := Lib.hid hs5
            have HG5 := Lib.hid hg5
            clear hb5 hs5 hg5
            go_wp2
            go_roundw
            case rel => exact ⟨k + 1, s5, c + 1, by omega, by go_num, rfl, HB5.out, HCT.out.flood (fun _ _ => rchE_col) hgk hsk HS5.out, below_grown HB.out HG5.out hzr (Nat.le_refl _)⟩
            case measure => simp [intOf]; omega
          · rw [hsk] at cs
            go_wp2
            go_roundw
            case rel => exact ⟨k + 1, s, c, by omega, by go_num, rfl, HBW.out, HCT.out.skip (fun _ _ => rchE_col) (Or.inr hsk), HB.out⟩
            case measure => simp [intOf]; omega
      · have hkn : k = 484 := by omega
        subst hkn
        go_wp2
        go_ret
        exact ⟨ret_int (by rw [H.out, HCT.out.num]), HB2.out.trans (HB.out.mono hsz2)⟩

set_option maxHeartbeats 4000000 in
set_option maxRecDepth 100000 in
theorem sho_any (A : Option Addr) (n cap : Nat) (f : Nat → Rt) (w : World) (hn : n ≤ maxLen) (hr : Rs w A n f) :
    Calls Tryd.prog 19 #[.slice A n cap] w fun e w' => e = .returned (.int .i64 (hoF f n)) ∧ Below w.heap.size w w' := by
  have Hn := Lib.hid hn
  have Hr := Lib.hid hr
  clear hn hr
  cases hl : laidF f n
  · have H : Hid (hoF f n = -1) := Lib.hid (by unfold hoF; rw [hl]; rfl)
    go_enter Tryd.func19, Tryd.ntmps19
    go_wp2_with fail
    refine (slaid_val A n cap f false hl _ Hn.out Hr.out).mono ?_; rintro e w1 ⟨rfl, hb1⟩; have hz1 := hb1.size; (try simp at hz1)
    go_wp2
    go_ret
    exact ⟨ret_int (by rw [H.out]), by (repeat (first | with_reducible exact Below.refl _ _ | with_reducible assumption | ((with_reducible refine Below.alloc ?_ ?_ _); rotate_left; focus (first | with_reducible exact Nat.le_refl _ | omega | (simp; done) | (simp; omega))) | ((with_reducible refine Below.setCell ?_ ?_ _); rotate_left; focus (first | with_reducible exact Nat.le_refl _ | omega | (simp; done) | (simp; omega))) | (with_reducible refine Below.drew ?_) | ((with_reducible refine Below.trans ?_ (Below.mono (by with_reducible assumption) ?_)); rotate_left; focus (first | with_reducible exact Nat.le_refl _ | omega | (simp; done) | (simp; omega)))))⟩
  · have H : Hid (hoF f n = cntP 484 (fun a => mapG f n a = false ∧ Rep (Rch (EdE true false (mapG f n))) a) - 1) := Lib.hid (by unfold hoF; rw [hl]; rfl)
    have hmk : ∀ W : World, (Instr.makeSlice 56 (.int .i64 484) (.int .i64 484)).run Tryd.prog W = .ok (.slice (some ⟨W.heap.size, 0, none⟩) 484 484) (W.alloc (.cells (madeCells #[.bool false] 484) 4)) := fun W => make_bools 484 484 (Nat.le_refl _) (by omega) W
    go_enter Tryd.func19, Tryd.ntmps19
    go_wp2_with fail
    refine (slaid_val A n cap f true hl _ Hn.out Hr.out).mono ?_; rintro e w1 ⟨rfl, hb1⟩; have hz1 := hb1.size; (try simp at hz1)
    have Hr1 := Lib.hid (Hr.out.below hb1)
    have Hb1 := Lib.hid hb1
    clear hb1
    go_wp2_with fail
    refine (smap_any A n cap f _ hl Hr1.out).mono ?_; rintro e w2 ⟨g, rfl, hI, hg, hb2⟩
    have HI := Lib.hid hI
    have hgl := (hI.c4 (show 0 < 484 by omega)).2.2
    have HB2 : Hid (Below w.heap.size w w2) := Lib.hid (Hb1.out.trans (hb2.mono (by omega)))
    clear hI hb2
    have hsz2 : w.heap.size ≤ w2.heap.size := HB2.out.size
    go_wp2
    clear hmk
    go_loopw [5, 6] (fun t i wr => ∃ (k : Nat) (s : Nat → Bool) (c : Int), k ≤ 484 ∧ i = .int .i64 k ∧ t = .int .i64 (c - 1) ∧ Bw wr w2.heap.size 484 s ∧ Count (EdE true false (mapG f n)) (fun a => mapG f n a = false) k s c ∧ Below w2.heap.size w2 wr) (fun _ i _ => 484 - (intOf i).toNat)
    case atStart => exact ⟨0, fun _ => false, 0, Nat.zero_le _, rfl, rfl, Bw.made w2 484, Count.start _ _, (Below.refl _ _).alloc (Nat.le_refl _) _⟩
    case round =>
      obtain ⟨k, s, c, hk0, rfl, rfl, hbw, hct, hbr⟩ := hrel
      have HBW := Lib.hid hbw
      have HCT := Lib.hid hct
      have HB := Lib.hid hbr
      have hzr := hbr.size
      obtain ⟨s1, s2⟩ := cntP_bd k (fun a => mapG f n a = false ∧ Rep (Rch (EdE true false (mapG f n))) a)
      rw [← hct.num] at s1 s2
      clear hbw hct hbr
      by_cases hlt : k < 484
      · have hk484 : (k : Int) < 484 := by omega
        have HIr := Lib.hid (HI.out.below HB.out)
        obtain ⟨c0, _, _⟩ := HIr.out.c4 hlt
        have cs := HBW.out.c k hlt
        cases hgk : mapG f n k
        · rw [hgk] at c0
          simp only [one] at c0
          cases hsk : s k
          · rw [hsk] at cs
            go_wp2_with fail
            refine (sfill_any g w2.heap.size k true false (mapG f n) s _ hlt hgk HIr.out HBW.out (by omega) hsk (HCT.out.shut (fun _ _ => rchE_col))).mono ?_; rintro e w5 ⟨rfl, s5, hb5, hs5, hg5⟩
            have HB5 := Lib.hid hb5
            have HS5 := Lib.hid hs5
            have HG5 := Lib.hid hg5
            clear hb5 hs5 hg5
            go_wp2
            go_roundw
            case rel => exact ⟨k + 1, s5, c + 1, by omega, by go_num, by show Value.int _ _ = Value.int _ _; congr 1; omega, HB5.out, HCT.out.flood (fun _ _ => rchE_col) hgk hsk HS5.out, below_grown HB.out HG5.out hzr (Nat.le_refl _)⟩
            case measure => simp [intOf]; omega
          · rw [hsk] at cs
            go_wp2
            go_roundw
            case rel => exact ⟨k + 1, s, c, by omega, by go_num, rfl, HBW.out, HCT.out.skip (fun _ _ => rchE_col) (Or.inr hsk), HB.out⟩
            case measure => simp [intOf]; omega
        · rw [hgk] at c0
          simp only [one, if_true] at c0
          go_wp2
          go_roundw
          case rel => exact ⟨k + 1, s, c, by omega, by go_num, rfl, HBW.out, HCT.out.skip (fun _ _ => rchE_col) (Or.inl (by rw [hgk]; decide)), HB.out⟩
          case measure => simp [intOf]; omega
      · have hkn : k = 484 := by omega
        subst hkn
        go_wp2
        go_ret
        exact ⟨ret_int (by rw [H.out, HCT.out.num]), HB2.out.trans (HB.out.mono hsz2)⟩
end Go.Proofs.YtbdpngjakccjjaaDoor
