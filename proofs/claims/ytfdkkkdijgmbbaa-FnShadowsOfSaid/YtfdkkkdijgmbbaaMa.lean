/- Chapter 4 of spec: the map with a border, OutlineOf, CornersOf. Chapter 4 of spec: OutlineOf, CornersOf. Chapter 4 of spec: the flood from one cell. -/
import Derived.Test.YtfdkkkdijgmbbaaMathO
import Derived.Test.YtfdkkkdijgmbbaaUni
import Derived.Test.YtfdkkkdijgmbbaaSum
import Derived.Test.YtfdkkkdijgmbbaaMathQ
import Derived.WalkSmall
import Derived.Maps.AppendAt
namespace Go.Proofs.Ytfdkkkdijgmbbaa
open Go.RowKit Go.Sort
set_option linter.unusedVariables false
/-- The map when the first k cells of the field are done. -/
def mapTo (f : Nat → Rt) (n k a : Nat) : Bool := mapG f n a && decide (20 * (a / 22 - 1) + (a % 22 - 1) < k)
theorem mapG_inner {f : Nat → Rt} {n a : Nat} (h : mapG f n a = true) : 1 ≤ a % 22 ∧ a % 22 ≤ 20 ∧ 1 ≤ a / 22 ∧ a / 22 ≤ 20 := by
  unfold mapG at h; rw [Bool.and_eq_true, decide_eq_true_iff] at h; exact h.1
theorem mapTo_none (f : Nat → Rt) (n a : Nat) : one (mapTo f n 0 a) = 0 := by unfold mapTo; simp [one]
theorem mapTo_all (f : Nat → Rt) (n a : Nat) : mapTo f n 400 a = mapG f n a := by
  unfold mapTo
  cases h : mapG f n a
  · rfl
  · have := mapG_inner h
    rw [Bool.true_and]; exact decide_eq_true (by omega)
theorem mapTo_step (f : Nat → Rt) (n y x a : Nat) (hy : y < 20) (hx : x < 20) (ha : a ≠ (y + 1) * 22 + x + 1) : mapTo f n (20 * y + x) a = mapTo f n (20 * y + (x + 1)) a := by
  unfold mapTo
  cases h : mapG f n a
  · rfl
  · have := mapG_inner h
    rw [Bool.true_and, Bool.true_and, decide_eq_decide]; omega
theorem mapTo_hit (f : Nat → Rt) (n y x : Nat) (hy : y < 20) (hx : x < 20) : mapTo f n (20 * y + (x + 1)) ((y + 1) * 22 + x + 1) = anyTo f x y n := by
  unfold mapTo
  rw [show (y + 1) * 22 + x + 1 = 22 * (y + 1) + (x + 1) by omega, mapG_at f n (x + 1) (y + 1) (by omega), decide_eq_true (p := 20 * ((22 * (y + 1) + (x + 1)) / 22 - 1) + ((22 * (y + 1) + (x + 1)) % 22 - 1) < 20 * y + (x + 1)) (by omega), Bool.and_true,
    decide_eq_true (p := 1 ≤ x + 1 ∧ x + 1 ≤ 20 ∧ 1 ≤ y + 1 ∧ y + 1 ≤ 20) (by omega), Bool.true_and]
  rw [show ((x + 1 : Nat) : Int) - 1 = x by omega, show ((y + 1 : Nat) : Int) - 1 = y by omega]
theorem mapTo_old (f : Nat → Rt) (n y x : Nat) (hy : y < 20) (hx : x < 20) : mapTo f n (20 * y + x) ((y + 1) * 22 + x + 1) = false := by
  unfold mapTo
  rw [show (y + 1) * 22 + x + 1 = 22 * (y + 1) + (x + 1) by omega, decide_eq_false (p := 20 * ((22 * (y + 1) + (x + 1)) / 22 - 1) + ((22 * (y + 1) + (x + 1)) % 22 - 1) < 20 * y + x) (by omega), Bool.and_false]
theorem Iw.c4 {w : World} {A : Option Addr} {n g k : Nat} {f : Nat → Int} (h : Iw w A n f g) (hk : k < n) : w.cell? ⟨g, k, none⟩ = some (.int .i64 (f k)) ∧ w.frozen? ⟨g, k, none⟩ = false ∧ g < w.heap.size := by
  rcases h with h | ⟨_, h0, h1, h2⟩
  · omega
  · exact ⟨h1 k hk, h2 k hk, h0⟩

/-- A map is handed back, in a block of the call's own. -/
def MapPost (G : Nat → Bool) (w : World) (e : Ending) (w' : World) : Prop :=
  ∃ g, e = .returned (.slice (some ⟨g, 0, none⟩) 484 484) ∧ Iw w' (some ⟨g, 0, none⟩) 484 (fun a => one (G a)) g ∧ w.heap.size ≤ g ∧ Below w.heap.size w w'
end Go.Proofs.Ytfdkkkdijgmbbaa
namespace Go.Proofs.Ytfdkkkdijgmbbaa
open Go.RowKit Go.Sort
set_option linter.unusedVariables false
set_option linter.unusedSimpArgs false
/-- The outline, -1 for others. -/
def olF (f : Nat → Rt) (n : Nat) : Int := if laidF f n then outl (mapG f n) else -1
theorem ne_one (p q : Bool) : one (p != q) = if one p = one q then 0 else 1 := by cases p <;> cases q <;> decide
theorem sides_bd (G : Nat → Bool) (k : Nat) : 0 ≤ sides G k ∧ sides G k ≤ 2 := by
  unfold sides
  have := one_nonneg (G k != G (k + 1))
  have := one_le (G k != G (k + 1))
  have := one_nonneg (G k != G (k + 22))
  have := one_le (G k != G (k + 22))
  split <;> omega
theorem sides_sum_bd (G : Nat → Bool) (k : Nat) : 0 ≤ sumN k (sides G) ∧ sumN k (sides G) ≤ 2 * k := by
  induction k with
  | zero => simp [sumN]
  | succ k ih => simp only [sumN]; have := sides_bd G k; omega

def rowAt (g : Nat → Int) (y x : Nat) : Int := sumN x (fun i => g (22 * y + i))
def rowsAt (g : Nat → Int) (y : Nat) : Int := sumN y (fun j => rowAt g j 21)
theorem outAt_bd (G : Nat → Bool) (a : Nat) : 0 ≤ outAt G a ∧ outAt G a ≤ 2 := by
  unfold outAt; cases G a <;> cases G (a + 1) <;> cases G (a + 22) <;> cases G (a + 23) <;> decide
theorem inAt_bd (G : Nat → Bool) (a : Nat) : 0 ≤ inAt G a ∧ inAt G a ≤ 2 := by
  unfold inAt; cases G a <;> cases G (a + 1) <;> cases G (a + 22) <;> cases G (a + 23) <;> decide
theorem rowAt_bd {g : Nat → Int} (h : ∀ a, 0 ≤ g a ∧ g a ≤ 2) (y x : Nat) : 0 ≤ rowAt g y x ∧ rowAt g y x ≤ 2 * x := by
  unfold rowAt
  induction x with
  | zero => simp [sumN]
  | succ x ih => simp only [sumN]; have := h (22 * y + x); omega
theorem rowsAt_bd {g : Nat → Int} (h : ∀ a, 0 ≤ g a ∧ g a ≤ 2) (y : Nat) : 0 ≤ rowsAt g y ∧ rowsAt g y ≤ 42 * y := by
  unfold rowsAt
  induction y with
  | zero => simp [sumN]
  | succ y ih => simp only [sumN]; have := rowAt_bd h y 21; omega
/-- How many corners point out, and in; -1 for others. -/
def coF (f : Nat → Rt) (n : Nat) : Int := if laidF f n then rowsAt (outAt (mapG f n)) 21 else -1
def ciF (f : Nat → Rt) (n : Nat) : Int := if laidF f n then rowsAt (inAt (mapG f n)) 21 else -1
end Go.Proofs.Ytfdkkkdijgmbbaa
namespace Go.Proofs.Ytfdkkkdijgmbbaa
open Go.RowKit Go.Sort
set_option linter.unusedVariables false
/-- Bools in a block of the call's own. -/
structure Bw (w : World) (g n : Nat) (s : Nat → Bool) : Prop where
  lt : g < w.heap.size
  c : ∀ i, i < n → w.cell? ⟨g, i, none⟩ = some (.bool (s i))
  fz : ∀ i, i < n → w.frozen? ⟨g, i, none⟩ = false
theorem Bw.below {w w' : World} {g n : Nat} {s : Nat → Bool} (h : Bw w g n s) (hb : Below w.heap.size w w') : Bw w' g n s :=
  ⟨Nat.lt_of_lt_of_le h.lt hb.size, fun i hi => (hb.cell (p := ⟨g, i, none⟩) h.lt).trans (h.c i hi), fun i hi => (hb.frozen (p := ⟨g, i, none⟩) h.lt).trans (h.fz i hi)⟩
theorem Bw.under {w w' : World} {g n B : Nat} {s : Nat → Bool} (h : Bw w g n s) (hb : Below B w w') (hg : g < B) : Bw w' g n s :=
  ⟨Nat.lt_of_lt_of_le h.lt hb.size, fun i hi => (World.cell?_of_block (w := w) (hb.block g hg)).trans (h.c i hi), fun i hi => (World.frozen?_of_block (w := w) (hb.block g hg)).trans (h.fz i hi)⟩
theorem Bw.put {w : World} {g n k : Nat} {s : Nat → Bool} (h : Bw w g n s) (hk : k < n) : Bw (w.setCell ⟨g, k, none⟩ (.bool true)) g n (putB s k) := by
  refine ⟨by simp [World.setCell]; exact h.lt, fun i hi => ?_, fun i hi => by rw [World.frozen?_setCell]; exact h.fz i hi⟩
  by_cases e : i = k
  · subst e; rw [putB_same]; exact World.cell?_setCell_same' _ _ _ (by rw [h.c i hi]; rfl)
  · rw [World.cell?_setCell_other _ ⟨g, k, none⟩ ⟨g, i, none⟩ _ (fun e => by injection e; omega), putB_other s e]; exact h.c i hi
theorem Bw.congr {w : World} {g n : Nat} {s s' : Nat → Bool} (h : Bw w g n s) (e : ∀ i, i < n → s i = s' i) : Bw w g n s' := ⟨h.lt, fun i hi => by rw [← e i hi]; exact h.c i hi, h.fz⟩
/-- How many of the bools of a block are false, as the world has them. -/
def boolAt (w : World) (g i : Nat) : Bool := match w.cell? ⟨g, i, none⟩ with | some (.bool b) => b | _ => false
theorem restB_congr {n : Nat} {s s' : Nat → Bool} (h : ∀ i, i < n → s i = s' i) : restB n s = restB n s' := by
  induction n with
  | zero => rfl
  | succ n ih => simp only [restB]; rw [ih (fun i hi => h i (by omega)), h n (by omega)]
theorem Bw.rest {w : World} {g n : Nat} {s : Nat → Bool} (h : Bw w g n s) : restB n (boolAt w g) = restB n s := restB_congr fun i hi => by unfold boolAt; rw [h.c i hi]
def lenOf : Value → Nat
  | .slice _ n _ => n
  | _ => 0
/-- A stack of ints of the call's own. -/
def intL (st : List Nat) : List Value := st.map fun a => Value.int .i64 (a : Nat)
def StI (w : World) (base h cap : Nat) (st : List Nat) : Prop := w.ownsRow base 3 1 (.slice (some ⟨h, 0, none⟩) st.length cap) st.length (intL st)
theorem intL_len (st : List Nat) : (intL st).length = st.length := by simp [intL]
theorem intL_snoc (st : List Nat) (k : Nat) : intL (st ++ [k]) = intL st ++ [.int .i64 (k : Nat)] := by simp [intL]
theorem StI.drewN {w : World} {base h cap : Nat} {st : List Nat} (H : StI w base h cap st) (n : Nat) : StI (w.drewN n) base h cap st := H
theorem StI.alloc {w : World} {base h cap : Nat} {st : List Nat} (H : StI w base h cap st) (o : Obj) : StI (w.alloc o) base h cap st := World.ownsRow.alloc H o
theorem StI.set {w : World} {base h cap : Nat} {st : List Nat} (H : StI w base h cap st) {a : Addr} (ha : a.block < base) (u : Value) : StI (w.setCell a u) base h cap st := ownsRow_setCell_below H ha u
theorem StI.blk {w : World} {base h cap : Nat} {st : List Nat} (H : StI w base h cap st) : base ≤ h ∧ h < w.heap.size := World.ownsRow.lt H h rfl
theorem StI.one (w : World) (base b : Nat) (hb : w.heap.size = b) (hh : base ≤ b) (k : Nat) : StI (w.alloc (.cells #[.int .i64 (k : Nat)] 3)) base b 1 [k] := by
  subst hb; exact World.ownsRow_lit w #[.int .i64 (k : Nat)] 1 hh (by unfold maxLen; omega) rfl
theorem StI.top {w : World} {base h cap k : Nat} {st : List Nat} (H : StI w base h cap (st ++ [k])) : w.cell? ⟨h, st.length, none⟩ = some (.int .i64 (k : Nat)) := by
  have := World.ownsRow.cellAt H st.length (by simp)
  rw [this, intL_snoc, List.getElem?_append_right (by rw [intL_len]; exact Nat.le_refl _), intL_len, Nat.sub_self]; rfl
theorem StI.pop {w : World} {base h cap k : Nat} {st : List Nat} (H : StI w base h cap (st ++ [k])) : StI w base h cap st := by
  unfold StI at H
  rw [List.length_append, List.length_singleton, intL_snoc] at H
  exact ownsRow_pop (by rw [intL_len]; omega) H
theorem StI.capLe {w : World} {base h cap : Nat} {st : List Nat} (H : StI w base h cap st) : st.length ≤ cap := by
  rcases H.2 with ⟨h0, _⟩ | ⟨g', cap', cur, hv, hg, hh, hn, hcap, hsz, htake⟩
  · cases h0
  · cases hv; exact hn
theorem grown_under {a w w' : World} {g : Nat} (h : a.grownBy w (some g)) (hb : Below a.heap.size w w') : a.grownBy w' (some g) :=
  ⟨hb.os.trans h.os, hb.tape.trans h.tape, hb.output.trans h.output, Nat.le_trans h.size hb.size, fun i hi hn => (hb.block i hi).trans (h.block i hi hn)⟩
/-- While a search goes on: the stack, what is seen, what is still to look at; m bounds what is left. -/
structure FillP (w wr : World) (gs : Nat) (E : Nat → Nat → Prop) (S : Nat → Bool) (o : Nat) (Rem : Nat → Nat → Prop) (h cap : Nat) (st : List Nat) (s : Nat → Bool) (m : Nat) : Prop where
  own : StI wr w.heap.size h cap st
  seen : Bw wr gs 484 s
  gr : w.grownBy wr (some gs)
  fl : Flood E S o s (· ∈ st) Rem
  ms : st.length + 2 * restB 484 s ≤ m
  inn : ∀ a ∈ st, a < 484
/-- the cell k is seen from now on, and comes onto the stack -/
theorem FillP.push {w wr w5 w6 : World} {gs h h' cap cap' o j k : Nat} {e8 c : Bool} {G S s : Nat → Bool} {st : List Nat} {m : Nat} {t : Int} (H : FillP w wr gs (EdE e8 c G) S o (Rm k t) h cap st s m) (hgs : gs < w.heap.size)
    (hk : Rch (EdE e8 c G) o k) (he : EdE e8 c G k j) (hj : ∀ b, EdE e8 c G k b → idx k b = t → b = j) (hs : s j = false)
    (hb5 : Below w.heap.size (wr.setCell ⟨gs, j, none⟩ (.bool true)) w5) (hI : StI w6 w.heap.size h' cap' (st ++ [j])) (hb6 : Below w.heap.size w5 w6) :
    FillP w w6 gs (EdE e8 c G) S o (Rm k (t + 1)) h' cap' (st ++ [j]) (putB s j) m := by
  have hjl := he.lt.2
  have hB := hb5.trans hb6
  refine ⟨hI, (H.seen.put hjl).under hB hgs, grown_under (grown_setCell (o := j) H.gr _) hB, H.fl.take hk he hj (fun a => by simp), ?_, fun a ha => ?_⟩
  · have h1 := restB_put (n := 484) (s := s) hjl hs
    have h2 := H.ms
    rw [List.length_append, List.length_singleton]; omega
  · rcases List.mem_append.1 ha with ha | ha
    · exact H.inn a ha
    · rw [List.mem_singleton.1 ha]; exact hjl
theorem FillP.pass {w wr : World} {gs h cap o k : Nat} {e8 c : Bool} {G S s : Nat → Bool} {st : List Nat} {m : Nat} {t : Int} (H : FillP w wr gs (EdE e8 c G) S o (Rm k t) h cap st s m) (n : Nat)
    (hs : ∀ b, EdE e8 c G k b → idx k b = t → s b = true) : FillP w (wr.drewN n) gs (EdE e8 c G) S o (Rm k (t + 1)) h cap st s m :=
  ⟨H.own.drewN n, ⟨H.seen.lt, H.seen.c, H.seen.fz⟩, ⟨H.gr.os, H.gr.tape, H.gr.output, H.gr.size, H.gr.block⟩, H.fl.pass hs, H.ms, H.inn⟩
theorem new_cell (w : World) (v : Value) (t : TypeId) {b : Nat} (hb : w.heap.size = b) : (w.alloc (.cells #[v] t)).cell? ⟨b, 0, none⟩ = some v := by
  subst hb; exact cell_of_row _ _ _ _ _ _ (heap_alloc_new w _)
theorem FillP.pass0 {w wr : World} {gs h cap o k : Nat} {e8 c : Bool} {G S s : Nat → Bool} {st : List Nat} {m : Nat} {t : Int} (H : FillP w wr gs (EdE e8 c G) S o (Rm k t) h cap st s m)
    (hs : ∀ b, EdE e8 c G k b → idx k b = t → s b = true) : FillP w wr gs (EdE e8 c G) S o (Rm k (t + 1)) h cap st s m := ⟨H.own, H.seen, H.gr, H.fl.pass hs, H.ms, H.inn⟩
theorem FillP.cast {w wr : World} {gs h cap o k : Nat} {E : Nat → Nat → Prop} {S s : Nat → Bool} {st : List Nat} {m : Nat} {t t' : Int} (H : FillP w wr gs E S o (Rm k t) h cap st s m) (e : t = t') : FillP w wr gs E S o (Rm k t') h cap st s m := e ▸ H
theorem FillP.fin {w wr : World} {gs h cap o k : Nat} {e8 c : Bool} {G S s : Nat → Bool} {st : List Nat} {m m' : Nat} {t : Int} (H : FillP w wr gs (EdE e8 c G) S o (Rm k t) h cap st s m) (e : t = 9) (hm : m ≤ m') :
    FillP w wr gs (EdE e8 c G) S o (fun _ _ => False) h cap st s m' := by
  subst e; exact ⟨H.own, H.seen, H.gr, H.fl.finish, Nat.le_trans H.ms hm, H.inn⟩
theorem FillP.drewN {w wr : World} {gs h cap o : Nat} {E : Nat → Nat → Prop} {S s : Nat → Bool} {Rem : Nat → Nat → Prop} {st : List Nat} {m : Nat} (H : FillP w wr gs E S o Rem h cap st s m) (n : Nat) : FillP w (wr.drewN n) gs E S o Rem h cap st s m :=
  ⟨H.own.drewN n, ⟨H.seen.lt, H.seen.c, H.seen.fz⟩, ⟨H.gr.os, H.gr.tape, H.gr.output, H.gr.size, H.gr.block⟩, H.fl, H.ms, H.inn⟩
theorem one_inj {p q : Bool} (h : one p = one q) : p = q := by revert h; cases p <;> cases q <;> decide
/-- Places that are no neighbours. -/
theorem no_cross {c : Bool} {G : Nat → Bool} {k b : Nat} {X Y : Int} (hX : -1 ≤ X ∧ X ≤ 1) (hY : -1 ≤ Y ∧ Y ≤ 1) (hz : ¬ X * Y = 0) (he : EdE false c G k b) (hi : idx k b = 3 * (Y + 1) + (X + 1)) : False := by
  have hs : Side k b := by simpa using he.1
  obtain ⟨e1, e2⟩ := idx_tells (side_near hs) hX hY hi
  have := side_cross hs
  have : X = 0 ∨ Y = 0 := by omega
  rcases this with h | h
  · exact hz (by rw [h, Int.zero_mul])
  · exact hz (by rw [h, Int.mul_zero])
theorem no_x {e8 c : Bool} {G : Nat → Bool} {k b : Nat} {X Y : Int} (hX : -1 ≤ X ∧ X ≤ 1) (hY : -1 ≤ Y ∧ Y ≤ 1) (h1 : inB ((k : Int) % 22 + X) 0 21 = false) (he : EdE e8 c G k b) (hi : idx k b = 3 * (Y + 1) + (X + 1)) : False := by
  have := (idx_out (edE_near he) hX hY hi).1
  rw [inB_iff.2 this] at h1; cases h1
theorem no_y {e8 c : Bool} {G : Nat → Bool} {k b : Nat} {X Y : Int} (hX : -1 ≤ X ∧ X ≤ 1) (hY : -1 ≤ Y ∧ Y ≤ 1) (h1 : inB ((k : Int) / 22 + Y) 0 21 = false) (he : EdE e8 c G k b) (hi : idx k b = 3 * (Y + 1) + (X + 1)) : False := by
  have := (idx_out (edE_near he) hX hY hi).2
  rw [inB_iff.2 this] at h1; cases h1
theorem edge_to {e8 c : Bool} {G : Nat → Bool} {k j o : Nat} {X Y : Int} (hk : k < 484) (hj : j < 484) (hX : -1 ≤ X ∧ X ≤ 1) (hY : -1 ≤ Y ∧ Y ≤ 1) (e1 : ((j / 22 : Nat) : Int) = ((k / 22 : Nat) : Int) + Y) (e2 : ((j % 22 : Nat) : Int) = ((k % 22 : Nat) : Int) + X)
    (hne : j ≠ k) (h0 : X * Y = 0 ∨ e8 = true) (hG : G o = c) (hr : Rch (EdE e8 c G) o k) (hc : one (G j) = one (G o)) : EdE e8 c G k j := by
  refine ⟨?_, (rchE_col hr).1 hG, (one_inj hc).trans hG⟩
  cases e8
  · rcases h0 with h0 | h0
    · simpa using place_side hk hj hX hY e1 e2 hne (mul_zero_or h0)
    · cases h0
  · simpa using place_side8 hk hj hX hY e1 e2 hne
theorem in_eq (n lo hi : Int) (v : Bool) (h : inB n lo hi = v) (w : World) :
    Calls Try.prog 47 #[.int .i64 n, .int .i64 lo, .int .i64 hi] w fun e w' => e = .returned (.bool v) ∧ w = w' := (in_any n lo hi w).mono fun _ _ hh => ⟨h ▸ hh.1, hh.2⟩

end Go.Proofs.Ytfdkkkdijgmbbaa
