/- The functions that draw: the reader of a code, and what it picks. The functions that draw: rectangles. What the laws of chapter 1 draw. -/
import Derived.Test.YtfdkkkdijgmbbaaRc
namespace Go.Proofs.Ytfdkkkdijgmbbaa
open Go.RowKit Go.Sort Go.BigFrame
set_option linter.unusedVariables false

/-- Of the blocks that were there only B may have changed. -/
structure Sole (B : Nat) (w w' : World) : Prop where
  os : w'.os = w.os
  tape : w'.tape = w.tape
  output : w'.output = w.output
  size : w.heap.size ≤ w'.heap.size
  block : ∀ k, k < w.heap.size → k ≠ B → w'.heap[k]? = w.heap[k]?

theorem Sole.refl (B : Nat) (w : World) : Sole B w w := ⟨rfl, rfl, rfl, Nat.le_refl _, fun _ _ _ => rfl⟩
theorem Sole.trans {B : Nat} {a b c : World} (h : Sole B a b) (k : Sole B b c) : Sole B a c :=
  ⟨k.os.trans h.os, k.tape.trans h.tape, k.output.trans h.output, Nat.le_trans h.size k.size, fun i hi hn => (k.block i (Nat.lt_of_lt_of_le hi h.size) hn).trans (h.block i hi hn)⟩
theorem Sole.of_below {B : Nat} {w w' : World} (h : Below w.heap.size w w') : Sole B w w' := ⟨h.os, h.tape, h.output, h.size, fun k hk _ => h.block k hk⟩
theorem Sole.alloc {B : Nat} {a w : World} (h : Sole B a w) (o : Obj) : Sole B a (w.alloc o) :=
  h.trans ⟨rfl, rfl, rfl, by simp, fun k hk _ => Below.heap_alloc _ _ _ hk⟩
theorem Sole.setCell_new {B : Nat} {a w : World} (h : Sole B a w) {p : Addr} (hp : a.heap.size ≤ p.block) (u : Value) : Sole B a (w.setCell p u) :=
  ⟨h.os, h.tape, h.output, Nat.le_trans h.size (by simp [World.setCell]), fun k hk hn => (Below.heap_setCell _ _ _ _ (by omega)).trans (h.block k hk hn)⟩
theorem Sole.setCell_own {B : Nat} {a w : World} (h : Sole B a w) {p : Addr} (hp : p.block = B) (u : Value) : Sole B a (w.setCell p u) :=
  ⟨h.os, h.tape, h.output, Nat.le_trans h.size (by simp [World.setCell]), fun k hk hn => (Below.heap_setCell _ _ _ _ (by omega)).trans (h.block k hk hn)⟩
theorem Sole.drew {B : Nat} {a w : World} (h : Sole B a w) : Sole B a w.drew := ⟨h.os, h.tape, h.output, h.size, h.block⟩
theorem Sole.drewN {B : Nat} {a w : World} (n : Nat) (h : Sole B a w) : Sole B a (w.drewN n) := ⟨h.os, h.tape, h.output, h.size, h.block⟩
theorem Sole.cell {B : Nat} {w w' : World} (h : Sole B w w') {p : Addr} (hp : p.block < w.heap.size) (hn : p.block ≠ B) : w'.cell? p = w.cell? p := World.cell?_of_block (w := w) (h.block p.block hp hn)
theorem Sole.frozen {B : Nat} {w w' : World} (h : Sole B w w') {p : Addr} (hp : p.block < w.heap.size) (hn : p.block ≠ B) : w'.frozen? p = w.frozen? p := World.frozen?_of_block (w := w) (h.block p.block hp hn)
/-- What was laid before the reader is as it was. -/
theorem Sole.below {B : Nat} {a w w' : World} (h : Below a.heap.size a w) (k : Sole B w w') (hB : a.heap.size ≤ B) : Below a.heap.size a w' :=
  h.trans ⟨k.os, k.tape, k.output, k.size, fun i hi => k.block i (Nat.lt_of_lt_of_le hi h.size) (by omega)⟩

/-- A code that came in: a slice of bytes, in blocks below B. -/
def Code8 (B : Nat) (w : World) (a : Option Addr) (len : Nat) : Prop :=
  len = 0 ∨ ∃ b off, ∃ z : Nat → Int, a = some ⟨b, off, none⟩ ∧ b < B ∧ ∀ i, i < len → w.cell? ⟨b, off + i, none⟩ = some (.int .u8 (z i)) ∧ 0 ≤ z i ∧ z i ≤ 255

/-- The reader at block B: its code, and how many bytes are read (at most N). -/
def Rd (w : World) (B N : Nat) : Prop :=
  ∃ a len cap, ∃ k : Nat, Code8 B w a len ∧ len ≤ 2000 ∧ k ≤ N ∧ B < w.heap.size ∧ w.cell? ⟨B, 0, none⟩ = some (.slice a len cap) ∧ w.cell? ⟨B, 1, none⟩ = some (.int .i64 k) ∧ w.frozen? ⟨B, 1, none⟩ = false

def PickPost (B N : Nat) (n : Int) (w : World) (e : Ending) (w' : World) : Prop :=
  ∃ v : Int, e = .returned (.int .i64 v) ∧ 0 ≤ v ∧ (1 ≤ n → v < n) ∧ (n < 1 → v = 0) ∧ Sole B w w' ∧ Rd w' B (N + 1)

theorem Code8.mono {B : Nat} {w w' : World} {a : Option Addr} {len : Nat} (h : Code8 B w a len) (hs : Sole B w w') (hB : B < w.heap.size) : Code8 B w' a len := by
  rcases h with h | ⟨b, off, z, ha, hb, hc⟩
  · exact Or.inl h
  · exact Or.inr ⟨b, off, z, ha, hb, fun i hi => by
      rw [hs.cell (p := ⟨b, off + i, none⟩) (Nat.lt_trans hb hB) (Nat.ne_of_lt hb)]
      exact hc i hi⟩

theorem Rd.step {w w' : World} {B N : Nat} {a : Option Addr} {len cap k : Nat} (hc : Code8 B w a len) (hl : len ≤ 2000) (hk : k ≤ N) (hB : B < w.heap.size) (hs : Sole B w w')
    (h0 : w'.cell? ⟨B, 0, none⟩ = some (.slice a len cap)) (h1 : w'.cell? ⟨B, 1, none⟩ = some (.int .i64 (k + 1))) (hf : w'.frozen? ⟨B, 1, none⟩ = false) : Rd w' B (N + 1) :=
  ⟨a, len, cap, k + 1, hc.mono hs hB, hl, by omega, Nat.lt_of_lt_of_le hB hs.size, h0, by rw [h1]; norm_cast, hf⟩

theorem i64_xor_bd (a b : Int) (h1 : 0 ≤ a) (h2 : a < 9223372036854775808) (h3 : 0 ≤ b) (h4 : b < 9223372036854775808) : 0 ≤ bits .xor .i64 a b := by
  obtain ⟨A, rfl⟩ := Int.eq_ofNat_of_zero_le h1
  obtain ⟨B, rfl⟩ := Int.eq_ofNat_of_zero_le h3
  have hx : A ^^^ B < 2 ^ 63 := Nat.xor_lt_two_pow (by omega) (by omega)
  show 0 ≤ IntKind.i64.wrap ((BitVec.ofInt 64 (A : Int) ^^^ BitVec.ofInt 64 (B : Int)).toNat : Int)
  rw [BitVec.toNat_xor, ofInt_u64 A (by omega), ofInt_u64 B (by omega), IntKind.wrap_i64]
  omega
theorem own_step {w : World} {B N : Nat} {a : Option Addr} {len cap k : Nat} (hc : Code8 B w a len) (hl : len ≤ 2000) (hk : k ≤ N) (hB : B < w.heap.size) (c0 : w.cell? ⟨B, 0, none⟩ = some (.slice a len cap))
    (c1 : w.cell? ⟨B, 1, none⟩ = some (.int .i64 k)) (fz : w.frozen? ⟨B, 1, none⟩ = false) :
    Sole B w (w.setCell ⟨B, 1, none⟩ (.int .i64 (k + 1))) ∧ Rd (w.setCell ⟨B, 1, none⟩ (.int .i64 (k + 1))) B (N + 1) := by
  have hs : Sole B w (w.setCell ⟨B, 1, none⟩ (.int .i64 (k + 1))) := (Sole.refl B w).setCell_own (p := ⟨B, 1, none⟩) rfl _
  exact ⟨hs, Rd.step (cap := cap) hc hl hk hB hs (by go_simp) (by go_simp) (by go_simp)⟩
theorem own_stepN {w : World} {B N m : Nat} {a : Option Addr} {len cap k : Nat} (hc : Code8 B w a len) (hl : len ≤ 2000) (hk : k ≤ N) (hB : B < w.heap.size) (c0 : w.cell? ⟨B, 0, none⟩ = some (.slice a len cap))
    (c1 : w.cell? ⟨B, 1, none⟩ = some (.int .i64 k)) (fz : w.frozen? ⟨B, 1, none⟩ = false) :
    Sole B w ((w.setCell ⟨B, 1, none⟩ (.int .i64 (k + 1))).drewN m) ∧ Rd ((w.setCell ⟨B, 1, none⟩ (.int .i64 (k + 1))).drewN m) B (N + 1) := by
  have hs : Sole B w (w.setCell ⟨B, 1, none⟩ (.int .i64 (k + 1))) := (Sole.refl B w).setCell_own (p := ⟨B, 1, none⟩) rfl _
  exact ⟨hs.drewN m, Rd.step (cap := cap) hc hl hk hB (hs.drewN m) (by go_simp) (by go_simp) (by go_simp)⟩

set_option maxHeartbeats 1000000 in
set_option maxRecDepth 100000 in
theorem pick_any (B N : Nat) (n : Int) (w : World) (hr : Rd w B N) (hN : N ≤ 1000000) (hn : n ≤ 1000) :
    Calls Try.prog 44 #[.pointer (some ⟨B, 0, none⟩), .int .i64 n] w (PickPost B N n w) := by
  obtain ⟨a, len, cap, k, hc, hl, hk, hB, c0, c1, fz⟩ := hr
  have hc' := Lib.hid hc
  by_cases hn1 : n < 1
  · go_enter Try.func44, Try.ntmps44
    go_wp2
    go_ret
    have hs := own_step hc'.out hl hk hB c0 c1 fz
    exact ⟨0, rfl, by omega, by omega, by omega, hs.1, hs.2⟩
  · by_cases hl0 : len = 0
    · subst hl0
      go_enter Try.func44, Try.ntmps44
      go_wp2
      go_ret
      have hs := own_step hc'.out hl hk hB c0 c1 fz
      exact ⟨0, rfl, by omega, by omega, by omega, hs.1, hs.2⟩
    · rcases hc with h | ⟨b, off, z, rfl, hb, hz⟩
      · exact absurd h hl0
      · by_cases hkl : k < len
        · obtain ⟨hz1, hz2, hz3⟩ := hz k hkl
          go_enter Try.func44, Try.ntmps44
          go_wp2
          go_ret
          have hs := own_step hc'.out hl hk hB c0 c1 fz
          exact ⟨z k % n, rfl, Int.emod_nonneg _ (by omega), fun h => Int.emod_lt_of_pos _ (by omega), by omega, hs.1, hs.2⟩
        · obtain ⟨hz1, hz2, hz3⟩ := hz (k % len) (Nat.mod_lt _ (by omega))
          obtain ⟨hy1, hy2, hy3⟩ := hz ((k * 7 + 3) % len) (Nat.mod_lt _ (by omega))
          have lp : (0 : Int) < (len : Int) := by omega
          have m1 : (0 : Int) ≤ (k : Int) % (len : Int) := Int.emod_nonneg _ (by omega)
          have m2 : (k : Int) % (len : Int) < (len : Int) := Int.emod_lt_of_pos _ lp
          have m3 : ((k : Int) % (len : Int)).toNat = k % len := by rw [← Int.natCast_emod]; rfl
          have n1 : (0 : Int) ≤ ((k : Int) * 7 + 3) % (len : Int) := Int.emod_nonneg _ (by omega)
          have n2 : ((k : Int) * 7 + 3) % (len : Int) < (len : Int) := Int.emod_lt_of_pos _ lp
          have n3 : (((k : Int) * 7 + 3) % (len : Int)).toNat = (k * 7 + 3) % len := by
            rw [show (k : Int) * 7 + 3 = ((k * 7 + 3 : Nat) : Int) by omega, ← Int.natCast_emod]; rfl
          have d1 : (0 : Int) ≤ (k : Int) / (len : Int) := Int.ediv_nonneg (by omega) (by omega)
          have d2 : (k : Int) / (len : Int) ≤ (k : Int) := Int.ediv_le_self _ (by omega)
          go_enter Try.func44, Try.ntmps44
          go_wp2
          refine wp_region_quiet_lit (by kernel_rfl) (by kernel_rfl) ?_
          (repeat (go_big_quiet_step (fail)))
          refine wpQuiet_nil ?_
          intro _ hw'
          obtain ⟨nq, hw''⟩ := hw'
          subst hw''
          have x0 : 0 ≤ z (k % len) * 131 + z ((k * 7 + 3) % len) * 1117 + (k : Int) * 29 + (k : Int) / (len : Int) * 53 := by omega
          have x1 : z (k % len) * 131 + z ((k * 7 + 3) % len) * 1117 + (k : Int) * 29 + (k : Int) / (len : Int) * 53 ≤ 1000000000 := by omega
          generalize z (k % len) * 131 + z ((k * 7 + 3) % len) * 1117 + (k : Int) * 29 + (k : Int) / (len : Int) * 53 = x at x0 x1 ⊢
          clear m1 m2 m3 n1 n2 n3 d1 d2 hz hy1 hz1
          go_wp2
          go_ret
          have hx := i64_xor_bd x (x / 64) x0 (by omega) (by omega) (by omega)
          have hs := own_stepN (m := nq) hc'.out hl hk hB c0 c1 fz
          exact ⟨_, rfl, Int.tmod_nonneg _ hx, fun h => Int.tmod_lt_of_pos _ (by omega), by omega, hs.1, hs.2⟩
end Go.Proofs.Ytfdkkkdijgmbbaa
namespace Go.Proofs.Ytfdkkkdijgmbbaa
open Go.RowKit Go.Sort Go.BigFrame
set_option linter.unusedVariables false

theorem Rd.below {w w' : World} {B N X : Nat} (h : Rd w B N) (hb : Below X w w') (hX : B < X) : Rd w' B N := by
  obtain ⟨a, len, cap, k, hc, hl, hk, hB, c0, c1, fz⟩ := h
  refine ⟨a, len, cap, k, ?_, hl, hk, Nat.lt_of_lt_of_le hB hb.size, ?_, ?_, ?_⟩
  · rcases hc with hc | ⟨b, off, z, ha, hbB, hz⟩
    · exact Or.inl hc
    · exact Or.inr ⟨b, off, z, ha, hbB, fun i hi => by rw [hb.cell (p := ⟨b, off + i, none⟩) (Nat.lt_trans hbB hX)]; exact hz i hi⟩
  · rw [hb.cell (p := ⟨B, 0, none⟩) hX]; exact c0
  · rw [hb.cell (p := ⟨B, 1, none⟩) hX]; exact c1
  · rw [hb.frozen (p := ⟨B, 1, none⟩) hX]; exact fz
theorem Rd.lt {w : World} {B N : Nat} (h : Rd w B N) : B < w.heap.size := by
  obtain ⟨a, len, cap, k, hc, hl, hk, hB, _⟩ := h; exact hB
theorem Rd.le {w : World} {B N M : Nat} (h : Rd w B N) (hM : N ≤ M) : Rd w B M := by
  obtain ⟨a, len, cap, k, hc, hl, hk, r⟩ := h; exact ⟨a, len, cap, k, hc, hl, Nat.le_trans hk hM, r⟩
theorem Rd.alloc {w : World} {B N : Nat} (h : Rd w B N) (o : Obj) : Rd (w.alloc o) B N := h.below ((Below.refl w.heap.size w).alloc (Nat.le_refl _) o) h.lt

def OddPost (B N : Nat) (n : Int) (w : World) (e : Ending) (w' : World) : Prop :=
  ∃ b : Bool, e = .returned (.bool b) ∧ (n ≤ 0 → b = false) ∧ Sole B w w' ∧ Rd w' B (N + 1)

set_option maxHeartbeats 400000 in
set_option maxRecDepth 20000 in
theorem odd_any (B N : Nat) (n : Int) (w : World) (hr : Rd w B N) (hN : N ≤ 1000000) (hn : n ≤ 1000) :
    Calls Try.prog 56 #[.pointer (some ⟨B, 0, none⟩), .int .i64 n] w (OddPost B N n w) := by
  by_cases h : 0 < n
  · go_enter Try.func56, Try.ntmps56
    go_wp2_with fail
    refine (pick_any B (N) _ _ (hr) (by omega) (by omega)).mono ?_; rintro e w1 hp; obtain ⟨v1, rfl, p1, q1, _, hs1, hr1⟩ := hp; have hz1 := hs1.size; (try simp at hz1)
    go_wp2
    go_ret
    exact ⟨_, rfl, fun h' => absurd h (by omega), hs1, hr1⟩
  · go_enter Try.func56, Try.ntmps56
    go_wp2
    go_ret
    exact ⟨false, rfl, fun _ => rfl, Sole.refl _ _, hr.le (by omega)⟩

/-- A code that came in. -/
def Came (w : World) (a : Option Addr) (len cap : Nat) : Prop :=
  len = 0 ∨ ∃ b off, ∃ z : Nat → Int, a = some ⟨b, off, none⟩ ∧ len ≤ cap ∧ cap ≤ maxLen ∧ ∀ i, i < len → w.cell? ⟨b, off + i, none⟩ = some (.int .u8 (z i)) ∧ 0 ≤ z i ∧ z i ≤ 255
theorem Came.len_le {w : World} {a : Option Addr} {len cap : Nat} (h : Came w a len cap) : len ≤ 9223372036854775807 := by
  rcases h with h | ⟨b, off, z, ha, h1, h2, _⟩
  · omega
  · unfold maxLen at h2; omega
theorem Came.below {w w' : World} {a : Option Addr} {len cap : Nat} (h : Came w a len cap) (hb : Below w.heap.size w w') : Came w' a len cap := by
  rcases h with h | ⟨b, off, z, ha, h1, h2, hz⟩
  · exact Or.inl h
  · exact Or.inr ⟨b, off, z, ha, h1, h2, fun i hi => by rw [hb.cell (p := ⟨b, off + i, none⟩) (World.block_lt_of_cell? w _ (hz i hi).1)]; exact hz i hi⟩
def OpenPost (w : World) (e : Ending) (w' : World) : Prop :=
  e = .returned (.pointer (some ⟨w.heap.size, 0, none⟩)) ∧ Below w.heap.size w w' ∧ Rd w' w.heap.size 0
theorem Rd.made {w : World} {a : Option Addr} {len cap : Nat} (h : Came w a len cap) (hl : len ≤ 2000) (cap' : Nat) (t : TypeId) : Rd (w.alloc (.cells #[.slice a len cap', .int .i64 0] t)) w.heap.size 0 := by
  refine ⟨a, len, cap', 0, ?_, hl, Nat.le_refl _, by simp, by go_simp, by go_simp, by go_simp⟩
  rcases h with h | ⟨b, off, z, ha, h1, h2, hz⟩
  · exact Or.inl h
  · by_cases h0 : len = 0
    · exact Or.inl h0
    · exact Or.inr ⟨b, off, z, ha, World.block_lt_of_cell? w _ (hz 0 (by omega)).1, fun i hi => by
        rw [((Below.refl w.heap.size w).alloc (Nat.le_refl _) _).cell (p := ⟨b, off + i, none⟩) (World.block_lt_of_cell? w _ (hz i hi).1)]
        exact hz i hi⟩

set_option maxHeartbeats 400000 in
set_option maxRecDepth 20000 in
theorem open_any (a : Option Addr) (len cap : Nat) (w : World) (hc : Came w a len cap) :
    Calls Try.prog 32 #[.slice a len cap] w (OpenPost w) := by
  have hm := hc.len_le
  have hc' := Lib.hid hc
  by_cases h : len ≤ 2000
  · go_enter Try.func32, Try.ntmps32
    go_wp2
    go_ret
    exact ⟨rfl, (Below.refl _ _).alloc (Nat.le_refl _) _, Rd.made hc'.out h cap 70⟩
  · rcases hc with hc | ⟨b, off, z, rfl, h1, h2, hz⟩
    · omega
    · go_enter Try.func32, Try.ntmps32
      go_wp2
      go_ret
      exact ⟨rfl, (Below.refl _ _).alloc (Nat.le_refl _) _, Rd.made (Or.inr ⟨b, off, z, rfl, (by omega : 2000 ≤ cap), h2, fun i hi => hz i (by omega)⟩) (Nat.le_refl _) cap 70⟩

def RectPost (B N : Nat) (n : Int) (w : World) (e : Ending) (w' : World) : Prop :=
  ∃ r : Rt, e = .returned (rv r) ∧ (-1 ≤ r.l ∧ r.l ≤ 7 ∧ 0 ≤ r.o ∧ r.o ≤ 7 ∧ 0 ≤ r.r ∧ r.r ≤ 21 ∧ 0 ≤ r.h ∧ r.h ≤ 15) ∧ (n ≤ 0 → okB r = true) ∧ Sole B w w' ∧ Rd w' B (N + 7)

set_option maxHeartbeats 4000000 in
set_option maxRecDepth 100000 in
theorem rect_any (B N : Nat) (n : Int) (w : World) (hr : Rd w B N) (hN : N ≤ 999000) (hn : n ≤ 1000) :
    Calls Try.prog 52 #[.pointer (some ⟨B, 0, none⟩), .int .i64 n] w (RectPost B N n w) := by
  have hB := hr.lt
  go_enter Try.func52, Try.ntmps52
  go_wp2_with fail
  refine (pick_any B (N) _ _ (hr.alloc _) (by omega) (by omega)).mono ?_; rintro e w1 hp; obtain ⟨v1, rfl, p1, q1, _, hs1, hr1⟩ := hp; have hz1 := hs1.size; (try simp at hz1); have _ : w.heap.size < w1.heap.size := (by first | (simp; done) | omega | (simp; omega)); have _ := fun o => hs1.cell (p := ⟨w.heap.size, o, none⟩) (by first | (simp; done) | omega | (simp; omega)) (by first | (simp; done) | omega | (simp; omega)); have _ := fun o => hs1.frozen (p := ⟨w.heap.size, o, none⟩) (by first | (simp; done) | omega | (simp; omega)) (by first | (simp; done) | omega | (simp; omega))
  go_wp2_with fail
  refine (pick_any B (N + 1) _ _ (hr1) (by omega) (by omega)).mono ?_; rintro e w2 hp; obtain ⟨v2, rfl, p2, q2, _, hs2, hr2⟩ := hp; have hz2 := hs2.size; (try simp at hz2); have _ : w.heap.size < w2.heap.size := (by first | (simp; done) | omega | (simp; omega)); have _ := fun o => hs2.cell (p := ⟨w.heap.size, o, none⟩) (by first | (simp; done) | omega | (simp; omega)) (by first | (simp; done) | omega | (simp; omega)); have _ := fun o => hs2.frozen (p := ⟨w.heap.size, o, none⟩) (by first | (simp; done) | omega | (simp; omega)) (by first | (simp; done) | omega | (simp; omega))
  go_wp2_with fail
  refine (pick_any B (N + 2) _ _ (hr2) (by omega) (by omega)).mono ?_; rintro e w3 hp; obtain ⟨v3, rfl, p3, q3, _, hs3, hr3⟩ := hp; have hz3 := hs3.size; (try simp at hz3); have _ : w.heap.size < w3.heap.size := (by first | (simp; done) | omega | (simp; omega)); have _ := fun o => hs3.cell (p := ⟨w.heap.size, o, none⟩) (by first | (simp; done) | omega | (simp; omega)) (by first | (simp; done) | omega | (simp; omega)); have _ := fun o => hs3.frozen (p := ⟨w.heap.size, o, none⟩) (by first | (simp; done) | omega | (simp; omega)) (by first | (simp; done) | omega | (simp; omega))
  go_wp2_with fail
  refine (pick_any B (N + 3) _ _ (hr3) (by omega) (by omega)).mono ?_; rintro e w4 hp; obtain ⟨v4, rfl, p4, q4, _, hs4, hr4⟩ := hp; have hz4 := hs4.size; (try simp at hz4); have _ : w.heap.size < w4.heap.size := (by first | (simp; done) | omega | (simp; omega)); have _ := fun o => hs4.cell (p := ⟨w.heap.size, o, none⟩) (by first | (simp; done) | omega | (simp; omega)) (by first | (simp; done) | omega | (simp; omega)); have _ := fun o => hs4.frozen (p := ⟨w.heap.size, o, none⟩) (by first | (simp; done) | omega | (simp; omega)) (by first | (simp; done) | omega | (simp; omega))
  go_wp2_with fail
  refine (pick_any B (N + 4) _ _ (hr4) (by omega) (by omega)).mono ?_; rintro e w5 hp; obtain ⟨v5, rfl, p5, q5, _, hs5, hr5⟩ := hp; have hz5 := hs5.size; (try simp at hz5); have _ : w.heap.size < w5.heap.size := (by first | (simp; done) | omega | (simp; omega)); have _ := fun o => hs5.cell (p := ⟨w.heap.size, o, none⟩) (by first | (simp; done) | omega | (simp; omega)) (by first | (simp; done) | omega | (simp; omega)); have _ := fun o => hs5.frozen (p := ⟨w.heap.size, o, none⟩) (by first | (simp; done) | omega | (simp; omega)) (by first | (simp; done) | omega | (simp; omega))
  have q1' := q1 (by omega)
  have q2' := q2 (by omega)
  have q3' := q3 (by omega)
  have q4' := q4 (by omega)
  have q5' := q5 (by omega)
  clear q1 q2 q3 q4 q5
  go_wp2_with fail
  refine (odd_any B (N + 5) _ _ (hr5.alloc _) (by omega) (by omega)).mono ?_; rintro e w6 hp; obtain ⟨b, rfl, ob, hs6, hr6⟩ := hp; have hz6 := hs6.size; (try simp at hz6); have _ : w.heap.size < w6.heap.size := (by first | (simp; done) | omega | (simp; omega)); have _ := fun o => hs6.cell (p := ⟨w.heap.size, o, none⟩) (by first | (simp; done) | omega | (simp; omega)) (by first | (simp; done) | omega | (simp; omega)); have _ : w5.heap.size < w6.heap.size := (by first | (simp; done) | omega | (simp; omega)); have _ := fun o => hs6.cell (p := ⟨w5.heap.size, o, none⟩) (by first | (simp; done) | omega | (simp; omega)) (by first | (simp; done) | omega | (simp; omega)); have _ := fun o => hs6.frozen (p := ⟨w.heap.size, o, none⟩) (by first | (simp; done) | omega | (simp; omega)) (by first | (simp; done) | omega | (simp; omega))
  cases b
  · go_wp2
    refine bodyPost_ret (v := rv ⟨v2, v3, v2 + 1 + v4, v3 + 1 + v5⟩) (by simp [results, Try.results52, go_sem, *]) rfl ?_
    refine ⟨_, rfl, ⟨by dsimp only; omega, by dsimp only; omega, by dsimp only; omega, by dsimp only; omega, by dsimp only; omega, by dsimp only; omega, by dsimp only; omega, by dsimp only; omega⟩, fun _ => okB_iff.2 (by dsimp only; omega), by (repeat (first | with_reducible exact Sole.refl _ _ | with_reducible assumption | ((with_reducible refine Sole.setCell_new ?_ ?_ _); rotate_left; focus (first | with_reducible exact Nat.le_refl _ | omega | (simp; done) | (simp; omega))) | (with_reducible refine Sole.alloc ?_ _) | (with_reducible refine Sole.trans ?_ (by with_reducible assumption)) | (with_reducible refine Sole.trans ?_ (Sole.of_below (by with_reducible assumption))))), ?_⟩
    exact (hr6.below (X := B + 1) (by (repeat (first | with_reducible exact Below.refl _ _ | with_reducible assumption | ((with_reducible refine Below.alloc ?_ ?_ _); rotate_left; focus (first | with_reducible exact Nat.le_refl _ | omega | (simp; done) | (simp; omega))) | ((with_reducible refine Below.setCell ?_ ?_ _); rotate_left; focus (first | with_reducible exact Nat.le_refl _ | omega | (simp; done) | (simp; omega))) | (with_reducible refine Below.drew ?_) | ((with_reducible refine Below.trans ?_ (Below.mono (by with_reducible assumption) ?_)); rotate_left; focus (first | with_reducible exact Nat.le_refl _ | omega | (simp; done) | (simp; omega)))))) (by omega)).le (by omega)
  · have hn1 : ¬ n ≤ 0 := fun h => absurd (ob h) (by simp)
    clear ob
    go_wp2_with fail
    refine (pick_any B (N + 6) _ _ (hr6.alloc _) (by omega) (by omega)).mono ?_; rintro e w7 hp; obtain ⟨v7, rfl, p7, q7, _, hs7, hr7⟩ := hp; have hz7 := hs7.size; (try simp at hz7); have _ : w.heap.size < w7.heap.size := (by first | (simp; done) | omega | (simp; omega)); have _ := fun o => hs7.cell (p := ⟨w.heap.size, o, none⟩) (by first | (simp; done) | omega | (simp; omega)) (by first | (simp; done) | omega | (simp; omega)); have _ : w6.heap.size < w7.heap.size := (by first | (simp; done) | omega | (simp; omega)); have _ := fun o => hs7.cell (p := ⟨w6.heap.size, o, none⟩) (by first | (simp; done) | omega | (simp; omega)) (by first | (simp; done) | omega | (simp; omega)); have _ := fun o => hs7.frozen (p := ⟨w.heap.size, o, none⟩) (by first | (simp; done) | omega | (simp; omega)) (by first | (simp; done) | omega | (simp; omega))
    have q7' := q7 (by omega)
    clear q7
    have h4 : v7 = 0 ∨ v7 = 1 ∨ v7 = 2 ∨ v7 = 3 := by omega
    clear q7' p7
    have HS : Sole B w w7 := by (repeat (first | with_reducible exact Sole.refl _ _ | with_reducible assumption | ((with_reducible refine Sole.setCell_new ?_ ?_ _); rotate_left; focus (first | with_reducible exact Nat.le_refl _ | omega | (simp; done) | (simp; omega))) | (with_reducible refine Sole.alloc ?_ _) | (with_reducible refine Sole.trans ?_ (by with_reducible assumption)) | (with_reducible refine Sole.trans ?_ (Sole.of_below (by with_reducible assumption)))))
    have HR : Rd w7 B (N + 7) := hr7
    rcases h4 with rfl | rfl | rfl | rfl
    · go_wp2
      refine bodyPost_ret (v := rv ⟨0, 0, 0, 0⟩) (by simp [results, Try.results52, go_sem, *]) rfl ?_
      exact ⟨_, rfl, by decide, fun h => absurd hn1 (by omega), by (repeat (first | with_reducible exact Sole.refl _ _ | with_reducible assumption | ((with_reducible refine Sole.setCell_new ?_ ?_ _); rotate_left; focus (first | with_reducible exact Nat.le_refl _ | omega | (simp; done) | (simp; omega))) | (with_reducible refine Sole.alloc ?_ _) | (with_reducible refine Sole.trans ?_ (by with_reducible assumption)) | (with_reducible refine Sole.trans ?_ (Sole.of_below (by with_reducible assumption))))), HR.below (X := B + 1) (by (repeat (first | with_reducible exact Below.refl _ _ | with_reducible assumption | ((with_reducible refine Below.alloc ?_ ?_ _); rotate_left; focus (first | with_reducible exact Nat.le_refl _ | omega | (simp; done) | (simp; omega))) | ((with_reducible refine Below.setCell ?_ ?_ _); rotate_left; focus (first | with_reducible exact Nat.le_refl _ | omega | (simp; done) | (simp; omega))) | (with_reducible refine Below.drew ?_) | ((with_reducible refine Below.trans ?_ (Below.mono (by with_reducible assumption) ?_)); rotate_left; focus (first | with_reducible exact Nat.le_refl _ | omega | (simp; done) | (simp; omega)))))) (by omega)⟩
    · go_wp2
      refine bodyPost_ret (v := rv ⟨0, 0, 21, 1⟩) (by simp [results, Try.results52, go_sem, *]) rfl ?_
      exact ⟨_, rfl, by decide, fun h => absurd hn1 (by omega), by (repeat (first | with_reducible exact Sole.refl _ _ | with_reducible assumption | ((with_reducible refine Sole.setCell_new ?_ ?_ _); rotate_left; focus (first | with_reducible exact Nat.le_refl _ | omega | (simp; done) | (simp; omega))) | (with_reducible refine Sole.alloc ?_ _) | (with_reducible refine Sole.trans ?_ (by with_reducible assumption)) | (with_reducible refine Sole.trans ?_ (Sole.of_below (by with_reducible assumption))))), HR.below (X := B + 1) (by (repeat (first | with_reducible exact Below.refl _ _ | with_reducible assumption | ((with_reducible refine Below.alloc ?_ ?_ _); rotate_left; focus (first | with_reducible exact Nat.le_refl _ | omega | (simp; done) | (simp; omega))) | ((with_reducible refine Below.setCell ?_ ?_ _); rotate_left; focus (first | with_reducible exact Nat.le_refl _ | omega | (simp; done) | (simp; omega))) | (with_reducible refine Below.drew ?_) | ((with_reducible refine Below.trans ?_ (Below.mono (by with_reducible assumption) ?_)); rotate_left; focus (first | with_reducible exact Nat.le_refl _ | omega | (simp; done) | (simp; omega)))))) (by omega)⟩
    · go_wp2
      refine bodyPost_ret (v := rv ⟨3, 0, 3, 2⟩) (by simp [results, Try.results52, go_sem, *]) rfl ?_
      exact ⟨_, rfl, by decide, fun h => absurd hn1 (by omega), by (repeat (first | with_reducible exact Sole.refl _ _ | with_reducible assumption | ((with_reducible refine Sole.setCell_new ?_ ?_ _); rotate_left; focus (first | with_reducible exact Nat.le_refl _ | omega | (simp; done) | (simp; omega))) | (with_reducible refine Sole.alloc ?_ _) | (with_reducible refine Sole.trans ?_ (by with_reducible assumption)) | (with_reducible refine Sole.trans ?_ (Sole.of_below (by with_reducible assumption))))), HR.below (X := B + 1) (by (repeat (first | with_reducible exact Below.refl _ _ | with_reducible assumption | ((with_reducible refine Below.alloc ?_ ?_ _); rotate_left; focus (first | with_reducible exact Nat.le_refl _ | omega | (simp; done) | (simp; omega))) | ((with_reducible refine Below.setCell ?_ ?_ _); rotate_left; focus (first | with_reducible exact Nat.le_refl _ | omega | (simp; done) | (simp; omega))) | (with_reducible refine Below.drew ?_) | ((with_reducible refine Below.trans ?_ (Below.mono (by with_reducible assumption) ?_)); rotate_left; focus (first | with_reducible exact Nat.le_refl _ | omega | (simp; done) | (simp; omega)))))) (by omega)⟩
    · go_wp2
      refine bodyPost_ret (v := rv ⟨-1, 0, 1, 1⟩) (by simp [results, Try.results52, go_sem, *]) rfl ?_
      exact ⟨_, rfl, by decide, fun h => absurd hn1 (by omega), by (repeat (first | with_reducible exact Sole.refl _ _ | with_reducible assumption | ((with_reducible refine Sole.setCell_new ?_ ?_ _); rotate_left; focus (first | with_reducible exact Nat.le_refl _ | omega | (simp; done) | (simp; omega))) | (with_reducible refine Sole.alloc ?_ _) | (with_reducible refine Sole.trans ?_ (by with_reducible assumption)) | (with_reducible refine Sole.trans ?_ (Sole.of_below (by with_reducible assumption))))), HR.below (X := B + 1) (by (repeat (first | with_reducible exact Below.refl _ _ | with_reducible assumption | ((with_reducible refine Below.alloc ?_ ?_ _); rotate_left; focus (first | with_reducible exact Nat.le_refl _ | omega | (simp; done) | (simp; omega))) | ((with_reducible refine Below.setCell ?_ ?_ _); rotate_left; focus (first | with_reducible exact Nat.le_refl _ | omega | (simp; done) | (simp; omega))) | (with_reducible refine Below.drew ?_) | ((with_reducible refine Below.trans ?_ (Below.mono (by with_reducible assumption) ?_)); rotate_left; focus (first | with_reducible exact Nat.le_refl _ | omega | (simp; done) | (simp; omega)))))) (by omega)⟩
end Go.Proofs.Ytfdkkkdijgmbbaa
namespace Go.Proofs.Ytfdkkkdijgmbbaa
open Go.RowKit Go.Sort Go.BigFrame
set_option linter.unusedVariables false

def Near (r : Rt) : Prop := -1 ≤ r.l ∧ r.l ≤ 7 ∧ 0 ≤ r.o ∧ r.o ≤ 7 ∧ 0 ≤ r.r ∧ r.r ≤ 21 ∧ 0 ≤ r.h ∧ r.h ≤ 15
def TwoPost (B N : Nat) (w : World) (e : Ending) (w' : World) : Prop :=
  ∃ r s : Rt, e = .returned (.tuple #[rv r, rv s]) ∧ Near r ∧ Near s ∧ Sole B w w' ∧ Rd w' B (N + 14)
def OneDrawn (w : World) (e : Ending) (w' : World) : Prop :=
  ∃ r : Rt, e = .returned (rv r) ∧ Near r ∧ Below w.heap.size w w'
def TwoDrawn (w : World) (e : Ending) (w' : World) : Prop :=
  ∃ r s : Rt, e = .returned (.tuple #[rv r, rv s]) ∧ Near r ∧ Near s ∧ Below w.heap.size w w'
def MoveDrawn (w : World) (e : Ending) (w' : World) : Prop :=
  ∃ (r : Rt) (x y : Int), e = .returned (.tuple #[rv r, .int .i64 x, .int .i64 y]) ∧ Near r ∧ -5 ≤ x ∧ x ≤ 6 ∧ -5 ≤ y ∧ y ≤ 36 ∧ Below w.heap.size w w'

theorem Near.common {a b : Rt} (ha : Near a) (hb : Near b) : Near (commonR a b) := by
  unfold Near commonR at *; dsimp only; omega
end Go.Proofs.Ytfdkkkdijgmbbaa
