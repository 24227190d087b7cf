
/- The functions that draw: the reader of a code, and what it picks. -/
import Derived.Test.YthbmiibbnbbdgaaRectC
namespace Go.Proofs.Ythbmiibbnbbdgaa
open Go.RowKit Go.Sort Go.BigFrame
set_option linter.unusedVariables false

/-- Of the blocks that were there only B may have changed. -/
structure Sole (B : Nat) (w w' : World) : Prop where
  os : w'.os = w.os
  tape : w'.tape = w.tape
  output : w'.output = w.output
  size : w.heap.size ≤ w'.heap.size
  block : ∀ k, k < w.heap.size → k ≠ B → w'.heap[k]? = w.heap[k]?

theorem Sole.refl (B : Nat) (w : World) : Sole B w w := ⟨rfl, rfl, rfl, Nat.le_refl _, fun _ _ _ => rfl⟩
theorem Sole.trans {B : Nat} {a b c : World} (h : Sole B a b) (k : Sole B b c) : Sole B a c :=
  ⟨k.os.trans h.os, k.tape.trans h.tape, k.output.trans h.output, Nat.le_trans h.size k.size, fun i hi hn => (k.block i (Nat.lt_of_lt_of_le hi h.size) hn).trans (h.block i hi hn)⟩
theorem Sole.of_below {B : Nat} {w w' : World} (h : Below w.heap.size w w') : Sole B w w' := ⟨h.os, h.tape, h.output, h.size, fun k hk _ => h.block k hk⟩
theorem Sole.alloc {B : Nat} {a w : World} (h : Sole B a w) (o : Obj) : Sole B a (w.alloc o) :=
  h.trans ⟨rfl, rfl, rfl, by simp, fun k hk _ => Below.heap_alloc _ _ _ hk⟩
theorem Sole.setCell_new {B : Nat} {a w : World} (h : Sole B a w) {p : Addr} (hp : a.heap.size ≤ p.block) (u : Value) : Sole B a (w.setCell p u) :=
  ⟨h.os, h.tape, h.output, Nat.le_trans h.size (by simp [World.setCell]), fun k hk hn => (Below.heap_setCell _ _ _ _ (by omega)).trans (h.block k hk hn)⟩
theorem Sole.setCell_own {B : Nat} {a w : World} (h : Sole B a w) {p : Addr} (hp : p.block = B) (u : Value) : Sole B a (w.setCell p u) :=
  ⟨h.os, h.tape, h.output, Nat.le_trans h.size (by simp [World.setCell]), fun k hk hn => (Below.heap_setCell _ _ _ _ (by omega)).trans (h.block k hk hn)⟩
theorem Sole.drew {B : Nat} {a w : World} (h : Sole B a w) : Sole B a w.drew := ⟨h.os, h.tape, h.output, h.size, h.block⟩
theorem Sole.drewN {B : Nat} {a w : World} (n : Nat) (h : Sole B a w) : Sole B a (w.drewN n) := ⟨h.os, h.tape, h.output, h.size, h.block⟩
theorem Sole.cell {B : Nat} {w w' : World} (h : Sole B w w') {p : Addr} (hp : p.block < w.heap.size) (hn : p.block ≠ B) : w'.cell? p = w.cell? p := World.cell?_of_block (w := w) (h.block p.block hp hn)
theorem Sole.frozen {B : Nat} {w w' : World} (h : Sole B w w') {p : Addr} (hp : p.block < w.heap.size) (hn : p.block ≠ B) : w'.frozen? p = w.frozen? p := World.frozen?_of_block (w := w) (h.block p.block hp hn)
/-- What was laid before the reader is as it was. -/
theorem Sole.below {B : Nat} {a w w' : World} (h : Below a.heap.size a w) (k : Sole B w w') (hB : a.heap.size ≤ B) : Below a.heap.size a w' :=
  h.trans ⟨k.os, k.tape, k.output, k.size, fun i hi => k.block i (Nat.lt_of_lt_of_le hi h.size) (by omega)⟩

/-- A code that came in: a slice of bytes, in blocks below B. -/
def Code8 (B : Nat) (w : World) (a : Option Addr) (len : Nat) : Prop :=
  len = 0 ∨ ∃ b off, ∃ z : Nat → Int, a = some ⟨b, off, none⟩ ∧ b < B ∧ ∀ i, i < len → w.cell? ⟨b, off + i, none⟩ = some (.int .u8 (z i)) ∧ 0 ≤ z i ∧ z i ≤ 255

/-- The reader at block B: its code, and how many bytes are read (at most N). -/
def Rd (w : World) (B N : Nat) : Prop :=
  ∃ a len cap, ∃ k : Nat, Code8 B w a len ∧ len ≤ 2000 ∧ k ≤ N ∧ B < w.heap.size ∧ w.cell? ⟨B, 0, none⟩ = some (.slice a len cap) ∧ w.cell? ⟨B, 1, none⟩ = some (.int .i64 k) ∧ w.frozen? ⟨B, 1, none⟩ = false

def PickPost (B N : Nat) (n : Int) (w : World) (e : Ending) (w' : World) : Prop :=
  ∃ v : Int, e = .returned (.int .i64 v) ∧ 0 ≤ v ∧ (1 ≤ n → v < n) ∧ (n < 1 → v = 0) ∧ Sole B w w' ∧ Rd w' B (N + 1)

theorem Code8.mono {B : Nat} {w w' : World} {a : Option Addr} {len : Nat} (h : Code8 B w a len) (hs : Sole B w w') (hB : B < w.heap.size) : Code8 B w' a len := by
  rcases h with h | ⟨b, off, z, ha, hb, hc⟩
  · exact Or.inl h
  · exact Or.inr ⟨b, off, z, ha, hb, fun i hi => by
      rw [hs.cell (p := ⟨b, off + i, none⟩) (Nat.lt_trans hb hB) (Nat.ne_of_lt hb)]
      exact hc i hi⟩

theorem Rd.step {w w' : World} {B N : Nat} {a : Option Addr} {len cap k : Nat} (hc : Code8 B w a len) (hl : len ≤ 2000) (hk : k ≤ N) (hB : B < w.heap.size) (hs : Sole B w w')
    (h0 : w'.cell? ⟨B, 0, none⟩ = some (.slice a len cap)) (h1 : w'.cell? ⟨B, 1, none⟩ = some (.int .i64 (k + 1))) (hf : w'.frozen? ⟨B, 1, none⟩ = false) : Rd w' B (N + 1) :=
  ⟨a, len, cap, k + 1, hc.mono hs hB, hl, by omega, Nat.lt_of_lt_of_le hB hs.size, h0, by rw [h1]; norm_cast, hf⟩

theorem i64_xor_bd (a b : Int) (h1 : 0 ≤ a) (h2 : a < 9223372036854775808) (h3 : 0 ≤ b) (h4 : b < 9223372036854775808) : 0 ≤ bits .xor .i64 a b := by
  obtain ⟨A, rfl⟩ := Int.eq_ofNat_of_zero_le h1
  obtain ⟨B, rfl⟩ := Int.eq_ofNat_of_zero_le h3
  have hx : A ^^^ B < 2 ^ 63 := Nat.xor_lt_two_pow (by omega) (by omega)
  show 0 ≤ IntKind.i64.wrap ((BitVec.ofInt 64 (A : Int) ^^^ BitVec.ofInt 64 (B : Int)).toNat : Int)
  rw [BitVec.toNat_xor, ofInt_u64 A (by omega), ofInt_u64 B (by omega), IntKind.wrap_i64]
  omega
theorem own_step {w : World} {B N : Nat} {a : Option Addr} {len cap k : Nat} (hc : Code8 B w a len) (hl : len ≤ 2000) (hk : k ≤ N) (hB : B < w.heap.size) (c0 : w.cell? ⟨B, 0, none⟩ = some (.slice a len cap))
    (c1 : w.cell? ⟨B, 1, none⟩ = some (.int .i64 k)) (fz : w.frozen? ⟨B, 1, none⟩ = false) :
    Sole B w (w.setCell ⟨B, 1, none⟩ (.int .i64 (k + 1))) ∧ Rd (w.setCell ⟨B, 1, none⟩ (.int .i64 (k + 1))) B (N + 1) := by
  have hs : Sole B w (w.setCell ⟨B, 1, none⟩ (.int .i64 (k + 1))) := (Sole.refl B w).setCell_own (p := ⟨B, 1, none⟩) rfl _
  exact ⟨hs, Rd.step (cap := cap) hc hl hk hB hs (by go_simp) (by go_simp) (by go_simp)⟩
theorem own_stepN {w : World} {B N m : Nat} {a : Option Addr} {len cap k : Nat} (hc : Code8 B w a len) (hl : len ≤ 2000) (hk : k ≤ N) (hB : B < w.heap.size) (c0 : w.cell? ⟨B, 0, none⟩ = some (.slice a len cap))
    (c1 : w.cell? ⟨B, 1, none⟩ = some (.int .i64 k)) (fz : w.frozen? ⟨B, 1, none⟩ = false) :
    Sole B w ((w.setCell ⟨B, 1, none⟩ (.int .i64 (k + 1))).drewN m) ∧ Rd ((w.setCell ⟨B, 1, none⟩ (.int .i64 (k + 1))).drewN m) B (N + 1) := by
  have hs : Sole B w (w.setCell ⟨B, 1, none⟩ (.int .i64 (k + 1))) := (Sole.refl B w).setCell_own (p := ⟨B, 1, none⟩) rfl _
  exact ⟨hs.drewN m, Rd.step (cap := cap) hc hl hk hB (hs.drewN m) (by go_simp) (by go_simp) (by go_simp)⟩

set_option maxHeartbeats 1000000 in
set_option maxRecDepth 100000 in
theorem pick_any (B N : Nat) (n : Int) (w : World) (hr : Rd w B N) (hN : N ≤ 1000000) (hn : n ≤ 1000) :
    Calls Try.prog 60 #[.pointer (some ⟨B, 0, none⟩), .int .i64 n] w (PickPost B N n w) := by
  obtain ⟨a, len, cap, k, hc, hl, hk, hB, c0, c1, fz⟩ := hr
  have hc' := Lib.hid hc
  by_cases hn1 : n < 1
  · go_enter Try.func60, Try.ntmps60
    go_wp2
    go_ret
    have hs := own_step hc'.out hl hk hB c0 c1 fz
    exact ⟨0, rfl, by omega, by omega, by omega, hs.1, hs.2⟩
  · by_cases hl0 : len = 0
    · subst hl0
      go_enter Try.func60, Try.ntmps60
      go_wp2
      go_ret
      have hs := own_step hc'.out hl hk hB c0 c1 fz
      exact ⟨0, rfl, by omega, by omega, by omega, hs.1, hs.2⟩
    · rcases hc with h | ⟨b, off, z, rfl, hb, hz⟩
      · exact absurd h hl0
      · by_cases hkl : k < len
        · obtain ⟨hz1, hz2, hz3⟩ := hz k hkl
          go_enter Try.func60, Try.ntmps60
          go_wp2
          go_ret
          have hs := own_step hc'.out hl hk hB c0 c1 fz
          exact ⟨z k % n, rfl, Int.emod_nonneg _ (by omega), fun h => Int.emod_lt_of_pos _ (by omega), by omega, hs.1, hs.2⟩
        · obtain ⟨hz1, hz2, hz3⟩ := hz (k % len) (Nat.mod_lt _ (by omega))
          obtain ⟨hy1, hy2, hy3⟩ := hz ((k * 7 + 3) % len) (Nat.mod_lt _ (by omega))
          have lp : (0 : Int) < (len : Int) := by omega
          have m1 : (0 : Int) ≤ (k : Int) % (len : Int) := Int.emod_nonneg _ (by omega)
          have m2 : (k : Int) % (len : Int) < (len : Int) := Int.emod_lt_of_pos _ lp
          have m3 : ((k : Int) % (len : Int)).toNat = k % len := by rw [← Int.natCast_emod]; rfl
          have n1 : (0 : Int) ≤ ((k : Int) * 7 + 3) % (len : Int) := Int.emod_nonneg _ (by omega)
          have n2 : ((k : Int) * 7 + 3) % (len : Int) < (len : Int) := Int.emod_lt_of_pos _ lp
          have n3 : (((k : Int) * 7 + 3) % (len : Int)).toNat = (k * 7 + 3) % len := by
            rw [show (k : Int) * 7 + 3 = ((k * 7 + 3 : Nat) : Int) by omega, ← Int.natCast_emod]; rfl
          have d1 : (0 : Int) ≤ (k : Int) / (len : Int) := Int.ediv_nonneg (by omega) (by omega)
          have d2 : (k : Int) / (len : Int) ≤ (k : Int) := Int.ediv_le_self _ (by omega)
          go_enter Try.func60, Try.ntmps60
          go_wp2
          refine wp_region_quiet_lit (by kernel_rfl) (by kernel_rfl) ?_
          (repeat (go_big_quiet_step (fail)))
          refine wpQuiet_nil ?_
          intro _ hw'
          obtain ⟨nq, hw''⟩ := hw'
          subst hw''
          have x0 : 0 ≤ z (k % len) * 131 + z ((k * 7 + 3) % len) * 1117 + (k : Int) * 29 + (k : Int) / (len : Int) * 53 := by omega
          have x1 : z (k % len) * 131 + z ((k * 7 + 3) % len) * 1117 + (k : Int) * 29 + (k : Int) / (len : Int) * 53 ≤ 1000000000 := by omega
          generalize z (k % len) * 131 + z ((k * 7 + 3) % len) * 1117 + (k : Int) * 29 + (k : Int) / (len : Int) * 53 = x at x0 x1 ⊢
          clear m1 m2 m3 n1 n2 n3 d1 d2 hz hy1 hz1
          go_wp2
          go_ret
          have hx := i64_xor_bd x (x / 64) x0 (by omega) (by omega) (by omega)
          have hs := own_stepN (m := nq) hc'.out hl hk hB c0 c1 fz
          exact ⟨_, rfl, Int.tmod_nonneg _ hx, fun h => Int.tmod_lt_of_pos _ (by omega), by omega, hs.1, hs.2⟩
end Go.Proofs.Ythbmiibbnbbdgaa
