
/- Chapter 2: appending rectangles; WithOne of spec; the exact law's walk. -/
import Derived.Test.YthbmiibbnbbdgaaWith
import Derived.Deep.RegionLaw
namespace Go.Proofs.Ythbmiibbnbbdgaa
open Go.RowKit Go.Sort
set_option linter.unusedVariables false
theorem own_below {w w' : World} {base : Nat} {e : TypeId} {size n : Nat} {v : Value} {xs : List Value} (hown : w.ownsRow base e size v n xs) (hg : w.grownBy w' v.ownBlock) (hb : base ≤ w.heap.size) : Below base w w' :=
  (Below.refl base w).grown hg hb (fun k e => (hown.lt k e).1)
theorem own_form {w : World} {base : Nat} {e : TypeId} {size n : Nat} {v : Value} {xs : List Value} (hown : w.ownsRow base e size v n xs) : ∃ A cap, v = .slice A n cap := by
  rcases hown.2 with ⟨rfl, rfl⟩ | ⟨g, cap, _, rfl, _⟩
  · exact ⟨_, _, rfl⟩
  · exact ⟨_, _, rfl⟩
/-- append of rectangles, whatever is appended. -/
theorem run_rects (w : World) (t : TypeId) (base : Nat) (v : Value) (n : Nat) (xs : List Value) (hown : w.ownsRow base 24 4 v n xs) (A : Option Addr) (m c : Nat) (news : List Value)
    (hl : news.length = m * 4) (hnone : A = none → m = 0 ∧ c = 0) (hnews : ∀ ad, A = some ad → ∀ j u, news[j]? = some u → w.cell? (ad.add j) = some u) (h1 : ∀ u ∈ news, u.oneCell' = true) (hsz : n + m ≤ 2000000) (hbase : base ≤ w.heap.size) :
    ∃ A' cap' w', (Builtin.append_ #[31, 31] t #[v, .slice A m c]).run Try.prog w = .ok (.slice A' (n + m) cap') w' ∧ w'.ownsRow base 24 4 (.slice A' (n + m) cap') (n + m) (xs ++ news) ∧ w.grownBy w' v.ownBlock := by
  obtain ⟨i0, hi, hz, hs, hby⟩ := info_parts infoR
  cases A with
  | none =>
    obtain ⟨rfl, rfl⟩ := hnone rfl
    have hn : news = [] := List.eq_nil_of_length_eq_zero (by simpa using hl)
    subst hn
    obtain ⟨A', cap', hv⟩ := own_form hown
    have hr := run_append_owned_none (P := Try.prog) w base 31 t 24 i0 4 Try.underlying31 hi v n xs hown
    subst hv
    exact ⟨A', cap', w, hr, by simpa using hown, World.grownBy.refl w _⟩
  | some ad =>
    obtain ⟨v', w', hr, h2, h3, _, _⟩ := run_append_own_at (P := Try.prog) w base 31 t 24 i0 zero4 4 32 Try.underlying31 hi hz hs hby rfl (by omega) v n xs hown ad m c news hl (hnews ad rfl) h1 (by unfold maxLen; omega) (by omega) hbase
    obtain ⟨A', cap', rfl⟩ := own_form h2
    exact ⟨A', cap', w', hr, h2, h3⟩
theorem wp_rects (w : World) {o : Oper} {a : Act} {K : Act → World → Prop} {Q : Exit → Act → World → Prop} (s x : Operand) (ho : o.op = .call { callee := .builtin .append, args := #[s, x], argTypes := #[31, 31] })
    (base : Nat) (v : Value) (n : Nat) (xs : List Value) (hs : a.eval s = v) (hown : w.ownsRow base 24 4 v n xs) (A : Option Addr) (m c : Nat) (news : List Value) (hx : a.eval x = .slice A m c)
    (hl : news.length = m * 4) (hnone : A = none → m = 0 ∧ c = 0) (hnews : ∀ ad, A = some ad → ∀ j u, news[j]? = some u → w.cell? (ad.add j) = some u) (h1 : ∀ u ∈ news, u.oneCell' = true) (hsz : n + m ≤ 2000000) (hbase : base ≤ w.heap.size)
    (h : ∀ A' cap' w', w'.ownsRow base 24 4 (.slice A' (n + m) cap') (n + m) (xs ++ news) → w.grownBy w' v.ownBlock → Below base w w' → K (a.put o.dst (.slice A' (n + m) cap')) w') : o.wp Try.prog a w K Q := by
  obtain ⟨A', cap', w', hr, h2, h3⟩ := run_rects w o.type base v n xs hown A m c news hl hnone hnews h1 hsz hbase
  unfold Oper.wp execOp
  simp only [ho, resolve, invoke, builtin, Sem.run_bind, Sem.run_pure, Result.andThen_ok, List.map_toArray, List.map_cons, List.map_nil, hs, hx, hr]
  exact h A' cap' w' h2 h3 (own_below hown h3 hbase)
theorem list_rects (w : World) {ops : Array Oper} {rest : List Oper} {o : Oper} {a : Act} {Q : Exit → Act → World → Prop} (hgd : o.guard = none) (s x : Operand) (ho : o.op = .call { callee := .builtin .append, args := #[s, x], argTypes := #[31, 31] })
    (base : Nat) (v : Value) (n : Nat) (xs : List Value) (hs : a.eval s = v) (hown : w.ownsRow base 24 4 v n xs) (A : Option Addr) (m c : Nat) (news : List Value) (hx : a.eval x = .slice A m c)
    (hl : news.length = m * 4) (hnone : A = none → m = 0 ∧ c = 0) (hnews : ∀ ad, A = some ad → ∀ j u, news[j]? = some u → w.cell? (ad.add j) = some u) (h1 : ∀ u ∈ news, u.oneCell' = true) (hsz : n + m ≤ 2000000) (hbase : base ≤ w.heap.size)
    (h : ∀ A' cap' w', w'.ownsRow base 24 4 (.slice A' (n + m) cap') (n + m) (xs ++ news) → w.grownBy w' v.ownBlock → Below base w w' → wpList Try.prog ops Q rest (a.put o.dst (.slice A' (n + m) cap')) w') : wpList Try.prog ops Q (o :: rest) a w :=
  wpList_plain hgd fun _ hK => wp_rects w s x ho base v n xs hs hown A m c news hx hl hnone hnews h1 hsz hbase fun A' cap' w' h2 h3 h4 => hK _ _ (h A' cap' w' h2 h3 h4)
theorem step_rects (w : World) {ops : Array Oper} {o : Oper} {a : Act} {K : Act → World → Prop} {Q : Exit → Act → World → Prop} {E : Prop} (hgd : o.guard = none) (s x : Operand) (ho : o.op = .call { callee := .builtin .append, args := #[s, x], argTypes := #[31, 31] })
    (base : Nat) (v : Value) (n : Nat) (xs : List Value) (hs : a.eval s = v) (hown : w.ownsRow base 24 4 v n xs) (A : Option Addr) (m c : Nat) (news : List Value) (hx : a.eval x = .slice A m c)
    (hl : news.length = m * 4) (hnone : A = none → m = 0 ∧ c = 0) (hnews : ∀ ad, A = some ad → ∀ j u, news[j]? = some u → w.cell? (ad.add j) = some u) (h1 : ∀ u ∈ news, u.oneCell' = true) (hsz : n + m ≤ 2000000) (hbase : base ≤ w.heap.size)
    (h : ∀ A' cap' w', w'.ownsRow base 24 4 (.slice A' (n + m) cap') (n + m) (xs ++ news) → w.grownBy w' v.ownBlock → Below base w w' → K (a.put o.dst (.slice A' (n + m) cap')) w') :
    if Region.wanted o (yielded ops a.tmps) = true then Oper.wp Try.prog o a w K Q else E := by
  have hw : Region.wanted o (yielded ops a.tmps) = true := by simp [Region.wanted, hgd]
  rw [if_pos hw]
  exact wp_rects w s x ho base v n xs hs hown A m c news hx hl hnone hnews h1 hsz hbase h
theorem own_ow' {w : World} {base : Nat} {A : Option Addr} {cap n : Nat} {f : Nat → Rt} (h : w.ownsRow base 24 4 (.slice A n cap) n (rowL f n)) : ∃ g, Ow w A n f g ∧ base ≤ g ∧ Hd A n cap := by
  obtain ⟨A', cap', g, hv, ho, hg, hh⟩ := own_ow h
  injection hv with h1 h2 h3
  subst h1 h3
  exact ⟨g, ho, hg, hh⟩
/-- An empty slice of the call's own. -/
theorem own_empty (w : World) (base g : Nat) (hg : w.heap.size = g) (hb : base ≤ g) : (w.alloc (.cells #[] 24)).ownsRow base 24 4 (.slice (some ⟨g, 0, none⟩) 0 0) 0 [] := by
  subst hg; exact World.ownsRow_lit w #[] 0 hb (Nat.zero_le _) rfl
def Four (w : World) (g : Nat) (r : Rt) : Prop := g < w.heap.size ∧ ∀ j u, (four r)[j]? = some u → w.cell? ((⟨g, 0, none⟩ : Addr).add j) = some u
theorem Four.new (w : World) (r : Rt) (g : Nat) (hg : w.heap.size = g) : Four (w.alloc (.cells #[.int .i64 r.l, .int .i64 r.o, .int .i64 r.r, .int .i64 r.h] 24)) g r := by
  subst hg; exact ⟨by simp, four_news w r _ rfl⟩
theorem Four.drew {w : World} {g : Nat} {r : Rt} (h : Four w g r) : Four w.drew g r := h
theorem own_drew {w : World} {base : Nat} {e : TypeId} {size n : Nat} {v : Value} {xs : List Value} (h : w.ownsRow base e size v n xs) : w.drew.ownsRow base e size v n xs := h
theorem Four.alloc {w : World} {g : Nat} {r : Rt} (h : Four w g r) (o : Obj) : Four (w.alloc o) g r :=
  ⟨by simp; have := h.1; omega, fun j u hu => by
    rw [Go.WideShapes.add_plain, ((Below.refl w.heap.size w).alloc (Nat.le_refl _) o).cell (p := ⟨g, 0 + j, none⟩) h.1, ← Go.WideShapes.add_plain]
    exact h.2 j u hu⟩
theorem Four.grown {w w' : World} {g e : Nat} {r : Rt} (h : Four w g r) (hg : w.grownBy w' (some e)) (hne : g ≠ e) : Four w' g r :=
  ⟨Nat.lt_of_lt_of_le h.1 hg.size, fun j u hu => by
    rw [Go.WideShapes.add_plain, grown_cell hg h.1 hne, ← Go.WideShapes.add_plain]
    exact h.2 j u hu⟩
theorem Four.ne {w : World} {g : Nat} {r : Rt} (h : Four w g r) : ∀ ad, (some (⟨g, 0, none⟩ : Addr)) = some ad → ∀ j u, (four r)[j]? = some u → w.cell? (ad.add j) = some u := by
  intro ad e; injection e with e; subst e; exact h.2

end Go.Proofs.Ythbmiibbnbbdgaa
