/-
  Links: rows of rows of numbers in memory of the call's own.
-/
import Derived.Test.YtgjikoebneiamaaLCopy
import Derived.Test.YtgjikoebneiamaaLIn

namespace Go.Proofs.Ytgjikoebneiamaa
open Go.RowKit

theorem Try_infoInts : (Try.prog.info? 33).map (fun i => (i.zero, i.size, i.bytes)) = some (some (.slice none 0 0), 1, 24) := by kernel_rfl
theorem own_one {w : World} {base : Nat} {e : TypeId} {size : Nat} {v : Value} {n : Nat} {xs : List Value} (h : w.ownsRow base e size v n xs) : v.oneCell' = true := by
  rcases h.2 with ⟨rfl, _⟩ | ⟨g, cap, cur, rfl, _⟩ <;> rfl
theorem map_one (xs : List Int) : ∀ u ∈ xs.map (Value.int .i64), u.oneCell' = true := fun u hu => by
  obtain ⟨x, _, rfl⟩ := List.mem_map.1 hu
  rfl
theorem cell_grown {w w' : World} {row : Option Nat} {b o : Nat} {v : Value} (h : w.cell? ⟨b, o, none⟩ = some v) (hl : b < w.heap.size) (hg : w.grownBy w' row) (hn : row ≠ some b) : w'.cell? ⟨b, o, none⟩ = some v :=
  (hg.cell_far ⟨b, o, none⟩ hl (Ne.symm hn)).trans h
theorem from_own {w : World} {base : Nat} {e : TypeId} {size n c : Nat} {A : Option Addr} {xs : List Value} (h : w.ownsRow base e size (.slice A n c) n xs) : CellsFrom w A n size xs := by
  refine ⟨h.1, fun hn => ?_⟩
  rcases h.2 with ⟨_, h0⟩ | ⟨g, cap, cur, hv, _, _, _, _, _, _⟩
  · omega
  · injection hv with h1 _ _
    subst h1
    exact ⟨_, rfl, h.cells (g := g) rfl⟩
theorem below_grown {w W w' : World} {row : Option Nat} (hb : Below w.heap.size w W) (hg : W.grownBy w' row) (hr : ∀ b, row = some b → w.heap.size ≤ b) : Below w.heap.size w w' :=
  hb.grown hg hb.size hr
theorem one_at {w : World} {b : Nat} {x : Value} (h : w.cell? ⟨b, 0, none⟩ = some x) : ∀ j u, [x][j]? = some u → w.cell? ((⟨b, 0, none⟩ : Addr).add j) = some u := by
  intro j u hj
  match j, hj with
  | 0, hj =>
    simp only [List.getElem?_cons_zero, Option.some.injEq] at hj
    subst hj
    simpa [Addr.add] using h
theorem own_ne_type {w : World} {base : Nat} {e t : TypeId} {size : Nat} {v : Value} {n b : Nat} {xs : List Value} {cs : Array Value} (h : w.ownsRow base e size v n xs) (hb : w.heap[b]? = some (.cells cs t)) (hne : e ≠ t) : v.ownBlock ≠ some b := by
  rcases h.2 with ⟨rfl, _⟩ | ⟨g, cap, cur, rfl, _, hh, _⟩
  · simp [Value.ownBlock]
  · intro he
    have : g = b := by simpa [Value.ownBlock] using he
    subst this
    rw [hb] at hh
    injection hh with hh
    injection hh with _ ht
    exact hne ht.symm
theorem own_grow0 {w W : World} {base base' : Nat} {e : TypeId} {size : Nat} {v : Value} {n : Nat} {xs : List Value} (h : w.ownsRow base e size v n xs) (hb : base' ≤ base) : w.ownsRow base' e size v n xs := by
  refine ⟨h.1, ?_⟩
  rcases h.2 with h | ⟨g, cap, cur, h1, h2, h3⟩
  · exact .inl h
  · exact .inr ⟨g, cap, cur, h1, by omega, h3⟩
/-- The i-th of a list of rows. -/
def xnth (xs : List (List Int)) (i : Nat) : List Int := xs.getD i []
theorem xnth_lt {xs : List (List Int)} {i : Nat} (h : i < xs.length) : xnth xs i = xs[i] := by simp [xnth, h]
/-- A row of numbers that is some call's own. -/
def OwnInts (w : World) (v : Value) (xs : List Int) : Prop := w.ownsRow 0 3 1 v xs.length (xs.map (Value.int .i64))
theorem OwnInts.below {w w' : World} {v : Value} {xs : List Int} (h : OwnInts w v xs) (hb : Below w.heap.size w w') : OwnInts w' v xs := own_below h hb
theorem OwnInts.nil (w : World) : OwnInts w (.slice none 0 0) [] := World.ownsRow_nil _ _ _ _
theorem OwnInts.ints {w : World} {v : Value} {xs : List Int} (h : OwnInts w v xs) (hw : ∀ x ∈ xs, I64 x) : IntsAt w.heap.size w v xs := ints_of_own h hw
/-- A [][]int in memory of the call's own, each row a row of its own kind. -/
def ListsAt (w : World) (base : Nat) (u : Value) (xs : List (List Int)) : Prop :=
  ∃ vs : List Value, vs.length = xs.length ∧ w.ownsRow base 33 1 u xs.length vs ∧ ∀ i, i < xs.length → ∃ v, vs[i]? = some v ∧ OwnInts w v (xnth xs i)
theorem ListsAt.below {w w' : World} {base : Nat} {u : Value} {xs : List (List Int)} (h : ListsAt w base u xs) (hb : Below w.heap.size w w') : ListsAt w' base u xs := by
  obtain ⟨vs, h1, h2, h3⟩ := h
  exact ⟨vs, h1, own_below h2 hb, fun i hi => by obtain ⟨v, h4, h5⟩ := h3 i hi; exact ⟨v, h4, own_below h5 hb⟩⟩
theorem ListsAt.lower {w : World} {base base' : Nat} {u : Value} {xs : List (List Int)} (h : ListsAt w base u xs) (hb : base' ≤ base) : ListsAt w base' u xs := by
  obtain ⟨vs, h1, h2, h3⟩ := h
  exact ⟨vs, h1, own_grow0 (W := w) h2 hb, h3⟩
/-- One row more. -/
theorem ListsAt.snoc {w w' : World} {base : Nat} {u q v : Value} {xs : List (List Int)} {y : List Int} {vs : List Value} (h1 : vs.length = xs.length) (h2 : w.ownsRow base 33 1 u xs.length vs)
    (h3 : ∀ i, i < xs.length → ∃ v, vs[i]? = some v ∧ OwnInts w v (xnth xs i)) (hv : OwnInts w v y)
    (hg : w.grownBy w' u.ownBlock) (hq : w'.ownsRow base 33 1 q (xs.length + 1) (vs ++ [v])) : ListsAt w' base q (xs ++ [y]) ∧ OwnInts w' v y := by
  refine ⟨⟨vs ++ [v], by simp [h1], by rw [List.length_append]; exact hq, fun i hi => ?_⟩, own_kept_type hv h2 (by decide) hg⟩
  rw [List.length_append] at hi
  by_cases e : i < xs.length
  · obtain ⟨v, h4, h5⟩ := h3 i e
    have hx : xnth (xs ++ [y]) i = xnth xs i := by simp [xnth, List.getElem?_append_left e]
    exact ⟨v, by rw [List.getElem?_append_left (by omega)]; exact h4, by rw [hx]; exact own_kept_type h5 h2 (by decide) hg⟩
  · obtain rfl : i = xs.length := by simp at hi; omega
    have hx : xnth (xs ++ [y]) xs.length = y := by simp [xnth]
    exact ⟨v, by rw [← h1]; simp, by rw [hx]; exact own_kept_type hv h2 (by decide) hg⟩
/-- The i-th row of a list of rows. -/
theorem ListsAt.get {w : World} {base : Nat} {u : Value} {xs : List (List Int)} (h : ListsAt w base u xs) {i : Nat} (hi : i < xs.length) : ∃ g c v, u = .slice (some ⟨g, 0, none⟩) xs.length c ∧ w.cell? ⟨g, i, none⟩ = some v ∧ OwnInts w v (xnth xs i) := by
  obtain ⟨vs, h1, h2, h3⟩ := h
  obtain ⟨v, h4, h5⟩ := h3 i hi
  obtain ⟨A, c, rfl, _⟩ := own_form h2
  have h2' := h2
  rcases h2'.2 with ⟨_, h0⟩ | ⟨g, cap, cur, e, _⟩
  · omega
  · injection e with e1 _ e3
    subst e1
    exact ⟨g, c, v, rfl, by rw [h2.cellAt i (by omega)]; exact h4, h5⟩
/-- The first n of a row of some call's own. -/
theorem OwnInts.take {w : World} {A : Option Addr} {n c : Nat} {xs : List Int} (h : OwnInts w (.slice A n c) xs) {k : Nat} (hk : k ≤ xs.length) : CellsFrom w A k 1 ((xs.take k).map (Value.int .i64)) := by
  have hn : n = xs.length := by
    rcases h.2 with ⟨e, h0⟩ | ⟨g, cap, cur, e, _⟩
    · injection e with _ e2 _; omega
    · injection e with _ e2 _
  subst hn
  obtain ⟨_, h2⟩ := from_own h
  refine ⟨by simp; omega, fun h0 => ?_⟩
  obtain ⟨ad, e, hc⟩ := h2 (by omega)
  refine ⟨ad, e, fun j u hu => hc j u ?_⟩
  rw [List.getElem?_map] at hu ⊢
  rw [← hu]
  have hj : j < k := by
    refine Nat.lt_of_not_le fun hge => ?_
    rw [List.getElem?_eq_none (by simp; omega)] at hu
    cases hu
  rw [List.getElem?_take_of_lt hj]
/-- What is behind the first k of it. -/
theorem OwnInts.drop {w : World} {g n c k : Nat} {sA : Addr} {xs : List Int} (h : OwnInts w (.slice (some ⟨g, 0, none⟩) n c) xs) (hc : n ≤ c) (hk : k ≤ xs.length) (hs : (if c = k then some (⟨g, 0, none⟩ : Addr) else some ⟨g, k, none⟩) = some sA) : CellsFrom w (some sA) (n - k) 1 ((xs.drop k).map (Value.int .i64)) := by
  have hn : n = xs.length := by
    rcases h.2 with ⟨e, h0⟩ | ⟨g, cap, cur, e, _⟩
    · cases e
    · injection e with _ e2 _
  subst hn
  obtain ⟨_, h2⟩ := from_own h
  refine ⟨by simp, fun h0 => ?_⟩
  rw [if_neg (by omega)] at hs
  injection hs with hs
  subst hs
  obtain ⟨ad, e, hc⟩ := h2 (by omega)
  injection e with e
  subst e
  refine ⟨_, rfl, fun j u hu => ?_⟩
  have := hc (k + j) u (by rw [← hu]; simp [List.getElem?_drop])
  rw [add_plain0] at this ⊢
  rw [← this]
  simp

end Go.Proofs.Ytgjikoebneiamaa
