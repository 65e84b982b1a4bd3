/-
  Links: rows of rows as values that own blocks: the outer row's and those of the rows in it.
-/
import Derived.Test.YtgjikoebneiamaaLRows
import Derived.Test.YtgjikoebneiamaaLMul

namespace Go.Proofs.Ytgjikoebneiamaa
open Go.RowKit

/-- A block of a row that lies in a row of rows. -/
def Inner (W : World) (v : Value) (b : Nat) : Prop := ∃ g n c i u, v = .slice (some ⟨g, 0, none⟩) n c ∧ i < n ∧ W.cell? ⟨g, i, none⟩ = some u ∧ u.ownBlock = some b
theorem ListsAt.inner {w : World} {base : Nat} {v : Value} {xs : List (List Int)} (h : ListsAt w base v xs) {b : Nat} (hi : Inner w v b) : ∃ i u, i < xs.length ∧ OwnInts w u (xnth xs i) ∧ u.ownBlock = some b := by
  obtain ⟨g, n, c, i, u, rfl, hin, hc, hu⟩ := hi
  obtain ⟨vs, h1, h2, h3⟩ := h
  have hn : n = xs.length := by
    rcases h2.2 with ⟨e, h0⟩ | ⟨g', cap, cur, e, _⟩
    · cases e
    · injection e with _ e2 _
  subst hn
  obtain ⟨x, h4, h5⟩ := h3 i hin
  rw [h2.cellAt i (by omega), h4] at hc
  injection hc with hc
  subst hc
  exact ⟨i, x, hin, h5, hu⟩
theorem ListsAt.kept {w w' : World} {base : Nat} {v : Value} {xs : List (List Int)} {row : Option Nat} (h : ListsAt w base v xs) (hg : w.grownBy w' row) (hr : ∀ b, row = some b → v.ownBlock ≠ some b ∧ ¬ Inner w v b) : ListsAt w' base v xs ∧ ∀ b, Inner w' v b → Inner w v b := by
  have hc : ∀ g n c i, v = .slice (some ⟨g, 0, none⟩) n c → g < w.heap.size → w'.cell? ⟨g, i, none⟩ = w.cell? ⟨g, i, none⟩ := fun g n c i e hl =>
    hg.cell_far ⟨g, i, none⟩ hl (fun e2 => (hr g e2.symm).1 (by rw [e]; rfl))
  have hout : ∀ g, v.ownBlock = some g → g < w.heap.size := fun g hg' => by
    obtain ⟨vs, h1, h2, h3⟩ := h
    exact (h2.lt g hg').2
  refine ⟨?_, fun b ⟨g, n, c, i, u, h1, h2, h3, h4⟩ => ⟨g, n, c, i, u, h1, h2, (hc g n c i h1 (hout g (by rw [h1]; rfl))) ▸ h3, h4⟩⟩
  have h0 := h
  obtain ⟨vs, h1, h2, h3⟩ := h
  refine ⟨vs, h1, h2.kept hg (by
    cases hv : v.ownBlock with
    | none => exact .inl rfl
    | some g => exact .inr (fun e => (hr g e.symm).1 hv)), fun i hi => ?_⟩
  obtain ⟨x, h4, h5⟩ := h3 i hi
  refine ⟨x, h4, h5.kept hg ?_⟩
  cases hx : x.ownBlock with
  | none => exact .inl rfl
  | some g =>
    refine .inr (fun e => (hr g e.symm).2 ?_)
    obtain ⟨g', c, x', e1, e2, e3⟩ := h0.get hi
    subst e1
    have e4 := e2
    rw [h2.cellAt i (by omega), h4] at e4
    injection e4 with e4
    subst e4
    exact ⟨g', _, c, i, x, rfl, hi, e2, hx⟩
theorem ListsAt.lt {w : World} {base : Nat} {v : Value} {xs : List (List Int)} (h : ListsAt w base v xs) {b : Nat} (hb : v.ownBlock = some b ∨ Inner w v b) : b < w.heap.size := by
  rcases hb with hb | hb
  · obtain ⟨vs, h1, h2, h3⟩ := h
    exact (h2.lt b hb).2
  · obtain ⟨i, u, _, h2, h3⟩ := h.inner hb
    exact (h2.lt b h3).2
/-- A row of rows as a fact. -/
def mlistF (ok : Nat → Prop) (base : Nat) (xs : List (List Int)) : MFact ok :=
  ⟨fun v W => ListsAt W base v xs ∧ ∀ b, v.ownBlock = some b ∨ Inner W v b → ok b, fun v W b => v.ownBlock = some b ∨ Inner W v b,
    fun v W W' row h hg hr => by
      obtain ⟨h1, h2⟩ := h.1.kept hg (fun b hb => ⟨fun e => (hr b hb).2 (.inl e), fun e => (hr b hb).2 (.inr e)⟩)
      exact ⟨⟨h1, fun b hb => h.2 b (hb.imp id (h2 b))⟩, fun b hb => hb.imp id (h2 b)⟩,
    fun v W b h hk => ⟨h.2 b hk, h.1.lt hk⟩⟩
/-- Two rows of rows, one behind the other. -/
theorem lists_append {w w' : World} {base base2 : Nat} {u q : Value} {xs ys : List (List Int)} {vs us : List Value} (h1 : vs.length = xs.length) (h2 : w.ownsRow base 33 1 u xs.length vs) (h3 : ∀ i, i < xs.length → ∃ v, vs[i]? = some v ∧ OwnInts w v (xnth xs i))
    (k1 : us.length = ys.length) (k3 : ∀ i, i < ys.length → ∃ v, us[i]? = some v ∧ OwnInts w v (xnth ys i))
    (hg : w.grownBy w' u.ownBlock) (hq : w'.ownsRow base2 33 1 q (xs.length + ys.length) (vs ++ us)) :
    ListsAt w' base2 q (xs ++ ys) ∧ ∀ b, Inner w' q b → ∃ y, (y ∈ vs ∨ y ∈ us) ∧ y.ownBlock = some b := by
  have hq' : w'.ownsRow base2 33 1 q (xs ++ ys).length (vs ++ us) := by rw [List.length_append]; exact hq
  have hrow : ∀ i, i < (xs ++ ys).length → ∃ v, (vs ++ us)[i]? = some v ∧ OwnInts w' v (xnth (xs ++ ys) i) ∧ (v ∈ vs ∨ v ∈ us) := fun i hi => by
    rw [List.length_append] at hi
    by_cases e : i < xs.length
    · obtain ⟨v, h4, h5⟩ := h3 i e
      have hx : xnth (xs ++ ys) i = xnth xs i := by simp [xnth, List.getElem?_append_left e]
      exact ⟨v, by rw [List.getElem?_append_left (by omega)]; exact h4, by rw [hx]; exact own_kept_type h5 h2 (by decide) hg, .inl (List.mem_of_getElem? h4)⟩
    · obtain ⟨v, h4, h5⟩ := k3 (i - xs.length) (by omega)
      have hx : xnth (xs ++ ys) i = xnth ys (i - xs.length) := by simp [xnth, List.getElem?_append_right (show xs.length ≤ i by omega)]
      exact ⟨v, by rw [List.getElem?_append_right (by omega), h1]; exact h4, by rw [hx]; exact own_kept_type h5 h2 (by decide) hg, .inr (List.mem_of_getElem? h4)⟩
  refine ⟨⟨vs ++ us, by simp [h1, k1], hq', fun i hi => ?_⟩, fun b ⟨g, n, c, i, y, e1, e2, e3, e4⟩ => ?_⟩
  · obtain ⟨v, h4, h5, _⟩ := hrow i hi
    exact ⟨v, h4, h5⟩
  · subst e1
    have hn : n = (xs ++ ys).length := by
      rcases hq'.2 with ⟨e, h0⟩ | ⟨g', cap, cur, e, _⟩
      · cases e
      · injection e with _ e2 _
    subst hn
    obtain ⟨v, h4, _, h6⟩ := hrow i e2
    rw [hq'.cellAt i (by omega), h4] at e3
    injection e3 with e3
    subst e3
    exact ⟨v, h6, e4⟩

end Go.Proofs.Ytgjikoebneiamaa
