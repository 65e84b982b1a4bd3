/-
  Edits of a copy that spare another one; a copy's piece gets other heats.
-/
import Derived.Test.YtjflpmhlodgadaaCopies
import Derived.Test.YtjflpmhlodgadaaAlikeLaw
namespace Go.Proofs.Ytjflpmhlodgadaa
open Go.RowKit

/-- A store into another variable. -/
theorem Ed.otherBox {w1 W : World} {bo b o : Nat} {O : Store} {bv pv u : Value} {cs : Array Value} (h : Ed w1 W bo O bv pv) (hb : W.heap[b]? = some (.cells cs 25)) (hne : bo ≠ b) (hl : w1.heap.size ≤ b) : Ed w1 (W.setCell ⟨b, o, none⟩ u) bo O bv pv :=
  ⟨h.b.setCell (by simpa using hl) _, heap_set_other _ h.o hne, h.c.setBox hb, h.l⟩
/-- A store into another copy's pieces. -/
theorem Ed.otherRow {w1 W : World} {bo g o n : Nat} {O : Store} {bv pv u pv' : Value} {xs : List Value} (h : Ed w1 W bo O bv pv) (hr : W.ownsRow w1.heap.size 60 2 pv' n xs) (hg : pv'.ownBlock = some g) (hn : pv.ownBlock ≠ some g) : Ed w1 (W.setCell ⟨g, o, none⟩ u) bo O bv pv := by
  obtain ⟨hs, h1, h2, h3, h4⟩ := h.c.parts
  have hlo : w1.heap.size ≤ g := Nat.le_of_not_lt fun hc => own_ne hr (.inr hc) hg
  have hgb : g ≠ bo := fun e => own_ne_type hr h.o (by decide) (by rw [hg, e])
  have hgr : W.grownBy (W.setCell ⟨g, o, none⟩ u) (some g) := ⟨rfl, rfl, rfl, by simp [World.setCell], fun k _ hk => Below.heap_setCell _ _ _ _ (fun e => hk (by rw [e]))⟩
  have hr' : ∀ {e : TypeId} {v : Value} {m size : Nat} {ys : List Value}, e ≠ 60 → W.ownsRow w1.heap.size e size v m ys → (W.setCell ⟨g, o, none⟩ u).ownsRow w1.heap.size e size v m ys := fun hne hy => own_kept_type hy hr hne (by rw [hg]; exact hgr)
  exact ⟨h.b.setCell (by simpa using hlo) _, heap_set_other _ h.o (Ne.symm hgb), CopyAt.of_parts (hr' (by decide) h1) (h2.kept hgr (.inr hn)) (fun i hi => hr' (by decide) (h3 i hi)) h4, h.l⟩
theorem pcells_heats {ps : List Piece} {hs : Nat → Value} {hv : Value} {i : Nat} {xs : List Int} (hi : i < ps.length) :
    pcells (ps.set i ⟨(pnth ps i).long, xs⟩) (fun j => if j = i then hv else hs j) ps.length = (pcells ps hs ps.length).set (i * 2 + 1) hv := by
  refine List.ext_getElem? fun j => ?_
  rw [List.getElem?_set]
  by_cases hj : j < ps.length * 2
  · have hq : j / 2 < ps.length := by omega
    have h1 := pcells_at (ps.set i ⟨(pnth ps i).long, xs⟩) (fun j => if j = i then hv else hs j) hq
    have h2 := pcells_at ps hs hq
    have hl := pcells_length ps hs ps.length
    have hb : (pnth (ps.set i ⟨(pnth ps i).long, xs⟩) (j / 2)).long = (pnth ps (j / 2)).long := by
      by_cases e : i = j / 2
      · rw [← e]; simp [pnth, hi]
      · simp [pnth, List.getElem?_set_ne e]
    rw [hb] at h1
    rcases Nat.mod_two_eq_zero_or_one j with hm | hm
    · have ej : j / 2 * 2 = j := by omega
      rw [ej] at h1 h2
      rw [if_neg (by omega), h1.1, h2.1]
    · have ej : j / 2 * 2 + 1 = j := by omega
      rw [ej] at h1 h2
      by_cases e : i = j / 2
      · have e' : j / 2 = i := e.symm
        rw [if_pos (by omega), if_pos (by omega), h1.2]
        simp only [e', if_true]
      · have e' : ¬ j / 2 = i := fun q => e q.symm
        rw [if_neg (by omega), h1.2, h2.2]
        simp only [e', if_false]
  · rw [if_neg (by omega), List.getElem?_eq_none (by rw [pcells_length]; omega), List.getElem?_eq_none (by rw [pcells_length]; omega)]
/-- Where a piece's heats lie, and what a store of others leaves. -/
theorem Ed.heats {w1 W : World} {bo : Nat} {O : Store} {bv pv hv : Value} {xs : List Int} (h : Ed w1 W bo O bv pv) {i : Nat} (hi : i < O.pieces.length) (hr : W.ownsRow w1.heap.size 3 1 hv xs.length (xs.map (Value.int .i64))) (hI : ∀ x ∈ xs, I64 x) :
    ∃ g cap, pv = .slice (some ⟨g, 0, none⟩) O.pieces.length cap ∧ (∃ z, W.cell? ⟨g, i * 2 + 1, none⟩ = some z ∧ z.oneCell' = true) ∧ (∀ j, W.frozen? ⟨g, j, none⟩ = false) ∧ g ≠ bo ∧ w1.heap.size ≤ g ∧
      Ed w1 (W.setCell ⟨g, i * 2 + 1, none⟩ hv) bo ⟨O.bars, O.kerf, O.pieces.set i ⟨(pnth O.pieces i).long, xs⟩, O.wrong⟩ bv pv := by
  obtain ⟨hs, h1, h2, h3, h4⟩ := h.c.parts
  obtain ⟨g, cap, rfl, hge, hlt⟩ := h2.form (by omega)
  have hg : g ≠ bo := fun e => own_ne_type h2 h.o (by decide) (by rw [e]; rfl)
  have hat := pcells_at O.pieces hs hi
  obtain ⟨s1, s2⟩ := h2.stored (i * 2 + 1) hv
  refine ⟨g, cap, rfl, ⟨hs i, (h2.cellAt _ (by omega)).trans hat.2, own_one (h3 i hi)⟩, fun j => h2.frozenAt j, hg, hge, h.b.setCell (by simpa using hge) _, heap_set_other _ h.o (Ne.symm hg), ?_, h.l⟩
  refine CopyAt.of_parts (S := ⟨O.bars, O.kerf, O.pieces.set i ⟨(pnth O.pieces i).long, xs⟩, O.wrong⟩) (hs := fun j => if j = i then hv else hs j) (own_kept_type h1 h2 (by decide) s2) ?_ (fun j hj => ?_) ⟨h4.bars, fun y hy => ?_, h4.kerf, h4.wrong⟩
  · simp only [List.length_set, pcells_heats hi]
    exact s1
  · simp only [List.length_set] at hj
    by_cases e : j = i
    · subst e
      simp only [if_true, pnth_set_same hi]
      exact own_kept_type hr h2 (by decide) s2
    · simp only [e, if_false]
      rw [pnth_set_other (Ne.symm e)]
      exact own_kept_type (h3 j hj) h2 (by decide) s2
  · rcases List.mem_or_eq_of_mem_set hy with hy | rfl
    · exact h4.pieces y hy
    · exact ⟨(h4.pieces (pnth O.pieces i) (by rw [pnth_lt hi]; exact List.getElem_mem hi)).1, hI⟩
theorem Cp2.eds {w W : World} {S : Store} {f1 f2 g1 g2 : Option Addr} {k1 k2 m1 m2 b u : Nat} (h : Cp2 w W S (aggS S f1 k1 f2 k2) (aggS S g1 m1 g2 m2)) (hb : Below w.heap.size w W) (h1 : W.heap[b]? = some (objS S f1 k1 f2 k2)) (h2 : W.heap[u]? = some (objS S g1 m1 g2 m2)) (l1 : w.heap.size ≤ b) (l2 : w.heap.size ≤ u) :
    Ed w W b S (.slice f1 S.bars.length k1) (.slice f2 S.pieces.length k2) ∧ Ed w W u S (.slice g1 S.bars.length m1) (.slice g2 S.pieces.length m2) ∧ ∀ g, (Value.slice f2 S.pieces.length k2).ownBlock = some g → (Value.slice g2 S.pieces.length m2).ownBlock ≠ some g := by
  obtain ⟨a1, c1, a2, c2, d1, e1, d2, e2, q1, q2, h3, h4, h5⟩ := h
  simp only [aggS, Value.agg.injEq, Array.mk.injEq, List.cons.injEq, Value.slice.injEq, and_true, true_and] at q1 q2
  obtain ⟨⟨rfl, rfl⟩, rfl, rfl⟩ := q1
  obtain ⟨⟨rfl, rfl⟩, rfl, rfl⟩ := q2
  exact ⟨⟨hb, h1, h3, l1⟩, ⟨hb, h2, h4, l2⟩, h5⟩
theorem BlkAt.lt {W : World} {b : Nat} {o : Obj} (h : BlkAt W b o) : b < W.heap.size := (Array.getElem?_eq_some_iff.1 h).1
end Go.Proofs.Ytjflpmhlodgadaa
