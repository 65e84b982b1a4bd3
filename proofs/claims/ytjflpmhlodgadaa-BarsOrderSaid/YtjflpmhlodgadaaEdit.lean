/-
  A copy in a variable that is changed piece by piece.
-/
import Derived.Test.YtjflpmhlodgadaaStat
import Derived.Test.YtjflpmhlodgadaaMath4
import Derived.Test.YtjflpmhlodgadaaRoomLaw
namespace Go.Proofs.Ytjflpmhlodgadaa
open Go.RowKit

theorem bcells_set {bs : List Bar} {i : Nat} {x : Int} (hi : i < bs.length) : bcells (bs.set i ⟨(bnth bs i).heat, x⟩) bs.length = (bcells bs bs.length).set (i * 2 + 1) (.int .i64 x) := by
  refine List.ext_getElem? fun j => ?_
  rw [List.getElem?_set]
  by_cases hj : j < bs.length * 2
  · have hq : j / 2 < bs.length := by omega
    have h1 := bcells_at (bs.set i ⟨(bnth bs i).heat, x⟩) hq
    have h2 := bcells_at bs hq
    have hl := bcells_length bs bs.length
    by_cases e : i = j / 2
    · have hb : bnth (bs.set i ⟨(bnth bs i).heat, x⟩) (j / 2) = ⟨(bnth bs i).heat, x⟩ := by rw [← e]; simp [bnth, hi]
      rw [hb] at h1
      rcases Nat.mod_two_eq_zero_or_one j with hm | hm
      · have ej : j / 2 * 2 = j := by omega
        rw [ej] at h1 h2
        rw [if_neg (by omega), h1.1, h2.1, e]
      · have ej : j / 2 * 2 + 1 = j := by omega
        rw [ej] at h1 h2
        rw [if_pos (by omega), if_pos (by omega), h1.2]
    · have hb : bnth (bs.set i ⟨(bnth bs i).heat, x⟩) (j / 2) = bnth bs (j / 2) := by simp [bnth, List.getElem?_set_ne e]
      rw [hb] at h1
      rw [if_neg (by omega)]
      rcases Nat.mod_two_eq_zero_or_one j with hm | hm
      · have ej : j / 2 * 2 = j := by omega
        rw [ej] at h1 h2
        rw [h1.1, h2.1]
      · have ej : j / 2 * 2 + 1 = j := by omega
        rw [ej] at h1 h2
        rw [h1.2, h2.2]
  · rw [if_neg (by omega), List.getElem?_eq_none (by rw [bcells_length]; omega), List.getElem?_eq_none (by rw [bcells_length]; omega)]
theorem pcells_set {ps : List Piece} {hs : Nat → Value} {i : Nat} {x : Int} (hi : i < ps.length) : pcells (ps.set i ⟨x, (pnth ps i).heats⟩) hs ps.length = (pcells ps hs ps.length).set (i * 2) (.int .i64 x) := by
  refine List.ext_getElem? fun j => ?_
  rw [List.getElem?_set]
  by_cases hj : j < ps.length * 2
  · have hq : j / 2 < ps.length := by omega
    have h1 := pcells_at (ps.set i ⟨x, (pnth ps i).heats⟩) hs hq
    have h2 := pcells_at ps hs hq
    have hl := pcells_length ps hs ps.length
    by_cases e : i = j / 2
    · have hb : pnth (ps.set i ⟨x, (pnth ps i).heats⟩) (j / 2) = ⟨x, (pnth ps i).heats⟩ := by rw [← e]; simp [pnth, hi]
      rw [hb] at h1
      rcases Nat.mod_two_eq_zero_or_one j with hm | hm
      · have ej : j / 2 * 2 = j := by omega
        rw [ej] at h1 h2
        rw [if_pos (by omega), if_pos (by omega), h1.1]
      · have ej : j / 2 * 2 + 1 = j := by omega
        rw [ej] at h1 h2
        rw [if_neg (by omega), h1.2, h2.2]
    · have hb : pnth (ps.set i ⟨x, (pnth ps i).heats⟩) (j / 2) = pnth ps (j / 2) := by simp [pnth, List.getElem?_set_ne e]
      rw [hb] at h1
      rw [if_neg (by omega)]
      rcases Nat.mod_two_eq_zero_or_one j with hm | hm
      · have ej : j / 2 * 2 = j := by omega
        rw [ej] at h1 h2
        rw [h1.1, h2.1]
      · have ej : j / 2 * 2 + 1 = j := by omega
        rw [ej] at h1 h2
        rw [h1.2, h2.2]
  · rw [if_neg (by omega), List.getElem?_eq_none (by rw [pcells_length]; omega), List.getElem?_eq_none (by rw [pcells_length]; omega)]

/-- Variable bo of world W holds a store O in memory from w1's end on; below, W is w1. -/
structure Ed (w1 W : World) (bo : Nat) (O : Store) (bv pv : Value) : Prop where
  b : Below w1.heap.size w1 W
  o : W.heap[bo]? = some (.cells #[bv, .int .i64 O.kerf, pv, .int .i64 O.wrong] 25)
  c : CopyAt w1.heap.size W (.agg #[bv, .int .i64 O.kerf, pv, .int .i64 O.wrong]) O
  l : w1.heap.size ≤ bo
/-- The rows of a copy that is known by its parts. -/
theorem CopyAt.parts {lo : Nat} {w : World} {bv pv k r : Value} {S : Store} (h : CopyAt lo w (.agg #[bv, k, pv, r]) S) :
    ∃ hs, w.ownsRow lo 53 2 bv S.bars.length (bcells S.bars S.bars.length) ∧ w.ownsRow lo 60 2 pv S.pieces.length (pcells S.pieces hs S.pieces.length) ∧
    (∀ i, i < S.pieces.length → w.ownsRow lo 3 1 (hs i) (pnth S.pieces i).heats.length ((pnth S.pieces i).heats.map (Value.int .i64))) ∧ Wf S := by
  obtain ⟨bv', pv', hs, he, h1, h2, h3, h4, h5, h6, h7⟩ := h
  simp only [Value.agg.injEq, Array.mk.injEq, List.cons.injEq, and_true] at he
  obtain ⟨rfl, _, rfl, _⟩ := he
  exact ⟨hs, h1, h2, h3, h4, h5, h6, h7⟩
theorem CopyAt.of_parts {lo : Nat} {w : World} {bv pv : Value} {S : Store} {hs : Nat → Value} (h1 : w.ownsRow lo 53 2 bv S.bars.length (bcells S.bars S.bars.length)) (h2 : w.ownsRow lo 60 2 pv S.pieces.length (pcells S.pieces hs S.pieces.length))
    (h3 : ∀ i, i < S.pieces.length → w.ownsRow lo 3 1 (hs i) (pnth S.pieces i).heats.length ((pnth S.pieces i).heats.map (Value.int .i64))) (h4 : Wf S) : CopyAt lo w (.agg #[bv, .int .i64 S.kerf, pv, .int .i64 S.wrong]) S :=
  ⟨bv, pv, hs, rfl, h1, h2, h3, h4.bars, h4.pieces, h4.kerf, h4.wrong⟩
/-- A store into a store's variable spares all rows. -/
theorem own_setBox {lo : Nat} {w : World} {u : Value} {b o : Nat} {cs : Array Value} (hb : w.heap[b]? = some (.cells cs 25)) {e : TypeId} {v : Value} {n size : Nat} {xs : List Value} (hne : e ≠ 25) (h : w.ownsRow lo e size v n xs) :
    (w.setCell ⟨b, o, none⟩ u).ownsRow lo e size v n xs :=
  h.kept (row := some b) ⟨rfl, rfl, rfl, by simp [World.setCell], fun k _ hk => Below.heap_setCell _ _ _ _ (fun e => hk (by rw [e]))⟩ (.inr (own_ne_type h hb hne))

/-- The copy in its variable. -/
theorem Ed.first {w1 w2 : World} {bv pv : Value} {S : Store} (h : CopyAt w1.heap.size w2 (.agg #[bv, .int .i64 S.kerf, pv, .int .i64 S.wrong]) S) (hb : Below w1.heap.size w1 w2) :
    Ed w1 (w2.alloc (.cells #[bv, .int .i64 S.kerf, pv, .int .i64 S.wrong] 25)) w2.heap.size S bv pv :=
  ⟨hb.alloc hb.size _, heap_new w2 _, h.below ((Below.refl _ w2).alloc (Nat.le_refl _) _), hb.size⟩
theorem Ed.next {w1 W W' : World} {bo : Nat} {O : Store} {bv pv : Value} (h : Ed w1 W bo O bv pv) (hb : Below W.heap.size W W') : Ed w1 W' bo O bv pv :=
  ⟨h.b.trans (hb.mono h.b.size), (hb.block bo (Array.getElem?_eq_some_iff.1 h.o).1).trans h.o, h.c.below hb, h.l⟩
theorem Ed.kerf {w1 W : World} {bo : Nat} {O : Store} {bv pv : Value} (h : Ed w1 W bo O bv pv) (x : Int) (hx : I64 x) : Ed w1 (W.setCell ⟨bo, 1, none⟩ (.int .i64 x)) bo ⟨O.bars, x, O.pieces, O.wrong⟩ bv pv := by
  obtain ⟨hs, h1, h2, h3, h4⟩ := h.c.parts
  exact ⟨h.b.setCell (by simp; exact h.l) _, heap_set _ h.o, CopyAt.of_parts (S := ⟨O.bars, x, O.pieces, O.wrong⟩) (own_setBox h.o (by decide) h1) (own_setBox h.o (by decide) h2) (fun i hi => own_setBox h.o (by decide) (h3 i hi)) ⟨h4.bars, h4.pieces, hx, h4.wrong⟩, h.l⟩
theorem Ed.wrong {w1 W : World} {bo : Nat} {O : Store} {bv pv : Value} (h : Ed w1 W bo O bv pv) (x : Int) (hx : I64 x) : Ed w1 (W.setCell ⟨bo, 3, none⟩ (.int .i64 x)) bo ⟨O.bars, O.kerf, O.pieces, x⟩ bv pv := by
  obtain ⟨hs, h1, h2, h3, h4⟩ := h.c.parts
  exact ⟨h.b.setCell (by simp; exact h.l) _, heap_set _ h.o, CopyAt.of_parts (S := ⟨O.bars, O.kerf, O.pieces, x⟩) (own_setBox h.o (by decide) h1) (own_setBox h.o (by decide) h2) (fun i hi => own_setBox h.o (by decide) (h3 i hi)) ⟨h4.bars, h4.pieces, h4.kerf, hx⟩, h.l⟩
/-- Where bar i's length lies, and what a store there leaves. -/
theorem Ed.bar {w1 W : World} {bo : Nat} {O : Store} {bv pv : Value} (h : Ed w1 W bo O bv pv) {i : Nat} (hi : i < O.bars.length) :
    ∃ g cap, bv = .slice (some ⟨g, 0, none⟩) O.bars.length cap ∧ W.cell? ⟨g, i * 2, none⟩ = some (.int .i64 (bnth O.bars i).heat) ∧ W.cell? ⟨g, i * 2 + 1, none⟩ = some (.int .i64 (bnth O.bars i).long) ∧ (∀ j, W.frozen? ⟨g, j, none⟩ = false) ∧ g ≠ bo ∧ w1.heap.size ≤ g ∧
      ∀ x, I64 x → Ed w1 (W.setCell ⟨g, i * 2 + 1, none⟩ (.int .i64 x)) bo ⟨O.bars.set i ⟨(bnth O.bars i).heat, x⟩, O.kerf, O.pieces, O.wrong⟩ bv pv := by
  obtain ⟨hs, h1, h2, h3, h4⟩ := h.c.parts
  obtain ⟨g, cap, rfl, hge, hlt⟩ := h1.form (by omega)
  have hg : g ≠ bo := fun e => own_ne_type h1 h.o (by decide) (by rw [e]; rfl)
  have hat := bcells_at O.bars hi
  refine ⟨g, cap, rfl, (h1.cellAt _ (by omega)).trans hat.1, (h1.cellAt _ (by omega)).trans hat.2, fun j => h1.frozenAt j, hg, hge, fun x hx => ?_⟩
  obtain ⟨s1, s2⟩ := h1.stored (i * 2 + 1) (.int .i64 x)
  refine ⟨h.b.setCell (by simpa using hge) _, heap_set_other _ h.o (Ne.symm hg), ?_, h.l⟩
  refine CopyAt.of_parts (S := ⟨O.bars.set i ⟨(bnth O.bars i).heat, x⟩, O.kerf, O.pieces, O.wrong⟩) (hs := hs) ?_ (own_kept_type h2 h1 (by decide) s2) (fun j hj => own_kept_type (h3 j hj) h1 (by decide) s2) ⟨fun y hy => ?_, h4.pieces, h4.kerf, h4.wrong⟩
  · simp only [List.length_set, bcells_set hi]
    exact s1
  · rcases List.mem_or_eq_of_mem_set hy with hy | rfl
    · exact h4.bars y hy
    · refine ⟨?_, hx⟩
      rw [bnth_lt hi]
      exact (h4.bars _ (List.getElem_mem hi)).1
/-- Where piece i's length and heats lie, and what a store of its length leaves. -/
theorem Ed.piece {w1 W : World} {bo : Nat} {O : Store} {bv pv : Value} (h : Ed w1 W bo O bv pv) {i : Nat} (hi : i < O.pieces.length) :
    ∃ g cap, pv = .slice (some ⟨g, 0, none⟩) O.pieces.length cap ∧ W.cell? ⟨g, i * 2, none⟩ = some (.int .i64 (pnth O.pieces i).long) ∧ (∃ hv, W.cell? ⟨g, i * 2 + 1, none⟩ = some hv ∧ IntsAt W.heap.size W hv (pnth O.pieces i).heats) ∧ (∀ j, W.frozen? ⟨g, j, none⟩ = false) ∧ g ≠ bo ∧ w1.heap.size ≤ g ∧ g < W.heap.size ∧
      ∀ x, I64 x → Ed w1 (W.setCell ⟨g, i * 2, none⟩ (.int .i64 x)) bo ⟨O.bars, O.kerf, O.pieces.set i ⟨x, (pnth O.pieces i).heats⟩, O.wrong⟩ bv pv := by
  obtain ⟨hs, h1, h2, h3, h4⟩ := h.c.parts
  obtain ⟨g, cap, rfl, hge, hlt⟩ := h2.form (by omega)
  have hg : g ≠ bo := fun e => own_ne_type h2 h.o (by decide) (by rw [e]; rfl)
  have hat := pcells_at O.pieces hs hi
  have hwi := h4.pieces (pnth O.pieces i) (by rw [pnth_lt hi]; exact List.getElem_mem hi)
  refine ⟨g, cap, rfl, (h2.cellAt _ (by omega)).trans hat.1, ⟨hs i, (h2.cellAt _ (by omega)).trans hat.2, ints_of_own (h3 i hi) hwi.2⟩, fun j => h2.frozenAt j, hg, hge, hlt, fun x hx => ?_⟩
  obtain ⟨s1, s2⟩ := h2.stored (i * 2) (.int .i64 x)
  refine ⟨h.b.setCell (by simpa using hge) _, heap_set_other _ h.o (Ne.symm hg), ?_, h.l⟩
  refine CopyAt.of_parts (S := ⟨O.bars, O.kerf, O.pieces.set i ⟨x, (pnth O.pieces i).heats⟩, O.wrong⟩) (hs := hs) (own_kept_type h1 h2 (by decide) s2) ?_ (fun j hj => ?_) ⟨h4.bars, fun y hy => ?_, h4.kerf, h4.wrong⟩
  · simp only [List.length_set, pcells_set hi]
    exact s1
  · simp only [List.length_set] at hj
    have e : (pnth (O.pieces.set i ⟨x, (pnth O.pieces i).heats⟩) j).heats = (pnth O.pieces j).heats := by
      by_cases e : i = j
      · subst e; rw [pnth_set_same hi]
      · rw [pnth_set_other e]
    simp only [e]
    exact own_kept_type (h3 j hj) h2 (by decide) s2
  · rcases List.mem_or_eq_of_mem_set hy with hy | rfl
    · exact h4.pieces y hy
    · exact ⟨hx, hwi.2⟩
theorem cell_grown {w w' : World} {row : Option Nat} {b o : Nat} {v : Value} (h : w.cell? ⟨b, o, none⟩ = some v) (hl : b < w.heap.size) (hg : w.grownBy w' row) (hn : row ≠ some b) : w'.cell? ⟨b, o, none⟩ = some v :=
  (hg.cell_far ⟨b, o, none⟩ hl (Ne.symm hn)).trans h
theorem cell_set {w : World} {b o : Nat} {v : Value} (h : w.cell? ⟨b, o, none⟩ = some v) (p : Addr) (u : Value) (hn : p.block ≠ b) : (w.setCell p u).cell? ⟨b, o, none⟩ = some v :=
  (World.cell?_setCell_far w p ⟨b, o, none⟩ u hn).trans h
/-- One more piece, whose heats were copied first. -/
theorem more_step {w1 W W1 w2 w3 : World} {bo : Nat} {O : Store} {p : Piece} {bv pv hv q : Value} {hs : Nat → Value} {o1 : Obj} (hE : Ed w1 W bo O bv pv)
    (r1 : W.ownsRow w1.heap.size 53 2 bv O.bars.length (bcells O.bars O.bars.length)) (r2 : W.ownsRow w1.heap.size 60 2 pv O.pieces.length (pcells O.pieces hs O.pieces.length))
    (r3 : ∀ i, i < O.pieces.length → W.ownsRow w1.heap.size 3 1 (hs i) (pnth O.pieces i).heats.length ((pnth O.pieces i).heats.map (Value.int .i64))) (r4 : Wf O) (hp : I64 p.long ∧ ∀ h ∈ p.heats, I64 h)
    (hb1 : Below W.heap.size W W1) (hs1 : W1.heap.size = W.heap.size + 1) (hgrow2 : W1.grownBy w2 (some W.heap.size)) (hown2 : w2.ownsRow W.heap.size 3 1 hv p.heats.length (p.heats.map (Value.int .i64)))
    (hgrow3 : (w2.alloc o1).grownBy w3 pv.ownBlock) (hown3 : w3.ownsRow w1.heap.size 60 2 q (O.pieces.length + 1) (pcells O.pieces hs O.pieces.length ++ [.int .i64 p.long, hv])) :
    Ed w1 (w3.setCell ⟨bo, 2, none⟩ q) bo (more O p) bv q := by
  have k : ∀ {e : TypeId} {v : Value} {n size : Nat} {xs : List Value}, W.ownsRow w1.heap.size e size v n xs → w2.ownsRow w1.heap.size e size v n xs := fun h => (own_below h hb1).kept hgrow2 (.inr (own_ne h (.inl (Nat.le_refl _))))
  have hc := copy_more (k r1) (k r2) (fun i hi => k (r3 i hi)) r4 hp hown2 hE.b.size hgrow3 hown3
  have hbo : bo < W.heap.size := (Array.getElem?_eq_some_iff.1 hE.o).1
  have hsz2 := hgrow2.size
  have hn : pv.ownBlock ≠ some bo := own_ne_type r2 hE.o (by decide)
  have hold : ∀ j, j < W.heap.size → pv.ownBlock ≠ some j → w3.heap[j]? = W.heap[j]? := fun j hj hn =>
    (hgrow3.block j (by simp; omega) (Ne.symm hn)).trans ((Below.heap_alloc _ _ _ (by omega)).trans ((hgrow2.block j (by omega) (by simp; omega)).trans (hb1.block j hj)))
  have ho : w3.heap[bo]? = some (.cells #[bv, .int .i64 O.kerf, pv, .int .i64 O.wrong] 25) := (hold bo hbo hn).trans hE.o
  have hsz3 := hgrow3.size
  simp only [World.size_alloc] at hsz3
  have hbelow : Below w1.heap.size w1 w3 := by
    refine hE.b.trans ⟨hgrow3.os.trans (hgrow2.os.trans hb1.os), hgrow3.tape.trans (hgrow2.tape.trans hb1.tape), hgrow3.output.trans (hgrow2.output.trans hb1.output), by omega, fun j hj => hold j (by have := hE.b.size; omega) (own_ne r2 (.inr hj))⟩
  exact ⟨hbelow.setCell (by simpa using hE.l) _, heap_set _ ho, hc.setBox ho, hE.l⟩
theorem Ed.stat {w w1 W : World} {bo : Nat} {O : Store} {bv pv : Value} (h : Ed w1 W bo O bv pv) (hw : Below w.heap.size w w1) : Stat w W bo bv (.int .i64 O.kerf) pv (.int .i64 O.wrong) O :=
  ⟨h.o, h.c.store, hw.trans (h.b.mono hw.size)⟩
end Go.Proofs.Ytjflpmhlodgadaa
