/-
  Levers, walks: a machine at work, as memory holds it.
-/
import Derived.Test.YtomcjopcfdllgaaVPairsS

namespace Go.Proofs.Ytomcjopcfdllgaa
open Go.RowKit

/-- The cells of a machine at work. -/
abbrev wArr (lv : Value) (M : Mach) (bv : Value) (s0 s1 s2 : Int × Int) (long lev o0 o1 : Int) (av mv : Value) (least : Int) (sv : Value) : Array Value :=
  #[lv, .int .i64 M.water, .int .i64 M.lkLo, .int .i64 M.lkHi, bv, .int .i64 M.wrong, .int .i64 s0.1, .int .i64 s0.2, .int .i64 s1.1, .int .i64 s1.2, .int .i64 s2.1, .int .i64 s2.2, .int .i64 long, .int .i64 lev, .int .i64 o0, .int .i64 o1, av, mv, .int .i64 least, sv]
theorem cells20 {W : World} {b : Nat} {v0 v1 v2 v3 v4 v5 v6 v7 v8 v9 v10 v11 v12 v13 v14 v15 v16 v17 v18 v19 : Value} {t : TypeId} (e : W.heap[b]? = some (.cells #[v0, v1, v2, v3, v4, v5, v6, v7, v8, v9, v10, v11, v12, v13, v14, v15, v16, v17, v18, v19] t)) :
    (W.cell? ⟨b, 0, none⟩ = some v0 ∧ W.cell? ⟨b, 1, none⟩ = some v1 ∧ W.cell? ⟨b, 2, none⟩ = some v2 ∧ W.cell? ⟨b, 3, none⟩ = some v3 ∧ W.cell? ⟨b, 4, none⟩ = some v4 ∧ W.cell? ⟨b, 5, none⟩ = some v5) ∧
    (W.cell? ⟨b, 6, none⟩ = some v6 ∧ W.cell? ⟨b, 7, none⟩ = some v7 ∧ W.cell? ⟨b, 8, none⟩ = some v8 ∧ W.cell? ⟨b, 9, none⟩ = some v9 ∧ W.cell? ⟨b, 10, none⟩ = some v10 ∧ W.cell? ⟨b, 11, none⟩ = some v11) ∧
    (W.cell? ⟨b, 12, none⟩ = some v12 ∧ W.cell? ⟨b, 13, none⟩ = some v13 ∧ W.cell? ⟨b, 14, none⟩ = some v14 ∧ W.cell? ⟨b, 15, none⟩ = some v15) ∧
    (W.cell? ⟨b, 16, none⟩ = some v16 ∧ W.cell? ⟨b, 17, none⟩ = some v17 ∧ W.cell? ⟨b, 18, none⟩ = some v18 ∧ W.cell? ⟨b, 19, none⟩ = some v19) := by
  refine ⟨⟨?_, ?_, ?_, ?_, ?_, ?_⟩, ⟨?_, ?_, ?_, ?_, ?_, ?_⟩, ⟨?_, ?_, ?_, ?_⟩, ?_, ?_, ?_, ?_⟩ <;> (rw [cell_of e]; rfl)
/-- A machine at work in block pb; lev is the lever of which each group has one arm. -/
def WorkAt (B : Nat) (w : World) (pb : Nat) (M : Mach) (lev : Nat) : Prop :=
  pb < B ∧ ∃ lv bv av mv sv, w.heap[pb]? = some (.cells (wArr lv M bv (shortOf M.levers 0) (shortOf M.levers 1) (shortOf M.levers 2) (longP M.levers) (lev : Nat) ((lev + 1) % 3 : Nat) ((lev + 2) % 3 : Nat) av mv ((shortOf M.levers ((lev + 1) % 3)).1 * (shortOf M.levers ((lev + 2) % 3)).1) sv) 99) ∧
    BalsAt B w bv M.bals ∧ ArmsAt B w av (armsOf (shortOf M.levers ((lev + 1) % 3)) (shortOf M.levers ((lev + 2) % 3))) ∧ IntsAt B w mv (manyI (shortOf M.levers ((lev + 1) % 3)) (shortOf M.levers ((lev + 2) % 3))) ∧ IntsAt B w sv (lessI (shortOf M.levers ((lev + 1) % 3)) (shortOf M.levers ((lev + 2) % 3)))
theorem WorkAt.below {B : Nat} {w w' : World} {pb : Nat} {M : Mach} {lev : Nat} (h : WorkAt B w pb M lev) (hb : Below B w w') : WorkAt B w' pb M lev := by
  obtain ⟨h0, lv, bv, av, mv, sv, h1, h2, h3, h4, h5⟩ := h
  exact ⟨h0, lv, bv, av, mv, sv, (hb.block pb h0).trans h1, h2.below hb, h3.below hb, h4.below hb, h5.below hb⟩
theorem WorkAt.mono {B B' : Nat} {w : World} {pb : Nat} {M : Mach} {lev : Nat} (h : WorkAt B w pb M lev) (hb : B ≤ B') : WorkAt B' w pb M lev := by
  obtain ⟨h0, lv, bv, av, mv, sv, h1, h2, h3, h4, h5⟩ := h
  exact ⟨by omega, lv, bv, av, mv, sv, h1, h2.mono hb, h3.mono hb, h4.mono hb, h5.mono hb⟩
/-- In later worlds, below their own heaps' ends. -/
theorem WorkAt.next {w w' : World} {pb : Nat} {M : Mach} {lev : Nat} {B : Nat} (h : WorkAt B w pb M lev) (hb : Below B w w') (hB : B ≤ w'.heap.size) : WorkAt w'.heap.size w' pb M lev := (h.below hb).mono hB
/-- What the small functions read. -/
theorem WorkAt.three {B : Nat} {w : World} {pb : Nat} {M : Mach} {lev : Nat} (h : WorkAt B w pb M lev) : w.cell? ⟨pb, 1, none⟩ = some (.int .i64 M.water) ∧ w.cell? ⟨pb, 12, none⟩ = some (.int .i64 (longP M.levers)) ∧ ∃ bv, w.cell? ⟨pb, 4, none⟩ = some bv ∧ BalsAt B w bv M.bals := by
  obtain ⟨h0, lv, bv, av, mv, sv, h1, h2, _⟩ := h
  obtain ⟨c1, c2, c3, c4⟩ := cells20 h1
  exact ⟨c1.2.1, c3.1, bv, c1.2.2.2.2.1, h2⟩

/-- What is needed of a group's setting. -/
theorem armOf_in {M : Mach} (hV : ValidM M) {lev : Nat} (_hl : lev < 3) {a : Int} {q : Int × Int} (ha : (shortOf M.levers lev).1 ≤ a ∧ a ≤ (shortOf M.levers lev).2) (hq : q ∈ pairsL (shortOf M.levers ((lev + 1) % 3)) (shortOf M.levers ((lev + 2) % 3))) (i : Nat) : 1 ≤ armOf lev a q i ∧ armOf lev a q i ≤ 1000 := by
  obtain ⟨⟨x1, x2⟩, y1, y2⟩ := mem_pairs.1 hq
  have h0 := short_ok hV lev
  have h1 := short_ok hV ((lev + 1) % 3)
  have h2 := short_ok hV ((lev + 2) % 3)
  unfold armOf
  split
  · omega
  · split <;> omega
end Go.Proofs.Ytomcjopcfdllgaa
