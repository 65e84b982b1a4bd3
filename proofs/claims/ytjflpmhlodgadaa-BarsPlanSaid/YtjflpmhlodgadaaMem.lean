/-
  What memory holds: lists of ints, bars, pieces, stores; kept by whatever leaves the blocks below a bound as they were.
-/
import Derived.Test.YtjflpmhlodgadaaRows
import Derived.WalkKit
import Derived.WalkSpells
import Derived.Lib.Hide
import Derived.Deep.QuietTactic
import Derived.BigQuiet
import Derived.Handy
namespace Go.Proofs.Ytjflpmhlodgadaa
open Go.RowKit

/-- The i-th number of a list, 0 beyond its end. -/
def nth (xs : List Int) (i : Nat) : Int := xs.getD i 0
theorem nth_lt {xs : List Int} {i : Nat} (h : i < xs.length) : nth xs i = xs[i] := by simp [nth, h]
theorem nth_mem {xs : List Int} {i : Nat} (h : i < xs.length) : nth xs i ∈ xs := by rw [nth_lt h]; exact List.getElem_mem h

def I64 (n : Int) : Prop := -9223372036854775808 ≤ n ∧ n ≤ 9223372036854775807

structure Bar where
  heat : Int
  long : Int
deriving DecidableEq, Inhabited
structure Piece where
  long : Int
  heats : List Int
deriving DecidableEq, Inhabited
structure Store where
  bars : List Bar
  kerf : Int
  pieces : List Piece
  wrong : Int
deriving DecidableEq, Inhabited

def bnth (bs : List Bar) (i : Nat) : Bar := bs.getD i ⟨0, 0⟩
def pnth (ps : List Piece) (i : Nat) : Piece := ps.getD i ⟨0, []⟩

/-- A []int that holds xs, in a block below B. -/
def IntsAt (B : Nat) (w : World) (v : Value) (xs : List Int) : Prop :=
  ∃ a cap b off, v = .slice a xs.length cap ∧ xs.length ≤ cap ∧ cap ≤ maxLen ∧ (0 < xs.length → a = some ⟨b, off, none⟩ ∧ b < B) ∧
    (∀ i, i < xs.length → w.cell? ⟨b, off + i, none⟩ = some (.int .i64 (nth xs i))) ∧ ∀ x ∈ xs, I64 x

def BarsAt (B : Nat) (w : World) (v : Value) (bs : List Bar) : Prop :=
  ∃ a cap b off, v = .slice a bs.length cap ∧ bs.length ≤ cap ∧ cap ≤ maxLen ∧ (0 < bs.length → a = some ⟨b, off, none⟩ ∧ b < B) ∧
    (∀ i, i < bs.length → w.cell? ⟨b, off + i * 2, none⟩ = some (.int .i64 (bnth bs i).heat) ∧ w.cell? ⟨b, off + i * 2 + 1, none⟩ = some (.int .i64 (bnth bs i).long)) ∧
    ∀ x ∈ bs, I64 x.heat ∧ I64 x.long

def PiecesAt (B : Nat) (w : World) (v : Value) (ps : List Piece) : Prop :=
  ∃ a cap b off, v = .slice a ps.length cap ∧ ps.length ≤ cap ∧ cap ≤ maxLen ∧ (0 < ps.length → a = some ⟨b, off, none⟩ ∧ b < B) ∧
    (∀ i, i < ps.length → w.cell? ⟨b, off + i * 2, none⟩ = some (.int .i64 (pnth ps i).long) ∧
      ∃ hv, w.cell? ⟨b, off + i * 2 + 1, none⟩ = some hv ∧ IntsAt B w hv (pnth ps i).heats) ∧
    ∀ x ∈ ps, I64 x.long

def StoreAt (B : Nat) (w : World) (v : Value) (S : Store) : Prop :=
  ∃ bv pv, v = .agg #[bv, .int .i64 S.kerf, pv, .int .i64 S.wrong] ∧ BarsAt B w bv S.bars ∧ PiecesAt B w pv S.pieces ∧ I64 S.kerf ∧ I64 S.wrong

theorem StoreAt.opened {B : Nat} {w : World} {v : Value} {S : Store} (h : StoreAt B w v S) :
    ∃ a cap b off a2 cap2 b2 off2, v = .agg #[.slice a S.bars.length cap, .int .i64 S.kerf, .slice a2 S.pieces.length cap2, .int .i64 S.wrong] ∧
      S.bars.length ≤ 9223372036854775807 ∧ S.pieces.length ≤ 9223372036854775807 ∧
      Hid (0 < S.bars.length → a = some ⟨b, off, none⟩ ∧ b < B) ∧
      Hid (∀ i, i < S.bars.length → w.cell? ⟨b, off + i * 2, none⟩ = some (.int .i64 (bnth S.bars i).heat) ∧ w.cell? ⟨b, off + i * 2 + 1, none⟩ = some (.int .i64 (bnth S.bars i).long)) ∧
      Hid (0 < S.pieces.length → a2 = some ⟨b2, off2, none⟩ ∧ b2 < B) ∧
      Hid (∀ i, i < S.pieces.length → w.cell? ⟨b2, off2 + i * 2, none⟩ = some (.int .i64 (pnth S.pieces i).long) ∧
        ∃ hv, w.cell? ⟨b2, off2 + i * 2 + 1, none⟩ = some hv ∧ IntsAt B w hv (pnth S.pieces i).heats) := by
  obtain ⟨bv, pv, rfl, hB, hP, wk, ww⟩ := h
  obtain ⟨a, cap, b, off, rfl, hl, hm, ha, hc, hw⟩ := hB
  obtain ⟨a2, cap2, b2, off2, rfl, hl2, hm2, ha2, hc2, hw2⟩ := hP
  unfold maxLen at hm hm2
  exact ⟨a, cap, b, off, a2, cap2, b2, off2, rfl, by omega, by omega, Lib.hid ha, Lib.hid hc, Lib.hid ha2, Lib.hid hc2⟩
theorem IntsAt.opened {B : Nat} {w : World} {v : Value} {xs : List Int} (h : IntsAt B w v xs) :
    ∃ a cap b off, v = .slice a xs.length cap ∧ xs.length ≤ 9223372036854775807 ∧ Hid (0 < xs.length → a = some ⟨b, off, none⟩ ∧ b < B) ∧
      Hid (∀ i, i < xs.length → w.cell? ⟨b, off + i, none⟩ = some (.int .i64 (nth xs i))) ∧ Hid (∀ x ∈ xs, I64 x) := by
  obtain ⟨a, cap, b, off, rfl, hl, hm, ha, hc, hw⟩ := h
  unfold maxLen at hm
  exact ⟨a, cap, b, off, rfl, by omega, Lib.hid ha, Lib.hid hc, Lib.hid hw⟩
theorem IntsAt.below {B : Nat} {w w' : World} {v : Value} {xs : List Int} (h : IntsAt B w v xs) (hb : Below B w w') : IntsAt B w' v xs := by
  obtain ⟨a, cap, b, off, hv, hl, hm, ha, hc, hw⟩ := h
  exact ⟨a, cap, b, off, hv, hl, hm, ha, fun i hi => (hb.cell (p := ⟨b, off + i, none⟩) (ha (by omega)).2).trans (hc i hi), hw⟩
theorem IntsAt.mono {B B' : Nat} {w : World} {v : Value} {xs : List Int} (h : IntsAt B w v xs) (hb : B ≤ B') : IntsAt B' w v xs := by
  obtain ⟨a, cap, b, off, hv, hl, hm, ha, hc, hw⟩ := h
  exact ⟨a, cap, b, off, hv, hl, hm, fun h => ⟨(ha h).1, by have := (ha h).2; omega⟩, hc, hw⟩
theorem BarsAt.below {B : Nat} {w w' : World} {v : Value} {xs : List Bar} (h : BarsAt B w v xs) (hb : Below B w w') : BarsAt B w' v xs := by
  obtain ⟨a, cap, b, off, hv, hl, hm, ha, hc, hw⟩ := h
  exact ⟨a, cap, b, off, hv, hl, hm, ha, fun i hi => ⟨(hb.cell (p := ⟨b, off + i * 2, none⟩) (ha (by omega)).2).trans (hc i hi).1, (hb.cell (p := ⟨b, off + i * 2 + 1, none⟩) (ha (by omega)).2).trans (hc i hi).2⟩, hw⟩
theorem BarsAt.mono {B B' : Nat} {w : World} {v : Value} {xs : List Bar} (h : BarsAt B w v xs) (hb : B ≤ B') : BarsAt B' w v xs := by
  obtain ⟨a, cap, b, off, hv, hl, hm, ha, hc, hw⟩ := h
  exact ⟨a, cap, b, off, hv, hl, hm, fun h => ⟨(ha h).1, by have := (ha h).2; omega⟩, hc, hw⟩
theorem PiecesAt.below {B : Nat} {w w' : World} {v : Value} {xs : List Piece} (h : PiecesAt B w v xs) (hb : Below B w w') : PiecesAt B w' v xs := by
  obtain ⟨a, cap, b, off, hv, hl, hm, ha, hc, hw⟩ := h
  refine ⟨a, cap, b, off, hv, hl, hm, ha, fun i hi => ⟨(hb.cell (p := ⟨b, off + i * 2, none⟩) (ha (by omega)).2).trans (hc i hi).1, ?_⟩, hw⟩
  obtain ⟨hv, h1, h2⟩ := (hc i hi).2
  exact ⟨hv, (hb.cell (p := ⟨b, off + i * 2 + 1, none⟩) (ha (by omega)).2).trans h1, h2.below hb⟩
theorem PiecesAt.mono {B B' : Nat} {w : World} {v : Value} {xs : List Piece} (h : PiecesAt B w v xs) (hb : B ≤ B') : PiecesAt B' w v xs := by
  obtain ⟨a, cap, b, off, hv, hl, hm, ha, hc, hw⟩ := h
  exact ⟨a, cap, b, off, hv, hl, hm, fun h => ⟨(ha h).1, by have := (ha h).2; omega⟩, fun i hi => ⟨(hc i hi).1, by obtain ⟨hv, h1, h2⟩ := (hc i hi).2; exact ⟨hv, h1, h2.mono hb⟩⟩, hw⟩
theorem StoreAt.below {B : Nat} {w w' : World} {v : Value} {S : Store} (h : StoreAt B w v S) (hb : Below B w w') : StoreAt B w' v S := by
  obtain ⟨bv, pv, hv, h1, h2, h3⟩ := h
  exact ⟨bv, pv, hv, h1.below hb, h2.below hb, h3⟩
theorem StoreAt.mono {B B' : Nat} {w : World} {v : Value} {S : Store} (h : StoreAt B w v S) (hb : B ≤ B') : StoreAt B' w v S := by
  obtain ⟨bv, pv, hv, h1, h2, h3⟩ := h
  exact ⟨bv, pv, hv, h1.mono hb, h2.mono hb, h3⟩

theorem heap_new (w : World) (o : Obj) : (w.alloc o).heap[w.heap.size]? = some o := by
  show (w.heap.push o)[w.heap.size]? = _
  simp
theorem boxed {w wr : World} {o : Obj} (h : Below (w.heap.size + 1) (w.alloc o) wr) : Below w.heap.size w wr :=
  ((Below.refl _ w).alloc (Nat.le_refl _) o).trans (h.mono (by omega))
theorem box4 {w wr : World} {v0 v1 v2 v3 : Value} {t : TypeId} (h : Below (w.heap.size + 1) (w.alloc (.cells #[v0, v1, v2, v3] t)) wr) :
    wr.cell? ⟨w.heap.size, 0, none⟩ = some v0 ∧ wr.cell? ⟨w.heap.size, 1, none⟩ = some v1 ∧ wr.cell? ⟨w.heap.size, 2, none⟩ = some v2 ∧ wr.cell? ⟨w.heap.size, 3, none⟩ = some v3 := by
  have e : wr.heap[w.heap.size]? = some (.cells #[v0, v1, v2, v3] t) := (h.block w.heap.size (by omega)).trans (heap_new w _)
  refine ⟨?_, ?_, ?_, ?_⟩ <;> simp [World.cell?, e]

theorem drewN_below {B : Nat} {a w : World} (h : Below B a w) (n : Nat) : Below B a (w.drewN n) := h.trans ⟨rfl, rfl, rfl, Nat.le_refl _, fun _ _ => rfl⟩
theorem boxed_size {w wr : World} {o : Obj} (h : Below (w.heap.size + 1) (w.alloc o) wr) : w.heap.size + 1 ≤ wr.heap.size := by have := h.size; simpa using this

end Go.Proofs.Ytjflpmhlodgadaa
