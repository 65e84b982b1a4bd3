/-
  What memory holds: lists of ints, bars, pieces, stores; kept by whatever leaves the blocks below a bound as they were.
  Plain facts: searches over the first k places.
  Walks: small functions.
  Walks: what the package bars asks of one sawing.
  Walks: what the reference asks of one sawing.
  Walks: room, and the bars that are used.
  Walks: the reference's room, its used bars, and what agrees.
  Walks: the reference's Known and Subset.
  Walks: whether two lists of ints are the same.
-/
import Derived.Test.YtgjikoebneiamaaRows
import Derived.WalkKit
import Derived.WalkSpells
import Derived.Lib.Hide
import Derived.Deep.QuietTactic
import Derived.BigQuiet
import Derived.Handy

namespace Go.Proofs.Ytgjikoebneiamaa.Tb
open Go.RowKit

/-- The i-th number of a list, 0 beyond its end. -/
def nth (xs : List Int) (i : Nat) : Int := xs.getD i 0
theorem nth_lt {xs : List Int} {i : Nat} (h : i < xs.length) : nth xs i = xs[i] := by simp [nth, h]
theorem nth_mem {xs : List Int} {i : Nat} (h : i < xs.length) : nth xs i ∈ xs := by rw [nth_lt h]; exact List.getElem_mem h

def I64 (n : Int) : Prop := -9223372036854775808 ≤ n ∧ n ≤ 9223372036854775807

structure Bar where
  heat : Int
  long : Int
deriving DecidableEq, Inhabited
structure Piece where
  long : Int
  heats : List Int
deriving DecidableEq, Inhabited
structure Store where
  bars : List Bar
  kerf : Int
  pieces : List Piece
  wrong : Int
deriving DecidableEq, Inhabited

def bnth (bs : List Bar) (i : Nat) : Bar := bs.getD i ⟨0, 0⟩
def pnth (ps : List Piece) (i : Nat) : Piece := ps.getD i ⟨0, []⟩

/-- A []int that holds xs, in a block below B. -/
def IntsAt (B : Nat) (w : World) (v : Value) (xs : List Int) : Prop :=
  ∃ a cap b off, v = .slice a xs.length cap ∧ xs.length ≤ cap ∧ cap ≤ maxLen ∧ (0 < xs.length → a = some ⟨b, off, none⟩ ∧ b < B) ∧
    (∀ i, i < xs.length → w.cell? ⟨b, off + i, none⟩ = some (.int .i64 (nth xs i))) ∧ ∀ x ∈ xs, I64 x

def BarsAt (B : Nat) (w : World) (v : Value) (bs : List Bar) : Prop :=
  ∃ a cap b off, v = .slice a bs.length cap ∧ bs.length ≤ cap ∧ cap ≤ maxLen ∧ (0 < bs.length → a = some ⟨b, off, none⟩ ∧ b < B) ∧
    (∀ i, i < bs.length → w.cell? ⟨b, off + i * 2, none⟩ = some (.int .i64 (bnth bs i).heat) ∧ w.cell? ⟨b, off + i * 2 + 1, none⟩ = some (.int .i64 (bnth bs i).long)) ∧
    ∀ x ∈ bs, I64 x.heat ∧ I64 x.long

def PiecesAt (B : Nat) (w : World) (v : Value) (ps : List Piece) : Prop :=
  ∃ a cap b off, v = .slice a ps.length cap ∧ ps.length ≤ cap ∧ cap ≤ maxLen ∧ (0 < ps.length → a = some ⟨b, off, none⟩ ∧ b < B) ∧
    (∀ i, i < ps.length → w.cell? ⟨b, off + i * 2, none⟩ = some (.int .i64 (pnth ps i).long) ∧
      ∃ hv, w.cell? ⟨b, off + i * 2 + 1, none⟩ = some hv ∧ IntsAt B w hv (pnth ps i).heats) ∧
    ∀ x ∈ ps, I64 x.long

def StoreAt (B : Nat) (w : World) (v : Value) (S : Store) : Prop :=
  ∃ bv pv, v = .agg #[bv, .int .i64 S.kerf, pv, .int .i64 S.wrong] ∧ BarsAt B w bv S.bars ∧ PiecesAt B w pv S.pieces ∧ I64 S.kerf ∧ I64 S.wrong

theorem StoreAt.opened {B : Nat} {w : World} {v : Value} {S : Store} (h : StoreAt B w v S) :
    ∃ a cap b off a2 cap2 b2 off2, v = .agg #[.slice a S.bars.length cap, .int .i64 S.kerf, .slice a2 S.pieces.length cap2, .int .i64 S.wrong] ∧
      S.bars.length ≤ 9223372036854775807 ∧ S.pieces.length ≤ 9223372036854775807 ∧
      Hid (0 < S.bars.length → a = some ⟨b, off, none⟩ ∧ b < B) ∧
      Hid (∀ i, i < S.bars.length → w.cell? ⟨b, off + i * 2, none⟩ = some (.int .i64 (bnth S.bars i).heat) ∧ w.cell? ⟨b, off + i * 2 + 1, none⟩ = some (.int .i64 (bnth S.bars i).long)) ∧
      Hid (0 < S.pieces.length → a2 = some ⟨b2, off2, none⟩ ∧ b2 < B) ∧
      Hid (∀ i, i < S.pieces.length → w.cell? ⟨b2, off2 + i * 2, none⟩ = some (.int .i64 (pnth S.pieces i).long) ∧
        ∃ hv, w.cell? ⟨b2, off2 + i * 2 + 1, none⟩ = some hv ∧ IntsAt B w hv (pnth S.pieces i).heats) := by
  obtain ⟨bv, pv, rfl, hB, hP, wk, ww⟩ := h
  obtain ⟨a, cap, b, off, rfl, hl, hm, ha, hc, hw⟩ := hB
  obtain ⟨a2, cap2, b2, off2, rfl, hl2, hm2, ha2, hc2, hw2⟩ := hP
  unfold maxLen at hm hm2
  exact ⟨a, cap, b, off, a2, cap2, b2, off2, rfl, by omega, by omega, Lib.hid ha, Lib.hid hc, Lib.hid ha2, Lib.hid hc2⟩
theorem IntsAt.opened {B : Nat} {w : World} {v : Value} {xs : List Int} (h : IntsAt B w v xs) :
    ∃ a cap b off, v = .slice a xs.length cap ∧ xs.length ≤ 9223372036854775807 ∧ Hid (0 < xs.length → a = some ⟨b, off, none⟩ ∧ b < B) ∧
      Hid (∀ i, i < xs.length → w.cell? ⟨b, off + i, none⟩ = some (.int .i64 (nth xs i))) ∧ Hid (∀ x ∈ xs, I64 x) := by
  obtain ⟨a, cap, b, off, rfl, hl, hm, ha, hc, hw⟩ := h
  unfold maxLen at hm
  exact ⟨a, cap, b, off, rfl, by omega, Lib.hid ha, Lib.hid hc, Lib.hid hw⟩
theorem IntsAt.below {B : Nat} {w w' : World} {v : Value} {xs : List Int} (h : IntsAt B w v xs) (hb : Below B w w') : IntsAt B w' v xs := by
  obtain ⟨a, cap, b, off, hv, hl, hm, ha, hc, hw⟩ := h
  exact ⟨a, cap, b, off, hv, hl, hm, ha, fun i hi => (hb.cell (p := ⟨b, off + i, none⟩) (ha (by omega)).2).trans (hc i hi), hw⟩
theorem IntsAt.mono {B B' : Nat} {w : World} {v : Value} {xs : List Int} (h : IntsAt B w v xs) (hb : B ≤ B') : IntsAt B' w v xs := by
  obtain ⟨a, cap, b, off, hv, hl, hm, ha, hc, hw⟩ := h
  exact ⟨a, cap, b, off, hv, hl, hm, fun h => ⟨(ha h).1, by have := (ha h).2; omega⟩, hc, hw⟩
theorem BarsAt.below {B : Nat} {w w' : World} {v : Value} {xs : List Bar} (h : BarsAt B w v xs) (hb : Below B w w') : BarsAt B w' v xs := by
  obtain ⟨a, cap, b, off, hv, hl, hm, ha, hc, hw⟩ := h
  exact ⟨a, cap, b, off, hv, hl, hm, ha, fun i hi => ⟨(hb.cell (p := ⟨b, off + i * 2, none⟩) (ha (by omega)).2).trans (hc i hi).1, (hb.cell (p := ⟨b, off + i * 2 + 1, none⟩) (ha (by omega)).2).trans (hc i hi).2⟩, hw⟩
theorem BarsAt.mono {B B' : Nat} {w : World} {v : Value} {xs : List Bar} (h : BarsAt B w v xs) (hb : B ≤ B') : BarsAt B' w v xs := by
  obtain ⟨a, cap, b, off, hv, hl, hm, ha, hc, hw⟩ := h
  exact ⟨a, cap, b, off, hv, hl, hm, fun h => ⟨(ha h).1, by have := (ha h).2; omega⟩, hc, hw⟩
theorem PiecesAt.below {B : Nat} {w w' : World} {v : Value} {xs : List Piece} (h : PiecesAt B w v xs) (hb : Below B w w') : PiecesAt B w' v xs := by
  obtain ⟨a, cap, b, off, hv, hl, hm, ha, hc, hw⟩ := h
  refine ⟨a, cap, b, off, hv, hl, hm, ha, fun i hi => ⟨(hb.cell (p := ⟨b, off + i * 2, none⟩) (ha (by omega)).2).trans (hc i hi).1, ?_⟩, hw⟩
  obtain ⟨hv, h1, h2⟩ := (hc i hi).2
  exact ⟨hv, (hb.cell (p := ⟨b, off + i * 2 + 1, none⟩) (ha (by omega)).2).trans h1, h2.below hb⟩
theorem PiecesAt.mono {B B' : Nat} {w : World} {v : Value} {xs : List Piece} (h : PiecesAt B w v xs) (hb : B ≤ B') : PiecesAt B' w v xs := by
  obtain ⟨a, cap, b, off, hv, hl, hm, ha, hc, hw⟩ := h
  exact ⟨a, cap, b, off, hv, hl, hm, fun h => ⟨(ha h).1, by have := (ha h).2; omega⟩, fun i hi => ⟨(hc i hi).1, by obtain ⟨hv, h1, h2⟩ := (hc i hi).2; exact ⟨hv, h1, h2.mono hb⟩⟩, hw⟩
theorem StoreAt.below {B : Nat} {w w' : World} {v : Value} {S : Store} (h : StoreAt B w v S) (hb : Below B w w') : StoreAt B w' v S := by
  obtain ⟨bv, pv, hv, h1, h2, h3⟩ := h
  exact ⟨bv, pv, hv, h1.below hb, h2.below hb, h3⟩
theorem StoreAt.mono {B B' : Nat} {w : World} {v : Value} {S : Store} (h : StoreAt B w v S) (hb : B ≤ B') : StoreAt B' w v S := by
  obtain ⟨bv, pv, hv, h1, h2, h3⟩ := h
  exact ⟨bv, pv, hv, h1.mono hb, h2.mono hb, h3⟩

theorem heap_new (w : World) (o : Obj) : (w.alloc o).heap[w.heap.size]? = some o := by
  show (w.heap.push o)[w.heap.size]? = _
  simp
theorem boxed {w wr : World} {o : Obj} (h : Below (w.heap.size + 1) (w.alloc o) wr) : Below w.heap.size w wr :=
  ((Below.refl _ w).alloc (Nat.le_refl _) o).trans (h.mono (by omega))
theorem box4 {w wr : World} {v0 v1 v2 v3 : Value} {t : TypeId} (h : Below (w.heap.size + 1) (w.alloc (.cells #[v0, v1, v2, v3] t)) wr) :
    wr.cell? ⟨w.heap.size, 0, none⟩ = some v0 ∧ wr.cell? ⟨w.heap.size, 1, none⟩ = some v1 ∧ wr.cell? ⟨w.heap.size, 2, none⟩ = some v2 ∧ wr.cell? ⟨w.heap.size, 3, none⟩ = some v3 := by
  have e : wr.heap[w.heap.size]? = some (.cells #[v0, v1, v2, v3] t) := (h.block w.heap.size (by omega)).trans (heap_new w _)
  refine ⟨?_, ?_, ?_, ?_⟩ <;> simp [World.cell?, e]

theorem drewN_below {B : Nat} {a w : World} (h : Below B a w) (n : Nat) : Below B a (w.drewN n) := h.trans ⟨rfl, rfl, rfl, Nat.le_refl _, fun _ _ => rfl⟩
theorem boxed_size {w wr : World} {o : Obj} (h : Below (w.heap.size + 1) (w.alloc o) wr) : w.heap.size + 1 ≤ wr.heap.size := by have := h.size; simpa using this

end Go.Proofs.Ytgjikoebneiamaa.Tb
namespace Go.Proofs.Ytgjikoebneiamaa.Tb
def allTo (p : Nat → Bool) : Nat → Bool
  | 0 => true
  | k + 1 => allTo p k && p k
theorem allTo_iff {p : Nat → Bool} : ∀ {n : Nat}, allTo p n = true ↔ ∀ j, j < n → p j = true
  | 0 => by simp [allTo]
  | n + 1 => by
    simp only [allTo, Bool.and_eq_true, allTo_iff]
    exact ⟨fun h j hj => by rcases Nat.lt_succ_iff_lt_or_eq.1 hj with h1 | rfl; exact h.1 j h1; exact h.2, fun h => ⟨fun j hj => h j (by omega), h n (by omega)⟩⟩
theorem allTo_false {p : Nat → Bool} {n j : Nat} (hj : j < n) (h : p j = false) : allTo p n = false := by
  cases e : allTo p n
  · rfl
  · rw [allTo_iff.1 e j hj] at h; cases h
theorem allTo_true {p : Nat → Bool} {n : Nat} (h : ∀ j, j < n → p j = true) : allTo p n = true := allTo_iff.2 h
theorem allTo_step {p : Nat → Bool} {k : Nat} (h : Go.RowKit.Hid (allTo p k = true)) (hk : p k = true) : Go.RowKit.Hid (allTo p (k + 1) = true) := by
  have := h.out
  show allTo p (k + 1) = true
  simp [allTo, this, hk]
theorem allTo_congr {p q : Nat → Bool} {n : Nat} (h : ∀ j, j < n → p j = q j) : allTo p n = allTo q n := by
  rw [Bool.eq_iff_iff, allTo_iff, allTo_iff]
  exact ⟨fun k j hj => (h j hj) ▸ k j hj, fun k j hj => (h j hj).symm ▸ k j hj⟩

def prevH (xs : List Int) (k : Nat) : Int := match k with | 0 => -1 | k + 1 => nth xs k
def heatOk (xs : List Int) (i : Nat) : Bool := decide (prevH xs i < nth xs i) && decide (nth xs i ≤ 9)
def heatsOk (xs : List Int) : Bool := allTo (heatOk xs) xs.length


def wB (n lo hi : Int) : Bool := decide (lo ≤ n) && decide (n ≤ hi)
theorem wB_iff {n lo hi : Int} : wB n lo hi = true ↔ lo ≤ n ∧ n ≤ hi := by simp [wB]
theorem wB_false {n lo hi : Int} : wB n lo hi = false ↔ n < lo ∨ hi < n := by
  simp [wB]; omega
def barOk (b : Bar) : Bool := wB b.heat 0 9 && wB b.long 1 999
def pieceOk (p : Piece) : Bool := wB p.long 1 999 && heatsOk p.heats
def validB (S : Store) : Bool :=
  decide (S.bars.length ≤ 6) && (decide (S.pieces.length ≤ 8) && (allTo (fun i => barOk (bnth S.bars i)) S.bars.length && (allTo (fun i => pieceOk (pnth S.pieces i)) S.pieces.length && (wB S.kerf 0 20 && wB S.wrong 0 8))))

/-- A store that is valid, as inequalities. -/
structure Valid (S : Store) : Prop where
  nb : S.bars.length ≤ 6
  np : S.pieces.length ≤ 8
  heat : ∀ i, i < S.bars.length → 0 ≤ (bnth S.bars i).heat ∧ (bnth S.bars i).heat ≤ 9
  blong : ∀ i, i < S.bars.length → 1 ≤ (bnth S.bars i).long ∧ (bnth S.bars i).long ≤ 999
  plong : ∀ i, i < S.pieces.length → 1 ≤ (pnth S.pieces i).long ∧ (pnth S.pieces i).long ≤ 999
  heats : ∀ i, i < S.pieces.length → heatsOk (pnth S.pieces i).heats = true
  kerf : 0 ≤ S.kerf ∧ S.kerf ≤ 20
  wrong : 0 ≤ S.wrong ∧ S.wrong ≤ 8
theorem valid_iff {S : Store} : validB S = true ↔ Valid S := by
  constructor
  · intro h
    simp only [validB, Bool.and_eq_true, decide_eq_true_eq, allTo_iff, wB_iff, barOk, pieceOk] at h
    obtain ⟨h1, h2, h3, h4, h5, h6⟩ := h
    exact ⟨h1, h2, fun i hi => (h3 i hi).1, fun i hi => (h3 i hi).2, fun i hi => (h4 i hi).1, fun i hi => (h4 i hi).2, h5, h6⟩
  · intro h
    simp only [validB, Bool.and_eq_true, decide_eq_true_eq, allTo_iff, wB_iff, barOk, pieceOk]
    exact ⟨h.nb, h.np, fun i hi => ⟨h.heat i hi, h.blong i hi⟩, fun i hi => ⟨h.plong i hi, h.heats i hi⟩, h.kerf, h.wrong⟩

def inB (xs : List Int) (x : Int) : Bool := decide (x ∈ xs)
theorem mem_iff_nth {xs : List Int} {x : Int} : x ∈ xs ↔ ∃ i, i < xs.length ∧ nth xs i = x := by
  constructor
  · intro h
    obtain ⟨i, hi, rfl⟩ := List.getElem_of_mem h
    exact ⟨i, hi, nth_lt hi⟩
  · rintro ⟨i, hi, rfl⟩
    exact nth_mem hi
theorem inB_yes {xs : List Int} {x : Int} {i : Nat} (hi : i < xs.length) (h : x = nth xs i) : inB xs x = true := by
  simp only [inB, decide_eq_true_eq]; exact h ▸ nth_mem hi
theorem inB_no {xs : List Int} {x : Int} (h : allTo (fun i => decide (x ≠ nth xs i)) xs.length = true) : inB xs x = false := by
  simp only [inB, decide_eq_false_iff_not, mem_iff_nth]
  rintro ⟨i, hi, he⟩
  have := allTo_iff.1 h i hi
  simp [he] at this

def wrongAt (S : Store) (p b : Nat) : Bool := !inB (pnth S.pieces p).heats (bnth S.bars b).heat
def wrongsTo (S : Store) (L : List Int) : Nat → Int
  | 0 => 0
  | k + 1 => wrongsTo S L k + if wrongAt S k (nth L k).toNat = true then 1 else 0
def wrongs (S : Store) (L : List Int) : Int := wrongsTo S L L.length
theorem wrongsTo_le (S : Store) (L : List Int) : ∀ k : Nat, 0 ≤ wrongsTo S L k ∧ wrongsTo S L k ≤ k
  | 0 => by simp [wrongsTo]
  | k + 1 => by have := wrongsTo_le S L k; simp only [wrongsTo]; split <;> omega

def countTo (L : List Int) (b : Int) : Nat → Int
  | 0 => 0
  | k + 1 => countTo L b k + if nth L k = b then 1 else 0
def sumTo (S : Store) (L : List Int) (b : Int) : Nat → Int
  | 0 => 0
  | k + 1 => sumTo S L b k + if nth L k = b then (pnth S.pieces k).long else 0
def restS (S : Store) (L : List Int) (b : Int) : Int :=
  (bnth S.bars b.toNat).long - sumTo S L b L.length - max (countTo L b L.length - 1) 0 * S.kerf
theorem countTo_le (L : List Int) (b : Int) : ∀ k : Nat, 0 ≤ countTo L b k ∧ countTo L b k ≤ k
  | 0 => by simp [countTo]
  | k + 1 => by have := countTo_le L b k; simp only [countTo]; split <;> omega
theorem sumTo_le {S : Store} (hV : Valid S) (L : List Int) (b : Int) : ∀ k : Nat, k ≤ S.pieces.length → 0 ≤ sumTo S L b k ∧ sumTo S L b k ≤ 999 * k
  | 0, _ => by simp [sumTo]
  | k + 1, h => by have := sumTo_le hV L b k (by omega); have := hV.plong k (by omega); simp only [sumTo]; split <;> omega

/-- A row of bars of the store, for at most all pieces. -/
def OkBars (S : Store) (L : List Int) : Prop := L.length ≤ S.pieces.length ∧ ∀ i, i < L.length → 0 ≤ nth L i ∧ nth L i < S.bars.length
def sawingB (S : Store) (L : List Int) : Bool := decide (L.length = S.pieces.length) && allTo (fun i => wB (nth L i) 0 (S.bars.length - 1)) L.length
theorem sawingB_iff {S : Store} {L : List Int} : sawingB S L = true ↔ OkBars S L ∧ L.length = S.pieces.length := by
  simp only [sawingB, Bool.and_eq_true, decide_eq_true_eq, allTo_iff, wB_iff, OkBars]
  constructor
  · rintro ⟨h1, h2⟩
    exact ⟨⟨by omega, fun i hi => by have := h2 i hi; omega⟩, h1⟩
  · rintro ⟨⟨_, h2⟩, h1⟩
    exact ⟨h1, fun i hi => by have := h2 i hi; omega⟩

def fitsB (S : Store) (L : List Int) : Bool := allTo (fun b => decide (0 ≤ restS S L b)) S.bars.length
def truthB (S : Store) (L : List Int) : Bool := sawingB S L && (fitsB S L && decide (wrongs S L ≤ S.wrong))

def chkS (S : Store) : Int := if validB S = true then 0 else 10
theorem chkS_ok {S : Store} (h : validB S = true) : chkS S = 0 := by simp [chkS, h]
theorem chkS_bad {S : Store} (h : validB S = false) : chkS S = 10 := by simp [chkS, h]

end Go.Proofs.Ytgjikoebneiamaa.Tb
namespace Go.Proofs.Ytgjikoebneiamaa.Tb
open Go.RowKit

theorem ret_bool {a b : Bool} (h : a = b) : Ending.returned (.bool a) = .returned (.bool b) := by rw [h]
theorem ret_int {k : IntKind} {a b : Int} (h : a = b) : Ending.returned (.int k a) = .returned (.int k b) := by rw [h]

set_option maxHeartbeats 400000 in
theorem within_any (n lo hi : Int) (w : World) :
    Calls Try.prog 121 #[.int .i64 n, .int .i64 lo, .int .i64 hi] w fun e w' => e = .returned (.bool (wB n lo hi)) ∧ w = w' := by
  cases h : wB n lo hi
  · by_cases h0 : lo ≤ n
    · have h1 : ¬ n ≤ hi := by rcases wB_false.1 h with h1 | h1 <;> omega
      clear h
      go_enter Try.func121, Try.ntmps121
      go_wp2
      go_ret
      exact ⟨ret_bool (by first | (simp; done) | (simp; omega)), rfl⟩
    · clear h
      go_enter Try.func121, Try.ntmps121
      go_wp2
      go_ret
      exact ⟨rfl, rfl⟩
  · obtain ⟨h1, h2⟩ := wB_iff.1 h
    clear h
    go_enter Try.func121, Try.ntmps121
    go_wp2
    go_ret
    exact ⟨ret_bool (by first | (simp; done) | (simp; omega)), rfl⟩
theorem within_to {n lo hi : Int} {b : Bool} (h : wB n lo hi = b) (w : World) :
    Calls Try.prog 121 #[.int .i64 n, .int .i64 lo, .int .i64 hi] w fun e w' => e = .returned (.bool b) ∧ w = w' := h ▸ within_any n lo hi w

theorem heatOk_no {xs : List Int} {k : Nat} (hk : k < xs.length) (h : nth xs k ≤ prevH xs k ∨ 9 < nth xs k) : heatsOk xs = false :=
  allTo_false hk (by simp [heatOk]; omega)

set_option maxHeartbeats 400000 in
theorem heats_any (v : Value) (xs : List Int) (w : World) {B : Nat} (hx : IntsAt B w v xs) :
    Calls Try.prog 127 #[v] w fun e w' => e = .returned (.bool (heatsOk xs)) ∧ w = w' := by
  obtain ⟨a, cap, b, off, rfl, hm, HA, HC, HW⟩ := hx.opened
  clear hx
  go_enter Try.func127, Try.ntmps127
  go_wp2
  go_loop [3, 8] (fun p i => ∃ k : Nat, k ≤ xs.length ∧ i = .int .i64 k ∧ p = .int .i64 (prevH xs k) ∧ Hid (allTo (heatOk xs) k = true)) (fun _ i => xs.length - (intOf i).toNat)
  case atStart => exact ⟨0, Nat.zero_le _, rfl, rfl, rfl⟩
  case round =>
    obtain ⟨k, hk, rfl, rfl, hall⟩ := hrel
    by_cases hlt : k < xs.length
    · obtain ⟨rfl, hb⟩ := HA.out (by omega)
      have hcell := HC.out k hlt
      go_wp2
      all_goals first
        | (go_ret; exact ⟨ret_bool (heatOk_no hlt (by omega)).symm, rfl⟩)
        | exact ⟨⟨k + 1, by omega, by go_num, rfl, by show allTo _ (k + 1) = true; simp only [allTo, hall.out, heatOk, Bool.true_and]; simp; omega⟩, by simp [intOf]; omega⟩
    · go_wp2
      go_ret
      exact ⟨ret_bool (by rw [heatsOk, show xs.length = k by omega, hall.out]), rfl⟩
theorem heats_to {v : Value} {xs : List Int} {w : World} {B : Nat} {b : Bool} (h : heatsOk xs = b) (hx : IntsAt B w v xs) :
    Calls Try.prog 127 #[v] w fun e w' => e = .returned (.bool b) ∧ w = w' := h ▸ heats_any v xs w hx

set_option maxHeartbeats 400000 in
theorem valid_any (v : Value) (S : Store) (w : World) (hx : StoreAt w.heap.size w v S) :
    Calls Try.prog 119 #[v] w fun e w' => e = .returned (.bool (validB S)) ∧ Below w.heap.size w w' := by
  obtain ⟨a, cap, b, off, a2, cap2, b2, off2, rfl, hm, hm2, HA, HC, HA2, HC2⟩ := hx.opened
  clear hx
  go_enter Try.func119, Try.ntmps119
  by_cases hn1 : S.bars.length ≤ 6
  case neg =>
    go_wp2
    go_ret
    exact ⟨ret_bool (by simp [validB, hn1]), by go_grown⟩
  by_cases hn2 : S.pieces.length ≤ 8
  case neg =>
    go_wp2
    go_ret
    exact ⟨ret_bool (by simp [validB, hn2]), by go_grown⟩
  go_wp2
  go_loopw [20] (fun i wr => ∃ k : Nat, k ≤ S.bars.length ∧ i = .int .i64 k ∧ Below (w.heap.size + 1) (w.alloc _) wr ∧ Hid (allTo (fun i => barOk (bnth S.bars i)) k = true)) (fun i _ => S.bars.length - (intOf i).toNat)
  case atStart => exact ⟨0, Nat.zero_le _, rfl, Below.refl _ _, rfl⟩
  case round =>
    obtain ⟨k, hk, rfl, hbl, hall⟩ := hrel
    have hw := boxed hbl
    have hsz : w.heap.size + 1 ≤ wr.heap.size := by have := hbl.size; simpa using this
    obtain ⟨c0, c1, c2, c3⟩ := box4 hbl
    by_cases hlt : k < S.bars.length
    · obtain ⟨rfl, hb⟩ := HA.out (by omega)
      have d0 := (hw.cell (p := ⟨b, off + k * 2, none⟩) hb).trans (HC.out k hlt).1
      have d1 := (hw.cell (p := ⟨b, off + k * 2 + 1, none⟩) hb).trans (HC.out k hlt).2
      have hno : barOk (bnth S.bars k) = false → validB S = false := fun h => by rw [validB, allTo_false hlt h]; simp
      have hno := Lib.hid hno
      cases h1 : wB (bnth S.bars k).heat 0 9
      case false =>
        go_wp2_with (go_at_call 121; refine (within_to (by with_reducible assumption) _).mono ?_; rintro e w' ⟨rfl, rfl⟩)
        go_ret
        exact ⟨ret_bool (by rw [hno.out (by simp [barOk, h1])]), by go_grown⟩
      cases h2 : wB (bnth S.bars k).long 1 999
      all_goals go_wp2_with (go_at_call 121; refine (within_to (by with_reducible assumption) _).mono ?_; rintro e w' ⟨rfl, rfl⟩)
      · go_ret
        exact ⟨ret_bool (by rw [hno.out (by simp [barOk, h2])]), by go_grown⟩
      · exact ⟨⟨k + 1, by omega, by go_num, by go_grown, allTo_step hall (by simp [barOk, h1, h2])⟩, by simp [intOf]; omega⟩
    · have hall2 := Lib.hid (show allTo (fun i => barOk (bnth S.bars i)) S.bars.length = true from by rw [show S.bars.length = k by omega, hall.out])
      clear hall
      go_wp2
      go_loopw [38] (fun i w2 => ∃ k : Nat, k ≤ S.pieces.length ∧ i = .int .i64 k ∧ Below (w.heap.size + 1) (w.alloc _) w2 ∧ Hid (allTo (fun i => pieceOk (pnth S.pieces i)) k = true)) (fun i _ => S.pieces.length - (intOf i).toNat)
      case atStart => exact ⟨0, Nat.zero_le _, rfl, hbl, rfl⟩
      case round =>
        clear hw hsz c0 c1 c2 c3 hbl
        obtain ⟨k2, hk2, rfl, hbl, hall⟩ := hrel
        have hw := boxed hbl
        have hsz : w.heap.size + 1 ≤ wr.heap.size := by have := hbl.size; simpa using this
        obtain ⟨c0, c1, c2, c3⟩ := box4 hbl
        by_cases hlt : k2 < S.pieces.length
        · obtain ⟨rfl, hb⟩ := HA2.out (by omega)
          have d0 := (hw.cell (p := ⟨b2, off2 + k2 * 2, none⟩) hb).trans (HC2.out k2 hlt).1
          obtain ⟨hv, d1, hI⟩ := (HC2.out k2 hlt).2
          have d1 := (hw.cell (p := ⟨b2, off2 + k2 * 2 + 1, none⟩) hb).trans d1
          have hI := hI.below hw
          obtain ⟨a3, cap3, b3, off3, hveq, _⟩ := hI.opened
          subst hveq
          have hno : pieceOk (pnth S.pieces k2) = false → validB S = false := fun h => by rw [validB, allTo_false (n := S.pieces.length) hlt h]; simp
          have hno := Lib.hid hno
          cases h1 : wB (pnth S.pieces k2).long 1 999
          case false =>
            go_wp2_with (go_at_call 121; refine (within_to (by with_reducible assumption) _).mono ?_; rintro e w' ⟨rfl, rfl⟩)
            go_ret
            exact ⟨ret_bool (by rw [hno.out (by simp [pieceOk, h1])]), by go_grown⟩
          cases h2 : heatsOk (pnth S.pieces k2).heats
          all_goals go_wp2_with (first | (go_at_call 121; refine (within_to (by with_reducible assumption) _).mono ?_; rintro e w' ⟨rfl, rfl⟩) | (go_at_call 127; refine (heats_to (by with_reducible assumption) (hI.below (by go_grown))).mono ?_; rintro e w' ⟨rfl, rfl⟩))
          · go_ret
            exact ⟨ret_bool (by rw [hno.out (by simp [pieceOk, h2])]), by go_grown⟩
          · exact ⟨⟨k2 + 1, by omega, by go_num, by go_grown, allTo_step hall (by simp [pieceOk, h1, h2])⟩, by simp [intOf]; omega⟩
        · have hall3 := Lib.hid (show allTo (fun i => pieceOk (pnth S.pieces i)) S.pieces.length = true from by rw [show S.pieces.length = k2 by omega, hall.out])
          clear hall
          cases h1 : wB S.kerf 0 20
          case false =>
            go_wp2_with (go_at_call 121; refine (within_to (by with_reducible assumption) _).mono ?_; rintro e w' ⟨rfl, rfl⟩)
            go_ret
            exact ⟨ret_bool (by simp [validB, h1]), by go_grown⟩
          cases h2 : wB S.wrong 0 8
          all_goals go_wp2_with (go_at_call 121; refine (within_to (by with_reducible assumption) _).mono ?_; rintro e w' ⟨rfl, rfl⟩)
          all_goals go_ret
          · exact ⟨ret_bool (by simp [validB, h2]), by go_grown⟩
          · exact ⟨ret_bool (by simp [validB, h1, h2, hall2.out, hall3.out, hn1, hn2]), by go_grown⟩
theorem valid_to {v : Value} {S : Store} {r : Bool} (h : validB S = r) (w : World) (hx : StoreAt w.heap.size w v S) :
    Calls Try.prog 119 #[v] w fun e w' => e = .returned (.bool r) ∧ Below w.heap.size w w' := h ▸ valid_any v S w hx
end Go.Proofs.Ytgjikoebneiamaa.Tb
namespace Go.Proofs.Ytgjikoebneiamaa.Tb
open Go.RowKit

set_option maxHeartbeats 400000 in
theorem index_no (v : Value) (xs : List Int) (x : Int) (w : World) {B : Nat} (hx : IntsAt B w v xs) (h : inB xs x = false) :
    Calls Try.prog 86 #[v, .int .i64 x] w fun e w' => e = .returned (.int .i64 (-1)) ∧ w = w' := by
  have hne : Hid (∀ i, i < xs.length → x ≠ nth xs i) := fun i hi he => by rw [inB_yes hi he] at h; cases h
  clear h
  obtain ⟨a, cap, b, off, rfl, hm, HA, HC, HW⟩ := hx.opened
  clear hx
  go_enter Try.func86, Try.ntmps86
  go_wp2
  go_loop [8] (fun i => ∃ k : Nat, k ≤ xs.length ∧ i = .int .i64 k) (fun i => xs.length - (intOf i).toNat)
  case atStart => exact ⟨0, Nat.zero_le _, rfl⟩
  case round =>
    obtain ⟨k, hk, rfl⟩ := hrel
    by_cases hlt : k < xs.length
    · obtain ⟨rfl, hb⟩ := HA.out (by omega)
      have hcell := HC.out k hlt
      have hn : (x == nth xs k) = false := by have := hne.out k hlt; simpa using this
      go_wp2
      exact ⟨⟨k + 1, by omega, by go_num⟩, by simp [intOf]; omega⟩
    · go_wp2
      go_ret
      exact ⟨rfl, rfl⟩

theorem least_ix {xs : List Int} {x : Int} (h : inB xs x = true) : ∃ j, j < xs.length ∧ x = nth xs j ∧ ∀ i, i < j → x ≠ nth xs i := by
  have h1 : ∃ n, n ≤ xs.length ∧ ∃ j, j < n ∧ x = nth xs j := by
    simp only [inB, decide_eq_true_eq, mem_iff_nth] at h
    obtain ⟨i, hi, he⟩ := h
    exact ⟨xs.length, Nat.le_refl _, i, hi, he.symm⟩
  obtain ⟨n, hn, j, hj, he⟩ := h1
  induction n generalizing j with
  | zero => omega
  | succ n ih =>
    by_cases hx : ∃ j, j < n ∧ x = nth xs j
    · obtain ⟨j, hj, he⟩ := hx
      exact ih (by omega) j hj he
    · exact ⟨j, by omega, he, fun i hi hc => hx ⟨i, by omega, hc⟩⟩

set_option maxHeartbeats 400000 in
theorem index_yes (v : Value) (xs : List Int) (x : Int) (w : World) {B : Nat} (hx : IntsAt B w v xs) (j : Nat) (hj : j < xs.length) (hxj : Hid (x = nth xs j)) (hne : Hid (∀ i, i < j → x ≠ nth xs i)) :
    Calls Try.prog 86 #[v, .int .i64 x] w fun e w' => e = .returned (.int .i64 j) ∧ w = w' := by
  obtain ⟨a, cap, b, off, rfl, hm, HA, HC, HW⟩ := hx.opened
  clear hx
  go_enter Try.func86, Try.ntmps86
  go_wp2
  go_loop [8] (fun i => ∃ k : Nat, k ≤ j ∧ i = .int .i64 k) (fun i => xs.length - (intOf i).toNat)
  case atStart => exact ⟨0, Nat.zero_le _, rfl⟩
  case round =>
    obtain ⟨k, hk, rfl⟩ := hrel
    obtain ⟨rfl, hb⟩ := HA.out (by omega)
    have hcell := HC.out k (by omega)
    by_cases hlt : k < j
    · have hn : (x == nth xs k) = false := by have := hne.out k hlt; simpa using this
      go_wp2
      exact ⟨⟨k + 1, by omega, by go_num⟩, by simp [intOf]; omega⟩
    · obtain rfl : k = j := by omega
      have hn : (x == nth xs k) = true := by have := hxj.out; simpa using this
      go_wp2
      go_ret
      exact ⟨rfl, rfl⟩

set_option maxHeartbeats 400000 in
theorem contains_any (v : Value) (xs : List Int) (x : Int) (w : World) {B : Nat} (hx : IntsAt B w v xs) :
    Calls Try.prog 115 #[v, .int .i64 x] w fun e w' => e = .returned (.bool (inB xs x)) ∧ w = w' := by
  have hx' := hx
  obtain ⟨a, cap, b, off, rfl, hm, HA, HC, HW⟩ := hx.opened
  clear hx HA HC HW
  cases h : inB xs x
  · have HN := Lib.hid h
    clear h
    go_enter Try.func115, Try.ntmps115
    go_wp2_with (go_at_call 86; refine (index_no _ _ _ _ hx' HN.out).mono ?_; rintro e w' ⟨rfl, rfl⟩)
    go_ret
    exact ⟨rfl, rfl⟩
  · obtain ⟨j, hj, he, hne⟩ := least_ix h
    have HE := Lib.hid he
    have HN := Lib.hid hne
    clear h he hne
    go_enter Try.func115, Try.ntmps115
    go_wp2_with (go_at_call 86; refine (index_yes _ _ _ _ hx' j hj HE HN).mono ?_; rintro e w' ⟨rfl, rfl⟩)
    go_ret
    exact ⟨ret_bool (by simp), rfl⟩
theorem contains_to {v : Value} {xs : List Int} {x : Int} {w : World} {B : Nat} {r : Bool} (h : inB xs x = r) (hx : IntsAt B w v xs) :
    Calls Try.prog 115 #[v, .int .i64 x] w fun e w' => e = .returned (.bool r) ∧ w = w' := h ▸ contains_any v xs x w hx

set_option maxHeartbeats 400000 in
theorem isPiece_any (v : Value) (S : Store) (p : Int) (w : World) {B : Nat} (hx : StoreAt B w v S) :
    Calls Try.prog 106 #[v, .int .i64 p] w fun e w' => e = .returned (.bool (wB p 0 (S.pieces.length - 1))) ∧ Below w.heap.size w w' := by
  obtain ⟨a, cap, b, off, a2, cap2, b2, off2, rfl, hm, hm2, HA, HC, HA2, HC2⟩ := hx.opened
  clear hx
  go_enter Try.func106, Try.ntmps106
  go_wp2_with (go_at_call 121; refine (within_any _ _ _ _).mono ?_; rintro e w' ⟨rfl, rfl⟩)
  go_ret
  exact ⟨rfl, by go_grown⟩

set_option maxHeartbeats 400000 in
theorem isWrong_any (v : Value) (S : Store) (p b : Int) (w : World) {B : Nat} (hx : StoreAt B w v S) (hB : B ≤ w.heap.size) (hp0 : 0 ≤ p) (hp : p < S.pieces.length) (hb0 : 0 ≤ b) (hb : b < S.bars.length) :
    Calls Try.prog 143 #[v, .int .i64 p, .int .i64 b] w fun e w' => e = .returned (.bool (wrongAt S p.toNat b.toNat)) ∧ Below w.heap.size w w' := by
  obtain ⟨p, rfl⟩ := Int.eq_ofNat_of_zero_le hp0
  obtain ⟨b, rfl⟩ := Int.eq_ofNat_of_zero_le hb0
  rw [Int.toNat_natCast, Int.toNat_natCast]
  have hp' : p < S.pieces.length := by omega
  have hb' : b < S.bars.length := by omega
  obtain ⟨a, cap, b1, off, a2, cap2, b2, off2, rfl, hm, hm2, HA, HC, HA2, HC2⟩ := hx.opened
  clear hx
  obtain ⟨rfl, hlt1⟩ := HA.out (by omega)
  obtain ⟨rfl, hlt2⟩ := HA2.out (by omega)
  have d0 := (HC.out b hb').1
  obtain ⟨hv, d1, hI⟩ := (HC2.out p hp').2
  obtain ⟨a3, cap3, b3, off3, hveq, hm3, _⟩ := hI.opened
  subst hveq
  have e1 : b1 < w.heap.size := by omega
  have e2 : b2 < w.heap.size := by omega
  go_enter Try.func143, Try.ntmps143
  go_wp2
  go_quiet ((go_at_call 115; exact Calls.quiet_of_same ((contains_any _ _ _ _ (hI.below (drewN_below ((Below.refl _ _).alloc hB _) _))).mono fun _ _ h => ⟨h.1, h.2.symm⟩)))
  go_wp2
  go_ret
  exact ⟨rfl, drewN_below ((Below.refl _ _).alloc (Nat.le_refl _) _) _⟩
theorem isWrong_to {v : Value} {S : Store} {p b : Int} {w : World} {B : Nat} {r : Bool} (h : wrongAt S p.toNat b.toNat = r) (hx : StoreAt B w v S) (hB : B ≤ w.heap.size) (hp0 : 0 ≤ p) (hp : p < S.pieces.length) (hb0 : 0 ≤ b) (hb : b < S.bars.length) :
    Calls Try.prog 143 #[v, .int .i64 p, .int .i64 b] w fun e w' => e = .returned (.bool r) ∧ Below w.heap.size w w' := h ▸ isWrong_any v S p b w hx hB hp0 hp hb0 hb

theorem rest_w0 {A c k : Int} (h1 : -100000 ≤ A) (h2 : A ≤ 100000) (hc : c ≤ 0) : wrap64 (A - wrap64 0) = A - max c 0 * k := by
  rw [Int.max_eq_right hc, Int.zero_mul, IntWalk.wrap64_in 0 (by omega), IntWalk.wrap64_in _ (by omega)]
theorem rest_w1 {A c k : Int} (h1 : -100000 ≤ A) (h2 : A ≤ 100000) (hc : 0 ≤ c) (hc2 : c ≤ 1000) (hk : 0 ≤ k) (hk2 : k ≤ 20) : wrap64 (A - wrap64 (c * k)) = A - max c 0 * k := by
  have a1 := Int.mul_nonneg hc hk
  have a2 : c * k ≤ 1000 * 20 := Int.mul_le_mul hc2 hk2 hk (by omega)
  rw [Int.max_eq_left hc, IntWalk.wrap64_in (c * k) (by omega), IntWalk.wrap64_in _ (by omega)]

set_option maxHeartbeats 400000 in
theorem rest_any (v lv : Value) (S : Store) (L : List Int) (bar : Int) (w : World) {B : Nat} (hV : Valid S) (hx : StoreAt B w v S) (hB : B ≤ w.heap.size) (hL : IntsAt B w lv L) (hO : L.length ≤ S.pieces.length) (hb0 : 0 ≤ bar) (hb : bar < S.bars.length) :
    Calls Try.prog 144 #[v, lv, .int .i64 bar] w fun e w' => e = .returned (.int .i64 (restS S L bar)) ∧ Below w.heap.size w w' := by
  obtain ⟨a, cap, b1, off, a2, cap2, b2, off2, rfl, hm, hm2, HA, HC, HA2, HC2⟩ := hx.opened
  obtain ⟨a3, cap3, b3, off3, rfl, hm3, HA3, HC3, _⟩ := hL.opened
  obtain ⟨m, rfl⟩ := Int.eq_ofNat_of_zero_le hb0
  have hm0 : m < S.bars.length := by omega
  clear hx hL
  obtain ⟨rfl, hb1⟩ := HA.out (by omega)
  have d0 := (HC.out m hm0).2
  have e1 : b1 < w.heap.size := by omega
  obtain ⟨q1, q2⟩ := hV.blong m hm0
  obtain ⟨q3, q4⟩ := hV.kerf
  have q5 := hV.np
  have HV := Lib.hid hV
  clear hV
  go_enter Try.func144, Try.ntmps144
  go_wp2
  go_loopw [7, 8, 19] (fun l c i wr => ∃ k : Nat, k ≤ L.length ∧ i = .int .i64 k ∧ l = .int .i64 ((bnth S.bars m).long - sumTo S L m k) ∧ c = .int .i64 (countTo L m k - 1) ∧ Below (w.heap.size + 1) (w.alloc _) wr) (fun _ _ i _ => L.length - (intOf i).toNat)
  case atStart => exact ⟨0, Nat.zero_le _, rfl, by simp [sumTo], by simp [countTo], Below.refl _ _⟩
  case round =>
    obtain ⟨k, hk, rfl, rfl, rfl, hbl⟩ := hrel
    have hw := boxed hbl
    have hsz := boxed_size hbl
    obtain ⟨c0, c1, c2, c3⟩ := box4 hbl
    obtain ⟨h1, h2⟩ := sumTo_le HV.out L m k (by omega)
    obtain ⟨h3, h4⟩ := countTo_le L m k
    by_cases hlt : k < L.length
    · obtain ⟨rfl, hb3⟩ := HA3.out (by omega)
      have d := (hw.cell (p := ⟨b3, off3 + k, none⟩) (Nat.lt_of_lt_of_le hb3 hB)).trans (HC3.out k hlt)
      obtain ⟨rfl, hb2⟩ := HA2.out (by omega)
      have d2 := (hw.cell (p := ⟨b2, off2 + k * 2, none⟩) (Nat.lt_of_lt_of_le hb2 hB)).trans (HC2.out k (by omega)).1
      obtain ⟨h5, h6⟩ := HV.out.plong k (by omega)
      have hk2 : k < S.pieces.length := by omega
      by_cases he : nth L k = m
      · have hee : (nth L k == (m : Int)) = true := by simpa using he
        have HE := Lib.hid he
        clear he
        go_wp2
        exact ⟨⟨k + 1, by omega, by go_num, by simp [sumTo, HE.out]; try omega, by simp [countTo, HE.out]; try omega, hbl⟩, by simp [intOf]; omega⟩
      · have hee : (nth L k == (m : Int)) = false := by simpa using he
        have HE := Lib.hid he
        clear he
        go_wp2
        exact ⟨⟨k + 1, by omega, by go_num, by simp [sumTo, HE.out], by simp [countTo, HE.out], hbl⟩, by simp [intOf]; omega⟩
    · obtain rfl : L.length = k := by omega
      have hA1 : -100000 ≤ (bnth S.bars m).long - sumTo S L m L.length := by omega
      have hA2 : (bnth S.bars m).long - sumTo S L m L.length ≤ 100000 := by omega
      have hf1 : countTo L m L.length - 1 ≤ 0 → wrap64 ((bnth S.bars m).long - sumTo S L m L.length - wrap64 0) = restS S L m := fun h => rest_w0 hA1 hA2 h
      have hf2 : 0 ≤ countTo L m L.length - 1 → wrap64 ((bnth S.bars m).long - sumTo S L m L.length - wrap64 ((countTo L m L.length - 1) * S.kerf)) = restS S L m := fun h => rest_w1 hA1 hA2 h (by omega) q3 q4
      have HF1 := Lib.hid hf1
      have HF2 := Lib.hid hf2
      clear hf1 hf2
      go_wp2
      all_goals go_ret
      all_goals first | exact ⟨ret_int (HF1.out (by omega)), hw⟩ | exact ⟨ret_int (HF2.out (by omega)), hw⟩

set_option maxHeartbeats 400000 in
theorem check_any (v : Value) (S : Store) (w : World) (hx : StoreAt w.heap.size w v S) :
    Calls Try.prog 102 #[v] w fun e w' => e = .returned (.int .i64 (if validB S = true then 0 else 10)) ∧ Below w.heap.size w w' := by
  have hx' := hx
  obtain ⟨a, cap, b1, off, a2, cap2, b2, off2, rfl, hm, hm2, HA, HC, HA2, HC2⟩ := hx.opened
  clear hx HA HC HA2 HC2
  have HX := fun o => Lib.hid ((hx'.below ((Below.refl _ w).alloc (Nat.le_refl _) o)).mono (show w.heap.size ≤ (w.alloc o).heap.size by simp))
  go_enter Try.func102, Try.ntmps102
  cases hr : validB S
  all_goals
    have HQ := Lib.hid hr
    clear hr
    go_wp2_with (go_at_call 119; refine (valid_to HQ.out _ (HX _).out).mono ?_; rintro e w' ⟨rfl, hb⟩)
    go_ret
    exact ⟨rfl, ((Below.refl _ _).alloc (Nat.le_refl _) _).trans (hb.mono (by simp))⟩
theorem check_ok {v : Value} {S : Store} {w : World} (h : validB S = true) (hx : StoreAt w.heap.size w v S) :
    Calls Try.prog 102 #[v] w fun e w' => e = .returned (.int .i64 0) ∧ Below w.heap.size w w' := by have := check_any v S w hx; rwa [if_pos h] at this
theorem check_bad {v : Value} {S : Store} {w : World} (h : validB S = false) (hx : StoreAt w.heap.size w v S) :
    Calls Try.prog 102 #[v] w fun e w' => e = .returned (.int .i64 10) ∧ Below w.heap.size w w' := by have := check_any v S w hx; rwa [if_neg (by simp [h])] at this
end Go.Proofs.Ytgjikoebneiamaa.Tb
namespace Go.Proofs.Ytgjikoebneiamaa.Tb
open Go.RowKit

set_option maxHeartbeats 400000 in
theorem rwithin_any (n lo hi : Int) (w : World) :
    Calls Try.prog 99 #[.int .i64 n, .int .i64 lo, .int .i64 hi] w fun e w' => e = .returned (.bool (wB n lo hi)) ∧ w = w' := by
  cases h : wB n lo hi
  · by_cases h0 : lo ≤ n
    · have h1 : ¬ n ≤ hi := by rcases wB_false.1 h with h1 | h1 <;> omega
      clear h
      go_enter Try.func99, Try.ntmps99
      go_wp2
      go_ret
      exact ⟨ret_bool (by first | (simp; done) | (simp; omega)), rfl⟩
    · clear h
      go_enter Try.func99, Try.ntmps99
      go_wp2
      go_ret
      exact ⟨ret_bool (by first | (simp; done) | (simp; omega)), rfl⟩
  · obtain ⟨h1, h2⟩ := wB_iff.1 h
    clear h
    go_enter Try.func99, Try.ntmps99
    go_wp2
    go_ret
    exact ⟨ret_bool (by first | (simp; done) | (simp; omega)), rfl⟩
theorem rwithin_to {n lo hi : Int} {b : Bool} (h : wB n lo hi = b) (w : World) :
    Calls Try.prog 99 #[.int .i64 n, .int .i64 lo, .int .i64 hi] w fun e w' => e = .returned (.bool b) ∧ w = w' := h ▸ rwithin_any n lo hi w

theorem inB_no_of {xs : List Int} {x : Int} {k : Nat} (h : inB xs x = false) (hk : k < xs.length) : (nth xs k == x) = false := by
  simp only [inB, decide_eq_false_iff_not] at h
  have := nth_mem hk
  simp only [beq_eq_false_iff_ne]
  intro e
  exact h (e ▸ this)

theorem rest_v0 {A c k : Int} (h1 : -100000 ≤ A) (h2 : A ≤ 100000) (hc : c ≤ 0) : wrap64 (A - wrap64 (k * 0)) = A - max c 0 * k := by
  rw [Int.max_eq_right hc, Int.zero_mul, Int.mul_zero, IntWalk.wrap64_in 0 (by omega), IntWalk.wrap64_in _ (by omega)]
theorem rest_v1 {A c k : Int} (h1 : -100000 ≤ A) (h2 : A ≤ 100000) (hc : 0 ≤ c) (hc2 : c ≤ 1000) (hk : 0 ≤ k) (hk2 : k ≤ 20) : wrap64 (A - wrap64 (k * c)) = A - max c 0 * k := by
  rw [Int.mul_comm k c]; exact rest_w1 h1 h2 hc hc2 hk hk2

end Go.Proofs.Ytgjikoebneiamaa.Tb
namespace Go.Proofs.Ytgjikoebneiamaa.Tb
open Go.RowKit

def roomAt (S : Store) (L : List Int) (long : Int) (b : Nat) : Bool := decide (long + (if inB L b = true then S.kerf else 0) ≤ restS S L b)
def roomB (S : Store) (L : List Int) (long : Int) : Bool := !allTo (fun b => !roomAt S L long b) S.bars.length

theorem roomAt_of {S : Store} {L : List Int} {long : Int} {b : Nat} {r : Bool} (h : inB L b = r) : roomAt S L long b = decide (long + (if r = true then S.kerf else 0) ≤ restS S L b) := by rw [roomAt, h]
theorem roomB_yes {S : Store} {L : List Int} {long : Int} {b : Nat} (hb : b < S.bars.length) (h : roomAt S L long b = true) : roomB S L long = true := by
  rw [roomB, allTo_false hb (by simp [h])]; rfl

theorem rest_le {S : Store} (hV : Valid S) (L : List Int) (b : Nat) (hb : b < S.bars.length) (hl : L.length ≤ S.pieces.length) : -20000 ≤ restS S L b ∧ restS S L b ≤ 999 := by
  have h1 := hV.blong b hb
  have h2 := sumTo_le hV L b L.length hl
  have h3 := countTo_le L b L.length
  have h4 := hV.kerf
  have h5 := hV.np
  have h6 : 0 ≤ max (countTo L b L.length - 1) 0 := by omega
  have h7 : max (countTo L b L.length - 1) 0 ≤ 8 := by omega
  have h8 := Int.mul_nonneg h6 h4.1
  have h9 : max (countTo L b L.length - 1) 0 * S.kerf ≤ 8 * 20 := Int.mul_le_mul h7 h4.2 h4.1 (by omega)
  simp only [restS, Int.toNat_natCast]
  omega

/-- Block B is an array of n bools. -/
def BoolsAt (B : Nat) (f : Nat → Bool) (n : Nat) (t : TypeId) (W : World) : Prop :=
  ∃ cs : Array Value, W.heap[B]? = some (.cells cs t) ∧ cs.size = n ∧ ∀ j, j < n → cs[j]? = some (.bool (f j))
theorem BoolsAt.lt {B : Nat} {f : Nat → Bool} {n : Nat} {t : TypeId} {W : World} (h : BoolsAt B f n t W) : B < W.heap.size := by
  obtain ⟨cs, h, _⟩ := h
  exact (Array.getElem?_eq_some_iff.1 h).1
theorem BoolsAt.kept {B : Nat} {f : Nat → Bool} {n : Nat} {t : TypeId} {W W' : World} (h : BoolsAt B f n t W) (hk : W'.heap[B]? = W.heap[B]?) : BoolsAt B f n t W' := by
  obtain ⟨cs, h1, h2⟩ := h
  exact ⟨cs, hk.trans h1, h2⟩
theorem BoolsAt.cell {B : Nat} {f : Nat → Bool} {n : Nat} {t : TypeId} {W : World} (h : BoolsAt B f n t W) {j : Nat} (hj : j < n) : W.cell? ⟨B, j, none⟩ = some (.bool (f j)) := by
  obtain ⟨cs, h1, h2, h3⟩ := h
  simp [World.cell?, h1, h3 j hj]
theorem BoolsAt.frozen {B : Nat} {f : Nat → Bool} {n : Nat} {t : TypeId} {W : World} (h : BoolsAt B f n t W) (j : Nat) : W.frozen? ⟨B, j, none⟩ = false := by
  obtain ⟨cs, h1, _⟩ := h
  simp [World.frozen?, h1]
theorem BoolsAt.congr {B : Nat} {f g : Nat → Bool} {n : Nat} {t : TypeId} {W : World} (h : BoolsAt B f n t W) (hfg : ∀ j, j < n → f j = g j) : BoolsAt B g n t W := by
  obtain ⟨cs, h1, h2, h3⟩ := h
  exact ⟨cs, h1, h2, fun j hj => hfg j hj ▸ h3 j hj⟩
theorem BoolsAt.put {B : Nat} {f : Nat → Bool} {n : Nat} {t : TypeId} {W : World} (h : BoolsAt B f n t W) {j : Nat} (hj : j < n) (b : Bool) : BoolsAt B (fun i => if i = j then b else f i) n t (W.setCell ⟨B, j, none⟩ (.bool b)) := by
  obtain ⟨cs, h1, h2, h3⟩ := h
  refine ⟨cs.setIfInBounds j (.bool b), ?_, by simp [h2], fun i hi => ?_⟩
  · obtain ⟨hlt, hk⟩ := Array.getElem?_eq_some_iff.1 h1
    show (W.heap.modify B _)[B]? = _
    rw [Array.getElem?_eq_getElem (by rw [Array.size_modify]; exact hlt), Array.getElem_modify_self, hk]
    rfl
  · by_cases e : i = j
    · subst e; simp [h2, hj]
    · rw [Array.getElem?_setIfInBounds_ne (by omega)]
      show cs[i]? = some (.bool (if i = j then b else f i))
      rw [if_neg e]; exact h3 i hi

theorem take_nth {L : List Int} {k : Nat} (h : k < L.length) : L.take (k + 1) = L.take k ++ [nth L k] := by
  rw [List.take_succ_eq_append_getElem h, nth_lt h]
theorem inB_append {xs : List Int} {x y : Int} : inB (xs ++ [x]) y = (inB xs y || decide (y = x)) := by
  simp [inB]
def usedTo (L : List Int) : Nat → Int
  | 0 => 0
  | k + 1 => usedTo L k + if inB (L.take k) (nth L k) = true then 0 else 1
def usedS (L : List Int) : Int := usedTo L L.length
theorem usedTo_le (L : List Int) : ∀ k : Nat, 0 ≤ usedTo L k ∧ usedTo L k ≤ k
  | 0 => by simp [usedTo]
  | k + 1 => by have := usedTo_le L k; simp only [usedTo]; split <;> omega

set_option maxHeartbeats 1000000 in
theorem used_any (lv : Value) (L : List Int) (w : World) {B : Nat} (hB : B ≤ w.heap.size) (hL : IntsAt B w lv L) (hO : Hid (∀ i, i < L.length → 0 ≤ nth L i ∧ nth L i < 6)) :
    Calls Try.prog 104 #[lv] w fun e w' => e = .returned (.int .i64 (usedS L)) ∧ Below w.heap.size w w' := by
  obtain ⟨a3, cap3, b3, off3, rfl, hm3, HA3, HC3, _⟩ := hL.opened
  clear hL
  go_enter Try.func104, Try.ntmps104
  go_wp2
  go_loopw [4, 9] (fun c i wr => ∃ k : Nat, k ≤ L.length ∧ i = .int .i64 k ∧ c = .int .i64 (usedTo L k) ∧ Hid (BoolsAt w.heap.size (fun j => inB (L.take k) j) 6 134 wr) ∧ Below w.heap.size w wr) (fun _ i _ => L.length - (intOf i).toNat)
  case atStart =>
    exact ⟨0, Nat.zero_le _, rfl, rfl, ⟨_, heap_new w _, rfl, fun j hj => by
      have : j = 0 ∨ j = 1 ∨ j = 2 ∨ j = 3 ∨ j = 4 ∨ j = 5 := by omega
      rcases this with rfl | rfl | rfl | rfl | rfl | rfl <;> rfl⟩, (Below.refl _ w).alloc (Nat.le_refl _) _⟩
  case round =>
    obtain ⟨k, hk, rfl, rfl, hbs, hw⟩ := hrel
    obtain ⟨u1, u2⟩ := usedTo_le L k
    have hbl := hbs.out.lt
    by_cases hlt : k < L.length
    · obtain ⟨rfl, hb3⟩ := HA3.out (by omega)
      obtain ⟨o1, o2⟩ := hO.out k hlt
      obtain ⟨m, hm⟩ := Int.eq_ofNat_of_zero_le o1
      have d := (hw.cell (p := ⟨b3, off3 + k, none⟩) (Nat.lt_of_lt_of_le hb3 hB)).trans (HC3.out k hlt)
      rw [hm] at d o1 o2
      have hm6 : m < 6 := by omega
      have c := hbs.out.cell hm6
      have f := hbs.out.frozen m
      have HM := Lib.hid hm
      clear hm
      cases hin : inB (L.take k) m
      all_goals
        rw [hin] at c
        have HIN := Lib.hid hin
        clear hin
        go_wp2
      · exact ⟨⟨k + 1, by omega, by go_num, by simp [usedTo, HM.out, HIN.out], (hbs.out.put hm6 true).congr (fun j _ => by
          rw [take_nth hlt, HM.out, inB_append]
          by_cases e : j = m
          · subst e; simp
          · rw [if_neg e]; simp; intro h; omega), hw.setCell (p := ⟨w.heap.size, m, none⟩) (Nat.le_refl _) _⟩, by simp [intOf]; omega⟩
      · exact ⟨⟨k + 1, by omega, by go_num, by simp [usedTo, HM.out, HIN.out], hbs.out.congr (fun j _ => by
          rw [take_nth hlt, HM.out, inB_append]
          by_cases e : j = m
          · subst e; simp [HIN.out]
          · simp; intro h; omega), hw⟩, by simp [intOf]; omega⟩
    · obtain rfl : L.length = k := by omega
      go_wp2
      go_ret
      exact ⟨rfl, hw⟩
end Go.Proofs.Ytgjikoebneiamaa.Tb
namespace Go.Proofs.Ytgjikoebneiamaa.Tb
open Go.RowKit

def usedTo2 (L : List Int) : Nat → Int
  | 0 => 0
  | k + 1 => usedTo2 L k + if inB L (k : Int) = true then 1 else 0
theorem usedTo2_le (L : List Int) : ∀ k : Nat, 0 ≤ usedTo2 L k ∧ usedTo2 L k ≤ k
  | 0 => by simp [usedTo2]
  | k + 1 => by have := usedTo2_le L k; simp only [usedTo2]; split <;> omega

def agreesB (k : Int) (is : Bool) : Bool := if k = 1 then is else if k = 2 then !is else decide (k = 3)
end Go.Proofs.Ytgjikoebneiamaa.Tb
namespace Go.Proofs.Ytgjikoebneiamaa.Tb
open Go.RowKit

def knownOf (some many : Int) : Int := if some = many then 1 else if some = 0 then 2 else 3
def subB (a b : List Int) : Bool := allTo (fun i => inB b (nth a i)) a.length && decide (a.length ≤ b.length)
end Go.Proofs.Ytgjikoebneiamaa.Tb
namespace Go.Proofs.Ytgjikoebneiamaa.Tb
open Go.RowKit

theorem list_ext_nth {a b : List Int} (hl : a.length = b.length) (h : ∀ i, i < a.length → nth a i = nth b i) : a = b := by
  apply List.ext_getElem hl
  intro i h1 h2
  have := h i h1
  rwa [nth_lt h1, nth_lt h2] at this

end Go.Proofs.Ytgjikoebneiamaa.Tb