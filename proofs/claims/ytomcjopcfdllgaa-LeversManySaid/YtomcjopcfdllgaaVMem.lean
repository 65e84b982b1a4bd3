/-
  What memory holds: lists of ints; plain facts of searches over the first k places.
  Levers: what memory holds: levers, balances, machines; kept by whatever leaves the blocks below a bound as they were.
-/
import Derived.Test.YtomcjopcfdllgaaRows
import Derived.WalkKit
import Derived.WalkSpells
import Derived.Lib.Hide
import Derived.Deep.QuietTactic
import Derived.BigQuiet
import Derived.Handy
import Derived.Test.YtomcjopcfdllgaaVPlain

namespace Go.Proofs.Ytomcjopcfdllgaa
open Go.RowKit

/-- The i-th number of a list, 0 beyond its end. -/
def nth (xs : List Int) (i : Nat) : Int := xs.getD i 0

theorem nth_lt {xs : List Int} {i : Nat} (h : i < xs.length) : nth xs i = xs[i] := by simp [nth, h]

theorem nth_mem {xs : List Int} {i : Nat} (h : i < xs.length) : nth xs i ∈ xs := by rw [nth_lt h]; exact List.getElem_mem h

def I64 (n : Int) : Prop := -9223372036854775808 ≤ n ∧ n ≤ 9223372036854775807

/-- A []int that holds xs, in a block below B. -/
def IntsAt (B : Nat) (w : World) (v : Value) (xs : List Int) : Prop :=
  ∃ a cap b off, v = .slice a xs.length cap ∧ xs.length ≤ cap ∧ cap ≤ maxLen ∧ (0 < xs.length → a = some ⟨b, off, none⟩ ∧ b < B) ∧
    (∀ i, i < xs.length → w.cell? ⟨b, off + i, none⟩ = some (.int .i64 (nth xs i))) ∧ ∀ x ∈ xs, I64 x

theorem IntsAt.opened {B : Nat} {w : World} {v : Value} {xs : List Int} (h : IntsAt B w v xs) :
    ∃ a cap b off, v = .slice a xs.length cap ∧ xs.length ≤ 9223372036854775807 ∧ Hid (0 < xs.length → a = some ⟨b, off, none⟩ ∧ b < B) ∧
      Hid (∀ i, i < xs.length → w.cell? ⟨b, off + i, none⟩ = some (.int .i64 (nth xs i))) ∧ Hid (∀ x ∈ xs, I64 x) := by
  obtain ⟨a, cap, b, off, rfl, hl, hm, ha, hc, hw⟩ := h
  unfold maxLen at hm
  exact ⟨a, cap, b, off, rfl, by omega, Lib.hid ha, Lib.hid hc, Lib.hid hw⟩

theorem IntsAt.below {B : Nat} {w w' : World} {v : Value} {xs : List Int} (h : IntsAt B w v xs) (hb : Below B w w') : IntsAt B w' v xs := by
  obtain ⟨a, cap, b, off, hv, hl, hm, ha, hc, hw⟩ := h
  exact ⟨a, cap, b, off, hv, hl, hm, ha, fun i hi => (hb.cell (p := ⟨b, off + i, none⟩) (ha (by omega)).2).trans (hc i hi), hw⟩

theorem IntsAt.mono {B B' : Nat} {w : World} {v : Value} {xs : List Int} (h : IntsAt B w v xs) (hb : B ≤ B') : IntsAt B' w v xs := by
  obtain ⟨a, cap, b, off, hv, hl, hm, ha, hc, hw⟩ := h
  exact ⟨a, cap, b, off, hv, hl, hm, fun h => ⟨(ha h).1, by have := (ha h).2; omega⟩, hc, hw⟩

theorem heap_new (w : World) (o : Obj) : (w.alloc o).heap[w.heap.size]? = some o := by
  show (w.heap.push o)[w.heap.size]? = _
  simp

theorem boxed {w wr : World} {o : Obj} (h : Below (w.heap.size + 1) (w.alloc o) wr) : Below w.heap.size w wr :=
  ((Below.refl _ w).alloc (Nat.le_refl _) o).trans (h.mono (by omega))

theorem drewN_below {B : Nat} {a w : World} (h : Below B a w) (n : Nat) : Below B a (w.drewN n) := h.trans ⟨rfl, rfl, rfl, Nat.le_refl _, fun _ _ => rfl⟩

theorem boxed_size {w wr : World} {o : Obj} (h : Below (w.heap.size + 1) (w.alloc o) wr) : w.heap.size + 1 ≤ wr.heap.size := by have := h.size; simpa using this

def allTo (p : Nat → Bool) : Nat → Bool
  | 0 => true
  | k + 1 => allTo p k && p k

theorem allTo_iff {p : Nat → Bool} : ∀ {n : Nat}, allTo p n = true ↔ ∀ j, j < n → p j = true
  | 0 => by simp [allTo]
  | n + 1 => by
    simp only [allTo, Bool.and_eq_true, allTo_iff]
    exact ⟨fun h j hj => by rcases Nat.lt_succ_iff_lt_or_eq.1 hj with h1 | rfl; exact h.1 j h1; exact h.2, fun h => ⟨fun j hj => h j (by omega), h n (by omega)⟩⟩

theorem allTo_false {p : Nat → Bool} {n j : Nat} (hj : j < n) (h : p j = false) : allTo p n = false := by
  cases e : allTo p n
  · rfl
  · rw [allTo_iff.1 e j hj] at h; cases h

theorem allTo_true {p : Nat → Bool} {n : Nat} (h : ∀ j, j < n → p j = true) : allTo p n = true := allTo_iff.2 h

theorem allTo_step {p : Nat → Bool} {k : Nat} (h : Go.RowKit.Hid (allTo p k = true)) (hk : p k = true) : Go.RowKit.Hid (allTo p (k + 1) = true) := by
  have := h.out
  show allTo p (k + 1) = true
  simp [allTo, this, hk]

theorem allTo_congr {p q : Nat → Bool} {n : Nat} (h : ∀ j, j < n → p j = q j) : allTo p n = allTo q n := by
  rw [Bool.eq_iff_iff, allTo_iff, allTo_iff]
  exact ⟨fun k j hj => (h j hj) ▸ k j hj, fun k j hj => (h j hj).symm ▸ k j hj⟩

def wB (n lo hi : Int) : Bool := decide (lo ≤ n) && decide (n ≤ hi)

theorem wB_iff {n lo hi : Int} : wB n lo hi = true ↔ lo ≤ n ∧ n ≤ hi := by simp [wB]

theorem wB_false {n lo hi : Int} : wB n lo hi = false ↔ n < lo ∨ hi < n := by
  simp [wB]; omega

def inB (xs : List Int) (x : Int) : Bool := decide (x ∈ xs)

theorem mem_iff_nth {xs : List Int} {x : Int} : x ∈ xs ↔ ∃ i, i < xs.length ∧ nth xs i = x := by
  constructor
  · intro h
    obtain ⟨i, hi, rfl⟩ := List.getElem_of_mem h
    exact ⟨i, hi, nth_lt hi⟩
  · rintro ⟨i, hi, rfl⟩
    exact nth_mem hi

theorem inB_yes {xs : List Int} {x : Int} {i : Nat} (hi : i < xs.length) (h : x = nth xs i) : inB xs x = true := by
  simp only [inB, decide_eq_true_eq]; exact h ▸ nth_mem hi

theorem inB_no {xs : List Int} {x : Int} (h : allTo (fun i => decide (x ≠ nth xs i)) xs.length = true) : inB xs x = false := by
  simp only [inB, decide_eq_false_iff_not, mem_iff_nth]
  rintro ⟨i, hi, he⟩
  have := allTo_iff.1 h i hi
  simp [he] at this

theorem ret_bool {a b : Bool} (h : a = b) : Ending.returned (.bool a) = .returned (.bool b) := by rw [h]

theorem ret_int {k : IntKind} {a b : Int} (h : a = b) : Ending.returned (.int k a) = .returned (.int k b) := by rw [h]

theorem least_ix {xs : List Int} {x : Int} (h : inB xs x = true) : ∃ j, j < xs.length ∧ x = nth xs j ∧ ∀ i, i < j → x ≠ nth xs i := by
  have h1 : ∃ n, n ≤ xs.length ∧ ∃ j, j < n ∧ x = nth xs j := by
    simp only [inB, decide_eq_true_eq, mem_iff_nth] at h
    obtain ⟨i, hi, he⟩ := h
    exact ⟨xs.length, Nat.le_refl _, i, hi, he.symm⟩
  obtain ⟨n, hn, j, hj, he⟩ := h1
  induction n generalizing j with
  | zero => omega
  | succ n ih =>
    by_cases hx : ∃ j, j < n ∧ x = nth xs j
    · obtain ⟨j, hj, he⟩ := hx
      exact ih (by omega) j hj he
    · exact ⟨j, by omega, he, fun i hi hc => hx ⟨i, by omega, hc⟩⟩

theorem inB_no_of {xs : List Int} {x : Int} {k : Nat} (h : inB xs x = false) (hk : k < xs.length) : (nth xs k == x) = false := by
  simp only [inB, decide_eq_false_iff_not] at h
  have := nth_mem hk
  simp only [beq_eq_false_iff_ne]
  intro e
  exact h (e ▸ this)

theorem inB_append {xs : List Int} {x y : Int} : inB (xs ++ [x]) y = (inB xs y || decide (y = x)) := by
  simp [inB]

theorem take_nth {L : List Int} {k : Nat} (h : k < L.length) : L.take (k + 1) = L.take k ++ [nth L k] := by
  rw [List.take_succ_eq_append_getElem h, nth_lt h]

end Go.Proofs.Ytomcjopcfdllgaa

namespace Go.Proofs.Ytomcjopcfdllgaa
open Go.RowKit

def lnth (ls : List Lev) (i : Nat) : Lev := ls.getD i ⟨0, 0, 0⟩
def bnth (bs : List Bal) (i : Nat) : Bal := bs.getD i ⟨0, 0, 0, 0⟩
theorem lnth_lt {ls : List Lev} {i : Nat} (h : i < ls.length) : lnth ls i = ls[i] := by simp [lnth, h]
theorem bnth_lt {bs : List Bal} {i : Nat} (h : i < bs.length) : bnth bs i = bs[i] := by simp [bnth, h]
/-- Three, and four, numbers side by side. -/
def Three (w : World) (b o : Nat) (x0 x1 x2 : Int) : Prop :=
  w.cell? ⟨b, o, none⟩ = some (.int .i64 x0) ∧ w.cell? ⟨b, o + 1, none⟩ = some (.int .i64 x1) ∧ w.cell? ⟨b, o + 2, none⟩ = some (.int .i64 x2)
theorem Three.below {B : Nat} {w w' : World} {b o : Nat} {x0 x1 x2 : Int} (h : Three w b o x0 x1 x2) (hb : Below B w w') (hlt : b < B) : Three w' b o x0 x1 x2 :=
  ⟨(hb.cell (p := ⟨b, o, none⟩) hlt).trans h.1, (hb.cell (p := ⟨b, o + 1, none⟩) hlt).trans h.2.1, (hb.cell (p := ⟨b, o + 2, none⟩) hlt).trans h.2.2⟩
def Four (w : World) (b o : Nat) (x0 x1 x2 x3 : Int) : Prop :=
  w.cell? ⟨b, o, none⟩ = some (.int .i64 x0) ∧ w.cell? ⟨b, o + 1, none⟩ = some (.int .i64 x1) ∧ w.cell? ⟨b, o + 2, none⟩ = some (.int .i64 x2) ∧ w.cell? ⟨b, o + 3, none⟩ = some (.int .i64 x3)
theorem Four.below {B : Nat} {w w' : World} {b o : Nat} {x0 x1 x2 x3 : Int} (h : Four w b o x0 x1 x2 x3) (hb : Below B w w') (hlt : b < B) : Four w' b o x0 x1 x2 x3 :=
  ⟨(hb.cell (p := ⟨b, o, none⟩) hlt).trans h.1, (hb.cell (p := ⟨b, o + 1, none⟩) hlt).trans h.2.1, (hb.cell (p := ⟨b, o + 2, none⟩) hlt).trans h.2.2.1, (hb.cell (p := ⟨b, o + 3, none⟩) hlt).trans h.2.2.2⟩
def LI64 (l : Lev) : Prop := I64 l.long ∧ I64 l.lo ∧ I64 l.hi
def BI64 (b : Bal) : Prop := I64 b.weight ∧ I64 b.minutes ∧ I64 b.load ∧ I64 b.off
abbrev lV (l : Lev) : Value := .agg #[.int .i64 l.long, .int .i64 l.lo, .int .i64 l.hi]
abbrev bV (b : Bal) : Value := .agg #[.int .i64 b.weight, .int .i64 b.minutes, .int .i64 b.load, .int .i64 b.off]
def LevsAt (B : Nat) (w : World) (v : Value) (ls : List Lev) : Prop :=
  ∃ a cap b off, v = .slice a ls.length cap ∧ ls.length ≤ cap ∧ cap ≤ maxLen ∧ (0 < ls.length → a = some ⟨b, off, none⟩ ∧ b < B) ∧
    (∀ i, i < ls.length → Three w b (off + i * 3) (lnth ls i).long (lnth ls i).lo (lnth ls i).hi) ∧ ∀ i, i < ls.length → LI64 (lnth ls i)
def BalsAt (B : Nat) (w : World) (v : Value) (bs : List Bal) : Prop :=
  ∃ a cap b off, v = .slice a bs.length cap ∧ bs.length ≤ cap ∧ cap ≤ maxLen ∧ (0 < bs.length → a = some ⟨b, off, none⟩ ∧ b < B) ∧
    (∀ i, i < bs.length → Four w b (off + i * 4) (bnth bs i).weight (bnth bs i).minutes (bnth bs i).load (bnth bs i).off) ∧ ∀ i, i < bs.length → BI64 (bnth bs i)
def MachAt (B : Nat) (w : World) (v : Value) (M : Mach) : Prop :=
  ∃ lv bv, v = .agg #[lv, .int .i64 M.water, .int .i64 M.lkLo, .int .i64 M.lkHi, bv, .int .i64 M.wrong] ∧ LevsAt B w lv M.levers ∧ BalsAt B w bv M.bals ∧ I64 M.water ∧ I64 M.lkLo ∧ I64 M.lkHi ∧ I64 M.wrong

theorem LevsAt.below {B : Nat} {w w' : World} {v : Value} {ls : List Lev} (h : LevsAt B w v ls) (hb : Below B w w') : LevsAt B w' v ls := by
  obtain ⟨a, cap, b, off, hv, hl, hm, ha, hc, hw⟩ := h
  exact ⟨a, cap, b, off, hv, hl, hm, ha, fun i hi => (hc i hi).below hb (ha (by omega)).2, hw⟩
theorem LevsAt.mono {B B' : Nat} {w : World} {v : Value} {ls : List Lev} (h : LevsAt B w v ls) (hb : B ≤ B') : LevsAt B' w v ls := by
  obtain ⟨a, cap, b, off, hv, hl, hm, ha, hc, hw⟩ := h
  exact ⟨a, cap, b, off, hv, hl, hm, fun h => ⟨(ha h).1, by have := (ha h).2; omega⟩, hc, hw⟩
theorem BalsAt.below {B : Nat} {w w' : World} {v : Value} {bs : List Bal} (h : BalsAt B w v bs) (hb : Below B w w') : BalsAt B w' v bs := by
  obtain ⟨a, cap, b, off, hv, hl, hm, ha, hc, hw⟩ := h
  exact ⟨a, cap, b, off, hv, hl, hm, ha, fun i hi => (hc i hi).below hb (ha (by omega)).2, hw⟩
theorem BalsAt.mono {B B' : Nat} {w : World} {v : Value} {bs : List Bal} (h : BalsAt B w v bs) (hb : B ≤ B') : BalsAt B' w v bs := by
  obtain ⟨a, cap, b, off, hv, hl, hm, ha, hc, hw⟩ := h
  exact ⟨a, cap, b, off, hv, hl, hm, fun h => ⟨(ha h).1, by have := (ha h).2; omega⟩, hc, hw⟩
theorem MachAt.below {B : Nat} {w w' : World} {v : Value} {M : Mach} (h : MachAt B w v M) (hb : Below B w w') : MachAt B w' v M := by
  obtain ⟨lv, bv, hv, h1, h2, h3⟩ := h
  exact ⟨lv, bv, hv, h1.below hb, h2.below hb, h3⟩
theorem MachAt.mono {B B' : Nat} {w : World} {v : Value} {M : Mach} (h : MachAt B w v M) (hb : B ≤ B') : MachAt B' w v M := by
  obtain ⟨lv, bv, hv, h1, h2, h3⟩ := h
  exact ⟨lv, bv, hv, h1.mono hb, h2.mono hb, h3⟩
theorem MachAt.opened {B : Nat} {w : World} {v : Value} {M : Mach} (h : MachAt B w v M) :
    ∃ a cap b off a2 cap2 b2 off2, v = .agg #[.slice a M.levers.length cap, .int .i64 M.water, .int .i64 M.lkLo, .int .i64 M.lkHi, .slice a2 M.bals.length cap2, .int .i64 M.wrong] ∧
      M.levers.length ≤ 9223372036854775807 ∧ M.bals.length ≤ 9223372036854775807 ∧ Hid (0 < M.levers.length → a = some ⟨b, off, none⟩ ∧ b < B) ∧
      Hid (∀ i, i < M.levers.length → Three w b (off + i * 3) (lnth M.levers i).long (lnth M.levers i).lo (lnth M.levers i).hi) ∧
      Hid (0 < M.bals.length → a2 = some ⟨b2, off2, none⟩ ∧ b2 < B) ∧
      Hid (∀ i, i < M.bals.length → Four w b2 (off2 + i * 4) (bnth M.bals i).weight (bnth M.bals i).minutes (bnth M.bals i).load (bnth M.bals i).off) ∧
      Hid (∀ i, i < M.levers.length → LI64 (lnth M.levers i)) ∧ Hid (∀ i, i < M.bals.length → BI64 (bnth M.bals i)) ∧ Hid (I64 M.water ∧ I64 M.lkLo ∧ I64 M.lkHi ∧ I64 M.wrong) := by
  obtain ⟨lv, bv, rfl, ⟨a, cap, b, off, rfl, hl, hm, ha, hc, hi⟩, ⟨a2, cap2, b2, off2, rfl, hl2, hm2, ha2, hc2, hi2⟩, hw⟩ := h
  unfold maxLen at hm hm2
  exact ⟨a, cap, b, off, a2, cap2, b2, off2, rfl, by omega, by omega, Lib.hid ha, Lib.hid hc, Lib.hid ha2, Lib.hid hc2, Lib.hid hi, Lib.hid hi2, Lib.hid hw⟩

end Go.Proofs.Ytomcjopcfdllgaa
