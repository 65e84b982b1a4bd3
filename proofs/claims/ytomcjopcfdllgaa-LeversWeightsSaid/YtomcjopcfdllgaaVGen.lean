/-
  What memory holds: lists of ints; plain facts of searches over the first k places.
-/
import Derived.Test.YtomcjopcfdllgaaRows
import Derived.WalkKit
import Derived.WalkSpells
import Derived.Lib.Hide
import Derived.Deep.QuietTactic
import Derived.BigQuiet
import Derived.Handy

namespace Go.Proofs.Ytomcjopcfdllgaa
open Go.RowKit

/-- The i-th number of a list, 0 beyond its end. -/
def nth (xs : List Int) (i : Nat) : Int := xs.getD i 0

theorem nth_lt {xs : List Int} {i : Nat} (h : i < xs.length) : nth xs i = xs[i] := by simp [nth, h]

theorem nth_mem {xs : List Int} {i : Nat} (h : i < xs.length) : nth xs i ∈ xs := by rw [nth_lt h]; exact List.getElem_mem h

def I64 (n : Int) : Prop := -9223372036854775808 ≤ n ∧ n ≤ 9223372036854775807

/-- A []int that holds xs, in a block below B. -/
def IntsAt (B : Nat) (w : World) (v : Value) (xs : List Int) : Prop :=
  ∃ a cap b off, v = .slice a xs.length cap ∧ xs.length ≤ cap ∧ cap ≤ maxLen ∧ (0 < xs.length → a = some ⟨b, off, none⟩ ∧ b < B) ∧
    (∀ i, i < xs.length → w.cell? ⟨b, off + i, none⟩ = some (.int .i64 (nth xs i))) ∧ ∀ x ∈ xs, I64 x

theorem IntsAt.opened {B : Nat} {w : World} {v : Value} {xs : List Int} (h : IntsAt B w v xs) :
    ∃ a cap b off, v = .slice a xs.length cap ∧ xs.length ≤ 9223372036854775807 ∧ Hid (0 < xs.length → a = some ⟨b, off, none⟩ ∧ b < B) ∧
      Hid (∀ i, i < xs.length → w.cell? ⟨b, off + i, none⟩ = some (.int .i64 (nth xs i))) ∧ Hid (∀ x ∈ xs, I64 x) := by
  obtain ⟨a, cap, b, off, rfl, hl, hm, ha, hc, hw⟩ := h
  unfold maxLen at hm
  exact ⟨a, cap, b, off, rfl, by omega, Lib.hid ha, Lib.hid hc, Lib.hid hw⟩

theorem IntsAt.below {B : Nat} {w w' : World} {v : Value} {xs : List Int} (h : IntsAt B w v xs) (hb : Below B w w') : IntsAt B w' v xs := by
  obtain ⟨a, cap, b, off, hv, hl, hm, ha, hc, hw⟩ := h
  exact ⟨a, cap, b, off, hv, hl, hm, ha, fun i hi => (hb.cell (p := ⟨b, off + i, none⟩) (ha (by omega)).2).trans (hc i hi), hw⟩

theorem IntsAt.mono {B B' : Nat} {w : World} {v : Value} {xs : List Int} (h : IntsAt B w v xs) (hb : B ≤ B') : IntsAt B' w v xs := by
  obtain ⟨a, cap, b, off, hv, hl, hm, ha, hc, hw⟩ := h
  exact ⟨a, cap, b, off, hv, hl, hm, fun h => ⟨(ha h).1, by have := (ha h).2; omega⟩, hc, hw⟩

theorem heap_new (w : World) (o : Obj) : (w.alloc o).heap[w.heap.size]? = some o := by
  show (w.heap.push o)[w.heap.size]? = _
  simp

theorem boxed {w wr : World} {o : Obj} (h : Below (w.heap.size + 1) (w.alloc o) wr) : Below w.heap.size w wr :=
  ((Below.refl _ w).alloc (Nat.le_refl _) o).trans (h.mono (by omega))

theorem drewN_below {B : Nat} {a w : World} (h : Below B a w) (n : Nat) : Below B a (w.drewN n) := h.trans ⟨rfl, rfl, rfl, Nat.le_refl _, fun _ _ => rfl⟩

theorem boxed_size {w wr : World} {o : Obj} (h : Below (w.heap.size + 1) (w.alloc o) wr) : w.heap.size + 1 ≤ wr.heap.size := by have := h.size; simpa using this

def allTo (p : Nat → Bool) : Nat → Bool
  | 0 => true
  | k + 1 => allTo p k && p k

theorem allTo_iff {p : Nat → Bool} : ∀ {n : Nat}, allTo p n = true ↔ ∀ j, j < n → p j = true
  | 0 => by simp [allTo]
  | n + 1 => by
    simp only [allTo, Bool.and_eq_true, allTo_iff]
    exact ⟨fun h j hj => by rcases Nat.lt_succ_iff_lt_or_eq.1 hj with h1 | rfl; exact h.1 j h1; exact h.2, fun h => ⟨fun j hj => h j (by omega), h n (by omega)⟩⟩

theorem allTo_false {p : Nat → Bool} {n j : Nat} (hj : j < n) (h : p j = false) : allTo p n = false := by
  cases e : allTo p n
  · rfl
  · rw [allTo_iff.1 e j hj] at h; cases h

theorem allTo_true {p : Nat → Bool} {n : Nat} (h : ∀ j, j < n → p j = true) : allTo p n = true := allTo_iff.2 h

theorem allTo_step {p : Nat → Bool} {k : Nat} (h : Go.RowKit.Hid (allTo p k = true)) (hk : p k = true) : Go.RowKit.Hid (allTo p (k + 1) = true) := by
  have := h.out
  show allTo p (k + 1) = true
  simp [allTo, this, hk]

theorem allTo_congr {p q : Nat → Bool} {n : Nat} (h : ∀ j, j < n → p j = q j) : allTo p n = allTo q n := by
  rw [Bool.eq_iff_iff, allTo_iff, allTo_iff]
  exact ⟨fun k j hj => (h j hj) ▸ k j hj, fun k j hj => (h j hj).symm ▸ k j hj⟩

def wB (n lo hi : Int) : Bool := decide (lo ≤ n) && decide (n ≤ hi)

theorem wB_iff {n lo hi : Int} : wB n lo hi = true ↔ lo ≤ n ∧ n ≤ hi := by simp [wB]

theorem wB_false {n lo hi : Int} : wB n lo hi = false ↔ n < lo ∨ hi < n := by
  simp [wB]; omega

def inB (xs : List Int) (x : Int) : Bool := decide (x ∈ xs)

theorem mem_iff_nth {xs : List Int} {x : Int} : x ∈ xs ↔ ∃ i, i < xs.length ∧ nth xs i = x := by
  constructor
  · intro h
    obtain ⟨i, hi, rfl⟩ := List.getElem_of_mem h
    exact ⟨i, hi, nth_lt hi⟩
  · rintro ⟨i, hi, rfl⟩
    exact nth_mem hi

theorem inB_yes {xs : List Int} {x : Int} {i : Nat} (hi : i < xs.length) (h : x = nth xs i) : inB xs x = true := by
  simp only [inB, decide_eq_true_eq]; exact h ▸ nth_mem hi

theorem inB_no {xs : List Int} {x : Int} (h : allTo (fun i => decide (x ≠ nth xs i)) xs.length = true) : inB xs x = false := by
  simp only [inB, decide_eq_false_iff_not, mem_iff_nth]
  rintro ⟨i, hi, he⟩
  have := allTo_iff.1 h i hi
  simp [he] at this

theorem ret_bool {a b : Bool} (h : a = b) : Ending.returned (.bool a) = .returned (.bool b) := by rw [h]

theorem ret_int {k : IntKind} {a b : Int} (h : a = b) : Ending.returned (.int k a) = .returned (.int k b) := by rw [h]

theorem least_ix {xs : List Int} {x : Int} (h : inB xs x = true) : ∃ j, j < xs.length ∧ x = nth xs j ∧ ∀ i, i < j → x ≠ nth xs i := by
  have h1 : ∃ n, n ≤ xs.length ∧ ∃ j, j < n ∧ x = nth xs j := by
    simp only [inB, decide_eq_true_eq, mem_iff_nth] at h
    obtain ⟨i, hi, he⟩ := h
    exact ⟨xs.length, Nat.le_refl _, i, hi, he.symm⟩
  obtain ⟨n, hn, j, hj, he⟩ := h1
  induction n generalizing j with
  | zero => omega
  | succ n ih =>
    by_cases hx : ∃ j, j < n ∧ x = nth xs j
    · obtain ⟨j, hj, he⟩ := hx
      exact ih (by omega) j hj he
    · exact ⟨j, by omega, he, fun i hi hc => hx ⟨i, by omega, hc⟩⟩

theorem inB_no_of {xs : List Int} {x : Int} {k : Nat} (h : inB xs x = false) (hk : k < xs.length) : (nth xs k == x) = false := by
  simp only [inB, decide_eq_false_iff_not] at h
  have := nth_mem hk
  simp only [beq_eq_false_iff_ne]
  intro e
  exact h (e ▸ this)

theorem inB_append {xs : List Int} {x y : Int} : inB (xs ++ [x]) y = (inB xs y || decide (y = x)) := by
  simp [inB]

theorem take_nth {L : List Int} {k : Nat} (h : k < L.length) : L.take (k + 1) = L.take k ++ [nth L k] := by
  rw [List.take_succ_eq_append_getElem h, nth_lt h]

end Go.Proofs.Ytomcjopcfdllgaa
