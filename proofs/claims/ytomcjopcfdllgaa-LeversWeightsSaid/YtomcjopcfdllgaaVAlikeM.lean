/-
  Levers: the spans within which the same balances are right, one after the other.
-/
import Derived.Test.YtomcjopcfdllgaaVWork
import Derived.Test.YtomcjopcfdllgaaVSrc
import Derived.Test.YtomcjopcfdllgaaVShelf
import Derived.Sort.OwnSortedInts

namespace Go.Proofs.Ytomcjopcfdllgaa
open Go.RowKit Go.Shelf

/-- One more start: where the next span begins, and the spans so far. -/
def spanStep (high : Int) (s : Int × List (Int × Int)) (x : Int) : Int × List (Int × Int) := if min x (high + 1) > s.1 then (min x (high + 1), s.2 ++ [(s.1, min x (high + 1) - 1)]) else s
def spanFold (high low : Int) (l : List Int) : Int × List (Int × Int) := l.foldl (spanStep high) (low, [])
theorem span_acc (high : Int) : ∀ (l : List Int) (low : Int) (acc : List (Int × Int)), (l.foldl (spanStep high) (low, acc)).2 = acc ++ (l.foldl (spanStep high) (low, [])).2
  | [], low, acc => by simp
  | x :: l, low, acc => by
    simp only [List.foldl_cons, spanStep]
    split
    · rw [span_acc high l _ (acc ++ _), span_acc high l _ ([] ++ _)]
      simp
    · rw [span_acc high l]
theorem span_fold (high : Int) : ∀ (l : List Int) (low : Int), (spanFold high low (l ++ [high + 1])).2 = spansL high low l
  | [], low => by
    simp only [spanFold, List.nil_append, List.foldl_cons, List.foldl_nil, spanStep, spansL]
    rw [show min (high + 1) (high + 1) = high + 1 by omega, show high + 1 - 1 = high by omega]
    split <;> rfl
  | x :: l, low => by
    have ih := fun low => span_fold high l low
    unfold spanFold at ih ⊢
    simp only [List.cons_append, List.foldl_cons, spanStep, spansL]
    split
    · rw [span_acc, ih]; rfl
    · exact ih low
theorem spanFold_snoc (high low : Int) (l : List Int) (x : Int) : spanFold high low (l ++ [x]) = spanStep high (spanFold high low l) x := by simp [spanFold]
theorem spanFold_low {high low : Int} (h : low ≤ high + 1) : ∀ l : List Int, low ≤ (spanFold high low l).1 ∧ (spanFold high low l).1 ≤ high + 1 := fun l => by
  have h1 : ∀ (l : List Int) (a : Int) (acc : List (Int × Int)), low ≤ a → a ≤ high + 1 → low ≤ (l.foldl (spanStep high) (a, acc)).1 ∧ (l.foldl (spanStep high) (a, acc)).1 ≤ high + 1 := fun l => by
    induction l with
    | nil => intro a acc h1 h2; exact ⟨h1, h2⟩
    | cons x l ih =>
      intro a acc h1 h2
      rw [List.foldl_cons]
      unfold spanStep
      split
      · exact ih _ _ (by dsimp at *; omega) (by omega)
      · exact ih _ _ h1 h2
  exact h1 l low [] (Int.le_refl _) h
theorem spanFold_len {high low : Int} : ∀ l : List Int, (spanFold high low l).2.length ≤ l.length := fun l => by
  have h1 : ∀ (l : List Int) (a : Int) (acc : List (Int × Int)), (l.foldl (spanStep high) (a, acc)).2.length ≤ acc.length + l.length := fun l => by
    induction l with
    | nil => intro a acc; simp
    | cons x l ih =>
      intro a acc
      rw [List.foldl_cons]
      have h3 := ih (spanStep high (a, acc) x).1 (spanStep high (a, acc) x).2
      have h4 : (spanStep high (a, acc) x).2.length ≤ acc.length + 1 := by unfold spanStep; split <;> simp
      rw [List.length_cons]
      have h5 : (List.foldl (spanStep high) (spanStep high (a, acc) x) l) = (List.foldl (spanStep high) ((spanStep high (a, acc) x).1, (spanStep high (a, acc) x).2) l) := rfl
      rw [h5]
      omega
  have := h1 l low []
  simpa [spanFold] using this
/-- The starts of the first k balances. -/
def startsTo (M : Mach) (leak : Int) (k : Nat) : List Int := lowP M :: (M.bals.take k).flatMap (startsB M leak)
theorem startsTo_all (M : Mach) (leak : Int) : startsTo M leak M.bals.length = startsL M leak := by rw [startsTo, List.take_length]; rfl
theorem startsTo_succ {M : Mach} {leak : Int} {k : Nat} (h : k < M.bals.length) : startsTo M leak (k + 1) = startsTo M leak k ++ startsB M leak (bnth M.bals k) := by
  rw [startsTo, List.take_succ_eq_append_getElem h, ← bnth_lt h]
  simp [startsTo]
theorem startsB_len (M : Mach) (leak : Int) (b : Bal) : (startsB M leak b).length ≤ 2 := by
  unfold startsB
  rw [List.length_append]
  split <;> split <;> simp
theorem startsTo_len (M : Mach) (leak : Int) : ∀ k, (startsTo M leak k).length ≤ 1 + 2 * k := fun k => by
  have h1 : ∀ l : List Bal, (l.flatMap (startsB M leak)).length ≤ 2 * l.length := fun l => by
    induction l with
    | nil => simp
    | cons b l ih => rw [List.flatMap_cons, List.length_append, List.length_cons]; have := startsB_len M leak b; omega
  have h2 := h1 (M.bals.take k)
  have h3 := List.length_take_le k M.bals
  unfold startsTo
  rw [List.length_cons]
  omega
/-- All starts are small enough. -/
theorem starts_ok {M : Mach} (hV : ValidM M) {leak : Int} (hk : 0 ≤ leak) : ∀ k, ∀ s ∈ startsTo M leak k, 0 ≤ s ∧ s ≤ 100000000000000 := fun k s hs => by
  unfold startsTo at hs
  rcases List.mem_cons.1 hs with rfl | hs
  · have h1 := low_pos hV
    have h0 := short_ok hV 0
    have h2 := short_ok hV 1
    have h3 := short_ok hV 2
    have h4 : (shortOf M.levers 1).1 * (shortOf M.levers 2).1 ≤ 1000 * 1000 := mul_mono (by omega) (by omega) (by omega) (by omega)
    have h5 : 0 ≤ (shortOf M.levers 1).1 * (shortOf M.levers 2).1 := Int.mul_nonneg (by omega) (by omega)
    have h6 : lowP M ≤ 1000 * (1000 * 1000) := mul_mono (by omega) h5 (by omega) h4
    omega
  · obtain ⟨b, hb, hs⟩ := List.mem_flatMap.1 hs
    have hv := hV.bal b (List.mem_of_mem_take hb)
    obtain ⟨f1, f2⟩ := force_ok hV hv.1 hv.2.1.1 hk (minutes := b.minutes)
    unfold startsB at hs
    rcases List.mem_append.1 hs with hs | hs
    · split at hs
      · rename_i h
        simp only [List.mem_singleton] at hs
        subst hs
        have h1 : 0 ≤ upD (force M b.weight b.minutes leak) (b.load + b.off) := Int.ediv_nonneg (by omega) (by omega)
        have h2 : upD (force M b.weight b.minutes leak) (b.load + b.off) ≤ force M b.weight b.minutes leak + (b.load + b.off) - 1 := Int.ediv_le_self _ (by omega)
        omega
      · simp at hs
    · split at hs
      · rename_i h
        simp only [List.mem_singleton] at hs
        subst hs
        have h1 : 0 ≤ force M b.weight b.minutes leak / (b.load - b.off) := Int.ediv_nonneg (by omega) (by omega)
        have h2 : force M b.weight b.minutes leak / (b.load - b.off) ≤ force M b.weight b.minutes leak := Int.ediv_le_self _ (by omega)
        omega
      · simp at hs
/-- A row of numbers that is the call's own, sorted by the library. -/
theorem sort_own {w : World} {base : Nat} {A : Option Addr} {cap : Nat} {xs : List Int} (h : w.ownsRow base 3 1 (.slice A xs.length cap) xs.length (xs.map (Value.int .i64))) (hlen : xs.length ≤ 4096) :
    Calls Try.prog 86 #[.slice A xs.length cap] w fun e w' => e = .returned (.tuple #[]) ∧ w'.ownsRow base 3 1 (.slice A xs.length cap) xs.length ((xs.mergeSort fun x y => decide (x ≤ y)).map (Value.int .i64)) ∧ KeptBut (fun k => base ≤ k) w w' := by
  have hl : (xs.mergeSort fun x y => decide (x ≤ y)).length = xs.length := (List.mergeSort_perm _ _).length_eq
  rcases h.2 with ⟨hv, h0⟩ | ⟨g, cap', cur, hv, hb, hg, hn, hm, hs, ht⟩
  · have : xs = [] := List.length_eq_zero_iff.1 h0
    subst this
    refine (Try.slices_Sort_int_none A cap w).mono ?_
    rintro e w' ⟨rfl, rfl⟩
    exact ⟨rfl, by simpa using h, KeptBut.refl _ _⟩
  · injection hv with h1 h2 h3
    subst h1; subst h3
    refine (Try.slices_Sort_int g 0 cap xs w (holds_of_blockI hg (by rw [Nat.mul_one] at ht; exact ht)) (heap_lt hg) (by omega)).mono ?_
    rintro e w' ⟨rfl, n, os, rfl⟩
    have hgr := grownBy_sortedI (w := w) (g := g) (n := n) (os := os) (xs.mergeSort fun x y => decide (x ≤ y)).toArray
    exact ⟨rfl, ownsRow_sortedI hl hb hg hn hm hs, ⟨hgr.os, hgr.tape, hgr.output, hgr.size, fun k hk ho => hgr.block k hk (fun e => ho (by injection e with e; omega))⟩⟩
/-- What memory holds of spans. -/
def spCells (ps : List (Int × Int)) : List Value := qCells ps
def SpansAt (B : Nat) (w : World) (v : Value) (ps : List (Int × Int)) : Prop := ArmsAt B w v ps
theorem spans_of_own {w : World} {base : Nat} {v : Value} {ps : List (Int × Int)} (h : w.ownsRow base 24 2 v ps.length (qCells ps)) : ArmsAt w.heap.size w v ps := by
  obtain ⟨_, ⟨rfl, h0⟩ | ⟨g, cap, cur, rfl, _, hg, hn, hm, hs, ht⟩⟩ := h
  · exact ⟨none, 0, 0, 0, by rw [h0], by omega, by unfold maxLen; omega, fun h => by omega, fun i hi => by omega⟩
  · refine ⟨_, cap, g, 0, rfl, hn, hm, fun _ => ⟨rfl, (Array.getElem?_eq_some_iff.1 hg).1⟩, fun i hi => ?_⟩
    have hat := qCells_at ps hi
    rw [← ht] at hat
    rw [List.getElem?_take_of_lt (by omega), List.getElem?_take_of_lt (by omega)] at hat
    simp only [Nat.zero_add, World.cell?, hg, Option.isSome_none, Bool.false_eq_true, if_false]
    rw [Array.getElem?_toList, Array.getElem?_toList] at hat
    exact hat
end Go.Proofs.Ytomcjopcfdllgaa
