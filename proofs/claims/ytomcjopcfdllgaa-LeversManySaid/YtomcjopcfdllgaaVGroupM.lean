/-
  Levers: the spans within which the same balances are right, one after the other.
  Levers: a group of settings, as the program returns it.
-/
import Derived.Test.YtomcjopcfdllgaaVWork
import Derived.Test.YtomcjopcfdllgaaVSrc
import Derived.Test.YtomcjopcfdllgaaVShelf
import Derived.Sort.OwnSortedInts
import Derived.Test.YtomcjopcfdllgaaVFactsK

namespace Go.Proofs.Ytomcjopcfdllgaa
open Go.RowKit Go.Shelf

/-- One more start: where the next span begins, and the spans so far. -/
def spanStep (high : Int) (s : Int × List (Int × Int)) (x : Int) : Int × List (Int × Int) := if min x (high + 1) > s.1 then (min x (high + 1), s.2 ++ [(s.1, min x (high + 1) - 1)]) else s
def spanFold (high low : Int) (l : List Int) : Int × List (Int × Int) := l.foldl (spanStep high) (low, [])
theorem span_acc (high : Int) : ∀ (l : List Int) (low : Int) (acc : List (Int × Int)), (l.foldl (spanStep high) (low, acc)).2 = acc ++ (l.foldl (spanStep high) (low, [])).2
  | [], low, acc => by simp
  | x :: l, low, acc => by
    simp only [List.foldl_cons, spanStep]
    split
    · rw [span_acc high l _ (acc ++ _), span_acc high l _ ([] ++ _)]
      simp
    · rw [span_acc high l]
theorem span_fold (high : Int) : ∀ (l : List Int) (low : Int), (spanFold high low (l ++ [high + 1])).2 = spansL high low l
  | [], low => by
    simp only [spanFold, List.nil_append, List.foldl_cons, List.foldl_nil, spanStep, spansL]
    rw [show min (high + 1) (high + 1) = high + 1 by omega, show high + 1 - 1 = high by omega]
    split <;> rfl
  | x :: l, low => by
    have ih := fun low => span_fold high l low
    unfold spanFold at ih ⊢
    simp only [List.cons_append, List.foldl_cons, spanStep, spansL]
    split
    · rw [span_acc, ih]; rfl
    · exact ih low
theorem spanFold_snoc (high low : Int) (l : List Int) (x : Int) : spanFold high low (l ++ [x]) = spanStep high (spanFold high low l) x := by simp [spanFold]
theorem spanFold_low {high low : Int} (h : low ≤ high + 1) : ∀ l : List Int, low ≤ (spanFold high low l).1 ∧ (spanFold high low l).1 ≤ high + 1 := fun l => by
  have h1 : ∀ (l : List Int) (a : Int) (acc : List (Int × Int)), low ≤ a → a ≤ high + 1 → low ≤ (l.foldl (spanStep high) (a, acc)).1 ∧ (l.foldl (spanStep high) (a, acc)).1 ≤ high + 1 := fun l => by
    induction l with
    | nil => intro a acc h1 h2; exact ⟨h1, h2⟩
    | cons x l ih =>
      intro a acc h1 h2
      rw [List.foldl_cons]
      unfold spanStep
      split
      · exact ih _ _ (by dsimp at *; omega) (by omega)
      · exact ih _ _ h1 h2
  exact h1 l low [] (Int.le_refl _) h
theorem spanFold_len {high low : Int} : ∀ l : List Int, (spanFold high low l).2.length ≤ l.length := fun l => by
  have h1 : ∀ (l : List Int) (a : Int) (acc : List (Int × Int)), (l.foldl (spanStep high) (a, acc)).2.length ≤ acc.length + l.length := fun l => by
    induction l with
    | nil => intro a acc; simp
    | cons x l ih =>
      intro a acc
      rw [List.foldl_cons]
      have h3 := ih (spanStep high (a, acc) x).1 (spanStep high (a, acc) x).2
      have h4 : (spanStep high (a, acc) x).2.length ≤ acc.length + 1 := by unfold spanStep; split <;> simp
      rw [List.length_cons]
      have h5 : (List.foldl (spanStep high) (spanStep high (a, acc) x) l) = (List.foldl (spanStep high) ((spanStep high (a, acc) x).1, (spanStep high (a, acc) x).2) l) := rfl
      rw [h5]
      omega
  have := h1 l low []
  simpa [spanFold] using this
/-- The starts of the first k balances. -/
def startsTo (M : Mach) (leak : Int) (k : Nat) : List Int := lowP M :: (M.bals.take k).flatMap (startsB M leak)
theorem startsTo_all (M : Mach) (leak : Int) : startsTo M leak M.bals.length = startsL M leak := by rw [startsTo, List.take_length]; rfl
theorem startsTo_succ {M : Mach} {leak : Int} {k : Nat} (h : k < M.bals.length) : startsTo M leak (k + 1) = startsTo M leak k ++ startsB M leak (bnth M.bals k) := by
  rw [startsTo, List.take_succ_eq_append_getElem h, ← bnth_lt h]
  simp [startsTo]
theorem startsB_len (M : Mach) (leak : Int) (b : Bal) : (startsB M leak b).length ≤ 2 := by
  unfold startsB
  rw [List.length_append]
  split <;> split <;> simp
theorem startsTo_len (M : Mach) (leak : Int) : ∀ k, (startsTo M leak k).length ≤ 1 + 2 * k := fun k => by
  have h1 : ∀ l : List Bal, (l.flatMap (startsB M leak)).length ≤ 2 * l.length := fun l => by
    induction l with
    | nil => simp
    | cons b l ih => rw [List.flatMap_cons, List.length_append, List.length_cons]; have := startsB_len M leak b; omega
  have h2 := h1 (M.bals.take k)
  have h3 := List.length_take_le k M.bals
  unfold startsTo
  rw [List.length_cons]
  omega
/-- All starts are small enough. -/
theorem starts_ok {M : Mach} (hV : ValidM M) {leak : Int} (hk : 0 ≤ leak) : ∀ k, ∀ s ∈ startsTo M leak k, 0 ≤ s ∧ s ≤ 100000000000000 := fun k s hs => by
  unfold startsTo at hs
  rcases List.mem_cons.1 hs with rfl | hs
  · have h1 := low_pos hV
    have h0 := short_ok hV 0
    have h2 := short_ok hV 1
    have h3 := short_ok hV 2
    have h4 : (shortOf M.levers 1).1 * (shortOf M.levers 2).1 ≤ 1000 * 1000 := mul_mono (by omega) (by omega) (by omega) (by omega)
    have h5 : 0 ≤ (shortOf M.levers 1).1 * (shortOf M.levers 2).1 := Int.mul_nonneg (by omega) (by omega)
    have h6 : lowP M ≤ 1000 * (1000 * 1000) := mul_mono (by omega) h5 (by omega) h4
    omega
  · obtain ⟨b, hb, hs⟩ := List.mem_flatMap.1 hs
    have hv := hV.bal b (List.mem_of_mem_take hb)
    obtain ⟨f1, f2⟩ := force_ok hV hv.1 hv.2.1.1 hk (minutes := b.minutes)
    unfold startsB at hs
    rcases List.mem_append.1 hs with hs | hs
    · split at hs
      · rename_i h
        simp only [List.mem_singleton] at hs
        subst hs
        have h1 : 0 ≤ upD (force M b.weight b.minutes leak) (b.load + b.off) := Int.ediv_nonneg (by omega) (by omega)
        have h2 : upD (force M b.weight b.minutes leak) (b.load + b.off) ≤ force M b.weight b.minutes leak + (b.load + b.off) - 1 := Int.ediv_le_self _ (by omega)
        omega
      · simp at hs
    · split at hs
      · rename_i h
        simp only [List.mem_singleton] at hs
        subst hs
        have h1 : 0 ≤ force M b.weight b.minutes leak / (b.load - b.off) := Int.ediv_nonneg (by omega) (by omega)
        have h2 : force M b.weight b.minutes leak / (b.load - b.off) ≤ force M b.weight b.minutes leak := Int.ediv_le_self _ (by omega)
        omega
      · simp at hs
/-- A row of numbers that is the call's own, sorted by the library. -/
theorem sort_own {w : World} {base : Nat} {A : Option Addr} {cap : Nat} {xs : List Int} (h : w.ownsRow base 3 1 (.slice A xs.length cap) xs.length (xs.map (Value.int .i64))) (hlen : xs.length ≤ 4096) :
    Calls Try.prog 86 #[.slice A xs.length cap] w fun e w' => e = .returned (.tuple #[]) ∧ w'.ownsRow base 3 1 (.slice A xs.length cap) xs.length ((xs.mergeSort fun x y => decide (x ≤ y)).map (Value.int .i64)) ∧ KeptBut (fun k => base ≤ k) w w' := by
  have hl : (xs.mergeSort fun x y => decide (x ≤ y)).length = xs.length := (List.mergeSort_perm _ _).length_eq
  rcases h.2 with ⟨hv, h0⟩ | ⟨g, cap', cur, hv, hb, hg, hn, hm, hs, ht⟩
  · have : xs = [] := List.length_eq_zero_iff.1 h0
    subst this
    refine (Try.slices_Sort_int_none A cap w).mono ?_
    rintro e w' ⟨rfl, rfl⟩
    exact ⟨rfl, by simpa using h, KeptBut.refl _ _⟩
  · injection hv with h1 h2 h3
    subst h1; subst h3
    refine (Try.slices_Sort_int g 0 cap xs w (holds_of_blockI hg (by rw [Nat.mul_one] at ht; exact ht)) (heap_lt hg) (by omega)).mono ?_
    rintro e w' ⟨rfl, n, os, rfl⟩
    have hgr := grownBy_sortedI (w := w) (g := g) (n := n) (os := os) (xs.mergeSort fun x y => decide (x ≤ y)).toArray
    exact ⟨rfl, ownsRow_sortedI hl hb hg hn hm hs, ⟨hgr.os, hgr.tape, hgr.output, hgr.size, fun k hk ho => hgr.block k hk (fun e => ho (by injection e with e; omega))⟩⟩
/-- What memory holds of spans. -/
def spCells (ps : List (Int × Int)) : List Value := qCells ps
def SpansAt (B : Nat) (w : World) (v : Value) (ps : List (Int × Int)) : Prop := ArmsAt B w v ps
theorem spans_of_own {w : World} {base : Nat} {v : Value} {ps : List (Int × Int)} (h : w.ownsRow base 24 2 v ps.length (qCells ps)) : ArmsAt w.heap.size w v ps := by
  obtain ⟨_, ⟨rfl, h0⟩ | ⟨g, cap, cur, rfl, _, hg, hn, hm, hs, ht⟩⟩ := h
  · exact ⟨none, 0, 0, 0, by rw [h0], by omega, by unfold maxLen; omega, fun h => by omega, fun i hi => by omega⟩
  · refine ⟨_, cap, g, 0, rfl, hn, hm, fun _ => ⟨rfl, (Array.getElem?_eq_some_iff.1 hg).1⟩, fun i hi => ?_⟩
    have hat := qCells_at ps hi
    rw [← ht] at hat
    rw [List.getElem?_take_of_lt (by omega), List.getElem?_take_of_lt (by omega)] at hat
    simp only [Nat.zero_add, World.cell?, hg, Option.isSome_none, Bool.false_eq_true, if_false]
    rw [Array.getElem?_toList, Array.getElem?_toList] at hat
    exact hat
end Go.Proofs.Ytomcjopcfdllgaa

namespace Go.Proofs.Ytomcjopcfdllgaa
open Go.RowKit

theorem len_more {n : Nat} {vs : List Value} (h : vs.length = n + 1) : ∃ v t, vs = v :: t ∧ t.length = n := by
  cases vs with
  | nil => simp at h
  | cons v t => exact ⟨v, t, rfl, by simpa using h⟩
theorem used_map {α : Type} (f : Nat → Nat) (v : Nat → α) : ∀ n, usedL f v n = (usedL f id n).map v
  | 0 => rfl
  | n + 1 => by
    simp only [usedL]
    split
    · rw [used_map f v n, List.map_append]; rfl
    · exact used_map f v n
/-- The value of a group. -/
def grpV (M : Mach) (lev : Nat) (g : Grp) : Value :=
  .agg #[.int .i64 (armOf lev g.arm (pairAt (shortOf M.levers ((lev + 1) % 3)) (shortOf M.levers ((lev + 2) % 3)) g.i) 0), .int .i64 (armOf lev g.arm (pairAt (shortOf M.levers ((lev + 1) % 3)) (shortOf M.levers ((lev + 2) % 3)) g.i) 1), .int .i64 (armOf lev g.arm (pairAt (shortOf M.levers ((lev + 1) % 3)) (shortOf M.levers ((lev + 2) % 3)) g.i) 2), .int .i64 g.leak,
    .int .i64 (armOf lev g.arm (pairAt (shortOf M.levers ((lev + 1) % 3)) (shortOf M.levers ((lev + 2) % 3)) g.j) 0), .int .i64 (armOf lev g.arm (pairAt (shortOf M.levers ((lev + 1) % 3)) (shortOf M.levers ((lev + 2) % 3)) g.j) 1), .int .i64 (armOf lev g.arm (pairAt (shortOf M.levers ((lev + 1) % 3)) (shortOf M.levers ((lev + 2) % 3)) g.j) 2), .int .i64 g.leak,
    .int .i64 (g.many : Nat)]
def fromF (B D : Int × Int) (a : Int) (p : Int × Int) : Nat := posTo (wayN B D) (clampN B D (upD p.1 a))
def endF (B D : Int × Int) (a : Int) (p : Int × Int) : Nat := posTo (wayN B D) (clampN B D (p.2 / a + 1))
theorem ends_le (B D : Int × Int) (a : Int) (p : Int × Int) : fromF B D a p ≤ (armsOf B D).length ∧ endF B D a p ≤ (armsOf B D).length := by
  unfold armsOf fromF endF
  rw [used_len]
  exact ⟨posTo_mono (clamp_le _ _ _), posTo_mono (clamp_le _ _ _)⟩
theorem arms_at {B D : Int × Int} (i : Nat) (h : i < (armsOf B D).length) : (armsOf B D).getD i (0, 0) = pairAt B D (((usedL (wayN B D) id (roomN B D))[i]?).getD 0) := by
  unfold armsOf at h ⊢
  rw [used_map] at h ⊢
  rw [List.length_map] at h
  rw [List.getD_eq_getElem?_getD, List.getElem?_map, List.getElem?_eq_getElem h]
  rfl
/-- The ends and the number of a group that is not empty. -/
theorem group_vals {B D : Int × Int} (hB : 1 ≤ B.1) (hD : 1 ≤ D.1) {a : Int} (ha : 1 ≤ a) {p : Int × Int} :
    (0 < groupN B D a p ↔ fromF B D a p < endF B D a p) ∧ (0 < groupN B D a p → (armsOf B D).getD (fromF B D a p) (0, 0) = pairAt B D (firstI B D p a) ∧ (armsOf B D).getD (endF B D a p - 1) (0, 0) = pairAt B D (lastI B D p a) ∧
      nth (manyI B D) (endF B D a p) - nth (manyI B D) (fromF B D a p) = (groupN B D a p : Nat) ∧ endF B D a p < (manyI B D).length ∧ fromF B D a p < (manyI B D).length) := by
  obtain ⟨h1, h2⟩ := group_none hB hD ha (p := p)
  obtain ⟨h3, h4⟩ := ends_le B D a p
  refine ⟨h1, fun h => ?_⟩
  have h5 := h1.1 h
  have h6 : fromF B D a p < endF B D a p := h5
  have hml : (manyI B D).length = (armsOf B D).length + 1 := by unfold manyI armsOf; rw [List.length_map, many_len, used_len]
  have hat : ∀ n : Int, nth (manyI B D) (posTo (wayN B D) (clampN B D n)) = (sumTo (wayN B D) (clampN B D n) : Nat) := fun n => by
    have := many_at (wayN B D) (clamp_le B D n)
    rw [manyI, nth, List.getD_eq_getElem?_getD, List.getElem?_map, this]
    rfl
  refine ⟨?_, ?_, ?_, by omega, by omega⟩
  · rw [arms_at _ (by omega)]; rfl
  · rw [arms_at _ (by omega)]; rfl
  · have e1 := hat (p.2 / a + 1)
    have e2 := hat (upD p.1 a)
    have e3 := h2 h
    unfold endF fromF
    rw [e1, e2, e3]
    omega
theorem group_le {B D : Int × Int} (hB : 1 ≤ B.1 ∧ B.2 ≤ 1000) (hD : 1 ≤ D.1 ∧ D.2 ≤ 1000) (a : Int) (p : Int × Int) : groupN B D a p ≤ 1000000 := by
  unfold groupN
  exact Nat.le_trans (List.length_filter_le _ _) (pairs_le hB hD)
theorem room_le {B D : Int × Int} (hB : 1 ≤ B.1 ∧ B.1 ≤ B.2 ∧ B.2 ≤ 1000) (hD : 1 ≤ D.1 ∧ D.1 ≤ D.2 ∧ D.2 ≤ 1000) : roomN B D ≤ 1000000 ∧ 0 ≤ B.1 * D.1 ∧ B.1 * D.1 ≤ 1000000 := by
  have h1 : B.2 * D.2 ≤ 1000 * 1000 := mul_mono (by omega) (by omega) hB.2.2 hD.2.2
  have h2 : (1 : Int) * 1 ≤ B.1 * D.1 := mul_mono (by omega) (by omega) hB.1 hD.1
  have h3 : B.1 * D.1 ≤ B.2 * D.2 := mul_mono (by omega) (by omega) hB.2.1 hD.2.1
  unfold roomN
  omega
/-- A cell of arms. -/
theorem ArmsAt.at {B : Nat} {w : World} {v : Value} {ps : List (Int × Int)} (h : ArmsAt B w v ps) {i : Nat} (hi : i < ps.length) : ∃ b off cap, v = .slice (some ⟨b, off, none⟩) ps.length cap ∧ b < B ∧ w.cell? ⟨b, off + i * 2, none⟩ = some (.int .i64 (ps.getD i (0, 0)).1) ∧ w.cell? ⟨b, off + i * 2 + 1, none⟩ = some (.int .i64 (ps.getD i (0, 0)).2) := by
  obtain ⟨a, cap, b, off, rfl, hl, hm, ha, hc⟩ := h
  obtain ⟨rfl, hb⟩ := ha (by omega)
  exact ⟨b, off, cap, rfl, hb, hc i hi⟩
end Go.Proofs.Ytomcjopcfdllgaa
