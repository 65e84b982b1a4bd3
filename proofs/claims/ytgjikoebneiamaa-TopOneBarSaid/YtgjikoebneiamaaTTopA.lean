/-
  Through the layers: the bars of a cable that is welded of the pieces of a plan (P0.10): the law's body.
-/
import Derived.Test.YtgjikoebneiamaaTTopM
import Derived.Test.YtgjikoebneiamaaTBase2
import Derived.Test.YtgjikoebneiamaaLWorks
import Derived.Test.YtgjikoebneiamaaLVals
import Derived.Test.YtgjikoebneiamaaLSrc
import Derived.Deep.DeepCutAuto
namespace Go.Proofs.Ytgjikoebneiamaa
open Go.RowKit Go.Shelf

theorem top_info : (Try.prog.info? 55).map (fun i => (i.zero, i.size, i.bytes)) = some (some (.agg #[.int .i64 0, .int .i64 0, .int .i64 0, .int .i64 0, .int .i64 0]), 5, 40) := by kernel_rfl
theorem top_cells (ds : List Deed) (d : Deed) : dcells (ds ++ [d]) (ds.length + 1) = dcells ds ds.length ++ [.int .i64 d.what, .int .i64 d.at_, .int .i64 d.from_, .int .i64 d.bar, .int .i64 d.smith] := by
  have hold : ∀ i, i < ds.length → dnth (ds ++ [d]) i = dnth ds i := fun i hi => by simp [dnth, List.getD_eq_getElem?_getD, List.getElem?_append_left hi]
  have hnew : dnth (ds ++ [d]) ds.length = d := by simp [dnth]
  apply List.ext_getElem?
  intro j
  by_cases hj : j < ds.length * 5
  · have hr : j % 5 < 5 := Nat.mod_lt _ (by omega)
    have e : j = j / 5 * 5 + j % 5 := by omega
    rw [List.getElem?_append_left (by rw [dcells_len]; exact hj), e, dcells_at _ (by omega) hr, dcells_at _ (by omega) hr, hold _ (by omega)]
  · rw [List.getElem?_append_right (by rw [dcells_len]; omega), dcells_len]
    by_cases hj2 : j < ds.length * 5 + 5
    · obtain ⟨r, rfl⟩ : ∃ r, j = ds.length * 5 + r := ⟨j - ds.length * 5, by omega⟩
      have hr : r < 5 := by omega
      rw [dcells_at _ (by omega) hr, hnew, show ds.length * 5 + r - ds.length * 5 = r by omega]
      match r, hr with
      | 0, _ | 1, _ | 2, _ | 3, _ | 4, _ => rfl
    · rw [List.getElem?_eq_none (by rw [dcells_len]; omega), List.getElem?_eq_none (by simp; omega)]
theorem top_more (l : List Int) (k : Nat) : dcells (topD l (k + 1)) (k + 1) = dcells (topD l k) k ++ [.int .i64 1, .int .i64 k, .int .i64 0, .int .i64 (nth l k), .int .i64 k] := by
  have h := top_cells (topD l k) ⟨1, k, 0, nth l k, k⟩
  rw [topD_len] at h
  rw [topD_snoc, h]

theorem top_below {w w' : World} {base : Nat} {e : TypeId} {size : Nat} {v : Value} {n : Nat} {xs : List Value} (h : w.ownsRow base e size v n xs) (hb : Below w.heap.size w w') : w'.ownsRow base e size v n xs :=
  h.kept (row := none) ⟨hb.os, hb.tape, hb.output, hb.size, fun k hk _ => hb.block k hk⟩ (by cases hv : v.ownBlock <;> simp)
/-- What is told of a store whose plan there is, or is not. -/
theorem Plan_some {v : Value} {S : Tb.Store} {w : World} {L : List Int} {y : Int} (hL : Tb.planS S = L) (hy : Tb.errN (Tb.truthsL S).length = y) (hx : Tb.StoreAt w.heap.size w v S) (hV : Tb.Valid S) :
    Calls Try.prog 62 #[v] w fun e w' => ∃ q, e = .returned (.tuple #[q, .int .i64 y]) ∧ IntsAt w'.heap.size w' q L ∧ Below w.heap.size w w' := by
  subst hL hy
  exact (Tb.Plan_any v S w hx hV).mono fun _ _ ⟨q, h1, h2, h3⟩ => ⟨q, h1, h2, h3⟩
theorem Least_some {v : Value} {S : Tb.Store} {w : World} {x y : Int} (hL : Tb.leastS S = x) (hy : Tb.errN (Tb.truthsL S).length = y) (hx : Tb.StoreAt w.heap.size w v S) (hV : Tb.Valid S) :
    Calls Try.prog 63 #[v] w fun e w' => e = .returned (.tuple #[.int .i64 x, .int .i64 y]) ∧ Below w.heap.size w w' := by
  subst hL hy
  exact Tb.Least_any v S w hx hV
theorem bAlike_some {v : Value} {S : Tb.Store} {w : World} {p r : Nat} {x : Int} (h1 : (Tb.alikeV S p r).1 = x) (h2 : (Tb.alikeV S p r).2 = 0) (hx : Tb.StoreAt w.heap.size w v S) (hV : Tb.Valid S) (hp : p < S.pieces.length) (hr : r < S.pieces.length) :
    Calls Try.prog 64 #[v, .int .i64 p, .int .i64 r] w fun e w' => e = .returned (.tuple #[.int .i64 x, .int .i64 0]) ∧ Below w.heap.size w w' := by
  subst h1
  have := Tb.Alike_any v S p r w hx hV hp hr
  rwa [h2] at this
theorem top_Bars {a a2 : Option Addr} {n m cap cap2 : Nat} {l : List Int} {p : Nat} {x : Int} {w : World} (hp : p < l.length) (hx0 : nth l p = x) (hn : n = l.length) (hm : m = 0) (hV : validB (topC l) = true)
    (hx : ChainAt w.heap.size w (.agg #[.slice a n cap, .slice a2 m cap2, .int .i64 0]) (topC l)) :
    Calls Try.prog 27 #[.agg #[.slice a n cap, .slice a2 m cap2, .int .i64 0], .int .i64 p] w fun e w' => ∃ v, e = .returned (.tuple #[v, .int .i64 0]) ∧ IntsAt w'.heap.size w' v [x] ∧ Below w.heap.size w w' := by
  subst hx0
  have hl12 := (valid_iff.1 hV).nd
  simp only [topC, topD_len] at hl12
  exact Bars_v (C := topC l) (top_bars hp) (top_bars_e hp) (by simp only [topC, topD_len]; exact hn) (by simp only [topC, List.length_nil]; exact hm) hx hV (by unfold I64; omega)
theorem top_Alike {a a2 : Option Addr} {cap cap2 n m : Nat} {l : List Int} {p q : Nat} {x : Int} {w : World} (hp : p < l.length) (hq : q < l.length) (hx0 : (if nth l p = nth l q then (1 : Int) else 2) = x) (hn : n = l.length) (hm : m = 0) (hV : validB (topC l) = true)
    (hx : ChainAt w.heap.size w (.agg #[.slice a n cap, .slice a2 m cap2, .int .i64 0]) (topC l)) :
    Calls Try.prog 38 #[.agg #[.slice a n cap, .slice a2 m cap2, .int .i64 0], .int .i64 p, .int .i64 q] w fun e w' => e = .returned (.tuple #[.int .i64 x, .int .i64 0]) ∧ Below w.heap.size w w' := by
  have e1 : n = (topC l).deeds.length := by simp only [topC, topD_len]; exact hn
  have e2 : m = (topC l).sights.length := by simp only [topC, List.length_nil]; exact hm
  subst e1 e2
  have hle : ∀ i, i < l.length → (i : Int) < lenTo (topC l).deeds (topC l).deeds.length := fun i hi => by
    show (i : Int) < lenTo (topD l l.length) (topD l l.length).length
    rw [topD_len, top_len l _ _ (Nat.le_refl _)]
    omega
  have := Alike_ok a a2 cap cap2 (topC l) p q w hx hV (hle p hp) (hle q hq)
  rwa [top_alike hp hq, hx0, show noneE (truthsP (topC l)).length = 0 by rw [top_truths]; rfl] at this
theorem far_few {S : Tb.Store} (h : Tb.farB S = false) (hv : Tb.validB S = true) : S.bars.length ≤ 4 ∧ S.pieces.length ≤ 5 := by
  simp only [Tb.farB, hv, Bool.true_and, Bool.or_eq_false_iff, decide_eq_false_iff_not] at h
  omega

set_option maxRecDepth 100000 in
set_option maxHeartbeats 4000000 in
theorem made_any (w : World) : Calls Try.prog 61 #[] w fun e w' => e = .returned (.bool true) ∧ Below w.heap.size w w' := by
  go_enter Try.func61, Try.ntmps61
  go_wp2_with fail
  refine (Example_any _).mono ?_
  rintro e w1 ⟨g, t, rfl, hg, hle, hb1⟩
  have HG := Lib.hid hg
  have HB1 := Lib.hid hb1
  clear hg hb1
  simp only [sV, exS, exT]
  go_wp2_with fail
  obtain ⟨W, hW⟩ : ∃ W, W = ((w1.alloc (.cells #[.slice (some ⟨g, 0, none⟩) 6 6, .slice none 0 0, .int .i64 0] 25)).alloc (.cells #[.int .i64 6, .int .i64 1, .int .i64 0, .int .i64 6, .int .i64 (-1)] 60)).alloc (.cells #[.int .i64 6, .int .i64 0, .int .i64 0, .int .i64 (-1), .int .i64 1] 60) := ⟨_, rfl⟩
  have h3 := heap3 w1 (.cells #[.slice (some ⟨g, 0, none⟩) 6 6, .slice none 0 0, .int .i64 0] 25) (.cells #[.int .i64 6, .int .i64 1, .int .i64 0, .int .i64 6, .int .i64 (-1)] 60) (.cells #[.int .i64 6, .int .i64 0, .int .i64 0, .int .i64 (-1), .int .i64 1] 60)
  rw [← hW] at h3 ⊢
  clear hW
  obtain ⟨e0, _, _, hb, _⟩ := h3
  have HS0 := Lib.hid (show LStat w1 W w1.heap.size (.slice (some ⟨g, 0, none⟩) 6 6) (.slice none 0 0) (.int .i64 0) exK from ⟨e0, exK_at ((hb.block g (heap_lt HG.out)).trans HG.out), hb⟩)
  have HB0 := Lib.hid (HB1.out.trans (hb.mono HB1.out.size))
  clear hb e0
  refine (Tb.Example_any _).mono ?_
  rintro e w2 ⟨v2, rfl, hx2, hb⟩
  have HX2 := Lib.hid hx2
  have HS2 := Lib.hid (HS0.out.next hb)
  have HB2 := Lib.hid (HB0.out.trans (hb.mono HB0.out.size))
  clear hb hx2
  go_wp2_with fail
  refine (Tb.LeastE _ _ HX2.out).mono ?_
  rintro e w3 ⟨rfl, hb⟩
  have HS3 := Lib.hid (HS2.out.next hb)
  have HB3 := Lib.hid (HB2.out.trans (hb.mono HB2.out.size))
  clear hb
  obtain ⟨c0, c1, c2⟩ := HS3.out.cells
  go_wp2_with fail
  refine (WhoK HS3.out.st).mono ?_
  rintro e w4 ⟨v4, rfl, hv4, hb⟩
  obtain ⟨a4, k4, b4, o4, rfl, _⟩ := hv4.opened
  have HV4 := Lib.hid hv4
  have HB4 := Lib.hid (HB3.out.trans (hb.mono HB3.out.size))
  clear hb hv4 c0 c1 c2
  go_wp2_with fail
  refine (SameInts_to (r := true) (by decide) (HV4.out.below ((Below.refl _ w4).alloc (Nat.le_refl _) (.cells #[.int .i64 1, .int .i64 2] 3))) (ints_lit (B := w4.heap.size + 1) (xs := [1, 2]) (heap_new w4 _) (by omega) rfl (lit2 _ _) (by intro x hx; simp at hx; unfold I64; omega))).mono ?_
  rintro e w5 ⟨rfl, hb⟩
  have HB5 := Lib.hid (show Below w.heap.size w w5 from (HB4.out.alloc HB4.out.size _).trans (hb.mono (by have := HB4.out.size; simp; omega)))
  clear hb
  go_wp2
  go_ret
  exact ⟨rfl, HB5.out⟩

end Go.Proofs.Ytgjikoebneiamaa
