/-
  Fewest: the least number of wrong marks in a sawing that fits.
-/
import Derived.Test.YtjflpmhlodgadaaPlan
import Derived.Stop.RegionWithIn
namespace Go.Proofs.Ytjflpmhlodgadaa
open Go.RowKit Go.Shelf

attribute [local go_sem] Oper.semAt_some

def fewF (S : Store) (xs : List (List Int)) : Int := xs.foldl (fun m x => min m (wrongs S x)) S.pieces.length
theorem fewF_snoc (S : Store) (xs : List (List Int)) (x : List Int) : fewF S (xs ++ [x]) = min (fewF S xs) (wrongs S x) := by simp [fewF]
theorem wrongs_nonneg (S : Store) (x : List Int) : 0 ≤ wrongs S x := (wrongsTo_le S x x.length).1
theorem foldl_min (S : Store) : ∀ (xs : List (List Int)) (m : Int), xs.foldl (fun m x => min m (wrongs S x)) m ≤ m ∧ (0 ≤ m → 0 ≤ xs.foldl (fun m x => min m (wrongs S x)) m)
  | [], m => ⟨Int.le_refl _, fun h => h⟩
  | x :: xs, m => by
    have h := foldl_min S xs (min m (wrongs S x))
    have h2 := wrongs_nonneg S x
    simp only [List.foldl_cons]
    exact ⟨by omega, fun h0 => h.2 (by omega)⟩
theorem fewF_zero {S : Store} {pre xs : List (List Int)} (h : pre <+: xs) (hz : fewF S pre = 0) : fewF S xs = 0 := by
  obtain ⟨t, rfl⟩ := h
  have := foldl_min S t 0
  simp only [fewF, List.foldl_append] at *
  rw [hz]; omega
def fitL (S : Store) : List (List Int) := sawL S S.pieces.length S.pieces.length []
def fewV (S : Store) : Int × Int := if someB (fitL S) = true then (fewF S (fitL S), 0) else (0, 3)
theorem fewV_no {S : Store} (h : someB (sawL S S.pieces.length S.pieces.length []) = false) : fewV S = (0, 3) := by unfold fewV fitL; rw [h]; rfl
theorem fewV_yes {S : Store} (h : someB (sawL S S.pieces.length S.pieces.length []) = true) : fewV S = (fewF S (sawL S S.pieces.length S.pieces.length []), 0) := by unfold fewV fitL; rw [h]; rfl
theorem someB_prefix {pre xs : List (List Int)} (h : pre <+: xs) (hp : someB pre = true) : someB xs = true := by
  obtain ⟨t, rfl⟩ := h
  cases pre with
  | nil => simp [someB] at hp
  | cons a l => simp [someB]

set_option maxRecDepth 100000 in
set_option maxHeartbeats 4000000 in
theorem Fewest_in (F : Fence) (hF : Hid (F = Fence.wide)) (hd : F.depth = none) (hro : F.round = none) (hfn : ∀ f, F.fn f) (n : Nat) (hn : 5 ≤ n) (v : Value) (S : Store) (w : World) (hx : StoreAt w.heap.size w v S) (hV : Valid S) :
    CallsIn F n Try.prog 17 #[v] w fun e w' => e = .returned (.tuple #[.int .i64 (fewV S).1, .int .i64 (fewV S).2]) ∧ Below w.heap.size w w' := by
  have hx' := hx
  obtain ⟨a, cap1, b1, off, a2, cap2, b2, off2, rfl, hm, hm2, HA, HC, HA2, HC2⟩ := hx.opened
  have HX := Lib.hid hx'
  have HV := Lib.hid hV
  have hnp := hV.np
  clear hx hx' hV HA HC HA2 HC2
  have HXB := fun o => Lib.hid ((HX.out.below ((Below.refl _ w).alloc (Nat.le_refl _) o)).mono (show w.heap.size ≤ (w.alloc o).heap.size by simp))
  have hmo : Try.prog.follows .mixedOrders = true := by kernel_rfl
  refine callsIn_of_wp_marks Try.func17 rfl (hfn _) ?_ hro
  simp only [Try.ntmps17, List.size_toArray, List.length_cons, List.length_nil, Nat.reduceAdd, Nat.reduceSub, Array.replicate_succ, Array.replicate_zero, List.push_toArray, List.append_toArray, List.nil_append, List.cons_append]
  gi_wp2_with fail
  refine (inF hF (check_ok (valid_iff.2 HV.out) (HXB _).out)).mono ?_
  rintro e w1 ⟨rfl, hb1⟩
  have hbl : Below (w.heap.size + 1) (w.alloc (.cells #[.slice a S.bars.length cap1, .int .i64 S.kerf, .slice a2 S.pieces.length cap2, .int .i64 S.wrong] 25)) w1 := hb1.mono (by simp)
  have hw := boxed hbl
  have hsz := boxed_size hbl
  obtain ⟨c0, c1, c2, c3⟩ := box4 hbl
  have HBX := Lib.hid ((hbl.block w.heap.size (by omega)).trans (heap_new w _))
  clear hb1
  have hlt1 : w.heap.size < w1.heap.size := by omega
  have hlt2 : w.heap.size < w1.heap.size + 1 := by omega
  gi_wp2_with (gi_at_call 61; refine (inF hF (sawings_any _ _ _ _ _ _ _ _ _ _)).mono ?_; rintro e w2 ⟨rfl, hb2, hs2, hq2⟩; have HB2 := Lib.hid hb2; have HS2 := Lib.hid hs2; have HQ2 := Lib.hid hq2; clear hb2 hs2 hq2)
  have hb2 := HB2.out
  have hs2 := HS2.out
  have hq2 := HQ2.out
  simp only [World.size_alloc] at hb2 hs2 hq2
  have hs2a : w1.heap.size + 4 ≤ w2.heap.size := by omega
  have hp2 := heap_at2 w1 (.cells #[.int .i64 S.pieces.length] 3) (.cells #[.bool false] 4)
  have hmp : w2.heap[w1.heap.size]? = some (.cells #[.int .i64 (fewF S [])] 3) := (hb2.block w1.heap.size (by omega)).trans hp2.1
  have hmf : w2.heap[w1.heap.size + 1]? = some (.cells #[.bool (someB [])] 4) := (hb2.block (w1.heap.size + 1) (by omega)).trans hp2.2
  have h12 : Below w1.heap.size w1 w2 := (below_at2 w1 _ _).trans (hb2.mono (by omega))
  have hw2 : Below w.heap.size w w2 := hw.trans (h12.mono (by omega))
  have HBX2 := Lib.hid ((h12.block _ (by omega)).trans HBX.out)
  clear hs2 hp2 hb2 c0 c1 c2 c3
  refine wpIn_saw F hF hd hro hfn (by omega) rfl w.heap.size _ S S.pieces.length HV (by omega) (by omega) (HX.out.below hw2) (by omega) hq2.1 hq2.2 rfl
    (fun k => k = w1.heap.size ∨ k = w1.heap.size + 1) (fun k hk => by omega)
    (fun pre W => W.heap[w1.heap.size]? = some (.cells #[.int .i64 (fewF S pre)] 3) ∧ W.heap[w1.heap.size + 1]? = some (.cells #[.bool (someB pre)] 4))
    (fun d pre W => d = .exit 0 ∧ W.heap[w1.heap.size]? = some (.cells #[.int .i64 0] 3) ∧ W.heap[w1.heap.size + 1]? = some (.cells #[.bool true] 4) ∧ fewF S pre = 0 ∧ someB pre = true)
    (fun s A A' row hs hg hr => ⟨own_heap hs.1 hg hr (by omega), own_heap hs.2 hg hr (by omega)⟩) (fun d s A A' row hs hg hr => ⟨hs.1, own_heap hs.2.1 hg hr (by omega), own_heap hs.2.2.1 hg hr (by omega), hs.2.2.2⟩) ⟨hmp, hmf⟩
    (fun tm x => { tmps := (tm.setIfInBounds 21 (.slice (some ⟨w2.heap.size + 2, 0, none⟩) x.length (capS S))).setIfInBounds 7 (.slice (some ⟨w2.heap.size + 2, 0, none⟩) x.length (capS S)), defers := [] }) ?assign ?body ?done ?stop
  case assign =>
    intro l x W K hK
    gi_wp2
    exact hK
  case body =>
    rintro l pre x W hpre ⟨hI1, hI2⟩ hkb hbuf
    have hsz := hkb.size
    have hbW := hbuf.lt
    have hxW := (HX.out.below (hw2.trans (hkb.below (by omega) (by omega)))).mono (show w.heap.size ≤ W.heap.size by omega)
    have hins := yielded_ints HV.out hpre hbuf (B := W.heap.size) hbW
    have hok := (yielded_ok hpre).1
    obtain ⟨c0, c1, c2, c3⟩ := box4_of (kept_heap hkb HBX2.out (by omega))
    obtain ⟨g0, g1⟩ := cell1_of hI1
    obtain ⟨g2, g3⟩ := cell1_of hI2
    have hcall : Calls Try.prog 60 #[.agg #[.slice a S.bars.length cap1, .int .i64 S.kerf, .slice a2 S.pieces.length cap2, .int .i64 S.wrong], .slice (some ⟨w2.heap.size + 2, 0, none⟩) x.length (capS S)] W.drew fun e w3 => e = .returned (.int .i64 (wrongs S x)) ∧ w3.heap[w1.heap.size]? = some (.cells #[.int .i64 (fewF S pre)] 3) ∧ w3.heap[w1.heap.size + 1]? = some (.cells #[.bool (someB pre)] 4) ∧ Below W.heap.size W w3 := by
      refine (wrongMarks_any _ _ S x _ (B := W.heap.size) (hxW.below (drew_below W)) (Nat.le_refl _) (hins.below (drew_below W)) hok).mono ?_
      rintro e w3 ⟨rfl, hb3⟩
      have hb : Below W.heap.size W w3 := (drew_below W).trans hb3
      exact ⟨rfl, (hb.block _ (by omega)).trans hI1, (hb.block _ (by omega)).trans hI2, hb⟩
    have HCALL := Lib.hid hcall
    have HNEXT := Lib.hid (fewF_snoc S pre x)
    have HSB := Lib.hid (someB_snoc pre x)
    clear hkb hI1 hI2 hins hok hpre hcall hbuf hxW
    gi_wp2
    gi_region_with (gi_at_call 60; refine (CallsIn.inRound l (inF hF HCALL.out)).mono ?_; rintro e w3 ⟨rfl, hi1, hi2, hb3⟩; obtain ⟨f0, f1⟩ := cell1_of hi1; obtain ⟨f2, f3⟩ := cell1_of hi2; have HI1 := Lib.hid hi1; have HI2 := Lib.hid hi2; have HB3 := Lib.hid hb3; clear hi1 hi2 hb3)
    all_goals gi_wp2
    all_goals
      rename_i hc
      have hA := fun (u u' : Value) => (heap_set_other (B' := w1.heap.size + 1) (o := 0) u' (heap_set (o := 0) u HI1.out) (by omega))
      have hB := fun (u u' : Value) => (heap_set (o := 0) u' (heap_set_other (B' := w1.heap.size) (o := 0) u HI2.out (by omega)))
      have HHA := Lib.hid hA
      have HHB := Lib.hid hB
      clear hA hB
      have hsb : someB (pre ++ [x]) = true := HSB.out
      first
      | (have hz : fewF S (pre ++ [x]) = 0 := by
           rw [HNEXT.out]
           simp only [beq_iff_eq] at hc
           split at hc <;> omega
         refine ⟨(KeptBut.of_below HB3.out).trans ((KeptBut.setCell _ _ _ (.inl rfl)).trans (KeptBut.setCell _ _ _ (.inr rfl))), rfl, ?_, HHB.out _ _, hz, hsb⟩
         refine (HHA.out _ _).trans ?_
         rw [HNEXT.out] at hz
         simp
         omega)
      | (refine ⟨(KeptBut.of_below HB3.out).trans ((KeptBut.setCell _ _ _ (.inl rfl)).trans (KeptBut.setCell _ _ _ (.inr rfl))), ?_, ?_⟩
         · refine (HHA.out _ _).trans ?_
           rw [HNEXT.out]
           simp
           omega
         · rw [hsb]
           exact HHB.out _ _)
  case done =>
    rintro D W hD hkb ⟨hI1, hI2⟩ hK
    have hfin : Below w.heap.size w (W.putObj D (.deferred none)) := (hw2.trans (hkb.below (by omega) (by omega))).trans (putObj_below _ _ (by omega))
    obtain ⟨d0, d1⟩ := cell1_of hI1
    obtain ⟨d2, d3⟩ := cell1_of hI2
    clear hI1 hI2 hkb
    cases hz : someB (sawL S S.pieces.length S.pieces.length [])
    · rw [hz] at d2
      have HZ := Lib.hid (fewV_no hz)
      clear hz
      gi_wp2
      refine ⟨by simp, .inl ⟨_, _, rfl, run_takeDeferred hK, ?_⟩⟩
      exact ⟨_, results_tmp2 rfl _ _ _, by rw [HZ.out]; rfl, hfin⟩
    · rw [hz] at d2
      have HZ := Lib.hid (fewV_yes hz)
      clear hz
      gi_wp2
      refine ⟨by simp, .inl ⟨_, _, rfl, run_takeDeferred hK, ?_⟩⟩
      exact ⟨_, results_tmp2 rfl _ _ _, by rw [HZ.out]; rfl, hfin⟩
  case stop =>
    rintro D c pre W hD hkb hpre ⟨rfl, hI1, hI2, hz, hs⟩ hK
    have hfin : Below w.heap.size w (W.putObj D (.deferred none)) := (hw2.trans (hkb.below (by omega) (by omega))).trans (putObj_below _ _ (by omega))
    obtain ⟨d0, d1⟩ := cell1_of hI1
    obtain ⟨d2, d3⟩ := cell1_of hI2
    have hv : fewV S = (0, 0) := by rw [fewV_yes (someB_prefix hpre hs), fewF_zero hpre hz]
    have HZ := Lib.hid hv
    clear hI1 hI2 hkb hpre hz hs hv
    gi_wp2
    refine ⟨by simp, .inl ⟨_, _, rfl, run_takeDeferred hK, ?_⟩⟩
    exact ⟨_, results_tmp2 rfl _ _ _, by rw [HZ.out]; rfl, hfin⟩
theorem Fewest_any (v : Value) (S : Store) (w : World) (hx : StoreAt w.heap.size w v S) (hV : Valid S) :
    Calls Try.prog 17 #[v] w fun e w' => e = .returned (.tuple #[.int .i64 (fewV S).1, .int .i64 (fewV S).2]) ∧ Below w.heap.size w w' :=
  wide_calls (Fewest_in Fence.wide rfl rfl rfl (fun _ => trivial) 9 (by omega) v S w hx hV)
end Go.Proofs.Ytjflpmhlodgadaa
