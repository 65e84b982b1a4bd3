/-
  Strange: the pieces whose mark surely is wrong.
-/
import Derived.Test.YtjflpmhlodgadaaWorks
namespace Go.Proofs.Ytjflpmhlodgadaa
open Go.RowKit Go.Shelf

attribute [local go_sem] Oper.semAt_some

def strF (S : Store) (xs : List (List Int)) (p : Nat) : Bool := decide (p < S.pieces.length) && xs.all fun x => wrongAt S p (nth x p).toNat
theorem strF_snoc (S : Store) (xs : List (List Int)) (x : List Int) (p : Nat) : strF S (xs ++ [x]) p = (strF S xs p && wrongAt S p (nth x p).toNat) := by simp [strF, Bool.and_assoc]
theorem strF_nil (S : Store) (p : Nat) : strF S [] p = decide (p < S.pieces.length) := by simp [strF]
theorem strF_out {S : Store} {xs : List (List Int)} {p : Nat} (h : S.pieces.length ≤ p) : strF S xs p = false := by
  have : ¬ p < S.pieces.length := by omega
  simp [strF, this]
def strS (S : Store) : List Int := if (truthsL S).length = 0 then [] else numsTo (strF S (truthsL S)) 8
theorem strS_no {S : Store} (h : (sawL S S.pieces.length S.wrong []).length = 0) : strS S = [] := if_pos h
theorem strS_yes {S : Store} (h : (sawL S S.pieces.length S.wrong []).length ≠ 0) : strS S = numsTo (strF S (sawL S S.pieces.length S.wrong [])) 8 := if_neg h
def strP (S : Store) (pre : List (List Int)) (x : List Int) (k j : Nat) : Bool := if j < k then strF S (pre ++ [x]) j else strF S pre j
theorem strP_zero (S : Store) (pre : List (List Int)) (x : List Int) (j : Nat) : strP S pre x 0 j = strF S pre j := by simp [strP]
theorem strP_at (S : Store) (pre : List (List Int)) (x : List Int) (k : Nat) : strP S pre x k k = strF S pre k := by simp [strP]
theorem strP_step (S : Store) (pre : List (List Int)) (x : List Int) (k j : Nat) : (if j = k then strF S (pre ++ [x]) k else strP S pre x k j) = strP S pre x (k + 1) j := by
  unfold strP
  by_cases e : j = k
  · subst e; simp
  · by_cases h : j < k
    · rw [if_neg e, if_pos h, if_pos (by omega)]
    · rw [if_neg e, if_neg h, if_neg (by omega)]
theorem strP_end {S : Store} {pre : List (List Int)} {x : List Int} {j : Nat} : strP S pre x S.pieces.length j = strF S (pre ++ [x]) j := by
  unfold strP
  split
  · rfl
  · rw [strF_out (by omega), strF_out (by omega)]

set_option maxRecDepth 100000 in
set_option maxHeartbeats 4000000 in
theorem Strange_in (F : Fence) (hF : Hid (F = Fence.wide)) (hd : F.depth = none) (hro : F.round = none) (hfn : ∀ f, F.fn f) (n : Nat) (hn : 5 ≤ n) (v : Value) (S : Store) (w : World) (hx : StoreAt w.heap.size w v S) (hV : Valid S) :
    CallsIn F n Try.prog 19 #[v] w (GaveIntsE (strS S) (errN (truthsL S).length) w) := by
  have hx' := hx
  obtain ⟨a, cap1, b1, off, a2, cap2, b2, off2, rfl, hm, hm2, HA, HC, HA2, HC2⟩ := hx.opened
  have HX := Lib.hid hx'
  have HV := Lib.hid hV
  obtain ⟨hw0, hw8⟩ := hV.wrong
  have hnp := hV.np
  clear hx hx' hV HA HC HA2 HC2
  have HXB := fun o => Lib.hid ((HX.out.below ((Below.refl _ w).alloc (Nat.le_refl _) o)).mono (show w.heap.size ≤ (w.alloc o).heap.size by simp))
  have hmo : Try.prog.follows .mixedOrders = true := by kernel_rfl
  refine callsIn_of_wp_marks Try.func19 rfl (hfn _) ?_ hro
  simp only [Try.ntmps19, List.size_toArray, List.length_cons, List.length_nil, Nat.reduceAdd, Nat.reduceSub, Array.replicate_succ, Array.replicate_zero, List.push_toArray, List.append_toArray, List.nil_append, List.cons_append]
  gi_wp2_with fail
  refine (inF hF (check_ok (valid_iff.2 HV.out) (HXB _).out)).mono ?_
  rintro e w1 ⟨rfl, hb1⟩
  have hbl : Below (w.heap.size + 1) (w.alloc (.cells #[.slice a S.bars.length cap1, .int .i64 S.kerf, .slice a2 S.pieces.length cap2, .int .i64 S.wrong] 25)) w1 := hb1.mono (by simp)
  have hw := boxed hbl
  have hsz := boxed_size hbl
  obtain ⟨c0, c1, c2, c3⟩ := box4 hbl
  have HBX := Lib.hid ((hbl.block w.heap.size (by omega)).trans (heap_new w _))
  clear hb1
  have hlt1 : w.heap.size < w1.heap.size := by omega
  have hlt2 : w.heap.size < w1.heap.size + 1 := by omega
  gi_wp2
  gi_loopw [19] (fun i wr => ∃ k : Nat, k ≤ S.pieces.length ∧ i = .int .i64 k ∧ Hid (wr.heap[w1.heap.size]? = some (.cells #[.bool false] 4)) ∧ Hid (BoolsAt (w1.heap.size + 1) (fun j => decide (j < k)) 8 80 wr) ∧ Hid (Below w1.heap.size w1 wr)) (fun i _ => S.pieces.length - (intOf i).toNat)
  case atStart =>
    refine ⟨0, Nat.zero_le _, rfl, (heap_at2 w1 _ _).1, ⟨_, (heap_at2 w1 _ _).2, rfl, fun j hj => by
      have : j = 0 ∨ j = 1 ∨ j = 2 ∨ j = 3 ∨ j = 4 ∨ j = 5 ∨ j = 6 ∨ j = 7 := by omega
      rcases this with rfl | rfl | rfl | rfl | rfl | rfl | rfl | rfl <;> rfl⟩, below_at2 w1 _ _⟩
  case round =>
    obtain ⟨k, hk, rfl, hfo, hbs, hbw⟩ := hrel
    have hl2 := hbs.out.lt
    have hszr : w1.heap.size < wr.heap.size := by omega
    by_cases hlt : k < S.pieces.length
    · have hk8 : k < 8 := by omega
      have c := hbs.out.cell hk8
      have f := hbs.out.frozen k
      gi_wp2
      exact ⟨⟨k + 1, by omega, by go_num, heap_set_other _ hfo.out (by omega), (hbs.out.put hk8 true).congr (fun j _ => by
        by_cases e : j = k
        · subst e; simp
        · rw [if_neg e]; simp only [decide_eq_decide]; omega), hbw.out.setCell (p := ⟨w1.heap.size + 1, k, none⟩) (by show w1.heap.size ≤ w1.heap.size + 1; omega) _⟩, by simp [intOf]; omega⟩
    · obtain rfl : S.pieces.length = k := by omega
      clear c0 c1 c2 c3
      have hbx := (hbw.out.block _ (by omega)).trans HBX.out
      obtain ⟨c0, c1, c2, c3⟩ := box4_of hbx
      have HBXR := Lib.hid hbx
      clear hbx
      gi_wp2_with (gi_at_call 63; refine (inF hF (truths_any _ _ _ _ _ _ _ _ _)).mono ?_; rintro e w2 ⟨rfl, hb2, hs2, hq2⟩; have HB2 := Lib.hid hb2; have HS2 := Lib.hid hs2; have HQ2 := Lib.hid hq2; clear hb2 hs2 hq2)
      have hb2 := HB2.out
      have hs2 := HS2.out
      have hq2 := HQ2.out
      have hs2a : wr.heap.size + 3 ≤ w2.heap.size := by omega
      have hmf : w2.heap[w1.heap.size]? = some (.cells #[.bool (someB [])] 4) := (hb2.block _ (by omega)).trans hfo.out
      have hmp : BoolsAt (w1.heap.size + 1) (strF S []) 8 80 w2 := (hbs.out.kept (hb2.block _ (by omega))).congr (fun j _ => (strF_nil S j).symm)
      have h12 : Below w1.heap.size w1 w2 := hbw.out.trans (hb2.mono (by omega))
      have hw2 : Below w.heap.size w w2 := hw.trans (h12.mono (by omega))
      have HBX2 := Lib.hid ((h12.block _ (by omega)).trans HBX.out)
      clear hs2 hb2 c0 c1 c2 c3 hfo hbs hbw HBXR
      refine wpIn_saw F hF hd hro hfn (by omega) rfl w.heap.size _ S S.wrong HV hw0 hw8 (HX.out.below hw2) (by omega) hq2.1 hq2.2 rfl
        (fun k => k = w1.heap.size ∨ k = w1.heap.size + 1) (fun k hk => by omega)
        (fun pre W => W.heap[w1.heap.size]? = some (.cells #[.bool (someB pre)] 4) ∧ BoolsAt (w1.heap.size + 1) (strF S pre) 8 80 W)
        (fun _ _ _ => False)
        (fun s A A' row hs hg hr => ⟨own_heap hs.1 hg hr (by omega), hs.2.kept (hg.block _ hs.2.lt (fun e => by have := hr _ e.symm; omega))⟩) (fun _ _ _ _ _ h _ _ => h) ⟨hmf, hmp⟩
        (fun tm x => { tmps := (tm.setIfInBounds 27 (.slice (some ⟨w2.heap.size + 2, 0, none⟩) x.length (capS S))).setIfInBounds 8 (.slice (some ⟨w2.heap.size + 2, 0, none⟩) x.length (capS S)), defers := [] }) ?assign ?body ?done ?stop
      case assign =>
        intro l x W K hK
        gi_wp2
        exact hK
      case body =>
        rintro l pre x W hpre ⟨hI1, hI2⟩ hkb hbuf
        have hsz := hkb.size
        have hbW := hbuf.lt
        have hwW := hw2.trans (hkb.below (by omega) (by omega))
        have hxW := (HX.out.below (hw2.trans (hkb.below (by omega) (by omega)))).mono (show w.heap.size ≤ W.heap.size by omega)
        obtain ⟨hok, hxl⟩ := yielded_ok hpre
        have hbx := kept_heap hkb HBX2.out (by omega)
        obtain ⟨g0, g1⟩ := cell1_of hI1
        have HI1 := Lib.hid hI1
        have HI2 := Lib.hid hI2
        have HXW := Lib.hid hxW
        have HBXW := Lib.hid hbx
        have HBUF := Lib.hid hbuf
        have HOK := Lib.hid hok
        have HXL := Lib.hid hxl
        have HSB := Lib.hid (someB_snoc pre x)
        clear hkb hI1 hI2 hok hpre hbuf hxW hbx hxl
        gi_wp2
        gi_loopw [30] (fun i wr => ∃ k : Nat, k ≤ x.length ∧ i = .int .i64 k ∧ Hid (wr.heap[w1.heap.size]? = some (.cells #[.bool true] 4)) ∧ Hid (BoolsAt (w1.heap.size + 1) (strP S pre x k) 8 80 wr) ∧ Hid (KeptBut (fun k => k = w1.heap.size ∨ k = w1.heap.size + 1) W wr)) (fun i _ => x.length - (intOf i).toNat)
        case atStart =>
          exact ⟨0, Nat.zero_le _, rfl, heap_set _ HI1.out, (HI2.out.kept (Below.heap_setCell _ _ _ _ (by show w1.heap.size + 1 ≠ w1.heap.size; omega))).congr (fun j _ => (strP_zero S pre x j).symm), KeptBut.setCell _ _ _ (.inl rfl)⟩
        case round =>
          obtain ⟨k, hk, rfl, hfo, hbs, hkw⟩ := hrel
          have hszr := hkw.out.size
          have hl3 := hbs.out.lt
          by_cases hltk : k < x.length
          · have hk8 : k < 8 := by have := HXL.out; omega
            have hknp : k < S.pieces.length := by have := HXL.out; omega
            obtain ⟨o1, o2⟩ := HOK.out.2 k hltk
            obtain ⟨m, hm⟩ := Int.eq_ofNat_of_zero_le o1
            have hbufr := HBUF.out.kept (hkw.out.block _ hbW (by omega))
            have d := hbufr.cell hltk
            rw [hm] at d
            have c := hbs.out.cell hk8
            have f := hbs.out.frozen k
            rw [strP_at] at c
            have hmb : m < S.bars.length := by omega
            have hwk : (nth x k).toNat = m := by rw [hm]; rfl
            have HWK := Lib.hid hwk
            have hbxr := (hkw.out.block _ (by omega) (by omega)).trans HBXW.out
            obtain ⟨c0, c1, c2, c3⟩ := box4_of hbxr
            clear hm hwk o1 o2 hbufr hbxr
            have hxr := HXW.out
            cases hst : strF S pre k
            · rw [hst] at c
              have HST := Lib.hid hst
              clear hst
              gi_wp2
              exact ⟨⟨k + 1, by omega, by go_num, heap_set_other _ hfo.out (by omega), (hbs.out.put hk8 false).congr (fun j _ => by
                rw [← strP_step, strF_snoc, HST.out]; rfl), hkw.out.trans (KeptBut.setCell _ _ _ (.inr rfl))⟩, by simp [intOf]; omega⟩
            · rw [hst] at c
              have HST := Lib.hid hst
              clear hst
              have hxwr : StoreAt w.heap.size wr (.agg #[.slice a S.bars.length cap1, .int .i64 S.kerf, .slice a2 S.pieces.length cap2, .int .i64 S.wrong]) S := HX.out.below (hwW.trans (hkw.out.below (by omega) (by omega)))
              have hcall := fun q h => isWrong_to (r := q) (p := (k : Int)) (b := (m : Int)) h hxwr (by omega) (by omega) (by omega) (by omega) (by omega)
              have HCALL := Lib.hid hcall
              clear hxwr hcall hxr
              gi_wp2_with fail
              refine (CallsIn.inRound l (inF hF (HCALL.out _ rfl))).mono ?_
              rintro e w3 ⟨rfl, hb3⟩
              have i1 := (hb3.block _ (by omega)).trans hfo.out
              have hbs3 := hbs.out.kept (hb3.block _ (by omega))
              have hs3 := hb3.size
              have f3 := hbs3.frozen k
              have d3 := hbs3.cell hk8
              have I1 := Lib.hid i1
              have HBS3 := Lib.hid hbs3
              have HKW3 := Lib.hid (hkw.out.trans (KeptBut.of_below (own := fun k => k = w1.heap.size ∨ k = w1.heap.size + 1) hb3))
              clear i1 hbs3 hb3 c0 c1 c2 c3 d c f
              gi_wp2
              exact ⟨⟨k + 1, by omega, by go_num, heap_set_other _ I1.out (by omega), (HBS3.out.put hk8 _).congr (fun j _ => by
                rw [← strP_step, strF_snoc, HST.out, HWK.out]; simp), HKW3.out.trans (KeptBut.setCell _ _ _ (.inr rfl))⟩, by simp [intOf]; omega⟩
          · obtain rfl : x.length = k := by omega
            gi_wp2
            exact ⟨hkw.out, by rw [HSB.out]; exact hfo.out, (hbs.out.congr (fun j _ => by rw [HXL.out]; exact strP_end))⟩
      case done =>
        rintro D W hD hkb ⟨hI1, hI2⟩ hK
        have hfin : Below w.heap.size w W := hw2.trans (hkb.below (by omega) (by omega))
        have hsW := hkb.size
        obtain ⟨d0, d1⟩ := cell1_of hI1
        have HI := Lib.hid hI2
        have HKD := Lib.hid hK
        have HFIN := Lib.hid hfin
        clear hkb hI1 hI2 hK hfin
        cases hz : someB (sawL S S.pieces.length S.wrong [])
        · rw [hz] at d0
          have hl0 := someB_false hz
          have HN := Lib.hid (strS_no hl0)
          have HE := Lib.hid (show errN (truthsL S).length = 3 from by unfold truthsL; rw [hl0]; rfl)
          clear hz hl0
          gi_wp2
          refine ⟨by simp, .inl ⟨_, _, rfl, run_takeDeferred HKD.out, ?_⟩⟩
          exact ⟨_, results_tmp2 rfl _ _ _, _, by rw [HE.out]; rfl, by rw [HN.out]; exact ints_nil _ _, HFIN.out.trans (putObj_below _ _ (by omega))⟩
        · rw [hz] at d0
          have hl0 := someB_true hz
          have HN := Lib.hid (strS_yes hl0)
          have HE := Lib.hid (show errN (truthsL S).length = 0 from errN_pos hl0)
          clear hz hl0
          gi_wp2_with fail
          refine (inF hF (numbers_any (w1.heap.size + 1) 8 8 (strF S (sawL S S.pieces.length S.wrong [])) _ W HI.out (by omega))).mono ?_
          rintro e w3 ⟨rv, rfl, hrv, hb3⟩
          have hs3 := hb3.size
          have hkD := (hb3.block D (Array.getElem?_eq_some_iff.1 HKD.out).1).trans HKD.out
          have hfin3 := HFIN.out.trans (hb3.mono (by omega))
          obtain ⟨a4, cap4, b4, off4, rfl, hl4, _⟩ := hrv.opened
          have HRV := Lib.hid hrv
          have HKD3 := Lib.hid hkD
          have HFIN3 := Lib.hid hfin3
          clear hrv hkD hfin3 hb3
          gi_wp2
          refine ⟨by simp, .inl ⟨_, _, rfl, run_takeDeferred HKD3.out, ?_⟩⟩
          refine ⟨_, results_tmp2 rfl _ _ _, _, by rw [HE.out]; rfl, ?_, HFIN3.out.trans (putObj_below _ _ (by omega))⟩
          rw [HN.out, World.putObj_size]
          exact ints_putObj HRV.out HKD3.out
      case stop =>
        rintro D c pre W _ _ _ h _
        exact h.elim
theorem Strange_any (v : Value) (S : Store) (w : World) (hx : StoreAt w.heap.size w v S) (hV : Valid S) :
    Calls Try.prog 19 #[v] w (GaveIntsE (strS S) (errN (truthsL S).length) w) :=
  wide_calls (Strange_in Fence.wide rfl rfl rfl (fun _ => trivial) 9 (by omega) v S w hx hV)
end Go.Proofs.Ytjflpmhlodgadaa
