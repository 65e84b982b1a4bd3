/-
  Walks: the reference's Fits, Fewest and Many.
-/
import Derived.Test.YtjflpmhlodgadaaLeastW
import Derived.Test.YtjflpmhlodgadaaBase2
import Derived.Lib.MinMax
namespace Go.Proofs.Ytjflpmhlodgadaa
open Go.RowKit Go.Sort

theorem IntsAt.to {w w' : World} {v : Value} {xs : List Int} (h : IntsAt w.heap.size w v xs) (hb : Below w.heap.size w w') : IntsAt w'.heap.size w' v xs := (h.below hb).mono hb.size

set_option maxHeartbeats 2000000 in
theorem rFits_any (v lv : Value) (S : Store) (L : List Int) (w : World) (hx : StoreAt w.heap.size w v S) (hL : IntsAt w.heap.size w lv L) :
    Calls Try.prog 43 #[v, lv] w fun e w' => e = .returned (.tuple #[.bool (fitsR S L), .int .i64 (fitsE S L)]) ∧ Below w.heap.size w w' := by
  obtain ⟨a, cap1, b1, off, a2, cap2, b2, off2, rfl, hm, hm2, HA, HC, HA2, HC2⟩ := hx.opened
  have hL' := hL
  obtain ⟨lA, lcap, b3, off3, rfl, hm3, _, _, _⟩ := hL.opened
  have hs := Stat.first hx
  obtain ⟨c0, c1, c2, c3⟩ := box4_of hs.blk
  have HS0 := Lib.hid hs
  have HL0 := Lib.hid ((hL'.below hs.b).mono hs.b.size)
  clear hs hx hL hL' HA HC HA2 HC2
  cases hval : validB S
  case false =>
    have HV := Lib.hid hval
    obtain ⟨r1, r2⟩ := fits_bad (L := L) hval
    have HR1 := Lib.hid r1
    have HR2 := Lib.hid r2
    clear hval r1 r2
    go_enter Try.func43, Try.ntmps43
    go_wp2_with fail
    refine (rCheck_bad HV.out HS0.out.st).mono ?_
    rintro e w1 ⟨rfl, hb⟩
    have HB := Lib.hid (HS0.out.next hb).b
    clear hb
    go_wp2
    go_ret2
    exact ⟨by rw [HR1.out, HR2.out]; rfl, HB.out⟩
  have HV := Lib.hid hval
  have HVV := Lib.hid (valid_iff.1 hval)
  cases hsw : sawingB S L
  case false =>
    obtain ⟨r1, r2⟩ := fits_arg hval hsw
    have HSW := Lib.hid hsw
    have HR1 := Lib.hid r1
    have HR2 := Lib.hid r2
    clear hval r1 r2 hsw
    go_enter Try.func43, Try.ntmps43
    go_wp2_with fail
    refine (rCheck_ok HV.out HS0.out.st).mono ?_
    rintro e w1 ⟨rfl, hb⟩
    have hs := HS0.out.next hb
    have HL1 := Lib.hid ((HL0.out.below hb).mono hb.size)
    clear hb c0 c1 c2 c3
    obtain ⟨c0, c1, c2, c3⟩ := box4_of hs.blk
    have HS1 := Lib.hid hs
    clear hs
    go_wp2_with fail
    refine (rIsSawing_to HSW.out HS1.out.st (Nat.le_refl _) HL1.out).mono ?_
    rintro e w2 ⟨rfl, hb⟩
    have HB := Lib.hid (HS1.out.next hb).b
    clear hb
    go_wp2
    go_ret2
    exact ⟨by rw [HR1.out, HR2.out]; rfl, HB.out⟩
  case true =>
    obtain ⟨r1, _⟩ := fits_ok hval hsw
    have HSW := Lib.hid hsw
    have HR1 := Lib.hid r1
    have HR2 := Lib.hid (show fitsR S L = truthB S L from by rw [fitsR, hval, Bool.true_and])
    clear hval r1 hsw
    go_enter Try.func43, Try.ntmps43
    go_wp2_with fail
    refine (rCheck_ok HV.out HS0.out.st).mono ?_
    rintro e w1 ⟨rfl, hb⟩
    have hs := HS0.out.next hb
    have HL1 := Lib.hid ((HL0.out.below hb).mono hb.size)
    clear hb c0 c1 c2 c3
    obtain ⟨c0, c1, c2, c3⟩ := box4_of hs.blk
    have HS1 := Lib.hid hs
    clear hs
    go_wp2_with fail
    refine (rIsSawing_to HSW.out HS1.out.st (Nat.le_refl _) HL1.out).mono ?_
    rintro e w2 ⟨rfl, hb⟩
    have hs := HS1.out.next hb
    have HL2 := Lib.hid ((HL1.out.below hb).mono hb.size)
    clear hb c0 c1 c2 c3
    obtain ⟨c0, c1, c2, c3⟩ := box4_of hs.blk
    have HS2 := Lib.hid hs
    clear hs
    go_wp2_with fail
    refine (rIsTruth_any _ _ S L _ HVV.out HS2.out.st (Nat.le_refl _) HL2.out).mono ?_
    rintro e w3 ⟨rfl, hb⟩
    have HB := Lib.hid (HS2.out.next hb).b
    clear hb
    go_wp2
    go_ret2
    exact ⟨by rw [HR1.out, HR2.out]; rfl, HB.out⟩

set_option maxHeartbeats 2000000 in
theorem rMany_of (v : Value) (S : Store) (l : List (List Int)) (er : Int) (w : World) (hx : StoreAt w.heap.size w v S)
    (ht : ∀ w, StoreAt w.heap.size w v S → Calls Try.prog 75 #[v, .bool true] w (GaveListsE l er w)) :
    Calls Try.prog 45 #[v] w fun e w' => e = .returned (.tuple #[.int .i64 l.length, .int .i64 er]) ∧ Below w.heap.size w w' := by
  obtain ⟨a, cap1, b1, off, a2, cap2, b2, off2, rfl, hm, hm2, HA, HC, HA2, HC2⟩ := hx.opened
  have hs := Stat.first hx
  obtain ⟨c0, c1, c2, c3⟩ := box4_of hs.blk
  have HS0 := Lib.hid hs
  have HT := Lib.hid ht
  clear hs hx ht HA HC HA2 HC2
  go_enter Try.func45, Try.ntmps45
  go_wp2_with fail
  refine (HT.out _ HS0.out.st).mono ?_
  rintro e w2 ⟨u, rfl, hu, hb⟩
  obtain ⟨ls, n1, n2, n3⟩ := hu
  obtain ⟨lA, lcap, rfl, _⟩ := own_form n2
  have HB := Lib.hid (HS0.out.next hb).b
  clear hb n1 n2 n3
  go_wp2
  go_ret2
  exact ⟨rfl, HB.out⟩
theorem rMany_any (v : Value) (S : Store) (w : World) (hx : StoreAt w.heap.size w v S) (hV : Valid S) :
    Calls Try.prog 45 #[v] w fun e w' => e = .returned (.tuple #[.int .i64 (truthsL S).length, .int .i64 (errN (truthsL S).length)]) ∧ Below w.heap.size w w' :=
  rMany_of v S (truthsL S) (errN (truthsL S).length) w hx (fun w h => truths_any' v S w h hV)
theorem rMany_bad (v : Value) (S : Store) (w : World) (hx : StoreAt w.heap.size w v S) (hv : validB S = false) :
    Calls Try.prog 45 #[v] w fun e w' => e = .returned (.tuple #[.int .i64 0, .int .i64 10]) ∧ Below w.heap.size w w' :=
  rMany_of v S [] 10 w hx (fun w h => truths_bad v S true w h hv)

set_option maxHeartbeats 2000000 in
theorem rFewest_bad (v : Value) (S : Store) (w : World) (hx : StoreAt w.heap.size w v S) (hv : validB S = false) :
    Calls Try.prog 44 #[v] w fun e w' => e = .returned (.tuple #[.int .i64 0, .int .i64 10]) ∧ Below w.heap.size w w' := by
  obtain ⟨a, cap1, b1, off, a2, cap2, b2, off2, rfl, hm, hm2, HA, HC, HA2, HC2⟩ := hx.opened
  have hs := Stat.first hx
  obtain ⟨c0, c1, c2, c3⟩ := box4_of hs.blk
  have HS0 := Lib.hid hs
  have HV := Lib.hid hv
  clear hs hx hv HA HC HA2 HC2
  go_enter Try.func44, Try.ntmps44
  go_wp2_with fail
  refine (rCheck_bad HV.out HS0.out.st).mono ?_
  rintro e w1 ⟨rfl, hb⟩
  have HB := Lib.hid (HS0.out.next hb).b
  clear hb
  go_wp2
  go_ret2
  exact ⟨rfl, HB.out⟩

theorem fewF_nonneg (S : Store) (l : List (List Int)) : 0 ≤ fewF S l := (foldl_min S l _).2 (by omega)
theorem fewF_step {S : Store} {l : List (List Int)} {k : Nat} (h : k < l.length) : fewF S (l.take (k + 1)) = min (fewF S (l.take k)) (wrongs S (xnth l k)) := by
  rw [List.take_succ_eq_append_getElem h, fewF_snoc, xnth_lt h]

set_option maxRecDepth 100000 in
set_option maxHeartbeats 8000000 in
theorem rFewest_any (v : Value) (S : Store) (w : World) (hx : StoreAt w.heap.size w v S) (hV : Valid S) :
    Calls Try.prog 44 #[v] w fun e w' => e = .returned (.tuple #[.int .i64 (fewV S).1, .int .i64 (fewV S).2]) ∧ Below w.heap.size w w' := by
  obtain ⟨a, cap1, b1, off, a2, cap2, b2, off2, rfl, hm, hm2, HA, HC, HA2, HC2⟩ := hx.opened
  have hs := Stat.first hx
  obtain ⟨c0, c1, c2, c3⟩ := box4_of hs.blk
  have HS0 := Lib.hid hs
  have HV := Lib.hid hV
  have hnp := hV.np
  have hlen : (allL S S.pieces.length []).length ≤ 1679616 := Nat.le_trans (allL_len hV _ _) (Nat.pow_le_pow_right (by omega) hV.np)
  obtain ⟨l, hl⟩ : ∃ l, l = allL S S.pieces.length [] := ⟨_, rfl⟩
  rw [← hl] at hlen
  have HLF := Lib.hid (show l = fitL S from by rw [hl]; exact all_fit hV)
  have HOK := Lib.hid (show ∀ x ∈ l, OkBars S x ∧ x.length = S.pieces.length from by rw [hl]; exact allL_ok _ _ (by simp) ⟨by simp, fun i hi => by simp at hi⟩)
  have HALL := Lib.hid (fun w (h : StoreAt w.heap.size w (.agg #[.slice a S.bars.length cap1, .int .i64 S.kerf, .slice a2 S.pieces.length cap2, .int .i64 S.wrong]) S) => show Calls Try.prog 74 #[_, .slice none 0 0] w (GaveLists l w) from by
    rw [hl]; exact all_any hV S.pieces.length [] (by simp) ⟨by simp, fun i hi => by simp at hi⟩ _ _ w h (World.ownsRow_nil _ _ _ _))
  clear hs hx hl hV HA HC HA2 HC2
  go_enter Try.func44, Try.ntmps44
  go_wp2_with fail
  refine (rCheck_ok (valid_iff.2 HV.out) HS0.out.st).mono ?_
  rintro e w1 ⟨rfl, hb⟩
  have hs := HS0.out.next hb
  clear c0 c1 c2 c3 hb
  obtain ⟨c0, c1, c2, c3⟩ := box4_of hs.blk
  have HS1 := Lib.hid hs
  clear hs
  go_wp2_with fail
  refine (HALL.out _ HS1.out.st).mono ?_
  rintro e w2 ⟨u, rfl, hu, hb⟩
  have hs := HS1.out.next hb
  clear c0 c1 c2 c3 hb
  obtain ⟨c0, c1, c2, c3⟩ := box4_of hs.blk
  obtain ⟨ls, n1, n2, n3⟩ := hu
  obtain ⟨lA, lcap, rfl, _⟩ := own_form n2
  have HS2 := Lib.hid hs
  have N2 := Lib.hid n2
  have N3 := Lib.hid n3
  clear hs n1 n2 n3
  by_cases h0 : l.length = 0
  · have HFV := Lib.hid (show fewV S = (0, 3) from fewV_none (by rw [← HLF.out]; exact h0))
    have e0 : ((l.length : Int) == 0) = true := by simp; exact List.length_eq_zero_iff.1 h0
    obtain ⟨M, hM⟩ : ∃ M, l.length = M := ⟨_, rfl⟩
    rw [hM] at h0 e0 ⊢
    subst h0
    clear hM e0
    go_wp2
    go_ret2
    exact ⟨by rw [HFV.out]; rfl, HS2.out.b⟩
  · obtain ⟨M, hM⟩ : ∃ M, l.length = M := ⟨_, rfl⟩
    have HMM := Lib.hid hM
    have HFV := Lib.hid (show fewV S = (fewF S l, 0) from by
      rw [HLF.out]
      refine fewV_yes ?_
      show someB (fitL S) = true
      rw [← HLF.out]
      cases l with
      | nil => exact absurd rfl h0
      | cons x xs => rfl)
    rw [hM] at h0 hlen ⊢
    have N2' := Lib.hid (show w2.ownsRow w1.heap.size 26 1 (.slice lA M lcap) M ls from by have h := N2.out; rw [hM] at h; exact h)
    have e0 : ((M : Int) == 0) = false := by simp; omega
    clear hM h0
    go_wp2
    go_loopw [6, 7] (fun n i wr => ∃ k : Nat, k ≤ M ∧ i = .int .i64 k ∧ n = .int .i64 (fewF S (l.take k)) ∧ Hid (Below w2.heap.size w2 wr)) (fun _ i _ => M - (intOf i).toNat)
    case atStart => exact ⟨0, Nat.zero_le _, rfl, rfl, Below.refl _ _⟩
    case round =>
      obtain ⟨k, hk, rfl, rfl, hbr⟩ := hrel
      have hst := HS2.out.next hbr.out
      clear c0 c1 c2 c3
      obtain ⟨c0, c1, c2, c3⟩ := box4_of hst.blk
      have HST := Lib.hid hst
      clear hst
      by_cases hlt : k < M
      · have hk0 : (0 : Int) ≤ (k : Int) := by omega
        have hk1 : (k : Int) < (M : Int) := by omega
        have hltl : k < l.length := by rw [HMM.out]; exact hlt
        obtain ⟨g, cap, hv, _, hgl⟩ := N2'.out.form (by omega)
        cases hv
        obtain ⟨x, hx1, hx2⟩ := N3.out k hltl
        obtain ⟨xA, xcap, rfl, _⟩ := own_form hx2
        have hc := ((own_below N2'.out hbr.out).cellAt k (by omega)).trans hx1
        have hxi : IntsAt wr.heap.size wr (.slice xA (xnth l k).length xcap) (xnth l k) := own_ints (own_below hx2 hbr.out) (okBars_i64 HV.out (HOK.out _ (xnth_mem hltl)).1)
        have HXI := Lib.hid hxi
        have HXM := Lib.hid (HOK.out _ (xnth_mem hltl)).1
        have HFS := Lib.hid (fewF_step (S := S) hltl)
        clear hx1 hx2 hxi hltl
        have q1 : ∀ d os, Calls Try.prog 20 #[.agg #[.slice a S.bars.length cap1, .int .i64 S.kerf, .slice a2 S.pieces.length cap2, .int .i64 S.wrong], .slice xA (xnth l k).length xcap] (grow (redrawn wr d) os) fun e w'' => e = .returned (.int .i64 (wrongs S (xnth l k))) ∧ ∃ p : Regrown, w'' = grow (redrawn wr p.d) p.os := fun d os =>
          Calls.regrown_of (rWrongs_any _ _ S (xnth l k) _ (HST.out.next (below_regrown wr d os)).st (Nat.le_refl _) ((HXI.out.below (below_regrown wr d os)).mono (below_regrown wr d os).size) HXM.out)
        have Q1 := Lib.hid q1
        have k0 := cell_regrown c0
        have k1 := cell_regrown c1
        have k2 := cell_regrown c2
        have k3 := cell_regrown c3
        have k4 := cell_regrown hc
        have HFI := Lib.hid (fun d os => below_regrown wr d os)
        clear q1 c0 c1 c2 c3 hc
        go_wp2_with fail
        refine wp_region_quiet_below (by kernel_rfl) (by kernel_rfl) ?_
        repeat (first | go_big_quiet_step ((go_at_call 20; exact Q1.out _ _)) | quiet_step ((go_at_call 20; exact Q1.out _ _)))
        refine wpQuiet_nil ?_
        intro _ hw'
        obtain ⟨⟨dq, osq⟩, hw''⟩ := hw'
        subst hw''
        have hbq := HFI.out dq osq
        generalize grow (redrawn wr dq) osq = wq at hbq ⊢
        have HBQ := Lib.hid (hbr.out.trans (hbq.mono hbr.out.size))
        clear hbq k0 k1 k2 k3 k4
        go_wp2
        exact ⟨⟨k + 1, by omega, by go_num, by rw [HFS.out], HBQ⟩, by simp [intOf]; omega⟩
      · obtain rfl : M = k := by omega
        go_wp2
        go_ret2
        have HTK := List.take_of_length_le (l := l) (by rw [HMM.out]; exact Nat.le_refl _)
        exact ⟨by rw [HFV.out, ← HTK, List.take_take]; simp only [Nat.min_self]; rfl, HST.out.b⟩
end Go.Proofs.Ytjflpmhlodgadaa
