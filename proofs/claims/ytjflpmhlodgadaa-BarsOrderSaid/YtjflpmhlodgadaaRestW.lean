/-
  Walks: the reference's Rest.
-/
import Derived.Test.YtjflpmhlodgadaaAlikeW
namespace Go.Proofs.Ytjflpmhlodgadaa
open Go.RowKit Go.Sort

/-- The span of the first k rests. -/
def spanTo (S : Store) (b : Int) (l : List (List Int)) (k : Nat) : Int × Int := if k = 0 then (0, 0) else restSpan S b (l.take k)
theorem rest_bounds {S : Store} (hV : Valid S) {x : List Int} (hx : x ∈ truthsL S) {b : Int} (h0 : 0 ≤ b) (h1 : b < S.bars.length) : 0 ≤ restS S x b ∧ restS S x b ≤ 999 := by
  obtain ⟨m, rfl⟩ := Int.eq_ofNat_of_zero_le h0
  obtain ⟨⟨hO, hl⟩, hf, _⟩ := truthB_iff.1 ((mem_truths hV).1 hx)
  refine ⟨hf m (by omega), ?_⟩
  have h2 := (sumTo_le hV x m x.length (by omega)).1
  have h3 := (hV.blong m (by omega)).2
  have h4 : 0 ≤ max (countTo x (m : Int) x.length - 1) 0 * S.kerf := Int.mul_nonneg (by omega) hV.kerf.1
  simp only [restS, Int.toNat_natCast]
  omega
theorem spanTo_one {S : Store} {b : Int} {l : List (List Int)} (h : 0 < l.length) (hr : 0 ≤ restS S (xnth l 0) b ∧ restS S (xnth l 0) b ≤ 999) : spanTo S b l (0 + 1) = (restS S (xnth l 0) b, restS S (xnth l 0) b) := by
  obtain ⟨x, t, rfl⟩ : ∃ x t, l = x :: t := by cases l with
    | nil => simp at h
    | cons x t => exact ⟨x, t, rfl⟩
  have e : xnth (x :: t) 0 = x := xnth_lt h
  rw [e] at hr ⊢
  simp [spanTo, restSpan, restStep]
  omega
theorem spanTo_step {S : Store} {b : Int} {l : List (List Int)} {k : Nat} (h : k < l.length) (h0 : k ≠ 0) : spanTo S b l (k + 1) = (min (spanTo S b l k).1 (restS S (xnth l k) b), max (spanTo S b l k).2 (restS S (xnth l k) b)) := by
  rw [spanTo, if_neg (by omega), spanTo, if_neg h0, List.take_succ_eq_append_getElem h, restSpan_snoc, xnth_lt h]
  rfl

set_option maxRecDepth 100000 in
set_option maxHeartbeats 2000000 in
theorem rRest_any (v : Value) (S : Store) (bar : Int) (w : World) (hx : StoreAt w.heap.size w v S) (hV : Valid S) (hr0 : 0 ≤ bar) (hr1 : bar < S.bars.length) (hne : (truthsL S).length ≠ 0) :
    Calls Try.prog 51 #[v, .int .i64 bar] w fun e w' => e = .returned (restV S bar) ∧ Below w.heap.size w w' := by
  obtain ⟨a, cap1, b1, off, a2, cap2, b2, off2, rfl, hm, hm2, HA, HC, HA2, HC2⟩ := hx.opened
  have hs := Stat.first hx
  have HS0 := Lib.hid hs
  have HS1 := Lib.hid (hs.alloc (.cells #[.int .i64 0, .int .i64 0] 43))
  have hsp0 := (heap_at2 w (.cells #[.slice a S.bars.length cap1, .int .i64 S.kerf, .slice a2 S.pieces.length cap2, .int .i64 S.wrong] 25) (.cells #[.int .i64 0, .int .i64 0] 43)).2
  have HSP0 := Lib.hid hsp0
  clear hsp0
  have HV := Lib.hid hV
  have HR := Lib.hid (show wB bar 0 ((S.bars.length : Int) - 1) = true from wB_iff.2 ⟨by omega, by omega⟩)
  have HWR := Lib.hid (show IntKind.i64.wrap ((S.bars.length : Int) - 1) = (S.bars.length : Int) - 1 from IntWalk.i64_in _ (by omega))
  have hlen : (truthsL S).length ≤ 1679616 := sawL_len hV _
  obtain ⟨l, hl⟩ : ∃ l, l = truthsL S := ⟨_, rfl⟩
  have HOK := Lib.hid (show ∀ x ∈ l, OkBars S x ∧ x.length = S.pieces.length from by rw [hl]; exact fun x h => truths_ok h)
  have HRB := Lib.hid (show ∀ x ∈ l, 0 ≤ restS S x bar ∧ restS S x bar ≤ 999 from by rw [hl]; exact fun x h => rest_bounds hV h hr0 hr1)
  rw [← hl] at hlen hne
  have HT := Lib.hid (fun w (h : StoreAt w.heap.size w (.agg #[.slice a S.bars.length cap1, .int .i64 S.kerf, .slice a2 S.pieces.length cap2, .int .i64 S.wrong]) S) => show Calls Try.prog 75 #[_, .bool true] w (GaveListsE l 0 w) from by
    have h := truths_any' _ S w h hV
    rw [← hl, errN_pos hne] at h
    exact h)
  have HL := Lib.hid hl
  have HNE := Lib.hid hne
  clear hs hx hl hV hne HA HC HA2 HC2
  go_enter Try.func51, Try.ntmps51
  go_wp2_with fail
  have hs := HS1.out
  have hsp := HSP0.out
  clear HS1 HSP0
  generalize (w.alloc (.cells #[.slice a S.bars.length cap1, .int .i64 S.kerf, .slice a2 S.pieces.length cap2, .int .i64 S.wrong] 25)).alloc (.cells #[.int .i64 0, .int .i64 0] 43) = W at hs hsp ⊢
  have hlt : w.heap.size + 1 < W.heap.size := (Array.getElem?_eq_some_iff.1 hsp).1
  have HLT := Lib.hid hlt
  have HSD := Lib.hid (hs.next ((Below.refl _ W).drew))
  have HSP := Lib.hid ((((Below.refl _ W).drew).block (w.heap.size + 1) hlt).trans hsp)
  clear hs hsp hlt
  go_region_held3 (fun w' => w'.cell? ⟨w.heap.size, 0, none⟩ = some (.slice a S.bars.length cap1) ∧ w'.cell? ⟨w.heap.size, 1, none⟩ = some (.int .i64 S.kerf) ∧ w'.cell? ⟨w.heap.size, 2, none⟩ = some (.slice a2 S.pieces.length cap2) ∧ w'.cell? ⟨w.heap.size, 3, none⟩ = some (.int .i64 S.wrong))
    (first
      | exact box4_of HSD.out.blk
      | exact box4_of hs2.blk)
    (first
      | (go_at_call 37; rw [HWR.out]; with_reducible refine (rwithin_to HR.out _).mono ?_; rintro e w' ⟨rfl, rfl⟩)
      | (go_at_call 75; refine (HT.out _ HSD.out.st).mono ?_; rintro e w2 ⟨u, rfl, hu, hb⟩; obtain ⟨us, u1, u2, u3⟩ := hu; obtain ⟨uA, ucap, rfl, _⟩ := own_form u2; have hs2 := HSD.out.next hb; have hsp := (hb.block (w.heap.size + 1) HLT.out).trans HSP.out; have HB := Lib.hid hs2.b))
  have HS2 := Lib.hid hs2
  have N2 := Lib.hid u2
  have N3 := Lib.hid u3
  obtain ⟨c0, c1, c2, c3⟩ := box4_of hs2.blk
  have hlt2 : w.heap.size + 1 < w2.heap.size := (Array.getElem?_eq_some_iff.1 hsp).1
  have HSP2 := Lib.hid hsp
  clear hb u1 u2 u3 hs2 hsp
  go_wp2
  have HW3 := Lib.hid (show (w2.alloc (.cells #[.int .i64 0, .int .i64 0] 43)).heap[w2.heap.size]? = some (.cells #[.int .i64 0, .int .i64 0] 43) from heap_new w2 _)
  go_loopw [9] (fun i wr => ∃ k : Nat, k ≤ l.length ∧ i = .int .i64 k ∧ Hid (wr.heap[w2.heap.size]? = some (.cells #[.int .i64 (spanTo S bar l k).1, .int .i64 (spanTo S bar l k).2] 43)) ∧ Hid (Below w2.heap.size w2 wr)) (fun i _ => l.length - (intOf i).toNat)
  case atStart => exact ⟨0, Nat.zero_le _, rfl, HW3, (Below.refl _ _).alloc (Nat.le_refl _) _⟩
  case round =>
    obtain ⟨k, hk, rfl, hsp, hbr⟩ := hrel
    have hst := HS2.out.next hbr.out
    clear c0 c1 c2 c3
    obtain ⟨c0, c1, c2, c3⟩ := box4_of hst.blk
    have HST := Lib.hid hst
    have hwz : w2.heap.size < wr.heap.size := (Array.getElem?_eq_some_iff.1 hsp.out).1
    clear hst
    by_cases hlt : k < l.length
    · have hk0 : (0 : Int) ≤ (k : Int) := by omega
      have hk1 : (k : Int) < (l.length : Int) := by omega
      obtain ⟨g, cap, hv, _, hgl⟩ := N2.out.form (by omega)
      cases hv
      obtain ⟨x, hx1, hx2⟩ := N3.out k hlt
      obtain ⟨xA, xcap, rfl, _⟩ := own_form hx2
      have hc := ((own_below N2.out hbr.out).cellAt k (by omega)).trans hx1
      have HXM := Lib.hid (HOK.out _ (xnth_mem hlt))
      have HXB := Lib.hid (HRB.out _ (xnth_mem hlt))
      have hxi : IntsAt wr.heap.size wr (.slice xA (xnth l k).length xcap) (xnth l k) := own_ints (own_below hx2 hbr.out) (okBars_i64 HV.out HXM.out.1)
      have HXI := Lib.hid hxi
      clear hx1 hx2 hxi
      have q1 : ∀ d os, Calls Try.prog 25 #[.agg #[.slice a S.bars.length cap1, .int .i64 S.kerf, .slice a2 S.pieces.length cap2, .int .i64 S.wrong], .slice xA (xnth l k).length xcap, .int .i64 bar] (grow (redrawn wr d) os) fun e w'' => e = .returned (.int .i64 (restS S (xnth l k) bar)) ∧ ∃ p : Regrown, w'' = grow (redrawn wr p.d) p.os := fun d os =>
        Calls.regrown_of (rRestOf_any _ _ S (xnth l k) bar _ HV.out (HST.out.next (below_regrown wr d os)).st (Nat.le_refl _) ((HXI.out.below (below_regrown wr d os)).mono (below_regrown wr d os).size) HXM.out.1.1 hr0 hr1)
      have k0 := cell_regrown c0
      have k1 := cell_regrown c1
      have k2 := cell_regrown c2
      have k3 := cell_regrown c3
      have k4 := cell_regrown hc
      have HFI := Lib.hid (fun d os => below_regrown wr d os)
      have Q1 := Lib.hid q1
      clear q1 c0 c1 c2 c3 hc
      go_wp2_with fail
      refine wp_region_quiet_below (by kernel_rfl) (by kernel_rfl) ?_
      repeat (first | go_big_quiet_step ((go_at_call 25; exact Q1.out _ _)) | quiet_step ((go_at_call 25; exact Q1.out _ _)))
      refine wpQuiet_nil ?_
      intro _ hw'
      obtain ⟨⟨dq, osq⟩, hw''⟩ := hw'
      subst hw''
      have hbq := HFI.out dq osq
      generalize grow (redrawn wr dq) osq = wq at hbq ⊢
      have hsq := (hbq.block w2.heap.size hwz).trans hsp.out
      have HSQ := Lib.hid hsq
      obtain ⟨f0, f1, f2, f3⟩ := cell2_of hsq
      have HBQ := Lib.hid (hbr.out.trans (hbq.mono hbr.out.size))
      have hwz' : w2.heap.size < wq.heap.size := (Array.getElem?_eq_some_iff.1 hsq).1
      clear hbq k0 k1 k2 k3 k4 hsq
      by_cases h0 : k = 0
      · subst h0
        have HN := Lib.hid (spanTo_one hlt HXB.out)
        go_wp2
        refine ⟨⟨0 + 1, by omega, by go_num, ?_, ((((HBQ.out.setCell (p := ⟨w2.heap.size, 0, none⟩) (Nat.le_refl _) _).setCell (p := ⟨w2.heap.size, 1, none⟩) (Nat.le_refl _) _).setCell (p := ⟨w2.heap.size, 0, none⟩) (Nat.le_refl _) _).setCell (p := ⟨w2.heap.size, 1, none⟩) (Nat.le_refl _) _)⟩, by simp [intOf]; omega⟩
        rw [HN.out]
        exact heap_set _ (heap_set _ (heap_set _ (heap_set _ HSQ.out)))
      · have e0 : ((k : Int) == 0) = false := by simp; omega
        have HN := Lib.hid (spanTo_step (S := S) (b := bar) hlt h0)
        go_wp2
        all_goals
          refine ⟨⟨k + 1, by omega, by go_num, ?_, ((HBQ.out.setCell (p := ⟨w2.heap.size, 0, none⟩) (Nat.le_refl _) _).setCell (p := ⟨w2.heap.size, 1, none⟩) (Nat.le_refl _) _)⟩, by simp [intOf]; omega⟩
          rw [HN.out]
          refine (heap_set _ (heap_set _ HSQ.out)).trans ?_
          simp
    · obtain rfl : l.length = k := by omega
      obtain ⟨f0, f1, f2, f3⟩ := cell2_of hsp.out
      obtain ⟨g0, g1, g2, g3⟩ := cell2_of ((hbr.out.block (w.heap.size + 1) hlt2).trans HSP2.out)
      have HRS := Lib.hid ((hbr.out.block (w.heap.size + 1) hlt2).trans HSP2.out)
      have HFV := Lib.hid (show restV S bar = .tuple #[.agg #[.int .i64 (spanTo S bar l l.length).1, .int .i64 (spanTo S bar l l.length).2], .int .i64 0] from by
        have h1 := HNE.out
        rw [HL.out] at h1
        rw [restV, if_neg h1, spanTo, if_neg HNE.out, List.take_length, HL.out])
      have HFB := Lib.hid ((HST.out.b.setCell (p := ⟨w.heap.size + 1, 0, none⟩) (Nat.le_succ _) (.int .i64 (spanTo S bar l l.length).1)).setCell (p := ⟨w.heap.size + 1, 1, none⟩) (Nat.le_succ _) (.int .i64 (spanTo S bar l l.length).2))
      clear hsp
      go_wp2
      obtain ⟨y0, y1, _, _⟩ := cell2_of (heap_set (o := 1) (.int .i64 (spanTo S bar l l.length).2) (heap_set (o := 0) (.int .i64 (spanTo S bar l l.length).1) HRS.out))
      refine bodyPost_ret (v := .tuple #[.agg #[.int .i64 (spanTo S bar l l.length).1, .int .i64 (spanTo S bar l l.length).2], .int .i64 0]) (by simp [results, Try.results51, go_sem, y0, y1]) rfl ⟨by rw [HFV.out], HFB.out⟩
end Go.Proofs.Ytjflpmhlodgadaa
