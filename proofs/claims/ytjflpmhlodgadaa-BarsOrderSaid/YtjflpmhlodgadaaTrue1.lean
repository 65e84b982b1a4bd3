/-
  The first law's body: what each truth shows.
-/
import Derived.Test.YtjflpmhlodgadaaAsks
import Derived.Test.YtjflpmhlodgadaaBase2
import Derived.Deep.CutBlock
import Derived.Deep.CutRange
namespace Go.Proofs.Ytjflpmhlodgadaa
open Go.RowKit Go.Sort

theorem box44 {w wr : World} {s0 s1 s2 s3 x0 x1 x2 x3 : Value} {t u : TypeId} (h : Below (w.heap.size + 2) ((w.alloc (.cells #[s0, s1, s2, s3] t)).alloc (.cells #[x0, x1, x2, x3] u)) wr) :
    (wr.cell? ⟨w.heap.size, 0, none⟩ = some s0 ∧ wr.cell? ⟨w.heap.size, 1, none⟩ = some s1 ∧ wr.cell? ⟨w.heap.size, 2, none⟩ = some s2 ∧ wr.cell? ⟨w.heap.size, 3, none⟩ = some s3) ∧
    (wr.cell? ⟨w.heap.size + 1, 0, none⟩ = some x0 ∧ wr.cell? ⟨w.heap.size + 1, 1, none⟩ = some x1 ∧ wr.cell? ⟨w.heap.size + 1, 2, none⟩ = some x2 ∧ wr.cell? ⟨w.heap.size + 1, 3, none⟩ = some x3) ∧
    w.heap.size + 2 ≤ wr.heap.size ∧ Below w.heap.size w wr := by
  have hh := heap_at2 w (.cells #[s0, s1, s2, s3] t) (.cells #[x0, x1, x2, x3] u)
  have hs := h.size
  simp only [World.size_alloc] at hs
  exact ⟨box4_of ((h.block _ (by omega)).trans hh.1), box4_of ((h.block _ (by omega)).trans hh.2), by omega, (below_at2 w _ _).trans (h.mono (by omega))⟩

theorem ready_to {v : Value} {S : Store} {w : World} {r : Bool} (h : readyB S = r) (hx : StoreAt w.heap.size w v S) :
    Calls Try.prog 13 #[v] w fun e w' => e = .returned (.bool r) ∧ Below w.heap.size w w' := h ▸ ready_any v S w hx

theorem rIsPiece_to {v : Value} {S : Store} {p : Int} {w : World} {B : Nat} {r : Bool} (h : wB p 0 (S.pieces.length - 1) = r) (hx : StoreAt B w v S) :
    Calls Try.prog 22 #[v, .int .i64 p] w fun e w' => e = .returned (.bool r) ∧ Below w.heap.size w w' := h ▸ rIsPiece_any v S p w hx

set_option maxRecDepth 100000 in
set_option maxHeartbeats 8000000 in
theorem BarsTrue_any (v lv : Value) (S : Store) (L : List Int) (A B C D : Int) (w : World) (hx : StoreAt w.heap.size w v S) (hL : IntsAt w.heap.size w lv L) :
    Calls Try.prog 3 #[v, lv, .agg #[.int .i64 A, .int .i64 B, .int .i64 C, .int .i64 D]] w fun e w' => e = .returned (.bool true) ∧ Below w.heap.size w w' := by
  have hx' := hx
  have hL' := hL
  obtain ⟨a, cap1, b1, off, a2, cap2, b2, off2, rfl, hm, hm2, HA, HC, HA2, HC2⟩ := hx.opened
  obtain ⟨a3, cap3, b3, off3, rfl, hm3, HA3, HC3, _⟩ := hL.opened
  have hst : ∀ W : World, Below (w.heap.size + 2) ((w.alloc (.cells #[.slice a S.bars.length cap1, .int .i64 S.kerf, .slice a2 S.pieces.length cap2, .int .i64 S.wrong] 25)).alloc (.cells #[.int .i64 A, .int .i64 B, .int .i64 C, .int .i64 D] 28)) W → StoreAt W.heap.size W (.agg #[.slice a S.bars.length cap1, .int .i64 S.kerf, .slice a2 S.pieces.length cap2, .int .i64 S.wrong]) S := fun _ h => (hx'.below (box44 h).2.2.2).mono (box44 h).2.2.2.size
  have hln : ∀ W : World, Below (w.heap.size + 2) ((w.alloc (.cells #[.slice a S.bars.length cap1, .int .i64 S.kerf, .slice a2 S.pieces.length cap2, .int .i64 S.wrong] 25)).alloc (.cells #[.int .i64 A, .int .i64 B, .int .i64 C, .int .i64 D] 28)) W → IntsAt W.heap.size W (.slice a3 L.length cap3) L := fun _ h => (hL'.below (box44 h).2.2.2).mono (box44 h).2.2.2.size
  have HST := Lib.hid hst
  have HLN := Lib.hid hln
  clear hx hL hx' hL' hst hln HA2 HC2
  have hf0 : Below (w.heap.size + 2) ((w.alloc (.cells #[.slice a S.bars.length cap1, .int .i64 S.kerf, .slice a2 S.pieces.length cap2, .int .i64 S.wrong] 25)).alloc (.cells #[.int .i64 A, .int .i64 B, .int .i64 C, .int .i64 D] 28)) ((w.alloc (.cells #[.slice a S.bars.length cap1, .int .i64 S.kerf, .slice a2 S.pieces.length cap2, .int .i64 S.wrong] 25)).alloc (.cells #[.int .i64 A, .int .i64 B, .int .i64 C, .int .i64 D] 28)) := Below.refl _ _
  have HF0 := Lib.hid hf0
  clear hf0
  cases hr : readyB S
  case false =>
    have HR := Lib.hid hr
    clear hr HA HC HA3 HC3
    go_enter Try.func3, Try.ntmps3
    go_wp2_with fail
    refine (ready_to HR.out (HST.out _ HF0.out)).mono ?_
    rintro e w1 ⟨rfl, hb1⟩
    have hf1 := HF0.out.trans (hb1.mono (box44 HF0.out).2.2.1)
    have HF1 := Lib.hid hf1
    clear hf1 hb1
    go_wp2_with fail
    refine (works_any _).mono ?_
    rintro e w2 ⟨rfl, hb2⟩
    have HB2 := Lib.hid hb2
    clear hb2
    go_wp2
    go_ret
    exact ⟨rfl, (box44 HF1.out).2.2.2.trans (HB2.out.mono (box44 HF1.out).2.2.2.size)⟩
  have hval : validB S = true := by
    simp only [readyB, Bool.and_eq_true] at hr
    exact hr.2
  have HV := Lib.hid (valid_iff.1 hval)
  have HVAL := Lib.hid hval
  have HR := Lib.hid hr
  clear hr hval
  by_cases hl40 : L.length ≤ 40
  case neg =>
    have hd : decide (40 < (L.length : Int)) = true := by simp; omega
    clear hl40 HA HC HA3 HC3
    go_enter Try.func3, Try.ntmps3
    go_wp2_with fail
    refine (ready_to HR.out (HST.out _ HF0.out)).mono ?_
    rintro e w1 ⟨rfl, hb1⟩
    have hf1 := HF0.out.trans (hb1.mono (box44 HF0.out).2.2.1)
    have HF1 := Lib.hid hf1
    clear hf1 hb1
    go_wp2_with fail
    refine (works_any _).mono ?_
    rintro e w2 ⟨rfl, hb2⟩
    have HB2 := Lib.hid hb2
    clear hb2
    go_wp2
    go_ret
    exact ⟨rfl, (box44 HF1.out).2.2.2.trans (HB2.out.mono (box44 HF1.out).2.2.2.size)⟩
  have hd40 : decide (40 < (L.length : Int)) = false := by simp; omega
  clear hl40
  cases ht : truthB S L
  case false =>
    have HT := Lib.hid ht
    clear ht HA HC HA3 HC3
    go_enter Try.func3, Try.ntmps3
    go_wp2_with fail
    refine (ready_to HR.out (HST.out _ HF0.out)).mono ?_
    rintro e w1 ⟨rfl, hb1⟩
    have hf1 := HF0.out.trans (hb1.mono (box44 HF0.out).2.2.1)
    obtain ⟨⟨c0, c1, c2, c3⟩, ⟨x0, x1, x2, x3⟩, hsz1, _⟩ := box44 hf1
    have HF1 := Lib.hid hf1
    clear hf1 hb1
    go_wp2_with fail
    refine (rIsTruth_to HT.out HV.out (HST.out _ HF1.out) (Nat.le_refl _) (HLN.out _ HF1.out)).mono ?_
    rintro e w2 ⟨rfl, hb2⟩
    have hf2 := HF1.out.trans (hb2.mono (box44 HF1.out).2.2.1)
    have HF2 := Lib.hid hf2
    clear hf2 hb2 c0 c1 c2 c3 x0 x1 x2 x3
    go_wp2_with fail
    refine (works_any _).mono ?_
    rintro e w3 ⟨rfl, hb3⟩
    have HB3 := Lib.hid hb3
    clear hb3
    go_wp2
    go_ret
    exact ⟨rfl, (box44 HF2.out).2.2.2.trans (HB3.out.mono (box44 HF2.out).2.2.2.size)⟩
  have HT := Lib.hid ht
  have HM := Lib.hid (truth_mem HV.out ht)
  have hO := (truthB_iff.1 ht).1
  have HO := Lib.hid hO
  have HFR := Lib.hid (show fitsR S L = true from by rw [fitsR, HVAL.out, HT.out]; rfl)
  have HFE := Lib.hid (show fitsE S L = 0 from (fits_ok HVAL.out (sawingB_iff.2 hO)).1)
  obtain ⟨few, hfe, hfe0, hfe1⟩ := few_truth HV.out ht
  have HFEW := Lib.hid hfe
  have HEN := Lib.hid (errN_mem HM.out)
  clear ht hO hfe
  have hle0 : 0 ≤ leastS S := (usedTo_le _ _).1
  have hle1 : leastS S ≤ usedTo2 L S.bars.length := by
    rw [← usedS_eq HO.out.1]
    unfold leastS planS
    cases hp : planL (truthsL S) with
    | none => have := planL_none.1 hp; have := HM.out; rw [List.length_eq_zero_iff.1 ‹(truthsL S).length = 0›] at this; cases this
    | some p => exact (plan_least _ _ _ hp).1 L HM.out
  have hg1 : decide (wrongs S L < few) = false := by simp; omega
  have hg2 : decide (usedTo2 L S.bars.length < leastS S) = false := by simp; omega
  have hg3 : decide (few < 0) = false := by simp; omega
  have hg4 : decide (leastS S < 0) = false := by simp; omega
  have hs8 := strS_le S
  have hg5 : decide (40 < ((strS S).length : Int)) = false := by simp; omega
  go_enter Try.func3, Try.ntmps3
  go_wp2_with fail
  refine (ready_to HR.out (HST.out _ HF0.out)).mono ?_
  rintro e w1 ⟨rfl, hb1⟩
  obtain ⟨⟨c0, c1, c2, c3⟩, ⟨x0, x1, x2, x3⟩, _, _⟩ := box44 HF0.out
  have hf1 := HF0.out.trans (hb1.mono (box44 HF0.out).2.2.1)
  clear c0 c1 c2 c3 x0 x1 x2 x3
  obtain ⟨⟨c0, c1, c2, c3⟩, ⟨x0, x1, x2, x3⟩, hsz1, _⟩ := box44 hf1
  have HF1 := Lib.hid hf1
  clear hf1 hb1
  go_wp2_with fail
  refine (rIsTruth_to HT.out HV.out (HST.out _ HF1.out) (Nat.le_refl _) (HLN.out _ HF1.out)).mono ?_
  rintro e w2 ⟨rfl, hb2⟩
  have hf2 := HF1.out.trans (hb2.mono (box44 HF1.out).2.2.1)
  clear c0 c1 c2 c3 x0 x1 x2 x3
  obtain ⟨⟨c0, c1, c2, c3⟩, ⟨x0, x1, x2, x3⟩, hsz2, _⟩ := box44 hf2
  have HF2 := Lib.hid hf2
  clear hf2 hb2
  go_wp2_with fail
  refine (Fits_any _ _ S L _ (HST.out _ HF2.out) (HLN.out _ HF2.out)).mono ?_
  rintro e w3 ⟨rfl, hb3⟩
  rw [HFR.out, HFE.out]
  have hf3 := HF2.out.trans (hb3.mono (box44 HF2.out).2.2.1)
  clear c0 c1 c2 c3 x0 x1 x2 x3
  obtain ⟨⟨c0, c1, c2, c3⟩, ⟨x0, x1, x2, x3⟩, hsz3, _⟩ := box44 hf3
  have HF3 := Lib.hid hf3
  clear hf3 hb3
  go_wp2_with fail
  refine (Fewest_any _ S _ (HST.out _ HF3.out) HV.out).mono ?_
  rintro e w4 ⟨rfl, hb4⟩
  rw [HFEW.out]
  have hf4 := HF3.out.trans (hb4.mono (box44 HF3.out).2.2.1)
  clear c0 c1 c2 c3 x0 x1 x2 x3
  obtain ⟨⟨c0, c1, c2, c3⟩, ⟨x0, x1, x2, x3⟩, hsz4, _⟩ := box44 hf4
  have HF4 := Lib.hid hf4
  clear hf4 hb4
  go_wp2_with fail
  refine (Least_any _ S _ (HST.out _ HF4.out) HV.out).mono ?_
  rintro e w5 ⟨rfl, hb5⟩
  rw [HEN.out]
  have hf5 := HF4.out.trans (hb5.mono (box44 HF4.out).2.2.1)
  clear c0 c1 c2 c3 x0 x1 x2 x3
  obtain ⟨⟨c0, c1, c2, c3⟩, ⟨x0, x1, x2, x3⟩, hsz5, _⟩ := box44 hf5
  have HF5 := Lib.hid hf5
  clear hf5 hb5
  go_wp2_with fail
  refine (Strange_any _ S _ (HST.out _ HF5.out) HV.out).mono ?_
  rintro e w6 ⟨sv, rfl, hsv, hb6⟩
  rw [HEN.out]
  obtain ⟨a4, cap4, b4, off4, rfl, _, HA4, HC4, _⟩ := hsv.opened
  have hf6 := HF5.out.trans (hb6.mono (box44 HF5.out).2.2.1)
  clear c0 c1 c2 c3 x0 x1 x2 x3
  obtain ⟨⟨c0, c1, c2, c3⟩, ⟨x0, x1, x2, x3⟩, hsz6, _⟩ := box44 hf6
  have HF6 := Lib.hid hf6
  clear hf6 hb6 hsv
  go_wp2_with fail
  refine (rWrongs_any _ _ S L _ (HST.out _ HF6.out) (Nat.le_refl _) (HLN.out _ HF6.out) HO.out.1).mono ?_
  rintro e w7 ⟨rfl, hb7⟩
  have HB67 := Lib.hid hb7
  have hf7 := HF6.out.trans (hb7.mono (box44 HF6.out).2.2.1)
  clear c0 c1 c2 c3 x0 x1 x2 x3
  obtain ⟨⟨c0, c1, c2, c3⟩, ⟨x0, x1, x2, x3⟩, hsz7, _⟩ := box44 hf7
  have HF7 := Lib.hid hf7
  clear hf7 hb7
  go_wp2_with fail
  refine (rUsed_any _ _ S L _ HV.out.nb (HST.out _ HF7.out) (Nat.le_refl _) (HLN.out _ HF7.out)).mono ?_
  rintro e w8 ⟨rfl, hb8⟩
  have HB68 := Lib.hid (HB67.out.trans (hb8.mono HB67.out.size))
  have hf8 := HF7.out.trans (hb8.mono (box44 HF7.out).2.2.1)
  clear c0 c1 c2 c3 x0 x1 x2 x3
  obtain ⟨⟨c0, c1, c2, c3⟩, ⟨x0, x1, x2, x3⟩, hsz8, _⟩ := box44 hf8
  have HF8 := Lib.hid hf8
  clear hf8 hb8
  go_wp2
  go_loopw [15] (fun i wr => ∃ k : Nat, k ≤ (strS S).length ∧ i = .int .i64 k ∧ Hid (Below w8.heap.size w8 wr)) (fun i _ => (strS S).length - (intOf i).toNat)
  case atStart => exact ⟨0, Nat.zero_le _, rfl, Below.refl _ _⟩
  case round =>
    obtain ⟨k, hk, rfl, hbr⟩ := hrel
    have hfr := HF8.out.trans (hbr.out.mono (box44 HF8.out).2.2.1)
    clear c0 c1 c2 c3 x0 x1 x2 x3
    obtain ⟨⟨c0, c1, c2, c3⟩, ⟨x0, x1, x2, x3⟩, hszr, hwr⟩ := box44 hfr
    by_cases hlt : k < (strS S).length
    · obtain ⟨rfl, hb4⟩ := HA4.out (by omega)
      obtain ⟨j, hj, hjp, hjw⟩ := str_truth HM.out (nth_mem hlt)
      have d := ((HB68.out.trans (hbr.out.mono HB68.out.size)).cell (p := ⟨b4, off4 + k, none⟩) hb4).trans (HC4.out k hlt)
      rw [hj] at d
      have k0 := cell_regrown c0
      have k1 := cell_regrown c1
      have k2 := cell_regrown c2
      have k3 := cell_regrown c3
      have k4 := cell_regrown d
      have hg : ∀ d os, Below (w.heap.size + 2) ((w.alloc (.cells #[.slice a S.bars.length cap1, .int .i64 S.kerf, .slice a2 S.pieces.length cap2, .int .i64 S.wrong] 25)).alloc (.cells #[.int .i64 A, .int .i64 B, .int .i64 C, .int .i64 D] 28)) (grow (redrawn wr d) os) := fun d os => hfr.trans ((below_regrown wr d os).mono hszr)
      have q1 : ∀ d os, Calls Try.prog 22 #[.agg #[.slice a S.bars.length cap1, .int .i64 S.kerf, .slice a2 S.pieces.length cap2, .int .i64 S.wrong], .int .i64 j] (grow (redrawn wr d) os) fun e w'' => e = .returned (.bool true) ∧ ∃ p : Regrown, w'' = grow (redrawn wr p.d) p.os := fun d os => Calls.regrown_of ((rIsPiece_any _ S j _ (HST.out _ (hg d os))).mono fun e w' h => by rw [wB_iff.2 ⟨by omega, by omega⟩] at h; exact h)
      have q2 : ∀ d os, Calls Try.prog 23 #[.agg #[.slice a S.bars.length cap1, .int .i64 S.kerf, .slice a2 S.pieces.length cap2, .int .i64 S.wrong], .slice a3 L.length cap3, .int .i64 j] (grow (redrawn wr d) os) fun e w'' => e = .returned (.bool true) ∧ ∃ p : Regrown, w'' = grow (redrawn wr p.d) p.os := fun d os => Calls.regrown_of (rIsWrong_to (by rw [Int.toNat_natCast]; exact hjw) (HST.out _ (hg d os)) (Nat.le_refl _) (HLN.out _ (hg d os)) HO.out.1 (by omega) (by have := HO.out.2; omega))
      have Q1 := Lib.hid q1
      have Q2 := Lib.hid q2
      have HFI := Lib.hid (fun d os => hbr.out.trans ((below_regrown wr d os).mono hbr.out.size))
      clear q1 q2 hg c0 c1 c2 c3 d hbr hwr hj hjw x0 x1 x2 x3 hfr
      go_wp2
      refine wp_region_quiet_below (by kernel_rfl) (by kernel_rfl) ?_
      repeat (first | go_big_quiet_step (first | (go_at_call 22; exact Q1.out _ _) | (go_at_call 23; exact Q2.out _ _)) | quiet_step (first | (go_at_call 22; exact Q1.out _ _) | (go_at_call 23; exact Q2.out _ _)))
      refine wpQuiet_nil ?_
      intro _ hw'
      obtain ⟨⟨dq, osq⟩, hw''⟩ := hw'
      subst hw''
      go_wp2
      exact ⟨⟨k + 1, by omega, by go_num, HFI.out _ _⟩, by simp [intOf]; omega⟩
    · obtain rfl : (strS S).length = k := by omega
      have HFR := Lib.hid hfr
      clear hfr hbr hwr
      go_wp2
      go_loopw [16] (fun i wq => ∃ k : Nat, k ≤ S.bars.length ∧ i = .int .i64 k ∧ Hid (Below (w.heap.size + 2) ((w.alloc (.cells #[.slice a S.bars.length cap1, .int .i64 S.kerf, .slice a2 S.pieces.length cap2, .int .i64 S.wrong] 25)).alloc (.cells #[.int .i64 A, .int .i64 B, .int .i64 C, .int .i64 D] 28)) wq)) (fun i _ => S.bars.length - (intOf i).toNat)
      case atStart => exact ⟨0, Nat.zero_le _, rfl, HFR.out⟩
      case round =>
        clear c0 c1 c2 c3 x0 x1 x2 x3 hszr
        obtain ⟨k, hk, rfl, hfq⟩ := hrel
        obtain ⟨⟨c0, c1, c2, c3⟩, ⟨x0, x1, x2, x3⟩, hszq, _⟩ := box44 hfq.out
        by_cases hlt : k < S.bars.length
        · obtain ⟨hlo, hhi⟩ := (rest_truth (S := S) k (x := L) (truthsL S) (999, 0)).2 HM.out
          have hrv : restV S k = .tuple #[.agg #[.int .i64 (restSpan S k (truthsL S)).1, .int .i64 (restSpan S k (truthsL S)).2], .int .i64 0] := restV_some (fun e => by have h := HM.out; have e2 : (truthsL S).length = 0 := e; rw [List.length_eq_zero_iff.1 e2] at h; cases h)
          have hlo' : decide (restS S L k < (restSpan S k (truthsL S)).1) = false := by
            simp only [decide_eq_false_iff_not, Int.not_lt]
            exact hlo
          have hhi' : decide ((restSpan S k (truthsL S)).2 < restS S L k) = false := by
            simp only [decide_eq_false_iff_not, Int.not_lt]
            exact hhi
          have HRV := Lib.hid hrv
          clear hlo hhi hrv
          go_wp2_with fail
          refine (Rest_any _ S k _ (HST.out _ hfq.out) HV.out (by omega) (by omega)).mono ?_
          rintro e u1 ⟨rfl, hb1⟩
          rw [HRV.out]
          have hf1 := hfq.out.trans (hb1.mono hszq)
          clear c0 c1 c2 c3 x0 x1 x2 x3 hb1
          obtain ⟨⟨c0, c1, c2, c3⟩, ⟨x0, x1, x2, x3⟩, hsu1, _⟩ := box44 hf1
          have hlu1 : w.heap.size < u1.heap.size := by omega
          have hlu2 : w.heap.size + 1 < u1.heap.size := by omega
          have HU1 := Lib.hid hf1
          clear hf1
          go_wp2_with fail
          have hf1a := HU1.out.trans ((Below.refl _ u1).alloc hsu1 (.cells #[.int .i64 (restSpan S k (truthsL S)).1, .int .i64 (restSpan S k (truthsL S)).2] 43))
          refine (rRestOf_any _ _ S L k _ HV.out (HST.out _ hf1a) (Nat.le_refl _) (HLN.out _ hf1a) HO.out.1.1 (by omega) (by omega)).mono ?_
          rintro e u2 ⟨rfl, hb2⟩
          have hs2 := hb2.size
          simp only [World.size_alloc] at hs2
          have hf2 := hf1a.trans (hb2.mono (by simp; omega))
          have hsp := (hb2.block u1.heap.size (by simp)).trans (heap_new u1 _)
          obtain ⟨s0, s1, _, _⟩ := cell2_of hsp
          clear c0 c1 c2 c3 x0 x1 x2 x3 hb2 hsp hf1a
          have HU2 := Lib.hid hf2
          clear hf2
          go_wp2
          exact ⟨⟨k + 1, by omega, by go_num, HU2.out⟩, by simp [intOf]; omega⟩
        · obtain rfl : S.bars.length = k := by omega
          go_upto_region 21 with fail
          go_cut [20, 21] from 163 to 169 (fun k e wz => ∃ k' e' : Int, k = .int .i64 k' ∧ e = .int .i64 e' ∧ Hid (Below (w.heap.size + 2) ((w.alloc (.cells #[.slice a S.bars.length cap1, .int .i64 S.kerf, .slice a2 S.pieces.length cap2, .int .i64 S.wrong] 25)).alloc (.cells #[.int .i64 A, .int .i64 B, .int .i64 C, .int .i64 D] 28)) wz) ∧ (e' = 0 ∧ Hid ((1 ≤ D ∧ D ≤ 999) ∧ agreesB k' (roomB S L D) = true) ∨ e' = 1))
          case first =>
            cases hl : wB D 1 999
            · have HLL := Lib.hid hl
              clear hl
              go_wp2_with fail
              refine (Room_bad _ S D _ (HST.out _ hfq.out) HV.out HLL.out).mono ?_
              rintro e wz ⟨rfl, hbz⟩
              have HFZ := Lib.hid (hfq.out.trans (hbz.mono hszq))
              clear c0 c1 c2 c3 x0 x1 x2 x3 hbz
              go_wp2
              go_meet
              exact ⟨_, _, rfl, rfl, HFZ.out, .inr rfl⟩
            · have HLL := Lib.hid (wB_iff.1 hl)
              obtain ⟨hkn1, hkn2⟩ := known_agrees (q := fun x => roomB S x D) HM.out
              have HK1 := Lib.hid (show (roomV S D).2 = 0 from hkn1)
              have HK2 := Lib.hid (show agreesB (roomV S D).1 (roomB S L D) = true from hkn2)
              clear hl hkn1 hkn2
              go_wp2_with fail
              refine (Room_any _ S D _ (HST.out _ hfq.out) HV.out HLL.out.1 HLL.out.2).mono ?_
              rintro e wz ⟨rfl, hbz⟩
              rw [HK1.out]
              have HFZ := Lib.hid (hfq.out.trans (hbz.mono hszq))
              clear c0 c1 c2 c3 x0 x1 x2 x3 hbz
              go_wp2
              go_meet
              exact ⟨_, _, rfl, rfl, HFZ.out, .inl ⟨rfl, HLL.out, HK2.out⟩⟩
          case rest =>
            obtain ⟨k', e', rfl, rfl, hfy, hce⟩ := hcut
            clear c0 c1 c2 c3 x0 x1 x2 x3
            obtain ⟨⟨c0, c1, c2, c3⟩, ⟨x0, x1, x2, x3⟩, hszy, _⟩ := box44 hfy.out
            go_upto_region 22 with fail
            go_cut [181] from 170 to 180 (fun b wz => b = .bool false ∧ Hid (Below (w.heap.size + 2) ((w.alloc (.cells #[.slice a S.bars.length cap1, .int .i64 S.kerf, .slice a2 S.pieces.length cap2, .int .i64 S.wrong] 25)).alloc (.cells #[.int .i64 A, .int .i64 B, .int .i64 C, .int .i64 D] 28)) wz))
            case first =>
              rcases hce with ⟨rfl, hd⟩ | rfl
              · go_wp2_with fail
                refine (rHasRoom_any _ _ S L D _ HV.out (HST.out _ hfy.out) (Nat.le_refl _) (HLN.out _ hfy.out) HO.out.1.1 hd.out.1.1 hd.out.1.2).mono ?_
                rintro e wz ⟨rfl, hbz⟩
                have HFZ := Lib.hid (hfy.out.trans (hbz.mono hszy))
                clear c0 c1 c2 c3 x0 x1 x2 x3 hbz
                go_wp2_with fail
                refine (rAgrees_any _ _ _).mono ?_
                rintro e w' ⟨rfl, hww⟩
                rw [hww, hd.out.2]
                clear hww w'
                go_wp2
                go_meet
                exact ⟨rfl, HFZ.out⟩
              · go_wp2
                go_meet
                exact ⟨rfl, hfy⟩
            case rest =>
              obtain ⟨rfl, hfz⟩ := hcut
              clear c0 c1 c2 c3 x0 x1 x2 x3
              obtain ⟨⟨c0, c1, c2, c3⟩, ⟨x0, x1, x2, x3⟩, hszz, _⟩ := box44 hfz.out
              have HFZ := Lib.hid hfz.out
              clear hfz
              go_wp2_with fail
              cases hA : wB A 0 (S.pieces.length - 1)
              · have HPA := Lib.hid hA
                clear hA
                refine (rIsPiece_to HPA.out (HST.out _ HFZ.out)).mono ?_
                rintro e v1 ⟨rfl, hb1⟩
                have HV1 := Lib.hid (HFZ.out.trans (hb1.mono hszz))
                clear c0 c1 c2 c3 x0 x1 x2 x3 hb1
                go_wp2_with fail
                refine (works_any _).mono ?_
                rintro e v2 ⟨rfl, hb2⟩
                have HB2 := Lib.hid hb2
                clear hb2
                go_wp2
                go_ret
                exact ⟨rfl, (box44 HV1.out).2.2.2.trans (HB2.out.mono (box44 HV1.out).2.2.2.size)⟩
              · have HPA := Lib.hid hA
                clear hA
                refine (rIsPiece_to HPA.out (HST.out _ HFZ.out)).mono ?_
                rintro e v1 ⟨rfl, hb1⟩
                have hv1 := HFZ.out.trans (hb1.mono hszz)
                clear c0 c1 c2 c3 x0 x1 x2 x3 hb1
                obtain ⟨⟨c0, c1, c2, c3⟩, ⟨x0, x1, x2, x3⟩, hsv1, _⟩ := box44 hv1
                have HV1 := Lib.hid hv1
                clear hv1
                go_wp2_with fail
                cases hB : wB B 0 (S.pieces.length - 1)
                · have HPB := Lib.hid hB
                  clear hB
                  refine (rIsPiece_to HPB.out (HST.out _ HV1.out)).mono ?_
                  rintro e v2 ⟨rfl, hb2⟩
                  have HV2 := Lib.hid (HV1.out.trans (hb2.mono hsv1))
                  clear c0 c1 c2 c3 x0 x1 x2 x3 hb2
                  go_wp2_with fail
                  refine (works_any _).mono ?_
                  rintro e v3 ⟨rfl, hb3⟩
                  have HB3 := Lib.hid hb3
                  clear hb3
                  go_wp2
                  go_ret
                  exact ⟨rfl, (box44 HV2.out).2.2.2.trans (HB3.out.mono (box44 HV2.out).2.2.2.size)⟩
                · have HPB := Lib.hid hB
                  clear hB
                  refine (rIsPiece_to HPB.out (HST.out _ HV1.out)).mono ?_
                  rintro e v2 ⟨rfl, hb2⟩
                  have hv2 := HV1.out.trans (hb2.mono hsv1)
                  clear c0 c1 c2 c3 x0 x1 x2 x3 hb2
                  obtain ⟨⟨c0, c1, c2, c3⟩, ⟨x0, x1, x2, x3⟩, hsv2, _⟩ := box44 hv2
                  have HV2 := Lib.hid hv2
                  clear hv2
                  obtain ⟨p, rfl⟩ := Int.eq_ofNat_of_zero_le (wB_iff.1 HPA.out).1
                  obtain ⟨r, rfl⟩ := Int.eq_ofNat_of_zero_le (wB_iff.1 HPB.out).1
                  have hp : p < S.pieces.length := by have := (wB_iff.1 HPA.out).2; omega
                  have hr : r < S.pieces.length := by have := (wB_iff.1 HPB.out).2; omega
                  have HOE := Lib.hid (of_err HV.out HM.out hp)
                  have HOT := Lib.hid (of_truth HV.out HM.out hp)
                  have HHT := Lib.hid (heats_truth HV.out HM.out hp)
                  obtain ⟨ha1, ha2⟩ := known_agrees (q := alikeB p r) HM.out
                  have HA1 := Lib.hid (show (alikeV S p r).2 = 0 from ha1)
                  have HA2 := Lib.hid (show agreesB (alikeV S p r).1 (alikeB p r L) = true from ha2)
                  clear ha1 ha2
                  go_wp2_with fail
                  refine (Of_any _ S p _ (HST.out _ HV2.out) HV.out hp).mono ?_
                  rintro e v3 ⟨ov, rfl, hov, hb3⟩
                  rw [HOE.out]
                  obtain ⟨oa, ocap, ob, ooff, rfl, _, _⟩ := hov.opened
                  have hv3 := HV2.out.trans (hb3.mono hsv2)
                  clear c0 c1 c2 c3 x0 x1 x2 x3 hb3
                  obtain ⟨⟨c0, c1, c2, c3⟩, ⟨x0, x1, x2, x3⟩, hsv3, _⟩ := box44 hv3
                  have HV3 := Lib.hid hv3
                  have HOV := Lib.hid hov
                  clear hv3 hov
                  go_wp2_with fail
                  refine (Heats_any _ S p _ (HST.out _ HV3.out) HV.out hp).mono ?_
                  rintro e v4 ⟨hv, rfl, hhv, hb4⟩
                  rw [HOE.out]
                  obtain ⟨ta, tcap, tb, toff, rfl, _, _⟩ := hhv.opened
                  have hv4 := HV3.out.trans (hb4.mono hsv3)
                  have HOV4 := Lib.hid ((HOV.out.below hb4).mono hb4.size)
                  clear c0 c1 c2 c3 x0 x1 x2 x3 hb4
                  obtain ⟨⟨c0, c1, c2, c3⟩, ⟨x0, x1, x2, x3⟩, hsv4, _⟩ := box44 hv4
                  have HV4 := Lib.hid hv4
                  have HHV := Lib.hid hhv
                  clear hv4 hhv
                  go_wp2_with fail
                  refine (Alike_any _ S p r _ (HST.out _ HV4.out) HV.out hp hr).mono ?_
                  rintro e v5 ⟨rfl, hb5⟩
                  rw [HA1.out]
                  have hv5 := HV4.out.trans (hb5.mono hsv4)
                  have HOV5 := Lib.hid ((HOV4.out.below hb5).mono hb5.size)
                  have HHV5 := Lib.hid ((HHV.out.below hb5).mono hb5.size)
                  clear c0 c1 c2 c3 x0 x1 x2 x3 hb5
                  obtain ⟨⟨c0, c1, c2, c3⟩, ⟨x0, x1, x2, x3⟩, hsv5, hwv5⟩ := box44 hv5
                  have HV5 := Lib.hid hv5
                  clear hv5
                  have hpl : p < L.length := by rw [HO.out.2]; exact hp
                  have hrl : r < L.length := by rw [HO.out.2]; exact hr
                  obtain ⟨o1, o2⟩ := HO.out.1.2 p hpl
                  obtain ⟨j, hj⟩ := Int.eq_ofNat_of_zero_le o1
                  obtain ⟨o3, o4⟩ := HO.out.1.2 r hrl
                  obtain ⟨q, hq⟩ := Int.eq_ofNat_of_zero_le o3
                  have hjb : j < S.bars.length := by omega
                  have hot := HOT.out
                  have hht := HHT.out
                  have ha2 := HA2.out
                  rw [alikeB, hj, hq] at ha2
                  rw [hj] at hot hht
                  rw [Int.toNat_natCast] at hht
                  obtain ⟨rfl, hlb3⟩ := HA3.out (by omega)
                  obtain ⟨rfl, hlb1⟩ := HA.out (by omega)
                  have dp := (hwv5.cell (p := ⟨b3, off3 + p, none⟩) hlb3).trans (HC3.out p hpl)
                  have dr := (hwv5.cell (p := ⟨b3, off3 + r, none⟩) hlb3).trans (HC3.out r hrl)
                  have dh := (hwv5.cell (p := ⟨b1, off + j * 2, none⟩) hlb1).trans (HC.out j hjb).1
                  rw [hj] at dp
                  rw [hq] at dr
                  have k0 := cell_regrown c0
                  have k1 := cell_regrown x0
                  have k2 := cell_regrown x1
                  have k3 := cell_regrown dp
                  have k4 := cell_regrown dr
                  have k5 := cell_regrown dh
                  obtain ⟨ge, hge⟩ : ∃ ge : Bool, ((j : Int) == (q : Int)) = ge := ⟨_, rfl⟩
                  rw [hge] at ha2
                  have q1 : ∀ d os, Calls Try.prog 32 #[.slice oa (ofS S p).length ocap, .int .i64 j] (grow (redrawn v5 d) os) fun e w'' => e = .returned (.bool true) ∧ ∃ p : Regrown, w'' = grow (redrawn v5 p.d) p.os := fun d os => Calls.regrown_of ((rin_to hot (HOV5.out.below (below_regrown v5 d os))).mono fun e w' h => ⟨h.1, by rw [h.2]; exact Below.refl _ _⟩)
                  have q2 : ∀ d os, Calls Try.prog 32 #[.slice ta (heatsS S p).length tcap, .int .i64 (bnth S.bars j).heat] (grow (redrawn v5 d) os) fun e w'' => e = .returned (.bool true) ∧ ∃ p : Regrown, w'' = grow (redrawn v5 p.d) p.os := fun d os => Calls.regrown_of ((rin_to hht (HHV5.out.below (below_regrown v5 d os))).mono fun e w' h => ⟨h.1, by rw [h.2]; exact Below.refl _ _⟩)
                  have q3 : ∀ d os, Calls Try.prog 27 #[.int .i64 (alikeV S p r).1, .bool ge] (grow (redrawn v5 d) os) fun e w'' => e = .returned (.bool true) ∧ ∃ p : Regrown, w'' = grow (redrawn v5 p.d) p.os := fun d os => Calls.regrown_of ((rAgrees_any _ _ _).mono fun e w' h => ⟨by rw [h.1, ha2], by rw [h.2]; exact Below.refl _ _⟩)
                  have q4 : ∀ d os, Calls Try.prog 15 #[] (grow (redrawn v5 d) os) fun e w'' => e = .returned (.bool true) ∧ ∃ p : Regrown, w'' = grow (redrawn v5 p.d) p.os := fun d os => Calls.regrown_of (works_any _)
                  have Q1 := Lib.hid q1
                  have Q2 := Lib.hid q2
                  have Q3 := Lib.hid q3
                  have Q4 := Lib.hid q4
                  have HFI := Lib.hid (fun d os => hwv5.trans ((below_regrown v5 d os).mono hwv5.size))
                  clear q1 q2 q3 q4 c0 c1 c2 c3 x0 x1 x2 x3 dp dr dh hot hht ha2 hwv5 hj hq o1 o2 o3 o4
                  go_wp2_with fail
                  refine wp_region_quiet_below (by kernel_rfl) (by kernel_rfl) ?_
                  repeat (first | go_big_quiet_step (first | (go_at_call 32; first | with_reducible exact Q1.out _ _ | with_reducible exact Q2.out _ _) | (go_at_call 27; exact Q3.out _ _) | (go_at_call 15; exact Q4.out _ _)) | quiet_step (first | (go_at_call 32; first | with_reducible exact Q1.out _ _ | with_reducible exact Q2.out _ _) | (go_at_call 27; exact Q3.out _ _) | (go_at_call 15; exact Q4.out _ _)))
                  refine wpQuiet_nil ?_
                  intro _ hw'
                  obtain ⟨⟨dq, osq⟩, hw''⟩ := hw'
                  subst hw''
                  go_wp2
                  go_ret
                  exact ⟨rfl, HFI.out _ _⟩
end Go.Proofs.Ytjflpmhlodgadaa
