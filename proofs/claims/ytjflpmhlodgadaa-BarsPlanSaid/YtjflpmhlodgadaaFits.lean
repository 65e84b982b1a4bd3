/-
  Walks: Fits.
-/
import Derived.Test.YtjflpmhlodgadaaW2
import Derived.Lib.QuietBelow
namespace Go.Proofs.Ytjflpmhlodgadaa
open Go.RowKit Go.Sort

theorem isSawing_to {v lv : Value} {S : Store} {L : List Int} {w : World} {B : Nat} {r : Bool} (h : sawingB S L = r) (hx : StoreAt B w v S) (hB : B ≤ w.heap.size) (hL : IntsAt B w lv L) :
    Calls Try.prog 58 #[v, lv] w fun e w' => e = .returned (.bool r) ∧ Below w.heap.size w w' := h ▸ isSawing_any v lv S L w hx hB hL

def fitsE (S : Store) (L : List Int) : Int := if validB S = true then (if sawingB S L = true then 0 else 1) else 10
def fitsR (S : Store) (L : List Int) : Bool := validB S && truthB S L
theorem fits_bad {S : Store} {L : List Int} (h : validB S = false) : fitsE S L = 10 ∧ fitsR S L = false := by simp [fitsE, fitsR, h]
theorem fits_arg {S : Store} {L : List Int} (h : validB S = true) (h1 : sawingB S L = false) : fitsE S L = 1 ∧ fitsR S L = false := by simp [fitsE, fitsR, h, h1, truthB]
theorem fits_ok {S : Store} {L : List Int} (h : validB S = true) (h1 : sawingB S L = true) : fitsE S L = 0 ∧ fitsR S L = (fitsB S L && decide (wrongs S L ≤ S.wrong)) := by simp [fitsE, fitsR, h, h1, truthB]

set_option maxHeartbeats 1000000 in
theorem Fits_any (v lv : Value) (S : Store) (L : List Int) (w : World) (hx : StoreAt w.heap.size w v S) (hL : IntsAt w.heap.size w lv L) :
    Calls Try.prog 16 #[v, lv] w fun e w' => e = .returned (.tuple #[.bool (fitsR S L), .int .i64 (fitsE S L)]) ∧ Below w.heap.size w w' := by
  have hx' := hx
  have hL' := hL
  obtain ⟨a, cap, b1, off, a2, cap2, b2, off2, rfl, hm, hm2, HA, HC, HA2, HC2⟩ := hx.opened
  obtain ⟨a3, cap3, b3, off3, rfl, hm3, HA3, HC3, HI⟩ := hL.opened
  have HX0 := Lib.hid hx'
  have HL0 := Lib.hid hL'
  have HX := fun o => Lib.hid ((hx'.below ((Below.refl _ w).alloc (Nat.le_refl _) o)).mono (show w.heap.size ≤ (w.alloc o).heap.size by simp))
  clear hx hx' hL hL' HA HC HA2 HC2 HA3 HC3 HI
  cases hval : validB S
  case false =>
    have HF := Lib.hid (fits_bad (L := L) hval)
    have HVAL := Lib.hid hval
    clear hval
    go_enter Try.func16, Try.ntmps16
    go_wp2_with (go_at_call 41; refine (check_bad HVAL.out (HX _).out).mono ?_; rintro e w' ⟨rfl, hb⟩)
    go_ret2
    exact ⟨by rw [HF.out.1, HF.out.2]; rfl, ((Below.refl _ _).alloc (Nat.le_refl _) _).trans (hb.mono (by simp))⟩
  have HVAL := Lib.hid hval
  clear hval
  go_enter Try.func16, Try.ntmps16
  go_wp2_with fail
  refine (check_ok HVAL.out (HX _).out).mono ?_
  rintro e w1 ⟨rfl, hb1⟩
  have hbl : Below (w.heap.size + 1) (w.alloc (.cells #[.slice a S.bars.length cap, .int .i64 S.kerf, .slice a2 S.pieces.length cap2, .int .i64 S.wrong] 25)) w1 := hb1.mono (by simp)
  have hw := boxed hbl
  have hsz := boxed_size hbl
  obtain ⟨c0, c1, c2, c3⟩ := box4 hbl
  clear hb1
  cases hs : sawingB S L
  case false =>
    have HF := Lib.hid (fits_arg HVAL.out hs)
    have HS := Lib.hid hs
    clear hs
    go_wp2_with (go_at_call 58; go_must (refine (isSawing_to HS.out (HX0.out.below hw) (by omega) (HL0.out.below hw)).mono ?_); rintro e w' ⟨rfl, hb⟩)
    go_ret2
    exact ⟨by rw [HF.out.1, HF.out.2]; rfl, hw.trans (hb.mono (by omega))⟩
  have HF := Lib.hid (fits_ok HVAL.out hs)
  have HO := Lib.hid (sawingB_iff.1 hs).1
  have HS := Lib.hid hs
  clear hs
  go_wp2_with fail
  refine (isSawing_to HS.out (HX0.out.below hw) (by omega) (HL0.out.below hw)).mono ?_
  rintro e w2 ⟨rfl, hb2⟩
  have hbl2 := hbl.trans (hb2.mono (by omega))
  clear hb2 hw hsz c0 c1 c2 c3 hbl
  have hw := boxed hbl2
  have hsz := boxed_size hbl2
  obtain ⟨c0, c1, c2, c3⟩ := box4 hbl2
  go_wp2
  go_loopw [20] (fun i wr => ∃ k : Nat, k ≤ S.bars.length ∧ i = .int .i64 k ∧ Hid (allTo (fun b => decide (0 ≤ restS S L b)) k = true) ∧ Below (w.heap.size + 1) (w.alloc (.cells #[.slice a S.bars.length cap, .int .i64 S.kerf, .slice a2 S.pieces.length cap2, .int .i64 S.wrong] 25)) wr) (fun i _ => S.bars.length - (intOf i).toNat)
  case atStart => exact ⟨0, Nat.zero_le _, rfl, rfl, hbl2⟩
  case round =>
    clear hw hsz c0 c1 c2 c3 hbl2
    obtain ⟨k, hk, rfl, hall, hbl⟩ := hrel
    have hw := boxed hbl
    have hsz := boxed_size hbl
    obtain ⟨c0, c1, c2, c3⟩ := box4 hbl
    by_cases hlt : k < S.bars.length
    · by_cases hr : 0 ≤ restS S L k
      · go_wp2_with (go_at_call 59; go_must (refine (rest_any _ _ _ _ _ _ (valid_iff.1 HVAL.out) (HX0.out.below hw) (by omega) (HL0.out.below hw) HO.out.1 (by omega) (by omega)).mono ?_); rintro e w' ⟨rfl, hb⟩)
        exact ⟨⟨k + 1, by omega, by go_num, allTo_step hall (by simpa using hr), hbl.trans (hb.mono (by omega))⟩, by simp [intOf]; omega⟩
      · go_wp2_with (go_at_call 59; go_must (refine (rest_any _ _ _ _ _ _ (valid_iff.1 HVAL.out) (HX0.out.below hw) (by omega) (HL0.out.below hw) HO.out.1 (by omega) (by omega)).mono ?_); rintro e w' ⟨rfl, hb⟩)
        go_ret2
        exact ⟨by rw [HF.out.1, HF.out.2, fitsB, allTo_false hlt (by simpa using hr)]; rfl, hw.trans (hb.mono (by omega))⟩
    · have hR : fitsR S L = decide (wrongs S L ≤ S.wrong) := by rw [HF.out.2, fitsB, show S.bars.length = k by omega, hall.out, Bool.true_and]
      have HR := Lib.hid hR
      clear hall hR
      have k0 := cell_regrown c0
      have k1 := cell_regrown c1
      have k2 := cell_regrown c2
      have k3 := cell_regrown c3
      have hg : ∀ d os, Below w.heap.size w (grow (redrawn wr d) os) := fun d os => hw.trans ((below_regrown wr d os).mono (by omega))
      have hgs : ∀ d os, w.heap.size ≤ (grow (redrawn wr d) os).heap.size := fun d os => Nat.le_trans (by omega) (below_regrown wr d os).size
      have q1 : ∀ d os, Calls Try.prog 60 #[.agg #[.slice a S.bars.length cap, .int .i64 S.kerf, .slice a2 S.pieces.length cap2, .int .i64 S.wrong], .slice a3 L.length cap3] (grow (redrawn wr d) os) fun e w'' => e = .returned (.int .i64 (wrongs S L)) ∧ ∃ p : Regrown, w'' = grow (redrawn wr p.d) p.os := fun d os => Calls.regrown_of (wrongMarks_any _ _ _ _ _ (HX0.out.below (hg d os)) (hgs d os) (HL0.out.below (hg d os)) HO.out)
      have Q1 := Lib.hid q1
      have HG := Lib.hid hg
      clear q1 hg hgs c0 c1 c2 c3 hbl
      go_wp2
      refine wp_region_quiet_below (by kernel_rfl) (by kernel_rfl) ?_
      repeat (first | go_big_quiet_step (exact Q1.out _ _) | quiet_step (exact Q1.out _ _))
      refine wpQuiet_nil ?_
      intro _ hw'
      obtain ⟨⟨dq, osq⟩, hw''⟩ := hw'
      subst hw''
      go_wp2
      go_ret2
      exact ⟨by rw [HF.out.1, HR.out]; rfl, HG.out _ _⟩
end Go.Proofs.Ytjflpmhlodgadaa
