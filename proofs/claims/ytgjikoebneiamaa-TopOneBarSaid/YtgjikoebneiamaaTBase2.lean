/-
  Walks: the reference's check, truths and fits.
  Walks: the reference's check
  Walks: the reference's truths
  Walks: Fits.
  Walks: which stores the statements examine.
-/
import Derived.Test.YtgjikoebneiamaaTBase
import Derived.Lib.QuietBelow

namespace Go.Proofs.Ytgjikoebneiamaa.Tb
open Go.RowKit Go.Sort

theorem prev_ge {xs : List Int} : ∀ {k : Nat}, allTo (heatOk xs) k = true → -1 ≤ prevH xs k
  | 0, _ => by simp [prevH]
  | k + 1, h => by
    simp only [allTo, Bool.and_eq_true, heatOk, decide_eq_true_eq] at h
    have := prev_ge h.1
    simp only [prevH]; omega

theorem heatOk_f {xs : List Int} {j : Nat} (h : nth xs (j + 1) ≤ nth xs j) : heatOk xs (j + 1) = false := by
  have h0 : prevH xs (j + 1) = nth xs j := rfl
  simp only [heatOk, Bool.and_eq_false_iff, decide_eq_false_iff_not]; omega
theorem heatOk_t {xs : List Int} {j : Nat} (h : ¬ nth xs (j + 1) ≤ nth xs j) (h9 : nth xs (j + 1) ≤ 9) : heatOk xs (j + 1) = true := by
  have h0 : prevH xs (j + 1) = nth xs j := rfl
  simp only [heatOk, Bool.and_eq_true, decide_eq_true_eq]; omega
theorem heatOk_z {xs : List Int} (h : 0 ≤ nth xs 0) (h9 : nth xs 0 ≤ 9) : heatOk xs 0 = true := by
  have h0 : prevH xs 0 = -1 := rfl
  simp only [heatOk, Bool.and_eq_true, decide_eq_true_eq]; omega

set_option maxHeartbeats 400000 in
theorem areHeats_any (v : Value) (xs : List Int) (w : World) {B : Nat} (hx : IntsAt B w v xs) :
    Calls Try.prog 100 #[v] w fun e w' => e = .returned (.bool (heatsOk xs)) ∧ ∃ n, w' = w.drewN n := by
  obtain ⟨a, cap, b, off, rfl, hm, HA, HC, HW⟩ := hx.opened
  clear hx
  go_enter Try.func100, Try.ntmps100
  go_wp2
  go_loopw [3] (fun i wr => ∃ k : Nat, k ≤ xs.length ∧ i = .int .i64 k ∧ Hid (allTo (heatOk xs) k = true) ∧ (∃ n, wr = w.drewN n)) (fun i _ => xs.length - (intOf i).toNat)
  case atStart => exact ⟨0, Nat.zero_le _, rfl, rfl, 0, rfl⟩
  case round =>
    obtain ⟨k, hk, rfl, hall, n0, hwr⟩ := hrel
    have HC := Lib.hid (show ∀ i, i < xs.length → wr.cell? ⟨b, off + i, none⟩ = some (.int .i64 (nth xs i)) from fun i hi => hwr ▸ HC.out i hi)
    have HWR := Lib.hid (show ∀ m, ∃ n, wr.drewN m = w.drewN n from fun m => ⟨n0 + m, by rw [hwr, World.drewN_drewN]⟩)
    have HWR0 := Lib.hid (show ∃ n, wr = w.drewN n from ⟨n0, hwr⟩)
    clear hwr
    have hp := prev_ge hall.out
    by_cases hlt : k < xs.length
    · obtain ⟨rfl, hb⟩ := HA.out (by omega)
      have hcell := HC.out k hlt
      cases hc : wB (nth xs k) 0 9
      · have HQ := Lib.hid hc
        have hno : heatsOk xs = false := allTo_false hlt (by
          have := wB_false.1 hc
          simp only [heatOk, Bool.and_eq_false_iff, decide_eq_false_iff_not]; omega)
        have HN := Lib.hid hno
        clear hc hno
        go_wp2
        go_quiet ((go_at_call 99; exact Calls.quiet_of_same ((rwithin_to HQ.out _).mono fun _ _ h => ⟨h.1, h.2.symm⟩)))
        go_wp2
        go_ret
        exact ⟨ret_bool HN.out.symm, HWR.out _⟩
      · have HQ := Lib.hid hc
        have hc' := wB_iff.1 hc
        clear hc
        obtain ⟨hc1, hc2⟩ := hc'
        cases k with
        | zero =>
          have hok := Lib.hid (show heatOk xs 0 = true from heatOk_z hc1 hc2)
          simp only [Nat.add_zero] at hcell
          have hd : decide ((0 : Int) < 0) = false := by simp
          go_wp2
          go_quiet ((go_at_call 99; exact Calls.quiet_of_same ((rwithin_to HQ.out _).mono fun _ _ h => ⟨h.1, h.2.symm⟩)))
          go_wp2
          exact ⟨⟨0 + 1, by omega, by go_num, allTo_step hall hok.out, HWR.out _⟩, by simp [intOf]; omega⟩
        | succ j =>
          have hcell2 := HC.out j (by omega)
          have hj0 : (0 : Int) < (j : Int) + 1 := by omega
          by_cases hle : nth xs (j + 1) ≤ nth xs j
          · have hno := Lib.hid (show heatsOk xs = false from allTo_false hlt (heatOk_f hle))
            go_wp2
            go_quiet ((go_at_call 99; exact Calls.quiet_of_same ((rwithin_to HQ.out _).mono fun _ _ h => ⟨h.1, h.2.symm⟩)))
            go_wp2
            go_ret
            exact ⟨ret_bool hno.out.symm, HWR.out _⟩
          · have hok := Lib.hid (show heatOk xs (j + 1) = true from heatOk_t hle hc2)
            go_wp2
            go_quiet ((go_at_call 99; exact Calls.quiet_of_same ((rwithin_to HQ.out _).mono fun _ _ h => ⟨h.1, h.2.symm⟩)))
            go_wp2
            exact ⟨⟨j + 1 + 1, by omega, by go_num, allTo_step hall hok.out, HWR.out _⟩, by simp [intOf]; omega⟩
    · go_wp2
      go_ret
      exact ⟨ret_bool (by rw [heatsOk, show xs.length = k by omega, hall.out]), HWR0.out⟩
theorem areHeats_to {v : Value} {xs : List Int} {w : World} {B : Nat} {r : Bool} (h : heatsOk xs = r) (hx : IntsAt B w v xs) :
    Calls Try.prog 100 #[v] w fun e w' => e = .returned (.bool r) ∧ ∃ n, w' = w.drewN n := h ▸ areHeats_any v xs w hx

end Go.Proofs.Ytgjikoebneiamaa.Tb
namespace Go.Proofs.Ytgjikoebneiamaa.Tb
open Go.RowKit Go.Sort

set_option maxHeartbeats 800000 in
theorem rCheck_any (v : Value) (S : Store) (w : World) (hx : StoreAt w.heap.size w v S) :
    Calls Try.prog 60 #[v] w fun e w' => e = .returned (.int .i64 (chkS S)) ∧ Below w.heap.size w w' := by
  obtain ⟨a, cap, b, off, a2, cap2, b2, off2, rfl, hm, hm2, HA, HC, HA2, HC2⟩ := hx.opened
  clear hx
  by_cases hn1 : S.bars.length ≤ 6
  case neg =>
    have hv := Lib.hid (show validB S = false from by simp [validB, hn1])
    have hd1 : decide (6 < (S.bars.length : Int)) = true := by simp; omega
    clear hn1
    go_enter Try.func60, Try.ntmps60
    go_wp2
    go_ret
    exact ⟨ret_int (chkS_bad hv.out).symm, by go_grown⟩
  have hd1 : decide (6 < (S.bars.length : Int)) = false := by simp; omega
  cases hk : wB S.kerf 0 20
  case false =>
    have hv := Lib.hid (show validB S = false from by simp [validB, hk])
    go_enter Try.func60, Try.ntmps60
    go_wp2_with (go_at_call 99; refine (rwithin_to (by with_reducible assumption) _).mono ?_; rintro e w' ⟨rfl, rfl⟩)
    go_ret
    exact ⟨ret_int (chkS_bad hv.out).symm, by go_grown⟩
  by_cases hn2 : S.pieces.length ≤ 8
  case neg =>
    have hv := Lib.hid (show validB S = false from by simp [validB, hn2])
    have hd2 : decide (8 < (S.pieces.length : Int)) = true := by simp; omega
    clear hn2
    go_enter Try.func60, Try.ntmps60
    go_wp2_with (go_at_call 99; refine (rwithin_to (by with_reducible assumption) _).mono ?_; rintro e w' ⟨rfl, rfl⟩)
    go_ret
    exact ⟨ret_int (chkS_bad hv.out).symm, by go_grown⟩
  have hd2 : decide (8 < (S.pieces.length : Int)) = false := by simp; omega
  cases hwr : wB S.wrong 0 8
  case false =>
    have hv := Lib.hid (show validB S = false from by simp [validB, hwr])
    go_enter Try.func60, Try.ntmps60
    go_wp2_with (go_at_call 99; refine (rwithin_to (by with_reducible assumption) _).mono ?_; rintro e w' ⟨rfl, rfl⟩)
    go_ret
    exact ⟨ret_int (chkS_bad hv.out).symm, by go_grown⟩
  go_enter Try.func60, Try.ntmps60
  go_wp2_with (go_at_call 99; refine (rwithin_to (by with_reducible assumption) _).mono ?_; rintro e w' ⟨rfl, rfl⟩)
  have HK := Lib.hid hk
  have HWR := Lib.hid hwr
  clear hk hwr
  go_loopw [3] (fun i wr => ∃ k : Nat, k ≤ S.bars.length ∧ i = .int .i64 k ∧ Below (w.heap.size + 1) (w.alloc _) wr ∧ Hid (allTo (fun i => barOk (bnth S.bars i)) k = true)) (fun i _ => S.bars.length - (intOf i).toNat)
  case atStart => exact ⟨0, Nat.zero_le _, rfl, Below.refl _ _, rfl⟩
  case round =>
    obtain ⟨k, hk, rfl, hbl, hall⟩ := hrel
    have hw := boxed hbl
    have hsz := boxed_size hbl
    obtain ⟨c0, c1, c2, c3⟩ := box4 hbl
    by_cases hlt : k < S.bars.length
    · obtain ⟨rfl, hb⟩ := HA.out (by omega)
      have d0 := (hw.cell (p := ⟨b, off + k * 2, none⟩) hb).trans (HC.out k hlt).1
      have d1 := (hw.cell (p := ⟨b, off + k * 2 + 1, none⟩) hb).trans (HC.out k hlt).2
      have hno := Lib.hid (show barOk (bnth S.bars k) = false → validB S = false from fun h => by rw [validB, allTo_false hlt h]; simp)
      cases h1 : wB (bnth S.bars k).heat 0 9
      case false =>
        go_wp2_with (go_at_call 99; refine (rwithin_to (by with_reducible assumption) _).mono ?_; rintro e w' ⟨rfl, rfl⟩)
        go_ret
        exact ⟨ret_int (chkS_bad (hno.out (by simp [barOk, h1]))).symm, by go_grown⟩
      cases h2 : wB (bnth S.bars k).long 1 999
      all_goals go_wp2_with (go_at_call 99; refine (rwithin_to (by with_reducible assumption) _).mono ?_; rintro e w' ⟨rfl, rfl⟩)
      · go_ret
        exact ⟨ret_int (chkS_bad (hno.out (by simp [barOk, h2]))).symm, by go_grown⟩
      · exact ⟨⟨k + 1, by omega, by go_num, by go_grown, allTo_step hall (by simp [barOk, h1, h2])⟩, by simp [intOf]; omega⟩
    · have hall2 := Lib.hid (show allTo (fun i => barOk (bnth S.bars i)) S.bars.length = true from by rw [show S.bars.length = k by omega, hall.out])
      clear hall
      go_wp2
      go_loopw [4] (fun i w2 => ∃ k : Nat, k ≤ S.pieces.length ∧ i = .int .i64 k ∧ Below (w.heap.size + 1) (w.alloc _) w2 ∧ Hid (allTo (fun i => pieceOk (pnth S.pieces i)) k = true)) (fun i _ => S.pieces.length - (intOf i).toNat)
      case atStart => exact ⟨0, Nat.zero_le _, rfl, hbl, rfl⟩
      case round =>
        clear hw hsz c0 c1 c2 c3 hbl
        obtain ⟨k2, hk2, rfl, hbl, hall⟩ := hrel
        have hw := boxed hbl
        have hsz := boxed_size hbl
        obtain ⟨c0, c1, c2, c3⟩ := box4 hbl
        by_cases hlt : k2 < S.pieces.length
        · obtain ⟨rfl, hb⟩ := HA2.out (by omega)
          have d0 := (hw.cell (p := ⟨b2, off2 + k2 * 2, none⟩) hb).trans (HC2.out k2 hlt).1
          obtain ⟨hv, d1, hI⟩ := (HC2.out k2 hlt).2
          have d1 := (hw.cell (p := ⟨b2, off2 + k2 * 2 + 1, none⟩) hb).trans d1
          have hI := hI.below hw
          obtain ⟨a3, cap3, b3, off3, hveq, _⟩ := hI.opened
          subst hveq
          have hno := Lib.hid (show pieceOk (pnth S.pieces k2) = false → validB S = false from fun h => by rw [validB, allTo_false (n := S.pieces.length) hlt h]; simp)
          cases h1 : wB (pnth S.pieces k2).long 1 999
          case false =>
            go_wp2_with (go_at_call 99; refine (rwithin_to (by with_reducible assumption) _).mono ?_; rintro e w' ⟨rfl, rfl⟩)
            go_ret
            exact ⟨ret_int (chkS_bad (hno.out (by simp [pieceOk, h1]))).symm, by go_grown⟩
          cases h2 : heatsOk (pnth S.pieces k2).heats
          all_goals go_wp2_with (first | (go_at_call 99; refine (rwithin_to (by with_reducible assumption) _).mono ?_; rintro e w' ⟨rfl, rfl⟩) | (go_at_call 100; refine (areHeats_to (by with_reducible assumption) (hI.below (by go_grown))).mono ?_; rintro e w' ⟨rfl, nn, rfl⟩))
          · go_ret
            exact ⟨ret_int (chkS_bad (hno.out (by simp [pieceOk, h2]))).symm, drewN_below hw _⟩
          · exact ⟨⟨k2 + 1, by omega, by go_num, drewN_below hbl _, allTo_step hall (by simp [pieceOk, h1, h2])⟩, by simp [intOf]; omega⟩
        · have hall3 := Lib.hid (show allTo (fun i => pieceOk (pnth S.pieces i)) S.pieces.length = true from by rw [show S.pieces.length = k2 by omega, hall.out])
          clear hall
          go_wp2
          go_ret
          exact ⟨ret_int (chkS_ok (by simp [validB, HK.out, HWR.out, hall2.out, hall3.out, hn1, hn2])).symm, by go_grown⟩
theorem rCheck_ok {v : Value} {S : Store} {w : World} (h : validB S = true) (hx : StoreAt w.heap.size w v S) :
    Calls Try.prog 60 #[v] w fun e w' => e = .returned (.int .i64 0) ∧ Below w.heap.size w w' := by have := rCheck_any v S w hx; rwa [chkS_ok h] at this
theorem rCheck_bad {v : Value} {S : Store} {w : World} (h : validB S = false) (hx : StoreAt w.heap.size w v S) :
    Calls Try.prog 60 #[v] w fun e w' => e = .returned (.int .i64 10) ∧ Below w.heap.size w w' := by have := rCheck_any v S w hx; rwa [chkS_bad h] at this

end Go.Proofs.Ytgjikoebneiamaa.Tb
namespace Go.Proofs.Ytgjikoebneiamaa.Tb
open Go.RowKit Go.Sort

end Go.Proofs.Ytgjikoebneiamaa.Tb
namespace Go.Proofs.Ytgjikoebneiamaa.Tb
open Go.RowKit Go.Sort

def fitsE (S : Store) (L : List Int) : Int := if validB S = true then (if sawingB S L = true then 0 else 1) else 10
def fitsR (S : Store) (L : List Int) : Bool := validB S && truthB S L
theorem fits_bad {S : Store} {L : List Int} (h : validB S = false) : fitsE S L = 10 ∧ fitsR S L = false := by simp [fitsE, fitsR, h]
theorem fits_arg {S : Store} {L : List Int} (h : validB S = true) (h1 : sawingB S L = false) : fitsE S L = 1 ∧ fitsR S L = false := by simp [fitsE, fitsR, h, h1, truthB]
theorem fits_ok {S : Store} {L : List Int} (h : validB S = true) (h1 : sawingB S L = true) : fitsE S L = 0 ∧ fitsR S L = (fitsB S L && decide (wrongs S L ≤ S.wrong)) := by simp [fitsE, fitsR, h, h1, truthB]

end Go.Proofs.Ytgjikoebneiamaa.Tb
namespace Go.Proofs.Ytgjikoebneiamaa.Tb
open Go.RowKit

def fewHeats (S : Store) : Bool := allTo (fun i => decide ((pnth S.pieces i).heats.length ≤ 40)) S.pieces.length
def farB (S : Store) : Bool :=
  decide (40 < S.bars.length) || (decide (40 < S.pieces.length) || (!fewHeats S || (validB S && (decide (4 < S.bars.length) || decide (5 < S.pieces.length)))))

set_option maxHeartbeats 800000 in
theorem Far_any (v : Value) (S : Store) (w : World) (hx : StoreAt w.heap.size w v S) :
    Calls Try.prog 59 #[v] w fun e w' => e = .returned (.bool (farB S)) ∧ Below w.heap.size w w' := by
  have hx' := hx
  obtain ⟨a, cap, b, off, a2, cap2, b2, off2, rfl, hm, hm2, HA, HC, HA2, HC2⟩ := hx.opened
  have HX := Lib.hid hx'
  clear hx hx' HA HC
  by_cases hn1 : S.bars.length ≤ 40
  case neg =>
    have hv := Lib.hid (show farB S = true from by simp [farB]; omega)
    have hd1 : decide (40 < (S.bars.length : Int)) = true := by simp; omega
    clear hn1
    go_enter Try.func59, Try.ntmps59
    go_wp2
    go_ret
    exact ⟨ret_bool hv.out.symm, by go_grown⟩
  have hd1 : decide (40 < (S.bars.length : Int)) = false := by simp; omega
  have hf1 : decide (40 < S.bars.length) = false := by simp; omega
  by_cases hn2 : S.pieces.length ≤ 40
  case neg =>
    have hv := Lib.hid (show farB S = true from by simp [farB]; omega)
    have hd2 : decide (40 < (S.pieces.length : Int)) = true := by simp; omega
    clear hn2
    go_enter Try.func59, Try.ntmps59
    go_wp2
    go_ret
    exact ⟨ret_bool hv.out.symm, by go_grown⟩
  have hd2 : decide (40 < (S.pieces.length : Int)) = false := by simp; omega
  have hf2 : decide (40 < S.pieces.length) = false := by simp; omega
  have hF : farB S = (!fewHeats S || (validB S && (decide (4 < S.bars.length) || decide (5 < S.pieces.length)))) := by rw [farB, hf1, hf2]; simp
  have HF := Lib.hid hF
  clear hf1 hf2 hF
  go_enter Try.func59, Try.ntmps59
  go_wp2
  go_loopw [3] (fun i wr => ∃ k : Nat, k ≤ S.pieces.length ∧ i = .int .i64 k ∧ Below (w.heap.size + 1) (w.alloc _) wr ∧ Hid (allTo (fun i => decide ((pnth S.pieces i).heats.length ≤ 40)) k = true)) (fun i _ => S.pieces.length - (intOf i).toNat)
  case atStart => exact ⟨0, Nat.zero_le _, rfl, Below.refl _ _, rfl⟩
  case round =>
    obtain ⟨k, hk, rfl, hbl, hall⟩ := hrel
    have hw := boxed hbl
    have hsz := boxed_size hbl
    obtain ⟨c0, c1, c2, c3⟩ := box4 hbl
    by_cases hlt : k < S.pieces.length
    · obtain ⟨rfl, hb⟩ := HA2.out (by omega)
      obtain ⟨hv, d1, hI⟩ := (HC2.out k hlt).2
      have d1 := (hw.cell (p := ⟨b2, off2 + k * 2 + 1, none⟩) hb).trans d1
      obtain ⟨a3, cap3, b3, off3, hveq, _⟩ := hI.opened
      subst hveq
      clear hI
      by_cases hh : (pnth S.pieces k).heats.length ≤ 40
      · have hq : decide (40 < ((pnth S.pieces k).heats.length : Int)) = false := by simp; omega
        have HH := Lib.hid hh
        clear hh
        go_wp2
        exact ⟨⟨k + 1, by omega, by go_num, hbl, allTo_step hall (by simpa using HH.out)⟩, by simp [intOf]; omega⟩
      · have hq : decide (40 < ((pnth S.pieces k).heats.length : Int)) = true := by simp; omega
        have HH := Lib.hid hh
        clear hh
        go_wp2
        go_ret
        exact ⟨ret_bool (by rw [HF.out, fewHeats, allTo_false hlt (by simpa using HH.out)]; rfl), hw⟩
    · have hall2 : fewHeats S = true := by rw [fewHeats, show S.pieces.length = k by omega, hall.out]
      have HF2 := Lib.hid (show farB S = (validB S && (decide (4 < (S.bars.length : Int)) || decide (5 < (S.pieces.length : Int)))) from by rw [HF.out, hall2, show (decide (4 < (S.bars.length : Int))) = decide (4 < S.bars.length) from decide_eq_decide.2 (by omega), show (decide (5 < (S.pieces.length : Int))) = decide (5 < S.pieces.length) from decide_eq_decide.2 (by omega)]; simp)
      clear hall hall2
      have hxw := (HX.out.below hw).mono (show w.heap.size ≤ wr.heap.size by omega)
      have HXW := Lib.hid hxw
      clear hxw
      cases hval : validB S
      · have HVAL := Lib.hid hval
        clear hval
        go_wp2_with (go_at_call 60; go_must (refine (rCheck_bad HVAL.out HXW.out).mono ?_); rintro e w' ⟨rfl, hb⟩)
        go_ret
        exact ⟨ret_bool (by rw [HF2.out, HVAL.out]; rfl), hw.trans (hb.mono (by omega))⟩
      · have HVAL := Lib.hid hval
        clear hval
        have hk1 : w.heap.size < wr.heap.size := by omega
        have hff : ∀ x y, decide (4 < (S.bars.length : Int)) = x → decide (5 < (S.pieces.length : Int)) = y → farB S = (x || y) := fun x y h4 h5 => by rw [HF2.out, HVAL.out, h4, h5]; rfl
        have HFG := Lib.hid hff
        clear hff
        cases h4 : decide (4 < (S.bars.length : Int))
        all_goals cases h5 : decide (5 < (S.pieces.length : Int))
        all_goals
          have HFF := Lib.hid (HFG.out _ _ h4 h5)
          go_wp2_with (go_at_call 60; go_must (refine (rCheck_ok HVAL.out HXW.out).mono ?_); rintro e w' ⟨rfl, hb⟩; have k0 := (hb.cell (p := ⟨w.heap.size, 0, none⟩) hk1).trans c0; have k2 := (hb.cell (p := ⟨w.heap.size, 2, none⟩) hk1).trans c2)
          go_ret
          exact ⟨ret_bool (by rw [HFF.out]; rfl), hw.trans (hb.mono (by omega))⟩
theorem Far_to {v : Value} {S : Store} {w : World} {r : Bool} (h : farB S = r) (hx : StoreAt w.heap.size w v S) :
    Calls Try.prog 59 #[v] w fun e w' => e = .returned (.bool r) ∧ Below w.heap.size w w' := h ▸ Far_any v S w hx

def readyB (S : Store) : Bool := !farB S && validB S
end Go.Proofs.Ytgjikoebneiamaa.Tb