/-
  Walks: which stores the statements examine.
-/
import Derived.Test.YtjflpmhlodgadaaW4c
namespace Go.Proofs.Ytjflpmhlodgadaa
open Go.RowKit

def fewHeats (S : Store) : Bool := allTo (fun i => decide ((pnth S.pieces i).heats.length ≤ 40)) S.pieces.length
def farB (S : Store) : Bool :=
  decide (40 < S.bars.length) || (decide (40 < S.pieces.length) || (!fewHeats S || (validB S && (decide (4 < S.bars.length) || decide (5 < S.pieces.length)))))

set_option maxHeartbeats 800000 in
theorem Far_any (v : Value) (S : Store) (w : World) (hx : StoreAt w.heap.size w v S) :
    Calls Try.prog 40 #[v] w fun e w' => e = .returned (.bool (farB S)) ∧ Below w.heap.size w w' := by
  have hx' := hx
  obtain ⟨a, cap, b, off, a2, cap2, b2, off2, rfl, hm, hm2, HA, HC, HA2, HC2⟩ := hx.opened
  have HX := Lib.hid hx'
  clear hx hx' HA HC
  by_cases hn1 : S.bars.length ≤ 40
  case neg =>
    have hv := Lib.hid (show farB S = true from by simp [farB]; omega)
    have hd1 : decide (40 < (S.bars.length : Int)) = true := by simp; omega
    clear hn1
    go_enter Try.func40, Try.ntmps40
    go_wp2
    go_ret
    exact ⟨ret_bool hv.out.symm, by go_grown⟩
  have hd1 : decide (40 < (S.bars.length : Int)) = false := by simp; omega
  have hf1 : decide (40 < S.bars.length) = false := by simp; omega
  by_cases hn2 : S.pieces.length ≤ 40
  case neg =>
    have hv := Lib.hid (show farB S = true from by simp [farB]; omega)
    have hd2 : decide (40 < (S.pieces.length : Int)) = true := by simp; omega
    clear hn2
    go_enter Try.func40, Try.ntmps40
    go_wp2
    go_ret
    exact ⟨ret_bool hv.out.symm, by go_grown⟩
  have hd2 : decide (40 < (S.pieces.length : Int)) = false := by simp; omega
  have hf2 : decide (40 < S.pieces.length) = false := by simp; omega
  have hF : farB S = (!fewHeats S || (validB S && (decide (4 < S.bars.length) || decide (5 < S.pieces.length)))) := by rw [farB, hf1, hf2]; simp
  have HF := Lib.hid hF
  clear hf1 hf2 hF
  go_enter Try.func40, Try.ntmps40
  go_wp2
  go_loopw [3] (fun i wr => ∃ k : Nat, k ≤ S.pieces.length ∧ i = .int .i64 k ∧ Below (w.heap.size + 1) (w.alloc _) wr ∧ Hid (allTo (fun i => decide ((pnth S.pieces i).heats.length ≤ 40)) k = true)) (fun i _ => S.pieces.length - (intOf i).toNat)
  case atStart => exact ⟨0, Nat.zero_le _, rfl, Below.refl _ _, rfl⟩
  case round =>
    obtain ⟨k, hk, rfl, hbl, hall⟩ := hrel
    have hw := boxed hbl
    have hsz := boxed_size hbl
    obtain ⟨c0, c1, c2, c3⟩ := box4 hbl
    by_cases hlt : k < S.pieces.length
    · obtain ⟨rfl, hb⟩ := HA2.out (by omega)
      obtain ⟨hv, d1, hI⟩ := (HC2.out k hlt).2
      have d1 := (hw.cell (p := ⟨b2, off2 + k * 2 + 1, none⟩) hb).trans d1
      obtain ⟨a3, cap3, b3, off3, hveq, _⟩ := hI.opened
      subst hveq
      clear hI
      by_cases hh : (pnth S.pieces k).heats.length ≤ 40
      · have hq : decide (40 < ((pnth S.pieces k).heats.length : Int)) = false := by simp; omega
        have HH := Lib.hid hh
        clear hh
        go_wp2
        exact ⟨⟨k + 1, by omega, by go_num, hbl, allTo_step hall (by simpa using HH.out)⟩, by simp [intOf]; omega⟩
      · have hq : decide (40 < ((pnth S.pieces k).heats.length : Int)) = true := by simp; omega
        have HH := Lib.hid hh
        clear hh
        go_wp2
        go_ret
        exact ⟨ret_bool (by rw [HF.out, fewHeats, allTo_false hlt (by simpa using HH.out)]; rfl), hw⟩
    · have hall2 : fewHeats S = true := by rw [fewHeats, show S.pieces.length = k by omega, hall.out]
      have HF2 := Lib.hid (show farB S = (validB S && (decide (4 < (S.bars.length : Int)) || decide (5 < (S.pieces.length : Int)))) from by rw [HF.out, hall2, show (decide (4 < (S.bars.length : Int))) = decide (4 < S.bars.length) from decide_eq_decide.2 (by omega), show (decide (5 < (S.pieces.length : Int))) = decide (5 < S.pieces.length) from decide_eq_decide.2 (by omega)]; simp)
      clear hall hall2
      have hxw := (HX.out.below hw).mono (show w.heap.size ≤ wr.heap.size by omega)
      have HXW := Lib.hid hxw
      clear hxw
      cases hval : validB S
      · have HVAL := Lib.hid hval
        clear hval
        go_wp2_with (go_at_call 42; go_must (refine (rCheck_bad HVAL.out HXW.out).mono ?_); rintro e w' ⟨rfl, hb⟩)
        go_ret
        exact ⟨ret_bool (by rw [HF2.out, HVAL.out]; rfl), hw.trans (hb.mono (by omega))⟩
      · have HVAL := Lib.hid hval
        clear hval
        have hk1 : w.heap.size < wr.heap.size := by omega
        have hff : ∀ x y, decide (4 < (S.bars.length : Int)) = x → decide (5 < (S.pieces.length : Int)) = y → farB S = (x || y) := fun x y h4 h5 => by rw [HF2.out, HVAL.out, h4, h5]; rfl
        have HFG := Lib.hid hff
        clear hff
        cases h4 : decide (4 < (S.bars.length : Int))
        all_goals cases h5 : decide (5 < (S.pieces.length : Int))
        all_goals
          have HFF := Lib.hid (HFG.out _ _ h4 h5)
          go_wp2_with (go_at_call 42; go_must (refine (rCheck_ok HVAL.out HXW.out).mono ?_); rintro e w' ⟨rfl, hb⟩; have k0 := (hb.cell (p := ⟨w.heap.size, 0, none⟩) hk1).trans c0; have k2 := (hb.cell (p := ⟨w.heap.size, 2, none⟩) hk1).trans c2)
          go_ret
          exact ⟨ret_bool (by rw [HFF.out]; rfl), hw.trans (hb.mono (by omega))⟩
theorem Far_to {v : Value} {S : Store} {w : World} {r : Bool} (h : farB S = r) (hx : StoreAt w.heap.size w v S) :
    Calls Try.prog 40 #[v] w fun e w' => e = .returned (.bool r) ∧ Below w.heap.size w w' := h ▸ Far_any v S w hx

def readyB (S : Store) : Bool := !farB S && validB S
set_option maxHeartbeats 800000 in
theorem ready_any (v : Value) (S : Store) (w : World) (hx : StoreAt w.heap.size w v S) :
    Calls Try.prog 13 #[v] w fun e w' => e = .returned (.bool (readyB S)) ∧ Below w.heap.size w w' := by
  have hx' := hx
  obtain ⟨a, cap, b, off, a2, cap2, b2, off2, rfl, hm, hm2, HA, HC, HA2, HC2⟩ := hx.opened
  have HX0 := Lib.hid hx'
  have HX := fun o => Lib.hid ((hx'.below ((Below.refl _ w).alloc (Nat.le_refl _) o)).mono (show w.heap.size ≤ (w.alloc o).heap.size by simp))
  clear hx hx' HA HC HA2 HC2
  cases hf : farB S
  case true =>
    have HF := Lib.hid hf
    clear hf
    go_enter Try.func13, Try.ntmps13
    go_wp2_with (go_at_call 40; go_must (refine (Far_to HF.out (HX _).out).mono ?_); rintro e w' ⟨rfl, hb⟩)
    go_ret
    exact ⟨ret_bool (by rw [readyB, HF.out]; rfl), ((Below.refl _ _).alloc (Nat.le_refl _) _).trans (hb.mono (by simp))⟩
  have HF := Lib.hid hf
  clear hf
  cases hval : validB S
  all_goals
    have HR := Lib.hid (show readyB S = _ from by rw [readyB, HF.out, hval])
    have HVAL := Lib.hid hval
    clear hval
    go_enter Try.func13, Try.ntmps13
    go_wp2_with fail
    refine (Far_to HF.out (HX _).out).mono ?_
    rintro e w1 ⟨rfl, hb1⟩
    have hbl : Below (w.heap.size + 1) (w.alloc (.cells #[.slice a S.bars.length cap, .int .i64 S.kerf, .slice a2 S.pieces.length cap2, .int .i64 S.wrong] 25)) w1 := hb1.mono (by simp)
    have hw := boxed hbl
    have hsz := boxed_size hbl
    obtain ⟨c0, c1, c2, c3⟩ := box4 hbl
    clear hb1
    have hxw : StoreAt w1.heap.size w1 (.agg #[.slice a S.bars.length cap, .int .i64 S.kerf, .slice a2 S.pieces.length cap2, .int .i64 S.wrong]) S := ((HX0.out.below hw).mono (by omega))
    have HXW := Lib.hid hxw
    clear hxw
  · go_wp2_with (go_at_call 42; go_must (refine (rCheck_bad HVAL.out HXW.out).mono ?_); rintro e w' ⟨rfl, hb⟩)
    go_ret
    exact ⟨ret_bool (by rw [HR.out]; rfl), hw.trans (hb.mono (by omega))⟩
  · go_wp2_with (go_at_call 42; go_must (refine (rCheck_ok HVAL.out HXW.out).mono ?_); rintro e w' ⟨rfl, hb⟩)
    go_ret
    exact ⟨ret_bool (by rw [HR.out]; rfl), hw.trans (hb.mono (by omega))⟩
end Go.Proofs.Ytjflpmhlodgadaa
