/-
  Walks: the reference's room, its used bars, and what agrees.
-/
import Derived.Test.YtjflpmhlodgadaaW2b
import Derived.Test.YtjflpmhlodgadaaW3
namespace Go.Proofs.Ytjflpmhlodgadaa
open Go.RowKit

set_option maxHeartbeats 1000000 in
theorem rHasRoom_any (v lv : Value) (S : Store) (L : List Int) (long : Int) (w : World) {B : Nat} (hV : Valid S) (hx : StoreAt B w v S) (hB : B ≤ w.heap.size) (hL : IntsAt B w lv L) (hO : L.length ≤ S.pieces.length) (hl0 : 1 ≤ long) (hl9 : long ≤ 999) :
    Calls Try.prog 28 #[v, lv, .int .i64 long] w fun e w' => e = .returned (.bool (roomB S L long)) ∧ Below w.heap.size w w' := by
  have hx' := hx
  have hL' := hL
  obtain ⟨a, cap, b1, off, a2, cap2, b2, off2, rfl, hm, hm2, HA, HC, HA2, HC2⟩ := hx.opened
  obtain ⟨a3, cap3, b3, off3, rfl, hm3, HA3, HC3, _⟩ := hL.opened
  obtain ⟨q3, q4⟩ := hV.kerf
  have HV := Lib.hid hV
  clear hx hL HA HC HA2 HC2 hV
  go_enter Try.func28, Try.ntmps28
  go_wp2
  go_loopw [7] (fun i wr => ∃ k : Nat, k ≤ S.bars.length ∧ i = .int .i64 k ∧ Hid (allTo (fun b => !roomAt S L long b) k = true) ∧ Below (w.heap.size + 1) (w.alloc _) wr) (fun i _ => S.bars.length - (intOf i).toNat)
  case atStart => exact ⟨0, Nat.zero_le _, rfl, rfl, Below.refl _ _⟩
  case round =>
    obtain ⟨k, hk, rfl, hall, hbl⟩ := hrel
    have hw := boxed hbl
    have hsz := boxed_size hbl
    obtain ⟨c0, c1, c2, c3⟩ := box4 hbl
    by_cases hlt : k < S.bars.length
    · obtain ⟨g1, g2⟩ := rest_le HV.out L k hlt hO
      cases hin : inB L k
      all_goals
        have hra := roomAt_of (S := S) (long := long) hin
        have HRA := Lib.hid hra
        have HIN := Lib.hid hin
        clear hra hin
      · by_cases hr : long ≤ restS S L k
        · go_wp2_with (first | (go_at_call 32; refine (rin_to HIN.out (hL'.below (hw.mono hB))).mono ?_; rintro e w' ⟨rfl, rfl⟩) | (go_at_call 25; go_must (refine (rRestOf_any _ _ _ _ _ _ HV.out (hx'.below (hw.mono hB)) (by omega) (hL'.below (hw.mono hB)) hO (by omega) (by omega)).mono ?_); rintro e w' ⟨rfl, hb⟩))
          go_ret
          exact ⟨ret_bool (roomB_yes hlt (by rw [HRA.out]; simpa using hr)).symm, hw.trans (hb.mono (by omega))⟩
        · go_wp2_with (first | (go_at_call 32; refine (rin_to HIN.out (hL'.below (hw.mono hB))).mono ?_; rintro e w' ⟨rfl, rfl⟩) | (go_at_call 25; go_must (refine (rRestOf_any _ _ _ _ _ _ HV.out (hx'.below (hw.mono hB)) (by omega) (hL'.below (hw.mono hB)) hO (by omega) (by omega)).mono ?_); rintro e w' ⟨rfl, hb⟩))
          exact ⟨⟨k + 1, by omega, by go_num, allTo_step hall (by rw [HRA.out]; simpa using hr), hbl.trans (hb.mono (by omega))⟩, by simp [intOf]; omega⟩
      · by_cases hr : long + S.kerf ≤ restS S L k
        · go_wp2_with (first | (go_at_call 32; refine (rin_to HIN.out (hL'.below (hw.mono hB))).mono ?_; rintro e w' ⟨rfl, rfl⟩) | (go_at_call 25; go_must (refine (rRestOf_any _ _ _ _ _ _ HV.out (hx'.below (hw.mono hB)) (by omega) (hL'.below (hw.mono hB)) hO (by omega) (by omega)).mono ?_); rintro e w' ⟨rfl, hb⟩))
          go_ret
          exact ⟨ret_bool (roomB_yes hlt (by rw [HRA.out]; simpa using hr)).symm, hw.trans (hb.mono (by omega))⟩
        · go_wp2_with (first | (go_at_call 32; refine (rin_to HIN.out (hL'.below (hw.mono hB))).mono ?_; rintro e w' ⟨rfl, rfl⟩) | (go_at_call 25; go_must (refine (rRestOf_any _ _ _ _ _ _ HV.out (hx'.below (hw.mono hB)) (by omega) (hL'.below (hw.mono hB)) hO (by omega) (by omega)).mono ?_); rintro e w' ⟨rfl, hb⟩))
          exact ⟨⟨k + 1, by omega, by go_num, allTo_step hall (by rw [HRA.out]; simpa using hr), hbl.trans (hb.mono (by omega))⟩, by simp [intOf]; omega⟩
    · obtain rfl : S.bars.length = k := by omega
      go_wp2
      go_ret
      exact ⟨ret_bool (by rw [roomB, hall.out]; rfl), hw⟩

def usedTo2 (L : List Int) : Nat → Int
  | 0 => 0
  | k + 1 => usedTo2 L k + if inB L (k : Int) = true then 1 else 0
theorem usedTo2_le (L : List Int) : ∀ k : Nat, 0 ≤ usedTo2 L k ∧ usedTo2 L k ≤ k
  | 0 => by simp [usedTo2]
  | k + 1 => by have := usedTo2_le L k; simp only [usedTo2]; split <;> omega

set_option maxHeartbeats 1000000 in
theorem rUsed_any (v lv : Value) (S : Store) (L : List Int) (w : World) {B : Nat} (hV : S.bars.length ≤ 6) (hx : StoreAt B w v S) (hB : B ≤ w.heap.size) (hL : IntsAt B w lv L) :
    Calls Try.prog 21 #[v, lv] w fun e w' => e = .returned (.int .i64 (usedTo2 L S.bars.length)) ∧ Below w.heap.size w w' := by
  have hL' := hL
  obtain ⟨a, cap, b1, off, a2, cap2, b2, off2, rfl, hm, hm2, HA, HC, HA2, HC2⟩ := hx.opened
  obtain ⟨a3, cap3, b3, off3, rfl, hm3, HA3, HC3, _⟩ := hL.opened
  clear hx hL HA HC HA2 HC2 HA3 HC3
  go_enter Try.func21, Try.ntmps21
  go_wp2
  go_loopw [5, 6] (fun c i wr => ∃ k : Nat, k ≤ S.bars.length ∧ i = .int .i64 k ∧ c = .int .i64 (usedTo2 L k) ∧ Below (w.heap.size + 1) (w.alloc _) wr) (fun _ i _ => S.bars.length - (intOf i).toNat)
  case atStart => exact ⟨0, Nat.zero_le _, rfl, rfl, Below.refl _ _⟩
  case round =>
    obtain ⟨k, hk, rfl, rfl, hbl⟩ := hrel
    have hw := boxed hbl
    have hsz := boxed_size hbl
    obtain ⟨u1, u2⟩ := usedTo2_le L k
    obtain ⟨c0, c1, c2, c3⟩ := box4 hbl
    by_cases hlt : k < S.bars.length
    · cases hin : inB L k
      all_goals
        have HIN := Lib.hid hin
        clear hin
        go_wp2_with (go_at_call 32; refine (rin_to HIN.out (hL'.below (hw.mono hB))).mono ?_; rintro e w' ⟨rfl, rfl⟩)
      · exact ⟨⟨k + 1, by omega, by go_num, by simp [usedTo2, HIN.out], hbl⟩, by simp [intOf]; omega⟩
      · exact ⟨⟨k + 1, by omega, by go_num, by simp [usedTo2, HIN.out], hbl⟩, by simp [intOf]; omega⟩
    · obtain rfl : S.bars.length = k := by omega
      go_wp2
      go_ret
      exact ⟨rfl, hw⟩

def agreesB (k : Int) (is : Bool) : Bool := if k = 1 then is else if k = 2 then !is else decide (k = 3)
theorem rAgrees_any (k : Int) (is : Bool) (w : World) :
    Calls Try.prog 27 #[.int .i64 k, .bool is] w fun e w' => e = .returned (.bool (agreesB k is)) ∧ w' = w := by
  by_cases h1 : k = 1
  · subst h1
    go_enter Try.func27, Try.ntmps27
    go_wp2
    go_ret
    exact ⟨rfl, rfl⟩
  by_cases h2 : k = 2
  · subst h2
    go_enter Try.func27, Try.ntmps27
    go_wp2
    go_ret
    exact ⟨rfl, rfl⟩
  have e1 : (k == 1) = false := by simpa using h1
  have e2 : (k == 2) = false := by simpa using h2
  have HE := Lib.hid (show (k == 3) = agreesB k is from by rw [agreesB, if_neg h1, if_neg h2]; rfl)
  clear h1 h2
  go_enter Try.func27, Try.ntmps27
  go_wp2
  go_ret
  exact ⟨ret_bool HE.out, rfl⟩
end Go.Proofs.Ytjflpmhlodgadaa
