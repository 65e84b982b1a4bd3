/-
  Walks: the reference's check
-/
import Derived.Test.YtjflpmhlodgadaaW4
import Derived.Lib.QuietBelow
namespace Go.Proofs.Ytjflpmhlodgadaa
open Go.RowKit Go.Sort

set_option maxHeartbeats 800000 in
theorem rCheck_any (v : Value) (S : Store) (w : World) (hx : StoreAt w.heap.size w v S) :
    Calls Try.prog 42 #[v] w fun e w' => e = .returned (.int .i64 (chkS S)) ∧ Below w.heap.size w w' := by
  obtain ⟨a, cap, b, off, a2, cap2, b2, off2, rfl, hm, hm2, HA, HC, HA2, HC2⟩ := hx.opened
  clear hx
  by_cases hn1 : S.bars.length ≤ 6
  case neg =>
    have hv := Lib.hid (show validB S = false from by simp [validB, hn1])
    have hd1 : decide (6 < (S.bars.length : Int)) = true := by simp; omega
    clear hn1
    go_enter Try.func42, Try.ntmps42
    go_wp2
    go_ret
    exact ⟨ret_int (chkS_bad hv.out).symm, by go_grown⟩
  have hd1 : decide (6 < (S.bars.length : Int)) = false := by simp; omega
  cases hk : wB S.kerf 0 20
  case false =>
    have hv := Lib.hid (show validB S = false from by simp [validB, hk])
    go_enter Try.func42, Try.ntmps42
    go_wp2_with (go_at_call 37; refine (rwithin_to (by with_reducible assumption) _).mono ?_; rintro e w' ⟨rfl, rfl⟩)
    go_ret
    exact ⟨ret_int (chkS_bad hv.out).symm, by go_grown⟩
  by_cases hn2 : S.pieces.length ≤ 8
  case neg =>
    have hv := Lib.hid (show validB S = false from by simp [validB, hn2])
    have hd2 : decide (8 < (S.pieces.length : Int)) = true := by simp; omega
    clear hn2
    go_enter Try.func42, Try.ntmps42
    go_wp2_with (go_at_call 37; refine (rwithin_to (by with_reducible assumption) _).mono ?_; rintro e w' ⟨rfl, rfl⟩)
    go_ret
    exact ⟨ret_int (chkS_bad hv.out).symm, by go_grown⟩
  have hd2 : decide (8 < (S.pieces.length : Int)) = false := by simp; omega
  cases hwr : wB S.wrong 0 8
  case false =>
    have hv := Lib.hid (show validB S = false from by simp [validB, hwr])
    go_enter Try.func42, Try.ntmps42
    go_wp2_with (go_at_call 37; refine (rwithin_to (by with_reducible assumption) _).mono ?_; rintro e w' ⟨rfl, rfl⟩)
    go_ret
    exact ⟨ret_int (chkS_bad hv.out).symm, by go_grown⟩
  go_enter Try.func42, Try.ntmps42
  go_wp2_with (go_at_call 37; refine (rwithin_to (by with_reducible assumption) _).mono ?_; rintro e w' ⟨rfl, rfl⟩)
  have HK := Lib.hid hk
  have HWR := Lib.hid hwr
  clear hk hwr
  go_loopw [3] (fun i wr => ∃ k : Nat, k ≤ S.bars.length ∧ i = .int .i64 k ∧ Below (w.heap.size + 1) (w.alloc _) wr ∧ Hid (allTo (fun i => barOk (bnth S.bars i)) k = true)) (fun i _ => S.bars.length - (intOf i).toNat)
  case atStart => exact ⟨0, Nat.zero_le _, rfl, Below.refl _ _, rfl⟩
  case round =>
    obtain ⟨k, hk, rfl, hbl, hall⟩ := hrel
    have hw := boxed hbl
    have hsz := boxed_size hbl
    obtain ⟨c0, c1, c2, c3⟩ := box4 hbl
    by_cases hlt : k < S.bars.length
    · obtain ⟨rfl, hb⟩ := HA.out (by omega)
      have d0 := (hw.cell (p := ⟨b, off + k * 2, none⟩) hb).trans (HC.out k hlt).1
      have d1 := (hw.cell (p := ⟨b, off + k * 2 + 1, none⟩) hb).trans (HC.out k hlt).2
      have hno := Lib.hid (show barOk (bnth S.bars k) = false → validB S = false from fun h => by rw [validB, allTo_false hlt h]; simp)
      cases h1 : wB (bnth S.bars k).heat 0 9
      case false =>
        go_wp2_with (go_at_call 37; refine (rwithin_to (by with_reducible assumption) _).mono ?_; rintro e w' ⟨rfl, rfl⟩)
        go_ret
        exact ⟨ret_int (chkS_bad (hno.out (by simp [barOk, h1]))).symm, by go_grown⟩
      cases h2 : wB (bnth S.bars k).long 1 999
      all_goals go_wp2_with (go_at_call 37; refine (rwithin_to (by with_reducible assumption) _).mono ?_; rintro e w' ⟨rfl, rfl⟩)
      · go_ret
        exact ⟨ret_int (chkS_bad (hno.out (by simp [barOk, h2]))).symm, by go_grown⟩
      · exact ⟨⟨k + 1, by omega, by go_num, by go_grown, allTo_step hall (by simp [barOk, h1, h2])⟩, by simp [intOf]; omega⟩
    · have hall2 := Lib.hid (show allTo (fun i => barOk (bnth S.bars i)) S.bars.length = true from by rw [show S.bars.length = k by omega, hall.out])
      clear hall
      go_wp2
      go_loopw [4] (fun i w2 => ∃ k : Nat, k ≤ S.pieces.length ∧ i = .int .i64 k ∧ Below (w.heap.size + 1) (w.alloc _) w2 ∧ Hid (allTo (fun i => pieceOk (pnth S.pieces i)) k = true)) (fun i _ => S.pieces.length - (intOf i).toNat)
      case atStart => exact ⟨0, Nat.zero_le _, rfl, hbl, rfl⟩
      case round =>
        clear hw hsz c0 c1 c2 c3 hbl
        obtain ⟨k2, hk2, rfl, hbl, hall⟩ := hrel
        have hw := boxed hbl
        have hsz := boxed_size hbl
        obtain ⟨c0, c1, c2, c3⟩ := box4 hbl
        by_cases hlt : k2 < S.pieces.length
        · obtain ⟨rfl, hb⟩ := HA2.out (by omega)
          have d0 := (hw.cell (p := ⟨b2, off2 + k2 * 2, none⟩) hb).trans (HC2.out k2 hlt).1
          obtain ⟨hv, d1, hI⟩ := (HC2.out k2 hlt).2
          have d1 := (hw.cell (p := ⟨b2, off2 + k2 * 2 + 1, none⟩) hb).trans d1
          have hI := hI.below hw
          obtain ⟨a3, cap3, b3, off3, hveq, _⟩ := hI.opened
          subst hveq
          have hno := Lib.hid (show pieceOk (pnth S.pieces k2) = false → validB S = false from fun h => by rw [validB, allTo_false (n := S.pieces.length) hlt h]; simp)
          cases h1 : wB (pnth S.pieces k2).long 1 999
          case false =>
            go_wp2_with (go_at_call 37; refine (rwithin_to (by with_reducible assumption) _).mono ?_; rintro e w' ⟨rfl, rfl⟩)
            go_ret
            exact ⟨ret_int (chkS_bad (hno.out (by simp [pieceOk, h1]))).symm, by go_grown⟩
          cases h2 : heatsOk (pnth S.pieces k2).heats
          all_goals go_wp2_with (first | (go_at_call 37; refine (rwithin_to (by with_reducible assumption) _).mono ?_; rintro e w' ⟨rfl, rfl⟩) | (go_at_call 73; refine (areHeats_to (by with_reducible assumption) (hI.below (by go_grown))).mono ?_; rintro e w' ⟨rfl, nn, rfl⟩))
          · go_ret
            exact ⟨ret_int (chkS_bad (hno.out (by simp [pieceOk, h2]))).symm, drewN_below hw _⟩
          · exact ⟨⟨k2 + 1, by omega, by go_num, drewN_below hbl _, allTo_step hall (by simp [pieceOk, h1, h2])⟩, by simp [intOf]; omega⟩
        · have hall3 := Lib.hid (show allTo (fun i => pieceOk (pnth S.pieces i)) S.pieces.length = true from by rw [show S.pieces.length = k2 by omega, hall.out])
          clear hall
          go_wp2
          go_ret
          exact ⟨ret_int (chkS_ok (by simp [validB, HK.out, HWR.out, hall2.out, hall3.out, hn1, hn2])).symm, by go_grown⟩
theorem rCheck_ok {v : Value} {S : Store} {w : World} (h : validB S = true) (hx : StoreAt w.heap.size w v S) :
    Calls Try.prog 42 #[v] w fun e w' => e = .returned (.int .i64 0) ∧ Below w.heap.size w w' := by have := rCheck_any v S w hx; rwa [chkS_ok h] at this
theorem rCheck_bad {v : Value} {S : Store} {w : World} (h : validB S = false) (hx : StoreAt w.heap.size w v S) :
    Calls Try.prog 42 #[v] w fun e w' => e = .returned (.int .i64 10) ∧ Below w.heap.size w w' := by have := rCheck_any v S w hx; rwa [chkS_bad h] at this

end Go.Proofs.Ytjflpmhlodgadaa
