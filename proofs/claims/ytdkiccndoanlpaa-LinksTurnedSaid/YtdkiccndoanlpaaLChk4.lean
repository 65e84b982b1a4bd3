/-
  Links, the law's reference: Check.
-/
import Derived.Test.YtdkiccndoanlpaaLChk3

namespace Go.Proofs.Ytdkiccndoanlpaa
open Go.RowKit Go.Shelf

theorem box3c {W : World} {b : Nat} {v0 v1 v2 : Value} {t : TypeId} (e : W.heap[b]? = some (.cells #[v0, v1, v2] t)) : W.cell? ⟨b, 0, none⟩ = some v0 ∧ W.cell? ⟨b, 1, none⟩ = some v1 ∧ W.cell? ⟨b, 2, none⟩ = some v2 := by
  refine ⟨?_, ?_, ?_⟩ <;> simp [World.cell?, e]

set_option maxRecDepth 100000 in
set_option maxHeartbeats 4000000 in
theorem rCheck_any (v : Value) (C : Chain) (w : World) (hx : ChainAt w.heap.size w v C) :
    Calls Try.prog 17 #[v] w fun e w' => e = .returned (.int .i64 (chkS C)) ∧ Below w.heap.size w w' := by
  obtain ⟨dv, sv, hv0, hD, hS, _⟩ := hx
  have hx : ChainAt w.heap.size w v C := ⟨dv, sv, hv0, hD, hS, by assumption⟩
  obtain ⟨a, cap, b, off, a2, cap2, b2, off2, hv, hm, hm2, hcap, hcapm, HA, HC, HA2, HC2, HI, HI2⟩ := hx.opened
  clear hx
  rw [hv] at hv0
  cases hv0
  subst hv
  have HD := Lib.hid (fun W (hb : Below w.heap.size w W) => (hD.below hb).mono hb.size)
  clear hD hS
  go_enter Try.func17, Try.ntmps17
  by_cases hn1 : C.deeds.length ≤ 12
  case neg =>
    go_wp2_with fail
    go_ret
    exact ⟨ret_int (by simp [chkS, validB, hn1]), by go_grown⟩
  by_cases hn2 : C.sights.length ≤ 8
  case neg =>
    go_wp2_with fail
    go_ret
    exact ⟨ret_int (by simp [chkS, validB, hn2]), by go_grown⟩
  cases hw : wB C.wrong 0 8
  case false =>
    go_wp2_with (go_at_call 67; refine (rWithin_to (by with_reducible assumption) _).mono ?_; rintro e w' ⟨rfl, rfl⟩)
    go_ret
    exact ⟨ret_int (by simp [chkS, validB, hw]), by go_grown⟩
  go_wp2_with (go_at_call 67; refine (rWithin_to (by with_reducible assumption) _).mono ?_; rintro e w' ⟨rfl, rfl⟩)
  refine (lengths_any _ C.deeds _ hn1 (HD.out _ (by go_grown))).mono ?_
  rintro e w1 ⟨mv, rfl, hmv, hb1⟩
  have e0 := (hb1.block w.heap.size (by simp)).trans (heap_new w _)
  have hbw : Below w.heap.size w w1 := ((Below.refl _ w).alloc (Nat.le_refl _) _).trans (hb1.mono (by simp))
  have hlt0 := heap_lt e0
  have HBW := Lib.hid hbw
  have HE0 := Lib.hid e0
  have HMV := Lib.hid hmv
  obtain ⟨c0, c1, c2⟩ := box3c e0
  clear hb1 hbw e0 hmv
  cases hok : deedsOk C.deeds
  case false =>
    have HOK := Lib.hid hok
    clear hok
    go_wp2_with fail
    go_ret
    exact ⟨ret_int (by simp [chkS, validB, HOK.out]), HBW.out⟩
  have hints := HMV.out hok
  have hints' := hints
  obtain ⟨ma, mcap, mb, moff, rfl, _, _, _, _⟩ := hints.opened
  have HINTS := Lib.hid hints'
  have HOK := Lib.hid hok
  clear hok HMV hints hints'
  rw [lensL_len] at HINTS ⊢
  go_wp2_with fail
  go_loopw [5] (fun i wr => ∃ k : Nat, k ≤ C.sights.length ∧ i = .int .i64 k ∧ Below w1.heap.size w1 wr ∧ Hid (allTo (fun j => sightAll C.deeds (snth C.sights j)) k = true)) (fun i _ => C.sights.length - (intOf i).toNat)
  case atStart => exact ⟨0, Nat.zero_le _, rfl, Below.refl _ _, rfl⟩
  case round =>
    clear c0 c1 c2
    obtain ⟨k, hk, rfl, hbl, hall⟩ := hrel
    have e0 := (hbl.block _ hlt0).trans HE0.out
    obtain ⟨c0, c1, c2⟩ := box3c e0
    have hbr := HBW.out.trans (hbl.mono HBW.out.size)
    have hsz := hbl.size
    have HBL := Lib.hid hbl
    have HBR := Lib.hid hbr
    by_cases hlt : k < C.sights.length
    · obtain ⟨rfl, hb⟩ := HA2.out (by omega)
      obtain ⟨d0, d1, d2, d3, d4⟩ := (HC2.out k hlt).below hbr hb
      have hno : sightAll C.deeds (snth C.sights k) = false → validB C = false := fun h => by
        rw [validB, allTo_false (n := C.sights.length) hlt h]; simp
      have HNO := Lib.hid hno
      have HS := Lib.hid (rIsSight_any (snth C.sights k) C.deeds (.slice ma (C.deeds.length + 1) mcap) wr (HI2.out k hlt) hn1 ((HINTS.out.below hbl).mono hbl.size))
      clear hbl hbr e0 hno
      cases hr : sightAll C.deeds (snth C.sights k)
      all_goals
        have HR := Lib.hid hr
        rw [hr] at HS
        clear hr
        go_wp2_with fail
        refine HS.out.mono ?_
        rintro e w' ⟨rfl, hb'⟩
        have HB' := Lib.hid hb'
        clear hb'
        go_wp2_with fail
      · go_ret
        exact ⟨ret_int (by rw [chkS, if_neg (by rw [HNO.out HR.out]; simp)]), HBR.out.trans (HB'.out.mono HBR.out.size)⟩
      · exact ⟨⟨k + 1, by omega, by go_num, HBL.out.trans (HB'.out.mono hsz), allTo_step hall HR.out⟩, by simp [intOf]; omega⟩
    · obtain rfl : C.sights.length = k := by omega
      have HV := Lib.hid (show chkS C = 0 by simp [chkS, validB, hn1, hn2, hw, HOK.out, hall.out])
      clear hbl hbr e0 hall
      go_wp2
      go_ret
      exact ⟨ret_int (by rw [HV.out]), HBR.out⟩

end Go.Proofs.Ytdkiccndoanlpaa
