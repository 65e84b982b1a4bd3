/-
  Links, the law's reference: a place from an end, where a link is, which numbers are places, which are ends.
-/
import Derived.Test.YtgjikoebneiamaaLIn
import Derived.Test.YtgjikoebneiamaaLErr

namespace Go.Proofs.Ytgjikoebneiamaa
open Go.RowKit Go.Shelf

set_option maxHeartbeats 400000 in
theorem place_any (a f n : Int) (w : World) (h : I64 (fromHead a f n)) (hn : -100 ≤ n) (hn2 : n ≤ 100) :
    Calls Try.prog 118 #[.int .i64 a, .int .i64 f, .int .i64 n] w fun e w' => e = .returned (.int .i64 (fromHead a f n)) ∧ w = w' := by
  unfold fromHead I64 at h
  go_enter Try.func118, Try.ntmps118
  by_cases hf : f = 1
  · rw [if_pos hf] at h
    go_wp2
    go_ret
    exact ⟨ret_int (by simp only [fromHead, if_pos hf]), rfl⟩
  · go_wp2
    go_ret
    exact ⟨ret_int (by simp only [fromHead, if_neg hf]), rfl⟩

theorem Found_any (v : Value) (xs : List Int) (x : Int) (w : World) {B : Nat} (hx : IntsAt B w v xs) :
    Calls Try.prog 51 #[v, .int .i64 x] w fun e w' => e = .returned (.int .i64 (ixV xs x)) ∧ w = w' := by
  obtain ⟨a, cap, b, off, rfl, hm, HA, HC, HW⟩ := hx.opened
  clear hx
  go_enter Try.func51, Try.ntmps51
  go_wp2
  go_loop [5] (fun i => ∃ k : Nat, k ≤ xs.length ∧ i = .int .i64 k ∧ Hid (∀ i, i < k → x ≠ nth xs i)) (fun i => xs.length - (intOf i).toNat)
  case atStart => exact ⟨0, Nat.zero_le _, rfl, fun i hi => by omega⟩
  case round =>
    obtain ⟨k, hk, rfl, hall⟩ := hrel
    by_cases hlt : k < xs.length
    · obtain ⟨rfl, hb⟩ := HA.out (by omega)
      have hcell := HC.out k hlt
      by_cases he : x = nth xs k
      · have hn : (nth xs k == x) = true := by simp [he]
        have HE := Lib.hid he
        clear he
        go_wp2
        go_ret
        exact ⟨ret_int (ixV_yes hlt HE.out hall.out).symm, rfl⟩
      · have hn : (nth xs k == x) = false := by simpa using (fun h => he h.symm)
        have HE := Lib.hid he
        clear he
        go_wp2
        exact ⟨⟨k + 1, by omega, by go_num, fun i hi => by by_cases h : i = k; exact h ▸ HE.out; exact hall.out i (by omega)⟩, by simp [intOf]; omega⟩
    · go_wp2
      go_ret
      exact ⟨ret_int (ixV_no (fun hm => by
        obtain ⟨j, hj, e⟩ := List.getElem_of_mem hm
        exact hall.out j (by omega) (by rw [nth_lt hj, e]))).symm, rfl⟩

/-- Whether the i-th end can be that of its deed. -/
def endB (ds : List Deed) (ends : List Int) (i : Nat) : Bool := wB (nth ends i) 0 1 && !(decide ((dnth ds i).from_ < 2) && decide (nth ends i ≠ (dnth ds i).from_))
/-- Whether numbers are ends of some deeds. -/
def endsB (ds : List Deed) (ends : List Int) : Bool := decide (ends.length = ds.length) && allTo (endB ds ends) ends.length

set_option maxRecDepth 100000 in
set_option maxHeartbeats 2000000 in
theorem IsChoice_any (v u : Value) (C : Chain) (ends : List Int) (w : World) (hn : C.deeds.length ≤ 40) (hx : ChainAt w.heap.size w v C) (hu : IntsAt w.heap.size w u ends) :
    Calls Try.prog 95 #[v, u] w fun e w' => e = .returned (.bool (endsB C.deeds ends)) ∧ Below w.heap.size w w' := by
  have hx' := hx
  have QW := Lib.hid (fun (n lo hi : Int) (b : Bool) W (h : wB n lo hi = b) => rWithin_to h W)
  obtain ⟨a, cap, b, off, a2, cap2, b2, off2, rfl, hm, hm2, hcap, hcapm, HA, HC, HA2, HC2, HI, HI2⟩ := hx.opened
  obtain ⟨ua, ucap, ub, uoff, rfl, hum, HUA, HUC, HUI⟩ := hu.opened
  have HS0 := Lib.hid (LStat.first hx')
  obtain ⟨c0, c1, c2⟩ := HS0.out.cells
  clear hx hx' HA2 HC2 HI HI2 hu
  by_cases hl : ends.length = C.deeds.length
  case neg =>
    have HL := Lib.hid hl
    have hd : ((ends.length : Int) != (C.deeds.length : Int)) = true := by simp; omega
    clear hl
    go_enter Try.func95, Try.ntmps95
    go_wp2
    go_ret
    exact ⟨ret_bool (by simp [endsB, HL.out]), HS0.out.b⟩
  have HL := Lib.hid hl
  have hd : ((ends.length : Int) != (C.deeds.length : Int)) = false := by simp [hl]
  have hle : ends.length ≤ C.deeds.length := by omega
  clear hl
  go_enter Try.func95, Try.ntmps95
  go_wp2
  go_loopw [5] (fun i wr => ∃ k : Nat, k ≤ ends.length ∧ i = .int .i64 k ∧ Hid (allTo (endB C.deeds ends) k = true) ∧ Hid (Below (w.heap.size + 1) (w.alloc (.cells #[.slice a C.deeds.length cap, .slice a2 C.sights.length cap2, .int .i64 C.wrong] 25)) wr)) (fun i _ => ends.length - (intOf i).toNat)
  case atStart => exact ⟨0, Nat.zero_le _, rfl, rfl, Below.refl _ _⟩
  case round =>
    obtain ⟨k, hk, rfl, hall, hbl⟩ := hrel
    clear c0 c1 c2
    obtain ⟨c0, c1, c2⟩ := box3 hbl.out
    have hszr := boxed_size hbl.out
    by_cases hlt : k < ends.length
    · obtain ⟨rfl, hb⟩ := HA.out (by omega)
      obtain ⟨rfl, hub⟩ := HUA.out (by omega)
      obtain ⟨d0, d1, d2, d3, d4⟩ := (HC.out k (by omega)).below (boxed hbl.out) hb
      have u0 := ((boxed hbl.out).cell (p := ⟨ub, uoff + k, none⟩) hub).trans (HUC.out k hlt)
      cases hw : wB (nth ends k) 0 1
      · have HE := Lib.hid (show endB C.deeds ends k = false by simp [endB, hw])
        go_wp2
        go_quiet ((go_at_call 67; exact Calls.quiet_of_same ((QW.out _ _ _ _ _ (by with_reducible assumption)).mono (by rintro e w' ⟨rfl, rfl⟩; exact ⟨rfl, rfl⟩))))
        go_wp2
        go_ret
        exact ⟨ret_bool (by rw [endsB, allTo_false hlt HE.out]; simp), drewN_below (boxed hbl.out) _⟩
      · cases hf : decide ((dnth C.deeds k).from_ < 2)
        · have HE := Lib.hid (show endB C.deeds ends k = true by simp [endB, hw, hf])
          go_wp2
          go_quiet ((go_at_call 67; exact Calls.quiet_of_same ((QW.out _ _ _ _ _ (by with_reducible assumption)).mono (by rintro e w' ⟨rfl, rfl⟩; exact ⟨rfl, rfl⟩))))
          go_wp2
          exact ⟨⟨k + 1, by omega, by go_num, allTo_step hall.out HE.out, drewN_below hbl.out _⟩, by simp [intOf]; omega⟩
        · cases he : (nth ends k != (dnth C.deeds k).from_)
          · have HE := Lib.hid (show endB C.deeds ends k = true by
              have h2 : nth ends k = (dnth C.deeds k).from_ := by simpa using he
              rw [endB, hw, h2]; simp)
            go_wp2
            go_quiet ((go_at_call 67; exact Calls.quiet_of_same ((QW.out _ _ _ _ _ (by with_reducible assumption)).mono (by rintro e w' ⟨rfl, rfl⟩; exact ⟨rfl, rfl⟩))))
            go_wp2
            exact ⟨⟨k + 1, by omega, by go_num, allTo_step hall.out HE.out, drewN_below hbl.out _⟩, by simp [intOf]; omega⟩
          · have HE := Lib.hid (show endB C.deeds ends k = false by
              have h2 : ¬ nth ends k = (dnth C.deeds k).from_ := by simpa using he
              simp only [endB, hw, hf, Bool.true_and, decide_eq_true h2, Bool.not_true])
            go_wp2
            go_quiet ((go_at_call 67; exact Calls.quiet_of_same ((QW.out _ _ _ _ _ (by with_reducible assumption)).mono (by rintro e w' ⟨rfl, rfl⟩; exact ⟨rfl, rfl⟩))))
            go_wp2
            go_ret
            exact ⟨ret_bool (by rw [endsB, allTo_false hlt HE.out]; simp), drewN_below (boxed hbl.out) _⟩
    · obtain rfl : ends.length = k := by omega
      go_wp2
      go_ret
      exact ⟨ret_bool (by rw [endsB, hall.out, decide_eq_true HL.out]; rfl), boxed hbl.out⟩

set_option maxHeartbeats 1000000 in
theorem IsPlace_any (v : Value) (C : Chain) (at_ : Int) (w : World) (hV : validB C = true) (hx : ChainAt w.heap.size w v C) :
    Calls Try.prog 53 #[v, .int .i64 at_] w fun e w' => e = .returned (.bool (placeB C at_)) ∧ Below w.heap.size w w' := by
  have hx' := hx
  have hnd := (valid_iff.1 hV).nd
  have hdo : deedsOk C.deeds = true := by
    simp only [validB, Bool.and_eq_true] at hV
    exact hV.1.2
  have hle := lenTo_le C.deeds C.deeds.length
  obtain ⟨dv, sv, hv0, hD, hS, _⟩ := hx
  obtain ⟨a, cap, b, off, a2, cap2, b2, off2, hv, hm, hm2, hcap, hcapm, HA, HC, HA2, HC2, HI, HI2⟩ := hx'.opened
  rw [hv] at hv0
  cases hv0
  subst hv
  have HD := Lib.hid (fun W (hb : Below w.heap.size w W) => (hD.below hb).mono hb.size)
  have HO := Lib.hid hdo
  have HP := Lib.hid (show placeB C at_ = wB at_ 0 (lenTo C.deeds C.deeds.length - 1) from rfl)
  rw [HP.out]
  clear hD hS hx' HA HC HA2 HC2 HI HI2 hV hdo
  go_enter Try.func53, Try.ntmps53
  go_wp2_with fail
  refine (lengths_any _ C.deeds _ hnd (HD.out _ (by go_grown))).mono ?_
  rintro e w1 ⟨mv, rfl, hmv, hb1⟩
  have e0 := (hb1.block w.heap.size (by simp)).trans (heap_new w _)
  have hbw : Below w.heap.size w w1 := ((Below.refl _ w).alloc (Nat.le_refl _) _).trans (hb1.mono (by simp))
  have HBW := Lib.hid hbw
  obtain ⟨c0, c1, c2⟩ := box3c e0
  obtain ⟨ma, mcap, mb, moff, rfl, hmm, HMA, HMC, HMI⟩ := (hmv HO.out).opened
  have hml := lensL_len C.deeds C.deeds.length
  obtain ⟨rfl, hmb⟩ := HMA.out (by omega)
  have m0 := HMC.out C.deeds.length (by omega)
  rw [lensL_nth C.deeds (Nat.le_refl _)] at m0
  rw [hml]
  rw [HO.out]
  have hy : ∃ y, lenTo C.deeds C.deeds.length = y := ⟨_, rfl⟩
  obtain ⟨y, hy⟩ := hy
  rw [hy] at m0 hle
  have HY := Lib.hid hy
  clear hb1 hbw e0 hmv HMC HMI HMA hml hy
  go_wp2_with (go_at_call 67; refine (rWithin_to rfl _).mono ?_; rintro e w' ⟨rfl, rfl⟩)
  go_ret
  exact ⟨ret_bool (by rw [HY.out]), HBW.out⟩
theorem IsPlace_to {v : Value} {C : Chain} {at_ : Int} {w : World} {r : Bool} (h : placeB C at_ = r) (hV : validB C = true) (hx : ChainAt w.heap.size w v C) :
    Calls Try.prog 53 #[v, .int .i64 at_] w fun e w' => e = .returned (.bool r) ∧ Below w.heap.size w w' := h ▸ IsPlace_any v C at_ w hV hx

end Go.Proofs.Ytgjikoebneiamaa
