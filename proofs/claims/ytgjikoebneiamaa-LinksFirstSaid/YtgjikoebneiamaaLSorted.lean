/-
  Links, the law's reference: the numbers of a list that lie in a range, each once, ascending.
  Links, the law's reference: which numbers are places, of a chain that need not be valid.
-/
import Derived.Test.YtgjikoebneiamaaLRef1
import Derived.Test.YtgjikoebneiamaaLRows

namespace Go.Proofs.Ytgjikoebneiamaa
open Go.RowKit Go.Shelf

theorem selTo_yes {xs : List Int} {lo : Int} {k : Nat} (h : inB xs (lo + k) = true) : selTo xs lo (k + 1) = selTo xs lo k ++ [lo + k] := by simp only [selTo, if_pos h]
theorem selTo_no {xs : List Int} {lo : Int} {k : Nat} (h : inB xs (lo + k) = false) : selTo xs lo (k + 1) = selTo xs lo k := by simp [selTo, h]
theorem selTo_le (xs : List Int) (lo : Int) : ∀ n, (selTo xs lo n).length ≤ n
  | 0 => by simp [selTo]
  | n + 1 => by
    have := selTo_le xs lo n
    simp only [selTo, List.length_append]
    split <;> simp <;> omega

set_option maxRecDepth 100000 in
set_option maxHeartbeats 4000000 in
theorem Sorted_any (v : Value) (xs : List Int) (lo : Int) (n : Nat) (w : World) (hx : IntsAt w.heap.size w v xs) (hlo : -1 ≤ lo) (hlo2 : lo ≤ 100) (hn : n ≤ 200) :
    Calls Try.prog 81 #[v, .int .i64 lo, .int .i64 (lo + n - 1)] w fun e w' => ∃ q, e = .returned q ∧ OwnInts w' q (selTo xs lo n) ∧ Below w.heap.size w w' := by
  obtain ⟨i0, hi, hz0, hz1, hz2⟩ := info_parts Try_infoInt
  have HX := Lib.hid hx
  obtain ⟨a, cap, b, off, rfl, _⟩ := hx.opened
  clear hx
  go_enter Try.func81, Try.ntmps81
  go_wp2_with fail
  go_loopw [7, 8] (fun o i wr => ∃ k : Nat, k ≤ n ∧ i = .int .i64 (lo + k) ∧ Hid (wr.ownsRow w.heap.size 3 1 o (selTo xs lo k).length ((selTo xs lo k).map (Value.int .i64))) ∧ Hid (Below w.heap.size w wr)) (fun _ i _ => n - (intOf i - lo).toNat)
  case atStart => exact ⟨0, Nat.zero_le _, by simp, World.ownsRow_nil _ _ _ _, Below.refl _ _⟩
  case round =>
    obtain ⟨k, hk, rfl, hown, hbl⟩ := hrel
    obtain ⟨oA, oc, rfl, _⟩ := own_form hown.out
    have hle := selTo_le xs lo k
    have HXR := Lib.hid (HX.out.below hbl.out)
    by_cases hlt : k < n
    · have hd : lo + (k : Int) ≤ lo + n - 1 := by omega
      have hwr : IntKind.i64.wrap (lo + k + 1) = lo + k + 1 := IntWalk.i64_in _ (by omega)
      obtain ⟨r, hr⟩ : ∃ r, inB xs (lo + k) = r := ⟨_, rfl⟩
      have HR := Lib.hid hr
      cases r
      · have HN := Lib.hid (selTo_no hr)
        clear hr
        go_wp2_with (go_at_call 98; refine (rIn_to HR.out HXR.out).mono ?_; rintro e w' ⟨rfl, rfl⟩)
        exact ⟨⟨k + 1, by omega, by go_num, by rw [HN.out]; exact hown.out, hbl.out⟩, by simp [intOf]; omega⟩
      · have HN := Lib.hid (selTo_yes hr)
        clear hr
        go_wp2_with (first | (go_at_call 98; refine (rIn_to HR.out HXR.out).mono ?_; rintro e w' ⟨rfl, rfl⟩) | (at_builtin; refine wpList_append_own _ rfl _ _ 33 rfl w.heap.size 3 i0 (.int .i64 0) 1 8 Try.underlying33 hi hz0 hz1 hz2 rfl (by decide) _ _ _ rfl (hown.out.alloc _) ⟨wr.heap.size, 0, none⟩ 1 1 [.int .i64 (lo + k : Int)] rfl rfl ?c1 ?c2 ?c3 ?c4 ?c5 ?_))
        case c1 => simpa using cell_one_new wr (.int .i64 (lo + k : Int)) 3
        case c2 => simp [Value.oneCell']
        case c3 => unfold maxLen; omega
        case c4 => omega
        case c5 => first | omega | (simp; have := hbl.out.size; omega)
        intro v' w3 hown' hgrow _
        have HO := Lib.hid hown'
        have HF := Lib.hid ((hbl.out.alloc hbl.out.size _).grown hgrow (by have := hbl.out.size; simp; omega) (fun j e => (hown.out.lt j e).1))
        clear hown' hgrow
        go_wp2
        exact ⟨⟨k + 1, by omega, by go_num, by rw [HN.out, List.map_append, List.length_append]; exact HO.out, HF.out⟩, by simp [intOf]; omega⟩
    · obtain rfl : n = k := by omega
      have hd : ¬ lo + (n : Int) ≤ lo + n - 1 := by omega
      go_wp2
      go_ret
      exact ⟨_, rfl, own_grow0 (W := wr) hown.out (Nat.zero_le _), hbl.out⟩

end Go.Proofs.Ytgjikoebneiamaa

namespace Go.Proofs.Ytgjikoebneiamaa
open Go.RowKit Go.Shelf

set_option maxRecDepth 100000 in
set_option maxHeartbeats 2000000 in
theorem lengths_40 (v : Value) (ds : List Deed) (w : World) (hn12 : ds.length ≤ 40) (hx : DeedsTo w.heap.size w v ds ds.length) :
    Calls Try.prog 68 #[v] w fun e w' => ∃ v', e = .returned (.tuple #[v', .bool (deedsOk ds)]) ∧ (deedsOk ds = true → IntsAt w'.heap.size w' v' (lensL ds ds.length)) ∧ Below w.heap.size w w' := by
  obtain ⟨a, cap, b, off, rfl, hm, HA, HC, HI⟩ := hx.opened
  clear hx
  obtain ⟨i0, hi, hz0, hz1, hz2⟩ := info_parts Try_infoInt
  go_enter Try.func68, Try.ntmps68
  go_wp2
  go_loopw [4, 5] (fun o i wr => ∃ k : Nat, k ≤ ds.length ∧ i = .int .i64 k ∧ ∃ g c, o = .slice (some ⟨g, 0, none⟩) (k + 1) c ∧ Hid (wr.ownsRow w.heap.size 3 1 (.slice (some ⟨g, 0, none⟩) (k + 1) c) (k + 1) ((lensL ds k).map (Value.int .i64))) ∧ Below w.heap.size w wr ∧ Hid (allTo (fun i => deedOk (dnth ds i) (lenTo ds i)) k = true)) (fun _ i _ => ds.length - (intOf i).toNat)
  case atStart =>
    exact ⟨0, Nat.zero_le _, rfl, _, _, rfl, ⟨rfl, .inr ⟨w.heap.size, 1, _, rfl, Nat.le_refl _, heap_new w _, by omega, by unfold maxLen; omega, rfl, rfl⟩⟩, by go_grown, rfl⟩
  case round =>
    obtain ⟨k, hk, rfl, g, c, rfl, hown, hbl, hall⟩ := hrel
    have hle := lenTo_le ds k
    by_cases hlt : k < ds.length
    · obtain ⟨rfl, hb⟩ := HA.out (by omega)
      obtain ⟨d0, d1, d2, d3, d4⟩ := (HC.out k hlt).below hbl hb
      have x0 : wr.cell? ⟨g, k, none⟩ = some (.int .i64 (lenTo ds k)) := by
        have h1 := hown.out.cellAt k (by omega)
        rw [h1, List.getElem?_map, List.getElem?_eq_getElem (by rw [lensL_len]; omega), Option.map_some, ← nth_lt, lensL_nth ds (Nat.le_refl _)]
      have HD := Lib.hid (rIsDeed_any (dnth ds k) (lenTo ds k) wr (HI.out k hlt) (by omega) (by omega))
      have HBL := Lib.hid hbl
      have hsz := hbl.size
      have hle1 := lenTo_le ds (k + 1)
      have hstep : lenTo ds (k + 1) = lenTo ds k + (if (dnth ds k).what = 1 then 1 else if (dnth ds k).what = 2 then -1 else 0) := rfl
      have HST := Lib.hid hstep
      clear hbl hstep
      cases hr : deedOk (dnth ds k) (lenTo ds k)
      · have HR := Lib.hid (show deedsOk ds = false from allTo_false (n := ds.length) hlt hr)
        rw [hr] at HD
        clear hr
        go_wp2_with fail
        refine HD.out.mono ?_
        rintro e w' ⟨rfl, hb'⟩
        have HF := Lib.hid (HBL.out.trans (hb'.mono hsz))
        clear hb'
        go_wp2_with fail
        go_ret2
        exact ⟨_, by rw [HR.out]; rfl, (fun h => by rw [HR.out] at h; cases h), HF.out⟩
      · rw [hr] at HD
        have HALL := Lib.hid (allTo_step hall hr)
        clear hr
        go_wp2_with fail
        refine HD.out.mono ?_
        rintro e w' ⟨rfl, hb'⟩
        have hf := HBL.out.trans (hb'.mono hsz)
        obtain ⟨d0', d1', d2', d3', d4'⟩ := (HC.out k hlt).below hf hb
        have HF := Lib.hid hf
        have hsf := hf.size
        have HOWN := Lib.hid (own_keptBut (own := fun _ => False) hown.out (KeptBut.of_below hb') (fun _ h => h.elim))
        clear hb' hf d0 d1 d2 d3 d4 x0 HD
        by_cases h1 : (dnth ds k).what = 1
        · skip
          have HS := Lib.hid (show lenTo ds (k + 1) = lenTo ds k + 1 by rw [HST.out]; rw [if_pos h1])
          go_wp2_with (at_builtin; refine wpList_append_own _ rfl _ _ 33 rfl w.heap.size 3 i0 (.int .i64 0) 1 8 Try.underlying33 hi hz0 hz1 hz2 rfl (by decide) _ _ _ rfl (HOWN.out.alloc _) ⟨w'.heap.size, 0, none⟩ 1 1 [.int .i64 (lenTo ds k + 1)] rfl (by go_simp) (by simpa using cell_one_new w' (.int .i64 (lenTo ds k + 1)) 3) (by simp [Value.oneCell']) (by unfold maxLen; omega) (by omega) (by simp; omega) ?_)
          intro v3 w3 hown3 hgrow _
          obtain ⟨g', cap', rfl⟩ := ownsRow_succ hown3
          have HF3 := Lib.hid ((HF.out.alloc hsf _).grown hgrow (by simp; omega) (fun j e => (HOWN.out.lt j e).1))
          have HO3 := Lib.hid (show w3.ownsRow w.heap.size 3 1 (.slice (some ⟨g', 0, none⟩) (k + 1 + 1) cap') (k + 1 + 1) ((lensL ds (k + 1)).map (Value.int .i64)) by rw [lensL_succ, List.map_append, HS.out]; exact hown3)
          clear hown3 hgrow
          go_wp2
          exact ⟨⟨k + 1, by omega, by go_num, g', cap', rfl, HO3, HF3.out, HALL⟩, by simp [intOf]; omega⟩
        · by_cases h2 : (dnth ds k).what = 2
          · skip
            have HS := Lib.hid (show lenTo ds (k + 1) = lenTo ds k - 1 by rw [HST.out]; rw [if_neg h1, if_pos h2]; omega)
            go_wp2_with (at_builtin; refine wpList_append_own _ rfl _ _ 33 rfl w.heap.size 3 i0 (.int .i64 0) 1 8 Try.underlying33 hi hz0 hz1 hz2 rfl (by decide) _ _ _ rfl (HOWN.out.alloc _) ⟨w'.heap.size, 0, none⟩ 1 1 [.int .i64 (lenTo ds k - 1)] rfl (by go_simp) (by simpa using cell_one_new w' (.int .i64 (lenTo ds k - 1)) 3) (by simp [Value.oneCell']) (by unfold maxLen; omega) (by omega) (by simp; omega) ?_)
            intro v3 w3 hown3 hgrow _
            obtain ⟨g', cap', rfl⟩ := ownsRow_succ hown3
            have HF3 := Lib.hid ((HF.out.alloc hsf _).grown hgrow (by simp; omega) (fun j e => (HOWN.out.lt j e).1))
            have HO3 := Lib.hid (show w3.ownsRow w.heap.size 3 1 (.slice (some ⟨g', 0, none⟩) (k + 1 + 1) cap') (k + 1 + 1) ((lensL ds (k + 1)).map (Value.int .i64)) by rw [lensL_succ, List.map_append, HS.out]; exact hown3)
            clear hown3 hgrow
            go_wp2
            exact ⟨⟨k + 1, by omega, by go_num, g', cap', rfl, HO3, HF3.out, HALL⟩, by simp [intOf]; omega⟩
          · skip
            have HS := Lib.hid (show lenTo ds (k + 1) = lenTo ds k by rw [HST.out]; rw [if_neg h1, if_neg h2]; omega)
            go_wp2_with (at_builtin; refine wpList_append_own _ rfl _ _ 33 rfl w.heap.size 3 i0 (.int .i64 0) 1 8 Try.underlying33 hi hz0 hz1 hz2 rfl (by decide) _ _ _ rfl (HOWN.out.alloc _) ⟨w'.heap.size, 0, none⟩ 1 1 [.int .i64 (lenTo ds k)] rfl (by go_simp) (by simpa using cell_one_new w' (.int .i64 (lenTo ds k)) 3) (by simp [Value.oneCell']) (by unfold maxLen; omega) (by omega) (by simp; omega) ?_)
            intro v3 w3 hown3 hgrow _
            obtain ⟨g', cap', rfl⟩ := ownsRow_succ hown3
            have HF3 := Lib.hid ((HF.out.alloc hsf _).grown hgrow (by simp; omega) (fun j e => (HOWN.out.lt j e).1))
            have HO3 := Lib.hid (show w3.ownsRow w.heap.size 3 1 (.slice (some ⟨g', 0, none⟩) (k + 1 + 1) cap') (k + 1 + 1) ((lensL ds (k + 1)).map (Value.int .i64)) by rw [lensL_succ, List.map_append, HS.out]; exact hown3)
            clear hown3 hgrow
            go_wp2
            exact ⟨⟨k + 1, by omega, by go_num, g', cap', rfl, HO3, HF3.out, HALL⟩, by simp [intOf]; omega⟩
    · obtain rfl : ds.length = k := by omega
      have HR := Lib.hid (show deedsOk ds = true from hall.out)
      have HB := Lib.hid hbl
      clear hall hbl
      go_wp2
      go_ret2
      refine ⟨_, by rw [HR.out]; rfl, fun _ => ints_of_own (base := w.heap.size) ?_ ?_, HB.out⟩
      · rw [lensL_len]; exact hown.out
      · intro x hx
        obtain ⟨i, hi', rfl⟩ := List.mem_map.1 hx
        have h1 := lenTo_le ds i
        have h2 := List.mem_range.1 hi'
        unfold I64; omega


set_option maxHeartbeats 1000000 in
theorem IsPlace_40 (v : Value) (C : Chain) (at_ : Int) (w : World) (hnd : C.deeds.length ≤ 40) (hx : ChainAt w.heap.size w v C) :
    Calls Try.prog 53 #[v, .int .i64 at_] w fun e w' => e = .returned (.bool (deedsOk C.deeds && placeB C at_)) ∧ Below w.heap.size w w' := by
  have hx' := hx
  have hle := lenTo_le C.deeds C.deeds.length
  obtain ⟨dv, sv, hv0, hD, hS, _⟩ := hx
  obtain ⟨a, cap, b, off, a2, cap2, b2, off2, hv, hm, hm2, hcap, hcapm, HA, HC, HA2, HC2, HI, HI2⟩ := hx'.opened
  rw [hv] at hv0
  cases hv0
  subst hv
  have HD := Lib.hid (fun W (hb : Below w.heap.size w W) => (hD.below hb).mono hb.size)
  have HP := Lib.hid (show placeB C at_ = wB at_ 0 (lenTo C.deeds C.deeds.length - 1) from rfl)
  rw [HP.out]
  clear hD hS hx' HA HC HA2 HC2 HI HI2
  cases hdo : deedsOk C.deeds
  case false =>
    have HO := Lib.hid hdo
    clear hdo
    go_enter Try.func53, Try.ntmps53
    go_wp2_with fail
    refine (lengths_40 _ C.deeds _ hnd (HD.out _ (by go_grown))).mono ?_
    rintro e w1 ⟨mv, rfl, _, hb1⟩
    have hbw : Below w.heap.size w w1 := ((Below.refl _ w).alloc (Nat.le_refl _) _).trans (hb1.mono (by simp))
    have HBW := Lib.hid hbw
    rw [HO.out]
    clear hb1 hbw
    go_wp2
    go_ret
    exact ⟨rfl, HBW.out⟩
  have HO := Lib.hid hdo
  clear hdo
  go_enter Try.func53, Try.ntmps53
  go_wp2_with fail
  refine (lengths_40 _ C.deeds _ hnd (HD.out _ (by go_grown))).mono ?_
  rintro e w1 ⟨mv, rfl, hmv, hb1⟩
  have e0 := (hb1.block w.heap.size (by simp)).trans (heap_new w _)
  have hbw : Below w.heap.size w w1 := ((Below.refl _ w).alloc (Nat.le_refl _) _).trans (hb1.mono (by simp))
  have HBW := Lib.hid hbw
  obtain ⟨c0, c1, c2⟩ := box3c e0
  obtain ⟨ma, mcap, mb, moff, rfl, hmm, HMA, HMC, HMI⟩ := (hmv HO.out).opened
  have hml := lensL_len C.deeds C.deeds.length
  obtain ⟨rfl, hmb⟩ := HMA.out (by omega)
  have m0 := HMC.out C.deeds.length (by omega)
  rw [lensL_nth C.deeds (Nat.le_refl _)] at m0
  rw [hml]
  rw [HO.out]
  have hy : ∃ y, lenTo C.deeds C.deeds.length = y := ⟨_, rfl⟩
  obtain ⟨y, hy⟩ := hy
  rw [hy] at m0 hle
  have HY := Lib.hid hy
  clear hb1 hbw e0 hmv HMC HMI HMA hml hy
  go_wp2_with (go_at_call 67; refine (rWithin_to rfl _).mono ?_; rintro e w' ⟨rfl, rfl⟩)
  go_ret
  exact ⟨ret_bool (by rw [HY.out, Bool.true_and]), HBW.out⟩

end Go.Proofs.Ytgjikoebneiamaa
