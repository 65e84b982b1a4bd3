/-
  Links, the law's reference: which chains are valid.
  Links, the law's reference: how many links there are before each deed.
  Links, the law's reference: which sights and chains are valid.
  Links, the law's reference: Check.
-/
import Derived.Test.YtgjikoebneiamaaLW2
import Derived.BigQuiet
import Derived.Test.YtgjikoebneiamaaLAns
namespace Go.Proofs.Ytgjikoebneiamaa
open Go.RowKit

set_option maxHeartbeats 400000 in
theorem rWithin_any (n lo hi : Int) (w : World) :
    Calls Try.prog 67 #[.int .i64 n, .int .i64 lo, .int .i64 hi] w fun e w' => e = .returned (.bool (wB n lo hi)) ∧ w = w' := by
  cases h : wB n lo hi
  · by_cases h0 : lo ≤ n
    · have h1 : ¬ n ≤ hi := by rcases wB_false.1 h with h1 | h1 <;> omega
      clear h
      go_enter Try.func67, Try.ntmps67
      go_wp2
      go_ret
      exact ⟨ret_bool (by first | (simp; done) | (simp; omega)), rfl⟩
    · clear h
      go_enter Try.func67, Try.ntmps67
      go_wp2
      go_ret
      exact ⟨ret_bool (by first | (simp; done) | (simp; omega)), rfl⟩
  · obtain ⟨h1, h2⟩ := wB_iff.1 h
    clear h
    go_enter Try.func67, Try.ntmps67
    go_wp2
    go_ret
    exact ⟨ret_bool (by first | (simp; done) | (simp; omega)), rfl⟩
theorem rWithin_to {n lo hi : Int} {b : Bool} (h : wB n lo hi = b) (w : World) :
    Calls Try.prog 67 #[.int .i64 n, .int .i64 lo, .int .i64 hi] w fun e w' => e = .returned (.bool b) ∧ w = w' := h ▸ rWithin_any n lo hi w

set_option maxHeartbeats 1000000 in
theorem rIsDeed_any (d : Deed) (n : Int) (w : World) (hd : DI64 d) (hn0 : -100 ≤ n) (hn1 : n ≤ 100) :
    Calls Try.prog 112 #[dV d, .int .i64 n] w fun e w' => e = .returned (.bool (deedOk d n)) ∧ Below w.heap.size w w' := by
  obtain ⟨i0, i1, i2, i3, i4⟩ := hd
  unfold I64 at i0 i1 i2 i3 i4
  go_enter Try.func112, Try.ntmps112
  by_cases h1 : d.what = 1
  · have hu : deedOk d n = (wB d.at_ 0 n && wB d.from_ 0 2 && wB d.bar 0 99 && wB d.smith 0 99) := by rw [deedOk, if_pos h1]
    have HU := Lib.hid hu
    clear hu
    cases hf : wB d.from_ 0 2
    case false =>
      go_wp2_with (go_at_call 67; refine (rWithin_to (by with_reducible assumption) _).mono ?_; rintro e w' ⟨rfl, rfl⟩)
      go_ret
      exact ⟨ret_bool (by rw [HU.out, hf]; simp), by go_grown⟩
    cases ha : wB d.at_ 0 n
    case false =>
      go_wp2_with (go_at_call 67; refine (rWithin_to (by with_reducible assumption) _).mono ?_; rintro e w' ⟨rfl, rfl⟩)
      go_ret
      exact ⟨ret_bool (by rw [HU.out, ha]; simp), by go_grown⟩
    cases hb : wB d.bar 0 99
    case false =>
      go_wp2_with (go_at_call 67; refine (rWithin_to (by with_reducible assumption) _).mono ?_; rintro e w' ⟨rfl, rfl⟩)
      go_ret
      exact ⟨ret_bool (by rw [HU.out, hb]; simp), by go_grown⟩
    cases hs : wB d.smith 0 99
    all_goals
      go_wp2_with (go_at_call 67; refine (rWithin_to (by with_reducible assumption) _).mono ?_; rintro e w' ⟨rfl, rfl⟩)
      go_ret
      exact ⟨ret_bool (by rw [HU.out, ha, hf, hb, hs]; simp), by go_grown⟩
  by_cases h2 : d.what = 2
  · have hu : deedOk d n = (wB d.at_ 0 (n - 1) && wB d.from_ 0 2 && decide (d.bar = 0) && decide (d.smith = 0)) := by rw [deedOk, if_neg h1, if_pos h2]
    have HU := Lib.hid hu
    clear hu
    cases hf : wB d.from_ 0 2
    case false =>
      go_wp2_with (go_at_call 67; refine (rWithin_to (by with_reducible assumption) _).mono ?_; rintro e w' ⟨rfl, rfl⟩)
      go_ret
      exact ⟨ret_bool (by rw [HU.out, hf]; simp), by go_grown⟩
    cases ha : wB d.at_ 0 (n - 1)
    case false =>
      go_wp2_with (go_at_call 67; refine (rWithin_to (by with_reducible assumption) _).mono ?_; rintro e w' ⟨rfl, rfl⟩)
      go_ret
      exact ⟨ret_bool (by rw [HU.out, ha]; simp), by go_grown⟩
    by_cases hb : d.bar = 0
    case neg =>
      go_wp2_with (go_at_call 67; refine (rWithin_to (by with_reducible assumption) _).mono ?_; rintro e w' ⟨rfl, rfl⟩)
      go_ret
      exact ⟨ret_bool (by rw [HU.out]; simp [hb]), by go_grown⟩
    by_cases hs : d.smith = 0
    all_goals
      go_wp2_with (go_at_call 67; refine (rWithin_to (by with_reducible assumption) _).mono ?_; rintro e w' ⟨rfl, rfl⟩)
      go_ret
      exact ⟨ret_bool (by rw [HU.out, ha, hf]; simp [hb, hs]), by go_grown⟩
  by_cases h3 : d.what = 3 ∨ d.what = 4
  · have hu : deedOk d n = (decide (d.at_ = 0) && decide (d.from_ = 0) && decide (d.bar = 0) && decide (d.smith = 0)) := by rw [deedOk, if_neg h1, if_neg h2, if_pos h3]
    have HU := Lib.hid hu
    clear hu
    rcases h3 with h3 | h3
    all_goals
      go_wp2
      all_goals
        go_ret
        exact ⟨ret_bool (by rw [HU.out]; first | (simp; done) | (simp; omega) | (simp [*]; done)), by go_grown⟩
  · have hu : deedOk d n = false := by rw [deedOk, if_neg h1, if_neg h2, if_neg h3]
    have HU := Lib.hid hu
    have h4 : ¬ d.what = 3 := fun h => h3 (.inl h)
    have h5 : ¬ d.what = 4 := fun h => h3 (.inr h)
    clear hu h3
    go_wp2
    go_ret
    exact ⟨ret_bool (by rw [HU.out]), by go_grown⟩

end Go.Proofs.Ytgjikoebneiamaa

namespace Go.Proofs.Ytgjikoebneiamaa
open Go.RowKit Go.Shelf

/-- How many links there are before each of the first k deeds, and after them. -/
def lensL (ds : List Deed) (k : Nat) : List Int := (List.range (k + 1)).map (lenTo ds)
theorem lensL_len (ds : List Deed) (k : Nat) : (lensL ds k).length = k + 1 := by simp [lensL]
theorem lensL_succ (ds : List Deed) (k : Nat) : lensL ds (k + 1) = lensL ds k ++ [lenTo ds (k + 1)] := by simp [lensL, List.range_succ]
theorem lensL_nth (ds : List Deed) {k i : Nat} (h : i ≤ k) : nth (lensL ds k) i = lenTo ds i := by
  rw [nth_lt (by rw [lensL_len]; omega)]; simp [lensL]

set_option maxRecDepth 100000 in
set_option maxHeartbeats 2000000 in
theorem lengths_any (v : Value) (ds : List Deed) (w : World) (hn12 : ds.length ≤ 12) (hx : DeedsTo w.heap.size w v ds ds.length) :
    Calls Try.prog 68 #[v] w fun e w' => ∃ v', e = .returned (.tuple #[v', .bool (deedsOk ds)]) ∧ (deedsOk ds = true → IntsAt w'.heap.size w' v' (lensL ds ds.length)) ∧ Below w.heap.size w w' := by
  obtain ⟨a, cap, b, off, rfl, hm, HA, HC, HI⟩ := hx.opened
  clear hx
  obtain ⟨i0, hi, hz0, hz1, hz2⟩ := info_parts Try_infoInt
  go_enter Try.func68, Try.ntmps68
  go_wp2
  go_loopw [4, 5] (fun o i wr => ∃ k : Nat, k ≤ ds.length ∧ i = .int .i64 k ∧ ∃ g c, o = .slice (some ⟨g, 0, none⟩) (k + 1) c ∧ Hid (wr.ownsRow w.heap.size 3 1 (.slice (some ⟨g, 0, none⟩) (k + 1) c) (k + 1) ((lensL ds k).map (Value.int .i64))) ∧ Below w.heap.size w wr ∧ Hid (allTo (fun i => deedOk (dnth ds i) (lenTo ds i)) k = true)) (fun _ i _ => ds.length - (intOf i).toNat)
  case atStart =>
    exact ⟨0, Nat.zero_le _, rfl, _, _, rfl, ⟨rfl, .inr ⟨w.heap.size, 1, _, rfl, Nat.le_refl _, heap_new w _, by omega, by unfold maxLen; omega, rfl, rfl⟩⟩, by go_grown, rfl⟩
  case round =>
    obtain ⟨k, hk, rfl, g, c, rfl, hown, hbl, hall⟩ := hrel
    have hle := lenTo_le ds k
    by_cases hlt : k < ds.length
    · obtain ⟨rfl, hb⟩ := HA.out (by omega)
      obtain ⟨d0, d1, d2, d3, d4⟩ := (HC.out k hlt).below hbl hb
      have x0 : wr.cell? ⟨g, k, none⟩ = some (.int .i64 (lenTo ds k)) := by
        have h1 := hown.out.cellAt k (by omega)
        rw [h1, List.getElem?_map, List.getElem?_eq_getElem (by rw [lensL_len]; omega), Option.map_some, ← nth_lt, lensL_nth ds (Nat.le_refl _)]
      have HD := Lib.hid (rIsDeed_any (dnth ds k) (lenTo ds k) wr (HI.out k hlt) (by omega) (by omega))
      have HBL := Lib.hid hbl
      have hsz := hbl.size
      have hle1 := lenTo_le ds (k + 1)
      have hstep : lenTo ds (k + 1) = lenTo ds k + (if (dnth ds k).what = 1 then 1 else if (dnth ds k).what = 2 then -1 else 0) := rfl
      have HST := Lib.hid hstep
      clear hbl hstep
      cases hr : deedOk (dnth ds k) (lenTo ds k)
      · have HR := Lib.hid (show deedsOk ds = false from allTo_false (n := ds.length) hlt hr)
        rw [hr] at HD
        clear hr
        go_wp2_with fail
        refine HD.out.mono ?_
        rintro e w' ⟨rfl, hb'⟩
        have HF := Lib.hid (HBL.out.trans (hb'.mono hsz))
        clear hb'
        go_wp2_with fail
        go_ret2
        exact ⟨_, by rw [HR.out]; rfl, (fun h => by rw [HR.out] at h; cases h), HF.out⟩
      · rw [hr] at HD
        have HALL := Lib.hid (allTo_step hall hr)
        clear hr
        go_wp2_with fail
        refine HD.out.mono ?_
        rintro e w' ⟨rfl, hb'⟩
        have hf := HBL.out.trans (hb'.mono hsz)
        obtain ⟨d0', d1', d2', d3', d4'⟩ := (HC.out k hlt).below hf hb
        have HF := Lib.hid hf
        have hsf := hf.size
        have HOWN := Lib.hid (own_keptBut (own := fun _ => False) hown.out (KeptBut.of_below hb') (fun _ h => h.elim))
        clear hb' hf d0 d1 d2 d3 d4 x0 HD
        by_cases h1 : (dnth ds k).what = 1
        · skip
          have HS := Lib.hid (show lenTo ds (k + 1) = lenTo ds k + 1 by rw [HST.out]; rw [if_pos h1])
          go_wp2_with (at_builtin; refine wpList_append_own _ rfl _ _ 33 rfl w.heap.size 3 i0 (.int .i64 0) 1 8 Try.underlying33 hi hz0 hz1 hz2 rfl (by decide) _ _ _ rfl (HOWN.out.alloc _) ⟨w'.heap.size, 0, none⟩ 1 1 [.int .i64 (lenTo ds k + 1)] rfl (by go_simp) (by simpa using cell_one_new w' (.int .i64 (lenTo ds k + 1)) 3) (by simp [Value.oneCell']) (by unfold maxLen; omega) (by omega) (by simp; omega) ?_)
          intro v3 w3 hown3 hgrow _
          obtain ⟨g', cap', rfl⟩ := ownsRow_succ hown3
          have HF3 := Lib.hid ((HF.out.alloc hsf _).grown hgrow (by simp; omega) (fun j e => (HOWN.out.lt j e).1))
          have HO3 := Lib.hid (show w3.ownsRow w.heap.size 3 1 (.slice (some ⟨g', 0, none⟩) (k + 1 + 1) cap') (k + 1 + 1) ((lensL ds (k + 1)).map (Value.int .i64)) by rw [lensL_succ, List.map_append, HS.out]; exact hown3)
          clear hown3 hgrow
          go_wp2
          exact ⟨⟨k + 1, by omega, by go_num, g', cap', rfl, HO3, HF3.out, HALL⟩, by simp [intOf]; omega⟩
        · by_cases h2 : (dnth ds k).what = 2
          · skip
            have HS := Lib.hid (show lenTo ds (k + 1) = lenTo ds k - 1 by rw [HST.out]; rw [if_neg h1, if_pos h2]; omega)
            go_wp2_with (at_builtin; refine wpList_append_own _ rfl _ _ 33 rfl w.heap.size 3 i0 (.int .i64 0) 1 8 Try.underlying33 hi hz0 hz1 hz2 rfl (by decide) _ _ _ rfl (HOWN.out.alloc _) ⟨w'.heap.size, 0, none⟩ 1 1 [.int .i64 (lenTo ds k - 1)] rfl (by go_simp) (by simpa using cell_one_new w' (.int .i64 (lenTo ds k - 1)) 3) (by simp [Value.oneCell']) (by unfold maxLen; omega) (by omega) (by simp; omega) ?_)
            intro v3 w3 hown3 hgrow _
            obtain ⟨g', cap', rfl⟩ := ownsRow_succ hown3
            have HF3 := Lib.hid ((HF.out.alloc hsf _).grown hgrow (by simp; omega) (fun j e => (HOWN.out.lt j e).1))
            have HO3 := Lib.hid (show w3.ownsRow w.heap.size 3 1 (.slice (some ⟨g', 0, none⟩) (k + 1 + 1) cap') (k + 1 + 1) ((lensL ds (k + 1)).map (Value.int .i64)) by rw [lensL_succ, List.map_append, HS.out]; exact hown3)
            clear hown3 hgrow
            go_wp2
            exact ⟨⟨k + 1, by omega, by go_num, g', cap', rfl, HO3, HF3.out, HALL⟩, by simp [intOf]; omega⟩
          · skip
            have HS := Lib.hid (show lenTo ds (k + 1) = lenTo ds k by rw [HST.out]; rw [if_neg h1, if_neg h2]; omega)
            go_wp2_with (at_builtin; refine wpList_append_own _ rfl _ _ 33 rfl w.heap.size 3 i0 (.int .i64 0) 1 8 Try.underlying33 hi hz0 hz1 hz2 rfl (by decide) _ _ _ rfl (HOWN.out.alloc _) ⟨w'.heap.size, 0, none⟩ 1 1 [.int .i64 (lenTo ds k)] rfl (by go_simp) (by simpa using cell_one_new w' (.int .i64 (lenTo ds k)) 3) (by simp [Value.oneCell']) (by unfold maxLen; omega) (by omega) (by simp; omega) ?_)
            intro v3 w3 hown3 hgrow _
            obtain ⟨g', cap', rfl⟩ := ownsRow_succ hown3
            have HF3 := Lib.hid ((HF.out.alloc hsf _).grown hgrow (by simp; omega) (fun j e => (HOWN.out.lt j e).1))
            have HO3 := Lib.hid (show w3.ownsRow w.heap.size 3 1 (.slice (some ⟨g', 0, none⟩) (k + 1 + 1) cap') (k + 1 + 1) ((lensL ds (k + 1)).map (Value.int .i64)) by rw [lensL_succ, List.map_append, HS.out]; exact hown3)
            clear hown3 hgrow
            go_wp2
            exact ⟨⟨k + 1, by omega, by go_num, g', cap', rfl, HO3, HF3.out, HALL⟩, by simp [intOf]; omega⟩
    · obtain rfl : ds.length = k := by omega
      have HR := Lib.hid (show deedsOk ds = true from hall.out)
      have HB := Lib.hid hbl
      clear hall hbl
      go_wp2
      go_ret2
      refine ⟨_, by rw [HR.out]; rfl, fun _ => ints_of_own (base := w.heap.size) ?_ ?_, HB.out⟩
      · rw [lensL_len]; exact hown.out
      · intro x hx
        obtain ⟨i, hi', rfl⟩ := List.mem_map.1 hx
        have h1 := lenTo_le ds i
        have h2 := List.mem_range.1 hi'
        unfold I64; omega

end Go.Proofs.Ytgjikoebneiamaa

namespace Go.Proofs.Ytgjikoebneiamaa
open Go.RowKit Go.Shelf

set_option maxRecDepth 100000 in
set_option maxHeartbeats 4000000 in
theorem rIsSight_any (s : Sight) (ds : List Deed) (v : Value) (w : World) (hs : SI64 s) (hn12 : ds.length ≤ 12) (hv : IntsAt w.heap.size w v (lensL ds ds.length)) :
    Calls Try.prog 69 #[sV s, v] w fun e w' => e = .returned (.bool (sightAll ds s)) ∧ Below w.heap.size w w' := by
  obtain ⟨a, cap, b, off, rfl, hm, HA, HC, HW⟩ := hv.opened
  clear hv
  rw [lensL_len] at HA HC ⊢
  obtain ⟨rfl, hb⟩ := HA.out (by omega)
  obtain ⟨i0, i1, i2, i3, i4⟩ := hs
  unfold I64 at i0 i1 i2 i3 i4
  have hw1 : IntKind.i64.wrap (((ds.length : Int) + 1) - 1) = ds.length := by rw [IntWalk.i64_in _ (by omega)]; omega
  have QW := Lib.hid (fun (W : World) (d : Nat) (n lo hi : Int) (r : Bool) (h : wB n lo hi = r) => Calls.quiet_of_same (n := d) (w := W) ((rWithin_to h (W.drewN d)).mono (R' := fun e w' => e = .returned (.bool r) ∧ w' = W.drewN d) (fun _ _ h => ⟨h.1, h.2.symm⟩)))
  have hu : sightAll ds s = (wB s.after 0 ds.length && (wB s.at_ 0 (lenTo ds s.after.toNat - 1) && wB s.from_ 0 1 && wB s.bar (-1) 99 && wB s.smith (-1) 99)) := rfl
  have HU := Lib.hid hu
  clear hu
  go_enter Try.func69, Try.ntmps69
  obtain ⟨W, hW⟩ : ∃ W, W = w.alloc (.cells #[.int .i64 s.after, .int .i64 s.at_, .int .i64 s.from_, .int .i64 s.bar, .int .i64 s.smith] 60) := ⟨_, rfl⟩
  have hf : Five W w.heap.size 0 _ _ _ _ _ := hW ▸ five_new
  have hbW : Below w.heap.size w W := hW ▸ (Below.refl _ _).alloc (Nat.le_refl _) _
  have HWQ := Lib.hid hW
  have HBW := Lib.hid hbW
  obtain ⟨f0, f1, f2, f3, f4⟩ := hf
  have hC : ∀ q, q ≤ ds.length → b < w.heap.size → W.cell? ⟨b, off + q, none⟩ = some (.int .i64 (lenTo ds q)) := fun q hq hbw => by
    rw [hbW.cell (p := ⟨b, off + q, none⟩) hbw, HC.out q (by omega), lensL_nth ds hq]
  have HCW := Lib.hid hC
  clear hW hbW hC
  cases ha : wB s.after 0 ds.length
  case false =>
    go_wp2
    rw [← HWQ.out]
    go_quiet ((go_at_call 67; exact QW.out _ _ _ _ _ _ (by with_reducible assumption)))
    go_wp2
    go_ret
    exact ⟨ret_bool (by rw [HU.out, ha]; rfl), drewN_below HBW.out _⟩
  obtain ⟨haf0, haf1⟩ := wB_iff.1 ha
  obtain ⟨q, hq⟩ : ∃ q : Nat, s.after = q := ⟨s.after.toNat, by omega⟩
  have hqle : q ≤ ds.length := by omega
  have x0 := HCW.out q hqle hb
  have hle := lenTo_le ds q
  have hu2 : sightAll ds s = (wB s.at_ 0 (lenTo ds q - 1) && wB s.from_ 0 1 && wB s.bar (-1) 99 && wB s.smith (-1) 99) := by rw [HU.out, ha, hq]; simp
  have HU2 := Lib.hid hu2
  clear HU hu2 HCW haf0 haf1 HC HW HA
  unfold sV
  rw [hq] at ha f0 HWQ ⊢
  clear hq
  generalize lenTo ds q = y at x0 hle HU2
  cases hf : wB s.from_ 0 1
  case false =>
    go_wp2
    rw [← HWQ.out]
    go_quiet ((go_at_call 67; exact QW.out _ _ _ _ _ _ (by with_reducible assumption)))
    go_wp2
    go_ret
    exact ⟨ret_bool (by rw [HU2.out, hf]; simp), drewN_below HBW.out _⟩
  cases hat : wB s.at_ 0 (y - 1)
  case false =>
    go_wp2
    rw [← HWQ.out]
    go_quiet ((go_at_call 67; exact QW.out _ _ _ _ _ _ (by with_reducible assumption)))
    go_wp2
    go_ret
    exact ⟨ret_bool (by rw [HU2.out, hat]; simp), drewN_below HBW.out _⟩
  cases hb : wB s.bar (-1) 99
  case false =>
    go_wp2
    rw [← HWQ.out]
    go_quiet ((go_at_call 67; exact QW.out _ _ _ _ _ _ (by with_reducible assumption)))
    go_wp2
    go_ret
    exact ⟨ret_bool (by rw [HU2.out, hb]; simp), drewN_below HBW.out _⟩
  cases hs : wB s.smith (-1) 99
  all_goals
    go_wp2
    rw [← HWQ.out]
    go_quiet ((go_at_call 67; exact QW.out _ _ _ _ _ _ (by with_reducible assumption)))
    go_wp2
    go_ret
    exact ⟨ret_bool (by rw [HU2.out, hat, hf, hb, hs]; simp), drewN_below HBW.out _⟩

end Go.Proofs.Ytgjikoebneiamaa

namespace Go.Proofs.Ytgjikoebneiamaa
open Go.RowKit Go.Shelf

theorem box3c {W : World} {b : Nat} {v0 v1 v2 : Value} {t : TypeId} (e : W.heap[b]? = some (.cells #[v0, v1, v2] t)) : W.cell? ⟨b, 0, none⟩ = some v0 ∧ W.cell? ⟨b, 1, none⟩ = some v1 ∧ W.cell? ⟨b, 2, none⟩ = some v2 := by
  refine ⟨?_, ?_, ?_⟩ <;> simp [World.cell?, e]

set_option maxRecDepth 100000 in
set_option maxHeartbeats 4000000 in
theorem rCheck_any (v : Value) (C : Chain) (w : World) (hx : ChainAt w.heap.size w v C) :
    Calls Try.prog 17 #[v] w fun e w' => e = .returned (.int .i64 (chkS C)) ∧ Below w.heap.size w w' := by
  obtain ⟨dv, sv, hv0, hD, hS, _⟩ := hx
  have hx : ChainAt w.heap.size w v C := ⟨dv, sv, hv0, hD, hS, by assumption⟩
  obtain ⟨a, cap, b, off, a2, cap2, b2, off2, hv, hm, hm2, hcap, hcapm, HA, HC, HA2, HC2, HI, HI2⟩ := hx.opened
  clear hx
  rw [hv] at hv0
  cases hv0
  subst hv
  have HD := Lib.hid (fun W (hb : Below w.heap.size w W) => (hD.below hb).mono hb.size)
  clear hD hS
  go_enter Try.func17, Try.ntmps17
  by_cases hn1 : C.deeds.length ≤ 12
  case neg =>
    go_wp2_with fail
    go_ret
    exact ⟨ret_int (by simp [chkS, validB, hn1]), by go_grown⟩
  by_cases hn2 : C.sights.length ≤ 8
  case neg =>
    go_wp2_with fail
    go_ret
    exact ⟨ret_int (by simp [chkS, validB, hn2]), by go_grown⟩
  cases hw : wB C.wrong 0 8
  case false =>
    go_wp2_with (go_at_call 67; refine (rWithin_to (by with_reducible assumption) _).mono ?_; rintro e w' ⟨rfl, rfl⟩)
    go_ret
    exact ⟨ret_int (by simp [chkS, validB, hw]), by go_grown⟩
  go_wp2_with (go_at_call 67; refine (rWithin_to (by with_reducible assumption) _).mono ?_; rintro e w' ⟨rfl, rfl⟩)
  refine (lengths_any _ C.deeds _ hn1 (HD.out _ (by go_grown))).mono ?_
  rintro e w1 ⟨mv, rfl, hmv, hb1⟩
  have e0 := (hb1.block w.heap.size (by simp)).trans (heap_new w _)
  have hbw : Below w.heap.size w w1 := ((Below.refl _ w).alloc (Nat.le_refl _) _).trans (hb1.mono (by simp))
  have hlt0 := heap_lt e0
  have HBW := Lib.hid hbw
  have HE0 := Lib.hid e0
  have HMV := Lib.hid hmv
  obtain ⟨c0, c1, c2⟩ := box3c e0
  clear hb1 hbw e0 hmv
  cases hok : deedsOk C.deeds
  case false =>
    have HOK := Lib.hid hok
    clear hok
    go_wp2_with fail
    go_ret
    exact ⟨ret_int (by simp [chkS, validB, HOK.out]), HBW.out⟩
  have hints := HMV.out hok
  have hints' := hints
  obtain ⟨ma, mcap, mb, moff, rfl, _, _, _, _⟩ := hints.opened
  have HINTS := Lib.hid hints'
  have HOK := Lib.hid hok
  clear hok HMV hints hints'
  rw [lensL_len] at HINTS ⊢
  go_wp2_with fail
  go_loopw [5] (fun i wr => ∃ k : Nat, k ≤ C.sights.length ∧ i = .int .i64 k ∧ Below w1.heap.size w1 wr ∧ Hid (allTo (fun j => sightAll C.deeds (snth C.sights j)) k = true)) (fun i _ => C.sights.length - (intOf i).toNat)
  case atStart => exact ⟨0, Nat.zero_le _, rfl, Below.refl _ _, rfl⟩
  case round =>
    clear c0 c1 c2
    obtain ⟨k, hk, rfl, hbl, hall⟩ := hrel
    have e0 := (hbl.block _ hlt0).trans HE0.out
    obtain ⟨c0, c1, c2⟩ := box3c e0
    have hbr := HBW.out.trans (hbl.mono HBW.out.size)
    have hsz := hbl.size
    have HBL := Lib.hid hbl
    have HBR := Lib.hid hbr
    by_cases hlt : k < C.sights.length
    · obtain ⟨rfl, hb⟩ := HA2.out (by omega)
      obtain ⟨d0, d1, d2, d3, d4⟩ := (HC2.out k hlt).below hbr hb
      have hno : sightAll C.deeds (snth C.sights k) = false → validB C = false := fun h => by
        rw [validB, allTo_false (n := C.sights.length) hlt h]; simp
      have HNO := Lib.hid hno
      have HS := Lib.hid (rIsSight_any (snth C.sights k) C.deeds (.slice ma (C.deeds.length + 1) mcap) wr (HI2.out k hlt) hn1 ((HINTS.out.below hbl).mono hbl.size))
      clear hbl hbr e0 hno
      cases hr : sightAll C.deeds (snth C.sights k)
      all_goals
        have HR := Lib.hid hr
        rw [hr] at HS
        clear hr
        go_wp2_with fail
        refine HS.out.mono ?_
        rintro e w' ⟨rfl, hb'⟩
        have HB' := Lib.hid hb'
        clear hb'
        go_wp2_with fail
      · go_ret
        exact ⟨ret_int (by rw [chkS, if_neg (by rw [HNO.out HR.out]; simp)]), HBR.out.trans (HB'.out.mono HBR.out.size)⟩
      · exact ⟨⟨k + 1, by omega, by go_num, HBL.out.trans (HB'.out.mono hsz), allTo_step hall HR.out⟩, by simp [intOf]; omega⟩
    · obtain rfl : C.sights.length = k := by omega
      have HV := Lib.hid (show chkS C = 0 by simp [chkS, validB, hn1, hn2, hw, HOK.out, hall.out])
      clear hbl hbr e0 hall
      go_wp2
      go_ret
      exact ⟨ret_int (by rw [HV.out]), HBR.out⟩

end Go.Proofs.Ytgjikoebneiamaa
