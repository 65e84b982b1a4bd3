/-
  Links, walks: small functions of the package: within, places from the head, lengths, valid deeds and sights.
  Links, walks: which chains are valid; Check and Length.
-/
import Derived.Test.YtgjikoebneiamaaLMem
import Derived.Lib.QuietBelow
import Derived.Shelf.RegionOpen

namespace Go.Proofs.Ytgjikoebneiamaa
open Go.RowKit

set_option maxHeartbeats 400000 in
theorem within_any (n lo hi : Int) (w : World) :
    Calls Try.prog 109 #[.int .i64 n, .int .i64 lo, .int .i64 hi] w fun e w' => e = .returned (.bool (wB n lo hi)) ∧ w = w' := by
  cases h : wB n lo hi
  · by_cases h0 : lo ≤ n
    · have h1 : ¬ n ≤ hi := by rcases wB_false.1 h with h1 | h1 <;> omega
      clear h
      go_enter Try.func109, Try.ntmps109
      go_wp2
      go_ret
      exact ⟨ret_bool (by first | (simp; done) | (simp; omega)), rfl⟩
    · clear h
      go_enter Try.func109, Try.ntmps109
      go_wp2
      go_ret
      exact ⟨ret_bool (by first | (simp; done) | (simp; omega)), rfl⟩
  · obtain ⟨h1, h2⟩ := wB_iff.1 h
    clear h
    go_enter Try.func109, Try.ntmps109
    go_wp2
    go_ret
    exact ⟨ret_bool (by first | (simp; done) | (simp; omega)), rfl⟩
theorem within_to {n lo hi : Int} {b : Bool} (h : wB n lo hi = b) (w : World) :
    Calls Try.prog 109 #[.int .i64 n, .int .i64 lo, .int .i64 hi] w fun e w' => e = .returned (.bool b) ∧ w = w' := h ▸ within_any n lo hi w

set_option maxHeartbeats 400000 in
theorem fromHead_any (a f n : Int) (w : World) (h : I64 (fromHead a f n)) (hn : -100 ≤ n) (hn2 : n ≤ 100) :
    Calls Try.prog 117 #[.int .i64 a, .int .i64 f, .int .i64 n] w fun e w' => e = .returned (.int .i64 (fromHead a f n)) ∧ w = w' := by
  unfold fromHead I64 at h
  go_enter Try.func117, Try.ntmps117
  by_cases hf : f = 1
  · rw [if_pos hf] at h
    go_wp2
    go_ret
    exact ⟨ret_int (by simp only [fromHead, if_pos hf]), rfl⟩
  · go_wp2
    go_ret
    exact ⟨ret_int (by simp only [fromHead, if_neg hf]), rfl⟩

set_option maxHeartbeats 400000 in
theorem lengthAfter_any (v : Value) (ds : List Deed) (k : Nat) (w : World) (hk12 : k ≤ 12) (hx : DeedsTo w.heap.size w v ds k) :
    Calls Try.prog 70 #[v] w fun e w' => e = .returned (.int .i64 (lenTo ds k)) ∧ Below w.heap.size w w' := by
  obtain ⟨a, cap, b, off, rfl, hm, HA, HC, HI⟩ := hx.opened
  clear hx
  go_enter Try.func70, Try.ntmps70
  go_wp2
  go_loopw [3, 8] (fun n i wr => ∃ j : Nat, j ≤ k ∧ i = .int .i64 j ∧ n = .int .i64 (lenTo ds j) ∧ Below w.heap.size w wr) (fun _ i _ => k - (intOf i).toNat)
  case atStart => exact ⟨0, Nat.zero_le _, rfl, rfl, Below.refl _ _⟩
  case round =>
    obtain ⟨j, hj, rfl, rfl, hb⟩ := hrel
    have hsz := hb.size
    have hle := lenTo_le ds j
    by_cases hlt : j < k
    · obtain ⟨rfl, hbB⟩ := HA.out (by omega)
      obtain ⟨d0, d1, d2, d3, d4⟩ := (HC.out j hlt).below hb hbB
      by_cases h1 : (dnth ds j).what = 1
      · go_wp2
        exact ⟨⟨j + 1, by omega, by go_num, by simp only [lenTo, if_pos h1], by go_grown⟩, by simp [intOf]; omega⟩
      by_cases h2 : (dnth ds j).what = 2
      · go_wp2
        exact ⟨⟨j + 1, by omega, by go_num, by simp only [lenTo, if_neg h1, if_pos h2]; go_num, by go_grown⟩, by simp [intOf]; omega⟩
      · go_wp2
        exact ⟨⟨j + 1, by omega, by go_num, by simp only [lenTo, if_neg h1, if_neg h2] <;> go_num, by go_grown⟩, by simp [intOf]; omega⟩
    · obtain rfl : k = j := by omega
      go_wp2
      go_ret
      exact ⟨rfl, hb⟩

set_option maxHeartbeats 1000000 in
theorem validDeed_any (d : Deed) (n : Int) (w : World) (hd : DI64 d) (hn0 : -100 ≤ n) (hn1 : n ≤ 100) :
    Calls Try.prog 110 #[dV d, .int .i64 n] w fun e w' => e = .returned (.bool (deedOk d n)) ∧ Below w.heap.size w w' := by
  obtain ⟨i0, i1, i2, i3, i4⟩ := hd
  unfold I64 at i0 i1 i2 i3 i4
  go_enter Try.func110, Try.ntmps110
  by_cases h1 : d.what = 1
  · have hu : deedOk d n = (wB d.at_ 0 n && wB d.from_ 0 2 && wB d.bar 0 99 && wB d.smith 0 99) := by rw [deedOk, if_pos h1]
    have HU := Lib.hid hu
    clear hu
    cases ha : wB d.at_ 0 n
    case false =>
      go_wp2_with (go_at_call 109; refine (within_to (by with_reducible assumption) _).mono ?_; rintro e w' ⟨rfl, rfl⟩)
      go_ret
      exact ⟨ret_bool (by rw [HU.out, ha]; simp), by go_grown⟩
    cases hf : wB d.from_ 0 2
    case false =>
      go_wp2_with (go_at_call 109; refine (within_to (by with_reducible assumption) _).mono ?_; rintro e w' ⟨rfl, rfl⟩)
      go_ret
      exact ⟨ret_bool (by rw [HU.out, hf]; simp), by go_grown⟩
    cases hb : wB d.bar 0 99
    case false =>
      go_wp2_with (go_at_call 109; refine (within_to (by with_reducible assumption) _).mono ?_; rintro e w' ⟨rfl, rfl⟩)
      go_ret
      exact ⟨ret_bool (by rw [HU.out, hb]; simp), by go_grown⟩
    cases hs : wB d.smith 0 99
    all_goals
      go_wp2_with (go_at_call 109; refine (within_to (by with_reducible assumption) _).mono ?_; rintro e w' ⟨rfl, rfl⟩)
      go_ret
      exact ⟨ret_bool (by rw [HU.out, ha, hf, hb, hs]; simp), by go_grown⟩
  by_cases h2 : d.what = 2
  · have hu : deedOk d n = (wB d.at_ 0 (n - 1) && wB d.from_ 0 2 && decide (d.bar = 0) && decide (d.smith = 0)) := by rw [deedOk, if_neg h1, if_pos h2]
    have HU := Lib.hid hu
    clear hu
    cases ha : wB d.at_ 0 (n - 1)
    case false =>
      go_wp2_with (go_at_call 109; refine (within_to (by with_reducible assumption) _).mono ?_; rintro e w' ⟨rfl, rfl⟩)
      go_ret
      exact ⟨ret_bool (by rw [HU.out, ha]; simp), by go_grown⟩
    cases hf : wB d.from_ 0 2
    case false =>
      go_wp2_with (go_at_call 109; refine (within_to (by with_reducible assumption) _).mono ?_; rintro e w' ⟨rfl, rfl⟩)
      go_ret
      exact ⟨ret_bool (by rw [HU.out, hf]; simp), by go_grown⟩
    by_cases hb : d.bar = 0
    case neg =>
      go_wp2_with (go_at_call 109; refine (within_to (by with_reducible assumption) _).mono ?_; rintro e w' ⟨rfl, rfl⟩)
      go_ret
      exact ⟨ret_bool (by rw [HU.out]; simp [hb]), by go_grown⟩
    by_cases hs : d.smith = 0
    all_goals
      go_wp2_with (go_at_call 109; refine (within_to (by with_reducible assumption) _).mono ?_; rintro e w' ⟨rfl, rfl⟩)
      go_ret
      exact ⟨ret_bool (by rw [HU.out, ha, hf]; simp [hb, hs]), by go_grown⟩
  by_cases h3 : d.what = 3 ∨ d.what = 4
  · have hu : deedOk d n = (decide (d.at_ = 0) && decide (d.from_ = 0) && decide (d.bar = 0) && decide (d.smith = 0)) := by rw [deedOk, if_neg h1, if_neg h2, if_pos h3]
    have HU := Lib.hid hu
    clear hu
    by_cases ha : d.at_ = 0
    case neg =>
      rcases h3 with h3 | h3
      all_goals
        go_wp2
        go_ret
        exact ⟨ret_bool (by rw [HU.out]; simp [ha]), by go_grown⟩
    by_cases hf : d.from_ = 0
    case neg =>
      rcases h3 with h3 | h3
      all_goals
        go_wp2
        go_ret
        exact ⟨ret_bool (by rw [HU.out]; simp [hf]), by go_grown⟩
    by_cases hb : d.bar = 0
    case neg =>
      rcases h3 with h3 | h3
      all_goals
        go_wp2
        go_ret
        exact ⟨ret_bool (by rw [HU.out]; simp [hb]), by go_grown⟩
    by_cases hs : d.smith = 0
    all_goals
      rcases h3 with h3 | h3
      all_goals
        go_wp2
        go_ret
        exact ⟨ret_bool (by rw [HU.out]; simp [ha, hf, hb, hs]), by go_grown⟩
  · have hu : deedOk d n = false := by rw [deedOk, if_neg h1, if_neg h2, if_neg h3]
    have h3a : ¬ d.what = 3 := fun h => h3 (.inl h)
    have h3b : ¬ d.what = 4 := fun h => h3 (.inr h)
    clear h3
    go_wp2
    go_ret
    exact ⟨ret_bool (by rw [hu]), by go_grown⟩

set_option maxHeartbeats 1000000 in
theorem validSight_any (s : Sight) (n : Int) (w : World) (hs : SI64 s) (hn0 : -100 ≤ n) (hn1 : n ≤ 100) :
    Calls Try.prog 111 #[sV s, .int .i64 n] w fun e w' => e = .returned (.bool (sightOk s n)) ∧ Below w.heap.size w w' := by
  obtain ⟨i0, i1, i2, i3, i4⟩ := hs
  unfold I64 at i0 i1 i2 i3 i4
  have hu : sightOk s n = (wB s.at_ 0 (n - 1) && wB s.from_ 0 1 && wB s.bar (-1) 99 && wB s.smith (-1) 99) := rfl
  have HU := Lib.hid hu
  clear hu
  go_enter Try.func111, Try.ntmps111
  cases ha : wB s.at_ 0 (n - 1)
  case false =>
    go_wp2_with (go_at_call 109; refine (within_to (by with_reducible assumption) _).mono ?_; rintro e w' ⟨rfl, rfl⟩)
    go_ret
    exact ⟨ret_bool (by rw [HU.out, ha]; simp), by go_grown⟩
  cases hf : wB s.from_ 0 1
  case false =>
    go_wp2_with (go_at_call 109; refine (within_to (by with_reducible assumption) _).mono ?_; rintro e w' ⟨rfl, rfl⟩)
    go_ret
    exact ⟨ret_bool (by rw [HU.out, hf]; simp), by go_grown⟩
  cases hb : wB s.bar (-1) 99
  case false =>
    go_wp2_with (go_at_call 109; refine (within_to (by with_reducible assumption) _).mono ?_; rintro e w' ⟨rfl, rfl⟩)
    go_ret
    exact ⟨ret_bool (by rw [HU.out, hb]; simp), by go_grown⟩
  cases hs : wB s.smith (-1) 99
  all_goals
    go_wp2_with (go_at_call 109; refine (within_to (by with_reducible assumption) _).mono ?_; rintro e w' ⟨rfl, rfl⟩)
    go_ret
    exact ⟨ret_bool (by rw [HU.out, ha, hf, hb, hs]; simp), by go_grown⟩

end Go.Proofs.Ytgjikoebneiamaa

namespace Go.Proofs.Ytgjikoebneiamaa
open Go.RowKit Go.Sort

theorem five_of {W : World} {b : Nat} {x0 x1 x2 x3 x4 : Int} {t : TypeId} (e : W.heap[b]? = some (.cells #[.int .i64 x0, .int .i64 x1, .int .i64 x2, .int .i64 x3, .int .i64 x4] t)) : Five W b 0 x0 x1 x2 x3 x4 := by
  refine ⟨?_, ?_, ?_, ?_, ?_⟩ <;> simp [World.cell?, e]
theorem five_new {w : World} {x0 x1 x2 x3 x4 : Int} {t : TypeId} : Five (w.alloc (.cells #[.int .i64 x0, .int .i64 x1, .int .i64 x2, .int .i64 x3, .int .i64 x4] t)) w.heap.size 0 x0 x1 x2 x3 x4 :=
  five_of (heap_new w _)

set_option maxHeartbeats 2000000 in
theorem valid_any (v : Value) (C : Chain) (w : World) (hx : ChainAt w.heap.size w v C) :
    Calls Try.prog 66 #[v] w fun e w' => e = .returned (.bool (validB C)) ∧ Below w.heap.size w w' := by
  obtain ⟨dv, sv, hv0, hD, hS, _⟩ := hx
  have hx : ChainAt w.heap.size w v C := ⟨dv, sv, hv0, hD, hS, by assumption⟩
  obtain ⟨a, cap, b, off, a2, cap2, b2, off2, hv, hm, hm2, hcap, hcapm, HA, HC, HA2, HC2, HI, HI2⟩ := hx.opened
  clear hx
  rw [hv] at hv0
  cases hv0
  subst hv
  go_enter Try.func66, Try.ntmps66
  by_cases hn1 : C.deeds.length ≤ 12
  case neg =>
    go_wp2_with fail
    go_ret
    exact ⟨ret_bool (by simp [validB, hn1]), by go_grown⟩
  by_cases hn2 : C.sights.length ≤ 8
  case neg =>
    go_wp2_with fail
    go_ret
    exact ⟨ret_bool (by simp [validB, hn2]), by go_grown⟩
  cases hw : wB C.wrong 0 8
  case false =>
    go_wp2_with (go_at_call 109; refine (within_to (by with_reducible assumption) _).mono ?_; rintro e w' ⟨rfl, rfl⟩)
    go_ret
    exact ⟨ret_bool (by simp [validB, hw]), by go_grown⟩
  go_wp2_with (go_at_call 109; refine (within_to (by with_reducible assumption) _).mono ?_; rintro e w' ⟨rfl, rfl⟩)
  go_loopw [26] (fun i wr => ∃ k : Nat, k ≤ C.deeds.length ∧ i = .int .i64 k ∧ Below (w.heap.size + 1) (w.alloc _) wr ∧ Hid (allTo (fun i => deedOk (dnth C.deeds i) (lenTo C.deeds i)) k = true)) (fun i _ => C.deeds.length - (intOf i).toNat)
  case atStart => exact ⟨0, Nat.zero_le _, rfl, Below.refl _ _, rfl⟩
  case round =>
    obtain ⟨k, hk, rfl, hbl, hall⟩ := hrel
    have hblk := hbl
    have hw1 := boxed hbl
    have hsz : w.heap.size + 1 ≤ wr.heap.size := by have := hbl.size; simpa using this
    obtain ⟨c0, c1, c2⟩ := box3 hbl
    by_cases hlt : k < C.deeds.length
    · obtain ⟨rfl, hb⟩ := HA.out (by omega)
      obtain ⟨d0, d1, d2, d3, d4⟩ := (HC.out k hlt).below hw1 hb
      have hle := lenTo_le C.deeds k
      have hno : deedOk (dnth C.deeds k) (lenTo C.deeds k) = false → validB C = false := fun h => by
        rw [validB, show deedsOk C.deeds = false from allTo_false (n := C.deeds.length) hlt h]; simp
      have hno := Lib.hid hno
      obtain ⟨W, hW⟩ : ∃ W, W = wr.alloc (.cells #[.int .i64 (dnth C.deeds k).what, .int .i64 (dnth C.deeds k).at_, .int .i64 (dnth C.deeds k).from_, .int .i64 (dnth C.deeds k).bar, .int .i64 (dnth C.deeds k).smith] 55) := ⟨_, rfl⟩
      have hbW : Below wr.heap.size wr W := hW ▸ (Below.refl _ _).alloc (Nat.le_refl _) _
      have hszW : wr.heap.size ≤ W.heap.size := hbW.size
      have hf : Five W wr.heap.size 0 _ _ _ _ _ := hW ▸ five_new
      have HWQ := Lib.hid hW
      have e0 : W.cell? ⟨w.heap.size, 0, none⟩ = _ := (hbW.cell (p := ⟨w.heap.size, 0, none⟩) (by show w.heap.size < wr.heap.size; omega)).trans c0
      have k0 := cell_regrown e0
      obtain ⟨f0, f1, f2, f3, f4⟩ := hf
      have f0 := cell_regrown f0
      have f1 := cell_regrown f1
      have f2 := cell_regrown f2
      have f3 := cell_regrown f3
      have f4 := cell_regrown f4
      have hg : ∀ d os, Below w.heap.size w (grow (redrawn W d) os) := fun d os => (hw1.trans (hbW.mono (by omega))).trans ((below_regrown W d os).mono (by omega))
      have HG := Lib.hid hg
      have hgb : ∀ d os, Below (w.heap.size + 1) (w.alloc (.cells #[.slice (some ⟨b, off, none⟩) C.deeds.length cap, .slice a2 C.sights.length cap2, .int .i64 C.wrong] 25)) (grow (redrawn W d) os) := fun d os => (hbl.trans (hbW.mono (by omega))).trans ((below_regrown W d os).mono (by omega))
      have HGB := Lib.hid hgb
      have q1 : ∀ d os, Calls Try.prog 70 #[.slice (some ⟨b, off, none⟩) k cap] (grow (redrawn W d) os) fun e w'' => e = .returned (.int .i64 (lenTo C.deeds k)) ∧ ∃ p : Regrown, w'' = grow (redrawn W p.d) p.os := fun d os =>
        Calls.regrown_of (lengthAfter_any _ C.deeds k _ (by omega) (((hD.take (by omega)).below (hg d os)).mono (hg d os).size))
      have q2 : ∀ d os, Calls Try.prog 110 #[dV (dnth C.deeds k), .int .i64 (lenTo C.deeds k)] (grow (redrawn W d) os) fun e w'' => e = .returned (.bool (deedOk (dnth C.deeds k) (lenTo C.deeds k))) ∧ ∃ p : Regrown, w'' = grow (redrawn W p.d) p.os := fun d os =>
        Calls.regrown_of (validDeed_any _ _ _ (HI.out k hlt) (by omega) (by omega))
      have Q1 := Lib.hid q1
      cases hr : deedOk (dnth C.deeds k) (lenTo C.deeds k)
      all_goals
        rw [hr] at q2
        have Q2 := Lib.hid q2
        have HR := Lib.hid hr
        clear q1 q2 hg hgb hr e0 hW hbl
        go_wp2
        rw [← HWQ.out]
        refine wp_region_quiet_below (by kernel_rfl) (by kernel_rfl) ?_
        repeat (first | go_big_quiet_step (first | (go_at_call 70; exact Q1.out _ _) | (go_at_call 110; exact Q2.out _ _)) | quiet_step (first | (go_at_call 70; exact Q1.out _ _) | (go_at_call 110; exact Q2.out _ _)))
        refine wpQuiet_nil ?_
        intro _ hw'
        obtain ⟨⟨dq, osq⟩, hw''⟩ := hw'
        subst hw''
        go_wp2
      · go_ret
        exact ⟨ret_bool (by rw [hno.out HR.out]), HG.out _ _⟩
      · exact ⟨⟨k + 1, by omega, by go_num, HGB.out _ _, allTo_step hall HR.out⟩, by simp [intOf]; omega⟩
    · have hall2 : Hid (deedsOk C.deeds = true) := by show deedsOk C.deeds = true; rw [deedsOk, show C.deeds.length = k by omega, hall.out]
      clear hbl
      clear hw1 hsz c0 c1 c2
      obtain ⟨wl, hbl2, hwl⟩ : ∃ wl, Below (w.heap.size + 1) (w.alloc (.cells #[.slice a C.deeds.length cap, .slice a2 C.sights.length cap2, .int .i64 C.wrong] 25)) wl ∧ wl = wr := ⟨wr, hblk, rfl⟩
      rw [← hwl]
      clear hwl hblk
      obtain ⟨c0, c1, c2⟩ := box3 hbl2
      go_wp2
      go_loopw [43] (fun i wr => ∃ k : Nat, k ≤ C.sights.length ∧ i = .int .i64 k ∧ Below (w.heap.size + 1) (w.alloc _) wr ∧ Hid (allTo (fun j => sightAll C.deeds (snth C.sights j)) k = true)) (fun i _ => C.sights.length - (intOf i).toNat)
      case atStart => exact ⟨0, Nat.zero_le _, rfl, hbl2, rfl⟩
      case round =>
        clear c0 c1 c2 hbl2
        obtain ⟨k, hk, rfl, hbl, hall⟩ := hrel
        have hw1 := boxed hbl
        have hsz : w.heap.size + 1 ≤ wr.heap.size := by have := hbl.size; simpa using this
        obtain ⟨c0, c1, c2⟩ := box3 hbl
        by_cases hlt : k < C.sights.length
        · obtain ⟨rfl, hb⟩ := HA2.out (by omega)
          obtain ⟨d0, d1, d2, d3, d4⟩ := (HC2.out k hlt).below hw1 hb
          have hno : sightAll C.deeds (snth C.sights k) = false → validB C = false := fun h => by
            rw [validB, allTo_false (n := C.sights.length) hlt h]; simp
          have hno := Lib.hid hno
          have hu : sightAll C.deeds (snth C.sights k) = (wB (snth C.sights k).after 0 C.deeds.length && sightOk (snth C.sights k) (lenTo C.deeds (snth C.sights k).after.toNat)) := rfl
          have HU := Lib.hid hu
          obtain ⟨W, hW⟩ : ∃ W, W = wr.alloc (.cells #[.int .i64 (snth C.sights k).after, .int .i64 (snth C.sights k).at_, .int .i64 (snth C.sights k).from_, .int .i64 (snth C.sights k).bar, .int .i64 (snth C.sights k).smith] 60) := ⟨_, rfl⟩
          have hbW : Below wr.heap.size wr W := hW ▸ (Below.refl _ _).alloc (Nat.le_refl _) _
          have hszW : wr.heap.size ≤ W.heap.size := hbW.size
          have hf : Five W wr.heap.size 0 _ _ _ _ _ := hW ▸ five_new
          have HWQ := Lib.hid hW
          have e0 : W.cell? ⟨w.heap.size, 0, none⟩ = _ := (hbW.cell (p := ⟨w.heap.size, 0, none⟩) (by show w.heap.size < wr.heap.size; omega)).trans c0
          have k0 := cell_regrown e0
          obtain ⟨f0, f1, f2, f3, f4⟩ := hf
          have hg : ∀ d os, Below w.heap.size w (grow (redrawn W d) os) := fun d os => (hw1.trans (hbW.mono (by omega))).trans ((below_regrown W d os).mono (by omega))
          have HG := Lib.hid hg
          have hgb : ∀ d os, Below (w.heap.size + 1) (w.alloc (.cells #[.slice a C.deeds.length cap, .slice (some ⟨b2, off2, none⟩) C.sights.length cap2, .int .i64 C.wrong] 25)) (grow (redrawn W d) os) := fun d os => (hbl.trans (hbW.mono (by omega))).trans ((below_regrown W d os).mono (by omega))
          have HGB := Lib.hid hgb
          cases ha : wB (snth C.sights k).after 0 C.deeds.length
          case false =>
            have q0 : ∀ d os, Calls Try.prog 109 #[.int .i64 (snth C.sights k).after, .int .i64 0, .int .i64 C.deeds.length] (grow (redrawn W d) os) fun e w'' => e = .returned (.bool false) ∧ ∃ p : Regrown, w'' = grow (redrawn W p.d) p.os := fun d os =>
              (within_to ha _).mono (by rintro e w' ⟨rfl, rfl⟩; exact ⟨rfl, ⟨d, os⟩, rfl⟩)
            have Q0 := Lib.hid q0
            have f0 := cell_regrown f0
            have f1 := cell_regrown f1
            have f2 := cell_regrown f2
            have f3 := cell_regrown f3
            have f4 := cell_regrown f4
            clear q0 hg hgb e0 hW hbl
            go_wp2
            rw [← HWQ.out]
            refine wp_region_quiet_below (by kernel_rfl) (by kernel_rfl) ?_
            repeat (first | go_big_quiet_step (first | (go_at_call 109; exact Q0.out _ _)) | quiet_step (first | (go_at_call 109; exact Q0.out _ _)))
            refine wpQuiet_nil ?_
            intro _ hw'
            obtain ⟨⟨dq, osq⟩, hw''⟩ := hw'
            subst hw''
            go_wp2
            go_ret
            exact ⟨ret_bool (by rw [hno.out (by rw [HU.out, ha]; rfl)]), HG.out _ _⟩
          obtain ⟨haf0, haf1⟩ := wB_iff.1 ha
          obtain ⟨q, hq⟩ : ∃ q : Nat, (snth C.sights k).after = q := ⟨(snth C.sights k).after.toNat, by omega⟩
          have hqle : q ≤ C.deeds.length := by omega
          have hle := lenTo_le C.deeds q
          have hu2 : sightAll C.deeds (snth C.sights k) = sightOk (snth C.sights k) (lenTo C.deeds q) := by rw [hu, ha, hq]; simp
          have HU2 := Lib.hid hu2
          have HSI := HI2.out k hlt
          have q0 : ∀ d os, Calls Try.prog 109 #[.int .i64 (q : Int), .int .i64 0, .int .i64 C.deeds.length] (grow (redrawn W d) os) fun e w'' => e = .returned (.bool true) ∧ ∃ p : Regrown, w'' = grow (redrawn W p.d) p.os := fun d os =>
            (within_to (hq ▸ ha) _).mono (by rintro e w' ⟨rfl, rfl⟩; exact ⟨rfl, ⟨d, os⟩, rfl⟩)
          have q1 : ∀ d os, Calls Try.prog 70 #[.slice a q cap] (grow (redrawn W d) os) fun e w'' => e = .returned (.int .i64 (lenTo C.deeds q)) ∧ ∃ p : Regrown, w'' = grow (redrawn W p.d) p.os := fun d os =>
            Calls.regrown_of (lengthAfter_any _ C.deeds q _ (by omega) (((hD.take hqle).below (hg d os)).mono (hg d os).size))
          have q2 : ∀ d os, Calls Try.prog 111 #[sV (snth C.sights k), .int .i64 (lenTo C.deeds q)] (grow (redrawn W d) os) fun e w'' => e = .returned (.bool (sightOk (snth C.sights k) (lenTo C.deeds q))) ∧ ∃ p : Regrown, w'' = grow (redrawn W p.d) p.os := fun d os =>
            Calls.regrown_of (validSight_any _ _ _ HSI (by omega) (by omega))
          unfold sV at q2
          rw [hq] at q2 f0 HWQ
          have f0 := cell_regrown f0
          have f1 := cell_regrown f1
          have f2 := cell_regrown f2
          have f3 := cell_regrown f3
          have f4 := cell_regrown f4
          have Q0 := Lib.hid q0
          have Q1 := Lib.hid q1
          rw [hq] at d0
          cases hr : sightOk (snth C.sights k) (lenTo C.deeds q)
          all_goals
            rw [hr] at q2
            have Q2 := Lib.hid q2
            have HR := Lib.hid hr
            clear q0 q1 q2 hg hgb hr e0 hW hbl hu hu2 HSI ha haf0 haf1 hq
            go_wp2
            rw [← HWQ.out]
            refine wp_region_quiet_below (by kernel_rfl) (by kernel_rfl) ?_
            repeat (first | go_big_quiet_step (first | (go_at_call 109; exact Q0.out _ _) | (go_at_call 70; exact Q1.out _ _) | (go_at_call 111; exact Q2.out _ _)) | quiet_step (first | (go_at_call 109; exact Q0.out _ _) | (go_at_call 70; exact Q1.out _ _) | (go_at_call 111; exact Q2.out _ _)))
            refine wpQuiet_nil ?_
            intro _ hw'
            obtain ⟨⟨dq, osq⟩, hw''⟩ := hw'
            subst hw''
            go_wp2
          · go_ret
            exact ⟨ret_bool (by rw [hno.out (by rw [HU2.out, HR.out])]), HG.out _ _⟩
          · exact ⟨⟨k + 1, by omega, by go_num, HGB.out _ _, allTo_step hall (by rw [HU2.out, HR.out])⟩, by simp [intOf]; omega⟩
        · have hall3 := Lib.hid (show allTo (fun j => sightAll C.deeds (snth C.sights j)) C.sights.length = true from by rw [show C.sights.length = k by omega, hall.out])
          clear hall
          go_wp2
          go_ret
          exact ⟨ret_bool (by simp [validB, hn1, hn2, hw, hall2.out, hall3.out]), hw1⟩
theorem valid_to {v : Value} {C : Chain} {r : Bool} (h : validB C = r) (w : World) (hx : ChainAt w.heap.size w v C) :
    Calls Try.prog 66 #[v] w fun e w' => e = .returned (.bool r) ∧ Below w.heap.size w w' := h ▸ valid_any v C w hx

set_option maxHeartbeats 400000 in
theorem check_any (v : Value) (C : Chain) (w : World) (hx : ChainAt w.heap.size w v C) :
    Calls Try.prog 16 #[v] w fun e w' => e = .returned (.int .i64 (chkS C)) ∧ Below w.heap.size w w' := by
  have hx' := hx
  obtain ⟨a, cap, b, off, a2, cap2, b2, off2, rfl, _⟩ := hx.opened
  have HX := fun o => Lib.hid ((hx'.below ((Below.refl _ w).alloc (Nat.le_refl _) o)).mono (show w.heap.size ≤ (w.alloc o).heap.size by simp))
  clear hx hx'
  go_enter Try.func16, Try.ntmps16
  cases hr : validB C
  all_goals
    have HQ := Lib.hid hr
    clear hr
    go_wp2_with (go_at_call 66; refine (valid_to HQ.out _ (HX _).out).mono ?_; rintro e w' ⟨rfl, hb⟩)
    go_ret
    exact ⟨by first | (rw [chkS_bad HQ.out]; rfl) | (rw [chkS_ok HQ.out]; rfl), ((Below.refl _ _).alloc (Nat.le_refl _) _).trans (hb.mono (by simp))⟩
theorem check_to {v : Value} {C : Chain} {r : Int} (h : chkS C = r) (w : World) (hx : ChainAt w.heap.size w v C) :
    Calls Try.prog 16 #[v] w fun e w' => e = .returned (.int .i64 r) ∧ Below w.heap.size w w' := h ▸ check_any v C w hx

set_option maxHeartbeats 400000 in
theorem length_any (v : Value) (C : Chain) (w : World) (hx : ChainAt w.heap.size w v C) :
    Calls Try.prog 18 #[v] w fun e w' => e = .returned (.tuple #[.int .i64 (if validB C = true then lenTo C.deeds C.deeds.length else 0), .int .i64 (chkS C)]) ∧ Below w.heap.size w w' := by
  obtain ⟨dv, sv, hv0, hD, hS, _⟩ := hx
  have hx : ChainAt w.heap.size w v C := ⟨dv, sv, hv0, hD, hS, by assumption⟩
  obtain ⟨a, cap, b, off, a2, cap2, b2, off2, hv, _⟩ := hx.opened
  rw [hv] at hv0
  cases hv0
  subst hv
  have HX := fun o => Lib.hid ((hx.below ((Below.refl _ w).alloc (Nat.le_refl _) o)).mono (show w.heap.size ≤ (w.alloc o).heap.size by simp))
  have HD := Lib.hid hD
  clear hx hS hD
  go_enter Try.func18, Try.ntmps18
  cases hr : validB C
  all_goals
    have HQ := Lib.hid hr
    clear hr
  · go_wp2_with (go_at_call 16; refine (check_to (chkS_bad HQ.out) _ (HX _).out).mono ?_; rintro e w' ⟨rfl, hb⟩)
    go_ret2
    exact ⟨by rw [chkS_bad HQ.out]; rfl, ((Below.refl _ _).alloc (Nat.le_refl _) _).trans (hb.mono (by simp))⟩
  · have hd12 := (valid_iff.1 HQ.out).nd
    go_wp2_with fail
    refine (check_to (chkS_ok HQ.out) _ (HX _).out).mono ?_
    rintro e w1 ⟨rfl, hb⟩
    obtain ⟨c0, c1, c2⟩ := box3 (by simpa using hb)
    have hbw : Below w.heap.size w w1 := ((Below.refl _ _).alloc (Nat.le_refl _) _).trans (hb.mono (by simp))
    go_wp2_with fail
    refine (lengthAfter_any _ C.deeds C.deeds.length _ hd12 ((HD.out.below hbw).mono hbw.size)).mono ?_
    rintro e w2 ⟨rfl, hb2⟩
    go_wp2
    go_ret2
    exact ⟨by rw [chkS_ok HQ.out]; rfl, hbw.trans (hb2.mono hbw.size)⟩

end Go.Proofs.Ytgjikoebneiamaa
