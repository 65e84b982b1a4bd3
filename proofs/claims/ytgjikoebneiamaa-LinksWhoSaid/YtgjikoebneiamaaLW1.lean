/-
  Links, walks: small functions of the package: within, places from the head, lengths, valid deeds and sights.
-/
import Derived.Test.YtgjikoebneiamaaLMem

namespace Go.Proofs.Ytgjikoebneiamaa
open Go.RowKit

set_option maxHeartbeats 400000 in
theorem within_any (n lo hi : Int) (w : World) :
    Calls Try.prog 109 #[.int .i64 n, .int .i64 lo, .int .i64 hi] w fun e w' => e = .returned (.bool (wB n lo hi)) ∧ w = w' := by
  cases h : wB n lo hi
  · by_cases h0 : lo ≤ n
    · have h1 : ¬ n ≤ hi := by rcases wB_false.1 h with h1 | h1 <;> omega
      clear h
      go_enter Try.func109, Try.ntmps109
      go_wp2
      go_ret
      exact ⟨ret_bool (by first | (simp; done) | (simp; omega)), rfl⟩
    · clear h
      go_enter Try.func109, Try.ntmps109
      go_wp2
      go_ret
      exact ⟨ret_bool (by first | (simp; done) | (simp; omega)), rfl⟩
  · obtain ⟨h1, h2⟩ := wB_iff.1 h
    clear h
    go_enter Try.func109, Try.ntmps109
    go_wp2
    go_ret
    exact ⟨ret_bool (by first | (simp; done) | (simp; omega)), rfl⟩
theorem within_to {n lo hi : Int} {b : Bool} (h : wB n lo hi = b) (w : World) :
    Calls Try.prog 109 #[.int .i64 n, .int .i64 lo, .int .i64 hi] w fun e w' => e = .returned (.bool b) ∧ w = w' := h ▸ within_any n lo hi w

set_option maxHeartbeats 400000 in
theorem fromHead_any (a f n : Int) (w : World) (h : I64 (fromHead a f n)) (hn : -100 ≤ n) (hn2 : n ≤ 100) :
    Calls Try.prog 117 #[.int .i64 a, .int .i64 f, .int .i64 n] w fun e w' => e = .returned (.int .i64 (fromHead a f n)) ∧ w = w' := by
  unfold fromHead I64 at h
  go_enter Try.func117, Try.ntmps117
  by_cases hf : f = 1
  · rw [if_pos hf] at h
    go_wp2
    go_ret
    exact ⟨ret_int (by simp only [fromHead, if_pos hf]), rfl⟩
  · go_wp2
    go_ret
    exact ⟨ret_int (by simp only [fromHead, if_neg hf]), rfl⟩

set_option maxHeartbeats 400000 in
theorem lengthAfter_any (v : Value) (ds : List Deed) (k : Nat) (w : World) (hk12 : k ≤ 12) (hx : DeedsTo w.heap.size w v ds k) :
    Calls Try.prog 70 #[v] w fun e w' => e = .returned (.int .i64 (lenTo ds k)) ∧ Below w.heap.size w w' := by
  obtain ⟨a, cap, b, off, rfl, hm, HA, HC, HI⟩ := hx.opened
  clear hx
  go_enter Try.func70, Try.ntmps70
  go_wp2
  go_loopw [3, 8] (fun n i wr => ∃ j : Nat, j ≤ k ∧ i = .int .i64 j ∧ n = .int .i64 (lenTo ds j) ∧ Below w.heap.size w wr) (fun _ i _ => k - (intOf i).toNat)
  case atStart => exact ⟨0, Nat.zero_le _, rfl, rfl, Below.refl _ _⟩
  case round =>
    obtain ⟨j, hj, rfl, rfl, hb⟩ := hrel
    have hsz := hb.size
    have hle := lenTo_le ds j
    by_cases hlt : j < k
    · obtain ⟨rfl, hbB⟩ := HA.out (by omega)
      obtain ⟨d0, d1, d2, d3, d4⟩ := (HC.out j hlt).below hb hbB
      by_cases h1 : (dnth ds j).what = 1
      · go_wp2
        exact ⟨⟨j + 1, by omega, by go_num, by simp only [lenTo, if_pos h1], by go_grown⟩, by simp [intOf]; omega⟩
      by_cases h2 : (dnth ds j).what = 2
      · go_wp2
        exact ⟨⟨j + 1, by omega, by go_num, by simp only [lenTo, if_neg h1, if_pos h2]; go_num, by go_grown⟩, by simp [intOf]; omega⟩
      · go_wp2
        exact ⟨⟨j + 1, by omega, by go_num, by simp only [lenTo, if_neg h1, if_neg h2] <;> go_num, by go_grown⟩, by simp [intOf]; omega⟩
    · obtain rfl : k = j := by omega
      go_wp2
      go_ret
      exact ⟨rfl, hb⟩

set_option maxHeartbeats 1000000 in
theorem validDeed_any (d : Deed) (n : Int) (w : World) (hd : DI64 d) (hn0 : -100 ≤ n) (hn1 : n ≤ 100) :
    Calls Try.prog 110 #[dV d, .int .i64 n] w fun e w' => e = .returned (.bool (deedOk d n)) ∧ Below w.heap.size w w' := by
  obtain ⟨i0, i1, i2, i3, i4⟩ := hd
  unfold I64 at i0 i1 i2 i3 i4
  go_enter Try.func110, Try.ntmps110
  by_cases h1 : d.what = 1
  · have hu : deedOk d n = (wB d.at_ 0 n && wB d.from_ 0 2 && wB d.bar 0 99 && wB d.smith 0 99) := by rw [deedOk, if_pos h1]
    have HU := Lib.hid hu
    clear hu
    cases ha : wB d.at_ 0 n
    case false =>
      go_wp2_with (go_at_call 109; refine (within_to (by with_reducible assumption) _).mono ?_; rintro e w' ⟨rfl, rfl⟩)
      go_ret
      exact ⟨ret_bool (by rw [HU.out, ha]; simp), by go_grown⟩
    cases hf : wB d.from_ 0 2
    case false =>
      go_wp2_with (go_at_call 109; refine (within_to (by with_reducible assumption) _).mono ?_; rintro e w' ⟨rfl, rfl⟩)
      go_ret
      exact ⟨ret_bool (by rw [HU.out, hf]; simp), by go_grown⟩
    cases hb : wB d.bar 0 99
    case false =>
      go_wp2_with (go_at_call 109; refine (within_to (by with_reducible assumption) _).mono ?_; rintro e w' ⟨rfl, rfl⟩)
      go_ret
      exact ⟨ret_bool (by rw [HU.out, hb]; simp), by go_grown⟩
    cases hs : wB d.smith 0 99
    all_goals
      go_wp2_with (go_at_call 109; refine (within_to (by with_reducible assumption) _).mono ?_; rintro e w' ⟨rfl, rfl⟩)
      go_ret
      exact ⟨ret_bool (by rw [HU.out, ha, hf, hb, hs]; simp), by go_grown⟩
  by_cases h2 : d.what = 2
  · have hu : deedOk d n = (wB d.at_ 0 (n - 1) && wB d.from_ 0 2 && decide (d.bar = 0) && decide (d.smith = 0)) := by rw [deedOk, if_neg h1, if_pos h2]
    have HU := Lib.hid hu
    clear hu
    cases ha : wB d.at_ 0 (n - 1)
    case false =>
      go_wp2_with (go_at_call 109; refine (within_to (by with_reducible assumption) _).mono ?_; rintro e w' ⟨rfl, rfl⟩)
      go_ret
      exact ⟨ret_bool (by rw [HU.out, ha]; simp), by go_grown⟩
    cases hf : wB d.from_ 0 2
    case false =>
      go_wp2_with (go_at_call 109; refine (within_to (by with_reducible assumption) _).mono ?_; rintro e w' ⟨rfl, rfl⟩)
      go_ret
      exact ⟨ret_bool (by rw [HU.out, hf]; simp), by go_grown⟩
    by_cases hb : d.bar = 0
    case neg =>
      go_wp2_with (go_at_call 109; refine (within_to (by with_reducible assumption) _).mono ?_; rintro e w' ⟨rfl, rfl⟩)
      go_ret
      exact ⟨ret_bool (by rw [HU.out]; simp [hb]), by go_grown⟩
    by_cases hs : d.smith = 0
    all_goals
      go_wp2_with (go_at_call 109; refine (within_to (by with_reducible assumption) _).mono ?_; rintro e w' ⟨rfl, rfl⟩)
      go_ret
      exact ⟨ret_bool (by rw [HU.out, ha, hf]; simp [hb, hs]), by go_grown⟩
  by_cases h3 : d.what = 3 ∨ d.what = 4
  · have hu : deedOk d n = (decide (d.at_ = 0) && decide (d.from_ = 0) && decide (d.bar = 0) && decide (d.smith = 0)) := by rw [deedOk, if_neg h1, if_neg h2, if_pos h3]
    have HU := Lib.hid hu
    clear hu
    by_cases ha : d.at_ = 0
    case neg =>
      rcases h3 with h3 | h3
      all_goals
        go_wp2
        go_ret
        exact ⟨ret_bool (by rw [HU.out]; simp [ha]), by go_grown⟩
    by_cases hf : d.from_ = 0
    case neg =>
      rcases h3 with h3 | h3
      all_goals
        go_wp2
        go_ret
        exact ⟨ret_bool (by rw [HU.out]; simp [hf]), by go_grown⟩
    by_cases hb : d.bar = 0
    case neg =>
      rcases h3 with h3 | h3
      all_goals
        go_wp2
        go_ret
        exact ⟨ret_bool (by rw [HU.out]; simp [hb]), by go_grown⟩
    by_cases hs : d.smith = 0
    all_goals
      rcases h3 with h3 | h3
      all_goals
        go_wp2
        go_ret
        exact ⟨ret_bool (by rw [HU.out]; simp [ha, hf, hb, hs]), by go_grown⟩
  · have hu : deedOk d n = false := by rw [deedOk, if_neg h1, if_neg h2, if_neg h3]
    have h3a : ¬ d.what = 3 := fun h => h3 (.inl h)
    have h3b : ¬ d.what = 4 := fun h => h3 (.inr h)
    clear h3
    go_wp2
    go_ret
    exact ⟨ret_bool (by rw [hu]), by go_grown⟩

set_option maxHeartbeats 1000000 in
theorem validSight_any (s : Sight) (n : Int) (w : World) (hs : SI64 s) (hn0 : -100 ≤ n) (hn1 : n ≤ 100) :
    Calls Try.prog 111 #[sV s, .int .i64 n] w fun e w' => e = .returned (.bool (sightOk s n)) ∧ Below w.heap.size w w' := by
  obtain ⟨i0, i1, i2, i3, i4⟩ := hs
  unfold I64 at i0 i1 i2 i3 i4
  have hu : sightOk s n = (wB s.at_ 0 (n - 1) && wB s.from_ 0 1 && wB s.bar (-1) 99 && wB s.smith (-1) 99) := rfl
  have HU := Lib.hid hu
  clear hu
  go_enter Try.func111, Try.ntmps111
  cases ha : wB s.at_ 0 (n - 1)
  case false =>
    go_wp2_with (go_at_call 109; refine (within_to (by with_reducible assumption) _).mono ?_; rintro e w' ⟨rfl, rfl⟩)
    go_ret
    exact ⟨ret_bool (by rw [HU.out, ha]; simp), by go_grown⟩
  cases hf : wB s.from_ 0 1
  case false =>
    go_wp2_with (go_at_call 109; refine (within_to (by with_reducible assumption) _).mono ?_; rintro e w' ⟨rfl, rfl⟩)
    go_ret
    exact ⟨ret_bool (by rw [HU.out, hf]; simp), by go_grown⟩
  cases hb : wB s.bar (-1) 99
  case false =>
    go_wp2_with (go_at_call 109; refine (within_to (by with_reducible assumption) _).mono ?_; rintro e w' ⟨rfl, rfl⟩)
    go_ret
    exact ⟨ret_bool (by rw [HU.out, hb]; simp), by go_grown⟩
  cases hs : wB s.smith (-1) 99
  all_goals
    go_wp2_with (go_at_call 109; refine (within_to (by with_reducible assumption) _).mono ?_; rintro e w' ⟨rfl, rfl⟩)
    go_ret
    exact ⟨ret_bool (by rw [HU.out, ha, hf, hb, hs]; simp), by go_grown⟩

end Go.Proofs.Ytgjikoebneiamaa
