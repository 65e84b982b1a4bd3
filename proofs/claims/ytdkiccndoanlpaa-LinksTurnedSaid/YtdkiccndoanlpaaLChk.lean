/-
  Links, the law's reference: which chains are valid.
-/
import Derived.Test.YtdkiccndoanlpaaLW1
import Derived.BigQuiet

namespace Go.Proofs.Ytdkiccndoanlpaa
open Go.RowKit

set_option maxHeartbeats 400000 in
theorem rWithin_any (n lo hi : Int) (w : World) :
    Calls Try.prog 67 #[.int .i64 n, .int .i64 lo, .int .i64 hi] w fun e w' => e = .returned (.bool (wB n lo hi)) ∧ w = w' := by
  cases h : wB n lo hi
  · by_cases h0 : lo ≤ n
    · have h1 : ¬ n ≤ hi := by rcases wB_false.1 h with h1 | h1 <;> omega
      clear h
      go_enter Try.func67, Try.ntmps67
      go_wp2
      go_ret
      exact ⟨ret_bool (by first | (simp; done) | (simp; omega)), rfl⟩
    · clear h
      go_enter Try.func67, Try.ntmps67
      go_wp2
      go_ret
      exact ⟨ret_bool (by first | (simp; done) | (simp; omega)), rfl⟩
  · obtain ⟨h1, h2⟩ := wB_iff.1 h
    clear h
    go_enter Try.func67, Try.ntmps67
    go_wp2
    go_ret
    exact ⟨ret_bool (by first | (simp; done) | (simp; omega)), rfl⟩
theorem rWithin_to {n lo hi : Int} {b : Bool} (h : wB n lo hi = b) (w : World) :
    Calls Try.prog 67 #[.int .i64 n, .int .i64 lo, .int .i64 hi] w fun e w' => e = .returned (.bool b) ∧ w = w' := h ▸ rWithin_any n lo hi w

set_option maxHeartbeats 1000000 in
theorem rIsDeed_any (d : Deed) (n : Int) (w : World) (hd : DI64 d) (hn0 : -100 ≤ n) (hn1 : n ≤ 100) :
    Calls Try.prog 112 #[dV d, .int .i64 n] w fun e w' => e = .returned (.bool (deedOk d n)) ∧ Below w.heap.size w w' := by
  obtain ⟨i0, i1, i2, i3, i4⟩ := hd
  unfold I64 at i0 i1 i2 i3 i4
  go_enter Try.func112, Try.ntmps112
  by_cases h1 : d.what = 1
  · have hu : deedOk d n = (wB d.at_ 0 n && wB d.from_ 0 2 && wB d.bar 0 99 && wB d.smith 0 99) := by rw [deedOk, if_pos h1]
    have HU := Lib.hid hu
    clear hu
    cases hf : wB d.from_ 0 2
    case false =>
      go_wp2_with (go_at_call 67; refine (rWithin_to (by with_reducible assumption) _).mono ?_; rintro e w' ⟨rfl, rfl⟩)
      go_ret
      exact ⟨ret_bool (by rw [HU.out, hf]; simp), by go_grown⟩
    cases ha : wB d.at_ 0 n
    case false =>
      go_wp2_with (go_at_call 67; refine (rWithin_to (by with_reducible assumption) _).mono ?_; rintro e w' ⟨rfl, rfl⟩)
      go_ret
      exact ⟨ret_bool (by rw [HU.out, ha]; simp), by go_grown⟩
    cases hb : wB d.bar 0 99
    case false =>
      go_wp2_with (go_at_call 67; refine (rWithin_to (by with_reducible assumption) _).mono ?_; rintro e w' ⟨rfl, rfl⟩)
      go_ret
      exact ⟨ret_bool (by rw [HU.out, hb]; simp), by go_grown⟩
    cases hs : wB d.smith 0 99
    all_goals
      go_wp2_with (go_at_call 67; refine (rWithin_to (by with_reducible assumption) _).mono ?_; rintro e w' ⟨rfl, rfl⟩)
      go_ret
      exact ⟨ret_bool (by rw [HU.out, ha, hf, hb, hs]; simp), by go_grown⟩
  by_cases h2 : d.what = 2
  · have hu : deedOk d n = (wB d.at_ 0 (n - 1) && wB d.from_ 0 2 && decide (d.bar = 0) && decide (d.smith = 0)) := by rw [deedOk, if_neg h1, if_pos h2]
    have HU := Lib.hid hu
    clear hu
    cases hf : wB d.from_ 0 2
    case false =>
      go_wp2_with (go_at_call 67; refine (rWithin_to (by with_reducible assumption) _).mono ?_; rintro e w' ⟨rfl, rfl⟩)
      go_ret
      exact ⟨ret_bool (by rw [HU.out, hf]; simp), by go_grown⟩
    cases ha : wB d.at_ 0 (n - 1)
    case false =>
      go_wp2_with (go_at_call 67; refine (rWithin_to (by with_reducible assumption) _).mono ?_; rintro e w' ⟨rfl, rfl⟩)
      go_ret
      exact ⟨ret_bool (by rw [HU.out, ha]; simp), by go_grown⟩
    by_cases hb : d.bar = 0
    case neg =>
      go_wp2_with (go_at_call 67; refine (rWithin_to (by with_reducible assumption) _).mono ?_; rintro e w' ⟨rfl, rfl⟩)
      go_ret
      exact ⟨ret_bool (by rw [HU.out]; simp [hb]), by go_grown⟩
    by_cases hs : d.smith = 0
    all_goals
      go_wp2_with (go_at_call 67; refine (rWithin_to (by with_reducible assumption) _).mono ?_; rintro e w' ⟨rfl, rfl⟩)
      go_ret
      exact ⟨ret_bool (by rw [HU.out, ha, hf]; simp [hb, hs]), by go_grown⟩
  by_cases h3 : d.what = 3 ∨ d.what = 4
  · have hu : deedOk d n = (decide (d.at_ = 0) && decide (d.from_ = 0) && decide (d.bar = 0) && decide (d.smith = 0)) := by rw [deedOk, if_neg h1, if_neg h2, if_pos h3]
    have HU := Lib.hid hu
    clear hu
    rcases h3 with h3 | h3
    all_goals
      go_wp2
      all_goals
        go_ret
        exact ⟨ret_bool (by rw [HU.out]; first | (simp; done) | (simp; omega) | (simp [*]; done)), by go_grown⟩
  · have hu : deedOk d n = false := by rw [deedOk, if_neg h1, if_neg h2, if_neg h3]
    have HU := Lib.hid hu
    have h4 : ¬ d.what = 3 := fun h => h3 (.inl h)
    have h5 : ¬ d.what = 4 := fun h => h3 (.inr h)
    clear hu h3
    go_wp2
    go_ret
    exact ⟨ret_bool (by rw [HU.out]), by go_grown⟩

end Go.Proofs.Ytdkiccndoanlpaa
