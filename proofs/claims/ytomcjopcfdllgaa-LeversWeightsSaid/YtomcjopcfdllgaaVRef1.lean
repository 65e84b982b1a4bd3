/-
  Levers, the reference: within, what can be asked, whether a machine is valid.
-/
import Derived.Test.YtomcjopcfdllgaaVWorks
import Derived.BigQuiet

namespace Go.Proofs.Ytomcjopcfdllgaa
open Go.RowKit Go.Shelf

set_option maxHeartbeats 400000 in
theorem rWithin_any (n lo hi : Int) (w : World) :
    Calls Try.prog 31 #[.int .i64 n, .int .i64 lo, .int .i64 hi] w fun e w' => e = .returned (.bool (wB n lo hi)) ∧ w = w' := by
  cases h : wB n lo hi
  · by_cases h0 : lo ≤ n
    · have h1 : ¬ n ≤ hi := by rcases wB_false.1 h with h1 | h1 <;> omega
      clear h
      go_enter Try.func31, Try.ntmps31
      go_wp2
      go_ret
      exact ⟨ret_bool (by first | (simp; done) | (simp; omega)), rfl⟩
    · clear h
      go_enter Try.func31, Try.ntmps31
      go_wp2
      go_ret
      exact ⟨ret_bool (by first | (simp; done) | (simp; omega)), rfl⟩
  · obtain ⟨h1, h2⟩ := wB_iff.1 h
    clear h
    go_enter Try.func31, Try.ntmps31
    go_wp2
    go_ret
    exact ⟨ret_bool (by first | (simp; done) | (simp; omega)), rfl⟩
theorem uwithin_any (n lo hi : Int) (w : World) :
    Calls Try.prog 53 #[.int .i64 n, .int .i64 lo, .int .i64 hi] w fun e w' => e = .returned (.bool (wB n lo hi)) ∧ w = w' := by
  go_enter Try.func53, Try.ntmps53
  go_wp2_with (go_at_call 31; refine (rWithin_any n lo hi _).mono ?_; rintro e w' ⟨rfl, rfl⟩)
  go_ret
  exact ⟨rfl, rfl⟩
theorem uwithin_to {n lo hi : Int} {b : Bool} (h : wB n lo hi = b) (w : World) :
    Calls Try.prog 53 #[.int .i64 n, .int .i64 lo, .int .i64 hi] w fun e w' => e = .returned (.bool b) ∧ w = w' := h ▸ uwithin_any n lo hi w
/-- What can be asked. -/
def ask3 (x y z : Int) : Bool := wB x 0 9999 && wB y 0 99 && wB z 0 999999999
set_option maxRecDepth 100000 in
set_option maxHeartbeats 1000000 in
theorem IsAsk_any (x y z : Int) (w : World) :
    Calls Try.prog 33 #[.int .i64 x, .int .i64 y, .int .i64 z] w fun e w' => e = .returned (.bool (ask3 x y z)) ∧ w = w' := by
  cases h1 : wB x 0 9999
  · go_enter Try.func33, Try.ntmps33
    go_wp2_with (go_at_call 53; refine (uwithin_any _ _ _ _).mono ?_; rintro e w' ⟨rfl, rfl⟩; first | rw [h1])
    go_ret
    exact ⟨ret_bool (by simp [ask3, h1]), rfl⟩
  cases h2 : wB y 0 99
  · go_enter Try.func33, Try.ntmps33
    go_wp2_with (go_at_call 53; refine (uwithin_any _ _ _ _).mono ?_; rintro e w' ⟨rfl, rfl⟩; first | rw [h1] | rw [h2])
    go_ret
    exact ⟨ret_bool (by simp [ask3, h1, h2]), rfl⟩
  cases h3 : wB z 0 999999999
  all_goals
    go_enter Try.func33, Try.ntmps33
    go_wp2_with (go_at_call 53; refine (uwithin_any _ _ _ _).mono ?_; rintro e w' ⟨rfl, rfl⟩; first | rw [h1] | rw [h2] | rw [h3])
    go_ret
    exact ⟨ret_bool (by simp [ask3, h1, h2, h3]), rfl⟩
end Go.Proofs.Ytomcjopcfdllgaa
