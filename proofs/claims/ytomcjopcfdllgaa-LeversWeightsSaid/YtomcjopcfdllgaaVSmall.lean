/-
  Levers, walks: small functions: within, valid spans and balances, division that rounds up, products of short arms, the pull.
-/
import Derived.Test.YtomcjopcfdllgaaVMem
import Derived.Lib.QuietBelow
import Derived.Shelf.RegionOpen

namespace Go.Proofs.Ytomcjopcfdllgaa
open Go.RowKit

set_option maxHeartbeats 400000 in
theorem vwithin_any (n lo hi : Int) (w : World) :
    Calls Try.prog 76 #[.int .i64 n, .int .i64 lo, .int .i64 hi] w fun e w' => e = .returned (.bool (wB n lo hi)) ∧ w = w' := by
  cases h : wB n lo hi
  · by_cases h0 : lo ≤ n
    · have h1 : ¬ n ≤ hi := by rcases wB_false.1 h with h1 | h1 <;> omega
      clear h
      go_enter Try.func76, Try.ntmps76
      go_wp2
      go_ret
      exact ⟨ret_bool (by first | (simp; done) | (simp; omega)), rfl⟩
    · clear h
      go_enter Try.func76, Try.ntmps76
      go_wp2
      go_ret
      exact ⟨ret_bool (by first | (simp; done) | (simp; omega)), rfl⟩
  · obtain ⟨h1, h2⟩ := wB_iff.1 h
    clear h
    go_enter Try.func76, Try.ntmps76
    go_wp2
    go_ret
    exact ⟨ret_bool (by first | (simp; done) | (simp; omega)), rfl⟩
theorem vwithin_to {n lo hi : Int} {b : Bool} (h : wB n lo hi = b) (w : World) :
    Calls Try.prog 76 #[.int .i64 n, .int .i64 lo, .int .i64 hi] w fun e w' => e = .returned (.bool b) ∧ w = w' := h ▸ vwithin_any n lo hi w

set_option maxHeartbeats 1000000 in
theorem validSpan_any (a b lo hi : Int) (w : World) :
    Calls Try.prog 83 #[.agg #[.int .i64 a, .int .i64 b], .int .i64 lo, .int .i64 hi] w fun e w' => e = .returned (.bool (decide (lo ≤ a) && decide (a ≤ b) && decide (b ≤ hi))) ∧ Below w.heap.size w w' := by
  by_cases h1 : lo ≤ a
  · by_cases h2 : a ≤ b
    · by_cases h3 : b ≤ hi
      · go_enter Try.func83, Try.ntmps83
        go_wp2
        go_ret
        exact ⟨ret_bool (by simp [h1, h2, h3]), by go_grown⟩
      · go_enter Try.func83, Try.ntmps83
        go_wp2
        go_ret
        exact ⟨ret_bool (by simp [h3]), by go_grown⟩
    · go_enter Try.func83, Try.ntmps83
      go_wp2
      go_ret
      exact ⟨ret_bool (by rw [show decide (a ≤ b) = false from decide_eq_false (by omega)]; simp), by go_grown⟩
  · go_enter Try.func83, Try.ntmps83
    go_wp2
    go_ret
    exact ⟨ret_bool (by rw [show decide (lo ≤ a) = false from decide_eq_false (by omega)]; simp), by go_grown⟩

def askB (weight minutes load off : Int) : Bool := wB weight 0 9999 && wB minutes 0 99 && wB load 0 999999999 && wB off 0 999999999
set_option maxHeartbeats 1000000 in
theorem validBalance_any (x0 x1 x2 x3 : Int) (w : World) :
    Calls Try.prog 80 #[.agg #[.int .i64 x0, .int .i64 x1, .int .i64 x2, .int .i64 x3]] w fun e w' => e = .returned (.bool (askB x0 x1 x2 x3)) ∧ Below w.heap.size w w' := by
  obtain ⟨b0, h0⟩ : ∃ b, wB x0 0 9999 = b := ⟨_, rfl⟩
  obtain ⟨b1, h1⟩ : ∃ b, wB x1 0 99 = b := ⟨_, rfl⟩
  obtain ⟨b2, h2⟩ : ∃ b, wB x2 0 999999999 = b := ⟨_, rfl⟩
  obtain ⟨b3, h3⟩ : ∃ b, wB x3 0 999999999 = b := ⟨_, rfl⟩
  have e : askB x0 x1 x2 x3 = (b0 && b1 && b2 && b3) := by simp only [askB, h0, h1, h2, h3]
  rw [e]
  have H0 := Lib.hid h0
  have H1 := Lib.hid h1
  have H2 := Lib.hid h2
  have H3 := Lib.hid h3
  clear e h0 h1 h2 h3
  cases b0
  case' true => cases b1
  case' true.true => cases b2
  case' true.true.true => cases b3
  all_goals
    go_enter Try.func80, Try.ntmps80
    go_wp2_with (go_at_call 76; refine (vwithin_any _ _ _ _).mono ?_; rintro e w' ⟨rfl, rfl⟩; first | rw [H0.out] | rw [H1.out] | rw [H2.out] | rw [H3.out])
    go_ret
    exact ⟨ret_bool (by simp), by go_grown⟩

set_option maxHeartbeats 1000000 in
theorem roundedUp_any (n b : Int) (w : World) (hn : 0 ≤ n ∧ n ≤ 1000000000000000) (hb : 1 ≤ b ∧ b ≤ 1000000000000000) :
    Calls Try.prog 63 #[.int .i64 n, .int .i64 b] w fun e w' => e = .returned (.int .i64 (upD n b)) ∧ w = w' := by
  have hb0 : ¬ b = 0 := by omega
  have h1 : (n + b - 1).tdiv b = upD n b := by unfold upD; exact Int.tdiv_eq_ediv_of_nonneg (by omega)
  have h2 : 0 ≤ upD n b := Int.ediv_nonneg (by omega) (by omega)
  have h3 : upD n b ≤ n + b - 1 := Int.ediv_le_self _ (by omega)
  have HU := Lib.hid h1
  clear h1
  go_enter Try.func63, Try.ntmps63
  go_wp2
  go_ret
  exact ⟨ret_int rfl, rfl⟩
end Go.Proofs.Ytomcjopcfdllgaa
