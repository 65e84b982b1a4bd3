/-
  Levers, walks: products of short arms.
-/
import Derived.Test.YtomcjopcfdllgaaVForce

namespace Go.Proofs.Ytomcjopcfdllgaa
open Go.RowKit

def partP (a0 a1 a2 : Int) : Nat → Int
  | 0 => 1
  | 1 => a0
  | 2 => a0 * a1
  | _ => a0 * a1 * a2
set_option maxRecDepth 100000 in
set_option maxHeartbeats 1000000 in
theorem product_any (a0 a1 a2 k : Int) (w : World) (h0 : 1 ≤ a0 ∧ a0 ≤ 1000) (h1 : 1 ≤ a1 ∧ a1 ≤ 1000) (h2 : 1 ≤ a2 ∧ a2 ≤ 1000) :
    Calls Try.prog 62 #[.agg #[.int .i64 a0, .int .i64 a1, .int .i64 a2, .int .i64 k]] w fun e w' => e = .returned (.int .i64 (a0 * a1 * a2)) ∧ Below w.heap.size w w' := by
  have e1 : 0 ≤ a0 * a1 := Int.mul_nonneg (by omega) (by omega)
  have e2 : a0 * a1 ≤ 1000 * 1000 := mul_mono (by omega) (by omega) h0.2 h1.2
  have e3 : 0 ≤ a0 * a1 * a2 := Int.mul_nonneg e1 (by omega)
  have e4 : a0 * a1 * a2 ≤ 1000 * 1000 * 1000 := mul_mono e1 (by omega) e2 h2.2
  have W1 := Lib.hid (show wrap64 (a0 * a1) = a0 * a1 from wrap_in (by omega))
  have W2 := Lib.hid (show wrap64 (a0 * a1 * a2) = a0 * a1 * a2 from wrap_in (by omega))
  have i0 : ∀ w, (Instr.index 81 (.agg #[.int .i64 a0, .int .i64 a1, .int .i64 a2]) (.int .i64 0)).run Try.prog w = .ok (.int .i64 a0) w := fun _ => by kernel_rfl
  have i1 : ∀ w, (Instr.index 81 (.agg #[.int .i64 a0, .int .i64 a1, .int .i64 a2]) (.int .i64 1)).run Try.prog w = .ok (.int .i64 a1) w := fun _ => by kernel_rfl
  have i2 : ∀ w, (Instr.index 81 (.agg #[.int .i64 a0, .int .i64 a1, .int .i64 a2]) (.int .i64 2)).run Try.prog w = .ok (.int .i64 a2) w := fun _ => by kernel_rfl
  go_enter Try.func62, Try.ntmps62
  go_wp2
  go_loopw [3, 8] (fun op oi wr => ∃ k : Nat, k ≤ 3 ∧ oi = .int .i64 k ∧ op = .int .i64 (partP a0 a1 a2 k) ∧ Below w.heap.size w wr) (fun _ i _ => 3 - (intOf i).toNat)
  case atStart => exact ⟨0, by omega, rfl, rfl, by go_grown⟩
  case round =>
    obtain ⟨k, hk, rfl, rfl, hb⟩ := hrel
    have HB := Lib.hid hb
    clear hb
    have hk4 : k = 0 ∨ k = 1 ∨ k = 2 ∨ k = 3 := by omega
    rcases hk4 with rfl | rfl | rfl | rfl
    · simp only [partP]
      go_wp2
      exact ⟨⟨1, by omega, by go_num, rfl, HB.out⟩, by simp [intOf]⟩
    · simp only [partP]
      have w1 := W1.out
      go_wp2
      exact ⟨⟨2, by omega, by go_num, rfl, HB.out⟩, by simp [intOf]⟩
    · simp only [partP]
      have w2 := W2.out
      go_wp2
      exact ⟨⟨3, by omega, by go_num, rfl, HB.out⟩, by simp [intOf]⟩
    · simp only [partP]
      go_wp2
      go_ret
      exact ⟨rfl, HB.out⟩
end Go.Proofs.Ytomcjopcfdllgaa
