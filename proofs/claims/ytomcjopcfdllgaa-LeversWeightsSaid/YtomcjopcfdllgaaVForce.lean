/-
  Levers, walks: the pull.
-/
import Derived.Test.YtomcjopcfdllgaaVSmall

namespace Go.Proofs.Ytomcjopcfdllgaa
open Go.RowKit

theorem wrap_in {n : Int} (h : -9223372036854775808 ≤ n ∧ n ≤ 9223372036854775807) : wrap64 n = n := by unfold wrap64; omega
set_option maxHeartbeats 1000000 in
theorem force_any (M : Mach) (hV : ValidM M) (b : Nat) (weight minutes leak : Int) (w : World) (hw : 0 ≤ weight ∧ weight ≤ 9999) (hm : 0 ≤ minutes ∧ minutes ≤ 99) (hl : 0 ≤ leak ∧ leak ≤ 20)
    (c1 : w.cell? ⟨b, 1, none⟩ = some (.int .i64 M.water)) (c12 : w.cell? ⟨b, 12, none⟩ = some (.int .i64 (longP M.levers))) :
    Calls Try.prog 61 #[.pointer (some ⟨b, 0, none⟩), .int .i64 weight, .int .i64 minutes, .int .i64 leak] w fun e w' => e = .returned (.int .i64 (force M weight minutes leak)) ∧ w = w' := by
  obtain ⟨l1, l2⟩ := long_ok hV
  obtain ⟨f1, f2⟩ := force_ok hV hw hm.1 hl.1
  have hwt := hV.water
  obtain ⟨ml, hml⟩ : ∃ x, minutes * leak = x := ⟨_, rfl⟩
  have m1 : 0 ≤ ml := hml ▸ Int.mul_nonneg hm.1 hl.1
  have m2 : ml ≤ 99 * 20 := hml ▸ mul_mono hm.1 hl.1 hm.2 hl.2
  obtain ⟨L, hL⟩ : ∃ L, longP M.levers = L := ⟨_, rfl⟩
  obtain ⟨wa, hwa⟩ : ∃ wa, M.water = wa := ⟨_, rfl⟩
  unfold force at f1 f2 ⊢
  rw [hL, hml, hwa] at f1 f2 ⊢
  rw [hL] at c12
  rw [hwa] at c1 hwt
  have w1 : wrap64 (minutes * leak) = ml := by rw [hml]; exact wrap_in (by omega)
  obtain ⟨FV, hFV⟩ : ∃ FV, (weight + max (wa - ml) 0) * L = FV := ⟨_, rfl⟩
  have w2 : wrap64 ((weight + max (wa - ml) 0) * L) = FV := by rw [hFV] at f1 f2 ⊢; exact wrap_in (by omega)
  rw [hFV]
  clear hFV hL hwa f1 f2 hml l1 l2
  have hmx : 0 ≤ max (wa - ml) 0 ∧ max (wa - ml) 0 ≤ 9999 := by omega
  go_enter Try.func61, Try.ntmps61
  go_wp2
  · rw [show max (wa - ml) 0 = 0 by omega, Int.add_zero] at w2
    go_ret
    exact ⟨ret_int w2, rfl⟩
  · rw [show max (wa - ml) 0 = wa - ml by omega] at w2
    go_ret
    exact ⟨ret_int w2, rfl⟩
end Go.Proofs.Ytomcjopcfdllgaa
