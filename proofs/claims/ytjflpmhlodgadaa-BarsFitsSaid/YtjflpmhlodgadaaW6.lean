/-
  Walks: the reference's Known and Subset.
-/
import Derived.Test.YtjflpmhlodgadaaW3
namespace Go.Proofs.Ytjflpmhlodgadaa
open Go.RowKit

def knownOf (some many : Int) : Int := if some = many then 1 else if some = 0 then 2 else 3
theorem rKnown_any (some many : Int) (w : World) : Calls Try.prog 76 #[.int .i64 some, .int .i64 many] w fun e w' => e = .returned (.int .i64 (knownOf some many)) ∧ w' = w := by
  by_cases h1 : some = many
  · subst h1
    have HE := Lib.hid (show knownOf some some = 1 from if_pos rfl)
    have e1 : (some == some) = true := by simp
    go_enter Try.func76, Try.ntmps76
    go_wp2
    go_ret
    exact ⟨ret_int HE.out.symm, rfl⟩
  have e1 : (some == many) = false := by simpa using h1
  by_cases h2 : some = 0
  · have HE := Lib.hid (show knownOf some many = 2 from by rw [knownOf, if_neg h1, if_pos h2])
    have e2 : (some == 0) = true := by simpa using h2
    clear h1 h2
    go_enter Try.func76, Try.ntmps76
    go_wp2
    go_ret
    exact ⟨ret_int HE.out.symm, rfl⟩
  · have HE := Lib.hid (show knownOf some many = 3 from by rw [knownOf, if_neg h1, if_neg h2])
    have e2 : (some == 0) = false := by simpa using h2
    clear h1 h2
    go_enter Try.func76, Try.ntmps76
    go_wp2
    go_ret
    exact ⟨ret_int HE.out.symm, rfl⟩

def subB (a b : List Int) : Bool := allTo (fun i => inB b (nth a i)) a.length && decide (a.length ≤ b.length)
set_option maxHeartbeats 1000000 in
theorem rSubset_any (v u : Value) (a b : List Int) (w : World) {B C : Nat} (hv : IntsAt B w v a) (hu : IntsAt C w u b) :
    Calls Try.prog 39 #[v, u] w fun e w' => e = .returned (.bool (subB a b)) ∧ Below w.heap.size w w' := by
  have hu' := hu
  obtain ⟨a1, cap1, b1, off1, rfl, hm1, HA1, HC1, _⟩ := hv.opened
  obtain ⟨a2, cap2, b2, off2, rfl, hm2, HA2, HC2, _⟩ := hu.opened
  have HU := Lib.hid hu'
  clear hv hu hu' HA2 HC2
  go_enter Try.func39, Try.ntmps39
  go_wp2
  go_loopw [5] (fun i wr => ∃ k : Nat, k ≤ a.length ∧ i = .int .i64 k ∧ Hid (allTo (fun i => inB b (nth a i)) k = true) ∧ wr = w) (fun i _ => a.length - (intOf i).toNat)
  case atStart => exact ⟨0, Nat.zero_le _, rfl, rfl, rfl⟩
  case round =>
    obtain ⟨k, hk, rfl, hall, rfl⟩ := hrel
    by_cases hlt : k < a.length
    · obtain ⟨rfl, hb1⟩ := HA1.out (by omega)
      have d1 := HC1.out k hlt
      cases hin : inB b (nth a k)
      all_goals
        have HIN := Lib.hid hin
        clear hin
        go_wp2_with (go_at_call 32; refine (rin_to HIN.out HU.out).mono ?_; rintro e w' ⟨rfl, rfl⟩)
      · go_ret
        exact ⟨ret_bool (by rw [subB, allTo_false hlt HIN.out]; rfl), Below.refl _ _⟩
      · exact ⟨⟨k + 1, by omega, by go_num, allTo_step hall HIN.out, trivial⟩, by simp [intOf]; omega⟩
    · obtain rfl : a.length = k := by omega
      have HE := Lib.hid (show decide (a.length ≤ b.length) = subB a b from by rw [subB, hall.out, Bool.true_and])
      clear hall
      go_wp2
      go_ret
      exact ⟨ret_bool HE.out, Below.refl _ _⟩
end Go.Proofs.Ytjflpmhlodgadaa
