/-
  Walks: whether two lists of ints are the same.
-/
import Derived.Test.YtjflpmhlodgadaaW2
namespace Go.Proofs.Ytjflpmhlodgadaa
open Go.RowKit

theorem list_ext_nth {a b : List Int} (hl : a.length = b.length) (h : ∀ i, i < a.length → nth a i = nth b i) : a = b := by
  apply List.ext_getElem hl
  intro i h1 h2
  have := h i h1
  rwa [nth_lt h1, nth_lt h2] at this

set_option maxHeartbeats 1000000 in
theorem SameInts_any (v u : Value) (a b : List Int) (w : World) {B C : Nat} (hv : IntsAt B w v a) (hu : IntsAt C w u b) :
    Calls Try.prog 38 #[v, u] w fun e w' => e = .returned (.bool (decide (a = b))) ∧ ∃ n, w' = w.drewN n := by
  obtain ⟨a1, cap1, b1, off1, rfl, hm1, HA1, HC1, _⟩ := hv.opened
  obtain ⟨a2, cap2, b2, off2, rfl, hm2, HA2, HC2, _⟩ := hu.opened
  clear hv hu
  by_cases hl : a.length = b.length
  case neg =>
    have hn : ((a.length : Int) != (b.length : Int)) = true := by simp; omega
    have HE := Lib.hid (show decide (a = b) = false from by simp; rintro rfl; exact hl rfl)
    clear hl
    go_enter Try.func38, Try.ntmps38
    go_wp2
    go_ret
    exact ⟨ret_bool HE.out.symm, 0, rfl⟩
  have hn : ((a.length : Int) != (b.length : Int)) = false := by simp; omega
  have HL := Lib.hid hl
  clear hl
  go_enter Try.func38, Try.ntmps38
  go_wp2
  go_loopw [5] (fun i wr => ∃ k : Nat, k ≤ a.length ∧ i = .int .i64 k ∧ Hid (∀ j, j < k → nth a j = nth b j) ∧ (∃ n, wr = w.drewN n)) (fun i _ => a.length - (intOf i).toNat)
  case atStart => exact ⟨0, Nat.zero_le _, rfl, fun j hj => by omega, 0, rfl⟩
  case round =>
    obtain ⟨k, hk, rfl, hall, n0, hwr⟩ := hrel
    have HC1 := Lib.hid (show ∀ i, i < a.length → wr.cell? ⟨b1, off1 + i, none⟩ = some (.int .i64 (nth a i)) from fun i hi => hwr ▸ HC1.out i hi)
    have HC2 := Lib.hid (show ∀ i, i < b.length → wr.cell? ⟨b2, off2 + i, none⟩ = some (.int .i64 (nth b i)) from fun i hi => hwr ▸ HC2.out i hi)
    have HWR := Lib.hid (show ∀ m, ∃ n, wr.drewN m = w.drewN n from fun m => ⟨n0 + m, by rw [hwr, World.drewN_drewN]⟩)
    have HWR0 := Lib.hid (show ∃ n, wr = w.drewN n from ⟨n0, hwr⟩)
    clear hwr
    by_cases hlt : k < a.length
    · have hlt2 : k < b.length := by have := HL.out; omega
      obtain ⟨rfl, hb1⟩ := HA1.out (by omega)
      obtain ⟨rfl, hb2⟩ := HA2.out (by omega)
      have d1 := HC1.out k hlt
      have d2 := HC2.out k hlt2
      by_cases he : nth a k = nth b k
      · have hq : (nth a k != nth b k) = false := by simp [he]
        have HE := Lib.hid he
        clear he
        go_wp2
        go_quiet (fail)
        go_wp2
        exact ⟨⟨k + 1, by omega, by go_num, fun j hj => by by_cases e : j = k; exact e ▸ HE.out; exact hall.out j (by omega), HWR.out _⟩, by simp [intOf]; omega⟩
      · have hq : (nth a k != nth b k) = true := by simp [he]
        have HE := Lib.hid (show decide (a = b) = false from by simp; rintro rfl; exact he rfl)
        clear he
        go_wp2
        go_quiet (fail)
        go_wp2
        go_ret
        exact ⟨ret_bool HE.out.symm, HWR.out _⟩
    · obtain rfl : a.length = k := by omega
      have HE := Lib.hid (show decide (a = b) = true from by simp; exact list_ext_nth HL.out hall.out)
      go_wp2
      go_ret
      exact ⟨ret_bool HE.out.symm, HWR0.out⟩
theorem SameInts_to {v u : Value} {a b : List Int} {w : World} {B C : Nat} {r : Bool} (h : decide (a = b) = r) (hv : IntsAt B w v a) (hu : IntsAt C w u b) :
    Calls Try.prog 38 #[v, u] w fun e w' => e = .returned (.bool r) ∧ Below w.heap.size w w' :=
  (h ▸ SameInts_any v u a b w hv hu : Calls Try.prog 38 #[v, u] w fun e w' => e = .returned (.bool r) ∧ ∃ n, w' = w.drewN n).mono fun _ _ ⟨h1, n, h2⟩ => ⟨h1, h2 ▸ drewN_below (Below.refl _ _) n⟩
end Go.Proofs.Ytjflpmhlodgadaa
