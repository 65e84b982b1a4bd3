/-
  Levers, walks: how many products are less than a number.
-/
import Derived.Test.YtomcjopcfdllgaaVNot

namespace Go.Proofs.Ytomcjopcfdllgaa
open Go.RowKit

/-- What pairs keep of how many products are less than each number. -/
def lessI (A B : Int × Int) : List Int := (lessL (wayN A B) (roomN A B)).map (fun k : Nat => (k : Int))
theorem lessI_len (A B : Int × Int) : (lessI A B).length = roomN A B + 1 := by simp [lessI, lessL]
theorem lessI_at {A B : Int × Int} {i : Nat} (h : i ≤ roomN A B) : nth (lessI A B) i = (posTo (wayN A B) i : Nat) := by
  have e := less_at (wayN A B) h
  rw [nth, List.getD_eq_getElem?_getD, lessI, List.getElem?_map, e]
  rfl

set_option maxHeartbeats 2000000 in
theorem below_any (A B : Int × Int) (av mv lv : Value) (n : Int) (w : World) (hn : 0 ≤ n ∧ n ≤ 1000000000000000) (hL : 0 ≤ A.1 * B.1 ∧ A.1 * B.1 ≤ 1000000) (hr : roomN A B ≤ 1000000) (hx : IntsAt w.heap.size w lv (lessI A B)) :
    Calls Try.prog 88 #[.agg #[av, mv, .int .i64 (A.1 * B.1), lv], .int .i64 n] w fun e w' => e = .returned (.int .i64 (posTo (wayN A B) (clampN A B n) : Nat)) ∧ Below w.heap.size w w' := by
  obtain ⟨a, cap, b, off, rfl, hlen, HA, HC, _⟩ := hx.opened
  have hl := lessI_len A B
  have hcl := clamp_le A B n
  have hat := lessI_at hcl
  have hc := HC.out (clampN A B n) (by omega)
  rw [hat] at hc
  obtain ⟨rfl, hb⟩ := HA.out (by omega)
  obtain ⟨R, hR⟩ : ∃ R, roomN A B = R := ⟨_, rfl⟩
  obtain ⟨L, hLL⟩ : ∃ L, A.1 * B.1 = L := ⟨_, rfl⟩
  obtain ⟨v, hv⟩ : ∃ v : Nat, posTo (wayN A B) (clampN A B n) = v := ⟨_, rfl⟩
  obtain ⟨i, hi⟩ : ∃ i : Nat, clampN A B n = i := ⟨_, rfl⟩
  have hi2 : i = (min (max (n - L) 0) (R : Int)).toNat := by rw [← hi, clampN, hLL, hR]
  rw [hv] at hc ⊢
  rw [hi] at hc hcl
  rw [hR] at hl hr hcl
  rw [hLL] at hL ⊢
  obtain ⟨N, hN⟩ : ∃ N, (lessI A B).length = N := ⟨_, rfl⟩
  rw [hN] at hl hlen ⊢
  have hN1 : ((N : Nat) : Int) - 1 = (R : Nat) := by omega
  have hN2 : (R : Int) < (N : Int) := by omega
  have hN3 : (0 : Int) < (N : Int) := by omega
  have hR0 : (0 : Int) ≤ (R : Nat) := by omega
  clear hx hat hv hi hR hLL hN hl
  have HCC := Lib.hid hc
  have HI2 := Lib.hid hi2
  clear hc hi2 HA HC
  by_cases c1 : n - L < 0
  · have e0 : i = 0 := by have := HI2.out; omega
    subst e0
    have hc : w.cell? ⟨b, off, none⟩ = some (.int .i64 v) := by simpa using HCC.out
    go_enter Try.func88, Try.ntmps88
    go_wp2
    go_ret
    exact ⟨rfl, by go_grown⟩
  · by_cases c2 : n - L < (R : Int)
    · have e0 : n - L = (i : Nat) := by have := HI2.out; omega
      have hc := HCC.out
      have hi0 : (0 : Int) ≤ (i : Nat) := by omega
      have hi1 : ((i : Nat) : Int) < (N : Int) := by omega
      go_enter Try.func88, Try.ntmps88
      go_wp2
      go_ret
      exact ⟨rfl, by go_grown⟩
    · by_cases c3 : n - L = (R : Int)
      · have e0 : i = R := by have := HI2.out; omega
        subst e0
        have hc := HCC.out
        go_enter Try.func88, Try.ntmps88
        go_wp2
        go_ret
        exact ⟨rfl, by go_grown⟩
      · have e0 : i = R := by have := HI2.out; omega
        subst e0
        have hc := HCC.out
        have c4 : (i : Int) < n - L := by omega
        clear c2 c3
        go_enter Try.func88, Try.ntmps88
        go_wp2
        go_ret
        exact ⟨rfl, by go_grown⟩
end Go.Proofs.Ytomcjopcfdllgaa
