/-
  Levers: the least weight, and the last minute, at which all truths pull.
-/
import Derived.Test.YtomcjopcfdllgaaVMany
import Derived.Test.YtomcjopcfdllgaaVPulls

namespace Go.Proofs.Ytomcjopcfdllgaa
open Go.RowKit

theorem force_up {M : Mach} (hV : ValidM M) {u v minutes leak : Int} (h : u ≤ v) : force M u minutes leak ≤ force M v minutes leak := by
  have hl := (long_take hV M.levers.length).1
  rw [List.take_length] at hl
  unfold force
  exact Int.mul_le_mul_of_nonneg_right (by omega) hl
theorem force_down {M : Mach} (hV : ValidM M) {u v weight leak : Int} (h : u ≤ v) (hk : 0 ≤ leak) : force M weight v leak ≤ force M weight u leak := by
  have hl := (long_take hV M.levers.length).1
  rw [List.take_length] at hl
  have h1 : u * leak ≤ v * leak := Int.mul_le_mul_of_nonneg_right h hk
  unfold force
  exact Int.mul_le_mul_of_nonneg_right (by omega) hl
theorem pulls_up {M : Mach} (hV : ValidM M) {u v minutes load leak P : Int} (h : u ≤ v) (hp : pullsB M u minutes load leak P = true) : pullsB M v minutes load leak P = true := by
  simp only [pullsB, decide_eq_true_eq] at hp ⊢
  have := force_up hV (minutes := minutes) (leak := leak) h
  omega
theorem pulls_down {M : Mach} (hV : ValidM M) {u v weight load leak P : Int} (h : u ≤ v) (hk : 0 ≤ leak) (hp : pullsB M weight v load leak P = true) : pullsB M weight u load leak P = true := by
  simp only [pullsB, decide_eq_true_eq] at hp ⊢
  have := force_down hV (weight := weight) h hk
  omega
theorem askB_iff {a b c d : Int} : askB a b c d = true ↔ (0 ≤ a ∧ a ≤ 9999) ∧ (0 ≤ b ∧ b ≤ 99) ∧ (0 ≤ c ∧ c ≤ 999999999) ∧ 0 ≤ d ∧ d ≤ 999999999 := by
  simp only [askB, Bool.and_eq_true, wB_iff, and_assoc]
/-- All truths pull. -/
def allPull (M : Mach) (weight minutes load : Int) : Bool := (truthsM M).all fun s => pullsB M weight minutes load s.2 (prodL s.1)
theorem allPull_grp {M : Mach} (hV : ValidM M) {weight minutes load : Int} (hl : 0 ≤ load) : allPull M weight minutes load = (grpT M 0).all fun g => pullsB M weight minutes load g.leak (g.hi M 0) := by
  rw [Bool.eq_iff_iff]
  unfold allPull
  rw [List.all_eq_true, List.all_eq_true]
  exact pulls_all hV (by decide) hl
/-- The least weight from 0 to 9999 at which all truths pull, else 10000. -/
def leastW (M : Mach) (minutes load : Int) : Nat := ((List.range 10000).find? (fun v => allPull M (v : Nat) minutes load)).getD 10000
theorem find_least {p : Nat → Bool} {n v : Nat} (hv : v ≤ n) (h1 : ∀ u, u < v → p u = false) (h2 : v < n → p v = true) : ((List.range n).find? p).getD n = v := by
  by_cases h : v < n
  · have : (List.range n).find? p = some v := by
      rw [List.find?_eq_some_iff_getElem]
      refine ⟨h2 h, v, by simpa using h, by simp, fun j hj => ?_⟩
      simp [h1 j hj]
    rw [this]; rfl
  · have he : v = n := by omega
    subst he
    have : (List.range v).find? p = none := by
      rw [List.find?_eq_none]
      intro x hx
      simp [h1 x (List.mem_range.1 hx)]
    rw [this]; rfl
def pW (M : Mach) (minutes load : Int) (g : Grp) (v : Nat) : Bool := pullsB M (v : Nat) minutes load g.leak (g.hi M 0)
structure WInv (M : Mach) (minutes load : Int) (pre : List Grp) (v : Nat) : Prop where
  le : v ≤ 10000
  no : ∀ u, u < v → ∃ g ∈ pre, pW M minutes load g u = false
  yes : v < 10000 → ∀ g ∈ pre, pW M minutes load g v = true
theorem WInv.zero (M : Mach) (minutes load : Int) : WInv M minutes load [] 0 := ⟨by omega, fun u h => by omega, fun _ g h => by cases h⟩
theorem WInv.next {M : Mach} (hV : ValidM M) {minutes load : Int} {pre : List Grp} {v v' : Nat} {g : Grp} (h : WInv M minutes load pre v) (hv : v ≤ v') (hle : v' ≤ 10000) (hno : ∀ u, v ≤ u → u < v' → pW M minutes load g u = false) (hyes : v' < 10000 → pW M minutes load g v' = true) : WInv M minutes load (pre ++ [g]) v' := by
  refine ⟨hle, fun u hu => ?_, fun hlt x hx => ?_⟩
  · by_cases h1 : u < v
    · obtain ⟨x, hx, hp⟩ := h.no u h1
      exact ⟨x, List.mem_append_left _ hx, hp⟩
    · exact ⟨g, by simp, hno u (by omega) hu⟩
  · rcases List.mem_append.1 hx with hx | hx
    · exact pulls_up hV (by omega) (h.yes (by omega) x hx)
    · rw [List.mem_singleton.1 hx]; exact hyes hlt
theorem WInv.least {M : Mach} (hV : ValidM M) {minutes load : Int} (hl : 0 ≤ load) {v : Nat} (h : WInv M minutes load (grpT M 0) v) : leastW M minutes load = v := by
  refine find_least h.le (fun u hu => ?_) (fun hlt => ?_)
  · rw [allPull_grp hV hl]
    obtain ⟨g, hg, hp⟩ := h.no u hu
    exact List.all_eq_false.2 ⟨g, hg, by simp only [pW] at hp; simp [hp]⟩
  · rw [allPull_grp hV hl]
    exact List.all_eq_true.2 (h.yes hlt)
theorem grpT_none {M : Mach} (hV : ValidM M) {lev : Nat} (hl : lev < 3) : (grpT M lev).isEmpty = (truthsM M).isEmpty := by
  rw [Bool.eq_iff_iff, List.isEmpty_iff, List.isEmpty_iff]
  constructor
  · intro h
    refine List.eq_nil_iff_forall_not_mem.2 fun s hs => ?_
    obtain ⟨g, hg, _⟩ := truth_grp hV hl hs
    rw [h] at hg; cases hg
  · intro h
    refine List.eq_nil_iff_forall_not_mem.2 fun g hg => ?_
    obtain ⟨_, ⟨s, hs, _⟩, _⟩ := grp_truth hV hl hg
    rw [h] at hs; cases hs
end Go.Proofs.Ytomcjopcfdllgaa
