/-
  Links, math: a chain whose ends are all known has one past.
-/
import Derived.Test.YthclinhikhinpaaLContraM
import Derived.Test.YthclinhikhinpaaLWho

namespace Go.Proofs.Ythclinhikhinpaa

theorem unkTo_zero {ds : List Deed} : ∀ {k : Nat}, (∀ i, i < k → (dnth ds i).from_ ≠ 2) → unkTo ds k = 0
  | 0, _ => rfl
  | k + 1, h => by simp only [unkTo, if_neg (h k (by omega)), unkTo_zero (k := k) (fun i hi => h i (by omega))]
theorem one_past {ds : List Deed} (h : ∀ i, i < ds.length → (dnth ds i).from_ ≠ 2) : pastsL ds = [endsOf ds 0] := by
  rw [pastsL, ← unkTo_len, unkTo_zero h]; rfl
theorem one_truth {C : Chain} (h : ∀ i, i < C.deeds.length → (dnth C.deeds i).from_ ≠ 2) (hne : (truthsP C).length ≠ 0) : truthsP C = [endsOf C.deeds 0] := by
  rw [truthsP, one_past h] at hne ⊢
  simp only [List.filter_cons, List.filter_nil] at hne ⊢
  split at hne
  · rename_i hd; rw [if_pos hd]
  · simp at hne
theorem srt_one (x : Int) : srt [x] = [x] := by
  have h1 : ∀ y, y ∈ srt [x] ↔ y ∈ [x] := fun y => mem_srt
  exact sorted_ext (srt_sorted _) (by simp) h1
theorem ixV_neg {xs : List Int} {x : Int} : ixV xs x < 0 ↔ inB xs x = false := by
  cases h : inB xs x
  · simp [ixV_no (by simpa [inB] using h)]
  · obtain ⟨j, hj, he, hne⟩ := least_ix h
    rw [ixV_yes hj he hne]
    simp
theorem fresh_nth {xs : List Int} (hn : xs.Nodup) {k : Nat} (hk : k < xs.length) : inB (xs.take k) (nth xs k) = false := by
  simp only [inB, decide_eq_false_iff_not]
  intro hm
  obtain ⟨i, hi, he⟩ := mem_iff_nth.1 hm
  rw [List.length_take] at hi
  rw [nth_takeL (by omega)] at he
  rw [nth_lt (by omega), nth_lt hk] at he
  have := (List.getElem_inj hn).1 he
  omega
/-- The cable in the end, where all ends are known. -/
def lastS (C : Chain) : List Int := story C.deeds (endsOf C.deeds 0) C.deeds.length
theorem who_one {C : Chain} (ht : truthsP C = [endsOf C.deeds 0]) (k : Nat) : srt ((truthsP C).map (linkAt C k)) = [nth (lastS C) k] := by rw [ht]; exact srt_one _
theorem where_one {C : Chain} (ht : truthsP C = [endsOf C.deeds 0]) (link : Int) : srt ((truthsP C).map (placeOf C link)) = [ixV (lastS C) link] := by rw [ht]; exact srt_one _

end Go.Proofs.Ythclinhikhinpaa
