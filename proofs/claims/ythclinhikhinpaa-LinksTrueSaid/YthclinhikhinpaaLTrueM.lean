/-
  Links: each truth, in plain lists.
-/
import Derived.Test.YthclinhikhinpaaLSmall
import Derived.Test.YthclinhikhinpaaLJudge2
import Derived.Test.YthclinhikhinpaaLProved
import Derived.Test.YthclinhikhinpaaLBars
namespace Go.Proofs.Ythclinhikhinpaa
open Go.RowKit

theorem endB_choice : ∀ {ds : List Deed} {ends : List Int}, (∀ d ∈ ds, 0 ≤ d.from_ ∧ d.from_ ≤ 2) → ends.length = ds.length → (∀ i, i < ends.length → endB ds ends i = true) → choiceB ds ends = true
  | [], [], _, _, _ => rfl
  | [], _ :: _, _, h, _ => by simp at h
  | _ :: _, [], _, h, _ => by simp at h
  | d :: ds, e :: es, hd, hl, h => by
    simp only [choiceB, Bool.and_eq_true]
    have h0 := h 0 (by simp)
    refine ⟨?_, endB_choice (fun x hx => hd x (.tail _ hx)) (by simpa using hl) (fun i hi => ?_)⟩
    · have hf := hd d (.head _)
      simp only [endB, nth, dnth, List.getD_cons_zero, Bool.and_eq_true, Bool.not_eq_true', Bool.and_eq_false_iff, decide_eq_false_iff_not] at h0
      split
      · exact h0.1
      · rw [decide_eq_true_eq]
        have := h0.2
        omega
    · have := h (i + 1) (by simp; omega)
      simpa [endB, nth, dnth] using this
theorem Valid.from_range {C : Chain} (h : Valid C) : ∀ d ∈ C.deeds, 0 ≤ d.from_ ∧ d.from_ ≤ 2 := fun d hd => by
  obtain ⟨i, hi, rfl⟩ := List.getElem_of_mem hd
  have := deedIs (h.deed i hi)
  rw [dnth_lt hi] at this
  cases this <;> omega
theorem truth_of {C : Chain} {ends : List Int} (hV : Valid C) (h : truthB C ends = true) : ends ∈ truthsP C ∧ ends.length = C.deeds.length := by
  simp only [truthB, endsB, Bool.and_eq_true, decide_eq_true_eq, allTo_iff] at h
  exact ⟨mem_truthsP.2 ⟨endB_choice hV.from_range h.1.1 h.1.2, h.2⟩, h.1.1⟩
theorem ans_mem {C : Chain} {ends : List Int} {f : List Int → Int} (h : ends ∈ truthsP C) : inB (ansV C true f) (f ends) = true := by
  simp only [inB, decide_eq_true_eq, ansV, if_true]
  exact mem_srt.2 (List.mem_map.2 ⟨ends, h, rfl⟩)
theorem some_truth {C : Chain} {ends : List Int} (h : ends ∈ truthsP C) : (truthsP C).length ≠ 0 := fun e => by
  rw [List.length_eq_zero_iff.1 e] at h; cases h
theorem ansE_ok {C : Chain} {ends : List Int} (h : ends ∈ truthsP C) : ansE C true = 0 := by
  simp only [ansE, if_true, noneE, if_neg (some_truth h)]
theorem ready_unk {C : Chain} (h : readyB C = true) : unk C.deeds ≤ 5 := by
  simp only [readyB, farB, Bool.and_eq_true, Bool.not_eq_true', Bool.or_eq_false_iff] at h
  have := h.1.2.2
  rw [h.2] at this
  simpa using this
theorem ans_len {C : Chain} (h : readyB C = true) (b : Bool) (f : List Int → Int) : (ansV C b f).length ≤ 40 := by
  unfold ansV
  split
  · have h1 := once_len ((truthsP C).map f)
    rw [srt_len]
    have h2 : (truthsP C).length ≤ (pastsL C.deeds).length := List.length_filter_le _ _
    have h3 : (pastsL C.deeds).length = 2 ^ unk C.deeds := by simp [pastsL]
    have h4 : 2 ^ unk C.deeds ≤ 2 ^ 5 := Nat.pow_le_pow_right (by omega) (ready_unk h)
    rw [List.length_map] at h1
    omega
  · simp
theorem ans_ends {C : Chain} {ends : List Int} {f : List Int → Int} {b : Bool} (hb : b = true) (h : ends ∈ truthsP C) : nth (ansV C b f) 0 ≤ f ends ∧ f ends ≤ nth (ansV C b f) ((ansV C b f).length - 1) := by
  subst hb
  have hm := ans_mem (f := f) h
  simp only [inB, decide_eq_true_eq] at hm
  obtain ⟨i, hi, e⟩ := List.getElem_of_mem hm
  have hs : (ansV C true f).Pairwise (· < ·) := by simp only [ansV, if_true]; exact srt_sorted _
  rw [List.pairwise_iff_getElem] at hs
  rw [nth_lt (i := 0) (by omega), nth_lt (i := (ansV C true f).length - 1) (by omega), ← e]
  constructor
  · by_cases h0 : i = 0
    · subst h0; exact Int.le_refl _
    · exact Int.le_of_lt (hs 0 i (by omega) hi (by omega))
  · by_cases h0 : i = (ansV C true f).length - 1
    · subst h0; exact Int.le_refl _
    · exact Int.le_of_lt (hs i _ hi (by omega) (by omega))
theorem alike_says {C : Chain} {ends : List Int} (h : ends ∈ truthsP C) (a b : Nat) : oneL (srt ((truthsP C).map (alikeOf C a b))) = 3 ∨ oneL (srt ((truthsP C).map (alikeOf C a b))) = alikeOf C a b ends := by
  have hm := ans_mem (f := alikeOf C a b) h
  simp only [inB, decide_eq_true_eq, ansV, if_true] at hm
  unfold oneL
  split
  · exact .inl rfl
  · refine .inr ?_
    obtain ⟨i, hi, e⟩ := List.getElem_of_mem hm
    have : i = 0 := by omega
    subst this
    rw [nth_lt hi, e]
theorem place_own {C : Chain} (hV : Valid C) (ends : List Int) {p : Nat} (hp : p < (story C.deeds ends C.deeds.length).length) : placeOf C (nth (story C.deeds ends C.deeds.length) p) ends = p := by
  have hn := (story_ok (ends := ends) hV.deed _ (Nat.le_refl _)).2.1
  refine ixV_yes hp rfl (fun j hj e => ?_)
  rw [nth_lt hp, nth_lt (by omega)] at e
  have := (List.getElem_inj hn).1 e
  omega

end Go.Proofs.Ythclinhikhinpaa
