/-
  Links, math: the answers after one more deed.
-/
import Derived.Test.YthclinhikhinpaaLLaterM

namespace Go.Proofs.Ythclinhikhinpaa
def weldC (C : Chain) (b s : Int) : Chain := plusD C (weldD b s)
def backC (C : Chain) (b s : Int) : Chain := plusD (weldC C b s) cutD
def provC (C : Chain) : Chain := plusD C proveD
section
variable {C : Chain} {b s link : Int} (hV : Valid C) (hn : C.deeds.length ≤ 10)
include hV hn
theorem weld_valid (hb : 0 ≤ b ∧ b ≤ 99) (hs : 0 ≤ s ∧ s ≤ 99) : Valid (weldC C b s) := by
  have h0 := lenTo_nonneg hV.deed (Nat.le_refl _)
  refine plus_valid hV (by omega) ?_
  simp only [deedOk, weldD, if_true, Bool.and_eq_true, wB_iff]
  omega
theorem back_valid (hb : 0 ≤ b ∧ b ≤ 99) (hs : 0 ≤ s ∧ s ≤ 99) : Valid (backC C b s) := by
  have h0 := lenTo_nonneg hV.deed (Nat.le_refl _)
  refine plus_valid (weld_valid hV hn hb hs) (by show (C.deeds ++ [_]).length ≤ 11; simp; omega) ?_
  have hl : lenTo (weldC C b s).deeds (weldC C b s).deeds.length = lenTo C.deeds C.deeds.length + 1 := by
    show lenTo (C.deeds ++ [weldD b s]) (C.deeds ++ [weldD b s]).length = _
    rw [plus_len]
    simp only [lenTo]
    rw [plus_lenTo (Nat.le_refl _), plus_new]
    simp [weldD]
  rw [hl]
  unfold deedOk
  rw [if_neg (by decide), if_pos (show cutD.what = 2 from rfl)]
  simp only [cutD, Bool.and_eq_true, wB_iff, decide_eq_true_eq]
  refine ⟨⟨⟨by omega, by omega⟩, trivial⟩, trivial⟩
theorem prov_valid : Valid (provC C) := by
  refine plus_valid hV (by omega) ?_
  simp [deedOk, proveD]
end
section
variable {C : Chain} {b s link : Int} (hV : Valid C)
include hV
theorem weld_truths : truthsP (weldC C b s) = (truthsP C).map (· ++ [0]) := plus_truths hV (by simp [weldD])
theorem prov_truths : truthsP (provC C) = (truthsP C).map (· ++ [0]) := plus_truths hV (by simp [proveD])
theorem weld_places (hl : link < weldsTo C.deeds C.deeds.length) : srt ((truthsP (weldC C b s)).map (placeOf (weldC C b s) link)) = (srt ((truthsP C).map (placeOf C link))).map nextP := by
  rw [weld_truths hV, List.map_map]
  have e : (truthsP C).map (placeOf (weldC C b s) link ∘ (· ++ [0])) = ((truthsP C).map (placeOf C link)).map nextP := by
    rw [List.map_map]
    exact List.map_congr_left (fun x hx => weld_place (truth_len hx) hl)
  rw [e]
  refine srt_map_mono (fun x hx y hy hxy => ?_)
  obtain ⟨z, _, rfl⟩ := List.mem_map.1 hx
  have hb := (ixV_bound (story C.deeds z C.deeds.length) link).1
  have hb' : -1 ≤ placeOf C link z := hb
  unfold nextP
  split <;> split <;> omega
theorem back_places (hW : Valid (weldC C b s)) : srt ((truthsP (backC C b s)).map (placeOf (backC C b s) link)) = srt ((truthsP C).map (placeOf C link)) := by
  have h1 : truthsP (backC C b s) = (truthsP (weldC C b s)).map (· ++ [0]) := plus_truths hW (by simp [cutD])
  rw [h1, weld_truths hV, List.map_map, List.map_map]
  congr 1
  exact List.map_congr_left (fun x hx => cut_place (truth_len hx))
theorem back_many (hW : Valid (weldC C b s)) : (truthsP (backC C b s)).length = (truthsP C).length := by
  have h1 : truthsP (backC C b s) = (truthsP (weldC C b s)).map (· ++ [0]) := plus_truths hW (by simp [cutD])
  rw [h1, weld_truths hV]; simp
theorem weld_who (hne : (truthsP C).length ≠ 0) : srt ((truthsP (weldC C b s)).map (linkAt (weldC C b s) 0)) = [(weldsTo C.deeds C.deeds.length : Int)] := by
  rw [weld_truths hV, List.map_map]
  have h : ∀ x ∈ truthsP C, (linkAt (weldC C b s) 0 ∘ (· ++ [0])) x = weldsTo C.deeds C.deeds.length := fun x hx => by
    show nth (story (plusD C (weldD b s)).deeds (x ++ [0]) (plusD C (weldD b s)).deeds.length) 0 = _
    rw [weld_story (truth_len hx)]
    rfl
  refine sorted_ext (srt_sorted _) (by simp) (fun z => ?_)
  rw [mem_srt, List.mem_map, List.mem_singleton]
  constructor
  · rintro ⟨x, hx, rfl⟩; exact h x hx
  · rintro rfl
    obtain ⟨x, hx⟩ := List.exists_mem_of_ne_nil (truthsP C) (fun e => hne (by rw [e]; rfl))
    exact ⟨x, hx, h x hx⟩
theorem prov_spans (hne : (truthsP C).length ≠ 0) : let S := srt ((truthsP C).map (timesOf C link)); let T := srt ((truthsP (provC C)).map (timesOf (provC C) link)); let A := srt ((truthsP C).map (placeOf C link))
    (0 ≤ nth A 0 → nth T 0 = nth S 0 + 1 ∧ nth T (T.length - 1) = nth S (S.length - 1) + 1) ∧
    (nth A 0 < 0 → nth S 0 ≤ nth T 0 ∧ nth T (T.length - 1) ≤ nth S (S.length - 1) + 1 ∧ (A.length ≤ 1 → nth T 0 = nth S 0 ∧ nth T (T.length - 1) = nth S (S.length - 1))) := by
  intro S T A
  have hpos : ∀ (f : List Int → Int), 0 < (srt ((truthsP C).map f)).length := fun f => by
    have := (srt_nil (l := truthsP C) (f := f))
    omega
  have hT : T = srt ((truthsP C).map (fun x => timesOf C link x + (if 0 ≤ placeOf C link x then 1 else 0))) := by
    show srt ((truthsP (provC C)).map (timesOf (provC C) link)) = _
    rw [prov_truths hV, List.map_map]
    congr 1
    exact List.map_congr_left (fun x hx => prove_times (truth_len hx))
  have hTp : 0 < T.length := by rw [hT]; exact hpos _
  have s1 := sorted_first (srt_sorted ((truthsP C).map (timesOf C link))) (hpos _)
  have s2 := sorted_last (srt_sorted ((truthsP C).map (timesOf C link))) (hpos _)
  have a1 := sorted_first (srt_sorted ((truthsP C).map (placeOf C link))) (hpos _)
  have t1 := sorted_first (L := T) (srt_sorted _) hTp
  have t2 := sorted_last (L := T) (srt_sorted _) hTp
  rw [hT] at t1 t2
  have mS : ∀ x ∈ truthsP C, timesOf C link x ∈ S := fun x hx => mem_srt.2 (List.mem_map.2 ⟨x, hx, rfl⟩)
  have mT : ∀ x ∈ truthsP C, timesOf C link x + (if 0 ≤ placeOf C link x then 1 else 0) ∈ srt ((truthsP C).map (fun x => timesOf C link x + (if 0 ≤ placeOf C link x then 1 else 0))) := fun x hx => mem_srt.2 (List.mem_map.2 ⟨x, hx, rfl⟩)
  have mA : ∀ x ∈ truthsP C, nth A 0 ≤ placeOf C link x := fun x hx => a1.2 _ (mem_srt.2 (List.mem_map.2 ⟨x, hx, rfl⟩))
  obtain ⟨xs, hxs, es⟩ := List.mem_map.1 (mem_srt.1 s1.1)
  obtain ⟨ys, hys, fs⟩ := List.mem_map.1 (mem_srt.1 s2.1)
  obtain ⟨xt, hxt, et⟩ := List.mem_map.1 (mem_srt.1 t1.1)
  obtain ⟨yt, hyt, ft⟩ := List.mem_map.1 (mem_srt.1 t2.1)
  have b1 := s1.2 _ (mS xt hxt)
  have b2 := s2.2 _ (mS yt hyt)
  have b3 := t1.2 _ (mT xs hxs)
  have b4 := t2.2 _ (mT ys hys)
  rw [← hT] at et ft b3 b4
  have eS : srt ((truthsP C).map (timesOf C link)) = S := rfl
  rw [eS] at es fs b1 b2
  refine ⟨fun h0 => ?_, fun h0 => ⟨?_, ?_, fun h1 => ?_⟩⟩
  · rw [if_pos (by have := mA xt hxt; omega)] at et
    rw [if_pos (by have := mA yt hyt; omega)] at ft
    rw [if_pos (by have := mA xs hxs; omega)] at b3
    rw [if_pos (by have := mA ys hys; omega)] at b4
    omega
  · split at et <;> omega
  · split at ft <;> omega
  · have hall : ∀ x ∈ truthsP C, ¬ 0 ≤ placeOf C link x := fun x hx h => by
      obtain ⟨i, hi, he⟩ := mem_iff_nth.1 (mem_srt.2 (List.mem_map.2 ⟨x, hx, rfl⟩) : placeOf C link x ∈ A)
      have hi : i < A.length := hi
      have he : nth A i = placeOf C link x := he
      have : i = 0 := by omega
      subst this
      omega
    rw [if_neg (hall xt hxt)] at et
    rw [if_neg (hall yt hyt)] at ft
    rw [if_neg (hall xs hxs)] at b3
    rw [if_neg (hall ys hys)] at b4
    omega
end

end Go.Proofs.Ythclinhikhinpaa
