/-
  Links, math: after one more deed, what the law's body asks of it.
-/
import Derived.Test.YthclinhikhinpaaLLater2
import Derived.Test.YthclinhikhinpaaLSmall

namespace Go.Proofs.Ythclinhikhinpaa
theorem plus_weldsAll (C : Chain) (d : Deed) : weldsTo (plusD C d).deeds (plusD C d).deeds.length = weldsTo C.deeds C.deeds.length + (if d.what = 1 then 1 else 0) := by
  show weldsTo (C.deeds ++ [d]) (C.deeds ++ [d]).length = _
  rw [plus_len]
  simp only [weldsTo]
  rw [plus_welds (Nat.le_refl _), plus_new]
theorem plus_lenAll (C : Chain) (d : Deed) : lenTo (plusD C d).deeds (plusD C d).deeds.length = lenTo C.deeds C.deeds.length + (if d.what = 1 then 1 else if d.what = 2 then -1 else 0) := by
  show lenTo (C.deeds ++ [d]) (C.deeds ++ [d]).length = _
  rw [plus_len]
  simp only [lenTo]
  rw [plus_lenTo (Nat.le_refl _), plus_new]
theorem link_plus {C : Chain} {d : Deed} {link : Int} (h : linkB C link = true) : linkB (plusD C d) link = true := by
  have h := wB_iff.1 h
  refine wB_iff.2 ⟨h.1, ?_⟩
  rw [plus_weldsAll]
  split <;> push_cast <;> omega
theorem places_range {C : Chain} (hV : Valid C) (link : Int) : ∀ x ∈ srt ((truthsP C).map (placeOf C link)), -1 ≤ x ∧ x ≤ 12 := fun x hx => by
  obtain ⟨e, _, rfl⟩ := List.mem_map.1 (mem_srt.1 hx)
  have h1 := ixV_bound (story C.deeds e C.deeds.length) link
  have h2 := (story_ok (ends := e) hV.deed _ (Nat.le_refl _)).1
  have h3 := lenTo_le C.deeds C.deeds.length
  have h4 := hV.nd
  unfold placeOf
  omega
theorem times_range {C : Chain} (hV : Valid C) (link : Int) : ∀ x ∈ srt ((truthsP C).map (timesOf C link)), 0 ≤ x ∧ x ≤ 12 := fun x hx => by
  obtain ⟨e, _, rfl⟩ := List.mem_map.1 (mem_srt.1 hx)
  have h1 := timesTo_le C.deeds e link C.deeds.length
  have h4 := hV.nd
  unfold timesOf
  omega
theorem srt_pos {C : Chain} (h : (truthsP C).length ≠ 0) (f : List Int → Int) : 0 < (srt ((truthsP C).map f)).length := by
  have := srt_nil (l := truthsP C) (f := f)
  omega
theorem nth_map {xs : List Int} {g : Int → Int} {k : Nat} (h : k < xs.length) : nth (xs.map g) k = g (nth xs k) := by
  rw [nth_lt (by simpa using h), nth_lt h]; simp

end Go.Proofs.Ythclinhikhinpaa
