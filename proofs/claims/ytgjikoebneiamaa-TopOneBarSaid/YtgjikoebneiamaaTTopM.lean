/-
  Through the layers: a cable that is welded link by link, in plain lists; what both layers say of two of its links.
-/
import Derived.Test.YtgjikoebneiamaaLBars
import Derived.Test.YtgjikoebneiamaaLErr
import Derived.Test.YtgjikoebneiamaaTAsks
namespace Go.Proofs.Ytgjikoebneiamaa
open Go.RowKit

/-- The deeds that weld a link of each of some bars, one behind the other. -/
def topD (l : List Int) (n : Nat) : List Deed := (List.range n).map (fun i : Nat => ⟨1, (i : Int), 0, nth l i, (i : Int)⟩)
def topC (l : List Int) : Chain := ⟨topD l l.length, [], 0⟩
theorem topD_len (l : List Int) (n : Nat) : (topD l n).length = n := by simp [topD]
theorem topD_nth {l : List Int} {n i : Nat} (h : i < n) : dnth (topD l n) i = ⟨1, i, 0, nth l i, i⟩ := by
  rw [dnth_lt (by rw [topD_len]; exact h)]
  simp [topD]
theorem topD_snoc (l : List Int) (n : Nat) : topD l (n + 1) = topD l n ++ [⟨1, n, 0, nth l n, n⟩] := by simp [topD, List.range_succ]
theorem top_len (l : List Int) (n : Nat) : ∀ k, k ≤ n → lenTo (topD l n) k = k
  | 0, _ => rfl
  | k + 1, h => by
    simp only [lenTo]
    rw [top_len l n k (by omega), topD_nth (by omega), if_pos rfl]
    push_cast; rfl
theorem top_welds (l : List Int) (n : Nat) : ∀ k, k ≤ n → weldsTo (topD l n) k = k
  | 0, _ => rfl
  | k + 1, h => by
    simp only [weldsTo]
    rw [top_welds l n k (by omega), topD_nth (by omega), if_pos rfl]
theorem top_valid {l : List Int} (hn : l.length ≤ 12) (hl : ∀ i, i < l.length → 0 ≤ nth l i ∧ nth l i ≤ 99) : validB (topC l) = true := by
  refine valid_iff.2 ⟨by simp only [topC, topD_len]; exact hn, by simp [topC], by simp [topC], fun i hi => ?_, fun j hj => by simp [topC] at hj⟩
  simp only [topC, topD_len] at hi ⊢
  rw [topD_nth hi, top_len l _ i (by omega)]
  have := hl i hi
  simp only [deedOk, if_pos, Bool.and_eq_true, wB_iff]
  omega
theorem from0 : ∀ (ds : List Deed), (∀ d ∈ ds, d.from_ = 0) → unk ds = 0 ∧ ∀ e, endsOf ds e = List.replicate ds.length 0
  | [], _ => ⟨rfl, fun _ => rfl⟩
  | d :: ds, h => by
    have hd := h d (.head _)
    have ih := from0 ds (fun x hx => h x (.tail _ hx))
    refine ⟨by simp [unk, ih.1, hd], fun e => ?_⟩
    simp only [endsOf, hd]
    rw [if_neg (by decide), ih.2 e]
    rfl
theorem top_truths (l : List Int) : truthsP (topC l) = [List.replicate l.length 0] := by
  have h := from0 (topD l l.length) (fun d hd => by
    simp only [topD, List.mem_map] at hd
    obtain ⟨i, _, rfl⟩ := hd
    rfl)
  have hp : pastsL (topD l l.length) = [List.replicate l.length 0] := by
    simp [pastsL, h.1, h.2, topD_len, List.range_succ]
  have hw : wrongs (topC l) (List.replicate l.length 0) = 0 := rfl
  show (pastsL (topD l l.length)).filter (fun e => decide (wrongs (topC l) e ≤ (topC l).wrong)) = _
  rw [hp, List.filter_cons_of_pos (by rw [decide_eq_true_eq, hw]; exact Int.le_refl _)]
  rfl
theorem nth_zeros (n k : Nat) : nth (List.replicate n 0) k = 0 := by
  by_cases h : k < n
  · rw [nth_lt (by simpa using h)]; simp
  · simp [nth, List.getElem?_eq_none (show (List.replicate n (0 : Int)).length ≤ k by simp; omega)]
theorem top_story (l : List Int) (n : Nat) (x : List Int) (hx : ∀ k, nth x k = 0) : ∀ k, k ≤ n → story (topD l n) x k = (List.range k).map (fun i : Nat => (i : Int))
  | 0, _ => rfl
  | k + 1, h => by
    simp only [story]
    rw [top_story l n x hx k (by omega), topD_nth (by omega), hx, top_welds l n k (by omega)]
    simp only [stepC, if_pos, fromHead]
    rw [if_neg (by decide)]
    rw [show ((k : Nat) : Int).toNat = k from Int.toNat_natCast k]
    rw [List.take_of_length_le (by simp), List.drop_of_length_le (by simp), List.range_succ, List.map_append]
    rfl
theorem nth_range {n i : Nat} (h : i < n) : nth ((List.range n).map (fun i : Nat => (i : Int))) i = i := by
  rw [nth_lt (by simpa using h)]; simp
theorem top_bar {l : List Int} {p : Nat} (hp : p < l.length) : barOf (topC l) p (List.replicate l.length 0) = nth l p := by
  have hl : linkAt (topC l) p (List.replicate l.length 0) = p := by
    show nth (story (topD l l.length) _ (topD l l.length).length) p = p
    rw [topD_len, top_story l _ _ (nth_zeros _) _ (Nat.le_refl _), nth_range hp]
  have hw : weldL (topD l l.length) = topD l l.length := List.filter_eq_self.2 fun d hd => by
    simp only [topD, List.mem_map] at hd
    obtain ⟨i, _, rfl⟩ := hd
    rfl
  show (dnth (weldL (topD l l.length)) (linkAt (topC l) p (List.replicate l.length 0)).toNat).bar = _
  rw [hl, hw, Int.toNat_natCast, topD_nth hp]
theorem srt_1 (x : Int) : srt [x] = [x] := by
  have h1 : ∀ z, z ∈ srt [x] ↔ z ∈ [x] := fun z => mem_srt
  exact sorted_ext (srt_sorted _) (by simp) h1
theorem top_place {l : List Int} {p : Nat} (hp : p < l.length) : placeB (topC l) (p : Int) = true := by
  refine wB_iff.2 ⟨by omega, ?_⟩
  show (p : Int) ≤ lenTo (topD l l.length) (topD l l.length).length - 1
  rw [topD_len, top_len l _ _ (Nat.le_refl _)]
  omega
theorem top_bars {l : List Int} {p : Nat} (hp : p < l.length) : ansV (topC l) (placeB (topC l) (p : Int)) (barOf (topC l) (p : Int).toNat) = [nth l p] := by
  rw [top_place hp, ansV, if_pos rfl, top_truths, List.map_singleton, Int.toNat_natCast, top_bar hp, srt_1]
theorem top_bars_e {l : List Int} {p : Nat} (hp : p < l.length) : ansE (topC l) (placeB (topC l) (p : Int)) = 0 := by
  rw [top_place hp, ansE, if_pos rfl, top_truths]; rfl
theorem top_alike {l : List Int} {p q : Nat} (hp : p < l.length) (hq : q < l.length) : (if (truthsP (topC l)).length = 0 then 0 else oneL (srt ((truthsP (topC l)).map (alikeOf (topC l) p q)))) = if nth l p = nth l q then 1 else 2 := by
  rw [top_truths, if_neg (by simp), List.map_singleton, alikeOf, top_bar hp, top_bar hq, srt_1]
  rfl
/-- What the first layer says of two pieces is what the plan says, or nothing. -/
theorem plan_alike {S : Tb.Store} (h0 : (Tb.truthsL S).length ≠ 0) (p r : Nat) : (Tb.alikeV S p r).2 = 0 ∧ ((Tb.alikeV S p r).1 = 3 ∨ (Tb.alikeV S p r).1 = if Tb.nth (Tb.planS S) p = Tb.nth (Tb.planS S) r then 1 else 2) := by
  have hm := Tb.planS_ok h0
  unfold Tb.alikeV Tb.knownV
  by_cases e : Tb.nth (Tb.planS S) p = Tb.nth (Tb.planS S) r
  · have h1 : Tb.anyB (Tb.alikeB p r) (Tb.truthsL S) = true := List.any_eq_true.2 ⟨_, hm, by simp [Tb.alikeB, e]⟩
    rw [h1, if_pos rfl, if_pos e]
    split
    · exact ⟨rfl, .inl rfl⟩
    · exact ⟨rfl, .inr rfl⟩
  · have h2 : Tb.anyB (fun x => !Tb.alikeB p r x) (Tb.truthsL S) = true := List.any_eq_true.2 ⟨_, hm, by simp [Tb.alikeB, e]⟩
    rw [h2, if_pos rfl, if_neg e]
    split
    · exact ⟨rfl, .inl rfl⟩
    · exact ⟨rfl, .inr rfl⟩
end Go.Proofs.Ytgjikoebneiamaa
