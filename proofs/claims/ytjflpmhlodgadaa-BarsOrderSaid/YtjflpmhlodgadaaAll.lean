/-
  The reference's list of all sawings that fit, and what the search makes of it.
-/
import Derived.Test.YtjflpmhlodgadaaAsks
import Derived.Test.YtjflpmhlodgadaaCopy
namespace Go.Proofs.Ytjflpmhlodgadaa
open Go.RowKit

/-- All sawings that fit and that begin with first, in the reference's order. -/
def allL (S : Store) : Nat → List Int → List (List Int)
  | 0, first => if fitsB S first = true then [first] else []
  | m + 1, first => if fitsB S first = true then flatTo (fun b => allL S m (first ++ [(b : Int)])) S.bars.length else []
theorem allL_prefix {S : Store} : ∀ (m : Nat) (first : List Int), ∀ x ∈ allL S m first, first <+: x ∧ x.length = first.length + m
  | 0, first, x, hx => by
    simp only [allL] at hx
    split at hx
    · rw [List.mem_singleton] at hx; subst hx; exact ⟨List.prefix_refl _, rfl⟩
    · cases hx
  | m + 1, first, x, hx => by
    simp only [allL] at hx
    split at hx
    · obtain ⟨k, hk, hx⟩ := mem_flatTo.1 hx
      obtain ⟨h1, h2⟩ := allL_prefix m _ x hx
      exact ⟨(List.prefix_append _ _).trans h1, by rw [h2]; simp; omega⟩
    · cases hx
theorem filter_flatTo {α : Type} {f : Nat → List α} {p : α → Bool} : ∀ n, (flatTo f n).filter p = flatTo (fun k => (f k).filter p) n
  | 0 => rfl
  | n + 1 => by simp only [flatTo, List.filter_append, filter_flatTo n]
theorem flatTo_congr {α : Type} {f g : Nat → List α} : ∀ {n : Nat}, (∀ k, k < n → f k = g k) → flatTo f n = flatTo g n
  | 0, _ => rfl
  | n + 1, h => by simp only [flatTo]; rw [flatTo_congr (fun k hk => h k (by omega)), h n (by omega)]
theorem wrongs_prefix {S : Store} {a b : List Int} (h : a <+: b) : wrongs S a ≤ wrongs S b := by
  have h1 : a.length ≤ b.length := h.length_le
  have h2 := wrongsTo_mono S b h1
  rw [wrongsTo_prefix h (Nat.le_refl _)] at h2
  exact h2
/-- The search yields what the reference lists, but for the rows with too many wrong marks. -/
theorem all_saw {S : Store} (w0 : Int) : ∀ (m : Nat) (first : List Int), first.length + m = S.pieces.length → fitsB S first = true → wrongs S first ≤ w0 →
    (allL S m first).filter (fun x => decide (wrongs S x ≤ w0)) = sawL S m (w0 - wrongs S first) first
  | 0, first, _, hf, hw => by
    simp only [allL, sawL, if_pos hf]
    rw [List.filter_cons_of_pos (by simpa using hw)]
    rfl
  | m + 1, first, hl, hf, hw => by
    rw [sawL_succ]
    simp only [allL, if_pos hf]
    rw [filter_flatTo]
    refine flatTo_congr fun b hb => ?_
    have hs := wrongs_snoc S first (b : Int)
    rw [Int.toNat_natCast] at hs
    unfold sawAt
    generalize (if wrongAt S first.length b = true then (1 : Int) else 0) = t at hs ⊢
    by_cases hr : restS S (first ++ [(b : Int)]) b < 0
    · rw [if_pos (.inr hr)]
      have hnf : ¬ fitsB S (first ++ [(b : Int)]) = true := fun h => by have := fitsB_iff.1 h b hb; omega
      cases m with
      | zero => simp only [allL, if_neg hnf, List.filter_nil]
      | succ m => simp only [allL, if_neg hnf, List.filter_nil]
    · have hfb : fitsB S (first ++ [(b : Int)]) = true := fitsB_iff.2 fun c hc => by
        by_cases e : (b : Int) = (c : Int)
        · rw [← e]; omega
        · rw [restS_other e]; exact fitsB_iff.1 hf c hc
      by_cases hn : w0 - wrongs S first - t < 0
      · rw [if_pos (.inl hn), List.filter_eq_nil_iff]
        intro x hx
        have := wrongs_prefix (S := S) (allL_prefix m _ x hx).1
        simp
        omega
      · rw [if_neg (by rintro (h | h) <;> omega)]
        rw [all_saw w0 m (first ++ [(b : Int)]) (by simp; omega) hfb (by omega)]
        congr 1
        omega
theorem fits_nil {S : Store} (hV : Valid S) : fitsB S [] = true := fitsB_iff.2 fun b hb => by rw [restS_nil, Int.toNat_natCast]; have := hV.blong b hb; omega
theorem all_truths {S : Store} (hV : Valid S) : (allL S S.pieces.length []).filter (fun x => decide (wrongs S x ≤ S.wrong)) = truthsL S := by
  have := all_saw S.wrong S.pieces.length [] (by simp) (fits_nil hV) hV.wrong.1
  rw [this]
  have e : wrongs S [] = 0 := rfl
  rw [e, Int.sub_zero]
  rfl
theorem all_fit {S : Store} (hV : Valid S) : allL S S.pieces.length [] = fitL S := by
  have h := all_saw (S := S) S.pieces.length S.pieces.length [] (by simp) (fits_nil hV) (by have : wrongs S [] = 0 := rfl; omega)
  have e : wrongs S [] = 0 := rfl
  rw [e, Int.sub_zero] at h
  rw [show fitL S = sawL S S.pieces.length S.pieces.length [] from rfl, ← h]
  symm
  rw [List.filter_eq_self]
  intro x hx
  have h1 := (allL_prefix _ _ x hx).2
  have h2 := (wrongsTo_le S x x.length).2
  have h3 : wrongs S x = wrongsTo S x x.length := rfl
  simp at h1 ⊢
  omega

/-- The i-th of a list of rows. -/
def xnth (xs : List (List Int)) (i : Nat) : List Int := xs.getD i []
theorem xnth_lt {xs : List (List Int)} {i : Nat} (h : i < xs.length) : xnth xs i = xs[i] := by simp [xnth, h]
theorem xnth_mem {xs : List (List Int)} {i : Nat} (h : i < xs.length) : xnth xs i ∈ xs := by rw [xnth_lt h]; exact List.getElem_mem h
/-- A [][]int in memory of the call's own, each row a row of its own kind. -/
def ListsAt (w : World) (base : Nat) (u : Value) (xs : List (List Int)) : Prop :=
  ∃ vs : List Value, vs.length = xs.length ∧ w.ownsRow base 26 1 u xs.length vs ∧ ∀ i, i < xs.length → ∃ v, vs[i]? = some v ∧ w.ownsRow 0 3 1 v (xnth xs i).length ((xnth xs i).map (Value.int .i64))
theorem ListsAt.nil (w : World) (base : Nat) : ListsAt w base (.slice none 0 0) [] := ⟨[], rfl, World.ownsRow_nil _ _ _ _, fun i hi => by simp at hi⟩
theorem ListsAt.below {w w' : World} {base : Nat} {u : Value} {xs : List (List Int)} (h : ListsAt w base u xs) (hb : Below w.heap.size w w') : ListsAt w' base u xs := by
  obtain ⟨vs, h1, h2, h3⟩ := h
  exact ⟨vs, h1, own_below h2 hb, fun i hi => by obtain ⟨v, h4, h5⟩ := h3 i hi; exact ⟨v, h4, own_below h5 hb⟩⟩
/-- Two lists of rows, one appended onto the other. -/
theorem ListsAt.append {w w' : World} {base : Nat} {u q : Value} {xs ys : List (List Int)} {vs vs' : List Value} (h1 : vs.length = xs.length) (h2 : w.ownsRow base 26 1 u xs.length vs)
    (h3 : ∀ i, i < xs.length → ∃ v, vs[i]? = some v ∧ w.ownsRow 0 3 1 v (xnth xs i).length ((xnth xs i).map (Value.int .i64))) (k1 : vs'.length = ys.length)
    (k3 : ∀ i, i < ys.length → ∃ v, vs'[i]? = some v ∧ w.ownsRow 0 3 1 v (xnth ys i).length ((xnth ys i).map (Value.int .i64)))
    (hg : w.grownBy w' u.ownBlock) (hq : w'.ownsRow base 26 1 q (xs.length + ys.length) (vs ++ vs')) : ListsAt w' base q (xs ++ ys) := by
  refine ⟨vs ++ vs', by simp [h1, k1], by rw [List.length_append]; exact hq, fun i hi => ?_⟩
  rw [List.length_append] at hi
  by_cases e : i < xs.length
  · obtain ⟨v, h4, h5⟩ := h3 i e
    have hx : xnth (xs ++ ys) i = xnth xs i := by simp [xnth, List.getElem?_append_left e]
    exact ⟨v, by rw [List.getElem?_append_left (by omega)]; exact h4, by rw [hx]; exact own_kept_type h5 h2 (by decide) hg⟩
  · obtain ⟨v, h4, h5⟩ := k3 (i - xs.length) (by omega)
    have hx : xnth (xs ++ ys) i = xnth ys (i - xs.length) := by simp [xnth, List.getElem?_append_right (Nat.le_of_not_lt e)]
    exact ⟨v, by rw [List.getElem?_append_right (by omega), h1]; exact h4, by rw [hx]; exact own_kept_type h5 h2 (by decide) hg⟩
end Go.Proofs.Ytjflpmhlodgadaa
