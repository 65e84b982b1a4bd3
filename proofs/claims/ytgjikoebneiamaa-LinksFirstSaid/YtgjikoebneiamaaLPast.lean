/-
  Links: the memory of a past: a row of slices, one for the cable after each number of deeds, over one block of numbers; and what the library's Insert, Delete and Reverse do to one of these slices.
-/
import Derived.Test.YtgjikoebneiamaaLKeep
import Derived.Test.YtgjikoebneiamaaLShelf

namespace Go.Proofs.Ytgjikoebneiamaa
open Go.RowKit

/-- Block b is a row of N numbers. -/
def RowAt (b N : Nat) (f : Nat → Int) (W : World) : Prop :=
  ∃ arr, W.heap[b]? = some (.cells arr 3) ∧ arr.size = N ∧ ∀ i, i < N → arr[i]? = some (.int .i64 (f i))
theorem RowAt.cell {b N : Nat} {f : Nat → Int} {W : World} (h : RowAt b N f W) {i : Nat} (hi : i < N) : W.cell? ⟨b, i, none⟩ = some (.int .i64 (f i)) := by
  obtain ⟨arr, h1, h2, h3⟩ := h
  rw [cell_of h1]; exact h3 i hi
theorem RowAt.frozen {b N : Nat} {f : Nat → Int} {W : World} (h : RowAt b N f W) (i : Nat) : W.frozen? ⟨b, i, none⟩ = false := by
  obtain ⟨arr, h1, _⟩ := h
  exact frozen_of h1 i
theorem RowAt.lt {b N : Nat} {f : Nat → Int} {W : World} (h : RowAt b N f W) : b < W.heap.size := by
  obtain ⟨arr, h1, _⟩ := h
  exact heap_lt h1
theorem RowAt.kept {b N : Nat} {f : Nat → Int} {W W' : World} (h : RowAt b N f W) (hk : W'.heap[b]? = W.heap[b]?) : RowAt b N f W' := by
  obtain ⟨arr, h1, h2⟩ := h
  exact ⟨arr, hk.trans h1, h2⟩
theorem RowAt.set {b N : Nat} {f : Nat → Int} {W : World} (h : RowAt b N f W) {o : Nat} (ho : o < N) (x : Int) : RowAt b N (fun i => if i = o then x else f i) (W.setCell ⟨b, o, none⟩ (.int .i64 x)) := by
  obtain ⟨arr, h1, h2, h3⟩ := h
  refine ⟨_, heap_setCell_same h1, by simp [h2], fun i hi => ?_⟩
  by_cases e : i = o
  · subst e; simp [h2, ho]
  · rw [Array.getElem?_setIfInBounds_ne (by omega)]; simp only [if_neg e]; exact h3 i hi
theorem RowAt.sets {b N : Nat} : ∀ (xs : List Int) (f : Nat → Int) (W : World) (o : Nat), RowAt b N f W → o + xs.length ≤ N →
    RowAt b N (fun i => if o ≤ i ∧ i < o + xs.length then nth xs (i - o) else f i) (W.setCells b o (xs.map (Value.int .i64)))
  | [], f, W, o, h, _ => by
    have e : (fun i => if o ≤ i ∧ i < o + ([] : List Int).length then nth [] (i - o) else f i) = f := by
      funext i; rw [if_neg (by simp only [List.length_nil]; omega)]
    rw [e]; exact h
  | x :: xs, f, W, o, h, hl => by
    simp only [List.length_cons] at hl
    have := RowAt.sets xs _ _ (o + 1) (h.set (o := o) (by omega) x) (by omega)
    have e : (fun i => if o + 1 ≤ i ∧ i < o + 1 + xs.length then nth xs (i - (o + 1)) else if i = o then x else f i) = (fun i => if o ≤ i ∧ i < o + (x :: xs).length then nth (x :: xs) (i - o) else f i) := by
      funext i
      simp only [List.length_cons]
      by_cases h1 : i = o
      · subst h1; rw [if_neg (by omega), if_pos rfl, if_pos (by omega), Nat.sub_self]; rfl
      · rw [if_neg h1]
        by_cases h2 : o + 1 ≤ i ∧ i < o + 1 + xs.length
        · rw [if_pos h2, if_pos (by omega), show i - o = (i - (o + 1)) + 1 by omega]; rfl
        · rw [if_neg h2, if_neg (by omega)]
    rw [e] at this
    exact this
theorem kept_sets {b : Nat} : ∀ (vs : List Value) (W : World) (o : Nat), KeptBut (fun j => j = b) W (W.setCells b o vs)
  | [], W, _ => KeptBut.refl _ W
  | v :: vs, W, o => (KeptBut.setCell (own := fun j => j = b) W ⟨b, o, none⟩ v rfl).trans (kept_sets vs _ (o + 1))
theorem RowAt.drewN {b N : Nat} {f : Nat → Int} {W : World} (h : RowAt b N f W) (q : Nat) : RowAt b N f (W.drewN q) := h
theorem kept_drewN {own : Nat → Prop} (W : World) (q : Nat) : KeptBut own W (W.drewN q) := ⟨rfl, rfl, rfl, Nat.le_refl _, fun _ _ _ => rfl⟩
theorem kept_drew {own : Nat → Prop} (W : World) : KeptBut own W W.drew := ⟨rfl, rfl, rfl, Nat.le_refl _, fun _ _ _ => rfl⟩

/-- Part of a row of numbers holds a list. -/
def Holds (f : Nat → Int) (o : Nat) (c : List Int) : Prop := ∀ j, j < c.length → f (o + j) = nth c j

theorem nth_app {a b : List Int} {j : Nat} : nth (a ++ b) j = if j < a.length then nth a j else nth b (j - a.length) := by
  unfold nth
  by_cases h : j < a.length
  · rw [if_pos h]; simp [List.getElem?_append_left h]
  · rw [if_neg h]; simp [List.getElem?_append_right (Nat.le_of_not_lt h)]
theorem nth_takeL {a : List Int} {p j : Nat} (h : j < p) : nth (a.take p) j = nth a j := by simp [nth, h]
theorem nth_dropL {a : List Int} {p j : Nat} : nth (a.drop p) j = nth a (p + j) := by simp [nth, List.getElem?_drop]

/-- slices.Insert of one number, where there is room. -/
theorem insert_any (b N o c p vb : Nat) (cap : Nat) (cab : List Int) (x : Int) (f : Nat → Int) (W : World) (hR : RowAt b N f W) (hH : Holds f o cab) (hc : c = cab.length) (hcap : c < cap) (hN : o + cap ≤ N) (hc63 : cap ≤ 9223372036854775807)
    (hp : p ≤ c) (hvb : vb ≠ b) (hv : ∃ t, W.heap[vb]? = some (.cells #[.int .i64 x] t)) :
    Calls Try.prog 122 #[.slice (some ⟨b, o, none⟩) c cap, .int .i64 p, .slice (some ⟨vb, 0, none⟩) 1 1] W fun e W' =>
      e = .returned (.slice (some ⟨b, o, none⟩) (c + 1) cap) ∧ KeptBut (fun j => j = b) W W' ∧ ∃ f', RowAt b N f' W' ∧ Holds f' o (cab.take p ++ x :: cab.drop p) ∧ ∀ i, i < o → f' i = f i := by
  obtain ⟨t, hv⟩ := hv
  have hv0 := (cell_of hv 0).trans (show _ = some (Value.int .i64 x) from rfl)
  by_cases e : p = c
  · subst e
    refine (Any2.slices_Insert_int_end_room Try.laysNm221 b o p cap vb 0 1 1 [.int .i64 x] W (by omega) (by omega) hc63 rfl
      (fun j hj => by rw [show o + p + j = o + p by omega, hR.cell (by omega)]; rfl) (fun j _ => hR.frozen _)
      (fun j v hj => by
        cases j with
        | zero => simp only [List.getElem?_cons_zero, Option.some.injEq] at hj; subst hj; exact hv0
        | succ j => simp at hj) (by simp [Value.oneCell'])).mono ?_
    rintro e W' ⟨rfl, rfl⟩
    refine ⟨rfl, kept_sets _ _ _, _, RowAt.sets [x] f W (o + p) hR (by simp; omega), fun j hj => ?_, fun i hi => by rw [if_neg (by omega)]⟩
    have hd : cab.drop p = [] := List.drop_eq_nil_of_le (by omega)
    have ht : cab.take p = cab := List.take_of_length_le (by omega)
    rw [hd, ht] at hj ⊢
    simp only [List.length_append, List.length_cons, List.length_nil] at hj ⊢
    rw [nth_app]
    by_cases hj2 : j < cab.length
    · rw [if_pos hj2, if_neg (by omega)]; exact hH j hj2
    · rw [if_neg hj2, if_pos (by omega), show o + j - (o + p) = j - cab.length by omega]
  · have hlt : p < c := by omega
    obtain ⟨arr, h1, h2, h3⟩ := hR
    have hR : RowAt b N f W := ⟨arr, h1, h2, h3⟩
    refine (Any2.slices_Insert_int_shift Try.laysNm221 b o c cap p vb 0 1 1 (cab.map (Value.int .i64)) [.int .i64 x] W hlt (by omega) (by omega) hc63 hvb (by simp [hc]) rfl
      (fun j v hj => by
        rw [List.getElem?_map] at hj
        have hjl : j < cab.length := by
          by_cases q : j < cab.length
          · exact q
          · rw [List.getElem?_eq_none (by omega)] at hj; cases hj
        rw [hR.cell (by omega), hH j hjl, nth_lt hjl]
        rw [List.getElem?_eq_getElem hjl] at hj
        exact hj)
      (fun j hj => by rw [hR.cell (by omega)]; rfl) (fun j _ => hR.frozen _)
      (fun j v hj => by
        cases j with
        | zero => simp only [List.getElem?_cons_zero, Option.some.injEq] at hj; subst hj; exact hv0
        | succ j => simp at hj) (by simp [Value.oneCell']) (by simp [Value.oneCell']) t 3 1 N (by simp [World.shape?, hv]) (by simp [World.shape?, h1, h2]) (by omega) (frozen_of hv 0) (frozen_of hv 1)).mono ?_
    rintro e W' ⟨rfl, rfl⟩
    have hR1 : RowAt b N f W.drew := hR
    have hmd : (cab.map (Value.int .i64)).drop p = (cab.drop p).map (Value.int .i64) := List.map_drop.symm
    have hs1 := RowAt.sets (cab.drop p) f W.drew (o + (p + 1)) hR1 (by simp; omega)
    have hs2 := RowAt.sets [x] _ _ (o + p) hs1 (by simp; omega)
    rw [hmd]
    refine ⟨rfl, ((kept_drew W).trans (kept_sets _ _ _)).trans (kept_sets _ _ _), _, hs2, fun j hj => ?_, fun i hi => by rw [if_neg (by omega), if_neg (by omega)]⟩
    simp only [List.length_append, List.length_cons, List.length_take, List.length_drop, List.length_nil] at hj ⊢
    rw [nth_app]
    simp only [List.length_take]
    by_cases hj1 : j < p
    · rw [if_neg (by omega), if_neg (by omega), if_pos (by omega), nth_takeL hj1]; exact hH j (by omega)
    · by_cases hj2 : j = p
      · subst hj2; rw [if_pos (by omega), if_neg (by omega), show o + j - (o + j) = 0 by omega, show j - min j cab.length = 0 by omega]; rfl
      · rw [if_neg (by omega), if_pos (by omega), if_neg (by omega), show j - min p cab.length = (j - (p + 1)) + 1 by omega, show o + j - (o + (p + 1)) = j - (p + 1) by omega]; rfl

/-- slices.Delete of one number. -/
theorem delete_any (b N o c p : Nat) (cap : Nat) (cab : List Int) (f : Nat → Int) (W : World) (hR : RowAt b N f W) (hH : Holds f o cab) (hc : c = cab.length) (hcap : c ≤ cap) (hN : o + cap ≤ N) (hc63 : cap ≤ 9223372036854775807) (hp : p < c) :
    Calls Try.prog 123 #[.slice (some ⟨b, o, none⟩) c cap, .int .i64 p, .int .i64 (p + 1 : Nat)] W fun e W' =>
      e = .returned (.slice (some ⟨b, o, none⟩) (c - 1) cap) ∧ KeptBut (fun j => j = b) W W' ∧ ∃ f', RowAt b N f' W' ∧ Holds f' o (cab.take p ++ cab.drop (p + 1)) ∧ ∀ i, i < o → f' i = f i := by
  refine (Try.slices_Delete_int_cells b o c cap p (p + 1) cab W (by omega) hcap hc63 (by omega) (by omega) (fun j hj => by rw [hR.cell (by omega), hH j hj]; rfl) (fun j _ => hR.frozen _)).mono ?_
  rintro e W' ⟨rfl, q, rfl⟩
  have ht : cab.take c = cab := List.take_of_length_le (by omega)
  rw [ht, show p + 1 - p = 1 by omega]
  have hs := RowAt.sets (cab.take p ++ cab.drop (p + 1) ++ List.replicate 1 0) f (W.drewN q) o (hR.drewN q) (by simp; omega)
  refine ⟨rfl, (kept_drewN W q).trans (kept_sets _ _ _), _, hs, fun j hj => ?_, fun i hi => by rw [if_neg (by omega)]⟩
  have hj' := hj
  simp only [List.length_append, List.length_take, List.length_drop, List.length_replicate] at hj' ⊢
  rw [if_pos (by omega), show o + j - o = j by omega, nth_app (b := List.replicate 1 0), if_pos hj]

/-- slices.Reverse. -/
theorem reverse_any (b N o c : Nat) (cap : Nat) (cab : List Int) (f : Nat → Int) (W : World) (hR : RowAt b N f W) (hH : Holds f o cab) (hc : c = cab.length) (hcap : c ≤ cap) (hN : o + cap ≤ N) (hc63 : cap ≤ 9223372036854775807) :
    Calls Try.prog 124 #[.slice (some ⟨b, o, none⟩) c cap] W fun e W' =>
      e = .returned (.tuple #[]) ∧ KeptBut (fun j => j = b) W W' ∧ ∃ f', RowAt b N f' W' ∧ Holds f' o cab.reverse ∧ ∀ i, i < o → f' i = f i := by
  refine (Try.slices_Reverse_int_cells b o c cap cab W (by omega) (by omega) (fun j hj => by rw [hR.cell (by omega), hH j hj]; rfl) (fun j _ => hR.frozen _)).mono ?_
  rintro e W' ⟨rfl, q, rfl⟩
  have ht : cab.take c = cab := List.take_of_length_le (by omega)
  rw [ht]
  have hs := RowAt.sets cab.reverse f (W.drewN q) o (hR.drewN q) (by simp; omega)
  refine ⟨rfl, (kept_drewN W q).trans (kept_sets _ _ _), _, hs, fun j hj => ?_, fun i hi => by rw [if_neg (by omega)]⟩
  show (if o ≤ o + j ∧ o + j < o + cab.reverse.length then nth cab.reverse (o + j - o) else f (o + j)) = _
  rw [if_pos (by omega), show o + j - o = j by omega]

end Go.Proofs.Ytgjikoebneiamaa
