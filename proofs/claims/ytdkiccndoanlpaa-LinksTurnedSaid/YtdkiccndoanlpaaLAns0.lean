/-
  Links: a list of answers: each once, ascending; a row of memory that is the call's own.
-/
import Derived.Test.YtdkiccndoanlpaaLMany
import Derived.Sort.OwnSortedInts
import Derived.RangeFuncBox
import Derived.Maps.AppendAt

namespace Go.Proofs.Ytdkiccndoanlpaa
open Go.RowKit Go.Shelf

def onceStep (l : List Int) (x : Int) : List Int := if inB l x = true then l else l ++ [x]
/-- Each number once, in the order in which they come first. -/
def onceOf (xs : List Int) : List Int := xs.foldl onceStep []
theorem once_snoc (xs : List Int) (x : Int) : onceOf (xs ++ [x]) = onceStep (onceOf xs) x := by simp [onceOf]
theorem mem_onceStep {l : List Int} {x y : Int} : y ∈ onceStep l x ↔ y ∈ l ∨ y = x := by
  unfold onceStep
  by_cases h : inB l x = true
  · rw [if_pos h]
    simp only [inB, decide_eq_true_eq] at h
    exact ⟨.inl, fun h' => h'.elim id (fun e => e ▸ h)⟩
  · rw [if_neg h]; simp
theorem once_acc : ∀ (xs l : List Int), l.Nodup → (xs.foldl onceStep l).Nodup ∧ (xs.foldl onceStep l).length ≤ l.length + xs.length ∧ ∀ y, y ∈ xs.foldl onceStep l ↔ y ∈ l ∨ y ∈ xs
  | [], l, h => ⟨h, by simp, by simp⟩
  | x :: xs, l, h => by
    have hn : (onceStep l x).Nodup := by
      unfold onceStep
      by_cases hx : inB l x = true
      · rw [if_pos hx]; exact h
      · rw [if_neg hx]
        simp only [inB, decide_eq_true_eq] at hx
        rw [List.nodup_append]
        refine ⟨h, by simp, fun a ha b hb => ?_⟩
        simp only [List.mem_singleton] at hb
        subst hb
        rintro rfl
        exact hx ha
    have hl : (onceStep l x).length ≤ l.length + 1 := by unfold onceStep; split <;> simp
    obtain ⟨h1, h2, h3⟩ := once_acc xs (onceStep l x) hn
    refine ⟨h1, by simp only [List.foldl_cons, List.length_cons]; omega, fun y => ?_⟩
    rw [List.foldl_cons, h3, mem_onceStep, List.mem_cons]
    exact ⟨fun h => h.elim (fun h => h.elim .inl (fun e => .inr (.inl e))) (fun h => .inr (.inr h)), fun h => h.elim (fun h => .inl (.inl h)) (fun h => h.elim (fun e => .inl (.inr e)) .inr)⟩
theorem once_nodup (xs : List Int) : (onceOf xs).Nodup := (once_acc xs [] (by simp)).1
theorem once_len (xs : List Int) : (onceOf xs).length ≤ xs.length := by have := (once_acc xs [] (by simp)).2.1; simpa [onceOf] using this
theorem mem_once {xs : List Int} {y : Int} : y ∈ onceOf xs ↔ y ∈ xs := by have := (once_acc xs [] (by simp)).2.2 y; simpa [onceOf] using this
/-- Each number once, ascending. -/
def srt (xs : List Int) : List Int := (onceOf xs).mergeSort fun x y => decide (x ≤ y)
theorem srt_perm (xs : List Int) : (srt xs).Perm (onceOf xs) := List.mergeSort_perm _ _
theorem mem_srt {xs : List Int} {y : Int} : y ∈ srt xs ↔ y ∈ xs := by rw [(srt_perm xs).mem_iff, mem_once]
theorem srt_len (xs : List Int) : (srt xs).length = (onceOf xs).length := (srt_perm xs).length_eq
theorem srt_sorted (xs : List Int) : (srt xs).Pairwise (· < ·) := by
  have h1 : (srt xs).Pairwise (fun a b => decide (a ≤ b) = true) := List.pairwise_mergeSort (fun a b c h1 h2 => by simp at *; omega) (fun a b => by simp; omega) _
  have h2 : (srt xs).Nodup := (srt_perm xs).nodup_iff.2 (once_nodup xs)
  exact (List.pairwise_and_iff.2 ⟨h1, h2⟩).imp (fun {a b} h => by have h3 := h.1; have h4 := h.2; simp at h3; omega)
theorem srt_sel {xs : List Int} {lo : Int} {n : Nat} (hr : ∀ x ∈ xs, lo ≤ x ∧ x < lo + n) : srt xs = selTo xs lo n := sel_of_sorted (srt_sorted xs) (fun _ => mem_srt) hr

theorem Try_infoInt : (Try.prog.info? 3).map (fun i => (i.zero, i.size, i.bytes)) = some (some (.int .i64 0), 1, 8) := by kernel_rfl
theorem own_form {w : World} {base : Nat} {e : TypeId} {size : Nat} {v : Value} {n : Nat} {xs : List Value} (h : w.ownsRow base e size v n xs) : ∃ A cap, v = .slice A n cap ∧ n ≤ cap := by
  rcases h.2 with ⟨rfl, rfl⟩ | ⟨g, cap, cur, rfl, _, _, hc, _⟩
  · exact ⟨none, 0, rfl, Nat.le_refl _⟩
  · exact ⟨_, cap, rfl, hc⟩
theorem own_keptBut {own : Nat → Prop} {w W : World} {base : Nat} {e : TypeId} {size : Nat} {v : Value} {n : Nat} {xs : List Value} (h : w.ownsRow base e size v n xs) (hk : KeptBut own w W) (ho : ∀ k, own k → k < base) : W.ownsRow base e size v n xs := by
  refine ⟨h.1, ?_⟩
  rcases h.2 with hn | ⟨g, cap, cur, rfl, hb, hgg, rest⟩
  · exact .inl hn
  · exact .inr ⟨g, cap, cur, rfl, hb, (hk.block g (heap_lt hgg) (fun h => by have := ho g h; omega)).trans hgg, rest⟩
theorem ints_of_own {w : World} {base : Nat} {v : Value} {xs : List Int} (h : w.ownsRow base 3 1 v xs.length (xs.map (Value.int .i64))) (hw : ∀ x ∈ xs, I64 x) : IntsAt w.heap.size w v xs := by
  obtain ⟨_, ⟨rfl, h0⟩ | ⟨g, cap, cur, rfl, _, hg, hn, hm, hs, ht⟩⟩ := h
  · exact ⟨none, 0, 0, 0, by rw [h0], by omega, by unfold maxLen; omega, fun h => by omega, fun i hi => by omega, hw⟩
  · refine ⟨_, cap, g, 0, rfl, hn, hm, fun _ => ⟨rfl, (Array.getElem?_eq_some_iff.1 hg).1⟩, fun i hi => ?_, hw⟩
    have h1 : cur.toList[i]? = some (.int .i64 (nth xs i)) := by
      have : (cur.toList.take (xs.length * 1))[i]? = some (.int .i64 (nth xs i)) := by rw [ht]; simp [hi, nth_lt hi]
      rwa [List.getElem?_take_of_lt (by omega)] at this
    simp only [Nat.zero_add, World.cell?, hg, Option.isSome_none, Bool.false_eq_true, if_false]
    rwa [Array.getElem?_toList] at h1
/-- A row of numbers that is the call's own, sorted by the library. -/
theorem sort_own {w : World} {base : Nat} {A : Option Addr} {cap : Nat} {xs : List Int} (h : w.ownsRow base 3 1 (.slice A xs.length cap) xs.length (xs.map (Value.int .i64))) (hlen : xs.length ≤ 4096) :
    Calls Try.prog 116 #[.slice A xs.length cap] w fun e w' => e = .returned (.tuple #[]) ∧ w'.ownsRow base 3 1 (.slice A xs.length cap) xs.length ((xs.mergeSort fun x y => decide (x ≤ y)).map (Value.int .i64)) ∧ KeptBut (fun k => base ≤ k) w w' := by
  have hl : (xs.mergeSort fun x y => decide (x ≤ y)).length = xs.length := (List.mergeSort_perm _ _).length_eq
  rcases h.2 with ⟨hv, h0⟩ | ⟨g, cap', cur, hv, hb, hg, hn, hm, hs, ht⟩
  · have : xs = [] := List.length_eq_zero_iff.1 h0
    subst this
    refine (Try.slices_Sort_int_none A cap w).mono ?_
    rintro e w' ⟨rfl, rfl⟩
    exact ⟨rfl, by simpa using h, KeptBut.refl _ _⟩
  · injection hv with h1 h2 h3
    subst h1; subst h3
    refine (Try.slices_Sort_int g 0 cap xs w (holds_of_blockI hg (by rw [Nat.mul_one] at ht; exact ht)) (heap_lt hg) (by omega)).mono ?_
    rintro e w' ⟨rfl, n, os, rfl⟩
    have hgr := grownBy_sortedI (w := w) (g := g) (n := n) (os := os) (xs.mergeSort fun x y => decide (x ≤ y)).toArray
    exact ⟨rfl, ownsRow_sortedI hl hb hg hn hm hs, ⟨hgr.os, hgr.tape, hgr.output, hgr.size, fun k hk ho => hgr.block k hk (fun e => ho (by injection e with e; omega))⟩⟩

end Go.Proofs.Ytdkiccndoanlpaa
