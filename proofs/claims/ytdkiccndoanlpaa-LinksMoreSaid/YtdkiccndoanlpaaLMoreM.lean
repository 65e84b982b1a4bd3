/-
  Links, math: one more sight.
-/
import Derived.Test.YtdkiccndoanlpaaLSmall

namespace Go.Proofs.Ytdkiccndoanlpaa

def moreS (C : Chain) (s : Sight) : Chain := ⟨C.deeds, C.sights ++ [s], C.wrong⟩
theorem moreS_len (C : Chain) (s : Sight) : (moreS C s).sights.length = C.sights.length + 1 := by simp [moreS]
theorem moreS_old {C : Chain} {s : Sight} {i : Nat} (h : i < C.sights.length) : snth (moreS C s).sights i = snth C.sights i := by
  simp [moreS, snth, List.getD_eq_getElem?_getD, List.getElem?_append_left h]
theorem moreS_new {C : Chain} {s : Sight} : snth (moreS C s).sights C.sights.length = s := by simp [moreS, snth]
theorem moreS_wrongsTo {C : Chain} {s : Sight} {x : List Int} : ∀ {k : Nat}, k ≤ C.sights.length → wrongsTo (moreS C s) x k = wrongsTo C x k
  | 0, _ => rfl
  | k + 1, h => by simp only [wrongsTo]; rw [moreS_wrongsTo (by omega), moreS_old (by omega)]; rfl
theorem moreS_wrongs (C : Chain) (s : Sight) (x : List Int) : wrongs C x ≤ wrongs (moreS C s) x ∧ wrongs (moreS C s) x ≤ wrongs C x + 1 := by
  show wrongsTo C x C.sights.length ≤ wrongsTo (moreS C s) x (moreS C s).sights.length ∧ wrongsTo (moreS C s) x (moreS C s).sights.length ≤ wrongsTo C x C.sights.length + 1
  rw [moreS_len]
  simp only [wrongsTo]
  rw [moreS_wrongsTo (Nat.le_refl _)]
  split <;> omega
theorem more_few (C : Chain) (s : Sight) : fewV C ≤ fewV (moreS C s) ∧ fewV (moreS C s) ≤ fewV C + 1 := by
  obtain ⟨x, hx, h1⟩ := fewV_is (moreS C s)
  obtain ⟨y, hy, h2⟩ := fewV_is C
  have h3 := fewV_le (C := C) (x := x) hx
  have h4 := fewV_le (C := moreS C s) (x := y) hy
  have h5 := moreS_wrongs C s x
  have h6 := moreS_wrongs C s y
  omega
theorem more_truths {C : Chain} {s : Sight} {x : List Int} (h : x ∈ truthsP (moreS C s)) : x ∈ truthsP C := by
  obtain ⟨h1, h2⟩ := mem_truthsP.1 h
  have := moreS_wrongs C s x
  have hw : (moreS C s).wrong = C.wrong := rfl
  exact mem_truthsP.2 ⟨h1, by omega⟩
theorem filter_len {α : Type} {p q : α → Bool} (h : ∀ x, p x = true → q x = true) : ∀ l : List α, (l.filter p).length ≤ (l.filter q).length
  | [] => by simp
  | a :: l => by
    have := filter_len h l
    simp only [List.filter_cons]
    by_cases hp : p a = true
    · rw [if_pos hp, if_pos (h a hp)]; simp; exact this
    · rw [if_neg hp]
      split
      · simp; omega
      · exact this
theorem more_many (C : Chain) (s : Sight) : (truthsP (moreS C s)).length ≤ (truthsP C).length := by
  refine filter_len (fun x hx => ?_) (pastsL C.deeds)
  have := moreS_wrongs C s x
  have hw : (moreS C s).wrong = C.wrong := rfl
  simp only [decide_eq_true_eq] at hx ⊢
  omega
theorem more_sub {C : Chain} {s : Sight} {b : Bool} {f : List Int → Int} : ∀ x ∈ ansV (moreS C s) b f, x ∈ ansV C b f := by
  intro x hx
  unfold ansV at hx ⊢
  split at hx
  · rename_i hb
    rw [if_pos hb]
    rw [mem_srt] at hx ⊢
    obtain ⟨e, he, rfl⟩ := List.mem_map.1 hx
    exact List.mem_map.2 ⟨e, more_truths he, rfl⟩
  · cases hx
theorem more_len {C : Chain} {s : Sight} {b : Bool} {f : List Int → Int} : (ansV (moreS C s) b f).length ≤ (ansV C b f).length := len_le_of (ans_sorted _ _ _) (ans_sorted _ _ _) more_sub

end Go.Proofs.Ytdkiccndoanlpaa
