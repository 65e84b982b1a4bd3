/-
  A region that draws its order, by an invariant: what holds of the listed operations holds behind each that comes up.
-/
import Derived.Test.YtjflpmhlodgadaaEdit
import Derived.Orders
namespace Go.Proofs.Ytjflpmhlodgadaa
open Go.RowKit

theorem count_set {l : List Bool} {i : Nat} (hi : l[i]? = some false) : (l.set i true).count false + 1 = l.count false := by
  induction l generalizing i with
  | nil => simp at hi
  | cons x xs ih =>
    cases i with
    | zero =>
      have : x = false := by simpa using hi
      subst this
      simp
    | succ i =>
      have := ih (i := i) (by simpa using hi)
      simp only [List.set_cons_succ, List.count_cons]
      omega
theorem wpAny_inv {P : Program} {md : Region.Mode} {ops : Array Oper} {Q : Exit → Act → World → Prop} (I : Array Bool → Act → World → Prop)
    (hsz : ∀ l a w, I l a w → l.size = ops.size)
    (hend : ∀ l a w, I l a w → (∀ i, i < ops.size → l[i]? = some true) → Q .normal a w)
    (hgo : ∀ l a w, I l a w → (∃ i : Nat, i < ops.size ∧ l[i]? = some false) → Region.ready md ops l ≠ [])
    (hstep : ∀ l a w i, I l a w → l[i]? = some false → (∀ o, ops[i]? = some o → ∀ e ∈ o.after, Region.binds md e = true → l.getD e.on false = true) → wpOp P ops Q i (I (l.setIfInBounds i true)) a w) :
    ∀ (n : Nat) (l : Array Bool) (a : Act) (w : World), l.toList.count false = n → I l a w → wpAny P md ops Q n l a w := by
  have hdone : ∀ l a w, I l a w → Region.ready md ops l = [] → Q .normal a w := fun l a w hI hr => by
    refine hend l a w hI fun i hi => ?_
    have hs := hsz l a w hI
    cases hb : l[i]? with
    | none => rw [Array.getElem?_eq_none_iff] at hb; omega
    | some b =>
      cases b
      · exact absurd hr (hgo l a w hI ⟨i, hi, hb⟩)
      · rfl
  have hall : ∀ l a w i, I l a w → i ∈ Region.ready md ops l → l[i]? = some false ∧ ∀ o, ops[i]? = some o → ∀ e ∈ o.after, Region.binds md e = true → l.getD e.on false = true := fun l a w i hI hi => by
    obtain ⟨h1, o, h2, h3⟩ := mem_ready.1 hi
    refine ⟨?_, fun o' ho' => ?_⟩
    · have hs := hsz l a w hI
      have := (Array.getElem?_eq_some_iff.1 h2).1
      rw [Array.getElem?_eq_getElem (by omega)]
      simp [Array.getD, show i < l.size by omega] at h1
      rw [h1]
    · rw [h2] at ho'
      injection ho' with ho'
      subst ho'
      exact h3
  intro n
  induction n with
  | zero =>
    intro l a w hn hI
    have hr : Region.ready md ops l = [] := by
      rw [List.eq_nil_iff_forall_not_mem]
      intro i hi
      obtain ⟨h1, _⟩ := hall l a w i hI hi
      rw [List.count_eq_zero] at hn
      exact hn (Array.mem_toList_iff.2 (Array.mem_of_getElem? h1))
    exact ⟨hr, hdone l a w hI hr⟩
  | succ n ih =>
    intro l a w hn hI
    refine ⟨hdone l a w hI, fun i hi => ?_⟩
    obtain ⟨h1, h2⟩ := hall l a w i hI hi
    refine wpOp_mono (fun a' w' hI' => ih _ a' w' ?_ hI') (hstep l a w i hI h1 h2)
    have := count_set (l := l.toList) (i := i) (by simpa using h1)
    simp only [Array.toList_setIfInBounds]
    omega
theorem wp_region_inv {P : Program} {ops : Array Oper} {Q : Exit → Act → World → Prop} {id : Nat} {a : Act} {w : World} (hm : P.follows .mixedOrders = true) (I : Array Bool → Act → World → Prop)
    (hsz : ∀ l a w, I l a w → l.size = ops.size)
    (hend : ∀ l a w, I l a w → (∀ i, i < ops.size → l[i]? = some true) → Q .normal a w)
    (hgo : ∀ l a w, I l a w → (∃ i : Nat, i < ops.size ∧ l[i]? = some false) → Region.ready .any ops l ≠ [])
    (hstep : ∀ l a w i, I l a w → l[i]? = some false → (∀ o, ops[i]? = some o → ∀ e ∈ o.after, Region.binds .any e = true → l.getD e.on false = true) → wpOp P ops Q i (I (l.setIfInBounds i true)) a w)
    (h0 : I (Array.replicate ops.size false) a { w with drawn := w.drawn + 1 }) : (Code.region id ops true).wp P Q a w :=
  wp_region_any hm (wpAny_inv I hsz hend hgo hstep _ _ _ _ (by simp) h0)
/-- The first that is not listed may come up, if each waits for earlier ones alone. -/
theorem ready_some {md : Region.Mode} {ops : Array Oper} {l : Array Bool} (hs : l.size = ops.size) (hb : ∀ (i : Nat) (o : Oper), ops[i]? = some o → ∀ e ∈ o.after, e.on < i) (h : ∃ i : Nat, i < ops.size ∧ l[i]? = some false) : Region.ready md ops l ≠ [] := by
  have : ∀ n i : Nat, i ≤ n → i < ops.size → l[i]? = some false → ∃ j, j ∈ Region.ready md ops l := by
    intro n
    induction n with
    | zero =>
      intro i hi hlt hf
      refine ⟨i, mem_ready.2 ⟨by simp [Array.getD, show i < l.size by omega]; rw [Array.getElem?_eq_getElem (by omega)] at hf; simpa using hf, ops[i], Array.getElem?_eq_getElem hlt, fun e he _ => ?_⟩⟩
      have := hb i ops[i] (Array.getElem?_eq_getElem hlt) e he
      omega
    | succ n ih =>
      intro i hi hlt hf
      by_cases hc : ∃ j, j < i ∧ l[j]? = some false
      · obtain ⟨j, hj, hfj⟩ := hc
        exact ih j (by omega) (by omega) hfj
      · refine ⟨i, mem_ready.2 ⟨by simp [Array.getD, show i < l.size by omega]; rw [Array.getElem?_eq_getElem (by omega)] at hf; simpa using hf, ops[i], Array.getElem?_eq_getElem hlt, fun e he _ => ?_⟩⟩
        have hlt' := hb i ops[i] (Array.getElem?_eq_getElem hlt) e he
        have hx : l[e.on]? = some true := by
          cases hb : l[e.on]? with
          | none => rw [Array.getElem?_eq_none_iff] at hb; omega
          | some b =>
            cases b
            · exact absurd ⟨e.on, hlt', hb⟩ hc
            · rfl
        rw [Array.getElem?_eq_getElem (by omega)] at hx
        simp [Array.getD, show e.on < l.size by omega]
        simpa using hx
  obtain ⟨i, h1, h2⟩ := h
  obtain ⟨j, hj⟩ := this i i (Nat.le_refl _) h1 h2
  exact List.ne_nil_of_mem hj
end Go.Proofs.Ytjflpmhlodgadaa
