/-
  Links, math: the first sight that contradicts, and the least number of sights that are not right.
-/
import Derived.Test.YthclinhikhinpaaLFirst

namespace Go.Proofs.Ythclinhikhinpaa

/-- The chain with its first k sights alone. -/
def cutS (C : Chain) (k : Nat) : Chain := ⟨C.deeds, C.sights.take k, C.wrong⟩
theorem cutS_len {C : Chain} {k : Nat} (h : k ≤ C.sights.length) : (cutS C k).sights.length = k := by simp [cutS]; omega
theorem cutS_nth {C : Chain} {k i : Nat} (h : i < k) : snth (cutS C k).sights i = snth C.sights i := by
  simp [cutS, snth, List.getD_eq_getElem?_getD, h]
theorem cutS_valid {C : Chain} {k : Nat} (hV : Valid C) (h : k ≤ C.sights.length) : Valid (cutS C k) :=
  ⟨hV.nd, by rw [cutS_len h]; have := hV.ns; omega, hV.wrong, hV.deed, fun j hj => by rw [cutS_len h] at hj; rw [cutS_nth hj]; exact hV.sight j (by omega)⟩
theorem cutS_wrongsTo {C : Chain} {x : List Int} {k : Nat} : ∀ {i : Nat}, i ≤ k → wrongsTo (cutS C k) x i = wrongsTo C x i
  | 0, _ => rfl
  | i + 1, h => by simp only [wrongsTo]; rw [cutS_wrongsTo (by omega), cutS_nth (by omega)]; rfl
theorem cutS_badTo {C : Chain} {x : List Int} {k : Nat} : ∀ {i : Nat}, i ≤ k → badTo (cutS C k) x i = badTo C x i
  | 0, _ => rfl
  | i + 1, h => by simp only [badTo]; rw [cutS_badTo (by omega), cutS_nth (by omega)]; rfl
theorem bad_iff {C : Chain} {x : List Int} : ∀ {k : Nat}, badTo C x k < 0 ↔ wrongsTo C x k = 0
  | 0 => by simp [badTo, wrongsTo]
  | k + 1 => by
    have h1 := badTo_bound C x k
    have h2 := wrongsTo_le C x k
    have ih := bad_iff (C := C) (x := x) (k := k)
    simp only [badTo, wrongsTo]
    by_cases h : 0 ≤ badTo C x k
    · rw [if_pos h]
      have : wrongsTo C x k ≠ 0 := fun e => by have := ih.2 e; omega
      split <;> omega
    · rw [if_neg h]
      have := ih.1 (by omega)
      split <;> omega
theorem pasts_some (ds : List Deed) : ∃ x, x ∈ pastsL ds := ⟨endsOf ds 0, List.mem_map.2 ⟨0, List.mem_range.2 (Nat.two_pow_pos _), rfl⟩⟩
theorem fewOf_spec (C : Chain) : ∀ (l : List (List Int)) (m : Int), (l.foldl (fun m e => min m (wrongs C e)) m ≤ m ∧ ∀ x ∈ l, l.foldl (fun m e => min m (wrongs C e)) m ≤ wrongs C x) ∧
    (l.foldl (fun m e => min m (wrongs C e)) m = m ∨ ∃ x ∈ l, l.foldl (fun m e => min m (wrongs C e)) m = wrongs C x)
  | [], m => by simp
  | y :: l, m => by
    obtain ⟨⟨h1, h2⟩, h3⟩ := fewOf_spec C l (min m (wrongs C y))
    simp only [List.foldl_cons, List.mem_cons]
    refine ⟨⟨by omega, fun x hx => ?_⟩, ?_⟩
    · rcases hx with rfl | hx
      · omega
      · exact h2 x hx
    · rcases h3 with h3 | ⟨x, hx, h3⟩
      · by_cases hm : m ≤ wrongs C y
        · left; omega
        · right; exact ⟨y, .inl rfl, by omega⟩
      · exact .inr ⟨x, .inr hx, h3⟩
theorem fewV_le {C : Chain} {x : List Int} (h : x ∈ pastsL C.deeds) : fewV C ≤ wrongs C x := (fewOf_spec C _ _).1.2 x h
theorem fewV_is (C : Chain) : ∃ x ∈ pastsL C.deeds, fewV C = wrongs C x := by
  rcases (fewOf_spec C (pastsL C.deeds) C.sights.length).2 with h | h
  · obtain ⟨x, hx⟩ := pasts_some C.deeds
    refine ⟨x, hx, ?_⟩
    have h1 := fewV_le hx
    have h2 := (wrongsTo_le C x C.sights.length).2
    have h3 : fewV C = C.sights.length := h
    have : wrongs C x = wrongsTo C x C.sights.length := rfl
    omega
  · exact h
theorem fewV_bound (C : Chain) : 0 ≤ fewV C ∧ fewV C ≤ C.sights.length := by
  obtain ⟨x, _, h⟩ := fewV_is C
  have := wrongsTo_le C x C.sights.length
  rw [h]
  exact this
theorem badMax_spec (C : Chain) : ∀ (l : List (List Int)) (m : Int), (m ≤ l.foldl (fun m x => max m (badV C x)) m ∧ ∀ x ∈ l, badV C x ≤ l.foldl (fun m x => max m (badV C x)) m) ∧
    (l.foldl (fun m x => max m (badV C x)) m = m ∨ ∃ x ∈ l, l.foldl (fun m x => max m (badV C x)) m = badV C x)
  | [], m => by simp
  | y :: l, m => by
    obtain ⟨⟨h1, h2⟩, h3⟩ := badMax_spec C l (max m (badV C y))
    simp only [List.foldl_cons, List.mem_cons]
    refine ⟨⟨by omega, fun x hx => ?_⟩, ?_⟩
    · rcases hx with rfl | hx
      · omega
      · exact h2 x hx
    · rcases h3 with h3 | ⟨x, hx, h3⟩
      · by_cases hm : badV C y ≤ m
        · left; omega
        · right; exact ⟨y, .inl rfl, by omega⟩
      · exact .inr ⟨x, .inr hx, h3⟩
theorem some_iff {C : Chain} : someGood C = true ↔ ∃ x ∈ pastsL C.deeds, badV C x < 0 := by simp [someGood]
/-- Where there is a contradiction: its sight, of all pasts, and of one that lasts so long. -/
theorem first_is {C : Chain} (h : someGood C = false) : ∃ k : Nat, k < C.sights.length ∧ firstV C = k ∧ firstE C = 0 ∧ (∀ x ∈ pastsL C.deeds, 0 ≤ badV C x ∧ badV C x ≤ k) ∧ ∃ x ∈ pastsL C.deeds, badV C x = k := by
  have hall : ∀ x ∈ pastsL C.deeds, 0 ≤ badV C x := fun x hx => by
    refine Int.not_lt.1 fun hlt => ?_
    rw [some_iff.2 ⟨x, hx, hlt⟩] at h
    cases h
  obtain ⟨⟨h1, h2⟩, h3⟩ := badMax_spec C (pastsL C.deeds) 0
  have hv : firstV C = badMax C (pastsL C.deeds) := by simp [firstV, h]
  have he : firstE C = 0 := by simp [firstE, h]
  have hx : ∃ x ∈ pastsL C.deeds, badV C x = badMax C (pastsL C.deeds) := by
    rcases h3 with h3 | ⟨x, hx, h3⟩
    · obtain ⟨x, hx⟩ := pasts_some C.deeds
      refine ⟨x, hx, ?_⟩
      have h4 := hall x hx
      have h5 := h2 x hx
      have : badMax C (pastsL C.deeds) = 0 := h3
      have : badV C x ≤ badMax C (pastsL C.deeds) := h5
      omega
    · exact ⟨x, hx, h3.symm⟩
  obtain ⟨x, hx, hxe⟩ := hx
  have hb := badTo_bound C x C.sights.length
  have hb0 := hall x hx
  obtain ⟨k, hk⟩ := Int.eq_ofNat_of_zero_le hb0
  have hbv : badV C x = badTo C x C.sights.length := rfl
  refine ⟨k, by omega, by rw [hv, ← hxe, hk], he, fun y hy => ⟨hall y hy, ?_⟩, x, hx, hk⟩
  have : badV C y ≤ badMax C (pastsL C.deeds) := h2 y hy
  omega
theorem few_pos {C : Chain} : someGood C = true ↔ fewV C = 0 := by
  rw [some_iff]
  constructor
  · rintro ⟨x, hx, h⟩
    have h1 := fewV_le hx
    have h2 := (bad_iff (C := C) (x := x) (k := C.sights.length)).1 h
    have h3 := (fewV_bound C).1
    have : wrongs C x = wrongsTo C x C.sights.length := rfl
    omega
  · intro h
    obtain ⟨x, hx, he⟩ := fewV_is C
    exact ⟨x, hx, bad_iff.2 (by rw [h] at he; exact he.symm)⟩
theorem bad_before {C : Chain} {x : List Int} {n j : Nat} (h : badTo C x n = j) (hj : j ≤ n) : badTo C x j < 0 := by
  refine Int.not_le.1 fun h0 => ?_
  have := badTo_stay h0 hj
  have := (badTo_bound C x j).2
  omega
theorem bad_at {C : Chain} {x : List Int} {n j : Nat} (h : badTo C x n = j) (hj : j < n) : badTo C x (j + 1) = j := by
  by_cases h0 : 0 ≤ badTo C x (j + 1)
  · rw [← badTo_stay h0 (show j + 1 ≤ n by omega), h]
  · exfalso
    have key : ∀ m, j + 1 ≤ m → badTo C x m = -1 ∨ (j : Int) + 1 ≤ badTo C x m := by
      intro m
      induction m with
      | zero => intro hm; omega
      | succ m ih =>
        intro hm
        by_cases e : j + 1 = m + 1
        · have := (badTo_bound C x (j + 1)).1
          rw [← e]
          left; omega
        · have := ih (by omega)
          simp only [badTo]
          split
          · omega
          · split
            · exact .inl rfl
            · right; omega
    have := key n (by omega)
    omega
/-- What there is to know of the chain cut before its contradiction, and behind it. -/
theorem contra {C : Chain} {k : Nat} (hk : k < C.sights.length) (hall : ∀ x ∈ pastsL C.deeds, 0 ≤ badV C x ∧ badV C x ≤ k) (hx : ∃ x ∈ pastsL C.deeds, badV C x = k) :
    fewV (cutS C k) = 0 ∧ fewV (cutS C (k + 1)) = 1 ∧ firstV (cutS C (k + 1)) = k ∧ firstE (cutS C (k + 1)) = 0 ∧ firstE (cutS C k) = 3 := by
  obtain ⟨x, hx, he⟩ := hx
  have hpd : ∀ j, pastsL (cutS C j).deeds = pastsL C.deeds := fun _ => rfl
  have hb0 : badTo C x k < 0 := bad_before (n := C.sights.length) he (by omega)
  have hg : someGood (cutS C k) = true := some_iff.2 ⟨x, hx, by
    show badTo (cutS C k) x (cutS C k).sights.length < 0
    rw [cutS_len (by omega), cutS_badTo (Nat.le_refl _)]; exact hb0⟩
  have hbv : ∀ y ∈ pastsL C.deeds, badV (cutS C (k + 1)) y = badV C y := fun y hy => by
    obtain ⟨h1, h2⟩ := hall y hy
    obtain ⟨j, hj⟩ := Int.eq_ofNat_of_zero_le h1
    have hj' : badTo C y C.sights.length = j := hj
    show badTo (cutS C (k + 1)) y (cutS C (k + 1)).sights.length = badV C y
    rw [cutS_len (by omega), cutS_badTo (Nat.le_refl _), hj]
    have := bad_at hj' (by omega)
    have h0 : 0 ≤ badTo C y (j + 1) := by omega
    rw [badTo_stay h0 (show j + 1 ≤ k + 1 by omega)]
    exact this
  have hg2 : someGood (cutS C (k + 1)) = false := by
    cases h : someGood (cutS C (k + 1))
    · rfl
    · obtain ⟨y, hy, hlt⟩ := some_iff.1 h
      rw [hbv y hy] at hlt
      have := (hall y hy).1
      omega
  obtain ⟨k', _, hv, he', hall', y, hy, hye⟩ := first_is hg2
  rw [hbv y hy] at hye
  have h1 := (hall y hy).2
  have h2 := (hall' x hx).2
  rw [hbv x hx] at h2
  have hkk : k' = k := by omega
  refine ⟨few_pos.1 hg, ?_, by rw [hv, hkk], he', by simp [firstE, hg]⟩
  have hw : wrongs (cutS C (k + 1)) x ≤ 1 := by
    show wrongsTo (cutS C (k + 1)) x (cutS C (k + 1)).sights.length ≤ 1
    rw [cutS_len (by omega), cutS_wrongsTo (Nat.le_refl _)]
    simp only [wrongsTo]
    have := bad_iff.1 hb0
    split <;> omega
  have hle := fewV_le (C := cutS C (k + 1)) hx
  have hb := (fewV_bound (cutS C (k + 1))).1
  have hne : fewV (cutS C (k + 1)) ≠ 0 := fun e => by rw [few_pos.2 e] at hg2; cases hg2
  omega

end Go.Proofs.Ythclinhikhinpaa
