/-
  Levers: Fewest, Many, Shorts, Leaks and Strange, of any machine, as the program answers and as the reference does.
-/
import Derived.Test.YtomcjopcfdllgaaVErrR

namespace Go.Proofs.Ytomcjopcfdllgaa
open Go.RowKit Go.Shelf

/-- A row of numbers and an error are the answer. -/
def GaveN (r : List Int × Int) (w : World) (e : Ending) (w' : World) : Prop := (∃ q, e = .returned (.tuple #[q, .int .i64 r.2]) ∧ IntsAt w'.heap.size w' q r.1) ∧ Below w.heap.size w w'
theorem gaveN_nil {er : Int} {w w' : World} {e : Ending} (h : e = .returned (.tuple #[.slice none 0 0, .int .i64 er]) ∧ Below w.heap.size w w') : GaveN ([], er) w e w' :=
  ⟨⟨_, h.1, (OwnInts.nil w').ints (fun x hx => by cases hx)⟩, h.2⟩
theorem sorted_eq : ∀ {l m : List Int}, l.Pairwise (· < ·) → m.Pairwise (· < ·) → (∀ x, x ∈ l ↔ x ∈ m) → l = m
  | [], [], _, _, _ => rfl
  | [], b :: m, _, _, h => by have := (h b).2 (.head _); cases this
  | a :: l, [], _, _, h => by have := (h a).1 (.head _); cases this
  | a :: l, b :: m, h1, h2, h => by
    rw [List.pairwise_cons] at h1 h2
    have hab : a = b := by
      have ha := (h a).1 (.head _)
      have hb := (h b).2 (.head _)
      rcases List.mem_cons.1 ha with e | ha
      · exact e
      · rcases List.mem_cons.1 hb with e | hb
        · exact e.symm
        · have := h1.1 b hb; have := h2.1 a ha; omega
    subst hab
    congr 1
    refine sorted_eq h1.2 h2.2 (fun x => ?_)
    constructor
    · intro hx
      rcases List.mem_cons.1 ((h x).1 (.tail _ hx)) with e | hm
      · have := h1.1 x hx; omega
      · exact hm
    · intro hx
      rcases List.mem_cons.1 ((h x).2 (.tail _ hx)) with e | hm
      · have := h2.1 x hx; omega
      · exact hm
theorem range_sorted (lo hi : Int) : (rangeL lo hi).Pairwise (· < ·) := by
  unfold rangeL
  rw [List.pairwise_map]
  exact List.pairwise_lt_range.imp (fun h => by omega)
theorem leaksM_mem {M : Mach} {x : Int} : x ∈ leaksM M ↔ ∃ s ∈ truthsM M, s.2 = x := by
  rw [leaksM, List.mem_filter, mem_range, List.any_eq_true]
  constructor
  · rintro ⟨_, s, hs, e⟩; exact ⟨s, hs, by simpa using e⟩
  · rintro ⟨s, hs, rfl⟩
    have := (mem_sets.1 (truth_set hs)).2
    exact ⟨this, s, hs, by simp⟩
theorem shortsM_mem {M : Mach} {lev : Nat} (hl : lev < M.levers.length) {x : Int} : x ∈ shortsM M lev ↔ ∃ s ∈ truthsM M, pad s.1 lev = x := by
  have hp : ∀ s ∈ truthsM M, nth s.1 lev = pad s.1 lev ∧ (lnth M.levers lev).lo ≤ nth s.1 lev ∧ nth s.1 lev ≤ (lnth M.levers lev).hi := fun s hs => by
    obtain ⟨h3, h4⟩ := arms_pad (mem_sets.1 (truth_set hs)).1
    have e : nth s.1 lev = pad s.1 lev := by rw [nth_lt (by omega), pad, List.getD_eq_getElem?_getD, List.getElem?_eq_getElem (by omega)]; rfl
    have h5 := h4 lev
    rw [shortOf, List.getElem?_eq_getElem hl] at h5
    rw [← e] at h5
    rw [lnth_lt hl]
    exact ⟨e, h5⟩
  rw [shortsM, List.mem_filter, mem_range, List.any_eq_true]
  constructor
  · rintro ⟨_, s, hs, e⟩; exact ⟨s, hs, by rw [← (hp s hs).1]; simpa using e⟩
  · rintro ⟨s, hs, rfl⟩
    obtain ⟨h1, h2⟩ := hp s hs
    rw [← h1]
    exact ⟨h2, s, hs, by simp⟩
/-- What AnsAt says, as a row of numbers. -/
theorem ans_gave {P : Int → Prop} {M : Mach} {xs : List Int} {w w' : World} {e : Ending} (hs : xs.Pairwise (· < ·)) (hm : ∀ x, x ∈ xs ↔ P x) (hi : ∀ x ∈ xs, I64 x) (h : AnsAt P (truthsM M = []) w.heap.size e w' ∧ Below w.heap.size w w') :
    GaveN (if truthsM M = [] then ([], 3) else (xs, 0)) w e w' := by
  by_cases h0 : truthsM M = []
  · rw [if_pos h0]; exact gaveN_nil ⟨h.1.1 h0, h.2⟩
  · rw [if_neg h0]
    obtain ⟨v, L, h1, ⟨h2, h3⟩, h4⟩ := h.1.2 h0
    have e : L = xs := sorted_eq h2 hs (fun x => (h3 x).trans (hm x).symm)
    subst e
    exact ⟨⟨v, h1, ints_of_own h4 hi⟩, h.2⟩
/-- What is answered of any machine. -/
def fewA (M : Mach) : Int × Int := if validMB M = true then ((fewestM M : Nat), 0) else (0, 30)
def manyA (M : Mach) : Int × Int := if validMB M = true then ((truthsM M).length, noneE (truthsM M).length) else (0, 30)
def listA (M : Mach) (b : Bool) (xs : List Int) : List Int × Int := if validMB M = true then (if b = true then (if truthsM M = [] then ([], 3) else (xs, 0)) else ([], 1)) else ([], 30)
section
variable (v : Value) (M : Mach) (w : World) (hx : MachAt w.heap.size w v M)
include hx
theorem lFewest_all : Calls Try.prog 21 #[v] w fun e w' => e = .returned (.tuple #[.int .i64 (fewA M).1, .int .i64 (fewA M).2]) ∧ Below w.heap.size w w' := by
  cases hv : validMB M
  · simp only [fewA, hv, Bool.false_eq_true, ↓reduceIte]; exact Fewest_er hv w hx
  · simp only [fewA, hv, ↓reduceIte]; exact Fewest_any v M w hx hv
theorem uFewest_all : Calls Try.prog 42 #[v] w fun e w' => e = .returned (.tuple #[.int .i64 (fewA M).1, .int .i64 (fewA M).2]) ∧ Below w.heap.size w w' := by
  cases hv : validMB M
  · simp only [fewA, hv, Bool.false_eq_true, ↓reduceIte]; exact rFewest_er hv v w hx
  · simp only [fewA, hv, ↓reduceIte]; exact rFewest_ok hv v w hx
theorem lMany_all : Calls Try.prog 28 #[v] w fun e w' => e = .returned (.tuple #[.int .i64 (manyA M).1, .int .i64 (manyA M).2]) ∧ Below w.heap.size w w' := by
  cases hv : validMB M
  · simp only [manyA, hv, Bool.false_eq_true, ↓reduceIte]; exact Many_er hv w hx
  · simp only [manyA, hv, ↓reduceIte]; exact Many_any v M w hx hv
theorem uMany_all : Calls Try.prog 43 #[v] w fun e w' => e = .returned (.tuple #[.int .i64 (manyA M).1, .int .i64 (manyA M).2]) ∧ Below w.heap.size w w' := by
  have HX := fun W (hb : Below w.heap.size w W) => (hx.below hb).mono hb.size
  cases hv : validMB M
  · simp only [manyA, hv, Bool.false_eq_true, ↓reduceIte]; exact rMany_gen v w hx (fun W hb => truths_bad hv v _ W (HX W hb))
  · simp only [manyA, hv, ↓reduceIte]; exact rMany_gen v w hx (fun W hb => truths_ok hv v W (HX W hb))
theorem lLeaks_all : Calls Try.prog 17 #[v] w (GaveN (listA M true (leaksM M)) w) := by
  cases hv : validMB M
  · simp only [listA, hv, Bool.false_eq_true, ↓reduceIte]; exact (Leaks_er hv w hx).mono fun e w' h => gaveN_nil h
  · have hV := validM_iff.1 hv
    simp only [listA, hv, ↓reduceIte]
    refine (Leaks_any v M w hx hv).mono fun e w' h => ans_gave ((range_sorted _ _).filter _) (fun x => leaksM_mem) (fun x hx => ?_) h
    have := mem_range.1 (List.mem_filter.1 hx).1
    have := hV.leak
    unfold I64; omega
theorem uLeaks_all : Calls Try.prog 45 #[v] w (GaveN (listA M true (leaksM M)) w) := by
  have HX := fun W (hb : Below w.heap.size w W) => (hx.below hb).mono hb.size
  cases hv : validMB M
  · simp only [listA, hv, Bool.false_eq_true, ↓reduceIte]; exact (rLeaks_er (by decide) v w hx (fun W hb => truths_bad hv v _ W (HX W hb))).mono fun e w' h => gaveN_nil h
  · simp only [listA, hv, ↓reduceIte]
    by_cases hn : truthsM M = []
    · rw [if_pos hn]; exact (rLeaks_er (by decide) v w hx (fun W hb => truths_none hv hn v W (HX W hb))).mono fun e w' h => gaveN_nil h
    · rw [if_neg hn]; exact rLeaks_ok hv hn v w hx
theorem lStrange_all : Calls Try.prog 20 #[v] w (GaveN (listA M true (strM M)) w) := by
  cases hv : validMB M
  · simp only [listA, hv, Bool.false_eq_true, ↓reduceIte]; exact (Strange_er hv w hx).mono fun e w' h => gaveN_nil h
  · simp only [listA, hv, ↓reduceIte]
    refine (Strange_any v M w hx hv).mono fun e w' h => ?_
    by_cases hn : truthsM M = []
    · rw [if_pos hn]; exact gaveN_nil ⟨h.1.1 hn, h.2⟩
    · rw [if_neg hn]; exact ⟨h.1.2 hn, h.2⟩
theorem uStrange_all : Calls Try.prog 46 #[v] w (GaveN (listA M true (strM M)) w) := by
  have HX := fun W (hb : Below w.heap.size w W) => (hx.below hb).mono hb.size
  cases hv : validMB M
  · simp only [listA, hv, Bool.false_eq_true, ↓reduceIte]; exact (rStrange_er (by decide) v w hx (fun W hb => truths_bad hv v _ W (HX W hb))).mono fun e w' h => gaveN_nil h
  · simp only [listA, hv, ↓reduceIte]
    by_cases hn : truthsM M = []
    · rw [if_pos hn]; exact (rStrange_er (by decide) v w hx (fun W hb => truths_none hv hn v W (HX W hb))).mono fun e w' h => gaveN_nil h
    · rw [if_neg hn]; exact rStrange_ok hv hn v w hx
theorem lShorts_all (n : Int) : Calls Try.prog 15 #[v, .int .i64 n] w (GaveN (listA M (wB n 0 ((M.levers.length : Int) - 1)) (shortsM M n.toNat)) w) := by
  cases hv : validMB M
  · simp only [listA, hv, Bool.false_eq_true, ↓reduceIte]; exact (Shorts_er w hx (.inr rfl) (fun W h => openLever_bad v M n W h hv)).mono fun e w' h => gaveN_nil h
  · have hV := validM_iff.1 hv
    cases hw : wB n 0 ((M.levers.length : Int) - 1)
    · simp only [listA, hv, Bool.false_eq_true, ↓reduceIte]; exact (Shorts_er w hx (.inl rfl) (fun W h => openLever_arg v M n W h hv hw)).mono fun e w' h => gaveN_nil h
    · obtain ⟨lev, rfl⟩ : ∃ lev : Nat, n = lev := ⟨n.toNat, by have := wB_iff.1 hw; omega⟩
      have hl : lev < M.levers.length := by have := wB_iff.1 hw; omega
      simp only [listA, hv, ↓reduceIte, Int.toNat_natCast]
      refine (Shorts_any v M lev w hx hv hl).mono fun e w' h => ans_gave ((range_sorted _ _).filter _) (fun x => shortsM_mem hl) (fun x hx => ?_) h
      have := mem_range.1 (List.mem_filter.1 hx).1
      have := hV.lev (lnth M.levers lev) (by rw [lnth_lt hl]; exact List.getElem_mem hl)
      unfold I64; omega
theorem uShorts_all (n : Int) : Calls Try.prog 44 #[v, .int .i64 n] w (GaveN (listA M (wB n 0 ((M.levers.length : Int) - 1)) (shortsM M n.toNat)) w) := by
  have HX := fun W (hb : Below w.heap.size w W) => (hx.below hb).mono hb.size
  cases hv : validMB M
  · simp only [listA, hv, Bool.false_eq_true, ↓reduceIte]; exact (rShorts_er rfl (by decide) v w hx (fun W hb => truths_bad hv v _ W (HX W hb))).mono fun e w' h => gaveN_nil h
  · cases hw : wB n 0 ((M.levers.length : Int) - 1)
    · simp only [listA, hv, Bool.false_eq_true, ↓reduceIte]; exact (rShorts_er hw (by decide) v w hx (fun W hb => truths_arg hv v W (HX W hb))).mono fun e w' h => gaveN_nil h
    · obtain ⟨lev, rfl⟩ : ∃ lev : Nat, n = lev := ⟨n.toNat, by have := wB_iff.1 hw; omega⟩
      have hl : lev < M.levers.length := by have := wB_iff.1 hw; omega
      simp only [listA, hv, ↓reduceIte, Int.toNat_natCast]
      by_cases hn : truthsM M = []
      · rw [if_pos hn]; exact (rShorts_er hw (by decide) v w hx (fun W hb => truths_none hv hn v W (HX W hb))).mono fun e w' h => gaveN_nil h
      · rw [if_neg hn]; exact rShorts_ok hv hn hl v w hx
end
end Go.Proofs.Ytomcjopcfdllgaa
