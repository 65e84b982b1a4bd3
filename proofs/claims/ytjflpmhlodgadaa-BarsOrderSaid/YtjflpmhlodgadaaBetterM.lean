/-
  Plain facts: what is known better of a store; what its truths tell then.
-/
import Derived.Test.YtjflpmhlodgadaaMath4
namespace Go.Proofs.Ytjflpmhlodgadaa
open Go.RowKit

/-- A's truths are truths of B, with the same bars, kerf and lengths. -/
structure Inside (A B : Store) : Prop where
  va : Valid A
  vb : Valid B
  bars : B.bars = A.bars
  kerf : B.kerf = A.kerf
  np : B.pieces.length = A.pieces.length
  long : ∀ i, i < A.pieces.length → (pnth B.pieces i).long = (pnth A.pieces i).long
  sub : ∀ x ∈ truthsL A, x ∈ truthsL B
theorem Inside.rest {A B : Store} (h : Inside A B) {x : List Int} (hl : x.length ≤ A.pieces.length) (c : Int) : restS B x c = restS A x c := by
  unfold restS
  rw [sumTo_congr (S := A) (O := B) (fun i hi => h.long i (by omega)), h.bars, h.kerf]
theorem Inside.many {A B : Store} (h : Inside A B) : (truthsL A).length ≤ (truthsL B).length := nodup_le (truths_nodup A) h.sub
theorem Inside.of {A B : Store} (h : Inside A B) {p : Nat} (hp : p < A.pieces.length) : subB (ofS A p) (ofS B p) = true :=
  subB_of (numsTo_nodup _ _) fun b hb => by
    obtain ⟨x, hx, rfl⟩ := (mem_ofS h.va hp).1 hb
    exact (mem_ofS h.vb (by rw [h.np]; exact hp)).2 ⟨x, h.sub x hx, rfl⟩
theorem span_lo {S : Store} {b c : Int} : ∀ (xs : List (List Int)) (p : Int × Int), c ≤ p.1 → (∀ x ∈ xs, c ≤ restS S x b) → c ≤ (xs.foldl (restStep S b) p).1
  | [], _, h, _ => h
  | y :: ys, p, h, hx => by
    rw [List.foldl_cons]
    refine span_lo ys _ ?_ (fun x hy => hx x (List.mem_cons_of_mem _ hy))
    have := hx y (List.mem_cons_self ..)
    have e1 : (restStep S b p y).1 = min p.1 (restS S y b) := rfl
    omega
theorem span_hi {S : Store} {b c : Int} : ∀ (xs : List (List Int)) (p : Int × Int), p.2 ≤ c → (∀ x ∈ xs, restS S x b ≤ c) → (xs.foldl (restStep S b) p).2 ≤ c
  | [], _, h, _ => h
  | y :: ys, p, h, hx => by
    rw [List.foldl_cons]
    refine span_hi ys _ ?_ (fun x hy => hx x (List.mem_cons_of_mem _ hy))
    have := hx y (List.mem_cons_self ..)
    have e1 : (restStep S b p y).2 = max p.2 (restS S y b) := rfl
    omega
theorem some_truth {S : Store} (h : (truthsL S).length ≠ 0) : ∃ x, x ∈ truthsL S := List.exists_mem_of_ne_nil _ (fun e => h (by rw [e]; rfl))
theorem Inside.span {A B : Store} (h : Inside A B) (b : Int) (h0 : (truthsL A).length ≠ 0) :
    (restSpan B b (truthsL B)).1 ≤ (restSpan A b (truthsL A)).1 ∧ (restSpan A b (truthsL A)).2 ≤ (restSpan B b (truthsL B)).2 ∧ (restSpan A b (truthsL A)).1 ≤ (restSpan A b (truthsL A)).2 := by
  obtain ⟨y, hy⟩ := some_truth h0
  have hq := rest_truth (S := B) b (x := y) (truthsL B) (999, 0)
  have hin : ∀ x ∈ truthsL A, (restSpan B b (truthsL B)).1 ≤ restS A x b ∧ restS A x b ≤ (restSpan B b (truthsL B)).2 := fun x hx => by
    have := (rest_truth (S := B) b (x := x) (truthsL B) (999, 0)).2 (h.sub x hx)
    rw [h.rest (truths_ok hx).1.1] at this
    exact this
  have ha := (rest_truth (S := A) b (x := y) (truthsL A) (999, 0)).2 hy
  refine ⟨span_lo _ _ hq.1.1 fun x hx => (hin x hx).1, span_hi _ _ hq.1.2 fun x hx => (hin x hx).2, ?_⟩
  have h1 : (restSpan A b (truthsL A)).1 ≤ restS A y b := ha.1
  have h2 : restS A y b ≤ (restSpan A b (truthsL A)).2 := ha.2
  omega
theorem Inside.roomB {A B : Store} (h : Inside A B) {x : List Int} (hl : x.length ≤ A.pieces.length) (n : Int) : Go.Proofs.Ytjflpmhlodgadaa.roomB B x n = Go.Proofs.Ytjflpmhlodgadaa.roomB A x n := by
  unfold Go.Proofs.Ytjflpmhlodgadaa.roomB
  rw [h.bars]
  refine congrArg _ (allTo_congr fun b hb => ?_)
  simp only [roomAt, h.rest hl, h.kerf]
theorem known_sub {q r : List Int → Bool} {xs ys : List (List Int)} (hs : ∀ x ∈ xs, x ∈ ys) (hq : ∀ x ∈ xs, r x = q x) (h0 : xs.length ≠ 0) (h3 : (knownV r ys).1 ≠ 3) : knownV q xs = knownV r ys := by
  have hy0 : ys.length ≠ 0 := fun e => by
    obtain ⟨x, hx⟩ := List.exists_mem_of_ne_nil xs (fun e => h0 (by rw [e]; rfl))
    have := hs x hx
    rw [List.length_eq_zero_iff.1 e] at this
    cases this
  rw [knownV_of (q := r), if_neg hy0] at h3 ⊢
  rw [knownV_of (q := q), if_neg h0]
  by_cases h1 : ∀ x ∈ ys, r x = true
  · rw [if_pos h1, if_pos (fun x hx => by rw [← hq x hx]; exact h1 x (hs x hx))]
  · rw [if_neg h1] at h3 ⊢
    by_cases h2 : ∀ x ∈ ys, r x = false
    · rw [if_pos h2, if_neg, if_pos (fun x hx => by rw [← hq x hx]; exact h2 x (hs x hx))]
      intro hc
      obtain ⟨x, hx⟩ := List.exists_mem_of_ne_nil xs (fun e => h0 (by rw [e]; rfl))
      have a := hc x hx
      rw [← hq x hx, h2 x (hs x hx)] at a
      cases a
    · rw [if_neg h2] at h3
      exact absurd rfl h3
theorem Inside.room {A B : Store} (h : Inside A B) (n : Int) (h0 : (truthsL A).length ≠ 0) (h3 : (roomV B n).1 ≠ 3) : roomV A n = roomV B n :=
  known_sub h.sub (fun x hx => h.roomB (truths_ok hx).1.1 n) h0 h3
theorem Inside.alike {A B : Store} (h : Inside A B) (p r : Nat) (h0 : (truthsL A).length ≠ 0) (h3 : (alikeV B p r).1 ≠ 3) : alikeV A p r = alikeV B p r :=
  known_sub h.sub (fun _ _ => rfl) h0 h3
theorem Inside.some {A B : Store} (h : Inside A B) (h0 : (truthsL A).length ≠ 0) : (truthsL B).length ≠ 0 := by have := h.many; omega

/-- There is a truth just if the fewest wrong marks are few enough. -/
theorem few_truths {S : Store} (hV : Valid S) : (truthsL S).length ≠ 0 ↔ (fewV S).2 = 0 ∧ (fewV S).1 ≤ S.wrong := by
  constructor
  · intro h
    obtain ⟨x, hx⟩ := some_truth h
    have ht := (mem_truths hV).1 hx
    obtain ⟨f, hf, _, hle⟩ := few_truth hV ht
    rw [hf]
    have := (truthB_iff.1 ht).2.2
    exact ⟨rfl, by show f ≤ _; omega⟩
  · rintro ⟨h1, h2⟩ h0
    have hn : (fitL S).length ≠ 0 := fun e => by rw [fewV_err, e] at h1; simp [errN] at h1
    obtain ⟨x, hx⟩ : ∃ x, x ∈ fitL S := List.exists_mem_of_ne_nil _ (fun e => hn (by rw [e]; rfl))
    obtain ⟨f, hf, ⟨y, hy, he⟩, _⟩ := few_iff hV hx
    obtain ⟨y1, y3⟩ := (mem_fit hV).1 hy
    rw [hf] at h2
    have hy : y ∈ truthsL S := (mem_truths hV).2 (truthB_iff.2 ⟨y1, fitsB_iff.1 y3, by rw [he]; exact h2⟩)
    rw [List.length_eq_zero_iff.1 h0] at hy
    cases hy

/-- Fewer marks can be wrong. -/
def lessW (S : Store) (n : Int) : Store := ⟨S.bars, S.kerf, S.pieces, S.wrong - n⟩
theorem lessW_inside {S : Store} {n : Int} (hV : Valid S) (h0 : 0 ≤ n) (h1 : n ≤ S.wrong) : Inside (lessW S n) S := by
  have hv : Valid (lessW S n) := ⟨hV.nb, hV.np, hV.heat, hV.blong, hV.plong, hV.heats, hV.kerf, ⟨by show 0 ≤ S.wrong - n; omega, by have := hV.wrong; show S.wrong - n ≤ 8; omega⟩⟩
  refine ⟨hv, hV, rfl, rfl, rfl, fun _ _ => rfl, fun x hx => ?_⟩
  obtain ⟨h2, h3, h4⟩ := truthB_iff.1 ((mem_truths hv).1 hx)
  have e1 : ∀ b : Int, restS (lessW S n) x b = restS S x b := fun b => by
    unfold restS
    rw [sumTo_congr (S := S) (O := lessW S n) (fun _ _ => rfl)]
    rfl
  have e2 : wrongs (lessW S n) x = wrongs S x := wrongsTo_congr (fun _ _ => rfl)
  rw [e2] at h4
  refine (mem_truths hV).2 (truthB_iff.2 ⟨h2, fun b hb => by rw [← e1]; exact h3 b hb, ?_⟩)
  have h5 : wrongs S x ≤ S.wrong - n := h4
  omega
/-- A mark stands for one heat less. -/
def lessP (S : Store) (p : Nat) (h : Int) : Store := ⟨S.bars, S.kerf, S.pieces.set p ⟨(pnth S.pieces p).long, (pnth S.pieces p).heats.filter (fun x => decide (x ≠ h))⟩, S.wrong⟩
theorem heatsOk_iff {xs : List Int} : heatsOk xs = true ↔ xs.Pairwise (· < ·) ∧ ∀ x ∈ xs, 0 ≤ x ∧ x ≤ 9 := by
  have hs : ∀ n, n ≤ xs.length → (allTo (heatOk xs) n = true ↔ (∀ i j, i < j → j < n → nth xs i < nth xs j) ∧ ∀ i, i < n → 0 ≤ nth xs i ∧ nth xs i ≤ 9) := by
    intro n
    induction n with
    | zero => intro _; exact ⟨fun _ => ⟨fun i j _ h => absurd h (by omega), fun i h => absurd h (by omega)⟩, fun _ => rfl⟩
    | succ n ih =>
      intro hn
      simp only [allTo, Bool.and_eq_true]
      rw [ih (by omega)]
      simp only [heatOk, Bool.and_eq_true, decide_eq_true_eq]
      constructor
      · rintro ⟨⟨h1, h2⟩, h3, h4⟩
        cases n with
        | zero =>
          refine ⟨fun i j hi hj => absurd hj (by omega), fun i hi => ?_⟩
          obtain rfl : i = 0 := by omega
          simp only [prevH] at h3
          omega
        | succ m =>
          simp only [prevH] at h3
          have hm := h2 m (by omega)
          refine ⟨fun i j hi hj => ?_, fun i hi => ?_⟩
          · by_cases e : j = m + 1
            · subst e
              by_cases e : i = m
              · subst e; exact h3
              · have := h1 i m (by omega) (by omega); omega
            · exact h1 i j hi (by omega)
          · by_cases e : i = m + 1
            · subst e; omega
            · exact h2 i (by omega)
      · rintro ⟨h1, h2⟩
        refine ⟨⟨fun i j hi hj => h1 i j hi (by omega), fun i hi => h2 i (by omega)⟩, ?_, (h2 n (by omega)).2⟩
        cases n with
        | zero => simp only [prevH]; have := h2 0 (by omega); omega
        | succ m => simp only [prevH]; exact h1 m (m + 1) (by omega) (by omega)
  unfold heatsOk
  rw [hs _ (Nat.le_refl _), List.pairwise_iff_getElem]
  constructor
  · rintro ⟨h1, h2⟩
    refine ⟨fun i j hi hj hij => ?_, fun x hx => ?_⟩
    · have := h1 i j hij hj; rwa [nth_lt hi, nth_lt hj] at this
    · obtain ⟨i, hi, rfl⟩ := List.getElem_of_mem hx
      have := h2 i hi; rwa [nth_lt hi] at this
  · rintro ⟨h1, h2⟩
    exact ⟨fun i j hi hj => by rw [nth_lt (by omega), nth_lt hj]; exact h1 i j (by omega) hj hi, fun i hi => h2 _ (nth_mem hi)⟩
theorem lessP_valid {S : Store} {p : Nat} {h : Int} (hV : Valid S) (hp : p < S.pieces.length) : Valid (lessP S p h) := by
  have hn : (lessP S p h).pieces.length = S.pieces.length := by simp [lessP]
  refine ⟨hV.nb, by rw [hn]; exact hV.np, hV.heat, hV.blong, fun i hi => ?_, fun i hi => ?_, hV.kerf, hV.wrong⟩
  · rw [hn] at hi
    by_cases e : p = i
    · subst e; simp only [lessP, pnth_set_same hp]; exact hV.plong p hp
    · simp only [lessP, pnth_set_other e]; exact hV.plong i hi
  · rw [hn] at hi
    by_cases e : p = i
    · subst e
      simp only [lessP, pnth_set_same hp]
      obtain ⟨h1, h2⟩ := heatsOk_iff.1 (hV.heats p hp)
      exact heatsOk_iff.2 ⟨h1.filter _, fun x hx => h2 x (List.mem_filter.1 hx).1⟩
    · simp only [lessP, pnth_set_other e]; exact hV.heats i hi
theorem lessP_inside {S : Store} {p : Nat} {h : Int} (hV : Valid S) (hp : p < S.pieces.length) : Inside (lessP S p h) S := by
  have hv := lessP_valid (h := h) hV hp
  have hn : (lessP S p h).pieces.length = S.pieces.length := by simp [lessP]
  have hl : ∀ i, i < S.pieces.length → (pnth (lessP S p h).pieces i).long = (pnth S.pieces i).long := fun i hi => by
    by_cases e : p = i
    · subst e; simp only [lessP, pnth_set_same hp]
    · simp only [lessP, pnth_set_other e]
  refine ⟨hv, hV, rfl, rfl, hn.symm, fun i hi => (hl i (by omega)).symm, fun x hx => ?_⟩
  obtain ⟨⟨h1, h2⟩, h3, h4⟩ := truthB_iff.1 ((mem_truths hv).1 hx)
  rw [hn] at h2
  have hO : OkBars S x := ⟨by omega, h1.2⟩
  refine (mem_truths hV).2 (truthB_iff.2 ⟨⟨hO, h2⟩, fun b hb => ?_, ?_⟩)
  · have := h3 b hb
    have e : restS (lessP S p h) x b = restS S x b := by
      unfold restS
      rw [sumTo_congr (S := S) (O := lessP S p h) (fun i hi => hl i (by omega))]
      rfl
    rwa [e] at this
  · have hw : ∀ k, k ≤ x.length → wrongsTo S x k ≤ wrongsTo (lessP S p h) x k := by
      intro k
      induction k with
      | zero => intro _; exact Int.le_refl _
      | succ k ih =>
        intro hk
        have := ih (by omega)
        simp only [wrongsTo]
        have hm : wrongAt S k (nth x k).toNat = true → wrongAt (lessP S p h) k (nth x k).toNat = true := fun hw => by
          by_cases e : p = k
          · subst e
            simp only [wrongAt, lessP, pnth_set_same hp, Bool.not_eq_true'] at hw ⊢
            rw [Bool.eq_false_iff] at hw ⊢
            exact fun hc => hw (inB_mem.2 (List.mem_filter.1 (inB_mem.1 hc)).1)
          · simp only [wrongAt, lessP, pnth_set_other e] at hw ⊢; exact hw
        by_cases h5 : wrongAt S k (nth x k).toNat = true
        · rw [if_pos h5, if_pos (hm h5)]; omega
        · rw [if_neg h5]; split <;> omega
    have h5 : wrongs (lessP S p h) x ≤ S.wrong := h4
    have := hw x.length (Nat.le_refl _)
    unfold wrongs at h5 ⊢
    omega
end Go.Proofs.Ytjflpmhlodgadaa
