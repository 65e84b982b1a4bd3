/-
  Plain facts: the search finds just the truths, each once.
-/
import Derived.Test.YtjflpmhlodgadaaMath1
namespace Go.Proofs.Ytjflpmhlodgadaa
open Go.RowKit

theorem nth_prefix {a b : List Int} (h : a <+: b) {i : Nat} (hi : i < a.length) : nth b i = nth a i := by
  obtain ⟨t, rfl⟩ := h
  simp [nth, List.getElem?_append_left hi]
theorem countTo_prefix {a b : List Int} (h : a <+: b) (c : Int) : ∀ {k : Nat}, k ≤ a.length → countTo b c k = countTo a c k
  | 0, _ => rfl
  | k + 1, hk => by simp only [countTo]; rw [countTo_prefix h c (by omega), nth_prefix h (by omega)]
theorem sumTo_prefix {S : Store} {a b : List Int} (h : a <+: b) (c : Int) : ∀ {k : Nat}, k ≤ a.length → sumTo S b c k = sumTo S a c k
  | 0, _ => rfl
  | k + 1, hk => by simp only [sumTo]; rw [sumTo_prefix h c (by omega), nth_prefix h (by omega)]
theorem wrongsTo_prefix {S : Store} {a b : List Int} (h : a <+: b) : ∀ {k : Nat}, k ≤ a.length → wrongsTo S b k = wrongsTo S a k
  | 0, _ => rfl
  | k + 1, hk => by simp only [wrongsTo]; rw [wrongsTo_prefix h (by omega), nth_prefix h (by omega)]
theorem countTo_snoc (L : List Int) (x c : Int) : countTo (L ++ [x]) c (L.length + 1) = countTo L c L.length + if x = c then 1 else 0 := by
  simp only [countTo]; rw [countTo_prefix (List.prefix_append L [x]) c (Nat.le_refl _), nth_snoc]
theorem sumTo_snoc (S : Store) (L : List Int) (x c : Int) : sumTo S (L ++ [x]) c (L.length + 1) = sumTo S L c L.length + if x = c then (pnth S.pieces L.length).long else 0 := by
  simp only [sumTo]; rw [sumTo_prefix (List.prefix_append L [x]) c (Nat.le_refl _), nth_snoc]
theorem wrongs_snoc (S : Store) (L : List Int) (x : Int) : wrongs S (L ++ [x]) = wrongs S L + if wrongAt S L.length x.toNat = true then 1 else 0 := by
  have e : (L ++ [x]).length = L.length + 1 := by simp
  simp only [wrongs, e, wrongsTo]; rw [wrongsTo_prefix (List.prefix_append L [x]) (Nat.le_refl _), nth_snoc]
theorem restS_other {S : Store} {L : List Int} {x c : Int} (h : x ≠ c) : restS S (L ++ [x]) c = restS S L c := by
  have e : (L ++ [x]).length = L.length + 1 := by simp
  simp only [restS, e, countTo_snoc, sumTo_snoc, if_neg h, Int.add_zero]
theorem inB_count {L : List Int} {c : Int} : ∀ {k : Nat}, (0 < countTo L c k ↔ ∃ i, i < k ∧ nth L i = c)
  | 0 => by simp [countTo]
  | k + 1 => by
    have h0 := countTo_le L c k
    have ih := inB_count (L := L) (c := c) (k := k)
    simp only [countTo]
    constructor
    · intro h
      by_cases e : nth L k = c
      · exact ⟨k, by omega, e⟩
      · rw [if_neg e] at h
        obtain ⟨i, hi, he⟩ := ih.1 (by omega)
        exact ⟨i, by omega, he⟩
    · rintro ⟨i, hi, he⟩
      by_cases e : i = k
      · subst e; rw [if_pos he]; omega
      · have := ih.2 ⟨i, by omega, he⟩
        split <;> omega
theorem inB_pos {L : List Int} {c : Int} : inB L c = true ↔ 0 < countTo L c L.length := by
  rw [inB_count, inB_mem, mem_iff_nth]
theorem restS_same {S : Store} (L : List Int) (x : Int) : restS S (L ++ [x]) x = restS S L x - (pnth S.pieces L.length).long - (if inB L x = true then S.kerf else 0) := by
  have e : (L ++ [x]).length = L.length + 1 := by simp
  simp only [restS, e, countTo_snoc, sumTo_snoc, if_true]
  have h0 := (countTo_le L x L.length).1
  by_cases hi : inB L x = true
  · rw [if_pos hi]
    have := inB_pos.1 hi
    rw [show max (countTo L x L.length + 1 - 1) 0 = max (countTo L x L.length - 1) 0 + 1 by omega, Int.add_mul]
    omega
  · rw [if_neg hi]
    have : countTo L x L.length = 0 := by
      have : ¬ 0 < countTo L x L.length := fun h => hi (inB_pos.2 h)
      omega
    rw [this, show max ((0 : Int) + 1 - 1) 0 = 0 by omega, show max ((0 : Int) - 1) 0 = 0 by omega]
    omega

theorem truthB_prefix_fit {S : Store} (hV : Valid S) {L : List Int} (h : ∀ b : Nat, b < S.bars.length → 0 ≤ restS S L b) (hl : L.length = S.pieces.length) (k : Nat) (hk : k ≤ L.length) :
    ∀ b : Nat, b < S.bars.length → 0 ≤ restS S (L.take k) b := fun b hb => Int.le_trans (h b hb) (restS_take hV b hl hk)

/-- Each row that the search yields fits, begins as it was told, and has no more wrong marks than it was told. -/
theorem sawL_sound {S : Store} : ∀ (m : Nat) (wr : Int) (first : List Int), first.length + m = S.pieces.length → (∀ b : Nat, b < S.bars.length → 0 ≤ restS S first b) → 0 ≤ wr →
    ∀ x ∈ sawL S m wr first, (∀ b : Nat, b < S.bars.length → 0 ≤ restS S x b) ∧ wrongs S x ≤ wrongs S first + wr ∧ first <+: x
  | 0, wr, first, _, hf, hw, x, hx => by
    simp only [sawL, List.mem_singleton] at hx
    subst hx; exact ⟨hf, by omega, List.prefix_refl _⟩
  | m + 1, wr, first, hl, hf, hw, x, hx => by
    rw [sawL_succ] at hx
    obtain ⟨k, hk, hx⟩ := mem_flatTo.1 hx
    unfold sawAt at hx
    have hs := wrongs_snoc S first (k : Int)
    rw [Int.toNat_natCast] at hs
    generalize (if wrongAt S first.length k = true then (1 : Int) else 0) = t at hs hx
    split at hx
    · cases hx
    · have hn : ¬ (wr - t < 0) ∧ ¬ (restS S (first ++ [(k : Int)]) k < 0) := ⟨fun h => by simp_all, fun h => by simp_all⟩
      obtain ⟨h1, h2, h3⟩ := sawL_sound m (wr - t) (first ++ [(k : Int)]) (by simp; omega) (fun b hb => by
        by_cases e : (k : Int) = (b : Int)
        · rw [← e]; omega
        · rw [restS_other e]; exact hf b hb) (by omega) x hx
      exact ⟨h1, by omega, (List.prefix_append _ _).trans h3⟩

theorem countTo_zero (c : Int) : ∀ k, countTo [] c k = if c = 0 then (k : Int) else 0
  | 0 => by simp [countTo]
  | k + 1 => by
    simp only [countTo]; rw [countTo_zero c k]
    have : nth [] k = 0 := rfl
    rw [this]
    by_cases h : c = 0
    · subst h; simp
    · rw [if_neg h, if_neg (fun e => h e.symm), if_neg h]; rfl
theorem restS_nil (S : Store) (b : Int) : restS S [] b = (bnth S.bars b.toNat).long := by
  simp only [restS, sumTo, countTo, List.length_nil]
  rw [show max ((0 : Int) - 1) 0 = 0 by omega]
  omega
theorem mem_truths {S : Store} (hV : Valid S) {L : List Int} : L ∈ truthsL S ↔ truthB S L = true := by
  constructor
  · intro h
    obtain ⟨h1, h2⟩ := truths_ok h
    obtain ⟨h3, h4, _⟩ := sawL_sound S.pieces.length S.wrong [] (by simp) (fun b hb => by rw [restS_nil, Int.toNat_natCast]; have := hV.blong b hb; omega) hV.wrong.1 L h
    exact truthB_iff.2 ⟨⟨h1, h2⟩, h3, by have : wrongs S [] = 0 := rfl; omega⟩
  · exact truth_mem hV
theorem fit_ok {S : Store} {x : List Int} (h : x ∈ fitL S) : OkBars S x ∧ x.length = S.pieces.length :=
  sawL_okBars _ _ _ (by simp) ⟨by simp, fun i hi => by simp at hi⟩ x h
theorem fitsB_iff {S : Store} {L : List Int} : fitsB S L = true ↔ ∀ b : Nat, b < S.bars.length → 0 ≤ restS S L b := by
  simp only [fitsB, allTo_iff, decide_eq_true_eq]
theorem mem_fit {S : Store} (hV : Valid S) {L : List Int} : L ∈ fitL S ↔ (OkBars S L ∧ L.length = S.pieces.length) ∧ fitsB S L = true := by
  constructor
  · intro h
    obtain ⟨h3, h4, _⟩ := sawL_sound S.pieces.length S.pieces.length [] (by simp) (fun b hb => by rw [restS_nil, Int.toNat_natCast]; have := hV.blong b hb; omega) (by omega) L h
    exact ⟨fit_ok h, fitsB_iff.2 h3⟩
  · rintro ⟨⟨h1, h2⟩, h3⟩
    have := sawL_complete hV h1 h2 (fitsB_iff.1 h3) S.pieces.length 0 S.pieces.length (by omega) (by have := (wrongsTo_le S L S.pieces.length).2; simp only [wrongsTo]; omega)
    rwa [List.take_zero] at this

theorem nodup_flatTo {f : Nat → List (List Int)} (h1 : ∀ k, (f k).Nodup) (h2 : ∀ i j x, i < j → x ∈ f i → x ∈ f j → False) : ∀ n, (flatTo f n).Nodup
  | 0 => by simp [flatTo]
  | n + 1 => by
    simp only [flatTo]
    rw [List.nodup_append]
    refine ⟨nodup_flatTo h1 h2 n, h1 n, fun a ha b hb e => ?_⟩
    subst e
    obtain ⟨k, hk, ha⟩ := mem_flatTo.1 ha
    exact h2 k n a hk ha hb
theorem mem_sawAt {S : Store} {m : Nat} {wr : Int} {first : List Int} {k : Nat} {x : List Int} (h : x ∈ sawAt S m wr first k) :
    ∃ wr', x ∈ sawL S m wr' (first ++ [(k : Int)]) := by
  rcases sawAt_cases S m wr first k with h1 | ⟨h1, _⟩
  · rw [h1] at h; cases h
  · rw [h1] at h; exact ⟨_, h⟩
theorem sawL_prefix {S : Store} : ∀ (m : Nat) (wr : Int) (first : List Int), ∀ x ∈ sawL S m wr first, first <+: x
  | 0, wr, first, x, hx => by simp only [sawL, List.mem_singleton] at hx; subst hx; exact List.prefix_refl _
  | m + 1, wr, first, x, hx => by
    rw [sawL_succ] at hx
    obtain ⟨k, hk, hx⟩ := mem_flatTo.1 hx
    obtain ⟨wr', hx⟩ := mem_sawAt hx
    exact (List.prefix_append _ _).trans (sawL_prefix m _ _ x hx)
theorem sawL_nodup {S : Store} : ∀ (m : Nat) (wr : Int) (first : List Int), (sawL S m wr first).Nodup
  | 0, wr, first => by simp [sawL]
  | m + 1, wr, first => by
    rw [sawL_succ]
    have hp : ∀ k x, x ∈ sawAt S m wr first k → first ++ [(k : Int)] <+: x := fun k x hx => by
      obtain ⟨wr', hx⟩ := mem_sawAt hx
      exact sawL_prefix m _ _ x hx
    refine nodup_flatTo (fun k => ?_) (fun i j x hij hi hj => ?_) _
    · rcases sawAt_cases S m wr first k with h1 | ⟨h1, _⟩
      · rw [h1]; exact List.nodup_nil
      · rw [h1]; exact sawL_nodup m _ _
    · have h1 := nth_prefix (hp i x hi) (i := first.length) (by simp)
      have h2 := nth_prefix (hp j x hj) (i := first.length) (by simp)
      rw [nth_snoc] at h1 h2
      omega
theorem truths_nodup (S : Store) : (truthsL S).Nodup := sawL_nodup _ _ _
theorem fit_nodup (S : Store) : (fitL S).Nodup := sawL_nodup _ _ _

theorem nodup_le {α : Type} [DecidableEq α] : ∀ {l l' : List α}, l.Nodup → (∀ x ∈ l, x ∈ l') → l.length ≤ l'.length
  | [], _, _, _ => by simp
  | a :: l, l', hn, hs => by
    rw [List.nodup_cons] at hn
    have ha : a ∈ l' := hs a (by simp)
    have h1 := nodup_le (l := l) (l' := l'.erase a) hn.2 (fun x hx => (List.mem_erase_of_ne (fun e => hn.1 (by rw [← e]; exact hx))).2 (hs x (List.mem_cons_of_mem _ hx)))
    have h2 := List.length_erase_of_mem ha
    have h3 : 0 < l'.length := List.length_pos_of_mem ha
    simp only [List.length_cons]
    omega
theorem nodup_map {α β : Type} {f : α → β} : ∀ {l : List α}, l.Nodup → (∀ x ∈ l, ∀ y ∈ l, f x = f y → x = y) → (l.map f).Nodup
  | [], _, _ => by simp
  | a :: l, hn, hi => by
    rw [List.nodup_cons] at hn
    rw [List.map_cons, List.nodup_cons]
    refine ⟨fun h => ?_, nodup_map hn.2 (fun x hx y hy => hi x (List.mem_cons_of_mem _ hx) y (List.mem_cons_of_mem _ hy))⟩
    obtain ⟨y, hy, he⟩ := List.mem_map.1 h
    exact hn.1 (hi y (List.mem_cons_of_mem _ hy) a (by simp) he ▸ hy)
/-- An image without doubles is no longer than what it lies in. -/
theorem inj_le {α β : Type} [DecidableEq β] {l : List α} {l' : List β} (f : α → β) (hn : l.Nodup) (hi : ∀ x ∈ l, ∀ y ∈ l, f x = f y → x = y) (hs : ∀ x ∈ l, f x ∈ l') : l.length ≤ l'.length := by
  have := nodup_le (nodup_map hn hi) (l' := l') (fun y hy => by obtain ⟨x, hx, rfl⟩ := List.mem_map.1 hy; exact hs x hx)
  simpa using this

theorem fewV_err {S : Store} : (fewV S).2 = errN (fitL S).length := by
  unfold fewV
  cases hf : fitL S with
  | nil => rfl
  | cons a l => rfl
theorem foldl_min_le (S : Store) {c : Int} : ∀ (xs : List (List Int)) (m : Int), c ≤ m → (∀ x ∈ xs, c ≤ wrongs S x) → c ≤ xs.foldl (fun m x => min m (wrongs S x)) m
  | [], m, h, _ => h
  | y :: ys, m, h, hx => by
    rw [List.foldl_cons]
    exact foldl_min_le S ys _ (by have := hx y (by simp); omega) (fun x h => hx x (List.mem_cons_of_mem _ h))
theorem foldl_min_wit (S : Store) : ∀ (xs : List (List Int)) (m : Int), xs.foldl (fun m x => min m (wrongs S x)) m = m ∨ ∃ x ∈ xs, xs.foldl (fun m x => min m (wrongs S x)) m = wrongs S x
  | [], m => .inl rfl
  | y :: ys, m => by
    rw [List.foldl_cons]
    rcases foldl_min_wit S ys (min m (wrongs S y)) with h | ⟨x, hx, h⟩
    · rw [h]
      by_cases e : m ≤ wrongs S y
      · exact .inl (by omega)
      · exact .inr ⟨y, by simp, by omega⟩
    · exact .inr ⟨x, List.mem_cons_of_mem _ hx, h⟩
/-- Fewest is the wrong marks of some sawing that fits, and no more than those of any. -/
theorem few_iff {S : Store} (hV : Valid S) {x : List Int} (h : x ∈ fitL S) : ∃ f, fewV S = (f, 0) ∧ (∃ y ∈ fitL S, wrongs S y = f) ∧ (∀ y ∈ fitL S, f ≤ wrongs S y) := by
  refine ⟨fewF S (fitL S), fewV_yes (someB_mem h), ?_, fun y hy => foldl_min_mem S _ _ hy⟩
  rcases foldl_min_wit S (fitL S) S.pieces.length with h1 | ⟨y, hy, h1⟩
  · refine ⟨x, h, ?_⟩
    have h2 := foldl_min_mem S (fitL S) S.pieces.length h
    have h3 := (wrongsTo_le S x x.length).2
    have h4 := (fit_ok h).2
    have h5 : fewF S (fitL S) = S.pieces.length := h1
    rw [h1] at h2
    rw [h5]
    have h6 : wrongs S x = wrongsTo S x x.length := rfl
    omega
  · exact ⟨y, hy, h1.symm⟩
theorem least_iff {S : Store} {x : List Int} (h : x ∈ truthsL S) : (∃ y ∈ truthsL S, usedS y = leastS S) ∧ ∀ y ∈ truthsL S, leastS S ≤ usedS y := by
  unfold leastS planS
  cases hp : planL (truthsL S) with
  | none => have := planL_none.1 hp; rw [List.length_eq_zero_iff.1 this] at h; cases h
  | some p =>
    refine ⟨⟨p, ?_, rfl⟩, (plan_least _ _ _ hp).1⟩
    rcases foldl_mem _ _ hp with h1 | h1
    · exact h1
    · cases h1
theorem knownV_of {q : List Int → Bool} {xs : List (List Int)} :
    knownV q xs = if xs.length = 0 then (0, 3) else if ∀ x ∈ xs, q x = true then (1, 0) else if ∀ x ∈ xs, q x = false then (2, 0) else (3, 0) := by
  cases hx : xs with
  | nil => rfl
  | cons a l =>
    rw [← hx, if_neg (by rw [hx]; simp)]
    have ha : a ∈ xs := by rw [hx]; simp
    by_cases h1 : ∀ x ∈ xs, q x = true
    · have e1 : anyB q xs = true := by simp only [anyB, List.any_eq_true]; exact ⟨a, ha, h1 a ha⟩
      have e2 : anyB (fun x => !q x) xs = false := by simp only [anyB, List.any_eq_false]; intro x hx'; simp [h1 x hx']
      rw [if_pos h1]; unfold knownV; rw [e1, e2]; rfl
    · rw [if_neg h1]
      have ⟨y, hy, hqy⟩ : ∃ y ∈ xs, q y = false := by
        refine Classical.byContradiction fun hn => h1 fun x hx' => ?_
        cases hq : q x
        · exact absurd ⟨x, hx', hq⟩ hn
        · rfl
      have e2 : anyB (fun x => !q x) xs = true := by simp only [anyB, List.any_eq_true]; exact ⟨y, hy, by simp [hqy]⟩
      by_cases h2 : ∀ x ∈ xs, q x = false
      · have e1 : anyB q xs = false := by simp only [anyB, List.any_eq_false]; intro x hx'; simp [h2 x hx']
        rw [if_pos h2]; unfold knownV; rw [e1, e2]; rfl
      · have ⟨z, hz, hqz⟩ : ∃ y ∈ xs, q y = true := by
          refine Classical.byContradiction fun hn => h2 fun x hx' => ?_
          cases hq : q x
          · rfl
          · exact absurd ⟨x, hx', hq⟩ hn
        have e1 : anyB q xs = true := by simp only [anyB, List.any_eq_true]; exact ⟨z, hz, hqz⟩
        rw [if_neg h2]; unfold knownV; rw [e1, e2]; rfl
end Go.Proofs.Ytjflpmhlodgadaa
