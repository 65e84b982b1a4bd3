/-
  Plain facts on truths: the search misses none, and what the answers say holds in each.
-/
import Derived.Test.YtjflpmhlodgadaaHeats
import Derived.Test.YtjflpmhlodgadaaFewest
import Derived.Test.YtjflpmhlodgadaaStrange
import Derived.Test.YtjflpmhlodgadaaAlike
import Derived.Test.YtjflpmhlodgadaaW5
namespace Go.Proofs.Ytjflpmhlodgadaa
open Go.RowKit

theorem nth_take {L : List Int} {i j : Nat} (h : i < j) : nth (L.take j) i = nth L i := by
  simp only [nth, List.getD_eq_getElem?_getD, List.getElem?_take_of_lt h]
theorem countTo_take {L : List Int} {b : Int} {j : Nat} : ∀ {k : Nat}, k ≤ j → countTo (L.take j) b k = countTo L b k
  | 0, _ => rfl
  | k + 1, h => by simp only [countTo]; rw [countTo_take (by omega), nth_take (by omega)]
theorem sumTo_take {S : Store} {L : List Int} {b : Int} {j : Nat} : ∀ {k : Nat}, k ≤ j → sumTo S (L.take j) b k = sumTo S L b k
  | 0, _ => rfl
  | k + 1, h => by simp only [sumTo]; rw [sumTo_take (by omega), nth_take (by omega)]
theorem countTo_mono (L : List Int) (b : Int) {k : Nat} : ∀ {n : Nat}, k ≤ n → countTo L b k ≤ countTo L b n
  | 0, h => by obtain rfl : k = 0 := by omega
               exact Int.le_refl _
  | n + 1, h => by
    by_cases e : k = n + 1
    · subst e; exact Int.le_refl _
    · have := countTo_mono L b (k := k) (n := n) (by omega)
      simp only [countTo]; split <;> omega
theorem sumTo_mono {S : Store} (hV : Valid S) (L : List Int) (b : Int) {k : Nat} : ∀ {n : Nat}, k ≤ n → n ≤ S.pieces.length → sumTo S L b k ≤ sumTo S L b n
  | 0, h, _ => by obtain rfl : k = 0 := by omega
                  exact Int.le_refl _
  | n + 1, h, hn => by
    by_cases e : k = n + 1
    · subst e; exact Int.le_refl _
    · have := sumTo_mono hV L b (k := k) (n := n) (by omega) (by omega)
      have := hV.plong n (by omega)
      simp only [sumTo]; split <;> omega
theorem wrongsTo_mono (S : Store) (L : List Int) {k : Nat} : ∀ {n : Nat}, k ≤ n → wrongsTo S L k ≤ wrongsTo S L n
  | 0, h => by obtain rfl : k = 0 := by omega
               exact Int.le_refl _
  | n + 1, h => by
    by_cases e : k = n + 1
    · subst e; exact Int.le_refl _
    · have := wrongsTo_mono S L (k := k) (n := n) (by omega)
      simp only [wrongsTo]; split <;> omega
theorem restS_take {S : Store} (hV : Valid S) {L : List Int} (b : Int) {k : Nat} (hl : L.length = S.pieces.length) (hk : k ≤ L.length) : restS S L b ≤ restS S (L.take k) b := by
  have e : (L.take k).length = k := by simp; omega
  simp only [restS, e, countTo_take (Nat.le_refl k), sumTo_take (Nat.le_refl k)]
  have h1 := sumTo_mono hV L b hk (by omega)
  have h2 := countTo_mono L b hk
  have h3 : max (countTo L b k - 1) 0 ≤ max (countTo L b L.length - 1) 0 := by omega
  have h4 := Int.mul_le_mul_of_nonneg_right h3 hV.kerf.1
  omega
theorem sawL_complete {S : Store} {L : List Int} (hV : Valid S) (hO : OkBars S L) (hl : L.length = S.pieces.length) (hf : ∀ b : Nat, b < S.bars.length → 0 ≤ restS S L b) :
    ∀ (m k : Nat) (wr : Int), k + m = S.pieces.length → wrongsTo S L S.pieces.length - wrongsTo S L k ≤ wr → L ∈ sawL S m wr (L.take k)
  | 0, k, wr, h, _ => by
    simp only [sawL, List.mem_singleton]
    rw [List.take_of_length_le (by omega)]
  | m + 1, k, wr, h, hw => by
    obtain ⟨o1, o2⟩ := hO.2 k (by omega)
    obtain ⟨b, hb⟩ := Int.eq_ofNat_of_zero_le o1
    rw [sawL_succ]
    refine mem_flatTo.2 ⟨b, by omega, ?_⟩
    have htl : (L.take k).length = k := by simp; omega
    have ht : L.take k ++ [(b : Int)] = L.take (k + 1) := by rw [take_nth (by omega), hb]
    have hr : 0 ≤ restS S (L.take (k + 1)) b := Int.le_trans (hf b (by omega)) (restS_take hV b hl (by omega))
    have hs : wrongsTo S L (k + 1) = wrongsTo S L k + if wrongAt S k b = true then 1 else 0 := by simp only [wrongsTo, hb]; rfl
    have hm := wrongsTo_mono S L (k := k + 1) (n := S.pieces.length) (by omega)
    unfold sawAt
    rw [htl, ht]
    generalize (if wrongAt S k b = true then (1 : Int) else 0) = t at hs ⊢
    rw [if_neg (by rintro (h | h) <;> omega)]
    exact sawL_complete hV hO hl hf m (k + 1) _ (by omega) (by omega)

theorem truthB_iff {S : Store} {L : List Int} : truthB S L = true ↔ (OkBars S L ∧ L.length = S.pieces.length) ∧ (∀ b : Nat, b < S.bars.length → 0 ≤ restS S L b) ∧ wrongs S L ≤ S.wrong := by
  simp only [truthB, Bool.and_eq_true, sawingB_iff, fitsB, allTo_iff, decide_eq_true_eq]
theorem truth_mem {S : Store} {L : List Int} (hV : Valid S) (h : truthB S L = true) : L ∈ truthsL S := by
  obtain ⟨⟨h1, h2⟩, h3, h4⟩ := truthB_iff.1 h
  have := sawL_complete hV h1 h2 h3 S.pieces.length 0 S.wrong (by omega) (by have : wrongs S L = wrongsTo S L L.length := rfl; rw [h2] at this; simp only [wrongsTo]; omega)
  rwa [List.take_zero] at this
theorem fit_mem {S : Store} {L : List Int} (hV : Valid S) (h : truthB S L = true) : L ∈ fitL S := by
  obtain ⟨⟨h1, h2⟩, h3, h4⟩ := truthB_iff.1 h
  have := sawL_complete hV h1 h2 h3 S.pieces.length 0 S.pieces.length (by omega) (by have := (wrongsTo_le S L S.pieces.length).2; simp only [wrongsTo]; omega)
  rwa [List.take_zero] at this
theorem errN_mem {α : Type} {xs : List α} {x : α} (h : x ∈ xs) : errN xs.length = 0 := errN_pos (fun e => by rw [List.length_eq_zero_iff.1 e] at h; cases h)
theorem someB_mem {xs : List (List Int)} {x : List Int} (h : x ∈ xs) : someB xs = true := by
  cases xs with
  | nil => cases h
  | cons a l => rfl
theorem foldl_min_mem (S : Store) {x : List Int} : ∀ (xs : List (List Int)) (m : Int), x ∈ xs → xs.foldl (fun m x => min m (wrongs S x)) m ≤ wrongs S x
  | y :: ys, m, h => by
    rw [List.foldl_cons]
    rcases List.mem_cons.1 h with rfl | h
    · have := (foldl_min S ys (min m (wrongs S x))).1
      omega
    · exact foldl_min_mem S ys _ h
theorem few_truth {S : Store} {L : List Int} (hV : Valid S) (h : truthB S L = true) : ∃ f, fewV S = (f, 0) ∧ 0 ≤ f ∧ f ≤ wrongs S L := by
  have hm := fit_mem hV h
  exact ⟨fewF S (fitL S), fewV_yes (someB_mem hm), (foldl_min S _ _).2 (by omega), foldl_min_mem S _ _ hm⟩

theorem usedTo2_snoc (xs : List Int) (y : Int) : ∀ n : Nat, usedTo2 (xs ++ [y]) n = usedTo2 xs n + if (0 ≤ y ∧ y < n) ∧ inB xs y = false then 1 else 0
  | 0 => by simp only [usedTo2]; rw [if_neg (by omega)]; rfl
  | n + 1 => by
    simp only [usedTo2]
    rw [usedTo2_snoc xs y n, inB_append]
    by_cases e : (n : Int) = y
    · subst e
      have h1 : ¬ ((n : Int) < n) := by omega
      have h2 : (0 : Int) ≤ n ∧ (n : Int) < ((n + 1 : Nat) : Int) := by omega
      cases hi : inB xs n
      · rw [if_neg (fun h => h1 h.1.2), if_pos (by simp), if_neg (by simp), if_pos ⟨h2, rfl⟩]
      · rw [if_neg (fun h => h1 h.1.2), if_pos (by simp), if_pos rfl, if_neg (by simp)]; omega
    · have e1 : decide ((n : Int) = y) = false := by simp [e]
      have e2 : (0 ≤ y ∧ y < ((n + 1 : Nat) : Int)) ↔ (0 ≤ y ∧ y < (n : Int)) := by omega
      rw [e1, Bool.or_false]
      simp only [e2]
      exact Int.add_right_comm _ _ _
theorem usedTo2_nil : ∀ n : Nat, usedTo2 [] n = 0
  | 0 => rfl
  | n + 1 => by simp only [usedTo2]; rw [usedTo2_nil n]; rfl
theorem usedTo_take {S : Store} {L : List Int} (hO : OkBars S L) : ∀ k : Nat, k ≤ L.length → usedTo L k = usedTo2 (L.take k) S.bars.length
  | 0, _ => by rw [List.take_zero, usedTo2_nil]; rfl
  | k + 1, h => by
    have ho := hO.2 k (by omega)
    rw [take_nth (by omega), usedTo2_snoc, ← usedTo_take hO k (by omega)]
    simp only [usedTo]
    cases hi : inB (L.take k) (nth L k) <;> simp [ho]
theorem usedS_eq {S : Store} {L : List Int} (hO : OkBars S L) : usedS L = usedTo2 L S.bars.length := by
  have := usedTo_take hO L.length (Nat.le_refl _)
  rwa [List.take_length] at this
theorem plan_least : ∀ (xs : List (List Int)) (o : Option (List Int)) (p : List Int), xs.foldl planF o = some p → (∀ x ∈ xs, usedS p ≤ usedS x) ∧ (∀ q, o = some q → usedS p ≤ usedS q)
  | [], o, p, h => ⟨fun x hx => (by cases hx), fun q hq => by rw [List.foldl_nil] at h; rw [h] at hq; cases hq; exact Int.le_refl _⟩
  | y :: ys, o, p, h => by
    rw [List.foldl_cons] at h
    obtain ⟨h1, h2⟩ := plan_least ys _ p h
    cases o with
    | none =>
      have h3 := h2 y rfl
      exact ⟨fun x hx => (by rcases List.mem_cons.1 hx with rfl | hx; exact h3; exact h1 x hx), fun q hq => (by cases hq)⟩
    | some q =>
      by_cases hu : usedS y < usedS q
      · have h3 := h2 y (by simp only [planF, if_pos hu])
        exact ⟨fun x hx => (by rcases List.mem_cons.1 hx with rfl | hx; exact h3; exact h1 x hx), fun r hr => (by cases hr; omega)⟩
      · have h3 := h2 q (by simp only [planF, if_neg hu])
        exact ⟨fun x hx => (by rcases List.mem_cons.1 hx with rfl | hx; omega; exact h1 x hx), fun r hr => (by cases hr; exact h3)⟩

theorem rest_truth {S : Store} (b : Int) {x : List Int} : ∀ (xs : List (List Int)) (p : Int × Int), ((xs.foldl (restStep S b) p).1 ≤ p.1 ∧ p.2 ≤ (xs.foldl (restStep S b) p).2) ∧ (x ∈ xs → (xs.foldl (restStep S b) p).1 ≤ restS S x b ∧ restS S x b ≤ (xs.foldl (restStep S b) p).2)
  | [], p => ⟨⟨Int.le_refl _, Int.le_refl _⟩, fun h => (by cases h)⟩
  | y :: ys, p => by
    rw [List.foldl_cons]
    obtain ⟨h1, h2⟩ := rest_truth (S := S) b (x := x) ys (restStep S b p y)
    have e1 : (restStep S b p y).1 = min p.1 (restS S y b) := rfl
    have e2 : (restStep S b p y).2 = max p.2 (restS S y b) := rfl
    refine ⟨by omega, fun h => ?_⟩
    rcases List.mem_cons.1 h with rfl | h
    · omega
    · exact h2 h
theorem known_agrees {q : List Int → Bool} {xs : List (List Int)} {x : List Int} (h : x ∈ xs) : (knownV q xs).2 = 0 ∧ agreesB (knownV q xs).1 (q x) = true := by
  cases hq : q x
  · have h1 : anyB (fun x => !q x) xs = true := by simp only [anyB, List.any_eq_true]; exact ⟨x, h, by simp [hq]⟩
    unfold knownV
    rw [h1]
    cases anyB q xs <;> exact ⟨rfl, rfl⟩
  · have h1 : anyB q xs = true := by simp only [anyB, List.any_eq_true]; exact ⟨x, h, hq⟩
    unfold knownV
    rw [h1]
    cases anyB (fun x => !q x) xs <;> exact ⟨rfl, rfl⟩
theorem str_truth {S : Store} {L : List Int} {x : Int} (hL : L ∈ truthsL S) (h : x ∈ strS S) : ∃ j : Nat, x = j ∧ j < S.pieces.length ∧ wrongAt S j (nth L j).toNat = true := by
  have hz : (truthsL S).length ≠ 0 := fun e => by rw [List.length_eq_zero_iff.1 e] at hL; cases hL
  unfold strS at h
  rw [if_neg hz] at h
  obtain ⟨j, _, rfl, hf⟩ := mem_numsTo.1 h
  simp only [strF, Bool.and_eq_true, decide_eq_true_eq, List.all_eq_true] at hf
  exact ⟨j, rfl, hf.1, hf.2 L hL⟩
theorem strS_le (S : Store) : (strS S).length ≤ 8 := by
  unfold strS
  split
  · simp
  · exact numsTo_length _ _
theorem of_truth {S : Store} {L : List Int} {p : Nat} (hV : Valid S) (hL : L ∈ truthsL S) (hp : p < S.pieces.length) : inB (ofS S p) (nth L p) = true := by
  obtain ⟨h1, h2⟩ := truths_ok hL
  obtain ⟨o1, o2⟩ := h1.2 p (by omega)
  obtain ⟨b, hb⟩ := Int.eq_ofNat_of_zero_le o1
  simp only [inB, decide_eq_true_eq]
  refine mem_numsTo.2 ⟨b, by have := hV.nb; omega, hb, ?_⟩
  simp only [ofF, List.any_eq_true, decide_eq_true_eq]
  exact ⟨L, hL, hb⟩
theorem inB_mem {xs : List Int} {x : Int} : inB xs x = true ↔ x ∈ xs := by simp [inB]
theorem heats_truth {S : Store} {L : List Int} {p : Nat} (hV : Valid S) (hL : L ∈ truthsL S) (hp : p < S.pieces.length) : inB (heatsS S p) (bnth S.bars (nth L p).toNat).heat = true := by
  obtain ⟨h1, h2⟩ := truths_ok hL
  obtain ⟨o1, o2⟩ := h1.2 p (by omega)
  have hh := hV.heat (nth L p).toNat (by omega)
  obtain ⟨h, hb⟩ := Int.eq_ofNat_of_zero_le hh.1
  rw [inB_mem]
  refine mem_numsTo.2 ⟨h, by omega, hb, ?_⟩
  simp only [heatsF, List.any_eq_true, decide_eq_true_eq]
  exact ⟨nth L p, inB_mem.1 (of_truth hV hL hp), hb⟩
theorem of_err {S : Store} {L : List Int} {p : Nat} (hV : Valid S) (hL : L ∈ truthsL S) (hp : p < S.pieces.length) : errN (ofS S p).length = 0 := errN_mem (inB_mem.1 (of_truth hV hL hp))
end Go.Proofs.Ytjflpmhlodgadaa
