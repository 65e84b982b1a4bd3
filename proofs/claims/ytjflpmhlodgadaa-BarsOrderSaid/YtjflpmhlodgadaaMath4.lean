/-
  Plain facts: a store that is easier to saw; a piece that is cut in two.
-/
import Derived.Test.YtjflpmhlodgadaaAsks
import Derived.Test.YtjflpmhlodgadaaBase
namespace Go.Proofs.Ytjflpmhlodgadaa
open Go.RowKit

/-- O has longer bars, a lesser kerf, shorter pieces, and is S else. -/
structure Easier (S O : Store) : Prop where
  nb : O.bars.length = S.bars.length
  np : O.pieces.length = S.pieces.length
  heat : ∀ i, i < S.bars.length → (bnth O.bars i).heat = (bnth S.bars i).heat
  blong : ∀ i, i < S.bars.length → (bnth S.bars i).long ≤ (bnth O.bars i).long
  plong : ∀ i, i < S.pieces.length → (pnth O.pieces i).long ≤ (pnth S.pieces i).long
  heats : ∀ i, i < S.pieces.length → (pnth O.pieces i).heats = (pnth S.pieces i).heats
  kerf : O.kerf ≤ S.kerf
  wrong : S.wrong ≤ O.wrong
theorem Easier.sum {S O : Store} (h : Easier S O) (L : List Int) (c : Int) : ∀ k, k ≤ S.pieces.length → sumTo O L c k ≤ sumTo S L c k
  | 0, _ => Int.le_refl _
  | k + 1, hk => by
    have := h.sum L c k (by omega)
    have := h.plong k (by omega)
    simp only [sumTo]; split <;> omega
theorem Easier.rest {S O : Store} (h : Easier S O) {x : List Int} (hl : x.length ≤ S.pieces.length) {b : Nat} (hb : b < S.bars.length) : restS S x b ≤ restS O x b := by
  have h1 := h.sum x b x.length hl
  have h2 := h.blong b hb
  have h3 : max (countTo x b x.length - 1) 0 * O.kerf ≤ max (countTo x b x.length - 1) 0 * S.kerf := Int.mul_le_mul_of_nonneg_left h.kerf (by omega)
  simp only [restS, Int.toNat_natCast]
  omega
theorem Easier.wrongAt {S O : Store} (h : Easier S O) {p b : Nat} (hp : p < S.pieces.length) (hb : b < S.bars.length) : Go.Proofs.Ytjflpmhlodgadaa.wrongAt O p b = Go.Proofs.Ytjflpmhlodgadaa.wrongAt S p b := by
  simp only [Go.Proofs.Ytjflpmhlodgadaa.wrongAt, h.heat b hb, h.heats p hp]
theorem Easier.wrongs {S O : Store} (h : Easier S O) {x : List Int} (hO : OkBars S x) : Go.Proofs.Ytjflpmhlodgadaa.wrongs O x = Go.Proofs.Ytjflpmhlodgadaa.wrongs S x :=
  wrongsTo_congr fun i hi => by
    have h1 := hO.2 i hi
    have h2 := hO.1
    exact h.wrongAt (by omega) (by omega)
theorem Easier.ok {S O : Store} (h : Easier S O) {x : List Int} (hO : OkBars S x) : OkBars O x :=
  ⟨by rw [h.np]; exact hO.1, fun i hi => by rw [h.nb]; exact hO.2 i hi⟩
theorem Easier.fits {S O : Store} (h : Easier S O) {x : List Int} (hl : x.length ≤ S.pieces.length) (hf : fitsB S x = true) : fitsB O x = true :=
  fitsB_iff.2 fun b hb => Int.le_trans (fitsB_iff.1 hf b (by rw [← h.nb]; exact hb)) (h.rest hl (by rw [← h.nb]; exact hb))
theorem Easier.truth {S O : Store} (h : Easier S O) {x : List Int} (hx : truthB S x = true) : truthB O x = true := by
  obtain ⟨⟨h1, h2⟩, h3, h4⟩ := truthB_iff.1 hx
  exact truthB_iff.2 ⟨⟨h.ok h1, by rw [h.np]; exact h2⟩, fitsB_iff.1 (h.fits h1.1 (fitsB_iff.2 h3)), by rw [h.wrongs h1]; exact Int.le_trans h4 h.wrong⟩
theorem Easier.many {S O : Store} (h : Easier S O) (hS : Valid S) (hO : Valid O) : (truthsL S).length ≤ (truthsL O).length :=
  nodup_le (truths_nodup S) fun _ hx => (mem_truths hO).2 (h.truth ((mem_truths hS).1 hx))
theorem Easier.least {S O : Store} (h : Easier S O) (hS : Valid S) (hO : Valid O) (h0 : (truthsL S).length ≠ 0) : (truthsL O).length ≠ 0 ∧ leastS O ≤ leastS S := by
  obtain ⟨x, hx⟩ : ∃ x, x ∈ truthsL S := List.exists_mem_of_ne_nil _ (fun e => h0 (by rw [e]; rfl))
  obtain ⟨⟨y, hy, he⟩, _⟩ := least_iff hx
  have hyO := (mem_truths hO).2 (h.truth ((mem_truths hS).1 hy))
  exact ⟨by have := h.many hS hO; omega, by rw [← he]; exact (least_iff hyO).2 y hyO⟩
theorem fewV_none {S : Store} (h : (fitL S).length = 0) : fewV S = (0, 3) := by
  unfold fewV
  rw [List.length_eq_zero_iff.1 h]
  rfl
theorem Easier.few {S O : Store} (h : Easier S O) (hS : Valid S) (hO : Valid O) (h0 : (fitL S).length ≠ 0) : (fewV S).2 = 0 ∧ (fewV O).2 = 0 ∧ (fewV O).1 ≤ (fewV S).1 := by
  obtain ⟨x, hx⟩ : ∃ x, x ∈ fitL S := List.exists_mem_of_ne_nil _ (fun e => h0 (by rw [e]; rfl))
  obtain ⟨f, hf, ⟨y, hy, he⟩, _⟩ := few_iff hS hx
  obtain ⟨⟨y1, y2⟩, y3⟩ := (mem_fit hS).1 hy
  have hyO : y ∈ fitL O := (mem_fit hO).2 ⟨⟨h.ok y1, by rw [h.np]; exact y2⟩, h.fits y1.1 y3⟩
  obtain ⟨g, hg, _, hm⟩ := few_iff hO hyO
  rw [hf, hg]
  exact ⟨rfl, rfl, by have := hm y hyO; rw [h.wrongs y1, he] at this; exact this⟩

/-- The store with one piece cut in two. -/
def two (S : Store) (p : Nat) (long : Int) : Store :=
  ⟨S.bars, S.kerf, S.pieces.set p ⟨long, (pnth S.pieces p).heats⟩ ++ [⟨(pnth S.pieces p).long - S.kerf - long, (pnth S.pieces p).heats⟩], S.wrong + 1⟩
theorem pnth_set_same {ps : List Piece} {p : Nat} {q : Piece} (h : p < ps.length) : pnth (ps.set p q) p = q := by simp [pnth, h]
theorem pnth_set_other {ps : List Piece} {p i : Nat} {q : Piece} (h : p ≠ i) : pnth (ps.set p q) i = pnth ps i := by
  simp [pnth, List.getElem?_set_ne h]
theorem two_np (S : Store) (p : Nat) (long : Int) : (two S p long).pieces.length = S.pieces.length + 1 := by simp [two]
theorem two_at {S : Store} {p : Nat} {long : Int} (hp : p < S.pieces.length) :
    pnth (two S p long).pieces p = ⟨long, (pnth S.pieces p).heats⟩ ∧ (∀ i, i < S.pieces.length → p ≠ i → pnth (two S p long).pieces i = pnth S.pieces i) ∧
    pnth (two S p long).pieces S.pieces.length = ⟨(pnth S.pieces p).long - S.kerf - long, (pnth S.pieces p).heats⟩ := by
  refine ⟨?_, fun i hi hne => ?_, ?_⟩
  · simp only [two]; rw [pnth_append_left (by simpa using hp), pnth_set_same hp]
  · simp only [two]; rw [pnth_append_left (by simpa using hi), pnth_set_other hne]
  · simp only [two]
    have := pnth_append_right (ps := S.pieces.set p ⟨long, (pnth S.pieces p).heats⟩) (p := ⟨(pnth S.pieces p).long - S.kerf - long, (pnth S.pieces p).heats⟩)
    rwa [List.length_set] at this
theorem two_sum {S : Store} {p : Nat} {long : Int} (hp : p < S.pieces.length) (x : List Int) (c : Int) : ∀ k, k ≤ S.pieces.length →
    sumTo (two S p long) x c k = sumTo S x c k + (if p < k ∧ nth x p = c then long - (pnth S.pieces p).long else 0)
  | 0, _ => by simp [sumTo]
  | k + 1, hk => by
    have ih := two_sum (long := long) hp x c k (by omega)
    simp only [sumTo]
    rw [ih]
    by_cases e : p = k
    · subst e
      have hk0 : ¬ (p < p ∧ nth x p = c) := fun h => by omega
      rw [(two_at hp).1, if_neg hk0]
      by_cases h : nth x p = c
      · rw [if_pos h, if_pos h, if_pos (show p < p + 1 ∧ nth x p = c from ⟨by omega, h⟩)]; simp only; omega
      · rw [if_neg h, if_neg h, if_neg (show ¬ (p < p + 1 ∧ nth x p = c) from fun h' => h h'.2)]
    · rw [(two_at hp).2.1 k (by omega) e]
      by_cases h : p < k ∧ nth x p = c
      · rw [if_pos h, if_pos (show p < k + 1 ∧ nth x p = c from ⟨by omega, h.2⟩)]; omega
      · rw [if_neg h, if_neg (show ¬ (p < k + 1 ∧ nth x p = c) from fun h' => h ⟨by omega, h'.2⟩)]; omega
theorem two_rest {S : Store} {p : Nat} {long : Int} (hp : p < S.pieces.length) {x : List Int} (hl : x.length = S.pieces.length) (c : Int) :
    restS (two S p long) (x ++ [nth x p]) c = restS S x c := by
  have e1 : (two S p long).kerf = S.kerf := rfl
  have e2 : (two S p long).bars = S.bars := rfl
  have hlen : (x ++ [nth x p]).length = x.length + 1 := by simp
  have hs := two_sum (long := long) hp x c x.length (by omega)
  simp only [restS, hlen, countTo_snoc, sumTo_snoc, e1, e2]
  rw [hs]
  by_cases h : nth x p = c
  · rw [if_pos ⟨by omega, h⟩, if_pos h, if_pos h, hl, (two_at hp).2.2]
    have hc : 0 < countTo x c S.pieces.length := inB_count.2 ⟨p, hp, h⟩
    rw [show max (countTo x c S.pieces.length + 1 - 1) 0 = max (countTo x c S.pieces.length - 1) 0 + 1 by omega, Int.add_mul]
    simp only
    omega
  · rw [if_neg (fun h' => h h'.2), if_neg h, if_neg h]
    simp
theorem two_truth {S : Store} {p : Nat} {long : Int} (hp : p < S.pieces.length) {x : List Int} (h : truthB S x = true) : truthB (two S p long) (x ++ [nth x p]) = true := by
  obtain ⟨⟨h1, h2⟩, h3, h4⟩ := truthB_iff.1 h
  refine truthB_iff.2 ⟨⟨⟨by rw [two_np]; simp; omega, fun i hi => ?_⟩, by rw [two_np]; simp; omega⟩, fun c hc => by rw [two_rest hp h2]; exact h3 c hc, ?_⟩
  · simp only [List.length_append, List.length_cons, List.length_nil] at hi
    have hb : (two S p long).bars.length = S.bars.length := rfl
    rw [hb]
    by_cases e : i = x.length
    · subst e; rw [nth_snoc]; exact h1.2 p (by omega)
    · rw [nth_snoc_lt (by omega)]; exact h1.2 i (by omega)
  · rw [wrongs_snoc]
    have hw : wrongs (two S p long) x = wrongs S x := wrongsTo_congr fun i hi => by
      simp only [wrongAt]
      by_cases e : p = i
      · subst e; rw [(two_at hp).1]; rfl
      · rw [(two_at hp).2.1 i (by omega) e]; rfl
    have hwr : (two S p long).wrong = S.wrong + 1 := rfl
    rw [hw, hwr]
    split <;> omega
theorem two_many {S : Store} {p : Nat} {long : Int} (hp : p < S.pieces.length) (hS : Valid S) (hO : Valid (two S p long)) : (truthsL S).length ≤ (truthsL (two S p long)).length :=
  inj_le (fun x => x ++ [nth x p]) (truths_nodup S) (fun x hx y hy he => by
    have h1 := (truths_ok hx).2
    have h2 := (truths_ok hy).2
    exact (List.append_inj he (by omega)).1) (fun x hx => (mem_truths hO).2 (two_truth hp ((mem_truths hS).1 hx)))
theorem numsTo_nodup (f : Nat → Bool) : ∀ k, (numsTo f k).Nodup
  | 0 => List.nodup_nil
  | k + 1 => by
    simp only [numsTo]
    rw [List.nodup_append]
    refine ⟨numsTo_nodup f k, by split <;> simp, fun a ha b hb e => ?_⟩
    subst e
    obtain ⟨j, hj, rfl, _⟩ := mem_numsTo.1 ha
    split at hb
    · rw [List.mem_singleton] at hb; omega
    · cases hb
theorem subB_of {a b : List Int} (hn : a.Nodup) (h : ∀ x ∈ a, x ∈ b) : subB a b = true := by
  simp only [subB, Bool.and_eq_true, decide_eq_true_eq, allTo_iff]
  exact ⟨fun j hj => inB_mem.2 (h _ (nth_mem hj)), nodup_le hn h⟩
theorem mem_ofS {S : Store} (hV : Valid S) {p : Nat} (hp : p < S.pieces.length) {b : Int} : b ∈ ofS S p ↔ ∃ x ∈ truthsL S, nth x p = b := by
  constructor
  · intro h
    obtain ⟨j, hj, rfl, hf⟩ := mem_numsTo.1 h
    simp only [ofF, List.any_eq_true, decide_eq_true_eq] at hf
    exact hf
  · rintro ⟨x, hx, rfl⟩
    exact inB_mem.1 (of_truth hV hx hp)
theorem two_of {S : Store} {p : Nat} {long : Int} (hp : p < S.pieces.length) (hS : Valid S) (hO : Valid (two S p long)) :
    subB (ofS S p) (ofS (two S p long) p) = true ∧ subB (ofS S p) (ofS (two S p long) S.pieces.length) = true := by
  refine ⟨subB_of (numsTo_nodup _ _) fun b hb => ?_, subB_of (numsTo_nodup _ _) fun b hb => ?_⟩
  · obtain ⟨x, hx, rfl⟩ := (mem_ofS hS hp).1 hb
    refine (mem_ofS hO (by rw [two_np]; omega)).2 ⟨_, (mem_truths hO).2 (two_truth hp ((mem_truths hS).1 hx)), nth_snoc_lt ?_⟩
    rw [(truths_ok hx).2]; exact hp
  · obtain ⟨x, hx, rfl⟩ := (mem_ofS hS hp).1 hb
    refine (mem_ofS hO (by rw [two_np]; omega)).2 ⟨_, (mem_truths hO).2 (two_truth hp ((mem_truths hS).1 hx)), ?_⟩
    rw [← (truths_ok hx).2, nth_snoc]
end Go.Proofs.Ytjflpmhlodgadaa
