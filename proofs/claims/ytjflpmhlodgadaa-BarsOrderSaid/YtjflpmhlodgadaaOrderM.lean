/-
  Plain facts: a store whose bars and pieces come in another order.
-/
import Derived.Test.YtjflpmhlodgadaaBetterM
namespace Go.Proofs.Ytjflpmhlodgadaa
open Go.RowKit

def sumN (f : Nat → Int) : Nat → Int
  | 0 => 0
  | k + 1 => sumN f k + f k
theorem sumN_congr {f g : Nat → Int} : ∀ {n : Nat}, (∀ i, i < n → f i = g i) → sumN f n = sumN g n
  | 0, _ => rfl
  | n + 1, h => by simp only [sumN]; rw [sumN_congr (fun i hi => h i (by omega)), h n (by omega)]
theorem sumN_front (f : Nat → Int) : ∀ n, sumN f (n + 1) = f 0 + sumN (fun i => f (i + 1)) n
  | 0 => by simp [sumN]
  | n + 1 => by rw [sumN, sumN_front f n]; simp only [sumN]; omega
theorem sumN_rev (f : Nat → Int) : ∀ n, sumN (fun i => f (n - 1 - i)) n = sumN f n
  | 0 => rfl
  | n + 1 => by
    rw [sumN_front, sumN]
    have h : sumN (fun i => f (n + 1 - 1 - (i + 1))) n = sumN (fun i => f (n - 1 - i)) n := sumN_congr fun i hi => by congr 1; omega
    rw [h, sumN_rev f n]
    simp only [Nat.add_sub_cancel, Nat.sub_zero]
    omega
theorem count_sum (L : List Int) (b : Int) : ∀ k, countTo L b k = sumN (fun i => if nth L i = b then 1 else 0) k
  | 0 => rfl
  | k + 1 => by simp only [countTo, sumN]; rw [count_sum L b k]
theorem sumTo_sum (S : Store) (L : List Int) (b : Int) : ∀ k, sumTo S L b k = sumN (fun i => if nth L i = b then (pnth S.pieces i).long else 0) k
  | 0 => rfl
  | k + 1 => by simp only [sumTo, sumN]; rw [sumTo_sum S L b k]
theorem wrongs_sum (S : Store) (L : List Int) : ∀ k, wrongsTo S L k = sumN (fun i => if wrongAt S i (nth L i).toNat = true then 1 else 0) k
  | 0 => rfl
  | k + 1 => by simp only [wrongsTo, sumN]; rw [wrongs_sum S L k]

/-- O is S with its bars in the order ρ, its pieces from the last one on. -/
structure Turn (S O : Store) (ρ σ : Nat → Nat) : Prop where
  nb : O.bars.length = S.bars.length
  np : O.pieces.length = S.pieces.length
  kerf : O.kerf = S.kerf
  wrong : O.wrong = S.wrong
  rlt : ∀ i, i < S.bars.length → ρ i < S.bars.length
  slt : ∀ i, i < S.bars.length → σ i < S.bars.length
  rs : ∀ i, i < S.bars.length → ρ (σ i) = i
  sr : ∀ i, i < S.bars.length → σ (ρ i) = i
  bar : ∀ i, i < S.bars.length → bnth O.bars i = bnth S.bars (ρ i)
  piece : ∀ i, i < S.pieces.length → pnth O.pieces i = pnth S.pieces (S.pieces.length - 1 - i)
theorem Turn.symm {S O : Store} {ρ σ : Nat → Nat} (h : Turn S O ρ σ) : Turn O S σ ρ := by
  refine ⟨h.nb.symm, h.np.symm, h.kerf.symm, h.wrong.symm, ?_, ?_, ?_, ?_, fun i hi => ?_, fun i hi => ?_⟩
  · rw [h.nb]; exact h.slt
  · rw [h.nb]; exact h.rlt
  · rw [h.nb]; exact h.sr
  · rw [h.nb]; exact h.rs
  · rw [h.nb] at hi
    rw [h.bar _ (h.slt i hi), h.rs i hi]
  · rw [h.np] at hi ⊢
    rw [h.piece _ (by omega)]
    congr 1
    omega
/-- A sawing of O as one of S. -/
def tr (ρ : Nat → Nat) (y : List Int) : List Int := (y.map fun b => (ρ b.toNat : Int)).reverse
theorem tr_length (ρ : Nat → Nat) (y : List Int) : (tr ρ y).length = y.length := by simp [tr]
theorem tr_nth {ρ : Nat → Nat} {y : List Int} {i : Nat} (h : i < y.length) : nth (tr ρ y) i = (ρ (nth y (y.length - 1 - i)).toNat : Int) := by
  rw [nth_lt (by rw [tr_length]; exact h), nth_lt (by omega)]
  simp [tr, List.getElem_reverse]
theorem ok_at {S : Store} {y : List Int} (h : OkBars S y) {i : Nat} (hi : i < y.length) : ∃ b : Nat, nth y i = b ∧ b < S.bars.length := by
  obtain ⟨h0, h1⟩ := h.2 i hi
  obtain ⟨b, hb⟩ := Int.eq_ofNat_of_zero_le h0
  exact ⟨b, hb, by omega⟩
theorem Turn.ok {S O : Store} {ρ σ : Nat → Nat} (h : Turn S O ρ σ) {y : List Int} (hy : OkBars O y) : OkBars S (tr ρ y) := by
  refine ⟨by rw [tr_length, ← h.np]; exact hy.1, fun i hi => ?_⟩
  rw [tr_length] at hi
  rw [tr_nth hi]
  obtain ⟨b, hb, hlt⟩ := ok_at hy (i := y.length - 1 - i) (by omega)
  rw [hb, Int.toNat_natCast]
  rw [h.nb] at hlt
  have := h.rlt b hlt
  omega
theorem Turn.back {S O : Store} {ρ σ : Nat → Nat} (h : Turn S O ρ σ) {y : List Int} (hy : OkBars O y) : tr σ (tr ρ y) = y := by
  refine list_ext_nth (by rw [tr_length, tr_length]) fun i hi => ?_
  rw [tr_length, tr_length] at hi
  rw [tr_nth (by rw [tr_length]; exact hi), tr_length, tr_nth (by omega)]
  have e : y.length - 1 - (y.length - 1 - i) = i := by omega
  rw [e]
  obtain ⟨b, hb, hlt⟩ := ok_at hy hi
  rw [h.nb] at hlt
  rw [hb, Int.toNat_natCast, Int.toNat_natCast, h.sr b hlt]
theorem Turn.eq_iff {S O : Store} {ρ σ : Nat → Nat} (h : Turn S O ρ σ) {b c : Nat} (hb : b < S.bars.length) (hc : c < S.bars.length) : ((ρ b : Int) = (c : Int)) ↔ ((b : Int) = (σ c : Int)) := by
  constructor
  · intro e
    have e : ρ b = c := by omega
    rw [← e, h.sr b hb]
  · intro e
    have e : b = σ c := by omega
    rw [e, h.rs c hc]
theorem Turn.sums {S O : Store} {ρ σ : Nat → Nat} (h : Turn S O ρ σ) {y : List Int} (hy : OkBars O y) (hl : y.length = S.pieces.length) {c : Nat} (hc : c < S.bars.length) :
    countTo (tr ρ y) c y.length = countTo y (σ c) y.length ∧ sumTo S (tr ρ y) c y.length = sumTo O y (σ c) y.length := by
  have hi : ∀ i, i < y.length → (nth (tr ρ y) i = (c : Int) ↔ nth y (y.length - 1 - i) = (σ c : Int)) := fun i hi => by
    obtain ⟨b, hb, hlt⟩ := ok_at hy (i := y.length - 1 - i) (by omega)
    rw [h.nb] at hlt
    rw [tr_nth hi, hb, Int.toNat_natCast]
    exact h.eq_iff hlt hc
  constructor
  · rw [count_sum, count_sum, ← sumN_rev (fun i => if nth y i = (σ c : Int) then 1 else 0)]
    exact sumN_congr fun i hlt => by simp only [hi i hlt]
  · rw [sumTo_sum, sumTo_sum, ← sumN_rev (fun i => if nth y i = (σ c : Int) then (pnth O.pieces i).long else 0)]
    refine sumN_congr fun i hlt => ?_
    have e : pnth O.pieces (y.length - 1 - i) = pnth S.pieces i := by
      rw [h.piece _ (by omega)]; congr 1; omega
    simp only [hi i hlt, e]
theorem Turn.rest {S O : Store} {ρ σ : Nat → Nat} (h : Turn S O ρ σ) {y : List Int} (hy : OkBars O y) (hl : y.length = S.pieces.length) {c : Nat} (hc : c < S.bars.length) : restS S (tr ρ y) c = restS O y (σ c) := by
  obtain ⟨h1, h2⟩ := h.sums hy hl hc
  unfold restS
  rw [tr_length, h1, h2, h.kerf, Int.toNat_natCast, Int.toNat_natCast, h.bar _ (h.slt c hc), h.rs c hc]
theorem Turn.wrongs {S O : Store} {ρ σ : Nat → Nat} (h : Turn S O ρ σ) {y : List Int} (hy : OkBars O y) (hl : y.length = S.pieces.length) : Go.Proofs.Ytjflpmhlodgadaa.wrongs S (tr ρ y) = Go.Proofs.Ytjflpmhlodgadaa.wrongs O y := by
  unfold Go.Proofs.Ytjflpmhlodgadaa.wrongs
  rw [tr_length, wrongs_sum, wrongs_sum, ← sumN_rev (fun i => if wrongAt O i (nth y i).toNat = true then 1 else 0)]
  refine sumN_congr fun i hi => ?_
  obtain ⟨b, hb, hlt⟩ := ok_at hy (i := y.length - 1 - i) (by omega)
  rw [h.nb] at hlt
  have e : pnth O.pieces (y.length - 1 - i) = pnth S.pieces i := by
    rw [h.piece _ (by omega)]; congr 1; omega
  have e2 : wrongAt S i (nth (tr ρ y) i).toNat = wrongAt O (y.length - 1 - i) (nth y (y.length - 1 - i)).toNat := by
    rw [tr_nth hi, hb]
    simp only [Int.toNat_natCast, wrongAt, e, h.bar b hlt]
  simp only [e2]
theorem Turn.fits {S O : Store} {ρ σ : Nat → Nat} (h : Turn S O ρ σ) {y : List Int} (hy : OkBars O y) (hl : y.length = S.pieces.length) (hf : fitsB O y = true) : fitsB S (tr ρ y) = true :=
  fitsB_iff.2 fun b hb => by
    rw [h.rest hy hl hb]
    exact fitsB_iff.1 hf _ (by rw [h.nb]; exact h.slt b hb)
theorem Turn.fit {S O : Store} {ρ σ : Nat → Nat} (h : Turn S O ρ σ) (hS : Valid S) (hO : Valid O) {y : List Int} (hy : y ∈ fitL O) : tr ρ y ∈ fitL S := by
  obtain ⟨⟨h1, h2⟩, h3⟩ := (mem_fit hO).1 hy
  rw [h.np] at h2
  exact (mem_fit hS).2 ⟨⟨h.ok h1, by rw [tr_length]; exact h2⟩, h.fits h1 h2 h3⟩
theorem Turn.truth {S O : Store} {ρ σ : Nat → Nat} (h : Turn S O ρ σ) (hS : Valid S) (hO : Valid O) {y : List Int} (hy : y ∈ truthsL O) : tr ρ y ∈ truthsL S := by
  obtain ⟨⟨h1, h2⟩, h3, h4⟩ := truthB_iff.1 ((mem_truths hO).1 hy)
  rw [h.np] at h2
  exact (mem_truths hS).2 (truthB_iff.2 ⟨⟨h.ok h1, by rw [tr_length]; exact h2⟩, fitsB_iff.1 (h.fits h1 h2 (fitsB_iff.2 h3)), by rw [h.wrongs h1 h2, ← h.wrong]; exact h4⟩)
theorem Turn.le {S O : Store} {ρ σ : Nat → Nat} (h : Turn S O ρ σ) (hS : Valid S) (hO : Valid O) : (truthsL O).length ≤ (truthsL S).length :=
  inj_le (tr ρ) (truths_nodup O) (fun x hx y hy e => by rw [← h.back (truths_ok hx).1, ← h.back (truths_ok hy).1, e]) fun x hx => h.truth hS hO hx
theorem Turn.many {S O : Store} {ρ σ : Nat → Nat} (h : Turn S O ρ σ) (hS : Valid S) (hO : Valid O) : (truthsL O).length = (truthsL S).length := Nat.le_antisymm (h.le hS hO) (h.symm.le hO hS)
theorem Turn.few_le {S O : Store} {ρ σ : Nat → Nat} (h : Turn S O ρ σ) (hS : Valid S) (hO : Valid O) (h0 : (fitL O).length ≠ 0) : (fitL S).length ≠ 0 ∧ (fewV S).1 ≤ (fewV O).1 := by
  obtain ⟨x, hx⟩ : ∃ x, x ∈ fitL O := List.exists_mem_of_ne_nil _ (fun e => h0 (by rw [e]; rfl))
  obtain ⟨f, hf, ⟨y, hy, he⟩, _⟩ := few_iff hO hx
  have hS' := h.fit hS hO hy
  obtain ⟨g, hg, _, hm⟩ := few_iff hS hS'
  have := hm _ hS'
  obtain ⟨h1, h2⟩ := fit_ok hy
  rw [h.wrongs h1 (by rw [h2, h.np]), he] at this
  refine ⟨(fun e => by rw [List.length_eq_zero_iff.1 e] at hS'; cases hS'), ?_⟩
  rw [hf, hg]
  exact this
theorem Turn.few {S O : Store} {ρ σ : Nat → Nat} (h : Turn S O ρ σ) (hS : Valid S) (hO : Valid O) : fewV O = fewV S := by
  by_cases h0 : (fitL O).length = 0
  · by_cases h1 : (fitL S).length = 0
    · rw [fewV_none h0, fewV_none h1]
    · exact absurd h0 (h.symm.few_le hO hS h1).1
  · obtain ⟨h1, h2⟩ := h.few_le hS hO h0
    have h3 := (h.symm.few_le hO hS h1).2
    have e : (fewV O).2 = (fewV S).2 := by rw [fewV_err, fewV_err, errN_pos h0, errN_pos h1]
    exact Prod.ext (by omega) e
theorem Turn.inB {S O : Store} {ρ σ : Nat → Nat} (h : Turn S O ρ σ) {y : List Int} (hy : OkBars O y) {c : Nat} (hc : c < S.bars.length) : Go.Proofs.Ytjflpmhlodgadaa.inB (tr ρ y) c = Go.Proofs.Ytjflpmhlodgadaa.inB y (σ c) := by
  have : (c : Int) ∈ tr ρ y ↔ (σ c : Int) ∈ y := by
    rw [mem_iff_nth, mem_iff_nth]
    constructor
    · rintro ⟨i, hi, e⟩
      rw [tr_length] at hi
      rw [tr_nth hi] at e
      obtain ⟨b, hb, hlt⟩ := ok_at hy (i := y.length - 1 - i) (by omega)
      rw [h.nb] at hlt
      rw [hb, Int.toNat_natCast] at e
      exact ⟨_, by omega, hb.trans ((h.eq_iff hlt hc).1 e)⟩
    · rintro ⟨i, hi, e⟩
      refine ⟨y.length - 1 - i, by rw [tr_length]; omega, ?_⟩
      rw [tr_nth (by omega)]
      have e' : y.length - 1 - (y.length - 1 - i) = i := by omega
      rw [e', e, Int.toNat_natCast, h.rs c hc]
  simp only [Go.Proofs.Ytjflpmhlodgadaa.inB, this]
/-- The bars that have pieces. -/
def barsOf (n : Nat) (L : List Int) : List Int := numsTo (fun b => Go.Proofs.Ytjflpmhlodgadaa.inB L b) n
theorem usedTo2_len (L : List Int) : ∀ n, usedTo2 L n = ((numsTo (fun b => Go.Proofs.Ytjflpmhlodgadaa.inB L b) n).length : Int)
  | 0 => rfl
  | n + 1 => by
    simp only [usedTo2, numsTo]
    rw [usedTo2_len L n]
    by_cases h : Go.Proofs.Ytjflpmhlodgadaa.inB L n = true
    · simp [h]
    · simp [h]
theorem Turn.used_le {S O : Store} {ρ σ : Nat → Nat} (h : Turn S O ρ σ) {y : List Int} (hy : OkBars O y) : (barsOf S.bars.length (tr ρ y)).length ≤ (barsOf S.bars.length y).length := by
  refine inj_le (fun b => (σ b.toNat : Int)) (numsTo_nodup _ _) (fun x hx z hz e => ?_) (fun x hx => ?_)
  · obtain ⟨i, hi, rfl, _⟩ := mem_numsTo.1 hx
    obtain ⟨j, hj, rfl, _⟩ := mem_numsTo.1 hz
    simp only [Int.toNat_natCast] at e
    have e : σ i = σ j := by omega
    have := h.rs i hi
    rw [e, h.rs j hj] at this
    omega
  · obtain ⟨i, hi, rfl, hf⟩ := mem_numsTo.1 hx
    simp only [Int.toNat_natCast]
    refine mem_numsTo.2 ⟨σ i, h.slt i hi, rfl, ?_⟩
    rw [← h.inB hy hi]
    exact hf
theorem Turn.used {S O : Store} {ρ σ : Nat → Nat} (h : Turn S O ρ σ) {y : List Int} (hy : OkBars O y) : usedS (tr ρ y) = usedS y := by
  rw [usedS_eq (h.ok hy), usedS_eq hy, usedTo2_len, usedTo2_len, h.nb]
  have h1 := h.used_le hy
  have h2 := h.symm.used_le (h.ok hy)
  rw [h.back hy, h.nb] at h2
  unfold barsOf at h1 h2
  omega
theorem Turn.least_le {S O : Store} {ρ σ : Nat → Nat} (h : Turn S O ρ σ) (hS : Valid S) (hO : Valid O) (h0 : (truthsL O).length ≠ 0) : leastS S ≤ leastS O := by
  obtain ⟨x, hx⟩ := some_truth h0
  obtain ⟨⟨y, hy, he⟩, _⟩ := least_iff hx
  have hS' := h.truth hS hO hy
  have := (least_iff hS').2 _ hS'
  rw [h.used (truths_ok hy).1, he] at this
  exact this
theorem Turn.least {S O : Store} {ρ σ : Nat → Nat} (h : Turn S O ρ σ) (hS : Valid S) (hO : Valid O) (h0 : (truthsL O).length ≠ 0) : leastS O = leastS S :=
  Int.le_antisymm (h.symm.least_le hO hS (by rw [← h.many hS hO]; exact h0)) (h.least_le hS hO h0)
theorem Turn.least' {S O : Store} {ρ σ : Nat → Nat} (h : Turn S O ρ σ) (hS : Valid S) (hO : Valid O) : leastS O = leastS S := by
  by_cases h0 : (truthsL O).length = 0
  · have h1 : (truthsL S).length = 0 := by rw [← h.many hS hO]; exact h0
    unfold leastS planS
    rw [List.length_eq_zero_iff.1 h0, List.length_eq_zero_iff.1 h1]
  · exact h.least hS hO h0
theorem known_turn {q r : List Int → Bool} {xs ys : List (List Int)} (h1 : ∀ x ∈ xs, ∃ y ∈ ys, q x = r y) (h2 : ∀ y ∈ ys, ∃ x ∈ xs, q x = r y) (hl : xs.length = ys.length) : knownV q xs = knownV r ys := by
  rw [knownV_of, knownV_of, hl]
  have e1 : ∀ b : Bool, (∀ x ∈ xs, q x = b) ↔ ∀ y ∈ ys, r y = b := fun b => by
    constructor
    · intro h y hy
      obtain ⟨x, hx, e⟩ := h2 y hy
      rw [← e]; exact h x hx
    · intro h x hx
      obtain ⟨y, hy, e⟩ := h1 x hx
      rw [e]; exact h y hy
  simp only [e1]
theorem Turn.corr {S O : Store} {ρ σ : Nat → Nat} (h : Turn S O ρ σ) (hS : Valid S) (hO : Valid O) {x : List Int} (hx : x ∈ truthsL S) : ∃ y ∈ truthsL O, tr ρ y = x :=
  ⟨_, h.symm.truth hO hS hx, h.symm.back (truths_ok hx).1⟩
theorem Turn.roomB {S O : Store} {ρ σ : Nat → Nat} (h : Turn S O ρ σ) {y : List Int} (hy : OkBars O y) (hl : y.length = S.pieces.length) (n : Int) : Go.Proofs.Ytjflpmhlodgadaa.roomB S (tr ρ y) n = Go.Proofs.Ytjflpmhlodgadaa.roomB O y n := by
  have hat : ∀ c, c < S.bars.length → roomAt S (tr ρ y) n c = roomAt O y n (σ c) := fun c hc => by
    simp only [roomAt, h.inB hy hc, h.rest hy hl hc, h.kerf]
  unfold Go.Proofs.Ytjflpmhlodgadaa.roomB
  congr 1
  rw [Bool.eq_iff_iff, allTo_iff, allTo_iff]
  constructor
  · intro hh j hj
    rw [h.nb] at hj
    have := hh (ρ j) (h.rlt j hj)
    rwa [hat _ (h.rlt j hj), h.sr j hj] at this
  · intro hh j hj
    rw [hat j hj]
    exact hh (σ j) (by rw [h.nb]; exact h.slt j hj)
theorem Turn.room {S O : Store} {ρ σ : Nat → Nat} (h : Turn S O ρ σ) (hS : Valid S) (hO : Valid O) (n : Int) : roomV O n = roomV S n := by
  unfold roomV
  refine (known_turn (fun x hx => ?_) (fun y hy => ?_) (h.many hS hO).symm).symm
  · obtain ⟨y, hy, rfl⟩ := h.corr hS hO hx
    exact ⟨y, hy, h.roomB (truths_ok hy).1 (by rw [(truths_ok hy).2, h.np]) n⟩
  · exact ⟨_, h.truth hS hO hy, h.roomB (truths_ok hy).1 (by rw [(truths_ok hy).2, h.np]) n⟩
theorem Turn.alikeB {S O : Store} {ρ σ : Nat → Nat} (h : Turn S O ρ σ) {y : List Int} (hy : OkBars O y) (hl : y.length = S.pieces.length) {p r : Nat} (hp : p < S.pieces.length) (hr : r < S.pieces.length) :
    Go.Proofs.Ytjflpmhlodgadaa.alikeB p r (tr ρ y) = Go.Proofs.Ytjflpmhlodgadaa.alikeB (S.pieces.length - 1 - p) (S.pieces.length - 1 - r) y := by
  obtain ⟨b, hb, hlb⟩ := ok_at hy (i := S.pieces.length - 1 - p) (by omega)
  obtain ⟨c, hc, hlc⟩ := ok_at hy (i := S.pieces.length - 1 - r) (by omega)
  rw [h.nb] at hlb hlc
  unfold Go.Proofs.Ytjflpmhlodgadaa.alikeB
  rw [tr_nth (by omega), tr_nth (by omega), hl, hb, hc, Int.toNat_natCast, Int.toNat_natCast, Bool.eq_iff_iff, beq_iff_eq, beq_iff_eq]
  constructor
  · intro e
    have e : ρ b = ρ c := by omega
    have := h.sr b hlb
    rw [e, h.sr c hlc] at this
    omega
  · intro e
    have e : b = c := by omega
    rw [e]
theorem Turn.alike {S O : Store} {ρ σ : Nat → Nat} (h : Turn S O ρ σ) (hS : Valid S) (hO : Valid O) {p r : Nat} (hp : p < S.pieces.length) (hr : r < S.pieces.length) : alikeV O (S.pieces.length - 1 - p) (S.pieces.length - 1 - r) = alikeV S p r := by
  unfold alikeV
  refine (known_turn (fun x hx => ?_) (fun y hy => ?_) (h.many hS hO).symm).symm
  · obtain ⟨y, hy, rfl⟩ := h.corr hS hO hx
    exact ⟨y, hy, h.alikeB (truths_ok hy).1 (by rw [(truths_ok hy).2, h.np]) hp hr⟩
  · exact ⟨_, h.truth hS hO hy, h.alikeB (truths_ok hy).1 (by rw [(truths_ok hy).2, h.np]) hp hr⟩
theorem heatsF_iff {S : Store} (hV : Valid S) {p : Nat} (hp : p < S.pieces.length) (k : Nat) : heatsF S (ofS S p) k = true ↔ ∃ x ∈ truthsL S, (bnth S.bars (nth x p).toNat).heat = (k : Int) := by
  simp only [heatsF, List.any_eq_true, decide_eq_true_eq]
  constructor
  · rintro ⟨b, hb, e⟩
    obtain ⟨x, hx, rfl⟩ := (mem_ofS hV hp).1 hb
    exact ⟨x, hx, e⟩
  · rintro ⟨x, hx, e⟩
    exact ⟨_, (mem_ofS hV hp).2 ⟨x, hx, rfl⟩, e⟩
theorem Turn.heat {S O : Store} {ρ σ : Nat → Nat} (h : Turn S O ρ σ) {y : List Int} (hy : OkBars O y) (hl : y.length = S.pieces.length) {p : Nat} (hp : p < S.pieces.length) : bnth S.bars (nth (tr ρ y) p).toNat = bnth O.bars (nth y (S.pieces.length - 1 - p)).toNat := by
  obtain ⟨b, hb, hlb⟩ := ok_at hy (i := S.pieces.length - 1 - p) (by omega)
  rw [h.nb] at hlb
  rw [tr_nth (by omega), hl, hb, Int.toNat_natCast, Int.toNat_natCast, h.bar b hlb]
theorem numsTo_congr {f g : Nat → Bool} : ∀ {n : Nat}, (∀ i, i < n → f i = g i) → numsTo f n = numsTo g n
  | 0, _ => rfl
  | n + 1, h => by simp only [numsTo]; rw [numsTo_congr (fun i hi => h i (by omega)), h n (by omega)]
theorem Turn.heats {S O : Store} {ρ σ : Nat → Nat} (h : Turn S O ρ σ) (hS : Valid S) (hO : Valid O) {p : Nat} (hp : p < S.pieces.length) : heatsS O (S.pieces.length - 1 - p) = heatsS S p := by
  unfold heatsS
  refine numsTo_congr fun k _ => ?_
  rw [Bool.eq_iff_iff, heatsF_iff hS hp, heatsF_iff hO (by rw [h.np]; omega)]
  constructor
  · rintro ⟨y, hy, e⟩
    exact ⟨_, h.truth hS hO hy, by rw [h.heat (truths_ok hy).1 (by rw [(truths_ok hy).2, h.np]) hp]; exact e⟩
  · rintro ⟨x, hx, e⟩
    obtain ⟨y, hy, rfl⟩ := h.corr hS hO hx
    exact ⟨y, hy, by rw [← h.heat (truths_ok hy).1 (by rw [(truths_ok hy).2, h.np]) hp]; exact e⟩
theorem Turn.span_le {S O : Store} {ρ σ : Nat → Nat} (h : Turn S O ρ σ) (hS : Valid S) (hO : Valid O) {c : Nat} (hc : c < S.bars.length) :
    (restSpan S c (truthsL S)).1 ≤ (restSpan O (σ c) (truthsL O)).1 ∧ (restSpan O (σ c) (truthsL O)).2 ≤ (restSpan S c (truthsL S)).2 := by
  have hin : ∀ y ∈ truthsL O, (restSpan S c (truthsL S)).1 ≤ restS O y (σ c) ∧ restS O y (σ c) ≤ (restSpan S c (truthsL S)).2 := fun y hy => by
    have := (rest_truth (S := S) c (x := tr ρ y) (truthsL S) (999, 0)).2 (h.truth hS hO hy)
    rw [h.rest (truths_ok hy).1 (by rw [(truths_ok hy).2, h.np]) hc] at this
    exact this
  have h0 := (rest_truth (S := S) c (x := []) (truthsL S) (999, 0)).1
  exact ⟨span_lo _ _ h0.1 fun y hy => (hin y hy).1, span_hi _ _ h0.2 fun y hy => (hin y hy).2⟩
theorem Turn.span {S O : Store} {ρ σ : Nat → Nat} (h : Turn S O ρ σ) (hS : Valid S) (hO : Valid O) {c : Nat} (hc : c < S.bars.length) : restSpan O (σ c) (truthsL O) = restSpan S c (truthsL S) := by
  obtain ⟨h1, h2⟩ := h.span_le hS hO hc
  obtain ⟨h3, h4⟩ := h.symm.span_le hO hS (c := σ c) (by rw [h.nb]; exact h.slt c hc)
  rw [h.rs c hc] at h3 h4
  exact Prod.ext (by omega) (by omega)
end Go.Proofs.Ytjflpmhlodgadaa
