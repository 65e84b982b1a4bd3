/-
  Plain facts: searches over the first k places.
-/
import Derived.Test.YtjflpmhlodgadaaMem
namespace Go.Proofs.Ytjflpmhlodgadaa

def allTo (p : Nat → Bool) : Nat → Bool
  | 0 => true
  | k + 1 => allTo p k && p k
theorem allTo_iff {p : Nat → Bool} : ∀ {n : Nat}, allTo p n = true ↔ ∀ j, j < n → p j = true
  | 0 => by simp [allTo]
  | n + 1 => by
    simp only [allTo, Bool.and_eq_true, allTo_iff]
    exact ⟨fun h j hj => by rcases Nat.lt_succ_iff_lt_or_eq.1 hj with h1 | rfl; exact h.1 j h1; exact h.2, fun h => ⟨fun j hj => h j (by omega), h n (by omega)⟩⟩
theorem allTo_false {p : Nat → Bool} {n j : Nat} (hj : j < n) (h : p j = false) : allTo p n = false := by
  cases e : allTo p n
  · rfl
  · rw [allTo_iff.1 e j hj] at h; cases h
theorem allTo_true {p : Nat → Bool} {n : Nat} (h : ∀ j, j < n → p j = true) : allTo p n = true := allTo_iff.2 h
theorem allTo_step {p : Nat → Bool} {k : Nat} (h : Go.RowKit.Hid (allTo p k = true)) (hk : p k = true) : Go.RowKit.Hid (allTo p (k + 1) = true) := by
  have := h.out
  show allTo p (k + 1) = true
  simp [allTo, this, hk]
theorem allTo_congr {p q : Nat → Bool} {n : Nat} (h : ∀ j, j < n → p j = q j) : allTo p n = allTo q n := by
  rw [Bool.eq_iff_iff, allTo_iff, allTo_iff]
  exact ⟨fun k j hj => (h j hj) ▸ k j hj, fun k j hj => (h j hj).symm ▸ k j hj⟩

def prevH (xs : List Int) (k : Nat) : Int := match k with | 0 => -1 | k + 1 => nth xs k
def heatOk (xs : List Int) (i : Nat) : Bool := decide (prevH xs i < nth xs i) && decide (nth xs i ≤ 9)
def heatsOk (xs : List Int) : Bool := allTo (heatOk xs) xs.length


def wB (n lo hi : Int) : Bool := decide (lo ≤ n) && decide (n ≤ hi)
theorem wB_iff {n lo hi : Int} : wB n lo hi = true ↔ lo ≤ n ∧ n ≤ hi := by simp [wB]
theorem wB_false {n lo hi : Int} : wB n lo hi = false ↔ n < lo ∨ hi < n := by
  simp [wB]; omega
def barOk (b : Bar) : Bool := wB b.heat 0 9 && wB b.long 1 999
def pieceOk (p : Piece) : Bool := wB p.long 1 999 && heatsOk p.heats
def validB (S : Store) : Bool :=
  decide (S.bars.length ≤ 6) && (decide (S.pieces.length ≤ 8) && (allTo (fun i => barOk (bnth S.bars i)) S.bars.length && (allTo (fun i => pieceOk (pnth S.pieces i)) S.pieces.length && (wB S.kerf 0 20 && wB S.wrong 0 8))))

/-- A store that is valid, as inequalities. -/
structure Valid (S : Store) : Prop where
  nb : S.bars.length ≤ 6
  np : S.pieces.length ≤ 8
  heat : ∀ i, i < S.bars.length → 0 ≤ (bnth S.bars i).heat ∧ (bnth S.bars i).heat ≤ 9
  blong : ∀ i, i < S.bars.length → 1 ≤ (bnth S.bars i).long ∧ (bnth S.bars i).long ≤ 999
  plong : ∀ i, i < S.pieces.length → 1 ≤ (pnth S.pieces i).long ∧ (pnth S.pieces i).long ≤ 999
  heats : ∀ i, i < S.pieces.length → heatsOk (pnth S.pieces i).heats = true
  kerf : 0 ≤ S.kerf ∧ S.kerf ≤ 20
  wrong : 0 ≤ S.wrong ∧ S.wrong ≤ 8
theorem valid_iff {S : Store} : validB S = true ↔ Valid S := by
  constructor
  · intro h
    simp only [validB, Bool.and_eq_true, decide_eq_true_eq, allTo_iff, wB_iff, barOk, pieceOk] at h
    obtain ⟨h1, h2, h3, h4, h5, h6⟩ := h
    exact ⟨h1, h2, fun i hi => (h3 i hi).1, fun i hi => (h3 i hi).2, fun i hi => (h4 i hi).1, fun i hi => (h4 i hi).2, h5, h6⟩
  · intro h
    simp only [validB, Bool.and_eq_true, decide_eq_true_eq, allTo_iff, wB_iff, barOk, pieceOk]
    exact ⟨h.nb, h.np, fun i hi => ⟨h.heat i hi, h.blong i hi⟩, fun i hi => ⟨h.plong i hi, h.heats i hi⟩, h.kerf, h.wrong⟩

def inB (xs : List Int) (x : Int) : Bool := decide (x ∈ xs)
theorem mem_iff_nth {xs : List Int} {x : Int} : x ∈ xs ↔ ∃ i, i < xs.length ∧ nth xs i = x := by
  constructor
  · intro h
    obtain ⟨i, hi, rfl⟩ := List.getElem_of_mem h
    exact ⟨i, hi, nth_lt hi⟩
  · rintro ⟨i, hi, rfl⟩
    exact nth_mem hi
theorem inB_yes {xs : List Int} {x : Int} {i : Nat} (hi : i < xs.length) (h : x = nth xs i) : inB xs x = true := by
  simp only [inB, decide_eq_true_eq]; exact h ▸ nth_mem hi
theorem inB_no {xs : List Int} {x : Int} (h : allTo (fun i => decide (x ≠ nth xs i)) xs.length = true) : inB xs x = false := by
  simp only [inB, decide_eq_false_iff_not, mem_iff_nth]
  rintro ⟨i, hi, he⟩
  have := allTo_iff.1 h i hi
  simp [he] at this

def wrongAt (S : Store) (p b : Nat) : Bool := !inB (pnth S.pieces p).heats (bnth S.bars b).heat
def wrongsTo (S : Store) (L : List Int) : Nat → Int
  | 0 => 0
  | k + 1 => wrongsTo S L k + if wrongAt S k (nth L k).toNat = true then 1 else 0
def wrongs (S : Store) (L : List Int) : Int := wrongsTo S L L.length
theorem wrongsTo_le (S : Store) (L : List Int) : ∀ k : Nat, 0 ≤ wrongsTo S L k ∧ wrongsTo S L k ≤ k
  | 0 => by simp [wrongsTo]
  | k + 1 => by have := wrongsTo_le S L k; simp only [wrongsTo]; split <;> omega

def countTo (L : List Int) (b : Int) : Nat → Int
  | 0 => 0
  | k + 1 => countTo L b k + if nth L k = b then 1 else 0
def sumTo (S : Store) (L : List Int) (b : Int) : Nat → Int
  | 0 => 0
  | k + 1 => sumTo S L b k + if nth L k = b then (pnth S.pieces k).long else 0
def restS (S : Store) (L : List Int) (b : Int) : Int :=
  (bnth S.bars b.toNat).long - sumTo S L b L.length - max (countTo L b L.length - 1) 0 * S.kerf
theorem countTo_le (L : List Int) (b : Int) : ∀ k : Nat, 0 ≤ countTo L b k ∧ countTo L b k ≤ k
  | 0 => by simp [countTo]
  | k + 1 => by have := countTo_le L b k; simp only [countTo]; split <;> omega
theorem sumTo_le {S : Store} (hV : Valid S) (L : List Int) (b : Int) : ∀ k : Nat, k ≤ S.pieces.length → 0 ≤ sumTo S L b k ∧ sumTo S L b k ≤ 999 * k
  | 0, _ => by simp [sumTo]
  | k + 1, h => by have := sumTo_le hV L b k (by omega); have := hV.plong k (by omega); simp only [sumTo]; split <;> omega

/-- A row of bars of the store, for at most all pieces. -/
def OkBars (S : Store) (L : List Int) : Prop := L.length ≤ S.pieces.length ∧ ∀ i, i < L.length → 0 ≤ nth L i ∧ nth L i < S.bars.length
def sawingB (S : Store) (L : List Int) : Bool := decide (L.length = S.pieces.length) && allTo (fun i => wB (nth L i) 0 (S.bars.length - 1)) L.length
theorem sawingB_iff {S : Store} {L : List Int} : sawingB S L = true ↔ OkBars S L ∧ L.length = S.pieces.length := by
  simp only [sawingB, Bool.and_eq_true, decide_eq_true_eq, allTo_iff, wB_iff, OkBars]
  constructor
  · rintro ⟨h1, h2⟩
    exact ⟨⟨by omega, fun i hi => by have := h2 i hi; omega⟩, h1⟩
  · rintro ⟨⟨_, h2⟩, h1⟩
    exact ⟨h1, fun i hi => by have := h2 i hi; omega⟩

def fitsB (S : Store) (L : List Int) : Bool := allTo (fun b => decide (0 ≤ restS S L b)) S.bars.length
def truthB (S : Store) (L : List Int) : Bool := sawingB S L && (fitsB S L && decide (wrongs S L ≤ S.wrong))

def chkS (S : Store) : Int := if validB S = true then 0 else 10
theorem chkS_ok {S : Store} (h : validB S = true) : chkS S = 0 := by simp [chkS, h]
theorem chkS_bad {S : Store} (h : validB S = false) : chkS S = 10 := by simp [chkS, h]

end Go.Proofs.Ytjflpmhlodgadaa
