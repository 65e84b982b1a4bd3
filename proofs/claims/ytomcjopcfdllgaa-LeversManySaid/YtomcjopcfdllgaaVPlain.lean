/-
  Levers: the meaning in plain functions: a machine, the pull, which balances are right with a product of short arms; the spans of such products within which the same balances are right.
  Levers: counts behind places, as the pairs of short arms keep them: how many places are used before one, and how much lies there together.
  Levers: what spans that lie apart hold together.
  Levers: all settings of short arms, as the document counts them, and as the program does: one lever, and pairs of the others; the truths counted by groups.
-/


namespace Go.Proofs.Ytomcjopcfdllgaa


structure Lev where
  long : Int
  lo : Int
  hi : Int
deriving DecidableEq, Inhabited
structure Bal where
  weight : Int
  minutes : Int
  load : Int
  off : Int
deriving DecidableEq, Inhabited
structure Mach where
  levers : List Lev
  water : Int
  lkLo : Int
  lkHi : Int
  bals : List Bal
  wrong : Int
deriving DecidableEq, Inhabited

/-- The product of all long arms. -/
def longP (ls : List Lev) : Int := ls.foldl (fun p l => p * l.long) 1
/-- The pull, times the long arms. -/
def force (M : Mach) (weight minutes leak : Int) : Int := (weight + max (M.water - minutes * leak) 0) * longP M.levers
/-- Whether a balance is right with a product of short arms. -/
def rightP (M : Mach) (leak P : Int) (b : Bal) : Bool := decide ((b.load - b.off) * P ≤ force M b.weight b.minutes leak) && decide (force M b.weight b.minutes leak ≤ (b.load + b.off) * P)
/-- How many balances are not right. -/
def wrongsP (M : Mach) (leak P : Int) : Nat := (M.bals.filter (fun b => !rightP M leak P b)).length
def upD (n b : Int) : Int := (n + b - 1) / b
theorem upD_le {n b P : Int} (hb : 0 < b) : upD n b ≤ P ↔ n ≤ b * P := by
  unfold upD
  constructor
  · intro h
    have h1 := Int.lt_ediv_add_one_mul_self (n + b - 1) hb
    have h2 : ((n + b - 1) / b + 1) * b ≤ (P + 1) * b := Int.mul_le_mul_of_nonneg_right (by omega) (by omega)
    have h3 : (P + 1) * b = b * P + b := by rw [Int.add_mul, Int.mul_comm P b, Int.one_mul]
    omega
  · intro h
    have h1 : n + b - 1 < b * (P + 1) := by rw [Int.mul_add, Int.mul_one]; omega
    have h2 : (n + b - 1) / b < P + 1 := Int.ediv_lt_of_lt_mul hb (by rw [Int.mul_comm]; exact h1)
    omega
theorem le_div {n b P : Int} (hb : 0 < b) : P < n / b + 1 ↔ b * P ≤ n := by
  rw [Int.lt_add_one_iff, Int.le_ediv_iff_mul_le hb, Int.mul_comm]

/-- Where the balances that are right change, as the product grows. -/
def startsB (M : Mach) (leak : Int) (b : Bal) : List Int :=
  (if b.load + b.off > 0 then [upD (force M b.weight b.minutes leak) (b.load + b.off)] else []) ++ (if b.load - b.off > 0 then [force M b.weight b.minutes leak / (b.load - b.off) + 1] else [])
theorem right_same {M : Mach} {leak a c P Q : Int} {b : Bal} (hl : 0 ≤ b.load) (ho : 0 ≤ b.off) (hf : 0 ≤ force M b.weight b.minutes leak) (hs : ∀ s ∈ startsB M leak b, s ≤ a ∨ c < s) (ha : 1 ≤ a) (hP : a ≤ P ∧ P ≤ c) (hQ : a ≤ Q ∧ Q ≤ c) :
    rightP M leak P b = rightP M leak Q b := by
  have e1 : (force M b.weight b.minutes leak ≤ (b.load + b.off) * P) ↔ (force M b.weight b.minutes leak ≤ (b.load + b.off) * Q) := by
    by_cases h : b.load + b.off > 0
    · rw [← upD_le h, ← upD_le h]
      have := hs (upD (force M b.weight b.minutes leak) (b.load + b.off)) (by simp [startsB, h])
      omega
    · have h0 : b.load + b.off = 0 := by omega
      rw [h0, Int.zero_mul, Int.zero_mul]
  have e2 : ((b.load - b.off) * P ≤ force M b.weight b.minutes leak) ↔ ((b.load - b.off) * Q ≤ force M b.weight b.minutes leak) := by
    by_cases h : b.load - b.off > 0
    · rw [← le_div h, ← le_div h]
      have := hs (force M b.weight b.minutes leak / (b.load - b.off) + 1) (by simp only [startsB, if_pos h]; exact List.mem_append.2 (.inr (.head _)))
      omega
    · have n1 : ∀ X : Int, 1 ≤ X → (b.load - b.off) * X ≤ force M b.weight b.minutes leak := fun X hX => by
        have := Int.mul_le_mul_of_nonneg_right (show b.load - b.off ≤ 0 by omega) (show (0 : Int) ≤ X by omega)
        rw [Int.zero_mul] at this
        omega
      exact ⟨fun _ => n1 Q (by omega), fun _ => n1 P (by omega)⟩
  simp only [rightP, e1, e2]

/-- The spans between sorted starts, up to high. -/
def spansL (high : Int) : Int → List Int → List (Int × Int)
  | low, [] => if high + 1 > low then [(low, high)] else []
  | low, s :: r => if min s (high + 1) > low then (low, min s (high + 1) - 1) :: spansL high (min s (high + 1)) r else spansL high low r
theorem spans_in {high : Int} : ∀ {l : List Int} {low : Int} {p : Int × Int}, p ∈ spansL high low l → low ≤ p.1 ∧ p.1 ≤ p.2 ∧ p.2 ≤ high
  | [], low, p, h => by
    simp only [spansL] at h
    split at h
    · simp only [List.mem_singleton] at h
      subst h
      exact ⟨Int.le_refl _, by show low ≤ high; omega, Int.le_refl _⟩
    · simp at h
  | s :: r, low, p, h => by
    simp only [spansL] at h
    split at h
    · rcases List.mem_cons.1 h with rfl | h
      · refine ⟨Int.le_refl _, ?_, ?_⟩ <;> (dsimp; omega)
      · have := spans_in h
        omega
    · exact spans_in h
theorem spans_cover {high : Int} : ∀ {l : List Int} {low P : Int}, low ≤ P → P ≤ high → ∃ p ∈ spansL high low l, p.1 ≤ P ∧ P ≤ p.2
  | [], low, P, h1, h2 => ⟨(low, high), by simp only [spansL]; rw [if_pos (by omega)]; simp, h1, h2⟩
  | s :: r, low, P, h1, h2 => by
    simp only [spansL]
    split
    · by_cases h : P < min s (high + 1)
      · exact ⟨_, .head _, h1, by show P ≤ min s (high + 1) - 1; omega⟩
      · obtain ⟨p, hp, h⟩ := spans_cover (l := r) (low := min s (high + 1)) (by omega) h2
        exact ⟨p, .tail _ hp, h⟩
    · exact spans_cover h1 h2
/-- No two spans meet, and they stand in their order. -/
theorem spans_apart {high : Int} : ∀ {l : List Int} {low : Int}, (spansL high low l).Pairwise (fun p q => p.2 < q.1)
  | [], low => by
    simp only [spansL]
    split <;> simp
  | s :: r, low => by
    simp only [spansL]
    split
    · refine List.pairwise_cons.2 ⟨fun q hq => ?_, spans_apart⟩
      have := spans_in hq
      dsimp
      omega
    · exact spans_apart
/-- No start lies within a span. -/
theorem spans_same {high : Int} : ∀ {l : List Int} {low : Int}, l.Pairwise (· ≤ ·) → ∀ s ∈ l, ∀ p ∈ spansL high low l, s ≤ p.1 ∨ p.2 < s
  | [], _, _, s, hs, _, _ => by simp at hs
  | t :: r, low, hp, s, hs, p, h => by
    obtain ⟨h1, h2⟩ := List.pairwise_cons.1 hp
    simp only [spansL] at h
    split at h
    · rcases List.mem_cons.1 h with rfl | h
      · right
        dsimp
        rcases List.mem_cons.1 hs with rfl | hs
        · omega
        · have := h1 s hs
          omega
      · have hb := spans_in h
        rcases List.mem_cons.1 hs with rfl | hs
        · by_cases q : s ≤ high + 1
          · left; omega
          · have := hb.2.2; right; omega
        · exact spans_same h2 s hs p h
    · have hb := spans_in h
      rcases List.mem_cons.1 hs with rfl | hs
      · by_cases q : s ≤ high + 1
        · left; omega
        · have := hb.2.2; right; omega
      · exact spans_same h2 s hs p h


/-- How many of the first places are used. -/
def posTo (f : Nat → Nat) : Nat → Nat
  | 0 => 0
  | i + 1 => posTo f i + (if 0 < f i then 1 else 0)
/-- How much lies in the first places together. -/
def sumTo (f : Nat → Nat) : Nat → Nat
  | 0 => 0
  | i + 1 => sumTo f i + f i
/-- The sums behind each used place, beginning with none. -/
def manyL (f : Nat → Nat) : Nat → List Nat
  | 0 => [0]
  | i + 1 => if 0 < f i then manyL f i ++ [sumTo f (i + 1)] else manyL f i
/-- How many places are used before each place, and before the end. -/
def lessL (f : Nat → Nat) (n : Nat) : List Nat := (List.range (n + 1)).map (posTo f)
/-- What the used places hold, in their order. -/
def usedL {α : Type} (f : Nat → Nat) (v : Nat → α) : Nat → List α
  | 0 => []
  | i + 1 => if 0 < f i then usedL f v i ++ [v i] else usedL f v i

theorem posTo_mono {f : Nat → Nat} {i : Nat} : ∀ {j : Nat}, i ≤ j → posTo f i ≤ posTo f j
  | 0, h => by obtain rfl : i = 0 := by omega
               exact Nat.le_refl _
  | j + 1, h => by
    by_cases e : i = j + 1
    · subst e; exact Nat.le_refl _
    · have := posTo_mono (f := f) (i := i) (j := j) (by omega)
      simp only [posTo]; omega
theorem sumTo_mono {f : Nat → Nat} {i : Nat} : ∀ {j : Nat}, i ≤ j → sumTo f i ≤ sumTo f j
  | 0, h => by obtain rfl : i = 0 := by omega
               exact Nat.le_refl _
  | j + 1, h => by
    by_cases e : i = j + 1
    · subst e; exact Nat.le_refl _
    · have := sumTo_mono (f := f) (i := i) (j := j) (by omega)
      simp only [sumTo]; omega
theorem posTo_le (f : Nat → Nat) : ∀ i, posTo f i ≤ i
  | 0 => Nat.le_refl _
  | i + 1 => by have := posTo_le f i; simp only [posTo]; split <;> omega
theorem many_len (f : Nat → Nat) : ∀ n, (manyL f n).length = posTo f n + 1
  | 0 => rfl
  | n + 1 => by
    have := many_len f n
    simp only [manyL, posTo]
    split <;> simp [this]
theorem used_len {α : Type} (f : Nat → Nat) (v : Nat → α) : ∀ n, (usedL f v n).length = posTo f n
  | 0 => rfl
  | n + 1 => by
    have := used_len f v n
    simp only [usedL, posTo]
    split <;> simp [this]
theorem many_last (f : Nat → Nat) : ∀ n, (manyL f n)[posTo f n]? = some (sumTo f n)
  | 0 => rfl
  | n + 1 => by
    simp only [manyL, posTo]
    split
    · rename_i h
      rw [List.getElem?_append_right (by rw [many_len]; omega), many_len]
      simp
    · rename_i h
      have := many_last f n
      rw [Nat.add_zero, this]
      simp only [sumTo]
      congr 1
      omega
theorem many_at (f : Nat → Nat) {i : Nat} : ∀ {n : Nat}, i ≤ n → (manyL f n)[posTo f i]? = some (sumTo f i)
  | 0, h => by obtain rfl : i = 0 := by omega
               rfl
  | n + 1, h => by
    by_cases e : i = n + 1
    · subst e; exact many_last f _
    · have h1 := many_at f (i := i) (n := n) (by omega)
      simp only [manyL]
      split
      · have h2 := posTo_mono (f := f) (show i ≤ n by omega)
        rw [List.getElem?_append_left (by rw [many_len]; omega)]
        exact h1
      · exact h1
theorem used_at {α : Type} (f : Nat → Nat) (v : Nat → α) {i : Nat} (hf : 0 < f i) : ∀ {n : Nat}, i < n → (usedL f v n)[posTo f i]? = some (v i)
  | 0, h => by omega
  | n + 1, h => by
    simp only [usedL]
    by_cases e : i = n
    · subst e
      rw [if_pos hf, List.getElem?_append_right (by rw [used_len]; omega), used_len]
      simp
    · have h1 := used_at f v hf (n := n) (by omega)
      split
      · have h2 := posTo_mono (f := f) (show i + 1 ≤ n by omega)
        simp only [posTo, if_pos hf] at h2
        rw [List.getElem?_append_left (by rw [used_len]; omega)]
        exact h1
      · exact h1
theorem less_at (f : Nat → Nat) {i n : Nat} (h : i ≤ n) : (lessL f n)[i]? = some (posTo f i) := by
  simp [lessL, show i < n + 1 by omega]
/-- The first used place from a place on. -/
theorem first_used {f : Nat → Nat} {i : Nat} : ∀ {j : Nat}, posTo f i < posTo f j → ∃ k, i ≤ k ∧ k < j ∧ 0 < f k ∧ posTo f k = posTo f i ∧ ∀ m, i ≤ m → m < k → f m = 0
  | 0, h => by simp [posTo] at h
  | j + 1, h => by
    by_cases q : posTo f i < posTo f j
    · obtain ⟨k, h1, h2, h3⟩ := first_used q
      exact ⟨k, h1, by omega, h3⟩
    · have hij : i ≤ j := by
        by_cases e : i ≤ j
        · exact e
        · have := posTo_mono (f := f) (show j + 1 ≤ i by omega)
          omega
      have hm := posTo_mono (f := f) hij
      simp only [posTo] at h
      have hj : 0 < f j := by
        by_cases e : 0 < f j
        · exact e
        · rw [if_neg e] at h; omega
      refine ⟨j, hij, by omega, hj, by omega, fun m h1 h2 => ?_⟩
      have h3 := posTo_mono (f := f) h1
      have h4 := posTo_mono (f := f) (show m + 1 ≤ j by omega)
      simp only [posTo] at h4
      by_cases e : 0 < f m
      · rw [if_pos e] at h4; omega
      · omega
/-- The last used place before a place. -/
theorem last_used {f : Nat → Nat} {i : Nat} : ∀ {j : Nat}, posTo f i < posTo f j → ∃ k, i ≤ k ∧ k < j ∧ 0 < f k ∧ posTo f k + 1 = posTo f j ∧ ∀ m, k < m → m < j → f m = 0
  | 0, h => by simp [posTo] at h
  | j + 1, h => by
    by_cases q : 0 < f j
    · refine ⟨j, ?_, by omega, q, by simp only [posTo, if_pos q], fun m h1 h2 => by omega⟩
      by_cases e : i ≤ j
      · exact e
      · have := posTo_mono (f := f) (show j + 1 ≤ i by omega)
        omega
    · simp only [posTo, if_neg q, Nat.add_zero] at h ⊢
      obtain ⟨k, h1, h2, h3, h4, h5⟩ := last_used h
      refine ⟨k, h1, by omega, h3, h4, fun m g1 g2 => ?_⟩
      by_cases e : m = j
      · subst e; omega
      · exact h5 m g1 (by omega)
theorem sum_used {f : Nat → Nat} {i : Nat} : ∀ {j : Nat}, i ≤ j → (sumTo f i < sumTo f j ↔ posTo f i < posTo f j)
  | 0, h => by obtain rfl : i = 0 := by omega
               simp
  | j + 1, h => by
    by_cases e : i = j + 1
    · subst e; simp
    · have h1 := sum_used (f := f) (i := i) (j := j) (by omega)
      have h2 := posTo_mono (f := f) (show i ≤ j by omega)
      have h3 := sumTo_mono (f := f) (show i ≤ j by omega)
      simp only [sumTo, posTo]
      by_cases q : 0 < f j
      · rw [if_pos q]; omega
      · rw [if_neg q]; omega

/-- Adding one at the place of each value, one after the other. -/
def tally (vs : List Nat) (i : Nat) : Nat := (vs.filter (fun v => decide (v = i))).length
theorem tally_snoc (vs : List Nat) (v i : Nat) : tally (vs ++ [v]) i = tally vs i + (if v = i then 1 else 0) := by
  simp only [tally, List.filter_append, List.length_append]
  by_cases h : v = i <;> simp [h]
theorem sum_tally (vs : List Nat) : ∀ n, sumTo (tally vs) n = (vs.filter (fun v => decide (v < n))).length
  | 0 => by
    have : vs.filter (fun v => decide (v < 0)) = [] := List.filter_eq_nil_iff.2 (fun a _ => by simp)
    rw [this]; rfl
  | n + 1 => by
    simp only [sumTo, sum_tally vs n, tally]
    induction vs with
    | nil => rfl
    | cons v vs ih =>
      simp only [List.filter_cons]
      by_cases h1 : v < n
      · have h2 : ¬ v = n := by omega
        have h3 : v < n + 1 := by omega
        simp only [h1, h2, h3, decide_true, decide_false, if_true, List.length_cons]
        simp only [Bool.false_eq_true, if_false]
        omega
      · by_cases h2 : v = n
        · have h3 : v < n + 1 := by omega
          simp only [h2, decide_true, decide_false, if_true, List.length_cons, Bool.false_eq_true, if_false, Nat.lt_irrefl, Nat.lt_succ_self]
          omega
        · have h3 : ¬ v < n + 1 := by omega
          simp only [h1, h2, h3, decide_false, Bool.false_eq_true, if_false]
          exact ih

def inP (p : Int × Int) (P : Int) : Bool := decide (p.1 ≤ P) && decide (P ≤ p.2)
theorem inP_iff {p : Int × Int} {P : Int} : inP p P = true ↔ p.1 ≤ P ∧ P ≤ p.2 := by simp [inP]
theorem filter_or {α : Type} (L : List α) (f g : α → Bool) (h : ∀ x ∈ L, ¬ (f x = true ∧ g x = true)) : (L.filter (fun x => f x || g x)).length = (L.filter f).length + (L.filter g).length := by
  induction L with
  | nil => rfl
  | cons x L ih =>
    have ih := ih (fun y hy => h y (.tail _ hy))
    have hx := h x (.head _)
    simp only [List.filter_cons]
    cases hf : f x <;> cases hg : g x
    · simp only [Bool.or_self, Bool.false_eq_true, if_false]; exact ih
    · simp only [Bool.or_true, if_true, Bool.false_eq_true, if_false, List.length_cons]; omega
    · simp only [Bool.or_false, if_true, Bool.false_eq_true, if_false, List.length_cons]; omega
    · exact absurd ⟨hf, hg⟩ hx
/-- What spans that lie apart hold, each by itself, is what they hold together. -/
theorem spans_sum (T : Int → Bool) (L : List Int) : ∀ {sp : List (Int × Int)}, sp.Pairwise (fun p q => p.2 < q.1) → (∀ p ∈ sp, p.1 ≤ p.2) →
    (sp.map (fun p => (L.filter (fun P => inP p P && T P)).length)).sum = (L.filter (fun P => sp.any (fun p => inP p P) && T P)).length
  | [], _, _ => by
    have : L.filter (fun P => ([] : List (Int × Int)).any (fun p => inP p P) && T P) = [] := List.filter_eq_nil_iff.2 (fun a _ => by simp)
    rw [this]; rfl
  | p :: r, hap, hle => by
    obtain ⟨h1, h2⟩ := List.pairwise_cons.1 hap
    rw [List.map_cons, List.sum_cons, spans_sum T L h2 (fun q hq => hle q (.tail _ hq)), ← filter_or]
    · congr 2
      funext P
      rw [List.any_cons, Bool.and_or_distrib_right]
    · rintro P _ ⟨g1, g2⟩
      simp only [Bool.and_eq_true, List.any_eq_true, inP_iff] at g1 g2
      obtain ⟨⟨q, hq, g3⟩, _⟩ := g2
      have := h1 q hq
      omega
/-- Spans that cover all of some numbers, in each of which T is the same: what they hold of T is all of T. -/
theorem spans_all {T : Int → Bool} {L : List Int} {sp : List (Int × Int)} (hap : sp.Pairwise (fun p q => p.2 < q.1)) (hle : ∀ p ∈ sp, p.1 ≤ p.2) (hc : ∀ P ∈ L, ∃ p ∈ sp, p.1 ≤ P ∧ P ≤ p.2) :
    (sp.map (fun p => (L.filter (fun P => inP p P && T P)).length)).sum = (L.filter T).length := by
  rw [spans_sum T L hap hle]
  congr 1
  refine List.filter_congr fun P hP => ?_
  obtain ⟨p, hp, h⟩ := hc P hP
  have : sp.any (fun p => inP p P) = true := List.any_eq_true.2 ⟨p, hp, inP_iff.2 h⟩
  rw [this, Bool.true_and]
/-- Of a span in which T is the same, T holds all or nothing. -/
theorem span_one {T : Int → Bool} {L : List Int} {p : Int × Int} {c : Bool} (hT : ∀ P, p.1 ≤ P → P ≤ p.2 → T P = c) : (L.filter (fun P => inP p P && T P)).length = if c = true then (L.filter (inP p)).length else 0 := by
  cases c
  · rw [if_neg (by simp), List.length_eq_zero_iff]
    refine List.filter_eq_nil_iff.2 fun P _ h => ?_
    simp only [Bool.and_eq_true, inP_iff] at h
    rw [hT P h.1.1 h.1.2] at h
    cases h.2
  · rw [if_pos rfl]
    congr 1
    refine List.filter_congr fun P _ => ?_
    cases h : inP p P
    · rfl
    · rw [inP_iff] at h
      rw [hT P h.1 h.2]; rfl

def rangeL (lo hi : Int) : List Int := (List.range (hi - lo + 1).toNat).map (fun k : Nat => lo + k)
theorem mem_range {lo hi x : Int} : x ∈ rangeL lo hi ↔ lo ≤ x ∧ x ≤ hi := by
  simp only [rangeL, List.mem_map, List.mem_range]
  constructor
  · rintro ⟨k, hk, rfl⟩; omega
  · intro h
    exact ⟨(x - lo).toNat, by omega, by omega⟩
theorem range_one : rangeL 1 1 = [1] := rfl
/-- All short arms. -/
def armsL : List Lev → List (List Int)
  | [] => [[]]
  | l :: ls => (rangeL l.lo l.hi).flatMap (fun a => (armsL ls).map (a :: ·))
/-- The product of some arms. -/
def prodL (x : List Int) : Int := x.foldl (fun p a => p * a) 1
/-- The span of a lever's short arm, of one that is not there: 1 to 1. -/
def shortOf (ls : List Lev) (i : Nat) : Int × Int := match ls[i]? with
  | some l => (l.lo, l.hi)
  | none => (1, 1)
def pairsL (A B : Int × Int) : List (Int × Int) := (rangeL A.1 A.2).flatMap (fun x => (rangeL B.1 B.2).map (fun y => (x, y)))
theorem mem_pairs {A B p : Int × Int} : p ∈ pairsL A B ↔ (A.1 ≤ p.1 ∧ p.1 ≤ A.2) ∧ B.1 ≤ p.2 ∧ p.2 ≤ B.2 := by
  simp only [pairsL, List.mem_flatMap, List.mem_map, mem_range]
  constructor
  · rintro ⟨x, hx, y, hy, rfl⟩; exact ⟨hx, hy⟩
  · rintro ⟨h1, h2⟩; exact ⟨p.1, h1, p.2, h2, rfl⟩
/-- All products, one lever's arm after the other. -/
def prodsL (A B D : Int × Int) : List Int := (rangeL A.1 A.2).flatMap (fun a => (pairsL B D).map (fun p => a * (p.1 * p.2)))
theorem prods_eq {ls : List Lev} (h : ls.length ≤ 3) : (armsL ls).map prodL = prodsL (shortOf ls 0) (shortOf ls 1) (shortOf ls 2) := by
  match ls, h with
  | [], _ => rfl
  | [l], _ =>
    simp only [armsL, prodsL, shortOf, pairsL, List.getElem?_cons_zero, List.getElem?_cons_succ, List.getElem?_nil, range_one, List.map_flatMap]
    congr 1
    funext a
    simp [prodL]
  | [l, m], _ =>
    simp only [armsL, prodsL, shortOf, pairsL, List.getElem?_cons_zero, List.getElem?_cons_succ, List.getElem?_nil, range_one, List.map_flatMap]
    congr 1
    funext a
    congr 1
    funext b
    simp [prodL]
  | [l, m, n], _ =>
    simp only [armsL, prodsL, shortOf, pairsL, List.getElem?_cons_zero, List.getElem?_cons_succ, List.map_flatMap]
    congr 1
    funext a
    congr 1
    funext b
    simp [prodL, Int.mul_assoc, ← List.map_eq_flatMap, Function.comp_def]
theorem sum_swap {α β : Type} (f : α → β → Nat) (bs : List β) : ∀ as : List α, (as.map (fun a => (bs.map (f a)).sum)).sum = (bs.map (fun b => (as.map (fun a => f a b)).sum)).sum
  | [] => by
    induction bs with
    | nil => rfl
    | cons b bs ih => simpa using ih
  | a :: as => by
    rw [List.map_cons, List.sum_cons, sum_swap f bs as]
    induction bs with
    | nil => rfl
    | cons b bs ih => simp only [List.map_cons, List.sum_cons] at ih ⊢; omega

/-- What a group holds: the pairs of short arms whose products, times the lever's, are in a span. -/
def groupN (B D : Int × Int) (a : Int) (p : Int × Int) : Nat := ((pairsL B D).filter (fun q => inP p (a * (q.1 * q.2)))).length
/-- The truths among all products, counted by groups: T is the same within each span. -/
theorem groups_count {A B D : Int × Int} {T : Int → Bool} {sp : List (Int × Int)} {c : Int × Int → Bool} (hap : sp.Pairwise (fun p q => p.2 < q.1)) (hle : ∀ p ∈ sp, p.1 ≤ p.2)
    (hc : ∀ P ∈ prodsL A B D, ∃ p ∈ sp, p.1 ≤ P ∧ P ≤ p.2) (hT : ∀ p ∈ sp, ∀ P, p.1 ≤ P → P ≤ p.2 → T P = c p) :
    (sp.map (fun p => ((rangeL A.1 A.2).map (fun a => if c p = true then groupN B D a p else 0)).sum)).sum = ((prodsL A B D).filter T).length := by
  rw [sum_swap]
  have e : ∀ a ∈ rangeL A.1 A.2, (sp.map (fun p => if c p = true then groupN B D a p else 0)).sum = (((pairsL B D).map (fun p => a * (p.1 * p.2))).filter T).length := fun a ha => by
    rw [← spans_all (sp := sp) hap hle (fun P hP => hc P (List.mem_flatMap.2 ⟨a, ha, hP⟩))]
    congr 1
    refine List.map_congr_left fun p hp => ?_
    rw [span_one (hT p hp), groupN, List.filter_map, List.length_map]
    rfl
  rw [List.map_congr_left e]
  simp only [prodsL]
  clear hc e
  induction rangeL A.1 A.2 with
  | nil => rfl
  | cons a as ih => rw [List.map_cons, List.sum_cons, ih, List.flatMap_cons, List.filter_append, List.length_append]

/-- A machine that is valid. -/
structure ValidM (M : Mach) : Prop where
  nl : M.levers.length ≤ 3
  lev : ∀ l ∈ M.levers, (1 ≤ l.long ∧ l.long ≤ 1000) ∧ 1 ≤ l.lo ∧ l.lo ≤ l.hi ∧ l.hi ≤ 1000
  water : 0 ≤ M.water ∧ M.water ≤ 9999
  leak : 0 ≤ M.lkLo ∧ M.lkLo ≤ M.lkHi ∧ M.lkHi ≤ 20
  nb : M.bals.length ≤ 6
  bal : ∀ b ∈ M.bals, (0 ≤ b.weight ∧ b.weight ≤ 9999) ∧ (0 ≤ b.minutes ∧ b.minutes ≤ 99) ∧ (0 ≤ b.load ∧ b.load ≤ 999999999) ∧ 0 ≤ b.off ∧ b.off ≤ 999999999
  wrong : 0 ≤ M.wrong ∧ M.wrong ≤ 6
theorem short_ok {M : Mach} (h : ValidM M) (i : Nat) : 1 ≤ (shortOf M.levers i).1 ∧ (shortOf M.levers i).1 ≤ (shortOf M.levers i).2 ∧ (shortOf M.levers i).2 ≤ 1000 := by
  unfold shortOf
  cases e : M.levers[i]? with
  | none => exact ⟨Int.le_refl _, Int.le_refl _, by decide⟩
  | some l => exact (h.lev l (List.mem_of_getElem? e)).2
theorem long_fold : ∀ (ls : List Lev) (p : Int), (∀ l ∈ ls, 1 ≤ l.long ∧ l.long ≤ 1000) → 0 ≤ p → 0 ≤ ls.foldl (fun p l => p * l.long) p ∧ ls.foldl (fun p l => p * l.long) p ≤ p * 1000 ^ ls.length
  | [], p, _, hp => ⟨hp, by simp⟩
  | l :: ls, p, h, hp => by
    obtain ⟨h1, h2⟩ := h l (.head _)
    have hq : 0 ≤ p * l.long := Int.mul_nonneg hp (by omega)
    obtain ⟨g1, g2⟩ := long_fold ls (p * l.long) (fun x hx => h x (.tail _ hx)) hq
    refine ⟨g1, Int.le_trans g2 ?_⟩
    rw [List.length_cons, Int.pow_succ, Int.mul_comm (1000 ^ ls.length) 1000, ← Int.mul_assoc]
    exact Int.mul_le_mul_of_nonneg_right (Int.mul_le_mul_of_nonneg_left h2 hp) (Int.pow_nonneg (by decide))
theorem long_ok {M : Mach} (h : ValidM M) : 0 ≤ longP M.levers ∧ longP M.levers ≤ 1000000000 := by
  obtain ⟨g1, g2⟩ := long_fold M.levers 1 (fun l hl => (h.lev l hl).1) (by decide)
  refine ⟨g1, Int.le_trans g2 ?_⟩
  have := h.nl
  have : M.levers.length = 0 ∨ M.levers.length = 1 ∨ M.levers.length = 2 ∨ M.levers.length = 3 := by omega
  rcases this with e | e | e | e <;> rw [e] <;> decide
theorem force_ok {M : Mach} (h : ValidM M) {weight minutes leak : Int} (hw : 0 ≤ weight ∧ weight ≤ 9999) (hm : 0 ≤ minutes) (hk : 0 ≤ leak) : 0 ≤ force M weight minutes leak ∧ force M weight minutes leak ≤ 19998 * 1000000000 := by
  obtain ⟨g1, g2⟩ := long_ok h
  have hw2 := h.water
  have h0 : 0 ≤ minutes * leak := Int.mul_nonneg hm hk
  have h1 : 0 ≤ weight + max (M.water - minutes * leak) 0 := by omega
  have h2 : weight + max (M.water - minutes * leak) 0 ≤ 19998 := by omega
  exact ⟨Int.mul_nonneg h1 g1, Int.le_trans (Int.mul_le_mul_of_nonneg_right h2 g1) (Int.mul_le_mul_of_nonneg_left g2 (by decide))⟩
def lowP (M : Mach) : Int := (shortOf M.levers 0).1 * ((shortOf M.levers 1).1 * (shortOf M.levers 2).1)
def highP (M : Mach) : Int := (shortOf M.levers 0).2 * ((shortOf M.levers 1).2 * (shortOf M.levers 2).2)
theorem mul_mono {a b x y : Int} (ha : 0 ≤ a) (hx : 0 ≤ x) (h1 : a ≤ b) (h2 : x ≤ y) : a * x ≤ b * y :=
  Int.le_trans (Int.mul_le_mul_of_nonneg_left h2 ha) (Int.mul_le_mul_of_nonneg_right h1 (by omega))
theorem low_pos {M : Mach} (h : ValidM M) : 1 ≤ lowP M := by
  have h0 := short_ok h 0
  have h1 := short_ok h 1
  have h2 := short_ok h 2
  have e1 : (1 : Int) * 1 ≤ (shortOf M.levers 1).1 * (shortOf M.levers 2).1 := mul_mono (by decide) (by decide) (by omega) (by omega)
  have e2 : (1 : Int) * (1 * 1) ≤ lowP M := mul_mono (by decide) (by decide) (by omega) e1
  omega
/-- Each product of short arms lies from the least to the greatest. -/
theorem prods_in {M : Mach} (h : ValidM M) {P : Int} (hP : P ∈ prodsL (shortOf M.levers 0) (shortOf M.levers 1) (shortOf M.levers 2)) : lowP M ≤ P ∧ P ≤ highP M := by
  have h0 := short_ok h 0
  have h1 := short_ok h 1
  have h2 := short_ok h 2
  simp only [prodsL, List.mem_flatMap, List.mem_map, mem_range, mem_pairs] at hP
  obtain ⟨a, ⟨a1, a2⟩, q, ⟨⟨x1, x2⟩, y1, y2⟩, rfl⟩ := hP
  have e1 : (shortOf M.levers 1).1 * (shortOf M.levers 2).1 ≤ q.1 * q.2 := mul_mono (by omega) (by omega) x1 y1
  have e2 : q.1 * q.2 ≤ (shortOf M.levers 1).2 * (shortOf M.levers 2).2 := mul_mono (by omega) (by omega) x2 y2
  have e3 : (0 : Int) ≤ (shortOf M.levers 1).1 * (shortOf M.levers 2).1 := Int.mul_nonneg (by omega) (by omega)
  exact ⟨mul_mono (by omega) e3 a1 e1, mul_mono (by omega) (by omega) a2 e2⟩
/-- All starts, not yet in their order. -/
def startsL (M : Mach) (leak : Int) : List Int := lowP M :: M.bals.flatMap (startsB M leak)
/-- Within a span the same balances are right. -/
theorem wrongs_same {M : Mach} (h : ValidM M) {leak : Int} (hk : 0 ≤ leak) {l : List Int} (hl : l.Perm (startsL M leak)) (hs : l.Pairwise (· ≤ ·)) {p : Int × Int} (hp : p ∈ spansL (highP M) (lowP M) l) {P Q : Int} (hP : p.1 ≤ P ∧ P ≤ p.2) (hQ : p.1 ≤ Q ∧ Q ≤ p.2) :
    (∀ b ∈ M.bals, rightP M leak P b = rightP M leak Q b) ∧ wrongsP M leak P = wrongsP M leak Q := by
  have hr : ∀ b ∈ M.bals, rightP M leak P b = rightP M leak Q b := fun b hb => by
    have hv := h.bal b hb
    have hin := spans_in hp
    have hlp := low_pos h
    refine right_same (a := p.1) (c := p.2) hv.2.2.1.1 hv.2.2.2.1 (force_ok h hv.1 hv.2.1.1 hk).1 (fun s hsm => ?_) (by omega) hP hQ
    exact spans_same hs s (hl.mem_iff.2 (.tail _ (List.mem_flatMap.2 ⟨b, hb, hsm⟩))) p hp
  refine ⟨hr, ?_⟩
  unfold wrongsP
  congr 1
  exact List.filter_congr fun b hb => by rw [hr b hb]
/-- Whether a product is that of truths. -/
def truthB (M : Mach) (leak P : Int) : Bool := decide ((wrongsP M leak P : Int) ≤ M.wrong)
/-- All truths: short arms, and a leak. -/
def truthsM (M : Mach) : List (List Int × Int) := ((armsL M.levers).flatMap (fun x => (rangeL M.lkLo M.lkHi).map (fun k => (x, k)))).filter (fun s => truthB M s.2 (prodL s.1))
/-- The truths with a leak are counted by groups. -/
theorem leak_count {M : Mach} (h : ValidM M) {leak : Int} (hk : 0 ≤ leak) {l : List Int} (hl : l.Perm (startsL M leak)) (hs : l.Pairwise (· ≤ ·)) :
    ((spansL (highP M) (lowP M) l).map (fun p => ((rangeL (shortOf M.levers 0).1 (shortOf M.levers 0).2).map (fun a => if truthB M leak p.1 = true then groupN (shortOf M.levers 1) (shortOf M.levers 2) a p else 0)).sum)).sum
      = ((armsL M.levers).filter (fun x => truthB M leak (prodL x))).length := by
  rw [groups_count (T := truthB M leak) (c := fun p => truthB M leak p.1) spans_apart (fun p hp => (spans_in hp).2.1) (fun P hP => spans_cover (prods_in h hP).1 (prods_in h hP).2) (fun p hp P h1 h2 => by
    have := spans_in hp
    rw [truthB, truthB, (wrongs_same h hk hl hs hp (P := P) (Q := p.1) ⟨h1, h2⟩ ⟨Int.le_refl _, this.2.1⟩).2])]
  rw [← prods_eq h.nl, List.filter_map, List.length_map]
  rfl
/-- All truths, one leak after the other. -/
theorem truths_count (M : Mach) : (truthsM M).length = ((rangeL M.lkLo M.lkHi).map (fun k => ((armsL M.levers).filter (fun x => truthB M k (prodL x))).length)).sum := by
  unfold truthsM
  generalize armsL M.levers = xs
  have hz : ∀ ks : List Int, (ks.map (fun _ => 0)).sum = 0 := fun ks => by
    induction ks with
    | nil => rfl
    | cons k ks ih => rw [List.map_cons, List.sum_cons, ih]
  induction xs with
  | nil => exact (hz _).symm
  | cons x xs ih =>
    rw [List.flatMap_cons, List.filter_append, List.length_append, ih]
    clear ih
    induction rangeL M.lkLo M.lkHi with
    | nil => rfl
    | cons k ks ih =>
      simp only [List.map_cons, List.sum_cons, List.filter_cons] at ih ⊢
      cases truthB M k (prodL x)
      · simp only [Bool.false_eq_true, if_false]; omega
      · simp only [if_true, List.length_cons]; omega

/-- Where the product of a pair of short arms lies, counted from the least. -/
def offs (A B : Int × Int) : List Nat := (pairsL A B).map (fun q => (q.1 * q.2 - A.1 * B.1).toNat)
/-- How many pairs have a product, counted from the least. -/
def wayN (A B : Int × Int) : Nat → Nat := tally (offs A B)
def roomN (A B : Int × Int) : Nat := (A.2 * B.2 - A.1 * B.1 + 1).toNat
/-- A place of the products, from none to all. -/
def clampN (A B : Int × Int) (n : Int) : Nat := (min (max (n - A.1 * B.1) 0) (roomN A B : Int)).toNat
theorem clamp_le (A B : Int × Int) (n : Int) : clampN A B n ≤ roomN A B := by unfold clampN; omega
theorem pair_in {A B : Int × Int} (hA : 1 ≤ A.1) (hB : 1 ≤ B.1) {q : Int × Int} (hq : q ∈ pairsL A B) : A.1 * B.1 ≤ q.1 * q.2 ∧ q.1 * q.2 ≤ A.2 * B.2 := by
  obtain ⟨⟨x1, x2⟩, y1, y2⟩ := mem_pairs.1 hq
  exact ⟨mul_mono (by omega) (by omega) x1 y1, mul_mono (by omega) (by omega) x2 y2⟩
/-- So many pairs have a lesser product. -/
theorem sum_below {A B : Int × Int} (hA : 1 ≤ A.1) (hB : 1 ≤ B.1) (n : Int) : sumTo (wayN A B) (clampN A B n) = ((pairsL A B).filter (fun q => decide (q.1 * q.2 < n))).length := by
  rw [wayN, sum_tally, offs, List.filter_map, List.length_map]
  congr 1
  refine List.filter_congr fun q hq => ?_
  have := pair_in hA hB hq
  show decide ((q.1 * q.2 - A.1 * B.1).toNat < clampN A B n) = decide (q.1 * q.2 < n)
  refine decide_eq_decide.2 ?_
  unfold clampN roomN
  omega
theorem filter_diff {α : Type} (L : List α) (f g h : α → Bool) (hfg : ∀ x ∈ L, f x = true → g x = true) (hh : ∀ x ∈ L, h x = (g x && !f x)) : (L.filter g).length = (L.filter f).length + (L.filter h).length := by
  rw [← filter_or]
  · congr 1
    refine List.filter_congr fun x hx => ?_
    have h1 := hfg x hx
    rw [hh x hx]
    cases hf : f x <;> cases hg : g x <;> simp_all
  · rintro x hx ⟨h1, h2⟩
    rw [hh x hx, h1] at h2
    simp at h2
/-- What a group holds is a difference of sums. -/
theorem group_sum {B D : Int × Int} (hB : 1 ≤ B.1) (hD : 1 ≤ D.1) {a : Int} (ha : 1 ≤ a) {p : Int × Int} :
    sumTo (wayN B D) (clampN B D (p.2 / a + 1)) = sumTo (wayN B D) (clampN B D (upD p.1 a)) + groupN B D a p ∨ (groupN B D a p = 0 ∧ clampN B D (p.2 / a + 1) ≤ clampN B D (upD p.1 a)) := by
  by_cases hle : upD p.1 a ≤ p.2 / a + 1
  · left
    rw [sum_below hB hD, sum_below hB hD, groupN]
    refine filter_diff _ _ _ _ (fun q _ h => ?_) (fun q _ => ?_)
    · simp only [decide_eq_true_eq] at h ⊢; omega
    · have e1 := upD_le (n := p.1) (P := q.1 * q.2) (show 0 < a by omega)
      have e2 := le_div (n := p.2) (P := q.1 * q.2) (show 0 < a by omega)
      have d1 : decide (p.1 ≤ a * (q.1 * q.2)) = decide (upD p.1 a ≤ q.1 * q.2) := decide_eq_decide.2 e1.symm
      have d2 : decide (a * (q.1 * q.2) ≤ p.2) = decide (q.1 * q.2 < p.2 / a + 1) := decide_eq_decide.2 e2.symm
      show inP p (a * (q.1 * q.2)) = _
      unfold inP
      rw [d1, d2]
      by_cases h : q.1 * q.2 < upD p.1 a
      · have h3 : ¬ upD p.1 a ≤ q.1 * q.2 := by omega
        simp [h, h3]
      · have h3 : upD p.1 a ≤ q.1 * q.2 := by omega
        simp [h, h3]
  · right
    refine ⟨?_, by unfold clampN; omega⟩
    rw [groupN, List.length_eq_zero_iff]
    refine List.filter_eq_nil_iff.2 fun q _ h => ?_
    rw [inP_iff] at h
    have e1 := (upD_le (n := p.1) (P := q.1 * q.2) (show 0 < a by omega)).2 h.1
    have e2 := (le_div (n := p.2) (P := q.1 * q.2) (show 0 < a by omega)).2 h.2
    omega
/-- The last arm of the first lever that has a product, counted from the least. -/
def armAt (A B : Int × Int) (i : Nat) : Int := (pairsL A B).foldl (fun v q => if (q.1 * q.2 - A.1 * B.1).toNat = i then q.1 else v) 0
theorem arm_fold {least : Int} {i : Nat} : ∀ (l : List (Int × Int)) (v : Int), (∃ q ∈ l, (q.1 * q.2 - least).toNat = i ∧ l.foldl (fun v q => if (q.1 * q.2 - least).toNat = i then q.1 else v) v = q.1) ∨ ((∀ q ∈ l, (q.1 * q.2 - least).toNat ≠ i) ∧ l.foldl (fun v q => if (q.1 * q.2 - least).toNat = i then q.1 else v) v = v)
  | [], v => .inr ⟨by simp, rfl⟩
  | q :: l, v => by
    rw [List.foldl_cons]
    rcases arm_fold (least := least) (i := i) l (if (q.1 * q.2 - least).toNat = i then q.1 else v) with ⟨r, h1, h2, h3⟩ | ⟨h1, h2⟩
    · exact .inl ⟨r, .tail _ h1, h2, h3⟩
    · by_cases e : (q.1 * q.2 - least).toNat = i
      · rw [if_pos e] at h2 ⊢
        exact .inl ⟨q, .head _, e, h2⟩
      · rw [if_neg e] at h2 ⊢
        exact .inr ⟨fun r hr => by rcases List.mem_cons.1 hr with rfl | hr; exact e; exact h1 r hr, h2⟩
/-- Two arms of a product that there is. -/
theorem arm_ok {A B : Int × Int} (hA : 1 ≤ A.1) (hB : 1 ≤ B.1) {i : Nat} (h : 0 < wayN A B i) : (armAt A B i, (A.1 * B.1 + i) / armAt A B i) ∈ pairsL A B ∧ armAt A B i * ((A.1 * B.1 + i) / armAt A B i) = A.1 * B.1 + i := by
  rcases arm_fold (least := A.1 * B.1) (i := i) (pairsL A B) 0 with ⟨q, h1, h2, h3⟩ | ⟨h1, _⟩
  · have h4 := pair_in hA hB h1
    have h5 : q.1 * q.2 = A.1 * B.1 + i := by omega
    have h6 : armAt A B i = q.1 := h3
    have h7 := (mem_pairs.1 h1).1
    have h8 : (A.1 * B.1 + i) / q.1 = q.2 := by rw [← h5]; exact Int.mul_ediv_cancel_left _ (by omega)
    rw [h6, h8]
    exact ⟨h1, h5⟩
  · exfalso
    have : offs A B = (pairsL A B).map (fun q => (q.1 * q.2 - A.1 * B.1).toNat) := rfl
    unfold wayN tally at h
    obtain ⟨v, hv⟩ := List.exists_mem_of_length_pos h
    obtain ⟨g1, g2⟩ := List.mem_filter.1 hv
    rw [this] at g1
    obtain ⟨q, hq, rfl⟩ := List.mem_map.1 g1
    exact h1 q hq (by simpa using g2)
theorem way_pos {A B : Int × Int} {i : Nat} (h : ∃ q ∈ pairsL A B, (q.1 * q.2 - A.1 * B.1).toNat = i) : 0 < wayN A B i := by
  obtain ⟨q, hq, e⟩ := h
  unfold wayN tally offs
  exact List.length_pos_of_mem (List.mem_filter.2 ⟨List.mem_map.2 ⟨q, hq, rfl⟩, by simpa using e⟩)
/-- Two arms of a product, counted from the least. -/
def pairAt (A B : Int × Int) (i : Nat) : Int × Int := (armAt A B i, (A.1 * B.1 + i) / armAt A B i)
theorem off_ge {A B : Int × Int} (hA : 1 ≤ A.1) (hB : 1 ≤ B.1) {q : Int × Int} (hq : q ∈ pairsL A B) (n : Int) : (q.1 * q.2 - A.1 * B.1).toNat < clampN A B n ↔ q.1 * q.2 < n := by
  have := pair_in hA hB hq
  unfold clampN roomN
  omega
theorem way_pair {A B : Int × Int} (hA : 1 ≤ A.1) (hB : 1 ≤ B.1) {i : Nat} (h : 0 < wayN A B i) : ∃ q ∈ pairsL A B, q = pairAt A B i ∧ q.1 * q.2 = A.1 * B.1 + i ∧ (q.1 * q.2 - A.1 * B.1).toNat = i := by
  obtain ⟨h1, h2⟩ := arm_ok hA hB h
  exact ⟨_, h1, rfl, h2, by show ((armAt A B i) * ((A.1 * B.1 + i) / armAt A B i) - A.1 * B.1).toNat = i; rw [h2]; omega⟩
/-- A group that is not empty has ends: pairs with the least and the greatest product. -/
theorem group_ends {B D : Int × Int} (hB : 1 ≤ B.1) (hD : 1 ≤ D.1) {a : Int} (ha : 1 ≤ a) {p : Int × Int} (h : posTo (wayN B D) (clampN B D (upD p.1 a)) < posTo (wayN B D) (clampN B D (p.2 / a + 1))) :
    ∃ i j : Nat, i < roomN B D ∧ j < roomN B D ∧ 0 < wayN B D i ∧ 0 < wayN B D j ∧ posTo (wayN B D) i = posTo (wayN B D) (clampN B D (upD p.1 a)) ∧ posTo (wayN B D) j + 1 = posTo (wayN B D) (clampN B D (p.2 / a + 1)) ∧
      inP p (a * (B.1 * D.1 + i)) = true ∧ inP p (a * (B.1 * D.1 + j)) = true ∧ ∀ q ∈ pairsL B D, inP p (a * (q.1 * q.2)) = true → B.1 * D.1 + i ≤ q.1 * q.2 ∧ q.1 * q.2 ≤ B.1 * D.1 + j := by
  obtain ⟨i, i1, i2, i3, i4, i5⟩ := first_used h
  obtain ⟨j, j1, j2, j3, j4, j5⟩ := last_used h
  have hc := clamp_le B D (p.2 / a + 1)
  have hin : ∀ k : Nat, clampN B D (upD p.1 a) ≤ k → k < clampN B D (p.2 / a + 1) → 0 < wayN B D k → inP p (a * (B.1 * D.1 + k)) = true := fun k k1 k2 k3 => by
    obtain ⟨q, hq, _, e1, e2⟩ := way_pair hB hD k3
    have g1 := off_ge hB hD hq (upD p.1 a)
    have g2 := off_ge hB hD hq (p.2 / a + 1)
    rw [e2] at g1 g2
    rw [← e1, inP_iff]
    exact ⟨(upD_le (show 0 < a by omega)).1 (by omega), (le_div (show 0 < a by omega)).1 (by omega)⟩
  refine ⟨i, j, by omega, by omega, i3, j3, i4, j4, hin i i1 i2 i3, hin j j1 j2 j3, fun q hq hp => ?_⟩
  rw [inP_iff] at hp
  have g1 := off_ge hB hD hq (upD p.1 a)
  have g2 := off_ge hB hD hq (p.2 / a + 1)
  have h1 := (upD_le (n := p.1) (P := q.1 * q.2) (show 0 < a by omega)).2 hp.1
  have h2 := (le_div (n := p.2) (P := q.1 * q.2) (show 0 < a by omega)).2 hp.2
  have h3 := pair_in hB hD hq
  have h4 : 0 < wayN B D (q.1 * q.2 - B.1 * D.1).toNat := way_pos ⟨q, hq, rfl⟩
  constructor
  · by_cases e : (q.1 * q.2 - B.1 * D.1).toNat < i
    · have := i5 _ (by omega) e; omega
    · omega
  · by_cases e : j < (q.1 * q.2 - B.1 * D.1).toNat
    · have := j5 _ e (by omega); omega
    · omega
/-- A group is empty where no used place is between its ends. -/
theorem group_none {B D : Int × Int} (hB : 1 ≤ B.1) (hD : 1 ≤ D.1) {a : Int} (ha : 1 ≤ a) {p : Int × Int} : (0 < groupN B D a p ↔ posTo (wayN B D) (clampN B D (upD p.1 a)) < posTo (wayN B D) (clampN B D (p.2 / a + 1))) ∧
    (0 < groupN B D a p → sumTo (wayN B D) (clampN B D (p.2 / a + 1)) = sumTo (wayN B D) (clampN B D (upD p.1 a)) + groupN B D a p) := by
  have hm := fun h => sum_used (f := wayN B D) (i := clampN B D (upD p.1 a)) (j := clampN B D (p.2 / a + 1)) h
  rcases group_sum hB hD ha (p := p) with h | ⟨h1, h2⟩
  · by_cases hle : clampN B D (upD p.1 a) ≤ clampN B D (p.2 / a + 1)
    · exact ⟨⟨fun g => (hm hle).1 (by omega), fun g => by have := (hm hle).2 g; omega⟩, fun _ => h⟩
    · have h1 := sumTo_mono (f := wayN B D) (show clampN B D (p.2 / a + 1) ≤ clampN B D (upD p.1 a) by omega)
      have h2 := posTo_mono (f := wayN B D) (show clampN B D (p.2 / a + 1) ≤ clampN B D (upD p.1 a) by omega)
      exact ⟨⟨fun g => by omega, fun g => by omega⟩, fun _ => h⟩
  · have h3 := posTo_mono (f := wayN B D) h2
    exact ⟨⟨fun g => by omega, fun g => by omega⟩, fun g => by omega⟩
/-- A group of settings: a leak, the lever's arm, a span of products, the first and the last product of the others' arms, and how many settings there are. -/
structure Grp where
  leak : Int
  arm : Int
  span : Int × Int
  i : Nat
  j : Nat
  many : Nat
deriving Inhabited
def firstI (B D : Int × Int) (p : Int × Int) (a : Int) : Nat := ((usedL (wayN B D) id (roomN B D))[posTo (wayN B D) (clampN B D (upD p.1 a))]?).getD 0
def lastI (B D : Int × Int) (p : Int × Int) (a : Int) : Nat := ((usedL (wayN B D) id (roomN B D))[posTo (wayN B D) (clampN B D (p.2 / a + 1)) - 1]?).getD 0
def grpAt (B D : Int × Int) (k : Int) (p : Int × Int) (a : Int) : Grp := ⟨k, a, p, firstI B D p a, lastI B D p a, groupN B D a p⟩
def sortI (l : List Int) : List Int := l.mergeSort fun x y => decide (x ≤ y)
theorem sortI_perm (l : List Int) : (sortI l).Perm l := List.mergeSort_perm _ _
theorem sortI_sorted (l : List Int) : (sortI l).Pairwise (· ≤ ·) := by
  have h : (sortI l).Pairwise (fun a b => decide (a ≤ b) = true) := List.pairwise_mergeSort (fun a b c h1 h2 => by simp at *; omega) (fun a b => by simp; omega) _
  exact h.imp (fun h => of_decide_eq_true h)
/-- The spans of products with a leak. -/
def alikeL (M : Mach) (k : Int) : List (Int × Int) := spansL (highP M) (lowP M) (sortI (startsL M k))
/-- All groups, as they are yielded; lev is the lever of which each has one arm. -/
def grpL (M : Mach) (lev : Nat) : List Grp := (rangeL M.lkLo M.lkHi).flatMap fun k => (alikeL M k).flatMap fun p =>
  ((rangeL (shortOf M.levers lev).1 (shortOf M.levers lev).2).filter (fun a => decide (0 < groupN (shortOf M.levers ((lev + 1) % 3)) (shortOf M.levers ((lev + 2) % 3)) a p))).map (grpAt (shortOf M.levers ((lev + 1) % 3)) (shortOf M.levers ((lev + 2) % 3)) k p)
/-- The least, and the greatest product of a group. -/
def Grp.lo (M : Mach) (lev : Nat) (g : Grp) : Int := g.arm * ((shortOf M.levers ((lev + 1) % 3)).1 * (shortOf M.levers ((lev + 2) % 3)).1 + g.i)
def Grp.hi (M : Mach) (lev : Nat) (g : Grp) : Int := g.arm * ((shortOf M.levers ((lev + 1) % 3)).1 * (shortOf M.levers ((lev + 2) % 3)).1 + g.j)
theorem ends_are {B D : Int × Int} {p : Int × Int} {a : Int} {i j : Nat} (hi : i < roomN B D) (hj : j < roomN B D) (hwi : 0 < wayN B D i) (hwj : 0 < wayN B D j) (h1 : posTo (wayN B D) i = posTo (wayN B D) (clampN B D (upD p.1 a))) (h2 : posTo (wayN B D) j + 1 = posTo (wayN B D) (clampN B D (p.2 / a + 1))) :
    firstI B D p a = i ∧ lastI B D p a = j := by
  unfold firstI lastI
  rw [← h1, ← h2, Nat.add_sub_cancel, used_at _ _ hwi hi, used_at _ _ hwj hj]
  exact ⟨rfl, rfl⟩
/-- What is so of a group. -/
structure GrpOk (M : Mach) (lev : Nat) (g : Grp) : Prop where
  leak : M.lkLo ≤ g.leak ∧ g.leak ≤ M.lkHi
  arm : (shortOf M.levers lev).1 ≤ g.arm ∧ g.arm ≤ (shortOf M.levers lev).2
  span : g.span ∈ alikeL M g.leak
  wi : 0 < wayN (shortOf M.levers ((lev + 1) % 3)) (shortOf M.levers ((lev + 2) % 3)) g.i
  wj : 0 < wayN (shortOf M.levers ((lev + 1) % 3)) (shortOf M.levers ((lev + 2) % 3)) g.j
  lo : g.span.1 ≤ g.lo M lev ∧ g.lo M lev ≤ g.span.2
  hi : g.span.1 ≤ g.hi M lev ∧ g.hi M lev ≤ g.span.2
  all : ∀ q ∈ pairsL (shortOf M.levers ((lev + 1) % 3)) (shortOf M.levers ((lev + 2) % 3)), inP g.span (g.arm * (q.1 * q.2)) = true → g.lo M lev ≤ g.arm * (q.1 * q.2) ∧ g.arm * (q.1 * q.2) ≤ g.hi M lev
theorem grp_at {M : Mach} (h : ValidM M) {lev : Nat} {k a : Int} {p : Int × Int} (hk : M.lkLo ≤ k ∧ k ≤ M.lkHi) (hp : p ∈ alikeL M k) (ha : (shortOf M.levers lev).1 ≤ a ∧ a ≤ (shortOf M.levers lev).2) (hg : 0 < groupN (shortOf M.levers ((lev + 1) % 3)) (shortOf M.levers ((lev + 2) % 3)) a p) :
    GrpOk M lev (grpAt (shortOf M.levers ((lev + 1) % 3)) (shortOf M.levers ((lev + 2) % 3)) k p a) := by
  have hB := (short_ok h ((lev + 1) % 3)).1
  have hD := (short_ok h ((lev + 2) % 3)).1
  have ha1 : 1 ≤ a := by have := (short_ok h lev).1; omega
  obtain ⟨i, j, hi, hj, hwi, hwj, e1, e2, g1, g2, g3⟩ := group_ends hB hD ha1 ((group_none hB hD ha1).1.1 hg)
  obtain ⟨f1, f2⟩ := ends_are hi hj hwi hwj e1 e2
  rw [inP_iff] at g1 g2
  have hlo : (grpAt (shortOf M.levers ((lev + 1) % 3)) (shortOf M.levers ((lev + 2) % 3)) k p a).lo M lev = a * ((shortOf M.levers ((lev + 1) % 3)).1 * (shortOf M.levers ((lev + 2) % 3)).1 + i) := by simp only [Grp.lo, grpAt, f1]
  have hhi : (grpAt (shortOf M.levers ((lev + 1) % 3)) (shortOf M.levers ((lev + 2) % 3)) k p a).hi M lev = a * ((shortOf M.levers ((lev + 1) % 3)).1 * (shortOf M.levers ((lev + 2) % 3)).1 + j) := by simp only [Grp.hi, grpAt, f2]
  refine ⟨hk, ha, hp, ?_, ?_, ?_, ?_, fun q hq hin => ?_⟩
  · show 0 < wayN _ _ (firstI _ _ _ _); rw [f1]; exact hwi
  · show 0 < wayN _ _ (lastI _ _ _ _); rw [f2]; exact hwj
  · rw [hlo]; exact g1
  · rw [hhi]; exact g2
  · rw [hlo, hhi]
    have := g3 q hq hin
    exact ⟨Int.mul_le_mul_of_nonneg_left this.1 (show 0 ≤ a by omega), Int.mul_le_mul_of_nonneg_left this.2 (show 0 ≤ a by omega)⟩
theorem mem_grp {M : Mach} {lev : Nat} {g : Grp} : g ∈ grpL M lev ↔ ∃ k p a, (M.lkLo ≤ k ∧ k ≤ M.lkHi) ∧ p ∈ alikeL M k ∧ ((shortOf M.levers lev).1 ≤ a ∧ a ≤ (shortOf M.levers lev).2) ∧ 0 < groupN (shortOf M.levers ((lev + 1) % 3)) (shortOf M.levers ((lev + 2) % 3)) a p ∧
    g = grpAt (shortOf M.levers ((lev + 1) % 3)) (shortOf M.levers ((lev + 2) % 3)) k p a := by
  simp only [grpL, List.mem_flatMap, List.mem_map, List.mem_filter, mem_range, decide_eq_true_eq]
  constructor
  · rintro ⟨k, hk, p, hp, a, ⟨ha, hg⟩, rfl⟩; exact ⟨k, p, a, hk, hp, ha, hg, rfl⟩
  · rintro ⟨k, p, a, hk, hp, ha, hg, rfl⟩; exact ⟨k, hk, p, hp, a, ⟨ha, hg⟩, rfl⟩
theorem grp_ok {M : Mach} (h : ValidM M) {lev : Nat} {g : Grp} (hg : g ∈ grpL M lev) : GrpOk M lev g := by
  obtain ⟨k, p, a, hk, hp, ha, hn, rfl⟩ := mem_grp.1 hg
  exact grp_at h hk hp ha hn
theorem mul_swap (a x y : Int) : a * (x * y) = x * (y * a) := by rw [Int.mul_comm, Int.mul_assoc]
/-- The product of three arms, whichever is named first, lies from the least to the greatest. -/
theorem prod_in {M : Mach} (h : ValidM M) {lev : Nat} (hl : lev < 3) {a : Int} {q : Int × Int} (ha : (shortOf M.levers lev).1 ≤ a ∧ a ≤ (shortOf M.levers lev).2) (hq : q ∈ pairsL (shortOf M.levers ((lev + 1) % 3)) (shortOf M.levers ((lev + 2) % 3))) : lowP M ≤ a * (q.1 * q.2) ∧ a * (q.1 * q.2) ≤ highP M := by
  have hs0 := short_ok h lev
  have hs1 := short_ok h ((lev + 1) % 3)
  have hs2 := short_ok h ((lev + 2) % 3)
  obtain ⟨⟨x1, x2⟩, y1, y2⟩ := mem_pairs.1 hq
  have e1 : (shortOf M.levers ((lev + 1) % 3)).1 * (shortOf M.levers ((lev + 2) % 3)).1 ≤ q.1 * q.2 := mul_mono (by omega) (by omega) x1 y1
  have e2 : q.1 * q.2 ≤ (shortOf M.levers ((lev + 1) % 3)).2 * (shortOf M.levers ((lev + 2) % 3)).2 := mul_mono (by omega) (by omega) x2 y2
  have e3 : (0 : Int) ≤ (shortOf M.levers ((lev + 1) % 3)).1 * (shortOf M.levers ((lev + 2) % 3)).1 := Int.mul_nonneg (by omega) (by omega)
  have e4 : (shortOf M.levers lev).1 * ((shortOf M.levers ((lev + 1) % 3)).1 * (shortOf M.levers ((lev + 2) % 3)).1) ≤ a * (q.1 * q.2) := mul_mono (by omega) e3 ha.1 e1
  have e5 : a * (q.1 * q.2) ≤ (shortOf M.levers lev).2 * ((shortOf M.levers ((lev + 1) % 3)).2 * (shortOf M.levers ((lev + 2) % 3)).2) := mul_mono (by omega) (by omega) ha.2 e2
  have h3 : lev = 0 ∨ lev = 1 ∨ lev = 2 := by omega
  unfold lowP highP
  rcases h3 with rfl | rfl | rfl
  · exact ⟨e4, e5⟩
  · have f1 := mul_swap (shortOf M.levers 0).1 (shortOf M.levers 1).1 (shortOf M.levers 2).1
    have f2 := mul_swap (shortOf M.levers 0).2 (shortOf M.levers 1).2 (shortOf M.levers 2).2
    rw [f1, f2]
    exact ⟨e4, e5⟩
  · have f1 := mul_swap (shortOf M.levers 2).1 (shortOf M.levers 0).1 (shortOf M.levers 1).1
    have f2 := mul_swap (shortOf M.levers 2).2 (shortOf M.levers 0).2 (shortOf M.levers 1).2
    rw [← f1, ← f2]
    exact ⟨e4, e5⟩
/-- Each setting is in a group, between its ends. -/
theorem grp_cover {M : Mach} (h : ValidM M) {lev : Nat} (hl : lev < 3) {k a : Int} {q : Int × Int} (hk : M.lkLo ≤ k ∧ k ≤ M.lkHi) (ha : (shortOf M.levers lev).1 ≤ a ∧ a ≤ (shortOf M.levers lev).2) (hq : q ∈ pairsL (shortOf M.levers ((lev + 1) % 3)) (shortOf M.levers ((lev + 2) % 3))) :
    ∃ g ∈ grpL M lev, g.leak = k ∧ g.arm = a ∧ inP g.span (a * (q.1 * q.2)) = true ∧ g.lo M lev ≤ a * (q.1 * q.2) ∧ a * (q.1 * q.2) ≤ g.hi M lev := by
  obtain ⟨h1, h2⟩ := prod_in h hl ha hq
  obtain ⟨p, hp, p1, p2⟩ := spans_cover (l := sortI (startsL M k)) h1 h2
  have hin : inP p (a * (q.1 * q.2)) = true := inP_iff.2 ⟨p1, p2⟩
  have hn : 0 < groupN (shortOf M.levers ((lev + 1) % 3)) (shortOf M.levers ((lev + 2) % 3)) a p := List.length_pos_of_mem (List.mem_filter.2 ⟨hq, hin⟩)
  have hok := grp_at h hk hp ha hn
  exact ⟨_, mem_grp.2 ⟨k, p, a, hk, hp, ha, hn, rfl⟩, rfl, rfl, hin, hok.all q hq hin⟩
/-- Within a group the same balances are right. -/
theorem grp_same {M : Mach} (h : ValidM M) {lev : Nat} {g : Grp} (hg : GrpOk M lev g) {P Q : Int} (hP : g.span.1 ≤ P ∧ P ≤ g.span.2) (hQ : g.span.1 ≤ Q ∧ Q ≤ g.span.2) : (∀ b ∈ M.bals, rightP M g.leak P b = rightP M g.leak Q b) ∧ wrongsP M g.leak P = wrongsP M g.leak Q :=
  wrongs_same h (by have := h.leak; have := hg.leak; omega) (sortI_perm _) (sortI_sorted _) hg.span hP hQ
/-- A short arm, 1 of a lever that is not there. -/
def pad (x : List Int) (i : Nat) : Int := x.getD i 1
theorem mem_arms {l : Lev} {ls : List Lev} {x : List Int} : x ∈ armsL (l :: ls) ↔ ∃ a y, x = a :: y ∧ (l.lo ≤ a ∧ a ≤ l.hi) ∧ y ∈ armsL ls := by
  simp only [armsL, List.mem_flatMap, List.mem_map, mem_range]
  constructor
  · rintro ⟨a, ha, y, hy, rfl⟩; exact ⟨a, y, rfl, ha, hy⟩
  · rintro ⟨a, y, rfl, ha, hy⟩; exact ⟨a, ha, y, hy, rfl⟩
theorem arms_pad : ∀ {ls : List Lev} {x : List Int}, x ∈ armsL ls → x.length = ls.length ∧ ∀ i, (shortOf ls i).1 ≤ pad x i ∧ pad x i ≤ (shortOf ls i).2
  | [], x, h => by
    simp only [armsL, List.mem_singleton] at h
    subst h
    exact ⟨rfl, fun i => by simp [shortOf, pad]⟩
  | l :: ls, x, h => by
    obtain ⟨a, y, rfl, ha, hy⟩ := mem_arms.1 h
    obtain ⟨h1, h2⟩ := arms_pad hy
    refine ⟨by simp [h1], fun i => ?_⟩
    cases i with
    | zero => simpa [shortOf, pad] using ha
    | succ i => simpa [shortOf, pad] using h2 i
theorem arms_of : ∀ {ls : List Lev} (f : Nat → Int), (∀ i, (shortOf ls i).1 ≤ f i ∧ f i ≤ (shortOf ls i).2) → ∃ x ∈ armsL ls, ∀ i, pad x i = f i
  | [], f, h => ⟨[], by simp [armsL], fun i => by have := h i; simp [shortOf] at this; simp [pad]; omega⟩
  | l :: ls, f, h => by
    obtain ⟨y, hy, hp⟩ := arms_of (ls := ls) (fun i => f (i + 1)) (fun i => by have := h (i + 1); simpa [shortOf] using this)
    refine ⟨f 0 :: y, mem_arms.2 ⟨f 0, y, rfl, by have := h 0; simpa [shortOf] using this, hy⟩, fun i => ?_⟩
    cases i with
    | zero => rfl
    | succ i => have := hp i; simpa [pad] using this
theorem prod_pad {x : List Int} (h : x.length ≤ 3) : prodL x = pad x 0 * (pad x 1 * pad x 2) := by
  match x, h with
  | [], _ => rfl
  | [a], _ => simp [prodL, pad]
  | [a, b], _ => simp [prodL, pad]
  | [a, b, c], _ => simp [prodL, pad, Int.mul_assoc]
theorem prod_turn {x : List Int} (h : x.length ≤ 3) {lev : Nat} (hl : lev < 3) : prodL x = pad x lev * (pad x ((lev + 1) % 3) * pad x ((lev + 2) % 3)) := by
  rw [prod_pad h]
  have h3 : lev = 0 ∨ lev = 1 ∨ lev = 2 := by omega
  rcases h3 with rfl | rfl | rfl
  · rfl
  · exact mul_swap _ _ _
  · exact (mul_swap _ _ _).symm
/-- All settings: short arms, and a leak. -/
def setsM (M : Mach) : List (List Int × Int) := (armsL M.levers).flatMap (fun x => (rangeL M.lkLo M.lkHi).map (fun k => (x, k)))
theorem mem_sets {M : Mach} {s : List Int × Int} : s ∈ setsM M ↔ s.1 ∈ armsL M.levers ∧ M.lkLo ≤ s.2 ∧ s.2 ≤ M.lkHi := by
  simp only [setsM, List.mem_flatMap, List.mem_map, mem_range]
  constructor
  · rintro ⟨x, hx, k, hk, rfl⟩; exact ⟨hx, hk⟩
  · rintro ⟨h1, h2⟩; exact ⟨s.1, h1, s.2, h2, rfl⟩
theorem truths_are (M : Mach) : truthsM M = (setsM M).filter (fun s => truthB M s.2 (prodL s.1)) := rfl
/-- A setting is in a group of its leak and its arm. -/
theorem set_grp {M : Mach} (h : ValidM M) {lev : Nat} (hl : lev < 3) {s : List Int × Int} (hs : s ∈ setsM M) :
    ∃ g ∈ grpL M lev, g.leak = s.2 ∧ g.arm = pad s.1 lev ∧ (g.span.1 ≤ prodL s.1 ∧ prodL s.1 ≤ g.span.2) ∧ g.lo M lev ≤ prodL s.1 ∧ prodL s.1 ≤ g.hi M lev := by
  obtain ⟨h1, h2⟩ := mem_sets.1 hs
  obtain ⟨h3, h4⟩ := arms_pad h1
  have e := prod_turn (x := s.1) (by have := h.nl; omega) hl
  obtain ⟨g, hg, g1, g2, g3, g4, g5⟩ := grp_cover h hl h2 (h4 lev) (q := (pad s.1 ((lev + 1) % 3), pad s.1 ((lev + 2) % 3))) (mem_pairs.2 ⟨h4 _, h4 _⟩)
  rw [inP_iff] at g3
  rw [← e] at g3 g4 g5
  exact ⟨g, hg, g1, g2, g3, g4, g5⟩
/-- A place of a group's products that is used is that of a setting. -/
theorem used_set {M : Mach} (h : ValidM M) {lev : Nat} (hl : lev < 3) {g : Grp} (hg : GrpOk M lev g) {i : Nat} (hi : 0 < wayN (shortOf M.levers ((lev + 1) % 3)) (shortOf M.levers ((lev + 2) % 3)) i) :
    ∃ s ∈ setsM M, s.2 = g.leak ∧ pad s.1 lev = g.arm ∧ (pad s.1 ((lev + 1) % 3), pad s.1 ((lev + 2) % 3)) = pairAt (shortOf M.levers ((lev + 1) % 3)) (shortOf M.levers ((lev + 2) % 3)) i ∧ prodL s.1 = g.arm * ((shortOf M.levers ((lev + 1) % 3)).1 * (shortOf M.levers ((lev + 2) % 3)).1 + i) := by
  obtain ⟨q, hq, hqe, hqp, _⟩ := way_pair (short_ok h _).1 (short_ok h _).1 hi
  obtain ⟨q1, q2⟩ := mem_pairs.1 hq
  obtain ⟨x, hx, hp⟩ := arms_of (ls := M.levers) (fun k => if k = lev then g.arm else if k = (lev + 1) % 3 then q.1 else if k = (lev + 2) % 3 then q.2 else 1) (fun k => by
    split
    · rename_i e; subst e; exact hg.arm
    · split
      · rename_i e; subst e; exact q1
      · split
        · rename_i e; subst e; exact q2
        · have hk : M.levers.length ≤ k := by have := h.nl; omega
          simp [shortOf, hk])
  have p0 : pad x lev = g.arm := by rw [hp]; simp
  have p1 : pad x ((lev + 1) % 3) = q.1 := by rw [hp, if_neg (by omega), if_pos rfl]
  have p2 : pad x ((lev + 2) % 3) = q.2 := by rw [hp, if_neg (by omega), if_neg (by omega), if_pos rfl]
  refine ⟨(x, g.leak), mem_sets.2 ⟨hx, hg.leak⟩, rfl, p0, ?_, ?_⟩
  · rw [p1, p2, ← hqe]
  · rw [prod_turn (x := x) (by rw [(arms_pad hx).1]; exact h.nl) hl, p0, p1, p2, hqp]
theorem foldl_min_le : ∀ (l : List Nat) (n : Nat), l.foldl min n ≤ n ∧ (∀ x ∈ l, l.foldl min n ≤ x) ∧ (l.foldl min n = n ∨ l.foldl min n ∈ l)
  | [], n => ⟨Nat.le_refl _, by simp, .inl rfl⟩
  | x :: l, n => by
    obtain ⟨h1, h2, h3⟩ := foldl_min_le l (min n x)
    rw [List.foldl_cons]
    refine ⟨by omega, fun y hy => ?_, ?_⟩
    · rcases List.mem_cons.1 hy with rfl | hy
      · omega
      · exact h2 y hy
    · rcases h3 with h3 | h3
      · by_cases e : n ≤ x
        · exact .inl (by omega)
        · exact .inr (by rw [h3, Nat.min_eq_right (by omega)]; exact .head _)
      · exact .inr (.tail _ h3)
theorem foldl_min_eq {l m : List Nat} {n : Nat} (h1 : ∀ x ∈ l, ∃ y ∈ m, y ≤ x) (h2 : ∀ y ∈ m, ∃ x ∈ l, x ≤ y) : l.foldl min n = m.foldl min n := by
  obtain ⟨a1, a2, a3⟩ := foldl_min_le l n
  obtain ⟨b1, b2, b3⟩ := foldl_min_le m n
  have e1 : m.foldl min n ≤ l.foldl min n := by
    rcases a3 with a3 | a3
    · omega
    · obtain ⟨y, hy, hyx⟩ := h1 _ a3
      have := b2 y hy
      omega
  have e2 : l.foldl min n ≤ m.foldl min n := by
    rcases b3 with b3 | b3
    · omega
    · obtain ⟨x, hx, hxy⟩ := h2 _ b3
      have := a2 x hx
      omega
  omega
/-- Fewest, by groups. -/
theorem few_grp {M : Mach} (h : ValidM M) {lev : Nat} (hl : lev < 3) : ((grpL M lev).map (fun g => wrongsP M g.leak (g.lo M lev))).foldl min M.bals.length = ((setsM M).map (fun s => wrongsP M s.2 (prodL s.1))).foldl min M.bals.length := by
  refine foldl_min_eq (fun x hx => ?_) (fun y hy => ?_)
  · obtain ⟨g, hg, rfl⟩ := List.mem_map.1 hx
    have hok := grp_ok h hg
    obtain ⟨s, hs, s1, _, _, s4⟩ := used_set h hl hok hok.wi
    exact ⟨_, List.mem_map.2 ⟨s, hs, rfl⟩, by rw [s1, s4]; exact Nat.le_refl _⟩
  · obtain ⟨s, hs, rfl⟩ := List.mem_map.1 hy
    obtain ⟨g, hg, g1, _, g3, _⟩ := set_grp h hl hs
    have hok := grp_ok h hg
    exact ⟨_, List.mem_map.2 ⟨g, hg, rfl⟩, by rw [(grp_same h hok hok.lo g3).2, g1]; exact Nat.le_refl _⟩
/-- The groups that are truths. -/
def grpT (M : Mach) (lev : Nat) : List Grp := (grpL M lev).filter (fun g => truthB M g.leak (g.lo M lev))
theorem mem_truths {M : Mach} {s : List Int × Int} : s ∈ truthsM M ↔ s ∈ setsM M ∧ truthB M s.2 (prodL s.1) = true := by rw [truths_are, List.mem_filter]
theorem truth_same {M : Mach} (h : ValidM M) {lev : Nat} {g : Grp} (hg : GrpOk M lev g) {P Q : Int} (hP : g.span.1 ≤ P ∧ P ≤ g.span.2) (hQ : g.span.1 ≤ Q ∧ Q ≤ g.span.2) : truthB M g.leak P = truthB M g.leak Q := by
  rw [truthB, truthB, (grp_same h hg hP hQ).2]
/-- Each truth is in a group of truths, between its ends. -/
theorem truth_grp {M : Mach} (h : ValidM M) {lev : Nat} (hl : lev < 3) {s : List Int × Int} (hs : s ∈ truthsM M) :
    ∃ g ∈ grpT M lev, g.leak = s.2 ∧ g.arm = pad s.1 lev ∧ (g.span.1 ≤ prodL s.1 ∧ prodL s.1 ≤ g.span.2) ∧ g.lo M lev ≤ prodL s.1 ∧ prodL s.1 ≤ g.hi M lev := by
  obtain ⟨h1, h2⟩ := mem_truths.1 hs
  obtain ⟨g, hg, g1, g2, g3, g4⟩ := set_grp h hl h1
  have hok := grp_ok h hg
  refine ⟨g, List.mem_filter.2 ⟨hg, ?_⟩, g1, g2, g3, g4⟩
  rw [truth_same h hok hok.lo g3, g1, h2]
/-- The ends of a group of truths are truths. -/
theorem grp_truth {M : Mach} (h : ValidM M) {lev : Nat} (hl : lev < 3) {g : Grp} (hg : g ∈ grpT M lev) :
    GrpOk M lev g ∧ (∃ s ∈ truthsM M, s.2 = g.leak ∧ pad s.1 lev = g.arm ∧ (pad s.1 ((lev + 1) % 3), pad s.1 ((lev + 2) % 3)) = pairAt (shortOf M.levers ((lev + 1) % 3)) (shortOf M.levers ((lev + 2) % 3)) g.i ∧ prodL s.1 = g.lo M lev) ∧
      ∃ s ∈ truthsM M, s.2 = g.leak ∧ pad s.1 lev = g.arm ∧ (pad s.1 ((lev + 1) % 3), pad s.1 ((lev + 2) % 3)) = pairAt (shortOf M.levers ((lev + 1) % 3)) (shortOf M.levers ((lev + 2) % 3)) g.j ∧ prodL s.1 = g.hi M lev := by
  obtain ⟨h1, h2⟩ := List.mem_filter.1 hg
  have hok := grp_ok h h1
  obtain ⟨s, hs, s1, s2, s3, s4⟩ := used_set h hl hok hok.wi
  obtain ⟨t, ht, t1, t2, t3, t4⟩ := used_set h hl hok hok.wj
  refine ⟨hok, ⟨s, mem_truths.2 ⟨hs, ?_⟩, s1, s2, s3, s4⟩, t, mem_truths.2 ⟨ht, ?_⟩, t1, t2, t3, t4⟩
  · rw [s1, s4]; exact h2
  · rw [t1, t4, truth_same h hok (P := g.arm * ((shortOf M.levers ((lev + 1) % 3)).1 * (shortOf M.levers ((lev + 2) % 3)).1 + g.j)) hok.hi hok.lo]; exact h2
theorem prod_pos {M : Mach} (h : ValidM M) {s : List Int × Int} (hs : s ∈ setsM M) : 1 ≤ prodL s.1 := by
  obtain ⟨g, hg, _, _, g3, _⟩ := set_grp h (lev := 0) (by decide) hs
  have h1 := spans_in (grp_ok h hg).span
  have h2 := low_pos h
  omega
/-- Whether the load is at least some load. -/
def pullsB (M : Mach) (weight minutes load leak P : Int) : Bool := decide (load * P ≤ force M weight minutes leak)
theorem pulls_le {M : Mach} {weight minutes load leak P Q : Int} (hl : 0 ≤ load) (hPQ : P ≤ Q) (h : pullsB M weight minutes load leak Q = true) : pullsB M weight minutes load leak P = true := by
  simp only [pullsB, decide_eq_true_eq] at h ⊢
  have := Int.mul_le_mul_of_nonneg_left hPQ hl
  omega
/-- What is pulled in all truths is pulled at the greatest product of each group. -/
theorem pulls_all {M : Mach} (h : ValidM M) {lev : Nat} (hl : lev < 3) {weight minutes load : Int} (hload : 0 ≤ load) :
    (∀ s ∈ truthsM M, pullsB M weight minutes load s.2 (prodL s.1) = true) ↔ ∀ g ∈ grpT M lev, pullsB M weight minutes load g.leak (g.hi M lev) = true := by
  constructor
  · intro hall g hg
    obtain ⟨_, _, t, ht, t1, _, _, t4⟩ := grp_truth h hl hg
    have := hall t ht
    rwa [t1, t4] at this
  · intro hall s hs
    obtain ⟨g, hg, g1, _, _, _, g5⟩ := truth_grp h hl hs
    have := hall g hg
    rw [g1] at this
    exact pulls_le hload g5 this
/-- Pulled or not in some truth: asked at the ends of the groups. -/
theorem pulls_ends {M : Mach} (h : ValidM M) {lev : Nat} (hl : lev < 3) {weight minutes load : Int} (hload : 0 ≤ load) (c : Bool) :
    (∃ s ∈ truthsM M, pullsB M weight minutes load s.2 (prodL s.1) = c) ↔ ∃ g ∈ grpT M lev, pullsB M weight minutes load g.leak (g.lo M lev) = c ∨ pullsB M weight minutes load g.leak (g.hi M lev) = c := by
  constructor
  · rintro ⟨s, hs, e⟩
    obtain ⟨g, hg, g1, _, _, g4, g5⟩ := truth_grp h hl hs
    refine ⟨g, hg, ?_⟩
    rw [g1]
    cases c
    · right
      cases e2 : pullsB M weight minutes load s.2 (g.hi M lev)
      · rfl
      · rw [pulls_le hload g5 e2] at e; cases e
    · exact .inl (pulls_le hload g4 e)
  · rintro ⟨g, hg, e⟩
    obtain ⟨_, ⟨s, hs, s1, _, _, s4⟩, t, ht, t1, _, _, t4⟩ := grp_truth h hl hg
    rcases e with e | e
    · exact ⟨s, hs, by rw [s1, s4]; exact e⟩
    · exact ⟨t, ht, by rw [t1, t4]; exact e⟩
theorem div_anti {n P Q : Int} (hn : 0 ≤ n) (hP : 1 ≤ P) (hPQ : P ≤ Q) : n / Q ≤ n / P := by
  rw [Int.le_ediv_iff_mul_le (by omega)]
  have h1 := Int.ediv_mul_le n (show Q ≠ 0 by omega)
  have h2 : 0 ≤ n / Q := Int.ediv_nonneg hn (by omega)
  have h3 := Int.mul_le_mul_of_nonneg_left hPQ h2
  omega
theorem up_anti {n P Q : Int} (hn : 0 ≤ n) (hP : 1 ≤ P) (hPQ : P ≤ Q) : upD n Q ≤ upD n P := by
  rw [upD_le (by omega)]
  have h1 : n ≤ P * upD n P := (upD_le (by omega)).1 (Int.le_refl _)
  have h2 : 0 ≤ upD n P := Int.ediv_nonneg (by omega) (by omega)
  have h3 := Int.mul_le_mul_of_nonneg_right hPQ h2
  omega
/-- The bounds of the load are those at the ends of the groups. -/
theorem load_ends {M : Mach} (h : ValidM M) {lev : Nat} (hl : lev < 3) {weight minutes : Int} (hw : 0 ≤ weight ∧ weight ≤ 9999) (hm : 0 ≤ minutes) :
    (∀ s ∈ truthsM M, ∃ g ∈ grpT M lev, force M weight minutes g.leak / g.hi M lev ≤ force M weight minutes s.2 / prodL s.1 ∧ upD (force M weight minutes s.2) (prodL s.1) ≤ upD (force M weight minutes g.leak) (g.lo M lev)) ∧
      ∀ g ∈ grpT M lev, (∃ s ∈ truthsM M, force M weight minutes s.2 / prodL s.1 = force M weight minutes g.leak / g.hi M lev) ∧ ∃ s ∈ truthsM M, upD (force M weight minutes s.2) (prodL s.1) = upD (force M weight minutes g.leak) (g.lo M lev) := by
  refine ⟨fun s hs => ?_, fun g hg => ?_⟩
  · obtain ⟨g, hg, g1, _, _, g4, g5⟩ := truth_grp h hl hs
    have hk := h.leak
    have hin := (mem_sets.1 (mem_truths.1 hs).1).2
    have hf := (force_ok h (leak := s.2) hw hm (by omega)).1
    have hp := prod_pos h (mem_truths.1 hs).1
    obtain ⟨_, ⟨t, ht, t1, _, _, t4⟩, _⟩ := grp_truth h hl hg
    have hp2 := prod_pos h (mem_truths.1 ht).1
    rw [t4] at hp2
    exact ⟨g, hg, by rw [g1]; exact div_anti hf hp g5, by rw [g1]; exact up_anti hf hp2 g4⟩
  · obtain ⟨_, ⟨s, hs, s1, _, _, s4⟩, t, ht, t1, _, _, t4⟩ := grp_truth h hl hg
    exact ⟨⟨t, ht, by rw [t1, t4]⟩, s, hs, by rw [s1, s4]⟩
/-- The short arms of a lever, and the leaks, that there are in truths: one for each group. -/
theorem arm_ends {M : Mach} (h : ValidM M) {lev : Nat} (hl : lev < 3) (n : Int) : (∃ s ∈ truthsM M, pad s.1 lev = n) ↔ ∃ g ∈ grpT M lev, g.arm = n := by
  constructor
  · rintro ⟨s, hs, rfl⟩
    obtain ⟨g, hg, _, g2, _⟩ := truth_grp h hl hs
    exact ⟨g, hg, g2⟩
  · rintro ⟨g, hg, rfl⟩
    obtain ⟨_, ⟨s, hs, _, s2, _⟩, _⟩ := grp_truth h hl hg
    exact ⟨s, hs, s2⟩
theorem leak_ends {M : Mach} (h : ValidM M) {lev : Nat} (hl : lev < 3) (n : Int) : (∃ s ∈ truthsM M, s.2 = n) ↔ ∃ g ∈ grpT M lev, g.leak = n := by
  constructor
  · rintro ⟨s, hs, rfl⟩
    obtain ⟨g, hg, g1, _⟩ := truth_grp h hl hs
    exact ⟨g, hg, g1⟩
  · rintro ⟨g, hg, rfl⟩
    obtain ⟨_, ⟨s, hs, s1, _⟩, _⟩ := grp_truth h hl hg
    exact ⟨s, hs, s1⟩
/-- A balance is right in some truth just if it is so at the least product of a group. -/
theorem right_ends {M : Mach} (h : ValidM M) {lev : Nat} (hl : lev < 3) {b : Bal} (hb : b ∈ M.bals) : (∃ s ∈ truthsM M, rightP M s.2 (prodL s.1) b = true) ↔ ∃ g ∈ grpT M lev, rightP M g.leak (g.lo M lev) b = true := by
  constructor
  · rintro ⟨s, hs, e⟩
    obtain ⟨g, hg, g1, _, g3, _⟩ := truth_grp h hl hs
    have hok := (grp_truth h hl hg).1
    exact ⟨g, hg, by rw [(grp_same h hok hok.lo g3).1 b hb, g1]; exact e⟩
  · rintro ⟨g, hg, e⟩
    obtain ⟨_, ⟨s, hs, s1, _, _, s4⟩, _⟩ := grp_truth h hl hg
    exact ⟨s, hs, by rw [s1, s4]; exact e⟩
theorem sum_flat {α β : Type} (f : α → List β) (g : β → Nat) : ∀ l : List α, ((l.flatMap f).map g).sum = (l.map (fun x => ((f x).map g).sum)).sum
  | [] => rfl
  | x :: l => by rw [List.flatMap_cons, List.map_append, List.sum_append_nat, sum_flat f g l]; rfl
/-- Many, by groups. -/
theorem many_grp {M : Mach} (h : ValidM M) : ((grpT M 0).map (fun g => g.many)).sum = (truthsM M).length := by
  have e1 : ∀ l : List Grp, ((l.filter (fun g => truthB M g.leak (g.lo M 0))).map (fun g => g.many)).sum = (l.map (fun g => if truthB M g.leak (g.lo M 0) = true then g.many else 0)).sum := fun l => by
    induction l with
    | nil => rfl
    | cons g l ih =>
      rw [List.filter_cons, List.map_cons, List.sum_cons, ← ih]
      split <;> simp
  rw [grpT, e1, grpL, sum_flat, truths_count]
  congr 1
  refine List.map_congr_left fun k hk => ?_
  have hk2 := mem_range.1 hk
  have hk0 : 0 ≤ k := by have := h.leak; omega
  rw [sum_flat, ← leak_count h hk0 (sortI_perm (startsL M k)) (sortI_sorted _)]
  congr 1
  refine List.map_congr_left fun p hp => ?_
  have e2 : ∀ as : List Int, (∀ a ∈ as, (shortOf M.levers 0).1 ≤ a ∧ a ≤ (shortOf M.levers 0).2) →
      (((as.filter (fun a => decide (0 < groupN (shortOf M.levers 1) (shortOf M.levers 2) a p))).map (grpAt (shortOf M.levers 1) (shortOf M.levers 2) k p)).map (fun g => if truthB M g.leak (g.lo M 0) = true then g.many else 0)).sum = (as.map (fun a => if truthB M k p.1 = true then groupN (shortOf M.levers 1) (shortOf M.levers 2) a p else 0)).sum := fun as has => by
    induction as with
    | nil => rfl
    | cons a as ih =>
      have ih := ih (fun x hx => has x (.tail _ hx))
      rw [List.filter_cons, List.map_cons, List.sum_cons, ← ih]
      by_cases hg : 0 < groupN (shortOf M.levers 1) (shortOf M.levers 2) a p
      · rw [if_pos (decide_eq_true hg), List.map_cons, List.map_cons, List.sum_cons]
        have hok : GrpOk M 0 (grpAt (shortOf M.levers 1) (shortOf M.levers 2) k p a) := grp_at h (lev := 0) hk2 hp (has a (.head _)) hg
        have hsp := spans_in hp
        have e3 : truthB M k ((grpAt (shortOf M.levers 1) (shortOf M.levers 2) k p a).lo M 0) = truthB M k p.1 := truth_same h hok hok.lo ⟨Int.le_refl _, hsp.2.1⟩
        show (if truthB M k ((grpAt (shortOf M.levers 1) (shortOf M.levers 2) k p a).lo M 0) = true then groupN (shortOf M.levers 1) (shortOf M.levers 2) a p else 0) + _ = _
        rw [e3]
      · rw [if_neg (by simp; omega)]
        have h0 : groupN (shortOf M.levers 1) (shortOf M.levers 2) a p = 0 := by omega
        rw [h0]
        simp
  exact e2 _ (fun a ha => mem_range.1 ha)
end Go.Proofs.Ytomcjopcfdllgaa
