/-
  Links, walks: the deeds of a chain are followed in the memory of a past.
-/
import Derived.Test.YtdkiccndoanlpaaLFollow

namespace Go.Proofs.Ytdkiccndoanlpaa
open Go.RowKit Go.Sort

/-- What is left of the bits of the ends behind the first k deeds. -/
def restE (ds : List Deed) (e : Nat) : Nat → Nat
  | 0 => e
  | k + 1 => if (dnth ds k).from_ = 2 then restE ds e k / 2 else restE ds e k
theorem dnth_cons (d : Deed) (ds : List Deed) (k : Nat) : dnth (d :: ds) (k + 1) = dnth ds k := rfl
theorem restE_cons (d : Deed) (ds : List Deed) (e : Nat) : ∀ k, restE (d :: ds) e (k + 1) = restE ds (if d.from_ = 2 then e / 2 else e) k
  | 0 => rfl
  | k + 1 => by
    show (if (dnth (d :: ds) (k + 1)).from_ = 2 then restE (d :: ds) e (k + 1) / 2 else restE (d :: ds) e (k + 1)) = _
    rw [restE_cons d ds e k, dnth_cons]; rfl
theorem endsOf_nth : ∀ (ds : List Deed) (e k : Nat), k < ds.length → nth (endsOf ds e) k = if (dnth ds k).from_ = 2 then ((restE ds e k % 2 : Nat) : Int) else (dnth ds k).from_
  | [], _, _, h => by simp at h
  | d :: ds, e, 0, _ => by
    show nth (endsOf (d :: ds) e) 0 = if d.from_ = 2 then ((e % 2 : Nat) : Int) else d.from_
    simp only [endsOf]; split <;> rfl
  | d :: ds, e, k + 1, h => by
    rw [restE_cons, dnth_cons, ← endsOf_nth ds _ k (by simpa using h)]
    simp only [endsOf]; split <;> rfl
theorem restE_le (ds : List Deed) (e : Nat) : ∀ k, restE ds e k ≤ e
  | 0 => Nat.le_refl _
  | k + 1 => by have := restE_le ds e k; simp only [restE]; split <;> omega

/-- .. and behind it a cable that is worked at. -/
structure PastMid (n Bp Bm : Nat) (cab : Nat → List Int) (k : Nat) (c : List Int) (W : World) : Prop where
  ne : Bp ≠ Bm
  hdr : ∃ arr, W.heap[Bp]? = some (.cells arr 33) ∧ arr.size = n + 1 ∧ (∀ i, i ≤ k → arr[i]? = some (.slice (some ⟨Bm, i * 12, none⟩) (cab i).length 12)) ∧
    ∀ i, k < i → i ≤ n → ∃ l, l ≤ 12 ∧ arr[i]? = some (.slice (some ⟨Bm, i * 12, none⟩) l 12)
  mem : ∃ f, RowAt Bm ((n + 1) * 12) f W ∧ (∀ i, i ≤ k → Holds f (i * 12) (cab i)) ∧ Holds f ((k + 1) * 12) c
  len : ∀ i, i ≤ k → (cab i).length ≤ 12
  lc : c.length ≤ 12

theorem PastTo.mid {n Bp Bm : Nat} {cab : Nat → List Int} {k : Nat} {W : World} (h : PastTo n Bp Bm cab k W) (hk : k < n) :
    PastMid n Bp Bm cab k (cab k) (W.setCells Bm ((k + 1) * 12) ((cab k).map (Value.int .i64))) := by
  have hl := h.len k (Nat.le_refl _)
  obtain ⟨arr, h1, h2⟩ := h.hdr
  obtain ⟨f, h3, h4⟩ := h.mem
  refine ⟨h.ne, ⟨arr, ((kept_sets _ W _).block _ (heap_lt h1) h.ne).trans h1, h2⟩, ⟨_, RowAt.sets (cab k) f W ((k + 1) * 12) h3 (by omega), fun i hi j hj => ?_, fun j hj => ?_⟩, h.len, hl⟩
  · have := h.len i hi
    show (if _ then _ else _) = _
    rw [if_neg (by omega)]; exact h4 i hi j hj
  · show (if _ then _ else _) = _
    rw [if_pos (by omega), show (k + 1) * 12 + j - (k + 1) * 12 = j by omega]
theorem PastMid.kept {n Bp Bm : Nat} {cab : Nat → List Int} {k : Nat} {c : List Int} {W W' : World} (h : PastMid n Bp Bm cab k c W) {own : Nat → Prop} (hk : KeptBut own W W') (hp : ¬ own Bp) (hm : ¬ own Bm) : PastMid n Bp Bm cab k c W' := by
  obtain ⟨arr, h1, h2⟩ := h.hdr
  obtain ⟨f, h3, h4⟩ := h.mem
  exact ⟨h.ne, ⟨arr, (hk.block _ (heap_lt h1) hp).trans h1, h2⟩, ⟨f, h3.kept (hk.block _ h3.lt hm), h4⟩, h.len, h.lc⟩
theorem PastMid.ltp {n Bp Bm : Nat} {cab : Nat → List Int} {k : Nat} {c : List Int} {W : World} (h : PastMid n Bp Bm cab k c W) : Bp < W.heap.size := by
  obtain ⟨arr, h1, _⟩ := h.hdr; exact heap_lt h1
theorem PastMid.ltm {n Bp Bm : Nat} {cab : Nat → List Int} {k : Nat} {c : List Int} {W : World} (h : PastMid n Bp Bm cab k c W) : Bm < W.heap.size := by
  obtain ⟨f, h1, _⟩ := h.mem; exact h1.lt
theorem PastMid.change {n Bp Bm : Nat} {cab : Nat → List Int} {k : Nat} {c c' : List Int} {W W' : World} (h : PastMid n Bp Bm cab k c W) {f f' : Nat → Int} (hk : KeptBut (fun j => j = Bm) W W')
    (hf : ∀ i, i ≤ k → Holds f (i * 12) (cab i)) (h1 : RowAt Bm ((n + 1) * 12) f' W') (h2 : Holds f' ((k + 1) * 12) c') (h3 : ∀ i, i < (k + 1) * 12 → f' i = f i) (hl : c'.length ≤ 12) : PastMid n Bp Bm cab k c' W' := by
  obtain ⟨arr, g1, g2⟩ := h.hdr
  exact ⟨h.ne, ⟨arr, (hk.block _ (heap_lt g1) h.ne).trans g1, g2⟩, ⟨f', h1, fun i hi j hj => by
    have := h.len i hi
    rw [h3 _ (by omega)]; exact hf i hi j hj, h2⟩, h.len, hl⟩
theorem PastMid.store {n Bp Bm : Nat} {cab : Nat → List Int} {k : Nat} {c : List Int} {W : World} (h : PastMid n Bp Bm cab k c W) (hk : k < n) (hc : cab (k + 1) = c) :
    PastTo n Bp Bm cab (k + 1) (W.setCell ⟨Bp, k + 1, none⟩ (.slice (some ⟨Bm, (k + 1) * 12, none⟩) c.length 12)) := by
  obtain ⟨arr, h1, h2, h3, h4⟩ := h.hdr
  obtain ⟨f, g1, g2, g3⟩ := h.mem
  refine ⟨h.ne, ⟨_, heap_setCell_same h1, by simp [h2], fun i hi => ?_, fun i hi hin => ?_⟩, ⟨f, g1.kept (heap_setCell_other h.ne), fun i hi => ?_⟩, fun i hi => ?_⟩
  · by_cases e : i = k + 1
    · subst e; simp [Array.getElem?_setIfInBounds, h2, hc]; omega
    · rw [Array.getElem?_setIfInBounds_ne (by omega)]; exact h3 i (by omega)
  · rw [Array.getElem?_setIfInBounds_ne (by omega)]; exact h4 i (by omega) hin
  · by_cases e : i = k + 1
    · subst e; rw [hc]; exact g3
    · exact g2 i (by omega)
  · by_cases e : i = k + 1
    · subst e; rw [hc]; exact h.lc
    · exact h.len i (by omega)
theorem PastTo.zero {n Bp Bm : Nat} {cab cab0 : Nat → List Int} {W : World} (h : PastTo n Bp Bm cab0 n W) (h0 : cab0 0 = []) (h1 : cab 0 = []) : PastTo n Bp Bm cab 0 W := by
  obtain ⟨arr, g1, g2, g3, g4⟩ := h.hdr
  obtain ⟨f, f1, f2⟩ := h.mem
  refine ⟨h.ne, ⟨arr, g1, g2, fun i hi => ?_, fun i hi hin => ⟨(cab0 i).length, h.len i hin, g3 i hin⟩⟩, ⟨f, f1, fun i hi j hj => ?_⟩, fun i hi => ?_⟩
  all_goals obtain rfl : i = 0 := by omega
  · rw [g3 0 (by omega), h0, h1]
  · rw [h1] at hj; simp at hj
  · rw [h1]; simp

end Go.Proofs.Ytdkiccndoanlpaa
