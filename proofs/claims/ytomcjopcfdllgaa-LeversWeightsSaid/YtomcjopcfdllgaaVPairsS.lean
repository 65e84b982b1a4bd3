/-
  Levers: what memory holds while pairs of short arms are counted and kept.
-/
import Derived.Test.YtomcjopcfdllgaaVPairsM
import Derived.Deep.AppendLies
import Derived.Maps.AppendAt

namespace Go.Proofs.Ytomcjopcfdllgaa
open Go.RowKit

theorem own_keep {own : Nat → Prop} {w W : World} {base : Nat} {e : TypeId} {size : Nat} {v : Value} {n : Nat} {xs : List Value} (h : w.ownsRow base e size v n xs) (hk : KeptBut own w W) (ho : ∀ b, v.ownBlock = some b → ¬ own b) : W.ownsRow base e size v n xs := by
  refine ⟨h.1, ?_⟩
  rcases h.2 with hn | ⟨g, cap, cur, rfl, hb, hgg, rest⟩
  · exact .inl hn
  · exact .inr ⟨g, cap, cur, rfl, hb, (hk.block g (heap_lt hgg) (ho g rfl)).trans hgg, rest⟩
/-- What a new slice of one cell holds. -/
def qCells (ps : List (Int × Int)) : List Value := ps.flatMap (fun q => [.int .i64 q.1, .int .i64 q.2])
theorem qCells_snoc (ps : List (Int × Int)) (q : Int × Int) : qCells (ps ++ [q]) = qCells ps ++ [.int .i64 q.1, .int .i64 q.2] := by simp [qCells]
theorem qCells_len (ps : List (Int × Int)) : (qCells ps).length = ps.length * 2 := by
  induction ps with
  | nil => rfl
  | cons q ps ih => simp only [qCells, List.flatMap_cons, List.length_append, List.length_cons, List.length_nil] at ih ⊢; omega
theorem qCells_at : ∀ (ps : List (Int × Int)) {i : Nat} (_ : i < ps.length), (qCells ps)[i * 2]? = some (.int .i64 (ps.getD i (0, 0)).1) ∧ (qCells ps)[i * 2 + 1]? = some (.int .i64 (ps.getD i (0, 0)).2)
  | q :: ps, 0, _ => ⟨rfl, rfl⟩
  | q :: ps, i + 1, h => by
    have := qCells_at ps (i := i) (by simpa using h)
    have e : qCells (q :: ps) = .int .i64 q.1 :: .int .i64 q.2 :: qCells ps := rfl
    rw [e, show (i + 1) * 2 = i * 2 + 1 + 1 by omega, List.getElem?_cons_succ, List.getElem?_cons_succ, List.getElem?_cons_succ, List.getElem?_cons_succ, List.getD_cons_succ]
    exact this
/-- The pairs while they are kept: b4 is their box, b2 the result's. -/
structure Pr (w : World) (b2 b4 bw ba R : Nat) (f g : Nat → Int) (L : Int) (ps : List (Int × Int)) (ms ls : List Int) (av mv sv : Value) (W : World) : Prop where
  box : W.heap[b4]? = some (.cells #[av, mv, .int .i64 L, sv] 97)
  a : W.ownsRow w.heap.size 94 2 av ps.length (qCells ps)
  m : W.ownsRow w.heap.size 3 1 mv ms.length (ms.map (Value.int .i64))
  l : W.ownsRow w.heap.size 3 1 sv ls.length (ls.map (Value.int .i64))
  am : ∀ b, av.ownBlock = some b → mv.ownBlock ≠ some b ∧ sv.ownBlock ≠ some b
  ml : ∀ b, mv.ownBlock = some b → sv.ownBlock ≠ some b
  fr : ∀ b, av.ownBlock = some b ∨ mv.ownBlock = some b ∨ sv.ownBlock = some b → b ≠ b2 ∧ b ≠ b4 ∧ b ≠ bw ∧ b ≠ ba
  ways : RowAt bw R f W
  arms : RowAt ba R g W
  res : W.heap[b2]? = some (.cells #[.slice none 0 0, .slice none 0 0, .int .i64 0, .slice none 0 0] 97)
  below : Below w.heap.size w W
  lo : w.heap.size ≤ b4 ∧ w.heap.size ≤ b2 ∧ b2 ≠ b4 ∧ b4 ≠ bw ∧ b4 ≠ ba

section
variable {w : World} {b2 b4 bw ba R : Nat} {f g : Nat → Int} {L : Int} {ps : List (Int × Int)} {ms ls : List Int} {av mv sv : Value} {W W2 : World}
theorem Pr.lts (h : Pr w b2 b4 bw ba R f g L ps ms ls av mv sv W) : b2 < W.heap.size ∧ b4 < W.heap.size ∧ bw < W.heap.size ∧ ba < W.heap.size := ⟨heap_lt h.res, heap_lt h.box, h.ways.lt, h.arms.lt⟩
/-- The blocks that rows own, below the heap's end. -/
theorem Pr.own_lt (h : Pr w b2 b4 bw ba R f g L ps ms ls av mv sv W) : ∀ b, av.ownBlock = some b ∨ mv.ownBlock = some b ∨ sv.ownBlock = some b → w.heap.size ≤ b ∧ b < W.heap.size := fun b hb => by
  rcases hb with hb | hb | hb
  · exact h.a.lt b hb
  · exact h.m.lt b hb
  · exact h.l.lt b hb
theorem Pr.armed (h : Pr w b2 b4 bw ba R f g L ps ms ls av mv sv W) {q : Int × Int} {av' : Value} (hk : KeptBut (fun b => av.ownBlock = some b ∨ b = b4) W W2) (hbox : W2.heap[b4]? = some (.cells #[av', mv, .int .i64 L, sv] 97))
    (hown : W2.ownsRow w.heap.size 94 2 av' (ps.length + 1) (qCells ps ++ [.int .i64 q.1, .int .i64 q.2])) (hn : ∀ b, av'.ownBlock = some b → av.ownBlock = some b ∨ W.heap.size ≤ b) : Pr w b2 b4 bw ba R f g L (ps ++ [q]) ms ls av' mv sv W2 := by
  have hl := h.lts
  have ho := h.own_lt
  refine ⟨hbox, by rw [qCells_snoc, List.length_append]; exact hown, own_keep h.m hk ?_, own_keep h.l hk ?_, fun b hb => ?_, h.ml, fun b hb => ?_, h.ways.kept (hk.block _ hl.2.2.1 ?_), h.arms.kept (hk.block _ hl.2.2.2 ?_), (hk.block _ hl.1 ?_).trans h.res, h.below.trans (hk.below h.below.size ?_), h.lo⟩
  · rintro b hb (e | e)
    · exact (h.am b e).1 hb
    · exact (h.fr b (.inr (.inl hb))).2.1 e
  · rintro b hb (e | e)
    · exact (h.am b e).2 hb
    · exact (h.fr b (.inr (.inr hb))).2.1 e
  · rcases hn b hb with e | e
    · exact h.am b e
    · exact ⟨fun e2 => by have := (ho b (.inr (.inl e2))).2; omega, fun e2 => by have := (ho b (.inr (.inr e2))).2; omega⟩
  · rcases hb with hb | hb
    · rcases hn b hb with e | e
      · exact h.fr b (.inl e)
      · exact ⟨by omega, by omega, by omega, by omega⟩
    · exact h.fr b (.inr hb)
  · rintro (e | e)
    · exact (h.fr _ (.inl e)).2.2.1 rfl
    · exact h.lo.2.2.2.1 e.symm
  · rintro (e | e)
    · exact (h.fr _ (.inl e)).2.2.2 rfl
    · exact h.lo.2.2.2.2 e.symm
  · rintro (e | e)
    · exact (h.fr _ (.inl e)).1 rfl
    · exact h.lo.2.2.1 e
  · rintro k (e | e)
    · exact (ho k (.inl e)).1
    · rw [e]; exact h.lo.1
theorem Pr.counted (h : Pr w b2 b4 bw ba R f g L ps ms ls av mv sv W) {x : Int} {mv' : Value} (hk : KeptBut (fun b => mv.ownBlock = some b ∨ b = b4) W W2) (hbox : W2.heap[b4]? = some (.cells #[av, mv', .int .i64 L, sv] 97))
    (hown : W2.ownsRow w.heap.size 3 1 mv' (ms.length + 1) (ms.map (Value.int .i64) ++ [.int .i64 x])) (hn : ∀ b, mv'.ownBlock = some b → mv.ownBlock = some b ∨ W.heap.size ≤ b) : Pr w b2 b4 bw ba R f g L ps (ms ++ [x]) ls av mv' sv W2 := by
  have hl := h.lts
  have ho := h.own_lt
  refine ⟨hbox, own_keep h.a hk ?_, by rw [List.map_append, List.length_append]; exact hown, own_keep h.l hk ?_, fun b hb => ?_, fun b hb => ?_, fun b hb => ?_, h.ways.kept (hk.block _ hl.2.2.1 ?_), h.arms.kept (hk.block _ hl.2.2.2 ?_), (hk.block _ hl.1 ?_).trans h.res, h.below.trans (hk.below h.below.size ?_), h.lo⟩
  · rintro b hb (e | e)
    · exact (h.am b hb).1 e
    · exact (h.fr b (.inl hb)).2.1 e
  · rintro b hb (e | e)
    · exact (h.ml b e) hb
    · exact (h.fr b (.inr (.inr hb))).2.1 e
  · refine ⟨fun e2 => ?_, (h.am b hb).2⟩
    rcases hn b e2 with e | e
    · exact (h.am b hb).1 e
    · have := (ho b (.inl hb)).2; omega
  · rcases hn b hb with e | e
    · exact h.ml b e
    · exact fun e2 => by have := (ho b (.inr (.inr e2))).2; omega
  · rcases hb with hb | hb | hb
    · exact h.fr b (.inl hb)
    · rcases hn b hb with e | e
      · exact h.fr b (.inr (.inl e))
      · exact ⟨by omega, by omega, by omega, by omega⟩
    · exact h.fr b (.inr (.inr hb))
  · rintro (e | e)
    · exact (h.fr _ (.inr (.inl e))).2.2.1 rfl
    · exact h.lo.2.2.2.1 e.symm
  · rintro (e | e)
    · exact (h.fr _ (.inr (.inl e))).2.2.2 rfl
    · exact h.lo.2.2.2.2 e.symm
  · rintro (e | e)
    · exact (h.fr _ (.inr (.inl e))).1 rfl
    · exact h.lo.2.2.1 e
  · rintro k (e | e)
    · exact (ho k (.inr (.inl e))).1
    · rw [e]; exact h.lo.1
theorem Pr.lessed (h : Pr w b2 b4 bw ba R f g L ps ms ls av mv sv W) {x : Int} {sv' : Value} (hk : KeptBut (fun b => sv.ownBlock = some b ∨ b = b4) W W2) (hbox : W2.heap[b4]? = some (.cells #[av, mv, .int .i64 L, sv'] 97))
    (hown : W2.ownsRow w.heap.size 3 1 sv' (ls.length + 1) (ls.map (Value.int .i64) ++ [.int .i64 x])) (hn : ∀ b, sv'.ownBlock = some b → sv.ownBlock = some b ∨ W.heap.size ≤ b) : Pr w b2 b4 bw ba R f g L ps ms (ls ++ [x]) av mv sv' W2 := by
  have hl := h.lts
  have ho := h.own_lt
  refine ⟨hbox, own_keep h.a hk ?_, own_keep h.m hk ?_, by rw [List.map_append, List.length_append]; exact hown, fun b hb => ?_, fun b hb => ?_, fun b hb => ?_, h.ways.kept (hk.block _ hl.2.2.1 ?_), h.arms.kept (hk.block _ hl.2.2.2 ?_), (hk.block _ hl.1 ?_).trans h.res, h.below.trans (hk.below h.below.size ?_), h.lo⟩
  · rintro b hb (e | e)
    · exact (h.am b hb).2 e
    · exact (h.fr b (.inl hb)).2.1 e
  · rintro b hb (e | e)
    · exact (h.ml b hb) e
    · exact (h.fr b (.inr (.inl hb))).2.1 e
  · refine ⟨(h.am b hb).1, fun e2 => ?_⟩
    rcases hn b e2 with e | e
    · exact (h.am b hb).2 e
    · have := (ho b (.inl hb)).2; omega
  · intro e2
    rcases hn b e2 with e | e
    · exact h.ml b hb e
    · have := (ho b (.inr (.inl hb))).2; omega
  · rcases hb with hb | hb | hb
    · exact h.fr b (.inl hb)
    · exact h.fr b (.inr (.inl hb))
    · rcases hn b hb with e | e
      · exact h.fr b (.inr (.inr e))
      · exact ⟨by omega, by omega, by omega, by omega⟩
  · rintro (e | e)
    · exact (h.fr _ (.inr (.inr e))).2.2.1 rfl
    · exact h.lo.2.2.2.1 e.symm
  · rintro (e | e)
    · exact (h.fr _ (.inr (.inr e))).2.2.2 rfl
    · exact h.lo.2.2.2.2 e.symm
  · rintro (e | e)
    · exact (h.fr _ (.inr (.inr e))).1 rfl
    · exact h.lo.2.2.1 e
  · rintro k (e | e)
    · exact (ho k (.inr (.inr e))).1
    · rw [e]; exact h.lo.1
end

/-- What pairs keep: the arms of each product, the sums, and how many are less. -/
def manyI (A B : Int × Int) : List Int := (manyL (wayN A B) (roomN A B)).map (fun k : Nat => (k : Int))
def armsOf (A B : Int × Int) : List (Int × Int) := usedL (wayN A B) (pairAt A B) (roomN A B)
def ArmsAt (B : Nat) (w : World) (v : Value) (ps : List (Int × Int)) : Prop :=
  ∃ a cap b off, v = .slice a ps.length cap ∧ ps.length ≤ cap ∧ cap ≤ maxLen ∧ (0 < ps.length → a = some ⟨b, off, none⟩ ∧ b < B) ∧
    ∀ i, i < ps.length → w.cell? ⟨b, off + i * 2, none⟩ = some (.int .i64 (ps.getD i (0, 0)).1) ∧ w.cell? ⟨b, off + i * 2 + 1, none⟩ = some (.int .i64 (ps.getD i (0, 0)).2)
theorem ArmsAt.below {B : Nat} {w w' : World} {v : Value} {ps : List (Int × Int)} (h : ArmsAt B w v ps) (hb : Below B w w') : ArmsAt B w' v ps := by
  obtain ⟨a, cap, b, off, hv, hl, hm, ha, hc⟩ := h
  exact ⟨a, cap, b, off, hv, hl, hm, ha, fun i hi => ⟨(hb.cell (p := ⟨b, off + i * 2, none⟩) (ha (by omega)).2).trans (hc i hi).1, (hb.cell (p := ⟨b, off + i * 2 + 1, none⟩) (ha (by omega)).2).trans (hc i hi).2⟩⟩
theorem ArmsAt.mono {B B' : Nat} {w : World} {v : Value} {ps : List (Int × Int)} (h : ArmsAt B w v ps) (hb : B ≤ B') : ArmsAt B' w v ps := by
  obtain ⟨a, cap, b, off, hv, hl, hm, ha, hc⟩ := h
  exact ⟨a, cap, b, off, hv, hl, hm, fun h => ⟨(ha h).1, by have := (ha h).2; omega⟩, hc⟩
theorem ints_of_own {w : World} {base : Nat} {v : Value} {xs : List Int} (h : w.ownsRow base 3 1 v xs.length (xs.map (Value.int .i64))) (hw : ∀ x ∈ xs, I64 x) : IntsAt w.heap.size w v xs := by
  obtain ⟨_, ⟨rfl, h0⟩ | ⟨g, cap, cur, rfl, _, hg, hn, hm, hs, ht⟩⟩ := h
  · exact ⟨none, 0, 0, 0, by rw [h0], by omega, by unfold maxLen; omega, fun h => by omega, fun i hi => by omega, hw⟩
  · refine ⟨_, cap, g, 0, rfl, hn, hm, fun _ => ⟨rfl, (Array.getElem?_eq_some_iff.1 hg).1⟩, fun i hi => ?_, hw⟩
    have h1 : cur.toList[i]? = some (.int .i64 (nth xs i)) := by
      have : (cur.toList.take (xs.length * 1))[i]? = some (.int .i64 (nth xs i)) := by rw [ht]; simp [hi, nth_lt hi]
      rwa [List.getElem?_take_of_lt (by omega)] at this
    simp only [Nat.zero_add, World.cell?, hg, Option.isSome_none, Bool.false_eq_true, if_false]
    rwa [Array.getElem?_toList] at h1
theorem arms_of_own {w : World} {base : Nat} {v : Value} {ps : List (Int × Int)} (h : w.ownsRow base 94 2 v ps.length (qCells ps)) : ArmsAt w.heap.size w v ps := by
  obtain ⟨_, ⟨rfl, h0⟩ | ⟨g, cap, cur, rfl, _, hg, hn, hm, hs, ht⟩⟩ := h
  · exact ⟨none, 0, 0, 0, by rw [h0], by omega, by unfold maxLen; omega, fun h => by omega, fun i hi => by omega⟩
  · refine ⟨_, cap, g, 0, rfl, hn, hm, fun _ => ⟨rfl, (Array.getElem?_eq_some_iff.1 hg).1⟩, fun i hi => ?_⟩
    have hat := qCells_at ps hi
    rw [← ht] at hat
    rw [List.getElem?_take_of_lt (by omega), List.getElem?_take_of_lt (by omega)] at hat
    simp only [Nat.zero_add, World.cell?, hg, Option.isSome_none, Bool.false_eq_true, if_false]
    rw [Array.getElem?_toList, Array.getElem?_toList] at hat
    exact hat
def PairsAt (B : Nat) (w : World) (v : Value) (A D : Int × Int) : Prop :=
  ∃ av mv sv, v = .agg #[av, mv, .int .i64 (A.1 * D.1), sv] ∧ ArmsAt B w av (armsOf A D) ∧ IntsAt B w mv (manyI A D) ∧ IntsAt B w sv (lessI A D)
theorem PairsAt.below {B : Nat} {w w' : World} {v : Value} {A D : Int × Int} (h : PairsAt B w v A D) (hb : Below B w w') : PairsAt B w' v A D := by
  obtain ⟨av, mv, sv, hv, h1, h2, h3⟩ := h
  exact ⟨av, mv, sv, hv, h1.below hb, h2.below hb, h3.below hb⟩
theorem PairsAt.mono {B B' : Nat} {w : World} {v : Value} {A D : Int × Int} (h : PairsAt B w v A D) (hb : B ≤ B') : PairsAt B' w v A D := by
  obtain ⟨av, mv, sv, hv, h1, h2, h3⟩ := h
  exact ⟨av, mv, sv, hv, h1.mono hb, h2.mono hb, h3.mono hb⟩
/-- .. in blocks beyond the first N. -/
def PairsNew (N : Nat) (v : Value) (A D : Int × Int) (W : World) : Prop := ∀ W', KeptBut (fun k => k < N) W W' → PairsAt W'.heap.size W' v A D
theorem PairsNew.less {N N' : Nat} {v : Value} {A D : Int × Int} {W : World} (h : PairsNew N v A D W) (hN : N' ≤ N) : PairsNew N' v A D W := fun W' hk => h W' (hk.mono (fun k _ h => by omega))
theorem PairsNew.below {N : Nat} {v : Value} {A D : Int × Int} {W W2 : World} (h : PairsNew N v A D W) (hb : Below W.heap.size W W2) : PairsNew N v A D W2 := fun W' hk => h W' ((KeptBut.of_below hb).trans hk)
theorem many_bound (F : Nat → Nat) {N : Nat} (h : ∀ k, sumTo F k ≤ N) : ∀ n, ∀ x ∈ manyL F n, x ≤ N
  | 0, x, hx => by simp only [manyL, List.mem_singleton] at hx; omega
  | n + 1, x, hx => by
    simp only [manyL] at hx
    split at hx
    · rcases List.mem_append.1 hx with hx | hx
      · exact many_bound F h n x hx
      · simp only [List.mem_singleton] at hx; subst hx; exact h _
    · exact many_bound F h n x hx
end Go.Proofs.Ytomcjopcfdllgaa
