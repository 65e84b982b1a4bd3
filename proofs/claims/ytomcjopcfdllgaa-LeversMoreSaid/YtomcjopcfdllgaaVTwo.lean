/-
  Levers: two copies of a machine in one statement: what each operation of such a region yields, and what lies apart.
-/
import Derived.Test.YtomcjopcfdllgaaVFactsK
import Derived.Test.YtomcjopcfdllgaaVCopy

namespace Go.Proofs.Ytomcjopcfdllgaa
open Go.RowKit

theorem own_setSelf {w : World} {base size g cap n k : Nat} {e : TypeId} {xs : List Value} {u : Value} (h : w.ownsRow base e size (.slice (some ⟨g, 0, none⟩) n cap) n xs) (hk : k < n * size) : (w.setCell ⟨g, k, none⟩ u).ownsRow base e size (.slice (some ⟨g, 0, none⟩) n cap) n (xs.set k u) := by
  refine ⟨by rw [List.length_set]; exact h.1, ?_⟩
  rcases h.2 with ⟨hv, _⟩ | ⟨g', cap', cur, hv, hb, hg, hn, hm, hs, ht⟩
  · cases hv
  · injection hv with h1 h2 h3
    injection h1 with h1
    injection h1 with h1
    subst h1 h3
    refine .inr ⟨g, cap, cur.setIfInBounds k u, rfl, hb, heap_setCell_same hg, hn, hm, by simpa using hs, ?_⟩
    apply List.ext_getElem?
    intro j
    rw [← ht, Array.toList_setIfInBounds, List.getElem?_take, List.getElem?_set, List.getElem?_set, List.getElem?_take]
    by_cases hj : j < n * size
    · simp only [hj, if_true, List.length_take]
      have : k < cur.toList.length := by
        have h1 := h.1
        rw [← ht, List.length_take] at h1
        simp at h1 ⊢; omega
      by_cases e : k = j
      · subst e
        have h1 : k < cur.size := by simpa using this
        have h2 : k < min (n * size) cur.size := by omega
        simp [h1, h2]
      · simp [e]
    · simp only [hj, if_false]
      have : k ≠ j := by omega
      simp [this]
theorem own_heap {w : World} {base size g cap n : Nat} {e : TypeId} {xs : List Value} (h : w.ownsRow base e size (.slice (some ⟨g, 0, none⟩) n cap) n xs) : ∃ cur, w.heap[g]? = some (.cells cur e) := by
  rcases h.2 with ⟨hv, _⟩ | ⟨g', cap', cur, hv, hb, hg, _⟩
  · cases hv
  · injection hv with h1
    injection h1 with h1
    injection h1 with h1
    subst h1
    exact ⟨cur, hg⟩
theorem own_some {w : World} {base size cap n : Nat} {a : Option Addr} {e : TypeId} {xs : List Value} (h : w.ownsRow base e size (.slice a n cap) n xs) (hn : 0 < n) : ∃ g, a = some ⟨g, 0, none⟩ ∧ base ≤ g := by
  rcases h.2 with ⟨_, h0⟩ | ⟨g', cap', cur, hv, hb, _⟩
  · omega
  · injection hv with h1
    exact ⟨g', h1, hb⟩

/-- A store into a row of elements of another type. -/
theorem own_setOther {w : World} {base b o n size : Nat} {e t : TypeId} {v u : Value} {xs : List Value} {cs : Array Value} (h : w.ownsRow base e size v n xs) (hb : w.heap[b]? = some (.cells cs t)) (hne : e ≠ t) : (w.setCell ⟨b, o, none⟩ u).ownsRow base e size v n xs := by
  refine h.kept (row := some b) ⟨rfl, rfl, rfl, by rw [size_setCell]; exact Nat.le_refl _, fun k hk hn => heap_setCell_other (fun q => hn (by rw [q]))⟩ ?_
  rcases h.2 with ⟨rfl, _⟩ | ⟨g, cap, cur, rfl, _, hh, _⟩
  · exact .inl rfl
  · refine .inr (fun he => ?_)
    have : g = b := by simpa [Value.ownBlock] using he
    subst this
    rw [hh] at hb
    injection hb with hb
    injection hb with _ ht
    exact hne ht

/-- A machine whose rows are some call's own. -/
def OwnM (lo : Nat) (W : World) (v : Value) (M : Mach) : Prop :=
  ∃ lv bv, v = .agg #[lv, .int .i64 M.water, .int .i64 M.lkLo, .int .i64 M.lkHi, bv, .int .i64 M.wrong] ∧ W.ownsRow lo 63 3 lv M.levers.length (lcells M.levers) ∧ W.ownsRow lo 51 4 bv M.bals.length (bcells M.bals)
theorem OwnM.below {lo : Nat} {W W' : World} {v : Value} {M : Mach} (h : OwnM lo W v M) (hb : Below W.heap.size W W') : OwnM lo W' v M := by
  obtain ⟨lv, bv, h1, h2, h3⟩ := h
  exact ⟨lv, bv, h1, own_below h2 hb, own_below h3 hb⟩
theorem OwnM.low {lo lo' : Nat} {W : World} {v : Value} {M : Mach} (h : OwnM lo W v M) (hb : lo' ≤ lo) : OwnM lo' W v M := by
  obtain ⟨lv, bv, h1, h2, h3⟩ := h
  exact ⟨lv, bv, h1, own_base h2 hb, own_base h3 hb⟩
theorem Copy_M (v : Value) (M : Mach) (w : World) (hx : MachAt w.heap.size w v M) (hd : M.levers.length ≤ 40) (hs : M.bals.length ≤ 40) :
    Calls Try.prog 30 #[v] w fun e w' => ∃ u, e = .returned u ∧ Below w.heap.size w w' ∧ OwnM w.heap.size w' u M :=
  (Copy_own v M w hx hd hs).mono fun _ _ ⟨lv, bv, h1, h2, h3, h4⟩ => ⟨_, h1, h4, lv, bv, rfl, h2, h3⟩
def copyF (lo : Nat) (M : Mach) : Fact := ⟨fun v W => OwnM lo W v M, fun _ _ _ h hb => h.below hb⟩
abbrev zeroM : Array Value := #[.slice none 0 0, .int .i64 0, .int .i64 0, .int .i64 0, .slice none 0 0, .int .i64 0]
def newF (lo : Nat) : Fact := ⟨fun v W => ∃ b, v = .pointer (some ⟨b, 0, none⟩) ∧ lo ≤ b ∧ W.heap[b]? = some (.cells zeroM 27), fun _ _ _ ⟨b, h1, h2, h3⟩ hb => ⟨b, h1, h2, (hb.block b (heap_lt h3)).trans h3⟩⟩
/-- The blocks of a machine's rows, of a variable. -/
def blocksM : Value → List Nat
  | .agg xs => (xs.getD 0 undef).ownBlock.toList ++ (xs.getD 4 undef).ownBlock.toList
  | .pointer (some a) => [a.block]
  | _ => []
def keyM (i : Nat) (v : Value) : List Nat := if i = 1 ∨ i = 3 ∨ i = 4 ∨ i = 5 then blocksM v else []
theorem OwnM.key {lo : Nat} {W : World} {v : Value} {M : Mach} (h : OwnM lo W v M) {b : Nat} (hb : b ∈ blocksM v) : lo ≤ b ∧ b < W.heap.size := by
  obtain ⟨lv, bv, rfl, h2, h3⟩ := h
  simp only [blocksM, List.mem_append, Option.mem_toList] at hb
  rcases hb with hb | hb
  · exact h2.lt b hb
  · exact h3.lt b hb
def psM (lo : Nat) (mv : Value) (M : Mach) : List Fact := [isV mv, copyF lo M, isV mv, copyF lo M, newF lo, newF lo]
theorem keyM_lt {lo : Nat} {mv : Value} {M : Mach} : ∀ i v (W : World), factAt (psM lo mv M) i v W → ∀ b, b ∈ keyM i v → b < W.heap.size := by
  intro i v W h b hb
  unfold keyM at hb
  split at hb
  · rename_i hi
    rcases hi with rfl | rfl | rfl | rfl
    · exact (OwnM.key (show OwnM lo W v M from h) hb).2
    · exact (OwnM.key (show OwnM lo W v M from h) hb).2
    · obtain ⟨c, rfl, _, h3⟩ := (show ∃ b, v = .pointer (some ⟨b, 0, none⟩) ∧ lo ≤ b ∧ W.heap[b]? = some (.cells zeroM 27) from h)
      simp only [blocksM, List.mem_singleton] at hb
      rw [hb]; exact heap_lt h3
    · obtain ⟨c, rfl, _, h3⟩ := (show ∃ b, v = .pointer (some ⟨b, 0, none⟩) ∧ lo ≤ b ∧ W.heap[b]? = some (.cells zeroM 27) from h)
      simp only [blocksM, List.mem_singleton] at hb
      rw [hb]; exact heap_lt h3
  · cases hb
theorem alloc6 (w : World) : (Instr.alloc 27 true (.tuple #[])).run Try.prog w = .ok (.pointer (some ⟨w.heap.size, 0, none⟩)) (w.alloc (.cells zeroM 27)) := by
  go_simp
abbrev put6 (W : World) (b : Nat) (v0 v1 v2 v3 v4 v5 : Value) : World := (((((W.setCell ⟨b, 0, none⟩ v0).setCell ⟨b, 1, none⟩ v1).setCell ⟨b, 2, none⟩ v2).setCell ⟨b, 3, none⟩ v3).setCell ⟨b, 4, none⟩ v4).setCell ⟨b, 5, none⟩ v5
theorem put6_heap {W : World} {b : Nat} {t : TypeId} {u0 u1 u2 u3 u4 u5 v0 v1 v2 v3 v4 v5 : Value} (h : W.heap[b]? = some (.cells #[u0, u1, u2, u3, u4, u5] t)) : (put6 W b v0 v1 v2 v3 v4 v5).heap[b]? = some (.cells #[v0, v1, v2, v3, v4, v5] t) :=
  heap_setCell_same (heap_setCell_same (heap_setCell_same (heap_setCell_same (heap_setCell_same (heap_setCell_same h)))))
theorem put6_other {W : World} {b k : Nat} {v0 v1 v2 v3 v4 v5 : Value} (h : b ≠ k) : (put6 W b v0 v1 v2 v3 v4 v5).heap[k]? = W.heap[k]? :=
  (heap_setCell_other h).trans ((heap_setCell_other h).trans ((heap_setCell_other h).trans ((heap_setCell_other h).trans ((heap_setCell_other h).trans (heap_setCell_other h)))))
theorem put6_below {B b : Nat} {w W : World} {v0 v1 v2 v3 v4 v5 : Value} (h : Below B w W) (hb : B ≤ b) : Below B w (put6 W b v0 v1 v2 v3 v4 v5) :=
  below_setCell (below_setCell (below_setCell (below_setCell (below_setCell (below_setCell h hb) hb) hb) hb) hb) hb
theorem own_put6 {w : World} {base b n size : Nat} {e : TypeId} {v : Value} {xs : List Value} {v0 v1 v2 v3 v4 v5 : Value} (h : w.ownsRow base e size v n xs) (hb : v.ownBlock ≠ some b) : (put6 w b v0 v1 v2 v3 v4 v5).ownsRow base e size v n xs :=
  ownsRow_setCell_other (ownsRow_setCell_other (ownsRow_setCell_other (ownsRow_setCell_other (ownsRow_setCell_other (ownsRow_setCell_other h hb _) hb _) hb _) hb _) hb _) hb _
/-- Two variables, each with a copy of a machine, and what lies apart. -/
structure TwoM (lo : Nat) (W : World) (M : Mach) (B U : Nat) (lo1 lb1 lo2 lb2 : Value) : Prop where
  vB : W.heap[B]? = some (.cells #[lo1, .int .i64 M.water, .int .i64 M.lkLo, .int .i64 M.lkHi, lb1, .int .i64 M.wrong] 27)
  vU : W.heap[U]? = some (.cells #[lo2, .int .i64 M.water, .int .i64 M.lkLo, .int .i64 M.lkHi, lb2, .int .i64 M.wrong] 27)
  rows : (W.ownsRow lo 63 3 lo1 M.levers.length (lcells M.levers) ∧ W.ownsRow lo 51 4 lb1 M.bals.length (bcells M.bals)) ∧ W.ownsRow lo 63 3 lo2 M.levers.length (lcells M.levers) ∧ W.ownsRow lo 51 4 lb2 M.bals.length (bcells M.bals)
  far : lo ≤ B ∧ lo ≤ U ∧ B ≠ U
  apart : (∀ b, lo1.ownBlock = some b → lo2.ownBlock ≠ some b) ∧ ∀ b, lb1.ownBlock = some b → lb2.ownBlock ≠ some b
theorem two_put {lo : Nat} {W : World} {M : Mach} {B U : Nat} {u1 u3 : Value} (k1 : OwnM lo W u1 M) (k3 : OwnM lo W u3 M) (hB : lo ≤ B ∧ W.heap[B]? = some (.cells zeroM 27)) (hU : lo ≤ U ∧ W.heap[U]? = some (.cells zeroM 27))
    (h45 : B ≠ U) (h14 : B ∉ blocksM u1) (h15 : U ∉ blocksM u1) (h34 : B ∉ blocksM u3) (h35 : U ∉ blocksM u3) (h13 : ∀ b, b ∈ blocksM u1 → b ∉ blocksM u3) :
    ∃ l1 b1 l2 b2 : Value, u1 = .agg #[l1, .int .i64 M.water, .int .i64 M.lkLo, .int .i64 M.lkHi, b1, .int .i64 M.wrong] ∧ u3 = .agg #[l2, .int .i64 M.water, .int .i64 M.lkLo, .int .i64 M.lkHi, b2, .int .i64 M.wrong] ∧
      TwoM lo (put6 (put6 W B l1 (.int .i64 M.water) (.int .i64 M.lkLo) (.int .i64 M.lkHi) b1 (.int .i64 M.wrong)) U l2 (.int .i64 M.water) (.int .i64 M.lkLo) (.int .i64 M.lkHi) b2 (.int .i64 M.wrong)) M B U l1 b1 l2 b2 := by
  obtain ⟨l1, b1, rfl, r1, r2⟩ := k1
  obtain ⟨l2, b2, rfl, r3, r4⟩ := k3
  have hm : ∀ {l b : Value} {x1 x2 x3 x5 : Value} {k : Nat}, k ∉ blocksM (.agg #[l, x1, x2, x3, b, x5]) → l.ownBlock ≠ some k ∧ b.ownBlock ≠ some k := fun h => by
    simp only [blocksM, List.mem_append, Option.mem_toList, not_or] at h
    exact h
  refine ⟨l1, b1, l2, b2, rfl, rfl, ?_, ?_, ⟨⟨?_, ?_⟩, ?_, ?_⟩, ⟨hB.1, hU.1, h45⟩, fun b e1 e2 => ?_, fun b e1 e2 => ?_⟩
  · rw [put6_other (Ne.symm h45)]; exact put6_heap hB.2
  · exact put6_heap ((put6_other h45).trans hU.2)
  · exact own_put6 (own_put6 r1 (hm h14).1) (hm h15).1
  · exact own_put6 (own_put6 r2 (hm h14).2) (hm h15).2
  · exact own_put6 (own_put6 r3 (hm h34).1) (hm h35).1
  · exact own_put6 (own_put6 r4 (hm h34).2) (hm h35).2
  · exact h13 b (by simp only [blocksM, List.mem_append, Option.mem_toList]; exact .inl e1) (by simp only [blocksM, List.mem_append, Option.mem_toList]; exact .inl e2)
  · exact h13 b (by simp only [blocksM, List.mem_append, Option.mem_toList]; exact .inr e1) (by simp only [blocksM, List.mem_append, Option.mem_toList]; exact .inr e2)
end Go.Proofs.Ytomcjopcfdllgaa
