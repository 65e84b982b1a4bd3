/-
  Levers, the law's reference: rows of settings in memory of the call's own.
-/
import Derived.Test.YtomcjopcfdllgaaVFar2
import Derived.Test.YtomcjopcfdllgaaVRefL
import Derived.Test.YtomcjopcfdllgaaVCopy
import Derived.Test.YtomcjopcfdllgaaVWork

namespace Go.Proofs.Ytomcjopcfdllgaa
open Go.RowKit Go.Shelf

theorem Try_infoN : (Try.prog.info? 3).map (fun i => (i.zero, i.size, i.bytes)) = some (some (.int .i64 0), 1, 8) := by kernel_rfl
theorem Try_infoSet : (Try.prog.info? 30).map (fun i => (i.zero, i.size, i.bytes)) = some (some (.agg #[.slice none 0 0, .int .i64 0]), 2, 32) := by kernel_rfl
theorem own_one {w : World} {base : Nat} {e : TypeId} {size : Nat} {v : Value} {n : Nat} {xs : List Value} (h : w.ownsRow base e size v n xs) : v.oneCell' = true := by
  rcases h.2 with ⟨rfl, _⟩ | ⟨g, cap, cur, rfl, _⟩ <;> rfl
theorem map_one (xs : List Int) : ∀ u ∈ xs.map (Value.int .i64), u.oneCell' = true := fun u hu => by
  obtain ⟨x, _, rfl⟩ := List.mem_map.1 hu
  rfl
theorem cell_grown {w w' : World} {row : Option Nat} {b o : Nat} {v : Value} (h : w.cell? ⟨b, o, none⟩ = some v) (hl : b < w.heap.size) (hg : w.grownBy w' row) (hn : row ≠ some b) : w'.cell? ⟨b, o, none⟩ = some v :=
  (hg.cell_far ⟨b, o, none⟩ hl (Ne.symm hn)).trans h
theorem from_own {w : World} {base : Nat} {e : TypeId} {size n c : Nat} {A : Option Addr} {xs : List Value} (h : w.ownsRow base e size (.slice A n c) n xs) : CellsFrom w A n size xs := by
  refine ⟨h.1, fun hn => ?_⟩
  rcases h.2 with ⟨_, h0⟩ | ⟨g, cap, cur, hv, _, _, _, _, _, _⟩
  · omega
  · injection hv with h1 _ _
    subst h1
    exact ⟨_, rfl, h.cells (g := g) rfl⟩
theorem below_grown {w W w' : World} {row : Option Nat} (hb : Below w.heap.size w W) (hg : W.grownBy w' row) (hr : ∀ b, row = some b → w.heap.size ≤ b) : Below w.heap.size w w' :=
  hb.grown hg hb.size hr
theorem one_at {w : World} {b : Nat} {x : Value} (h : w.cell? ⟨b, 0, none⟩ = some x) : ∀ j u, [x][j]? = some u → w.cell? ((⟨b, 0, none⟩ : Addr).add j) = some u := by
  intro j u hj
  match j, hj with
  | 0, hj =>
    simp only [List.getElem?_cons_zero, Option.some.injEq] at hj
    subst hj
    simpa [Addr.add] using h
theorem two_at {w : World} {b : Nat} {x y : Value} (h : w.cell? ⟨b, 0, none⟩ = some x) (h2 : w.cell? ⟨b, 1, none⟩ = some y) : ∀ j u, [x, y][j]? = some u → w.cell? ((⟨b, 0, none⟩ : Addr).add j) = some u := by
  intro j u hj
  match j, hj with
  | 0, hj =>
    simp only [List.getElem?_cons_zero, Option.some.injEq] at hj
    subst hj
    simpa [Addr.add] using h
  | 1, hj =>
    simp only [List.getElem?_cons_succ, List.getElem?_cons_zero, Option.some.injEq] at hj
    subst hj
    simpa [Addr.add] using h2
theorem own_ne_type {w : World} {base : Nat} {e t : TypeId} {size : Nat} {v : Value} {n b : Nat} {xs : List Value} {cs : Array Value} (h : w.ownsRow base e size v n xs) (hb : w.heap[b]? = some (.cells cs t)) (hne : e ≠ t) : v.ownBlock ≠ some b := by
  rcases h.2 with ⟨rfl, _⟩ | ⟨g, cap, cur, rfl, _, hh, _⟩
  · simp [Value.ownBlock]
  · intro he
    have : g = b := by simpa [Value.ownBlock] using he
    subst this
    rw [hb] at hh
    injection hh with hh
    injection hh with _ ht
    exact hne ht.symm

/-- A row of numbers that is some call's own. -/
def OwnInts (w : World) (v : Value) (xs : List Int) : Prop := w.ownsRow 0 3 1 v xs.length (xs.map (Value.int .i64))
theorem OwnInts.below {w w' : World} {v : Value} {xs : List Int} (h : OwnInts w v xs) (hb : Below w.heap.size w w') : OwnInts w' v xs := own_below h hb
theorem OwnInts.nil (w : World) : OwnInts w (.slice none 0 0) [] := World.ownsRow_nil _ _ _ _
theorem OwnInts.ints {w : World} {v : Value} {xs : List Int} (h : OwnInts w v xs) (hw : ∀ x ∈ xs, I64 x) : IntsAt w.heap.size w v xs := ints_of_own h hw
/-- The cells of settings. -/
def setC : List Value → List (List Int × Int) → List Value
  | v :: vs, s :: xs => v :: .int .i64 s.2 :: setC vs xs
  | _, _ => []
theorem setC_append : ∀ {vs vs' : List Value} {xs ys : List (List Int × Int)}, vs.length = xs.length → setC (vs ++ vs') (xs ++ ys) = setC vs xs ++ setC vs' ys
  | [], _, [], _, _ => by simp [setC]
  | [], _, _ :: _, _, h => by simp at h
  | _ :: _, _, [], _, h => by simp at h
  | v :: vs, vs', s :: xs, ys, h => by
    have := setC_append (vs := vs) (vs' := vs') (xs := xs) (ys := ys) (by simpa using h)
    simp only [List.cons_append, setC, this]
theorem setC_at : ∀ {vs : List Value} {xs : List (List Int × Int)} {i : Nat}, vs.length = xs.length → (h : i < xs.length) → (setC vs xs)[2 * i]? = vs[i]? ∧ (setC vs xs)[2 * i + 1]? = some (.int .i64 xs[i].2)
  | _, [], i, _, hi => absurd hi (Nat.not_lt_zero _)
  | [], _ :: _, _, h, _ => by simp at h
  | v :: vs, s :: xs, 0, _, _ => ⟨rfl, rfl⟩
  | v :: vs, s :: xs, i + 1, h, hi => by
    have := setC_at (vs := vs) (xs := xs) (i := i) (by simpa using h) (by simpa using hi)
    have e1 : 2 * (i + 1) = 2 * i + 1 + 1 := by omega
    rw [e1]
    simp only [setC, List.getElem?_cons_succ, List.getElem_cons_succ]
    exact this
theorem setC_mem : ∀ {vs : List Value} {xs : List (List Int × Int)} {u : Value}, u ∈ setC vs xs → u ∈ vs ∨ ∃ s ∈ xs, u = .int .i64 s.2
  | [], _, _, h => by simp [setC] at h
  | _ :: _, [], _, h => by simp [setC] at h
  | v :: vs, s :: xs, u, h => by
    simp only [setC, List.mem_cons] at h
    rcases h with h | h | h
    · exact .inl (h ▸ .head _)
    · exact .inr ⟨s, .head _, h⟩
    · rcases setC_mem h with h | ⟨t, ht, e⟩
      · exact .inl (.tail _ h)
      · exact .inr ⟨t, .tail _ ht, e⟩
/-- The i-th setting. -/
def snth (xs : List (List Int × Int)) (i : Nat) : List Int × Int := xs.getD i ([], 0)
theorem snth_lt {xs : List (List Int × Int)} {i : Nat} (h : i < xs.length) : snth xs i = xs[i] := by simp [snth, h]
theorem snth_mem {xs : List (List Int × Int)} {i : Nat} (h : i < xs.length) : snth xs i ∈ xs := by rw [snth_lt h]; exact List.getElem_mem h
/-- A row of settings in memory of the call's own, each of their arms a row of its own kind. -/
def SetsAt (w : World) (base : Nat) (u : Value) (xs : List (List Int × Int)) : Prop :=
  ∃ vs : List Value, vs.length = xs.length ∧ w.ownsRow base 30 2 u xs.length (setC vs xs) ∧ ∀ i, i < xs.length → ∃ v, vs[i]? = some v ∧ OwnInts w v (snth xs i).1
theorem SetsAt.nil (w : World) (base : Nat) : SetsAt w base (.slice none 0 0) [] := ⟨[], rfl, World.ownsRow_nil _ _ _ _, fun i hi => by simp at hi⟩
theorem SetsAt.below {w w' : World} {base : Nat} {u : Value} {xs : List (List Int × Int)} (h : SetsAt w base u xs) (hb : Below w.heap.size w w') : SetsAt w' base u xs := by
  obtain ⟨vs, h1, h2, h3⟩ := h
  exact ⟨vs, h1, own_below h2 hb, fun i hi => by obtain ⟨v, h4, h5⟩ := h3 i hi; exact ⟨v, h4, own_below h5 hb⟩⟩
theorem SetsAt.lower {w : World} {base base' : Nat} {u : Value} {xs : List (List Int × Int)} (h : SetsAt w base u xs) (hb : base' ≤ base) : SetsAt w base' u xs := by
  obtain ⟨vs, h1, h2, h3⟩ := h
  exact ⟨vs, h1, own_base h2 hb, h3⟩
theorem sets_one {xs : List (List Int × Int)} {ws : List Value} {w : World} (h1 : ws.length = xs.length) (h3 : ∀ i, i < xs.length → ∃ v, ws[i]? = some v ∧ OwnInts w v (snth xs i).1) : ∀ u ∈ setC ws xs, u.oneCell' = true := fun u hu => by
  rcases setC_mem hu with hu | ⟨s, _, rfl⟩
  · obtain ⟨i, hi, rfl⟩ := List.getElem_of_mem hu
    obtain ⟨v, h4, h5⟩ := h3 i (by omega)
    rw [List.getElem?_eq_getElem hi] at h4
    injection h4 with h4
    rw [h4]
    exact own_one h5
  · rfl
/-- Two rows of settings, one appended onto the other. -/
theorem SetsAt.append {w w' : World} {base : Nat} {u q : Value} {xs ys : List (List Int × Int)} {vs vs' : List Value} (h1 : vs.length = xs.length) (h2 : w.ownsRow base 30 2 u xs.length (setC vs xs))
    (h3 : ∀ i, i < xs.length → ∃ v, vs[i]? = some v ∧ OwnInts w v (snth xs i).1) (k1 : vs'.length = ys.length)
    (k3 : ∀ i, i < ys.length → ∃ v, vs'[i]? = some v ∧ OwnInts w v (snth ys i).1)
    (hg : w.grownBy w' u.ownBlock) (hq : w'.ownsRow base 30 2 q (xs.length + ys.length) (setC vs xs ++ setC vs' ys)) : SetsAt w' base q (xs ++ ys) := by
  refine ⟨vs ++ vs', by simp [h1, k1], by rw [List.length_append, setC_append h1]; exact hq, fun i hi => ?_⟩
  rw [List.length_append] at hi
  by_cases e : i < xs.length
  · obtain ⟨v, h4, h5⟩ := h3 i e
    have hx : snth (xs ++ ys) i = snth xs i := by simp [snth, List.getElem?_append_left e]
    exact ⟨v, by rw [List.getElem?_append_left (by omega)]; exact h4, by rw [hx]; exact own_kept_type h5 h2 (by decide) hg⟩
  · obtain ⟨v, h4, h5⟩ := k3 (i - xs.length) (by omega)
    have hx : snth (xs ++ ys) i = snth ys (i - xs.length) := by simp [snth, List.getElem?_append_right (Nat.le_of_not_lt e)]
    exact ⟨v, by rw [List.getElem?_append_right (by omega), h1]; exact h4, by rw [hx]; exact own_kept_type h5 h2 (by decide) hg⟩
/-- The i-th of a row of settings. -/
theorem SetsAt.get {w : World} {base : Nat} {u : Value} {xs : List (List Int × Int)} (h : SetsAt w base u xs) {i : Nat} (hi : i < xs.length) :
    ∃ g c v, u = .slice (some ⟨g, 0, none⟩) xs.length c ∧ base ≤ g ∧ g < w.heap.size ∧ w.cell? ⟨g, i * 2, none⟩ = some v ∧ w.cell? ⟨g, i * 2 + 1, none⟩ = some (.int .i64 (snth xs i).2) ∧ OwnInts w v (snth xs i).1 := by
  obtain ⟨vs, h1, h2, h3⟩ := h
  obtain ⟨v, h4, h5⟩ := h3 i hi
  obtain ⟨A, c, rfl, _⟩ := own_form h2
  have h2' := h2
  obtain ⟨e1, e2⟩ := setC_at (i := i) h1 hi
  rw [h4] at e1
  rw [← snth_lt hi] at e2
  rcases h2'.2 with ⟨_, h0⟩ | ⟨g, cap, cur, e, hbg, hh, _⟩
  · omega
  · injection e with e _ e3
    subst e
    have hc := h2.cells (g := g) rfl
    refine ⟨g, c, v, rfl, hbg, heap_lt hh, ?_, ?_, h5⟩
    · have := hc (2 * i) v e1
      rw [add_plain0] at this
      rw [← this, Nat.zero_add, Nat.mul_comm]
    · have := hc (2 * i + 1) _ e2
      rw [add_plain0] at this
      rw [← this, Nat.zero_add, Nat.mul_comm]

/-- All settings that begin with some arms. -/
def setsFrom (M : Mach) (first : List Int) : List (List Int × Int) := (armsL (M.levers.drop first.length)).flatMap (fun x => (rangeL M.lkLo M.lkHi).map (fun k => (first ++ x, k)))
theorem setsFrom_nil (M : Mach) : setsFrom M [] = setsM M := by simp [setsFrom, setsM]
theorem setsFrom_done {M : Mach} {first : List Int} (h : first.length = M.levers.length) : setsFrom M first = (rangeL M.lkLo M.lkHi).map (fun k => (first, k)) := by
  simp [setsFrom, h, armsL]
theorem setsFrom_next {M : Mach} {first : List Int} (h : first.length < M.levers.length) : setsFrom M first = (rangeL (lnth M.levers first.length).lo (lnth M.levers first.length).hi).flatMap (fun a => setsFrom M (first ++ [a])) := by
  have e : M.levers.drop first.length = lnth M.levers first.length :: M.levers.drop (first.length + 1) := by rw [lnth_lt h]; exact List.drop_eq_getElem_cons h
  simp only [setsFrom, e, armsL, List.flatMap_assoc, List.flatMap_map, List.length_append, List.length_cons, List.length_nil, List.append_assoc, List.cons_append, List.nil_append]
theorem range_snocS {lo n : Int} (h : lo ≤ n) : rangeL lo n = rangeL lo (n - 1) ++ [n] := by
  obtain ⟨k, hk⟩ : ∃ k : Nat, n - lo = k := ⟨(n - lo).toNat, by omega⟩
  have e1 : (n - lo + 1).toNat = k + 1 := by omega
  have e2 : (n - 1 - lo + 1).toNat = k := by omega
  simp only [rangeL, e1, e2, List.range_succ, List.map_append, List.map_cons, List.map_nil]
  congr 2
  omega
theorem setsFrom_len {M : Mach} (hV : ValidM M) : ∀ (m : Nat) (first : List Int), first.length + m = M.levers.length → (setsFrom M first).length ≤ 1000 ^ m * 21
  | 0, first, h => by
    have := hV.leak
    rw [setsFrom_done (by omega), List.length_map, range_len]
    omega
  | m + 1, first, h => by
    rw [setsFrom_next (by omega)]
    have hl := hV.lev (lnth M.levers first.length) (by rw [lnth_lt (by omega)]; exact List.getElem_mem _)
    refine Nat.le_trans (flat_le _ (1000 ^ m * 21) _ (fun a _ => setsFrom_len hV m (first ++ [a]) (by simp; omega))) ?_
    rw [range_len, Nat.pow_succ, Nat.mul_comm (1000 ^ m) 1000, Nat.mul_assoc]
    exact Nat.mul_le_mul_right _ (by omega)
/-- A machine in a variable. -/
structure MStat (w W : World) (k : Nat) (o : Obj) : Prop where
  b : Below w.heap.size w W
  lo : w.heap.size ≤ k
  blk : W.heap[k]? = some o
theorem MStat.next {w W W' : World} {k : Nat} {o : Obj} (h : MStat w W k o) (hb : Below W.heap.size W W') : MStat w W' k o := ⟨h.b.trans (hb.mono h.b.size), h.lo, (hb.block k (heap_lt h.blk)).trans h.blk⟩
theorem MStat.alloc {w W : World} {k : Nat} {o : Obj} (h : MStat w W k o) (o' : Obj) : MStat w (W.alloc o') k o := h.next ((Below.refl _ W).alloc (Nat.le_refl _) o')
theorem MStat.drewN {w W : World} {k : Nat} {o : Obj} (h : MStat w W k o) (n : Nat) : MStat w (W.drewN n) k o := h.next (drewN_below (Below.refl _ W) n)
theorem MStat.grown {w W W' : World} {k : Nat} {o : Obj} {row : Option Nat} (h : MStat w W k o) (hg : W.grownBy W' row) (hr : ∀ j, row = some j → w.heap.size ≤ j) (hn : row ≠ some k) : MStat w W' k o :=
  ⟨h.b.grown hg h.b.size hr, h.lo, (hg.block k (heap_lt h.blk) (Ne.symm hn)).trans h.blk⟩
end Go.Proofs.Ytomcjopcfdllgaa
