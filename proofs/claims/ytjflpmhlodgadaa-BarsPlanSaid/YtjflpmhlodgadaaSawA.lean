/-
  The iterator 'saw': all sawings that begin with some bars, one after the other, in one block of memory.
-/
import Derived.Test.YtjflpmhlodgadaaW2
import Derived.Test.YtjflpmhlodgadaaIter
import Derived.Laws.IdiomCopy
namespace Go.Proofs.Ytjflpmhlodgadaa
open Go.RowKit Go.Shelf

attribute [local go_sem] Oper.semAt_some

def flatTo {α : Type} (f : Nat → List α) : Nat → List α
  | 0 => []
  | k + 1 => flatTo f k ++ f k
theorem flatTo_prefix {α : Type} (f : Nat → List α) : ∀ {k n : Nat}, k ≤ n → flatTo f k <+: flatTo f n
  | k, 0, h => by obtain rfl : k = 0 := by omega
                  exact List.prefix_refl _
  | k, n + 1, h => by
    by_cases e : k = n + 1
    · subst e; exact List.prefix_refl _
    · exact (flatTo_prefix f (by omega)).trans (List.prefix_append _ _)

theorem mem_flatTo {α : Type} {f : Nat → List α} {x : α} : ∀ {n : Nat}, x ∈ flatTo f n ↔ ∃ k, k < n ∧ x ∈ f k
  | 0 => by simp [flatTo]
  | n + 1 => by
    simp only [flatTo, List.mem_append, mem_flatTo]
    constructor
    · rintro (⟨k, hk, h⟩ | h)
      · exact ⟨k, by omega, h⟩
      · exact ⟨n, by omega, h⟩
    · rintro ⟨k, hk, h⟩
      by_cases e : k = n
      · subst e; exact .inr h
      · exact .inl ⟨k, by omega, h⟩

/-- All sawings that fit, that begin with first, and in which at most so many of the further marks are wrong; in the order of the search. -/
def sawL (S : Store) : Nat → Int → List Int → List (List Int)
  | 0, _, first => [first]
  | m + 1, wrong, first => flatTo (fun b =>
      if wrong - (if wrongAt S first.length b = true then 1 else 0) < 0 ∨ restS S (first ++ [(b : Int)]) b < 0 then []
      else sawL S m (wrong - (if wrongAt S first.length b = true then 1 else 0)) (first ++ [(b : Int)])) S.bars.length

/-- What the search yields for one bar of the next piece. -/
def sawAt (S : Store) (m : Nat) (wrong : Int) (first : List Int) (b : Nat) : List (List Int) :=
  if wrong - (if wrongAt S first.length b = true then 1 else 0) < 0 ∨ restS S (first ++ [(b : Int)]) b < 0 then []
  else sawL S m (wrong - (if wrongAt S first.length b = true then 1 else 0)) (first ++ [(b : Int)])
theorem sawL_succ (S : Store) (m : Nat) (wrong : Int) (first : List Int) : sawL S (m + 1) wrong first = flatTo (sawAt S m wrong first) S.bars.length := rfl

/-- Block Bk is the search's memory, and holds the bars first. -/
def Buf (Bk : Nat) (first : List Int) (W : World) : Prop :=
  ∃ arr : Array Value, W.heap[Bk]? = some (.cells arr 3) ∧ arr.size = 8 ∧ ∀ i, i < first.length → arr[i]? = some (.int .i64 (nth first i))
theorem Buf.lt {Bk : Nat} {first : List Int} {W : World} (h : Buf Bk first W) : Bk < W.heap.size := by
  obtain ⟨arr, h, _⟩ := h
  exact (Array.getElem?_eq_some_iff.1 h).1
theorem Buf.kept {Bk : Nat} {first : List Int} {W W' : World} (h : Buf Bk first W) (hk : W'.heap[Bk]? = W.heap[Bk]?) : Buf Bk first W' := by
  obtain ⟨arr, h1, h2⟩ := h
  exact ⟨arr, hk.trans h1, h2⟩
theorem Buf.cell {Bk : Nat} {first : List Int} {W : World} (h : Buf Bk first W) {i : Nat} (hi : i < first.length) : W.cell? ⟨Bk, i, none⟩ = some (.int .i64 (nth first i)) := by
  obtain ⟨arr, h1, h2, h3⟩ := h
  simp [World.cell?, h1, h3 i hi]
theorem Buf.some {Bk : Nat} {first : List Int} {W : World} (h : Buf Bk first W) {i : Nat} (hi : i < 8) : (W.cell? ⟨Bk, i, none⟩).isSome = true := by
  obtain ⟨arr, h1, h2, h3⟩ := h
  simp [World.cell?, h1, h2, hi]
theorem Buf.frozen {Bk : Nat} {first : List Int} {W : World} (h : Buf Bk first W) (i : Nat) : W.frozen? ⟨Bk, i, none⟩ = false := by
  obtain ⟨arr, h1, h2, h3⟩ := h
  simp [World.frozen?, h1]
theorem nth_snoc_lt {xs : List Int} {x : Int} {i : Nat} (h : i < xs.length) : nth (xs ++ [x]) i = nth xs i := by
  simp [nth, List.getElem?_append_left h]
theorem nth_snoc {xs : List Int} {x : Int} : nth (xs ++ [x]) xs.length = x := by simp [nth]
theorem Buf.put {Bk : Nat} {first : List Int} {W : World} (h : Buf Bk first W) (x : Int) (hl : first.length < 8) : Buf Bk (first ++ [x]) (W.setCell ⟨Bk, first.length, none⟩ (.int .i64 x)) := by
  obtain ⟨arr, h1, h2, h3⟩ := h
  refine ⟨arr.set first.length (.int .i64 x) (by omega), ?_, by simp [h2], fun i hi => ?_⟩
  · obtain ⟨hlt, hk⟩ := Array.getElem?_eq_some_iff.1 h1
    show (W.heap.modify Bk _)[Bk]? = _
    rw [Array.getElem?_eq_getElem (by rw [Array.size_modify]; exact hlt), Array.getElem_modify_self, hk]
    simp [Array.setIfInBounds, h2, hl]
  · simp only [List.length_append, List.length_cons, List.length_nil] at hi
    by_cases e : i = first.length
    · subst e
      rw [nth_snoc]
      simp
    · rw [nth_snoc_lt (by omega), Array.getElem?_set_ne (h := by omega) (by omega)]
      exact h3 i (by omega)
theorem Buf.drop {Bk : Nat} {first : List Int} {x : Int} {W : World} (h : Buf Bk (first ++ [x]) W) : Buf Bk first W := by
  obtain ⟨arr, h1, h2, h3⟩ := h
  exact ⟨arr, h1, h2, fun i hi => by have := h3 i (by simp; omega); rwa [nth_snoc_lt hi] at this⟩
theorem Buf.ints {Bk : Nat} {first : List Int} {W : World} (h : Buf Bk first W) {B cap : Nat} (hB : Bk < B) (hc : first.length ≤ cap) (hm : cap ≤ 8) (hw : ∀ x ∈ first, I64 x) :
    IntsAt B W (.slice (Option.some ⟨Bk, 0, none⟩) first.length cap) first :=
  ⟨_, cap, Bk, 0, rfl, hc, by unfold maxLen; omega, fun _ => ⟨rfl, hB⟩, fun i hi => by rw [Nat.zero_add]; exact h.cell hi, hw⟩

/-- Go's append of one number where there is room. -/
theorem wpListIn_append_room {F : Fence} {n : Nat} {P : Program} (w : World) {ops : Array Oper} {rest : List Oper} {o : Oper} {a : Act} {Q : Exit → Act → World → Prop}
    (hg : o.guard = none) (s x : Operand) (t : TypeId) (hop : o.op = Op.call { callee := Callee.builtin Builtin.append, args := #[s, x], argTypes := #[t, t] })
    (e : TypeId) (i : TypeInfo) (h1 : P.underlying t = some (.slice e)) (h2 : P.info? e = some i) (h4 : i.size = 1)
    (b k cap : Nat) (hs : a.eval s = .slice (some ⟨b, 0, none⟩) k cap) (ad : Addr) (c : Nat) (u : Value) (hx : a.eval x = .slice (some ad) 1 c)
    (hc : w.cell? ad = some u) (h1c : u.oneCell' = true) (hroom : k + 1 ≤ cap) (hsome : (w.cell? ⟨b, k, none⟩).isSome = true) (hfr : w.frozen? ⟨b, k, none⟩ = false)
    (hK : wpListIn F n P ops Q rest (a.put o.dst (.slice (some ⟨b, 0, none⟩) (k + 1) cap)) (w.setCell ⟨b, k, none⟩ u)) :
    wpListIn F n P ops Q (o :: rest) a w := by
  refine wpListIn_plain hg fun K hK' => ?_
  have hrun := run_append_room_cells (P := P) w t o.type e i h1 h2 b 0 k cap ad 1 c [u] (by simp [h4])
    (fun j v hj => by
      cases j with
      | zero => simp only [List.getElem?_cons_zero, Option.some.injEq] at hj; subst hj; have : ad.add 0 = ad := rfl; rw [this]; exact hc
      | succ j => simp at hj)
    (by simpa using h1c) hroom (by rw [h4]; simpa using hsome) (by rw [h4]; simpa using hfr)
  rw [h4] at hrun
  simp only [Nat.mul_one, Nat.zero_add, World.setCells] at hrun
  unfold Oper.wpIn
  refine ⟨?_, ?_⟩
  · simp [Oper.about, hop, resolve, Target.leads, Sem.run_pure]
  · rw [Oper.semAt_plain F _ _ (by rw [hop]; intro c hc'; cases hc')]
    simp [execOp, hop, resolve, invoke, builtin, hs, hx, hrun, Result.andThen]
    exact hK' _ _ hK
end Go.Proofs.Ytjflpmhlodgadaa
