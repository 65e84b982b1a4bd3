/-
  Levers: what a store into a cell does to its block and to the others.
-/
import Derived.Test.YtomcjopcfdllgaaVIter
import Derived.Test.YtomcjopcfdllgaaVMem

namespace Go.Proofs.Ytomcjopcfdllgaa
open Go.RowKit

theorem heap_setCell_same {W : World} {b o : Nat} {v : Value} {arr : Array Value} {t : TypeId} (h : W.heap[b]? = some (.cells arr t)) :
    (W.setCell ⟨b, o, none⟩ v).heap[b]? = some (.cells (arr.setIfInBounds o v) t) := by
  obtain ⟨hlt, hk⟩ := Array.getElem?_eq_some_iff.1 h
  show (W.heap.modify b _)[b]? = _
  rw [Array.getElem?_eq_getElem (by rw [Array.size_modify]; exact hlt), Array.getElem_modify_self, hk]
  rfl
theorem heap_setCell_other {W : World} {b o k : Nat} {v : Value} (h : b ≠ k) : (W.setCell ⟨b, o, none⟩ v).heap[k]? = W.heap[k]? := Below.heap_setCell _ _ _ _ (Ne.symm h)
theorem size_setCell (W : World) (a : Addr) (v : Value) : (W.setCell a v).heap.size = W.heap.size := by simp [World.setCell]
theorem heap_lt {W : World} {b : Nat} {o : Obj} (h : W.heap[b]? = some o) : b < W.heap.size := (Array.getElem?_eq_some_iff.1 h).1
theorem below_setCell {B : Nat} {a W : World} (h : Below B a W) {b o : Nat} {v : Value} (hb : B ≤ b) : Below B a (W.setCell ⟨b, o, none⟩ v) :=
  ⟨h.os, h.tape, h.output, by rw [size_setCell]; exact h.size, fun k hk => (heap_setCell_other (by omega)).trans (h.block k hk)⟩
theorem cell_of {W : World} {b : Nat} {arr : Array Value} {t : TypeId} (h : W.heap[b]? = some (.cells arr t)) (i : Nat) : W.cell? ⟨b, i, none⟩ = arr[i]? := by
  simp [World.cell?, h]
theorem frozen_of {W : World} {b : Nat} {arr : Array Value} {t : TypeId} (h : W.heap[b]? = some (.cells arr t)) (i : Nat) : W.frozen? ⟨b, i, none⟩ = false := by
  simp [World.frozen?, h]

end Go.Proofs.Ytomcjopcfdllgaa
