/-
  Opening: a chain whose slices are no larger than memory can hold.
-/
import Derived.Test.YtdkiccndoanlpaaLOwn
import Derived.SizedLaws
namespace Go.Proofs.Ytdkiccndoanlpaa
open Go.ChangeShapes Go.WideShapes Go.RowKit Go.Joins Go.Deep

section
variable {H : Type} {enc : TypeId × Value → H} {W : World}

set_option maxRecDepth 100000 in
theorem slice_sized {t e : TypeId} {fuel n c k : Nat} {a : Option Addr} {x : DataW H × List MemPlace} (hu : Try.prog.underlying t = some (.slice e)) (hb : Try.prog.bytesOf e = k) (h : DataW.trod enc Try.prog W 0 (fun _ => true) true fuel t [.slice a n c] = some x)
    (hz : ∀ z ∈ x.1.weights Try.prog t, z ≤ reachBytes) : n * k ≤ reachBytes := by
  rcases open_slice hu h with ⟨e1, rfl⟩ | ⟨a', len, cap, m, n', D, Pl, e1, _, hl, hm, _, rfl, _⟩
  · simp only [List.cons.injEq, Value.slice.injEq, and_true] at e1
    rw [e1.2.1, Nat.zero_mul]
    exact Nat.zero_le _
  · simp only [List.cons.injEq, Value.slice.injEq, and_true] at e1
    obtain ⟨_, rfl, _⟩ := e1
    have := hz ((((List.range n).map D).length + ((List.range (m - n)).map fun j => D (n + j)).length) * Try.prog.bytesOf e) (by simp [DataW.weights, hu])
    simp only [List.length_map, List.length_range, hb] at this
    exact Nat.le_trans (Nat.mul_le_mul_right _ (by omega)) this
set_option maxRecDepth 100000 in
theorem openChainS {r : Reach} {b0 : Nat} {v : Value} {d : DataW H} {p : List MemPlace} (hv : Value.okWide Try.prog W r b0 25 v) (h : DataW.Trod enc Try.prog W 0 (fun _ => true) true 25 v d p)
    (hz : ∀ z ∈ d.weights Try.prog 25, z ≤ reachBytes) :
    ∃ C, ChainAt W.heap.size W v C ∧ C.deeds.length ≤ 3518437208780 ∧ C.sights.length ≤ 3518437208780 := by
  obtain ⟨v0, v1, v2, y0, y1, y2, n, rfl, rfl, _, g0, g1, g2⟩ := open_agg3 Try.underlying25 (by kernel_rfl) (by kernel_rfl) hv h
  have hw : ∀ z, z ∈ y0.1.weights Try.prog 22 ∨ z ∈ y1.1.weights Try.prog 23 → z ≤ reachBytes := fun z h => hz z (by
    simp only [DataW.weights, Try.underlying25, DataW.weightsEach, List.map_cons, List.map_nil, List.mem_append]
    rcases h with h | h
    · exact .inl h
    · exact .inr (.inl h))
  have hb1 : Try.prog.bytesOf 55 = 40 := by kernel_rfl
  have hb2 : Try.prog.bytesOf 60 = 40 := by kernel_rfl
  obtain ⟨dv, ds, e0, h0⟩ := openDeeds g0
  obtain ⟨sv, ss, e1, h1⟩ := openSights g1
  obtain ⟨wr, e2, _, w2⟩ := DataW.trod_int Try.underlying3 g2
  simp only [List.cons.injEq, and_true] at e0 e1 e2
  subst e0 e1 e2
  refine ⟨⟨ds, ss, wr⟩, ⟨v0, v1, rfl, h0, h1, i64_of w2⟩, ?_, ?_⟩
  · obtain ⟨a, cap, b, off, rfl, _⟩ := h0
    have := slice_sized Try.underlying22 hb1 g0 (fun z hz => hw z (.inl hz))
    show ds.length ≤ _
    unfold reachBytes at this
    omega
  · obtain ⟨a, cap, b, off, rfl, _⟩ := h1
    have := slice_sized Try.underlying23 hb2 g1 (fun z hz => hw z (.inr hz))
    show ss.length ≤ _
    unfold reachBytes at this
    omega
end
end Go.Proofs.Ytdkiccndoanlpaa
