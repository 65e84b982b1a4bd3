/-
  Opening: what a caller hands in, read as a store and as a list of ints.
-/
import Derived.Test.YtgjikoebneiamaaTSaw
import Derived.ProofKit
import Derived.OpenShut
import Derived.Lib.SmallJoins
import Derived.Deep.Slices
namespace Go.Proofs.Ytgjikoebneiamaa.Tb
open Go.ChangeShapes Go.WideShapes Go.RowKit Go.Joins Go.Deep

section
variable {H : Type} {enc : TypeId × Value → H} {W : World}

set_option maxRecDepth 100000 in
theorem cell_lt {w : World} {p : Addr} {v : Value} (h : w.cell? p = some v) : p.block < w.heap.size := by
  refine Nat.lt_of_not_le fun hn => ?_
  have e : w.heap[p.block]? = none := Array.getElem?_eq_none hn
  simp [World.cell?, e] at h
set_option maxRecDepth 100000 in
theorem range_nth {α : Type} (V : Nat → α) (n : Nat) (d : α) {i : Nat} (h : i < n) : ((List.range n).map V).getD i d = V i := by
  simp [List.getD, h]
set_option maxRecDepth 100000 in
theorem i64_of {n : Int} (h : (Lit.int .i64 n).wf = true) : I64 n := Go.bounds_i64 h

set_option maxRecDepth 100000 in
theorem openInts {fuel : Nat} {cs : List Value} {x : DataW H × List MemPlace} (h : DataW.trod enc Try.prog W 0 (fun _ => true) true fuel 33 cs = some x) : ∃ v xs, cs = [v] ∧ IntsAt W.heap.size W v xs := by
  rcases open_ints Try.underlying33 Try.underlying3 (by kernel_rfl) h with ⟨rfl, _⟩ | ⟨a, len, cap, zs, rfl, _, hl, hm, hz, _, hcell, hwf⟩
  · exact ⟨_, [], rfl, ints_nil _ _⟩
  simp only [if_true] at hz
  have e : (zs.take len).length = len := by simp; omega
  have hw : ∀ x ∈ zs.take len, I64 x := fun x hx => i64_of (hwf x (List.mem_of_mem_take hx))
  refine ⟨_, zs.take len, rfl, ?_⟩
  by_cases h0 : len = 0
  · exact ⟨some a, cap, a.block, a.off, by rw [e], by rw [e]; exact hl, hm, fun h => by omega, fun i hi => by omega, hw⟩
  · obtain ⟨b, off, rfl, hc⟩ := ints_at hcell (by omega)
    have hb : b < W.heap.size := cell_lt (hc 0 (by omega))
    refine ⟨some ⟨b, off, none⟩, cap, b, off, by rw [e], by rw [e]; exact hl, hm, fun _ => ⟨rfl, hb⟩, fun i hi => ?_, hw⟩
    rw [e] at hi
    have hn : nth (zs.take len) i = zs.getD i 0 := by simp only [nth, List.getD_eq_getElem?_getD, List.getElem?_take_of_lt hi]
    rw [hn]
    exact hc i (by omega)

set_option maxRecDepth 100000 in
theorem spot_none {w : World} {a : Addr} {v : Value} (h : w.cell? (a.add (0 * 2)) = some v) : a = ⟨a.block, a.off, none⟩ := by
  obtain ⟨b, off, spot⟩ := a
  have hs : spot = none := by simpa [Addr.add] using World.cell?_spot h
  subst hs
  rfl

set_option maxRecDepth 100000 in
theorem openBars {fuel : Nat} {cs : List Value} {x : DataW H × List MemPlace} (h : DataW.trod enc Try.prog W 0 (fun _ => true) true fuel 66 cs = some x) : ∃ v bs, cs = [v] ∧ BarsAt W.heap.size W v bs := by
  rcases open_slice Try.underlying66 h with ⟨rfl, _⟩ | ⟨a, len, cap, m, n, D, Pl, rfl, _, hl, hm, hmm, _, hi⟩
  · exact ⟨_, [], rfl, none, 0, 0, 0, rfl, by simp, by unfold maxLen; omega, fun h => by simp at h, fun i hi => by simp at hi, fun x hx => by cases hx⟩
  simp only [if_true] at hmm
  rw [hmm] at hi
  clear hmm
  have hc2 : Try.prog.cellsOf 116 = 2 := by kernel_rfl
  have hc1 : Try.prog.cellsOf 3 = 1 := by kernel_rfl
  rw [hc2] at hi
  obtain ⟨V, hV⟩ := choose_lt (α := Bar) (n := cap) (p := fun i b => W.cell? (a.add (i * 2)) = some (.int .i64 b.heat) ∧ W.cell? (a.add (i * 2 + 1)) = some (.int .i64 b.long) ∧ I64 b.heat ∧ I64 b.long) (fun i hic => by
    obtain ⟨cs', hcs, ht⟩ := hi i hic
    obtain ⟨y0, y1, n', _, hlen, g0, g1⟩ := trod_struct2 Try.underlying116 ht
    obtain ⟨_, hcl, hat⟩ := World.cells?_some hcs
    match cs', hcl with
    | [u0, u1], _ =>
      have g0' : DataW.trod enc Try.prog W 0 (fun _ => true) true n' 3 [u0] = some y0 := by simpa [hc1] using g0
      have g1' : DataW.trod enc Try.prog W 0 (fun _ => true) true n' 3 [u1] = some y1 := by simpa [hc1] using g1
      obtain ⟨n0, e0, _, w0⟩ := DataW.trod_int Try.underlying3 g0'
      obtain ⟨n1, e1, _, w1⟩ := DataW.trod_int Try.underlying3 g1'
      simp only [List.cons.injEq, and_true] at e0 e1
      subst e0 e1
      have k0 := hat 0 (by omega)
      have k1 := hat 1 (by omega)
      rw [Go.Deep.add_add] at k0 k1
      exact ⟨⟨n0, n1⟩, by simpa using k0, by simpa using k1, i64_of w0, i64_of w1⟩)
  have e : ((List.range len).map V).length = len := by simp
  refine ⟨_, (List.range len).map V, rfl, ?_⟩
  have hw : ∀ b ∈ (List.range len).map V, I64 b.heat ∧ I64 b.long := fun b hb => by
    obtain ⟨i, hi, rfl⟩ := List.mem_map.1 hb
    exact (hV i (by have := List.mem_range.1 hi; omega)).2.2
  by_cases h0 : len = 0
  · exact ⟨some a, cap, a.block, a.off, by rw [e], by rw [e]; exact hl, hm, fun h => by omega, fun i hi => by omega, hw⟩
  · have hsp := spot_none (hV 0 (by omega)).1
    have hb : a.block < W.heap.size := by have := cell_lt (hV 0 (by omega)).1; simpa [Addr.add] using this
    refine ⟨some a, cap, a.block, a.off, by rw [e], by rw [e]; exact hl, hm, fun _ => ⟨by rw [← hsp], hb⟩, fun i hi => ?_, hw⟩
    rw [e] at hi
    have hv := hV i (by omega)
    have hn : bnth ((List.range len).map V) i = V i := range_nth V len _ hi
    rw [hn]
    rw [hsp] at hv
    simp only [Go.WideShapes.add_plain, ← Nat.add_assoc] at hv
    exact ⟨hv.1, hv.2.1⟩

set_option maxRecDepth 100000 in
theorem openPieces {fuel : Nat} {cs : List Value} {x : DataW H × List MemPlace} (h : DataW.trod enc Try.prog W 0 (fun _ => true) true fuel 67 cs = some x) : ∃ v ps, cs = [v] ∧ PiecesAt W.heap.size W v ps := by
  rcases open_slice Try.underlying67 h with ⟨rfl, _⟩ | ⟨a, len, cap, m, n, D, Pl, rfl, _, hl, hm, hmm, _, hi⟩
  · exact ⟨_, [], rfl, none, 0, 0, 0, rfl, by simp, by unfold maxLen; omega, fun h => by simp at h, fun i hi => by simp at hi, fun x hx => by cases hx⟩
  simp only [if_true] at hmm
  rw [hmm] at hi
  clear hmm
  have hc2 : Try.prog.cellsOf 114 = 2 := by kernel_rfl
  have hc1 : Try.prog.cellsOf 3 = 1 := by kernel_rfl
  have hc3 : Try.prog.cellsOf 33 = 1 := by kernel_rfl
  rw [hc2] at hi
  obtain ⟨V, hV⟩ := choose_lt (α := Piece) (n := cap) (p := fun i b => W.cell? (a.add (i * 2)) = some (.int .i64 b.long) ∧ (∃ hv, W.cell? (a.add (i * 2 + 1)) = some hv ∧ IntsAt W.heap.size W hv b.heats) ∧ I64 b.long) (fun i hic => by
    obtain ⟨cs', hcs, ht⟩ := hi i hic
    obtain ⟨y0, y1, n', _, hlen, g0, g1⟩ := trod_struct2 Try.underlying114 ht
    obtain ⟨_, hcl, hat⟩ := World.cells?_some hcs
    match cs', hcl with
    | [u0, u1], _ =>
      have g0' : DataW.trod enc Try.prog W 0 (fun _ => true) true n' 3 [u0] = some y0 := by simpa [hc1] using g0
      have g1' : DataW.trod enc Try.prog W 0 (fun _ => true) true n' 33 [u1] = some y1 := by simpa [hc3] using g1
      obtain ⟨n0, e0, _, w0⟩ := DataW.trod_int Try.underlying3 g0'
      obtain ⟨hv, hs, e1, h1⟩ := openInts g1'
      simp only [List.cons.injEq, and_true] at e0 e1
      subst e0 e1
      have k0 := hat 0 (by omega)
      have k1 := hat 1 (by omega)
      rw [Go.Deep.add_add] at k0 k1
      exact ⟨⟨n0, hs⟩, by simpa using k0, ⟨_, by simpa using k1, h1⟩, i64_of w0⟩)
  have e : ((List.range len).map V).length = len := by simp
  refine ⟨_, (List.range len).map V, rfl, ?_⟩
  have hw : ∀ b ∈ (List.range len).map V, I64 b.long := fun b hb => by
    obtain ⟨i, hi, rfl⟩ := List.mem_map.1 hb
    exact (hV i (by have := List.mem_range.1 hi; omega)).2.2
  by_cases h0 : len = 0
  · exact ⟨some a, cap, a.block, a.off, by rw [e], by rw [e]; exact hl, hm, fun h => by omega, fun i hi => by omega, hw⟩
  · have hsp := spot_none (hV 0 (by omega)).1
    have hb : a.block < W.heap.size := by have := cell_lt (hV 0 (by omega)).1; simpa [Addr.add] using this
    refine ⟨some a, cap, a.block, a.off, by rw [e], by rw [e]; exact hl, hm, fun _ => ⟨by rw [← hsp], hb⟩, fun i hi => ?_, hw⟩
    rw [e] at hi
    have hv := hV i (by omega)
    have hn : pnth ((List.range len).map V) i = V i := range_nth V len _ hi
    rw [hn]
    rw [hsp] at hv
    simp only [Go.WideShapes.add_plain, ← Nat.add_assoc] at hv
    exact ⟨hv.1, hv.2.1⟩

set_option maxRecDepth 100000 in
theorem openStore {r : Reach} {b0 : Nat} {v : Value} {d : DataW H} {p : List MemPlace} (hv : Value.okWide Try.prog W r b0 69 v) (h : DataW.Trod enc Try.prog W 0 (fun _ => true) true 69 v d p) :
    ∃ S, StoreAt W.heap.size W v S := by
  obtain ⟨v0, v1, v2, v3, y0, y1, y2, y3, n, rfl, _, _, g0, g1, g2, g3⟩ := open_agg4 Try.underlying69 (by kernel_rfl) (by kernel_rfl) hv h
  obtain ⟨bv, bs, e0, h0⟩ := openBars g0
  obtain ⟨k, e1, _, w1⟩ := DataW.trod_int Try.underlying3 g1
  obtain ⟨pv, ps, e2, h2⟩ := openPieces g2
  obtain ⟨wr, e3, _, w3⟩ := DataW.trod_int Try.underlying3 g3
  simp only [List.cons.injEq, and_true] at e0 e1 e2 e3
  subst e0 e1 e2 e3
  exact ⟨⟨bs, k, ps, wr⟩, v0, v2, rfl, h0, h2, i64_of w1, i64_of w3⟩
set_option maxRecDepth 100000 in
theorem openList {v : Value} {d : DataW H} {p : List MemPlace} {r : Reach} {b0 : Nat} (hv : Value.okWide Try.prog W r b0 33 v) (h : DataW.Trod enc Try.prog W 0 (fun _ => true) true 33 v d p) :
    ∃ L, IntsAt W.heap.size W v L := by
  obtain ⟨a0, len, cap, rfl⟩ := okWide_slice Try.underlying33 hv
  obtain ⟨fuel, hf⟩ := h
  obtain ⟨u, xs, e, hx⟩ := openInts hf
  simp only [Value.cells, List.cons.injEq, and_true] at e
  subst e
  exact ⟨xs, hx⟩
end
end Go.Proofs.Ytgjikoebneiamaa.Tb