/-
  Opening: what a caller hands in, read as a chain, as numbers, as small structs.
-/
import Derived.Test.YtgjikoebneiamaaLMem
import Derived.ProofKit
import Derived.OpenShut
import Derived.Lib.SmallJoins
import Derived.Deep.Slices
namespace Go.Proofs.Ytgjikoebneiamaa
open Go.ChangeShapes Go.WideShapes Go.RowKit Go.Joins Go.Deep

theorem Try.own : ownKnob Try.prog.godebug = none := by kernel_rfl
theorem Try.laidOut : laidOutB Try.prog = true := by kernel_rfl

section
variable {H : Type} {enc : TypeId × Value → H} {W : World}

theorem cell_lt {w : World} {p : Addr} {v : Value} (h : w.cell? p = some v) : p.block < w.heap.size := by
  refine Nat.lt_of_not_le fun hn => ?_
  have e : w.heap[p.block]? = none := Array.getElem?_eq_none hn
  simp [World.cell?, e] at h
theorem range_nth {α : Type} (V : Nat → α) (n : Nat) (d : α) {i : Nat} (h : i < n) : ((List.range n).map V).getD i d = V i := by
  simp [List.getD, h]
theorem i64_of {n : Int} (h : (Lit.int .i64 n).wf = true) : I64 n := Go.bounds_i64 h
theorem ints_nil (B : Nat) (w : World) : IntsAt B w (.slice none 0 0) [] := ⟨none, 0, 0, 0, rfl, Nat.le_refl _, by unfold maxLen; omega, fun h => by simp at h, fun i hi => by simp at hi, by simp⟩
set_option maxRecDepth 100000 in
theorem openInts {fuel : Nat} {cs : List Value} {x : DataW H × List MemPlace} (h : DataW.trod enc Try.prog W 0 (fun _ => true) true fuel 33 cs = some x) : ∃ v xs, cs = [v] ∧ IntsAt W.heap.size W v xs := by
  rcases open_ints Try.underlying33 Try.underlying3 (by kernel_rfl) h with ⟨rfl, _⟩ | ⟨a, len, cap, zs, rfl, _, hl, hm, hz, _, hcell, hwf⟩
  · exact ⟨_, [], rfl, ints_nil _ _⟩
  simp only [if_true] at hz
  have e : (zs.take len).length = len := by simp; omega
  have hw : ∀ x ∈ zs.take len, I64 x := fun x hx => i64_of (hwf x (List.mem_of_mem_take hx))
  refine ⟨_, zs.take len, rfl, ?_⟩
  by_cases h0 : len = 0
  · exact ⟨some a, cap, a.block, a.off, by rw [e], by rw [e]; exact hl, hm, fun h => by omega, fun i hi => by omega, hw⟩
  · obtain ⟨b, off, rfl, hc⟩ := ints_at hcell (by omega)
    have hb : b < W.heap.size := cell_lt (hc 0 (by omega))
    refine ⟨some ⟨b, off, none⟩, cap, b, off, by rw [e], by rw [e]; exact hl, hm, fun _ => ⟨rfl, hb⟩, fun i hi => ?_, hw⟩
    rw [e] at hi
    have hn : nth (zs.take len) i = zs.getD i 0 := by simp only [nth, List.getD_eq_getElem?_getD, List.getElem?_take_of_lt hi]
    rw [hn]
    exact hc i (by omega)
set_option maxRecDepth 100000 in
theorem openList {v : Value} {d : DataW H} {p : List MemPlace} {r : Reach} {b0 : Nat} (hv : Value.okWide Try.prog W r b0 33 v) (h : DataW.Trod enc Try.prog W 0 (fun _ => true) true 33 v d p) :
    ∃ L, IntsAt W.heap.size W v L := by
  obtain ⟨a0, len, cap, rfl⟩ := okWide_slice Try.underlying33 hv
  obtain ⟨fuel, hf⟩ := h
  obtain ⟨u, xs, e, hx⟩ := openInts hf
  simp only [Value.cells, List.cons.injEq, and_true] at e
  subst e
  exact ⟨xs, hx⟩
theorem spot_none5 {w : World} {a : Addr} {v : Value} (h : w.cell? (a.add (0 * 5)) = some v) : a = ⟨a.block, a.off, none⟩ := by
  obtain ⟨b, off, spot⟩ := a
  have hs : spot = none := by simpa [Addr.add] using World.cell?_spot h
  subst hs
  rfl
/-- Five numbers side by side. -/
def Nums5 (W : World) (a : Addr) (i : Nat) (n0 n1 n2 n3 n4 : Int) : Prop :=
  (W.cell? (a.add (i * 5)) = some (.int .i64 n0) ∧ W.cell? (a.add (i * 5 + 1)) = some (.int .i64 n1) ∧ W.cell? (a.add (i * 5 + 2)) = some (.int .i64 n2) ∧ W.cell? (a.add (i * 5 + 3)) = some (.int .i64 n3) ∧ W.cell? (a.add (i * 5 + 4)) = some (.int .i64 n4)) ∧
  I64 n0 ∧ I64 n1 ∧ I64 n2 ∧ I64 n3 ∧ I64 n4
theorem Nums5.five {W : World} {b off i : Nat} {n0 n1 n2 n3 n4 : Int} (h : Nums5 W ⟨b, off, none⟩ i n0 n1 n2 n3 n4) : Five W b (off + i * 5) n0 n1 n2 n3 n4 := by
  have h := h.1
  simp only [Go.WideShapes.add_plain, ← Nat.add_assoc] at h
  exact h

set_option maxRecDepth 100000 in
theorem openDeeds {fuel : Nat} {cs : List Value} {x : DataW H × List MemPlace} (h : DataW.trod enc Try.prog W 0 (fun _ => true) true fuel 22 cs = some x) : ∃ v ds, cs = [v] ∧ DeedsTo W.heap.size W v ds ds.length := by
  rcases open_slice Try.underlying22 h with ⟨rfl, _⟩ | ⟨a, len, cap, m, n, D, Pl, rfl, _, hl, hm, hmm, _, hi⟩
  · exact ⟨_, [], rfl, none, 0, 0, 0, rfl, by simp, by unfold maxLen; omega, fun h => by simp at h, fun i hi => by simp at hi, fun i hi => by simp at hi⟩
  simp only [if_true] at hmm
  rw [hmm] at hi
  clear hmm
  have hc5 : Try.prog.cellsOf 55 = 5 := by kernel_rfl
  have hc1 : Try.prog.cellsOf 3 = 1 := by kernel_rfl
  rw [hc5] at hi
  obtain ⟨V, hV⟩ := choose_lt (α := Deed) (n := cap) (p := fun i d => Nums5 W a i d.what d.at_ d.from_ d.bar d.smith) (fun i hic => by
    obtain ⟨cs', hcs, ht⟩ := hi i hic
    obtain ⟨xs, n', _, _, _, hlen, hg⟩ := DataW.trod_struct Try.underlying55 ht
    obtain ⟨_, hcl, hat⟩ := World.cells?_some hcs
    match cs', hcl with
    | [u0, u1, u2, u3, u4], _ =>
      match xs, hlen with
      | [x0, x1, x2, x3, x4], _ =>
        have g0 : DataW.trod enc Try.prog W 0 (fun _ => true) true n' 3 [u0] = some x0 := by simpa [hc1] using hg 0 _ rfl
        have g1 : DataW.trod enc Try.prog W 0 (fun _ => true) true n' 3 [u1] = some x1 := by simpa [hc1] using hg 1 _ rfl
        have g2 : DataW.trod enc Try.prog W 0 (fun _ => true) true n' 3 [u2] = some x2 := by simpa [hc1] using hg 2 _ rfl
        have g3 : DataW.trod enc Try.prog W 0 (fun _ => true) true n' 3 [u3] = some x3 := by simpa [hc1] using hg 3 _ rfl
        have g4 : DataW.trod enc Try.prog W 0 (fun _ => true) true n' 3 [u4] = some x4 := by simpa [hc1] using hg 4 _ rfl
        obtain ⟨k0, e0, _, w0⟩ := DataW.trod_int Try.underlying3 g0
        obtain ⟨k1, e1, _, w1⟩ := DataW.trod_int Try.underlying3 g1
        obtain ⟨k2, e2, _, w2⟩ := DataW.trod_int Try.underlying3 g2
        obtain ⟨k3, e3, _, w3⟩ := DataW.trod_int Try.underlying3 g3
        obtain ⟨k4, e4, _, w4⟩ := DataW.trod_int Try.underlying3 g4
        simp only [List.cons.injEq, and_true] at e0 e1 e2 e3 e4
        subst e0 e1 e2 e3 e4
        have q0 := hat 0 (by omega)
        have q1 := hat 1 (by omega)
        have q2 := hat 2 (by omega)
        have q3 := hat 3 (by omega)
        have q4 := hat 4 (by omega)
        rw [Go.Deep.add_add] at q0 q1 q2 q3 q4
        exact ⟨⟨k0, k1, k2, k3, k4⟩, ⟨by simpa using q0, by simpa using q1, by simpa using q2, by simpa using q3, by simpa using q4⟩, i64_of w0, i64_of w1, i64_of w2, i64_of w3, i64_of w4⟩)
  have e : ((List.range len).map V).length = len := by simp
  have hn : ∀ i, i < len → dnth ((List.range len).map V) i = V i := fun i hi => range_nth V len _ hi
  refine ⟨_, (List.range len).map V, rfl, ?_⟩
  by_cases h0 : len = 0
  · exact ⟨some a, cap, a.block, a.off, by rw [e], by rw [e]; exact hl, hm, fun h => by omega, fun i hi => by omega, fun i hi => by omega⟩
  · have hsp := spot_none5 (hV 0 (by omega)).1.1
    have hb : a.block < W.heap.size := by have := cell_lt (hV 0 (by omega)).1.1; simpa [Addr.add] using this
    refine ⟨some a, cap, a.block, a.off, by rw [e], by rw [e]; exact hl, hm, fun _ => ⟨by rw [← hsp], hb⟩, fun i hi => ?_, fun i hi => ?_⟩
    · rw [e] at hi
      have hv := hV i (by omega)
      rw [hn i hi]
      rw [hsp] at hv
      exact hv.five
    · rw [e] at hi
      rw [hn i hi]
      exact (hV i (by omega)).2
set_option maxRecDepth 100000 in
theorem openSights {fuel : Nat} {cs : List Value} {x : DataW H × List MemPlace} (h : DataW.trod enc Try.prog W 0 (fun _ => true) true fuel 23 cs = some x) : ∃ v ss, cs = [v] ∧ SightsAt W.heap.size W v ss := by
  rcases open_slice Try.underlying23 h with ⟨rfl, _⟩ | ⟨a, len, cap, m, n, D, Pl, rfl, _, hl, hm, hmm, _, hi⟩
  · exact ⟨_, [], rfl, none, 0, 0, 0, rfl, by simp, by unfold maxLen; omega, fun h => by simp at h, fun i hi => by simp at hi, fun i hi => by simp at hi⟩
  simp only [if_true] at hmm
  rw [hmm] at hi
  clear hmm
  have hc5 : Try.prog.cellsOf 60 = 5 := by kernel_rfl
  have hc1 : Try.prog.cellsOf 3 = 1 := by kernel_rfl
  rw [hc5] at hi
  obtain ⟨V, hV⟩ := choose_lt (α := Sight) (n := cap) (p := fun i d => Nums5 W a i d.after d.at_ d.from_ d.bar d.smith) (fun i hic => by
    obtain ⟨cs', hcs, ht⟩ := hi i hic
    obtain ⟨xs, n', _, _, _, hlen, hg⟩ := DataW.trod_struct Try.underlying60 ht
    obtain ⟨_, hcl, hat⟩ := World.cells?_some hcs
    match cs', hcl with
    | [u0, u1, u2, u3, u4], _ =>
      match xs, hlen with
      | [x0, x1, x2, x3, x4], _ =>
        have g0 : DataW.trod enc Try.prog W 0 (fun _ => true) true n' 3 [u0] = some x0 := by simpa [hc1] using hg 0 _ rfl
        have g1 : DataW.trod enc Try.prog W 0 (fun _ => true) true n' 3 [u1] = some x1 := by simpa [hc1] using hg 1 _ rfl
        have g2 : DataW.trod enc Try.prog W 0 (fun _ => true) true n' 3 [u2] = some x2 := by simpa [hc1] using hg 2 _ rfl
        have g3 : DataW.trod enc Try.prog W 0 (fun _ => true) true n' 3 [u3] = some x3 := by simpa [hc1] using hg 3 _ rfl
        have g4 : DataW.trod enc Try.prog W 0 (fun _ => true) true n' 3 [u4] = some x4 := by simpa [hc1] using hg 4 _ rfl
        obtain ⟨k0, e0, _, w0⟩ := DataW.trod_int Try.underlying3 g0
        obtain ⟨k1, e1, _, w1⟩ := DataW.trod_int Try.underlying3 g1
        obtain ⟨k2, e2, _, w2⟩ := DataW.trod_int Try.underlying3 g2
        obtain ⟨k3, e3, _, w3⟩ := DataW.trod_int Try.underlying3 g3
        obtain ⟨k4, e4, _, w4⟩ := DataW.trod_int Try.underlying3 g4
        simp only [List.cons.injEq, and_true] at e0 e1 e2 e3 e4
        subst e0 e1 e2 e3 e4
        have q0 := hat 0 (by omega)
        have q1 := hat 1 (by omega)
        have q2 := hat 2 (by omega)
        have q3 := hat 3 (by omega)
        have q4 := hat 4 (by omega)
        rw [Go.Deep.add_add] at q0 q1 q2 q3 q4
        exact ⟨⟨k0, k1, k2, k3, k4⟩, ⟨by simpa using q0, by simpa using q1, by simpa using q2, by simpa using q3, by simpa using q4⟩, i64_of w0, i64_of w1, i64_of w2, i64_of w3, i64_of w4⟩)
  have e : ((List.range len).map V).length = len := by simp
  have hn : ∀ i, i < len → snth ((List.range len).map V) i = V i := fun i hi => range_nth V len _ hi
  refine ⟨_, (List.range len).map V, rfl, ?_⟩
  by_cases h0 : len = 0
  · exact ⟨some a, cap, a.block, a.off, by rw [e], by rw [e]; exact hl, hm, fun h => by omega, fun i hi => by omega, fun i hi => by omega⟩
  · have hsp := spot_none5 (hV 0 (by omega)).1.1
    have hb : a.block < W.heap.size := by have := cell_lt (hV 0 (by omega)).1.1; simpa [Addr.add] using this
    refine ⟨some a, cap, a.block, a.off, by rw [e], by rw [e]; exact hl, hm, fun _ => ⟨by rw [← hsp], hb⟩, fun i hi => ?_, fun i hi => ?_⟩
    · rw [e] at hi
      have hv := hV i (by omega)
      rw [hn i hi]
      rw [hsp] at hv
      exact hv.five
    · rw [e] at hi
      rw [hn i hi]
      exact (hV i (by omega)).2
set_option maxRecDepth 100000 in
theorem openChain {r : Reach} {b0 : Nat} {v : Value} {d : DataW H} {p : List MemPlace} (hv : Value.okWide Try.prog W r b0 25 v) (h : DataW.Trod enc Try.prog W 0 (fun _ => true) true 25 v d p) :
    ∃ C, ChainAt W.heap.size W v C := by
  obtain ⟨v0, v1, v2, y0, y1, y2, n, rfl, _, _, g0, g1, g2⟩ := open_agg3 Try.underlying25 (by kernel_rfl) (by kernel_rfl) hv h
  obtain ⟨dv, ds, e0, h0⟩ := openDeeds g0
  obtain ⟨sv, ss, e1, h1⟩ := openSights g1
  obtain ⟨wr, e2, _, w2⟩ := DataW.trod_int Try.underlying3 g2
  simp only [List.cons.injEq, and_true] at e0 e1 e2
  subst e0 e1 e2
  exact ⟨⟨ds, ss, wr⟩, v0, v1, rfl, h0, h1, i64_of w2⟩
set_option maxRecDepth 100000 in
theorem openInt {r : Reach} {b0 : Nat} {v : Value} {d : DataW H} {p : List MemPlace} (hv : Value.okWide Try.prog W r b0 3 v) (h : DataW.Trod enc Try.prog W 0 (fun _ => true) true 3 v d p) :
    ∃ n : Int, v = .int .i64 n ∧ I64 n := by
  obtain ⟨n, rfl⟩ := okWide_int Try.underlying3 hv
  obtain ⟨fuel, hf⟩ := h
  obtain ⟨k, e, _, w⟩ := DataW.trod_int Try.underlying3 hf
  simp only [Value.cells, List.cons.injEq, and_true] at e
  cases e
  exact ⟨n, rfl, i64_of w⟩
set_option maxRecDepth 100000 in
theorem openAsk2 {r : Reach} {b0 : Nat} {v : Value} {d : DataW H} {p : List MemPlace} (hv : Value.okWide Try.prog W r b0 40 v) (h : DataW.Trod enc Try.prog W 0 (fun _ => true) true 40 v d p) :
    ∃ A B C : Int, v = .agg #[.int .i64 A, .int .i64 B, .int .i64 C] ∧ I64 A ∧ I64 B ∧ I64 C := by
  obtain ⟨v0, v1, v2, y0, y1, y2, n, rfl, _, _, g0, g1, g2⟩ := open_agg3 Try.underlying40 (by kernel_rfl) (by kernel_rfl) hv h
  obtain ⟨k0, e0, _, u0⟩ := DataW.trod_int Try.underlying3 g0
  obtain ⟨k1, e1, _, u1⟩ := DataW.trod_int Try.underlying3 g1
  obtain ⟨k2, e2, _, u2⟩ := DataW.trod_int Try.underlying3 g2
  simp only [List.cons.injEq, and_true] at e0 e1 e2
  subst e0 e1 e2
  exact ⟨k0, k1, k2, rfl, i64_of u0, i64_of u1, i64_of u2⟩
set_option maxRecDepth 100000 in
theorem openNew {r : Reach} {b0 : Nat} {v : Value} {d : DataW H} {p : List MemPlace} (hv : Value.okWide Try.prog W r b0 64 v) (h : DataW.Trod enc Try.prog W 0 (fun _ => true) true 64 v d p) :
    ∃ A B : Int, v = .agg #[.int .i64 A, .int .i64 B] ∧ I64 A ∧ I64 B := by
  obtain ⟨v0, v1, y0, y1, n, rfl, _, _, g0, g1⟩ := open_agg2 Try.underlying64 (by kernel_rfl) (by kernel_rfl) hv h
  obtain ⟨k0, e0, _, u0⟩ := DataW.trod_int Try.underlying3 g0
  obtain ⟨k1, e1, _, u1⟩ := DataW.trod_int Try.underlying3 g1
  simp only [List.cons.injEq, and_true] at e0 e1
  subst e0 e1
  exact ⟨k0, k1, rfl, i64_of u0, i64_of u1⟩
set_option maxRecDepth 100000 in
theorem openSight {r : Reach} {b0 : Nat} {v : Value} {d : DataW H} {p : List MemPlace} (hv : Value.okWide Try.prog W r b0 60 v) (h : DataW.Trod enc Try.prog W 0 (fun _ => true) true 60 v d p) :
    ∃ s : Sight, v = sV s ∧ SI64 s := by
  obtain ⟨cs, rfl, hsz⟩ := okWide_struct Try.underlying60 hv
  obtain ⟨l⟩ := cs
  have hc1 : Try.prog.cellsOf 3 = 1 := by kernel_rfl
  match l, hsz.trans (show Try.prog.cellsOf 60 = 5 by kernel_rfl) with
  | [c0, c1, c2, c3, c4], _ =>
    obtain ⟨fuel, hf⟩ := h
    obtain ⟨xs, n, _, _, _, hlen, hg⟩ := DataW.trod_struct Try.underlying60 hf
    match xs, hlen with
    | [x0, x1, x2, x3, x4], _ =>
      have g0 : DataW.trod enc Try.prog W 0 (fun _ => true) true n 3 [c0] = some x0 := by simpa [Value.cells, hc1] using hg 0 _ rfl
      have g1 : DataW.trod enc Try.prog W 0 (fun _ => true) true n 3 [c1] = some x1 := by simpa [Value.cells, hc1] using hg 1 _ rfl
      have g2 : DataW.trod enc Try.prog W 0 (fun _ => true) true n 3 [c2] = some x2 := by simpa [Value.cells, hc1] using hg 2 _ rfl
      have g3 : DataW.trod enc Try.prog W 0 (fun _ => true) true n 3 [c3] = some x3 := by simpa [Value.cells, hc1] using hg 3 _ rfl
      have g4 : DataW.trod enc Try.prog W 0 (fun _ => true) true n 3 [c4] = some x4 := by simpa [Value.cells, hc1] using hg 4 _ rfl
      obtain ⟨k0, e0, _, u0⟩ := DataW.trod_int Try.underlying3 g0
      obtain ⟨k1, e1, _, u1⟩ := DataW.trod_int Try.underlying3 g1
      obtain ⟨k2, e2, _, u2⟩ := DataW.trod_int Try.underlying3 g2
      obtain ⟨k3, e3, _, u3⟩ := DataW.trod_int Try.underlying3 g3
      obtain ⟨k4, e4, _, u4⟩ := DataW.trod_int Try.underlying3 g4
      simp only [List.cons.injEq, and_true] at e0 e1 e2 e3 e4
      subst e0 e1 e2 e3 e4
      exact ⟨⟨k0, k1, k2, k3, k4⟩, rfl, i64_of u0, i64_of u1, i64_of u2, i64_of u3, i64_of u4⟩
end
end Go.Proofs.Ytgjikoebneiamaa
