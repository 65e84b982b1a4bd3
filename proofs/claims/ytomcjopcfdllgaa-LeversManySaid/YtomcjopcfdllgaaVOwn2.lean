/-
  Opening: what a caller hands in, read as a machine of levers, as an ask.
  Opening: numbers, settings, and what is more of a machine.
-/
import Derived.Test.YtomcjopcfdllgaaVMem
import Derived.ProofKit
import Derived.OpenShut
import Derived.Lib.SmallJoins
import Derived.Deep.Slices

namespace Go.Proofs.Ytomcjopcfdllgaa
open Go.ChangeShapes Go.WideShapes Go.RowKit Go.Joins Go.Deep

theorem Try.own : ownKnob Try.prog.godebug = none := by kernel_rfl
theorem Try.laidOut : laidOutB Try.prog = true := by kernel_rfl

section
variable {H : Type} {enc : TypeId × Value → H} {W : World}

theorem cell_lt {w : World} {p : Addr} {v : Value} (h : w.cell? p = some v) : p.block < w.heap.size := by
  refine Nat.lt_of_not_le fun hn => ?_
  have e : w.heap[p.block]? = none := Array.getElem?_eq_none hn
  simp [World.cell?, e] at h
theorem range_nth {α : Type} (V : Nat → α) (n : Nat) (d : α) {i : Nat} (h : i < n) : ((List.range n).map V).getD i d = V i := by
  simp [List.getD, h]
theorem i64_of {n : Int} (h : (Lit.int .i64 n).wf = true) : I64 n := Go.bounds_i64 h
theorem ints_nil (B : Nat) (w : World) : IntsAt B w (.slice none 0 0) [] := ⟨none, 0, 0, 0, rfl, Nat.le_refl _, by unfold maxLen; omega, fun h => by simp at h, fun i hi => by simp at hi, by simp⟩
set_option maxRecDepth 100000 in
theorem openInts {fuel : Nat} {cs : List Value} {x : DataW H × List MemPlace} (h : DataW.trod enc Try.prog W 0 (fun _ => true) true fuel 28 cs = some x) : ∃ v xs, cs = [v] ∧ IntsAt W.heap.size W v xs := by
  rcases open_ints Try.underlying28 Try.underlying3 (by kernel_rfl) h with ⟨rfl, _⟩ | ⟨a, len, cap, zs, rfl, _, hl, hm, hz, _, hcell, hwf⟩
  · exact ⟨_, [], rfl, ints_nil _ _⟩
  simp only [if_true] at hz
  have e : (zs.take len).length = len := by simp; omega
  have hw : ∀ x ∈ zs.take len, I64 x := fun x hx => i64_of (hwf x (List.mem_of_mem_take hx))
  refine ⟨_, zs.take len, rfl, ?_⟩
  by_cases h0 : len = 0
  · exact ⟨some a, cap, a.block, a.off, by rw [e], by rw [e]; exact hl, hm, fun h => by omega, fun i hi => by omega, hw⟩
  · obtain ⟨b, off, rfl, hc⟩ := ints_at hcell (by omega)
    have hb : b < W.heap.size := cell_lt (hc 0 (by omega))
    refine ⟨some ⟨b, off, none⟩, cap, b, off, by rw [e], by rw [e]; exact hl, hm, fun _ => ⟨rfl, hb⟩, fun i hi => ?_, hw⟩
    rw [e] at hi
    have hn : nth (zs.take len) i = zs.getD i 0 := by simp only [nth, List.getD_eq_getElem?_getD, List.getElem?_take_of_lt hi]
    rw [hn]
    exact hc i (by omega)
theorem spot_none {w : World} {a : Addr} {v : Value} {k : Nat} (h : w.cell? (a.add (0 * k)) = some v) : a = ⟨a.block, a.off, none⟩ := by
  obtain ⟨b, off, spot⟩ := a
  have hs : spot = none := by simpa [Addr.add] using World.cell?_spot h
  subst hs
  rfl
theorem openSpan {n : Nat} {u0 u1 : Value} {x : DataW H × List MemPlace} (h : DataW.trod enc Try.prog W 0 (fun _ => true) true n 24 [u0, u1] = some x) : ∃ a b : Int, u0 = .int .i64 a ∧ u1 = .int .i64 b ∧ I64 a ∧ I64 b := by
  have hc1 : Try.prog.cellsOf 3 = 1 := by kernel_rfl
  obtain ⟨xs, n', _, _, _, hlen, hg⟩ := DataW.trod_struct Try.underlying24 h
  match xs, hlen with
  | [x0, x1], _ =>
    have g0 : DataW.trod enc Try.prog W 0 (fun _ => true) true n' 3 [u0] = some x0 := by simpa [hc1] using hg 0 _ rfl
    have g1 : DataW.trod enc Try.prog W 0 (fun _ => true) true n' 3 [u1] = some x1 := by simpa [hc1] using hg 1 _ rfl
    obtain ⟨k0, e0, _, w0⟩ := DataW.trod_int Try.underlying3 g0
    obtain ⟨k1, e1, _, w1⟩ := DataW.trod_int Try.underlying3 g1
    simp only [List.cons.injEq, and_true] at e0 e1
    exact ⟨k0, k1, e0, e1, i64_of w0, i64_of w1⟩
def Nums3 (W : World) (a : Addr) (i : Nat) (n0 n1 n2 : Int) : Prop :=
  (W.cell? (a.add (i * 3)) = some (.int .i64 n0) ∧ W.cell? (a.add (i * 3 + 1)) = some (.int .i64 n1) ∧ W.cell? (a.add (i * 3 + 2)) = some (.int .i64 n2)) ∧ I64 n0 ∧ I64 n1 ∧ I64 n2
theorem Nums3.three {W : World} {b off i : Nat} {n0 n1 n2 : Int} (h : Nums3 W ⟨b, off, none⟩ i n0 n1 n2) : Three W b (off + i * 3) n0 n1 n2 := by
  have h := h.1
  simp only [Go.WideShapes.add_plain, ← Nat.add_assoc] at h
  exact h
def Nums4 (W : World) (a : Addr) (i : Nat) (n0 n1 n2 n3 : Int) : Prop :=
  (W.cell? (a.add (i * 4)) = some (.int .i64 n0) ∧ W.cell? (a.add (i * 4 + 1)) = some (.int .i64 n1) ∧ W.cell? (a.add (i * 4 + 2)) = some (.int .i64 n2) ∧ W.cell? (a.add (i * 4 + 3)) = some (.int .i64 n3)) ∧ I64 n0 ∧ I64 n1 ∧ I64 n2 ∧ I64 n3
theorem Nums4.four {W : World} {b off i : Nat} {n0 n1 n2 n3 : Int} (h : Nums4 W ⟨b, off, none⟩ i n0 n1 n2 n3) : Four W b (off + i * 4) n0 n1 n2 n3 := by
  have h := h.1
  simp only [Go.WideShapes.add_plain, ← Nat.add_assoc] at h
  exact h
set_option maxRecDepth 100000 in
theorem openLevs {fuel : Nat} {cs : List Value} {x : DataW H × List MemPlace} (h : DataW.trod enc Try.prog W 0 (fun _ => true) true fuel 22 cs = some x) : ∃ v ls, cs = [v] ∧ LevsAt W.heap.size W v ls := by
  rcases open_slice Try.underlying22 h with ⟨rfl, _⟩ | ⟨a, len, cap, m, n, D, Pl, rfl, _, hl, hm, hmm, _, hi⟩
  · exact ⟨_, [], rfl, none, 0, 0, 0, rfl, by simp, by unfold maxLen; omega, fun h => by simp at h, fun i hi => by simp at hi, fun i hi => by simp at hi⟩
  simp only [if_true] at hmm
  rw [hmm] at hi
  clear hmm
  have hc5 : Try.prog.cellsOf 63 = 3 := by kernel_rfl
  have hc1 : Try.prog.cellsOf 3 = 1 := by kernel_rfl
  have hc2 : Try.prog.cellsOf 24 = 2 := by kernel_rfl
  rw [hc5] at hi
  obtain ⟨V, hV⟩ := choose_lt (α := Lev) (n := cap) (p := fun i d => Nums3 W a i d.long d.lo d.hi) (fun i hic => by
    obtain ⟨cs', hcs, ht⟩ := hi i hic
    obtain ⟨xs, n', _, _, _, hlen, hg⟩ := DataW.trod_struct Try.underlying63 ht
    obtain ⟨_, hcl, hat⟩ := World.cells?_some hcs
    match cs', hcl with
    | [u0, u1, u2], _ =>
      match xs, hlen with
      | [x0, x1], _ =>
        have g0 : DataW.trod enc Try.prog W 0 (fun _ => true) true n' 3 [u0] = some x0 := by simpa [hc1] using hg 0 _ rfl
        have g1 : DataW.trod enc Try.prog W 0 (fun _ => true) true n' 24 [u1, u2] = some x1 := by simpa [hc1, hc2] using hg 1 _ rfl
        obtain ⟨k0, e0, _, w0⟩ := DataW.trod_int Try.underlying3 g0
        obtain ⟨k1, k2, rfl, rfl, w1, w2⟩ := openSpan g1
        simp only [List.cons.injEq, and_true] at e0
        subst e0
        have q0 := hat 0 (by omega)
        have q1 := hat 1 (by omega)
        have q2 := hat 2 (by omega)
        rw [Go.Deep.add_add] at q0 q1 q2
        exact ⟨⟨k0, k1, k2⟩, ⟨by simpa using q0, by simpa using q1, by simpa using q2⟩, i64_of w0, w1, w2⟩)
  have e : ((List.range len).map V).length = len := by simp
  have hn : ∀ i, i < len → lnth ((List.range len).map V) i = V i := fun i hi => range_nth V len _ hi
  refine ⟨_, (List.range len).map V, rfl, ?_⟩
  by_cases h0 : len = 0
  · exact ⟨some a, cap, a.block, a.off, by rw [e], by rw [e]; exact hl, hm, fun h => by omega, fun i hi => by omega, fun i hi => by omega⟩
  · have hsp := spot_none (hV 0 (by omega)).1.1
    have hb : a.block < W.heap.size := by have := cell_lt (hV 0 (by omega)).1.1; simpa [Addr.add] using this
    refine ⟨some a, cap, a.block, a.off, by rw [e], by rw [e]; exact hl, hm, fun _ => ⟨by rw [← hsp], hb⟩, fun i hi => ?_, fun i hi => ?_⟩
    · rw [e] at hi
      have hv := hV i (by omega)
      rw [hn i hi]
      rw [hsp] at hv
      exact hv.three
    · rw [e] at hi
      rw [hn i hi]
      exact (hV i (by omega)).2
set_option maxRecDepth 100000 in
theorem openBals {fuel : Nat} {cs : List Value} {x : DataW H × List MemPlace} (h : DataW.trod enc Try.prog W 0 (fun _ => true) true fuel 25 cs = some x) : ∃ v bs, cs = [v] ∧ BalsAt W.heap.size W v bs := by
  rcases open_slice Try.underlying25 h with ⟨rfl, _⟩ | ⟨a, len, cap, m, n, D, Pl, rfl, _, hl, hm, hmm, _, hi⟩
  · exact ⟨_, [], rfl, none, 0, 0, 0, rfl, by simp, by unfold maxLen; omega, fun h => by simp at h, fun i hi => by simp at hi, fun i hi => by simp at hi⟩
  simp only [if_true] at hmm
  rw [hmm] at hi
  clear hmm
  have hc5 : Try.prog.cellsOf 51 = 4 := by kernel_rfl
  have hc1 : Try.prog.cellsOf 3 = 1 := by kernel_rfl
  rw [hc5] at hi
  obtain ⟨V, hV⟩ := choose_lt (α := Bal) (n := cap) (p := fun i d => Nums4 W a i d.weight d.minutes d.load d.off) (fun i hic => by
    obtain ⟨cs', hcs, ht⟩ := hi i hic
    obtain ⟨xs, n', _, _, _, hlen, hg⟩ := DataW.trod_struct Try.underlying51 ht
    obtain ⟨_, hcl, hat⟩ := World.cells?_some hcs
    match cs', hcl with
    | [u0, u1, u2, u3], _ =>
      match xs, hlen with
      | [x0, x1, x2, x3], _ =>
        have g0 : DataW.trod enc Try.prog W 0 (fun _ => true) true n' 3 [u0] = some x0 := by simpa [hc1] using hg 0 _ rfl
        have g1 : DataW.trod enc Try.prog W 0 (fun _ => true) true n' 3 [u1] = some x1 := by simpa [hc1] using hg 1 _ rfl
        have g2 : DataW.trod enc Try.prog W 0 (fun _ => true) true n' 3 [u2] = some x2 := by simpa [hc1] using hg 2 _ rfl
        have g3 : DataW.trod enc Try.prog W 0 (fun _ => true) true n' 3 [u3] = some x3 := by simpa [hc1] using hg 3 _ rfl
        obtain ⟨k0, e0, _, w0⟩ := DataW.trod_int Try.underlying3 g0
        obtain ⟨k1, e1, _, w1⟩ := DataW.trod_int Try.underlying3 g1
        obtain ⟨k2, e2, _, w2⟩ := DataW.trod_int Try.underlying3 g2
        obtain ⟨k3, e3, _, w3⟩ := DataW.trod_int Try.underlying3 g3
        simp only [List.cons.injEq, and_true] at e0 e1 e2 e3
        subst e0 e1 e2 e3
        have q0 := hat 0 (by omega)
        have q1 := hat 1 (by omega)
        have q2 := hat 2 (by omega)
        have q3 := hat 3 (by omega)
        rw [Go.Deep.add_add] at q0 q1 q2 q3
        exact ⟨⟨k0, k1, k2, k3⟩, ⟨by simpa using q0, by simpa using q1, by simpa using q2, by simpa using q3⟩, i64_of w0, i64_of w1, i64_of w2, i64_of w3⟩)
  have e : ((List.range len).map V).length = len := by simp
  have hn : ∀ i, i < len → bnth ((List.range len).map V) i = V i := fun i hi => range_nth V len _ hi
  refine ⟨_, (List.range len).map V, rfl, ?_⟩
  by_cases h0 : len = 0
  · exact ⟨some a, cap, a.block, a.off, by rw [e], by rw [e]; exact hl, hm, fun h => by omega, fun i hi => by omega, fun i hi => by omega⟩
  · have hsp := spot_none (hV 0 (by omega)).1.1
    have hb : a.block < W.heap.size := by have := cell_lt (hV 0 (by omega)).1.1; simpa [Addr.add] using this
    refine ⟨some a, cap, a.block, a.off, by rw [e], by rw [e]; exact hl, hm, fun _ => ⟨by rw [← hsp], hb⟩, fun i hi => ?_, fun i hi => ?_⟩
    · rw [e] at hi
      have hv := hV i (by omega)
      rw [hn i hi]
      rw [hsp] at hv
      exact hv.four
    · rw [e] at hi
      rw [hn i hi]
      exact (hV i (by omega)).2
set_option maxRecDepth 100000 in
theorem openMach {r : Reach} {b0 : Nat} {v : Value} {d : DataW H} {p : List MemPlace} (hv : Value.okWide Try.prog W r b0 27 v) (h : DataW.Trod enc Try.prog W 0 (fun _ => true) true 27 v d p) :
    ∃ M, MachAt W.heap.size W v M := by
  obtain ⟨cs, rfl, hsz⟩ := okWide_struct Try.underlying27 hv
  obtain ⟨l⟩ := cs
  have hc1 : Try.prog.cellsOf 3 = 1 := by kernel_rfl
  have hc2 : Try.prog.cellsOf 24 = 2 := by kernel_rfl
  have hc3 : Try.prog.cellsOf 22 = 1 := by kernel_rfl
  have hc4 : Try.prog.cellsOf 25 = 1 := by kernel_rfl
  match l, hsz.trans (show Try.prog.cellsOf 27 = 6 by kernel_rfl) with
  | [c0, c1, c2, c3, c4, c5], _ =>
    obtain ⟨fuel, hf⟩ := h
    obtain ⟨xs, n, _, _, _, hlen, hg⟩ := DataW.trod_struct Try.underlying27 hf
    match xs, hlen with
    | [x0, x1, x2, x3, x4], _ =>
      have g0 : DataW.trod enc Try.prog W 0 (fun _ => true) true n 22 [c0] = some x0 := by simpa [Value.cells, hc1, hc2, hc3, hc4] using hg 0 _ rfl
      have g1 : DataW.trod enc Try.prog W 0 (fun _ => true) true n 3 [c1] = some x1 := by simpa [Value.cells, hc1, hc2, hc3, hc4] using hg 1 _ rfl
      have g2 : DataW.trod enc Try.prog W 0 (fun _ => true) true n 24 [c2, c3] = some x2 := by simpa [Value.cells, hc1, hc2, hc3, hc4] using hg 2 _ rfl
      have g3 : DataW.trod enc Try.prog W 0 (fun _ => true) true n 25 [c4] = some x3 := by simpa [Value.cells, hc1, hc2, hc3, hc4] using hg 3 _ rfl
      have g4 : DataW.trod enc Try.prog W 0 (fun _ => true) true n 3 [c5] = some x4 := by simpa [Value.cells, hc1, hc2, hc3, hc4] using hg 4 _ rfl
      obtain ⟨lv, ls, e0, h0⟩ := openLevs g0
      obtain ⟨wt, e1, _, w1⟩ := DataW.trod_int Try.underlying3 g1
      obtain ⟨k0, k1, rfl, rfl, w2, w3⟩ := openSpan g2
      obtain ⟨bv, bs, e3, h3⟩ := openBals g3
      obtain ⟨wr, e4, _, w4⟩ := DataW.trod_int Try.underlying3 g4
      simp only [List.cons.injEq, and_true] at e0 e1 e3 e4
      subst e0 e1 e3 e4
      exact ⟨⟨ls, wt, k0, k1, bs, wr⟩, _, _, rfl, h0, h3, i64_of w1, w2, w3, i64_of w4⟩
set_option maxRecDepth 100000 in
theorem openAskL {r : Reach} {b0 : Nat} {v : Value} {d : DataW H} {p : List MemPlace} (hv : Value.okWide Try.prog W r b0 32 v) (h : DataW.Trod enc Try.prog W 0 (fun _ => true) true 32 v d p) :
    ∃ A B C : Int, v = .agg #[.int .i64 A, .int .i64 B, .int .i64 C] ∧ I64 A ∧ I64 B ∧ I64 C := by
  obtain ⟨v0, v1, v2, y0, y1, y2, n, rfl, _, _, g0, g1, g2⟩ := open_agg3 Try.underlying32 (by kernel_rfl) (by kernel_rfl) hv h
  obtain ⟨k0, e0, _, u0⟩ := DataW.trod_int Try.underlying3 g0
  obtain ⟨k1, e1, _, u1⟩ := DataW.trod_int Try.underlying3 g1
  obtain ⟨k2, e2, _, u2⟩ := DataW.trod_int Try.underlying3 g2
  simp only [List.cons.injEq, and_true] at e0 e1 e2
  subst e0 e1 e2
  exact ⟨k0, k1, k2, rfl, i64_of u0, i64_of u1, i64_of u2⟩
end
end Go.Proofs.Ytomcjopcfdllgaa

namespace Go.Proofs.Ytomcjopcfdllgaa
open Go.ChangeShapes Go.WideShapes Go.RowKit Go.Joins Go.Deep

section
variable {H : Type} {enc : TypeId × Value → H} {W : World}
set_option maxRecDepth 100000 in
theorem openInt {r : Reach} {b0 : Nat} {v : Value} {d : DataW H} {p : List MemPlace} (hv : Value.okWide Try.prog W r b0 3 v) (h : DataW.Trod enc Try.prog W 0 (fun _ => true) true 3 v d p) :
    ∃ n : Int, v = .int .i64 n ∧ I64 n := by
  obtain ⟨n, rfl⟩ := okWide_int Try.underlying3 hv
  obtain ⟨fuel, hf⟩ := h
  obtain ⟨k, e, _, w⟩ := DataW.trod_int Try.underlying3 hf
  simp only [Value.cells, List.cons.injEq, and_true] at e
  cases e
  exact ⟨n, rfl, i64_of w⟩
set_option maxRecDepth 100000 in
theorem openMoreL {r : Reach} {b0 : Nat} {v : Value} {d : DataW H} {p : List MemPlace} (hv : Value.okWide Try.prog W r b0 58 v) (h : DataW.Trod enc Try.prog W 0 (fun _ => true) true 58 v d p) :
    ∃ (b : Bal) (y0 y1 y2 y3 y4 y5 : Int), v = .agg #[.int .i64 b.weight, .int .i64 b.minutes, .int .i64 b.load, .int .i64 b.off, .int .i64 y0, .int .i64 y1, .int .i64 y2, .int .i64 y3, .int .i64 y4, .int .i64 y5] ∧ BI64 b ∧ I64 y0 ∧ I64 y1 ∧ I64 y2 ∧ I64 y3 ∧ I64 y4 ∧ I64 y5 := by
  obtain ⟨cs, rfl, hsz⟩ := okWide_struct Try.underlying58 hv
  obtain ⟨l⟩ := cs
  have hc1 : Try.prog.cellsOf 3 = 1 := by kernel_rfl
  have hc2 : Try.prog.cellsOf 51 = 4 := by kernel_rfl
  match l, hsz.trans (show Try.prog.cellsOf 58 = 10 by kernel_rfl) with
  | [c0, c1, c2, c3, c4, c5, c6, c7, c8, c9], _ =>
    obtain ⟨fuel, hf⟩ := h
    obtain ⟨xs, n, _, _, _, hlen, hg⟩ := DataW.trod_struct Try.underlying58 hf
    match xs, hlen with
    | [x0, x1, x2, x3, x4, x5, x6], _ =>
      have g0 : DataW.trod enc Try.prog W 0 (fun _ => true) true n 51 [c0, c1, c2, c3] = some x0 := by simpa [Value.cells, hc1, hc2] using hg 0 _ rfl
      have g1 : DataW.trod enc Try.prog W 0 (fun _ => true) true n 3 [c4] = some x1 := by simpa [Value.cells, hc1, hc2] using hg 1 _ rfl
      have g2 : DataW.trod enc Try.prog W 0 (fun _ => true) true n 3 [c5] = some x2 := by simpa [Value.cells, hc1, hc2] using hg 2 _ rfl
      have g3 : DataW.trod enc Try.prog W 0 (fun _ => true) true n 3 [c6] = some x3 := by simpa [Value.cells, hc1, hc2] using hg 3 _ rfl
      have g4 : DataW.trod enc Try.prog W 0 (fun _ => true) true n 3 [c7] = some x4 := by simpa [Value.cells, hc1, hc2] using hg 4 _ rfl
      have g5 : DataW.trod enc Try.prog W 0 (fun _ => true) true n 3 [c8] = some x5 := by simpa [Value.cells, hc1, hc2] using hg 5 _ rfl
      have g6 : DataW.trod enc Try.prog W 0 (fun _ => true) true n 3 [c9] = some x6 := by simpa [Value.cells, hc1, hc2] using hg 6 _ rfl
      obtain ⟨ys, m, _, _, _, hlen2, hg2⟩ := DataW.trod_struct Try.underlying51 g0
      match ys, hlen2 with
      | [u0, u1, u2, u3], _ =>
        have k0 : DataW.trod enc Try.prog W 0 (fun _ => true) true m 3 [c0] = some u0 := by simpa [hc1] using hg2 0 _ rfl
        have k1 : DataW.trod enc Try.prog W 0 (fun _ => true) true m 3 [c1] = some u1 := by simpa [hc1] using hg2 1 _ rfl
        have k2 : DataW.trod enc Try.prog W 0 (fun _ => true) true m 3 [c2] = some u2 := by simpa [hc1] using hg2 2 _ rfl
        have k3 : DataW.trod enc Try.prog W 0 (fun _ => true) true m 3 [c3] = some u3 := by simpa [hc1] using hg2 3 _ rfl
        obtain ⟨a0, e0, _, w0⟩ := DataW.trod_int Try.underlying3 k0
        obtain ⟨a1, e1, _, w1⟩ := DataW.trod_int Try.underlying3 k1
        obtain ⟨a2, e2, _, w2⟩ := DataW.trod_int Try.underlying3 k2
        obtain ⟨a3, e3, _, w3⟩ := DataW.trod_int Try.underlying3 k3
        obtain ⟨y0, e4, _, w4⟩ := DataW.trod_int Try.underlying3 g1
        obtain ⟨y1, e5, _, w5⟩ := DataW.trod_int Try.underlying3 g2
        obtain ⟨y2, e6, _, w6⟩ := DataW.trod_int Try.underlying3 g3
        obtain ⟨y3, e7, _, w7⟩ := DataW.trod_int Try.underlying3 g4
        obtain ⟨y4, e8, _, w8⟩ := DataW.trod_int Try.underlying3 g5
        obtain ⟨y5, e9, _, w9⟩ := DataW.trod_int Try.underlying3 g6
        simp only [List.cons.injEq, and_true] at e0 e1 e2 e3 e4 e5 e6 e7 e8 e9
        subst e0 e1 e2 e3 e4 e5 e6 e7 e8 e9
        exact ⟨⟨a0, a1, a2, a3⟩, y0, y1, y2, y3, y4, y5, rfl, ⟨i64_of w0, i64_of w1, i64_of w2, i64_of w3⟩, i64_of w4, i64_of w5, i64_of w6, i64_of w7, i64_of w8, i64_of w9⟩
set_option maxRecDepth 100000 in
theorem openSetL {r : Reach} {b0 : Nat} {v : Value} {d : DataW H} {p : List MemPlace} (hv : Value.okWide Try.prog W r b0 30 v) (h : DataW.Trod enc Try.prog W 0 (fun _ => true) true 30 v d p) :
    ∃ (sv : Value) (ss : List Int) (sl : Int), v = .agg #[sv, .int .i64 sl] ∧ IntsAt W.heap.size W sv ss ∧ I64 sl := by
  obtain ⟨cs, rfl, hsz⟩ := okWide_struct Try.underlying30 hv
  obtain ⟨l⟩ := cs
  have hc1 : Try.prog.cellsOf 3 = 1 := by kernel_rfl
  have hc2 : Try.prog.cellsOf 28 = 1 := by kernel_rfl
  match l, hsz.trans (show Try.prog.cellsOf 30 = 2 by kernel_rfl) with
  | [c0, c1], _ =>
    obtain ⟨fuel, hf⟩ := h
    obtain ⟨xs, n, _, _, _, hlen, hg⟩ := DataW.trod_struct Try.underlying30 hf
    match xs, hlen with
    | [x0, x1], _ =>
      have g0 : DataW.trod enc Try.prog W 0 (fun _ => true) true n 28 [c0] = some x0 := by simpa [Value.cells, hc1, hc2] using hg 0 _ rfl
      have g1 : DataW.trod enc Try.prog W 0 (fun _ => true) true n 3 [c1] = some x1 := by simpa [Value.cells, hc1, hc2] using hg 1 _ rfl
      obtain ⟨sv, ss, e0, h0⟩ := openInts g0
      obtain ⟨y, e1, _, w1⟩ := DataW.trod_int Try.underlying3 g1
      simp only [List.cons.injEq, and_true] at e0 e1
      subst e0 e1
      exact ⟨_, ss, y, rfl, h0, i64_of w1⟩
end
end Go.Proofs.Ytomcjopcfdllgaa
