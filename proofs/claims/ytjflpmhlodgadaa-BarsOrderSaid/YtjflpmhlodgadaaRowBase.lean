/-
  Opening, more: numbers and small structs; what every row of this seat wants.
-/
import Derived.Test.YtjflpmhlodgadaaOwn
namespace Go.Proofs.Ytjflpmhlodgadaa
open Go.ChangeShapes Go.WideShapes Go.RowKit Go.Joins Go.Deep

theorem Try.own : ownKnob Try.prog.godebug = none := by kernel_rfl
theorem Try.laidOut : laidOutB Try.prog = true := by kernel_rfl

section
variable {H : Type} {enc : TypeId × Value → H} {W : World}
theorem openInt {r : Reach} {b0 : Nat} {v : Value} {d : DataW H} {p : List MemPlace} (hv : Value.okWide Try.prog W r b0 3 v) (h : DataW.Trod enc Try.prog W 0 (fun _ => true) true 3 v d p) :
    ∃ n : Int, v = .int .i64 n ∧ I64 n := by
  obtain ⟨n, rfl⟩ := okWide_int Try.underlying3 hv
  obtain ⟨fuel, hf⟩ := h
  obtain ⟨k, e, _, w⟩ := DataW.trod_int Try.underlying3 hf
  simp only [Value.cells, List.cons.injEq, and_true] at e
  cases e
  exact ⟨n, rfl, i64_of w⟩
theorem openAskW {r : Reach} {b0 : Nat} {v : Value} {d : DataW H} {p : List MemPlace} (hv : Value.okWide Try.prog W r b0 28 v) (h : DataW.Trod enc Try.prog W 0 (fun _ => true) true 28 v d p) :
    ∃ A B C D : Int, v = .agg #[.int .i64 A, .int .i64 B, .int .i64 C, .int .i64 D] ∧ I64 A ∧ I64 B ∧ I64 C ∧ I64 D := by
  obtain ⟨v0, v1, v2, v3, y0, y1, y2, y3, n, rfl, _, _, g0, g1, g2, g3⟩ := open_agg4 Try.underlying28 (by kernel_rfl) (by kernel_rfl) hv h
  obtain ⟨k0, e0, _, u0⟩ := DataW.trod_int Try.underlying3 g0
  obtain ⟨k1, e1, _, u1⟩ := DataW.trod_int Try.underlying3 g1
  obtain ⟨k2, e2, _, u2⟩ := DataW.trod_int Try.underlying3 g2
  obtain ⟨k3, e3, _, u3⟩ := DataW.trod_int Try.underlying3 g3
  simp only [List.cons.injEq, and_true] at e0 e1 e2 e3
  subst e0 e1 e2 e3
  exact ⟨k0, k1, k2, k3, rfl, i64_of u0, i64_of u1, i64_of u2, i64_of u3⟩
theorem openTwo {r : Reach} {b0 : Nat} {v : Value} {d : DataW H} {p : List MemPlace} (hv : Value.okWide Try.prog W r b0 70 v) (h : DataW.Trod enc Try.prog W 0 (fun _ => true) true 70 v d p) :
    ∃ A B : Int, v = .agg #[.int .i64 A, .int .i64 B] ∧ I64 A ∧ I64 B := by
  obtain ⟨v0, v1, y0, y1, n, rfl, _, _, g0, g1⟩ := open_agg2 Try.underlying70 (by kernel_rfl) (by kernel_rfl) hv h
  obtain ⟨k0, e0, _, u0⟩ := DataW.trod_int Try.underlying3 g0
  obtain ⟨k1, e1, _, u1⟩ := DataW.trod_int Try.underlying3 g1
  simp only [List.cons.injEq, and_true] at e0 e1
  subst e0 e1
  exact ⟨k0, k1, rfl, i64_of u0, i64_of u1⟩
theorem openBetter {r : Reach} {b0 : Nat} {v : Value} {d : DataW H} {p : List MemPlace} (hv : Value.okWide Try.prog W r b0 56 v) (h : DataW.Trod enc Try.prog W 0 (fun _ => true) true 56 v d p) :
    ∃ A B C : Int, v = .agg #[.int .i64 A, .int .i64 B, .int .i64 C] ∧ I64 A ∧ I64 B ∧ I64 C := by
  obtain ⟨v0, v1, v2, y0, y1, y2, n, rfl, _, _, g0, g1, g2⟩ := open_agg3 Try.underlying56 (by kernel_rfl) (by kernel_rfl) hv h
  obtain ⟨k0, e0, _, u0⟩ := DataW.trod_int Try.underlying3 g0
  obtain ⟨k1, e1, _, u1⟩ := DataW.trod_int Try.underlying3 g1
  obtain ⟨k2, e2, _, u2⟩ := DataW.trod_int Try.underlying3 g2
  simp only [List.cons.injEq, and_true] at e0 e1 e2
  subst e0 e1 e2
  exact ⟨k0, k1, k2, rfl, i64_of u0, i64_of u1, i64_of u2⟩
theorem openLonger {r : Reach} {b0 : Nat} {v : Value} {d : DataW H} {p : List MemPlace} (hv : Value.okWide Try.prog W r b0 64 v) (h : DataW.Trod enc Try.prog W 0 (fun _ => true) true 64 v d p) :
    ∃ A B C D E : Int, v = .agg #[.int .i64 A, .int .i64 B, .int .i64 C, .int .i64 D, .int .i64 E] ∧ I64 A ∧ I64 B ∧ I64 C ∧ I64 D ∧ I64 E := by
  obtain ⟨cs, rfl, hsz⟩ := okWide_struct Try.underlying64 hv
  obtain ⟨l⟩ := cs
  have hc1 : Try.prog.cellsOf 3 = 1 := by kernel_rfl
  match l, hsz.trans (show Try.prog.cellsOf 64 = 5 by kernel_rfl) with
  | [c0, c1, c2, c3, c4], _ =>
    obtain ⟨fuel, hf⟩ := h
    obtain ⟨xs, n, _, _, _, hlen, hg⟩ := DataW.trod_struct Try.underlying64 hf
    match xs, hlen with
    | [x0, x1, x2, x3, x4], _ =>
      have g0 : DataW.trod enc Try.prog W 0 (fun _ => true) true n 3 [c0] = some x0 := by simpa [Value.cells, hc1] using hg 0 _ rfl
      have g1 : DataW.trod enc Try.prog W 0 (fun _ => true) true n 3 [c1] = some x1 := by simpa [Value.cells, hc1] using hg 1 _ rfl
      have g2 : DataW.trod enc Try.prog W 0 (fun _ => true) true n 3 [c2] = some x2 := by simpa [Value.cells, hc1] using hg 2 _ rfl
      have g3 : DataW.trod enc Try.prog W 0 (fun _ => true) true n 3 [c3] = some x3 := by simpa [Value.cells, hc1] using hg 3 _ rfl
      have g4 : DataW.trod enc Try.prog W 0 (fun _ => true) true n 3 [c4] = some x4 := by simpa [Value.cells, hc1] using hg 4 _ rfl
      obtain ⟨k0, e0, _, u0⟩ := DataW.trod_int Try.underlying3 g0
      obtain ⟨k1, e1, _, u1⟩ := DataW.trod_int Try.underlying3 g1
      obtain ⟨k2, e2, _, u2⟩ := DataW.trod_int Try.underlying3 g2
      obtain ⟨k3, e3, _, u3⟩ := DataW.trod_int Try.underlying3 g3
      obtain ⟨k4, e4, _, u4⟩ := DataW.trod_int Try.underlying3 g4
      simp only [List.cons.injEq, and_true] at e0 e1 e2 e3 e4
      subst e0 e1 e2 e3 e4
      exact ⟨k0, k1, k2, k3, k4, rfl, i64_of u0, i64_of u1, i64_of u2, i64_of u3, i64_of u4⟩
end
end Go.Proofs.Ytjflpmhlodgadaa
