/-
  Opening, more: numbers and small structs; what every row of this seat wants.
-/
import Derived.Test.YtjflpmhlodgadaaOwn
namespace Go.Proofs.Ytjflpmhlodgadaa
open Go.ChangeShapes Go.WideShapes Go.RowKit Go.Joins Go.Deep

theorem Try.own : ownKnob Try.prog.godebug = none := by kernel_rfl
theorem Try.laidOut : laidOutB Try.prog = true := by kernel_rfl

section
variable {H : Type} {enc : TypeId × Value → H} {W : World}
theorem openInt {r : Reach} {b0 : Nat} {v : Value} {d : DataW H} {p : List MemPlace} (hv : Value.okWide Try.prog W r b0 3 v) (h : DataW.Trod enc Try.prog W 0 (fun _ => true) true 3 v d p) :
    ∃ n : Int, v = .int .i64 n ∧ I64 n := by
  obtain ⟨n, rfl⟩ := okWide_int Try.underlying3 hv
  obtain ⟨fuel, hf⟩ := h
  obtain ⟨k, e, _, w⟩ := DataW.trod_int Try.underlying3 hf
  simp only [Value.cells, List.cons.injEq, and_true] at e
  cases e
  exact ⟨n, rfl, i64_of w⟩
theorem openAskW {r : Reach} {b0 : Nat} {v : Value} {d : DataW H} {p : List MemPlace} (hv : Value.okWide Try.prog W r b0 28 v) (h : DataW.Trod enc Try.prog W 0 (fun _ => true) true 28 v d p) :
    ∃ A B C D : Int, v = .agg #[.int .i64 A, .int .i64 B, .int .i64 C, .int .i64 D] ∧ I64 A ∧ I64 B ∧ I64 C ∧ I64 D := by
  obtain ⟨v0, v1, v2, v3, y0, y1, y2, y3, n, rfl, _, _, g0, g1, g2, g3⟩ := open_agg4 Try.underlying28 (by kernel_rfl) (by kernel_rfl) hv h
  obtain ⟨k0, e0, _, u0⟩ := DataW.trod_int Try.underlying3 g0
  obtain ⟨k1, e1, _, u1⟩ := DataW.trod_int Try.underlying3 g1
  obtain ⟨k2, e2, _, u2⟩ := DataW.trod_int Try.underlying3 g2
  obtain ⟨k3, e3, _, u3⟩ := DataW.trod_int Try.underlying3 g3
  simp only [List.cons.injEq, and_true] at e0 e1 e2 e3
  subst e0 e1 e2 e3
  exact ⟨k0, k1, k2, k3, rfl, i64_of u0, i64_of u1, i64_of u2, i64_of u3⟩
theorem openTwo {r : Reach} {b0 : Nat} {v : Value} {d : DataW H} {p : List MemPlace} (hv : Value.okWide Try.prog W r b0 70 v) (h : DataW.Trod enc Try.prog W 0 (fun _ => true) true 70 v d p) :
    ∃ A B : Int, v = .agg #[.int .i64 A, .int .i64 B] ∧ I64 A ∧ I64 B := by
  obtain ⟨v0, v1, y0, y1, n, rfl, _, _, g0, g1⟩ := open_agg2 Try.underlying70 (by kernel_rfl) (by kernel_rfl) hv h
  obtain ⟨k0, e0, _, u0⟩ := DataW.trod_int Try.underlying3 g0
  obtain ⟨k1, e1, _, u1⟩ := DataW.trod_int Try.underlying3 g1
  simp only [List.cons.injEq, and_true] at e0 e1
  subst e0 e1
  exact ⟨k0, k1, rfl, i64_of u0, i64_of u1⟩
theorem openBetter {r : Reach} {b0 : Nat} {v : Value} {d : DataW H} {p : List MemPlace} (hv : Value.okWide Try.prog W r b0 56 v) (h : DataW.Trod enc Try.prog W 0 (fun _ => true) true 56 v d p) :
    ∃ A B C : Int, v = .agg #[.int .i64 A, .int .i64 B, .int .i64 C] ∧ I64 A ∧ I64 B ∧ I64 C := by
  obtain ⟨v0, v1, v2, y0, y1, y2, n, rfl, _, _, g0, g1, g2⟩ := open_agg3 Try.underlying56 (by kernel_rfl) (by kernel_rfl) hv h
  obtain ⟨k0, e0, _, u0⟩ := DataW.trod_int Try.underlying3 g0
  obtain ⟨k1, e1, _, u1⟩ := DataW.trod_int Try.underlying3 g1
  obtain ⟨k2, e2, _, u2⟩ := DataW.trod_int Try.underlying3 g2
  simp only [List.cons.injEq, and_true] at e0 e1 e2
  subst e0 e1 e2
  exact ⟨k0, k1, k2, rfl, i64_of u0, i64_of u1, i64_of u2⟩
end
end Go.Proofs.Ytjflpmhlodgadaa
