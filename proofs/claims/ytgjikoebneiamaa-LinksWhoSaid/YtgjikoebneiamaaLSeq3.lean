/-
  Links: the law for a caller that ranges over the truths.
-/
import Derived.Test.YtgjikoebneiamaaLSeq2
import Derived.Test.YtgjikoebneiamaaLFew

namespace Go.Proofs.Ytgjikoebneiamaa
open Go.RowKit Go.Shelf

attribute [local go_sem] Oper.semAt_some

/-- Own are the blocks that the body writes. -/
theorem wpIn_truths (F : Fence) (hF : Hid (F = Fence.wide)) (hd : F.depth = none) (hro : F.round = none) (hfn : ∀ f, F.fn f) {n : Nat} (h1 : 6 ≤ n) {g : Operand} {ps : Array Tmp} {assign body : Code} {Q : Exit → Act → World → Prop} {a : Act} {w : World}
    (dv sv mv : Value) (C : Chain) (hg : a.eval g = .func (.func 75) #[.agg #[dv, sv, .int .i64 C.wrong, mv]] #[]) (hV : Valid C) (B : Nat) (hx : BookAt B w (.agg #[dv, sv, .int .i64 C.wrong, mv]) C) (hB : B ≤ w.heap.size) (hps : ps.size = 1)
    (own : Nat → Prop) (hown : ∀ k, own k → B ≤ k ∧ (k < w.heap.size ∨ w.heap.size + 2 + (C.deeds.length + 7) ≤ k))
    (I : List (List Int) → World → Prop) (Ix : Code → List (List Int) → World → Prop) (hI : OwnAt w.heap.size [2, 3, C.deeds.length + 5, C.deeds.length + 6] I) (hIx : ∀ d, OwnAt w.heap.size [2, 3, C.deeds.length + 5, C.deeds.length + 6] (Ix d)) (h0 : I [] w)
    (a₁ : Array Value → World → List Int → Act) (g₁ : World → List Int → World) (hg₁ : ∀ W x, Below W.heap.size W (g₁ W x))
    (hassign : ∀ (l : Nat) (x : List Int) (W : World) (K : Act → World → Prop), K (a₁ a.tmps W x) (g₁ W x) →
      assign.wpIn (F.inRound l) (n - 1 - 1) Try.prog (Exit.then K (fun _ _ _ => False)) { tmps := (ps.zip #[pastV C.deeds.length (w.heap.size + 2 + C.deeds.length + 5)]).foldl (fun t (p, v) => t.setIfInBounds p v) a.tmps, defers := [] } W)
    (hbody : ∀ (l : Nat) (pre : List (List Int)) (x : List Int) (V W : World), pre ++ [x] <+: truthsP C → I pre W → KeptBut own w W → PastTo C.deeds.length (w.heap.size + 2 + C.deeds.length + 5) (w.heap.size + 2 + C.deeds.length + 6) (story C.deeds x) C.deeds.length W →
      w.heap.size + 2 ≤ V.heap.size → KeptBut (fun j => j = w.heap.size + 1) (g₁ V x) W →
      body.wpIn (F.inRound l) (n - 1 - 1) Try.prog (postY own I Ix (pre ++ [x]) W) (a₁ a.tmps V x) W)
    (hdone : ∀ (D : Nat) (W : World), D = w.heap.size → KeptBut own w W → I (truthsP C) W → W.heap[D]? = some (.deferred (some [])) → Q .normal { a with defers := { target := .collected D, args := #[] } :: a.defers } W)
    (hstop : ∀ (D : Nat) (d : Code) (pre : List (List Int)) (W : World), D = w.heap.size → KeptBut own w W → pre <+: truthsP C → Ix d pre W → W.heap[D]? = some (.deferred (some [])) → d.wpIn F n Try.prog Q { a with defers := { target := .collected D, args := #[] } :: a.defers } W) :
    (Code.rangeFunc g ps assign body).wpIn F n Try.prog Q a w :=
  wpIn_rangeFunc_Y hro (by omega) hg (hfn _) (enters_of Try.func75 (by kernel_rfl) rfl) (truths_seq F hF hd hro hfn (n - 1) (by omega) dv sv mv C hV B w hx hB) (Below.refl _ _) hps
    own (fun k hk => ⟨(hown k hk).2, fun h => by have := (hown k hk).1; omega⟩) (fun k hk => by omega)
    (fun x A B hA hg => hA.kept hg (by omega) (by omega)) I Ix hI hIx h0 (a₁ a.tmps) g₁ hg₁ hassign (fun l pre x V W h1 h2 h3 _ h5 h6 h7 => hbody l pre x V W h1 h2 h3 h5 h6 h7) hdone hstop

end Go.Proofs.Ytgjikoebneiamaa
