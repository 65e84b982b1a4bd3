/-
  Links: the law for a caller that ranges over the pasts.
-/
import Derived.Test.YtgjikoebneiamaaLRight
namespace Go.Proofs.Ytgjikoebneiamaa
open Go.RowKit Go.Shelf

attribute [local go_sem] Oper.semAt_some

theorem cell1_of {w : World} {b : Nat} {v : Value} {t : TypeId} (e : w.heap[b]? = some (.cells #[v] t)) : w.cell? ⟨b, 0, none⟩ = some v ∧ w.frozen? ⟨b, 0, none⟩ = false := by
  refine ⟨?_, ?_⟩ <;> simp [World.cell?, World.frozen?, e]
theorem putObj_below {B : Nat} (W : World) {D : Nat} (o : Obj) (h : B ≤ D) : Below B W (W.putObj D o) :=
  ⟨rfl, rfl, rfl, by simp, fun k hk => World.putObj_heap_other (by omega)⟩
theorem kept_put {own : Nat → Prop} {w W : World} (h : KeptBut own w W) {D : Nat} (o : Obj) (hD : w.heap.size ≤ D) : KeptBut own w (W.putObj D o) :=
  ⟨h.os, h.tape, h.output, by simpa using h.size, fun k hk ho => (World.putObj_heap_other (by omega)).trans (h.block k hk ho)⟩
theorem filter_snoc_yes {α : Type} {p : α → Bool} {pre : List α} {x : α} (h : p x = true) : (pre ++ [x]).filter p = pre.filter p ++ [x] := by simp [h]
theorem filter_snoc_no {α : Type} {p : α → Bool} {pre : List α} {x : α} (h : p x = false) : (pre ++ [x]).filter p = pre.filter p := by simp [h]
theorem filter_prefix {α : Type} (p : α → Bool) {a b : List α} (h : a <+: b) : a.filter p <+: b.filter p := by
  obtain ⟨c, rfl⟩ := h
  rw [List.filter_append]; exact List.prefix_append _ _


/-- The law for a caller that ranges over the pasts: own are the blocks that the body writes; the book lies in blocks that are ok. -/
theorem wpIn_pastsK (F : Fence) (hF : Hid (F = Fence.wide)) (hd : F.depth = none) (hro : F.round = none) (hfn : ∀ f, F.fn f) {n : Nat} (h1 : 1 ≤ n) {g : Operand} {ps : Array Tmp} {assign body : Code} {Q : Exit → Act → World → Prop} {a : Act} {w : World}
    (bv : Value) (hg : a.eval g = .func (.func 72) #[bv] #[]) (C : Chain) (hV : Valid C) (B : Nat) (hx : BookAt B w bv C) (hB : B ≤ w.heap.size) (ok : Nat → Prop) (hok : ∀ k, ok k → k < B) (hst : ∀ A A' : World, B ≤ A.heap.size → BookAt B A bv C → KeptBut (fun k => ¬ ok k) A A' → BookAt B A' bv C) (hps : ps.size = 1)
    (own : Nat → Prop) (hown : ∀ k, own k → ¬ ok k ∧ (k < w.heap.size ∨ w.heap.size + 2 + (C.deeds.length + 3) ≤ k))
    (I : List (List Int) → World → Prop) (Ix : Code → List (List Int) → World → Prop) (hI : OwnAt w.heap.size [C.deeds.length + 1, C.deeds.length + 2] I) (hIx : ∀ d, OwnAt w.heap.size [C.deeds.length + 1, C.deeds.length + 2] (Ix d)) (h0 : I [] w)
    (a₁ : Array Value → World → List Int → Act) (g₁ : World → List Int → World) (hg₁ : ∀ W x, Below W.heap.size W (g₁ W x))
    (hassign : ∀ (l : Nat) (x : List Int) (W : World) (K : Act → World → Prop), K (a₁ a.tmps W x) (g₁ W x) →
      assign.wpIn (F.inRound l) (n - 1 - 1) Try.prog (Exit.then K (fun _ _ _ => False)) { tmps := (ps.zip #[pastV C.deeds.length (w.heap.size + 2 + C.deeds.length + 1)]).foldl (fun t (p, v) => t.setIfInBounds p v) a.tmps, defers := [] } W)
    (hbody : ∀ (l : Nat) (pre : List (List Int)) (x : List Int) (V W : World), pre ++ [x] <+: pastsL C.deeds → I pre W → KeptBut own w W → PastTo C.deeds.length (w.heap.size + 2 + C.deeds.length + 1) (w.heap.size + 2 + C.deeds.length + 2) (story C.deeds x) C.deeds.length W →
      w.heap.size + 2 ≤ V.heap.size → KeptBut (fun j => j = w.heap.size + 1) (g₁ V x) W →
      body.wpIn (F.inRound l) (n - 1 - 1) Try.prog (postY own I Ix (pre ++ [x]) W) (a₁ a.tmps V x) W)
    (hdone : ∀ (D : Nat) (W : World), D = w.heap.size → KeptBut own w W → I (pastsL C.deeds) W → W.heap[D]? = some (.deferred (some [])) → Q .normal { a with defers := { target := .collected D, args := #[] } :: a.defers } W)
    (hstop : ∀ (D : Nat) (d : Code) (pre : List (List Int)) (W : World), D = w.heap.size → KeptBut own w W → pre <+: pastsL C.deeds → Ix d pre W → W.heap[D]? = some (.deferred (some [])) → d.wpIn F n Try.prog Q { a with defers := { target := .collected D, args := #[] } :: a.defers } W) :
    (Code.rangeFunc g ps assign body).wpIn F n Try.prog Q a w :=
  wpIn_rangeFunc_Y hro (by omega) hg (hfn _) (enters_of Try.func72 (by kernel_rfl) rfl) (pasts_seq F hF hd hro hfn (n - 1) bv C hV B w hx hB ok hok hst) (Below.refl _ _) hps
    own (fun k hk => ⟨(hown k hk).2, (hown k hk).1⟩) (fun k hk => by have := hok k hk; omega)
    (fun x A B hA hg => hA.kept hg (by omega) (by omega)) I Ix hI hIx h0 (a₁ a.tmps) g₁ hg₁ hassign (fun l pre x V W h1 h2 h3 _ h5 h6 h7 => hbody l pre x V W h1 h2 h3 h5 h6 h7) hdone hstop


/-- The law for a caller that ranges over the pasts: own are the blocks that the body writes. -/
theorem wpIn_pasts (F : Fence) (hF : Hid (F = Fence.wide)) (hd : F.depth = none) (hro : F.round = none) (hfn : ∀ f, F.fn f) {n : Nat} (h1 : 1 ≤ n) {g : Operand} {ps : Array Tmp} {assign body : Code} {Q : Exit → Act → World → Prop} {a : Act} {w : World}
    (bv : Value) (hg : a.eval g = .func (.func 72) #[bv] #[]) (C : Chain) (hV : Valid C) (B : Nat) (hx : BookAt B w bv C) (hB : B ≤ w.heap.size) (hps : ps.size = 1)
    (own : Nat → Prop) (hown : ∀ k, own k → B ≤ k ∧ (k < w.heap.size ∨ w.heap.size + 2 + (C.deeds.length + 3) ≤ k))
    (I : List (List Int) → World → Prop) (Ix : Code → List (List Int) → World → Prop) (hI : OwnAt w.heap.size [C.deeds.length + 1, C.deeds.length + 2] I) (hIx : ∀ d, OwnAt w.heap.size [C.deeds.length + 1, C.deeds.length + 2] (Ix d)) (h0 : I [] w)
    (a₁ : Array Value → World → List Int → Act) (g₁ : World → List Int → World) (hg₁ : ∀ W x, Below W.heap.size W (g₁ W x))
    (hassign : ∀ (l : Nat) (x : List Int) (W : World) (K : Act → World → Prop), K (a₁ a.tmps W x) (g₁ W x) →
      assign.wpIn (F.inRound l) (n - 1 - 1) Try.prog (Exit.then K (fun _ _ _ => False)) { tmps := (ps.zip #[pastV C.deeds.length (w.heap.size + 2 + C.deeds.length + 1)]).foldl (fun t (p, v) => t.setIfInBounds p v) a.tmps, defers := [] } W)
    (hbody : ∀ (l : Nat) (pre : List (List Int)) (x : List Int) (V W : World), pre ++ [x] <+: pastsL C.deeds → I pre W → KeptBut own w W → PastTo C.deeds.length (w.heap.size + 2 + C.deeds.length + 1) (w.heap.size + 2 + C.deeds.length + 2) (story C.deeds x) C.deeds.length W →
      w.heap.size + 2 ≤ V.heap.size → KeptBut (fun j => j = w.heap.size + 1) (g₁ V x) W →
      body.wpIn (F.inRound l) (n - 1 - 1) Try.prog (postY own I Ix (pre ++ [x]) W) (a₁ a.tmps V x) W)
    (hdone : ∀ (D : Nat) (W : World), D = w.heap.size → KeptBut own w W → I (pastsL C.deeds) W → W.heap[D]? = some (.deferred (some [])) → Q .normal { a with defers := { target := .collected D, args := #[] } :: a.defers } W)
    (hstop : ∀ (D : Nat) (d : Code) (pre : List (List Int)) (W : World), D = w.heap.size → KeptBut own w W → pre <+: pastsL C.deeds → Ix d pre W → W.heap[D]? = some (.deferred (some [])) → d.wpIn F n Try.prog Q { a with defers := { target := .collected D, args := #[] } :: a.defers } W) :
    (Code.rangeFunc g ps assign body).wpIn F n Try.prog Q a w :=
  wpIn_pastsK F hF hd hro hfn h1 bv hg C hV B hx hB (fun k => k < B) (fun _ h => h) (fun A A' hA h hk => h.below (hk.below hA (fun k h => by omega))) hps own (fun k hk => ⟨by have := (hown k hk).1; omega, (hown k hk).2⟩) I Ix hI hIx h0 a₁ g₁ hg₁ hassign hbody hdone hstop

end Go.Proofs.Ytgjikoebneiamaa
