/-
  Levers: the laws for callers that range over the groups and over the truths.
-/
import Derived.Test.YtomcjopcfdllgaaVTruths

namespace Go.Proofs.Ytomcjopcfdllgaa
open Go.RowKit Go.Shelf Go.Sort

attribute [local go_sem] Oper.semAt_some

/-- The law for a caller that ranges over the truths: own are the blocks that the body writes. -/
theorem wpIn_truths (F : Fence) (hF : Hid (F = Fence.wide)) (hd : F.depth = none) (hro : F.round = none) (hfn : ∀ f, F.fn f) {n : Nat} (h1 : 7 ≤ n) {g : Operand} {ps : Array Tmp} {assign body : Code} {Q : Exit → Act → World → Prop} {a : Act} {w : World}
    (M : Mach) (hV : ValidM M) (lev : Nat) (hl : lev < 3) (pb B : Nat) (hg : a.eval g = .func (.func 60) #[.pointer (some ⟨pb, 0, none⟩)] #[]) (hx : WorkAt B w pb M lev) (hB : B ≤ w.heap.size) (hps : ps.size = 1)
    (own : Nat → Prop) (hown : ∀ k, own k → B ≤ k ∧ k < w.heap.size)
    (I : List Grp → World → Prop) (Ix : Code → List Grp → World → Prop) (hI : ∀ s A A', I s A → KeptBut (fun r => w.heap.size ≤ r) A A' → I s A') (hIx : ∀ d s A A', Ix d s A → KeptBut (fun r => w.heap.size ≤ r) A A' → Ix d s A') (h0 : I [] w)
    (a₁ : Array Value → World → Grp → Act)
    (hassign : ∀ (l : Nat) (x : Grp) (W : World) (K : Act → World → Prop), K (a₁ a.tmps W x) (W.alloc (.cells (grpC M lev x) 88)) →
      assign.wpIn (F.inRound l) (n - 1 - 1) Try.prog (Exit.then K (fun _ _ _ => False)) { tmps := (ps.zip #[grpV M lev x]).foldl (fun t (p, v) => t.setIfInBounds p v) a.tmps, defers := [] } W)
    (hbody : ∀ (l : Nat) (pre : List Grp) (x : Grp) (V W : World), pre ++ [x] <+: grpT M lev → I pre W → KeptBut own w W → w.heap.size + 2 ≤ V.heap.size → V.heap.size < W.heap.size → W.heap[V.heap.size]? = some (.cells (grpC M lev x) 88) → WorkAt B W pb M lev →
      body.wpIn (F.inRound l) (n - 1 - 1) Try.prog (postY own I Ix (pre ++ [x]) W) (a₁ a.tmps V x) W)
    (hdone : ∀ (D : Nat) (W : World), D = w.heap.size → KeptBut own w W → I (grpT M lev) W → W.heap[D]? = some (.deferred (some [])) → Q .normal { a with defers := { target := .collected D, args := #[] } :: a.defers } W)
    (hstop : ∀ (D : Nat) (d : Code) (pre : List Grp) (W : World), D = w.heap.size → KeptBut own w W → pre <+: grpT M lev → Ix d pre W → W.heap[D]? = some (.deferred (some [])) → d.wpIn F n Try.prog Q { a with defers := { target := .collected D, args := #[] } :: a.defers } W) :
    (Code.rangeFunc g ps assign body).wpIn F n Try.prog Q a w := by
  have hrow : ∀ {A A' : World}, KeptBut (fun r => r = w.heap.size ∨ r = w.heap.size + 1 ∨ ∃ c ∈ [2, 3], r = w.heap.size + 2 + c) A A' → KeptBut (fun r => w.heap.size ≤ r) A A' := fun h => h.mono (fun k _ h => by
    rcases h with h | h | ⟨c, _, h⟩ <;> omega)
  refine wpIn_rangeFunc_B hro (by omega) hg (hfn _) (enters_of Try.func60 (by kernel_rfl) rfl) (truths_seq F hF hd hro hfn (n - 1) (by omega) M hV lev hl pb B w hx hB) (Below.refl _ _) hps
    own (fun k hk => ⟨(hown k hk).2, by have := (hown k hk).1; omega⟩) (fun k hk => by omega) (fun _ _ _ _ _ => trivial) I Ix (fun s A A' h hk => hI s A A' h (hrow hk)) (fun d s A A' h hk => hIx d s A A' h (hrow hk)) h0
    (a₁ a.tmps) (fun W x => W.alloc (.cells (grpC M lev x) 88)) (fun W x => (Below.refl _ W).alloc (Nat.le_refl _) _) hassign ?_ hdone hstop
  intro l pre x V W hpre hi hk _ _ hV2 hkl
  have hgb := (hkl.block V.heap.size (by simp) (by omega)).trans (heap_new V (.cells (grpC M lev x) 88))
  exact hbody l pre x V W hpre hi hk hV2 (heap_lt hgb) hgb (hx.below (hk.below hB (fun k h => (hown k h).1)))

/-- The law for a caller that ranges over the groups. -/
theorem wpIn_groups (F : Fence) (hF : Hid (F = Fence.wide)) (hd : F.depth = none) (hro : F.round = none) (hfn : ∀ f, F.fn f) {n : Nat} (h1 : 7 ≤ n) {g : Operand} {ps : Array Tmp} {assign body : Code} {Q : Exit → Act → World → Prop} {a : Act} {w : World}
    (M : Mach) (hV : ValidM M) (lev : Nat) (hl : lev < 3) (pb B : Nat) (hg : a.eval g = .func (.func 68) #[.pointer (some ⟨pb, 0, none⟩)] #[]) (hx : WorkAt B w pb M lev) (hB : B ≤ w.heap.size) (hps : ps.size = 1)
    (own : Nat → Prop) (hown : ∀ k, own k → B ≤ k ∧ k < w.heap.size)
    (I : List Grp → World → Prop) (Ix : Code → List Grp → World → Prop) (hI : ∀ s A A', I s A → KeptBut (fun r => w.heap.size ≤ r) A A' → I s A') (hIx : ∀ d s A A', Ix d s A → KeptBut (fun r => w.heap.size ≤ r) A A' → Ix d s A') (h0 : I [] w)
    (a₁ : Array Value → World → Grp → Act)
    (hassign : ∀ (l : Nat) (x : Grp) (W : World) (K : Act → World → Prop), K (a₁ a.tmps W x) (W.alloc (.cells (grpC M lev x) 88)) →
      assign.wpIn (F.inRound l) (n - 1 - 1) Try.prog (Exit.then K (fun _ _ _ => False)) { tmps := (ps.zip #[grpV M lev x]).foldl (fun t (p, v) => t.setIfInBounds p v) a.tmps, defers := [] } W)
    (hbody : ∀ (l : Nat) (pre : List Grp) (x : Grp) (V W : World), pre ++ [x] <+: grpL M lev → I pre W → KeptBut own w W → w.heap.size + 2 ≤ V.heap.size → V.heap.size < W.heap.size → W.heap[V.heap.size]? = some (.cells (grpC M lev x) 88) → WorkAt B W pb M lev →
      body.wpIn (F.inRound l) (n - 1 - 1) Try.prog (postY own I Ix (pre ++ [x]) W) (a₁ a.tmps V x) W)
    (hdone : ∀ (D : Nat) (W : World), D = w.heap.size → KeptBut own w W → I (grpL M lev) W → W.heap[D]? = some (.deferred (some [])) → Q .normal { a with defers := { target := .collected D, args := #[] } :: a.defers } W)
    (hstop : ∀ (D : Nat) (d : Code) (pre : List Grp) (W : World), D = w.heap.size → KeptBut own w W → pre <+: grpL M lev → Ix d pre W → W.heap[D]? = some (.deferred (some [])) → d.wpIn F n Try.prog Q { a with defers := { target := .collected D, args := #[] } :: a.defers } W) :
    (Code.rangeFunc g ps assign body).wpIn F n Try.prog Q a w := by
  have hrow : ∀ {A A' : World}, KeptBut (fun r => r = w.heap.size ∨ r = w.heap.size + 1 ∨ ∃ c ∈ ([] : List Nat), r = w.heap.size + 2 + c) A A' → KeptBut (fun r => w.heap.size ≤ r) A A' := fun h => h.mono (fun k _ h => by
    rcases h with h | h | ⟨c, _, h⟩ <;> omega)
  refine wpIn_rangeFunc_B hro (by omega) hg (hfn _) (enters_of Try.func68 (by kernel_rfl) rfl) (groups_seq F hF hd hro hfn (n - 1) M hV lev hl pb B w hx hB) (Below.refl _ _) hps
    own (fun k hk => ⟨(hown k hk).2, by have := (hown k hk).1; omega⟩) (fun k hk => by omega) (fun _ _ _ _ _ => trivial) I Ix (fun s A A' h hk => hI s A A' h (hrow hk)) (fun d s A A' h hk => hIx d s A A' h (hrow hk)) h0
    (a₁ a.tmps) (fun W x => W.alloc (.cells (grpC M lev x) 88)) (fun W x => (Below.refl _ W).alloc (Nat.le_refl _) _) hassign ?_ hdone hstop
  intro l pre x V W hpre hi hk _ _ hV2 hkl
  have hgb := (hkl.block V.heap.size (by simp) (by omega)).trans (heap_new V (.cells (grpC M lev x) 88))
  exact hbody l pre x V W hpre hi hk hV2 (heap_lt hgb) hgb (hx.below (hk.below hB (fun k h => (hown k h).1)))
end Go.Proofs.Ytomcjopcfdllgaa
