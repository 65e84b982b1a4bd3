/-
  A range over a function whose yielded values lie in memory of the iterator's own: the contract of such an iterator, and the law for its caller.
  Levers: what a store into a cell does to its block and to the others.
  Own laws: append onto a row of the call's own, out of a slice that may be nil or empty; the cells of deeds and of sights.
-/
import Derived.Test.YtomcjopcfdllgaaVMem
import Derived.RangeFuncNested
import Derived.RangeFuncBound
import Derived.RangeFuncCalls
import Derived.RangeFuncLeaves
import Derived.Shelf.Abstract
import Derived.Shelf.RegionOpen
import Derived.OwnWalkIn
import Derived.TacticsInMore
import Derived.LoopNIn
import Derived.LoopIn
import Derived.Laws.IdiomCopy
import Derived.OwnWalk
import Derived.Lib.SliceRun
import Derived.Maps.AppendAt
import Derived.Deep.AppendLies
import Derived.RegionTactic

namespace Go.Proofs.Ytomcjopcfdllgaa
open Go.RowKit

/-- Whatever lay, but for the blocks own, lies as it lay. -/
structure KeptBut (own : Nat → Prop) (W W' : World) : Prop where
  os : W'.os = W.os
  tape : W'.tape = W.tape
  output : W'.output = W.output
  size : W.heap.size ≤ W'.heap.size
  block : ∀ k, k < W.heap.size → ¬ own k → W'.heap[k]? = W.heap[k]?

theorem KeptBut.refl (own : Nat → Prop) (W : World) : KeptBut own W W := ⟨rfl, rfl, rfl, Nat.le_refl _, fun _ _ _ => rfl⟩
theorem KeptBut.trans {own : Nat → Prop} {A B C : World} (h : KeptBut own A B) (k : KeptBut own B C) : KeptBut own A C :=
  ⟨k.os.trans h.os, k.tape.trans h.tape, k.output.trans h.output, Nat.le_trans h.size k.size, fun i hi ho => (k.block i (Nat.lt_of_lt_of_le hi h.size) ho).trans (h.block i hi ho)⟩
theorem KeptBut.mono {own own' : Nat → Prop} {A B : World} (h : KeptBut own A B) (hs : ∀ k, k < A.heap.size → own k → own' k) : KeptBut own' A B :=
  ⟨h.os, h.tape, h.output, h.size, fun k hk ho => h.block k hk (fun h => ho (hs k hk h))⟩
theorem KeptBut.of_below {own : Nat → Prop} {A B : World} (h : Below A.heap.size A B) : KeptBut own A B := ⟨h.os, h.tape, h.output, h.size, fun k hk _ => h.block k hk⟩
theorem KeptBut.setCell {own : Nat → Prop} (W : World) (a : Addr) (v : Value) (h : own a.block) : KeptBut own W (W.setCell a v) :=
  ⟨rfl, rfl, rfl, by simp [World.setCell], fun k hk ho => Below.heap_setCell _ _ _ _ (fun e => ho (e ▸ h))⟩
theorem KeptBut.putObj {own : Nat → Prop} (W : World) (l : Nat) (o : Obj) (h : own l) : KeptBut own W (W.putObj l o) :=
  ⟨rfl, rfl, rfl, by simp, fun k hk ho => World.putObj_heap_other (fun e => ho (e ▸ h))⟩
theorem KeptBut.grown {own : Nat → Prop} {W W' : World} {row : Option Nat} (h : W.grownBy W' row) (hr : ∀ r, row = some r → own r) : KeptBut own W W' :=
  ⟨h.os, h.tape, h.output, h.size, fun k hk ho => h.block k hk (fun e => ho (hr k e.symm))⟩
theorem KeptBut.below {own : Nat → Prop} {B : Nat} {W W' : World} (h : KeptBut own W W') (hB : B ≤ W.heap.size) (ho : ∀ k, own k → B ≤ k) : Below B W W' :=
  ⟨h.os, h.tape, h.output, h.size, fun k hk => h.block k (by omega) (fun h => by have := ho k h; omega)⟩

/-- The contract of an iterator that hands over values in blocks of its own: the heap's size at the call, and some more. -/
def SeqY {α : Type} (F : Fence) (n : Nat) (P : Program) (g : Nat) (ba lb : Array Value) (cs : List Nat) (sp : Nat) (enc : Nat → α → Value) (At : Nat → α → World → Prop) (xs : List α) (ok : Nat → Prop) (w0 : World) : Prop :=
  ∀ (l : Nat) (own : Nat → Prop) (J Jx : List α → World → Prop) (W : World), Below w0.heap.size w0 W →
    (∀ k, own k → (k < W.heap.size ∨ W.heap.size + sp ≤ k) ∧ ¬ ok k) →
    (∀ s A B, J s A → KeptBut (fun j => ∃ c ∈ cs, j = W.heap.size + c) A B → J s B) → (∀ s A B, Jx s A → KeptBut (fun j => ∃ c ∈ cs, j = W.heap.size + c) A B → Jx s B) →
    (∀ pre x W1, pre ++ [x] <+: xs → J pre W1 → (∀ c ∈ cs, W.heap.size + c < W1.heap.size) → At W.heap.size x W1 →
      YieldAt F (n - 1) P l #[enc W.heap.size x] W1 fun e W' =>
        (e = .returned (.bool true) ∧ J (pre ++ [x]) W' ∧ KeptBut own W1 W') ∨ (e = .returned (.bool false) ∧ Jx (pre ++ [x]) W' ∧ KeptBut own W1 W')) →
    J [] W →
    CallsIn F n P g (ba ++ #[.func (.yield l) #[] #[]] ++ lb) W fun e W' => (∃ v, e = .returned v) ∧ KeptBut own W W' ∧ (J xs W' ∨ ∃ pre, pre <+: xs ∧ Jx pre W')

/-- How the body of a round may be left. -/
def postY {α : Type} (own : Nat → Prop) (I : List α → World → Prop) (Ix : Code → List α → World → Prop) (xs : List α) (W : World) : Exit → Act → World → Prop
  | .normal, _, W' => KeptBut own W W' ∧ I xs W'
  | .ret, _, W' => KeptBut own W W' ∧ Ix .ret xs W'
  | .exit id, _, W' => KeptBut own W W' ∧ Ix (.exit id) xs W'
  | .goto t, _, W' => KeptBut own W W' ∧ Ix (.goto t) xs W'
  | .panic _, _, _ => False
  | .outgrown, _, _ => False

/-- The caller's invariant abides what the loop and the iterator do to blocks of their own. -/
def OwnAt {β : Type} (B : Nat) (cs : List Nat) (I : β → World → Prop) : Prop :=
  ∀ s A A', I s A → KeptBut (fun r => r = B ∨ r = B + 1 ∨ ∃ c ∈ cs, r = B + 2 + c) A A' → I s A'
theorem OwnAt.putObj {β : Type} {B : Nat} {cs : List Nat} {I : β → World → Prop} (h : OwnAt B cs I) {s : β} {W : World} {l : Nat} (o' : Obj) (hs : I s W) (hl : l = B ∨ l = B + 1) : I s (W.putObj l o') :=
  h s W _ hs (KeptBut.putObj W l o' (by rcases hl with h | h; exact .inl h; exact .inr (.inl h)))
theorem OwnAt.alloc {β : Type} {B : Nat} {cs : List Nat} {I : β → World → Prop} (h : OwnAt B cs I) {s : β} {W : World} (o : Obj) (hs : I s W) : I s (W.alloc o) :=
  h s W _ hs (KeptBut.of_below ((Below.refl _ W).alloc (Nat.le_refl _) o))

variable {F : Fence} {n : Nat} {P : Program}

theorem wpIn_rangeFunc_Y {α : Type} {g : Operand} {ps : Array Tmp} {assign body : Code} {Q : Exit → Act → World → Prop} {a : Act} {w : World}
    (hro : F.round = none) (h1 : 1 ≤ n) {gf : Nat} {ba lb : Array Value} (hg : a.eval g = .func (.func gf) ba lb) (hFg : F.fn gf) (eg : ∀ args w, (callFunc gf args).run P w = .ok (.enter gf args) w)
    {cs : List Nat} {sp : Nat} {enc : Nat → α → Value} {At : Nat → α → World → Prop} {xs : List α} {ok : Nat → Prop} {w0 : World} (hseq : SeqY F (n - 1) P gf ba lb cs sp enc At xs ok w0)
    (hb0 : Below w0.heap.size w0 w) (hps : ps.size = 1)
    (own : Nat → Prop) (hown : ∀ k, own k → (k < w.heap.size ∨ w.heap.size + 2 + sp ≤ k) ∧ ¬ ok k) (hok : ∀ k, ok k → k < w.heap.size)
    (hAt : ∀ x A B, At (w.heap.size + 2) x A → KeptBut (fun j => j = w.heap.size + 1) A B → At (w.heap.size + 2) x B)
    (I : List α → World → Prop) (Ix : Code → List α → World → Prop) (hI : OwnAt w.heap.size cs I) (hIx : ∀ d, OwnAt w.heap.size cs (Ix d)) (h0 : I [] w) (a₁ : World → α → Act) (g₁ : World → α → World) (hg₁ : ∀ W x, Below W.heap.size W (g₁ W x))
    (hassign : ∀ (l : Nat) (x : α) (W : World) (K : Act → World → Prop), K (a₁ W x) (g₁ W x) →
      assign.wpIn (F.inRound l) (n - 1 - 1) P (Exit.then K (fun _ _ _ => False)) { tmps := (ps.zip #[enc (w.heap.size + 2) x]).foldl (fun t (p, v) => t.setIfInBounds p v) a.tmps, defers := [] } W)
    (hbody : ∀ (l : Nat) (pre : List α) (x : α) (V W : World), pre ++ [x] <+: xs → I pre W → KeptBut own w W → (∀ c ∈ cs, w.heap.size + 2 + c < W.heap.size) → At (w.heap.size + 2) x W → w.heap.size + 2 ≤ V.heap.size → KeptBut (fun j => j = w.heap.size + 1) (g₁ V x) W →
      body.wpIn (F.inRound l) (n - 1 - 1) P (postY own I Ix (pre ++ [x]) W) (a₁ V x) W)
    (hdone : ∀ (D : Nat) (W : World), D = w.heap.size → KeptBut own w W → I xs W → W.heap[D]? = some (.deferred (some [])) → Q .normal { a with defers := { target := .collected D, args := #[] } :: a.defers } W)
    (hstop : ∀ (D : Nat) (d : Code) (pre : List α) (W : World), D = w.heap.size → KeptBut own w W → pre <+: xs → Ix d pre W → W.heap[D]? = some (.deferred (some [])) → d.wpIn F n P Q { a with defers := { target := .collected D, args := #[] } :: a.defers } W) :
    (Code.rangeFunc g ps assign body).wpIn F n P Q a w := by
  refine wpIn_rangeFunc ?_
  intro fn hfn
  rw [hro]
  obtain ⟨rec, hrec⟩ : ∃ rec : LoopState → Option Code → Loop, rec = fun st pe => { state := st, pending := pe, fn, tmps := a.tmps, params := ps, assign, body, defers := w.heap.size } := ⟨_, rfl⟩
  obtain ⟨W1, hW1⟩ : ∃ W1, (w.alloc (.deferred (some []))).alloc (.loop (rec .ready none)) = W1 := ⟨_, rfl⟩
  have hL1 : W1.heap[w.heap.size + 1]? = some (.loop (rec .ready none)) := by
    rw [← hW1]; have := World.alloc_heap_new (w.alloc (.deferred (some []))) (.loop (rec .ready none)); rwa [World.size_alloc] at this
  have hK1 : W1.heap[w.heap.size]? = some (.deferred (some [])) := by
    rw [← hW1]; exact (Below.heap_alloc _ _ _ (by simp)).trans (World.alloc_heap_new w _)
  have hsz1 : W1.heap.size = w.heap.size + 2 := by rw [← hW1]; simp
  have hI1 : I [] W1 := by rw [← hW1]; exact hI.alloc _ (hI.alloc _ h0)
  have hbw : Below w.heap.size w W1 := by rw [← hW1]; exact ((Below.refl _ w).alloc (Nat.le_refl _) _).alloc (by simp) _
  have hb1 : Below w0.heap.size w0 W1 := hb0.trans (hbw.mono hb0.size)
  refine ⟨w.heap.size + 1, [{ target := .collected w.heap.size, args := #[] }], W1, { target := .fn (.func gf) lb, args := ba ++ #[.func (.yield (w.heap.size + 1)) #[] #[]] }, W1, gf,
    ba ++ #[.func (.yield (w.heap.size + 1)) #[] #[]] ++ lb, W1, ?_, ?_, ?_, ?_, fun _ => h1, ?_⟩
  · rw [← hW1, hrec]; exact run_enterLoop_outer _ _ _ _ _
  · simp only [resolve, hg]
    simp [go_sem]
  · intro f' hf'; simp [Target.leads] at hf'; subst hf'; exact hFg
  · simp [invoke, go_sem, eg]
  · -- the iterator's contract, at the caller's invariant with the book-keeping beside it
    have hkw : ∀ {A B : World} {k : Nat} {o : Obj}, KeptBut (fun j => ∃ c ∈ cs, j = W1.heap.size + c) A B → k < w.heap.size + 2 → A.heap[k]? = some o → B.heap[k]? = some o := fun hg' hk ho =>
      (hg'.block _ (Array.getElem?_eq_some_iff.1 ho).1 (fun ⟨c, _, e⟩ => by omega)).trans ho
    have hkept : ∀ {W : World}, KeptBut (fun k => own k ∨ k = w.heap.size + 1) W1 W → KeptBut own w W := fun h =>
      ⟨h.os.trans hbw.os, h.tape.trans hbw.tape, h.output.trans hbw.output, Nat.le_trans hbw.size h.size, fun k hk ho =>
        (h.block k (by omega) (by rintro (h | h); exact ho h; omega)).trans (hbw.block k hk)⟩
    have hkg : ∀ {A B : World}, KeptBut (fun k => own k ∨ k = w.heap.size + 1) W1 A → KeptBut (fun j => ∃ c ∈ cs, j = W1.heap.size + c) A B → KeptBut (fun k => own k ∨ k = w.heap.size + 1) W1 B := fun h hg' =>
      ⟨hg'.os.trans h.os, hg'.tape.trans h.tape, hg'.output.trans h.output, Nat.le_trans h.size hg'.size, fun k hk ho =>
        (hg'.block k (Nat.lt_of_lt_of_le hk h.size) (fun ⟨c, _, e⟩ => by omega)).trans (h.block k hk ho)⟩
    have hrow : ∀ {A B : World}, KeptBut (fun j => ∃ c ∈ cs, j = W1.heap.size + c) A B → KeptBut (fun r => r = w.heap.size ∨ r = w.heap.size + 1 ∨ ∃ c ∈ cs, r = w.heap.size + 2 + c) A B := fun h =>
      h.mono (fun k _ ⟨c, hc, e⟩ => .inr (.inr ⟨c, hc, by omega⟩))
    refine (hseq (w.heap.size + 1) (fun k => own k ∨ k = w.heap.size + 1)
      (fun pre W => I pre W ∧ W.heap[w.heap.size + 1]? = some (.loop (rec .ready none)) ∧ W.heap[w.heap.size]? = some (.deferred (some [])) ∧ KeptBut (fun k => own k ∨ k = w.heap.size + 1) W1 W)
      (fun pre W => ∃ d, Ix d pre W ∧ W.heap[w.heap.size + 1]? = some (.loop (rec .done (some d))) ∧ W.heap[w.heap.size]? = some (.deferred (some [])) ∧ KeptBut (fun k => own k ∨ k = w.heap.size + 1) W1 W)
      W1 hb1
      (fun k hk => by
        rcases hk with h | h
        · exact ⟨by have := (hown k h).1; omega, (hown k h).2⟩
        · exact ⟨by omega, fun h' => by have := hok k h'; omega⟩)
      (fun s A B hs hg' => ⟨hI s A B hs.1 (hrow hg'), hkw hg' (by omega) hs.2.1, hkw hg' (by omega) hs.2.2.1, hkg hs.2.2.2 hg'⟩)
      (fun s A B hs hg' => by
        obtain ⟨d, hd, hl, hk, hkb⟩ := hs
        exact ⟨d, hIx d s A B hd (hrow hg'), hkw hg' (by omega) hl, hkw hg' (by omega) hk, hkg hkb hg'⟩)
      ?_ ⟨hI1, hL1, hK1, KeptBut.refl _ _⟩).mono ?_
    · -- one round
      rintro pre x W hpre ⟨hi, hl, hk, hkb⟩ hlenW hat
      rw [hsz1] at hat ⊢
      have hlenW : ∀ c ∈ cs, w.heap.size + 2 + c < W.heap.size := fun c hc => by have := hlenW c hc; omega
      have hlt : w.heap.size + 1 < W.heap.size := (Array.getElem?_eq_some_iff.1 hl).1
      have hy := run_yield (P := P) (args := #[enc (w.heap.size + 2) x]) hl (by rw [hrec]; simp [hps])
      rw [hrec] at hy
      have hbg := hg₁ W x
      obtain ⟨W1', hW1'⟩ : ∃ W1', g₁ W x = W1' := ⟨_, rfl⟩
      rw [hW1'] at hbg
      have hl1 : W1'.heap[w.heap.size + 1]? = some (.loop (rec .ready none)) := (hbg.block _ hlt).trans hl
      have hlt1 : w.heap.size + 1 < W1'.heap.size := Nat.lt_of_lt_of_le hlt hbg.size
      refine ⟨fn, _, assign, body, hy, roundIn_of_wpIn hfn (hassign _ x W _ ⟨_, by rw [hW1']; exact run_beginRound hl1 (by rw [hrec]), ?_⟩)⟩
      obtain ⟨W2, hW2⟩ : ∃ W2, W1'.putObj (w.heap.size + 1) (.loop { rec .ready none with state := .busy }) = W2 := ⟨_, rfl⟩
      have hl2 : W2.heap[w.heap.size + 1]? = some (.loop { rec .ready none with state := .busy }) := hW2 ▸ World.putObj_heap_same hlt1
      have hk2 : W2.heap[w.heap.size]? = some (.deferred (some [])) := hW2 ▸ (World.putObj_heap_other (by omega)).trans ((hbg.block _ (by omega)).trans hk)
      have hkp1 : KeptBut (fun k => k = w.heap.size + 1) W1' W2 := hW2 ▸ KeptBut.putObj _ _ _ rfl
      have hkp2 : KeptBut (fun k => own k ∨ k = w.heap.size + 1) W W2 := (KeptBut.of_below hbg).trans (hkp1.mono (fun _ _ h => .inr h))
      have hi2 : I pre W2 := hW2 ▸ hI.putObj _ (hI _ _ _ hi (KeptBut.of_below hbg)) (.inr rfl)
      have hat2 : At (w.heap.size + 2) x W2 := hAt x W W2 hat ((KeptBut.of_below hbg).trans hkp1)
      rw [hW2]
      have hsW : w.heap.size + 2 ≤ W.heap.size := by omega
      refine wpIn_mono (hbody _ pre x W W2 hpre hi2 (hkept (hkb.trans hkp2)) (fun c hc => Nat.lt_of_lt_of_le (hlenW c hc) hkp2.size) hat2 hsW (by rw [hW1']; exact hkp1)) ?_
      have hlt2 : w.heap.size + 1 < W2.heap.size := (Array.getElem?_eq_some_iff.1 hl2).1
      have fin : ∀ (jump : Option Code) (W3 : World), KeptBut own W2 W3 →
          (Instr.endRound (w.heap.size + 1) jump).run P W3 = .ok (.bool jump.isNone) (W3.putObj (w.heap.size + 1) (.loop (rec (if jump.isNone then .ready else .done) jump))) ∧
          (W3.putObj (w.heap.size + 1) (.loop (rec (if jump.isNone then .ready else .done) jump))).heap[w.heap.size + 1]? = some (.loop (rec (if jump.isNone then .ready else .done) jump)) ∧
          (W3.putObj (w.heap.size + 1) (.loop (rec (if jump.isNone then .ready else .done) jump))).heap[w.heap.size]? = some (.deferred (some [])) ∧
          KeptBut (fun k => own k ∨ k = w.heap.size + 1) W (W3.putObj (w.heap.size + 1) (.loop (rec (if jump.isNone then .ready else .done) jump))) := fun jump W3 hk3 => by
        have hl3 := (hk3.block (w.heap.size + 1) hlt2 (fun h => by have := (hown _ h).1; omega)).trans hl2
        have hkk3 := (hk3.block (w.heap.size) (by omega) (fun h => by have := (hown _ h).1; omega)).trans hk2
        have := run_endRound (P := P) jump hl3
        rw [hrec] at this ⊢
        exact ⟨this, World.putObj_heap_same (Array.getElem?_eq_some_iff.1 hl3).1, (World.putObj_heap_other (by omega)).trans hkk3,
          (hkp2.trans (hk3.mono (fun k _ h => .inl h))).trans (KeptBut.putObj _ _ _ (.inr rfl))⟩
      rintro e a3 W3 hp
      cases e with
      | normal =>
        obtain ⟨hk3, hi3⟩ := hp
        obtain ⟨hr, hl4, hk4, hkp4⟩ := fin none W3 hk3
        exact ⟨_, _, hr, .inl ⟨rfl, ⟨hI.putObj _ hi3 (.inr rfl), hl4, hk4, hkb.trans (hkp4.mono (fun k _ h => h))⟩, hkp4⟩⟩
      | ret =>
        obtain ⟨hk3, hi3⟩ := hp
        obtain ⟨hr, hl4, hk4, hkp4⟩ := fin (some .ret) W3 hk3
        exact ⟨_, _, hr, .inr ⟨rfl, ⟨.ret, (hIx _).putObj _ hi3 (.inr rfl), hl4, hk4, hkb.trans hkp4⟩, hkp4⟩⟩
      | exit id =>
        obtain ⟨hk3, hi3⟩ := hp
        obtain ⟨hr, hl4, hk4, hkp4⟩ := fin (some (.exit id)) W3 hk3
        exact ⟨_, _, hr, .inr ⟨rfl, ⟨.exit id, (hIx _).putObj _ hi3 (.inr rfl), hl4, hk4, hkb.trans hkp4⟩, hkp4⟩⟩
      | goto t =>
        obtain ⟨hk3, hi3⟩ := hp
        obtain ⟨hr, hl4, hk4, hkp4⟩ := fin (some (.goto t)) W3 hk3
        exact ⟨_, _, hr, .inr ⟨rfl, ⟨.goto t, (hIx _).putObj _ hi3 (.inr rfl), hl4, hk4, hkb.trans hkp4⟩, hkp4⟩⟩
      | panic ch => exact hp.elim
      | outgrown => exact hp.elim
    · -- behind the iterator
      rintro e W2 ⟨⟨v, rfl⟩, _, (⟨hi, hl, hk, hkb⟩ | ⟨pre, hSp, d, hi, hl, hk, hkb⟩)⟩
      · exact ⟨none, _, by have := run_endLoop (P := P) hl (by rw [hrec]; simp); rw [hrec] at this; exact this,
          hdone _ _ rfl (hkept (hkb.trans (KeptBut.putObj _ _ _ (.inr rfl)))) (hI.putObj _ hi (.inr rfl)) ((World.putObj_heap_other (by omega)).trans hk)⟩
      · exact ⟨some d, _, by have := run_endLoop (P := P) hl (by rw [hrec]; simp); rw [hrec] at this; exact this,
          hstop _ d pre _ rfl (hkept (hkb.trans (KeptBut.putObj _ _ _ (.inr rfl)))) hSp ((hIx d).putObj _ hi (.inr rfl)) ((World.putObj_heap_other (by omega)).trans hk)⟩

end Go.Proofs.Ytomcjopcfdllgaa

namespace Go.Proofs.Ytomcjopcfdllgaa
open Go.RowKit

theorem heap_setCell_same {W : World} {b o : Nat} {v : Value} {arr : Array Value} {t : TypeId} (h : W.heap[b]? = some (.cells arr t)) :
    (W.setCell ⟨b, o, none⟩ v).heap[b]? = some (.cells (arr.setIfInBounds o v) t) := by
  obtain ⟨hlt, hk⟩ := Array.getElem?_eq_some_iff.1 h
  show (W.heap.modify b _)[b]? = _
  rw [Array.getElem?_eq_getElem (by rw [Array.size_modify]; exact hlt), Array.getElem_modify_self, hk]
  rfl
theorem heap_setCell_other {W : World} {b o k : Nat} {v : Value} (h : b ≠ k) : (W.setCell ⟨b, o, none⟩ v).heap[k]? = W.heap[k]? := Below.heap_setCell _ _ _ _ (Ne.symm h)
theorem size_setCell (W : World) (a : Addr) (v : Value) : (W.setCell a v).heap.size = W.heap.size := by simp [World.setCell]
theorem heap_lt {W : World} {b : Nat} {o : Obj} (h : W.heap[b]? = some o) : b < W.heap.size := (Array.getElem?_eq_some_iff.1 h).1
theorem below_setCell {B : Nat} {a W : World} (h : Below B a W) {b o : Nat} {v : Value} (hb : B ≤ b) : Below B a (W.setCell ⟨b, o, none⟩ v) :=
  ⟨h.os, h.tape, h.output, by rw [size_setCell]; exact h.size, fun k hk => (heap_setCell_other (by omega)).trans (h.block k hk)⟩
theorem cell_of {W : World} {b : Nat} {arr : Array Value} {t : TypeId} (h : W.heap[b]? = some (.cells arr t)) (i : Nat) : W.cell? ⟨b, i, none⟩ = arr[i]? := by
  simp [World.cell?, h]
theorem frozen_of {W : World} {b : Nat} {arr : Array Value} {t : TypeId} (h : W.heap[b]? = some (.cells arr t)) (i : Nat) : W.frozen? ⟨b, i, none⟩ = false := by
  simp [World.frozen?, h]

end Go.Proofs.Ytomcjopcfdllgaa

namespace Go.Proofs.Ytomcjopcfdllgaa
open Go.RowKit

theorem own_form {w : World} {base : Nat} {e : TypeId} {size : Nat} {v : Value} {n : Nat} {xs : List Value} (h : w.ownsRow base e size v n xs) : ∃ A cap, v = .slice A n cap ∧ n ≤ cap := by
  rcases h.2 with ⟨rfl, rfl⟩ | ⟨g, cap, cur, rfl, _, _, hc, _⟩
  · exact ⟨none, 0, rfl, Nat.le_refl _⟩
  · exact ⟨_, cap, rfl, hc⟩
/-- Where the cells of a slice's elements are; a nil slice is let in. -/
def CellsFrom (w : World) (A : Option Addr) (m size : Nat) (news : List Value) : Prop :=
  news.length = m * size ∧ (0 < m → ∃ ad, A = some ad ∧ ∀ j u, news[j]? = some u → w.cell? (ad.add j) = some u)
theorem CellsFrom.kept {w w' : World} {A : Option Addr} {m size B : Nat} {news : List Value} (h : CellsFrom w A m size news) (hb : Below B w w') (hB : ∀ ad, A = some ad → ad.block < B) : CellsFrom w' A m size news := by
  refine ⟨h.1, fun hm => ?_⟩
  obtain ⟨ad, he, hc⟩ := h.2 hm
  refine ⟨ad, he, fun j u hu => (hb.cell (p := ad.add j) ?_).trans (hc j u hu)⟩
  have : (ad.add j).block = ad.block := by unfold Addr.add; split <;> rfl
  rw [this]
  exact hB ad he

section
variable {P : Program} {w : World} {base : Nat} {t e : TypeId} {i : TypeInfo} {z : Value} {size bytes : Nat} {v : Value} {n : Nat} {xs : List Value} {A : Option Addr} {m c : Nat} {news : List Value}

theorem run_onto (ty : TypeId) (ht : P.underlying t = some (.slice e)) (hi : P.info? e = some i) (hz : i.zero = some z) (hsize : i.size = size) (hby : i.bytes = bytes) (hzs : z.cells.size = size) (hsz : 0 < size)
    (hown : w.ownsRow base e size v n xs) (hf : CellsFrom w A m size news) (h1 : ∀ u ∈ news, u.oneCell' = true)
    (h63 : n + m ≤ maxLen) (hbytes : (n + m) * bytes ≤ 140737488355328) (hbase : base ≤ w.heap.size) :
    ∃ A' c' w', (Builtin.append_ #[t, t] ty #[v, .slice A m c]).run P w = .ok (.slice A' (n + m) c') w' ∧ w'.ownsRow base e size (.slice A' (n + m) c') (n + m) (xs ++ news) ∧ w.grownBy w' v.ownBlock ∧
      ((Value.slice A' (n + m) c').ownBlock = v.ownBlock ∨ (Value.slice A' (n + m) c').ownBlock = some w.heap.size) := by
  suffices h : ∃ v' w', (Builtin.append_ #[t, t] ty #[v, .slice A m c]).run P w = .ok v' w' ∧ w'.ownsRow base e size v' (n + m) (xs ++ news) ∧ w.grownBy w' v.ownBlock ∧
      (v'.ownBlock = v.ownBlock ∨ v'.ownBlock = some w.heap.size) by
    obtain ⟨v', w', h1, h2, h3⟩ := h
    obtain ⟨A', c', rfl, _⟩ := own_form h2
    exact ⟨A', c', w', h1, h2, h3⟩
  cases A with
  | none =>
    have hm : m = 0 := by
      refine Classical.byContradiction fun h => ?_
      obtain ⟨ad, he, _⟩ := hf.2 (by omega)
      cases he
    subst hm
    obtain rfl : news = [] := by
      have := hf.1
      rw [Nat.zero_mul] at this
      exact List.length_eq_zero_iff.1 this
    refine ⟨v, w, ?_, by simpa using hown, ⟨rfl, rfl, rfl, Nat.le_refl _, fun _ _ _ => rfl⟩, .inl rfl⟩
    rcases hown.2 with ⟨rfl, rfl⟩ | ⟨g, cap, cur, rfl, _, _, hnc, _⟩
    · simp [Builtin.append_, run_underlying ht, sizeOf, typeInfo, hi, Builtin.lenOf, Builtin.firstCells]
    · simp [Builtin.append_, run_underlying ht, sizeOf, typeInfo, hi, Builtin.lenOf, Builtin.firstCells, hnc, storeCells]
  | some ad =>
    have hc : ∀ j u, news[j]? = some u → w.cell? (ad.add j) = some u := fun j u hu => by
      by_cases hm : m = 0
      · subst hm
        have := hf.1
        rw [Nat.zero_mul] at this
        rw [List.length_eq_zero_iff.1 this] at hu
        cases hu
      · obtain ⟨ad', he, h⟩ := hf.2 (by omega)
        cases he
        exact h j u hu
    obtain ⟨v', w', hr, h2, h3, _, h5⟩ := run_append_own_at (P := P) w base t ty e i z size bytes ht hi hz hsize hby hzs hsz v n xs hown ad m c news hf.1 hc h1 h63 hbytes hbase
    exact ⟨v', w', hr, h2, h3, h5⟩

variable {o : Oper} {a : Act} {K : Act → World → Prop} {Q : Exit → Act → World → Prop} {ops : Array Oper} {rest : List Oper}

theorem wp_onto (s x : Operand) (ho : o.op = .call { callee := .builtin .append, args := #[s, x], argTypes := #[t, t] })
    (ht : P.underlying t = some (.slice e)) (hi : P.info? e = some i) (hz : i.zero = some z) (hsize : i.size = size) (hby : i.bytes = bytes) (hzs : z.cells.size = size) (hsz : 0 < size)
    (hs : a.eval s = v) (hown : w.ownsRow base e size v n xs) (hx : a.eval x = .slice A m c) (hf : CellsFrom w A m size news) (h1 : ∀ u ∈ news, u.oneCell' = true)
    (h63 : n + m ≤ maxLen) (hbytes : (n + m) * bytes ≤ 140737488355328) (hbase : base ≤ w.heap.size)
    (h : ∀ A' c' w', w'.ownsRow base e size (.slice A' (n + m) c') (n + m) (xs ++ news) → w.grownBy w' v.ownBlock → ((Value.slice A' (n + m) c').ownBlock = v.ownBlock ∨ (Value.slice A' (n + m) c').ownBlock = some w.heap.size) → K (a.put o.dst (.slice A' (n + m) c')) w') : o.wp P a w K Q := by
  obtain ⟨A', c', w', hr, h2, h3, h4⟩ := run_onto (P := P) (c := c) o.type ht hi hz hsize hby hzs hsz hown hf h1 h63 hbytes hbase
  unfold Oper.wp execOp
  simp only [ho, resolve, invoke, builtin, Sem.run_bind, Sem.run_pure, Result.andThen_ok, List.map_toArray, List.map_cons, List.map_nil, hs, hx, hr]
  exact h A' c' w' h2 h3 h4

theorem wpList_onto (hgd : o.guard = none) (s x : Operand) (ho : o.op = .call { callee := .builtin .append, args := #[s, x], argTypes := #[t, t] })
    (ht : P.underlying t = some (.slice e)) (hi : P.info? e = some i) (hz : i.zero = some z) (hsize : i.size = size) (hby : i.bytes = bytes) (hzs : z.cells.size = size) (hsz : 0 < size)
    (hs : a.eval s = v) (hown : w.ownsRow base e size v n xs) (hx : a.eval x = .slice A m c) (hf : CellsFrom w A m size news) (h1 : ∀ u ∈ news, u.oneCell' = true)
    (h63 : n + m ≤ maxLen) (hbytes : (n + m) * bytes ≤ 140737488355328) (hbase : base ≤ w.heap.size)
    (h : ∀ A' c' w', w'.ownsRow base e size (.slice A' (n + m) c') (n + m) (xs ++ news) → w.grownBy w' v.ownBlock → ((Value.slice A' (n + m) c').ownBlock = v.ownBlock ∨ (Value.slice A' (n + m) c').ownBlock = some w.heap.size) → wpList P ops Q rest (a.put o.dst (.slice A' (n + m) c')) w') : wpList P ops Q (o :: rest) a w :=
  wpList_plain hgd fun _ hK => wp_onto s x ho ht hi hz hsize hby hzs hsz hs hown hx hf h1 h63 hbytes hbase fun A' c' w' h2 h3 h4 => hK _ _ (h A' c' w' h2 h3 h4)

theorem step_onto {E : Prop} (hgd : o.guard = none) (s x : Operand) (ho : o.op = .call { callee := .builtin .append, args := #[s, x], argTypes := #[t, t] })
    (ht : P.underlying t = some (.slice e)) (hi : P.info? e = some i) (hz : i.zero = some z) (hsize : i.size = size) (hby : i.bytes = bytes) (hzs : z.cells.size = size) (hsz : 0 < size)
    (hs : a.eval s = v) (hown : w.ownsRow base e size v n xs) (hx : a.eval x = .slice A m c) (hf : CellsFrom w A m size news) (h1 : ∀ u ∈ news, u.oneCell' = true)
    (h63 : n + m ≤ maxLen) (hbytes : (n + m) * bytes ≤ 140737488355328) (hbase : base ≤ w.heap.size)
    (h : ∀ A' c' w', w'.ownsRow base e size (.slice A' (n + m) c') (n + m) (xs ++ news) → w.grownBy w' v.ownBlock → ((Value.slice A' (n + m) c').ownBlock = v.ownBlock ∨ (Value.slice A' (n + m) c').ownBlock = some w.heap.size) → K (a.put o.dst (.slice A' (n + m) c')) w') :
    if Region.wanted o (yielded ops a.tmps) = true then Oper.wp P o a w K Q else E := by
  rw [if_pos (by simp [Region.wanted, hgd])]
  exact wp_onto s x ho ht hi hz hsize hby hzs hsz hs hown hx hf h1 h63 hbytes hbase h
end

theorem add_plain0 (b off j : Nat) : (⟨b, off, none⟩ : Addr).add j = ⟨b, off + j, none⟩ := by rw [Addr.add_lit]
end Go.Proofs.Ytomcjopcfdllgaa
